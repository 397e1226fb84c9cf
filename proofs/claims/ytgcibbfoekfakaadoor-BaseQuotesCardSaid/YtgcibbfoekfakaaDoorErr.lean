/- What stands before an error, and what stands behind it. -/
import Derived.Test.YtgcibbfoekfakaaDoorJoin3
namespace Go.Proofs.YtgcibbfoekfakaaDoor

theorem sk_idem : ∀ (b : Bool) (l : List UInt8), sk false (l.drop (sk b l)) = 0
  | b, [] => by cases b <;> simp [sk]
  | true, c :: l => by
    rw [sk, List.drop_succ_cons]; exact sk_idem _ l
  | false, c :: l => by
    rw [sk]
    by_cases h1 : isBl c = true
    · rw [if_pos h1, List.drop_succ_cons]; exact sk_idem false l
    · rw [if_neg h1]
      by_cases h2 : c = 35
      · rw [if_pos h2, List.drop_succ_cons]; exact sk_idem true l
      · rw [if_neg h2, List.drop_zero, sk, if_neg h1, if_neg h2]
theorem sk_take : ∀ (b : Bool) (l : List UInt8) (m : Nat), sk b (l.take m) = min (sk b l) m
  | b, [], m => by cases b <;> simp [sk]
  | b, c :: l, 0 => by cases b <;> simp [sk]
  | true, c :: l, m + 1 => by
    rw [List.take_succ_cons, sk, sk, sk_take _ l m]; omega
  | false, c :: l, m + 1 => by
    rw [List.take_succ_cons, sk, sk, sk_take false l m, sk_take true l m]
    split
    · omega
    · split <;> omega
theorem span_take (p : UInt8 → Bool) : ∀ (l : List UInt8) (m : Nat), spanL p l ≤ m → spanL p (l.take m) = spanL p l
  | [], m, _ => by simp
  | c :: l, 0, h => by
    have : spanL p (c :: l) = 0 := by omega
    rw [this]; rfl
  | c :: l, m + 1, h => by
    rw [List.take_succ_cons, spanL, spanL]
    rw [spanL] at h
    split
    · rename_i hc
      rw [if_pos hc] at h
      rw [span_take p l m (by omega)]
    · rfl
theorem unq_take : ∀ (b : Bool) (l : List UInt8) (x : List UInt8 × Nat) (m : Nat), unqG b l = some x → x.2 ≤ m → unqG b (l.take m) = some x
  | b, [], x, m, h, _ => by cases b <;> simp [unqG] at h
  | b, c :: l, x, 0, h, hm => by have := (unqG_le b (c :: l) x h).1; omega
  | true, c :: l, x, m + 1, h, hm => by
    rw [List.take_succ_cons, unqG]
    rw [unqG] at h
    split at h
    · rename_i hc
      rw [if_pos hc]
      obtain ⟨y, hy, rfl⟩ := Option.map_eq_some_iff.1 h
      rw [unq_take false l y m hy (by simp only at hm; omega)]; rfl
    · cases h
  | false, c :: l, x, m + 1, h, hm => by
    rw [List.take_succ_cons, unqG]
    rw [unqG] at h
    by_cases h1 : c = 34
    · rw [if_pos h1] at h ⊢; exact h
    · rw [if_neg h1] at h ⊢
      by_cases h2 : c = 92
      · rw [if_pos h2] at h ⊢
        obtain ⟨y, hy, rfl⟩ := Option.map_eq_some_iff.1 h
        rw [unq_take true l y m hy (by simp only at hm; omega)]; rfl
      · rw [if_neg h2] at h ⊢
        obtain ⟨y, hy, rfl⟩ := Option.map_eq_some_iff.1 h
        rw [unq_take false l y m hy (by simp only at hm; omega)]; rfl
theorem pre_take (s l : List UInt8) (m : Nat) : List.isPrefixOf s (l.take m) = (decide (s.length ≤ m) && List.isPrefixOf s l) := by
  rw [Bool.eq_iff_iff]
  simp only [List.isPrefixOf_iff_prefix, Bool.and_eq_true, decide_eq_true_eq]
  constructor
  · intro h
    refine ⟨?_, h.trans (List.take_prefix m l)⟩
    have := h.length_le
    rw [List.length_take] at this
    omega
  · rintro ⟨h1, h2⟩
    have := List.prefix_take_iff.2 ⟨h2, h1⟩
    exact this
theorem sign_take (l s : List UInt8) (m : Nat) (h : signF l = some s) (hm : s.length ≤ m) : signF (l.take m) = some s := by
  unfold signF at h ⊢
  have : ∀ L : List (List UInt8), (L.find? fun s => Lib.hasPrefix l s) = some s → (L.find? fun s => Lib.hasPrefix (l.take m) s) = some s := by
    intro L
    induction L with
    | nil => intro h; cases h
    | cons a L ih =>
      intro h
      rw [List.find?_cons] at h ⊢
      unfold Lib.hasPrefix at h ih ⊢
      rw [pre_take]
      cases ha : List.isPrefixOf a l with
      | true =>
        rw [ha] at h
        simp only [Option.some.injEq] at h
        subst h
        rw [decide_eq_true hm]; rfl
      | false =>
        rw [ha] at h
        rw [Bool.and_false]
        exact ih h
  exact this signL h
theorem take_take_le {α : Type} (l : List α) {a b : Nat} (h : a ≤ b) : (l.take b).take a = l.take a := by
  rw [List.take_take]; congr 1; omega
/-- A good token needs no more than its own bytes. -/
theorem tok_take (c : UInt8) (l : List UInt8) (m : Nat) (h : (tokF (c :: l)).err = 0) (hm : (tokF (c :: l)).size ≤ m) : tokF ((c :: l).take m) = tokF (c :: l) := by
  have hs := (tok_size c l h).1
  obtain ⟨m, rfl⟩ : ∃ k, m = k + 1 := ⟨m - 1, by omega⟩
  rw [List.take_succ_cons]
  have e : c :: l.take m = (c :: l).take (m + 1) := rfl
  rw [tokF] at h hm ⊢
  rw [tokF]
  by_cases h1 : isLet c = true
  · rw [if_pos h1] at h hm ⊢
    rw [if_pos h1]
    simp only at h hm ⊢
    by_cases hn : isName ((c :: l).take (spanL isNm (c :: l))) = true
    · rw [if_pos hn] at h hm
      simp only [List.length_take] at hm
      have hle := spanL_le isNm (c :: l)
      have hsp : spanL isNm ((c :: l).take (m + 1)) = spanL isNm (c :: l) := span_take _ _ _ (by omega)
      rw [e, hsp, take_take_le _ (by omega)]
    · rw [if_neg hn] at h; simp [bad] at h
  · rw [if_neg h1] at h hm ⊢
    rw [if_neg h1]
    by_cases h2 : isDig c = true
    · rw [if_pos h2] at h hm ⊢
      rw [if_pos h2]
      simp only at h hm ⊢
      cases hn : numL ((c :: l).take (spanL isDig (c :: l))) with
      | some n =>
        rw [hn] at h hm
        simp only [List.length_take] at hm
        have hle := spanL_le isDig (c :: l)
        have hsp : spanL isDig ((c :: l).take (m + 1)) = spanL isDig (c :: l) := span_take _ _ _ (by omega)
        rw [e, hsp, take_take_le _ (by omega), hn]
      | none => rw [hn] at h; simp [bad] at h
    · rw [if_neg h2] at h hm ⊢
      rw [if_neg h2]
      by_cases h3 : c = 34
      · rw [if_pos h3] at h hm ⊢
        rw [if_pos h3]
        cases hu : unqF l with
        | some x =>
          obtain ⟨v, k⟩ := x
          rw [hu] at h hm
          simp only at h hm
          by_cases hv : isVal v = true
          · rw [if_pos hv] at hm
            simp only at hm
            have hk := (unqG_le false l (v, k) hu).2
            have : unqF (l.take m) = some (v, k) := unq_take false l (v, k) m hu (by simp only; omega)
            rw [this]
          · rw [if_neg hv] at h; simp [bad] at h
        | none => rw [hu] at h; simp [bad] at h
      · rw [if_neg h3] at h hm ⊢
        rw [if_neg h3]
        cases hs2 : signF (c :: l) with
        | none => rw [hs2] at h; simp [bad] at h
        | some s =>
          rw [hs2] at hm
          simp only at hm
          rw [e, sign_take _ _ _ hs2 hm]
theorem tok_err (l : List UInt8) : (tokF l).err = 0 ∨ (tokF l).err = 2 ∨ (tokF l).err = 3 ∨ (tokF l).err = 10 := by
  cases l with
  | nil => simp [tokF, bad]
  | cons c l =>
    rw [tokF]
    simp only
    split
    · split <;> simp [bad]
    · split
      · split <;> simp [bad]
      · split
        · split
          · split <;> simp [bad]
          · simp [bad]
        · split <;> simp [bad]
/-- An error: where it stands, what stands before it and behind it. -/
theorem scan_err : ∀ (f k : Nat) (l : List UInt8) (acc : List Tk), (scanF f k l acc).2.2 ≠ 0 → sk false l = 0 →
    k ≤ (scanF f k l acc).2.1 ∧ (scanF f k l acc).2.1 < k + l.length ∧ ((scanF f k l acc).2.2 = 2 ∨ (scanF f k l acc).2.2 = 3 ∨ (scanF f k l acc).2.2 = 10) ∧
    (tokF (l.drop ((scanF f k l acc).2.1 - k))).err = (scanF f k l acc).2.2 ∧ sk false (l.drop ((scanF f k l acc).2.1 - k)) = 0 ∧
    ∀ g, l.length < g → (scanF g k (l.take ((scanF f k l acc).2.1 - k)) acc).2.2 = 0
  | 0, k, l, acc, h, _ => by simp [scanF] at h
  | f + 1, k, l, acc, h, hk => by
    rw [scanF] at h ⊢
    by_cases hl : l = []
    · rw [if_pos hl] at h; simp at h
    · rw [if_neg hl] at h ⊢
      simp only at h ⊢
      by_cases he : (tokF l).err ≠ 0
      · rw [if_pos he] at h ⊢
        simp only [Nat.sub_self, List.drop_zero, List.take_zero]
        have hp : 0 < l.length := List.length_pos_iff.2 hl
        refine ⟨Nat.le_refl _, by omega, ?_, trivial, hk, fun g hg => by rw [scan_end (by omega)]⟩
        rcases tok_err l with h0 | h0
        · exact absurd h0 he
        · exact h0
      · rw [if_neg he] at h ⊢
        obtain ⟨c, r, rfl⟩ := List.exists_cons_of_ne_nil hl
        have he0 : (tokF (c :: r)).err = 0 := by simpa using he
        have ht := tok_size c r he0
        have htk := tok_take c r
        generalize hT : tokF (c :: r) = t at *
        have hs := sk_le false ((c :: r).drop t.size)
        have hi := sk_idem false ((c :: r).drop t.size)
        have hst := sk_take false ((c :: r).drop t.size)
        have hdl : ((c :: r).drop t.size).length = (c :: r).length - t.size := List.length_drop
        generalize hS : sk false ((c :: r).drop t.size) = s at *
        obtain ⟨i1, i2, i3, i4, i5, i6⟩ := scan_err f (k + t.size + s) (((c :: r).drop t.size).drop s) (acc ++ [⟨t.kind, t.text, t.n, (k : Int)⟩]) h hi
        generalize hR : scanF f (k + t.size + s) (((c :: r).drop t.size).drop s) (acc ++ [⟨t.kind, t.text, t.n, (k : Int)⟩]) = R at *
        rw [List.length_drop] at i2 i6
        have e1 : ((c :: r).drop t.size).drop s = (c :: r).drop (t.size + s) := by rw [List.drop_drop]
        rw [e1, List.drop_drop] at i4 i5
        have e2 : t.size + s + (R.2.1 - (k + t.size + s)) = R.2.1 - k := by omega
        rw [e2] at i4 i5
        refine ⟨by omega, by omega, i3, i4, i5, fun g hg => ?_⟩
        obtain ⟨g, rfl⟩ : ∃ g', g = g' + 1 := ⟨g - 1, by omega⟩
        have hne : (c :: r).take (R.2.1 - k) ≠ [] := by
          intro e
          have := congrArg List.length e
          rw [List.length_take] at this
          simp at this
          omega
        have hT2 : tokF ((c :: r).take (R.2.1 - k)) = t := by rw [← hT]; exact (htk _ he0 (by omega)).trans hT.symm
        rw [scanF, if_neg hne]
        simp only
        rw [hT2, if_neg he]
        have e3 : ((c :: r).take (R.2.1 - k)).drop t.size = ((c :: r).drop t.size).take (R.2.1 - k - t.size) := by rw [List.drop_take]
        rw [e3, hst]
        have e4 : min s (R.2.1 - k - t.size) = s := by omega
        rw [e4, List.drop_take]
        have e5 : R.2.1 - k - t.size - s = R.2.1 - (k + t.size + s) := by omega
        rw [e5]
        exact i6 g (by omega)
/-- The same for whole texts. -/
theorem scanL_err (l : List UInt8) (hl : l.length ≤ 4000) (h : (scanL l).2.2 ≠ 0) :
    (scanL l).2.1 < l.length ∧ ((scanL l).2.2 = 2 ∨ (scanL l).2.2 = 3 ∨ (scanL l).2.2 = 10) ∧ (scanL (l.take (scanL l).2.1)).2.2 = 0 ∧ scanL (l.drop (scanL l).2.1) = ([], 0, (scanL l).2.2) := by
  have hsk := sk_le false l
  rw [scanL_short hl] at h ⊢
  have h0 : scanG l = scanF (l.length + 1) (sk false l) (l.drop (sk false l)) [] := rfl
  rw [h0] at h ⊢
  obtain ⟨i1, i2, i3, i4, i5, i6⟩ := scan_err _ _ _ _ h (sk_idem false l)
  generalize hR : scanF (l.length + 1) (sk false l) (l.drop (sk false l)) [] = R at *
  rw [List.length_drop] at i2 i6
  rw [List.drop_drop] at i4 i5
  have e1 : sk false l + (R.2.1 - sk false l) = R.2.1 := by omega
  rw [e1] at i4 i5
  refine ⟨by omega, i3, ?_, ?_⟩
  · have hlt : (l.take R.2.1).length = R.2.1 := by rw [List.length_take]; omega
    rw [scanL_short (by omega)]
    unfold scanG
    rw [sk_take, hlt]
    have e2 : min (sk false l) R.2.1 = sk false l := by omega
    rw [e2, List.drop_take]
    have e3 := scanF_fuel (R.2.1 + 1) (l.length + 1) (sk false l) ((l.drop (sk false l)).take (R.2.1 - sk false l)) [] (by rw [List.length_take]; omega) (by rw [List.length_take, List.length_drop]; omega)
    rw [e3]
    exact i6 _ (by omega)
  · rw [scanL_short (by rw [List.length_drop]; omega)]
    unfold scanG
    rw [i5, List.drop_zero]
    have hne : l.drop R.2.1 ≠ [] := by
      intro e
      have := congrArg List.length e
      rw [List.length_drop] at this
      simp at this
      omega
    rw [scan_bad (by omega) hne (by rw [i4]; exact h), i4]
theorem sk_blanks : ∀ n, sk false (List.replicate n 32) = n
  | 0 => by simp [sk]
  | n + 1 => by
    rw [List.replicate_succ, sk, if_pos (by decide), sk_blanks n]
/-- A line feed and blanks behind a text change nothing. -/
theorem scan_fill (x : List UInt8) (n : Nat) (h : x.length + 1 + n ≤ 4000) :
    (scanL (x ++ 10 :: List.replicate n 32)).2.2 = (scanL x).2.2 ∧ (scanL (x ++ 10 :: List.replicate n 32)).1.length = (scanL x).1.length := by
  have hlen : (x ++ 10 :: List.replicate n 32).length = x.length + n + 1 := by simp; omega
  rw [scanL_short (l := x) (by omega), scanL_short (l := x ++ 10 :: List.replicate n 32) (by omega)]
  have hj := scan_join (List.replicate n 32) ((x ++ 10 :: List.replicate n 32).length + 1) 0 x [] (by simp)
  have hs := sk_le false x
  have hf := scanF_fuel ((x ++ 10 :: List.replicate n 32).length + 1) (x.length + 1) (0 + sk false x) (x.drop (sk false x)) [] (by rw [List.length_drop]; omega) (by rw [List.length_drop]; omega)
  rw [hf] at hj
  simp only [Nat.zero_add] at hj
  have hd : (List.replicate n (32 : UInt8)).drop (sk false (List.replicate n 32)) = [] := by rw [sk_blanks]; simp
  rw [hd, scan_end (by omega)] at hj
  have hg : scanG (x ++ 10 :: List.replicate n 32) = scanF ((x ++ 10 :: List.replicate n 32).length + 1) (sk false (x ++ 10 :: List.replicate n 32)) ((x ++ 10 :: List.replicate n 32).drop (sk false (x ++ 10 :: List.replicate n 32))) [] := rfl
  have hgx : scanG x = scanF (x.length + 1) (sk false x) (x.drop (sk false x)) [] := rfl
  rw [hg, hj, ← hgx]
  by_cases h0 : (scanG x).2.2 = 0
  · rw [if_pos h0]; simp [h0]
  · rw [if_neg h0]; simp
end Go.Proofs.YtgcibbfoekfakaaDoor
