/- Quoted strings, names and numbers are tokens of their own. -/
import Derived.Test.YtgcibbfoekfakaaDoorErr
namespace Go.Proofs.YtgcibbfoekfakaaDoor

theorem unq_esc_self : ∀ (v m : List UInt8), unqG false (escL v ++ 34 :: m) = some (v, (escL v).length + 1)
  | [], m => by simp [escL, unqG]
  | c :: v, m => by
    have ih := unq_esc_self v m
    have e : escL (c :: v) = (if c = 34 ∨ c = 92 then [92, c] else [c]) ++ escL v := by simp [escL]
    rw [e]
    by_cases h : c = 34 ∨ c = 92
    · rw [if_pos h]
      show unqG false (92 :: c :: (escL v ++ 34 :: m)) = _
      rw [unqG, if_neg (by decide), if_pos rfl, unqG, if_pos h, ih]
      simp only [Option.map_some, List.length_append, List.length_cons, List.length_nil]
      congr 2; omega
    · rw [if_neg h]
      show unqG false (c :: (escL v ++ 34 :: m)) = _
      rw [unqG, if_neg (fun e => h (.inl e)), if_neg (fun e => h (.inr e)), ih]
      simp only [Option.map_some, List.length_append, List.length_cons, List.length_nil]
      congr 2; omega
theorem span_stop {p : UInt8 → Bool} : ∀ (t m : List UInt8), (∀ x ∈ t, p x = true) → (∀ c r, m = c :: r → p c = false) → spanL p (t ++ m) = t.length
  | [], [], _, _ => rfl
  | [], c :: r, _, h => by rw [List.nil_append, spanL, h c r rfl]; rfl
  | a :: t, m, h1, h2 => by
    rw [List.cons_append, spanL, if_pos (h1 a (List.mem_cons_self ..)), span_stop t m (fun x hx => h1 x (List.mem_cons_of_mem _ hx)) h2, List.length_cons]
theorem isName_cons {t : List UInt8} (h : isName t = true) : ∃ c r, t = c :: r ∧ isLet c = true ∧ (∀ x ∈ t, isNm x = true) ∧ t.length ≤ 20 := by
  cases t with
  | nil => simp [isName] at h
  | cons c r =>
    unfold isName at h
    simp only [Bool.and_eq_true, decide_eq_true_eq] at h
    exact ⟨c, r, rfl, h.1.2, (spanL_all isNm (c :: r)).1 h.2, h.1.1⟩
theorem let_not_dig {c : UInt8} (h : isDig c = true) : isLet c = false := by
  unfold isDig at h
  unfold isLet
  simp only [decide_eq_true_eq] at h
  exact decide_eq_false (by omega)
theorem dig_not_34 {c : UInt8} (h : isDig c = true) : c ≠ 34 := by
  rintro rfl; revert h; decide
/-- The digits of a number. -/
theorem num_digits {t : List UInt8} {n : Int} (h : numL t = some n) : 0 ≤ n ∧ n ≤ 1099511627776 ∧ (∀ x ∈ t, isDig x = true) ∧ ∃ c r, t = c :: r ∧ isDig c = true := by
  unfold numL at h
  cases hc : canon t with
  | none => rw [hc] at h; cases h
  | some v =>
    rw [hc] at h
    simp only at h
    split at h
    · cases h
    · rename_i hr
      simp only [Option.some.injEq] at h
      subst h
      have hi := canon_some hc
      unfold Lib.itoa at hi
      rw [if_neg (by omega)] at hi
      subst hi
      exact ⟨by omega, by omega, decDigits_isDig _, decDigits_head _⟩
/-- What may stand behind a token in a printed text: nothing, or a blank. -/
def Sep (m : List UInt8) : Prop := ∀ c r, m = c :: r → c = 32
theorem Sep.nil : Sep [] := fun _ _ h => by cases h
theorem Sep.cons (m : List UInt8) : Sep (32 :: m) := fun _ _ h => by injection h with h _; exact h.symm
theorem Sep.stop {m : List UInt8} (h : Sep m) {p : UInt8 → Bool} (hp : p 32 = false) : ∀ c r, m = c :: r → p c = false := fun c r e => by rw [h c r e]; exact hp
theorem tok_name {t m : List UInt8} (h : isName t = true) (hm : Sep m) : tokF (t ++ m) = ⟨0, t, 0, t.length, 0⟩ := by
  obtain ⟨c, r, rfl, hc, hall, _⟩ := isName_cons h
  have hs : spanL isNm ((c :: r) ++ m) = (c :: r).length := span_stop _ _ hall (hm.stop (by decide))
  show tokF (c :: (r ++ m)) = _
  rw [tokF, if_pos hc]
  simp only
  have e : c :: (r ++ m) = (c :: r) ++ m := rfl
  rw [e, hs, List.take_left' rfl, if_pos h]
theorem tok_num {t m : List UInt8} {n : Int} (h : numL t = some n) (hm : Sep m) : tokF (t ++ m) = ⟨1, t, n, t.length, 0⟩ := by
  obtain ⟨_, _, hall, c, r, rfl, hc⟩ := num_digits h
  have hs : spanL isDig ((c :: r) ++ m) = (c :: r).length := span_stop _ _ hall (hm.stop (by decide))
  show tokF (c :: (r ++ m)) = _
  rw [tokF, if_neg (by rw [let_not_dig hc]; decide), if_pos hc]
  simp only
  have e : c :: (r ++ m) = (c :: r) ++ m := rfl
  rw [e, hs, List.take_left' rfl, h]
theorem tok_str {v m : List UInt8} (h : isVal v = true) : tokF (quotL v ++ m) = ⟨2, v, 0, (quotL v).length, 0⟩ := by
  have e : quotL v ++ m = 34 :: (escL v ++ 34 :: m) := by simp [quotL]
  rw [e, tokF, if_neg (by decide), if_neg (by decide), if_pos rfl]
  unfold unqF
  rw [unq_esc_self]
  simp only
  rw [if_pos h]
  simp [quotL]
theorem pre_sep {m : List UInt8} (hm : Sep m) : ∀ (s l : List UInt8), (∀ x ∈ s, x ≠ 32) → List.isPrefixOf s (l ++ m) = List.isPrefixOf s l
  | [], l, _ => by simp [List.isPrefixOf]
  | a :: s, [], h => by
    cases m with
    | nil => rfl
    | cons c r =>
      have hc := hm c r rfl
      subst hc
      have : (a == 32) = false := beq_eq_false_iff_ne.2 (h a (List.mem_cons_self ..))
      simp [List.isPrefixOf, this]
  | a :: s, c :: l, h => by
    rw [List.cons_append, List.isPrefixOf, List.isPrefixOf, pre_sep hm s l (fun x hx => h x (List.mem_cons_of_mem _ hx))]
theorem sign_no32 : ∀ s ∈ signL, ∀ x ∈ s, x ≠ 32 := by decide
theorem sign_sep (l : List UInt8) {m : List UInt8} (hm : Sep m) : signF (l ++ m) = signF l := by
  unfold signF
  have : ∀ L : List (List UInt8), (∀ s ∈ L, ∀ x ∈ s, x ≠ 32) → (L.find? fun s => Lib.hasPrefix (l ++ m) s) = L.find? fun s => Lib.hasPrefix l s := by
    intro L
    induction L with
    | nil => intro _; rfl
    | cons s L ih =>
      intro h
      rw [List.find?_cons, List.find?_cons, ih (fun t ht => h t (List.mem_cons_of_mem _ ht))]
      unfold Lib.hasPrefix
      rw [pre_sep hm s l (h s (List.mem_cons_self ..))]
  exact this signL sign_no32
theorem sign_heads : ∀ s ∈ signL, signF s = some s ∧ ∃ c r, s = c :: r ∧ isLet c = false ∧ isDig c = false ∧ c ≠ 34 := by
  intro s hs
  simp only [signL, List.mem_cons, List.not_mem_nil, or_false] at hs
  rcases hs with rfl | rfl | rfl | rfl | rfl | rfl | rfl | rfl | rfl | rfl | rfl | rfl | rfl | rfl | rfl | rfl | rfl | rfl | rfl <;> exact ⟨by decide, _, _, rfl, by decide, by decide, by decide⟩
theorem tok_sgn {s m : List UInt8} (h : s ∈ signL) (hm : Sep m) : tokF (s ++ m) = ⟨3, s, 0, s.length, 0⟩ := by
  obtain ⟨hs, c, r, rfl, h1, h2, h3⟩ := sign_heads s h
  have e := sign_sep (c :: r) hm
  rw [hs] at e
  show tokF (c :: (r ++ m)) = _
  rw [tokF, if_neg (by rw [h1]; decide), if_neg (by rw [h2]; decide), if_neg h3]
  have e2 : c :: (r ++ m) = (c :: r) ++ m := rfl
  rw [e2, e]
/-- A good token does not begin with a blank or a comment. -/
theorem tok_stop {l : List UInt8} (h : (tokF l).err = 0) : sk false l = 0 := by
  cases l with
  | nil => simp [sk]
  | cons c l =>
    rw [sk]
    by_cases h1 : isBl c = true
    · exfalso
      unfold isBl at h1
      simp only [decide_eq_true_eq] at h1
      rw [tokF, if_neg (by unfold isLet; simp; omega), if_neg (by unfold isDig; simp; omega), if_neg (by rintro rfl; revert h1; decide)] at h
      have : signF (c :: l) = none := by
        unfold signF
        rw [List.find?_eq_none]
        intro s hs hp
        obtain ⟨_, d, r, rfl, _⟩ := sign_heads s hs
        have hd : d = c := by
          unfold Lib.hasPrefix at hp
          rw [List.isPrefixOf] at hp
          simp at hp
          exact hp.1
        subst hd
        revert hs h1
        have : ∀ s ∈ signL, ∀ c r, s = c :: r → ¬ (c.toNat = 9 ∨ c.toNat = 10 ∨ c.toNat = 32) := by
          intro s hs c r e
          simp only [signL, List.mem_cons, List.not_mem_nil, or_false] at hs
          rcases hs with rfl | rfl | rfl | rfl | rfl | rfl | rfl | rfl | rfl | rfl | rfl | rfl | rfl | rfl | rfl | rfl | rfl | rfl | rfl <;> (injection e with e _; subst e; decide)
        intro hs h1
        exact this _ hs d r rfl h1
      rw [this] at h
      simp [bad] at h
    · rw [if_neg h1]
      by_cases h2 : c = 35
      · exfalso
        subst h2
        rw [tokF, if_neg (by decide), if_neg (by decide), if_neg (by decide)] at h
        have : signF (35 :: l) = none := by
          unfold signF
          rw [List.find?_eq_none]
          intro s hs hp
          unfold Lib.hasPrefix at hp
          simp only [signL, List.mem_cons, List.not_mem_nil, or_false] at hs
          rcases hs with rfl | rfl | rfl | rfl | rfl | rfl | rfl | rfl | rfl | rfl | rfl | rfl | rfl | rfl | rfl | rfl | rfl | rfl | rfl <;> simp [List.isPrefixOf] at hp
        rw [this] at h
        simp [bad] at h
      · rw [if_neg h2]
/-- A text that is one token. -/
theorem scan_one {l : List UInt8} {k : Int} {x : List UInt8} {n : Int} (hl : l.length ≤ 4000) (hne : l ≠ []) (h : tokF l = ⟨k, x, n, l.length, 0⟩) : scanL l = ([⟨k, x, n, 0⟩], 0, 0) := by
  have hs := tok_stop (l := l) (by rw [h])
  rw [scanL_short hl]
  unfold scanG
  rw [hs, List.drop_zero, scan_good (by omega) hne (by rw [h]), h]
  simp only [List.drop_length]
  have : (([] : List UInt8).drop (sk false [])) = [] := by simp
  rw [this, scan_end (by have := List.length_pos_iff.2 hne; omega)]
  rfl
/-- What is known of a good token. -/
def GoodTk (t : Tk) : Prop := (t.kind = 0 ∧ isName t.text = true ∧ t.n = 0) ∨ (t.kind = 1 ∧ numL t.text = some t.n) ∨ (t.kind = 2 ∧ isVal t.text = true ∧ t.n = 0) ∨ (t.kind = 3 ∧ t.text ∈ signL ∧ t.n = 0)
theorem tok_good {l : List UInt8} (h : (tokF l).err = 0) (p : Int) : GoodTk ⟨(tokF l).kind, (tokF l).text, (tokF l).n, p⟩ := by
  unfold GoodTk
  cases l with
  | nil => simp [tokF, bad] at h
  | cons c l =>
    rw [tokF] at h ⊢
    simp only at h ⊢
    by_cases h1 : isLet c = true
    · rw [if_pos h1] at h ⊢
      by_cases hn : isName ((c :: l).take (spanL isNm (c :: l))) = true
      · rw [if_pos hn]; simp [hn]
      · rw [if_neg hn] at h; simp [bad] at h
    · rw [if_neg h1] at h ⊢
      by_cases h2 : isDig c = true
      · rw [if_pos h2] at h ⊢
        cases hn : numL ((c :: l).take (spanL isDig (c :: l))) with
        | some n => simp [hn]
        | none => rw [hn] at h; simp [bad] at h
      · rw [if_neg h2] at h ⊢
        by_cases h3 : c = 34
        · rw [if_pos h3] at h ⊢
          cases hu : unqF l with
          | some x =>
            obtain ⟨v, k⟩ := x
            rw [hu] at h
            simp only at h ⊢
            by_cases hv : isVal v = true
            · rw [if_pos hv]; simp [hv]
            · rw [if_neg hv] at h; simp [bad] at h
          | none => rw [hu] at h; simp [bad] at h
        · rw [if_neg h3] at h ⊢
          cases hs : signF (c :: l) with
          | none => rw [hs] at h; simp [bad] at h
          | some s =>
            have hm := List.mem_of_find?_eq_some hs
            simp [hm]
theorem scanF_good : ∀ (f k : Nat) (l : List UInt8) (acc : List Tk), (∀ t ∈ acc, GoodTk t) → ∀ t ∈ (scanF f k l acc).1, GoodTk t
  | 0, k, l, acc, h => by rw [scanF]; exact h
  | f + 1, k, l, acc, h => by
    rw [scanF]
    by_cases hl : l = []
    · rw [if_pos hl]; exact h
    · rw [if_neg hl]
      simp only
      by_cases he : (tokF l).err ≠ 0
      · rw [if_pos he]; simp
      · rw [if_neg he]
        refine scanF_good f _ _ _ ?_
        intro t ht
        rcases List.mem_append.1 ht with h' | h'
        · exact h t h'
        · simp only [List.mem_singleton] at h'
          subst h'
          exact tok_good (by simpa using he) _
theorem scanL_good (l : List UInt8) : ∀ t ∈ (scanL l).1, GoodTk t := by
  unfold scanL
  split
  · simp
  · exact scanF_good _ _ _ _ (by simp)
/-- What the scan says of names and numbers: the text of the whole law. -/
theorem scan_name (t : List UInt8) (hl : t.length ≤ 4000) (h : isName t = true) : scanL t = ([⟨0, t, 0, 0⟩], 0, 0) := by
  obtain ⟨c, r, rfl, _⟩ := isName_cons h
  have := tok_name (m := []) h Sep.nil
  rw [List.append_nil] at this
  exact scan_one hl (by simp) this
theorem scan_num (t : List UInt8) (n : Int) (hl : t.length ≤ 4000) (h : numL t = some n) : scanL t = ([⟨1, t, n, 0⟩], 0, 0) := by
  obtain ⟨_, _, _, c, r, rfl, _⟩ := num_digits h
  have := tok_num (m := []) h Sep.nil
  rw [List.append_nil] at this
  exact scan_one hl (by simp) this
theorem esc_len (v : List UInt8) : v.length ≤ (escL v).length ∧ (escL v).length ≤ 2 * v.length := by
  unfold escL
  induction v with
  | nil => simp
  | cons c v ih =>
    rw [List.flatMap_cons, List.length_append, List.length_cons]
    split <;> simp only [List.length_cons, List.length_nil] <;> omega
theorem scan_quot (v : List UInt8) (h : isVal v = true) : scanL (quotL v) = ([⟨2, v, 0, 0⟩], 0, 0) := by
  have hl : v.length ≤ 400 := by unfold isVal at h; simp only [Bool.and_eq_true, decide_eq_true_eq] at h; exact h.1
  have he := esc_len v
  have := tok_str (m := []) h
  rw [List.append_nil] at this
  exact scan_one (by unfold quotL; simp; omega) (by simp [quotL]) this
end Go.Proofs.YtgcibbfoekfakaaDoor
