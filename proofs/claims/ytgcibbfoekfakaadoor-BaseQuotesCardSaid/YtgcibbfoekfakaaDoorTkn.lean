/- Printing tokens and scanning them again. -/
import Derived.Test.YtgcibbfoekfakaaDoorQuo
import Derived.Test.YtgcibbfoekfakaaDoorToks
namespace Go.Proofs.YtgcibbfoekfakaaDoor

theorem tok_self {t : Tk} (h : GoodTk t) {m : List UInt8} (hm : Sep m) : tokF (tokS t ++ m) = ⟨t.kind, t.text, t.n, (tokS t).length, 0⟩ := by
  obtain ⟨kind, text, n, pos⟩ := t
  unfold GoodTk at h
  unfold tokS
  simp only at h ⊢
  rcases h with ⟨rfl, h, rfl⟩ | ⟨rfl, h⟩ | ⟨rfl, h, rfl⟩ | ⟨rfl, h, rfl⟩
  · rw [if_neg (by decide)]; exact tok_name h hm
  · rw [if_neg (by decide)]; exact tok_num h hm
  · rw [if_pos rfl]; exact tok_str h
  · rw [if_neg (by decide)]; exact tok_sgn h hm
theorem prF_sep : ∀ L : List Tk, Sep (prF false L)
  | [] => Sep.nil
  | _ :: _ => Sep.cons _
theorem tokS_ne {t : Tk} (h : GoodTk t) : tokS t ≠ [] := by
  intro e
  have := tok_self h Sep.nil
  rw [e] at this
  simp only [List.append_nil, List.length_nil] at this
  simp [tokF, bad] at this
/-- The same tokens at the places where they are printed. -/
def relF : Nat → List Tk → List Tk
  | _, [] => []
  | k, t :: r => ⟨t.kind, t.text, t.n, (k : Int)⟩ :: relF (k + (tokS t).length + 1) r
theorem relF_len : ∀ (k : Nat) (L : List Tk), (relF k L).length = L.length
  | _, [] => rfl
  | k, t :: r => by rw [relF, List.length_cons, List.length_cons, relF_len]
theorem relF_get : ∀ (k : Nat) (L : List Tk) (i : Nat) (t : Tk), L[i]? = some t → ∃ p : Int, (relF k L)[i]? = some ⟨t.kind, t.text, t.n, p⟩
  | k, [], i, t, h => by simp at h
  | k, a :: r, 0, t, h => by simp at h; subst h; exact ⟨_, rfl⟩
  | k, a :: r, i + 1, t, h => by
    rw [List.getElem?_cons_succ] at h
    obtain ⟨p, hp⟩ := relF_get (k + (tokS a).length + 1) r i t h
    exact ⟨p, by rw [relF, List.getElem?_cons_succ]; exact hp⟩
theorem tokS_rel (t : Tk) (p : Int) : tokS ⟨t.kind, t.text, t.n, p⟩ = tokS t := rfl
theorem relF_print : ∀ (b : Bool) (k : Nat) (L : List Tk), prF b (relF k L) = prF b L
  | b, k, [] => by cases b <;> rfl
  | true, k, t :: r => by rw [relF, prF, prF, relF_print false _ r]; rfl
  | false, k, t :: r => by rw [relF, prF, prF, relF_print false _ r]; rfl
theorem scan_print : ∀ (L : List Tk) (f k : Nat) (acc : List Tk), (∀ t ∈ L, GoodTk t) → (prF true L).length < f → scanF f k (prF true L) acc = (acc ++ relF k L, 0, 0)
  | [], f, k, acc, _, hf => by rw [prF, scan_end (by omega)]; simp [relF]
  | t :: r, f, k, acc, h, hf => by
    have hg := h t (List.mem_cons_self ..)
    have hne := tokS_ne hg
    have ht := tok_self hg (prF_sep r)
    rw [prF] at hf ⊢
    rw [List.length_append] at hf
    have hnl : tokS t ++ prF false r ≠ [] := by simp [hne]
    rw [scan_good (by rw [List.length_append]; omega) hnl (by rw [ht]), ht]
    simp only [List.drop_left]
    have hr := fun u hu => h u (List.mem_cons_of_mem _ hu)
    cases r with
    | nil =>
      rw [prF]
      have e : (([] : List UInt8).drop (sk false [])) = [] := by simp
      rw [e, scan_end (by have := List.length_pos_iff.2 hne; omega)]
      simp [relF]
    | cons u r =>
      have hgu := hr u (List.mem_cons_self ..)
      have hs : sk false (prF false (u :: r)) = 1 := by
        rw [prF, sk, if_pos (by decide)]
        have := tok_stop (l := tokS u ++ prF false r) (by rw [tok_self hgu (prF_sep r)])
        omega
      have hd : (prF false (u :: r)).drop 1 = prF true (u :: r) := by rw [prF, prF]; rfl
      have hlen : (prF false (u :: r)).length = (prF true (u :: r)).length + 1 := by rw [prF, prF]; simp
      rw [hs, hd, scan_print (u :: r) _ _ _ hr (by have := List.length_pos_iff.2 hne; omega)]
      simp [relF]
theorem scanL_print (L : List Tk) (h : ∀ t ∈ L, GoodTk t) (hl : (printL L).length ≤ 4000) : scanL (printL L) = (relF 0 L, 0, 0) := by
  rw [scanL_short hl]
  unfold scanG printL
  have hs : sk false (prF true L) = 0 := by
    cases L with
    | nil => simp [prF, sk]
    | cons t r => rw [prF]; exact tok_stop (by rw [tok_self (h t (List.mem_cons_self ..)) (prF_sep r)])
  rw [hs, List.drop_zero, scan_print L _ _ _ h (by omega)]
  rfl
/-- How long the printed text is. -/
theorem unq_len : ∀ (b : Bool) (l : List UInt8) (x : List UInt8 × Nat), unqG b l = some x → (escL x.1).length + 1 ≤ x.2 + (if b = true then 1 else 0)
  | b, [], x, h => by cases b <;> simp [unqG] at h
  | true, c :: l, x, h => by
    rw [unqG] at h
    split at h
    · rename_i hc
      obtain ⟨y, hy, rfl⟩ := Option.map_eq_some_iff.1 h
      have := unq_len false l y hy
      have e : escL (c :: y.1) = [92, c] ++ escL y.1 := by simp [escL, hc]
      simp only [e, List.length_append, List.length_cons, List.length_nil]
      simp at this ⊢; omega
    · cases h
  | false, c :: l, x, h => by
    rw [unqG] at h
    by_cases h1 : c = 34
    · rw [if_pos h1] at h; simp only [Option.some.injEq] at h; subst h; simp [escL]
    · rw [if_neg h1] at h
      by_cases h2 : c = 92
      · rw [if_pos h2] at h
        obtain ⟨y, hy, rfl⟩ := Option.map_eq_some_iff.1 h
        have := unq_len true l y hy
        simp at this ⊢; omega
      · rw [if_neg h2] at h
        obtain ⟨y, hy, rfl⟩ := Option.map_eq_some_iff.1 h
        have := unq_len false l y hy
        have e : escL (c :: y.1) = [c] ++ escL y.1 := by simp [escL, h1, h2]
        simp only [e, List.length_append, List.length_cons, List.length_nil]
        simp at this ⊢; omega
theorem tokS_len {l : List UInt8} (h : (tokF l).err = 0) (p : Int) : (tokS ⟨(tokF l).kind, (tokF l).text, (tokF l).n, p⟩).length ≤ (tokF l).size := by
  unfold tokS
  cases l with
  | nil => simp [tokF, bad] at h
  | cons c l =>
    rw [tokF] at h ⊢
    simp only at h ⊢
    by_cases h1 : isLet c = true
    · rw [if_pos h1] at h ⊢
      by_cases hn : isName ((c :: l).take (spanL isNm (c :: l))) = true
      · rw [if_pos hn]; simp
      · rw [if_neg hn] at h; simp [bad] at h
    · rw [if_neg h1] at h ⊢
      by_cases h2 : isDig c = true
      · rw [if_pos h2] at h ⊢
        cases hn : numL ((c :: l).take (spanL isDig (c :: l))) with
        | some n => simp
        | none => rw [hn] at h; simp [bad] at h
      · rw [if_neg h2] at h ⊢
        by_cases h3 : c = 34
        · rw [if_pos h3] at h ⊢
          cases hu : unqF l with
          | some x =>
            obtain ⟨v, k⟩ := x
            have := unq_len false l (v, k) hu
            rw [hu] at h
            simp only at h ⊢
            by_cases hv : isVal v = true
            · rw [if_pos hv]; simp [quotL] at this ⊢; omega
            · rw [if_neg hv] at h; simp [bad] at h
          | none => rw [hu] at h; simp [bad] at h
        · rw [if_neg h3] at h ⊢
          cases hs : signF (c :: l) with
          | none => rw [hs] at h; simp [bad] at h
          | some s => simp
/-- The sum of the printed tokens' lengths, each with a blank. -/
def prN (L : List Tk) : Nat := (L.map fun t => (tokS t).length + 1).sum
theorem prF_len : ∀ (b : Bool) (L : List Tk), (prF b L).length ≤ prN L
  | b, [] => by cases b <;> simp [prF]
  | true, t :: r => by
    have := prF_len false r
    rw [prF, List.length_append]
    simp only [prN, List.map_cons, List.sum_cons] at this ⊢; omega
  | false, t :: r => by
    have := prF_len false r
    rw [prF, List.length_cons, List.length_append]
    simp only [prN, List.map_cons, List.sum_cons] at this ⊢; omega
theorem scanF_len : ∀ (f k : Nat) (l : List UInt8) (acc : List Tk), prN (scanF f k l acc).1 ≤ prN acc + 2 * l.length
  | 0, k, l, acc => by rw [scanF]; simp
  | f + 1, k, l, acc => by
    rw [scanF]
    by_cases hl : l = []
    · rw [if_pos hl]; simp
    · rw [if_neg hl]
      simp only
      by_cases he : (tokF l).err ≠ 0
      · rw [if_pos he]; simp [prN]
      · rw [if_neg he]
        obtain ⟨c, r, rfl⟩ := List.exists_cons_of_ne_nil hl
        have he0 : (tokF (c :: r)).err = 0 := by simpa using he
        have h1 := tok_size c r he0
        have h2 := tokS_len he0 (k : Int)
        have h3 := scanF_len f (k + (tokF (c :: r)).size + sk false ((c :: r).drop (tokF (c :: r)).size)) (((c :: r).drop (tokF (c :: r)).size).drop (sk false ((c :: r).drop (tokF (c :: r)).size))) (acc ++ [⟨(tokF (c :: r)).kind, (tokF (c :: r)).text, (tokF (c :: r)).n, (k : Int)⟩])
        refine Nat.le_trans h3 ?_
        have h4 : prN (acc ++ [⟨(tokF (c :: r)).kind, (tokF (c :: r)).text, (tokF (c :: r)).n, (k : Int)⟩]) = prN acc + ((tokS ⟨(tokF (c :: r)).kind, (tokF (c :: r)).text, (tokF (c :: r)).n, (k : Int)⟩).length + 1) := by
          simp [prN, List.map_append, List.sum_append]
        rw [h4, List.length_drop, List.length_drop]
        omega
theorem scanL_len (l : List UInt8) (hl : l.length ≤ 900) : (printL (scanL l).1).length ≤ 1800 := by
  rw [scanL_short (by omega)]
  unfold scanG
  have h1 := scanF_len (l.length + 1) (sk false l) (l.drop (sk false l)) []
  have h2 := prF_len true (scanF (l.length + 1) (sk false l) (l.drop (sk false l)) []).1
  rw [List.length_drop] at h1
  unfold printL
  have : prN [] = 0 := rfl
  omega
end Go.Proofs.YtgcibbfoekfakaaDoor
