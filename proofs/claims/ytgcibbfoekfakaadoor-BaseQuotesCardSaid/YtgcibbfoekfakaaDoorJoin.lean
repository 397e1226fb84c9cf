/- Facts about scanning two texts with a line feed between them. -/
import Derived.Test.YtgcibbfoekfakaaDoorFacts
namespace Go.Proofs.YtgcibbfoekfakaaDoor

theorem sk_join (m : List UInt8) : ∀ (b : Bool) (l : List UInt8), sk b (l ++ 10 :: m) = if sk b l = l.length then l.length + (sk false m + 1) else sk b l
  | b, [] => by cases b <;> simp [sk, notLf, isBl]
  | true, c :: l => by
    have ih := sk_join m (notLf c) l
    rw [List.cons_append, sk, sk, ih]
    by_cases h : sk (notLf c) l = l.length
    · rw [if_pos h, if_pos (by rw [h]; simp)]; simp; omega
    · rw [if_neg h, if_neg (by simp; omega)]
  | false, c :: l => by
    have ih1 := sk_join m false l
    have ih2 := sk_join m true l
    rw [List.cons_append, sk, sk]
    by_cases h1 : isBl c = true
    · rw [if_pos h1, if_pos h1, ih1]
      by_cases h : sk false l = l.length
      · rw [if_pos h, if_pos (by rw [h]; simp)]; simp; omega
      · rw [if_neg h, if_neg (by simp; omega)]
    · rw [if_neg h1, if_neg h1]
      by_cases h2 : c = 35
      · rw [if_pos h2, if_pos h2, ih2]
        by_cases h : sk true l = l.length
        · rw [if_pos h, if_pos (by rw [h]; simp)]; simp; omega
        · rw [if_neg h, if_neg (by simp; omega)]
      · rw [if_neg h2, if_neg h2, if_neg (by simp)]
theorem span_join {p : UInt8 → Bool} (h10 : p 10 = false) (m : List UInt8) : ∀ l : List UInt8, spanL p (l ++ 10 :: m) = spanL p l
  | [] => by simp [spanL, h10]
  | c :: l => by
    rw [List.cons_append, spanL, spanL, span_join h10 m l]
theorem pre_join (m : List UInt8) : ∀ (s l : List UInt8), (∀ x ∈ s, x ≠ 10) → List.isPrefixOf s (l ++ 10 :: m) = List.isPrefixOf s l
  | [], l, _ => by simp [List.isPrefixOf]
  | a :: s, [], h => by
    have : (a == 10) = false := beq_eq_false_iff_ne.2 (h a (List.mem_cons_self ..))
    simp [List.isPrefixOf, this]
  | a :: s, c :: l, h => by
    rw [List.cons_append, List.isPrefixOf, List.isPrefixOf, pre_join m s l (fun x hx => h x (List.mem_cons_of_mem _ hx))]
theorem sign_no10 : ∀ s ∈ signL, ∀ x ∈ s, x ≠ 10 := by decide
theorem sign_join (l m : List UInt8) : signF (l ++ 10 :: m) = signF l := by
  unfold signF
  have : ∀ L : List (List UInt8), (∀ s ∈ L, ∀ x ∈ s, x ≠ 10) → (L.find? fun s => Lib.hasPrefix (l ++ 10 :: m) s) = L.find? fun s => Lib.hasPrefix l s := by
    intro L
    induction L with
    | nil => intro _; rfl
    | cons s L ih =>
      intro h
      rw [List.find?_cons, List.find?_cons, ih (fun t ht => h t (List.mem_cons_of_mem _ ht))]
      unfold Lib.hasPrefix
      rw [pre_join m s l (h s (List.mem_cons_self ..))]
  exact this signL sign_no10
/-- A quoted string that has ended ends as well before more text; one that hasn't has a line feed in it. -/
theorem unq_join (m : List UInt8) : ∀ (b : Bool) (l : List UInt8), (∀ x, unqG b l = some x → unqG b (l ++ 10 :: m) = some x) ∧ (unqG b l = none → ∀ x, unqG b (l ++ 10 :: m) = some x → (10 : UInt8) ∈ x.1)
  | true, [] => by constructor <;> simp [unqG]
  | false, [] => by
    constructor
    · simp [unqG]
    · intro _ x hx
      rw [List.nil_append, unqG, if_neg (by decide), if_neg (by decide)] at hx
      obtain ⟨y, _, rfl⟩ := Option.map_eq_some_iff.1 hx
      simp
  | true, c :: l => by
    obtain ⟨ih1, ih2⟩ := unq_join m false l
    rw [List.cons_append, unqG, unqG]
    by_cases h : c = 34 ∨ c = 92
    · rw [if_pos h, if_pos h]
      constructor
      · intro x hx
        obtain ⟨y, hy, rfl⟩ := Option.map_eq_some_iff.1 hx
        rw [ih1 y hy]; rfl
      · intro hn x hx
        obtain ⟨y, hy, rfl⟩ := Option.map_eq_some_iff.1 hx
        exact List.mem_cons_of_mem _ (ih2 (by simpa using hn) y hy)
    · rw [if_neg h, if_neg h]; simp
  | false, c :: l => by
    obtain ⟨iha1, iha2⟩ := unq_join m false l
    obtain ⟨ihb1, ihb2⟩ := unq_join m true l
    rw [List.cons_append, unqG, unqG]
    by_cases h1 : c = 34
    · rw [if_pos h1, if_pos h1]; simp
    · rw [if_neg h1, if_neg h1]
      by_cases h2 : c = 92
      · rw [if_pos h2, if_pos h2]
        constructor
        · intro x hx
          obtain ⟨y, hy, rfl⟩ := Option.map_eq_some_iff.1 hx
          rw [ihb1 y hy]; rfl
        · intro hn x hx
          obtain ⟨y, hy, rfl⟩ := Option.map_eq_some_iff.1 hx
          exact ihb2 (by simpa using hn) y hy
      · rw [if_neg h2, if_neg h2]
        constructor
        · intro x hx
          obtain ⟨y, hy, rfl⟩ := Option.map_eq_some_iff.1 hx
          rw [iha1 y hy]; rfl
        · intro hn x hx
          obtain ⟨y, hy, rfl⟩ := Option.map_eq_some_iff.1 hx
          exact List.mem_cons_of_mem _ (iha2 (by simpa using hn) y hy)
theorem isVal_no10 {l : List UInt8} (h : (10 : UInt8) ∈ l) : isVal l = false := by
  unfold isVal
  have : ¬ spanL isQt l = l.length := fun e => by
    have := (spanL_all isQt l).1 e 10 h
    simp [isQt] at this
  rw [decide_eq_false this, Bool.and_false]
theorem tok_join (c : UInt8) (l m : List UInt8) : tokF (c :: (l ++ 10 :: m)) = tokF (c :: l) := by
  have e : c :: (l ++ 10 :: m) = (c :: l) ++ 10 :: m := rfl
  rw [tokF, tokF]
  by_cases h1 : isLet c = true
  · rw [if_pos h1, if_pos h1, e, span_join (by decide), List.take_append_of_le_length (spanL_le _ _)]
  · rw [if_neg h1, if_neg h1]
    by_cases h2 : isDig c = true
    · rw [if_pos h2, if_pos h2, e, span_join (by decide), List.take_append_of_le_length (spanL_le _ _)]
    · rw [if_neg h2, if_neg h2]
      by_cases h3 : c = 34
      · rw [if_pos h3, if_pos h3]
        obtain ⟨ih1, ih2⟩ := unq_join m false l
        unfold unqF
        cases hu : unqG false l with
        | some x => rw [ih1 x hu]
        | none =>
          cases hv : unqG false (l ++ 10 :: m) with
          | none => rfl
          | some x =>
            have := isVal_no10 (ih2 hu x hv)
            obtain ⟨v, k⟩ := x
            simp only at this ⊢
            rw [this]; rfl
      · rw [if_neg h3, if_neg h3, e, sign_join]
end Go.Proofs.YtgcibbfoekfakaaDoor
