/- The reference's numbers and signs on lists of bytes. -/
import Derived.Test.YtadfdgdpalnnfaaDoorLex
namespace Go.Proofs.YtadfdgdpalnnfaaDoor
open Go.Lib

/-- The value of digits. -/
def dval : List UInt8 → Nat → Nat
  | [], n => n
  | c :: l, n => dval l (10 * n + (c.toNat - 48))
theorem dval_snoc (c : UInt8) : ∀ (l : List UInt8) (n : Nat), dval (l ++ [c]) n = 10 * dval l n + (c.toNat - 48)
  | [], n => rfl
  | d :: l, n => by rw [List.cons_append, dval, dval, dval_snoc c l]
theorem dval_ge : ∀ (l : List UInt8) (n : Nat), n ≤ dval l n
  | [], n => Nat.le_refl _
  | c :: l, n => by rw [dval]; have := dval_ge l (10 * n + (c.toNat - 48)); omega
theorem dval_append : ∀ (l m : List UInt8) (n : Nat), dval (l ++ m) n = dval m (dval l n)
  | [], m, n => rfl
  | c :: l, m, n => by rw [List.cons_append, dval, dval, dval_append l m]
theorem dval_pre (l : List UInt8) (k : Nat) : dval (l.take k) 0 ≤ dval l 0 := by
  have h := dval_append (l.take k) (l.drop k) 0
  rw [List.take_append_drop] at h
  rw [h]
  exact dval_ge _ _
theorem dval_next (l : List UInt8) (k : Nat) (h : k < l.length) : dval (l.take (k + 1)) 0 = 10 * dval (l.take k) 0 + (l[k].toNat - 48) := by
  rw [List.take_succ_eq_append_getElem h, dval_snoc]
theorem dig_le {c : UInt8} (h : isDig c = true) : 48 ≤ c.toNat ∧ c.toNat ≤ 57 := by simpa [isDig] using h
theorem digits_dval : ∀ (n : Nat) (l : List UInt8), l.length = n → (∀ c ∈ l, isDig c = true) → l ≠ [] → (1 < l.length → l.head? ≠ some 48) → decDigits (dval l 0) = l := by
  intro n
  induction n with
  | zero => intro l h _ h2 _; exact absurd (List.eq_nil_of_length_eq_zero h) h2
  | succ n ih =>
    intro l hl hd hne hh
    rcases List.eq_nil_or_concat l with rfl | ⟨m, c, rfl⟩
    · exact absurd rfl hne
    · rw [List.concat_eq_append] at *
      have hc := dig_le (hd c (by simp))
      have hcc : UInt8.ofNat (48 + (c.toNat - 48)) = c := by
        rw [show 48 + (c.toNat - 48) = c.toNat by omega]; simp
      rw [dval_snoc]
      cases m with
      | nil =>
        rw [dval, decDigits_small (by omega), show 10 * 0 + (c.toNat - 48) = c.toNat - 48 by omega, hcc]; rfl
      | cons d m =>
        have h48 : d ≠ 48 := by
          have := hh (by simp)
          simpa using this
        have hdd := dig_le (hd d (by simp))
        have hpos : 1 ≤ dval (d :: m) 0 := by
          rw [dval]
          have h1 := dval_ge m (10 * 0 + (d.toNat - 48))
          have h2 : d.toNat ≠ 48 := fun e => h48 (by apply UInt8.toNat.inj; rw [e]; rfl)
          omega
        have e := ih (d :: m) (by simp at hl ⊢; omega) (fun x hx => hd x (by simp at hx ⊢; rcases hx with h | h; exact .inl h; exact .inr (.inl h))) (by simp) (fun _ => by simpa using h48)
        rw [decDigits_big (by omega), show (10 * dval (d :: m) 0 + (c.toNat - 48)) / 10 = dval (d :: m) 0 by omega, show (10 * dval (d :: m) 0 + (c.toNat - 48)) % 10 = c.toNat - 48 by omega, e, hcc]
theorem dval_dec (u : Nat) : dval (decDigits u) 0 = u := by
  induction u using Nat.strongRecOn with
  | _ u ih =>
    by_cases h : u < 10
    · rw [decDigits_small h]
      have e := dig_toNat u h
      rw [dval, dval, e]; omega
    · rw [decDigits_big h, dval_snoc, ih (u / 10) (by omega), dig_toNat (u % 10) (by omega)]; omega
theorem dec_head : ∀ u, 1 < (decDigits u).length → (decDigits u).head? ≠ some 48 := by
  intro u
  induction u using Nat.strongRecOn with
  | _ u ih =>
    by_cases h : u < 10
    · rw [decDigits_small h]; intro h; simp at h
    · intro _
      rw [decDigits_big h]
      by_cases h2 : u / 10 < 10
      · rw [decDigits_small h2]
        simp only [List.cons_append, List.head?_cons, ne_eq, Option.some.injEq]
        intro e
        have := dig_toNat (u / 10) h2
        rw [e] at this
        have h3 : (48 : UInt8).toNat = 48 := rfl
        omega
      · have h4 := ih (u / 10) (by omega)
        rw [decDigits_big h2] at h4 ⊢
        have h5 := decDigits_ne (u / 10 / 10)
        cases hd : decDigits (u / 10 / 10) with
        | nil => exact absurd hd h5
        | cons x y =>
          rw [hd] at h4
          have := h4 (by simp)
          simpa using this

/-- The conditions of the reference's Number. -/
def numOk (l : List UInt8) : Prop := l ≠ [] ∧ (∀ c ∈ l, isDig c = true) ∧ (1 < l.length → l.head? ≠ some 48) ∧ dval l 0 ≤ 1099511627776
theorem numL_ok {l : List UInt8} (h : numOk l) : numL l = some (dval l 0 : Int) := by
  obtain ⟨h1, h2, h3, h4⟩ := h
  have e := digits_dval _ l rfl h2 h1 h3
  have e2 : itoa (dval l 0 : Int) = l := by
    unfold itoa; rw [if_neg (by omega)]; rw [show ((dval l 0 : Nat) : Int).toNat = dval l 0 from rfl]; exact e
  have hc := canon_itoa (dval l 0 : Int) (by unfold isInt; omega)
  rw [e2] at hc
  unfold numL
  rw [hc]
  simp only
  rw [if_neg (by omega)]
theorem numL_no {l : List UInt8} (h : ¬ numOk l) : numL l = none := by
  cases hn : numL l with
  | none => rfl
  | some v =>
    exfalso; apply h
    unfold numL at hn
    split at hn
    · cases hn
    · rename_i n hc
      split at hn
      · cases hn
      · rename_i hr
        have e := canon_some hc
        unfold itoa at e
        rw [if_neg (by omega)] at e
        rw [← e]
        exact ⟨decDigits_ne _, decDigits_isDig _, dec_head _, by rw [dval_dec]; omega⟩

theorem isName_iff (c : UInt8) (l : List UInt8) : isName (c :: l) = true ↔ (c :: l).length ≤ 20 ∧ isLet c = true ∧ ∀ x ∈ l, isNm x = true := by
  have h : isName (c :: l) = (decide ((c :: l).length ≤ 20) && isLet c && decide (spanL isNm (c :: l) = (c :: l).length)) := rfl
  rw [h]
  simp only [Bool.and_eq_true, decide_eq_true_eq, spanL_all]
  constructor
  · rintro ⟨⟨h1, h2⟩, h3⟩; exact ⟨h1, h2, fun x hx => h3 x (List.mem_cons_of_mem _ hx)⟩
  · rintro ⟨h1, h2, h3⟩
    refine ⟨⟨h1, h2⟩, fun x hx => ?_⟩
    rcases List.mem_cons.1 hx with rfl | hx
    · simp [isNm, h2]
    · exact h3 x hx
theorem isVal_iff (l : List UInt8) : isVal l = true ↔ l.length ≤ 400 ∧ ∀ x ∈ l, isQt x = true := by
  unfold isVal
  simp only [Bool.and_eq_true, decide_eq_true_eq, spanL_all]
end Go.Proofs.YtadfdgdpalnnfaaDoor
