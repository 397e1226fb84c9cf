/- The long division of two words by one, digit by digit (plain numbers). -/
namespace Go.Proofs.YthnkfjjgccabeaaGreatDoor

/-- The quotient's digit is not above the guess. -/
def QInv (u d y1 y0 q r : Nat) : Prop := q * y1 + r = u ∧ u * 4294967296 + d < (q + 1) * (y1 * 4294967296 + y0)
theorem q_split (q y1 r d : Nat) : (q * y1 + r) * 4294967296 + d = q * (y1 * 4294967296) + (r * 4294967296 + d) := by
  rw [Nat.add_mul, Nat.mul_assoc]; omega
theorem q_start {u d y1 y0 : Nat} (hd : d < 4294967296) (h1 : 0 < y1) : QInv u d y1 y0 (u / y1) (u - u / y1 * y1) := by
  have hdm := Nat.div_add_mod u y1
  have hlt := Nat.mod_lt u h1
  have hc : y1 * (u / y1) = u / y1 * y1 := Nat.mul_comm ..
  generalize u / y1 = q at *
  refine ⟨by omega, ?_⟩
  have h2 : u + 1 ≤ (q + 1) * y1 := by rw [Nat.add_mul]; omega
  have h3 := Nat.mul_le_mul_right 4294967296 h2
  have h4 : (q + 1) * (y1 * 4294967296 + y0) = (q + 1) * y1 * 4294967296 + (q + 1) * y0 := by rw [Nat.mul_add, Nat.mul_assoc]
  omega
theorem q_top {u y1 y0 : Nat} (h0 : y0 < 4294967296) (h1 : 2147483648 ≤ y1) (hu : u < y1 * 4294967296 + y0) : u / y1 ≤ 4294967297 := by
  have : u < 4294967298 * y1 := by omega
  have := (Nat.div_lt_iff_lt_mul (by omega : 0 < y1)).2 this
  omega
theorem q_rem {u y1 : Nat} (h1 : 0 < y1) : u - u / y1 * y1 < y1 := by
  have hdm := Nat.div_add_mod u y1
  have hlt := Nat.mod_lt u h1
  have hc : y1 * (u / y1) = u / y1 * y1 := Nat.mul_comm ..
  generalize u / y1 = q at *
  omega
/-- The guess is too great: it goes down by one. -/
theorem q_step {u d y1 y0 q r : Nat} (h : QInv u d y1 y0 q r) (hu : u < y1 * 4294967296 + y0) (hd : d < 4294967296) (hc : 4294967296 ≤ q ∨ 4294967296 * r + d < q * y0) : 0 < q ∧ QInv u d y1 y0 (q - 1) (r + y1) := by
  obtain ⟨h1, h2⟩ := h
  have hbig : u * 4294967296 + d < q * (y1 * 4294967296 + y0) := by
    rcases hc with hc | hc
    · have h3 : (u + 1) * 4294967296 ≤ 4294967296 * (y1 * 4294967296 + y0) := by omega
      have h4 := Nat.mul_le_mul_right (y1 * 4294967296 + y0) hc
      omega
    · rw [← h1, q_split, Nat.mul_add]; omega
  have hq : 0 < q := by
    rcases Nat.eq_zero_or_pos q with e | e
    · subst e; simp at hbig
    · exact e
  refine ⟨hq, ?_, by rw [Nat.sub_add_cancel hq]; exact hbig⟩
  obtain ⟨k, rfl⟩ : ∃ k, q = k + 1 := ⟨q - 1, by omega⟩
  simp only [Nat.add_sub_cancel]
  rw [Nat.add_mul] at h1
  omega
theorem q_end {u d y1 y0 q r : Nat} (h : QInv u d y1 y0 q r) (hc : q * y0 ≤ 4294967296 * r + d) : q = (u * 4294967296 + d) / (y1 * 4294967296 + y0) ∧ q * (y1 * 4294967296 + y0) ≤ u * 4294967296 + d := by
  obtain ⟨h1, h2⟩ := h
  have h3 : q * (y1 * 4294967296 + y0) ≤ u * 4294967296 + d := by rw [← h1, q_split, Nat.mul_add]; omega
  refine ⟨?_, h3⟩
  have hp : 0 < y1 * 4294967296 + y0 := by
    rcases Nat.eq_zero_or_pos (y1 * 4294967296 + y0) with e | e
    · rw [e, Nat.mul_zero] at h2; omega
    · exact e
  exact ((Nat.div_eq_iff hp).2 ⟨h3, by rw [Nat.add_mul] at h2; omega⟩).symm
theorem q_break {q r d y0 : Nat} (hq : q ≤ 4294967296) (hr : 4294967296 ≤ r) (h0 : y0 < 4294967296) : q * y0 ≤ 4294967296 * r + d := by
  have h1 := Nat.mul_le_mul hq (Nat.le_of_lt h0)
  have h2 := Nat.mul_le_mul_left 4294967296 hr
  omega
/-- The normalized division: quotient and remainder out of two digits. -/
theorem div_two (B u d1 d0 y : Nat) (hy : 0 < y) :
    (u * (B * B) + (d1 * B + d0)) / y = (u * B + d1) / y * B + ((u * B + d1) % y * B + d0) / y ∧
    (u * (B * B) + (d1 * B + d0)) % y = ((u * B + d1) % y * B + d0) % y := by
  have h := Nat.div_add_mod (u * B + d1) y
  have e : u * (B * B) + (d1 * B + d0) = (u * B + d1) * B + d0 := by rw [Nat.add_mul, ← Nat.mul_assoc, Nat.add_assoc]
  rw [e]
  generalize (u * B + d1) % y = m at *
  generalize (u * B + d1) / y = q at *
  rw [← h]
  have e2 : (y * q + m) * B + d0 = (m * B + d0) + y * (q * B) := by
    rw [Nat.add_mul, Nat.mul_assoc]; omega
  rw [e2, Nat.add_mul_div_left _ _ hy, Nat.add_mul_mod_self_left]
  exact ⟨by omega, rfl⟩
/-- Shifting both does not change the quotient, and shifts the remainder. -/
theorem div_shift (a y s : Nat) : a * 2 ^ s / (y * 2 ^ s) = a / y ∧ a * 2 ^ s % (y * 2 ^ s) / 2 ^ s = a % y := by
  have hp : 0 < 2 ^ s := Nat.two_pow_pos s
  exact ⟨Nat.mul_div_mul_right _ _ hp, by rw [Nat.mul_mod_mul_right, Nat.mul_div_cancel _ hp]⟩
end Go.Proofs.YthnkfjjgccabeaaGreatDoor
