/- The laws of exponents modulo n. -/
import Derived.Test.YthnkfjjgccabeaaGreatDoorNum
namespace Go.Proofs.YthnkfjjgccabeaaGreatDoor

theorem cong_mul {a b c d n : Int} (h1 : a % n = b % n) (h2 : c % n = d % n) : a * c % n = b * d % n := by
  rw [Int.mul_emod, h1, h2, ← Int.mul_emod]
theorem cong_pow {a b n : Int} (h : a % n = b % n) (k : Nat) : a ^ k % n = b ^ k % n := by
  rw [← pow_emod a n k, h, pow_emod]
theorem pow_add' (a : Int) (j k : Nat) : a ^ (j + k) = a ^ j * a ^ k := Int.pow_add ..
theorem mul_pow' (a b : Int) : ∀ k : Nat, (a * b) ^ k = a ^ k * b ^ k
  | 0 => by simp
  | k + 1 => by
    rw [Int.pow_succ, Int.pow_succ, Int.pow_succ, mul_pow' a b k]
    rw [Int.mul_assoc, Int.mul_assoc, Int.mul_left_comm (b ^ k) a b]
theorem pow_one_mod {c n : Int} (h : c % n = 1 % n) (k : Nat) : c ^ k % n = 1 % n := by
  rw [cong_pow h k, Int.one_pow]
/-- The power with an exponent of any sign, x being the inverse. -/
def eZ (a x j : Int) : Int := if 0 ≤ j then a ^ j.natAbs else x ^ j.natAbs
theorem eZ_half {a x n : Int} (h : a * x % n = 1 % n) (p q : Nat) : a ^ (p + q) * x ^ q % n = a ^ p % n := by
  rw [pow_add', Int.mul_assoc, ← mul_pow', ← mul_emod_r, pow_one_mod h, mul_emod_r, Int.mul_one]
theorem eZ_add {a x n : Int} (h : a * x % n = 1 % n) (j k : Int) : eZ a x (j + k) % n = eZ a x j * eZ a x k % n := by
  have h' : x * a % n = 1 % n := by rw [Int.mul_comm]; exact h
  unfold eZ
  by_cases hj : 0 ≤ j <;> by_cases hk : 0 ≤ k
  · rw [if_pos (by omega), if_pos hj, if_pos hk, ← pow_add']; congr 2; omega
  · rw [if_pos hj, if_neg hk]
    by_cases hs : 0 ≤ j + k
    · rw [if_pos hs]
      have e : j.natAbs = (j + k).natAbs + k.natAbs := by omega
      rw [e, eZ_half h]
    · rw [if_neg hs]
      have e : k.natAbs = (j + k).natAbs + j.natAbs := by omega
      rw [e, Int.mul_comm, eZ_half h']
  · rw [if_neg hj, if_pos hk]
    by_cases hs : 0 ≤ j + k
    · rw [if_pos hs]
      have e : k.natAbs = (j + k).natAbs + j.natAbs := by omega
      rw [e, Int.mul_comm, eZ_half h]
    · rw [if_neg hs]
      have e : j.natAbs = (j + k).natAbs + k.natAbs := by omega
      rw [e, eZ_half h']
  · rw [if_neg (by omega), if_neg hj, if_neg hk, ← pow_add']; congr 2; omega
theorem eZ_zero (a x : Int) : eZ a x 0 = 1 := by simp [eZ]
theorem eZ_neg {a x n : Int} (h : a * x % n = 1 % n) (j : Int) : eZ a x j * eZ a x (-j) % n = 1 % n := by
  rw [← eZ_add h, Int.add_right_neg, eZ_zero]
theorem eZ_mulN {a x n : Int} (h : a * x % n = 1 % n) (j : Int) : ∀ k : Nat, eZ a x (j * k) % n = eZ a x j ^ k % n
  | 0 => by simp [eZ_zero]
  | k + 1 => by
    have e : j * ((k + 1 : Nat) : Int) = j * k + j := by rw [Int.natCast_add, Int.mul_add]; simp
    rw [e, eZ_add h, Int.pow_succ, ← mul_emod_l, eZ_mulN h j k, mul_emod_l]

theorem powZ_pos {n a b : Int} (hn : isMod n) (hb : 0 ≤ b) : powZ n a b = a ^ b.toNat % n := by
  unfold powZ; rw [if_pos hn, if_pos hb]
theorem powZ_some {n a b : Int} {x : Nat} (hn : isMod n) (hx : invZ n a = some x) : powZ n a b = eZ a x b % n := by
  unfold powZ eZ
  rw [if_pos hn]
  by_cases hb : 0 ≤ b
  · rw [if_pos hb, if_pos hb]; congr 2; omega
  · rw [if_neg hb, if_neg hb, hx]
theorem powZ_none {n a b : Int} (hx : invZ n a = none) (hb : b < 0) : powZ n a b = 0 := by
  unfold powZ
  by_cases hn : isMod n
  · rw [if_pos hn, if_neg (by omega), hx]
  · rw [if_neg hn]
theorem powZ_range {n a b : Int} (hn : isMod n) : 0 ≤ powZ n a b ∧ powZ n a b < n := by
  have h1 := hn.1
  unfold powZ
  rw [if_pos hn]
  split
  · exact ⟨Int.emod_nonneg _ (by omega), Int.emod_lt_of_pos _ (by omega)⟩
  · split
    · exact ⟨Int.emod_nonneg _ (by omega), Int.emod_lt_of_pos _ (by omega)⟩
    · exact ⟨by omega, by omega⟩
theorem powZ_add {n a j k : Int} (hn : isMod n) (h : invZ n a ≠ none ∨ (0 ≤ j ∧ 0 ≤ k)) : powZ n a (j + k) = powZ n a j * powZ n a k % n := by
  cases hx : invZ n a with
  | some x =>
    have hi := (invZ_some hx).2
    rw [powZ_some hn hx, powZ_some hn hx, powZ_some hn hx, eZ_add hi, mul_emod_l, mul_emod_r]
  | none =>
    obtain ⟨hj, hk⟩ : 0 ≤ j ∧ 0 ≤ k := by
      rcases h with h | h
      · exact absurd hx h
      · exact h
    rw [powZ_pos hn (by omega), powZ_pos hn hj, powZ_pos hn hk, mul_emod_l, mul_emod_r, ← pow_add']
    congr 2; omega
/-- The inverse of a power is the power with the opposite exponent. -/
theorem inv_pow {n a j : Int} {x : Nat} (hn : isMod n) (hx : invZ n a = some x) : ∃ y : Nat, invZ n (powZ n a j) = some y ∧ (y : Int) % n = eZ a x (-j) % n := by
  have hi := (invZ_some hx).2
  have hn1 := hn.1
  have h0 : 0 ≤ eZ a x (-j) % n := Int.emod_nonneg _ (by omega)
  have h1 : eZ a x (-j) % n < n := Int.emod_lt_of_pos _ (by omega)
  refine ⟨(eZ a x (-j) % n).toNat, invZ_is hn1 h0 h1 ?_, ?_⟩
  · rw [powZ_some hn hx, mul_emod_l, mul_emod_r, eZ_neg hi]
  · rw [Int.toNat_of_nonneg h0, Int.emod_emod_of_dvd _ (Int.dvd_refl n)]
theorem powZ_mul {n a j k : Int} (hn : isMod n) (h : invZ n a ≠ none ∨ (0 ≤ j ∧ 0 ≤ k)) : powZ n a (j * k) = powZ n (powZ n a j) k := by
  cases hx : invZ n a with
  | some x =>
    have hi := (invZ_some hx).2
    by_cases hk : 0 ≤ k
    · rw [powZ_pos hn hk, powZ_some hn hx, powZ_some hn hx, pow_emod, ← eZ_mulN hi, Int.toNat_of_nonneg hk]
    · obtain ⟨y, hy, hye⟩ := inv_pow (j := j) hn hx
      rw [powZ_some hn hx, powZ_some (a := powZ n a j) hn hy]
      have e : eZ (powZ n a j) y k = (y : Int) ^ k.natAbs := by unfold eZ; rw [if_neg hk]
      rw [e, cong_pow hye, ← eZ_mulN hi]
      have e2 : -j * (k.natAbs : Int) = j * k := by
        have : (k.natAbs : Int) = -k := by omega
        rw [this, Int.neg_mul_neg]
      rw [e2]
  | none =>
    obtain ⟨hj, hk⟩ : 0 ≤ j ∧ 0 ≤ k := by
      rcases h with h | h
      · exact absurd hx h
      · exact h
    rw [powZ_pos hn (Int.mul_nonneg hj hk), powZ_pos hn hk, powZ_pos hn hj, pow_emod, ← Int.pow_mul]
    congr 2
    exact Int.toNat_mul hj hk
end Go.Proofs.YthnkfjjgccabeaaGreatDoor
