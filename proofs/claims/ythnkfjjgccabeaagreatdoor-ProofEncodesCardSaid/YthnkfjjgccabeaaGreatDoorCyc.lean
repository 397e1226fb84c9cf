/- Powers of an element whose power with the exponent Q is 1. -/
import Derived.Test.YthnkfjjgccabeaaGreatDoorGrp2
namespace Go.Proofs.YthnkfjjgccabeaaGreatDoor

/-- The power of c with an exponent that counts modulo Q. -/
def gE (P Q c e : Int) : Int := c ^ (e % Q).toNat % P
/-- What a cyclic group needs. -/
structure Cyc (P Q c : Int) : Prop where
  p : isMod P
  q : isMod Q
  p2 : 2 ≤ P
  one : c ^ Q.toNat % P = 1
theorem gE_cong {P Q c e f : Int} (hh : e % Q = f % Q) : gE P Q c e = gE P Q c f := by unfold gE; rw [hh]
section
variable {P Q c : Int} (h : Cyc P Q c)
include h
theorem Cyc.one' : (1 : Int) % P = 1 := Int.emod_eq_of_lt (by omega) (by have := h.p2; omega)
theorem Cyc.cyc (k : Nat) : c ^ (Q.toNat * k) % P = 1 % P := by
  rw [Int.pow_mul]
  exact pow_one_mod (h.one.trans h.one'.symm) k
/-- Any exponent that is not negative. -/
theorem Cyc.nat (k : Nat) : c ^ k % P = gE P Q c k := by
  unfold gE
  have hq := h.q.1
  have e : k = (((k : Int) % Q).toNat) + Q.toNat * (k / Q.toNat) := by
    have h1 : (((k : Int) % Q).toNat) = k % Q.toNat := by
      have h2 : ((k : Int) % Q) = ((k % Q.toNat : Nat) : Int) := by rw [Int.natCast_emod, Int.toNat_of_nonneg (by omega)]
      omega
    rw [h1]
    exact (Nat.mod_add_div k Q.toNat).symm
  generalize hm : ((k : Int) % Q).toNat = m at *
  generalize k / Q.toNat = d at *
  subst e
  rw [pow_add', Int.mul_emod, h.cyc, ← Int.mul_emod, Int.mul_one]
theorem Cyc.in' (e : Int) : 0 ≤ gE P Q c e ∧ gE P Q c e < P := res_in P _ h.p
theorem Cyc.nn (e : Int) : 0 ≤ e % Q := Int.emod_nonneg _ (by have := h.q.1; omega)
theorem Cyc.add (e f : Int) : gE P Q c e * gE P Q c f % P = gE P Q c (e + f) := by
  have h1 := h.nn e
  have h2 := h.nn f
  have e1 : gE P Q c (e + f) = gE P Q c (((e % Q).toNat + (f % Q).toNat : Nat) : Int) := by
    refine gE_cong ?_
    rw [Int.natCast_add, Int.toNat_of_nonneg h1, Int.toNat_of_nonneg h2, ← Int.add_emod]
  rw [e1, ← h.nat, pow_add']
  unfold gE
  rw [mul_emod_l, mul_emod_r]
theorem Cyc.zero : gE P Q c 0 = 1 := by
  have := h.nat 0
  rw [show ((0 : Nat) : Int) = 0 from rfl] at this
  rw [← this, Int.pow_zero, h.one']
theorem Cyc.pow (e : Int) (k : Nat) : gE P Q c e ^ k % P = gE P Q c (e * k) := by
  induction k with
  | zero => rw [Int.pow_zero, h.one', show e * ((0 : Nat) : Int) = 0 by simp, h.zero]
  | succ k ih =>
    rw [Int.pow_succ, ← mul_emod_l, ih, h.add]
    congr 1
    rw [Int.natCast_add, Int.mul_add]; simp
theorem Cyc.inv (e : Int) : ∃ y : Nat, invZ P (gE P Q c e) = some y ∧ (y : Int) = gE P Q c (-e) := by
  obtain ⟨h0, h1⟩ := h.in' (-e)
  refine ⟨(gE P Q c (-e)).toNat, invZ_is h.p.1 h0 h1 ?_, Int.toNat_of_nonneg h0⟩
  rw [h.add, Int.add_right_neg, h.zero, h.one']
theorem Cyc.pos (e : Int) : 1 ≤ gE P Q c e := by
  obtain ⟨h0, _⟩ := h.in' e
  by_cases h1 : 0 < gE P Q c e
  · omega
  · exfalso
    have hz : gE P Q c e = 0 := by omega
    have := h.add e (-e)
    rw [hz, Int.zero_mul, Int.add_right_neg, h.zero, Int.zero_emod] at this
    omega
theorem Cyc.powZ (e k : Int) (hk : 0 ≤ k) : powZ P (gE P Q c e) k = gE P Q c (e * k) := by
  rw [powZ_pos h.p hk, h.pow, Int.toNat_of_nonneg hk]
theorem Cyc.powZ1 (e : Int) : Go.Proofs.YthnkfjjgccabeaaGreatDoor.powZ P (gE P Q c e) (-1) = gE P Q c (-e) := by
  obtain ⟨y, hy, hy2⟩ := h.inv e
  rw [powZ_some h.p hy]
  unfold eZ
  rw [if_neg (by omega), show (-1 : Int).natAbs = 1 from rfl, Int.pow_one, hy2]
  obtain ⟨h0, h1⟩ := h.in' (-e)
  exact Int.emod_eq_of_lt h0 h1
theorem Cyc.sub (e : Int) : subB P Q (gE P Q c e) = true := by
  obtain ⟨_, h1⟩ := h.in' e
  have h2 := h.pos e
  have hq := h.q.1
  unfold subB
  rw [decide_eq_true h2, decide_eq_true h1, h.powZ e Q (by omega), gE_cong (f := 0) (by rw [Int.mul_emod_left, Int.zero_emod]), h.zero]
  rfl
theorem Cyc.gpow (e k : Int) : gPow P Q (gE P Q c e) k = gE P Q c (e * k) := by
  unfold gPow
  rw [if_pos ⟨h.p, h.q⟩, h.powZ _ _ (h.nn k)]
  exact gE_cong (by rw [Int.mul_emod, Int.emod_emod_of_dvd _ (Int.dvd_refl Q), ← Int.mul_emod])
theorem Cyc.gtimes (e f : Int) : gTimes P Q (gE P Q c e) (gE P Q c f) = gE P Q c (e + f) := by
  unfold gTimes
  rw [if_pos ⟨h.p, h.q⟩]
  unfold mulZ
  rw [if_pos h.p, h.add]
theorem Cyc.gover (e f : Int) : gOver P Q (gE P Q c e) (gE P Q c f) = gE P Q c (e - f) := by
  unfold gOver
  rw [if_pos ⟨h.p, h.q⟩, h.powZ1]
  unfold mulZ
  rw [if_pos h.p, h.add, Int.sub_eq_add_neg]
end
theorem Cyc.of_valid {P Q G : Int} (hv : validB P Q G = true) : Cyc P Q G ∧ 5 ≤ Q ∧ P = 2 * Q + 1 ∧ Q < 1152921504606846976 ∧ 2 ≤ G ∧ G < P := by
  unfold validB subB at hv
  simp only [Bool.and_eq_true, decide_eq_true_eq] at hv
  obtain ⟨h1, h2, h3, h4, ⟨h5, h6, h7⟩, _, _⟩ := hv
  have hp : isMod P := ⟨by omega, by omega⟩
  refine ⟨⟨hp, ⟨by omega, by omega⟩, by omega, ?_⟩, h1, h3, h2, h4, h6⟩
  rw [powZ_pos hp (by omega)] at h7
  exact h7
/-- The generator is the power with the exponent 1. -/
theorem Cyc.gen {P Q G : Int} (h : Cyc P Q G) (h0 : 0 ≤ G) (h1 : G < P) : gE P Q G 1 = G := by
  have := h.nat 1
  rw [show ((1 : Nat) : Int) = 1 from rfl] at this
  rw [← this, Int.pow_one, Int.emod_eq_of_lt h0 h1]
end Go.Proofs.YthnkfjjgccabeaaGreatDoor
