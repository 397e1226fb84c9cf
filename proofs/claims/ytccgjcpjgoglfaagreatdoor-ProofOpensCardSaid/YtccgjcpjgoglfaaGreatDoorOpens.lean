/- ProofOpens, in plain numbers. -/
import Derived.Test.YtccgjcpjgoglfaaGreatDoorLessA
import Derived.BigQuiet
import Derived.Deep.Grids
namespace Go.Proofs.YtccgjcpjgoglfaaGreatDoor
open Go.RowKit

theorem SetD.ov_back {s : SetD} {x y : Int} (hy : Cyc s.P s.Q y) (hy0 : 0 ≤ y) (hy1 : y < s.P) (hx : 0 ≤ x ∧ x < s.P) : s.ov x y * y % s.P = x := by
  have hg := hy.gen hy0 hy1
  have hi := hy.powZ1 1
  rw [hg] at hi
  have e : s.ov x y = x * gE s.P s.Q y (-1) % s.P := by
    unfold SetD.ov gOver
    rw [if_pos ⟨hy.p, hy.q⟩, hi]
    unfold mulZ
    rw [if_pos hy.p]
  rw [e, mul_emod_l, Int.mul_assoc]
  have ha := hy.add (-1) 1
  rw [hg, show (-1 : Int) + 1 = 0 by omega, hy.zero] at ha
  rw [← mul_emod_r, ha, Int.mul_one, Int.emod_eq_of_lt hx.1 hx.2]
section
variable {s : SetD} (h : s.valid = true)
include h
theorem SetD.tm_eq (a b : Int) : s.tm a b = a * b % s.P := by
  have hc := (SetD.cyc h).1
  unfold SetD.tm gTimes
  rw [if_pos ⟨hc.p, hc.q⟩]
  unfold mulZ
  rw [if_pos hc.p]
theorem SetD.pw_eq (x k : Int) : s.pw x k = gE s.P s.Q x k := by
  have hc := (SetD.cyc h).1
  unfold SetD.pw gPow gE
  rw [if_pos ⟨hc.p, hc.q⟩, powZ_pos hc.p (hc.nn k)]
theorem SetD.cycH : Cyc s.P s.Q s.H := by
  have hc := (SetD.cyc h).1
  have h' := h
  unfold SetD.valid SetD.base at h'
  simp only [Bool.and_eq_true] at h'
  exact (Cyc.of_el hc.p hc.q hc.p2 h'.2.2.1.2).1
theorem SetD.com_eq (v r : Int) : s.com v r = gE s.P s.Q s.G v * gE s.P s.Q s.H r % s.P := by
  unfold SetD.com
  rw [SetD.tm_eq h, SetD.pw_eq h, SetD.pw_eq h]
theorem SetD.com_in (v r : Int) : 0 ≤ s.com v r ∧ s.com v r < s.P := by
  rw [SetD.com_eq h]; exact res_in _ _ (SetD.cyc h).1.p
theorem SetD.com_mul (v r v' r' : Int) : s.com v r * s.com v' r' % s.P = s.com (v + v') (r + r') := by
  rw [SetD.com_eq h, SetD.com_eq h, SetD.com_eq h, ← (SetD.cyc h).1.add, ← (SetD.cycH h).add, ← Int.mul_emod, ← Int.mul_emod]
  congr 1
  ac_rfl
theorem SetD.com_zero : s.com 0 0 = 1 := by
  rw [SetD.com_eq h, (SetD.cyc h).1.zero, (SetD.cycH h).zero, Int.mul_one, (SetD.cyc h).1.one']
theorem SetD.com_pow (v r : Int) (k : Nat) : s.com v r ^ k % s.P = s.com (v * k) (r * k) := by
  induction k with
  | zero => rw [Int.pow_zero, (SetD.cyc h).1.one', show ((0 : Nat) : Int) = 0 from rfl, Int.mul_zero, Int.mul_zero, SetD.com_zero h]
  | succ k ih =>
    rw [Int.pow_succ, ← mul_emod_l, ih, SetD.com_mul h, Int.natCast_add, Int.mul_add, Int.mul_add]
    simp
theorem SetD.com_cong {v v' r r' : Int} (hv : v % s.Q = v' % s.Q) (hr : r % s.Q = r' % s.Q) : s.com v r = s.com v' r' := by
  rw [SetD.com_eq h, SetD.com_eq h, gE_cong hv, gE_cong hr]
theorem SetD.com_cyc (v r : Int) : Cyc s.P s.Q (s.com v r) := by
  have hc := (SetD.cyc h).1
  refine ⟨hc.p, hc.q, hc.p2, ?_⟩
  have hq := hc.q.1
  rw [SetD.com_pow h, Int.toNat_of_nonneg (by omega), SetD.com_cong h (v' := 0) (r' := 0) (by rw [Int.mul_emod_left, Int.zero_emod]) (by rw [Int.mul_emod_left, Int.zero_emod]), SetD.com_zero h]
theorem SetD.pw_com (v r j : Int) : s.pw (s.com v r) j = s.com (v * j) (r * j) := by
  have hc := (SetD.cyc h).1
  rw [SetD.pw_eq h]
  unfold gE
  rw [SetD.com_pow h, Int.toNat_of_nonneg (hc.nn j)]
  exact SetD.com_cong h (by rw [Int.mul_emod, Int.emod_emod_of_dvd _ (Int.dvd_refl _), ← Int.mul_emod]) (by rw [Int.mul_emod, Int.emod_emod_of_dvd _ (Int.dvd_refl _), ← Int.mul_emod])
theorem SetD.com_G : s.com 1 0 = s.G := by
  obtain ⟨hc, _, _, _, h4, h5⟩ := SetD.cyc h
  rw [SetD.com_eq h, (SetD.cycH h).zero, hc.gen (by omega) h5, Int.mul_one, Int.emod_eq_of_lt (by omega) h5]
end
theorem SetD.el_in {s : SetD} {x : Int} (h : s.el x = true) : 0 ≤ x ∧ x < s.P := by
  unfold SetD.el subB at h
  simp only [Bool.and_eq_true, decide_eq_true_eq] at h
  omega
/-- A power of H, known by its exponent. -/
theorem SetD.pob_holds {s : SetD} {x v : Int} (hh : s.HoldsF (s.pob x) [v] = true) : s.valid = true ∧ x = s.com 0 v := by
  unfold SetD.HoldsF at hh
  simp only [Bool.and_eq_true] at hh
  obtain ⟨hv, -, -, h4⟩ := hh
  have h5 : s.tm 1 (s.pw s.H v) = x := by
    unfold SetD.holdsF SetD.pob at h4
    simpa [SetD.eqB, SetD.prodF] using h4
  refine ⟨hv, ?_⟩
  rw [← h5]
  unfold SetD.com
  rw [SetD.pw_eq hv s.G, (SetD.cyc hv).1.zero]
/-- A bit that is opened. -/
theorem SetD.bit_open {s : SetD} {bit val : Int} (b : Bool) (hel : s.el bit = true) (hh : s.HoldsF (bif b then s.pob (s.ov bit s.G) else s.pob bit) [val] = true) :
    bit = s.com (bif b then 1 else 0) val := by
  cases b
  · exact (SetD.pob_holds hh).2
  · obtain ⟨hv, h2⟩ := SetD.pob_holds hh
    obtain ⟨hc, _, _, _, h4, h5⟩ := SetD.cyc hv
    have h6 := SetD.ov_back hc (by omega) h5 (SetD.el_in hel)
    rw [h2] at h6
    have h7 := SetD.com_mul hv 0 val 1 0
    rw [SetD.com_G hv, h6] at h7
    rw [h7]
    simp
/-- One step of the product. -/
theorem SetD.step_open {s : SetD} (hv : s.valid = true) (v r b val : Int) (k : Nat) :
    s.tm (s.com v r) (s.pw (s.com b val) (2 ^ k)) = s.com (v + b * 2 ^ k) (addZ s.Q r (mulZ s.Q val (2 ^ k))) := by
  have hq := (SetD.cyc hv).1.q
  rw [SetD.tm_eq hv, SetD.pw_com hv, SetD.com_mul hv]
  refine SetD.com_cong hv rfl ?_
  rw [addZ_eq hq, mulZ_eq hq, Int.emod_emod_of_dvd _ (Int.dvd_refl _), Int.add_emod r (val * 2 ^ k % s.Q), Int.emod_emod_of_dvd _ (Int.dvd_refl _), ← Int.add_emod]
/-- The end. -/
theorem SetD.end_open {s : SetD} {c v r val : Int} (hc : s.el c = true) (hh : s.HoldsF (s.pob (s.ov c (s.com v r))) [val] = true) : s.com v (addZ s.Q r val) = c := by
  obtain ⟨hv, h2⟩ := SetD.pob_holds hh
  have hi := SetD.com_in hv v r
  have h3 := SetD.ov_back (SetD.com_cyc hv v r) hi.1 hi.2 (SetD.el_in hc)
  rw [h2, SetD.com_mul hv] at h3
  rw [← h3]
  have hq := (SetD.cyc hv).1.q
  refine SetD.com_cong hv (by rw [Int.zero_add]) ?_
  rw [addZ_eq hq, Int.emod_emod_of_dvd _ (Int.dvd_refl _), Int.add_comm]
end Go.Proofs.YtccgjcpjgoglfaaGreatDoor
