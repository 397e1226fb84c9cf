/- Setups, commitments, claims, ranges and signatures, plainly. -/
import Derived.Test.YtmgamngdmhnffaaGreatDoorCyc
import Derived.Test.YtmgamngdmhnffaaGreatDoorCodp
namespace Go.Proofs.YtmgamngdmhnffaaGreatDoor

/-- A setup: its group, the bases, the blind. -/
structure SetD where
  P : Int
  Q : Int
  G : Int
  bs : List Int
  H : Int
/-- An equation, a claim, a clause. -/
structure EqD where
  target : Int
  terms : List (Int × Int)
structure ClaimD where
  vars : Int
  eqs : List EqD
structure ClauseD where
  need : Int
  claims : List ClaimD

theorem mod_of {Q a b m : Int} (h : a = b + Q * m) : a % Q = b % Q := by rw [h]; exact Int.add_mul_emod_self_left ..
def SetD.el (s : SetD) (x : Int) : Bool := subB s.P s.Q x
def SetD.base (s : SetD) (x : Int) : Bool := decide (x ≠ 1) && s.el x
/-- Whether a length is between two bounds. -/
def lenB (lo hi : Int) (n : Nat) : Bool := decide (lo ≤ (n : Int)) && decide ((n : Int) ≤ hi)
def SetD.valid (s : SetD) : Bool := validB s.P s.Q s.G && (lenB 2 7 s.bs.length && (s.base s.H && s.bs.all s.base))
def SetD.pw (s : SetD) (x k : Int) : Int := gPow s.P s.Q x k
def SetD.tm (s : SetD) (x y : Int) : Int := gTimes s.P s.Q x y
def SetD.ov (s : SetD) (x y : Int) : Int := gOver s.P s.Q x y
def SetD.com (s : SetD) (v r : Int) : Int := s.tm (s.pw s.G v) (s.pw s.H r)
def exB (q x : Int) : Bool := decide (0 ≤ x) && decide (x < q)

/-! ### signatures -/
theorem SetD.cyc {s : SetD} (h : s.valid = true) : Cyc s.P s.Q s.G ∧ 5 ≤ s.Q ∧ s.P = 2 * s.Q + 1 ∧ s.Q < 1152921504606846976 ∧ 2 ≤ s.G ∧ s.G < s.P := by
  unfold SetD.valid at h
  rw [Bool.and_eq_true] at h
  exact Cyc.of_valid h.1
theorem Cyc.of_el {P Q x : Int} (hp : isMod P) (hq : isMod Q) (h2 : 2 ≤ P) (h : subB P Q x = true) : Cyc P Q x ∧ 1 ≤ x ∧ x < P := by
  unfold subB at h
  simp only [Bool.and_eq_true, decide_eq_true_eq] at h
  have := h.2.2
  rw [powZ_pos hp (by have := hq.1; omega)] at this
  exact ⟨⟨hp, hq, h2, this⟩, h.1, h.2.1⟩
theorem SetD.gen {s : SetD} (h : s.valid = true) (k : Int) : s.pw s.G k = gE s.P s.Q s.G k := by
  obtain ⟨hc, _, _, _, h4, h5⟩ := SetD.cyc h
  unfold SetD.pw
  have e := hc.gen (by omega) h5
  have := hc.gpow 1 k
  rw [e, Int.one_mul] at this
  exact this
theorem SetD.el_gen {s : SetD} (h : s.valid = true) (k : Int) : s.el (s.pw s.G k) = true := by
  rw [SetD.gen h]; exact (SetD.cyc h).1.sub k
theorem SetD.pw_cong {s : SetD} {x j k : Int} (h : j % s.Q = k % s.Q) : s.pw x j = s.pw x k := by unfold SetD.pw gPow; rw [h]
theorem exB_iff {q x : Int} : exB q x = true ↔ 0 ≤ x ∧ x < q := by unfold exB; simp
theorem addZ_eq {n : Int} (hn : isMod n) (a b : Int) : addZ n a b = (a + b) % n := by unfold addZ; rw [if_pos hn]
theorem subZ_eq {n : Int} (hn : isMod n) (a b : Int) : subZ n a b = (a - b) % n := by unfold subZ; rw [if_pos hn]
theorem mulZ_eq {n : Int} (hn : isMod n) (a b : Int) : mulZ n a b = (a * b) % n := by unfold mulZ; rw [if_pos hn]
end Go.Proofs.YtmgamngdmhnffaaGreatDoor
