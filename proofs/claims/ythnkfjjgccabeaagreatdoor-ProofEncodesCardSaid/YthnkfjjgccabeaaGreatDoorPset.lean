/- Setups, commitments, claims, ranges and signatures, plainly. -/
import Derived.Test.YthnkfjjgccabeaaGreatDoorCyc
import Derived.Test.YthnkfjjgccabeaaGreatDoorCodp
namespace Go.Proofs.YthnkfjjgccabeaaGreatDoor

/-- A setup: its group, the bases, the blind. -/
structure SetD where
  P : Int
  Q : Int
  G : Int
  bs : List Int
  H : Int
/-- An equation, a claim, a clause. -/
structure EqD where
  target : Int
  terms : List (Int × Int)
structure ClaimD where
  vars : Int
  eqs : List EqD
structure ClauseD where
  need : Int
  claims : List ClaimD

theorem mod_of {Q a b m : Int} (h : a = b + Q * m) : a % Q = b % Q := by rw [h]; exact Int.add_mul_emod_self_left ..
def SetD.el (s : SetD) (x : Int) : Bool := subB s.P s.Q x
def SetD.base (s : SetD) (x : Int) : Bool := decide (x ≠ 1) && s.el x
/-- Whether a length is between two bounds. -/
def lenB (lo hi : Int) (n : Nat) : Bool := decide (lo ≤ (n : Int)) && decide ((n : Int) ≤ hi)
def SetD.valid (s : SetD) : Bool := validB s.P s.Q s.G && (lenB 2 7 s.bs.length && (s.base s.H && s.bs.all s.base))
def SetD.pw (s : SetD) (x k : Int) : Int := gPow s.P s.Q x k
def SetD.tm (s : SetD) (x y : Int) : Int := gTimes s.P s.Q x y
def SetD.ov (s : SetD) (x y : Int) : Int := gOver s.P s.Q x y
def SetD.com (s : SetD) (v r : Int) : Int := s.tm (s.pw s.G v) (s.pw s.H r)
def exB (q x : Int) : Bool := decide (0 ≤ x) && decide (x < q)

/-! ### signatures -/
def SetD.dareOf (s : SetD) (msg : List UInt8) (pub a : Int) : Int := numZ (Cod.textS msg ++ Cod.numsS [pub, a]) s.Q
def SetD.sigC (s : SetD) (x k : Int) (msg : List UInt8) : Int := s.dareOf msg (s.pw s.G x) (s.pw s.G k)
def SetD.sigS (s : SetD) (x k : Int) (msg : List UInt8) : Int := addZ s.Q k (mulZ s.Q (s.sigC x k msg) x)
def SetD.canSign (s : SetD) (x k : Int) : Bool := s.valid && (exB s.Q x && exB s.Q k)
def SetD.sigA (s : SetD) (pub c t : Int) : Int := s.ov (s.pw s.G t) (s.pw pub c)
def SetD.signed (s : SetD) (pub : Int) (msg : List UInt8) (c t : Int) : Bool :=
  s.valid && (s.el pub && (exB s.Q c && (exB s.Q t && decide (c = s.dareOf msg pub (s.sigA pub c t)))))

theorem SetD.cyc {s : SetD} (h : s.valid = true) : Cyc s.P s.Q s.G ∧ 5 ≤ s.Q ∧ s.P = 2 * s.Q + 1 ∧ s.Q < 1152921504606846976 ∧ 2 ≤ s.G ∧ s.G < s.P := by
  unfold SetD.valid at h
  rw [Bool.and_eq_true] at h
  exact Cyc.of_valid h.1
theorem Cyc.of_el {P Q x : Int} (hp : isMod P) (hq : isMod Q) (h2 : 2 ≤ P) (h : subB P Q x = true) : Cyc P Q x ∧ 1 ≤ x ∧ x < P := by
  unfold subB at h
  simp only [Bool.and_eq_true, decide_eq_true_eq] at h
  have := h.2.2
  rw [powZ_pos hp (by have := hq.1; omega)] at this
  exact ⟨⟨hp, hq, h2, this⟩, h.1, h.2.1⟩
theorem SetD.gen {s : SetD} (h : s.valid = true) (k : Int) : s.pw s.G k = gE s.P s.Q s.G k := by
  obtain ⟨hc, _, _, _, h4, h5⟩ := SetD.cyc h
  unfold SetD.pw
  have e := hc.gen (by omega) h5
  have := hc.gpow 1 k
  rw [e, Int.one_mul] at this
  exact this
theorem SetD.el_gen {s : SetD} (h : s.valid = true) (k : Int) : s.el (s.pw s.G k) = true := by
  rw [SetD.gen h]; exact (SetD.cyc h).1.sub k
theorem SetD.sigA_gen {s : SetD} (h : s.valid = true) (x c t : Int) : s.sigA (s.pw s.G x) c t = s.pw s.G (t - x * c) := by
  unfold SetD.sigA
  have hc := (SetD.cyc h).1
  rw [SetD.gen h, SetD.gen h, SetD.gen h]
  unfold SetD.pw SetD.ov
  rw [hc.gpow, hc.gover]
theorem SetD.pw_cong {s : SetD} {x j k : Int} (h : j % s.Q = k % s.Q) : s.pw x j = s.pw x k := by unfold SetD.pw gPow; rw [h]
theorem exB_iff {q x : Int} : exB q x = true ↔ 0 ≤ x ∧ x < q := by unfold exB; simp
theorem numF_in {n : Int} (hn : isMod n) : ∀ (l : List UInt8) (r : Int), 0 ≤ r ∧ r < n → 0 ≤ numF n r l ∧ numF n r l < n
  | [], _, h => h
  | _ :: l, _, _ => numF_in hn l _ (addZ_in hn _ _)
theorem numZ_in {n : Int} (hn : isMod n) (l : List UInt8) : 0 ≤ numZ l n ∧ numZ l n < n := by
  unfold numZ; rw [if_pos hn]
  exact numF_in hn _ _ ⟨by omega, by have := hn.1; omega⟩
theorem SetD.sigC_in {s : SetD} (h : s.valid = true) (x k : Int) (msg : List UInt8) : 0 ≤ s.sigC x k msg ∧ s.sigC x k msg < s.Q := numZ_in (SetD.cyc h).1.q _
theorem SetD.sigS_in {s : SetD} (h : s.valid = true) (x k : Int) (msg : List UInt8) : 0 ≤ s.sigS x k msg ∧ s.sigS x k msg < s.Q := addZ_in (SetD.cyc h).1.q _ _
theorem addZ_eq {n : Int} (hn : isMod n) (a b : Int) : addZ n a b = (a + b) % n := by unfold addZ; rw [if_pos hn]
theorem subZ_eq {n : Int} (hn : isMod n) (a b : Int) : subZ n a b = (a - b) % n := by unfold subZ; rw [if_pos hn]
theorem mulZ_eq {n : Int} (hn : isMod n) (a b : Int) : mulZ n a b = (a * b) % n := by unfold mulZ; rw [if_pos hn]
/-- The random number of a signature, out of it. -/
def SetD.sigK (s : SetD) (x c t : Int) : Int := subZ s.Q t (mulZ s.Q c x)
theorem SetD.sigK_mod {s : SetD} (h : s.valid = true) (x c t : Int) : s.sigK x c t % s.Q = (t - x * c) % s.Q := by
  have hq := (SetD.cyc h).1.q
  unfold SetD.sigK
  rw [subZ_eq hq, mulZ_eq hq, Int.emod_emod_of_dvd _ (Int.dvd_refl _), Int.mul_comm x c]
  refine mod_of (m := c * x / s.Q) ?_
  rw [Int.emod_def]
  omega
theorem SetD.sigK_in {s : SetD} (h : s.valid = true) (x c t : Int) : 0 ≤ s.sigK x c t ∧ s.sigK x c t < s.Q := by
  unfold SetD.sigK
  rw [subZ_eq (SetD.cyc h).1.q]; exact res_in _ _ (SetD.cyc h).1.q
/-- What Sign returns is accepted, and its random number comes out of it. -/
theorem SetD.sign_ok {s : SetD} {x k : Int} {msg : List UInt8} (h : s.canSign x k = true) :
    s.signed (s.pw s.G x) msg (s.sigC x k msg) (s.sigS x k msg) = true ∧ s.sigK x (s.sigC x k msg) (s.sigS x k msg) = k := by
  unfold SetD.canSign at h
  simp only [Bool.and_eq_true, exB_iff] at h
  obtain ⟨hv, hx, hk⟩ := h
  have hq := (SetD.cyc hv).1.q
  have e1 : (s.sigS x k msg - x * s.sigC x k msg) % s.Q = k % s.Q := by
    unfold SetD.sigS
    rw [addZ_eq hq, mulZ_eq hq]
    generalize s.sigC x k msg = c
    refine mod_of (m := -(c * x / s.Q) - (k + c * x % s.Q) / s.Q) ?_
    rw [Int.emod_def (k + c * x % s.Q), Int.mul_sub, Int.mul_neg, Int.mul_comm x c]
    have := Int.emod_def (c * x) s.Q
    omega
  have e2 : s.sigK x (s.sigC x k msg) (s.sigS x k msg) = k := by
    have h1 := SetD.sigK_mod hv x (s.sigC x k msg) (s.sigS x k msg)
    have h2 := SetD.sigK_in hv x (s.sigC x k msg) (s.sigS x k msg)
    rw [e1, Int.emod_eq_of_lt h2.1 h2.2, Int.emod_eq_of_lt hk.1 hk.2] at h1
    exact h1
  refine ⟨?_, e2⟩
  unfold SetD.signed
  rw [hv, SetD.el_gen hv, exB_iff.2 (SetD.sigC_in hv x k msg), exB_iff.2 (SetD.sigS_in hv x k msg), SetD.sigA_gen hv, SetD.pw_cong e1]
  simp [SetD.sigC]
/-- An accepted signature is what Sign returns for the only random number. -/
theorem SetD.signed_is {s : SetD} {x c t : Int} {msg : List UInt8} (hx : 0 ≤ x ∧ x < s.Q) (h : s.signed (s.pw s.G x) msg c t = true) :
    s.canSign x (s.sigK x c t) = true ∧ s.sigC x (s.sigK x c t) msg = c ∧ s.sigS x (s.sigK x c t) msg = t := by
  unfold SetD.signed at h
  simp only [Bool.and_eq_true, exB_iff, decide_eq_true_eq] at h
  obtain ⟨hv, _, hc, ht, he⟩ := h
  have hq := (SetD.cyc hv).1.q
  have e1 : s.sigC x (s.sigK x c t) msg = c := by
    unfold SetD.sigC
    rw [SetD.pw_cong (SetD.sigK_mod hv x c t), ← SetD.sigA_gen hv]
    exact he.symm
  refine ⟨?_, e1, ?_⟩
  · unfold SetD.canSign
    rw [hv, exB_iff.2 hx, exB_iff.2 (SetD.sigK_in hv x c t)]; rfl
  · unfold SetD.sigS
    rw [e1]
    unfold SetD.sigK
    rw [addZ_eq hq, subZ_eq hq, mulZ_eq hq]
    have : ((t - c * x % s.Q) % s.Q + c * x % s.Q) % s.Q = t % s.Q := by
      refine mod_of (m := -((t - c * x % s.Q) / s.Q)) ?_
      rw [Int.emod_def (t - c * x % s.Q), Int.mul_neg]
      omega
    rw [this, Int.emod_eq_of_lt ht.1 ht.2]
end Go.Proofs.YthnkfjjgccabeaaGreatDoor
