/- The sanity function: its numbers, and its calls. -/
import Derived.Test.YthnkfjjgccabeaaGreatDoorDecA
import Derived.Test.YthnkfjjgccabeaaGreatDoorRows
import Derived.ProofKit
import Derived.HandedShaped
import Derived.LaidMore
import Derived.OpenShut
import Derived.Stop.Joined
import Derived.Lib.LaidTab
import Derived.Stop.LaidErr
import Derived.Shelf.Vars
import Derived.Lay
import Derived.Deep.Slices
import Derived.Deep.Fields
import Derived.ChangeSame
import Derived.Lib.SmallJoins
import Derived.WideKeyArgs
import Derived.Carry
namespace Go.Proofs.YthnkfjjgccabeaaGreatDoor
open Go.RowKit

theorem x_ints : exS.ints := ⟨(show isInt 23 by unfold isInt; omega), (show isInt 11 by unfold isInt; omega), (show isInt 4 by unfold isInt; omega), (show isInt 12 by unfold isInt; omega), by
  intro x hx
  have hx : x ∈ [(16 : Int), 18] := hx
  simp only [List.mem_cons, List.not_mem_nil, or_false] at hx
  unfold isInt
  omega, by decide⟩
theorem x_weigh : exS.weighV [4, 4] = .tuple #[.int .i64 18, .bool true] := by
  unfold SetD.weighV; rw [if_pos (by decide +kernel), show exS.weigh [4, 4] = 18 by decide +kernel]
theorem x_split : exS.canSplit 2 [1, 2] = true := by decide +kernel
theorem x_splitB : exS.splitB 2 [1, 2] = [12, 1] := by decide +kernel
theorem x_splitK : exS.splitK 2 [1, 2] = [[⟨true, [1]⟩, ⟨false, []⟩], [⟨false, []⟩, ⟨true, [2]⟩]] := by kernel_rfl
theorem x_valid' : exS.valid = true := by decide +kernel
theorem x_com : exS.com 2 3 = 2 := by decide +kernel
theorem x_range : exS.rangeF 2 [12, 1] = [⟨1, exS.bitC 12⟩, ⟨1, exS.bitC 1⟩, ⟨1, [⟨1, [⟨4, [(0, 12)]⟩]⟩]⟩] := by kernel_rfl
theorem x_rest : exS.restF 3 [1, 2] = 9 := by
  unfold SetD.restF; rw [if_pos ⟨x_valid', by decide⟩]; decide +kernel
theorem x_sign : exS.canSign 3 5 = true := by decide +kernel
theorem x_pub : exS.pw exS.G 3 = 18 := by decide +kernel
def exC : ClaimD := ⟨1, [⟨4, [(0, 12)]⟩]⟩
theorem x_holds : exS.HoldsF exC [9] = true := by decide +kernel
theorem x_cints : exC.ints := by
  refine ⟨show isInt 1 by unfold isInt; omega, by decide, fun e he => ?_⟩
  simp only [exC, List.mem_cons, List.not_mem_nil, or_false] at he
  subst he
  refine ⟨show isInt 4 by unfold isInt; omega, by decide, fun t ht => ?_⟩
  simp only [List.mem_cons, List.not_mem_nil, or_false] at ht
  subst ht
  exact ⟨show isInt 0 by unfold isInt; omega, show isInt 12 by unfold isInt; omega⟩
def exP : ProofD := ⟨[[4]], [[[5, 6]]]⟩
theorem x_enc : exP.encF = [1, 1, 4, 2, 5, 6] := by decide
theorem x_len : (Cod.numsS [1, 1, 4, 2, 5, 6]).length ≤ 100 := by decide +kernel
theorem x_shape : exP.shape = true := by decide
theorem x_dec : decF (Cod.numsS [1, 1, 4, 2, 5, 6]) = some exP := by
  have h := Cod.numsF_write [1, 1, 4, 2, 5, 6] [] (by intro a ha; simp only [List.mem_cons, List.not_mem_nil, or_false] at ha; unfold Cod.isInt; omega) (by decide)
  rw [List.append_nil] at h
  unfold decF
  rw [h]
  decide
def hello : List UInt8 := [104, 101, 108, 108, 111]
theorem int_small {x : Int} (h : -100 ≤ x ∧ x ≤ 100) : isInt x := by unfold isInt; omega

theorem sigC_int (s : SetD) (x k : Int) (m : List UInt8) : isInt (s.sigC x k m) := numZ_int _ _
theorem sigS_int (s : SetD) (x k : Int) (m : List UInt8) : isInt (s.sigS x k m) := addZ_int _ _ _
/-! ### its calls -/
section
variable {w : World} {vb v : Value}
theorem l_example (w : World) : Calls Tryz.prog 12 #[] w fun e w' => ∃ a c, e = .returned (.agg #[.int .i64 23, .int .i64 11, .int .i64 4, .slice a 2 c, .int .i64 12]) ∧ IsNums (.slice a 2 c) [16, 18] w' ∧ Below w.heap.size w w' := example_calls w
theorem l_weigh (hE : Envs w) (hb : IsNums vb [16, 18] w) (hv : IsNums v [4, 4] w) :
    Calls Tryz.prog 13 #[.agg #[.int .i64 23, .int .i64 11, .int .i64 4, vb, .int .i64 12], v] w fun e w' => e = .returned (.tuple #[.int .i64 18, .bool true]) ∧ Below w.heap.size w w' := by
  have h := weigh_calls exS x_ints vb v [4, 4] (by intro x hx; simp at hx; subst hx; exact int_small (by omega)) (by decide) w hE.f hb hv
  rw [x_weigh] at h
  exact h
theorem l_split (hE : Envs w) (hb : IsNums vb [16, 18] w) (hv : IsNums v [1, 2] w) :
    Calls Tryz.prog 14 #[.agg #[.int .i64 23, .int .i64 11, .int .i64 4, vb, .int .i64 12], .int .i64 2, v] w fun e w' => ∃ u1 u2, e = .returned (.tuple #[u1, u2, .bool true]) ∧ IsNums u1 [12, 1] w' ∧ IsKnow 0 u2 [[⟨true, [1]⟩, ⟨false, []⟩], [⟨false, []⟩, ⟨true, [2]⟩]] w' ∧ Below w.heap.size w w' := by
  refine (split_calls exS x_ints vb v 2 (int_small (by omega)) [1, 2] (by intro x hx; simp at hx; exact int_small (by omega)) (by decide) w hE.f hb hv).mono ?_
  rintro e w' ⟨u1, u2, h1, h2, h3, h4⟩
  rw [x_split] at h1
  rw [x_splitB] at h2
  rw [x_splitK] at h3
  exact ⟨u1, u2, h1, h2.nums, IsSl.low h3 (Nat.zero_le _) fun _ _ _ ⟨u, g1, g2⟩ => ⟨u, g1, g2.low (Nat.zero_le _)⟩, h4⟩
theorem l_com (hE : Envs w) (hb : IsNums vb [16, 18] w) :
    Calls Tryz.prog 16 #[.agg #[.int .i64 23, .int .i64 11, .int .i64 4, vb, .int .i64 12], .int .i64 2, .int .i64 3] w fun e w' => e = .returned (.int .i64 2) ∧ Below w.heap.size w w' := by
  have h := com_calls exS x_ints vb 2 3 (int_small (by omega)) (int_small (by omega)) w hE.f hb
  rw [if_pos x_valid', x_com] at h
  exact h
theorem l_range (hE : Envs w) (hb : IsNums vb [16, 18] w) (hv : IsNums v [12, 1] w) :
    Calls Tryz.prog 15 #[.agg #[.int .i64 23, .int .i64 11, .int .i64 4, vb, .int .i64 12], .int .i64 2, v] w fun e w' => ∃ a c, e = .returned (.slice a 3 c) ∧ IsGoal 0 (.slice a 3 c) [⟨1, exS.bitC 12⟩, ⟨1, exS.bitC 1⟩, ⟨1, [exC]⟩] w' ∧ Below w.heap.size w w' := by
  refine (range_calls exS x_ints vb v 2 (int_small (by omega)) [12, 1] (by intro x hx; simp at hx; exact int_small (by omega)) (by decide) w hE.f hb hv).mono ?_
  rintro e w' ⟨u, h1, h2, h3⟩
  rw [x_range] at h2
  obtain ⟨a, c, rfl⟩ := IsSl.len h2
  exact ⟨a, c, h1, h2.low (Nat.zero_le _), h3⟩
theorem l_rest (hE : Envs w) (hb : IsNums vb [16, 18] w) (hv : IsNums v [1, 2] w) :
    Calls Tryz.prog 18 #[.agg #[.int .i64 23, .int .i64 11, .int .i64 4, vb, .int .i64 12], .int .i64 3, v] w fun e w' => e = .returned (.int .i64 9) ∧ Below w.heap.size w w' := by
  have h := rest_calls exS x_ints vb v 3 (int_small (by omega)) [1, 2] (by intro x hx; simp at hx; exact int_small (by omega)) (by decide) w hE.f hb hv
  rw [x_rest] at h
  exact h
/-- The signature of the example. -/
def ExSig (C T : Int) : Prop := isInt C ∧ isInt T ∧ exS.signed 18 hello C T = true
theorem l_sign (hE : Envs w) (hb : IsNums vb [16, 18] w) :
    Calls Tryz.prog 19 #[.agg #[.int .i64 23, .int .i64 11, .int .i64 4, vb, .int .i64 12], .int .i64 3, .int .i64 5, .string { data := #[104, 101, 108, 108, 111] }] w fun e w' => ∃ C T, e = .returned (.tuple #[.agg #[.int .i64 C, .int .i64 T], .bool true]) ∧ ExSig C T ∧ Below w.heap.size w w' := by
  refine (sign_calls exS x_ints vb 3 5 (int_small (by omega)) (int_small (by omega)) hello (by decide) w hE hb).mono ?_
  rintro e w' ⟨h1, h2⟩
  unfold SetD.sigV at h1
  rw [if_pos x_sign] at h1
  have h3 := (SetD.sign_ok (msg := hello) x_sign).1
  have h4 : isInt (exS.sigC 3 5 hello) := sigC_int _ _ _ _
  have h5 : isInt (exS.sigS 3 5 hello) := sigS_int _ _ _ _
  rw [x_pub] at h3
  generalize exS.sigC 3 5 hello = C at *
  generalize exS.sigS 3 5 hello = T at *
  exact ⟨C, T, h1, ⟨h4, h5, h3⟩, h2⟩
theorem l_signed {C T : Int} (h : ExSig C T) (hE : Envs w) (hb : IsNums vb [16, 18] w) :
    Calls Tryz.prog 21 #[.agg #[.int .i64 23, .int .i64 11, .int .i64 4, vb, .int .i64 12], .int .i64 18, .string { data := #[104, 101, 108, 108, 111] }, .agg #[.int .i64 C, .int .i64 T]] w fun e w' => e = .returned (.bool true) ∧ Below w.heap.size w w' := by
  have k := signed_calls exS x_ints vb 18 C T (int_small (by omega)) h.1 h.2.1 hello (by decide) w hE hb
  rw [h.2.2] at k
  exact k
theorem l_holds {u : Value} (hE : Envs w) (hb : IsNums vb [16, 18] w) (hu : IsEqs 0 u exC.eqs w) (hv : IsNums v [9] w) :
    Calls Tryz.prog 20 #[.agg #[.int .i64 23, .int .i64 11, .int .i64 4, vb, .int .i64 12], .agg #[.int .i64 1, u], v] w fun e w' => e = .returned (.bool true) ∧ Below w.heap.size w w' := by
  have k := Holds_calls exS x_ints vb exC x_cints [9] (by intro x hx; simp at hx; subst hx; exact int_small (by omega)) (by decide) u v w hE.f hb hu hv
  rw [x_holds] at k
  exact k
theorem x_ok : exP.ok := by
  have h4 : okL [(4 : Int)] := by unfold okL; decide
  have h5 : okL [(5 : Int), 6] := by unfold okL; decide
  refine ⟨⟨by unfold okL; decide, ?_⟩, ⟨by unfold okL; decide, ?_⟩⟩
  · intro x hx; simp [exP] at hx; subst hx; exact h4
  · intro x hx; simp [exP] at hx; subst hx
    exact ⟨by unfold okL; decide, by intro y hy; simp at hy; subst hy; exact h5⟩
theorem l_encode (hE : Envs w) {vp : Value} (hp : exP.Is 0 vp w) :
    Calls Tryz.prog 7 #[vp] w fun e w' => e = .returned (.tuple #[.string (bs (Cod.numsS [1, 1, 4, 2, 5, 6])), .bool true]) ∧ Below w.heap.size w w' := by
  have h := encode_calls exP vp x_ok (by rw [x_enc]; decide) (by rw [x_enc]; intro x hx; simp only [List.mem_cons, List.not_mem_nil, or_false] at hx; exact int_small (by omega)) (by rw [x_enc]; exact Nat.le_trans x_len (by decide)) w hE.c hp
  rw [if_pos x_shape, x_enc] at h
  exact h
theorem l_decode (hE : Envs w) :
    Calls Tryz.prog 8 #[.string (bs (Cod.numsS [1, 1, 4, 2, 5, 6]))] w fun e w' => ∃ vd va, e = .returned (.tuple #[.agg #[vd, va], .bool true]) ∧ exP.Is 0 (.agg #[vd, va]) w' ∧ Below w.heap.size w w' := by
  refine (decode_calls (Cod.numsS [1, 1, 4, 2, 5, 6]) (Nat.le_trans x_len (by decide)) w hE.c).mono ?_
  rintro e w' ⟨v, h1, h2, h3⟩
  rw [x_dec] at h1 h2
  have h2 : exP.Is 0 v w' := h2
  obtain ⟨vd, va, rfl, h4⟩ := id h2
  exact ⟨vd, va, h1, h2, h3⟩
theorem l_sameproof {vp vq : Value} (hp : exP.Is 0 vp w) (hq : exP.Is 0 vq w) :
    Calls Tryz.prog 9 #[vp, vq] w fun e w' => e = .returned (.bool true) ∧ Below w.heap.size w w' := by
  have h := sameproof_calls exP exP vp vq x_ok x_ok w hp hq
  rw [decide_eq_true rfl] at h
  exact h
end
end Go.Proofs.YthnkfjjgccabeaaGreatDoor
/- The sanity function returns true. -/
namespace Go.Proofs.YthnkfjjgccabeaaGreatDoor
open Go.RowKit

/-- The setup's block, its bases, and what the call has kept. -/
structure Lx (w : World) (g : Nat) (vb : Value) (x : World) : Prop where
  s : Blk x g 34 #[.int .i64 23, .int .i64 11, .int .i64 4, vb, .int .i64 12]
  n : IsNums vb [16, 18] x
  b : Below w.heap.size w x
theorem Lx.next {w : World} {g : Nat} {vb : Value} {x x' : World} (h : Lx w g vb x) (hb : Below x.heap.size x x') : Lx w g vb x' := ⟨h.s.next hb, h.n.next hb, h.b.trans (hb.mono h.b.size)⟩
theorem Lx.get {w : World} {g : Nat} {vb : Value} {x : World} (h : Lx w g vb x) : x.cell? ⟨g, 0, none⟩ = some (.int .i64 23) ∧ x.cell? ⟨g, 1, none⟩ = some (.int .i64 11) ∧ x.cell? ⟨g, 2, none⟩ = some (.int .i64 4) ∧ x.cell? ⟨g, 3, none⟩ = some vb ∧ x.cell? ⟨g, 4, none⟩ = some (.int .i64 12) :=
  ⟨h.s.cell 0, h.s.cell 1, h.s.cell 2, h.s.cell 3, h.s.cell 4⟩
theorem IsKnow.hi {lo : Nat} {v : Value} {xs : List (List KnowD)} {w w' : World} (h : IsKnow lo v xs w) (hb : Hi lo w w') : IsKnow lo v xs w' := IsSl.hi h (KnowsAt.keeps lo) hb
theorem nums_lit2 (w : World) (x y : Int) : IsNums (.slice (some ⟨w.heap.size, 0, none⟩) 2 2) [x, y] (w.alloc (.cells #[.int .i64 x, .int .i64 y] 3)) := nums_two w x y

theorem lit_proof (w : World) (n : Nat) (hn : w.heap.size = n) :
    exP.Is 0 (.agg #[.slice (some ⟨n + 1, 0, none⟩) 1 1, .slice (some ⟨n + 1 + 1 + 1 + 1, 0, none⟩) 1 1]) (((((w.alloc (.cells #[.int .i64 4] 3)).alloc (.cells #[.slice (some ⟨n, 0, none⟩) 1 1] 32)).alloc (.cells #[.int .i64 5, .int .i64 6] 3)).alloc (.cells #[.slice (some ⟨n + 1 + 1, 0, none⟩) 2 2] 32)).alloc (.cells #[.slice (some ⟨n + 1 + 1 + 1, 0, none⟩) 1 1] 22)) ∧ Below w.heap.size w (((((w.alloc (.cells #[.int .i64 4] 3)).alloc (.cells #[.slice (some ⟨n, 0, none⟩) 1 1] 32)).alloc (.cells #[.int .i64 5, .int .i64 6] 3)).alloc (.cells #[.slice (some ⟨n + 1 + 1, 0, none⟩) 2 2] 32)).alloc (.cells #[.slice (some ⟨n + 1 + 1 + 1, 0, none⟩) 1 1] 22)) ∧ (((((w.alloc (.cells #[.int .i64 4] 3)).alloc (.cells #[.slice (some ⟨n, 0, none⟩) 1 1] 32)).alloc (.cells #[.int .i64 5, .int .i64 6] 3)).alloc (.cells #[.slice (some ⟨n + 1 + 1, 0, none⟩) 2 2] 32)).alloc (.cells #[.slice (some ⟨n + 1 + 1 + 1, 0, none⟩) 1 1] 22)).heap.size = n + 1 + 1 + 1 + 1 + 1 := by
  have B1 := Blk.new' hn 3 #[.int .i64 4]
  have b1 := below_one w (.cells #[.int .i64 4] 3)
  have s1 := alloc_size w (.cells #[.int .i64 4] 3)
  rw [hn] at s1
  generalize w.alloc (.cells #[.int .i64 4] 3) = w1 at *
  have B2 := Blk.new' s1 32 #[.slice (some ⟨n, 0, none⟩) 1 1]
  have b2 := Below.alloc_ b1 (.cells #[.slice (some ⟨n, 0, none⟩) 1 1] 32)
  have s2 := alloc_size w1 (.cells #[.slice (some ⟨n, 0, none⟩) 1 1] 32)
  have B1 := B1.alloc' (.cells #[.slice (some ⟨n, 0, none⟩) 1 1] 32)
  rw [s1] at s2
  generalize w1.alloc (.cells #[.slice (some ⟨n, 0, none⟩) 1 1] 32) = w2 at *
  have B3 := Blk.new' s2 3 #[.int .i64 5, .int .i64 6]
  have b3 := Below.alloc_ b2 (.cells #[.int .i64 5, .int .i64 6] 3)
  have s3 := alloc_size w2 (.cells #[.int .i64 5, .int .i64 6] 3)
  have B1 := B1.alloc' (.cells #[.int .i64 5, .int .i64 6] 3)
  have B2 := B2.alloc' (.cells #[.int .i64 5, .int .i64 6] 3)
  rw [s2] at s3
  generalize w2.alloc (.cells #[.int .i64 5, .int .i64 6] 3) = w3 at *
  have B4 := Blk.new' s3 32 #[.slice (some ⟨n + 1 + 1, 0, none⟩) 2 2]
  have b4 := Below.alloc_ b3 (.cells #[.slice (some ⟨n + 1 + 1, 0, none⟩) 2 2] 32)
  have s4 := alloc_size w3 (.cells #[.slice (some ⟨n + 1 + 1, 0, none⟩) 2 2] 32)
  have B1 := B1.alloc' (.cells #[.slice (some ⟨n + 1 + 1, 0, none⟩) 2 2] 32)
  have B2 := B2.alloc' (.cells #[.slice (some ⟨n + 1 + 1, 0, none⟩) 2 2] 32)
  have B3 := B3.alloc' (.cells #[.slice (some ⟨n + 1 + 1, 0, none⟩) 2 2] 32)
  rw [s3] at s4
  generalize w3.alloc (.cells #[.slice (some ⟨n + 1 + 1, 0, none⟩) 2 2] 32) = w4 at *
  have B5 := Blk.new' s4 22 #[.slice (some ⟨n + 1 + 1 + 1, 0, none⟩) 1 1]
  have b5 := Below.alloc_ b4 (.cells #[.slice (some ⟨n + 1 + 1 + 1, 0, none⟩) 1 1] 22)
  have s5 := alloc_size w4 (.cells #[.slice (some ⟨n + 1 + 1 + 1, 0, none⟩) 1 1] 22)
  have B1 := B1.alloc' (.cells #[.slice (some ⟨n + 1 + 1 + 1, 0, none⟩) 1 1] 22)
  have B2 := B2.alloc' (.cells #[.slice (some ⟨n + 1 + 1 + 1, 0, none⟩) 1 1] 22)
  have B3 := B3.alloc' (.cells #[.slice (some ⟨n + 1 + 1 + 1, 0, none⟩) 1 1] 22)
  have B4 := B4.alloc' (.cells #[.slice (some ⟨n + 1 + 1 + 1, 0, none⟩) 1 1] 22)
  rw [s4] at s5
  generalize w4.alloc (.cells #[.slice (some ⟨n + 1 + 1 + 1, 0, none⟩) 1 1] 22) = w5 at *
  have n1 : NumsIn 0 (.slice (some ⟨n, 0, none⟩) 1 1) [4] w5 := IsSl.single (Nat.zero_le _) B1.lt (B1.cell 0)
  have n2 : NumsIn 0 (.slice (some ⟨n + 1 + 1, 0, none⟩) 2 2) [5, 6] w5 := IsSl.pair (Nat.zero_le _) B3.lt (B3.cell 0) (B3.cell 1)
  have l1 : IsLists 0 (.slice (some ⟨n + 1, 0, none⟩) 1 1) [[4]] w5 := IsSl.single (Nat.zero_le _) B2.lt ⟨_, B2.cell 0, n1⟩
  have l2 : IsLists 0 (.slice (some ⟨n + 1 + 1 + 1, 0, none⟩) 1 1) [[5, 6]] w5 := IsSl.single (Nat.zero_le _) B4.lt ⟨_, B4.cell 0, n2⟩
  have l3 : IsTables 0 (.slice (some ⟨n + 1 + 1 + 1 + 1, 0, none⟩) 1 1) [[[5, 6]]] w5 := IsSl.single (Nat.zero_le _) B5.lt ⟨_, B5.cell 0, l2⟩
  exact ⟨⟨_, _, rfl, l1, l3⟩, b5, s5⟩
theorem ProofD.Is.next {p : ProofD} {v : Value} {w w' : World} (h : p.Is 0 v w) (hb : Below w.heap.size w w') : p.Is 0 v w' := by
  obtain ⟨vd, va, rfl, h1, h2⟩ := h
  exact ⟨vd, va, rfl, h1.hi (Hi.below hb), h2.hi (Hi.below hb)⟩

set_option maxRecDepth 100000 in
set_option maxHeartbeats 4000000 in
theorem less_ok : LessOk := by
  intro w hE
  have HE := fun x (h : Below w.heap.size w x) => Lib.hid (hE.next h)
  clear hE
  go_enter Tryz.func4, Tryz.ntmps4
  go_wp2_with fail
  refine (l_example w).mono ?_
  rintro e w1 ⟨a, c, rfl, hn1, hb1⟩
  have hL : Lx w w1.heap.size (.slice a 2 c) (w1.alloc (.cells #[.int .i64 23, .int .i64 11, .int .i64 4, .slice a 2 c, .int .i64 12] 34)) := ⟨Blk.new w1 _ _, hn1.next (below_one w1 _), Below.alloc_ hb1 _⟩
  have hs2 := alloc_size w1 (.cells #[.int .i64 23, .int .i64 11, .int .i64 4, .slice a 2 c, .int .i64 12] 34)
  obtain ⟨z0, z1, z2, z3, z4⟩ := hL.get
  have hN2 := nums_lit2 (w1.alloc (.cells #[.int .i64 23, .int .i64 11, .int .i64 4, .slice a 2 c, .int .i64 12] 34)) 4 4
  have hL2 := hL.next (below_one _ (.cells #[.int .i64 4, .int .i64 4] 3))
  rw [hs2] at hN2
  have c2 := Lib.hid (l_weigh (HE _ hL2.b).out hL2.n hN2)
  have HL2 := Lib.hid hL2
  obtain ⟨g, hg⟩ : ∃ g, g = w1.heap.size := ⟨_, rfl⟩
  have HG := Lib.hid hg
  clear hs2 hN2 hL hL2 hn1 hb1
  go_wp2_with fail
  refine c2.out.mono ?_
  clear c2
  rintro e w2 ⟨rfl, hb2⟩
  have hL3 := HL2.out.next hb2
  rw [← hg] at hL3 ⊢
  clear hb2 z0 z1 z2 z3 z4 HL2 hg
  obtain ⟨z0, z1, z2, z3, z4⟩ := hL3.get
  have hL4 := hL3.next (below_one w2 (.cells #[.int .i64 1, .int .i64 2] 3))
  have c3 := Lib.hid (l_split (HE _ hL4.b).out hL4.n (nums_lit2 w2 1 2))
  have HL4 := Lib.hid hL4
  clear hL3 hL4
  go_wp2_with fail
  refine c3.out.mono ?_
  clear c3 z0 z1 z2 z3 z4
  rintro e w3 ⟨u1, u2, rfl, hu1, hu2, hb3⟩
  have hL5 := HL4.out.next hb3
  obtain ⟨a1, c1, rfl⟩ := hu1.len
  obtain ⟨a2, c2, rfl⟩ := IsSl.len hu2
  have hu1 : IsNums (.slice a1 2 c1) [12, 1] w3 := hu1
  have hu2 : IsKnow 0 (.slice a2 2 c2) [[⟨true, [1]⟩, ⟨false, []⟩], [⟨false, []⟩, ⟨true, [2]⟩]] w3 := hu2
  obtain ⟨z0, z1, z2, z3, z4⟩ := hL5.get
  have HK : Hid (∀ w', Below w3.heap.size w3 w' → w'.cell? ⟨g, 0, none⟩ = some (.int .i64 23) ∧ w'.cell? ⟨g, 1, none⟩ = some (.int .i64 11) ∧ w'.cell? ⟨g, 2, none⟩ = some (.int .i64 4) ∧ w'.cell? ⟨g, 3, none⟩ = some (.slice a 2 c) ∧ w'.cell? ⟨g, 4, none⟩ = some (.int .i64 12) ∧ Below w3.heap.size w3 w') := by
    show ∀ w', _
    intro w' h
    obtain ⟨z0, z1, z2, z3, z4⟩ := (hL5.next h).get
    exact ⟨z0, z1, z2, z3, z4, h⟩
  have HL5 := Lib.hid hL5
  have HU1 := Lib.hid hu1
  have HU2 := Lib.hid hu2
  have j1 := Lib.hid (DoesB.mk (w0 := w3) (v := .int .i64 2) rfl (fun w' h => l_com (HE w' (HL5.out.next h).b).out (HL5.out.next h).n))
  have j2 : Hid (∀ (args' : Array Value) (w' : World), args' = #[.agg #[.int .i64 23, .int .i64 11, .int .i64 4, .slice a 2 c, .int .i64 12], .int .i64 2, .slice a1 2 c1] → Below w3.heap.size w3 w' → Calls Tryz.prog 15 args' w' fun e w'' => ∃ a c, e = .returned (.slice a 3 c) ∧ IsGoal 0 (.slice a 3 c) [⟨1, exS.bitC 12⟩, ⟨1, exS.bitC 1⟩, ⟨1, [exC]⟩] w'' ∧ Below w3.heap.size w3 w'') := by
    show ∀ args' w', _
    intro args' w' he h
    subst he
    refine (l_range (HE w' (HL5.out.next h).b).out (HL5.out.next h).n (HU1.out.next h)).mono ?_
    rintro e w'' ⟨a, c, h1, h2, h3⟩
    exact ⟨a, c, h1, h2, h.trans (h3.mono h.size)⟩
  clear hL5 hu1 hu2 hb3
  go_wp2
  go_region_held3 (fun w' => w'.cell? ⟨g, 0, none⟩ = some (.int .i64 23) ∧ w'.cell? ⟨g, 1, none⟩ = some (.int .i64 11) ∧ w'.cell? ⟨g, 2, none⟩ = some (.int .i64 4) ∧ w'.cell? ⟨g, 3, none⟩ = some (.slice a 2 c) ∧ w'.cell? ⟨g, 4, none⟩ = some (.int .i64 12) ∧ Below w3.heap.size w3 w')
    (first | exact HK.out _ (by assumption) | exact HK.out _ (below_drewN (Below.refl w3.heap.size w3) 1) | exact HK.out _ (Below.refl w3.heap.size w3))
    (first
      | (go_at_call 16; refine Calls.mono (j1.out _ _ (by with_reducible rfl) (by first | assumption | exact below_drewN (Below.refl w3.heap.size w3) 1)) ?_; rintro e w4 ⟨rfl, hb4⟩)
      | (go_at_call 15; refine Calls.mono (j2.out _ _ (by with_reducible rfl) (by first | assumption | exact below_drewN (Below.refl w3.heap.size w3) 1)) ?_; rintro e w5 ⟨ag, cg, rfl, hG, hb5⟩))
  have hL6 := HL5.out.next hb5
  have hu6 := HU1.out.next hb5
  have hk6 := IsKnow.hi HU2.out (Hi.below hb5)
  clear hb4 hb5 j1 j2 HK HL5 HU1 HU2 z0 z1 z2 z3 z4
  have hb7 := below_one w5 (.cells #[.int .i64 12, .int .i64 1] 3)
  have c5 := Lib.hid (sameints_calls _ _ [12, 1] [12, 1] (by unfold okL; decide) (by unfold okL; decide) _ (hu6.next hb7) (nums_lit2 w5 12 1))
  rw [decide_eq_true rfl] at c5
  have HL7 := Lib.hid (hL6.next hb7)
  have HG7 := Lib.hid (IsGoal.hi hG (Hi.below hb7))
  have HK7 := Lib.hid (IsKnow.hi hk6 (Hi.below hb7))
  clear hL6 hu6 hk6 hb7 hG
  go_wp2_with fail
  generalize w5.alloc (.cells #[.int .i64 12, .int .i64 1] 3) = w6 at *
  refine c5.out.mono ?_
  clear c5
  rintro e w7 ⟨rfl, n, rfl⟩
  have hd := below_drewN (Below.refl w6.heap.size w6) n
  have hL7 := HL7.out.next hd
  have hG7 := IsGoal.hi (lo := 0) HG7.out (Hi.below hd)
  have hK7 := IsKnow.hi HK7.out (Hi.below hd)
  clear HL7 HG7 HK7 hd
  generalize w6.drewN n = w7 at *
  obtain ⟨z0, z1, z2, z3, z4⟩ := hL7.get
  have hb8 := below_one w7 (.cells #[.int .i64 1, .int .i64 2] 3)
  have hL8 := hL7.next hb8
  have c6 := Lib.hid (l_rest (HE _ hL8.b).out hL8.n (nums_lit2 w7 1 2))
  have HL8 := Lib.hid hL8
  have HG8 := Lib.hid (IsGoal.hi (lo := 0) hG7 (Hi.below hb8))
  have HK8 := Lib.hid (IsKnow.hi hK7 (Hi.below hb8))
  clear hL7 hL8 hG7 hK7 hb8
  go_wp2_with fail
  refine c6.out.mono ?_
  clear c6 z0 z1 z2 z3 z4
  rintro e w9 ⟨rfl, hb9⟩
  have hL9 := HL8.out.next hb9
  have hG9 := IsGoal.hi (lo := 0) HG8.out (Hi.below hb9)
  have hK9 := IsKnow.hi HK8.out (Hi.below hb9)
  clear HL8 HG8 HK8 hb9
  obtain ⟨bg, og, rfl, -, x, hx, hx1, u3, hx2, hx3⟩ := IsSl.at hG9 2 (by decide)
  have hx : x = ⟨1, [exC]⟩ := hx
  subst hx
  obtain ⟨ac, cc, rfl⟩ := IsSl.len hx3
  have g0 : w9.cell? ⟨bg, og + 4, none⟩ = some (.int .i64 1) := hx1
  have g1 : w9.cell? ⟨bg, og + 4 + 1, none⟩ = some (.slice ac 1 cc) := hx2
  have hx3 : IsClaims 0 (.slice ac 1 cc) [exC] w9 := hx3
  have hb10 := below_one w9 (.cells #[.int .i64 1, .slice ac 1 cc] 55)
  have hL10 := hL9.next hb10
  have hC10 := hx3.hi (lo := 0) (Hi.below hb10)
  have hk10 := IsKnow.hi hK9 (Hi.below hb10)
  have hB10 := Blk.new w9 55 #[.int .i64 1, .slice ac 1 cc]
  clear hG9 hx1 hx2 hx3 hK9 hL9
  obtain ⟨bk, ok, rfl, -, x, hx, u4, hx2, hx3⟩ := IsSl.at hk10 0 (by decide)
  have hx : x = [⟨true, [1]⟩, ⟨false, []⟩] := hx
  subst hx
  obtain ⟨ak, ck, rfl⟩ := IsSl.len hx3
  have k0 : (w9.alloc (.cells #[.int .i64 1, .slice ac 1 cc] 55)).cell? ⟨bk, ok, none⟩ = some (.slice ak 2 ck) := hx2
  obtain ⟨bm, om, rfl, -, x, hx, hx4, -⟩ := IsSl.at hx3 0 (by decide)
  have hx : x = ⟨true, [1]⟩ := hx
  subst hx
  have k1 : (w9.alloc (.cells #[.int .i64 1, .slice ac 1 cc] 55)).cell? ⟨bm, om, none⟩ = some (.bool true) := hx4
  obtain ⟨bm', om', hbm, -, x, hx, hx5, -⟩ := IsSl.at hx3 1 (by decide)
  have hx : x = ⟨false, []⟩ := hx
  subst hx
  simp only [Option.some.injEq, Addr.mk.injEq, and_true] at hbm
  obtain ⟨rfl, rfl⟩ := hbm
  have k2 : (w9.alloc (.cells #[.int .i64 1, .slice ac 1 cc] 55)).cell? ⟨bm, om + 2, none⟩ = some (.bool false) := hx5
  have g2 := hB10.cell 0
  have g3 := hB10.cell 1
  clear hk10 hx2 hx3 hx4 hx5
  have HL10 := Lib.hid hL10
  have HC10 := Lib.hid hC10
  have HB10 := Lib.hid hB10
  have HB := Lib.hid hb10
  have c10 := Lib.hid (l_sign (HE _ hL10.b).out hL10.n)
  obtain ⟨z0, z1, z2, z3, z4⟩ := hL10.get
  clear hL10 hC10 hB10 hb10
  go_wp2_with fail
  obtain ⟨gc, hgc⟩ : ∃ gc, gc = w9.heap.size := ⟨_, rfl⟩
  rw [← hgc] at HB10 ⊢
  clear hgc HB g0 g1 g2 g3 k0 k1 k2
  generalize w9.alloc (.cells #[.int .i64 1, .slice ac 1 cc] 55) = w10 at *
  refine c10.out.mono ?_
  clear c10 z0 z1 z2 z3 z4
  rintro e w11 ⟨C, T, rfl, hS, hb11⟩
  have hL11 := HL10.out.next hb11
  have hC11 := HC10.out.hi (lo := 0) (Hi.below hb11)
  have hB11 := HB10.out.next hb11
  have HS := Lib.hid hS
  clear HL10 HC10 HB10 hb11 hS
  have hb12 := below_one w11 (.cells #[.int .i64 C, .int .i64 T] 60)
  obtain ⟨hp17, hb17', hs17⟩ := lit_proof (w11.alloc (.cells #[.int .i64 C, .int .i64 T] 60)) (w11.heap.size + 1) (alloc_size w11 _)
  have hb17 := hb12.trans (hb17'.mono hb12.size)
  have hS12 := Blk.new w11 60 #[.int .i64 C, .int .i64 T]
  have hS17 := hS12.next hb17'
  have hb18 := Below.alloc_ hb17 (.cells #[.slice (some ⟨w11.heap.size + 1 + 1, 0, none⟩) 1 1, .slice (some ⟨w11.heap.size + 1 + 1 + 1 + 1 + 1, 0, none⟩) 1 1] 25)
  have hP18 := Blk.new' hs17 25 #[.slice (some ⟨w11.heap.size + 1 + 1, 0, none⟩) 1 1, .slice (some ⟨w11.heap.size + 1 + 1 + 1 + 1 + 1, 0, none⟩) 1 1]
  have hp18 := hp17.next (below_one _ (.cells #[.slice (some ⟨w11.heap.size + 1 + 1, 0, none⟩) 1 1, .slice (some ⟨w11.heap.size + 1 + 1 + 1 + 1 + 1, 0, none⟩) 1 1] 25))
  have hS18 := hS17.next (below_one _ (.cells #[.slice (some ⟨w11.heap.size + 1 + 1, 0, none⟩) 1 1, .slice (some ⟨w11.heap.size + 1 + 1 + 1 + 1 + 1, 0, none⟩) 1 1] 25))
  have c12 := Lib.hid (l_encode (HE _ (hL11.next hb18).b).out hp18)
  have HL18 := Lib.hid (hL11.next hb18)
  have HC18 := Lib.hid (hC11.hi (lo := 0) (Hi.below hb18))
  have HB18 := Lib.hid (hB11.next hb18)
  have HS18 := Lib.hid hS18
  have HP18 := Lib.hid hP18
  have Hp18 := Lib.hid hp18
  clear hL11 hC11 hB11 hb12 hp17 hb17' hs17 hb17 hS12 hS17 hb18 hP18 hp18 hS18
  go_wp2_with fail
  obtain ⟨gs, hgs⟩ : ∃ gs, gs = w11.heap.size := ⟨_, rfl⟩
  obtain ⟨gp, hgp⟩ : ∃ gp, gp = w11.heap.size + 1 + 1 + 1 + 1 + 1 + 1 := ⟨_, rfl⟩
  obtain ⟨p1, hp1⟩ : ∃ p1, p1 = w11.heap.size + 1 + 1 := ⟨_, rfl⟩
  obtain ⟨p2, hp2⟩ : ∃ p2, p2 = w11.heap.size + 1 + 1 + 1 + 1 + 1 := ⟨_, rfl⟩
  generalize (((((((w11.alloc (.cells #[.int .i64 C, .int .i64 T] 60)).alloc (.cells #[.int .i64 4] 3)).alloc (.cells #[.slice (some ⟨w11.heap.size + 1, 0, none⟩) 1 1] 32)).alloc (.cells #[.int .i64 5, .int .i64 6] 3)).alloc (.cells #[.slice (some ⟨w11.heap.size + 1 + 1 + 1, 0, none⟩) 2 2] 32)).alloc (.cells #[.slice (some ⟨w11.heap.size + 1 + 1 + 1 + 1, 0, none⟩) 1 1] 22)).alloc (.cells #[.slice (some ⟨w11.heap.size + 1 + 1, 0, none⟩) 1 1, .slice (some ⟨w11.heap.size + 1 + 1 + 1 + 1 + 1, 0, none⟩) 1 1] 25)) = w18 at *
  refine c12.out.mono ?_
  clear c12
  rintro e w19 ⟨rfl, hb19⟩
  rw [← hgp, ← hp2, ← hp1] at HP18
  rw [← hp2, ← hp1] at Hp18
  rw [← hgs] at HS18
  rw [← hgp, ← hp2, ← hp1, ← hgs]
  clear hgp hp1 hp2 hgs
  have c13 := Lib.hid (l_decode (HE _ (HL18.out.next hb19).b).out)
  generalize bs (Cod.numsS [1, 1, 4, 2, 5, 6]) = X at *
  have HL19 := Lib.hid (HL18.out.next hb19)
  have HC19 := Lib.hid (HC18.out.hi (lo := 0) (Hi.below hb19))
  have HB19 := Lib.hid (HB18.out.next hb19)
  have HS19 := Lib.hid (HS18.out.next hb19)
  have HP19 := Lib.hid (HP18.out.next hb19)
  have Hp19 := Lib.hid (Hp18.out.next hb19)
  clear HL18 HC18 HB18 HS18 HP18 Hp18 hb19
  go_wp2_with fail
  refine c13.out.mono ?_
  clear c13
  rintro e w20 ⟨vd, va, rfl, hq, hb20⟩
  have hb20' := below_one w20 (.cells #[vd, va] 25)
  have hb21 := hb20.trans (hb20'.mono hb20.size)
  obtain ⟨_, _, hvv, hq1, hq2⟩ := id hq
  simp only [Value.agg.injEq, Array.mk.injEq, List.cons.injEq, and_true] at hvv
  obtain ⟨rfl, rfl⟩ := hvv
  obtain ⟨ad, cd, rfl⟩ : ∃ a c, vd = .slice a 1 c := IsSl.len hq1
  obtain ⟨av, cv, rfl⟩ : ∃ a c, va = .slice a 1 c := IsSl.len hq2
  have HQ := Lib.hid (Blk.new w20 25 #[.slice ad 1 cd, .slice av 1 cv])
  have Hq := Lib.hid (hq.next hb20')
  have HL21 := Lib.hid (HL19.out.next hb21)
  have HC21 := Lib.hid (HC19.out.hi (lo := 0) (Hi.below hb21))
  have HB21 := Lib.hid (HB19.out.next hb21)
  have HS21 := Lib.hid (HS19.out.next hb21)
  have HP21 := Lib.hid (HP19.out.next hb21)
  have Hp21 := Lib.hid (Hp19.out.next hb21)
  clear HL19 HC19 HB19 HS19 HP19 Hp19 hb20 hb20' hb21 hq hq1 hq2
  go_wp2
  obtain ⟨gq, hgq⟩ : ∃ gq, gq = w20.heap.size := ⟨_, rfl⟩
  rw [← hgq] at HQ ⊢
  clear hgq
  generalize w20.alloc (.cells #[.slice ad 1 cd, .slice av 1 cv] 25) = W at *
  obtain ⟨bcl, ocl, rfl, hcl, x, hx, hx1, u5, hx2, hx3⟩ := IsSl.at HC21.out 0 (by decide)
  have hx : x = exC := hx
  subst hx
  obtain ⟨ae, ce, rfl⟩ : ∃ a c, u5 = .slice a 1 c := IsSl.len hx3
  have hx1 : W.cell? ⟨bcl, ocl, none⟩ = some (.int .i64 1) := hx1
  have hx2 : W.cell? ⟨bcl, ocl + 1, none⟩ = some (.slice ae 1 ce) := hx2
  have HX3 := Lib.hid hx3
  have HK : Hid (∀ w', Below W.heap.size W w' → w'.cell? ⟨g, 0, none⟩ = some (.int .i64 23) ∧ w'.cell? ⟨g, 1, none⟩ = some (.int .i64 11) ∧ w'.cell? ⟨g, 2, none⟩ = some (.int .i64 4) ∧ w'.cell? ⟨g, 3, none⟩ = some (.slice a 2 c) ∧ w'.cell? ⟨g, 4, none⟩ = some (.int .i64 12) ∧ w'.cell? ⟨gc, 1, none⟩ = some (.slice (some ⟨bcl, ocl, none⟩) 1 cc) ∧ w'.cell? ⟨bcl, ocl, none⟩ = some (.int .i64 1) ∧ w'.cell? ⟨bcl, ocl + 1, none⟩ = some (.slice ae 1 ce) ∧ w'.cell? ⟨gs, 0, none⟩ = some (.int .i64 C) ∧ w'.cell? ⟨gs, 1, none⟩ = some (.int .i64 T) ∧ w'.cell? ⟨gp, 0, none⟩ = some (.slice (some ⟨p1, 0, none⟩) 1 1) ∧ w'.cell? ⟨gp, 1, none⟩ = some (.slice (some ⟨p2, 0, none⟩) 1 1) ∧ w'.cell? ⟨gq, 0, none⟩ = some (.slice ad 1 cd) ∧ w'.cell? ⟨gq, 1, none⟩ = some (.slice av 1 cv) ∧ Below W.heap.size W w') := by
    show ∀ w', _
    intro w' h
    obtain ⟨z0, z1, z2, z3, z4⟩ := (HL21.out.next h).get
    have hb := (HB21.out.next h).cell 1
    obtain ⟨s0, s1⟩ := (HS21.out.next h).get2
    obtain ⟨y0, y1⟩ := (HP21.out.next h).get2
    obtain ⟨q0, q1⟩ := (HQ.out.next h).get2
    refine ⟨z0, z1, z2, z3, z4, hb, ?_, ?_, s0, s1, y0, y1, q0, q1, h⟩
    · rw [h.cell (p := ⟨bcl, ocl, none⟩) hcl.2]; exact hx1
    · rw [h.cell (p := ⟨bcl, ocl + 1, none⟩) hcl.2]; exact hx2
  have j1 : Hid (∀ (args' : Array Value) (w' : World), args' = #[.agg #[.int .i64 23, .int .i64 11, .int .i64 4, .slice a 2 c, .int .i64 12], .agg #[.int .i64 1, .slice ae 1 ce], .slice (some ⟨W.heap.size, 0, none⟩) 1 1] → Below W.heap.size W w' → IsNums (.slice (some ⟨W.heap.size, 0, none⟩) 1 1) [9] w' → Calls Tryz.prog 20 args' w' fun e w'' => e = .returned (.bool true) ∧ Below W.heap.size W w'') := by
    show ∀ args' w', _
    intro args' w' he h hn
    subst he
    refine (l_holds (HE w' (HL21.out.next h).b).out (HL21.out.next h).n (HX3.out.hi (Hi.below h)) hn).mono ?_
    rintro e w'' ⟨h1, h2⟩
    exact ⟨h1, h.trans (h2.mono h.size)⟩
  have j2 := Lib.hid (DoesB.mk (w0 := W) (v := .bool true) rfl (fun w' h => l_signed HS.out (HE w' (HL21.out.next h).b).out (HL21.out.next h).n))
  have j3 := Lib.hid (DoesB.mk (w0 := W) (v := .bool true) rfl (fun w' h => l_sameproof (Hp21.out.next h) (Hq.out.next h)))
  have HLB := fun w' (h : Below W.heap.size W w') => Lib.hid (HL21.out.next h).b
  clear hx1 hx2 hx3 HC21 HB21 HS21 HP21 HQ Hp21 Hq hcl
  go_region_held3 (fun w' => w'.cell? ⟨g, 0, none⟩ = some (.int .i64 23) ∧ w'.cell? ⟨g, 1, none⟩ = some (.int .i64 11) ∧ w'.cell? ⟨g, 2, none⟩ = some (.int .i64 4) ∧ w'.cell? ⟨g, 3, none⟩ = some (.slice a 2 c) ∧ w'.cell? ⟨g, 4, none⟩ = some (.int .i64 12) ∧ w'.cell? ⟨gc, 1, none⟩ = some (.slice (some ⟨bcl, ocl, none⟩) 1 cc) ∧ w'.cell? ⟨bcl, ocl, none⟩ = some (.int .i64 1) ∧ w'.cell? ⟨bcl, ocl + 1, none⟩ = some (.slice ae 1 ce) ∧ w'.cell? ⟨gs, 0, none⟩ = some (.int .i64 C) ∧ w'.cell? ⟨gs, 1, none⟩ = some (.int .i64 T) ∧ w'.cell? ⟨gp, 0, none⟩ = some (.slice (some ⟨p1, 0, none⟩) 1 1) ∧ w'.cell? ⟨gp, 1, none⟩ = some (.slice (some ⟨p2, 0, none⟩) 1 1) ∧ w'.cell? ⟨gq, 0, none⟩ = some (.slice ad 1 cd) ∧ w'.cell? ⟨gq, 1, none⟩ = some (.slice av 1 cv) ∧ Below W.heap.size W w')
    ((refine HK.out _ ?_; (first | assumption | exact Below.refl W.heap.size W | exact below_drewN (Below.refl W.heap.size W) _ | exact Below.alloc_ (Below.refl W.heap.size W) _ | exact Below.alloc_ (below_drewN (Below.refl W.heap.size W) _) _ | exact below_drewN (Below.alloc_ (below_drewN (Below.refl W.heap.size W) _) _) _ | exact below_drewN (Below.alloc_ (Below.refl W.heap.size W) _) _ | exact below_drewN (by assumption) _)))
    (first
      | (go_at_call 20; refine Calls.mono (j1.out _ _ (by with_reducible rfl) (by first | assumption | exact Below.refl W.heap.size W | exact below_drewN (Below.refl W.heap.size W) _ | exact Below.alloc_ (Below.refl W.heap.size W) _ | exact Below.alloc_ (below_drewN (Below.refl W.heap.size W) _) _ | exact below_drewN (Below.alloc_ (below_drewN (Below.refl W.heap.size W) _) _) _ | exact below_drewN (Below.alloc_ (Below.refl W.heap.size W) _) _ | exact below_drewN (by assumption) _) (by first | exact nums_one W 9 | exact nums_one (W.drewN _) 9 | exact IsNums.next (nums_one (W.drewN _) 9) (below_drewN (Below.refl _ _) _) | exact IsNums.next (nums_one W 9) (below_drewN (Below.refl _ _) _))) ?_; rintro e w22 ⟨rfl, hb22⟩)
      | (go_at_call 21; refine Calls.mono (j2.out _ _ (by with_reducible rfl) (by first | assumption | exact Below.refl W.heap.size W | exact below_drewN (Below.refl W.heap.size W) _ | exact Below.alloc_ (Below.refl W.heap.size W) _ | exact Below.alloc_ (below_drewN (Below.refl W.heap.size W) _) _ | exact below_drewN (Below.alloc_ (below_drewN (Below.refl W.heap.size W) _) _) _ | exact below_drewN (Below.alloc_ (Below.refl W.heap.size W) _) _ | exact below_drewN (by assumption) _)) ?_; rintro e w23 ⟨rfl, hb23⟩)
      | (go_at_call 9; refine Calls.mono (j3.out _ _ (by with_reducible rfl) (by first | assumption | exact Below.refl W.heap.size W | exact below_drewN (Below.refl W.heap.size W) _ | exact Below.alloc_ (Below.refl W.heap.size W) _ | exact Below.alloc_ (below_drewN (Below.refl W.heap.size W) _) _ | exact below_drewN (Below.alloc_ (below_drewN (Below.refl W.heap.size W) _) _) _ | exact below_drewN (Below.alloc_ (Below.refl W.heap.size W) _) _ | exact below_drewN (by assumption) _)) ?_; rintro e w24 ⟨rfl, hb24⟩))
  have hbF := (HLB _ hb24).out
  go_wp2
  go_ret
  exact ⟨rfl, hbF⟩
end Go.Proofs.YthnkfjjgccabeaaGreatDoor
/- What the rows' list of variables gives the walks; a row's wrap; a world for the witness; the law's last step; setups, signatures and slices of ints that came in. -/
namespace Go.Proofs.YthnkfjjgccabeaaGreatDoor
open Go.ChangeShapes Go.WideShapes Go.ChangeAt Go.WideMaps Go.WideElems Go.RowKit

theorem change_and_shaped {H : Type} {enc : TypeId × Value → H} {a : Assume} {C : Checked} {os : Os} {f : FuncId} {fn : Func} {s : ChangeSpec} {conds : List PathCond} {apart fresh handsOn again : Bool} {X : World → Array Value → Prop}
    (hX : ∀ (w w' : World) (args : Array Value), w.heap = w'.heap → X w args → X w' args)
    (own : ownKnob C.prog.godebug = none) (started : os.Started) (noInit : C.prog.inits.idxOf? f = none) (hfn : C.prog.funcs[f]? = some fn)
    (witness : ∃ (w : World) (tape : Tape) (i : Input), w.os = os ∧ (w.forCall tape i).Shaped C.prog ∧ i.vars = [] ∧ Input.okWide C.prog (w.forCall tape i) .any w.heap.size f i ∧
      ((s.pre enc C.prog fn conds apart (w.forCall tape i).memory i.args ∧ X (w.forCall tape i).memory i.args) ∧ sizedMet enc C.prog fn (OpenSpec.ofChange s) apart (w.forCall tape i).memory i.args) ∧ a.holds C.prog (lone (Frame.enter C.prog f i.args .normal) [] (w.forCall tape i)))
    (contract : ∀ (W : World) (base : Nat) (args : Array Value) (ds gs : List (DataW H)) (before : List MemPlace),
      (∀ (j : Nat) t v, fn.params[j]? = some t → args[j]? = some v → Value.okWide C.prog W .any base t v) →
      DataW.Whole enc C.prog fn.params.toList s.vars apart W args.toList ds gs before → X W args → W.ShapedOpen C.prog →
      Calls C.prog f args W fun e W' => ∃ v, e = .returned v ∧ s.post enc C.prog fn apart fresh handsOn again W args v W') :
    ReturnsInHanded a C os f .any (fun w args => (s.pre enc C.prog fn conds apart w args ∧ X w args) ∧ sizedMet enc C.prog fn (OpenSpec.ofChange s) apart w args) (s.post enc C.prog fn apart fresh handsOn again) := by
  refine returnsInHanded_of_calls own started noInit witness ?_
  intro w tape i _ hsh _ hok hpre _
  obtain ⟨_, _, _, fn', hfn', _, _, _, _, hval⟩ := hok
  have e : fn' = fn := Option.some.inj (hfn'.symm.trans hfn)
  subst e
  obtain ⟨⟨⟨ds, gs, before, hw, _⟩, hx⟩, _⟩ := hpre
  have hw' := DataW.Whole.of_heap (w' := w.forCall tape i) (by rfl) hw
  refine (contract (w.forCall tape i) w.heap.size i.args ds gs before hval hw' (hX _ _ _ (by rfl) hx) hsh).mono fun e W' ⟨v, he, hp⟩ => ?_
  subst he
  exact ChangeSpec.post_blind hp

theorem own : ownKnob Tryz.prog.godebug = none := by kernel_rfl
theorem gTz : Tryz.prog.globalNamed "math/bits.deBruijn64tab" = some 4 := by kernel_rfl
theorem gTzType : (Tryz.prog.globals[4]?).map (·.type) = some 162 := by kernel_rfl
theorem gPw10 : Tryz.prog.globalNamed "internal/strconv.uint64pow10" = some 6 := by kernel_rfl
theorem gPw10Type : (Tryz.prog.globals[6]?).map (·.type) = some 166 := by kernel_rfl
theorem gSyn : Tryz.prog.globalNamed "strconv.ErrSyntax" = some 8 := by kernel_rfl
theorem gSynType : (Tryz.prog.globals[8]?).map (·.type) = some 127 := by kernel_rfl
theorem gRan : Tryz.prog.globalNamed "strconv.ErrRange" = some 9 := by kernel_rfl
theorem gRanType : (Tryz.prog.globals[9]?).map (·.type) = some 127 := by kernel_rfl
theorem gFs : Tryz.prog.globalNamed "cloak/field.firstState" = some 3 := by kernel_rfl
theorem gFsType : (Tryz.prog.globals[3]?).map (·.type) = some 148 := by kernel_rfl
theorem gRc : Tryz.prog.globalNamed "cloak/field.roundConstants" = some 5 := by kernel_rfl
theorem gRcType : (Tryz.prog.globals[5]?).map (·.type) = some 155 := by kernel_rfl
theorem gWi : Tryz.prog.globalNamed "cloak/field.witnesses" = some 0 := by kernel_rfl
theorem gWiType : (Tryz.prog.globals[0]?).map (·.type) = some 144 := by kernel_rfl
theorem cellsTz : Tryz.prog.cellsOf 162 = 64 := by kernel_rfl
theorem cellsFs : Tryz.prog.cellsOf 148 = 8 := by kernel_rfl
theorem cellsRc : Tryz.prog.cellsOf 155 = 64 := by kernel_rfl
theorem cellsWi : Tryz.prog.cellsOf 144 = 12 := by kernel_rfl
theorem cellsU8 : Tryz.prog.cellsOf 5 = 1 := by kernel_rfl
theorem cellsU32 : Tryz.prog.cellsOf 147 = 1 := by kernel_rfl
theorem cellsInt : Tryz.prog.cellsOf 3 = 1 := by kernel_rfl
theorem cellsPow : Tryz.prog.cellsOf 166 = 20 := by kernel_rfl
theorem cellsU64 : Tryz.prog.cellsOf 135 = 1 := by kernel_rfl
theorem cellsEs : Tryz.prog.cellsOf 186 = 1 := by kernel_rfl
theorem cellsStr : Tryz.prog.cellsOf 9 = 1 := by kernel_rfl
theorem star : "*" ++ "errors.errorString" = "*errors.errorString" := by decide
theorem rowEs (u : TypeId) (h : Tryz.prog.typeName? 3 u = some "*errors.errorString") : u = 184 :=
  typeName_ptr_named (nm := "errors.errorString") (by rw [star]; kernel_rfl) (by kernel_rfl) (by decide) u (by rw [star]; exact h)

def lst : List (String × DataW Unit) := [("math/bits.deBruijn32tab", Rows.laid_math_bits_deBruijn32tab), ("math/bits.deBruijn64tab", Rows.laid_math_bits_deBruijn64tab), ("internal/strconv.uint64pow10", Rows.laid_internal_strconv_uint64pow10), ("strconv.ErrRange", Rows.laid_strconv_ErrRange), ("strconv.ErrSyntax", Rows.laid_strconv_ErrSyntax), ("cloak/field.firstState", Rows.laid_cloak_field_firstState), ("cloak/field.roundConstants", Rows.laid_cloak_field_roundConstants), ("cloak/field.witnesses", Rows.laid_cloak_field_witnesses)]
def tzZ : List Int := Lib.deBruijn64tab.map fun n : Nat => (n : Int)
def fsZ : List Int := [firstB.a, firstB.b, firstB.c, firstB.d, firstB.e, firstB.f, firstB.g, firstB.h].map fun v => (v.toNat : Int)
def rcZ : List Int := constsB.map fun v => (v.toNat : Int)
def wiZ : List Int := witL.map fun n : Nat => (n : Int)
theorem dTz : (Rows.laid_math_bits_deBruijn64tab : DataW Unit) = Lib.tabData .u8 tzZ := by kernel_rfl
theorem dFs : (Rows.laid_cloak_field_firstState : DataW Unit) = Lib.tabData .u32 fsZ := by kernel_rfl
theorem dRc : (Rows.laid_cloak_field_roundConstants : DataW Unit) = Lib.tabData .u32 rcZ := by kernel_rfl
theorem dWi : (Rows.laid_cloak_field_witnesses : DataW Unit) = Lib.tabData .i64 wiZ := by kernel_rfl
theorem getD_map {α : Type} (f : α → Int) (L : List α) (i : Nat) (x : α) (h : L[i]? = some x) : i < (L.map f).length ∧ (L.map f).getD i 0 = f x := by
  have hl := (List.getElem?_eq_some_iff.1 h).1
  exact ⟨by simpa using hl, by simp [List.getD_eq_getElem?_getD, h]⟩
theorem lo_of {W : World} {name : String} {d : DataW Unit} {L : List (String × DataW Unit)} {g : Nat} (hg : Tryz.prog.globalNamed name = some g) (h : laidMet Tryz.prog ((name, d) :: L) W) : g < W.heap.size := by
  obtain ⟨ps, ⟨g', t', cs, fuel, p, q, hg', ht', hvar, _⟩, _⟩ := h
  obtain rfl := Option.some.inj (hg.symm.trans hg')
  rcases Nat.lt_or_ge g W.heap.size with h' | h'
  · exact h'
  · unfold World.var? at hvar
    rw [hg] at hvar
    simp [Array.getElem?_eq_none h'] at hvar
theorem env_of {W : World} (h : laidMetH Tryz.prog lst W) (_ : W.ShapedOpen Tryz.prog) : Envs W := by
  rw [MakeChecks.laidMetH_plain _ _ _ (by kernel_rfl)] at h
  unfold lst at h
  have h1 := h.tail
  have h2 := h1.tail
  have h3 := h2.tail
  have h4 := h3.tail
  have h5 := h4.tail
  have h6 := h5.tail
  have h7 := h6.tail
  have l1 := lo_of gTz h1
  have l3 := lo_of gRan h3
  have l4 := lo_of gSyn h4
  have l5 := lo_of gFs h5
  have l6 := lo_of gRc h6
  have l7 := lo_of gWi h7
  rw [dTz] at h1
  rw [dFs] at h5
  rw [dRc] at h6
  rw [dWi] at h7
  have t1 := Lib.tabIs_of_head gTz gTzType Tryz.underlying162 Tryz.underlying5 cellsU8 cellsTz h1
  have t5 := Lib.tabIs_of_head gFs gFsType Tryz.underlying148 Tryz.underlying147 cellsU32 cellsFs h5
  have t6 := Lib.tabIs_of_head gRc gRcType Tryz.underlying155 Tryz.underlying147 cellsU32 cellsRc h6
  have t7 := Lib.tabIs_of_head gWi gWiType Tryz.underlying144 Tryz.underlying3 cellsInt cellsWi h7
  have ht : Lib.TabIs Tryz.prog W "internal/strconv.uint64pow10" .u64 Lib.pow10Tab :=
    Lib.tabIs_of_head (rest := [("strconv.ErrRange", Rows.laid_strconv_ErrRange), ("strconv.ErrSyntax", Rows.laid_strconv_ErrSyntax), ("cloak/field.firstState", Rows.laid_cloak_field_firstState), ("cloak/field.roundConstants", Rows.laid_cloak_field_roundConstants), ("cloak/field.witnesses", Rows.laid_cloak_field_witnesses)]) gPw10 gPw10Type Tryz.underlying166 Tryz.underlying135 cellsU64 cellsPow h2
  obtain ⟨a1, s1, hv1, _, _, _⟩ := laid_sentinel h3 gRan gRanType Tryz.underlying127 rowEs Tryz.underlying184 Tryz.underlying186 rfl rfl Tryz.underlying9 cellsEs cellsStr
  obtain ⟨a2, s2, hv2, _, _, _⟩ := laid_sentinel h4 gSyn gSynType Tryz.underlying127 rowEs Tryz.underlying184 Tryz.underlying186 rfl rfl Tryz.underlying9 cellsEs cellsStr
  refine ⟨⟨⟨l7, l1, l5, l6⟩, ?_, ?_, ?_, ?_⟩, ⟨by omega, ht, ⟨184, .pointer (some a2), World.var?_cell gSyn hv2 0⟩, ⟨184, .pointer (some a1), World.var?_cell gRan hv1 0⟩⟩⟩
  · intro i p hp
    obtain ⟨h1, h2⟩ := getD_map (fun n : Nat => (n : Int)) witL i p hp
    rw [t7.cell gWi i h1]
    exact congrArg (fun x => some (Value.int .i64 x)) h2
  · intro j hj
    have hp : Lib.deBruijn64tab[j]? = some (Lib.deBruijn64tab.getD j 0) := by rw [List.getD_eq_getElem?_getD, List.getElem?_eq_getElem hj]; rfl
    obtain ⟨h1, h2⟩ := getD_map (fun n : Nat => (n : Int)) Lib.deBruijn64tab j _ hp
    rw [t1.cell gTz j h1]
    exact congrArg (fun x => some (Value.int .u8 x)) h2
  · intro i v hv
    obtain ⟨h1, h2⟩ := getD_map (fun v : BitVec 32 => (v.toNat : Int)) [firstB.a, firstB.b, firstB.c, firstB.d, firstB.e, firstB.f, firstB.g, firstB.h] i v hv
    rw [t5.cell gFs i h1]
    exact congrArg (fun x => some (Value.int .u32 x)) h2
  · intro i v hv
    obtain ⟨h1, h2⟩ := getD_map (fun v : BitVec 32 => (v.toNat : Int)) constsB i v hv
    rw [t6.cell gRc i h1]
    exact congrArg (fun x => some (Value.int .u32 x)) h2
theorem lay_met (os : Os) (args : Array Value) : laidMetH Tryz.prog lst ((World.laidAll Tryz.prog os lst).forCall (fun _ _ => 0) ⟨#[], args, []⟩).memory := by
  rw [MakeChecks.laidMetH_plain _ _ _ (by kernel_rfl)]
  exact laidMet_laidAll args (by kernel_rfl) (by kernel_rfl)
theorem lay_shaped (os : Os) : (World.laidAll Tryz.prog os lst).Shaped Tryz.prog := World.shaped_of_ZipB (by kernel_rfl) (by kernel_rfl)

/-- The law's last step: the call has made blocks, and nothing that was there has turned. -/
theorem post_below {H : Type} {enc : TypeId × Value → H} {P : Program} {f : Func} {s : ChangeSpec} {apart fresh handsOn again : Bool} {W W' : World} {args : Array Value} {v : Value} {ds gs : List (DataW H)} {before pa pv : List MemPlace}
    (hW : DataW.Whole enc P f.params.toList s.vars apart W args.toList ds gs before)
    (hres : ∀ (b : Nat) (sp : Nat → Bool) (hd : Bool), DataW.TrodAll enc P W' b sp hd f.resultTypes.toList (v.resultList f.resultTypes.size) (s.fn H (ds ++ gs)).results [])
    (hargs : ∀ sp : Nat → Bool, (∀ p ∈ before, sp p.block = true) → DataW.TrodAll enc P W' 0 sp true f.params.toList args.toList (s.fn H (ds ++ gs)).args pa)
    (hvars : ∀ sp : Nat → Bool, (∀ p ∈ before, sp p.block = true) → DataW.TrodVars enc P W' sp s.vars (s.fn H (ds ++ gs)).vars pv)
    (hps : before = pa ++ pv) (hb : Below W.heap.size W W')
    (hok : ∀ (j : Nat) (t : TypeId) (r : Value), f.resultTypes[j]? = some t → (v.resultList f.resultTypes.size)[j]? = some r → Value.okWide P W' .any 0 t r) :
    s.post enc P f apart fresh handsOn again W args v W' := by
  have hlt : ∀ p ∈ before, p.block < W.heap.size := fun p hp => hW.lt p hp
  have hold : ∀ p ∈ before, (fun b => decide (b < W.heap.size)) p.block = true := fun p hp => by simpa using hlt p hp
  refine ⟨ds, gs, before, [], pa, pv, hW, hres _ _ _, hargs _ hold, hvars _ hold, World.keptBut_mono (fun p hp => ⟨hp, ?_⟩) (hb.frame (· ∈ before)), fun _ => ?_⟩
  · rw [hps, List.mem_append] at hp
    exact Or.inr hp
  · obtain ⟨_, _, _, _, _, hz, hn⟩ := hW
    refine ⟨hok, _, _, ([] ++ pa) ++ pv, ⟨[] ++ pa, pv, trodAll_append (hargs _ (fun _ _ => rfl)) (hres _ _ _), hvars _ (fun _ _ => rfl), rfl, ?_, ?_⟩, ?_⟩
    · intro b off hp
      have hin : MemPlace.cell b off ∈ before := by rw [hps]; simpa using hp
      rw [hb.frozen (hlt _ hin)]
      exact hz b off hin
    · intro ha
      have := hn ha
      rw [hps] at this
      simpa using this
    · intro p hp _
      rw [hps]
      simpa using hp
section
variable {H : Type} {enc : TypeId × Value → H} {P : Program} {w : World} {base : Nat} {spare : Nat → Bool} {held : Bool}
theorem trodAll_five {t t' t'' t3 t4 : TypeId} {args : Array Value} {ds : List (DataW H)} {ps : List MemPlace} (h : DataW.TrodAll enc P w base spare held [t, t', t'', t3, t4] args.toList ds ps) :
    ∃ v v' v'' v3 v4 d d' d'' d3 d4 p p' p'' p3 p4, args = #[v, v', v'', v3, v4] ∧ ds = [d, d', d'', d3, d4] ∧ ps = p ++ p' ++ p'' ++ p3 ++ p4 ∧ DataW.Trod enc P w base spare held t v d p ∧ DataW.Trod enc P w base spare held t' v' d' p' ∧ DataW.Trod enc P w base spare held t'' v'' d'' p'' ∧ DataW.Trod enc P w base spare held t3 v3 d3 p3 ∧ DataW.Trod enc P w base spare held t4 v4 d4 p4 := by
  obtain ⟨v, vs, d, ds', p, q, hargs, rfl, rfl, hd, hrest⟩ := trodAll_cons h
  obtain ⟨v', vs', d', ds'', p', q', rfl, rfl, rfl, hd', hrest'⟩ := trodAll_cons hrest
  obtain ⟨v'', vs'', d'', ds''', p'', q'', rfl, rfl, rfl, hd'', hrest''⟩ := trodAll_cons hrest'
  obtain ⟨v3, vs3, d3, ds3, p3, q3, rfl, rfl, rfl, hd3, hrest3⟩ := trodAll_cons hrest''
  obtain ⟨v4, vs4, d4, ds4, p4, q4, rfl, rfl, rfl, hd4, hrest4⟩ := trodAll_cons hrest3
  obtain ⟨rfl, rfl, rfl⟩ := trodAll_nil hrest4
  exact ⟨v, v', v'', v3, v4, d, d', d'', d3, d4, p, p', p'', p3, p4, by cases args; simp_all, rfl, by simp, hd, hd', hd'', hd3, hd4⟩
theorem trodAll_mk5 {t t' t'' t3 t4 : TypeId} {v v' v'' v3 v4 : Value} {d d' d'' d3 d4 : DataW H} {p p' p'' p3 p4 : List MemPlace} (h : DataW.Trod enc P w base spare held t v d p) (h' : DataW.Trod enc P w base spare held t' v' d' p')
    (h'' : DataW.Trod enc P w base spare held t'' v'' d'' p'') (h3 : DataW.Trod enc P w base spare held t3 v3 d3 p3) (h4 : DataW.Trod enc P w base spare held t4 v4 d4 p4) : DataW.TrodAll enc P w base spare held [t, t', t'', t3, t4] [v, v', v'', v3, v4] [d, d', d'', d3, d4] (p ++ (p' ++ (p'' ++ (p3 ++ p4)))) := ⟨p, p' ++ (p'' ++ (p3 ++ p4)), h, trodAll_mk4 h' h'' h3 h4, rfl⟩
end
open Go.Deep
theorem laidOut : laidOutB Tryz.prog = true := by kernel_rfl
theorem int_of_wf {x : Int} (h : (Lit.int .i64 x).wf = true) : isInt x := by
  simp only [Lit.wf, Bool.and_eq_true, decide_eq_true_eq] at h
  rw [show IntKind.i64.min = -9223372036854775808 from rfl, show IntKind.i64.max = 9223372036854775807 from rfl] at h
  exact h
theorem cellsGroup : Tryz.prog.cellsOf 31 = 3 := by kernel_rfl
theorem cellsSetup : Tryz.prog.cellsOf 34 = 5 := by kernel_rfl
theorem cellsSig : Tryz.prog.cellsOf 60 = 2 := by kernel_rfl
theorem cellsInts : Tryz.prog.cellsOf 32 = 1 := by kernel_rfl
section
variable {H : Type} {enc : TypeId × Value → H} {w : World}
/-- A slice of ints that came in. -/
theorem in_ints {fuel : Nat} {v : Value} {y : DataW H × List MemPlace} (h : DataW.trod enc Tryz.prog w 0 (fun _ => true) true fuel 32 [v] = some y) :
    ∃ xs, IsNums v xs w ∧ (∀ x ∈ xs, isInt x) ∧ xs.length ≤ 9223372036854775807 := by
  rcases open_ints Tryz.underlying32 Tryz.underlying3 (by kernel_rfl) h with ⟨hcs, -⟩ | ⟨a, len, cap, zs, hcs, -, hl, hm, hz, -, hcell, hwz⟩
  · simp only [List.cons.injEq, and_true] at hcs
    exact ⟨[], .inl ⟨⟨none, 0, hcs⟩, rfl⟩, by simp, by simp⟩
  · simp only [List.cons.injEq, and_true] at hcs
    have hz2 : zs.length = cap := by simpa using hz
    unfold maxLen at hm
    have hlt : (zs.take len).length = len := by rw [List.length_take]; omega
    refine ⟨zs.take len, ?_, fun x hx => int_of_wf (hwz x (List.mem_of_mem_take hx)), by omega⟩
    by_cases h0 : len = 0
    · exact .inl ⟨⟨some a, cap, by rw [hcs, h0]⟩, by rw [h0]; rfl⟩
    · obtain ⟨b, off, rfl, hc⟩ := ints_at hcell (by omega)
      have hb : b < w.heap.size := by
        have h1 := hc 0 (by omega)
        rcases Nat.lt_or_ge b w.heap.size with h' | h'
        · exact h'
        · simp [World.cell?, Array.getElem?_eq_none h'] at h1
      refine .inr ⟨b, off, cap, by rw [hlt, hcs], hb, fun i x hx => ?_⟩
      have hi : i < (zs.take len).length := (List.getElem?_eq_some_iff.1 hx).1
      rw [hc i (by omega)]
      rw [List.getElem?_take_of_lt (by omega)] at hx
      rw [List.getD_eq_getElem?_getD, hx]; rfl
/-- An int that came in. -/
theorem in_int {n : Nat} {v : Value} {y : DataW H × List MemPlace} (h : DataW.trod enc Tryz.prog w 0 (fun _ => true) true n 3 [v] = some y) : ∃ x, v = .int .i64 x ∧ isInt x := by
  obtain ⟨k, e0, -, w0⟩ := DataW.trod_int Tryz.underlying3 h
  simp only [List.cons.injEq, and_true] at e0
  exact ⟨k, e0, int_of_wf w0⟩
theorem in_group {n : Nat} {c0 c1 c2 : Value} {y : DataW H × List MemPlace} (h : DataW.trod enc Tryz.prog w 0 (fun _ => true) true n 31 [c0, c1, c2] = some y) :
    ∃ P Q G, c0 = .int .i64 P ∧ c1 = .int .i64 Q ∧ c2 = .int .i64 G ∧ isInt P ∧ isInt Q ∧ isInt G := by
  obtain ⟨xs, m, _, _, _, hlen, hg⟩ := DataW.trod_struct Tryz.underlying31 h
  match xs, hlen with
  | [y0, y1, y2], _ =>
    have g0 : DataW.trod enc Tryz.prog w 0 (fun _ => true) true m 3 (([c0, c1, c2].drop 0).take (Tryz.prog.cellsOf 3)) = some y0 := hg 0 _ rfl
    have g1 : DataW.trod enc Tryz.prog w 0 (fun _ => true) true m 3 (([c0, c1, c2].drop 1).take (Tryz.prog.cellsOf 3)) = some y1 := hg 1 _ rfl
    have g2 : DataW.trod enc Tryz.prog w 0 (fun _ => true) true m 3 (([c0, c1, c2].drop 2).take (Tryz.prog.cellsOf 3)) = some y2 := hg 2 _ rfl
    rw [cellsInt] at g0 g1 g2
    obtain ⟨P, rfl, hP⟩ := in_int g0
    obtain ⟨Q, rfl, hQ⟩ := in_int g1
    obtain ⟨G, rfl, hG⟩ := in_int g2
    exact ⟨P, Q, G, rfl, rfl, rfl, hP, hQ, hG⟩
set_option maxRecDepth 100000 in
/-- A setup that came in. -/
theorem in_setup {r : Reach} {b0 : Nat} {v : Value} {d : DataW H} {p : List MemPlace} (hv : Value.okWide Tryz.prog w r b0 34 v) (h : DataW.Trod enc Tryz.prog w 0 (fun _ => true) true 34 v d p) :
    ∃ (s : SetD) (vb : Value), v = s.val vb ∧ s.ints ∧ IsNums vb s.bs w := by
  obtain ⟨cs, rfl, hsz⟩ := okWide_struct Tryz.underlying34 hv
  obtain ⟨l⟩ := cs
  match l, hsz.trans cellsSetup with
  | [c0, c1, c2, c3, c4], _ =>
    obtain ⟨fuel, hf⟩ := h
    obtain ⟨xs, n, _, _, _, hlen, hg⟩ := DataW.trod_struct Tryz.underlying34 hf
    match xs, hlen with
    | [y0, y1, y2], _ =>
      have g0 : DataW.trod enc Tryz.prog w 0 (fun _ => true) true n 31 (([c0, c1, c2, c3, c4].drop 0).take (Tryz.prog.cellsOf 31)) = some y0 := hg 0 _ rfl
      have g1 : DataW.trod enc Tryz.prog w 0 (fun _ => true) true n 32 (([c0, c1, c2, c3, c4].drop 3).take (Tryz.prog.cellsOf 32)) = some y1 := hg 1 _ rfl
      have g2 : DataW.trod enc Tryz.prog w 0 (fun _ => true) true n 3 (([c0, c1, c2, c3, c4].drop 4).take (Tryz.prog.cellsOf 3)) = some y2 := hg 2 _ rfl
      rw [cellsGroup] at g0
      rw [cellsInts] at g1
      rw [cellsInt] at g2
      obtain ⟨P, Q, G, rfl, rfl, rfl, hP, hQ, hG⟩ := in_group g0
      obtain ⟨bs, hb, hbi, hbl⟩ := in_ints g1
      obtain ⟨B, rfl, hB⟩ := in_int g2
      exact ⟨⟨P, Q, G, bs, B⟩, c3, rfl, ⟨hP, hQ, hG, hB, hbi, hbl⟩, hb⟩
set_option maxRecDepth 100000 in
/-- A signature that came in. -/
theorem in_sig {r : Reach} {b0 : Nat} {v : Value} {d : DataW H} {p : List MemPlace} (hv : Value.okWide Tryz.prog w r b0 60 v) (h : DataW.Trod enc Tryz.prog w 0 (fun _ => true) true 60 v d p) :
    ∃ c t : Int, v = .agg #[.int .i64 c, .int .i64 t] ∧ isInt c ∧ isInt t := by
  obtain ⟨cs, rfl, hsz⟩ := okWide_struct Tryz.underlying60 hv
  obtain ⟨l⟩ := cs
  match l, hsz.trans cellsSig with
  | [c0, c1], _ =>
    obtain ⟨fuel, hf⟩ := h
    obtain ⟨xs, n, _, _, _, hlen, hg⟩ := DataW.trod_struct Tryz.underlying60 hf
    match xs, hlen with
    | [y0, y1], _ =>
      have g0 : DataW.trod enc Tryz.prog w 0 (fun _ => true) true n 3 (([c0, c1].drop 0).take (Tryz.prog.cellsOf 3)) = some y0 := hg 0 _ rfl
      have g1 : DataW.trod enc Tryz.prog w 0 (fun _ => true) true n 3 (([c0, c1].drop 1).take (Tryz.prog.cellsOf 3)) = some y1 := hg 1 _ rfl
      rw [cellsInt] at g0 g1
      obtain ⟨C, rfl, hC⟩ := in_int g0
      obtain ⟨T, rfl, hT⟩ := in_int g1
      exact ⟨C, T, rfl, hC, hT⟩
end
end Go.Proofs.YthnkfjjgccabeaaGreatDoor
