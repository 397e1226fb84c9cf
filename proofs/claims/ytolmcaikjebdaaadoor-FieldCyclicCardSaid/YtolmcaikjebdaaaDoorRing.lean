/- The law FieldRing. -/
import Derived.Test.YtolmcaikjebdaaaDoorLay
import Derived.BigGuard
import Derived.BigGuardPart
import Derived.BigRegion
namespace Go.Proofs.YtolmcaikjebdaaaDoor
open Go.RowKit

set_option maxRecDepth 100000 in
set_option maxHeartbeats 2000000 in
theorem ring_out (n a b c : Int) (hn : ¬ isMod n) (ha : isInt a) (hb : isInt b) (w : World) (hE : Env w) :
    Calls Tryd.prog 6 #[.int .i64 n, .int .i64 a, .int .i64 b, .int .i64 c] w (Tpost w) := by
  unfold Tpost
  have c1 := Lib.hid (sane_calls w hE)
  have c2 := fun w => Lib.hid (inv_calls n a ha w)
  have c3 := fun w => Lib.hid (add_calls n a b ha hb w)
  have c4 := fun w => Lib.hid (sub_calls n a b ha hb w)
  have c5 := fun w => Lib.hid (mul_calls n a b ha hb w)
  have c6 := fun w => Lib.hid (pow_calls n a b ha hb w)
  rw [show InvV n a = .tuple #[.int .i64 0, .bool false] by unfold InvV; rw [if_neg hn]] at c2
  rw [show addZ n a b = 0 by unfold addZ; rw [if_neg hn]] at c3
  rw [show subZ n a b = 0 by unfold subZ; rw [if_neg hn]] at c4
  rw [show mulZ n a b = 0 by unfold mulZ; rw [if_neg hn]] at c5
  rw [show powZ n a b = 0 by unfold powZ; rw [if_neg hn]] at c6
  by_cases h1 : n < 1
  · have d1 : decide (n < 1) = true := decide_eq_true h1
    clear hn
    go_enter Tryd.func6, Tryd.ntmps6
    go_wp2_with fail
    refine c1.out.mono ?_
    rintro e w1 ⟨rfl, hb1⟩
    go_wp2_with fail
    refine Calls.mono (c2 w1).out ?_
    rintro e w' ⟨rfl, rfl⟩
    go_wp2_with fail
    refine Calls.mono (c3 w1).out ?_
    rintro e w' ⟨rfl, rfl⟩
    go_wp2_with fail
    refine Calls.mono (c4 w1).out ?_
    rintro e w' ⟨rfl, rfl⟩
    go_wp2_with fail
    refine Calls.mono (c5 w1).out ?_
    rintro e w' ⟨rfl, m, rfl⟩
    go_wp2_with fail
    refine Calls.mono (c6 (w1.drewN m)).out ?_
    rintro e w' ⟨rfl, m2, rfl⟩
    go_wp2
    go_ret
    exact ⟨rfl, below_drewN hb1 _⟩
  · have d1 : decide (n < 1) = false := decide_eq_false h1
    have d2 : decide (2305843009213693952 ≤ n) = true := decide_eq_true (by unfold isMod at hn; omega)
    clear hn
    go_enter Tryd.func6, Tryd.ntmps6
    go_wp2_with fail
    refine c1.out.mono ?_
    rintro e w1 ⟨rfl, hb1⟩
    go_wp2_with fail
    refine Calls.mono (c2 w1).out ?_
    rintro e w' ⟨rfl, rfl⟩
    go_wp2_with fail
    refine Calls.mono (c3 w1).out ?_
    rintro e w' ⟨rfl, rfl⟩
    go_wp2_with fail
    refine Calls.mono (c4 w1).out ?_
    rintro e w' ⟨rfl, rfl⟩
    go_wp2_with fail
    refine Calls.mono (c5 w1).out ?_
    rintro e w' ⟨rfl, m, rfl⟩
    go_wp2_with fail
    refine Calls.mono (c6 (w1.drewN m)).out ?_
    rintro e w' ⟨rfl, m2, rfl⟩
    go_wp2
    go_ret
    exact ⟨rfl, below_drewN hb1 _⟩

/-- A call that keeps what is below, in a longer run. -/
theorem keep {w0 w : World} {P : Program} {f : FuncId} {args : Array Value} {v u : Value} (hv : v = u) (hc : Calls P f args w fun e w' => e = .returned v ∧ w = w') (h : Below w0.heap.size w0 w) :
    Calls P f args w fun e w' => e = .returned u ∧ Below w0.heap.size w0 w' := hc.mono fun _ _ ⟨he, hn⟩ => ⟨by rw [he, hv], hn ▸ h⟩
theorem keepR {w0 w : World} {P : Program} {f : FuncId} {args : Array Value} {v u : Value} (hv : v = u) (hc : Calls P f args w (Ret v w)) (h : Below w0.heap.size w0 w) :
    Calls P f args w fun e w' => e = .returned u ∧ Below w0.heap.size w0 w' := hc.mono fun _ _ ⟨he, n, hn⟩ => ⟨by rw [he, hv], by rw [hn]; exact below_drewN h n⟩
/-- Such a call within a region that keeps the world but for what it draws. -/
theorem quiet_ret {P : Program} {f : FuncId} {args : Array Value} {w : World} {n : Nat} {v u : Value} (hv : v = u) (h : Calls P f args (w.drewN n) (Ret v (w.drewN n))) :
    Calls P f args (w.drewN n) fun e w'' => e = .returned u ∧ ∃ m, w'' = w.drewN m := h.mono fun _ _ ⟨he, m, hm⟩ => ⟨by rw [he, hv], n + m, by rw [hm, World.drewN_drewN]⟩
theorem quiet_same {P : Program} {f : FuncId} {args : Array Value} {w : World} {n : Nat} {v u : Value} (hv : v = u) (h : Calls P f args (w.drewN n) fun e w' => e = .returned v ∧ w.drewN n = w') :
    Calls P f args (w.drewN n) fun e w'' => e = .returned u ∧ ∃ m, w'' = w.drewN m := h.mono fun _ _ ⟨he, hm⟩ => ⟨by rw [he, hv], n, hm.symm⟩
theorem as_args {P : Program} {f : FuncId} {args args' : Array Value} {w : World} {Q : Ending → World → Prop} (ha : args' = args) (h : Calls P f args w Q) : Calls P f args' w Q := by rw [ha]; exact h
theorem int_eq {a b : Int} (h : a = b) : Value.int .i64 a = Value.int .i64 b := by rw [h]
theorem add_keep {n a b v : Int} (ha : isInt a) (hb : isInt b) (hv : addZ n a b = v) {w0 w : World} (h : Below w0.heap.size w0 w) :
    Calls Tryd.prog 15 #[.int .i64 n, .int .i64 a, .int .i64 b] w fun e w' => e = .returned (.int .i64 v) ∧ Below w0.heap.size w0 w' := keep (int_eq hv) (add_calls n a b ha hb w) h
theorem sub_keep {n a b v : Int} (ha : isInt a) (hb : isInt b) (hv : subZ n a b = v) {w0 w : World} (h : Below w0.heap.size w0 w) :
    Calls Tryd.prog 17 #[.int .i64 n, .int .i64 a, .int .i64 b] w fun e w' => e = .returned (.int .i64 v) ∧ Below w0.heap.size w0 w' := keep (int_eq hv) (sub_calls n a b ha hb w) h
theorem mul_keep {n a b v : Int} (ha : isInt a) (hb : isInt b) (hv : mulZ n a b = v) {w0 w : World} (h : Below w0.heap.size w0 w) :
    Calls Tryd.prog 19 #[.int .i64 n, .int .i64 a, .int .i64 b] w fun e w' => e = .returned (.int .i64 v) ∧ Below w0.heap.size w0 w' := keepR (int_eq hv) (mul_calls n a b ha hb w) h
theorem addZ_is {n : Int} (hn : isMod n) (a b : Int) : addZ n a b = (a + b) % n := by unfold addZ; rw [if_pos hn]
theorem subZ_is {n : Int} (hn : isMod n) (a b : Int) : subZ n a b = (a - b) % n := by unfold subZ; rw [if_pos hn]
theorem mulZ_is {n : Int} (hn : isMod n) (a b : Int) : mulZ n a b = (a * b) % n := by unfold mulZ; rw [if_pos hn]
theorem subZ_in {n : Int} (hn : isMod n) (a b : Int) : 0 ≤ subZ n a b ∧ subZ n a b < n := by rw [subZ_is hn]; exact res_in n _ hn
section
variable {n : Int} (hn : isMod n) (a b c : Int)
include hn
theorem r_comm : addZ n b a = addZ n a b := by rw [addZ_is hn, addZ_is hn, Int.add_comm]
theorem r_mcomm : mulZ n b a = mulZ n a b := by rw [mulZ_is hn, mulZ_is hn, Int.mul_comm]
theorem r_back : subZ n (addZ n a b) b = addZ n a 0 := by
  rw [subZ_is hn, addZ_is hn, addZ_is hn, Int.sub_emod, Int.emod_emod_of_dvd _ (Int.dvd_refl n), ← Int.sub_emod]
  congr 1; omega
theorem r_self : subZ n a a = 0 := by rw [subZ_is hn, Int.sub_self]; exact Int.zero_emod n
theorem r_assoc : addZ n a (addZ n b c) = addZ n (addZ n a b) c := by
  rw [addZ_is hn, addZ_is hn, addZ_is hn, addZ_is hn, Int.add_emod_emod, Int.emod_add_emod, Int.add_assoc]
theorem r_massoc : mulZ n a (mulZ n b c) = mulZ n (mulZ n a b) c := by
  rw [mulZ_is hn, mulZ_is hn, mulZ_is hn, mulZ_is hn, mul_emod_r, mul_emod_l, Int.mul_assoc]
theorem r_dist : addZ n (mulZ n a c) (mulZ n b c) = mulZ n (addZ n a b) c := by
  rw [mulZ_is hn, mulZ_is hn, mulZ_is hn, addZ_is hn, addZ_is hn, Int.add_emod_emod, Int.emod_add_emod, mul_emod_l, Int.add_mul]
theorem r_one : mulZ n a 1 = addZ n a 0 := by rw [mulZ_is hn, addZ_is hn, Int.mul_one, Int.add_zero]
theorem r_neg : subZ n 0 a = mulZ n a (-1) := by rw [mulZ_is hn, subZ_is hn]; congr 1; omega
end

theorem mask_in (a : Int) (_ : isInt a) : 0 ≤ bits .and .i64 a 1073741823 ∧ bits .and .i64 a 1073741823 < 1073741824 := by
  have h2 : (BitVec.ofInt 64 (1073741823 : Int)).toNat = 1073741823 := by decide +kernel
  have hle : (BitVec.ofInt 64 a).toNat &&& 1073741823 ≤ 1073741823 := Nat.and_le_right
  show 0 ≤ IntKind.i64.wrap ((BitVec.ofInt 64 a &&& BitVec.ofInt 64 1073741823).toNat : Int) ∧ IntKind.i64.wrap ((BitVec.ofInt 64 a &&& BitVec.ofInt 64 1073741823).toNat : Int) < 1073741824
  rw [BitVec.toNat_and, h2]
  generalize (BitVec.ofInt 64 a).toNat &&& 1073741823 = z at *
  have hz : IntKind.i64.wrap (z : Int) = (z : Int) := by simp only [IntKind.wrap, IntKind.bits, IntKind.signed]; simp; omega
  rw [hz]; omega
set_option maxRecDepth 100000 in
set_option maxHeartbeats 2000000 in
theorem ring_in (n a b c : Int) (hn : isMod n) (ha : isInt a) (hb : isInt b) (hc : isInt c) (w : World) (hE : Env w) :
    Calls Tryd.prog 6 #[.int .i64 n, .int .i64 a, .int .i64 b, .int .i64 c] w (Tpost w) := by
  unfold Tpost
  have c1 := Lib.hid (sane_calls w hE)
  clear hE
  have i0 : isInt 0 := by unfold isInt; omega
  have i1 : isInt 1 := by unfold isInt; omega
  have im : isInt (-1) := by unfold isInt; omega
  obtain ⟨A, hA⟩ : ∃ v, v = addZ n a b := ⟨_, rfl⟩
  obtain ⟨M, hM⟩ : ∃ v, v = mulZ n a b := ⟨_, rfl⟩
  obtain ⟨S, hS⟩ : ∃ v, v = addZ n a 0 := ⟨_, rfl⟩
  obtain ⟨T, hT⟩ : ∃ v, v = addZ n A c := ⟨_, rfl⟩
  obtain ⟨U, hU⟩ : ∃ v, v = addZ n b c := ⟨_, rfl⟩
  obtain ⟨V, hV⟩ : ∃ v, v = mulZ n M c := ⟨_, rfl⟩
  obtain ⟨X, hX⟩ : ∃ v, v = mulZ n b c := ⟨_, rfl⟩
  obtain ⟨Y, hY⟩ : ∃ v, v = mulZ n A c := ⟨_, rfl⟩
  obtain ⟨Z, hZ⟩ : ∃ v, v = mulZ n a c := ⟨_, rfl⟩
  obtain ⟨N, hN⟩ : ∃ v, v = mulZ n a (-1) := ⟨_, rfl⟩
  have bA : 0 ≤ A ∧ A < n := by rw [hA]; exact addZ_in hn _ _
  have bM : 0 ≤ M ∧ M < n := by rw [hM]; exact mulZ_in hn _ _
  have jA := isInt_res hn bA
  have jM := isInt_res hn bM
  have jU : isInt U := by rw [hU]; exact isInt_res hn (addZ_in hn _ _)
  have jX : isInt X := by rw [hX]; exact isInt_res hn (mulZ_in hn _ _)
  have jZ : isInt Z := by rw [hZ]; exact isInt_res hn (mulZ_in hn _ _)
  obtain ⟨x, hx⟩ : ∃ x, x = bits .and .i64 a 1073741823 := ⟨_, rfl⟩
  obtain ⟨y, hy⟩ : ∃ y, y = bits .and .i64 b 1073741823 := ⟨_, rfl⟩
  have bx : 0 ≤ x ∧ x < 1073741824 := by rw [hx]; exact mask_in a ha
  have by' : 0 ≤ y ∧ y < 1073741824 := by rw [hy]; exact mask_in b hb
  have jx : isInt x := by unfold isInt; omega
  have jy : isInt y := by unfold isInt; omega
  obtain ⟨R, hR⟩ : ∃ R, R = mulZ n x y := ⟨_, rfl⟩
  have hxy0 : 0 ≤ x * y := Int.mul_nonneg bx.1 by'.1
  have hxy1 : x * y < 1152921504606846976 := by
    have h1 := Int.mul_le_mul (show x ≤ 1073741823 by omega) (show y ≤ 1073741823 by omega) by'.1 (by omega)
    omega
  obtain ⟨p, hp⟩ : ∃ p, p = x * y := ⟨_, rfl⟩
  have hpw : IntKind.i64.wrap (x * y) = p := by
    rw [← hp] at hxy0 hxy1 ⊢
    simp only [IntKind.wrap, IntKind.bits, IntKind.signed]; simp; omega
  have hpr : Int.tmod p n = R := by
    rw [Int.tmod_eq_emod_of_nonneg (by rw [hp]; exact hxy0), hR, mulZ_is hn, hp]
  have hn0 : n ≠ 0 := by have := hn.1; omega
  have k1 := fun (w' : World) (h : Below w.heap.size w w') => Lib.hid (add_keep (n := n) (a := a) (b := b) (v := A) ha hb hA.symm h)
  have k2 := fun (w' : World) (h : Below w.heap.size w w') => Lib.hid (mul_keep (n := n) (a := a) (b := b) (v := M) ha hb hM.symm h)
  have k3 := fun (w' : World) (h : Below w.heap.size w w') => Lib.hid (add_keep (n := n) (a := b) (b := a) (v := A) hb ha ((r_comm hn a b).trans hA.symm) h)
  have k4 := fun (w' : World) (h : Below w.heap.size w w') => Lib.hid (mul_keep (n := n) (a := b) (b := a) (v := M) hb ha ((r_mcomm hn a b).trans hM.symm) h)
  have k5 := fun (w' : World) (h : Below w.heap.size w w') => Lib.hid (sub_keep (n := n) (a := A) (b := b) (v := S) jA hb (by rw [hA, r_back hn, hS]) h)
  have k6 := fun (w' : World) (h : Below w.heap.size w w') => Lib.hid (add_keep (n := n) (a := a) (b := 0) (v := S) ha i0 hS.symm h)
  have k7 := fun (w' : World) (h : Below w.heap.size w w') => Lib.hid (sub_keep (n := n) (a := a) (b := a) (v := 0) ha ha (r_self hn a) h)
  have k8 := fun (w' : World) (h : Below w.heap.size w w') => Lib.hid (add_keep (n := n) (a := A) (b := c) (v := T) jA hc hT.symm h)
  have k9 := fun (w' : World) (h : Below w.heap.size w w') => Lib.hid (add_keep (n := n) (a := b) (b := c) (v := U) hb hc hU.symm h)
  have k10 := fun (w' : World) (h : Below w.heap.size w w') => Lib.hid (add_keep (n := n) (a := a) (b := U) (v := T) ha jU (by rw [hU, r_assoc hn, ← hA, ← hT]) h)
  have k11 := fun (w' : World) (h : Below w.heap.size w w') => Lib.hid (mul_keep (n := n) (a := M) (b := c) (v := V) jM hc hV.symm h)
  have k12 := fun (w' : World) (h : Below w.heap.size w w') => Lib.hid (mul_keep (n := n) (a := b) (b := c) (v := X) hb hc hX.symm h)
  have k13 := fun (w' : World) (h : Below w.heap.size w w') => Lib.hid (mul_keep (n := n) (a := a) (b := X) (v := V) ha jX (by rw [hX, r_massoc hn, ← hM, ← hV]) h)
  have k14 := fun (w' : World) (h : Below w.heap.size w w') => Lib.hid (mul_keep (n := n) (a := A) (b := c) (v := Y) jA hc hY.symm h)
  have k15 := fun (w' : World) (h : Below w.heap.size w w') => Lib.hid (mul_keep (n := n) (a := a) (b := c) (v := Z) ha hc hZ.symm h)
  have k16 := fun (w' : World) (h : Below w.heap.size w w') => Lib.hid (add_keep (n := n) (a := Z) (b := X) (v := Y) jZ jX (by rw [hZ, hX, r_dist hn, ← hA, ← hY]) h)
  have k17 := fun (w' : World) (h : Below w.heap.size w w') => Lib.hid (mul_keep (n := n) (a := x) (b := y) (v := R) jx jy hR.symm h)
  have k18 := fun (w' : World) (h : Below w.heap.size w w') => Lib.hid (mul_keep (n := n) (a := a) (b := 1) (v := S) ha i1 ((r_one hn a).trans hS.symm) h)
  have k19 := fun (w' : World) (h : Below w.heap.size w w') => Lib.hid (mul_keep (n := n) (a := a) (b := (-1)) (v := N) ha im hN.symm h)
  have k20 := fun (w' : World) (h : Below w.heap.size w w') => Lib.hid (sub_keep (n := n) (a := 0) (b := a) (v := N) i0 ha ((r_neg hn a).trans hN.symm) h)
  have d1 : decide (n < 1) = false := decide_eq_false (by have := hn.1; omega)
  have d2 : decide (2305843009213693952 ≤ n) = false := decide_eq_false (by have := hn.2; omega)
  have e1 : decide (A < 0) = false := decide_eq_false (by omega)
  have e2 : decide (n ≤ A) = false := decide_eq_false (by omega)
  have e3 : decide (M < 0) = false := decide_eq_false (by omega)
  have e4 : decide (n ≤ M) = false := decide_eq_false (by omega)
  have q1 := hx.symm
  have q2 := hy.symm
  have J : Hid (isInt x ∧ isInt y ∧ isInt a ∧ isInt 1 ∧ isInt 0 ∧ isInt (-1) ∧ mulZ n a 1 = S ∧ addZ n a 0 = S ∧ mulZ n a (-1) = N ∧ subZ n 0 a = N) := Lib.hid ⟨jx, jy, ha, i1, i0, im, (r_one hn a).trans hS.symm, hS.symm, hN.symm, (r_neg hn a).trans hN.symm⟩
  have hR := Lib.hid hR
  clear hA hM hS hT hU hV hX hY hZ hN bA bM jA jM jU jX jZ bx by' jx jy hxy0 hxy1 hp i0 i1 im ha hb hc hn hx hy
  go_enter Tryd.func6, Tryd.ntmps6
  go_wp2_with fail
  refine c1.out.mono ?_
  rintro e w1 ⟨rfl, hB⟩
  go_wp2_with fail
  refine Calls.mono (k1 _ hB).out ?_
  clear hB
  rintro e w2 ⟨rfl, hB⟩
  go_wp2_with fail
  refine Calls.mono (k2 _ hB).out ?_
  clear hB
  rintro e w2 ⟨rfl, hB⟩
  go_wp2_with fail
  refine Calls.mono (k3 _ hB).out ?_
  clear hB
  rintro e w2 ⟨rfl, hB⟩
  go_wp2_with fail
  refine Calls.mono (k4 _ hB).out ?_
  clear hB
  rintro e w2 ⟨rfl, hB⟩
  go_wp2_with fail
  refine Calls.mono (k5 _ hB).out ?_
  clear hB
  rintro e w2 ⟨rfl, hB⟩
  go_wp2_with fail
  refine Calls.mono (k6 _ hB).out ?_
  clear hB
  rintro e w2 ⟨rfl, hB⟩
  go_wp2_with fail
  refine Calls.mono (k7 _ hB).out ?_
  clear hB
  rintro e w2 ⟨rfl, hB⟩
  go_wp2_with fail
  refine Calls.mono (k8 _ hB).out ?_
  clear hB
  rintro e w2 ⟨rfl, hB⟩
  go_wp2_with fail
  refine Calls.mono (k9 _ hB).out ?_
  clear hB
  rintro e w2 ⟨rfl, hB⟩
  go_wp2_with fail
  refine Calls.mono (k10 _ hB).out ?_
  clear hB
  rintro e w2 ⟨rfl, hB⟩
  go_wp2_with fail
  refine Calls.mono (k11 _ hB).out ?_
  clear hB
  rintro e w2 ⟨rfl, hB⟩
  go_wp2_with fail
  refine Calls.mono (k12 _ hB).out ?_
  clear hB
  rintro e w2 ⟨rfl, hB⟩
  go_wp2_with fail
  refine Calls.mono (k13 _ hB).out ?_
  clear hB
  rintro e w2 ⟨rfl, hB⟩
  go_wp2_with fail
  refine Calls.mono (k14 _ hB).out ?_
  clear hB
  rintro e w2 ⟨rfl, hB⟩
  go_wp2_with fail
  refine Calls.mono (k15 _ hB).out ?_
  clear hB
  rintro e w2 ⟨rfl, hB⟩
  go_wp2_with fail
  refine Calls.mono (k12 _ hB).out ?_
  clear hB
  rintro e w2 ⟨rfl, hB⟩
  go_wp2_with fail
  refine Calls.mono (k16 _ hB).out ?_
  clear hB
  rintro e w2 ⟨rfl, hB⟩
  have d3 : (n == 0) = false := by simp [hn0]
  have Q17 := fun (n' : Nat) (args : Array Value) (hargs : args = #[.int .i64 n, .int .i64 x, .int .i64 y]) => Lib.hid (as_args hargs (quiet_ret (int_eq hR.out.symm) (mul_calls n x y J.out.1 J.out.2.1 (w2.drewN n'))))
  have Q18 := fun (n' : Nat) (args : Array Value) (hargs : args = #[.int .i64 n, .int .i64 a, .int .i64 1]) => Lib.hid (as_args hargs (quiet_ret (int_eq J.out.2.2.2.2.2.2.1) (mul_calls n a 1 J.out.2.2.1 J.out.2.2.2.1 (w2.drewN n'))))
  have Q6 := fun (n' : Nat) (args : Array Value) (hargs : args = #[.int .i64 n, .int .i64 a, .int .i64 0]) => Lib.hid (as_args hargs (quiet_same (int_eq J.out.2.2.2.2.2.2.2.1) (add_calls n a 0 J.out.2.2.1 J.out.2.2.2.2.1 (w2.drewN n'))))
  have Q19 := fun (n' : Nat) (args : Array Value) (hargs : args = #[.int .i64 n, .int .i64 a, .int .i64 (-1)]) => Lib.hid (as_args hargs (quiet_ret (int_eq J.out.2.2.2.2.2.2.2.2.1) (mul_calls n a (-1) J.out.2.2.1 J.out.2.2.2.2.2.1 (w2.drewN n'))))
  have Q20 := fun (n' : Nat) (args : Array Value) (hargs : args = #[.int .i64 n, .int .i64 0, .int .i64 a]) => Lib.hid (as_args hargs (quiet_same (int_eq J.out.2.2.2.2.2.2.2.2.2) (sub_calls n 0 a J.out.2.2.2.2.1 J.out.2.2.1 (w2.drewN n'))))
  clear k1 k2 k3 k4 k5 k6 k7 k8 k9 k10 k11 k12 k13 k14 k15 k16 k17 k18 k19 k20 c1 e1 e2 e3 e4 d1 d2 J hR
  have hBq := Lib.hid (fun m => below_drewN hB m)
  clear hB
  have r1 : (R == R) = true := by simp
  have r2 : (S == S) = true := by simp
  have r3 : (N == N) = true := by simp
  go_wp2
  go_quiet ((first
    | (go_at_call 19; exact (Q17 _ _ (by with_reducible rfl)).out)
    | (go_at_call 19; exact (Q18 _ _ (by with_reducible rfl)).out)
    | (go_at_call 19; exact (Q19 _ _ (by with_reducible rfl)).out)
    | (go_at_call 15; exact (Q6 _ _ (by with_reducible rfl)).out)
    | (go_at_call 17; exact (Q20 _ _ (by with_reducible rfl)).out)))
  go_wp2
  go_ret
  exact ⟨rfl, hBq.out _⟩

theorem ring_any (n : Int) (_ : isInt n) (a : Int) (ha : isInt a) (b : Int) (hb : isInt b) (c : Int) (hc : isInt c) (w : World) (hE : Env w) :
    Calls Tryd.prog 6 #[.int .i64 n, .int .i64 a, .int .i64 b, .int .i64 c] w (Tpost w) := by
  by_cases h : isMod n
  · exact ring_in n a b c h ha hb hc w hE
  · exact ring_out n a b c h ha hb w hE
end Go.Proofs.YtolmcaikjebdaaaDoor
