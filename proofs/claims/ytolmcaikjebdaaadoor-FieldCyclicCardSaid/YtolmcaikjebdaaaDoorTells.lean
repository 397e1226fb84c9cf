/- The law FieldTells. -/
import Derived.Test.YtolmcaikjebdaaaDoorRing
import Derived.Test.YtolmcaikjebdaaaDoorRef3
namespace Go.Proofs.YtolmcaikjebdaaaDoor
open Go.RowKit

theorem invV_is (n a : Int) : ∃ (x : Int) (k : Bool), InvV n a = .tuple #[.int .i64 x, .bool k] := by
  unfold InvV
  split
  · split
    · exact ⟨_, _, rfl⟩
    · exact ⟨_, _, rfl⟩
  · exact ⟨_, _, rfl⟩
theorem below_keep {w0 w : World} {P : Program} {f : FuncId} {args : Array Value} {v : Value} (hc : Calls P f args w fun e w' => e = .returned v ∧ Below w.heap.size w w') (h : Below w0.heap.size w0 w) :
    Calls P f args w fun e w' => e = .returned v ∧ Below w0.heap.size w0 w' := hc.mono fun _ _ ⟨he, hn⟩ => ⟨he, h.trans (hn.mono h.size)⟩
set_option maxRecDepth 100000 in
set_option maxHeartbeats 2000000 in
theorem tells_any (n : Int) (hn : isInt n) (a : Int) (ha : isInt a) (b : Int) (hb : isInt b) (w : World) (hE : Env w) :
    Calls Tryd.prog 3 #[.int .i64 n, .int .i64 a, .int .i64 b] w (Tpost w) := by
  unfold Tpost
  have c1 := Lib.hid (sane_calls w hE)
  have c2 := fun w => Lib.hid (inv_calls n a ha w)
  have c3 := fun w => Lib.hid (rinv_calls n a ha w)
  obtain ⟨I, k, hI⟩ := invV_is n a
  rw [hI] at c2 c3
  have c4 := fun w' (h : Below w.heap.size w w') (hE : Env w') => Lib.hid (keepR rfl (prime_calls n hn w' hE) h)
  have c5 := fun w' (h : Below w.heap.size w w') => Lib.hid (below_keep (rprime_calls n hn w') h)
  obtain ⟨pr, hpr⟩ : ∃ v, v = primeB n := ⟨_, rfl⟩
  rw [← hpr] at c4 c5
  obtain ⟨A, hA⟩ : ∃ v, v = addZ n a b := ⟨_, rfl⟩
  obtain ⟨S, hS⟩ : ∃ v, v = subZ n a b := ⟨_, rfl⟩
  obtain ⟨M, hM⟩ : ∃ v, v = mulZ n a b := ⟨_, rfl⟩
  obtain ⟨P, hP⟩ : ∃ v, v = powZ n a b := ⟨_, rfl⟩
  have k1 := fun w' (h : Below w.heap.size w w') => Lib.hid (keep (int_eq hA.symm) (add_calls n a b ha hb w') h)
  have k2 := fun w' (h : Below w.heap.size w w') => Lib.hid (keepR (int_eq hA.symm) (radd_calls n a b ha hb w') h)
  have k3 := fun w' (h : Below w.heap.size w w') => Lib.hid (keep (int_eq hS.symm) (sub_calls n a b ha hb w') h)
  have k4 := fun w' (h : Below w.heap.size w w') => Lib.hid (keepR (int_eq hS.symm) (rsub_calls n a b ha hb w') h)
  have k5 := fun w' (h : Below w.heap.size w w') => Lib.hid (keepR (int_eq hM.symm) (mul_calls n a b ha hb w') h)
  have k6 := fun w' (h : Below w.heap.size w w') => Lib.hid (keepR (int_eq hM.symm) (rmul_calls n a b ha hb w') h)
  have k7 := fun w' (h : Below w.heap.size w w') => Lib.hid (keepR (int_eq hP.symm) (pow_calls n a b ha hb w') h)
  have k8 := fun w' (h : Below w.heap.size w w') => Lib.hid (keepR (int_eq hP.symm) (rpow_calls n a b ha hb w') h)
  have hEn := fun w' (h : Below w.heap.size w w') => Lib.hid (hE.next h)
  have q1 : (I == I) = true := by simp
  have q2 : (I != I) = false := by simp
  clear hI hpr hA hS hM hP hE hn ha hb
  go_enter Tryd.func3, Tryd.ntmps3
  go_wp2_with fail
  refine c1.out.mono ?_
  rintro e w1 ⟨rfl, hB⟩
  go_wp2_with fail
  refine Calls.mono (c2 w1).out ?_
  rintro e w2 ⟨rfl, rfl⟩
  go_wp2_with fail
  refine Calls.mono (c3 w1).out ?_
  rintro e w2 ⟨rfl, m, rfl⟩
  have hB := below_drewN hB m
  generalize w1.drewN m = w2 at *
  go_wp2_with fail
  refine Calls.mono (c4 w2 hB (hEn w2 hB).out).out ?_
  clear hB
  rintro e w3 ⟨rfl, hB⟩
  go_wp2_with fail
  refine Calls.mono (c5 w3 hB).out ?_
  clear hB
  rintro e w4 ⟨rfl, hB⟩
  clear c1 c2 c3 c4 c5 hEn
  cases pr
  all_goals
    go_wp2_with fail
    refine Calls.mono (k1 w4 hB).out ?_
    clear hB
    rintro e w5 ⟨rfl, hB⟩
    go_wp2_with fail
    refine Calls.mono (k2 w5 hB).out ?_
    clear hB
    rintro e w6 ⟨rfl, hB⟩
    go_wp2_with fail
    refine Calls.mono (k3 w6 hB).out ?_
    clear hB
    rintro e w7 ⟨rfl, hB⟩
    go_wp2_with fail
    refine Calls.mono (k4 w7 hB).out ?_
    clear hB
    rintro e w8 ⟨rfl, hB⟩
    go_wp2_with fail
    refine Calls.mono (k5 w8 hB).out ?_
    clear hB
    rintro e w9 ⟨rfl, hB⟩
    go_wp2_with fail
    refine Calls.mono (k6 w9 hB).out ?_
    clear hB
    rintro e w10 ⟨rfl, hB⟩
    go_wp2_with fail
    refine Calls.mono (k7 w10 hB).out ?_
    clear hB
    rintro e w11 ⟨rfl, hB⟩
    go_wp2_with fail
    refine Calls.mono (k8 w11 hB).out ?_
    clear hB
    rintro e w12 ⟨rfl, hB⟩
    go_wp2
    go_ret
    exact ⟨rfl, hB⟩
end Go.Proofs.YtolmcaikjebdaaaDoor
