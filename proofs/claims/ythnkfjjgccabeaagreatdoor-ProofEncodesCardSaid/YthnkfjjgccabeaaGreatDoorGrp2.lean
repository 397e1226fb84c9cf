/- Groups: making one, powers, products, quotients. -/
import Derived.Test.YthnkfjjgccabeaaGreatDoorGrp
namespace Go.Proofs.YthnkfjjgccabeaaGreatDoor
open Go.RowKit

theorem powZ_in {n : Int} (hn : isMod n) (a b : Int) : 0 ≤ powZ n a b ∧ powZ n a b < n := by
  unfold powZ
  rw [if_pos hn]
  split
  · exact res_in n _ hn
  · split
    · exact res_in n _ hn
    · have := hn.1; omega
theorem powZ_int (n a b : Int) : isInt (powZ n a b) := by
  by_cases hn : isMod n
  · exact isInt_res hn (powZ_in hn a b)
  · unfold powZ isInt; rw [if_neg hn]; omega
theorem wrap_int (x : Int) : isInt (IntKind.i64.wrap x) := by
  unfold isInt
  simp only [IntKind.wrap, IntKind.bits, IntKind.signed]
  simp; omega

theorem comp_yes (P Q G : Int) (h1 : isMod P) (h2 : isMod Q) (w : World) :
    Calls Tryz.prog 66 #[.agg #[.int .i64 P, .int .i64 Q, .int .i64 G]] w fun e w' => e = .returned (.bool true) ∧ Below w.heap.size w w' := by
  have hb := below_one w (.cells #[.int .i64 P, .int .i64 Q, .int .i64 G] 31)
  have H1 := fun w => Lib.hid (ismod_yes P h1 w)
  have H2 := fun w => Lib.hid (ismod_yes Q h2 w)
  clear h1 h2
  go_enter Tryz.func66, Tryz.ntmps66
  go_wp2_with fail
  refine (H1 _).out.mono ?_
  rintro e w' ⟨rfl, rfl⟩
  go_wp2_with fail
  refine (H2 _).out.mono ?_
  rintro e w' ⟨rfl, rfl⟩
  go_wp2
  go_ret
  exact ⟨rfl, hb⟩
theorem comp_no (P Q G : Int) (h : ¬ (isMod P ∧ isMod Q)) (w : World) :
    Calls Tryz.prog 66 #[.agg #[.int .i64 P, .int .i64 Q, .int .i64 G]] w fun e w' => e = .returned (.bool false) ∧ Below w.heap.size w w' := by
  have hb := below_one w (.cells #[.int .i64 P, .int .i64 Q, .int .i64 G] 31)
  by_cases h1 : isMod P
  · have H1 := fun w => Lib.hid (ismod_yes P h1 w)
    have H2 := fun w => Lib.hid (ismod_no Q (fun h2 => h ⟨h1, h2⟩) w)
    clear h1 h
    go_enter Tryz.func66, Tryz.ntmps66
    go_wp2_with fail
    refine (H1 _).out.mono ?_
    rintro e w' ⟨rfl, rfl⟩
    go_wp2_with fail
    refine (H2 _).out.mono ?_
    rintro e w' ⟨rfl, rfl⟩
    go_wp2
    go_ret
    exact ⟨rfl, hb⟩
  · have H1 := fun w => Lib.hid (ismod_no P h1 w)
    clear h1 h
    go_enter Tryz.func66, Tryz.ntmps66
    go_wp2_with fail
    refine (H1 _).out.mono ?_
    rintro e w' ⟨rfl, rfl⟩
    go_wp2
    go_ret
    exact ⟨rfl, hb⟩

def gPow (P Q x k : Int) : Int := if isMod P ∧ isMod Q then powZ P x (k % Q) else 0
def gTimes (P Q a b : Int) : Int := if isMod P ∧ isMod Q then mulZ P a b else 0
def gOver (P Q a b : Int) : Int := if isMod P ∧ isMod Q then mulZ P a (powZ P b (-1)) else 0

set_option maxHeartbeats 1000000 in
theorem power_calls (P Q G x k : Int) (hx : isInt x) (hk : isInt k) (w : World) :
    Calls Tryz.prog 42 #[.agg #[.int .i64 P, .int .i64 Q, .int .i64 G], .int .i64 x, .int .i64 k] w fun e w' => e = .returned (.int .i64 (gPow P Q x k)) ∧ Below w.heap.size w w' := by
  have hb := below_one w (.cells #[.int .i64 P, .int .i64 Q, .int .i64 G] 31)
  have hB : Blk (w.alloc (.cells #[.int .i64 P, .int .i64 Q, .int .i64 G] 31)) w.heap.size 31 #[.int .i64 P, .int .i64 Q, .int .i64 G] := Blk.new w _ _
  by_cases h : isMod P ∧ isMod Q
  · have hr := res_in Q k h.2
    obtain ⟨r, hr1⟩ : ∃ r, r = k % Q := ⟨_, rfl⟩
    have HR : Hid (gPow P Q x k = powZ P x r) := by show gPow P Q x k = _; unfold gPow; rw [if_pos h, hr1]
    have c1 := fun w => Lib.hid (comp_yes P Q G h.1 h.2 w)
    have c2 := fun w => Lib.hid (residue_calls Q k h.2 hk.1 hk.2 w)
    rw [← hr1] at c2 hr
    have c3 := fun w => Lib.hid (pow_calls P x r hx (isInt_res h.2 hr) w)
    generalize powZ P x r = v at *
    clear hr1 hr h
    go_enter Tryz.func42, Tryz.ntmps42
    go_wp2_with fail
    generalize (w.alloc (.cells #[.int .i64 P, .int .i64 Q, .int .i64 G] 31)) = W0 at *
    have h9 := (c1 W0).out
    clear c1
    refine Calls.mono h9 ?_
    rintro e w1 ⟨rfl, hb1⟩
    obtain ⟨hB1, z0, z1, z2⟩ := grp_cells hB hb1
    have hbb := hb.trans (hb1.mono hb.size)
    clear hB hb hb1
    go_wp2
    go_region_with (first
      | (go_at_call 67; have h9 := (c2 w1.drew).out; clear c2; refine Calls.mono h9 ?_; rintro e w' ⟨rfl, rfl⟩)
      | (go_at_call 65; have h9 := (c3 w1.drew).out; clear c3; refine Calls.mono h9 ?_; rintro e w' ⟨rfl, m, rfl⟩))
    all_goals
      go_wp2
      go_ret
      exact ⟨ret_i HR.out.symm, below_drewN hbb _⟩
  · have HR : Hid (gPow P Q x k = 0) := by show gPow P Q x k = _; unfold gPow; rw [if_neg h]
    have c1 := fun w => Lib.hid (comp_no P Q G h w)
    clear h
    go_enter Tryz.func42, Tryz.ntmps42
    go_wp2_with fail
    generalize (w.alloc (.cells #[.int .i64 P, .int .i64 Q, .int .i64 G] 31)) = W0 at *
    have h9 := (c1 W0).out
    clear c1
    refine Calls.mono h9 ?_
    rintro e w1 ⟨rfl, hb1⟩
    have hbb := hb.trans (hb1.mono hb.size)
    clear hB hb hb1
    go_wp2
    go_ret
    exact ⟨ret_i HR.out.symm, hbb⟩

set_option maxHeartbeats 1000000 in
theorem times_calls (P Q G a b : Int) (ha : isInt a) (hb' : isInt b) (w : World) :
    Calls Tryz.prog 41 #[.agg #[.int .i64 P, .int .i64 Q, .int .i64 G], .int .i64 a, .int .i64 b] w fun e w' => e = .returned (.int .i64 (gTimes P Q a b)) ∧ Below w.heap.size w w' := by
  have hb := below_one w (.cells #[.int .i64 P, .int .i64 Q, .int .i64 G] 31)
  have hB : Blk (w.alloc (.cells #[.int .i64 P, .int .i64 Q, .int .i64 G] 31)) w.heap.size 31 #[.int .i64 P, .int .i64 Q, .int .i64 G] := Blk.new w _ _
  by_cases h : isMod P ∧ isMod Q
  · have HR : Hid (gTimes P Q a b = mulZ P a b) := by show gTimes P Q a b = _; unfold gTimes; rw [if_pos h]
    have c1 := fun w => Lib.hid (comp_yes P Q G h.1 h.2 w)
    have c3 := fun w => Lib.hid (mul_calls P a b ha hb' w)
    generalize mulZ P a b = v at *
    clear h
    go_enter Tryz.func41, Tryz.ntmps41
    go_wp2_with fail
    generalize (w.alloc (.cells #[.int .i64 P, .int .i64 Q, .int .i64 G] 31)) = W0 at *
    have h9 := (c1 W0).out
    clear c1
    refine Calls.mono h9 ?_
    rintro e w1 ⟨rfl, hb1⟩
    obtain ⟨hB1, z0, z1, z2⟩ := grp_cells hB hb1
    have hbb := hb.trans (hb1.mono hb.size)
    clear hB hb hb1
    go_wp2_with fail
    have h9 := (c3 w1).out
    clear c3
    refine Calls.mono h9 ?_
    rintro e w' ⟨rfl, m, rfl⟩
    go_wp2
    go_ret
    exact ⟨ret_i HR.out.symm, below_drewN hbb _⟩
  · have HR : Hid (gTimes P Q a b = 0) := by show gTimes P Q a b = _; unfold gTimes; rw [if_neg h]
    have c1 := fun w => Lib.hid (comp_no P Q G h w)
    clear h
    go_enter Tryz.func41, Tryz.ntmps41
    go_wp2_with fail
    generalize (w.alloc (.cells #[.int .i64 P, .int .i64 Q, .int .i64 G] 31)) = W0 at *
    have h9 := (c1 W0).out
    clear c1
    refine Calls.mono h9 ?_
    rintro e w1 ⟨rfl, hb1⟩
    have hbb := hb.trans (hb1.mono hb.size)
    clear hB hb hb1
    go_wp2
    go_ret
    exact ⟨ret_i HR.out.symm, hbb⟩

set_option maxHeartbeats 1000000 in
theorem over_calls (P Q G a b : Int) (ha : isInt a) (hb' : isInt b) (w : World) :
    Calls Tryz.prog 46 #[.agg #[.int .i64 P, .int .i64 Q, .int .i64 G], .int .i64 a, .int .i64 b] w fun e w' => e = .returned (.int .i64 (gOver P Q a b)) ∧ Below w.heap.size w w' := by
  have hb := below_one w (.cells #[.int .i64 P, .int .i64 Q, .int .i64 G] 31)
  have hB : Blk (w.alloc (.cells #[.int .i64 P, .int .i64 Q, .int .i64 G] 31)) w.heap.size 31 #[.int .i64 P, .int .i64 Q, .int .i64 G] := Blk.new w _ _
  by_cases h : isMod P ∧ isMod Q
  · have HR : Hid (gOver P Q a b = mulZ P a (powZ P b (-1))) := by show gOver P Q a b = _; unfold gOver; rw [if_pos h]
    have c1 := fun w => Lib.hid (comp_yes P Q G h.1 h.2 w)
    have c2 := fun w => Lib.hid (pow_calls P b (-1) hb' (by unfold isInt; omega) w)
    have c3 := fun w => Lib.hid (mul_calls P a (powZ P b (-1)) ha (powZ_int _ _ _) w)
    generalize mulZ P a (powZ P b (-1)) = v at *
    generalize powZ P b (-1) = u at *
    clear h
    go_enter Tryz.func46, Tryz.ntmps46
    go_wp2_with fail
    generalize (w.alloc (.cells #[.int .i64 P, .int .i64 Q, .int .i64 G] 31)) = W0 at *
    have h9 := (c1 W0).out
    clear c1
    refine Calls.mono h9 ?_
    rintro e w1 ⟨rfl, hb1⟩
    obtain ⟨hB1, z0, z1, z2⟩ := grp_cells hB hb1
    have hbb := hb.trans (hb1.mono hb.size)
    clear hB hb hb1
    go_wp2
    go_region_with (first
      | (go_at_call 65; have h9 := (c2 w1.drew).out; clear c2; refine Calls.mono h9 ?_; rintro e w' ⟨rfl, m, rfl⟩)
      | (go_at_call 49; have h9 := (c3 (w1.drewN (1 + m))).out; clear c3; refine Calls.mono h9 ?_; rintro e w' ⟨rfl, m2, rfl⟩))
    all_goals
      go_wp2
      go_ret
      exact ⟨ret_i HR.out.symm, below_drewN hbb _⟩
  · have HR : Hid (gOver P Q a b = 0) := by show gOver P Q a b = _; unfold gOver; rw [if_neg h]
    have c1 := fun w => Lib.hid (comp_no P Q G h w)
    clear h
    go_enter Tryz.func46, Tryz.ntmps46
    go_wp2_with fail
    generalize (w.alloc (.cells #[.int .i64 P, .int .i64 Q, .int .i64 G] 31)) = W0 at *
    have h9 := (c1 W0).out
    clear c1
    refine Calls.mono h9 ?_
    rintro e w1 ⟨rfl, hb1⟩
    have hbb := hb.trans (hb1.mono hb.size)
    clear hB hb hb1
    go_wp2
    go_ret
    exact ⟨ret_i HR.out.symm, hbb⟩

def elemB (P Q G x : Int) : Bool := validB P Q G && subB P Q x
end Go.Proofs.YthnkfjjgccabeaaGreatDoor
