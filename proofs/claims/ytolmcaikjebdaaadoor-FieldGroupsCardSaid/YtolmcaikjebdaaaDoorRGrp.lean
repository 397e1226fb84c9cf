/- The reference's groups. -/
import Derived.Test.YtolmcaikjebdaaaDoorRNumb
import Derived.Test.YtolmcaikjebdaaaDoorProd
namespace Go.Proofs.YtolmcaikjebdaaaDoor
open Go.RowKit

theorem rpowerz_calls (n a b : Int) (hn : isMod n) (ha : isInt a) (hb0 : 0 ≤ b) (hb : isInt b) (w : World) :
    Calls Tryd.prog 54 #[.int .i64 n, .int .i64 a, .int .i64 b] w (Ret (.int .i64 (powZ n a b)) w) := by
  obtain ⟨N, A, hN, hA, hAl, hN0, hNl⟩ := res_nat n a hn
  subst hN
  obtain ⟨B, rfl⟩ := Int.eq_ofNat_of_zero_le hb0
  have h := rpower_calls N a B hn ha (by unfold isInt at hb; omega) A hA w
  have e : powZ (N : Int) a (B : Int) = ((A ^ B % N : Nat) : Int) := by
    rw [powZ_pos hn hb0, ← pow_emod, hA]; simp
  rw [e]; exact h
set_option maxRecDepth 100000 in
set_option maxHeartbeats 1000000 in
theorem rgpower_calls (P Q G x k : Int) (hx : isInt x) (hk : isInt k) (w : World) : Calls Tryd.prog 32 #[.agg #[.int .i64 P, .int .i64 Q, .int .i64 G], .int .i64 x, .int .i64 k] w fun e w' => e = .returned (.int .i64 (gPow P Q x k)) ∧ Below w.heap.size w w' := by
  have hb := below_one w (.cells #[.int .i64 P, .int .i64 Q, .int .i64 G] 29)
  have hB : Blk (w.alloc (.cells #[.int .i64 P, .int .i64 Q, .int .i64 G] 29)) w.heap.size 29 #[.int .i64 P, .int .i64 Q, .int .i64 G] := Blk.new w _ _
  by_cases h1 : isMod P
  · by_cases h2 : isMod Q
    · have HR : Hid (gPow P Q x k = powZ P x (k % Q)) := by show gPow P Q x k = _; unfold gPow; rw [if_pos ⟨h1, h2⟩]
      have hr := res_in Q k h2
      have c1 := fun w => Lib.hid (rvalid_yes P h1 w)
      have c2 := fun w => Lib.hid (rvalid_yes Q h2 w)
      have c3 := fun w => Lib.hid (rres_calls Q k h2 hk.1 hk.2 w)
      have c4 := fun w => Lib.hid (rpowerz_calls P x (k % Q) h1 hx hr.1 (isInt_res h2 hr) w)
      generalize k % Q = r at *
      generalize powZ P x r = v at *
      clear h1 h2 hr
      go_enter Tryd.func32, Tryd.ntmps32
      go_wp2_with fail
      generalize (w.alloc (.cells #[.int .i64 P, .int .i64 Q, .int .i64 G] 29)) = W0 at *
      obtain ⟨hB1, z0, z1, z2⟩ := grp_cells hB (Below.refl _ _)
      refine Calls.mono (c1 W0).out ?_
      rintro e w1 ⟨rfl, rfl⟩
      go_wp2_with fail
      refine Calls.mono (c2 W0).out ?_
      rintro e w1 ⟨rfl, rfl⟩
      go_wp2
      go_region_with (first
        | (go_at_call 48; have h9 := (c3 W0.drew).out; clear c3; refine Calls.mono h9 ?_; rintro e w' ⟨rfl, rfl⟩)
        | (go_at_call 54; have h9 := (c4 W0.drew).out; clear c4; refine Calls.mono h9 ?_; rintro e w' ⟨rfl, m, rfl⟩))
      all_goals
        go_wp2
        go_ret
        exact ⟨ret_i HR.out.symm, below_drewN hb _⟩
    · have HR : Hid (gPow P Q x k = 0) := by show gPow P Q x k = _; unfold gPow; rw [if_neg (fun h => h2 h.2)]
      have c1 := fun w => Lib.hid (rvalid_yes P h1 w)
      have c2 := fun w => Lib.hid (rvalid_no Q h2 w)
      clear h1 h2
      go_enter Tryd.func32, Tryd.ntmps32
      go_wp2_with fail
      generalize (w.alloc (.cells #[.int .i64 P, .int .i64 Q, .int .i64 G] 29)) = W0 at *
      obtain ⟨hB1, z0, z1, z2⟩ := grp_cells hB (Below.refl _ _)
      refine Calls.mono (c1 W0).out ?_
      rintro e w1 ⟨rfl, rfl⟩
      go_wp2_with fail
      refine Calls.mono (c2 W0).out ?_
      rintro e w1 ⟨rfl, rfl⟩
      go_wp2
      go_ret
      exact ⟨ret_i HR.out.symm, hb⟩
  · have HR : Hid (gPow P Q x k = 0) := by show gPow P Q x k = _; unfold gPow; rw [if_neg (fun h => h1 h.1)]
    have c1 := fun w => Lib.hid (rvalid_no P h1 w)
    clear h1
    go_enter Tryd.func32, Tryd.ntmps32
    go_wp2_with fail
    generalize (w.alloc (.cells #[.int .i64 P, .int .i64 Q, .int .i64 G] 29)) = W0 at *
    refine Calls.mono (c1 W0).out ?_
    rintro e w1 ⟨rfl, rfl⟩
    go_wp2
    go_ret
    exact ⟨ret_i HR.out.symm, hb⟩
set_option maxRecDepth 100000 in
set_option maxHeartbeats 1000000 in
theorem rgtimes_calls (P Q G a b : Int) (ha : isInt a) (hb' : isInt b) (w : World) : Calls Tryd.prog 34 #[.agg #[.int .i64 P, .int .i64 Q, .int .i64 G], .int .i64 a, .int .i64 b] w fun e w' => e = .returned (.int .i64 (gTimes P Q a b)) ∧ Below w.heap.size w w' := by
  have hb := below_one w (.cells #[.int .i64 P, .int .i64 Q, .int .i64 G] 29)
  have hB : Blk (w.alloc (.cells #[.int .i64 P, .int .i64 Q, .int .i64 G] 29)) w.heap.size 29 #[.int .i64 P, .int .i64 Q, .int .i64 G] := Blk.new w _ _
  by_cases h2 : isMod Q
  · have HR : Hid (gTimes P Q a b = mulZ P a b) := by
      show gTimes P Q a b = _
      unfold gTimes
      by_cases h1 : isMod P
      · rw [if_pos ⟨h1, h2⟩]
      · rw [if_neg (fun h => h1 h.1)]; unfold mulZ; rw [if_neg h1]
    have c2 := fun w => Lib.hid (rvalid_yes Q h2 w)
    have c3 := fun w => Lib.hid (rmul_calls P a b ha hb' w)
    generalize mulZ P a b = v at *
    clear h2
    go_enter Tryd.func34, Tryd.ntmps34
    go_wp2_with fail
    generalize (w.alloc (.cells #[.int .i64 P, .int .i64 Q, .int .i64 G] 29)) = W0 at *
    obtain ⟨hB1, z0, z1, z2⟩ := grp_cells hB (Below.refl _ _)
    refine Calls.mono (c2 W0).out ?_
    rintro e w1 ⟨rfl, rfl⟩
    go_wp2_with fail
    refine Calls.mono (c3 W0).out ?_
    rintro e w1 ⟨rfl, m, rfl⟩
    go_wp2
    go_ret
    exact ⟨ret_i HR.out.symm, below_drewN hb _⟩
  · have HR : Hid (gTimes P Q a b = 0) := by show gTimes P Q a b = _; unfold gTimes; rw [if_neg (fun h => h2 h.2)]
    have c2 := fun w => Lib.hid (rvalid_no Q h2 w)
    clear h2
    go_enter Tryd.func34, Tryd.ntmps34
    go_wp2_with fail
    generalize (w.alloc (.cells #[.int .i64 P, .int .i64 Q, .int .i64 G] 29)) = W0 at *
    refine Calls.mono (c2 W0).out ?_
    rintro e w1 ⟨rfl, rfl⟩
    go_wp2
    go_ret
    exact ⟨ret_i HR.out.symm, hb⟩
set_option maxRecDepth 100000 in
set_option maxHeartbeats 1000000 in
theorem rgover_calls (P Q G a b : Int) (ha : isInt a) (hb' : isInt b) (w : World) : Calls Tryd.prog 36 #[.agg #[.int .i64 P, .int .i64 Q, .int .i64 G], .int .i64 a, .int .i64 b] w fun e w' => e = .returned (.int .i64 (gOver P Q a b)) ∧ Below w.heap.size w w' := by
  have hb := below_one w (.cells #[.int .i64 P, .int .i64 Q, .int .i64 G] 29)
  have hB : Blk (w.alloc (.cells #[.int .i64 P, .int .i64 Q, .int .i64 G] 29)) w.heap.size 29 #[.int .i64 P, .int .i64 Q, .int .i64 G] := Blk.new w _ _
  by_cases h2 : isMod Q
  · have HR : Hid (gOver P Q a b = mulZ P a (powZ P b (-1))) := by
      show gOver P Q a b = _
      unfold gOver
      by_cases h1 : isMod P
      · rw [if_pos ⟨h1, h2⟩]
      · rw [if_neg (fun h => h1 h.1)]; unfold mulZ; rw [if_neg h1]
    have c2 := fun w => Lib.hid (rvalid_yes Q h2 w)
    have c3 := fun w => Lib.hid (rpow_calls P b (-1) hb' (by unfold isInt; omega) w)
    have c4 := fun w => Lib.hid (rmul_calls P a (powZ P b (-1)) ha (powZ_int _ _ _) w)
    generalize powZ P b (-1) = u at *
    generalize mulZ P a u = v at *
    clear h2
    go_enter Tryd.func36, Tryd.ntmps36
    go_wp2_with fail
    generalize (w.alloc (.cells #[.int .i64 P, .int .i64 Q, .int .i64 G] 29)) = W0 at *
    obtain ⟨hB1, z0, z1, z2⟩ := grp_cells hB (Below.refl _ _)
    refine Calls.mono (c2 W0).out ?_
    rintro e w1 ⟨rfl, rfl⟩
    go_wp2
    go_region_with (first
      | (go_at_call 22; have h9 := (c3 W0.drew).out; clear c3; refine Calls.mono h9 ?_; rintro e w' ⟨rfl, m, rfl⟩)
      | (go_at_call 20; have h9 := (c4 (W0.drewN (1 + m))).out; clear c4; refine Calls.mono h9 ?_; rintro e w' ⟨rfl, m2, rfl⟩))
    all_goals
      go_wp2
      go_ret
      exact ⟨ret_i HR.out.symm, below_drewN hb _⟩
  · have HR : Hid (gOver P Q a b = 0) := by show gOver P Q a b = _; unfold gOver; rw [if_neg (fun h => h2 h.2)]
    have c2 := fun w => Lib.hid (rvalid_no Q h2 w)
    clear h2
    go_enter Tryd.func36, Tryd.ntmps36
    go_wp2_with fail
    generalize (w.alloc (.cells #[.int .i64 P, .int .i64 Q, .int .i64 G] 29)) = W0 at *
    refine Calls.mono (c2 W0).out ?_
    rintro e w1 ⟨rfl, rfl⟩
    go_wp2
    go_ret
    exact ⟨ret_i HR.out.symm, hb⟩
end Go.Proofs.YtolmcaikjebdaaaDoor
