/- The reference's products of powers. -/
import Derived.Test.YtolmcaikjebdaaaDoorRGrp3
import Derived.Deep.RegionHeld3
namespace Go.Proofs.YtolmcaikjebdaaaDoor
open Go.RowKit

set_option maxRecDepth 100000 in
set_option maxHeartbeats 1000000 in
theorem rproduct_calls (P Q G : Int) (u v : Value) (xs es : List Int) (w : World) (hu : IsInts u xs w) (hv : IsInts v es w) (hx : ∀ x ∈ xs, isInt x) (he : ∀ x ∈ es, isInt x) (hn : xs.length ≤ 4294967296) (_ : es.length ≤ 9223372036854775807) :
    Calls Tryd.prog 26 #[.agg #[.int .i64 P, .int .i64 Q, .int .i64 G], u, v] w fun e w' => e = .returned (prodV P Q xs es) ∧ Below w.heap.size w w' := by
  have hb := below_one w (.cells #[.int .i64 P, .int .i64 Q, .int .i64 G] 29)
  have hB : Blk (w.alloc (.cells #[.int .i64 P, .int .i64 Q, .int .i64 G] 29)) w.heap.size 29 #[.int .i64 P, .int .i64 Q, .int .i64 G] := Blk.new w _ _
  obtain ⟨au, cu, rfl⟩ := hu.len
  obtain ⟨av, cv, rfl⟩ := hv.len
  by_cases h : isMod P ∧ isMod Q
  · have c1 := fun w => Lib.hid (rvalid_yes P h.1 w)
    have c1b := fun w => Lib.hid (rvalid_yes Q h.2 w)
    by_cases hl : xs.length = es.length
    · have HV : Hid (prodV P Q xs es = .tuple #[.int .i64 (prodF P Q (1 % P) xs es), .bool true]) := by
        show prodV P Q xs es = _
        unfold prodV; rw [if_pos ⟨h, hl⟩]
      have t1 : Int.tmod 1 P = 1 % P := Int.tmod_eq_emod_of_nonneg (by omega)
      have hP1 : 1 ≤ P := h.1.1
      obtain ⟨I, hI⟩ : ∃ I, I = 1 % P := ⟨_, rfl⟩
      have hIi : isInt I := by rw [hI]; exact isInt_res h.1 (res_in P 1 h.1)
      rw [← hI] at HV t1
      have HH := Lib.hid h
      have HL := Lib.hid hl
      have hbne : ((xs.length : Int) != (es.length : Int)) = false := by rw [hl]; simp
      clear hI h hl
      go_enter Tryd.func26, Tryd.ntmps26
      go_wp2_with fail
      generalize (w.alloc (.cells #[.int .i64 P, .int .i64 Q, .int .i64 G] 29)) = W0 at *
      obtain ⟨hB1, z0, z1, z2⟩ := grp_cells hB (Below.refl _ _)
      have hbb := hb
      clear hB hb
      have h9 := (c1 W0).out
      clear c1
      refine Calls.mono h9 ?_
      rintro e w1 ⟨rfl, rfl⟩
      go_wp2_with fail
      have h9 := (c1b W0).out
      clear c1b
      refine Calls.mono h9 ?_
      rintro e w' ⟨rfl, rfl⟩
      go_wp2
      obtain ⟨F, hF⟩ : ∃ F, F = prodF P Q I xs es := ⟨_, rfl⟩
      rw [← hF] at HV
      go_loopw [8, 9] (fun r i wr => ∃ (k : Nat) (R : Int), k ≤ xs.length ∧ i = .int .i64 (k : Int) ∧ r = .int .i64 R ∧ isInt R ∧ prodF P Q R (xs.drop k) (es.drop k) = F ∧ Below w.heap.size w wr ∧ Blk wr w.heap.size 29 #[.int .i64 P, .int .i64 Q, .int .i64 G]) (fun _ i _ => xs.length - (intOf i).toNat)
      case atStart => exact ⟨0, I, Nat.zero_le _, rfl, rfl, hIi, hF.symm, hbb, hB1⟩
      case round =>
        clear hbb hB1 z0 z1 z2 hF
        obtain ⟨k, R, hk, rfl, rfl, hR, hF, hbw, hB⟩ := hrel
        by_cases hlt : k < xs.length
        · have hlt2 : k < es.length := by rw [← HL.out]; exact hlt
          obtain ⟨bu, ou, rfl, hu1, hu2⟩ := (hu.next hbw).at k hlt
          obtain ⟨bv, ov, rfl, hv1, hv2⟩ := (hv.next hbw).at k hlt2
          obtain ⟨z0, z1, z2⟩ : wr.cell? ⟨w.heap.size, 0, none⟩ = some (.int .i64 P) ∧ wr.cell? ⟨w.heap.size, 1, none⟩ = some (.int .i64 Q) ∧ wr.cell? ⟨w.heap.size, 2, none⟩ = some (.int .i64 G) := ⟨hB.cell 0, hB.cell 1, hB.cell 2⟩
          rw [prodF_drop P Q R xs es k hlt hlt2] at hF
          have hxi := hx _ (List.getElem_mem hlt)
          have hei := he _ (List.getElem_mem hlt2)
          generalize xs[k] = x at *
          generalize es[k] = e0 at *
          obtain ⟨S, hS⟩ : ∃ S, S = gPow P Q x e0 := ⟨_, rfl⟩
          obtain ⟨T, hT⟩ : ∃ T, T = mulZ P R S := ⟨_, rfl⟩
          rw [← hS, ← hT] at hF
          have hTi : isInt T := by rw [hT]; exact mulZ_int _ _ _
          have hSi : isInt S := by rw [hS]; exact gPow_int _ _ _ _
          have HF := Lib.hid hF
          have kp : Hid (∀ (args' : Array Value) (w' : World), args' = #[.agg #[.int .i64 P, .int .i64 Q, .int .i64 G], .int .i64 x, .int .i64 e0] → Below wr.heap.size wr w' →
              Calls Tryd.prog 32 args' w' fun e w'' => e = .returned (.int .i64 S) ∧ Below wr.heap.size wr w'') := by
            show ∀ (args' : Array Value) (w' : World), args' = #[.agg #[.int .i64 P, .int .i64 Q, .int .i64 G], .int .i64 x, .int .i64 e0] → Below wr.heap.size wr w' →
              Calls Tryd.prog 32 args' w' fun e w'' => e = .returned (.int .i64 S) ∧ Below wr.heap.size wr w''
            intro args' w' he h; subst he
            rw [hS]
            exact (rgpower_calls P Q G x e0 hxi hei w').mono fun _ _ ⟨he, hn⟩ => ⟨he, h.trans (hn.mono h.size)⟩
          have km : Hid (∀ (args' : Array Value) (w' : World), args' = #[.int .i64 P, .int .i64 R, .int .i64 S] → Below wr.heap.size wr w' →
              Calls Tryd.prog 20 args' w' fun e w'' => e = .returned (.int .i64 T) ∧ Below wr.heap.size wr w'') := by
            show ∀ (args' : Array Value) (w' : World), args' = #[.int .i64 P, .int .i64 R, .int .i64 S] → Below wr.heap.size wr w' →
              Calls Tryd.prog 20 args' w' fun e w'' => e = .returned (.int .i64 T) ∧ Below wr.heap.size wr w''
            intro args' w' he h; subst he
            rw [hT]
            exact (rmul_calls P R S hR hSi w').mono fun _ _ ⟨he, n, hn⟩ => ⟨he, by rw [hn]; exact below_drewN h n⟩
          have HK : Hid (∀ w', Below wr.heap.size wr w' → w'.cell? ⟨w.heap.size, 0, none⟩ = some (.int .i64 P) ∧ w'.cell? ⟨w.heap.size, 1, none⟩ = some (.int .i64 Q) ∧ w'.cell? ⟨w.heap.size, 2, none⟩ = some (.int .i64 G) ∧ w'.cell? ⟨bu, ou + k, none⟩ = some (.int .i64 x) ∧ w'.cell? ⟨bv, ov + k, none⟩ = some (.int .i64 e0) ∧ Below wr.heap.size wr w') := by
            show ∀ w', Below wr.heap.size wr w' → _
            intro w' h
            exact ⟨(hB.next h).cell 0, (hB.next h).cell 1, (hB.next h).cell 2, by rw [h.cell (p := ⟨bu, ou + k, none⟩) hu1]; exact hu2, by rw [h.cell (p := ⟨bv, ov + k, none⟩) hv1]; exact hv2, h⟩
          have H0 := Lib.hid (And.intro hB hbw)
          have k0 : (0 : Int) ≤ (k : Int) := Int.natCast_nonneg _
          have k1 : (k : Int) < (xs.length : Int) := by omega
          have k2 : (k : Int) < (es.length : Int) := by omega
          clear hF hS hT hx he hxi hei hB hbw z0 z1 z2 hR hSi
          go_wp2
          go_region_held3 (fun w' => w'.cell? ⟨w.heap.size, 0, none⟩ = some (.int .i64 P) ∧ w'.cell? ⟨w.heap.size, 1, none⟩ = some (.int .i64 Q) ∧ w'.cell? ⟨w.heap.size, 2, none⟩ = some (.int .i64 G) ∧ w'.cell? ⟨bu, ou + k, none⟩ = some (.int .i64 x) ∧ w'.cell? ⟨bv, ov + k, none⟩ = some (.int .i64 e0) ∧ Below wr.heap.size wr w')
            (first | exact HK.out _ (by assumption) | exact HK.out _ (below_drewN (Below.refl _ _) 1) | exact HK.out _ (Below.refl _ _))
            (first
              | (go_at_call 32; refine Calls.mono (kp.out _ _ (by with_reducible rfl) (by first | assumption | exact below_drewN (Below.refl _ _) 1)) ?_; rintro e w4 ⟨rfl, hb4⟩)
              | (go_at_call 20; refine Calls.mono (km.out _ _ (by with_reducible rfl) (by first | assumption | exact below_drewN (Below.refl _ _) 1)) ?_; rintro e w4 ⟨rfl, hb4⟩))
          all_goals
            go_wp2
            go_roundw
            case rel => exact ⟨k + 1, T, by omega, by go_num, rfl, hTi, HF.out, H0.out.2.trans (hb4.mono H0.out.2.size), H0.out.1.next hb4⟩
            case measure => simp [intOf]; omega
        · obtain rfl : k = xs.length := by omega
          have HR : Hid (prodV P Q xs es = .tuple #[.int .i64 R, .bool true]) := by
            show prodV P Q xs es = _
            rw [HV.out, ← hF, List.drop_length, prodF_nil]
          clear hF HV
          go_wp2
          go_ret2
          exact ⟨ret_of HR.out.symm, hbw⟩
    · have HV : Hid (prodV P Q xs es = .tuple #[.int .i64 0, .bool false]) := by
        show prodV P Q xs es = _
        unfold prodV; rw [if_neg (fun h => hl h.2)]
      have hbne : ((xs.length : Int) != (es.length : Int)) = true := bne_iff_ne.2 (by omega)
      clear hl h
      go_enter Tryd.func26, Tryd.ntmps26
      go_wp2_with fail
      generalize (w.alloc (.cells #[.int .i64 P, .int .i64 Q, .int .i64 G] 29)) = W0 at *
      obtain ⟨hB1, z0, z1, z2⟩ := grp_cells hB (Below.refl _ _)
      have h9 := (c1 W0).out
      clear c1
      refine Calls.mono h9 ?_
      rintro e w1 ⟨rfl, rfl⟩
      go_wp2_with fail
      have h9 := (c1b W0).out
      clear c1b
      refine Calls.mono h9 ?_
      rintro e w1 ⟨rfl, rfl⟩
      have hbb := hb
      go_wp2
      go_ret2
      exact ⟨ret_of HV.out.symm, hbb⟩
  · have HV : Hid (prodV P Q xs es = .tuple #[.int .i64 0, .bool false]) := by
      show prodV P Q xs es = _
      unfold prodV; rw [if_neg (fun h' => h h'.1)]
    by_cases h1 : isMod P
    · have c1 := fun w => Lib.hid (rvalid_yes P h1 w)
      have c2 := fun w => Lib.hid (rvalid_no Q (fun h2 => h ⟨h1, h2⟩) w)
      clear h h1
      go_enter Tryd.func26, Tryd.ntmps26
      go_wp2_with fail
      generalize (w.alloc (.cells #[.int .i64 P, .int .i64 Q, .int .i64 G] 29)) = W0 at *
      obtain ⟨hB1, z0, z1, z2⟩ := grp_cells hB (Below.refl _ _)
      have h9 := (c1 W0).out
      clear c1
      refine Calls.mono h9 ?_
      rintro e w1 ⟨rfl, rfl⟩
      go_wp2_with fail
      have h9 := (c2 W0).out
      clear c2
      refine Calls.mono h9 ?_
      rintro e w1 ⟨rfl, rfl⟩
      go_wp2
      go_ret2
      exact ⟨ret_of HV.out.symm, hb⟩
    · have c1 := fun w => Lib.hid (rvalid_no P h1 w)
      clear h h1
      go_enter Tryd.func26, Tryd.ntmps26
      go_wp2_with fail
      generalize (w.alloc (.cells #[.int .i64 P, .int .i64 Q, .int .i64 G] 29)) = W0 at *
      obtain ⟨hB1, z0, z1, z2⟩ := grp_cells hB (Below.refl _ _)
      have h9 := (c1 W0).out
      clear c1
      refine Calls.mono h9 ?_
      rintro e w1 ⟨rfl, rfl⟩
      go_wp2
      go_ret2
      exact ⟨ret_of HV.out.symm, hb⟩
end Go.Proofs.YtolmcaikjebdaaaDoor
