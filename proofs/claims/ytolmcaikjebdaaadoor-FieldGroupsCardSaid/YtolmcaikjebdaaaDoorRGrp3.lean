/- The reference's groups: making one. -/
import Derived.Test.YtolmcaikjebdaaaDoorRGrp2
namespace Go.Proofs.YtolmcaikjebdaaaDoor
open Go.RowKit

theorem makeV_no {q : Int} (h : q < 5 ∨ 1152921504606846976 ≤ q) : makeV q = .tuple #[.agg #[.int .i64 0, .int .i64 0, .int .i64 0], .bool false] := by
  unfold makeV
  rw [if_neg]
  intro hv
  obtain ⟨_, h1, _, h2, _⟩ := Cyc.of_valid hv
  omega
theorem mkP_is {q : Int} (h1 : 5 ≤ q) (h2 : q < 1152921504606846976) : mkP q = 2 * q + 1 := by
  unfold mkP wrap64; omega
set_option maxRecDepth 100000 in
set_option maxHeartbeats 1000000 in
theorem rmake_calls (q : Int) (hq : isInt q) (w : World) :
    Calls Tryd.prog 24 #[.int .i64 q] w fun e w' => e = .returned (makeV q) ∧ Below w.heap.size w w' := by
  have hz : Blk (w.alloc (.cells #[.int .i64 0, .int .i64 0, .int .i64 0] 29)) w.heap.size 29 #[.int .i64 0, .int .i64 0, .int .i64 0] := Blk.new w _ _
  have hbz := below_one w (.cells #[.int .i64 0, .int .i64 0, .int .i64 0] 29)
  obtain ⟨MV, hMV⟩ : ∃ MV, MV = makeV q := ⟨_, rfl⟩
  by_cases h1 : q < 5
  · have d1 : decide (q < 5) = true := decide_eq_true h1
    rw [makeV_no (.inl h1)] at hMV
    have HR := Lib.hid hMV
    rw [show makeV q = MV by rw [hMV, makeV_no (.inl h1)]]
    clear hMV
    obtain ⟨_, y0, y1, y2⟩ := grp_cells hz (Below.refl _ _)
    clear hz
    go_enter Tryd.func24, Tryd.ntmps24
    go_wp2
    generalize (w.alloc (.cells #[.int .i64 0, .int .i64 0, .int .i64 0] 29)) = W0 at *
    refine bodyPost_ret (v := MV) (by rw [HR.out]; simp [results, Tryd.results24, go_sem, y0, y1, y2]) rfl ⟨rfl, hbz⟩
  · have d1 : decide (q < 5) = false := decide_eq_false h1
    by_cases h2 : 1152921504606846976 ≤ q
    · have d2 : decide (1152921504606846976 ≤ q) = true := decide_eq_true h2
      rw [makeV_no (.inr h2)] at hMV
      have HR := Lib.hid hMV
      rw [show makeV q = MV by rw [hMV, makeV_no (.inr h2)]]
      clear hMV
      obtain ⟨_, y0, y1, y2⟩ := grp_cells hz (Below.refl _ _)
      clear hz
      go_enter Tryd.func24, Tryd.ntmps24
      go_wp2
      generalize (w.alloc (.cells #[.int .i64 0, .int .i64 0, .int .i64 0] 29)) = W0 at *
      refine bodyPost_ret (v := MV) (by rw [HR.out]; simp [results, Tryd.results24, go_sem, y0, y1, y2]) rfl ⟨rfl, hbz⟩
    · have d2 : decide (1152921504606846976 ≤ q) = false := decide_eq_false h2
      have hmk := mkP_is (show 5 ≤ q by omega) (show q < 1152921504606846976 by omega)
      rw [← hMV]
      unfold makeV at hMV
      rw [hmk] at hMV
      obtain ⟨P, hP⟩ : ∃ P, P = 2 * q + 1 := ⟨_, rfl⟩
      have c1 := fun w => Lib.hid (rvalidg_calls P q 4 (by unfold isInt; omega) hq (by unfold isInt; omega) w)
      rw [← hP] at hMV
      have HR := Lib.hid hMV
      have hPw : wrap64 (wrap64 (2 * q) + 1) = P := by unfold wrap64; omega
      have hPw2 : 2 * q + 1 = P := hP.symm
      generalize validB P q 4 = v at *
      have hw0 : Below w.heap.size w ((w.alloc (.cells #[.int .i64 0, .int .i64 0, .int .i64 0] 29)).alloc (.cells #[.int .i64 P, .int .i64 q, .int .i64 4] 29)) ∧ Blk ((w.alloc (.cells #[.int .i64 0, .int .i64 0, .int .i64 0] 29)).alloc (.cells #[.int .i64 P, .int .i64 q, .int .i64 4] 29)) w.heap.size 29 #[.int .i64 0, .int .i64 0, .int .i64 0] ∧ Blk ((w.alloc (.cells #[.int .i64 0, .int .i64 0, .int .i64 0] 29)).alloc (.cells #[.int .i64 P, .int .i64 q, .int .i64 4] 29)) (w.heap.size + 1) 29 #[.int .i64 P, .int .i64 q, .int .i64 4] := by
        refine ⟨((Below.refl _ _).alloc (Nat.le_refl _) _).alloc (by simp) _, (Blk.new w _ _).alloc _, ?_⟩
        have h := Blk.new (w.alloc (.cells #[.int .i64 0, .int .i64 0, .int .i64 0] 29)) 29 #[.int .i64 P, .int .i64 q, .int .i64 4]
        have e : (w.alloc (.cells #[.int .i64 0, .int .i64 0, .int .i64 0] 29)).heap.size = w.heap.size + 1 := by simp
        rw [e] at h
        exact h
      clear hMV hmk hP hz hbz
      go_enter Tryd.func24, Tryd.ntmps24
      go_wp2_with fail
      generalize ((w.alloc (.cells #[.int .i64 0, .int .i64 0, .int .i64 0] 29)).alloc (.cells #[.int .i64 P, .int .i64 q, .int .i64 4] 29)) = W0 at *
      obtain ⟨hb, hZ, hB⟩ := hw0
      have h9 := (c1 W0).out
      clear c1
      refine Calls.mono h9 ?_
      rintro e w1 ⟨rfl, hb1⟩
      obtain ⟨hB1, z0, z1, z2⟩ := grp_cells hB hb1
      obtain ⟨hZ1, y0, y1, y2⟩ := grp_cells hZ hb1
      have f0 := fun i => hZ1.frozen i
      have hbb := hb.trans (hb1.mono hb.size)
      clear hB hZ hb hb1
      cases v
      · have hMV := HR.out
        rw [if_neg (by simp)] at hMV
        have HR2 := Lib.hid hMV
        clear hMV HR hPw hPw2
        go_wp2
        refine bodyPost_ret (v := MV) (by rw [HR2.out]; simp [results, Tryd.results24, go_sem, y0, y1, y2]) rfl ⟨rfl, ?_⟩
        exact ((hbb.setCell (p := ⟨w.heap.size, 0, none⟩) (Nat.le_refl _) _).setCell (p := ⟨w.heap.size, 1, none⟩) (Nat.le_refl _) _).setCell (p := ⟨w.heap.size, 2, none⟩) (Nat.le_refl _) _
      · have hMV := HR.out
        rw [if_pos rfl] at hMV
        have HR2 := Lib.hid hMV
        clear hMV HR hPw hPw2
        go_wp2
        refine bodyPost_ret (v := MV) (by rw [HR2.out]; simp [results, Tryd.results24, go_sem, y0, y1, y2]) rfl ⟨rfl, ?_⟩
        exact ((hbb.setCell (p := ⟨w.heap.size, 0, none⟩) (Nat.le_refl _) _).setCell (p := ⟨w.heap.size, 1, none⟩) (Nat.le_refl _) _).setCell (p := ⟨w.heap.size, 2, none⟩) (Nat.le_refl _) _
end Go.Proofs.YtolmcaikjebdaaaDoor
