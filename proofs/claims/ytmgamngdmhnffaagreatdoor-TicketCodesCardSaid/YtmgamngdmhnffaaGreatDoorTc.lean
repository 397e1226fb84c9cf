/- Blindings. -/
import Derived.Test.YtmgamngdmhnffaaGreatDoorTb
namespace Go.Proofs.YtmgamngdmhnffaaGreatDoor
open Go.RowKit

set_option maxRecDepth 100000 in
set_option maxHeartbeats 2000000 in
theorem bld_calls (s : SetD) (vb va : Value) (d u v : Int) (an : List Int) (hal : an.length ≤ 100000000) (w : World) (hb0 : IsNums vb s.bs w) (hv : IsNums va an w) :
    Calls Tryz.prog 27 #[s.val vb, .agg #[.int .i64 d, .int .i64 u, .int .i64 v, va]] w fun e w' => e = .returned (.bool (s.blindB ⟨d, u, v, an⟩)) ∧ Below w.heap.size w w' := by
  obtain ⟨a, c, rfl⟩ := hv.len
  obtain ⟨ab, cb, rfl⟩ := hb0.len
  have HF : Hid (s.blindB ⟨d, u, v, an⟩ = (facsB s.Q [d, u] && ([v].all (exB s.Q) && (decide (an.length = s.bs.length) && an.all (exB s.Q))))) := rfl
  obtain ⟨W0, hW0⟩ : ∃ W0, W0 = (w.alloc (.cells (s.cells (.slice ab s.bs.length cb)) 59)).alloc (.cells #[.int .i64 d, .int .i64 u, .int .i64 v, .slice a an.length c] 35) := ⟨_, rfl⟩
  have hb : Below w.heap.size w W0 := by rw [hW0]; exact Below.alloc_ (below_one w _) _
  have hS : GAt s (.slice ab s.bs.length cb) w.heap.size W0 := by rw [hW0]; exact Blk.alloc' (Blk.new w _ _) _
  have hX : Blk W0 (w.heap.size + 1) 35 #[.int .i64 d, .int .i64 u, .int .i64 v, .slice a an.length c] := by rw [hW0]; exact Blk.new' (by rw [alloc_size]) _ _
  have hs : W0.heap.size = w.heap.size + 1 + 1 := by rw [hW0, alloc_size, alloc_size]
  have HN := fun w' (h : Below W0.heap.size W0 w') => Lib.hid (hv.next (hb.trans (h.mono hb.size)))
  have HK : Hid (∀ w', Below W0.heap.size W0 w' → w'.cell? ⟨w.heap.size, 0, none⟩ = some (.int .i64 s.P) ∧ w'.cell? ⟨w.heap.size, 1, none⟩ = some (.int .i64 s.Q) ∧ w'.cell? ⟨w.heap.size, 2, none⟩ = some (.int .i64 s.G) ∧ w'.cell? ⟨w.heap.size, 3, none⟩ = some (.slice ab s.bs.length cb) ∧ w'.cell? ⟨w.heap.size, 4, none⟩ = some (.int .i64 s.H) ∧ w'.cell? ⟨w.heap.size + 1, 0, none⟩ = some (.int .i64 d) ∧ w'.cell? ⟨w.heap.size + 1, 1, none⟩ = some (.int .i64 u) ∧ w'.cell? ⟨w.heap.size + 1, 2, none⟩ = some (.int .i64 v) ∧ w'.cell? ⟨w.heap.size + 1, 3, none⟩ = some (.slice a an.length c) ∧ Below W0.heap.size W0 w') := by
    show ∀ w', _
    intro w' h
    obtain ⟨z0, z1, z2, z3, z4⟩ := (hS.next h).get
    exact ⟨z0, z1, z2, z3, z4, (hX.next h).cell 0, (hX.next h).cell 1, (hX.next h).cell 2, (hX.next h).cell 3, h⟩
  have HB := Lib.hid hb
  obtain ⟨z0, z1, z2, z3, z4, x0, x1, x2, x3, -⟩ := HK.out W0 (Below.refl _ _)
  have hn2 := nums_two W0 d u
  rw [hs] at hn2
  have c1 := Lib.hid (facs_calls s (.slice ab s.bs.length cb) _ [d, u] (by simp) _ hn2)
  have c2 := fun w' => Lib.hid (nums_calls s (.slice ab s.bs.length cb) _ [v] (by simp) _ (nums_one w' v))
  have c3 := fun w' (h : Below W0.heap.size W0 w') => Lib.hid (nums_calls s (.slice ab s.bs.length cb) (.slice a an.length c) an (by omega) w' (HN w' h).out)
  unfold SetD.val at *
  unfold SetD.cells at hW0
  have hq := Below.alloc_ (Below.refl W0.heap.size W0) (.cells #[.int .i64 d, .int .i64 u] 3)
  rw [hW0] at z0 z1 z2 z3 z4 x0 x1 x2 x3 c1
  have HW0 := Lib.hid hW0
  generalize facsB s.Q [d, u] = F at *
  clear hS hX hb hb0 hv hW0 hs hn2
  go_enter Tryz.func27, Tryz.ntmps27
  go_wp2_with fail
  refine c1.out.mono ?_
  clear c1 z0 z1 z2 z3 z4 x0 x1 x2 x3
  rw [← HW0.out]
  rintro e w1 ⟨rfl, hb1'⟩
  have hb1 := hq.trans (hb1'.mono hq.size)
  clear hq hb1'
  obtain ⟨z0, z1, z2, z3, z4, x0, x1, x2, x3, -⟩ := HK.out w1 hb1
  cases F
  · go_wp2
    go_ret
    exact ⟨ret_b HF.out.symm, HB.out.trans (hb1.mono HB.out.size)⟩
  · have c2 := c2 w1
    generalize [v].all (exB s.Q) = A at *
    go_wp2_with fail
    refine c2.out.mono ?_
    clear c2 z0 z1 z2 z3 z4 x0 x1 x2 x3
    rintro e w2 ⟨rfl, hb2⟩
    have hB2 : Below W0.heap.size W0 w2 := by
      have := Below.alloc_ hb1 (.cells #[.int .i64 v] 3)
      exact this.trans (hb2.mono this.size)
    obtain ⟨z0, z1, z2, z3, z4, x0, x1, x2, x3, -⟩ := HK.out w2 hB2
    clear hb1 hb2
    cases A
    · go_wp2
      go_ret
      exact ⟨ret_b HF.out.symm, HB.out.trans (hB2.mono HB.out.size)⟩
    · by_cases h1 : an.length = s.bs.length
      · have hbn : ((an.length : Int) == (s.bs.length : Int)) = true := by simp [h1]
        have HF2 : Hid (s.blindB ⟨d, u, v, an⟩ = an.all (exB s.Q)) := by show _ = _; rw [HF.out, decide_eq_true h1]; rfl
        clear h1 HF
        have c3 := c3 w2 hB2
        generalize an.all (exB s.Q) = N at *
        go_wp2_with fail
        refine c3.out.mono ?_
        clear c3 z0 z1 z2 z3 z4 x0 x1 x2 x3
        rintro e w3 ⟨rfl, hb3⟩
        have hB3 : Below W0.heap.size W0 w3 := hB2.trans (hb3.mono hB2.size)
        go_wp2
        go_ret
        exact ⟨ret_b HF2.out.symm, HB.out.trans (hB3.mono HB.out.size)⟩
      · have hbn : ((an.length : Int) == (s.bs.length : Int)) = false := by simp; omega
        have HF2 : Hid (s.blindB ⟨d, u, v, an⟩ = false) := by show _ = _; rw [HF.out, decide_eq_false h1]; rfl
        clear h1 HF
        go_wp2
        go_ret
        exact ⟨ret_b HF2.out.symm, HB.out.trans (hB2.mono HB.out.size)⟩
end Go.Proofs.YtmgamngdmhnffaaGreatDoor
