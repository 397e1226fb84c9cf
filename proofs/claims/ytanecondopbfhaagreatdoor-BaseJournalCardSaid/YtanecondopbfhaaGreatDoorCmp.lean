/- The comparison of two pending sectors by their ranks. -/
import Derived.Test.YtanecondopbfhaaGreatDoorRd
import Derived.Test.YtanecondopbfhaaGreatDoorSort
import Derived.Lib.Small
namespace Go.Proofs.YtanecondopbfhaaGreatDoor
open Go.RowKit

theorem isNaN_calls (x : Int) (w : World) : Calls Tryz.prog 121 #[.int .i64 x] w fun e w' => e = .returned (.bool false) ∧ w = w' := by
  have d1 : (x != x) = false := by simp
  go_enter Tryz.func121, Tryz.ntmps121
  go_wp2_with fail
  go_ret
  exact ⟨rfl, rfl⟩

theorem compare_calls (x y : Int) (w : World) : Calls Tryz.prog 95 #[.int .i64 x, .int .i64 y] w fun e w' => e = .returned (.int .i64 (Lib.compareInt x y)) ∧ w = w' := by
  have hn := fun (z : Int) => isNaN_calls z
  obtain ⟨r, hr⟩ : ∃ r, r = Lib.compareInt x y := ⟨_, rfl⟩
  rw [← hr]
  unfold Lib.compareInt at hr
  by_cases h1 : x < y
  · simp only [h1, if_true] at hr
    subst hr
    have d1 : decide (x < y) = true := decide_eq_true h1
    go_enter Tryz.func95, Tryz.ntmps95
    go_wp2_with (go_at_call 121; refine (hn _ _).mono ?_; rintro e w' ⟨rfl, rfl⟩)
    go_ret
    exact ⟨rfl, rfl⟩
  · have d1 : decide (x < y) = false := decide_eq_false h1
    by_cases h2 : y < x
    · simp only [h1, h2, if_true, if_false] at hr
      subst hr
      have d2 : decide (y < x) = true := decide_eq_true h2
      go_enter Tryz.func95, Tryz.ntmps95
      go_wp2_with (go_at_call 121; refine (hn _ _).mono ?_; rintro e w' ⟨rfl, rfl⟩)
      go_ret
      exact ⟨rfl, rfl⟩
    · simp only [h1, h2, if_false] at hr
      subst hr
      have d2 : decide (y < x) = false := decide_eq_false h2
      go_enter Tryz.func95, Tryz.ntmps95
      go_wp2_with (go_at_call 121; refine (hn _ _).mono ?_; rintro e w' ⟨rfl, rfl⟩)
      go_ret
      exact ⟨rfl, rfl⟩

open Go.Sort in
set_option maxHeartbeats 1000000 in
set_option maxRecDepth 100000 in
/-- The closure: it compares the ranks. -/
theorem rank_cmp (b cb : Nat) (x y : Nat × Nat) (px py nx ny rx ry : Nat) (gx gy : Nat → Option Nat) (W : World) (hcb : W.cell? ⟨cb, 0, none⟩ = some (.pointer (some ⟨b, 0, none⟩)))
    (cx : W.cell? ⟨b, 34 + x.1, none⟩ = some (.map (some px))) (cy : W.cell? ⟨b, 34 + y.1, none⟩ = some (.map (some py))) (hx : RankAt W px nx gx) (hy : RankAt W py ny gy) (ex : gx x.2 = some rx) (ey : gy y.2 = some ry)
    (x1 : x.1 < 16) (y1 : y.1 < 16) (x2 : x.2 ≤ 1099511627776) (y2 : y.2 ≤ 1099511627776) (hbc : b < W.heap.size) (hcc : cb < W.heap.size) :
    Calls Tryz.prog 94 #[.agg #[.int .i64 x.1, .int .i64 x.2], .agg #[.int .i64 y.1, .int .i64 y.2], .pointer (some ⟨cb, 0, none⟩)] W fun e w' => e = .returned (.int .i64 (Lib.compareInt rx ry)) ∧ ∃ q os', w' = grow (W.drewN q) os' := by
  have b1 : (0 : Int) ≤ (x.1 : Int) := by omega
  have b2 : (x.1 : Int) < 16 := by omega
  have b3 : (0 : Int) ≤ (y.1 : Int) := by omega
  have b4 : (y.1 : Int) < 16 := by omega
  obtain ⟨r, hr⟩ : ∃ r, r = Lib.compareInt rx ry := ⟨_, rfl⟩
  have hcmp : Hid (∀ w, Calls Tryz.prog 95 #[.int .i64 rx, .int .i64 ry] w fun e w' => e = .returned (.int .i64 r) ∧ w' = w) := fun w => (compare_calls rx ry w).mono (fun e w' h => ⟨by rw [hr]; exact h.1, h.2.symm⟩)
  rw [← hr]
  clear hr
  obtain ⟨W1, hW1⟩ : ∃ W1, W1 = (W.alloc (.cells #[.int .i64 x.1, .int .i64 x.2] 95)).alloc (.cells #[.int .i64 y.1, .int .i64 y.2] 95) := ⟨_, rfl⟩
  have hk : Kept (fun _ => False) W W1 := by rw [hW1]; exact ((Kept.refl _ _).alloc _).alloc _
  have a1 : W1.cell? ⟨W.heap.size, 0, none⟩ = some (.int .i64 x.1) := by rw [hW1, cell_of_row _ _ _ _ _ _ (heap_alloc2_old _ _ _)]; rfl
  have a2 : W1.cell? ⟨W.heap.size, 1, none⟩ = some (.int .i64 x.2) := by rw [hW1, cell_of_row _ _ _ _ _ _ (heap_alloc2_old _ _ _)]; rfl
  have a3 : W1.cell? ⟨W.heap.size + 1, 0, none⟩ = some (.int .i64 y.1) := by rw [hW1, cell_of_row _ _ _ _ _ _ (heap_alloc2_new _ _ _)]; rfl
  have a4 : W1.cell? ⟨W.heap.size + 1, 1, none⟩ = some (.int .i64 y.2) := by rw [hW1, cell_of_row _ _ _ _ _ _ (heap_alloc2_new _ _ _)]; rfl
  have k1 : W1.cell? ⟨cb, 0, none⟩ = some (.pointer (some ⟨b, 0, none⟩)) := (World.cell?_of_block (hk.block cb hcc id)).trans hcb
  have k2 : W1.cell? ⟨b, 34 + x.1, none⟩ = some (.map (some px)) := (World.cell?_of_block (hk.block b hbc id)).trans cx
  have k3 : W1.cell? ⟨b, 34 + y.1, none⟩ = some (.map (some py)) := (World.cell?_of_block (hk.block b hbc id)).trans cy
  have l1 : ∀ n, (Instr.lookup 74 (.map (some px)) (.int .i64 x.2) false).run Tryz.prog (W1.drewN n) = .ok (.int .i64 rx) (W1.drewN n) := fun n => RankAt.look (w := W1.drewN n) ((hx.kept hk id).same rfl) x.2 rx x2 ex
  have l2 : ∀ n, (Instr.lookup 74 (.map (some py)) (.int .i64 y.2) false).run Tryz.prog (W1.drewN n) = .ok (.int .i64 ry) (W1.drewN n) := fun n => RankAt.look (w := W1.drewN n) ((hy.kept hk id).same rfl) y.2 ry y2 ey
  have m1 := l1 0
  have m2 := l2 0
  have m3 := l1 1
  have m4 := l2 1
  have HW1 := Lib.hid hW1
  clear hk hW1 hcb cx cy hx hy ex ey
  go_enter Tryz.func94, Tryz.ntmps94
  go_wp2_with fail
  rw [← HW1.out]
  go_quiet ((go_at_call 95; exact Calls.quiet_of_same (hcmp.out _)))
  go_wp2_with fail
  go_ret
  refine ⟨rfl, nq, #[.cells #[.int .i64 x.1, .int .i64 x.2] 95, .cells #[.int .i64 y.1, .int .i64 y.2] 95], ?_⟩
  rw [HW1.out, alloc_eq_grow, alloc_eq_grow, grow_grow]
  rfl

end Go.Proofs.YtanecondopbfhaaGreatDoor
