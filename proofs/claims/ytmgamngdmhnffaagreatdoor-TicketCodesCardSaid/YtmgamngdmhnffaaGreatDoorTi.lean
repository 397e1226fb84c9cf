/- reveal (written by tools/mktk4.py). -/
import Derived.Test.YtmgamngdmhnffaaGreatDoorTh
namespace Go.Proofs.YtmgamngdmhnffaaGreatDoor
open Go.RowKit

set_option maxRecDepth 100000 in
set_option maxHeartbeats 4000000 in
theorem reveal_calls (s : SetD) (hi : s.ints) (vb vx vy : Value) (t : TktD) (ht : t.ints) (d1 d2 : Int) (hd1 : isInt d1) (hd2 : isInt d2) (xs ys : List Int) (hxi : ∀ x ∈ xs, isInt x) (hyi : ∀ x ∈ ys, isInt x) (hl : xs.length ≤ 100000000) (hl2 : ys.length ≤ 100000000) (h2 : 2 ≤ s.bs.length) (hbl : s.bs.length ≤ 4294967296) (w : World) (hb0 : IsNums vb s.bs w) (hx : IsNums vx xs w) (hy : IsNums vy ys w) :
    Calls Tryz.prog 30 #[s.val vb, t.val, .agg #[.int .i64 d1, vx], .agg #[.int .i64 d2, vy]] w fun e w' => e = .returned (.bool (s.revB t ⟨d1, xs⟩ ⟨d2, ys⟩)) ∧ Below w.heap.size w w' := by
  obtain ⟨ab, cb, rfl⟩ := hb0.len
  obtain ⟨a1, c1, rfl⟩ := hx.len
  obtain ⟨a2, c2, rfl⟩ := hy.len
  have HF : Hid (s.revB t ⟨d1, xs⟩ ⟨d2, ys⟩ = (s.accB t ⟨d1, xs⟩ && (s.accB t ⟨d2, ys⟩ && (decide (d1 ≠ d2) && decide (xs.getD 0 0 ≠ ys.getD 0 0))))) := rfl
  have HL : Hid (∀ d l, s.accB t ⟨d, l⟩ = true → l.length = s.bs.length) := by
    show ∀ d l, _
    intro d l h
    unfold SetD.accB at h
    simp only [Bool.and_eq_true, decide_eq_true_eq] at h
    exact h.2.2.1
  obtain ⟨W0, hW0⟩ : ∃ W0, W0 = (((w.alloc (.cells (s.cells (.slice ab s.bs.length cb)) 59)).alloc (.cells #[.int .i64 t.mark, .int .i64 t.first, .int .i64 t.z, .int .i64 t.a, .int .i64 t.b, .int .i64 t.r] 23)).alloc (.cells #[.int .i64 d1, .slice a1 xs.length c1] 42)).alloc (.cells #[.int .i64 d2, .slice a2 ys.length c2] 42) := ⟨_, rfl⟩
  have hb : Below w.heap.size w W0 := by rw [hW0]; exact Below.alloc_ (Below.alloc_ (Below.alloc_ (below_one w _) _) _) _
  have hS : GAt s (.slice ab s.bs.length cb) w.heap.size W0 := by rw [hW0]; exact Blk.alloc' (Blk.alloc' (Blk.alloc' (Blk.new w _ _) _) _) _
  have hT : Blk W0 (w.heap.size + 1) 23 #[.int .i64 t.mark, .int .i64 t.first, .int .i64 t.z, .int .i64 t.a, .int .i64 t.b, .int .i64 t.r] := by rw [hW0]; exact Blk.alloc' (Blk.alloc' (Blk.new' (by rw [alloc_size]) _ _) _) _
  have hX : Blk W0 (w.heap.size + 1 + 1) 42 #[.int .i64 d1, .slice a1 xs.length c1] := by rw [hW0]; exact Blk.alloc' (Blk.new' (by rw [alloc_size, alloc_size]) _ _) _
  have hY : Blk W0 (w.heap.size + 1 + 1 + 1) 42 #[.int .i64 d2, .slice a2 ys.length c2] := by rw [hW0]; exact Blk.new' (by rw [alloc_size, alloc_size, alloc_size]) _ _
  have HK : Hid (∀ w', Below W0.heap.size W0 w' → w'.cell? ⟨w.heap.size, 0, none⟩ = some (.int .i64 s.P) ∧ w'.cell? ⟨w.heap.size, 1, none⟩ = some (.int .i64 s.Q) ∧ w'.cell? ⟨w.heap.size, 2, none⟩ = some (.int .i64 s.G) ∧ w'.cell? ⟨w.heap.size, 3, none⟩ = some (.slice ab s.bs.length cb) ∧ w'.cell? ⟨w.heap.size, 4, none⟩ = some (.int .i64 s.H) ∧ w'.cell? ⟨w.heap.size + 1, 0, none⟩ = some (.int .i64 t.mark) ∧ w'.cell? ⟨w.heap.size + 1, 1, none⟩ = some (.int .i64 t.first) ∧ w'.cell? ⟨w.heap.size + 1, 2, none⟩ = some (.int .i64 t.z) ∧ w'.cell? ⟨w.heap.size + 1, 3, none⟩ = some (.int .i64 t.a) ∧ w'.cell? ⟨w.heap.size + 1, 4, none⟩ = some (.int .i64 t.b) ∧ w'.cell? ⟨w.heap.size + 1, 5, none⟩ = some (.int .i64 t.r) ∧ w'.cell? ⟨w.heap.size + 1 + 1, 0, none⟩ = some (.int .i64 d1) ∧ w'.cell? ⟨w.heap.size + 1 + 1, 1, none⟩ = some (.slice a1 xs.length c1) ∧ w'.cell? ⟨w.heap.size + 1 + 1 + 1, 0, none⟩ = some (.int .i64 d2) ∧ w'.cell? ⟨w.heap.size + 1 + 1 + 1, 1, none⟩ = some (.slice a2 ys.length c2) ∧ Below W0.heap.size W0 w') := by
    show ∀ w', _
    intro w' h
    obtain ⟨z0, z1, z2, z3, z4⟩ := (hS.next h).get
    exact ⟨z0, z1, z2, z3, z4, (hT.next h).cell 0, (hT.next h).cell 1, (hT.next h).cell 2, (hT.next h).cell 3, (hT.next h).cell 4, (hT.next h).cell 5, (hX.next h).cell 0, (hX.next h).cell 1, (hY.next h).cell 0, (hY.next h).cell 1, h⟩
  have k1 := DoesE.mk (w0 := W0) (f := 35) fun w' h => acc_calls s hi (.slice ab s.bs.length cb) (.slice a1 xs.length c1) t ht d1 xs hd1 hxi hl hbl w' (hb0.next (hb.trans (h.mono hb.size))) (hx.next (hb.trans (h.mono hb.size)))
  have k2 := DoesE.mk (w0 := W0) (f := 35) fun w' h => acc_calls s hi (.slice ab s.bs.length cb) (.slice a2 ys.length c2) t ht d2 ys hd2 hyi hl2 hbl w' (hb0.next (hb.trans (h.mono hb.size))) (hy.next (hb.trans (h.mono hb.size)))
  have HX := fun w' (h : Below W0.heap.size W0 w') => Lib.hid (hx.next (hb.trans (h.mono hb.size)))
  have HY := fun w' (h : Below W0.heap.size W0 w') => Lib.hid (hy.next (hb.trans (h.mono hb.size)))
  have HB := Lib.hid hb
  have HL1 := Lib.hid (HL.out d1 xs)
  have HL2 := Lib.hid (HL.out d2 ys)
  generalize s.accB t ⟨d1, xs⟩ = F1 at *
  generalize s.accB t ⟨d2, ys⟩ = F2 at *
  unfold SetD.val TktD.val at *
  unfold SetD.cells at hW0
  have HW0 := Lib.hid hW0
  have H2 := Lib.hid h2
  have k1 := Lib.hid k1
  have k2 := Lib.hid k2
  have q0 : ∀ u : Up W0, u.w.cell? ⟨w.heap.size, 0, none⟩ = some (.int .i64 s.P) := fun u => by obtain ⟨h, _, _, _, _, _, _, _, _, _, _, _, _, _, _, _⟩ := HK.out u.w u.b; exact h
  have q1 : ∀ u : Up W0, u.w.cell? ⟨w.heap.size, 1, none⟩ = some (.int .i64 s.Q) := fun u => by obtain ⟨_, h, _, _, _, _, _, _, _, _, _, _, _, _, _, _⟩ := HK.out u.w u.b; exact h
  have q2 : ∀ u : Up W0, u.w.cell? ⟨w.heap.size, 2, none⟩ = some (.int .i64 s.G) := fun u => by obtain ⟨_, _, h, _, _, _, _, _, _, _, _, _, _, _, _, _⟩ := HK.out u.w u.b; exact h
  have q3 : ∀ u : Up W0, u.w.cell? ⟨w.heap.size, 3, none⟩ = some (.slice ab s.bs.length cb) := fun u => by obtain ⟨_, _, _, h, _, _, _, _, _, _, _, _, _, _, _, _⟩ := HK.out u.w u.b; exact h
  have q4 : ∀ u : Up W0, u.w.cell? ⟨w.heap.size, 4, none⟩ = some (.int .i64 s.H) := fun u => by obtain ⟨_, _, _, _, h, _, _, _, _, _, _, _, _, _, _, _⟩ := HK.out u.w u.b; exact h
  have q5 : ∀ u : Up W0, u.w.cell? ⟨w.heap.size + 1, 0, none⟩ = some (.int .i64 t.mark) := fun u => by obtain ⟨_, _, _, _, _, h, _, _, _, _, _, _, _, _, _, _⟩ := HK.out u.w u.b; exact h
  have q6 : ∀ u : Up W0, u.w.cell? ⟨w.heap.size + 1, 1, none⟩ = some (.int .i64 t.first) := fun u => by obtain ⟨_, _, _, _, _, _, h, _, _, _, _, _, _, _, _, _⟩ := HK.out u.w u.b; exact h
  have q7 : ∀ u : Up W0, u.w.cell? ⟨w.heap.size + 1, 2, none⟩ = some (.int .i64 t.z) := fun u => by obtain ⟨_, _, _, _, _, _, _, h, _, _, _, _, _, _, _, _⟩ := HK.out u.w u.b; exact h
  have q8 : ∀ u : Up W0, u.w.cell? ⟨w.heap.size + 1, 3, none⟩ = some (.int .i64 t.a) := fun u => by obtain ⟨_, _, _, _, _, _, _, _, h, _, _, _, _, _, _, _⟩ := HK.out u.w u.b; exact h
  have q9 : ∀ u : Up W0, u.w.cell? ⟨w.heap.size + 1, 4, none⟩ = some (.int .i64 t.b) := fun u => by obtain ⟨_, _, _, _, _, _, _, _, _, h, _, _, _, _, _, _⟩ := HK.out u.w u.b; exact h
  have q10 : ∀ u : Up W0, u.w.cell? ⟨w.heap.size + 1, 5, none⟩ = some (.int .i64 t.r) := fun u => by obtain ⟨_, _, _, _, _, _, _, _, _, _, h, _, _, _, _, _⟩ := HK.out u.w u.b; exact h
  have q11 : ∀ u : Up W0, u.w.cell? ⟨w.heap.size + 1 + 1, 0, none⟩ = some (.int .i64 d1) := fun u => by obtain ⟨_, _, _, _, _, _, _, _, _, _, _, h, _, _, _, _⟩ := HK.out u.w u.b; exact h
  have q12 : ∀ u : Up W0, u.w.cell? ⟨w.heap.size + 1 + 1, 1, none⟩ = some (.slice a1 xs.length c1) := fun u => by obtain ⟨_, _, _, _, _, _, _, _, _, _, _, _, h, _, _, _⟩ := HK.out u.w u.b; exact h
  have q13 : ∀ u : Up W0, u.w.cell? ⟨w.heap.size + 1 + 1 + 1, 0, none⟩ = some (.int .i64 d2) := fun u => by obtain ⟨_, _, _, _, _, _, _, _, _, _, _, _, _, h, _, _⟩ := HK.out u.w u.b; exact h
  have q14 : ∀ u : Up W0, u.w.cell? ⟨w.heap.size + 1 + 1 + 1, 1, none⟩ = some (.slice a2 ys.length c2) := fun u => by obtain ⟨_, _, _, _, _, _, _, _, _, _, _, _, _, _, h, _⟩ := HK.out u.w u.b; exact h
  obtain ⟨z0, z1, z2, z3, z4, t0, t1, t2, t3, t4, t5, x0, x1, y0, y1, -⟩ := HK.out W0 (Below.refl _ _)
  rw [hW0] at z0 z1 z2 z3 z4 t0 t1 t2 t3 t4 t5 x0 x1 y0 y1
  clear hS hT hX hY hb hW0 HL h2
  cases F1
  · have HF2 : Hid (s.revB t ⟨d1, xs⟩ ⟨d2, ys⟩ = false) := by show _ = _; rw [HF.out]; rfl
    clear hb0 hx hy HF
    go_enter Tryz.func30, Tryz.ntmps30
    go_wp2
    clear z0 z1 z2 z3 z4 t0 t1 t2 t3 t4 t5 x0 x1 y0 y1
    rw [← HW0.out]
    refine wp_region_up (by kernel_rfl) (by kernel_rfl) ?_
    repeat (go_big_quiet_step (first | exact Calls.mono (k1.out _ _ (by with_reducible rfl) (Up.b _)) fun e w' h => ⟨h.1, ⟨w', h.2.1⟩, rfl⟩ | exact Calls.mono (k2.out _ _ (by with_reducible rfl) (Up.b _)) fun e w' h => ⟨h.1, ⟨w', h.2.1⟩, rfl⟩))
    refine wpQuiet_nil ?_
    intro _ hw'
    obtain ⟨u6, rfl⟩ := hw'
    have hb4 : Below W0.heap.size W0 u6.w := u6.b
    generalize u6.w = w4 at *
    go_wp2
    go_ret
    exact ⟨ret_b HF2.out.symm, HB.out.trans (hb4.mono HB.out.size)⟩
  cases F2
  · have HF2 : Hid (s.revB t ⟨d1, xs⟩ ⟨d2, ys⟩ = false) := by show _ = _; rw [HF.out]; rfl
    clear hb0 hx hy HF
    go_enter Tryz.func30, Tryz.ntmps30
    go_wp2
    clear z0 z1 z2 z3 z4 t0 t1 t2 t3 t4 t5 x0 x1 y0 y1
    rw [← HW0.out]
    refine wp_region_up (by kernel_rfl) (by kernel_rfl) ?_
    repeat (go_big_quiet_step (first | exact Calls.mono (k1.out _ _ (by with_reducible rfl) (Up.b _)) fun e w' h => ⟨h.1, ⟨w', h.2.1⟩, rfl⟩ | exact Calls.mono (k2.out _ _ (by with_reducible rfl) (Up.b _)) fun e w' h => ⟨h.1, ⟨w', h.2.1⟩, rfl⟩))
    refine wpQuiet_nil ?_
    intro _ hw'
    obtain ⟨u6, rfl⟩ := hw'
    have hb4 : Below W0.heap.size W0 u6.w := u6.b
    generalize u6.w = w4 at *
    go_wp2
    go_ret
    exact ⟨ret_b HF2.out.symm, HB.out.trans (hb4.mono HB.out.size)⟩
  have hn1 : 0 < xs.length := by rw [HL1.out rfl]; exact Nat.lt_of_lt_of_le (by omega) H2.out
  have hn2 : 0 < ys.length := by rw [HL2.out rfl]; exact Nat.lt_of_lt_of_le (by omega) H2.out
  obtain ⟨b1, o1, rfl, g1, x, hx', e1⟩ := (HX W0 (Below.refl _ _)).out.at 0 hn1
  obtain ⟨b2, o2, rfl, g2, y, hy', e2⟩ := (HY W0 (Below.refl _ _)).out.at 0 hn2
  have hx0 : xs.getD 0 0 = x := by rw [hx', List.getD_eq_getElem?_getD, List.getElem?_eq_getElem hn1]; rfl
  have hy0 : ys.getD 0 0 = y := by rw [hy', List.getD_eq_getElem?_getD, List.getElem?_eq_getElem hn2]; rfl
  rw [hx0, hy0] at HF
  rw [Nat.add_zero] at e1 e2
  have p1 : ∀ u : Up W0, u.w.cell? ⟨b1, o1, none⟩ = some (.int .i64 x) := fun u => by rw [u.b.cell (p := ⟨b1, o1, none⟩) g1]; exact e1
  have p2 : ∀ u : Up W0, u.w.cell? ⟨b2, o2, none⟩ = some (.int .i64 y) := fun u => by rw [u.b.cell (p := ⟨b2, o2, none⟩) g2]; exact e2
  have i1 : (0 : Int) < (xs.length : Int) := by omega
  have i2 : (0 : Int) < (ys.length : Int) := by omega
  clear hx' hy' hx0 hy0 hn1 hn2 HX HY hx hy e1 e2 hb0 HL1 HL2 H2
  by_cases h1 : d1 = d2
  · have hbn : (d1 != d2) = false := by simp [h1]
    have HF2 : Hid (s.revB t ⟨d1, xs⟩ ⟨d2, ys⟩ = false) := by show _ = _; rw [HF.out, decide_eq_false (by simp [h1])]; rfl
    clear h1 HF
    go_enter Tryz.func30, Tryz.ntmps30
    go_wp2
    clear z0 z1 z2 z3 z4 t0 t1 t2 t3 t4 t5 x0 x1 y0 y1
    rw [← HW0.out]
    refine wp_region_up (by kernel_rfl) (by kernel_rfl) ?_
    repeat (go_big_quiet_step (first | exact Calls.mono (k1.out _ _ (by with_reducible rfl) (Up.b _)) fun e w' h => ⟨h.1, ⟨w', h.2.1⟩, rfl⟩ | exact Calls.mono (k2.out _ _ (by with_reducible rfl) (Up.b _)) fun e w' h => ⟨h.1, ⟨w', h.2.1⟩, rfl⟩))
    refine wpQuiet_nil ?_
    intro _ hw'
    obtain ⟨u6, rfl⟩ := hw'
    have hb4 : Below W0.heap.size W0 u6.w := u6.b
    generalize u6.w = w4 at *
    go_wp2
    go_ret
    exact ⟨ret_b HF2.out.symm, HB.out.trans (hb4.mono HB.out.size)⟩
  · have hbn : (d1 != d2) = true := bne_iff_ne.2 h1
    by_cases h3 : x = y
    · have hbm : (x != y) = false := by simp [h3]
      have HF2 : Hid (s.revB t ⟨d1, xs⟩ ⟨d2, ys⟩ = false) := by show _ = _; rw [HF.out, decide_eq_true h1, decide_eq_false (by simp [h3])]; rfl
      clear h1 h3 HF
      go_enter Tryz.func30, Tryz.ntmps30
      go_wp2
      clear z0 z1 z2 z3 z4 t0 t1 t2 t3 t4 t5 x0 x1 y0 y1
      rw [← HW0.out]
      refine wp_region_up (by kernel_rfl) (by kernel_rfl) ?_
      repeat (go_big_quiet_step (first | exact Calls.mono (k1.out _ _ (by with_reducible rfl) (Up.b _)) fun e w' h => ⟨h.1, ⟨w', h.2.1⟩, rfl⟩ | exact Calls.mono (k2.out _ _ (by with_reducible rfl) (Up.b _)) fun e w' h => ⟨h.1, ⟨w', h.2.1⟩, rfl⟩))
      refine wpQuiet_nil ?_
      intro _ hw'
      obtain ⟨u6, rfl⟩ := hw'
      have hb4 : Below W0.heap.size W0 u6.w := u6.b
      generalize u6.w = w4 at *
      go_wp2
      go_ret
      exact ⟨ret_b HF2.out.symm, HB.out.trans (hb4.mono HB.out.size)⟩
    · have hbm : (x != y) = true := bne_iff_ne.2 h3
      have HF2 : Hid (s.revB t ⟨d1, xs⟩ ⟨d2, ys⟩ = true) := by show _ = _; rw [HF.out, decide_eq_true h1, decide_eq_true h3]; rfl
      clear h1 h3 HF
      go_enter Tryz.func30, Tryz.ntmps30
      go_wp2
      clear z0 z1 z2 z3 z4 t0 t1 t2 t3 t4 t5 x0 x1 y0 y1
      rw [← HW0.out]
      refine wp_region_up (by kernel_rfl) (by kernel_rfl) ?_
      repeat (go_big_quiet_step (first | exact Calls.mono (k1.out _ _ (by with_reducible rfl) (Up.b _)) fun e w' h => ⟨h.1, ⟨w', h.2.1⟩, rfl⟩ | exact Calls.mono (k2.out _ _ (by with_reducible rfl) (Up.b _)) fun e w' h => ⟨h.1, ⟨w', h.2.1⟩, rfl⟩))
      refine wpQuiet_nil ?_
      intro _ hw'
      obtain ⟨u6, rfl⟩ := hw'
      have hb4 : Below W0.heap.size W0 u6.w := u6.b
      generalize u6.w = w4 at *
      go_wp2
      go_ret
      exact ⟨ret_b HF2.out.symm, HB.out.trans (hb4.mono HB.out.size)⟩
end Go.Proofs.YtmgamngdmhnffaaGreatDoor
