/- The examples' function. -/
import Derived.Test.YtmgamngdmhnffaaGreatDoorTs
namespace Go.Proofs.YtmgamngdmhnffaaGreatDoor
open Go.RowKit

set_option maxRecDepth 100000 in
set_option maxHeartbeats 16000000 in
theorem sane_ok : SaneOk := by
  intro w hE hC
  have hX := Ex.start w
  have HE := fun w' (h : Ex w w') => Lib.hid (hE.next h.below)
  have HC := fun w' (h : Ex w w') => Lib.hid (hC.next h.below)
  have c1 := Lib.hid (ex_propose (HE _ hX).out hX.bs hX.l)
  unfold exV at c1
  clear hE hC
  go_enter Tryz.func4, Tryz.ntmps4
  go_wp2_with fail
  generalize ((((w.alloc (.cells #[.int .i64 4, .int .i64 16, .int .i64 18] 3)).alloc (.cells #[.int .i64 23, .int .i64 11, .int .i64 4, .slice (some ⟨w.heap.size, 0, none⟩) 3 3, .int .i64 3] 33)).alloc (.cells #[.int .i64 5, .int .i64 7] 3)).alloc (.cells #[.int .i64 1, .int .i64 2, .int .i64 3] 3)).alloc (.cells #[.int .i64 4, .int .i64 1, .int .i64 0, .slice (some ⟨w.heap.size + 1 + 1 + 1, 0, none⟩) 3 3] 35) = U0 at *
  refine c1.out.mono ?_
  clear c1
  rintro e w1 ⟨rfl, hb1⟩
  have hX := hX.next (Below.alloc_ hb1 (.cells #[.int .i64 9, .int .i64 16, .int .i64 13] 37))
  have hO := Blk.new w1 37 #[.int .i64 9, .int .i64 16, .int .i64 13]
  have c2 := Lib.hid (ex_use 2 [9, 9, 4] (by unfold isInt; decide) ex_use2 tk_x (HE _ hX).out hX.bs hX.l hX.ys)
  unfold exV at c2
  have s0 := hX.s.cell 0
  have s1 := hX.s.cell 1
  have s2 := hX.s.cell 2
  have s3 := hX.s.cell 3
  have s4 := hX.s.cell 4
  have b0 := hX.b.cell 0
  have b1 := hX.b.cell 1
  have b2 := hX.b.cell 2
  have b3 := hX.b.cell 3
  clear hb1
  go_wp2_with fail
  generalize w1.alloc (.cells #[.int .i64 9, .int .i64 16, .int .i64 13] 37) = U1 at *
  obtain ⟨bo, hbo⟩ : ∃ b, b = w1.heap.size := ⟨_, rfl⟩
  rw [← hbo] at hO ⊢
  refine c2.out.mono ?_
  clear c2 s0 s1 s2 s3 s4 b0 b1 b2 b3 hbo
  rintro e w2 ⟨o1, rfl, hn1, hb2⟩
  obtain ⟨p1, r1, rfl⟩ := hn1.len
  change IsNums (.slice p1 3 r1) _ _ at hn1
  have hbx := below_one w2 (.cells #[.int .i64 2, .slice p1 3 r1] 42)
  have hX := (hX.next hb2).next hbx
  have hO := (hO.next hb2).next hbx
  have hx := Blk.new w2 42 #[.int .i64 2, .slice p1 3 r1]
  have hn1 := hn1.next hbx
  have c3 := Lib.hid (ex_use 5 [10, 3, 0] (by unfold isInt; decide) ex_use5 tk_y (HE _ hX).out hX.bs hX.l hX.ys)
  unfold exV at c3
  have s0 := hX.s.cell 0
  have s1 := hX.s.cell 1
  have s2 := hX.s.cell 2
  have s3 := hX.s.cell 3
  have s4 := hX.s.cell 4
  have b0 := hX.b.cell 0
  have b1 := hX.b.cell 1
  have b2 := hX.b.cell 2
  have b3 := hX.b.cell 3
  clear hb2 hbx
  go_wp2_with fail
  generalize w2.alloc (.cells #[.int .i64 2, .slice p1 3 r1] 42) = U2 at *
  obtain ⟨bx, hbx⟩ : ∃ b, b = w2.heap.size := ⟨_, rfl⟩
  rw [← hbx] at hx ⊢
  refine c3.out.mono ?_
  clear c3 s0 s1 s2 s3 s4 b0 b1 b2 b3 hbx
  rintro e w3 ⟨o2, rfl, hn2, hb3⟩
  obtain ⟨p2, r2, rfl⟩ := hn2.len
  change IsNums (.slice p2 3 r2) _ _ at hn2
  have h1 := below_one w3 (.cells #[.int .i64 5, .slice p2 3 r2] 42)
  have h2 := below_one (w3.alloc (.cells #[.int .i64 5, .slice p2 3 r2] 42)) (.cells #[.int .i64 8, .int .i64 18, .int .i64 9, .int .i64 16, .int .i64 13, .int .i64 0] 23)
  have hX := ((hX.next hb3).next h1).next h2
  have hO := ((hO.next hb3).next h1).next h2
  have hx := ((hx.next hb3).next h1).next h2
  have hn1 := ((hn1.next hb3).next h1).next h2
  have hn2 := (hn2.next h1).next h2
  have hy := (Blk.new w3 42 #[.int .i64 5, .slice p2 3 r2]).next h2
  have ht := Blk.new' (alloc_size w3 (.cells #[.int .i64 5, .slice p2 3 r2] 42)) 23 #[.int .i64 8, .int .i64 18, .int .i64 9, .int .i64 16, .int .i64 13, .int .i64 0]
  have c4 := Lib.hid (ex_trace 2 5 [9, 9, 4] [10, 3, 0] true [5, 7] (by unfold isInt; decide) (by unfold isInt; decide) (ints_of (by decide)) (ints_of (by decide)) (by decide) (by decide) ex_rev tk_trace (HE _ hX).out hX.bs hn1 hn2)
  unfold exV exT at c4
  have s0 := hX.s.cell 0
  have s1 := hX.s.cell 1
  have s2 := hX.s.cell 2
  have s3 := hX.s.cell 3
  have s4 := hX.s.cell 4
  have x0 := hx.cell 0
  have x1 := hx.cell 1
  have y0 := hy.cell 0
  have y1 := hy.cell 1
  have t0 := ht.cell 0
  have t1 := ht.cell 1
  have t2 := ht.cell 2
  have t3 := ht.cell 3
  have t4 := ht.cell 4
  have t5 := ht.cell 5
  clear hb3 h1 h2
  go_wp2_with fail
  generalize (w3.alloc (.cells #[.int .i64 5, .slice p2 3 r2] 42)).alloc (.cells #[.int .i64 8, .int .i64 18, .int .i64 9, .int .i64 16, .int .i64 13, .int .i64 0] 23) = U3 at *
  obtain ⟨bt, hbt⟩ : ∃ b, b = w3.heap.size + 1 := ⟨_, rfl⟩
  rw [← hbt] at ht ⊢
  obtain ⟨bY, hbY⟩ : ∃ b, b = w3.heap.size := ⟨_, rfl⟩
  rw [← hbY] at hy ⊢
  refine c4.out.mono ?_
  clear c4 s0 s1 s2 s3 s4 x0 x1 y0 y1 t0 t1 t2 t3 t4 t5 hbt hbY
  rintro e w4 ⟨u1, rfl, hn3, hb4⟩
  obtain ⟨p3, r3, rfl⟩ := hn3.len
  change IsNums (.slice p3 2 r3) _ _ at hn3
  have hX := hX.next hb4
  have hO := hO.next hb4
  have hx := hx.next hb4
  have hy := hy.next hb4
  have ht := ht.next hb4
  have hn1 := hn1.next hb4
  have hn2 := hn2.next hb4
  have c5 := Lib.hid (ex_trace 2 2 [9, 9, 4] [9, 9, 4] false [] (by unfold isInt; decide) (by unfold isInt; decide) (ints_of (by decide)) (ints_of (by decide)) (by decide) (by decide) ex_rev0 rfl (HE _ hX).out hX.bs hn1 hn1)
  unfold exV exT at c5
  have s0 := hX.s.cell 0
  have s1 := hX.s.cell 1
  have s2 := hX.s.cell 2
  have s3 := hX.s.cell 3
  have s4 := hX.s.cell 4
  have x0 := hx.cell 0
  have x1 := hx.cell 1
  have t0 := ht.cell 0
  have t1 := ht.cell 1
  have t2 := ht.cell 2
  have t3 := ht.cell 3
  have t4 := ht.cell 4
  have t5 := ht.cell 5
  clear hb4
  go_wp2_with fail
  refine c5.out.mono ?_
  clear c5 s0 s1 s2 s3 s4 x0 x1 t0 t1 t2 t3 t4 t5
  rintro e w5 ⟨u2, rfl, -, hb5⟩
  have hX := hX.next hb5
  have hO := hO.next hb5
  have hx := hx.next hb5
  have hy := hy.next hb5
  have ht := ht.next hb5
  have hn1 := hn1.next hb5
  have hn2 := hn2.next hb5
  have hn3 := hn3.next hb5
  have x0 := hx.cell 0
  have x1 := hx.cell 1
  have y0 := hy.cell 0
  have y1 := hy.cell 1
  clear hb5
  have hl1 := below_one w5 (.cells #[.int .i64 9, .int .i64 9, .int .i64 4] 3)
  have hs1 := nums_arr (l := [9, 9, 4]) (Blk.new w5 3 #[.int .i64 9, .int .i64 9, .int .i64 4])
  have hX := hX.next hl1
  have hO := hO.next hl1
  have hx := hx.next hl1
  have hy := hy.next hl1
  have ht := ht.next hl1
  have hn1 := hn1.next hl1
  have hn2 := hn2.next hl1
  have hn3 := hn3.next hl1
  have c6 := Lib.hid (sameints_calls (.slice p1 3 r1) (.slice (some ⟨w5.heap.size, 0, none⟩) 3 3) [9, 9, 4] [9, 9, 4] (by unfold okL; decide) (by unfold okL; decide) _ hn1 hs1)
  rw [decide_eq_true rfl] at c6
  clear hl1 hs1
  go_wp2_with fail
  generalize w5.alloc (.cells #[.int .i64 9, .int .i64 9, .int .i64 4] 3) = V5 at *
  refine c6.out.mono ?_
  clear c6 x0 x1 y0 y1
  rintro e w6 ⟨rfl, m6, rfl⟩
  have hd6 := below_drewN (Below.refl V5.heap.size V5) m6
  have hX := hX.next hd6
  have hO := hO.next hd6
  have hx := hx.next hd6
  have hy := hy.next hd6
  have ht := ht.next hd6
  have hn1 := hn1.next hd6
  have hn2 := hn2.next hd6
  have hn3 := hn3.next hd6
  generalize V5.drewN m6 = w6 at *
  clear hd6
  have y0 := hy.cell 0
  have y1 := hy.cell 1
  have hl2 := below_one w6 (.cells #[.int .i64 10, .int .i64 3, .int .i64 0] 3)
  have hs2 := nums_arr (l := [10, 3, 0]) (Blk.new w6 3 #[.int .i64 10, .int .i64 3, .int .i64 0])
  have hX := hX.next hl2
  have hO := hO.next hl2
  have hx := hx.next hl2
  have hy := hy.next hl2
  have ht := ht.next hl2
  have hn1 := hn1.next hl2
  have hn2 := hn2.next hl2
  have hn3 := hn3.next hl2
  have c6 := Lib.hid (sameints_calls (.slice p2 3 r2) (.slice (some ⟨w6.heap.size, 0, none⟩) 3 3) [10, 3, 0] [10, 3, 0] (by unfold okL; decide) (by unfold okL; decide) _ hn2 hs2)
  rw [decide_eq_true rfl] at c6
  clear hs2
  clear hl2
  go_wp2_with fail
  generalize w6.alloc (.cells #[.int .i64 10, .int .i64 3, .int .i64 0] 3) = V6 at *
  refine c6.out.mono ?_
  clear c6 y0 y1
  rintro e w7 ⟨rfl, m7, rfl⟩
  have hd7 := below_drewN (Below.refl V6.heap.size V6) m7
  have hX := hX.next hd7
  have hO := hO.next hd7
  have hx := hx.next hd7
  have hy := hy.next hd7
  have ht := ht.next hd7
  have hn1 := hn1.next hd7
  have hn2 := hn2.next hd7
  have hn3 := hn3.next hd7
  generalize V6.drewN m7 = w7 at *
  clear hd7
  have c6 := Lib.hid (sameints_calls (.slice p3 2 r3) (.slice (some ⟨w.heap.size + 1 + 1, 0, none⟩) 2 2) [5, 7] [5, 7] (by unfold okL; decide) (by unfold okL; decide) w7 hn3 hX.l)
  rw [decide_eq_true rfl] at c6
  go_wp2_with fail
  refine c6.out.mono ?_
  clear c6
  rintro e w8 ⟨rfl, m8, rfl⟩
  have hd8 := below_drewN (Below.refl w7.heap.size w7) m8
  have hX := hX.next hd8
  have hO := hO.next hd8
  have hx := hx.next hd8
  have hy := hy.next hd8
  have ht := ht.next hd8
  have hn1 := hn1.next hd8
  have hn2 := hn2.next hd8
  have hn3 := hn3.next hd8
  generalize w7.drewN m8 = w8 at *
  clear hd8
  have xa := hx.cell 1
  have hl9 := below_one w8 (.cells #[.int .i64 3, .slice p1 3 r1] 42)
  have hz := Blk.new w8 42 #[.int .i64 3, .slice p1 3 r1]
  have hX := hX.next hl9
  have hO := hO.next hl9
  have hx := hx.next hl9
  have hy := hy.next hl9
  have ht := ht.next hl9
  have hn1 := hn1.next hl9
  have hn2 := hn2.next hl9
  have hn3 := hn3.next hl9
  clear hl9
  have s0 := hX.s.cell 0
  have s1 := hX.s.cell 1
  have s2 := hX.s.cell 2
  have s3 := hX.s.cell 3
  have s4 := hX.s.cell 4
  have o0 := hO.cell 0
  have o1 := hO.cell 1
  have o2 := hO.cell 2
  have x0 := hx.cell 0
  have x1 := hx.cell 1
  have y0 := hy.cell 0
  have y1 := hy.cell 1
  have z0 := hz.cell 0
  have z1 := hz.cell 1
  have t0 := ht.cell 0
  have t1 := ht.cell 1
  have t2 := ht.cell 2
  have t3 := ht.cell 3
  have t4 := ht.cell 4
  have t5 := ht.cell 5
  have c6 := Lib.hid (ex_mark (HE _ hX).out hX.bs hX.l)
  unfold exV at c6
  try unfold exT at c6
  go_wp2_with fail
  clear xa
  generalize w8.alloc (.cells #[.int .i64 3, .slice p1 3 r1] 42) = V8 at *
  obtain ⟨bz, hbz⟩ : ∃ b, b = w8.heap.size := ⟨_, rfl⟩
  rw [← hbz] at hz ⊢
  clear hbz
  refine c6.out.mono ?_
  clear c6 s0 s1 s2 s3 s4 o0 o1 o2 x0 x1 y0 y1 z0 z1 t0 t1 t2 t3 t4 t5
  rintro e w9 ⟨rfl, hb9⟩
  have hX := hX.next hb9
  have hO := hO.next hb9
  have hx := hx.next hb9
  have hy := hy.next hb9
  have ht := ht.next hb9
  have hn1 := hn1.next hb9
  have hn2 := hn2.next hb9
  have hn3 := hn3.next hb9
  have hz := hz.next hb9
  clear hb9
  have s0 := hX.s.cell 0
  have s1 := hX.s.cell 1
  have s2 := hX.s.cell 2
  have s3 := hX.s.cell 3
  have s4 := hX.s.cell 4
  have o0 := hO.cell 0
  have o1 := hO.cell 1
  have o2 := hO.cell 2
  have x0 := hx.cell 0
  have x1 := hx.cell 1
  have y0 := hy.cell 0
  have y1 := hy.cell 1
  have z0 := hz.cell 0
  have z1 := hz.cell 1
  have t0 := ht.cell 0
  have t1 := ht.cell 1
  have t2 := ht.cell 2
  have t3 := ht.cell 3
  have t4 := ht.cell 4
  have t5 := ht.cell 5
  have c6 := Lib.hid (ex_usable (HE _ hX).out hX.bs hX.l)
  unfold exV at c6
  try unfold exT at c6
  go_wp2_with fail
  refine c6.out.mono ?_
  clear c6 s0 s1 s2 s3 s4 o0 o1 o2 x0 x1 y0 y1 z0 z1 t0 t1 t2 t3 t4 t5
  rintro e w10 ⟨rfl, hb10⟩
  have hX := hX.next hb10
  have hO := hO.next hb10
  have hx := hx.next hb10
  have hy := hy.next hb10
  have ht := ht.next hb10
  have hn1 := hn1.next hb10
  have hn2 := hn2.next hb10
  have hn3 := hn3.next hb10
  have hz := hz.next hb10
  clear hb10
  have sa0 := hX.s.cell 0
  have sa1 := hX.s.cell 1
  have sa2 := hX.s.cell 2
  have sa3 := hX.s.cell 3
  have sa4 := hX.s.cell 4
  have hlz := below_one w10 (.cells #[.int .i64 5, .int .i64 0] 3)
  have hz0 := nums_arr (l := [5, 0]) (Blk.new w10 3 #[.int .i64 5, .int .i64 0])
  have hX := hX.next hlz
  have hO := hO.next hlz
  have hx := hx.next hlz
  have hy := hy.next hlz
  have ht := ht.next hlz
  have hn1 := hn1.next hlz
  have hn2 := hn2.next hlz
  have hn3 := hn3.next hlz
  have hz := hz.next hlz
  clear hlz
  have s0 := hX.s.cell 0
  have s1 := hX.s.cell 1
  have s2 := hX.s.cell 2
  have s3 := hX.s.cell 3
  have s4 := hX.s.cell 4
  have o0 := hO.cell 0
  have o1 := hO.cell 1
  have o2 := hO.cell 2
  have x0 := hx.cell 0
  have x1 := hx.cell 1
  have y0 := hy.cell 0
  have y1 := hy.cell 1
  have z0 := hz.cell 0
  have z1 := hz.cell 1
  have t0 := ht.cell 0
  have t1 := ht.cell 1
  have t2 := ht.cell 2
  have t3 := ht.cell 3
  have t4 := ht.cell 4
  have t5 := ht.cell 5
  have c6 := Lib.hid (ex_usable0 (HE _ hX).out hX.bs hz0)
  unfold exV at c6
  try unfold exT at c6
  clear hz0
  go_wp2_with fail
  clear sa0 sa1 sa2 sa3 sa4
  generalize w10.alloc (.cells #[.int .i64 5, .int .i64 0] 3) = V10 at *
  refine c6.out.mono ?_
  clear c6 s0 s1 s2 s3 s4 o0 o1 o2 x0 x1 y0 y1 z0 z1 t0 t1 t2 t3 t4 t5
  rintro e w11 ⟨rfl, hb11⟩
  have hX := hX.next hb11
  have hO := hO.next hb11
  have hx := hx.next hb11
  have hy := hy.next hb11
  have ht := ht.next hb11
  have hn1 := hn1.next hb11
  have hn2 := hn2.next hb11
  have hn3 := hn3.next hb11
  have hz := hz.next hb11
  clear hb11
  have s0 := hX.s.cell 0
  have s1 := hX.s.cell 1
  have s2 := hX.s.cell 2
  have s3 := hX.s.cell 3
  have s4 := hX.s.cell 4
  have o0 := hO.cell 0
  have o1 := hO.cell 1
  have o2 := hO.cell 2
  have x0 := hx.cell 0
  have x1 := hx.cell 1
  have y0 := hy.cell 0
  have y1 := hy.cell 1
  have z0 := hz.cell 0
  have z1 := hz.cell 1
  have t0 := ht.cell 0
  have t1 := ht.cell 1
  have t2 := ht.cell 2
  have t3 := ht.cell 3
  have t4 := ht.cell 4
  have t5 := ht.cell 5
  have c6 := Lib.hid (ex_public (HE _ hX).out hX.bs)
  unfold exV at c6
  try unfold exT at c6
  go_wp2_with fail
  refine c6.out.mono ?_
  clear c6 s0 s1 s2 s3 s4 o0 o1 o2 x0 x1 y0 y1 z0 z1 t0 t1 t2 t3 t4 t5
  rintro e w12 ⟨rfl, hb12⟩
  have hX := hX.next hb12
  have hO := hO.next hb12
  have hx := hx.next hb12
  have hy := hy.next hb12
  have ht := ht.next hb12
  have hn1 := hn1.next hb12
  have hn2 := hn2.next hb12
  have hn3 := hn3.next hb12
  have hz := hz.next hb12
  clear hb12
  have s0 := hX.s.cell 0
  have s1 := hX.s.cell 1
  have s2 := hX.s.cell 2
  have s3 := hX.s.cell 3
  have s4 := hX.s.cell 4
  have o0 := hO.cell 0
  have o1 := hO.cell 1
  have o2 := hO.cell 2
  have x0 := hx.cell 0
  have x1 := hx.cell 1
  have y0 := hy.cell 0
  have y1 := hy.cell 1
  have z0 := hz.cell 0
  have z1 := hz.cell 1
  have t0 := ht.cell 0
  have t1 := ht.cell 1
  have t2 := ht.cell 2
  have t3 := ht.cell 3
  have t4 := ht.cell 4
  have t5 := ht.cell 5
  have c6 := Lib.hid (ex_public0 (HE _ hX).out hX.bs)
  unfold exV at c6
  try unfold exT at c6
  go_wp2_with fail
  refine c6.out.mono ?_
  clear c6 s0 s1 s2 s3 s4 o0 o1 o2 x0 x1 y0 y1 z0 z1 t0 t1 t2 t3 t4 t5
  rintro e w13 ⟨rfl, hb13⟩
  have hX := hX.next hb13
  have hO := hO.next hb13
  have hx := hx.next hb13
  have hy := hy.next hb13
  have ht := ht.next hb13
  have hn1 := hn1.next hb13
  have hn2 := hn2.next hb13
  have hn3 := hn3.next hb13
  have hz := hz.next hb13
  clear hb13
  have s0 := hX.s.cell 0
  have s1 := hX.s.cell 1
  have s2 := hX.s.cell 2
  have s3 := hX.s.cell 3
  have s4 := hX.s.cell 4
  have o0 := hO.cell 0
  have o1 := hO.cell 1
  have o2 := hO.cell 2
  have x0 := hx.cell 0
  have x1 := hx.cell 1
  have y0 := hy.cell 0
  have y1 := hy.cell 1
  have z0 := hz.cell 0
  have z1 := hz.cell 1
  have t0 := ht.cell 0
  have t1 := ht.cell 1
  have t2 := ht.cell 2
  have t3 := ht.cell 3
  have t4 := ht.cell 4
  have t5 := ht.cell 5
  have c6 := Lib.hid (ex_grant (HE _ hX).out hX.bs)
  unfold exV at c6
  try unfold exT at c6
  go_wp2_with fail
  refine c6.out.mono ?_
  clear c6 s0 s1 s2 s3 s4 o0 o1 o2 x0 x1 y0 y1 z0 z1 t0 t1 t2 t3 t4 t5
  rintro e w14 ⟨rfl, hb14⟩
  have hX := hX.next hb14
  have hO := hO.next hb14
  have hx := hx.next hb14
  have hy := hy.next hb14
  have ht := ht.next hb14
  have hn1 := hn1.next hb14
  have hn2 := hn2.next hb14
  have hn3 := hn3.next hb14
  have hz := hz.next hb14
  clear hb14
  have s0 := hX.s.cell 0
  have s1 := hX.s.cell 1
  have s2 := hX.s.cell 2
  have s3 := hX.s.cell 3
  have s4 := hX.s.cell 4
  have o0 := hO.cell 0
  have o1 := hO.cell 1
  have o2 := hO.cell 2
  have x0 := hx.cell 0
  have x1 := hx.cell 1
  have y0 := hy.cell 0
  have y1 := hy.cell 1
  have z0 := hz.cell 0
  have z1 := hz.cell 1
  have t0 := ht.cell 0
  have t1 := ht.cell 1
  have t2 := ht.cell 2
  have t3 := ht.cell 3
  have t4 := ht.cell 4
  have t5 := ht.cell 5
  have c6 := Lib.hid (ex_accepts 2 [9, 9, 4] true (by unfold isInt; decide) (ints_of (by decide)) (by decide) (by decide +kernel) (HE _ hX).out hX.bs hn1)
  unfold exV at c6
  try unfold exT at c6
  go_wp2_with fail
  refine c6.out.mono ?_
  clear c6 s0 s1 s2 s3 s4 o0 o1 o2 x0 x1 y0 y1 z0 z1 t0 t1 t2 t3 t4 t5
  rintro e w15 ⟨rfl, hb15⟩
  have hX := hX.next hb15
  have hO := hO.next hb15
  have hx := hx.next hb15
  have hy := hy.next hb15
  have ht := ht.next hb15
  have hn1 := hn1.next hb15
  have hn2 := hn2.next hb15
  have hn3 := hn3.next hb15
  have hz := hz.next hb15
  clear hb15
  have s0 := hX.s.cell 0
  have s1 := hX.s.cell 1
  have s2 := hX.s.cell 2
  have s3 := hX.s.cell 3
  have s4 := hX.s.cell 4
  have o0 := hO.cell 0
  have o1 := hO.cell 1
  have o2 := hO.cell 2
  have x0 := hx.cell 0
  have x1 := hx.cell 1
  have y0 := hy.cell 0
  have y1 := hy.cell 1
  have z0 := hz.cell 0
  have z1 := hz.cell 1
  have t0 := ht.cell 0
  have t1 := ht.cell 1
  have t2 := ht.cell 2
  have t3 := ht.cell 3
  have t4 := ht.cell 4
  have t5 := ht.cell 5
  have c6 := Lib.hid (ex_accepts 5 [10, 3, 0] true (by unfold isInt; decide) (ints_of (by decide)) (by decide) (by decide +kernel) (HE _ hX).out hX.bs hn2)
  unfold exV at c6
  try unfold exT at c6
  go_wp2_with fail
  refine c6.out.mono ?_
  clear c6 s0 s1 s2 s3 s4 o0 o1 o2 x0 x1 y0 y1 z0 z1 t0 t1 t2 t3 t4 t5
  rintro e w16 ⟨rfl, hb16⟩
  have hX := hX.next hb16
  have hO := hO.next hb16
  have hx := hx.next hb16
  have hy := hy.next hb16
  have ht := ht.next hb16
  have hn1 := hn1.next hb16
  have hn2 := hn2.next hb16
  have hn3 := hn3.next hb16
  have hz := hz.next hb16
  clear hb16
  have s0 := hX.s.cell 0
  have s1 := hX.s.cell 1
  have s2 := hX.s.cell 2
  have s3 := hX.s.cell 3
  have s4 := hX.s.cell 4
  have o0 := hO.cell 0
  have o1 := hO.cell 1
  have o2 := hO.cell 2
  have x0 := hx.cell 0
  have x1 := hx.cell 1
  have y0 := hy.cell 0
  have y1 := hy.cell 1
  have z0 := hz.cell 0
  have z1 := hz.cell 1
  have t0 := ht.cell 0
  have t1 := ht.cell 1
  have t2 := ht.cell 2
  have t3 := ht.cell 3
  have t4 := ht.cell 4
  have t5 := ht.cell 5
  have c6 := Lib.hid (ex_accepts 3 [9, 9, 4] false (by unfold isInt; decide) (ints_of (by decide)) (by decide) (by decide +kernel) (HE _ hX).out hX.bs hn1)
  unfold exV at c6
  try unfold exT at c6
  go_wp2_with fail
  refine c6.out.mono ?_
  clear c6 s0 s1 s2 s3 s4 o0 o1 o2 x0 x1 y0 y1 z0 z1 t0 t1 t2 t3 t4 t5
  rintro e w17 ⟨rfl, hb17⟩
  have hX := hX.next hb17
  have hO := hO.next hb17
  have hx := hx.next hb17
  have hy := hy.next hb17
  have ht := ht.next hb17
  have hn1 := hn1.next hb17
  have hn2 := hn2.next hb17
  have hn3 := hn3.next hb17
  have hz := hz.next hb17
  clear hb17
  have s0 := hX.s.cell 0
  have s1 := hX.s.cell 1
  have s2 := hX.s.cell 2
  have s3 := hX.s.cell 3
  have s4 := hX.s.cell 4
  have o0 := hO.cell 0
  have o1 := hO.cell 1
  have o2 := hO.cell 2
  have x0 := hx.cell 0
  have x1 := hx.cell 1
  have y0 := hy.cell 0
  have y1 := hy.cell 1
  have z0 := hz.cell 0
  have z1 := hz.cell 1
  have t0 := ht.cell 0
  have t1 := ht.cell 1
  have t2 := ht.cell 2
  have t3 := ht.cell 3
  have t4 := ht.cell 4
  have t5 := ht.cell 5
  have c6 := Lib.hid (ex_guilty (HE _ hX).out hX.bs hn1 hn2 hX.l)
  unfold exV at c6
  try unfold exT at c6
  go_wp2_with fail
  refine c6.out.mono ?_
  clear c6 s0 s1 s2 s3 s4 o0 o1 o2 x0 x1 y0 y1 z0 z1 t0 t1 t2 t3 t4 t5
  rintro e w18 ⟨rfl, hb18⟩
  have hX := hX.next hb18
  have hO := hO.next hb18
  have hx := hx.next hb18
  have hy := hy.next hb18
  have ht := ht.next hb18
  have hn1 := hn1.next hb18
  have hn2 := hn2.next hb18
  have hn3 := hn3.next hb18
  have hz := hz.next hb18
  clear hb18
  have s0 := hX.s.cell 0
  have s1 := hX.s.cell 1
  have s2 := hX.s.cell 2
  have s3 := hX.s.cell 3
  have s4 := hX.s.cell 4
  have o0 := hO.cell 0
  have o1 := hO.cell 1
  have o2 := hO.cell 2
  have x0 := hx.cell 0
  have x1 := hx.cell 1
  have y0 := hy.cell 0
  have y1 := hy.cell 1
  have z0 := hz.cell 0
  have z1 := hz.cell 1
  have t0 := ht.cell 0
  have t1 := ht.cell 1
  have t2 := ht.cell 2
  have t3 := ht.cell 3
  have t4 := ht.cell 4
  have t5 := ht.cell 5
  have c6 := Lib.hid (ex_encode (HC _ hX).out)
  unfold exT at c6
  go_wp2_with fail
  refine c6.out.mono ?_
  clear c6 s0 s1 s2 s3 s4 o0 o1 o2 x0 x1 y0 y1 z0 z1 t0 t1 t2 t3 t4 t5
  rintro e w19 ⟨rfl, hb19⟩
  have hX := hX.next hb19
  have hO := hO.next hb19
  have hx := hx.next hb19
  have hy := hy.next hb19
  have ht := ht.next hb19
  have hn1 := hn1.next hb19
  have hn2 := hn2.next hb19
  have hn3 := hn3.next hb19
  have hz := hz.next hb19
  clear hb19
  have hB := hX.below
  go_wp2
  go_ret
  exact ⟨ret_b (by kernel_rfl), hB⟩
end Go.Proofs.YtmgamngdmhnffaaGreatDoor
