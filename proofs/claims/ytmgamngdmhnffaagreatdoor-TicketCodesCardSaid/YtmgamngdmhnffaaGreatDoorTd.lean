/- Accepts, Grant (written by tools/mktk2.py). -/
import Derived.Test.YtmgamngdmhnffaaGreatDoorTc
namespace Go.Proofs.YtmgamngdmhnffaaGreatDoor
open Go.RowKit

set_option maxRecDepth 100000 in
set_option maxHeartbeats 2000000 in
theorem Accepts_calls (s : SetD) (hi : s.ints) (vb : Value) (va : Value) (t : TktD) (ht : t.ints) (d : Int) (an : List Int) (hd : isInt d) (hai : ∀ x ∈ an, isInt x) (hal : an.length ≤ 100000000) (w : World) (hE : Env w) (hb0 : IsNums vb s.bs w) (hv : IsNums va an w) :
    Calls Tryz.prog 15 #[s.val vb, t.val, .agg #[.int .i64 d, va]] w fun e w' => e = .returned (.bool (s.valid && s.accB t ⟨d, an⟩)) ∧ Below w.heap.size w w' := by
  obtain ⟨a, c, rfl⟩ := hv.len
  obtain ⟨ab, cb, rfl⟩ := hb0.len
  obtain ⟨W0, hW0⟩ : ∃ W0, W0 = (((w.alloc (.cells (s.cells (.slice ab s.bs.length cb)) 33)).alloc (.cells #[.int .i64 t.mark, .int .i64 t.first, .int .i64 t.z, .int .i64 t.a, .int .i64 t.b, .int .i64 t.r] 23)).alloc (.cells #[.int .i64 d, .slice a an.length c] 42)) := ⟨_, rfl⟩
  have hb : Below w.heap.size w W0 := by rw [hW0]; exact (Below.alloc_ (Below.alloc_ (below_one w _) _) _)
  have hS : SetAt s (.slice ab s.bs.length cb) w.heap.size W0 := by rw [hW0]; exact Blk.alloc' (Blk.alloc' (Blk.new w _ _) _) _
  have hY : Blk W0 (w.heap.size + 1) 23 #[.int .i64 t.mark, .int .i64 t.first, .int .i64 t.z, .int .i64 t.a, .int .i64 t.b, .int .i64 t.r] := by rw [hW0]; exact Blk.alloc' (Blk.new' (by rw [alloc_size]) _ _) _
  have hX : Blk W0 (w.heap.size + 1 + 1) 42 #[.int .i64 d, .slice a an.length c] := by rw [hW0]; exact Blk.new' (by rw [alloc_size, alloc_size]) _ _
  have HBN := fun w' (h : Below W0.heap.size W0 w') => Lib.hid (hb0.next (hb.trans (h.mono hb.size)))
  have c1 := Lib.hid (open_calls s hi (.slice ab s.bs.length cb) W0 (hE.next hb) (hb0.next hb))
  have HK : Hid (∀ w', Below W0.heap.size W0 w' → w'.cell? ⟨w.heap.size + 1, 0, none⟩ = some (.int .i64 t.mark) ∧ w'.cell? ⟨w.heap.size + 1, 1, none⟩ = some (.int .i64 t.first) ∧ w'.cell? ⟨w.heap.size + 1, 2, none⟩ = some (.int .i64 t.z) ∧ w'.cell? ⟨w.heap.size + 1, 3, none⟩ = some (.int .i64 t.a) ∧ w'.cell? ⟨w.heap.size + 1, 4, none⟩ = some (.int .i64 t.b) ∧ w'.cell? ⟨w.heap.size + 1, 5, none⟩ = some (.int .i64 t.r) ∧ w'.cell? ⟨w.heap.size + 1 + 1, 0, none⟩ = some (.int .i64 d) ∧ w'.cell? ⟨w.heap.size + 1 + 1, 1, none⟩ = some (.slice a an.length c) ∧ Below W0.heap.size W0 w') := by
    show ∀ w', _
    intro w' h
    exact ⟨(hY.next h).cell 0, (hY.next h).cell 1, (hY.next h).cell 2, (hY.next h).cell 3, (hY.next h).cell 4, (hY.next h).cell 5, (hX.next h).cell 0, (hX.next h).cell 1, h⟩
  have HS0 : Hid (W0.heap.size = w.heap.size + 1 + 1 + 1) := by show _ = _; rw [hW0, alloc_size, alloc_size, alloc_size]
  have HB := Lib.hid hb
  have HN := fun w' (h : Below W0.heap.size W0 w') => Lib.hid (hv.next (hb.trans (h.mono hb.size)))
  have HF : Hid (∀ b, s.accB t ⟨d, an⟩ = b → b = s.accB t ⟨d, an⟩) := by show ∀ b, _; rintro b rfl; rfl
  obtain ⟨A, hA⟩ : ∃ A, A = s.accB t ⟨d, an⟩ := ⟨_, rfl⟩
  rw [← hA]
  have HA := Lib.hid hA
  unfold TktD.val
  generalize hV : s.valid = V at *
  have HV := Lib.hid hV
  have h2 : V = true → 2 ≤ s.bs.length := fun e => by rw [e] at hV; exact valid_bases hV
  have h7 : V = true → s.bs.length ≤ 7 := fun e => by rw [e] at hV; exact valid_bases7 hV
  unfold SetD.val at *
  unfold SetD.cells at hW0
  obtain ⟨z0, z1, z2, z3, z4⟩ := hS.get
  obtain ⟨y0, y1, y2, y3, y4, y5, x0, x1, -⟩ := HK.out W0 (Below.refl _ _)
  rw [hW0] at z0 z1 z2 z3 z4 y0 y1 y2 y3 y4 y5 x0 x1 c1
  have HW0 := Lib.hid hW0
  clear hE hb0 hS hV hb hW0 hY hX hv hA
  go_enter Tryz.func15, Tryz.ntmps15
  go_wp2_with fail
  refine c1.out.mono ?_
  clear c1 z0 z1 z2 z3 z4 y0 y1 y2 y3 y4 y5 x0 x1
  rw [← HW0.out]
  rintro e w1 ⟨rfl, hB1⟩
  have hW1 := hB1.size
  have hB2 := Below.alloc_ hB1 (.cells #[.int .i64 s.P, .int .i64 s.Q, .int .i64 s.G, .slice ab s.bs.length cb, .int .i64 s.H] 59)
  have hG : GAt s (.slice ab s.bs.length cb) w1.heap.size (w1.alloc (.cells #[.int .i64 s.P, .int .i64 s.Q, .int .i64 s.G, .slice ab s.bs.length cb, .int .i64 s.H] 59)) := Blk.new w1 _ _
  clear hB1
  cases V
  · go_wp2
    go_ret
    exact ⟨rfl, HB.out.trans (hB2.mono HB.out.size)⟩
  · have c2 := Lib.hid (acc_calls s hi (.slice ab s.bs.length cb) (.slice a an.length c) t ht d an hd hai hal (by have := h7 rfl; omega) _ (HBN _ hB2).out (HN _ hB2).out)
    unfold SetD.val TktD.val at c2
    obtain ⟨z0, z1, z2, z3, z4⟩ := hG.get
    obtain ⟨y0, y1, y2, y3, y4, y5, x0, x1, -⟩ := HK.out _ hB2
    rw [← HA.out] at c2
    clear hG
    go_wp2_with fail
    refine c2.out.mono ?_
    clear c2
    rintro e w2 ⟨rfl, hb2⟩
    have hB3 := hB2.trans (hb2.mono hB2.size)
    clear hb2 hB2
    go_wp2
    go_ret
    exact ⟨rfl, HB.out.trans (hB3.mono HB.out.size)⟩

set_option maxRecDepth 100000 in
set_option maxHeartbeats 2000000 in
theorem Grant_calls (s : SetD) (hi : s.ints) (vb : Value) (x u c : Int) (hx : isInt x) (hu : isInt u) (hc : isInt c) (w : World) (hE : Env w) (hb0 : IsNums vb s.bs w) :
    Calls Tryz.prog 14 #[s.val vb, .int .i64 x, .int .i64 u, .int .i64 c] w fun e w' => e = .returned (.int .i64 (if (s.valid && (facsB s.Q [x] && [u, c].all (exB s.Q))) = true then addZ s.Q (mulG s.Q 1 [c, x]) u else 0)) ∧ Below w.heap.size w w' := by
  obtain ⟨ab, cb, rfl⟩ := hb0.len
  obtain ⟨W0, hW0⟩ : ∃ W0, W0 = (w.alloc (.cells (s.cells (.slice ab s.bs.length cb)) 33)) := ⟨_, rfl⟩
  have hb : Below w.heap.size w W0 := by rw [hW0]; exact (below_one w _)
  have hS : SetAt s (.slice ab s.bs.length cb) w.heap.size W0 := by rw [hW0]; exact Blk.new w _ _
  have HBN := fun w' (h : Below W0.heap.size W0 w') => Lib.hid (hb0.next (hb.trans (h.mono hb.size)))
  have c1 := Lib.hid (open_calls s hi (.slice ab s.bs.length cb) W0 (hE.next hb) (hb0.next hb))
  have HK : Hid (∀ w', Below W0.heap.size W0 w' → Below W0.heap.size W0 w') := by
    show ∀ w', _
    intro w' h
    exact h
  have HS0 : Hid (W0.heap.size = w.heap.size + 1) := by show _ = _; rw [hW0, alloc_size]
  have HB := Lib.hid hb
  obtain ⟨A, hA⟩ : ∃ A, A = facsB s.Q [x] := ⟨_, rfl⟩
  obtain ⟨N, hN⟩ : ∃ N, N = [u, c].all (exB s.Q) := ⟨_, rfl⟩
  obtain ⟨M, hM⟩ : ∃ M, M = mulG s.Q 1 [c, x] := ⟨_, rfl⟩
  obtain ⟨R, hR⟩ : ∃ R, R = addZ s.Q M u := ⟨_, rfl⟩
  have hmi : isInt M := by rw [hM]; exact mulZ_int _ _ _
  have HR := Lib.hid (show addZ s.Q (mulG s.Q 1 [c, x]) u = R from by rw [hR, hM])
  rw [HR.out]
  rw [← hA, ← hN]
  have c2 := fun w' => Lib.hid (facs_calls s (.slice ab s.bs.length cb) _ [x] (by simp) _ (nums_one w' x))
  have c3 := fun w' => Lib.hid (nums_calls s (.slice ab s.bs.length cb) _ [u, c] (by simp) _ (nums_two w' u c))
  have k1 : Hid (∀ (B : World) (g : Nat) (w' : World), IsNums (.slice (some ⟨g, 0, none⟩) 2 2) [c, x] w' → Below B.heap.size B w' → Calls Tryz.prog 29 #[s.val (.slice ab s.bs.length cb), .slice (some ⟨g, 0, none⟩) 2 2] w' fun e w'' => e = .returned (.int .i64 M) ∧ Below B.heap.size B w'') := by
    show ∀ B g w', _
    intro B g w' hn h
    rw [hM]
    refine (gmul_calls s (.slice ab s.bs.length cb) _ [c, x] (by
      intro y hy
      simp only [List.mem_cons, List.not_mem_nil, or_false] at hy
      rcases hy with rfl | rfl
      · exact hc
      · exact hx) (by simp) w' hn).mono ?_
    rintro e w'' ⟨h1, h2⟩
    exact ⟨h1, h.trans (h2.mono h.size)⟩
  have k2 : Hid (∀ (B : World) w', Below B.heap.size B w' → Calls Tryz.prog 34 #[.int .i64 s.Q, .int .i64 M, .int .i64 u] w' fun e w'' => e = .returned (.int .i64 R) ∧ Below B.heap.size B w'') := by
    show ∀ B w', _
    intro B w' h
    rw [hR]
    refine (add_calls s.Q M u hmi hu w').mono ?_
    rintro e w'' ⟨h1, h2⟩
    obtain rfl := h2
    exact ⟨h1, h⟩
  simp only [← hA] at c2
  simp only [← hN] at c3
  generalize hV : s.valid = V at *
  have HV := Lib.hid hV
  have h2 : V = true → 2 ≤ s.bs.length := fun e => by rw [e] at hV; exact valid_bases hV
  have h7 : V = true → s.bs.length ≤ 7 := fun e => by rw [e] at hV; exact valid_bases7 hV
  unfold SetD.val at *
  unfold SetD.cells at hW0
  obtain ⟨z0, z1, z2, z3, z4⟩ := hS.get
  rw [hW0] at z0 z1 z2 z3 z4  c1
  have HW0 := Lib.hid hW0
  clear hE hb0 hS hV hb hW0  hA hN hM hR
  go_enter Tryz.func14, Tryz.ntmps14
  go_wp2_with fail
  refine c1.out.mono ?_
  clear c1 z0 z1 z2 z3 z4 
  rw [← HW0.out]
  rintro e w1 ⟨rfl, hB1⟩
  have hW1 := hB1.size
  have hB2 := Below.alloc_ hB1 (.cells #[.int .i64 s.P, .int .i64 s.Q, .int .i64 s.G, .slice ab s.bs.length cb, .int .i64 s.H] 59)
  have hG : GAt s (.slice ab s.bs.length cb) w1.heap.size (w1.alloc (.cells #[.int .i64 s.P, .int .i64 s.Q, .int .i64 s.G, .slice ab s.bs.length cb, .int .i64 s.H] 59)) := Blk.new w1 _ _
  clear hB1
  cases V
  · go_wp2
    go_ret
    exact ⟨rfl, HB.out.trans (hB2.mono HB.out.size)⟩
  · obtain ⟨z0, z1, z2, z3, z4⟩ := hG.get
    have c2 := c2 (w1.alloc (.cells #[.int .i64 s.P, .int .i64 s.Q, .int .i64 s.G, .slice ab s.bs.length cb, .int .i64 s.H] 59))
    rw [alloc_size w1 (.cells #[.int .i64 s.P, .int .i64 s.Q, .int .i64 s.G, .slice ab s.bs.length cb, .int .i64 s.H] 59)] at c2
    go_wp2_with fail
    generalize (w1.alloc (.cells #[.int .i64 s.P, .int .i64 s.Q, .int .i64 s.G, .slice ab s.bs.length cb, .int .i64 s.H] 59)) = W2 at *
    have hG2 : GAt s (.slice ab s.bs.length cb) w1.heap.size W2 := hG
    refine c2.out.mono ?_
    clear c2 z0 z1 z2 z3 z4 hG
    rintro e w2 ⟨rfl, hb2⟩
    have hB2' := Below.alloc_ hB2 (.cells #[.int .i64 x] 3)
    have hB3 := hB2'.trans (hb2.mono hB2'.size)
    have hG3 := (hG2.next (below_one _ (.cells #[.int .i64 x] 3))).next hb2
    clear hb2 hB2 hG2 hB2'
    cases A
    · go_wp2
      go_ret
      exact ⟨rfl, HB.out.trans (hB3.mono HB.out.size)⟩
    · obtain ⟨z0, z1, z2, z3, z4⟩ := hG3.get
      have c3 := c3 w2
      go_wp2_with fail
      refine c3.out.mono ?_
      clear c3 z0 z1 z2 z3 z4
      rintro e w3 ⟨rfl, hb3⟩
      have hB3' := Below.alloc_ hB3 (.cells #[.int .i64 u, .int .i64 c] 3)
      have hB4 := hB3'.trans (hb3.mono hB3'.size)
      have hG4 := (hG3.next (below_one _ (.cells #[.int .i64 u, .int .i64 c] 3))).next hb3
      clear hb3 hB3 hG3 hB3'
      cases N
      · go_wp2
        go_ret
        exact ⟨rfl, HB.out.trans (hB4.mono HB.out.size)⟩
      · obtain ⟨z0, z1, z2, z3, z4⟩ := hG4.get
        have HG : Hid (∀ w', Below w3.heap.size w3 w' → w'.cell? ⟨w1.heap.size, 0, none⟩ = some (.int .i64 s.P) ∧ w'.cell? ⟨w1.heap.size, 1, none⟩ = some (.int .i64 s.Q) ∧ w'.cell? ⟨w1.heap.size, 2, none⟩ = some (.int .i64 s.G) ∧ w'.cell? ⟨w1.heap.size, 3, none⟩ = some (.slice ab s.bs.length cb) ∧ w'.cell? ⟨w1.heap.size, 4, none⟩ = some (.int .i64 s.H) ∧ Below w3.heap.size w3 w') := by
          show ∀ w', _
          intro w' h
          obtain ⟨z0, z1, z2, z3, z4⟩ := (hG4.next h).get
          exact ⟨z0, z1, z2, z3, z4, h⟩
        go_wp2
        go_region_held3 (fun w' => w'.cell? ⟨w1.heap.size, 0, none⟩ = some (.int .i64 s.P) ∧ w'.cell? ⟨w1.heap.size, 1, none⟩ = some (.int .i64 s.Q) ∧ w'.cell? ⟨w1.heap.size, 2, none⟩ = some (.int .i64 s.G) ∧ w'.cell? ⟨w1.heap.size, 3, none⟩ = some (.slice ab s.bs.length cb) ∧ w'.cell? ⟨w1.heap.size, 4, none⟩ = some (.int .i64 s.H) ∧ Below w3.heap.size w3 w')
          ((refine HG.out _ ?_; (first | assumption | exact Below.alloc_ (by assumption) _ | exact below_drewN (Below.refl _ _) _ | exact Below.alloc_ (below_drewN (Below.refl _ _) _) _ | exact Below.refl _ _)))
          (first
            | (go_at_call 29; refine Calls.mono (k1.out w3 _ _ (by first | exact nums_two (w3.drewN _) _ _ | exact nums_two w3 _ _) (by first | assumption | exact Below.alloc_ (below_drewN (Below.refl _ _) _) _)) ?_; rintro e w5 ⟨rfl, hb5⟩)
            | (go_at_call 34; refine Calls.mono (k2.out w3 _ (by first | assumption)) ?_; rintro e w6 ⟨rfl, hb6⟩))
        all_goals
          go_wp2
          go_ret
          exact ⟨rfl, HB.out.trans ((hB4.trans (hb6.mono hB4.size)).mono HB.out.size)⟩

end Go.Proofs.YtmgamngdmhnffaaGreatDoor
