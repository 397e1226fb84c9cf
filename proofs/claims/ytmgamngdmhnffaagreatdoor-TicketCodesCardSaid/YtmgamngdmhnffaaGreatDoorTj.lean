/- Use (written by tools/mktk2.py). -/
import Derived.Test.YtmgamngdmhnffaaGreatDoorTi
namespace Go.Proofs.YtmgamngdmhnffaaGreatDoor
open Go.RowKit

/-- A world in which the two cells of a block were written. -/
def set2 (w : World) (b : Nat) (v0 v1 : Value) : World := (w.setCell ⟨b, 0, none⟩ v0).setCell ⟨b, 1, none⟩ v1
theorem set2_blk {w : World} {b : Nat} {t : TypeId} {x0 x1 : Value} (h : Blk w b t #[x0, x1]) (v0 v1 : Value) : Blk (set2 w b v0 v1) b t #[v0, v1] := by
  have := (h.set_ 0 v0).set_ 1 v1
  simpa [set2] using this
theorem set2_far {w : World} {b b' : Nat} {t : TypeId} {cs : Array Value} (h : Blk w b' t cs) (hne : b' ≠ b) (v0 v1 : Value) : Blk (set2 w b v0 v1) b' t cs :=
  (h.far (p := ⟨b, 0, none⟩) hne v0).far (p := ⟨b, 1, none⟩) hne v1
theorem set2_below {a w : World} {B b : Nat} (h : Below B a w) (hb : B ≤ b) (v0 v1 : Value) : Below B a (set2 w b v0 v1) :=
  (h.setCell (p := ⟨b, 0, none⟩) hb v0).setCell (p := ⟨b, 1, none⟩) hb v1
theorem nums_far {w : World} {p : Addr} {g n c : Nat} {L : List Int} (h : IsNums (.slice (some ⟨g, 0, none⟩) n c) L w) (hp : g ≠ p.block) (u : Value) : IsNums (.slice (some ⟨g, 0, none⟩) n c) L (w.setCell p u) := by
  rcases h with h | ⟨bk, off, cap, hv, hlt, hc⟩
  · exact .inl h
  · have e := hv
    simp only [Value.slice.injEq, Option.some.injEq, Addr.mk.injEq] at e
    obtain ⟨⟨rfl, rfl, -⟩, -, rfl⟩ := e
    exact .inr ⟨_, _, _, hv, by simpa [World.setCell] using hlt, fun i x hi => (World.cell?_of_block (a := ⟨g, 0 + i, none⟩) (Below.heap_setCell w p u g hp)).trans (hc i x hi)⟩

/-- Whether a holder may use a blinding. -/
def SetD.useB (s : SetD) (l : List Int) (b : BlindD) (dare : Int) : Bool := s.valid && (s.usB l && (s.blindB b && facsB s.Q [dare]))
set_option maxRecDepth 100000 in
set_option maxHeartbeats 4000000 in
theorem Use_calls (s : SetD) (hi : s.ints) (vb : Value) (v vy : Value) (l ys : List Int) (d u vv dare : Int) (hd : isInt d) (hdi : isInt dare) (hli : ∀ x ∈ l, isInt x) (hl : l.length ≤ 100000000) (hyi : ∀ x ∈ ys, isInt x) (hyl : ys.length ≤ 100000000) (w : World) (hE : Env w) (hb0 : IsNums vb s.bs w) (hv : IsNums v l w) (hy : IsNums vy ys w) :
    Calls Tryz.prog 8 #[s.val vb, v, .agg #[.int .i64 d, .int .i64 u, .int .i64 vv, vy], .int .i64 dare] w fun e w' => ∃ o, e = .returned (.tuple #[.agg #[.int .i64 (bif s.useB l ⟨d, u, vv, ys⟩ dare then dare else 0), o], .bool (s.useB l ⟨d, u, vv, ys⟩ dare)]) ∧ IsNums o (bif s.useB l ⟨d, u, vv, ys⟩ dare then s.shiftF ys (mulG s.Q 1 [dare, d]) l else []) w' ∧ Below w.heap.size w w' := by
  obtain ⟨a, c, rfl⟩ := hv.len
  obtain ⟨a2, c2, rfl⟩ := hy.len
  obtain ⟨ab, cb, rfl⟩ := hb0.len
  obtain ⟨W0, hW0⟩ : ∃ W0, W0 = (((w.alloc (.cells (s.cells (.slice ab s.bs.length cb)) 33)).alloc (.cells #[.int .i64 d, .int .i64 u, .int .i64 vv, .slice a2 ys.length c2] 35)).alloc (.cells #[.int .i64 0, .slice none 0 0] 42)) := ⟨_, rfl⟩
  have hb : Below w.heap.size w W0 := by rw [hW0]; exact (Below.alloc_ (Below.alloc_ (below_one w _) _) _)
  have hS : SetAt s (.slice ab s.bs.length cb) w.heap.size W0 := by rw [hW0]; exact Blk.alloc' (Blk.alloc' (Blk.new w _ _) _) _
  have hY : Blk W0 (w.heap.size + 1) 35 #[.int .i64 d, .int .i64 u, .int .i64 vv, .slice a2 ys.length c2] := by rw [hW0]; exact Blk.alloc' (Blk.new' (by rw [alloc_size]) _ _) _
  have hX : Blk W0 (w.heap.size + 1 + 1) 42 #[.int .i64 0, .slice none 0 0] := by rw [hW0]; exact Blk.new' (by rw [alloc_size, alloc_size]) _ _
  have HBN := fun w' (h : Below W0.heap.size W0 w') => Lib.hid (hb0.next (hb.trans (h.mono hb.size)))
  have c1 := Lib.hid (open_calls s hi (.slice ab s.bs.length cb) W0 (hE.next hb) (hb0.next hb))
  have HK : Hid (∀ w', Below W0.heap.size W0 w' → w'.cell? ⟨w.heap.size + 1, 0, none⟩ = some (.int .i64 d) ∧ w'.cell? ⟨w.heap.size + 1, 1, none⟩ = some (.int .i64 u) ∧ w'.cell? ⟨w.heap.size + 1, 2, none⟩ = some (.int .i64 vv) ∧ w'.cell? ⟨w.heap.size + 1, 3, none⟩ = some (.slice a2 ys.length c2) ∧ w'.cell? ⟨w.heap.size + 1 + 1, 0, none⟩ = some (.int .i64 0) ∧ w'.cell? ⟨w.heap.size + 1 + 1, 1, none⟩ = some (.slice none 0 0) ∧ Below W0.heap.size W0 w') := by
    show ∀ w', _
    intro w' h
    exact ⟨(hY.next h).cell 0, (hY.next h).cell 1, (hY.next h).cell 2, (hY.next h).cell 3, (hX.next h).cell 0, (hX.next h).cell 1, h⟩
  have HS0 : Hid (W0.heap.size = w.heap.size + 1 + 1 + 1) := by show _ = _; rw [hW0, alloc_size, alloc_size, alloc_size]
  have HB := Lib.hid hb
  have HN := fun w' (h : Below W0.heap.size W0 w') => Lib.hid (hv.next (hb.trans (h.mono hb.size)))
  have HYN := fun w' (h : Below W0.heap.size W0 w') => Lib.hid (hy.next (hb.trans (h.mono hb.size)))
  have HX := Lib.hid hX
  have HYB := Lib.hid hY
  obtain ⟨A, hA⟩ : ∃ z, z = s.usB l := ⟨_, rfl⟩
  have HA := Lib.hid hA
  have HAL : Hid (s.usB l = true → (l.length : Int) = (s.bs.length : Int) - 1) := by
    show _ → _
    intro h
    unfold SetD.usB SetD.attrB at h
    simp only [Bool.and_eq_true, decide_eq_true_eq] at h
    exact h.1.1
  have HBL : Hid (s.blindB ⟨d, u, vv, ys⟩ = true → ys.length = s.bs.length) := by
    show _ → _
    intro h
    unfold SetD.blindB at h
    simp only [Bool.and_eq_true, decide_eq_true_eq] at h
    exact h.2.2.1
  have c4 := fun w' => Lib.hid (facs_calls s (.slice ab s.bs.length cb) _ [dare] (by simp) _ (nums_one w' dare))
  obtain ⟨M, hM⟩ : ∃ z, z = mulG s.Q 1 [dare, d] := ⟨_, rfl⟩
  rw [← hM]
  have hmi : isInt M := by rw [hM]; exact mulZ_int _ _ _
  have k1 : Hid (∀ (B : World) (n : Nat) (w' : World), IsNums (.slice (some ⟨n, 0, none⟩) 2 2) [dare, d] w' → Below B.heap.size B w' → Calls Tryz.prog 29 #[s.val (.slice ab s.bs.length cb), .slice (some ⟨n, 0, none⟩) 2 2] w' fun e' w'' => e' = .returned (.int .i64 M) ∧ Below B.heap.size B w'') := by
    show ∀ B n w', _
    intro B n w' hn h
    rw [hM]
    refine (gmul_calls s (.slice ab s.bs.length cb) _ [dare, d] (by
      intro x hx
      simp only [List.mem_cons, List.not_mem_nil, or_false] at hx
      rcases hx with rfl | rfl
      · exact hdi
      · exact hd) (by simp) w' hn).mono ?_
    rintro e' w'' ⟨h1, h2⟩
    exact ⟨h1, h.trans (h2.mono h.size)⟩
  obtain ⟨BB, hBB⟩ : ∃ z, z = s.blindB ⟨d, u, vv, ys⟩ := ⟨_, rfl⟩
  obtain ⟨F, hF⟩ : ∃ z, z = facsB s.Q [dare] := ⟨_, rfl⟩
  have HBBE := Lib.hid hBB
  simp only [← hF] at c4
  rw [← hA] at HAL
  rw [← hBB] at HBL
  obtain ⟨T, hT⟩ : ∃ z, z = s.useB l ⟨d, u, vv, ys⟩ dare := ⟨_, rfl⟩
  have hT' : T = (s.valid && (A && (BB && F))) := by rw [hT, hA, hBB, hF]; rfl
  rw [← hT]
  have HT := Lib.hid hT'
  clear hT hT'
  generalize hV : s.valid = V at *
  have HV := Lib.hid hV
  have h2 : V = true → 2 ≤ s.bs.length := fun e => by rw [e] at hV; exact valid_bases hV
  have h7 : V = true → s.bs.length ≤ 7 := fun e => by rw [e] at hV; exact valid_bases7 hV
  unfold SetD.val at *
  unfold SetD.cells at hW0
  obtain ⟨z0, z1, z2, z3, z4⟩ := hS.get
  obtain ⟨y0, y1, y2, y3, x0, x1, -⟩ := HK.out W0 (Below.refl _ _)
  rw [hW0] at z0 z1 z2 z3 z4 y0 y1 y2 y3 x0 x1 c1
  have HW0 := Lib.hid hW0
  clear hE hb0 hS hV hb hW0 hY hX hv hy hA hM hF hBB
  go_enter Tryz.func8, Tryz.ntmps8
  go_wp2_with fail
  refine c1.out.mono ?_
  clear c1 z0 z1 z2 z3 z4 y0 y1 y2 y3 x0 x1
  rw [← HW0.out]
  rintro e w1 ⟨rfl, hB1⟩
  have hW1 := hB1.size
  have hB2 := Below.alloc_ hB1 (.cells #[.int .i64 s.P, .int .i64 s.Q, .int .i64 s.G, .slice ab s.bs.length cb, .int .i64 s.H] 59)
  have hG : GAt s (.slice ab s.bs.length cb) w1.heap.size (w1.alloc (.cells #[.int .i64 s.P, .int .i64 s.Q, .int .i64 s.G, .slice ab s.bs.length cb, .int .i64 s.H] 59)) := Blk.new w1 _ _
  clear hB1
  cases V
  · obtain rfl : T = false := HT.out
    have hq := HX.out.next hB2
    have hW := set2_blk hq (.int .i64 0) (.slice none 0 0)
    have hBF := set2_below (HB.out.trans (hB2.mono HB.out.size)) (show w.heap.size ≤ w.heap.size + 1 + 1 by omega) (.int .i64 0) (.slice none 0 0)
    unfold set2 at hW hBF
    have q0 := hq.cell 0
    have q1 := hq.cell 1
    have qf := hq.frozen
    have f0 := hW.cell 0
    have f1 := hW.cell 1
    clear hq hW
    go_wp2
    exact bodyPost_ret (v := .tuple #[.agg #[.int .i64 0, .slice none 0 0], .bool false]) (by simp [results, Tryz.results8, go_sem, f0, f1]) rfl ⟨.slice none 0 0, rfl, .inl ⟨⟨_, _, rfl⟩, rfl⟩, hBF⟩
  · have c2' := Lib.hid (us_calls s hi (.slice ab s.bs.length cb) (.slice a l.length c) l hli hl (h2 rfl) (by have := h7 rfl; omega) _ (HBN _ hB2).out (HN _ hB2).out)
    have c3 := fun w' (h : Below W0.heap.size W0 w') => Lib.hid (bld_calls s (.slice ab s.bs.length cb) (.slice a2 ys.length c2) d u vv ys hyl w' (HBN _ h).out (HYN _ h).out)
    unfold SetD.val at c2' c3
    obtain ⟨z0, z1, z2, z3, z4⟩ := hG.get
    rw [← HA.out] at c2'
    rw [← HBBE.out] at c3
    go_wp2_with fail
    generalize (w1.alloc (.cells #[.int .i64 s.P, .int .i64 s.Q, .int .i64 s.G, .slice ab s.bs.length cb, .int .i64 s.H] 59)) = W2 at *
    have hG2 : GAt s (.slice ab s.bs.length cb) w1.heap.size W2 := hG
    refine c2'.out.mono ?_
    clear c2' z0 z1 z2 z3 z4 hG
    rintro e w2 ⟨rfl, hb2⟩
    have hB3 := hB2.trans (hb2.mono hB2.size)
    have hG3 := hG2.next hb2
    clear hb2 hG2 hB2
    cases A
    · obtain rfl : T = false := HT.out
      have hq := HX.out.next hB3
      have hW := set2_blk hq (.int .i64 0) (.slice none 0 0)
      have hBF := set2_below (HB.out.trans (hB3.mono HB.out.size)) (show w.heap.size ≤ w.heap.size + 1 + 1 by omega) (.int .i64 0) (.slice none 0 0)
      unfold set2 at hW hBF
      have q0 := hq.cell 0
      have q1 := hq.cell 1
      have qf := hq.frozen
      have f0 := hW.cell 0
      have f1 := hW.cell 1
      clear hq hW
      go_wp2
      exact bodyPost_ret (v := .tuple #[.agg #[.int .i64 0, .slice none 0 0], .bool false]) (by simp [results, Tryz.results8, go_sem, f0, f1]) rfl ⟨.slice none 0 0, rfl, .inl ⟨⟨_, _, rfl⟩, rfl⟩, hBF⟩
    · obtain ⟨z0, z1, z2, z3, z4⟩ := hG3.get
      obtain ⟨y0, y1, y2, y3, x0, x1, -⟩ := HK.out _ hB3
      have c3 := c3 w2 hB3
      go_wp2_with fail
      refine c3.out.mono ?_
      clear c3 z0 z1 z2 z3 z4 y0 y1 y2 y3 x0 x1
      rintro e w3 ⟨rfl, hb3⟩
      have hB4 := hB3.trans (hb3.mono hB3.size)
      have hG4 := hG3.next hb3
      clear hb3 hB3 hG3
      cases BB
      · obtain rfl : T = false := HT.out
        have hq := HX.out.next hB4
        have hW := set2_blk hq (.int .i64 0) (.slice none 0 0)
        have hBF := set2_below (HB.out.trans (hB4.mono HB.out.size)) (show w.heap.size ≤ w.heap.size + 1 + 1 by omega) (.int .i64 0) (.slice none 0 0)
        unfold set2 at hW hBF
        have q0 := hq.cell 0
        have q1 := hq.cell 1
        have qf := hq.frozen
        have f0 := hW.cell 0
        have f1 := hW.cell 1
        clear hq hW
        go_wp2
        exact bodyPost_ret (v := .tuple #[.agg #[.int .i64 0, .slice none 0 0], .bool false]) (by simp [results, Tryz.results8, go_sem, f0, f1]) rfl ⟨.slice none 0 0, rfl, .inl ⟨⟨_, _, rfl⟩, rfl⟩, hBF⟩
      · obtain ⟨z0, z1, z2, z3, z4⟩ := hG4.get
        have c4 := c4 w3
        go_wp2_with fail
        refine c4.out.mono ?_
        clear c4 z0 z1 z2 z3 z4
        rintro e w4 ⟨rfl, hb4⟩
        have hB4' := Below.alloc_ hB4 (.cells #[.int .i64 dare] 3)
        have hB5 := hB4'.trans (hb4.mono hB4'.size)
        have hG5 := (hG4.next (below_one _ (.cells #[.int .i64 dare] 3))).next hb4
        clear hb4 hB4 hG4 hB4'
        cases F
        · obtain rfl : T = false := HT.out
          have hq := HX.out.next hB5
          have hW := set2_blk hq (.int .i64 0) (.slice none 0 0)
          have hBF := set2_below (HB.out.trans (hB5.mono HB.out.size)) (show w.heap.size ≤ w.heap.size + 1 + 1 by omega) (.int .i64 0) (.slice none 0 0)
          unfold set2 at hW hBF
          have q0 := hq.cell 0
          have q1 := hq.cell 1
          have qf := hq.frozen
          have f0 := hW.cell 0
          have f1 := hW.cell 1
          clear hq hW
          go_wp2
          exact bodyPost_ret (v := .tuple #[.agg #[.int .i64 0, .slice none 0 0], .bool false]) (by simp [results, Tryz.results8, go_sem, f0, f1]) rfl ⟨.slice none 0 0, rfl, .inl ⟨⟨_, _, rfl⟩, rfl⟩, hBF⟩
        · obtain rfl : T = true := HT.out
          have hyl2 : ys.length = l.length + 1 := by have h1 := HAL.out (by simp); have h3 := HBL.out (by simp); have := h2 (by simp); omega
          have k2 : Hid (∀ w', Below w4.heap.size w4 w' → Calls Tryz.prog 28 #[.agg #[.int .i64 s.P, .int .i64 s.Q, .int .i64 s.G, .slice ab s.bs.length cb, .int .i64 s.H], .slice a2 ys.length c2, .int .i64 M, .slice a l.length c] w' fun e' w'' => ∃ g, e' = .returned (.slice (some ⟨g, 0, none⟩) ys.length ys.length) ∧ w4.heap.size ≤ g ∧ IsNums (.slice (some ⟨g, 0, none⟩) ys.length ys.length) (s.shiftF ys M l) w'' ∧ Below w4.heap.size w4 w'') := by
            show ∀ w', _
            intro w' h
            have hb0' := hB5.trans (h.mono hB5.size)
            refine (shift_calls s (.slice ab s.bs.length cb) (.slice a2 ys.length c2) (.slice a l.length c) ys l M hmi hyi hli hl hyl2 w' (HYN _ hb0').out (HN _ hb0').out).mono ?_
            rintro e' w'' ⟨g, h1, h2, h3, h4⟩
            exact ⟨g, h1, Nat.le_trans h.size h2, h3, h.trans (h4.mono h.size)⟩
          have HB6 := Lib.hid (HB.out.trans (hB5.mono HB.out.size))
          have hne : w.heap.size + 1 + 1 < w1.heap.size := by have h1 := HS0.out; have h2 := hW1; omega
          have hY6 := HYB.out.next hB5
          have HG : Hid (∀ w', Below w4.heap.size w4 w' → w'.cell? ⟨w1.heap.size, 0, none⟩ = some (.int .i64 s.P) ∧ w'.cell? ⟨w1.heap.size, 1, none⟩ = some (.int .i64 s.Q) ∧ w'.cell? ⟨w1.heap.size, 2, none⟩ = some (.int .i64 s.G) ∧ w'.cell? ⟨w1.heap.size, 3, none⟩ = some (.slice ab s.bs.length cb) ∧ w'.cell? ⟨w1.heap.size, 4, none⟩ = some (.int .i64 s.H) ∧ w'.cell? ⟨w.heap.size + 1, 0, none⟩ = some (.int .i64 d) ∧ w'.cell? ⟨w.heap.size + 1, 1, none⟩ = some (.int .i64 u) ∧ w'.cell? ⟨w.heap.size + 1, 2, none⟩ = some (.int .i64 vv) ∧ w'.cell? ⟨w.heap.size + 1, 3, none⟩ = some (.slice a2 ys.length c2) ∧ Below w.heap.size w w') := by
            show ∀ w', _
            intro w' h
            obtain ⟨z0, z1, z2, z3, z4⟩ := (hG5.next h).get
            exact ⟨z0, z1, z2, z3, z4, (hY6.next h).cell 0, (hY6.next h).cell 1, (hY6.next h).cell 2, (hY6.next h).cell 3, HB6.out.trans (h.mono HB6.out.size)⟩
          have HG2 : Hid (∀ w' v0 v1, Below w4.heap.size w4 w' → (set2 w' (w.heap.size + 1 + 1) v0 v1).cell? ⟨w1.heap.size, 0, none⟩ = some (.int .i64 s.P) ∧ (set2 w' (w.heap.size + 1 + 1) v0 v1).cell? ⟨w1.heap.size, 1, none⟩ = some (.int .i64 s.Q) ∧ (set2 w' (w.heap.size + 1 + 1) v0 v1).cell? ⟨w1.heap.size, 2, none⟩ = some (.int .i64 s.G) ∧ (set2 w' (w.heap.size + 1 + 1) v0 v1).cell? ⟨w1.heap.size, 3, none⟩ = some (.slice ab s.bs.length cb) ∧ (set2 w' (w.heap.size + 1 + 1) v0 v1).cell? ⟨w1.heap.size, 4, none⟩ = some (.int .i64 s.H) ∧ (set2 w' (w.heap.size + 1 + 1) v0 v1).cell? ⟨w.heap.size + 1, 0, none⟩ = some (.int .i64 d) ∧ (set2 w' (w.heap.size + 1 + 1) v0 v1).cell? ⟨w.heap.size + 1, 1, none⟩ = some (.int .i64 u) ∧ (set2 w' (w.heap.size + 1 + 1) v0 v1).cell? ⟨w.heap.size + 1, 2, none⟩ = some (.int .i64 vv) ∧ (set2 w' (w.heap.size + 1 + 1) v0 v1).cell? ⟨w.heap.size + 1, 3, none⟩ = some (.slice a2 ys.length c2) ∧ Below w.heap.size w (set2 w' (w.heap.size + 1 + 1) v0 v1)) := by
            show ∀ w' v0 v1, _
            intro w' v0 v1 h
            have hB : GAt s (.slice ab s.bs.length cb) w1.heap.size (set2 w' (w.heap.size + 1 + 1) v0 v1) := set2_far (hG5.next h) (by omega) _ _
            have hY' := set2_far (b := w.heap.size + 1 + 1) (hY6.next h) (by omega) v0 v1
            obtain ⟨z0, z1, z2, z3, z4⟩ := hB.get
            exact ⟨z0, z1, z2, z3, z4, hY'.cell 0, hY'.cell 1, hY'.cell 2, hY'.cell 3, set2_below (HB6.out.trans (h.mono HB6.out.size)) (by omega) _ _⟩
          have HX6 := Lib.hid (HX.out.next hB5)
          have HSZ : Hid (w.heap.size + 1 + 1 < w4.heap.size) := by show _ < _; exact HX6.out.lt
          obtain ⟨z0, z1, z2, z3, z4⟩ := hG5.get
          have y0 := hY6.cell 0
          have y1 := hY6.cell 1
          have y2 := hY6.cell 2
          have y3 := hY6.cell 3
          clear hG5 hY6 hyl2
          go_wp2
          go_region_held3 (fun w' => w'.cell? ⟨w1.heap.size, 0, none⟩ = some (.int .i64 s.P) ∧ w'.cell? ⟨w1.heap.size, 1, none⟩ = some (.int .i64 s.Q) ∧ w'.cell? ⟨w1.heap.size, 2, none⟩ = some (.int .i64 s.G) ∧ w'.cell? ⟨w1.heap.size, 3, none⟩ = some (.slice ab s.bs.length cb) ∧ w'.cell? ⟨w1.heap.size, 4, none⟩ = some (.int .i64 s.H) ∧ w'.cell? ⟨w.heap.size + 1, 0, none⟩ = some (.int .i64 d) ∧ w'.cell? ⟨w.heap.size + 1, 1, none⟩ = some (.int .i64 u) ∧ w'.cell? ⟨w.heap.size + 1, 2, none⟩ = some (.int .i64 vv) ∧ w'.cell? ⟨w.heap.size + 1, 3, none⟩ = some (.slice a2 ys.length c2) ∧ Below w.heap.size w w')
            (first | (refine HG.out _ ?_; (first | assumption | exact Below.alloc_ (below_drewN (Below.refl _ _) _) _ | exact Below.alloc_ (by assumption) _ | exact below_drewN (Below.refl _ _) _ | exact Below.refl _ _)) | exact HG2.out _ _ _ (by assumption))
            (first
              | (go_at_call 29; refine Calls.mono (k1.out w4 _ _ (by first | exact nums_two (w4.drewN _) _ _ | exact nums_two w4 _ _) (by first | assumption | exact Below.alloc_ (below_drewN (Below.refl _ _) _) _)) ?_; rintro e5 w5 ⟨rfl, hb5⟩)
              | (go_at_call 28; refine Calls.mono (k2.out _ (by assumption)) ?_; rintro e6 wl ⟨gg, rfl, hgg, hnn, hbl⟩; have hq := HX6.out.next hbl; have q0 := hq.cell 0; have q1 := hq.cell 1; have qf := hq.frozen))
          all_goals
            have hW := set2_blk hq (.int .i64 dare) (.slice (some ⟨gg, 0, none⟩) ys.length ys.length)
            have hBF := set2_below (HB6.out.trans (hbl.mono HB6.out.size)) (show w.heap.size ≤ w.heap.size + 1 + 1 by omega) (.int .i64 dare) (.slice (some ⟨gg, 0, none⟩) ys.length ys.length)
            have hne2 : gg ≠ w.heap.size + 1 + 1 := by have := HSZ.out; omega
            have hNF := nums_far (p := ⟨w.heap.size + 1 + 1, 1, none⟩) (nums_far (p := ⟨w.heap.size + 1 + 1, 0, none⟩) hnn hne2 (.int .i64 dare)) hne2 (.slice (some ⟨gg, 0, none⟩) ys.length ys.length)
            unfold set2 at hW hBF
            have f0 := hW.cell 0
            have f1 := hW.cell 1
            have HNF := Lib.hid hNF
            clear hq hW hnn hNF hne2 hgg hne
            go_wp2
            exact bodyPost_ret (v := .tuple #[.agg #[.int .i64 dare, .slice (some ⟨gg, 0, none⟩) ys.length ys.length], .bool true]) (by simp [results, Tryz.results8, go_sem, f0, f1]) rfl ⟨.slice (some ⟨gg, 0, none⟩) ys.length ys.length, rfl, HNF.out, hBF⟩

end Go.Proofs.YtmgamngdmhnffaaGreatDoor
