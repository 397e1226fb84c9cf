/- Rows of numbers that are filled one after the other; shift. -/
import Derived.Test.YtmgamngdmhnffaaGreatDoorTe
namespace Go.Proofs.YtmgamngdmhnffaaGreatDoor
open Go.RowKit

theorem VRow.made1 (w : World) (a : Value) (n : Nat) (e : TypeId) : VRow w.heap.size n (fun _ => a) (w.alloc (.cells (madeCells #[a] n) e)) := by
  have hB := Blk.new w e (madeCells #[a] n)
  refine ⟨by simp, fun j hj => ?_, fun j => hB.frozen j⟩
  rw [hB.cell j]
  simp [madeCells, hj, Nat.mod_one]
/-- A row of which the first k cells are filled. -/
structure Fill (W : World) (g n k : Nat) (L : List Int) (w : World) : Prop where
  gr : W.grownBy w (some g)
  row : ∃ f, VRow g n f w ∧ ∀ j x, j < k → L[j]? = some x → f j = .int .i64 x
theorem Fill.next {W w w' : World} {g n k : Nat} {L : List Int} (h : Fill W g n k L w) (hb : Below w.heap.size w w') : Fill W g n k L w' :=
  ⟨Cod.only_below h.gr hb, by obtain ⟨f, h1, h2⟩ := h.row; exact ⟨f, h1.next hb, h2⟩⟩
theorem Fill.step {W w : World} {g n k : Nat} {L : List Int} {x : Int} (h : Fill W g n k L w) (hk : k < n) (hx : L[k]? = some x) : Fill W g n (k + 1) L (w.setCell ⟨g, k, none⟩ (.int .i64 x)) := by
  obtain ⟨f, h1, h2⟩ := h.row
  refine ⟨Cod.only_setCell h.gr (.inl rfl) _, _, h1.set k hk _, fun j y hj hy => ?_⟩
  by_cases e : j = k
  · subst e
    rw [hx] at hy
    obtain rfl := Option.some.inj hy
    rw [if_pos rfl]
  · rw [if_neg e]; exact h2 j y (by omega) hy
theorem Fill.nums {W w : World} {g : Nat} {L : List Int} (h : Fill W g L.length L.length L w) : IsNums (.slice (some ⟨g, 0, none⟩) L.length L.length) L w := by
  obtain ⟨f, h1, h2⟩ := h.row
  refine .inr ⟨g, 0, L.length, rfl, h1.lt, fun i x hi => ?_⟩
  have hlt : i < L.length := (List.getElem?_eq_some_iff.1 hi).1
  have := h1.at' i hlt
  rw [h2 i x hlt hi] at this
  simpa using this
theorem Fill.cell {W w : World} {g n k : Nat} {L : List Int} (h : Fill W g n k L w) {j : Nat} (hj : j < n) : (∃ v, w.cell? ⟨g, j, none⟩ = some v) ∧ w.frozen? ⟨g, j, none⟩ = false := by
  obtain ⟨f, h1, h2⟩ := h.row
  exact ⟨⟨_, h1.at' j hj⟩, h1.fz j⟩
theorem Fill.below {a W w : World} {g n k : Nat} {L : List Int} (h : Fill W g n k L w) (hb : Below a.heap.size a W) (hg : a.heap.size ≤ g) : Below a.heap.size a w :=
  ⟨h.gr.os.trans hb.os, h.gr.tape.trans hb.tape, h.gr.output.trans hb.output, Nat.le_trans hb.size h.gr.size, fun i hi => (h.gr.block i (Nat.lt_of_lt_of_le hi hb.size) (by simp; omega)).trans (hb.block i hi)⟩
theorem Fill.blk {W w : World} {g n k b : Nat} {L : List Int} {t : TypeId} {cs : Array Value} (h : Fill W g n k L w) (hB : Blk W b t cs) (hne : b ≠ g) : Blk w b t cs := by
  have := h.gr.block b hB.lt (by simp; omega)
  exact this.trans hB
theorem Fill.same {W w : World} {g n k : Nat} {L : List Int} (h : Fill W g n k L w) {b o : Nat} {v : Value} (hb : b < W.heap.size) (hne : b ≠ g) (hc : W.cell? ⟨b, o, none⟩ = some v) : w.cell? ⟨b, o, none⟩ = some v :=
  (World.cell?_of_block (a := ⟨b, o, none⟩) (h.gr.block b hb (by simp; omega))).trans hc

theorem exps_own (v : Value) (l : List Int) (hl : l.length ≤ 100000000) (w : World) (hv : IsNums v l w) :
    Calls Tryz.prog 42 #[v] w fun e w' => ∃ b o c, e = .returned (.slice (some ⟨b, o, none⟩) (l.length + 1) c) ∧ w.heap.size ≤ b ∧ b < w'.heap.size ∧ (∀ i x, (1 :: l)[i]? = some x → w'.cell? ⟨b, o + i, none⟩ = some (.int .i64 x)) ∧ Below w.heap.size w w' := by
  have hO := own_one w 1
  have hb := below_one w (.cells #[.int .i64 1] 3)
  have HN := Lib.hid (hv.next hb)
  obtain ⟨av, cv, rfl⟩ := hv.len
  have HO := Lib.hid hO
  have HB := Lib.hid hb
  clear hO hb hv
  go_enter Tryz.func42, Tryz.ntmps42
  go_wp2_with (at_builtin; refine wpList_ints rfl _ _ rfl rfl rfl rfl HO.out HN.out (by simp; omega) HB.out.size ?_)
  intro v1 w1 hO1 hgr
  have hb1 := OInts.below HO.out HB.out hgr
  have hO2 : OInts w.heap.size v1 (1 :: l) w1 := hO1
  have HN1 := Lib.hid hO2.nums
  obtain ⟨hl', ⟨hv, h0⟩ | ⟨g, cap, cur, hv, hgB, hh, hc, hm, hs, ht⟩⟩ := hO2
  · simp at h0
  have hv : v1 = .slice (some ⟨g, 0, none⟩) (l.length + 1) cap := hv
  subst hv
  have hX : ∃ b o c, Value.slice (some ⟨g, 0, none⟩) (l.length + 1) cap = .slice (some ⟨b, o, none⟩) (l.length + 1) c ∧ w.heap.size ≤ b ∧ b < w1.heap.size ∧ (∀ i x, (1 :: l)[i]? = some x → w1.cell? ⟨b, o + i, none⟩ = some (.int .i64 x)) := by
    rcases HN1.out with ⟨_, h⟩ | ⟨b, o, c, h1, h2, h3⟩
    · cases h
    · have e := h1
      simp only [Value.slice.injEq, Option.some.injEq, Addr.mk.injEq] at e
      obtain ⟨⟨rfl, rfl, -⟩, -, rfl⟩ := e
      exact ⟨_, _, _, rfl, hgB, h2, h3⟩
  have HX := Lib.hid hX
  clear HO HN HB hO1 hgr hX HN1 hl' hh hc hm hs ht hgB
  go_wp2
  go_ret
  obtain ⟨b, o, c, h1, h2, h3, h4⟩ := HX.out
  exact ⟨b, o, c, congrArg Ending.returned h1, h2, h3, h4, hb1⟩

theorem shift_at {s : SetD} {ys l : List Int} {f : Int} {k : Nat} {y e : Int} (hy : ys[k]? = some y) (he : (1 :: l)[k]? = some e) : (s.shiftF ys f l)[k]? = some (addZ s.Q y (mulG s.Q 1 [f, e])) := by
  unfold SetD.shiftF
  rw [List.getElem?_zipWith, hy, he]

set_option maxRecDepth 100000 in
set_option maxHeartbeats 4000000 in
theorem shift_calls (s : SetD) (vb vy v : Value) (ys l : List Int) (f : Int) (hf : isInt f) (hyi : ∀ x ∈ ys, isInt x) (hli : ∀ x ∈ l, isInt x) (hl : l.length ≤ 100000000) (hyl : ys.length = l.length + 1) (w : World) (hy : IsNums vy ys w) (hv : IsNums v l w) :
    Calls Tryz.prog 28 #[s.val vb, vy, .int .i64 f, v] w fun e w' => ∃ g, e = .returned (.slice (some ⟨g, 0, none⟩) ys.length ys.length) ∧ w.heap.size ≤ g ∧ IsNums (.slice (some ⟨g, 0, none⟩) ys.length ys.length) (s.shiftF ys f l) w' ∧ Below w.heap.size w w' := by
  rcases hy with ⟨_, h0⟩ | ⟨yb, yo, yc, rfl, hylt, hyc⟩
  · rw [h0] at hyl; simp at hyl
  have hb := below_one w (.cells (s.cells vb) 59)
  have hS : GAt s vb w.heap.size (w.alloc (.cells (s.cells vb) 59)) := Blk.new w _ _
  have hmk := fun w => run_make_row' (P := Tryz.prog) 31 3 (.int .i64 0) 8 Tryz.underlying31 infoNum rfl .i64 .i64 ys.length (by omega) (by omega) w
  obtain ⟨W0, hW0⟩ : ∃ W0, W0 = w.alloc (.cells (s.cells vb) 59) := ⟨_, rfl⟩
  rw [← hW0] at hb hS
  have hR := VRow.made1 W0 (.int .i64 0) ys.length 3
  have hs0 : W0.heap.size = w.heap.size + 1 := by rw [hW0, alloc_size]
  have hb2 := Below.alloc_ hb (.cells (madeCells #[.int .i64 0] ys.length) 3)
  have hS2 : GAt s vb w.heap.size _ := hS.next (below_one W0 (.cells (madeCells #[.int .i64 0] ys.length) 3))
  have c1 := exps_own v l hl _ (hv.next hb2)
  obtain ⟨W1, hW1⟩ : ∃ W1, W1 = W0.alloc (.cells (madeCells #[.int .i64 0] ys.length) 3) := ⟨_, rfl⟩
  have hs1 : W1.heap.size = w.heap.size + 1 + 1 := by rw [hW1, alloc_size, hs0]
  rw [← hW1] at hR hb2 hS2 c1
  rw [hs0] at hR
  obtain ⟨av, cv, rfl⟩ := hv.len
  have hSl : Hid ((s.shiftF ys f l).length = ys.length) := by show _ = _; unfold SetD.shiftF; rw [List.length_zipWith, List.length_cons]; omega
  have HAT := fun k y e hy he => Lib.hid (@shift_at s ys l f k y e hy he)
  obtain ⟨L, hL⟩ : ∃ L, L = s.shiftF ys f l := ⟨_, rfl⟩
  simp only [← hL] at hSl HAT
  rw [← hL]
  unfold SetD.val
  unfold SetD.cells at hW0
  have HW := Lib.hid (show W1 = (w.alloc (.cells #[.int .i64 s.P, .int .i64 s.Q, .int .i64 s.G, vb, .int .i64 s.H] 59)).alloc (.cells (madeCells #[.int .i64 0] ys.length) 3) from by rw [hW1, hW0])
  have c1 := Lib.hid c1
  have HYC := Lib.hid hyc
  have HYL := Lib.hid hyl
  clear hv hb hS hW0 hW1 hL hyc hs0 hyl
  go_enter Tryz.func28, Tryz.ntmps28
  go_wp2_with fail
  rw [← HW.out]
  refine c1.out.mono ?_
  clear c1
  rintro e w2 ⟨eb, eo, ec, rfl, heb, hebl, hec, hb3⟩
  have hR2 := hR.next hb3
  have hS3 := hS2.next hb3
  have hb4 := hb2.trans (hb3.mono hb2.size)
  rw [hs1] at heb
  have hF0 : Fill w2 (w.heap.size + 1) ys.length 0 L w2 := ⟨Cod.only_refl w2 _, _, hR2, fun j x hj => by omega⟩
  have HEC := Lib.hid hec
  have HB4 := Lib.hid hb4
  have HS3 := Lib.hid hS3
  have HEB := Lib.hid heb
  have HBL := Lib.hid hebl
  clear hR hR2 hb2 hb3 hS2 hs1 hec hb4 hS3 heb hebl HW hmk
  go_wp2
  go_loopw [18] (fun iv wr => ∃ k : Nat, k ≤ l.length + 1 ∧ iv = .int .i64 (k : Int) ∧ Fill w2 (w.heap.size + 1) ys.length k L wr) (fun iv _ => l.length + 1 - (intOf iv).toNat)
  case atStart => exact ⟨0, Nat.zero_le _, rfl, hF0⟩
  case round =>
    clear hF0
    obtain ⟨k, hk, rfl, hF⟩ := hrel
    have hB := hF.below HB4.out (by omega)
    have hG : GAt s vb w.heap.size wr := hF.blk HS3.out (by omega)
    by_cases hlt : k < l.length + 1
    · obtain ⟨e, he⟩ : ∃ e, (1 :: l)[k]? = some e := ⟨_, List.getElem?_eq_getElem (by simp; omega)⟩
      obtain ⟨y, hy⟩ : ∃ y, ys[k]? = some y := ⟨_, List.getElem?_eq_getElem (by have := HYL.out; omega)⟩
      have e0 := hF.same HBL.out (by have := HEB.out; omega) (HEC.out k e he)
      have hei : isInt e := by
        rcases List.mem_cons.1 (List.mem_of_getElem? he) with rfl | h
        · unfold isInt; omega
        · exact hli _ h
      have hyi' : isInt y := hyi _ (List.mem_of_getElem? hy)
      have y0 : ∀ w', Below w.heap.size w w' → w'.cell? ⟨yb, yo + k, none⟩ = some (.int .i64 y) := fun w' h => (World.cell?_of_block (a := ⟨yb, yo + k, none⟩) (h.block yb hylt)).trans (HYC.out k y hy)
      have hky : (k : Int) < (ys.length : Int) := by have := HYL.out; omega
      have hkl : (k : Int) < (l.length : Int) + 1 := by omega
      have HLk := HAT k y e hy he
      have k1 : Hid (∀ (n : Nat) (w' : World), IsNums (.slice (some ⟨n, 0, none⟩) 2 2) [f, e] w' → Below wr.heap.size wr w' → Calls Tryz.prog 29 #[.agg #[.int .i64 s.P, .int .i64 s.Q, .int .i64 s.G, vb, .int .i64 s.H], .slice (some ⟨n, 0, none⟩) 2 2] w' fun e' w'' => e' = .returned (.int .i64 (mulG s.Q 1 [f, e])) ∧ Below wr.heap.size wr w'') := by
        show ∀ n w', _
        intro n w' hn h
        refine (gmul_calls s vb _ [f, e] (by
          intro x hx
          simp only [List.mem_cons, List.not_mem_nil, or_false] at hx
          rcases hx with rfl | rfl
          · exact hf
          · exact hei) (by simp) w' hn).mono ?_
        rintro e' w'' ⟨h1, h2⟩
        exact ⟨h1, h.trans (h2.mono h.size)⟩
      have hmi : isInt (mulG s.Q 1 [f, e]) := mulZ_int _ _ _
      generalize mulG s.Q 1 [f, e] = M at *
      have k2 : Hid (∀ w', Below wr.heap.size wr w' → Calls Tryz.prog 34 #[.int .i64 s.Q, .int .i64 y, .int .i64 M] w' fun e' w'' => e' = .returned (.int .i64 (addZ s.Q y M)) ∧ Below wr.heap.size wr w'') := by
        show ∀ w', _
        intro w' h
        refine (add_calls s.Q y M hyi' hmi w').mono ?_
        rintro e' w'' ⟨h1, rfl⟩
        exact ⟨h1, h⟩
      generalize addZ s.Q y M = A at *
      have HG : Hid (∀ w', Below wr.heap.size wr w' → w'.cell? ⟨w.heap.size, 0, none⟩ = some (.int .i64 s.P) ∧ w'.cell? ⟨w.heap.size, 1, none⟩ = some (.int .i64 s.Q) ∧ w'.cell? ⟨w.heap.size, 2, none⟩ = some (.int .i64 s.G) ∧ w'.cell? ⟨w.heap.size, 3, none⟩ = some (vb) ∧ w'.cell? ⟨w.heap.size, 4, none⟩ = some (.int .i64 s.H) ∧ w'.cell? ⟨yb, yo + k, none⟩ = some (.int .i64 y) ∧ Below w.heap.size w w') := by
        show ∀ w', _
        intro w' h
        obtain ⟨z0, z1, z2, z3, z4⟩ := (hG.next h).get
        have hb := hB.trans (h.mono hB.size)
        exact ⟨z0, z1, z2, z3, z4, y0 _ hb, hb⟩
      have HG2 : Hid (∀ w' v, Below wr.heap.size wr w' → (w'.setCell ⟨w.heap.size + 1, k, none⟩ v).cell? ⟨w.heap.size, 0, none⟩ = some (.int .i64 s.P) ∧ (w'.setCell ⟨w.heap.size + 1, k, none⟩ v).cell? ⟨w.heap.size, 1, none⟩ = some (.int .i64 s.Q) ∧ (w'.setCell ⟨w.heap.size + 1, k, none⟩ v).cell? ⟨w.heap.size, 2, none⟩ = some (.int .i64 s.G) ∧ (w'.setCell ⟨w.heap.size + 1, k, none⟩ v).cell? ⟨w.heap.size, 3, none⟩ = some (vb) ∧ (w'.setCell ⟨w.heap.size + 1, k, none⟩ v).cell? ⟨w.heap.size, 4, none⟩ = some (.int .i64 s.H) ∧ (w'.setCell ⟨w.heap.size + 1, k, none⟩ v).cell? ⟨yb, yo + k, none⟩ = some (.int .i64 y) ∧ Below w.heap.size w (w'.setCell ⟨w.heap.size + 1, k, none⟩ v)) := by
        show ∀ w' v, _
        intro w' v h
        have hb := (hB.trans (h.mono hB.size)).setCell (p := ⟨w.heap.size + 1, k, none⟩) (Nat.le_succ _) v
        have hG' : GAt s vb w.heap.size (w'.setCell ⟨w.heap.size + 1, k, none⟩ v) := Blk.far (p := ⟨w.heap.size + 1, k, none⟩) (hG.next h) (Nat.ne_of_lt (Nat.lt_succ_self _)) v
        obtain ⟨z0, z1, z2, z3, z4⟩ := hG'.get
        exact ⟨z0, z1, z2, z3, z4, y0 _ hb, hb⟩
      have HF := Lib.hid hF
      have hkn : k < ys.length := by have := HYL.out; omega
      obtain ⟨z0, z1, z2, z3, z4⟩ := hG.get
      have y0 := y0 wr hB
      have HKN := Lib.hid hkn
      clear he hy hei hyi' hG hB hF hmi hkn
      go_wp2
      go_region_held3 (fun w' => w'.cell? ⟨w.heap.size, 0, none⟩ = some (.int .i64 s.P) ∧ w'.cell? ⟨w.heap.size, 1, none⟩ = some (.int .i64 s.Q) ∧ w'.cell? ⟨w.heap.size, 2, none⟩ = some (.int .i64 s.G) ∧ w'.cell? ⟨w.heap.size, 3, none⟩ = some (vb) ∧ w'.cell? ⟨w.heap.size, 4, none⟩ = some (.int .i64 s.H) ∧ w'.cell? ⟨yb, yo + k, none⟩ = some (.int .i64 y) ∧ Below w.heap.size w w')
        (first | (refine HG.out _ ?_; (first | assumption | exact Below.alloc_ (by assumption) _ | exact Below.alloc_ (below_drewN (Below.refl _ _) _) _ | exact below_drewN (Below.refl _ _) _ | exact Below.refl _ _)) | exact HG2.out _ _ (by assumption))
        (first
          | (go_at_call 29; refine Calls.mono (k1.out _ _ (by first | exact nums_two (wr.drewN _) _ _ | exact nums_two wr _ _) (by first | assumption | exact Below.alloc_ (below_drewN (Below.refl _ _) _) _)) ?_; rintro e5 w5 ⟨rfl, hb5⟩)
          | (go_at_call 34; refine Calls.mono (k2.out _ (by first | assumption)) ?_; rintro e6 wl ⟨rfl, hbl⟩; have hq := HF.out.next hbl; obtain ⟨⟨v0, q0⟩, qf⟩ := hq.cell HKN.out))
      all_goals
        have HS := Lib.hid (hq.step HKN.out HLk.out)
        clear hq q0 qf
        go_wp2
        go_roundw
        case rel => exact ⟨k + 1, by omega, by go_num, HS.out⟩
        case measure => simp [intOf]; omega
    · obtain rfl : k = l.length + 1 := by omega
      have hN : IsNums (.slice (some ⟨w.heap.size + 1, 0, none⟩) ys.length ys.length) L wr := by
        have h := hF
        rw [← HYL.out, ← hSl.out] at h
        rw [← hSl.out]
        exact h.nums
      have HN := Lib.hid hN
      clear hN hF hG
      go_wp2
      go_ret
      exact ⟨w.heap.size + 1, rfl, by omega, HN.out, hB⟩
end Go.Proofs.YtmgamngdmhnffaaGreatDoor
