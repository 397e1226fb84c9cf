/- The differences of answers (written by tools/mktk3.py). -/
import Derived.Test.YtmgamngdmhnffaaGreatDoorTf
namespace Go.Proofs.YtmgamngdmhnffaaGreatDoor
open Go.RowKit

theorem diff_at {q : Int} {xs ys : List Int} {k : Nat} {x y : Int} (hx : xs[k]? = some x) (hy : ys[k]? = some y) : (diffF q xs ys)[k]? = some (subZ q x y) := by
  unfold diffF
  rw [List.getElem?_zipWith, hx, hy]

set_option maxRecDepth 100000 in
set_option maxHeartbeats 4000000 in
theorem differences_calls (s : SetD) (vb vx vy : Value) (d1 d2 : Int) (xs ys : List Int) (hxi : ∀ x ∈ xs, isInt x) (hyi : ∀ x ∈ ys, isInt x) (hl : xs.length ≤ 100000000) (hl0 : 0 < xs.length) (hyl : ys.length = xs.length) (w : World) (hb0 : IsNums vb s.bs w) (hx : IsNums vx xs w) (hy : IsNums vy ys w) :
    Calls Tryz.prog 31 #[s.val vb, .agg #[.int .i64 d1, vx], .agg #[.int .i64 d2, vy]] w fun e w' => ∃ g, e = .returned (.slice (some ⟨g, 0, none⟩) xs.length xs.length) ∧ w.heap.size ≤ g ∧ IsNums (.slice (some ⟨g, 0, none⟩) xs.length xs.length) (diffF s.Q xs ys) w' ∧ Below w.heap.size w w' := by
  rcases hx with ⟨_, h0⟩ | ⟨b1, o1, c1, rfl, hlt1, hc1⟩
  · rw [h0] at hl0; simp at hl0
  rcases hy with ⟨_, h0⟩ | ⟨b2, o2, c2, rfl, hlt2, hc2⟩
  · rw [h0] at hyl; simp at hyl; omega
  obtain ⟨ab, cb, rfl⟩ := hb0.len
  rw [hyl]
  have hSl : Hid ((diffF s.Q xs ys).length = xs.length) := by show _ = _; unfold diffF; rw [List.length_zipWith]; omega
  have HAT := fun k x y hx hy => Lib.hid (@diff_at s.Q xs ys k x y hx hy)
  obtain ⟨L, hL⟩ : ∃ L, L = diffF s.Q xs ys := ⟨_, rfl⟩
  simp only [← hL] at hSl HAT
  rw [← hL]
  have HXL : Hid (∀ k, k < xs.length → ∃ x y, xs[k]? = some x ∧ ys[k]? = some y ∧ isInt x ∧ isInt y) := by
    show ∀ k, _
    intro k hk
    exact ⟨_, _, List.getElem?_eq_getElem hk, List.getElem?_eq_getElem (by omega), hxi _ (List.getElem_mem hk), hyi _ (List.getElem_mem (by omega))⟩
  obtain ⟨n, hn⟩ : ∃ n, n = xs.length := ⟨_, rfl⟩
  rw [← hn] at hSl HXL hl hl0 ⊢
  obtain ⟨W0, hW0⟩ : ∃ W0, W0 = ((w.alloc (.cells (s.cells (.slice ab s.bs.length cb)) 59)).alloc (.cells #[.int .i64 d1, .slice (some ⟨b1, o1, none⟩) n c1] 42)).alloc (.cells #[.int .i64 d2, .slice (some ⟨b2, o2, none⟩) n c2] 42) := ⟨_, rfl⟩
  have hb : Below w.heap.size w W0 := by rw [hW0]; exact Below.alloc_ (Below.alloc_ (below_one w _) _) _
  have hS : GAt s (.slice ab s.bs.length cb) w.heap.size W0 := by rw [hW0]; exact Blk.alloc' (Blk.alloc' (Blk.new w _ _) _) _
  have hX : Blk W0 (w.heap.size + 1) 42 #[.int .i64 d1, .slice (some ⟨b1, o1, none⟩) n c1] := by rw [hW0]; exact Blk.alloc' (Blk.new' (by rw [alloc_size]) _ _) _
  have hY : Blk W0 (w.heap.size + 1 + 1) 42 #[.int .i64 d2, .slice (some ⟨b2, o2, none⟩) n c2] := by rw [hW0]; exact Blk.new' (by rw [alloc_size, alloc_size]) _ _
  have hs0 : W0.heap.size = w.heap.size + 1 + 1 + 1 := by rw [hW0, alloc_size, alloc_size, alloc_size]
  have hR := VRow.made1 W0 (.int .i64 0) n 3
  rw [hs0] at hR
  have hb2 := Below.alloc_ hb (.cells (madeCells #[.int .i64 0] n) 3)
  have hS2 : GAt s (.slice ab s.bs.length cb) w.heap.size _ := hS.next (below_one W0 (.cells (madeCells #[.int .i64 0] n) 3))
  have hX2 := hX.next (below_one W0 (.cells (madeCells #[.int .i64 0] n) 3))
  have hY2 := hY.next (below_one W0 (.cells (madeCells #[.int .i64 0] n) 3))
  obtain ⟨z0, z1, z2, z3, z4⟩ := hS.get
  have x0 := hX.cell 0
  have x1 := hX.cell 1
  have y0 := hY.cell 0
  have y1 := hY.cell 1
  obtain ⟨a0, a1, a2, a3, a4⟩ := hS2.get
  have q0 := hX2.cell 0
  have q1 := hX2.cell 1
  have r0 := hY2.cell 0
  have r1 := hY2.cell 1
  rw [hW0] at z0 z1 z2 z3 z4 x0 x1 y0 y1 a0 a1 a2 a3 a4 q0 q1 r0 r1
  have hmk := fun w => run_make_row' (P := Tryz.prog) 31 3 (.int .i64 0) 8 Tryz.underlying31 infoNum rfl .i64 .i64 n (by omega) (by omega) w
  unfold SetD.val
  unfold SetD.cells at hW0 z0 z1 z2 z3 z4 x0 x1 y0 y1 a0 a1 a2 a3 a4 q0 q1 r0 r1
  have HW := Lib.hid hW0
  have HC1 := Lib.hid hc1
  have HC2 := Lib.hid hc2
  have HN := Lib.hid hn
  clear hb hS hX hY hs0 hL hW0 hc1 hc2 hb0 hn hyl
  go_enter Tryz.func31, Tryz.ntmps31
  go_wp2
  clear z0 z1 z2 z3 z4 x0 x1 y0 y1 a0 a1 a2 a3 a4 q0 q1 r0 r1 hmk
  rw [← HW.out]
  generalize W0.alloc (.cells (madeCells #[.int .i64 0] n) 3) = w2 at *
  have hF0 : Fill w2 (w.heap.size + 1 + 1 + 1) n 0 L w2 := ⟨Cod.only_refl w2 _, _, hR, fun j x hj => by omega⟩
  have HB4 := Lib.hid hb2
  have HS3 := Lib.hid hS2
  have HX3 := Lib.hid hX2
  have HY3 := Lib.hid hY2
  clear hR hb2 hS2 hX2 hY2 HW
  go_loopw [17] (fun iv wr => ∃ k : Nat, k ≤ n ∧ iv = .int .i64 (k : Int) ∧ Fill w2 (w.heap.size + 1 + 1 + 1) n k L wr) (fun iv _ => n - (intOf iv).toNat)
  case atStart => exact ⟨0, Nat.zero_le _, rfl, hF0⟩
  case round =>
    clear hF0
    obtain ⟨k, hk, rfl, hF⟩ := hrel
    have hB := hF.below HB4.out (by omega)
    have hG : GAt s (.slice ab s.bs.length cb) w.heap.size wr := hF.blk HS3.out (by omega)
    have hX := hF.blk HX3.out (by omega)
    have hY := hF.blk HY3.out (by omega)
    by_cases hlt : k < n
    · obtain ⟨x, y, hx, hy, hxi', hyi'⟩ := HXL.out k hlt
      have e0 : wr.cell? ⟨b1, o1 + k, none⟩ = some (.int .i64 x) := (World.cell?_of_block (a := ⟨b1, o1 + k, none⟩) (hB.block b1 hlt1)).trans (HC1.out k x hx)
      have y0 : ∀ w', Below w.heap.size w w' → w'.cell? ⟨b2, o2 + k, none⟩ = some (.int .i64 y) := fun w' h => (World.cell?_of_block (a := ⟨b2, o2 + k, none⟩) (h.block b2 hlt2)).trans (HC2.out k y hy)
      have hkl : (k : Int) < (n : Int) := by omega
      have HLk := HAT k x y hx hy
      have k2 : Hid (∀ w', Below wr.heap.size wr w' → Calls Tryz.prog 45 #[.int .i64 s.Q, .int .i64 x, .int .i64 y] w' fun e' w'' => e' = .returned (.int .i64 (subZ s.Q x y)) ∧ Below wr.heap.size wr w'') := by
        show ∀ w', _
        intro w' h
        refine (sub_calls s.Q x y hxi' hyi' w').mono ?_
        rintro e' w'' ⟨h1, rfl⟩
        exact ⟨h1, h⟩
      generalize subZ s.Q x y = M at *
      have HG : Hid (∀ w', Below wr.heap.size wr w' → w'.cell? ⟨w.heap.size, 0, none⟩ = some (.int .i64 s.P) ∧ w'.cell? ⟨w.heap.size, 1, none⟩ = some (.int .i64 s.Q) ∧ w'.cell? ⟨w.heap.size, 2, none⟩ = some (.int .i64 s.G) ∧ w'.cell? ⟨w.heap.size, 3, none⟩ = some (.slice ab s.bs.length cb) ∧ w'.cell? ⟨w.heap.size, 4, none⟩ = some (.int .i64 s.H) ∧ w'.cell? ⟨w.heap.size + 1, 0, none⟩ = some (.int .i64 d1) ∧ w'.cell? ⟨w.heap.size + 1, 1, none⟩ = some (.slice (some ⟨b1, o1, none⟩) n c1) ∧ w'.cell? ⟨w.heap.size + 1 + 1, 0, none⟩ = some (.int .i64 d2) ∧ w'.cell? ⟨w.heap.size + 1 + 1, 1, none⟩ = some (.slice (some ⟨b2, o2, none⟩) n c2) ∧ w'.cell? ⟨b2, o2 + k, none⟩ = some (.int .i64 y) ∧ Below w.heap.size w w') := by
        show ∀ w', _
        intro w' h
        obtain ⟨z0, z1, z2, z3, z4⟩ := (hG.next h).get
        have hb := hB.trans (h.mono hB.size)
        exact ⟨z0, z1, z2, z3, z4, (hX.next h).cell 0, (hX.next h).cell 1, (hY.next h).cell 0, (hY.next h).cell 1, y0 _ hb, hb⟩
      have HG2 : Hid (∀ w' v, Below wr.heap.size wr w' → (w'.setCell ⟨w.heap.size + 1 + 1 + 1, k, none⟩ v).cell? ⟨w.heap.size, 0, none⟩ = some (.int .i64 s.P) ∧ (w'.setCell ⟨w.heap.size + 1 + 1 + 1, k, none⟩ v).cell? ⟨w.heap.size, 1, none⟩ = some (.int .i64 s.Q) ∧ (w'.setCell ⟨w.heap.size + 1 + 1 + 1, k, none⟩ v).cell? ⟨w.heap.size, 2, none⟩ = some (.int .i64 s.G) ∧ (w'.setCell ⟨w.heap.size + 1 + 1 + 1, k, none⟩ v).cell? ⟨w.heap.size, 3, none⟩ = some (.slice ab s.bs.length cb) ∧ (w'.setCell ⟨w.heap.size + 1 + 1 + 1, k, none⟩ v).cell? ⟨w.heap.size, 4, none⟩ = some (.int .i64 s.H) ∧ (w'.setCell ⟨w.heap.size + 1 + 1 + 1, k, none⟩ v).cell? ⟨w.heap.size + 1, 0, none⟩ = some (.int .i64 d1) ∧ (w'.setCell ⟨w.heap.size + 1 + 1 + 1, k, none⟩ v).cell? ⟨w.heap.size + 1, 1, none⟩ = some (.slice (some ⟨b1, o1, none⟩) n c1) ∧ (w'.setCell ⟨w.heap.size + 1 + 1 + 1, k, none⟩ v).cell? ⟨w.heap.size + 1 + 1, 0, none⟩ = some (.int .i64 d2) ∧ (w'.setCell ⟨w.heap.size + 1 + 1 + 1, k, none⟩ v).cell? ⟨w.heap.size + 1 + 1, 1, none⟩ = some (.slice (some ⟨b2, o2, none⟩) n c2) ∧ (w'.setCell ⟨w.heap.size + 1 + 1 + 1, k, none⟩ v).cell? ⟨b2, o2 + k, none⟩ = some (.int .i64 y) ∧ Below w.heap.size w (w'.setCell ⟨w.heap.size + 1 + 1 + 1, k, none⟩ v)) := by
        show ∀ w' v, _
        intro w' v h
        have hb := (hB.trans (h.mono hB.size)).setCell (p := ⟨w.heap.size + 1 + 1 + 1, k, none⟩) (by simp; omega) v
        have hG' : GAt s (.slice ab s.bs.length cb) w.heap.size (w'.setCell ⟨w.heap.size + 1 + 1 + 1, k, none⟩ v) := Blk.far (p := ⟨w.heap.size + 1 + 1 + 1, k, none⟩) (hG.next h) (by simp; omega) v
        have hX' := Blk.far (p := ⟨w.heap.size + 1 + 1 + 1, k, none⟩) (hX.next h) (by simp) v
        have hY' := Blk.far (p := ⟨w.heap.size + 1 + 1 + 1, k, none⟩) (hY.next h) (by simp) v
        obtain ⟨z0, z1, z2, z3, z4⟩ := hG'.get
        exact ⟨z0, z1, z2, z3, z4, hX'.cell 0, hX'.cell 1, hY'.cell 0, hY'.cell 1, y0 _ hb, hb⟩
      have HF := Lib.hid hF
      obtain ⟨z0, z1, z2, z3, z4⟩ := hG.get
      have x0 := hX.cell 0
      have x1 := hX.cell 1
      have q0 := hY.cell 0
      have q1 := hY.cell 1
      have y0 := y0 wr hB
      have HKN := Lib.hid hlt
      clear hx hy hxi' hyi' hG hX hY hB hF hlt
      go_wp2
      go_region_held3 (fun w' => w'.cell? ⟨w.heap.size, 0, none⟩ = some (.int .i64 s.P) ∧ w'.cell? ⟨w.heap.size, 1, none⟩ = some (.int .i64 s.Q) ∧ w'.cell? ⟨w.heap.size, 2, none⟩ = some (.int .i64 s.G) ∧ w'.cell? ⟨w.heap.size, 3, none⟩ = some (.slice ab s.bs.length cb) ∧ w'.cell? ⟨w.heap.size, 4, none⟩ = some (.int .i64 s.H) ∧ w'.cell? ⟨w.heap.size + 1, 0, none⟩ = some (.int .i64 d1) ∧ w'.cell? ⟨w.heap.size + 1, 1, none⟩ = some (.slice (some ⟨b1, o1, none⟩) n c1) ∧ w'.cell? ⟨w.heap.size + 1 + 1, 0, none⟩ = some (.int .i64 d2) ∧ w'.cell? ⟨w.heap.size + 1 + 1, 1, none⟩ = some (.slice (some ⟨b2, o2, none⟩) n c2) ∧ w'.cell? ⟨b2, o2 + k, none⟩ = some (.int .i64 y) ∧ Below w.heap.size w w')
        (first | (refine HG.out _ ?_; (first | assumption | exact below_drewN (Below.refl _ _) _ | exact Below.refl _ _)) | exact HG2.out _ _ (by assumption))
        (first
          | (go_at_call 45; refine Calls.mono (k2.out _ (by first | assumption | exact below_drewN (Below.refl _ _) _)) ?_; rintro e6 wl ⟨rfl, hbl⟩; have hq := HF.out.next hbl; obtain ⟨⟨v0, q0⟩, qf⟩ := hq.cell HKN.out))
      all_goals
        have HS := Lib.hid (hq.step HKN.out HLk.out)
        have hkn : k < n := HKN.out
        clear hq q0 qf
        go_wp2
        go_roundw
        case rel => exact ⟨k + 1, by omega, by go_num, HS.out⟩
        case measure => simp [intOf]; omega
    · obtain rfl : k = n := by omega
      have hN : IsNums (.slice (some ⟨w.heap.size + 1 + 1 + 1, 0, none⟩) k k) L wr := by
        have h := hF
        have e := hSl.out
        rw [← e] at h ⊢
        exact h.nums
      have HN := Lib.hid hN
      clear hN hF hG hX hY
      go_wp2
      go_ret
      exact ⟨w.heap.size + 1 + 1 + 1, rfl, by omega, HN.out, hB⟩
end Go.Proofs.YtmgamngdmhnffaaGreatDoor
