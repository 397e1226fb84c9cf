/- Trace (written by tools/mktk2.py). -/
import Derived.Test.YtmgamngdmhnffaaGreatDoorTj
namespace Go.Proofs.YtmgamngdmhnffaaGreatDoor
open Go.RowKit

set_option maxRecDepth 100000 in
set_option maxHeartbeats 4000000 in
theorem Trace_calls (s : SetD) (hi : s.ints) (vb : Value) (vx vy : Value) (t : TktD) (ht : t.ints) (d1 d2 : Int) (hd1 : isInt d1) (hd2 : isInt d2) (xs ys : List Int) (hxi : ∀ x ∈ xs, isInt x) (hyi : ∀ x ∈ ys, isInt x) (hl : xs.length ≤ 100000000) (hl2 : ys.length ≤ 100000000) (w : World) (hE : Env w) (hb0 : IsNums vb s.bs w) (hx : IsNums vx xs w) (hy : IsNums vy ys w) :
    Calls Tryz.prog 9 #[s.val vb, t.val, .agg #[.int .i64 d1, vx], .agg #[.int .i64 d2, vy]] w fun e w' => ∃ u, e = .returned (.tuple #[u, .bool (s.valid && s.revB t ⟨d1, xs⟩ ⟨d2, ys⟩)]) ∧ IsNums u (bif s.valid && s.revB t ⟨d1, xs⟩ ⟨d2, ys⟩ then s.traceF ⟨d1, xs⟩ ⟨d2, ys⟩ else []) w' ∧ Below w.heap.size w w' := by
  obtain ⟨a1, c1, rfl⟩ := hx.len
  obtain ⟨a2, c2, rfl⟩ := hy.len
  obtain ⟨ab, cb, rfl⟩ := hb0.len
  obtain ⟨W0, hW0⟩ : ∃ W0, W0 = ((((w.alloc (.cells (s.cells (.slice ab s.bs.length cb)) 33)).alloc (.cells #[.int .i64 t.mark, .int .i64 t.first, .int .i64 t.z, .int .i64 t.a, .int .i64 t.b, .int .i64 t.r] 23)).alloc (.cells #[.int .i64 d1, .slice a1 xs.length c1] 42)).alloc (.cells #[.int .i64 d2, .slice a2 ys.length c2] 42)) := ⟨_, rfl⟩
  have hb : Below w.heap.size w W0 := by rw [hW0]; exact (Below.alloc_ (Below.alloc_ (Below.alloc_ (below_one w _) _) _) _)
  have hS : SetAt s (.slice ab s.bs.length cb) w.heap.size W0 := by rw [hW0]; exact Blk.alloc' (Blk.alloc' (Blk.alloc' (Blk.new w _ _) _) _) _
  have hY : Blk W0 (w.heap.size + 1) 23 #[.int .i64 t.mark, .int .i64 t.first, .int .i64 t.z, .int .i64 t.a, .int .i64 t.b, .int .i64 t.r] := by rw [hW0]; exact Blk.alloc' (Blk.alloc' (Blk.new' (by rw [alloc_size]) _ _) _) _
  have hX : Blk W0 (w.heap.size + 1 + 1) 42 #[.int .i64 d1, .slice a1 xs.length c1] := by rw [hW0]; exact Blk.alloc' (Blk.new' (by rw [alloc_size, alloc_size]) _ _) _
  have hU : Blk W0 (w.heap.size + 1 + 1 + 1) 42 #[.int .i64 d2, .slice a2 ys.length c2] := by rw [hW0]; exact Blk.new' (by rw [alloc_size, alloc_size, alloc_size]) _ _
  have HBN := fun w' (h : Below W0.heap.size W0 w') => Lib.hid (hb0.next (hb.trans (h.mono hb.size)))
  have j1 := Lib.hid (open_calls s hi (.slice ab s.bs.length cb) W0 (hE.next hb) (hb0.next hb))
  have HK : Hid (∀ w', Below W0.heap.size W0 w' → w'.cell? ⟨w.heap.size + 1, 0, none⟩ = some (.int .i64 t.mark) ∧ w'.cell? ⟨w.heap.size + 1, 1, none⟩ = some (.int .i64 t.first) ∧ w'.cell? ⟨w.heap.size + 1, 2, none⟩ = some (.int .i64 t.z) ∧ w'.cell? ⟨w.heap.size + 1, 3, none⟩ = some (.int .i64 t.a) ∧ w'.cell? ⟨w.heap.size + 1, 4, none⟩ = some (.int .i64 t.b) ∧ w'.cell? ⟨w.heap.size + 1, 5, none⟩ = some (.int .i64 t.r) ∧ w'.cell? ⟨w.heap.size + 1 + 1, 0, none⟩ = some (.int .i64 d1) ∧ w'.cell? ⟨w.heap.size + 1 + 1, 1, none⟩ = some (.slice a1 xs.length c1) ∧ w'.cell? ⟨w.heap.size + 1 + 1 + 1, 0, none⟩ = some (.int .i64 d2) ∧ w'.cell? ⟨w.heap.size + 1 + 1 + 1, 1, none⟩ = some (.slice a2 ys.length c2) ∧ Below W0.heap.size W0 w') := by
    show ∀ w', _
    intro w' h
    exact ⟨(hY.next h).cell 0, (hY.next h).cell 1, (hY.next h).cell 2, (hY.next h).cell 3, (hY.next h).cell 4, (hY.next h).cell 5, (hX.next h).cell 0, (hX.next h).cell 1, (hU.next h).cell 0, (hU.next h).cell 1, h⟩
  have HS0 : Hid (W0.heap.size = w.heap.size + 1 + 1 + 1 + 1) := by show _ = _; rw [hW0, alloc_size, alloc_size, alloc_size, alloc_size]
  have HB := Lib.hid hb
  have HXN := fun w' (h : Below W0.heap.size W0 w') => Lib.hid (hx.next (hb.trans (h.mono hb.size)))
  have HYN := fun w' (h : Below W0.heap.size W0 w') => Lib.hid (hy.next (hb.trans (h.mono hb.size)))
  have HRL : Hid (s.revB t ⟨d1, xs⟩ ⟨d2, ys⟩ = true → xs.length = s.bs.length ∧ ys.length = s.bs.length) := by
    show _ → _
    intro h
    unfold SetD.revB SetD.accB at h
    simp only [Bool.and_eq_true, decide_eq_true_eq] at h
    exact ⟨h.1.2.2.1, h.2.1.2.2.1⟩
  have HTF : Hid (s.traceF ⟨d1, xs⟩ ⟨d2, ys⟩ = ((diffF s.Q xs ys).drop 1).map fun d => mulG s.Q 1 [d, powZ s.Q ((diffF s.Q xs ys).getD 0 0) (-1)]) := rfl
  obtain ⟨A, hA⟩ : ∃ z, z = s.revB t ⟨d1, xs⟩ ⟨d2, ys⟩ := ⟨_, rfl⟩
  have HA := Lib.hid hA
  rw [← hA] at HRL ⊢
  obtain ⟨L, hL⟩ : ∃ z, z = s.traceF ⟨d1, xs⟩ ⟨d2, ys⟩ := ⟨_, rfl⟩
  rw [← hL] at HTF ⊢
  unfold TktD.val at *
  generalize hV : s.valid = V at *
  have HV := Lib.hid hV
  have h2 : V = true → 2 ≤ s.bs.length := fun e => by rw [e] at hV; exact valid_bases hV
  have h7 : V = true → s.bs.length ≤ 7 := fun e => by rw [e] at hV; exact valid_bases7 hV
  unfold SetD.val at *
  unfold SetD.cells at hW0
  obtain ⟨z0, z1, z2, z3, z4⟩ := hS.get
  obtain ⟨y0, y1, y2, y3, y4, y5, x0, x1, u0, u1, -⟩ := HK.out W0 (Below.refl _ _)
  rw [hW0] at z0 z1 z2 z3 z4 y0 y1 y2 y3 y4 y5 x0 x1 u0 u1 j1
  have HW0 := Lib.hid hW0
  clear hE hb0 hS hV hb hW0 hY hX hU hx hy hA hL
  go_enter Tryz.func9, Tryz.ntmps9
  go_wp2_with fail
  refine j1.out.mono ?_
  clear j1 z0 z1 z2 z3 z4 y0 y1 y2 y3 y4 y5 x0 x1 u0 u1
  rw [← HW0.out]
  rintro e w1 ⟨rfl, hB1⟩
  have hW1 := hB1.size
  have hB2 := Below.alloc_ hB1 (.cells #[.int .i64 s.P, .int .i64 s.Q, .int .i64 s.G, .slice ab s.bs.length cb, .int .i64 s.H] 59)
  have hG : GAt s (.slice ab s.bs.length cb) w1.heap.size (w1.alloc (.cells #[.int .i64 s.P, .int .i64 s.Q, .int .i64 s.G, .slice ab s.bs.length cb, .int .i64 s.H] 59)) := Blk.new w1 _ _
  clear hB1
  cases V
  · go_wp2
    exact bodyPost_ret (v := .tuple #[.slice none 0 0, .bool false]) (by simp [results, Tryz.results9, go_sem]) rfl ⟨_, rfl, .inl ⟨⟨_, _, rfl⟩, rfl⟩, HB.out.trans (hB2.mono HB.out.size)⟩
  · have j2 := Lib.hid (reveal_calls s hi (.slice ab s.bs.length cb) (.slice a1 xs.length c1) (.slice a2 ys.length c2) t ht d1 d2 hd1 hd2 xs ys hxi hyi hl hl2 (h2 rfl) (by have := h7 rfl; omega) _ (HBN _ hB2).out (HXN _ hB2).out (HYN _ hB2).out)
    unfold SetD.val TktD.val at j2
    obtain ⟨z0, z1, z2, z3, z4⟩ := hG.get
    obtain ⟨y0, y1, y2, y3, y4, y5, x0, x1, u0, u1, -⟩ := HK.out _ hB2
    rw [← HA.out] at j2
    go_wp2_with fail
    generalize (w1.alloc (.cells #[.int .i64 s.P, .int .i64 s.Q, .int .i64 s.G, .slice ab s.bs.length cb, .int .i64 s.H] 59)) = W2 at *
    have hG2 : GAt s (.slice ab s.bs.length cb) w1.heap.size W2 := hG
    refine j2.out.mono ?_
    clear j2 z0 z1 z2 z3 z4 y0 y1 y2 y3 y4 y5 x0 x1 u0 u1 hG
    rintro e w2 ⟨rfl, hb2⟩
    have hB3 := hB2.trans (hb2.mono hB2.size)
    have hG3 := hG2.next hb2
    clear hb2 hG2 hB2
    cases A
    · go_wp2
      exact bodyPost_ret (v := .tuple #[.slice none 0 0, .bool false]) (by simp [results, Tryz.results9, go_sem]) rfl ⟨_, rfl, .inl ⟨⟨_, _, rfl⟩, rfl⟩, HB.out.trans (hB3.mono HB.out.size)⟩
    · obtain ⟨hxl, hyl⟩ := HRL.out rfl
      have hbl := h2 (by simp)
      obtain ⟨m, hm⟩ : ∃ m, xs.length = m + 1 := ⟨xs.length - 1, by omega⟩
      have hm8 : 8 * m ≤ 281474976710656 := by omega
      have hm63 : m ≤ 9223372036854775807 := by omega
      have hmz : ¬ m = 0 := by omega
      have hdl : (diffF s.Q xs ys).length = m + 1 := by unfold diffF; rw [List.length_zipWith]; omega
      have j3 := Lib.hid (differences_calls s (.slice ab s.bs.length cb) (.slice a1 xs.length c1) (.slice a2 ys.length c2) d1 d2 xs ys hxi hyi hl (by omega) (by omega) w2 (HBN _ hB3).out (HXN _ hB3).out (HYN _ hB3).out)
      unfold SetD.val at j3
      obtain ⟨z0, z1, z2, z3, z4⟩ := hG3.get
      obtain ⟨y0, y1, y2, y3, y4, y5, x0, x1, u0, u1, -⟩ := HK.out _ hB3
      have HDI : Hid (∀ x ∈ diffF s.Q xs ys, isInt x) := by
        show ∀ x, _
        intro x hx
        unfold diffF at hx
        obtain ⟨i, hi, rfl⟩ := List.mem_iff_getElem.1 hx
        rw [List.getElem_zipWith]
        exact subZ_int _ _ _
      obtain ⟨D, hD⟩ : ∃ z, z = diffF s.Q xs ys := ⟨_, rfl⟩
      rw [← hD] at j3 HTF HDI hdl
      rw [hm] at j3 x1
      have hym : ys.length = m + 1 := by omega
      rw [hym] at j3 u1
      have HM8 := Lib.hid hm8
      have HM63 := Lib.hid hm63
      clear hxl hyl hD hm hym hbl hm8 hm63
      go_wp2_with fail
      refine j3.out.mono ?_
      clear j3 z0 z1 z2 z3 z4 y0 y1 y2 y3 y4 y5 x0 x1 u0 u1
      rintro e w3 ⟨g, rfl, hg, hDN, hb3⟩
      have hB4 := hB3.trans (hb3.mono hB3.size)
      have hG4 := hG3.next hb3
      clear hb3 hG3 hB3
      have hB0 := HB.out.trans (hB4.mono HB.out.size)
      have hDC : g < w3.heap.size ∧ ∀ i x, D[i]? = some x → w3.cell? ⟨g, i, none⟩ = some (.int .i64 x) := by
        rcases hDN with ⟨_, h⟩ | ⟨bk, off, cap, hv, hlt, hc⟩
        · rw [h] at hdl; simp at hdl
        · simp only [Value.slice.injEq, Option.some.injEq, Addr.mk.injEq] at hv
          obtain ⟨⟨rfl, rfl, -⟩, -, -⟩ := hv
          exact ⟨hlt, fun i x hi => by have := hc i x hi; rwa [Nat.zero_add] at this⟩
      obtain ⟨hgl, hDC⟩ := hDC
      obtain ⟨d0, hd0⟩ : ∃ d, D[0]? = some d := ⟨_, List.getElem?_eq_getElem (by omega)⟩
      have e0 := hDC 0 d0 hd0
      have hdi : isInt d0 := HDI.out _ (List.mem_of_getElem? hd0)
      have hg0 : D.getD 0 0 = d0 := by rw [List.getD_eq_getElem?_getD, hd0]; rfl
      rw [hg0] at HTF
      have hpi : isInt (powZ s.Q d0 (-1)) := powZ_int _ _ _
      have k4 := Lib.hid (DoesC.mk (f := 32) (ginv_calls s (.slice ab s.bs.length cb) d0 hdi))
      unfold SetD.val at k4
      generalize powZ s.Q d0 (-1) = P at *
      obtain ⟨z0, z1, z2, z3, z4⟩ := hG4.get
      have hi0 : (0 : Int) < (m : Int) + 1 := by omega
      have HDC := Lib.hid hDC
      have HDL := Lib.hid hdl
      clear hDC hd0 hg0 hdl hDN
      have HG : Hid (∀ w', Below w3.heap.size w3 w' → w'.cell? ⟨w1.heap.size, 0, none⟩ = some (.int .i64 s.P) ∧ w'.cell? ⟨w1.heap.size, 1, none⟩ = some (.int .i64 s.Q) ∧ w'.cell? ⟨w1.heap.size, 2, none⟩ = some (.int .i64 s.G) ∧ w'.cell? ⟨w1.heap.size, 3, none⟩ = some (.slice ab s.bs.length cb) ∧ w'.cell? ⟨w1.heap.size, 4, none⟩ = some (.int .i64 s.H) ∧ w'.cell? ⟨g, 0, none⟩ = some (.int .i64 d0) ∧ Below w3.heap.size w3 w') := by
        show ∀ w', _
        intro w' h
        obtain ⟨z0, z1, z2, z3, z4⟩ := (hG4.next h).get
        exact ⟨z0, z1, z2, z3, z4, by rw [h.cell (p := ⟨g, 0, none⟩) hgl]; exact e0, h⟩
      have HGL := Lib.hid hgl
      clear hdi hgl
      go_wp2
      go_region_held3 (fun w' => w'.cell? ⟨w1.heap.size, 0, none⟩ = some (.int .i64 s.P) ∧ w'.cell? ⟨w1.heap.size, 1, none⟩ = some (.int .i64 s.Q) ∧ w'.cell? ⟨w1.heap.size, 2, none⟩ = some (.int .i64 s.G) ∧ w'.cell? ⟨w1.heap.size, 3, none⟩ = some (.slice ab s.bs.length cb) ∧ w'.cell? ⟨w1.heap.size, 4, none⟩ = some (.int .i64 s.H) ∧ w'.cell? ⟨g, 0, none⟩ = some (.int .i64 d0) ∧ Below w3.heap.size w3 w')
        ((refine HG.out _ ?_; (first | assumption | exact below_drewN (Below.refl _ _) _ | exact Below.refl _ _)))
        (first
          | (go_at_call 32; refine Calls.mono (k4.out w3 _ _ (by with_reducible rfl) (by first | assumption | exact below_drewN (Below.refl _ _) _)) ?_; rintro e w4 ⟨rfl, hb4⟩))
      have hgl := HGL.out
      clear k4 HG z0 z1 z2 z3 z4 e0
      have hR := VRow.made1 w4 (.int .i64 0) m 3
      have hB5 := hB0.trans (hb4.mono hB0.size)
      have hB6 := Below.alloc_ hB5 (.cells (madeCells #[.int .i64 0] m) 3)
      have hG6 := (hG4.next hb4).next (below_one w4 (.cells (madeCells #[.int .i64 0] m) 3))
      have hDC : ∀ i x, D[i]? = some x → (w4.alloc (.cells (madeCells #[.int .i64 0] m) 3)).cell? ⟨g, i, none⟩ = some (.int .i64 x) := fun i x hi => by
        rw [(Below.alloc_ hb4 (.cells (madeCells #[.int .i64 0] m) 3)).cell (p := ⟨g, i, none⟩) hgl]
        exact HDC.out i x hi
      have hgg : g < w4.heap.size := Nat.lt_of_lt_of_le hgl hb4.size
      have h1g : w1.heap.size < w4.heap.size := (hG4.next hb4).lt
      have hwg : w.heap.size ≤ w4.heap.size := hB5.size
      have hml : (m : Int) ≤ 9223372036854775807 := by have h := HM63.out; exact Int.ofNat_le.2 h
      have hm0 : (0 : Int) ≤ (m : Int) := Int.natCast_nonneg _
      have hmk := fun w => run_make_row' (P := Tryz.prog) 31 3 (.int .i64 0) 8 Tryz.underlying31 infoNum rfl .i64 .i64 m HM8.out HM63.out w
      have HGG := Lib.hid (And.intro hgg (And.intro h1g hwg))
      clear hb4 hB0 hB4 hG4 hB5 HDC hgg h1g hwg hgl hg
      go_wp2
      obtain ⟨g2, hg2⟩ : ∃ g2, g2 = w4.heap.size := ⟨_, rfl⟩
      generalize w4.alloc (.cells (madeCells #[.int .i64 0] m) 3) = W4 at *
      rw [← hg2] at hR HGG ⊢
      clear hg2 hmk
      have hF0 : Fill W4 g2 m 0 L W4 := ⟨Cod.only_refl W4 _, _, hR, fun j x hj => by omega⟩
      have hgW : g < W4.heap.size := Nat.lt_trans HGG.out.1 hR.lt
      have HGW := Lib.hid hgW
      have HLL : Hid (L.length = m) := by show _ = _; rw [HTF.out, List.length_map, List.length_drop, HDL.out]; omega
      have HB6 := Lib.hid hB6
      have HG6 := Lib.hid hG6
      have HDC := Lib.hid hDC
      clear hR hB6 hG6 hDC hgW
      go_loopw [48] (fun iv wr => ∃ k : Nat, k ≤ m ∧ iv = .int .i64 (k : Int) ∧ Fill W4 g2 m k L wr) (fun iv _ => m - (intOf iv).toNat)
      case atStart => exact ⟨0, Nat.zero_le _, rfl, hF0⟩
      case round =>
        clear hF0
        obtain ⟨k, hk, rfl, hF⟩ := hrel
        have hB := hF.below HB6.out HGG.out.2.2
        have hG : GAt s (.slice ab s.bs.length cb) w1.heap.size wr := hF.blk HG6.out (Nat.ne_of_lt HGG.out.2.1)
        by_cases hlt : k < m
        · obtain ⟨d, hd⟩ : ∃ d, D[1 + k]? = some d := ⟨_, List.getElem?_eq_getElem (by rw [HDL.out]; omega)⟩
          have e0 := hF.same HGW.out (Nat.ne_of_lt HGG.out.1) (HDC.out (1 + k) d hd)
          have hdi : isInt d := HDI.out _ (List.mem_of_getElem? hd)
          have hkl : (k : Int) < (m : Int) := by omega
          have HLk : Hid (L[k]? = some (mulG s.Q 1 [d, P])) := by
            show _ = _
            rw [HTF.out, List.getElem?_map, List.getElem?_drop, hd]
            rfl
          have k1 : Hid (∀ (n : Nat) (w' : World), IsNums (.slice (some ⟨n, 0, none⟩) 2 2) [d, P] w' → Below wr.heap.size wr w' → Calls Tryz.prog 29 #[.agg #[.int .i64 s.P, .int .i64 s.Q, .int .i64 s.G, .slice ab s.bs.length cb, .int .i64 s.H], .slice (some ⟨n, 0, none⟩) 2 2] w' fun e' w'' => e' = .returned (.int .i64 (mulG s.Q 1 [d, P])) ∧ Below wr.heap.size wr w'') := by
            show ∀ n w', _
            intro n w' hn h
            refine (gmul_calls s (.slice ab s.bs.length cb) _ [d, P] (by
              intro x hx
              simp only [List.mem_cons, List.not_mem_nil, or_false] at hx
              rcases hx with rfl | rfl
              · exact hdi
              · exact hpi) (by simp) w' hn).mono ?_
            rintro e' w'' ⟨h1, h2⟩
            exact ⟨h1, h.trans (h2.mono h.size)⟩
          generalize mulG s.Q 1 [d, P] = M at *
          have HF := Lib.hid hF
          obtain ⟨z0, z1, z2, z3, z4⟩ := hG.get
          have HKN := Lib.hid hlt
          have j5 := k1.out _ _ (nums_two wr d P) (below_one wr _)
          have j5 := Lib.hid j5
          clear hd hdi hG hB hF hlt k1
          go_wp2_with fail
          refine j5.out.mono ?_
          clear j5 z0 z1 z2 z3 z4
          rintro e5 wl ⟨rfl, hbl⟩
          have hq := HF.out.next hbl
          obtain ⟨⟨v0, q0⟩, qf⟩ := hq.cell HKN.out
          · have HS := Lib.hid (hq.step HKN.out HLk.out)
            clear hq
            go_wp2
            go_roundw
            case rel => exact ⟨k + 1, HKN.out, by go_num, HS.out⟩
            case measure => simp [intOf]; have := HKN.out; omega
        · obtain rfl : k = m := by omega
          have hN : IsNums (.slice (some ⟨g2, 0, none⟩) k k) L wr := by
            have h := hF
            have e := HLL.out
            rw [← e] at h ⊢
            exact h.nums
          have HN := Lib.hid hN
          clear hN hF hG
          go_wp2
          exact bodyPost_ret (v := .tuple #[.slice (some ⟨g2, 0, none⟩) k k, .bool true]) (by simp [results, Tryz.results9, go_sem]) rfl ⟨_, rfl, HN.out, hB⟩

end Go.Proofs.YtmgamngdmhnffaaGreatDoor
