/- The reference's Kernel. -/
import Derived.Test.YtdeeoigcpihidaaDoorRKer
namespace Go.Proofs.YtdeeoigcpihidaaDoor
open Go.RowKit

set_option maxRecDepth 100000 in
set_option maxHeartbeats 2000000 in
theorem rkernel_good (q : Int) (hqi : isInt q) (v : Value) (xss : List (List Int)) (cols : Int) (hn : xss.length ≤ 9223372036854775807) (hr : ∀ r ∈ xss, r.length ≤ 9223372036854775807)
    (hi : ∀ r ∈ xss, ∀ x ∈ r, isInt x) (w : World) (h : IsRows v xss w) (hok : kerOk q xss cols) :
    Calls Tryd.prog 11 #[.int .i64 q, v, .int .i64 cols] w (KerP q xss cols w) := by
  obtain ⟨a, cap, rfl⟩ := h.len
  obtain ⟨hm, hlen, hc0, hc64, hp⟩ := id hok
  have c1 := Lib.hid (rprime_calls q hqi w)
  rw [hp] at c1
  have c2 := fun w' hb => Lib.hid (rmatrix_calls (.slice a xss.length cap) xss w' (h.next hb) hn hr)
  rw [hm] at c2
  have hq := primeB_mod hp
  obtain ⟨hn64, _, hrw⟩ := matB_rows hm
  obtain ⟨c, rfl⟩ : ∃ c : Nat, cols = (c : Int) := ⟨cols.toNat, by omega⟩
  have hrc : ∀ r ∈ xss, r.length = c := fun r hr => by
    rcases hlen with h0 | h0
    · rw [List.eq_nil_of_length_eq_zero h0] at hr; simp at hr
    · rw [hrw r hr]; omega
  have c3 := fun w' hb => Lib.hid (rwidth_calls (.slice a xss.length cap) xss w' (h.next hb))
  obtain ⟨W, hW⟩ : ∃ W, W = widF xss := ⟨_, rfl⟩
  rw [← hW] at c3 hlen
  obtain ⟨P0, hP0⟩ : ∃ P0, P0 = redF q xss.length c 0 [] (resM q xss) := ⟨_, rfl⟩
  obtain ⟨P, hP⟩ : ∃ P, P = redF q xss.length c 0 [] (augM q xss (zeroL xss.length) c) := ⟨_, rfl⟩
  obtain ⟨e1, e2⟩ := redF_agree2 (q := q) (n := xss.length) (c := c) c 0 [] _ _ (aug_agree q xss (zeroL xss.length) c) (by omega)
  rw [← hP, ← hP0] at e1 e2
  have hasc := redF_asc q xss.length c 0 [] (resM q xss) (fun i k h1 h2 => by simp at h2) (fun i hi => by simp at hi)
  have hlt := redF_lt q xss.length c 0 [] (resM q xss) (by simp)
  rw [← hP0] at hasc hlt
  rw [Nat.zero_add] at hlt
  have HV : Hid (kerO q xss (c : Int) = some ((freeL P0.1 c).map fun j => (List.range c).map (kerR q P0 j))) := by
    show _ = _; unfold kerO; rw [if_pos hok, hP0]; rfl
  have c4 := fun w' hb bv hbv => Lib.hid (rresid_calls q hq (.slice a xss.length cap) bv xss (zeroL xss.length) c hrc (by omega) (by omega) (zeroL_len _) hi (zeroL_int _) w' (h.next hb) hbv)
  obtain ⟨n, hnn⟩ : ∃ n, n = xss.length := ⟨_, rfl⟩
  have c5 := fun H cap' w' hm' hB1 hB2 => Lib.hid (rreduced_calls q hq w.heap.size H n (c + 1) c cap' (by omega) (by omega) (by omega) hB1 (augM q xss (zeroL n) c) (augM_all hq xss (zeroL n) c n (c + 1)) w' hm' hB2)
  rw [← hnn] at hP c4 hP0 hlen c2 c3 hn64
  rw [← hP] at c5
  rw [← hnn]
  have hR := allR_red hq (n := n) (C := c) c 0 [] (resM q xss) (resM_all hq xss n c) (by omega)
  rw [← hP0] at hR
  have HRG : Hid (∀ i, i < n → ∀ j, j < c → isInt (P0.2 i j)) := fun i hi j hj => (hR i hi j hj).int hq
  have hmk := fun w => run_make_row' (P := Tryd.prog) 23 3 (.int .i64 0) 8 Tryd.underlying23 infoInt' rfl .i64 .i64 n (by omega) (by omega) w
  have hmk2 := fun w => run_make_row' (P := Tryd.prog) 23 3 (.int .i64 0) 8 Tryd.underlying23 infoInt' rfl .i64 .i64 c (by omega) (by omega) w
  have HMK := Lib.hid hmk2
  have hlc : ∀ j, j ≤ c → (freeL P0.1 j).length ≤ 64 := fun j hj => by have := freeL_len P0.1 j; omega
  have HLC := Lib.hid hlc
  have HASC := Lib.hid hasc
  have HLT := Lib.hid hlt
  have HE1 := Lib.hid e1
  have HE2 := Lib.hid e2
  have c6 := fun x (hx : isInt x) w => Lib.hid (rsub_calls q 0 x (by unfold isInt; omega) hx w)
  have hsubz : ∀ x, subZ q 0 x = (-x) % q := fun x => by unfold subZ; rw [if_pos hq, Int.zero_sub]
  have HSZ := Lib.hid hsubz
  have hc65 : ¬ (64 : Int) < (c : Int) := by omega
  have hc00 : ¬ (c : Int) < 0 := by omega
  have hcase : ¬ (0 : Int) < (n : Int) ∨ ((0 : Int) < (n : Int) ∧ ((W : Int) != (c : Int)) = false) := by
    rcases hlen with h0 | h0
    · exact .inl (by omega)
    · by_cases h1 : (0 : Int) < (n : Int)
      · exact .inr ⟨h1, by rw [h0]; simp⟩
      · exact .inl h1
  clear hlen hP hP0 hp hm hW hnn h hn hqi hq hi hrc hr hrw hok hc0 hc64 hmk2 hR hlc hasc hlt e1 e2 hsubz
  rcases hcase with hA | ⟨hA, hB⟩
  all_goals
    go_enter Tryd.func11, Tryd.ntmps11
    go_wp2_with fail
    refine c1.out.mono ?_
    rintro e w1 ⟨rfl, hb1⟩
    have d2 := c2 w1 hb1
    have HB1 := Lib.hid hb1
    clear hb1 c1 c2
    go_wp2_with fail
    refine Calls.mono d2.out ?_
    rintro e w2 ⟨rfl, m, rfl⟩
    have HB2 : Hid (Below w.heap.size w (w1.drewN m)) := below_drewN HB1.out m
    generalize w1.drewN m = w2 at *
    have d3 := c3 w2 HB2.out
    have hb3 : Below w.heap.size w (w2.alloc (.cells (madeCells #[.int .i64 0] n) 3)) := HB2.out.trans ((below_one w2 _).mono HB2.out.size)
    have d4 := c4 _ hb3 _ (made_zero w2 n)
    have HB3 := Lib.hid hb3
    clear d2 HB1 c4 hb3 c3
    go_wp2_with fail
    first
      | (refine Calls.mono d3.out ?_
         rintro e w3 ⟨rfl, rfl⟩
         go_wp2_with fail
         refine Calls.mono d4.out ?_)
      | (refine Calls.mono d4.out ?_)
    rintro e w3 ⟨H, cp, rfl, hH, hM, hb3⟩
    have HB4 : Hid (Below w.heap.size w w3) := HB3.out.trans (hb3.mono HB3.out.size)
    have d5 := c5 H cp w3 hM (by have := HB3.out.size; omega) HB4.out.size
    clear d4 hM hb3 HB2 HB3 c5 hH hmk d3 hA
    go_wp2_with fail
    refine Calls.mono d5.out ?_
    rintro e w4 ⟨pv, rfl, hRS, hln⟩
    rw [HE1.out] at hRS hln
    obtain ⟨r, hr⟩ : ∃ r, r = P0.1.length := ⟨_, rfl⟩
    obtain ⟨ap, cpp, rfl⟩ := own_len hRS.own
    have HB5 : Hid (Below w.heap.size w w4) := HB4.out.trans hRS.bel
    have HRS := Lib.hid hRS
    rw [← hr]
    rw [← hr] at hln
    have HR := Lib.hid hr
    obtain ⟨T, hT⟩ : ∃ T, T = w4.heap.size := ⟨_, rfl⟩
    have hBas : Bas T c (kerR q P0) (freeL P0.1 0) (fun _ => 0) (.slice (some ⟨w4.heap.size, 0, none⟩) 0 0) (w4.alloc (.cells #[] 23)) := ⟨World.ownsRow_lit (base := T) w4 #[] 0 (by rw [hT]; exact Nat.le_refl _) (by unfold maxLen; omega) (by rfl), fun s hs => by simp [freeL] at hs⟩
    have hBel : Below T w4 (w4.alloc (.cells #[] 23)) := by rw [hT]; exact below_one _ _
    have hUp : Upto P0.1 0 0 := ⟨Nat.zero_le _, fun i hi => by omega, fun i _ _ => Nat.zero_le _⟩
    have HT := Lib.hid hT
    clear hr hT hRS d5
    obtain ⟨i1, hi1, hz0, hz1, hz2⟩ := info_parts infoRow
    go_wp2
    go_loopw [10, 11, 12] (fun bv kv jv wr => ∃ (j k : Nat) (G : Nat → Nat), j ≤ c ∧ jv = .int .i64 (j : Int) ∧ kv = .int .i64 (k : Int) ∧ Upto P0.1 k j ∧ Bas T c (kerR q P0) (freeL P0.1 j) G bv wr ∧ Below T w4 wr) (fun _ _ jv _ => c - (intOf jv).toNat)
    case atStart => exact ⟨0, 0, _, Nat.zero_le _, rfl, rfl, hUp, hBas, hBel⟩
    case round =>
      clear hBas hBel hUp
      obtain ⟨j, k, G, hj, rfl, rfl, hUp, hBas, hBel⟩ := hrel
      by_cases hlt : j < c
      · have hjc : (j : Int) < (c : Int) := by omega
        have hown : wr.ownsRow w3.heap.size 3 1 (.slice ap P0.1.length cpp) P0.1.length (ics P0.1) := own_keep HRS.out.own fun g hg => hBel.block g (by rw [HT.out]; exact hg)
        have hkr : k ≤ r := by rw [HR.out]; exact hUp.1
        have HBas := Lib.hid hBas
        have HBel := Lib.hid hBel
        have HL := Lib.hid (HLC.out j hj)
        have HUP := Lib.hid hUp
        by_cases hhit : k < P0.1.length ∧ P0.1.getD k 0 = j
        · obtain ⟨hkp, hgj⟩ := hhit
          obtain ⟨g, rfl, _, _, z0⟩ := info_at hown k hkp
          have hgd : P0.1.getD k 0 = P0.1[k] := by rw [List.getD_eq_getElem?_getD, List.getElem?_eq_getElem hkp]; rfl
          have hkl : k < r := by rw [HR.out]; exact hkp
          have hk1 : (k : Int) < (r : Int) := by omega
          have hmin : min (k : Int) ((r : Int) - 1) = (k : Int) := by omega
          rw [← hgd, hgj] at z0
          have HIT := Lib.hid (HUP.out.hit HASC.out hkp hgj)
          have hbq : ((j : Int) == (j : Int)) = true := by simp
          clear hown hBas hBel hUp hgd hgj
          go_wp2
          go_roundw
          case rel => exact ⟨j + 1, k + 1, G, by omega, by go_num, by go_num, HIT.out.2, by rw [freeL_yes HIT.out.1]; exact HBas.out, HBel.out⟩
          case measure => simp [intOf]; omega
        · have HMISS := Lib.hid (HUP.out.miss HASC.out fun h e => hhit ⟨h, e⟩)
          by_cases hkl : k < r
          · have hkp : k < P0.1.length := by rw [← HR.out]; exact hkl
            try (exfalso; omega)
            all_goals
              obtain ⟨g, rfl, _, _, z0⟩ := info_at hown k hkp
              have hgd : P0.1.getD k 0 = P0.1[k] := by rw [List.getD_eq_getElem?_getD, List.getElem?_eq_getElem hkp]; rfl
              have hpj : P0.1[k] ≠ j := fun e => hhit ⟨hkp, by rw [hgd]; exact e⟩
              have hk1 : (k : Int) < (r : Int) := by omega
              have hmin : min (k : Int) ((r : Int) - 1) = (k : Int) := by omega
              generalize P0.1[k] = p at *
              have hbq : ((p : Int) == (j : Int)) = false := beq_eq_false_iff_ne.2 (by omega)
              have hbq2 : ¬ (p : Int) = (j : Int) := by omega
              clear hown hBas hBel hUp hgd hhit hpj
              have hmk2 := HMK.out
              have hwT : T ≤ wr.heap.size := by have := HBel.out.size; rw [HT.out]; exact this
              have hrow := World.rowIs_made wr (.int .i64 0) c 3
              have hR0 : RowAt wr.heap.size c (fun _ => 0) (wr.alloc (.cells (madeCells #[.int .i64 0] c) 3)) := ⟨hrow.lt, fun j hj => hrow.cell hj, fun j => hrow.frozen j⟩
              have y1 := hR0.at' j hlt
              have y2 := hR0.fz j
              have HR0 := Lib.hid hR0
              clear hrow hR0
              go_wp2
              have hR1 : RowAt wr.heap.size c (kerF P0.1 (fun i => (-(P0.2 i j)) % q) j 0) ((wr.alloc (.cells (madeCells #[.int .i64 0] c) 3)).setCell ⟨wr.heap.size, j, none⟩ (.int .i64 1)) := (HR0.out.set j hlt 1).congr fun t _ => rfl
              have hold : ∀ b, b < wr.heap.size → ((wr.alloc (.cells (madeCells #[.int .i64 0] c) 3)).setCell ⟨wr.heap.size, j, none⟩ (.int .i64 1)).heap[b]? = wr.heap[b]? := fun b hb => by
                rw [Below.heap_setCell _ _ _ _ (by show b ≠ wr.heap.size; omega)]
                exact Below.heap_alloc wr _ b hb
              have hbl : Below wr.heap.size wr ((wr.alloc (.cells (madeCells #[.int .i64 0] c) 3)).setCell ⟨wr.heap.size, j, none⟩ (.int .i64 1)) := (below_one wr _).setCell (p := ⟨wr.heap.size, j, none⟩) (Nat.le_refl _) _
              rw [World.setCell_alloc_new] at hR1 hold hbl
              obtain ⟨G0, hG0⟩ : ∃ G0, G0 = wr.heap.size := ⟨_, rfl⟩
              rw [← hG0]
              rw [← hG0] at hR1 hwT hold hbl
              have HG0 := Lib.hid hG0
              generalize (wr.alloc (.cells ((madeCells #[.int .i64 0] c).setIfInBounds j (.int .i64 1)) 3)) = W3 at *
              have HOLD := Lib.hid hold
              have HBL := Lib.hid hbl
              clear hG0 y1 y2 HR0 hmk2 hold hbl
              go_loopw [14] (fun iv wr' => ∃ i : Nat, i ≤ r ∧ iv = .int .i64 (i : Int) ∧ RowAt G0 c (kerF P0.1 (fun i => (-(P0.2 i j)) % q) j i) wr' ∧ ∃ m, Upd G0 (W3.drewN m) wr') (fun iv _ => r - (intOf iv).toNat)
              case atStart => exact ⟨0, Nat.zero_le _, rfl, hR1, 0, Upd.refl _ _⟩
              case round =>
                clear hR1
                obtain ⟨i, hi, rfl, hRw, m, hU⟩ := hrel
                have hB3 : Below T w4 wr := (below_drewN (HBel.out.trans (HBL.out.mono hwT)) m).trans (hU.below hwT)
                by_cases hil : i < r
                · have hip : i < P0.1.length := by rw [← HR.out]; exact hil
                  try (exfalso; omega)
                  all_goals
                    obtain ⟨g', e1, hg1, hg2, z0⟩ := info_at HRS.out.own i hip
                    simp only [Option.some.injEq, Addr.mk.injEq, and_true] at e1
                    subst e1
                    have hblk : ∀ b, b < w4.heap.size → wr.heap[b]? = w4.heap[b]? := fun b hb => hB3.block b (by rw [HT.out]; exact hb)
                    have z1 : wr.cell? ⟨g, i, none⟩ = some (.int .i64 (P0.1[i] : Int)) := (World.cell?_of_block (a := ⟨g, i, none⟩) (hblk g hg2)).trans z0
                    obtain ⟨vi, y0, bi, oi, ci, rfl, _, hbi, hcells⟩ := HRS.out.mat.row i (by omega)
                    have z2 := (World.cell?_of_block (a := ⟨H, i, none⟩) (hblk H HRS.out.mat.hlt)).trans y0
                    have z3 := (World.cell?_of_block (a := ⟨bi, oi + j, none⟩) (hblk bi hbi)).trans (hcells j (by omega))
                    rw [HE2.out i j hlt] at z3
                    have hjc2 : P0.1[i] < c := HLT.out _ (List.getElem_mem hip)
                    have hgd : P0.1.getD i 0 = P0.1[i] := by rw [List.getD_eq_getElem?_getD, List.getElem?_eq_getElem hip]; rfl
                    generalize P0.1[i] = pp at *
                    have z4 : wr.cell? ⟨G0, pp, none⟩ = some (.int .i64 (kerF P0.1 (fun i => (-(P0.2 i j)) % q) j i pp)) := hRw.at' pp hjc2
                    have z5 : ∀ m, (wr.drewN m).frozen? ⟨G0, pp, none⟩ = false := fun m => hRw.fz pp
                    have z6 : ∀ m, (wr.drewN m).cell? ⟨G0, pp, none⟩ = some (.int .i64 (kerF P0.1 (fun i => (-(P0.2 i j)) % q) j i pp)) := fun m => z4
                    have z8 : ∀ m, (wr.drewN m).cell? ⟨g, i, none⟩ = some (.int .i64 (pp : Int)) := fun m => z1
                    have hj1 : (pp : Int) < (c : Int) := by omega
                    have hj3 : (i : Int) < (n : Int) := by omega
                    have hj4 : (i : Int) < (r : Int) := by omega
                    have hj5 : (j : Int) < (c : Int) + 1 := by omega
                    have hXi := HRG.out i (by omega) j hlt
                    obtain ⟨X, hX⟩ : ∃ X, X = P0.2 i j := ⟨_, rfl⟩
                    rw [← hX] at z3 hXi
                    have c9 := c6 X hXi
                    rw [HSZ.out] at c9
                    obtain ⟨V, hV⟩ : ∃ V, V = (-X) % q := ⟨_, rfl⟩
                    rw [← hV] at c9
                    have HVV : Hid (V = (-(P0.2 i j)) % q) := by show V = _; rw [hV, hX]
                    have HRw := Lib.hid hRw
                    have HU := Lib.hid hU
                    have HGD2 := Lib.hid hgd
                    have z5a := z5 1
                    have z6a := z6 1
                    clear hRw hU hblk hgd z0 hV hX hB3 c6 hXi hcells y0
                    go_wp2
                    go_region_with (first
                      | (go_at_call 37; have h9 := (c9 wr.drew).out; refine Calls.mono h9 ?_; rintro e w5 ⟨rfl, n1, rfl⟩; have x1 := z5 (n1 + 1); have x2 := z6 (n1 + 1); have x3 := z8 (n1 + 1)))
                    all_goals
                      clear z1 z2 z3 z4 z5 z6 z8 z5a z6a
                      go_wp2
                      go_roundw
                      case rel =>
                        refine ⟨i + 1, by omega, by go_num, ((HRw.out.drewN _).set pp hjc2 V).congr fun t _ => ?_, m + (1 + n1), ?_⟩
                        · show (if t = pp then V else kerF P0.1 _ j i t) = kerF P0.1 _ j (i + 1) t
                          rw [kerF, HGD2.out, HVV.out]
                        · have h1 := (HU.out.drewN_both (1 + n1)).setCell pp (.int .i64 V)
                          rw [World.drewN_drewN] at h1
                          exact h1
                      case measure => simp [intOf]; omega
                · obtain rfl : i = r := by omega
                  have hbo : ∀ g, (_ : Value).ownBlock = some g → T ≤ g ∧ g < G0 := fun g hg => by
                    have := HBas.out.own.lt g hg
                    rw [HG0.out]; exact this
                  have hkeep : ∀ b, b < G0 → wr.heap[b]? = _ := fun b hb => (hU.block b (by omega)).trans (HOLD.out b hb)
                  have hBasN := HBas.out.keep (w' := wr) (fun b hb => hkeep b (by rw [HG0.out]; exact hb)) (by have h1 := hU.size; have h2 := HBL.out.size; have h3 : (W3.drewN m).heap.size = W3.heap.size := rfl; omega)
                  have hBoxB := hBasN.keep (w' := wr.alloc (.cells #[.slice (some ⟨G0, 0, none⟩) c c] 23)) (fun b hb => Below.heap_alloc wr _ b hb) (by simp)
                  have hRbox := (hRw.next (below_one wr (.cells #[.slice (some ⟨G0, 0, none⟩) c c] 23)))
                  have HBB := Lib.hid hBoxB
                  have HRB := Lib.hid hRbox
                  have hown2 := hBoxB.own
                  have HB3 := Lib.hid hB3
                  have HBO := Lib.hid hbo
                  have hT3 : T ≤ wr.heap.size := by have := hB3.size; rw [HT.out]; exact this
                  have hl64 := HL.out
                  obtain ⟨ln, hln2⟩ : ∃ ln, ln = (freeL P0.1 j).length := ⟨_, rfl⟩
                  rw [← hln2] at hown2 hl64
                  have HLN := Lib.hid hln2
                  clear hRw hU hB3 hbo hkeep hBasN hBoxB hRbox hln2
                  go_wp2_with (at_builtin; refine wpList_append_lies _ rfl _ _ 22 rfl T 23 i1 (.slice none 0 0) 1 24 Tryd.underlying22 hi1 hz0 hz1 hz2 rfl (by decide) _ _ _ rfl hown2 ⟨wr.heap.size, 0, none⟩ 1 1 [.slice (some ⟨G0, 0, none⟩) c c] rfl rfl (news_val wr _ _) (by intro u hu; simp at hu; subst hu; rfl) (by omega) (by unfold maxLen; omega) (by omega) (by simp; omega) _ rfl ?_)
                  intro g9 cp9 w9 hown' hgr hgo _
                  rw [HLN.out] at hown'
                  have hB5 := HBB.out.grow (j := j) (F := kerR q P0) (by have := HRB.out; rw [HR.out] at this; exact this) (by omega) (fun e => by have := (HBO.out G0 e).2; omega) hown' hgr (by simpa using hgo)
                  have HB9 := Lib.hid hB5
                  have HB6 : Hid (Below T w4 w9) := by
                    have h1 : Below T w4 (wr.alloc (.cells #[.slice (some ⟨G0, 0, none⟩) c c] 23)) := HB3.out.trans ((below_one wr _).mono hT3)
                    exact h1.trans ⟨hgr.os, hgr.tape, hgr.output, hgr.size, fun k hk => hgr.block k (by simp; omega) (fun e => by have := (HBO.out k e.symm).1; omega)⟩
                  clear hB5 hown' hgr hgo hown2
                  go_wp2
                  go_roundw
                  case rel => exact ⟨j + 1, k, _, by omega, by go_num, rfl, HMISS.out.2, by rw [freeL_no HMISS.out.1, HLN.out]; exact HB9.out, HB6.out⟩
                  case measure => simp [intOf]; omega
          · have hk1 : ¬ (k : Int) < (r : Int) := by omega
            clear hown hBas hBel hUp hhit
            have hmk2 := HMK.out
            have hwT : T ≤ wr.heap.size := by have := HBel.out.size; rw [HT.out]; exact this
            have hrow := World.rowIs_made wr (.int .i64 0) c 3
            have hR0 : RowAt wr.heap.size c (fun _ => 0) (wr.alloc (.cells (madeCells #[.int .i64 0] c) 3)) := ⟨hrow.lt, fun j hj => hrow.cell hj, fun j => hrow.frozen j⟩
            have y1 := hR0.at' j hlt
            have y2 := hR0.fz j
            have HR0 := Lib.hid hR0
            clear hrow hR0
            go_wp2
            have hR1 : RowAt wr.heap.size c (kerF P0.1 (fun i => (-(P0.2 i j)) % q) j 0) ((wr.alloc (.cells (madeCells #[.int .i64 0] c) 3)).setCell ⟨wr.heap.size, j, none⟩ (.int .i64 1)) := (HR0.out.set j hlt 1).congr fun t _ => rfl
            have hold : ∀ b, b < wr.heap.size → ((wr.alloc (.cells (madeCells #[.int .i64 0] c) 3)).setCell ⟨wr.heap.size, j, none⟩ (.int .i64 1)).heap[b]? = wr.heap[b]? := fun b hb => by
              rw [Below.heap_setCell _ _ _ _ (by show b ≠ wr.heap.size; omega)]
              exact Below.heap_alloc wr _ b hb
            have hbl : Below wr.heap.size wr ((wr.alloc (.cells (madeCells #[.int .i64 0] c) 3)).setCell ⟨wr.heap.size, j, none⟩ (.int .i64 1)) := (below_one wr _).setCell (p := ⟨wr.heap.size, j, none⟩) (Nat.le_refl _) _
            rw [World.setCell_alloc_new] at hR1 hold hbl
            obtain ⟨G0, hG0⟩ : ∃ G0, G0 = wr.heap.size := ⟨_, rfl⟩
            rw [← hG0]
            rw [← hG0] at hR1 hwT hold hbl
            have HG0 := Lib.hid hG0
            generalize (wr.alloc (.cells ((madeCells #[.int .i64 0] c).setIfInBounds j (.int .i64 1)) 3)) = W3 at *
            have HOLD := Lib.hid hold
            have HBL := Lib.hid hbl
            clear hG0 y1 y2 HR0 hmk2 hold hbl
            go_loopw [14] (fun iv wr' => ∃ i : Nat, i ≤ r ∧ iv = .int .i64 (i : Int) ∧ RowAt G0 c (kerF P0.1 (fun i => (-(P0.2 i j)) % q) j i) wr' ∧ ∃ m, Upd G0 (W3.drewN m) wr') (fun iv _ => r - (intOf iv).toNat)
            case atStart => exact ⟨0, Nat.zero_le _, rfl, hR1, 0, Upd.refl _ _⟩
            case round =>
              clear hR1
              obtain ⟨i, hi, rfl, hRw, m, hU⟩ := hrel
              have hB3 : Below T w4 wr := (below_drewN (HBel.out.trans (HBL.out.mono hwT)) m).trans (hU.below hwT)
              by_cases hil : i < r
              · have hip : i < P0.1.length := by rw [← HR.out]; exact hil
                try (exfalso; omega)
                all_goals
                  obtain ⟨g', e1, hg1, hg2, z0⟩ := info_at HRS.out.own i hip
                  subst e1
                  have hblk : ∀ b, b < w4.heap.size → wr.heap[b]? = w4.heap[b]? := fun b hb => hB3.block b (by rw [HT.out]; exact hb)
                  have z1 : wr.cell? ⟨g', i, none⟩ = some (.int .i64 (P0.1[i] : Int)) := (World.cell?_of_block (a := ⟨g', i, none⟩) (hblk g' hg2)).trans z0
                  obtain ⟨vi, y0, bi, oi, ci, rfl, _, hbi, hcells⟩ := HRS.out.mat.row i (by omega)
                  have z2 := (World.cell?_of_block (a := ⟨H, i, none⟩) (hblk H HRS.out.mat.hlt)).trans y0
                  have z3 := (World.cell?_of_block (a := ⟨bi, oi + j, none⟩) (hblk bi hbi)).trans (hcells j (by omega))
                  rw [HE2.out i j hlt] at z3
                  have hjc2 : P0.1[i] < c := HLT.out _ (List.getElem_mem hip)
                  have hgd : P0.1.getD i 0 = P0.1[i] := by rw [List.getD_eq_getElem?_getD, List.getElem?_eq_getElem hip]; rfl
                  generalize P0.1[i] = pp at *
                  have z4 : wr.cell? ⟨G0, pp, none⟩ = some (.int .i64 (kerF P0.1 (fun i => (-(P0.2 i j)) % q) j i pp)) := hRw.at' pp hjc2
                  have z5 : ∀ m, (wr.drewN m).frozen? ⟨G0, pp, none⟩ = false := fun m => hRw.fz pp
                  have z6 : ∀ m, (wr.drewN m).cell? ⟨G0, pp, none⟩ = some (.int .i64 (kerF P0.1 (fun i => (-(P0.2 i j)) % q) j i pp)) := fun m => z4
                  have z8 : ∀ m, (wr.drewN m).cell? ⟨g', i, none⟩ = some (.int .i64 (pp : Int)) := fun m => z1
                  have hj1 : (pp : Int) < (c : Int) := by omega
                  have hj3 : (i : Int) < (n : Int) := by omega
                  have hj4 : (i : Int) < (r : Int) := by omega
                  have hj5 : (j : Int) < (c : Int) + 1 := by omega
                  have hXi := HRG.out i (by omega) j hlt
                  obtain ⟨X, hX⟩ : ∃ X, X = P0.2 i j := ⟨_, rfl⟩
                  rw [← hX] at z3 hXi
                  have c9 := c6 X hXi
                  rw [HSZ.out] at c9
                  obtain ⟨V, hV⟩ : ∃ V, V = (-X) % q := ⟨_, rfl⟩
                  rw [← hV] at c9
                  have HVV : Hid (V = (-(P0.2 i j)) % q) := by show V = _; rw [hV, hX]
                  have HRw := Lib.hid hRw
                  have HU := Lib.hid hU
                  have HGD2 := Lib.hid hgd
                  have z5a := z5 1
                  have z6a := z6 1
                  clear hRw hU hblk hgd z0 hV hX hB3 c6 hXi hcells y0
                  go_wp2
                  go_region_with (first
                    | (go_at_call 37; have h9 := (c9 wr.drew).out; refine Calls.mono h9 ?_; rintro e w5 ⟨rfl, n1, rfl⟩; have x1 := z5 (n1 + 1); have x2 := z6 (n1 + 1); have x3 := z8 (n1 + 1)))
                  all_goals
                    clear z1 z2 z3 z4 z5 z6 z8 z5a z6a
                    go_wp2
                    go_roundw
                    case rel =>
                      refine ⟨i + 1, by omega, by go_num, ((HRw.out.drewN _).set pp hjc2 V).congr fun t _ => ?_, m + (1 + n1), ?_⟩
                      · show (if t = pp then V else kerF P0.1 _ j i t) = kerF P0.1 _ j (i + 1) t
                        rw [kerF, HGD2.out, HVV.out]
                      · have h1 := (HU.out.drewN_both (1 + n1)).setCell pp (.int .i64 V)
                        rw [World.drewN_drewN] at h1
                        exact h1
                    case measure => simp [intOf]; omega
              · obtain rfl : i = r := by omega
                have hbo : ∀ g, (_ : Value).ownBlock = some g → T ≤ g ∧ g < G0 := fun g hg => by
                  have := HBas.out.own.lt g hg
                  rw [HG0.out]; exact this
                have hkeep : ∀ b, b < G0 → wr.heap[b]? = _ := fun b hb => (hU.block b (by omega)).trans (HOLD.out b hb)
                have hBasN := HBas.out.keep (w' := wr) (fun b hb => hkeep b (by rw [HG0.out]; exact hb)) (by have h1 := hU.size; have h2 := HBL.out.size; have h3 : (W3.drewN m).heap.size = W3.heap.size := rfl; omega)
                have hBoxB := hBasN.keep (w' := wr.alloc (.cells #[.slice (some ⟨G0, 0, none⟩) c c] 23)) (fun b hb => Below.heap_alloc wr _ b hb) (by simp)
                have hRbox := (hRw.next (below_one wr (.cells #[.slice (some ⟨G0, 0, none⟩) c c] 23)))
                have HBB := Lib.hid hBoxB
                have HRB := Lib.hid hRbox
                have hown2 := hBoxB.own
                have HB3 := Lib.hid hB3
                have HBO := Lib.hid hbo
                have hT3 : T ≤ wr.heap.size := by have := hB3.size; rw [HT.out]; exact this
                have hl64 := HL.out
                obtain ⟨ln, hln2⟩ : ∃ ln, ln = (freeL P0.1 j).length := ⟨_, rfl⟩
                rw [← hln2] at hown2 hl64
                have HLN := Lib.hid hln2
                clear hRw hU hB3 hbo hkeep hBasN hBoxB hRbox hln2
                go_wp2_with (at_builtin; refine wpList_append_lies _ rfl _ _ 22 rfl T 23 i1 (.slice none 0 0) 1 24 Tryd.underlying22 hi1 hz0 hz1 hz2 rfl (by decide) _ _ _ rfl hown2 ⟨wr.heap.size, 0, none⟩ 1 1 [.slice (some ⟨G0, 0, none⟩) c c] rfl rfl (news_val wr _ _) (by intro u hu; simp at hu; subst hu; rfl) (by omega) (by unfold maxLen; omega) (by omega) (by simp; omega) _ rfl ?_)
                intro g9 cp9 w9 hown' hgr hgo _
                rw [HLN.out] at hown'
                have hB5 := HBB.out.grow (j := j) (F := kerR q P0) (by have := HRB.out; rw [HR.out] at this; exact this) (by omega) (fun e => by have := (HBO.out G0 e).2; omega) hown' hgr (by simpa using hgo)
                have HB9 := Lib.hid hB5
                have HB6 : Hid (Below T w4 w9) := by
                  have h1 : Below T w4 (wr.alloc (.cells #[.slice (some ⟨G0, 0, none⟩) c c] 23)) := HB3.out.trans ((below_one wr _).mono hT3)
                  exact h1.trans ⟨hgr.os, hgr.tape, hgr.output, hgr.size, fun k hk => hgr.block k (by simp; omega) (fun e => by have := (HBO.out k e.symm).1; omega)⟩
                clear hB5 hown' hgr hgo hown2
                go_wp2
                go_roundw
                case rel => exact ⟨j + 1, k, _, by omega, by go_num, rfl, HMISS.out.2, by rw [freeL_no HMISS.out.1, HLN.out]; exact HB9.out, HB6.out⟩
                case measure => simp [intOf]; omega
      · obtain rfl : j = c := by omega
        have HBas := Lib.hid hBas
        have HBel := Lib.hid hBel
        clear hBas hBel hUp
        go_wp2
        go_ret2
        refine ⟨_, by rw [HV.out]; rfl, ?_, HB5.out.trans (HBel.out.mono (by rw [HT.out]; exact HB5.out.size))⟩
        rw [HV.out]
        exact HBas.out.rows
end Go.Proofs.YtdeeoigcpihidaaDoor
