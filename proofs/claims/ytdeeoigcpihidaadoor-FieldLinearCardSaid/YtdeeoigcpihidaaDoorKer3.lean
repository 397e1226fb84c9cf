/- Kernel, where there is one. -/
import Derived.Test.YtdeeoigcpihidaaDoorKer2
namespace Go.Proofs.YtdeeoigcpihidaaDoor
open Go.RowKit

theorem freeL_len (piv : List Nat) (c : Nat) : (freeL piv c).length ≤ c := by
  have := List.length_filter_le (fun j => !decide (j ∈ piv)) (List.range c)
  rw [List.length_range] at this
  exact this
theorem freeL_yes {piv : List Nat} {c : Nat} (h : c ∈ piv) : freeL piv (c + 1) = freeL piv c := by rw [freeL_snoc, if_pos h]
theorem freeL_no {piv : List Nat} {c : Nat} (h : ¬ c ∈ piv) : freeL piv (c + 1) = freeL piv c ++ [c] := by rw [freeL_snoc, if_neg h]
theorem allR_red {q : Int} (hq : isMod q) {n C : Nat} : ∀ (f j : Nat) (piv : List Nat) (M : Nat → Nat → Int), allR q n C M → j + f ≤ C → allR q n C (redF q n f j piv M).2
  | 0, _, _, _, hM, _ => hM
  | f + 1, j, piv, M, hM, hC => by
    rw [redF]
    split
    · exact allR_red hq f _ _ _ hM (by omega)
    · rename_i i hf
      obtain ⟨_, h4, _, _⟩ := firstF_some _ _ _ hf
      exact allR_red hq f _ _ _ (((hM.swap piv.length (piv.length + i) (by omega) (by omega)).scale hq _ _).clear hq _ _ _) (by omega)
set_option maxRecDepth 100000 in
set_option maxHeartbeats 2000000 in
theorem kernel_good (q : Int) (hqi : isInt q) (v : Value) (xss : List (List Int)) (cols : Int) (hn : xss.length ≤ 9223372036854775807) (hr : ∀ r ∈ xss, r.length ≤ 9223372036854775807)
    (hi : ∀ r ∈ xss, ∀ x ∈ r, isInt x) (w : World) (hE : Env w) (h : IsRows v xss w) (hok : kerOk q xss cols) :
    Calls Tryd.prog 10 #[.int .i64 q, v, .int .i64 cols] w (KerP q xss cols w) := by
  have c1 := Lib.hid (width_calls v xss w h hn hr)
  obtain ⟨a, cap, rfl⟩ := h.len
  obtain ⟨hm, hlen, hc0, hc64, hp⟩ := id hok
  rw [show widV xss = .tuple #[.int .i64 (widF xss : Int), .bool true] by unfold widV; rw [if_pos hm]] at c1
  have c2 := Lib.hid (prime_calls q hqi w hE)
  rw [hp] at c2
  have hq := primeB_mod hp
  obtain ⟨hn64, _, hrw⟩ := matB_rows hm
  obtain ⟨c, rfl⟩ : ∃ c : Nat, cols = (c : Int) := ⟨cols.toNat, by omega⟩
  have hrc : ∀ r ∈ xss, r.length = c := fun r hr => by
    rcases hlen with h0 | h0
    · rw [List.eq_nil_of_length_eq_zero h0] at hr; simp at hr
    · rw [hrw r hr]; omega
  obtain ⟨W, hW⟩ : ∃ W, W = widF xss := ⟨_, rfl⟩
  rw [← hW] at c1 hlen
  obtain ⟨P, hP⟩ : ∃ P, P = redF q xss.length c 0 [] (resM q xss) := ⟨_, rfl⟩
  have HV : Hid (kerO q xss (c : Int) = some ((freeL P.1 c).map fun j => (List.range c).map (kerR q P j))) := by
    show _ = _; unfold kerO; rw [if_pos hok, hP]; rfl
  have c3 := fun m => Lib.hid (residues_calls q hq (.slice a xss.length cap) xss c hrc (by omega) (by omega) hi _ (h.next (below_drewN (Below.refl w.heap.size w) m)))
  obtain ⟨n, hnn⟩ : ∃ n, n = xss.length := ⟨_, rfl⟩
  rw [← hnn] at hP hn64 c3 c1 hlen
  rw [← hnn]
  have HP := Lib.hid hP
  have c5 := fun x (hx : isInt x) w => Lib.hid (residue_calls q x hq hx.1 hx.2 w)
  have c6 := fun H R K w' hm => Lib.hid (reduce_calls q hq w.heap.size H n c c n (by omega) (by omega) (Nat.le_refl _) (Nat.le_refl _) R K (resM q xss) (resM_all hq xss n c) w' hm)
  rw [← hP] at c6
  have HLT : Hid (∀ x ∈ P.1, x < c) := by
    show ∀ x ∈ P.1, x < c
    have := redF_lt q n c 0 [] (resM q xss) (by simp)
    rw [← hP, Nat.zero_add] at this
    exact this
  have hR := allR_red hq (n := n) (C := c) c 0 [] (resM q xss) (resM_all hq xss n c) (by omega)
  rw [← hP] at hR
  have HRG : Hid (∀ i, i < n → ∀ j, j < c → 0 ≤ P.2 i j ∧ P.2 i j < 2305843009213693952) := fun i hi j hj => by
    have h1 := hR i hi j hj
    have h2 := hq.2
    exact ⟨h1.1, by have := h1.2; omega⟩
  have hmk2 := fun w => run_make_row' (P := Tryd.prog) 23 3 (.int .i64 0) 8 Tryd.underlying23 infoInt' rfl .i64 .i64 c (by omega) (by omega) w
  have HMK := Lib.hid hmk2
  have hlc : ∀ j, j ≤ c → (freeL P.1 j).length ≤ 64 := fun j hj => by have := freeL_len P.1 j; omega
  have hc65 : ¬ (64 : Int) < (c : Int) := by omega
  have hc00 : ¬ (c : Int) < 0 := by omega
  have HLC := Lib.hid hlc
  clear hP hp hm hW hnn h hn hE hqi hi hrc hr hrw hok hc0 hc64 hmk2 hR hlc
  obtain ⟨piv, M⟩ := P
  simp only at HRG HLC HLT
  have hcase : ¬ (0 : Int) < (n : Int) ∨ ((0 : Int) < (n : Int) ∧ ((W : Int) != (c : Int)) = false) := by
    rcases hlen with h0 | h0
    · exact .inl (by omega)
    · by_cases h1 : (0 : Int) < (n : Int)
      · exact .inr ⟨h1, by rw [h0]; simp⟩
      · exact .inl h1
  clear hlen
  rcases hcase with hA | ⟨hA, hB⟩
  all_goals
    go_enter Tryd.func10, Tryd.ntmps10
    go_wp2_with fail
    refine c1.out.mono ?_
    rintro e w' ⟨rfl, rfl⟩
    go_wp2_with fail
    refine Calls.mono c2.out ?_
    rintro e w' ⟨rfl, m, rfl⟩
    go_wp2_with fail
    refine Calls.mono (c3 m).out ?_
    rintro e w1 ⟨H, R, rfl, hM1, hB1⟩
    have HB0 : Hid (Below w.heap.size w w1) := (below_drewN (Below.refl _ _) m).trans hB1
    have c7 := c6 H R _ w1 hM1
    have hTw : w.heap.size ≤ H ∧ H < w1.heap.size := hM1.hlt
    clear c1 c2 c3 c6 hM1 hB1 hA
    go_wp2_with fail
    refine Calls.mono c7.out ?_
    clear c7
    rintro e w2 ⟨pv, rfl, R', K', hRed, hln⟩
    obtain ⟨r, hr⟩ : ∃ r, r = piv.length := ⟨_, rfl⟩
    obtain ⟨ap, cpp, rfl⟩ := own_len hRed.own
    have HRed := Lib.hid hRed
    have HBW : Hid (Below w.heap.size w w2) := hRed.bel |> fun hb => HB0.out.trans hb
    obtain ⟨T, hT⟩ : ∃ T, T = w2.heap.size := ⟨_, rfl⟩
    have hBas : Bas T c (kerR q (piv, M)) (freeL piv 0) (fun _ => 0) (.slice none 0 0) w2 := Bas.empty _ _ _ _ _
    have hBel : Below T w2 w2 := Below.refl _ _
    rw [← hr]
    have HRr := Lib.hid hr
    have HT := Lib.hid hT
    clear hr hT hRed
    obtain ⟨i1, hi1, hz0, hz1, hz2⟩ := info_parts infoRow
    go_wp2
    go_loopw [12, 55] (fun bv jv wr => ∃ (j : Nat) (G : Nat → Nat), j ≤ c ∧ jv = .int .i64 (j : Int) ∧ Bas T c (kerR q (piv, M)) (freeL piv j) G bv wr ∧ Below T w2 wr) (fun _ jv _ => c - (intOf jv).toNat)
    case atStart => exact ⟨0, _, Nat.zero_le _, rfl, hBas, hBel⟩
    case round =>
      clear hBas hBel
      obtain ⟨j, G, hj, rfl, hBas, hBel⟩ := hrel
      by_cases hlt : j < c
      · have hjc : (j : Int) < (c : Int) := by omega
        have hown : wr.ownsRow w1.heap.size 3 1 (.slice ap piv.length cpp) piv.length (ics piv) := own_keep HRed.out.own fun g hg => hBel.block g (by rw [HT.out]; exact hg)
        have c8 := Lib.hid (contains_calls wr _ _ piv hown (by have := HRr.out; omega) j)
        rw [← HRr.out] at c8
        have HBas := Lib.hid hBas
        have HBel := Lib.hid hBel
        have HL := Lib.hid (HLC.out j hj)
        clear hown hBas hBel
        by_cases hjp : j ∈ piv
        · have hd : decide (j ∈ piv) = true := by simpa using hjp
          rw [hd] at c8
          have HF := Lib.hid (freeL_yes hjp)
          clear hd hjp
          go_wp2_with fail
          refine c8.out.mono ?_
          clear c8
          rintro e w' ⟨rfl, rfl⟩
          go_wp2
          go_roundw
          case rel => exact ⟨j + 1, G, by omega, by go_num, by rw [HF.out]; exact HBas.out, HBel.out⟩
          case measure => simp [intOf]; omega
        · have hd : decide (j ∈ piv) = false := by simpa using hjp
          rw [hd] at c8
          have HF := Lib.hid (freeL_no hjp)
          have hmk2 := HMK.out
          have hwT : T ≤ wr.heap.size := by have := HBel.out.size; rw [HT.out]; exact this
          have hrow := World.rowIs_made wr (.int .i64 0) c 3
          have hR0 : RowAt wr.heap.size c (fun _ => 0) (wr.alloc (.cells (madeCells #[.int .i64 0] c) 3)) := ⟨hrow.lt, fun j hj => hrow.cell hj, fun j => hrow.frozen j⟩
          have y1 := hR0.at' j hlt
          have y2 := hR0.fz j
          have HR0 := Lib.hid hR0
          clear hd hjp hrow hR0
          go_wp2_with fail
          refine c8.out.mono ?_
          clear c8
          rintro e w' ⟨rfl, rfl⟩
          go_wp2
          have hR1 : RowAt wr.heap.size c (kerF piv (fun i => (-(M i j)) % q) j 0) ((wr.alloc (.cells (madeCells #[.int .i64 0] c) 3)).setCell ⟨wr.heap.size, j, none⟩ (.int .i64 1)) := (HR0.out.set j hlt 1).congr fun t _ => rfl
          have hold : ∀ b, b < wr.heap.size → ((wr.alloc (.cells (madeCells #[.int .i64 0] c) 3)).setCell ⟨wr.heap.size, j, none⟩ (.int .i64 1)).heap[b]? = wr.heap[b]? := fun b hb => by
            rw [Below.heap_setCell _ _ _ _ (by show b ≠ wr.heap.size; omega)]
            exact Below.heap_alloc wr _ b hb
          have hbl : Below wr.heap.size wr ((wr.alloc (.cells (madeCells #[.int .i64 0] c) 3)).setCell ⟨wr.heap.size, j, none⟩ (.int .i64 1)) := (below_one wr _).setCell (p := ⟨wr.heap.size, j, none⟩) (Nat.le_refl _) _
          rw [World.setCell_alloc_new] at hR1 hold hbl
          obtain ⟨G0, hG0⟩ : ∃ G0, G0 = wr.heap.size := ⟨_, rfl⟩
          rw [← hG0]
          rw [← hG0] at hR1 hwT hold hbl
          have HG0 := Lib.hid hG0
          generalize (wr.alloc (.cells ((madeCells #[.int .i64 0] c).setIfInBounds j (.int .i64 1)) 3)) = W3 at *
          have HOLD := Lib.hid hold
          have HBL := Lib.hid hbl
          clear hG0 y1 y2 HR0 hmk2 hold hbl
          go_loopw [68] (fun iv wr' => ∃ i : Nat, i ≤ r ∧ iv = .int .i64 (i : Int) ∧ RowAt G0 c (kerF piv (fun i => (-(M i j)) % q) j i) wr' ∧ Upd G0 W3 wr') (fun iv _ => r - (intOf iv).toNat)
          case atStart => exact ⟨0, Nat.zero_le _, rfl, hR1, Upd.refl _ _⟩
          case round =>
            clear hR1
            obtain ⟨i, hi, rfl, hRw, hU⟩ := hrel
            have hB3 : Below T w2 wr := (HBel.out.trans (HBL.out.mono hwT)).trans (hU.below hwT)
            by_cases hil : i < r
            · have hip : i < piv.length := by rw [← HRr.out]; exact hil
              obtain ⟨g, rfl, hg1, hg2, z0⟩ := info_at HRed.out.own i hip
              have hblk : ∀ b, b < w2.heap.size → wr.heap[b]? = w2.heap[b]? := fun b hb => hB3.block b (by rw [HT.out]; exact hb)
              have z1 : wr.cell? ⟨g, i, none⟩ = some (.int .i64 (piv[i] : Int)) := (World.cell?_of_block (a := ⟨g, i, none⟩) (hblk g hg2)).trans z0
              have hHl := HRed.out.mat.hlt
              have hHt := HRed.out.mat.tlt
              have z2 : wr.cell? ⟨H, i, none⟩ = some (.slice (some ⟨R' i, 0, none⟩) c (K' i)) := (World.cell?_of_block (a := ⟨H, i, none⟩) (hblk H (by omega))).trans (HRed.out.mat.hat i (by omega))
              have hRi := HRed.out.mat.rlt i (by omega)
              have z3 : wr.cell? ⟨R' i, j, none⟩ = some (.int .i64 (M i j)) := (World.cell?_of_block (a := ⟨R' i, j, none⟩) (hblk (R' i) (by omega))).trans ((HRed.out.mat.rat i (by omega)).at' j hlt)
              have hjc2 : piv[i] < c := HLT.out _ (List.getElem_mem hip)
              have hgd : piv.getD i 0 = piv[i] := by rw [List.getD_eq_getElem?_getD, List.getElem?_eq_getElem hip]; rfl
              generalize piv[i] = p at *
              have z4 : wr.cell? ⟨G0, p, none⟩ = some (.int .i64 (kerF piv (fun i => (-(M i j)) % q) j i p)) := hRw.at' p hjc2
              have z5 : wr.frozen? ⟨G0, p, none⟩ = false := hRw.fz p
              have hj1 : (p : Int) < (c : Int) := by omega
              have hj3 : (i : Int) < (n : Int) := by omega
              have hj4 : (i : Int) < (r : Int) := by omega
              obtain ⟨X, hX⟩ : ∃ X, X = M i j := ⟨_, rfl⟩
              rw [← hX] at z3
              have hXr := HRG.out i (by omega) j hlt
              rw [← hX] at hXr
              obtain ⟨D, hD⟩ : ∃ D, D = -X := ⟨_, rfl⟩
              have hwrap : IntKind.i64.wrap (-X) = D := by simp only [IntKind.wrap, IntKind.bits, IntKind.signed]; simp; omega
              have c9 := c5 D (by unfold isInt; omega)
              obtain ⟨V, hV⟩ : ∃ V, V = D % q := ⟨_, rfl⟩
              rw [← hV] at c9
              have HVV : Hid (V = (-(M i j)) % q) := by show V = _; rw [hV, hD, hX]
              have HRw := Lib.hid hRw
              have HU := Lib.hid hU
              have HGD := Lib.hid hgd
              generalize R' i = Ri at *
              generalize K' i = Ki at *
              clear hRw hU hblk hgd z0 hV hD hX hB3 c5 hXr hHl hHt hRi
              try (exfalso; omega)
              all_goals
                go_wp2_with fail
                refine Calls.mono (c9 _).out ?_
                rintro e w3 ⟨rfl, rfl⟩
                go_wp2
                go_roundw
                case rel =>
                  refine ⟨i + 1, by omega, by go_num, (HRw.out.set p hjc2 V).congr fun t _ => ?_, HU.out.setCell p _⟩
                  show (if t = p then V else kerF piv _ j i t) = kerF piv _ j (i + 1) t
                  rw [kerF, HGD.out, HVV.out]
                case measure => simp [intOf]; omega
            · obtain rfl : i = r := by omega
              have hbo : ∀ g, (_ : Value).ownBlock = some g → T ≤ g ∧ g < G0 := fun g hg => by
                have := HBas.out.own.lt g hg
                rw [HG0.out]; exact this
              have hkeep : ∀ b, b < G0 → wr.heap[b]? = _ := fun b hb => (hU.block b (by omega)).trans (HOLD.out b hb)
              have hBasN := HBas.out.keep (w' := wr) (fun b hb => hkeep b (by rw [HG0.out]; exact hb)) (by have h1 := hU.size; have h2 := HBL.out.size; omega)
              have hBoxB := hBasN.keep (w' := wr.alloc (.cells #[.slice (some ⟨G0, 0, none⟩) c c] 23)) (fun b hb => Below.heap_alloc wr _ b hb) (by simp)
              have hRbox := (hRw.next (below_one wr (.cells #[.slice (some ⟨G0, 0, none⟩) c c] 23)))
              have HBB := Lib.hid hBoxB
              have HRB := Lib.hid hRbox
              have hown := hBoxB.own
              have HU := Lib.hid hU
              have HB3 := Lib.hid hB3
              have HBO := Lib.hid hbo
              have hT3 : T ≤ wr.heap.size := by have := hB3.size; rw [HT.out]; exact this
              have hl64 := HL.out
              obtain ⟨ln, hln2⟩ : ∃ ln, ln = (freeL piv j).length := ⟨_, rfl⟩
              rw [← hln2] at hown hl64
              have HLN := Lib.hid hln2
              clear hRw hU hB3 hbo hkeep hBasN hBoxB hRbox hln2 hl64
              go_wp2_with (at_builtin; (refine wpList_append_lies _ rfl _ _ 22 rfl T 23 i1 (.slice none 0 0) 1 24 Tryd.underlying22 hi1 hz0 hz1 hz2 rfl (by decide) _ _ _ rfl hown ⟨wr.heap.size, 0, none⟩ 1 1 [.slice (some ⟨G0, 0, none⟩) c c] rfl rfl ?c1 ?c2 (by omega) ?c3 ?c4 ?c5 _ rfl ?_))
              case c1 =>
                intro j' u hj'
                match j', hj' with
                | 0, hj' => simp at hj'; subst hj'; simp [Addr.add]
              case c2 => intro u hu; simp at hu; subst hu; rfl
              case c3 => have := HL.out; rw [← HLN.out] at this; unfold maxLen; omega
              case c4 => have := HL.out; rw [← HLN.out] at this; omega
              case c5 => simp; omega
              intro g cp w' hown' hgr hgo _
              rw [HLN.out] at hown'
              have hB5 := HBB.out.grow (j := j) (F := kerR q (piv, M)) (by have := HRB.out; rw [HRr.out] at this; exact this) (by omega) (fun e => by have := (HBO.out G0 e).2; omega) hown' hgr (by simpa using hgo)
              have HB5 := Lib.hid hB5
              have HB6 : Hid (Below T w2 w') := by
                have h1 : Below T w2 (wr.alloc (.cells #[.slice (some ⟨G0, 0, none⟩) c c] 23)) := HB3.out.trans ((below_one wr _).mono hT3)
                exact h1.trans ⟨hgr.os, hgr.tape, hgr.output, hgr.size, fun k hk => hgr.block k (by simp; omega) (fun e => by have := (HBO.out k e.symm).1; omega)⟩
              clear hB5 hown' hgr hgo hown
              go_wp2
              go_roundw
              case rel => exact ⟨j + 1, _, by omega, by go_num, by rw [HF.out, HLN.out]; exact HB5.out, HB6.out⟩
              case measure => simp [intOf]; omega
      · obtain rfl : j = c := by omega
        have HBas := Lib.hid hBas
        have HBel := Lib.hid hBel
        clear hBas hBel
        go_wp2
        go_ret2
        refine ⟨_, by rw [HV.out]; rfl, ?_, HBW.out.trans (HBel.out.mono (by rw [HT.out]; exact HBW.out.size))⟩
        rw [HV.out]
        exact HBas.out.rows
end Go.Proofs.YtdeeoigcpihidaaDoor
