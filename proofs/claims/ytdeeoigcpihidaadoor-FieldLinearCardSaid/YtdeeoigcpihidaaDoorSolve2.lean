/- Solve. -/
import Derived.Test.YtdeeoigcpihidaaDoorSolD
namespace Go.Proofs.YtdeeoigcpihidaaDoor
open Go.RowKit

theorem grown_below {W w w' : World} (hg : w.drew.grownBy w' none) (hb : Below W.heap.size W w) : Below W.heap.size W w' := by
  refine hb.trans ⟨hg.os, hg.tape, hg.output, hg.size, fun k hk => hg.block k (Nat.lt_of_lt_of_le hk hb.size) (by simp)⟩
set_option maxRecDepth 100000 in
set_option maxHeartbeats 2000000 in
theorem solve_calls (q : Int) (hqi : isInt q) (v : Value) (xss : List (List Int)) (bv : Value) (b : List Int) (hn : xss.length ≤ 9223372036854775807) (hr : ∀ r ∈ xss, r.length ≤ 9223372036854775807) (_hb : b.length ≤ 9223372036854775807)
    (hi : ∀ r ∈ xss, ∀ x ∈ r, isInt x) (hbi : ∀ x ∈ b, isInt x) (w : World) (hE : Env w) (h : IsRows v xss w) (hbv : IsInts bv b w) :
    Calls Tryd.prog 8 #[.int .i64 q, v, bv] w (SolP q xss b w) := by
  have c1 := Lib.hid (width_calls v xss w h hn hr)
  obtain ⟨a, cap, rfl⟩ := h.len
  obtain ⟨ab, capb, rfl⟩ := hbv.len
  by_cases hm : matB xss = true
  · rw [show widV xss = .tuple #[.int .i64 (widF xss : Int), .bool true] by unfold widV; rw [if_pos hm]] at c1
    by_cases hl : b.length = xss.length
    · have c2 := Lib.hid (prime_calls q hqi w hE)
      cases hp : primeB q with
      | false =>
        rw [hp] at c2
        have HV : Hid (solO q xss b = none) := by show _ = _; unfold solO; rw [if_neg (by rw [hp]; simp)]
        have hbne : ((b.length : Int) != (xss.length : Int)) = false := by rw [hl]; simp
        have HL := Lib.hid hl
        clear hp hl hm
        go_enter Tryd.func8, Tryd.ntmps8
        go_wp2_with fail
        refine c1.out.mono ?_
        rintro e w' ⟨rfl, rfl⟩
        go_wp2_with fail
        refine Calls.mono c2.out ?_
        rintro e w' ⟨rfl, m, rfl⟩
        go_wp2
        go_ret2
        exact SolP.no HV.out (below_drewN (Below.refl _ _) m)
      | true =>
        rw [hp] at c2
        have hq := primeB_mod hp
        obtain ⟨hn64, hc64, hrc⟩ := matB_rows hm
        obtain ⟨c, hcd⟩ : ∃ c, c = widF xss := ⟨_, rfl⟩
        obtain ⟨P, hP⟩ : ∃ P, P = redF q xss.length (c + 1) 0 [] (augM q xss b c) := ⟨_, rfl⟩
        have HV : Hid (solO q xss b = if c ∈ P.1 then none else some ((List.range c).map (solF P.1 (fun i => P.2 i c) P.1.length))) := by
          show _ = _
          unfold solO; rw [if_pos ⟨hm, hl, hp⟩, hP, hcd]
        rw [← hcd] at hrc hc64 c1
        have c3 := fun m => Lib.hid (residues_calls q hq (.slice a xss.length cap) xss c hrc (by omega) (by omega) hi _ (h.next (below_drewN (Below.refl w.heap.size w) m)))
        obtain ⟨n, hnn⟩ : ∃ n, n = xss.length := ⟨_, rfl⟩
        have hbl : b.length = n := by rw [hl, hnn]
        rw [← hnn] at hP hn64 c3 c1
        rw [hbl]
        rw [hbl] at hbv
        rw [← hnn]
        have hbne : ((n : Int) != (n : Int)) = false := by simp
        have HP := Lib.hid hP
        have HBL := Lib.hid hbl
        have HBV := Lib.hid hbv
        have c5 := fun x (hx : isInt x) w => Lib.hid (residue_calls q x hq hx.1 hx.2 w)
        obtain ⟨C1, hC1⟩ : ∃ C1, C1 = c + 1 := ⟨_, rfl⟩
        have hC1i : (c : Int) + 1 = (C1 : Int) := by omega
        have c6 := fun H R K w' hm => Lib.hid (reduce_calls q hq w.heap.size H n C1 C1 n (by omega) (by omega) (Nat.le_refl _) (Nat.le_refl _) R K (augM q xss b c) (augM_all hq xss b c n C1) w' hm)
        rw [hC1, ← hP, ← hC1] at c6
        clear hP hC1 hbl hbv hp hl hm hcd hnn h hn _hb hE hqi hi hrc hr
        have HC1 : Hid (C1 = c + 1) := by show C1 = c + 1; omega
        go_enter Tryd.func8, Tryd.ntmps8
        go_wp2_with fail
        refine c1.out.mono ?_
        rintro e w' ⟨rfl, rfl⟩
        go_wp2_with fail
        refine Calls.mono c2.out ?_
        rintro e w' ⟨rfl, m, rfl⟩
        go_wp2_with fail
        refine Calls.mono (c3 m).out ?_
        rintro e w1 ⟨H, R, rfl, hM1, hB1⟩
        have hA0 : Aug q xss b w.heap.size c H n 0 R (fun _ => c) w1 := Aug.start hM1
        have hBw : Below w.heap.size w w1 := (below_drewN (Below.refl _ _) m).trans hB1
        clear c1 c2 c3 hM1 hB1
        obtain ⟨i0, hi0, hz0, hz1, hz2⟩ := info_parts infoInt
        go_wp2
        go_loopw [41] (fun iv wr => ∃ (k : Nat) (R K : Nat → Nat), k ≤ n ∧ iv = .int .i64 (k : Int) ∧ Aug q xss b w.heap.size c H n k R K wr ∧ Below w.heap.size w wr) (fun iv _ => n - (intOf iv).toNat)
        case atStart => exact ⟨0, R, _, Nat.zero_le _, rfl, hA0, hBw⟩
        case round =>
          clear hA0 hBw
          obtain ⟨k, R, K, hk, rfl, hA, hB⟩ := hrel
          by_cases hlt : k < n
          · have hklb : k < b.length := by rw [HBL.out]; exact hlt
            have hbv2 : IsInts (.slice ab b.length capb) b wr := by rw [HBL.out]; exact HBV.out.next hB
            obtain ⟨bb, ob, rfl, _, z0⟩ := hbv2.at k hklb
            have hxi := hbi _ (List.getElem_mem hklb)
            have hau : augM q xss b c k c = b[k] % q := by unfold augM; rw [if_pos rfl, List.getD_eq_getElem?_getD, List.getElem?_eq_getElem hklb]; rfl
            generalize b[k] = x at *
            have c7 := c5 x hxi
            obtain ⟨V, hV⟩ : ∃ V, V = x % q := ⟨_, rfl⟩
            rw [← hV] at c7 hau
            have z1 : wr.cell? ⟨H, k, none⟩ = some (.slice (some ⟨R k, 0, none⟩) c c) := by have := hA.hat k hlt; rwa [if_neg (by omega), if_neg (by omega)] at this
            have z2 : wr.frozen? ⟨H, k, none⟩ = false := hA.hfz k
            have hrow : RowAt (R k) c (augM q xss b c k) wr := by have := hA.rat k hlt; rwa [if_neg (by omega)] at this
            obtain ⟨Rk, hRk⟩ : ∃ x, x = R k := ⟨_, rfl⟩
            rw [← hRk] at z1 hrow
            have hH := hA.hlt
            have hold : ∀ j u, ((List.range c).map fun j => Value.int .i64 (augM q xss b c k j))[j]? = some u → ((wr.alloc (.cells #[.int .i64 V] 3)).drew).cell? ((⟨Rk, 0, none⟩ : Addr).add j) = some u := by
              intro j u hu
              obtain ⟨hj, hu⟩ := List.getElem?_eq_some_iff.1 hu
              simp only [List.length_map, List.length_range] at hj
              have e1 : (⟨Rk, 0, none⟩ : Addr).add j = ⟨Rk, j, none⟩ := by unfold Addr.add; split <;> simp_all
              rw [e1, ← hu]
              have := ((hrow.next (below_one wr (.cells #[.int .i64 V] 3))).drewN 1).at' j hj
              simpa using this
            have HA := Lib.hid hA
            have HB := Lib.hid hB
            have HRow := Lib.hid hrow
            have HAU := Lib.hid hau
            have HOL := Lib.hid hold
            have hkn : (k : Int) < (n : Int) := by omega
            have HRk := Lib.hid hRk
            clear hV hRk hA hB hrow hau hold hbv2 hbi c5 c6 hxi
            go_wp2
            go_region_law (first
              | (refine step_append_grows (by rfl) _ _ _ (by rfl) 3 i0 (.int .i64 0) 1 8 Tryd.underlying23 hi0 hz0 hz1 hz2 rfl (by omega) ⟨Rk, 0, none⟩ c c ((List.range c).map fun j => Value.int .i64 (augM q xss b c k j)) (by rfl) (by simp) HOL.out ⟨wr.heap.size, 0, none⟩ 1 1 [_] (by rfl) (by rfl) (World.news_of_block (cs := #[_]) (t := 3) (fr := (0, 0)) (heap_alloc_new wr _)) (by omega) (by omega) (by unfold maxLen; omega) (by omega) ?_; intro gg cp' w1 hown1 hgrow hlt'; have x1 : w1.cell? ⟨H, k, none⟩ = some (.slice (some ⟨Rk, 0, none⟩) c c) := ((World.cell?_of_block (a := ⟨H, k, none⟩) (hgrow.block H (by simp; omega) (by simp))).trans (World.cell?_of_block (a := ⟨H, k, none⟩) (Below.heap_alloc wr (.cells #[.int .i64 V] 3) H hH.2))).trans z1; have x2 : w1.frozen? ⟨H, k, none⟩ = false := by (rw [World.frozen?_of_block (a := ⟨H, k, none⟩) (hgrow.block H (by simp; omega) (by simp))]; rw [← z2]; exact World.frozen?_of_block (a := ⟨H, k, none⟩) (Below.heap_alloc wr _ H hH.2)))
              | (go_simp; go_at_call 29; refine Calls.mono (c7 _).out ?_; rintro e w3 ⟨rfl, rfl⟩))
            all_goals
              have HO := Lib.hid hown1
              have HG := Lib.hid hgrow
              clear hown1 hgrow x1 x2 z1 z2 z0
              go_wp2
              go_roundw
              case rel =>
                have hg1 := (HO.out.lt gg rfl).1
                simp at hg1
                have ho := HO.out
                rw [range_app c (augM q xss b c k) V (augM q xss b c k) (fun _ _ => rfl) HAU.out] at ho
                have hbl : ∀ b, b < wr.heap.size → w1.heap[b]? = wr.heap[b]? := fun b hb => (HG.out.block b (by simp; omega) (by simp)).trans (Below.heap_alloc wr _ b hb)
                refine ⟨k + 1, _, _, by omega, by go_num, HA.out.step hlt gg cp' (by omega) ?_ hbl (own_row ho), ?_⟩
                · have := HG.out.size; simp at this; omega
                · exact (HB.out.trans ((grown_below HG.out (below_one wr _)).mono (by omega))).setCell (p := ⟨H, k, none⟩) hH.1 _
              case measure => simp [intOf]; omega
          · obtain rfl : k = n := by omega
            have hMat := hA.done
            rw [← HC1.out] at hMat
            have c7 := (c6 H R K wr hMat)
            have hH := hA.hlt
            have HB := Lib.hid hB
            clear c6 c5 hA hB hMat hbi
            go_wp2_with fail
            refine Calls.mono c7.out ?_
            clear c7
            rintro e w2 ⟨v, rfl, R', K', hRed, hln⟩
            have hB2 : Below w.heap.size w w2 := HB.out.trans hRed.bel
            have hlt2 := redF_lt q k (c + 1) 0 [] (augM q xss b c) (by simp)
            rw [← HP.out] at hlt2
            obtain ⟨piv, M⟩ := P
            simp only at hRed hln hlt2
            have c8 := Lib.hid (contains_calls w2 wr.heap.size v piv hRed.own (by omega) c)
            have HR := Lib.hid hRed
            have HB2 := Lib.hid hB2
            have HL2 := Lib.hid hlt2
            obtain ⟨av, cpv, rfl⟩ := own_len hRed.own
            clear hRed hB2 hlt2
            by_cases hc : c ∈ piv
            · have hdc : decide (c ∈ piv) = true := by simpa using hc
              rw [hdc] at c8
              have HV2 : Hid (solO q xss b = none) := by show _ = _; rw [HV.out]; simp [hc]
              clear hdc hc
              go_wp2_with fail
              refine c8.out.mono ?_
              rintro e w' ⟨rfl, rfl⟩
              go_wp2
              go_ret2
              exact SolP.no HV2.out HB2.out
            · have hdc : decide (c ∈ piv) = false := by simpa using hc
              rw [hdc] at c8
              have HV2 : Hid (solO q xss b = some ((List.range c).map (solF piv (fun i => M i c) piv.length))) := by show _ = _; rw [HV.out]; simp [hc]
              have HNC := Lib.hid hc
              have hmk2 := fun w => run_make_row' (P := Tryd.prog) 23 3 (.int .i64 0) 8 Tryd.underlying23 infoInt' rfl .i64 .i64 c (by omega) (by omega) w
              obtain ⟨r, hr⟩ : ∃ r, r = piv.length := ⟨_, rfl⟩
              rw [← hr]
              rw [← hr] at hln c8
              have HRr := Lib.hid hr
              clear hdc hc hr
              go_wp2_with fail
              refine c8.out.mono ?_
              clear c8
              rintro e w' ⟨rfl, rfl⟩
              go_wp2
              obtain ⟨G, hG⟩ : ∃ G, G = w2.heap.size := ⟨_, rfl⟩
              have hrow := World.rowIs_made w2 (.int .i64 0) c 3
              have hR0 : RowAt G c (solF piv (fun i => M i c) 0) (w2.alloc (.cells (madeCells #[.int .i64 0] c) 3)) := by
                rw [hG]
                exact ⟨hrow.lt, fun j hj => hrow.cell hj, fun j => hrow.frozen j⟩
              have hold : ∀ b, b < G → (w2.alloc (.cells (madeCells #[.int .i64 0] c) 3)).heap[b]? = w2.heap[b]? := fun b hb => Below.heap_alloc w2 _ b (by omega)
              have hB3 : Below w.heap.size w (w2.alloc (.cells (madeCells #[.int .i64 0] c) 3)) := HB2.out.trans ((below_one w2 _).mono (by have := HB2.out.size; omega))
              have hwG : w.heap.size ≤ G := by rw [hG]; exact HB2.out.size
              have HGe := Lib.hid hG
              rw [← hG]
              generalize (w2.alloc (.cells (madeCells #[.int .i64 0] c) 3)) = W3 at *
              have HO3 := Lib.hid hold
              have HB3 := Lib.hid hB3
              clear hG hrow hmk2 hold hB3
              go_loopw [71] (fun iv wr' => ∃ k : Nat, k ≤ r ∧ iv = .int .i64 (k : Int) ∧ RowAt G c (solF piv (fun i => M i c) k) wr' ∧ Upd G W3 wr') (fun iv _ => r - (intOf iv).toNat)
              case atStart => exact ⟨0, Nat.zero_le _, rfl, hR0, Upd.refl _ _⟩
              case round =>
                clear hR0
                obtain ⟨i, hi, rfl, hRw, hU⟩ := hrel
                by_cases hil : i < r
                · have hip : i < piv.length := by rw [← HRr.out]; exact hil
                  obtain ⟨g, rfl, hg1, hg2, z0⟩ := info_at HR.out.own i hip
                  have hgG : g < G := by rw [HGe.out]; exact hg2
                  have hblk : ∀ b, b < G → wr.heap[b]? = w2.heap[b]? := fun b hb => (hU.block b (by omega)).trans (HO3.out b hb)
                  have z1 : wr.cell? ⟨g, i, none⟩ = some (.int .i64 (piv[i] : Int)) := (World.cell?_of_block (a := ⟨g, i, none⟩) (hblk g hgG)).trans z0
                  have hHl := HR.out.mat.hlt
                  have hHt := HR.out.mat.tlt
                  have z2 : wr.cell? ⟨H, i, none⟩ = some (.slice (some ⟨R' i, 0, none⟩) C1 (K' i)) := (World.cell?_of_block (a := ⟨H, i, none⟩) (hblk H (by rw [HGe.out]; omega))).trans (HR.out.mat.hat i (by omega))
                  have hRi := HR.out.mat.rlt i (by omega)
                  have z3 : wr.cell? ⟨R' i, c, none⟩ = some (.int .i64 (M i c)) := (World.cell?_of_block (a := ⟨R' i, c, none⟩) (hblk (R' i) (by rw [HGe.out]; omega))).trans ((HR.out.mat.rat i (by omega)).at' c (by have := HC1.out; omega))
                  have hjc : piv[i] < c := by
                    have h1 := HL2.out _ (List.getElem_mem hip)
                    have h2 : piv[i] ≠ c := fun e => HNC.out (e ▸ List.getElem_mem hip)
                    omega
                  have hgd : piv.getD i 0 = piv[i] := by rw [List.getD_eq_getElem?_getD, List.getElem?_eq_getElem hip]; rfl
                  generalize piv[i] = j at *
                  have z4 : wr.cell? ⟨G, j, none⟩ = some (.int .i64 (solF piv (fun i => M i c) i j)) := hRw.at' j hjc
                  have z5 : wr.frozen? ⟨G, j, none⟩ = false := hRw.fz j
                  have hj1 : (j : Int) < (c : Int) := by omega
                  have hj2 : (c : Int) < (C1 : Int) := by omega
                  have hj3 : (i : Int) < (k : Int) := by omega
                  have hj4 : (i : Int) < (r : Int) := by omega
                  have HRw := Lib.hid hRw
                  have HU := Lib.hid hU
                  have HGD := Lib.hid hgd
                  clear hRw hU hblk hgd z0
                  obtain ⟨V, hV⟩ : ∃ V, V = M i c := ⟨_, rfl⟩
                  rw [← hV] at z3
                  have HV3 := Lib.hid hV
                  generalize R' i = Ri at *
                  generalize K' i = Ki at *
                  clear hV
                  go_wp2
                  go_roundw
                  case rel =>
                    refine ⟨i + 1, by omega, by go_num, (HRw.out.set j hjc V).congr fun t _ => ?_, HU.out.setCell j _⟩
                    show (if t = j then V else solF piv _ i t) = solF piv _ (i + 1) t
                    rw [solF, HGD.out, HV3.out]
                  case measure => simp [intOf]; omega
                · obtain rfl : i = r := by omega
                  have HRw := Lib.hid hRw
                  have HU := Lib.hid hU
                  clear hRw hU
                  go_wp2
                  go_ret2
                  refine ⟨_, by rw [HV2.out]; rfl, ?_, HB3.out.trans (HU.out.below hwG)⟩
                  rw [HV2.out, ← HRr.out]
                  exact ints_range HRw.out
    · have HV : Hid (solO q xss b = none) := by show _ = _; unfold solO; rw [if_neg (fun e => hl e.2.1)]
      have hbne : ((b.length : Int) != (xss.length : Int)) = true := bne_iff_ne.2 (by omega)
      have hbne2 : ¬ (b.length : Int) = (xss.length : Int) := by omega
      clear hl hm
      go_enter Tryd.func8, Tryd.ntmps8
      go_wp2_with fail
      refine c1.out.mono ?_
      rintro e w' ⟨rfl, rfl⟩
      go_wp2
      go_ret2
      exact SolP.no HV.out (Below.refl _ _)
  · rw [show widV xss = .tuple #[.int .i64 0, .bool false] by unfold widV; rw [if_neg hm]] at c1
    have HV : Hid (solO q xss b = none) := by show _ = _; unfold solO; rw [if_neg (fun e => hm e.1)]
    clear hm
    go_enter Tryd.func8, Tryd.ntmps8
    go_wp2_with fail
    refine c1.out.mono ?_
    rintro e w' ⟨rfl, rfl⟩
    go_wp2
    go_ret2
    exact SolP.no HV.out (Below.refl _ _)
end Go.Proofs.YtdeeoigcpihidaaDoor
