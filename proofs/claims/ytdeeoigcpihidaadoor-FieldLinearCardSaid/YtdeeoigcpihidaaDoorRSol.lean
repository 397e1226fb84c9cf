/- The reference's Solve. -/
import Derived.Test.YtdeeoigcpihidaaDoorRRed
import Derived.Test.YtdeeoigcpihidaaDoorSolM
namespace Go.Proofs.YtdeeoigcpihidaaDoor
open Go.RowKit

theorem Upd.drewN_both {b : Nat} {w w' : World} (h : Upd b w w') (n : Nat) : Upd b (w.drewN n) (w'.drewN n) := ⟨h.os, h.tape, h.output, h.size, h.block⟩
theorem redF_last (q : Int) (n c : Nat) (A : Nat → Nat → Int) : redF q n (c + 1) 0 [] A = redF q n 1 c (redF q n c 0 [] A).1 (redF q n c 0 [] A).2 := by
  rw [redF_more q n c 1 0 [] A, Nat.zero_add]
theorem sol_fine {q : Int} {xss : List (List Int)} {b : List Int} (hm : matB xss = true) (hb : b.length = xss.length) (hp : primeB q = true) (P : List Nat × (Nat → Nat → Int)) (hP : P = redF q xss.length (widF xss) 0 [] (augM q xss b (widF xss)))
    (hf : fineM xss.length (widF xss) P.1 P.2) : solO q xss b = some ((List.range (widF xss)).map (solF P.1 (fun i => P.2 i (widF xss)) P.1.length)) := by
  have hn : firstF (fun i => P.2 (P.1.length + i) (widF xss) != 0) (xss.length - P.1.length) 0 = none := by
    cases h : firstF (fun i => P.2 (P.1.length + i) (widF xss) != 0) (xss.length - P.1.length) 0 with
    | none => rfl
    | some i =>
      obtain ⟨_, h4, h5, _⟩ := firstF_some _ _ _ h
      have := hf (P.1.length + i) (by omega) (by omega)
      simp [this] at h5
  have hlast : redF q xss.length (widF xss + 1) 0 [] (augM q xss b (widF xss)) = P := by rw [redF_last, ← hP, redF, hn]; rfl
  have hlt := redF_lt q xss.length (widF xss) 0 [] (augM q xss b (widF xss)) (by simp)
  rw [← hP] at hlt
  unfold solO
  rw [if_pos ⟨hm, hb, hp⟩, hlast, if_neg (fun h => by have := hlt _ h; omega)]
theorem sol_bad {q : Int} {xss : List (List Int)} {b : List Int} (P : List Nat × (Nat → Nat → Int)) (hP : P = redF q xss.length (widF xss) 0 [] (augM q xss b (widF xss)))
    (t : Nat) (h1 : P.1.length ≤ t) (h2 : t < xss.length) (h3 : P.2 t (widF xss) ≠ 0) : solO q xss b = none := by
  unfold solO
  split
  · rw [if_pos]
    rw [redF_last, ← hP, redF]
    cases h : firstF (fun i => P.2 (P.1.length + i) (widF xss) != 0) (xss.length - P.1.length) 0 with
    | none =>
      have := firstF_none _ _ h (t - P.1.length) (Nat.zero_le _) (by omega)
      rw [show P.1.length + (t - P.1.length) = t by omega] at this
      simp at this
      exact absurd this h3
    | some i =>
      show widF xss ∈ (P.1 ++ [widF xss])
      simp
  · rfl
def zeroTo (P : List Nat × (Nat → Nat → Int)) (c i : Nat) : Prop := ∀ t, P.1.length ≤ t → t < i → P.2 t c = 0
theorem rsolve_bad (q : Int) (hqi : isInt q) (v : Value) (xss : List (List Int)) (bv : Value) (b : List Int) (hn : xss.length ≤ 9223372036854775807) (hr : ∀ r ∈ xss, r.length ≤ 9223372036854775807) (_ : b.length ≤ 9223372036854775807)
    (w : World) (h : IsRows v xss w) (hbv : IsInts bv b w) (hno : ¬ (matB xss = true ∧ b.length = xss.length ∧ primeB q = true)) :
    Calls Tryd.prog 9 #[.int .i64 q, v, bv] w (SolP q xss b w) := by
  have HV : Hid (solO q xss b = none) := by show _ = _; unfold solO; rw [if_neg hno]
  obtain ⟨a, cap, rfl⟩ := h.len
  obtain ⟨ab, capb, rfl⟩ := hbv.len
  have c1 := Lib.hid (rprime_calls q hqi w)
  cases hp : primeB q with
  | false =>
    rw [hp] at c1
    clear hno hp h hbv hr
    go_enter Tryd.func9, Tryd.ntmps9
    go_wp2_with fail
    refine c1.out.mono ?_
    rintro e w1 ⟨rfl, hb1⟩
    have HB := Lib.hid hb1
    clear hb1 c1
    go_wp2
    go_ret2
    exact SolP.no HV.out HB.out
  | true =>
    rw [hp] at c1
    have c2 := fun w' hb => Lib.hid (rmatrix_calls (.slice a xss.length cap) xss w' (h.next hb) hn hr)
    by_cases hm : matB xss = true
    · rw [hm] at c2
      have hl : ¬ b.length = xss.length := fun e => hno ⟨hm, e, hp⟩
      have hbne : ((b.length : Int) != (xss.length : Int)) = true := bne_iff_ne.2 (by omega)
      have hbne2 : ¬ (b.length : Int) = (xss.length : Int) := by omega
      clear hno hp hm h hbv hr hl
      go_enter Tryd.func9, Tryd.ntmps9
      go_wp2_with fail
      refine c1.out.mono ?_
      rintro e w1 ⟨rfl, hb1⟩
      have HB := Lib.hid hb1
      have d2 := c2 w1 hb1
      clear hb1 c1 c2
      go_wp2_with fail
      refine Calls.mono d2.out ?_
      rintro e w2 ⟨rfl, m, rfl⟩
      clear d2
      go_wp2
      go_ret2
      exact SolP.no HV.out (below_drewN HB.out m)
    · rw [show matB xss = false by simpa using hm] at c2
      clear hno hp hm h hbv hr
      go_enter Tryd.func9, Tryd.ntmps9
      go_wp2_with fail
      refine c1.out.mono ?_
      rintro e w1 ⟨rfl, hb1⟩
      have HB := Lib.hid hb1
      have d2 := c2 w1 hb1
      clear hb1 c1 c2
      go_wp2_with fail
      refine Calls.mono d2.out ?_
      rintro e w2 ⟨rfl, m, rfl⟩
      clear d2
      go_wp2
      go_ret2
      exact SolP.no HV.out (below_drewN HB.out m)
set_option maxRecDepth 100000 in
set_option maxHeartbeats 2000000 in
theorem rsolve_good (q : Int) (hqi : isInt q) (v : Value) (xss : List (List Int)) (bv : Value) (b : List Int) (hn : xss.length ≤ 9223372036854775807) (hr : ∀ r ∈ xss, r.length ≤ 9223372036854775807)
    (hi : ∀ r ∈ xss, ∀ x ∈ r, isInt x) (hbi : ∀ x ∈ b, isInt x) (w : World) (h : IsRows v xss w) (hbv : IsInts bv b w) (hok : matB xss = true ∧ b.length = xss.length ∧ primeB q = true) :
    Calls Tryd.prog 9 #[.int .i64 q, v, bv] w (SolP q xss b w) := by
  obtain ⟨hm, hl, hp⟩ := id hok
  obtain ⟨a, cap, rfl⟩ := h.len
  obtain ⟨ab, capb, rfl⟩ := hbv.len
  have c1 := Lib.hid (rprime_calls q hqi w)
  have c2 := fun w' hb => Lib.hid (rmatrix_calls (.slice a xss.length cap) xss w' (h.next hb) hn hr)
  have c3 := fun w' hb => Lib.hid (rwidth_calls (.slice a xss.length cap) xss w' (h.next hb))
  rw [hp] at c1
  rw [hm] at c2
  have hq := primeB_mod hp
  obtain ⟨hn64, hc64, hrc⟩ := matB_rows hm
  obtain ⟨P, hP⟩ : ∃ P, P = redF q xss.length (widF xss) 0 [] (augM q xss b (widF xss)) := ⟨_, rfl⟩
  have hfine := sol_fine hm hl hp P hP
  have hbad := sol_bad P hP
  have hlt := redF_lt q xss.length (widF xss) 0 [] (augM q xss b (widF xss)) (by simp)
  rw [← hP, Nat.zero_add] at hlt
  have c4 := fun w' hb => Lib.hid (rresid_calls q hq (.slice a xss.length cap) (.slice ab b.length capb) xss b (widF xss) hrc (by omega) (by omega) hl hi hbi w' (h.next hb) (hbv.next hb))
  obtain ⟨c, hc⟩ : ∃ c, c = widF xss := ⟨_, rfl⟩
  obtain ⟨n, hnn⟩ : ∃ n, n = xss.length := ⟨_, rfl⟩
  have c5 := fun H cap' w' hm' hB1 hB2 => Lib.hid (rreduced_calls q hq w.heap.size H n (c + 1) c cap' (by omega) (by omega) (by omega) hB1 (augM q xss b c) (augM_all hq xss b c n (c + 1)) w' hm' hB2)
  rw [← hc, ← hnn] at hfine hbad hP c4
  rw [← hP] at c5
  rw [← hc] at c3 hlt hc64
  rw [← hnn] at c2 c3 hn64
  have hbl : b.length = n := by omega
  rw [← hnn, hbl]
  rw [hbl] at c4
  have hbne : ((n : Int) != (n : Int)) = false := by simp
  have HF := Lib.hid hfine
  have HBAD := Lib.hid hbad
  have HLT := Lib.hid hlt
  clear hfine hbad hlt hok hp hm hl hc hnn hP h hbv hi hbi hr hn hrc hqi hq hbl
  go_enter Tryd.func9, Tryd.ntmps9
  go_wp2_with fail
  refine c1.out.mono ?_
  rintro e w1 ⟨rfl, hb1⟩
  have d2 := c2 w1 hb1
  have HB1 := Lib.hid hb1
  clear hb1 c1 c2
  go_wp2_with fail
  refine Calls.mono d2.out ?_
  rintro e w2 ⟨rfl, m, rfl⟩
  have HB2 : Hid (Below w.heap.size w (w1.drewN m)) := below_drewN HB1.out m
  generalize w1.drewN m = w2 at *
  have d3 := c3 w2 HB2.out
  have d4 := c4 w2 HB2.out
  clear d2 HB1 c3 c4
  go_wp2_with fail
  refine Calls.mono d3.out ?_
  rintro e w3 ⟨rfl, rfl⟩
  go_wp2_with fail
  refine Calls.mono d4.out ?_
  rintro e w3 ⟨H, cp, rfl, hH, hM, hb3⟩
  have HB3 : Hid (Below w.heap.size w w3) := HB2.out.trans (hb3.mono HB2.out.size)
  have d5 := c5 H cp w3 hM (by have := HB2.out.size; omega) HB3.out.size
  clear d3 d4 hM hb3 HB2 c5
  go_wp2_with fail
  refine Calls.mono d5.out ?_
  rintro e w4 ⟨pv, rfl, hRS, hln⟩
  obtain ⟨r, hr⟩ : ∃ r, r = P.1.length := ⟨_, rfl⟩
  obtain ⟨ap, cpp, rfl⟩ := own_len hRS.own
  have HRS := Lib.hid hRS
  have HB4 : Hid (Below w.heap.size w w4) := HB3.out.trans hRS.bel
  have HR := Lib.hid hr
  have hz0 : zeroTo P c r := fun t h1 h2 => by omega
  rw [← hr]
  rw [← hr] at hln
  clear hRS hr d5 hH
  go_wp2
  go_loopw [11] (fun iv wr => ∃ i : Nat, r ≤ i ∧ i ≤ n ∧ iv = .int .i64 (i : Int) ∧ zeroTo P c i ∧ wr = w4) (fun iv _ => n - (intOf iv).toNat)
  case atStart => exact ⟨r, Nat.le_refl _, hln, rfl, hz0, rfl⟩
  case round =>
    clear hz0
    obtain ⟨i, hri, hin, rfl, hz, rfl⟩ := hrel
    by_cases hil : i < n
    · obtain ⟨vi, z0, bi, oi, ci, rfl, _, _, hcells⟩ := HRS.out.mat.row i hil
      have z1 := hcells c (by omega)
      have hi1 : (i : Int) < (n : Int) := by omega
      have hc1 : (c : Int) < (c : Int) + 1 := by omega
      have hz2 : P.2 i c = 0 → zeroTo P c (i + 1) := fun e t h1 h2 => by
        by_cases e2 : t = i
        · subst e2; exact e
        · exact hz t h1 (by omega)
      have hbd := HBAD.out i (by have := HR.out; omega) hil
      generalize P.2 i c = X at *
      by_cases hX : X = 0
      · subst hX
        have HZ := Lib.hid (hz2 rfl)
        clear hz hz2 hbd hcells
        go_wp2
        go_roundw
        case rel => exact ⟨i + 1, by omega, by omega, by go_num, HZ.out, by trivial⟩
        case measure => simp [intOf]; omega
      · have HV := Lib.hid (hbd hX)
        have hXb : (X != 0) = true := bne_iff_ne.2 hX
        clear hz hz2 hbd hcells
        go_wp2
        go_ret2
        exact SolP.no HV.out HB4.out
    · obtain rfl : i = n := by omega
      have HV := Lib.hid (HF.out fun t h1 h2 => hz t h1 h2)
      have hmk2 := fun w => run_make_row' (P := Tryd.prog) 23 3 (.int .i64 0) 8 Tryd.underlying23 infoInt' rfl .i64 .i64 c (by omega) (by omega) w
      obtain ⟨G, hG⟩ : ∃ G, G = wr.heap.size := ⟨_, rfl⟩
      have hrow := World.rowIs_made wr (.int .i64 0) c 3
      have hR0 : RowAt G c (solF P.1 (fun i => P.2 i c) 0) (wr.alloc (.cells (madeCells #[.int .i64 0] c) 3)) := by
        rw [hG]; exact ⟨hrow.lt, fun j hj => hrow.cell hj, fun j => hrow.frozen j⟩
      have HR0 := Lib.hid hR0
      have HRS3 := Lib.hid (HRS.out.next (below_one wr (.cells (madeCells #[.int .i64 0] c) 3)))
      have HB5 : Hid (Below w.heap.size w (wr.alloc (.cells (madeCells #[.int .i64 0] c) 3))) := HB4.out.trans ((below_one wr _).mono HB4.out.size)
      have HWG : Hid (w.heap.size ≤ G) := by show _ ≤ _; rw [hG]; exact HB4.out.size
      have hold : ∀ b, b < G → (wr.alloc (.cells (madeCells #[.int .i64 0] c) 3)).heap[b]? = wr.heap[b]? := fun b hb => Below.heap_alloc wr _ b (by omega)
      have HOLD := Lib.hid hold
      have HG := Lib.hid hG
      clear hrow hR0 hz hold hG HF HBAD
      go_wp2
      rw [← HG.out]
      generalize (wr.alloc (.cells (madeCells #[.int .i64 0] c) 3)) = W3 at *
      have hR0 := HR0.out
      clear HR0 hmk2
      go_loopw [13] (fun kv wr' => ∃ k : Nat, k ≤ r ∧ kv = .int .i64 (k : Int) ∧ RowAt G c (solF P.1 (fun i => P.2 i c) k) wr' ∧ ∃ m, Upd G (W3.drewN m) wr') (fun kv _ => r - (intOf kv).toNat)
      case atStart => exact ⟨0, Nat.zero_le _, rfl, hR0, 0, Upd.refl _ _⟩
      case round =>
        clear hR0
        obtain ⟨k, hk, rfl, hRw, m, hU⟩ := hrel
        by_cases hkl : k < r
        · have hip : k < P.1.length := by rw [← HR.out]; exact hkl
          obtain ⟨g, rfl, hg1, hg2, z0⟩ := info_at HRS.out.own k hip
          have hblk : ∀ b, b < G → wr.heap[b]? = _ := fun b hb => (hU.block b (by omega)).trans (HOLD.out b hb)
          have hgG : g < G := by rw [HG.out]; exact hg2
          have z1 : wr.cell? ⟨g, k, none⟩ = some (.int .i64 (P.1[k] : Int)) := (World.cell?_of_block (a := ⟨g, k, none⟩) (hblk g hgG)).trans z0
          obtain ⟨vi, y0, bi, oi, ci, rfl, _, hbi, hcells⟩ := HRS.out.mat.row k (by omega)
          have z2 := (World.cell?_of_block (a := ⟨H, k, none⟩) (hblk H (by rw [HG.out]; exact HRS.out.mat.hlt))).trans y0
          have z3 := (World.cell?_of_block (a := ⟨bi, oi + c, none⟩) (hblk bi (by rw [HG.out]; exact hbi))).trans (hcells c (by omega))
          have hjc : P.1[k] < c := HLT.out _ (List.getElem_mem hip)
          have hgd : P.1.getD k 0 = P.1[k] := by rw [List.getD_eq_getElem?_getD, List.getElem?_eq_getElem hip]; rfl
          generalize P.1[k] = j at *
          have z4 : wr.cell? ⟨G, j, none⟩ = some (.int .i64 (solF P.1 (fun i => P.2 i c) k j)) := hRw.at' j hjc
          have z5 : wr.frozen? ⟨G, j, none⟩ = false := hRw.fz j
          have hj1 : (j : Int) < (c : Int) := by omega
          have hj2 : (c : Int) < (c : Int) + 1 := by omega
          have hj3 : (k : Int) < (i : Int) := by omega
          have hj4 : (k : Int) < (r : Int) := by omega
          have HRw := Lib.hid hRw
          have HU := Lib.hid hU
          have HGD := Lib.hid hgd
          obtain ⟨V, hV⟩ : ∃ V, V = P.2 k c := ⟨_, rfl⟩
          rw [← hV] at z3
          have HV3 := Lib.hid hV
          clear hRw hU hblk hgd z0 hV hcells y0
          go_wp2
          go_region
          all_goals
            go_wp2
            go_roundw
            case rel =>
              refine ⟨k + 1, by omega, by go_num, ((HRw.out.drewN 1).set j hjc V).congr fun t _ => ?_, m + 1, ?_⟩
              · show (if t = j then V else solF P.1 _ k t) = solF P.1 _ (k + 1) t
                rw [solF, HGD.out, HV3.out]
              · rw [← World.drewN_drewN]
                exact (HU.out.drewN_both 1).setCell j _
            case measure => simp [intOf]; omega
        · obtain rfl : k = r := by omega
          have HRw := Lib.hid hRw
          have HU := Lib.hid hU
          clear hRw hU
          go_wp2
          go_ret2
          refine ⟨.slice (some ⟨G, 0, none⟩) c c, by rw [HV.out]; rfl, ?_, (below_drewN HB5.out m).trans (HU.out.below HWG.out)⟩
          rw [HV.out, ← HR.out]
          exact ints_range HRw.out
end Go.Proofs.YtdeeoigcpihidaaDoor
