/- The reduction of a matrix. -/
import Derived.Test.YtdeeoigcpihidaaDoorMat3
import Derived.Deep.Cut
import Derived.Deep.CutRange
namespace Go.Proofs.YtdeeoigcpihidaaDoor
open Go.RowKit

theorem infoInt : (Tryd.prog.info? 3).map (fun i => (i.zero, i.size, i.bytes)) = some (some (.int .i64 0), 1, 8) := by kernel_rfl
theorem redF_none {q : Int} {n f j : Nat} {piv : List Nat} {M : Nat → Nat → Int} (h : firstF (fun i => M (piv.length + i) j != 0) (n - piv.length) 0 = none) : redF q n (f + 1) j piv M = redF q n f (j + 1) piv M := by
  rw [redF, h]
theorem redF_some {q : Int} {n f j i : Nat} {piv : List Nat} {M : Nat → Nat → Int} (h : firstF (fun i => M (piv.length + i) j != 0) (n - piv.length) 0 = some i) : redF q n (f + 1) j piv M = redF q n f (j + 1) (piv ++ [j]) (stepM q n piv.length j i M) := by
  rw [redF, h]
set_option maxRecDepth 100000 in
set_option maxHeartbeats 2000000 in
theorem reduce_calls (q : Int) (hq : isMod q) (B H n c cols KH : Nat) (hn : n ≤ 4294967296) (hc : c ≤ 4294967296) (hcols : cols ≤ c) (hKH : n ≤ KH) (R K : Nat → Nat) (M : Nat → Nat → Int) (hM : allR q n c M) (w : World) (hm : Mat B w.heap.size H n c R K M w) :
    Calls Tryd.prog 30 #[.int .i64 q, .slice (some ⟨H, 0, none⟩) n KH, .int .i64 (cols : Int)] w fun e w' => ∃ v, e = .returned v ∧ ∃ R' K', Red w B w.heap.size H n c R' K' (redF q n cols 0 [] M).2 v (redF q n cols 0 [] M).1 w' ∧ (redF q n cols 0 [] M).1.length ≤ n := by
  obtain ⟨F, hF⟩ : ∃ F, F = redF q n cols 0 [] M := ⟨_, rfl⟩
  rw [← hF]
  have HF : Nat → redF q n (cols - 0) 0 [] M = F := fun _ => hF.symm
  have hS0 : Red w B w.heap.size H n c R K M (.slice none 0 0) [] w := ⟨hm, World.ownsRow_nil _ _ _ _, Below.refl _ _⟩
  clear hF hm
  go_enter Tryd.func30, Tryd.ntmps30
  go_wp2
  go_loopw [7, 14] (fun v jv wr => ∃ (j : Nat) (piv : List Nat) (M : Nat → Nat → Int) (R K : Nat → Nat), j ≤ cols ∧ jv = .int .i64 (j : Int) ∧ allR q n c M ∧ Red w B w.heap.size H n c R K M v piv wr ∧ (Nat → redF q n (cols - j) j piv M = F) ∧ piv.length ≤ n ∧ piv.length ≤ j) (fun _ jv _ => cols - (intOf jv).toNat)
  case atStart => exact ⟨0, [], M, R, K, Nat.zero_le _, rfl, hM, hS0, HF, Nat.zero_le _, Nat.zero_le _⟩
  case round =>
    clear hS0 HF hM
    obtain ⟨j, piv, M, R, K, hj, rfl, hM, hS, HF, hpn, hpj⟩ := hrel
    by_cases hlt : j < cols
    · obtain ⟨a, cap, rfl⟩ := own_len hS.own
      have hnext : ∀ X, firstF (fun i => M (piv.length + i) j != 0) (n - piv.length) 0 = X → Hid ((X = none → redF q n (cols - (j + 1)) (j + 1) piv M = F) ∧ (∀ i, X = some i → redF q n (cols - (j + 1)) (j + 1) (piv ++ [j]) (stepM q n piv.length j i M) = F)) := fun X hX => by
        show _ ∧ _
        have h0 := HF 0
        rw [show cols - j = (cols - (j + 1)) + 1 by omega] at h0
        refine ⟨fun h => ?_, fun i h => ?_⟩
        · rw [← h0, redF_none (hX.trans h)]
        · rw [← h0, redF_some (hX.trans h)]
      obtain ⟨r, hr⟩ : ∃ r, r = piv.length := ⟨_, rfl⟩
      rw [← hr] at hpn hpj hnext
      have HS := Lib.hid hS
      have HM := Lib.hid hM
      have HR := Lib.hid hr
      have z0n : ∀ i, i < n - r → (wr.alloc (.cells #[.int .i64 (j : Int)] 3)).cell? ⟨H, r + i, none⟩ = some (.slice (some ⟨R (r + i), 0, none⟩) c (K (r + i))) := fun i hi => (hS.mat.next (below_one _ _)).hat (r + i) (by omega)
      have z1n : ∀ i, i < n - r → (wr.alloc (.cells #[.int .i64 (j : Int)] 3)).cell? ⟨R (r + i), j, none⟩ = some (.int .i64 (M (r + i) j)) := fun i hi => ((hS.mat.next (below_one _ _)).rat (r + i) (by omega)).at' j (by omega)
      rw [← hr]
      clear hr hS hM HF
      have hrn : (r : Int) ≤ (n : Int) := by omega
      have hrk : (r : Int) ≤ (KH : Int) := by omega
      have hnk : (n : Int) ≤ (KH : Int) := by omega
      by_cases hkr : KH = r
      · obtain rfl : n = KH := by omega
        obtain rfl : n = r := hkr
        have hX : firstF (fun i => M (n + i) j != 0) (n - n) 0 = none := by rw [Nat.sub_self, firstF]
        have HN := Lib.hid ((hnext none hX).out.1 rfl)
        have HB : Hid (Box wr.heap.size wr.heap.size j (wr.alloc (.cells #[.int .i64 (j : Int)] 3))) := ⟨⟨Nat.le_refl _, by simp⟩, by simp⟩
        have c1 := Lib.hid (indexfunc_calls H 0 0 0 wr.heap.size j c (by omega) hc (by omega) R K M _ HB.out.at' (fun i hi => by omega) (fun i hi => by omega))
        rw [show optI (firstF (fun i => M i j != 0) 0 0) = -1 from rfl] at c1
        have HS1 : Hid (Red w B w.heap.size H n c R K M (.slice a piv.length cap) piv (wr.alloc (.cells #[.int .i64 (j : Int)] 3))) := HS.out.alloc _
        clear hX hnext z0n z1n
        go_wp2_with fail
        refine c1.out.mono ?_
        rintro e w' ⟨rfl, rfl⟩
        go_wp2
        go_roundw
        case rel =>
          refine ⟨j + 1, piv, M, R, K, by omega, by go_num, HM.out, ?_, fun _ => HN.out, by rw [← HR.out]; exact hpn, by rw [← HR.out]; omega⟩
          have h1 := HS1.out; rw [← HR.out] at h1; exact h1
        case measure => simp [intOf]; omega
      · have hk1 : ¬ KH ≤ r := by omega
        have hk2 : ¬ KH - r = 0 := by omega
        have hk3 : r < KH := by omega
        obtain ⟨X, hX⟩ : ∃ X, X = firstF (fun i => M (r + i) j != 0) (n - r) 0 := ⟨_, rfl⟩
        have hnx := hnext X hX.symm
        have HX := Lib.hid hX
        have HB : Hid (Box wr.heap.size wr.heap.size j (wr.alloc (.cells #[.int .i64 (j : Int)] 3))) := ⟨⟨Nat.le_refl _, by simp⟩, by simp⟩
        have c1 := Lib.hid (indexfunc_calls H r (n - r) (KH - r) wr.heap.size j c (by omega) hc (by omega) (fun i => R (r + i)) (fun i => K (r + i)) (fun i => M (r + i)) _ HB.out.at' (fun i hi => (z0n i hi)) (fun i hi => z1n i hi))
        rw [← hX] at c1
        clear hX hnext z0n z1n
        go_wp2_with fail
        refine c1.out.mono ?_
        rintro e w' ⟨rfl, rfl⟩
        clear c1
        have HS1 : Hid (Red w B w.heap.size H n c R K M (.slice a piv.length cap) piv (wr.alloc (.cells #[.int .i64 (j : Int)] 3))) := HS.out.alloc _
        generalize wr.alloc (.cells #[.int .i64 (j : Int)] 3) = W1 at *
        generalize hXb : wr.heap.size = XB at *
        cases X with
        | none =>
          have HN := Lib.hid (hnx.out.1 rfl)
          have ho : optI none = -1 := rfl
          rw [ho]
          go_wp2
          go_roundw
          case rel =>
            refine ⟨j + 1, piv, M, R, K, by omega, by go_num, HM.out, ?_, fun _ => HN.out, by rw [← HR.out]; exact hpn, by rw [← HR.out]; omega⟩
            rw [HR.out]; exact HS1.out
          case measure => simp [intOf]; omega
        | some i =>
          have HN := Lib.hid (hnx.out.2 i rfl)
          obtain ⟨_, hi, _, _⟩ := firstF_some _ _ _ HX.out.symm
          obtain ⟨s, hs⟩ : ∃ s, s = r + i := ⟨_, rfl⟩
          have hsn : s < n := by omega
          have hrn2 : r < n := by omega
          have hw1 : IntKind.i64.wrap ((r : Int) + (i : Int)) = (s : Int) := by simp only [IntKind.wrap, IntKind.bits, IntKind.signed]; simp; omega
          have ho : optI (some i) = (i : Int) := rfl
          have hi0 : ¬ (i : Int) < 0 := by omega
          have y1 : W1.cell? ⟨H, r, none⟩ = some (.slice (some ⟨R r, 0, none⟩) c (K r)) := HS1.out.mat.hat r hrn2
          have y2 : W1.cell? ⟨H, s, none⟩ = some (.slice (some ⟨R s, 0, none⟩) c (K s)) := HS1.out.mat.hat s hsn
          have y3 : W1.frozen? ⟨H, r, none⟩ = false := HS1.out.mat.hfz r
          have y4 : W1.frozen? ⟨H, s, none⟩ = false := HS1.out.mat.hfz s
          obtain ⟨v', hy1⟩ := cell?_setCell_some (w := W1) (p := ⟨H, r, none⟩) (x := .slice (some ⟨R s, 0, none⟩) c (K s)) (q := ⟨H, s, none⟩) y2
          obtain ⟨v'', hy2⟩ := cell?_setCell_some (w := W1) (p := ⟨H, s, none⟩) (x := .slice (some ⟨R r, 0, none⟩) c (K r)) (q := ⟨H, r, none⟩) y1
          have HSs := Lib.hid hs
          rw [ho]
          clear hs ho hnx HX hi
          have hsk : (s : Int) < (n : Int) := by omega
          have hrk2 : (r : Int) < (n : Int) := by omega
          go_wp2
          go_region
          have HB2 : Hid (Box w.heap.size XB j W1) := ⟨⟨by rw [← hXb]; exact HS.out.mat.tlt, HB.out.lt.2⟩, HB.out.at'⟩
          have h2 := HS1.out.swap2 r s hrn2 hsn
          generalize (World.drew (World.setCell (World.setCell W1 ⟨H, r, none⟩ (.slice (some ⟨R s, 0, none⟩) c (K s))) ⟨H, s, none⟩ (.slice (some ⟨R r, 0, none⟩) c (K r)))) = W2 at *
          obtain ⟨h2, hU2⟩ := h2
          have HB3 : Hid (Box w.heap.size XB j W2) := HB2.out.upd hU2 HS1.out.mat.hlt.2
          have hM2 := HM.out.swap r s hrn2 hsn
          have hstep : Hid (stepM q n r j i M = clearF q r j n (scaleF q r j (swapF r s M))) := by
            show stepM q n r j i M = _
            unfold stepM; rw [HSs.out]
          generalize swapF r s R = R2 at *
          generalize swapF r s K = K2 at *
          generalize swapF r s M = M2 at *
          clear y1 y2 y3 y4 hy1 hy2 hU2 HB HB2 HS1 hw1 v' v'' hsk hi0 HS HM
          have y1 : W2.cell? ⟨H, r, none⟩ = some (.slice (some ⟨R2 r, 0, none⟩) c (K2 r)) := h2.mat.hat r hrn2
          have y2 : W2.cell? ⟨XB, 0, none⟩ = some (.int .i64 (j : Int)) := HB3.out.at'
          have hjc : j < c := by omega
          have y3 : W2.cell? ⟨R2 r, j, none⟩ = some (.int .i64 (M2 r j)) := (h2.mat.rat r hrn2).at' j hjc
          have c2 := fun w => Lib.hid (pow_calls q (M2 r j) (-1) ((hM2 r hrn2 j hjc).int hq) (by unfold isInt; omega) w)
          have c3 := fun m => Lib.hid (scale_calls q (powZ q (M2 r j) (-1)) hq (powZ_inR hq _ _) (R2 r) c (K2 r) hc (M2 r) (hM2 r hrn2) _ ((h2.mat.rat r hrn2).drewN m))
          have HS2 := Lib.hid h2
          have HM2 := Lib.hid hM2
          have hrk2 : (r : Int) < (n : Int) := by omega
          have hjc2 : (j : Int) < (c : Int) := by omega
          obtain ⟨x, hx⟩ : ∃ x, x = M2 r j := ⟨_, rfl⟩
          obtain ⟨f, hf⟩ : ∃ f, f = powZ q x (-1) := ⟨_, rfl⟩
          have hsc : Hid (scaleF q r j M2 = fun i => if i = r then (fun c => mulZ q (M2 r c) f) else M2 i) := by
            show scaleF q r j M2 = _
            rw [hf, hx]; rfl
          rw [← hx] at y3 c2 c3
          rw [← hf] at c2 c3
          obtain ⟨Rr, hRr⟩ : ∃ Rr, Rr = R2 r := ⟨_, rfl⟩
          obtain ⟨Kr, hKr⟩ : ∃ Kr, Kr = K2 r := ⟨_, rfl⟩
          rw [← hRr] at y1 y3 c3
          rw [← hKr] at y1 c3
          have HRr := Lib.hid hRr
          have hjcn : j < c := hjc
          clear h2 hM2 hx hf hRr hKr
          go_upto_region 9 with fail
          go_cut [14] from 14 to 85 (fun jv wx => jv = .int .i64 (j : Int) ∧ RowAt Rr c (fun j => mulZ q (M2 r j) f) wx ∧ ∃ m, Upd Rr (W2.drewN m) wx)
          case first =>
            go_region_with (first
              | (go_at_call 42; refine Calls.mono (c2 _).out ?_; rintro e w2 ⟨rfl, m, rfl⟩)
              | (go_at_call 46; have h9 := (c3 (1 + m)).out; refine Calls.mono h9 ?_; rintro e w3 ⟨rfl, hR3, hU3⟩))
            all_goals (go_wp2_with fail; go_meet; exact ⟨rfl, hR3, 1 + m, hU3⟩)
          case rest =>
            obtain ⟨rfl, hR3, m, hU3⟩ := hcut
            have h3 := ((HS2.out.drewN m).row r hrn2 (by rw [← HRr.out]; exact hU3) (by rw [← HRr.out]; exact hR3)).congr hsc.out.symm
            have hB4 := (HB3.out.drewN m).upd hU3 (by rw [HRr.out]; exact (HS2.out.mat.rlt r hrn2).2.1)
            have hM3 := HM2.out.scale hq r j
            generalize scaleF q r j M2 = M3 at *
            have h3c : Red w B w.heap.size H n c R2 K2 (clearF q r j 0 M3) (.slice a r cap) piv wc := by
              have := h3.congr (clearF_zero q r j M3).symm
              rw [← HR.out] at this; exact this
            have HM3 := Lib.hid hM3
            clear c2 c3 y1 y2 y3 HS2 HM2 hsc HRr hR3 hU3 HB3 h3 hM3 W2 W1
            go_wp2
            go_loopw [61] (fun kv wr' => ∃ k : Nat, k ≤ n ∧ kv = .int .i64 (k : Int) ∧ Red w B w.heap.size H n c R2 K2 (clearF q r j k M3) (.slice a r cap) piv wr' ∧ Box w.heap.size XB j wr') (fun kv _ => n - (intOf kv).toNat)
            case atStart => exact ⟨0, Nat.zero_le _, rfl, h3c, hB4⟩
            case round =>
              clear h3c hB4
              obtain ⟨k, hk, rfl, hS4, hB4⟩ := hrel
              have hjn : (j : Int) < (c : Int) := by omega
              by_cases hlt2 : k < n
              · have x1 : wr.cell? ⟨H, k, none⟩ = some (.slice (some ⟨R2 k, 0, none⟩) c (K2 k)) := hS4.mat.hat k hlt2
                have x2 : wr.cell? ⟨H, r, none⟩ = some (.slice (some ⟨R2 r, 0, none⟩) c (K2 r)) := hS4.mat.hat r hrn2
                have x3 : wr.cell? ⟨XB, 0, none⟩ = some (.int .i64 (j : Int)) := hB4.at'
                have x4 : wr.cell? ⟨R2 k, j, none⟩ = some (.int .i64 (clearF q r j k M3 k j)) := (hS4.mat.rat k hlt2).at' j hjc
                by_cases hkeq : k = r
                · subst hkeq
                  have hne : ((k : Int) != (k : Int)) = false := by simp
                  have HS4 := Lib.hid hS4
                  have HB4 := Lib.hid hB4
                  clear x1 x2 x3 x4 hS4 hB4
                  have x1 : wr.cell? ⟨H, k, none⟩ = some (.slice (some ⟨R2 k, 0, none⟩) c (K2 k)) := HS4.out.mat.hat k hlt2
                  go_wp2
                  go_roundw
                  case rel => exact ⟨k + 1, by omega, by go_num, HS4.out.congr (clearF_skip q k j M3).symm, HB4.out⟩
                  case measure => simp [intOf]; omega
                · have hne : ((k : Int) != (r : Int)) = true := bne_iff_ne.2 (by omega)
                  have hne2 : ¬ (k : Int) = (r : Int) := by omega
                  have hMk := (HM3.out.clear hq r j k)
                  have c4 := fun w h1 h2 => Lib.hid (subtract_calls q (clearF q r j k M3 k j) hq (hMk k hlt2 j hjc) (R2 k) (R2 r) c (K2 k) (K2 r) (fun e => hkeq (hS4.mat.inj k r hlt2 hrn2 e)) hc (clearF q r j k M3 k) (clearF q r j k M3 r) (hMk k hlt2) (hMk r hrn2) w h1 h2)
                  have c5 := fun m => c4 (wr.drewN m) ((hS4.mat.rat k hlt2).drewN m) ((hS4.mat.rat r hrn2).drewN m)
                  have hnx : Hid (clearF q r j (k + 1) M3 = fun i => if i = k then (fun c => lessZ q (clearF q r j k M3 k c) (clearF q r j k M3 r c) (clearF q r j k M3 k j)) else clearF q r j k M3 i) := clearF_next q r j k M3 hkeq
                  have HS4 := Lib.hid hS4
                  have HB4 := Lib.hid hB4
                  generalize clearF q r j k M3 = Mk at *
                  obtain ⟨f, hf⟩ : ∃ f, f = Mk k j := ⟨_, rfl⟩
                  rw [← hf] at x4 c5 hnx
                  obtain ⟨Rk, hRk⟩ : ∃ x, x = R2 k := ⟨_, rfl⟩
                  obtain ⟨Kk, hKk⟩ : ∃ x, x = K2 k := ⟨_, rfl⟩
                  obtain ⟨Rr, hRr⟩ : ∃ x, x = R2 r := ⟨_, rfl⟩
                  obtain ⟨Kr, hKr⟩ : ∃ x, x = K2 r := ⟨_, rfl⟩
                  rw [← hRk] at x1 x4 c5
                  rw [← hKk] at x1 c5
                  rw [← hRr] at x2 c5
                  rw [← hKr] at x2 c5
                  have HRk := Lib.hid hRk
                  clear hS4 hB4 hMk c4 hf hRk hKk hRr hKr
                  go_wp2
                  go_region_with (first
                    | (go_at_call 47; have h9 := (c5 1).out; refine Calls.mono h9 ?_; rintro e w3 ⟨rfl, hR3, hU3⟩))
                  all_goals
                    go_wp2
                    go_roundw
                    case rel =>
                      refine ⟨k + 1, by omega, by go_num, ((HS4.out.drewN 1).row k hlt2 (by rw [← HRk.out]; exact hU3) (by rw [← HRk.out]; exact hR3)).congr hnx.out.symm, (HB4.out.drewN 1).upd hU3 (by rw [HRk.out]; exact (HS4.out.mat.rlt k hlt2).2.1)⟩
                    case measure => simp [intOf]; omega
              · obtain rfl : k = n := by omega
                have x3 : wr.cell? ⟨XB, 0, none⟩ = some (.int .i64 (j : Int)) := hB4.at'
                have HS4 := Lib.hid hS4
                have HB4 := Lib.hid hB4
                obtain ⟨i0, hi, hz0, hz1, hz2⟩ := info_parts infoInt
                have hpl : piv.length = r := HR.out.symm
                have ho4 : wr.ownsRow w.heap.size 3 1 (.slice a r cap) r (ics piv) := by
                  have := hS4.own
                  rwa [hpl] at this
                clear hS4 hB4 hpl
                go_wp2_with (at_builtin; refine wpList_append_own _ rfl _ _ 23 rfl w.heap.size 3 i0 (.int .i64 0) 1 8 Tryd.underlying23 hi hz0 hz1 hz2 rfl (by decide) _ _ _ rfl (World.ownsRow.alloc ho4 _) ⟨wr.heap.size, 0, none⟩ 1 1 [.int .i64 (j : Int)] rfl rfl ?c1 ?c2 ?c3 ?c4 ?c5 ?_)
                case c1 =>
                  intro j' u hj'
                  match j', hj' with
                  | 0, hj' => simp at hj'; subst hj'; simp [Addr.add]
                case c2 => intro u hu; simp at hu; subst hu; rfl
                case c3 => unfold maxLen; omega
                case c4 => omega
                case c5 => have := HS4.out.mat.tlt; simp; omega
                intro v' w' hown hgr _
                have hS5 := (HS4.out.alloc (.cells #[.int .i64 (j : Int)] 3)).grown (v' := v') (piv' := piv ++ [j]) hgr (by rw [ics_app, List.length_append, ← HR.out]; exact hown)
                have HS5 := Lib.hid hS5
                have hlen : (piv ++ [j]).length = r + 1 := by rw [List.length_append, ← HR.out]; rfl
                have HL := Lib.hid hlen
                clear hS5 hown hgr hlen ho4 hi hz0 hz1 hz2 x3 HS4
                go_wp2
                go_roundw
                case rel =>
                  refine ⟨j + 1, piv ++ [j], clearF q r j k M3, R2, K2, by omega, by go_num, HM3.out.clear hq r j k, HS5.out, fun _ => ?_, by rw [HL.out]; omega, by rw [HL.out]; omega⟩
                  rw [← hstep.out]; exact HN.out
                case measure => simp [intOf]; omega
    · obtain rfl : j = cols := by omega
      have HF2 := Lib.hid (HF 0)
      clear HF
      go_wp2
      go_ret
      have h1 := HF2.out
      rw [Nat.sub_self, redF] at h1
      subst h1
      exact ⟨_, rfl, R, K, hS, hpn⟩
end Go.Proofs.YtdeeoigcpihidaaDoor
