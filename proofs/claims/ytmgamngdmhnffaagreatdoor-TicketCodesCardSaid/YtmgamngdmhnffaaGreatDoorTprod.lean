/- Products of powers, in the ticket seat. -/
import Derived.Test.YtmgamngdmhnffaaGreatDoorVsetT
namespace Go.Proofs.YtmgamngdmhnffaaGreatDoor
open Go.RowKit

theorem nums_cell {a : Option Addr} {n cap : Nat} {xs : List Int} {w : World} (h : IsNums (.slice a n cap) xs w) (k : Nat) (hk : k < xs.length) :
    ∃ bk off, a = some ⟨bk, off, none⟩ ∧ bk < w.heap.size ∧ w.cell? ⟨bk, off + k, none⟩ = some (.int .i64 xs[k]) := by
  obtain ⟨bk, off, h1, h2, x, rfl, h3⟩ := h.at k hk
  exact ⟨bk, off, h1, h2, h3⟩
def gProdF (P Q : Int) : Int → List Int → List Int → Int
  | r, x :: xs, e :: es => gProdF P Q (mulZ P r (gPow P Q x e)) xs es
  | r, _, _ => r
def gProdV (P Q : Int) (xs es : List Int) : Value := if (isMod P ∧ isMod Q) ∧ xs.length = es.length then .tuple #[.int .i64 (gProdF P Q (1 % P) xs es), .bool true] else .tuple #[.int .i64 0, .bool false]
theorem gProdF_nil (P Q r : Int) (es : List Int) : gProdF P Q r [] es = r := by cases es <;> rfl
theorem gProdF_drop (P Q r : Int) (xs es : List Int) (k : Nat) (h1 : k < xs.length) (h2 : k < es.length) :
    gProdF P Q r (xs.drop k) (es.drop k) = gProdF P Q (mulZ P r (gPow P Q xs[k] es[k])) (xs.drop (k + 1)) (es.drop (k + 1)) := by
  rw [List.drop_eq_getElem_cons h1, List.drop_eq_getElem_cons h2, gProdF]

set_option maxRecDepth 100000 in
set_option maxHeartbeats 1000000 in
theorem gprod_calls (P Q G : Int) (u v : Value) (xs es : List Int) (w : World) (hu : IsNums u xs w) (hv : IsNums v es w) (hx : ∀ x ∈ xs, isInt x) (he : ∀ x ∈ es, isInt x) (hn : xs.length ≤ 4294967296) (_ : es.length ≤ 9223372036854775807) :
    Calls Tryz.prog 62 #[.agg #[.int .i64 P, .int .i64 Q, .int .i64 G], u, v] w fun e w' => e = .returned (gProdV P Q xs es) ∧ Below w.heap.size w w' := by
  have hb := below_one w (.cells #[.int .i64 P, .int .i64 Q, .int .i64 G] 30)
  have hB : Blk (w.alloc (.cells #[.int .i64 P, .int .i64 Q, .int .i64 G] 30)) w.heap.size 30 #[.int .i64 P, .int .i64 Q, .int .i64 G] := Blk.new w _ _
  obtain ⟨au, cu, rfl⟩ := hu.len
  obtain ⟨av, cv, rfl⟩ := hv.len
  by_cases h : isMod P ∧ isMod Q
  · have c1 := fun w => Lib.hid (comp_yes P Q G h.1 h.2 w)
    by_cases hl : xs.length = es.length
    · have HV : Hid (gProdV P Q xs es = .tuple #[.int .i64 (gProdF P Q (1 % P) xs es), .bool true]) := by
        show gProdV P Q xs es = _
        unfold gProdV; rw [if_pos ⟨h, hl⟩]
      have c2 := fun w => Lib.hid (residue_calls P 1 h.1 (by omega) (by omega) w)
      obtain ⟨I, hI⟩ : ∃ I, I = 1 % P := ⟨_, rfl⟩
      have hIi : isInt I := by rw [hI]; exact isInt_res h.1 (res_in P 1 h.1)
      rw [← hI] at HV c2
      have HH := Lib.hid h
      have HL := Lib.hid hl
      have hbne : ((xs.length : Int) != (es.length : Int)) = false := by rw [hl]; simp
      clear hI h hl
      go_enter Tryz.func62, Tryz.ntmps62
      go_wp2_with fail
      generalize (w.alloc (.cells #[.int .i64 P, .int .i64 Q, .int .i64 G] 30)) = W0 at *
      have h9 := (c1 W0).out
      clear c1
      refine Calls.mono h9 ?_
      rintro e w1 ⟨rfl, hb1⟩
      obtain ⟨hB1, z0, z1, z2⟩ := grp_cells hB hb1
      have hbb := hb.trans (hb1.mono hb.size)
      clear hB hb hb1
      go_wp2_with fail
      have h9 := (c2 w1).out
      clear c2
      refine Calls.mono h9 ?_
      rintro e w' ⟨rfl, rfl⟩
      go_wp2
      obtain ⟨F, hF⟩ : ∃ F, F = gProdF P Q I xs es := ⟨_, rfl⟩
      rw [← hF] at HV
      go_loopw [8, 26] (fun r i wr => ∃ (k : Nat) (R : Int), k ≤ xs.length ∧ i = .int .i64 (k : Int) ∧ r = .int .i64 R ∧ isInt R ∧ gProdF P Q R (xs.drop k) (es.drop k) = F ∧ Below w.heap.size w wr ∧ Blk wr w.heap.size 30 #[.int .i64 P, .int .i64 Q, .int .i64 G]) (fun _ i _ => xs.length - (intOf i).toNat)
      case atStart => exact ⟨0, I, Nat.zero_le _, rfl, rfl, hIi, hF.symm, hbb, hB1⟩
      case round =>
        clear hbb hB1 z0 z1 z2 hF
        obtain ⟨k, R, hk, rfl, rfl, hR, hF, hbw, hB⟩ := hrel
        by_cases hlt : k < xs.length
        · have hlt2 : k < es.length := by rw [← HL.out]; exact hlt
          obtain ⟨bu, ou, rfl, hu1, hu2⟩ := nums_cell (hu.next hbw) k hlt
          obtain ⟨bv, ov, rfl, hv1, hv2⟩ := nums_cell (hv.next hbw) k hlt2
          obtain ⟨z0, z1, z2⟩ : wr.cell? ⟨w.heap.size, 0, none⟩ = some (.int .i64 P) ∧ wr.cell? ⟨w.heap.size, 1, none⟩ = some (.int .i64 Q) ∧ wr.cell? ⟨w.heap.size, 2, none⟩ = some (.int .i64 G) := ⟨hB.cell 0, hB.cell 1, hB.cell 2⟩
          rw [gProdF_drop P Q R xs es k hlt hlt2] at hF
          have hxi := hx _ (List.getElem_mem hlt)
          have hei := he _ (List.getElem_mem hlt2)
          generalize xs[k] = x at *
          generalize es[k] = e0 at *
          obtain ⟨S, hS⟩ : ∃ S, S = gPow P Q x e0 := ⟨_, rfl⟩
          obtain ⟨T, hT⟩ : ∃ T, T = mulZ P R S := ⟨_, rfl⟩
          rw [← hS, ← hT] at hF
          have hTi : isInt T := by rw [hT]; exact mulZ_int _ _ _
          have hSi : isInt S := by rw [hS]; exact gPow_int _ _ _ _
          have c3 := fun w => Lib.hid (power_calls P Q G x e0 hxi hei w)
          rw [← hS] at c3
          have c4 := fun w => Lib.hid (mul_calls P R S hR hSi w)
          rw [← hT] at c4
          have HF := Lib.hid hF
          clear hF hS hT hx he hxi hei
          have hBd : Blk wr.drew w.heap.size 30 #[.int .i64 P, .int .i64 Q, .int .i64 G] := hB
          have hbd : Below w.heap.size w wr.drew := below_drewN hbw 1
          go_wp2
          go_region_with (first
            | (go_at_call 43; have h9 := (c3 wr.drew).out; clear c3; refine Calls.mono h9 ?_; rintro e w2 ⟨rfl, hb2⟩; obtain ⟨hB2, y0, y1, y2⟩ := grp_cells hBd hb2)
            | (go_at_call 44; have h9 := (c4 w2).out; clear c4; refine Calls.mono h9 ?_; rintro e w' ⟨rfl, m, rfl⟩))
          all_goals
            go_wp2
            go_roundw
            case rel => exact ⟨k + 1, T, by omega, by go_num, rfl, hTi, HF.out, below_drewN (hbd.trans (hb2.mono hbd.size)) m, hB2⟩
            case measure => simp [intOf]; omega
        · obtain rfl : k = xs.length := by omega
          have HR : Hid (gProdV P Q xs es = .tuple #[.int .i64 R, .bool true]) := by
            show gProdV P Q xs es = _
            rw [HV.out, ← hF, List.drop_length, gProdF_nil]
          clear hF HV
          go_wp2
          go_ret2
          exact ⟨ret_of HR.out.symm, hbw⟩
    · have HV : Hid (gProdV P Q xs es = .tuple #[.int .i64 0, .bool false]) := by
        show gProdV P Q xs es = _
        unfold gProdV; rw [if_neg (fun h => hl h.2)]
      have hbne : ((xs.length : Int) != (es.length : Int)) = true := bne_iff_ne.2 (by omega)
      clear hl h
      go_enter Tryz.func62, Tryz.ntmps62
      go_wp2_with fail
      generalize (w.alloc (.cells #[.int .i64 P, .int .i64 Q, .int .i64 G] 30)) = W0 at *
      have h9 := (c1 W0).out
      clear c1
      refine Calls.mono h9 ?_
      rintro e w1 ⟨rfl, hb1⟩
      have hbb := hb.trans (hb1.mono hb.size)
      clear hB hb hb1
      go_wp2
      go_ret2
      exact ⟨ret_of HV.out.symm, hbb⟩
  · have c1 := fun w => Lib.hid (comp_no P Q G h w)
    have HV : Hid (gProdV P Q xs es = .tuple #[.int .i64 0, .bool false]) := by
      show gProdV P Q xs es = _
      unfold gProdV; rw [if_neg (fun h' => h h'.1)]
    clear h
    go_enter Tryz.func62, Tryz.ntmps62
    go_wp2_with fail
    generalize (w.alloc (.cells #[.int .i64 P, .int .i64 Q, .int .i64 G] 30)) = W0 at *
    have h9 := (c1 W0).out
    clear c1
    refine Calls.mono h9 ?_
    rintro e w1 ⟨rfl, hb1⟩
    have hbb := hb.trans (hb1.mono hb.size)
    clear hB hb hb1
    go_wp2
    go_ret2
    exact ⟨ret_of HV.out.symm, hbb⟩
end Go.Proofs.YtmgamngdmhnffaaGreatDoor
