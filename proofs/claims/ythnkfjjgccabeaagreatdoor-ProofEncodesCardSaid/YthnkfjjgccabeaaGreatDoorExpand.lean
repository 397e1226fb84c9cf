/- The message schedule of a block. -/
import Derived.Test.YthnkfjjgccabeaaGreatDoorRow
import Derived.StillTailTactics
namespace Go.Proofs.YthnkfjjgccabeaaGreatDoor
open Go.RowKit

theorem word_eq (b0 b1 b2 b3 : UInt8) : bits .or .u32 (bits .or .u32 (bits .or .u32 ((b0.toNat : Int) % 4294967296 * 16777216 % 4294967296) ((b1.toNat : Int) % 4294967296 * 65536 % 4294967296)) ((b2.toNat : Int) % 4294967296 * 256 % 4294967296)) ((b3.toNat : Int) % 4294967296) = uv (wordB b0 b1 b2 b3) := by
  have v8 : ∀ x : BitVec 32, uv x * (16777216 : Int) % (4294967296 : Int) = uv (x <<< 24) := fun x => (IntKind.wrap_u32' _).symm.trans (uv_shl x 24)
  have v9 : ∀ x : BitVec 32, uv x * (65536 : Int) % (4294967296 : Int) = uv (x <<< 16) := fun x => (IntKind.wrap_u32' _).symm.trans (uv_shl x 16)
  have v10 : ∀ x : BitVec 32, uv x * (256 : Int) % (4294967296 : Int) = uv (x <<< 8) := fun x => (IntKind.wrap_u32' _).symm.trans (uv_shl x 8)
  rw [byte_uv, byte_uv, byte_uv, byte_uv, uv_mod, uv_mod, uv_mod, uv_mod, v8, v9, v10, uv_or, uv_or, uv_or]; rfl
theorem sum_eq (a b c d : BitVec 32) : (uv a + uv b + uv c + uv d) % 4294967296 = uv (a + b + c + d) := by
  unfold uv
  rw [BitVec.toNat_add, BitVec.toNat_add, BitVec.toNat_add]
  omega
set_option maxHeartbeats 4000000 in
set_option maxRecDepth 100000 in
theorem expand_calls (l : List UInt8) (hl : l.length = 64) (w : World) :
    Calls Tryz.prog 108 #[.string (bs l)] w fun e w' => e = .returned (.agg (wordV 64 (schedB l))) ∧ Below w.heap.size w w' := by
  have hz : (bs l).size = 64 := by rw [bs_size]; exact hl
  have hz1 : (64 : Int) ≤ ((bs l).size : Int) := by omega
  go_enter Tryz.func108, Tryz.ntmps108
  go_wp2
  go_loopw [10] (fun i wr => ∃ k : Nat, k ≤ 16 ∧ i = .int .i64 (k : Int) ∧ Blk wr w.heap.size 155 (wordV 64 []) ∧ Blk wr (w.heap.size + 1) 155 (wordV 64 ((List.range k).map (wordAt l))) ∧ Below w.heap.size w wr) (fun i _ => 16 - (intOf i).toNat)
  case atStart =>
    refine ⟨0, by omega, rfl, ?_, ?_, ((Below.refl _ _).alloc (Nat.le_refl _) _).alloc (by simp) _⟩
    · exact (Blk.new w 155 (wordV 64 [])).alloc _
    · have h := Blk.new (w.alloc (.cells (wordV 64 []) 155)) 155 (wordV 64 [])
      have e : (w.alloc (.cells (wordV 64 []) 155)).heap.size = w.heap.size + 1 := by simp
      rw [e] at h
      exact h
  case round =>
    obtain ⟨k, hk, rfl, hB0, hB1, hbl⟩ := hrel
    by_cases hlt : k < 16
    · have hlen : ((List.range k).map (wordAt l)).length = k := by simp
      have hc0 := hB1.cell k
      have hz0 := wordV_zero (n := 64) (W := (List.range k).map (wordAt l)) (by omega)
      rw [hlen] at hz0
      rw [hz0] at hc0
      have hf := hB1.frozen k
      obtain ⟨M, hM⟩ : ∃ M, M = 4 * k := ⟨_, rfl⟩
      obtain ⟨M1, hM1⟩ : ∃ M1, M1 = M + 1 := ⟨_, rfl⟩
      obtain ⟨M2, hM2⟩ : ∃ M2, M2 = M + 2 := ⟨_, rfl⟩
      obtain ⟨M3, hM3⟩ : ∃ M3, M3 = M + 3 := ⟨_, rfl⟩
      obtain ⟨b0, hb0⟩ : ∃ b, b = l[M]'(by omega) := ⟨_, rfl⟩
      obtain ⟨b1, hb1⟩ : ∃ b, b = l[M1]'(by omega) := ⟨_, rfl⟩
      obtain ⟨b2, hb2⟩ : ∃ b, b = l[M2]'(by omega) := ⟨_, rfl⟩
      obtain ⟨b3, hb3⟩ : ∃ b, b = l[M3]'(by omega) := ⟨_, rfl⟩
      have g0 : ∀ h, (bs l)[M]'h = b0 := fun h => by rw [hb0]; exact bs_get l _ h (by omega)
      have g1 : ∀ h, (bs l)[M1]'h = b1 := fun h => by rw [hb1]; exact bs_get l _ h (by omega)
      have g2 : ∀ h, (bs l)[M2]'h = b2 := fun h => by rw [hb2]; exact bs_get l _ h (by omega)
      have g3 : ∀ h, (bs l)[M3]'h = b3 := fun h => by rw [hb3]; exact bs_get l _ h (by omega)
      have i0 : M < (bs l).size := by omega
      have i1 : M1 < (bs l).size := by omega
      have i2 : M2 < (bs l).size := by omega
      have i3 : M3 < (bs l).size := by omega
      have s0 : IntKind.i64.wrap (4 * (k : Int)) = (M : Int) := by simp only [IntKind.wrap, IntKind.bits, IntKind.signed]; simp; omega
      have s1 : IntKind.i64.wrap ((M : Int) + 1) = (M1 : Int) := by simp only [IntKind.wrap, IntKind.bits, IntKind.signed]; simp; omega
      have s2 : IntKind.i64.wrap ((M : Int) + 2) = (M2 : Int) := by simp only [IntKind.wrap, IntKind.bits, IntKind.signed]; simp; omega
      have s3 : IntKind.i64.wrap ((M : Int) + 3) = (M3 : Int) := by simp only [IntKind.wrap, IntKind.bits, IntKind.signed]; simp; omega
      have HWD : Hid (wordB b0 b1 b2 b3 = wordAt l k) := by
        show wordB b0 b1 b2 b3 = wordAt l k
        unfold wordAt
        subst hM3 hM2 hM1 hM
        rw [hb0, hb1, hb2, hb3]
        simp only [List.getD_eq_getElem?_getD, List.getElem?_eq_getElem (show 4 * k < l.length by omega), List.getElem?_eq_getElem (show 4 * k + 1 < l.length by omega), List.getElem?_eq_getElem (show 4 * k + 2 < l.length by omega), List.getElem?_eq_getElem (show 4 * k + 3 < l.length by omega), Option.getD_some]
      have j0 : (M : Int) < 64 := by omega
      have j1 : (M1 : Int) < 64 := by omega
      have j2 : (M2 : Int) < 64 := by omega
      have j3 : (M3 : Int) < 64 := by omega
      clear hM hM1 hM2 hM3 hb0 hb1 hb2 hb3
      go_wp2
      go_outline
      go_still_tail 30, (by kernel_rfl)
      change wpList _ _ _ _ _ wr.drew
      have hset := wordV_set (n := 64) (W := (List.range k).map (wordAt l)) (x := wordAt l k) (by omega)
      rw [hlen] at hset
      have HSET := Lib.hid hset
      clear hset hz0 hlen
      go_wp2
      go_roundw
      case rel =>
        refine ⟨k + 1, by omega, by go_num, ?_, ?_, ?_⟩
        · exact Blk.far (show Blk wr.drew _ _ _ from hB0) (by simp) _
        · have h := Blk.set_ (show Blk wr.drew _ _ _ from hB1) k (.int .u32 (uv (wordAt l k)))
          rw [HSET.out] at h
          rw [List.range_succ, List.map_append, word_eq, HWD.out]
          exact h
        · exact hbl.drew.setCell (by simp) _
      case measure => simp [intOf]; omega
    · obtain rfl : k = 16 := by omega
      have c16 : ((16 : Nat) : Int) = 16 := rfl
      rw [c16]
      clear c16
      have HSC : Hid (extB 48 (firstW l) = schedB l) := rfl
      have hB2 : Blk wr (w.heap.size + 1) 155 (wordV 64 (firstW l)) := hB1
      have hFL : (firstW l).length = 16 := by simp [firstW]
      generalize firstW l = W0 at *
      clear hB1
      go_wp2
      go_loopw [5] (fun i wr => ∃ (k : Nat) (W : List (BitVec 32)), 16 ≤ k ∧ k ≤ 64 ∧ i = .int .i64 (k : Int) ∧ W.length = k ∧ extB (64 - k) W = schedB l ∧ Blk wr w.heap.size 155 (wordV 64 []) ∧ Blk wr (w.heap.size + 1) 155 (wordV 64 W) ∧ Below w.heap.size w wr) (fun i _ => 64 - (intOf i).toNat)
      case atStart => exact ⟨16, W0, by omega, by omega, rfl, hFL, HSC.out, hB0, hB2, hbl⟩
      case round =>
        clear hB0 hB2 hbl
        obtain ⟨k, W, hk1, hk2, rfl, hWl, hext, hB0, hB1, hbl⟩ := hrel
        have HEXT := Lib.hid hext
        clear hext
        by_cases hlt : k < 64
        · have hzz := wordV_zero (n := 64) (W := W) (by omega)
          rw [hWl] at hzz
          have hc0 := hB1.cell k
          rw [hzz] at hc0
          have hf := hB1.frozen k
          have hset := wordV_set (n := 64) (W := W) (x := nextB W) (by omega)
          rw [hWl] at hset
          have HSET := Lib.hid hset
          have hn : nextB W = W.getD (k - 16) 0 + s0B (W.getD (k - 15) 0) + W.getD (k - 7) 0 + s1B (W.getD (k - 2) 0) := by unfold nextB; rw [hWl]
          obtain ⟨P16, h16⟩ : ∃ p, p = k - 16 := ⟨_, rfl⟩
          obtain ⟨P15, h15⟩ : ∃ p, p = k - 15 := ⟨_, rfl⟩
          obtain ⟨P7, h7⟩ : ∃ p, p = k - 7 := ⟨_, rfl⟩
          obtain ⟨P2, h2⟩ : ∃ p, p = k - 2 := ⟨_, rfl⟩
          rw [← h16, ← h15, ← h7, ← h2] at hn
          have gd : ∀ p, p < k → W[p]? = some (W.getD p 0) := fun p hp => by rw [List.getD_eq_getElem?_getD, List.getElem?_eq_getElem (by omega)]; rfl
          have c16 := hB1.cell P16
          rw [wordV_get (gd P16 (by omega))] at c16
          have c15 := hB1.cell P15
          rw [wordV_get (gd P15 (by omega))] at c15
          have c7 := hB1.cell P7
          rw [wordV_get (gd P7 (by omega))] at c7
          have c2 := hB1.cell P2
          rw [wordV_get (gd P2 (by omega))] at c2
          generalize W.getD P16 0 = x16 at *
          generalize W.getD P15 0 = x at *
          generalize W.getD P7 0 = x7 at *
          generalize W.getD P2 0 = y at *
          have s16 : IntKind.i64.wrap ((k : Int) - 16) = (P16 : Int) := by simp only [IntKind.wrap, IntKind.bits, IntKind.signed]; simp; omega
          have s15 : IntKind.i64.wrap ((k : Int) - 15) = (P15 : Int) := by simp only [IntKind.wrap, IntKind.bits, IntKind.signed]; simp; omega
          have s7 : IntKind.i64.wrap ((k : Int) - 7) = (P7 : Int) := by simp only [IntKind.wrap, IntKind.bits, IntKind.signed]; simp; omega
          have s2 : IntKind.i64.wrap ((k : Int) - 2) = (P2 : Int) := by simp only [IntKind.wrap, IntKind.bits, IntKind.signed]; simp; omega
          have j16 : (P16 : Int) < 64 := by omega
          have j15 : (P15 : Int) < 64 := by omega
          have j7 : (P7 : Int) < 64 := by omega
          have j2 : (P2 : Int) < 64 := by omega
          have jk : (k : Int) < 64 := by omega
          have v3 : ∀ x : BitVec 32, uv x / (8 : Int) = uv (x >>> 3) := fun x => uv_shr x 3
          have v10 : ∀ x : BitVec 32, uv x / (1024 : Int) = uv (x >>> 10) := fun x => uv_shr x 10
          have x1 := uv_xor
          have HNX : Hid (x16 + (rotr x 7 ^^^ rotr x 18 ^^^ x >>> 3) + x7 + (rotr y 17 ^^^ rotr y 19 ^^^ y >>> 10) = nextB W) := hn.symm
          have HWL := Lib.hid hWl
          have HE2 : Hid (extB (64 - (k + 1)) (W ++ [nextB W]) = schedB l) := by
            show extB (64 - (k + 1)) (W ++ [nextB W]) = schedB l
            rw [← HEXT.out, show 64 - k = 64 - (k + 1) + 1 by omega, extB]
          clear hn h16 h15 h7 h2 gd hset hzz hWl
          go_wp2
          go_quiet (fail)
          go_wp2_with fail
          refine (turn_lit x 7 7 rfl (by omega) (by omega) _).mono ?_
          rintro e w1 ⟨rfl, rfl⟩
          go_wp2_with fail
          refine (turn_lit x 18 18 rfl (by omega) (by omega) _).mono ?_
          rintro e w1 ⟨rfl, rfl⟩
          go_wp2_with fail
          refine (turn_lit y 17 17 rfl (by omega) (by omega) _).mono ?_
          rintro e w1 ⟨rfl, rfl⟩
          go_wp2_with fail
          refine (turn_lit y 19 19 rfl (by omega) (by omega) _).mono ?_
          rintro e w1 ⟨rfl, rfl⟩
          go_wp2_with fail
          have hQ0 : Blk (wr.drewN nq) w.heap.size 155 (wordV 64 []) := hB0
          have hQ1 : Blk (wr.drewN nq) (w.heap.size + 1) 155 (wordV 64 W) := hB1
          have hQ2 : Below w.heap.size w (wr.drewN nq) := ⟨hbl.os, hbl.tape, hbl.output, hbl.size, hbl.block⟩
          have q16 : (wr.drewN nq).cell? ⟨w.heap.size + 1, P16, none⟩ = some (.int .u32 (uv x16)) := c16
          have q7 : (wr.drewN nq).cell? ⟨w.heap.size + 1, P7, none⟩ = some (.int .u32 (uv x7)) := c7
          have q0 : (wr.drewN nq).cell? ⟨w.heap.size + 1, k, none⟩ = some (.int .u32 0) := hc0
          have qf : (wr.drewN nq).frozen? ⟨w.heap.size + 1, k, none⟩ = false := hf
          clear v3 v10 x1 c15 c2 s15 s2 j15 j2 hB0 hB1 hbl c16 c7 hc0 hf
          generalize wr.drewN nq = wq at *
          go_still_tail 14, (by kernel_rfl)
          change wpList _ _ _ _ _ (World.drew wq)
          go_wp2
          go_roundw
          case rel =>
            refine ⟨k + 1, W ++ [nextB W], by omega, by omega, by go_num, by rw [List.length_append, HWL.out]; rfl, HE2.out, ?_, ?_, ?_⟩
            · exact Blk.far (show Blk wq.drew _ _ _ from hQ0) (by simp) _
            · have h := Blk.set_ (show Blk wq.drew _ _ _ from hQ1) k (.int .u32 (uv (nextB W)))
              rw [HSET.out] at h
              rw [sum_eq, HNX.out]
              exact h
            · exact hQ2.drew.setCell (by simp) _
          case measure => simp [intOf]; omega
        · have hk64 : k = 64 := by omega
          have HS : Hid (W = schedB l) := by
            show W = schedB l
            have := HEXT.out
            rwa [hk64, Nat.sub_self, extB] at this
          obtain ⟨hth, hfin, hsz⟩ := hB0.full (wordV_zsize 64) (hWl.trans hk64)
          have hbfin := below_setCells w.heap.size (Nat.le_refl _) (wordV 64 W).toList 0 wr hbl
          have HSZ := Lib.hid hsz
          have HTH := Lib.hid hth
          have HFIN := Lib.hid hfin
          have HBF := Lib.hid hbfin
          have HSV : Hid (wordV 64 W = wordV 64 (schedB l)) := by show wordV 64 W = wordV 64 (schedB l); rw [HS.out]
          have H1 := Lib.hid (wordV_one 64 W)
          clear hk64 hsz hth hWl hfin hbfin HS HSC HEXT
          generalize wordV 64 [] = Z at *
          generalize wordV 64 W = C at *
          go_wp2_with (first
            | (refine wpList_load_row rfl 155 (.tmp 3) rfl (w.heap.size + 1) rfl 155 C (0, 0) _ hB1 Tryz.underlying155 rfl (by rw [HSZ.out]; exact info64) ?_)
            | (refine wpList_store_mid rfl 155 (.tmp 2) (.tmp 88) rfl w.heap.size 0 C rfl rfl HTH.out (by rw [HSZ.out]; exact info64) H1.out ?_))
          refine bodyPost_ret (results_cell_row rfl _ _ w.heap.size 155 C (0, 0) _ rfl HFIN.out Tryz.underlying155 rfl (by rw [HSZ.out]; exact info64)) rfl ⟨?_, HBF.out⟩
          rw [HSV.out]
end Go.Proofs.YthnkfjjgccabeaaGreatDoor
