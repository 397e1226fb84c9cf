/- The reference's SHA-256: the schedule of a block. -/
import Derived.Test.YtolmcaikjebdaaaDoorRSha2
import Derived.StillTailTactics
import Derived.Deep.RegionHeld3
import Derived.Deep.AppendLies
import Derived.Deep.RegionLaw
import Derived.Deep.DrawnRows
import Derived.BigFrame
import Derived.BigQuiet
namespace Go.Proofs.YtolmcaikjebdaaaDoor
open Go.RowKit
attribute [local go_sem ↓] Go.wp_at_zero Go.wp_at_succ

/-- A slice of words of one's own. -/
def OwnW (B : Nat) (v : Value) (W : List (BitVec 32)) (w : World) : Prop := w.ownsRow B 55 1 v W.length (wcs W)
theorem wcs_append (a b : List (BitVec 32)) : wcs (a ++ b) = wcs a ++ wcs b := by unfold wcs; simp
theorem wcs_len (a : List (BitVec 32)) : (wcs a).length = a.length := by unfold wcs; simp
theorem wcs_get {a : List (BitVec 32)} {i : Nat} {x : BitVec 32} (h : a[i]? = some x) : (wcs a)[i]? = some (.int .u32 (uv x)) := by unfold wcs; rw [List.getElem?_map, h]; rfl
theorem OwnW.app {B : Nat} {v : Value} {W : List (BitVec 32)} {x : BitVec 32} {w : World} (h : w.ownsRow B 55 1 v (W.length + 1) (wcs W ++ [.int .u32 (uv x)])) : OwnW B v (W ++ [x]) w := by
  unfold OwnW; rw [List.length_append, wcs_append]; exact h
theorem OwnW.len {B : Nat} {v : Value} {W : List (BitVec 32)} {w : World} (h : OwnW B v W w) (hl : 0 < W.length) : ∃ g cap, v = .slice (some ⟨g, 0, none⟩) W.length cap := by
  obtain ⟨_, ⟨h1, h2⟩ | ⟨g, cap, cur, hv, _⟩⟩ := h
  · omega
  · exact ⟨g, cap, hv⟩
theorem OwnW.cell {B g cap : Nat} {W : List (BitVec 32)} {w : World} (h : OwnW B (.slice (some ⟨g, 0, none⟩) W.length cap) W w) {j : Nat} {x : BitVec 32} (hx : W[j]? = some x) : w.cell? ⟨g, j, none⟩ = some (.int .u32 (uv x)) := by
  have hj := (List.getElem?_eq_some_iff.1 hx).1
  have := World.ownsRow.cellAt h j (by omega)
  rw [this]; exact wcs_get hx
theorem OwnW.drewN {B : Nat} {v : Value} {W : List (BitVec 32)} {w : World} (h : OwnW B v W w) (n : Nat) : OwnW B v W (w.drewN n) := h
theorem firstW_take (l : List UInt8) (k : Nat) (h : k < 16) : (firstW l).take (k + 1) = (firstW l).take k ++ [wordAt l k] := by
  have hl : k < (firstW l).length := by unfold firstW; simp; exact h
  rw [List.take_succ_eq_append_getElem hl]
  congr 1
  have : (firstW l)[k]? = some (wordAt l k) := by unfold firstW; rw [List.getElem?_map, List.getElem?_range h]; rfl
  rw [List.getElem?_eq_getElem hl] at this
  rw [Option.some.inj this]
theorem firstW_len (l : List UInt8) : (firstW l).length = 16 := by unfold firstW; simp
theorem rturn_lit (x : BitVec 32) (k : Nat) (n : Int) (hn : n = (k : Int)) (h1 : 1 ≤ k) (h2 : k ≤ 31) (w : World) :
    Calls Tryd.prog 74 #[.int .u32 (uv x), .int .i64 n] w (Ret (.int .u32 (uv (rotr x k))) w) := by
  rw [hn]; exact rturn_calls x k h1 h2 w
theorem word_eq2 (b0 b1 b2 b3 : UInt8) : bits .or .u32 (bits .or .u32 (bits .or .u32 (IntKind.u32.wrap (IntKind.u32.wrap (b0.toNat : Int) * 16777216)) (IntKind.u32.wrap (IntKind.u32.wrap (b1.toNat : Int) * 65536))) (IntKind.u32.wrap (IntKind.u32.wrap (b2.toNat : Int) * 256))) (IntKind.u32.wrap (b3.toNat : Int)) = uv (wordB b0 b1 b2 b3) := by
  rw [← word_eq]; simp only [IntKind.wrap_u32']
theorem sum_eq2 (a b c d : BitVec 32) : IntKind.u32.wrap (IntKind.u32.wrap (IntKind.u32.wrap (uv a + uv b) + uv c) + uv d) = uv (a + b + c + d) := by
  rw [uv_add, uv_add, uv_add]
set_option maxRecDepth 100000 in
set_option maxHeartbeats 2000000 in
theorem rwords_calls (l : List UInt8) (bk off cap : Nat) (w : World) (hsrc : ∀ j c, l[j]? = some c → w.cell? ⟨bk, off + j, none⟩ = some (.int .u8 (c.toNat : Int))) (hlt : bk < w.heap.size) (hl : l.length = 64) :
    Calls Tryd.prog 72 #[.slice (some ⟨bk, off, none⟩) 64 cap] w fun e w' => ∃ g cp, e = .returned (.slice (some ⟨g, 0, none⟩) 64 cp) ∧ OwnW w.heap.size (.slice (some ⟨g, 0, none⟩) 64 cp) (schedB l) w' ∧ Below w.heap.size w w' := by
  obtain ⟨i0, hi, hz0, hz1, hz2⟩ := info_parts infoU32
  obtain ⟨SB, hSB⟩ : ∃ SB, SB = schedB l := ⟨_, rfl⟩
  rw [← hSB]
  have HSC0 : Nat → extB 48 (firstW l) = SB := fun _ => by rw [hSB]; rfl
  clear hSB
  go_enter Tryd.func72, Tryd.ntmps72
  go_wp2_with fail
  go_loopw [3, 4] (fun v i wr => ∃ k : Nat, k ≤ 16 ∧ i = .int .i64 (k : Int) ∧ OwnW w.heap.size v ((firstW l).take k) wr ∧ Below w.heap.size w wr) (fun _ i _ => 16 - (intOf i).toNat)
  case atStart => exact ⟨0, by omega, rfl, ⟨rfl, .inl ⟨rfl, rfl⟩⟩, Below.refl _ _⟩
  case round =>
    obtain ⟨k, hk, rfl, ho, hb⟩ := hrel
    have htl : ((firstW l).take k).length = k := by rw [List.length_take, firstW_len]; omega
    by_cases hlt16 : k < 16
    · have htk := firstW_take l k hlt16
      obtain ⟨T, hT⟩ : ∃ T, T = (firstW l).take k := ⟨_, rfl⟩
      rw [← hT] at ho htl htk
      obtain ⟨M, hM⟩ : ∃ M, M = 4 * k := ⟨_, rfl⟩
      obtain ⟨M1, hM1⟩ : ∃ M1, M1 = M + 1 := ⟨_, rfl⟩
      obtain ⟨M2, hM2⟩ : ∃ M2, M2 = M + 2 := ⟨_, rfl⟩
      obtain ⟨M3, hM3⟩ : ∃ M3, M3 = M + 3 := ⟨_, rfl⟩
      obtain ⟨b0, hb0⟩ : ∃ b, b = l[M]'(by omega) := ⟨_, rfl⟩
      obtain ⟨b1, hb1⟩ : ∃ b, b = l[M1]'(by omega) := ⟨_, rfl⟩
      obtain ⟨b2, hb2⟩ : ∃ b, b = l[M2]'(by omega) := ⟨_, rfl⟩
      obtain ⟨b3, hb3⟩ : ∃ b, b = l[M3]'(by omega) := ⟨_, rfl⟩
      have hat : ∀ j c, l[j]? = some c → wr.cell? ⟨bk, off + j, none⟩ = some (.int .u8 (c.toNat : Int)) := fun j c h => by rw [hb.cell (p := ⟨bk, off + j, none⟩) hlt]; exact hsrc j c h
      have c0 := hat M b0 (by rw [hb0]; exact List.getElem?_eq_getElem _)
      have c1 := hat M1 b1 (by rw [hb1]; exact List.getElem?_eq_getElem _)
      have c2 := hat M2 b2 (by rw [hb2]; exact List.getElem?_eq_getElem _)
      have c3 := hat M3 b3 (by rw [hb3]; exact List.getElem?_eq_getElem _)
      have s0 : IntKind.i64.wrap (4 * (k : Int)) = (M : Int) := by simp only [IntKind.wrap, IntKind.bits, IntKind.signed]; simp; omega
      have s1 : IntKind.i64.wrap ((M : Int) + 1) = (M1 : Int) := by simp only [IntKind.wrap, IntKind.bits, IntKind.signed]; simp; omega
      have s2 : IntKind.i64.wrap ((M : Int) + 2) = (M2 : Int) := by simp only [IntKind.wrap, IntKind.bits, IntKind.signed]; simp; omega
      have s3 : IntKind.i64.wrap ((M : Int) + 3) = (M3 : Int) := by simp only [IntKind.wrap, IntKind.bits, IntKind.signed]; simp; omega
      have HWD : Hid (wordB b0 b1 b2 b3 = wordAt l k) := by
        show wordB b0 b1 b2 b3 = wordAt l k
        unfold wordAt
        subst hM3 hM2 hM1 hM
        rw [hb0, hb1, hb2, hb3]
        simp only [List.getD_eq_getElem?_getD, List.getElem?_eq_getElem (show 4 * k < l.length by omega), List.getElem?_eq_getElem (show 4 * k + 1 < l.length by omega), List.getElem?_eq_getElem (show 4 * k + 2 < l.length by omega), List.getElem?_eq_getElem (show 4 * k + 3 < l.length by omega), Option.getD_some]
      have j0 : (M : Int) < 64 := by omega
      have j1 : (M1 : Int) < 64 := by omega
      have j2 : (M2 : Int) < 64 := by omega
      have j3 : (M3 : Int) < 64 := by omega
      have HT := Lib.hid hT
      have HTK := Lib.hid htk
      clear hM hM1 hM2 hM3 hb0 hb1 hb2 hb3 hT htk hat
      have z0 : (0 : Int) ≤ (M : Int) := Int.natCast_nonneg _
      have z1 : (0 : Int) ≤ (M1 : Int) := Int.natCast_nonneg _
      have z2 : (0 : Int) ≤ (M2 : Int) := Int.natCast_nonneg _
      have z3 : (0 : Int) ≤ (M3 : Int) := Int.natCast_nonneg _
      have hne : u3.ownBlock ≠ some bk := fun h => by have := (World.ownsRow.lt ho bk h).1; omega
      have hbs := hb.size
      have HB := Lib.hid hb
      have HO := Lib.hid ho
      clear hb ho
      go_wp2
      go_region_held3 (fun w' => w'.cell? ⟨bk, off + M, none⟩ = some (.int .u8 (b0.toNat : Int)) ∧ w'.cell? ⟨bk, off + M1, none⟩ = some (.int .u8 (b1.toNat : Int)) ∧ w'.cell? ⟨bk, off + M2, none⟩ = some (.int .u8 (b2.toNat : Int)) ∧ w'.cell? ⟨bk, off + M3, none⟩ = some (.int .u8 (b3.toNat : Int)))
        (first
          | go_keep
          | (go_split_ands
             refine ⟨?_, ?_, ?_, ?_⟩
             · (rw [hgrow.cell_far _ (by simp; omega) (Ne.symm hne)]; assumption)
             · (rw [hgrow.cell_far _ (by simp; omega) (Ne.symm hne)]; assumption)
             · (rw [hgrow.cell_far _ (by simp; omega) (Ne.symm hne)]; assumption)
             · (rw [hgrow.cell_far _ (by simp; omega) (Ne.symm hne)]; assumption)))
        ((refine step_append_lies _ (by rfl) _ _ _ (by rfl) w.heap.size 55 i0 _ 1 4 Tryd.underlying66 hi hz0 hz1 hz2 rfl (by omega) u3 k (wcs T) (by rfl) ((World.ownsRow.alloc (htl ▸ HO.out) _).drew)
            ⟨wr.heap.size, 0, none⟩ 1 1 [_] (by rfl) (by rfl) (World.news_of_block (cs := #[_]) (t := 55) (fr := (0, 0)) (heap_alloc_new wr _)) (by simp [Value.oneCell'])
            (by omega) (by unfold maxLen; omega) (by omega) (by simp; omega) (wr.heap.size + 1) (by simp) ?_; intro gg cap' w1 hown1 hgrow hat hlt'))
      have hb1 := below_grown ((HB.out.trans ((below_one wr _).mono hbs)).drew) (Nat.le_refl _) ((World.ownsRow.alloc HO.out _).drew) hgrow
      rw [word_eq2, HWD.out] at hown1
      have ho1 : OwnW w.heap.size (.slice (some ⟨gg, 0, none⟩) (k + 1) cap') ((firstW l).take (k + 1)) w1 := by
        rw [HTK.out]
        refine OwnW.app ?_
        rw [htl]; exact hown1
      clear hown1 hgrow hat hlt' c0 c1 c2 c3 s0 s1 s2 s3
      go_wp2
      go_roundw
      case rel => exact ⟨k + 1, by omega, by go_num, ho1, hb1⟩
      case measure => simp [intOf]; omega
    · obtain rfl : k = 16 := by omega
      have hfl := firstW_len l
      have hft : (firstW l).take 16 = firstW l := List.take_of_length_le (by omega)
      rw [hft] at ho
      generalize firstW l = W0 at *
      clear hft htl
      obtain ⟨g0, cp0, rfl⟩ := ho.len (by omega)
      have c16 : ((16 : Nat) : Int) = 16 := rfl
      rw [c16]
      clear c16
      go_wp2
      go_loopw [3, 5] (fun v i wr => ∃ (k : Nat) (W : List (BitVec 32)) (g cp : Nat), 16 ≤ k ∧ k ≤ 64 ∧ i = .int .i64 (k : Int) ∧ v = .slice (some ⟨g, 0, none⟩) k cp ∧ W.length = k ∧ extB (64 - k) W = SB ∧ OwnW w.heap.size (.slice (some ⟨g, 0, none⟩) k cp) W wr ∧ Below w.heap.size w wr) (fun _ i _ => 64 - (intOf i).toNat)
      case atStart => exact ⟨16, W0, g0, cp0, by omega, by omega, rfl, by rw [hfl], hfl, HSC0 0, by rw [← hfl]; exact ho, hb⟩
      case round =>
        clear ho hb HSC0
        obtain ⟨k, W, g, cp, hk1, hk2, rfl, rfl, hWl, hext, ho, hb⟩ := hrel
        have HEXT := Lib.hid hext
        clear hext
        by_cases hlt64 : k < 64
        · have hn : nextB W = W.getD (k - 16) 0 + s0B (W.getD (k - 15) 0) + W.getD (k - 7) 0 + s1B (W.getD (k - 2) 0) := by unfold nextB; rw [hWl]
          obtain ⟨P16, h16⟩ : ∃ p, p = k - 16 := ⟨_, rfl⟩
          obtain ⟨P15, h15⟩ : ∃ p, p = k - 15 := ⟨_, rfl⟩
          obtain ⟨P7, h7⟩ : ∃ p, p = k - 7 := ⟨_, rfl⟩
          obtain ⟨P2, h2⟩ : ∃ p, p = k - 2 := ⟨_, rfl⟩
          rw [← h16, ← h15, ← h7, ← h2] at hn
          have gd : ∀ p, p < k → W[p]? = some (W.getD p 0) := fun p hp => by rw [List.getD_eq_getElem?_getD, List.getElem?_eq_getElem (by omega)]; rfl
          have ho' : OwnW w.heap.size (.slice (some ⟨g, 0, none⟩) W.length cp) W wr := by rw [hWl]; exact ho
          have c16 := ho'.cell (gd P16 (by omega))
          have c15 := ho'.cell (gd P15 (by omega))
          have c7 := ho'.cell (gd P7 (by omega))
          have c2 := ho'.cell (gd P2 (by omega))
          generalize W.getD P16 0 = x16 at *
          generalize W.getD P15 0 = x at *
          generalize W.getD P7 0 = x7 at *
          generalize W.getD P2 0 = y at *
          have s16 : IntKind.i64.wrap ((k : Int) - 16) = (P16 : Int) := by simp only [IntKind.wrap, IntKind.bits, IntKind.signed]; simp; omega
          have e15 : (k : Int) - 15 = (P15 : Int) := by omega
          have s7 : IntKind.i64.wrap ((k : Int) - 7) = (P7 : Int) := by simp only [IntKind.wrap, IntKind.bits, IntKind.signed]; simp; omega
          have e2 : (k : Int) - 2 = (P2 : Int) := by omega
          have j16 : (P16 : Int) < (k : Int) := by omega
          have j15 : (P15 : Int) < (k : Int) := by omega
          have j7 : (P7 : Int) < (k : Int) := by omega
          have j2 : (P2 : Int) < (k : Int) := by omega
          have z16 : (0 : Int) ≤ (P16 : Int) := Int.natCast_nonneg _
          have z15 : (0 : Int) ≤ (P15 : Int) := Int.natCast_nonneg _
          have z7 : (0 : Int) ≤ (P7 : Int) := Int.natCast_nonneg _
          have z2 : (0 : Int) ≤ (P2 : Int) := Int.natCast_nonneg _
          have v3 : uv x / (8 : Int) = uv (x >>> 3) := uv_shr x 3
          have v10 : uv y / (1024 : Int) = uv (y >>> 10) := uv_shr y 10
          have x1 := uv_xor (rotr x 7) (rotr x 18)
          have x2 := uv_xor (rotr x 7 ^^^ rotr x 18) (x >>> 3)
          have x3 := uv_xor (rotr y 17) (rotr y 19)
          have x4 := uv_xor (rotr y 17 ^^^ rotr y 19) (y >>> 10)
          have HNX : Hid (x16 + (rotr x 7 ^^^ rotr x 18 ^^^ x >>> 3) + x7 + (rotr y 17 ^^^ rotr y 19 ^^^ y >>> 10) = nextB W) := hn.symm
          have HWL := Lib.hid hWl
          have HE2 : Hid (extB (64 - (k + 1)) (W ++ [nextB W]) = SB) := by
            show extB (64 - (k + 1)) (W ++ [nextB W]) = SB
            rw [← HEXT.out, show 64 - k = 64 - (k + 1) + 1 by omega, extB]
          have HB := Lib.hid hb
          have HO := Lib.hid ho
          have hbs := hb.size
          clear hn h16 h15 h7 h2 gd hWl ho' ho hb
          go_wp2_with fail
          refine (rturn_lit x 7 7 rfl (by omega) (by omega) _).mono ?_
          rintro e w1 ⟨rfl, m1, hw⟩
          subst hw
          go_wp2_with fail
          refine (rturn_lit x 18 18 rfl (by omega) (by omega) _).mono ?_
          rintro e w1 ⟨rfl, m2, hw⟩
          subst hw
          go_wp2_with fail
          refine (rturn_lit y 17 17 rfl (by omega) (by omega) _).mono ?_
          rintro e w1 ⟨rfl, m3, hw⟩
          subst hw
          go_wp2_with fail
          refine (rturn_lit y 19 19 rfl (by omega) (by omega) _).mono ?_
          rintro e w1 ⟨rfl, m4, hw⟩
          subst hw
          obtain ⟨wq, hwq⟩ : ∃ wq, wq = (wr.drewN (m1 + m2 + m3)).drewN m4 := ⟨_, rfl⟩
          rw [← hwq]
          have HBq : Hid (Below w.heap.size w wq) := by
            show Below w.heap.size w wq
            rw [hwq]; exact below_drewN (below_drewN HB.out _) m4
          have HOq : Hid (OwnW w.heap.size (.slice (some ⟨g, 0, none⟩) k cp) W wq) := by
            show OwnW w.heap.size (.slice (some ⟨g, 0, none⟩) k cp) W wq
            rw [hwq]; exact HO.out
          have hbq := HBq.out.size
          have q16 : wq.cell? ⟨g, P16, none⟩ = some (.int .u32 (uv x16)) := by rw [hwq]; exact c16
          have q7 : wq.cell? ⟨g, P7, none⟩ = some (.int .u32 (uv x7)) := by rw [hwq]; exact c7
          clear hwq HB HO c16 c15 c7 c2 e15 e2 j15 j2 z15 z2 hbs
          have hgl := (World.ownsRow.lt HOq.out g rfl).2
          have HO2 : Hid (wq.ownsRow w.heap.size 55 1 (.slice (some ⟨g, 0, none⟩) k cp) k (wcs W)) := by
            show wq.ownsRow w.heap.size 55 1 (.slice (some ⟨g, 0, none⟩) k cp) k (wcs W)
            have h := HOq.out
            unfold OwnW at h
            rw [HWL.out] at h
            exact h
          clear HOq
          go_wp2
          go_region_law ((refine step_append_lies _ (by rfl) _ _ _ (by rfl) w.heap.size 55 i0 _ 1 4 Tryd.underlying66 hi hz0 hz1 hz2 rfl (by omega) (.slice (some ⟨g, 0, none⟩) k cp) k (wcs W) (by rfl) ((World.ownsRow.alloc HO2.out _).drew) ⟨wq.heap.size, 0, none⟩ 1 1 [_] (by rfl) (by rfl) (World.news_of_block (cs := #[_]) (t := 55) (fr := (0, 0)) (heap_alloc_new wq _)) (by simp [Value.oneCell']) (by omega) (by unfold maxLen; omega) (by omega) (by simp; omega) (wq.heap.size + 1) (by simp) ?_; intro gg cap' w1 hown1 hgrow hat hlt'))
          all_goals
            rw [sum_eq2, HNX.out] at hown1
            have hb1 := below_grown ((HBq.out.trans ((below_one wq _).mono hbq)).drew) (Nat.le_refl _) ((World.ownsRow.alloc HO2.out _).drew) hgrow
            have hWl2 : (W ++ [nextB W]).length = k + 1 := by rw [List.length_append, HWL.out]; rfl
            have ho1 : OwnW w.heap.size (.slice (some ⟨gg, 0, none⟩) (k + 1) cap') (W ++ [nextB W]) w1 := by
              refine OwnW.app ?_
              rw [HWL.out]; exact hown1
            clear hown1 hgrow hat hlt' q16 q7
            try go_wp2
            refine ⟨⟨k + 1, W ++ [nextB W], gg, cap', by omega, by omega, by go_num, rfl, hWl2, HE2.out, ho1, hb1⟩, ?_⟩
            simp [intOf]; omega
        · have hk64 : k = 64 := by omega
          have HS : Hid (W = SB) := by
            show W = SB
            have := HEXT.out
            rwa [hk64, Nat.sub_self, extB] at this
          have hc64 : ((64 : Nat) : Int) = 64 := rfl
          subst hk64
          rw [hc64]
          clear HEXT hc64
          have ho2 : OwnW w.heap.size (.slice (some ⟨g, 0, none⟩) 64 cp) SB wr := by rw [← HS.out]; exact ho
          clear ho HS
          go_wp2
          go_ret
          exact ⟨g, cp, rfl, ho2, hb⟩
end Go.Proofs.YtolmcaikjebdaaaDoor
