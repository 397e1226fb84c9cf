/- The compression of a block: plain parts. -/
import Derived.Test.YthnkfjjgccabeaaGreatDoorExpand
namespace Go.Proofs.YthnkfjjgccabeaaGreatDoor
open Go.RowKit

def h8L (s : H8) : List (BitVec 32) := [s.a, s.b, s.c, s.d, s.e, s.f, s.g, s.h]
theorem h8L_len (s : H8) : (h8L s).length = 8 := rfl
theorem wordV_upd {n : Nat} {W : List (BitVec 32)} {i : Nat} {x : BitVec 32} (h : W.length = n) (_ : i < n) : (wordV n W).setIfInBounds i (.int .u32 (uv x)) = wordV n (W.set i x) := by
  unfold wordV
  rw [List.length_set, h, Nat.sub_self, List.replicate_zero, List.append_nil, List.append_nil, List.setIfInBounds_toArray, List.map_set]
/-- The first so many sums, then the old words. -/
def mixB (s t : H8) (k : Nat) : List (BitVec 32) := (List.zipWith (· + ·) ((h8L s).take k) ((h8L t).take k)) ++ (h8L s).drop k
theorem mix_len (s t : H8) (k : Nat) (hk : k ≤ 8) : (mixB s t k).length = 8 := by
  unfold mixB; simp [h8L_len]; omega
theorem mix_zero (s t : H8) : mixB s t 0 = h8L s := rfl
theorem mix_all (s t : H8) : mixB s t 8 = h8L (addB s t) := rfl
theorem mix_get (s t : H8) (k : Nat) (hk : k < 8) : (mixB s t k)[k]? = some ((h8L s)[k]'hk) := by
  unfold mixB
  rw [List.getElem?_append_right (by simp [h8L_len]; omega)]
  have e : (List.zipWith (· + ·) ((h8L s).take k) ((h8L t).take k)).length = k := by simp [h8L_len]; omega
  rw [e, Nat.sub_self, List.getElem?_drop, Nat.add_zero]
  exact List.getElem?_eq_getElem _
theorem mix_set (s t : H8) (k : Nat) (hk : k < 8) : (mixB s t k).set k ((h8L s)[k]'hk + (h8L t)[k]'hk) = mixB s t (k + 1) := by
  match k, hk with
  | 0, _ => rfl
  | 1, _ => rfl
  | 2, _ => rfl
  | 3, _ => rfl
  | 4, _ => rfl
  | 5, _ => rfl
  | 6, _ => rfl
  | 7, _ => rfl
theorem idx_word64 (A : Array Value) (k : Nat) (b : Int) (hk : k < 64) (h : A[k]? = some (.int .u32 b)) (w : World) : (Instr.index 155 (.agg A) (.int .i64 (k : Int))).run Tryz.prog w = .ok (.int .u32 b) w := by
  simp [Instr.index, run_underlying Tryz.underlying155, asIntOf, go_sem, part, Tryz.isAgg147, Tryz.sizeOf147, h]
  intro hn
  omega
theorem idx_word8 (A : Array Value) (k : Nat) (b : Int) (hk : k < 8) (h : A[k]? = some (.int .u32 b)) (w : World) : (Instr.index 148 (.agg A) (.int .i64 (k : Int))).run Tryz.prog w = .ok (.int .u32 b) w := by
  simp [Instr.index, run_underlying Tryz.underlying148, asIntOf, go_sem, part, Tryz.isAgg147, Tryz.sizeOf147, h]
  intro hn
  omega
theorem rc_load (w : World) (hE : Env w) : ∃ C : List Value, w.rangeAt 5 0 C ∧ C.length = 64 ∧ ∀ (i : Nat) (v : BitVec 32), constsB[i]? = some v → C.toArray[i]? = some (Value.int .u32 (uv v)) := by
  refine ⟨constsB.map fun v => Value.int .u32 (uv v), fun j v hv => ?_, rfl, fun i l h => by simp [h]⟩
  rw [List.getElem?_map] at hv
  obtain ⟨l, hl, rfl⟩ := Option.map_eq_some_iff.1 hv
  rw [Nat.zero_add]
  exact hE.rc j l hl
theorem Env.alloc {w : World} (h : Env w) (o : Obj) : Env (w.alloc o) := h.next ((Below.refl _ _).alloc (Nat.le_refl _) o)
theorem quiet_left {P : Program} {f : FuncId} {args : Array Value} {w : World} {n : Nat} {v : Value}
    (h : Calls P f args (w.drewN n) fun e w' => e = .returned v ∧ w.drewN n = w') : Calls P f args (w.drewN n) fun e w'' => e = .returned v ∧ ∃ m, w'' = w.drewN m :=
  h.mono fun _ _ ⟨he, hm⟩ => ⟨he, n, hm.symm⟩

theorem list_get {L : List (BitVec 32)} {n : Nat} (hl : L.length = n) (k : Nat) (hk : k < n) : ∃ x, L[k]? = some x ∧ L.getD k 0 = x := by
  have h := List.getElem?_eq_getElem (show k < L.length by omega)
  exact ⟨_, h, by rw [List.getD_eq_getElem?_getD, h]; rfl⟩
theorem consts_len : constsB.length = 64 := rfl
theorem uv_not (x : BitVec 32) : bits .xor .u32 (if IntKind.u32.signed = true then -1 else IntKind.u32.max) (uv x) = uv (~~~x) := by
  have e : (if IntKind.u32.signed = true then (-1 : Int) else IntKind.u32.max) = uv (BitVec.allOnes 32) := by decide
  rw [e, uv_xor, BitVec.allOnes_xor]
theorem h8_get (s : H8) (k : Nat) (x : BitVec 32) (h : (h8L s)[k]? = some x) : (wordV 8 (h8L s))[k]? = some (.int .u32 (uv x)) := wordV_get h

set_option maxHeartbeats 8000000 in
set_option maxRecDepth 100000 in
theorem comp_calls (s : H8) (W : List (BitVec 32)) (hW : W.length = 64) (C8 C64 : Array Value) (h8 : C8 = wordV 8 (h8L s)) (h64 : C64 = wordV 64 W) (F : Array Value) (hF : F = wordV 8 (h8L (addB s (roundsB s W 64)))) (w : World) (hE : Env w) :
    Calls Tryz.prog 107 #[.agg C8, .agg C64] w fun e w' => e = .returned (.agg F) ∧ Below w.heap.size w w' := by
  have HF := Lib.hid hF
  clear hF
  have H8' := Lib.hid h8
  have H64 := Lib.hid h64
  have HW := Lib.hid hW
  clear h8 h64 hW
  go_enter Tryz.func107, Tryz.ntmps107
  go_wp2
  have hw0 : ∀ W0 : World, ((w.alloc (.cells C8 148)).alloc (.cells C64 155)).alloc (.cells #[.int .u32 0, .int .u32 0, .int .u32 0, .int .u32 0, .int .u32 0, .int .u32 0, .int .u32 0, .int .u32 0] 148) = W0 →
      Blk W0 w.heap.size 148 C8 ∧ Blk W0 (w.heap.size + 1) 155 C64 ∧ Blk W0 (w.heap.size + 1 + 1) 148 (wordV 8 []) ∧ Below w.heap.size w W0 ∧ Env W0 := by
    rintro W0 rfl
    refine ⟨((Blk.new w _ C8).alloc _).alloc _, ?_, ?_, (((Below.refl _ _).alloc (Nat.le_refl _) _).alloc (by simp) _).alloc (by simp; omega) _, ((hE.alloc _).alloc _).alloc _⟩
    · have h := (Blk.new (w.alloc (.cells C8 148)) 155 C64).alloc (.cells #[.int .u32 0, .int .u32 0, .int .u32 0, .int .u32 0, .int .u32 0, .int .u32 0, .int .u32 0, .int .u32 0] 148)
      have e : (w.alloc (.cells C8 148)).heap.size = w.heap.size + 1 := by simp
      rw [e] at h
      exact h
    · have h := Blk.new ((w.alloc (.cells C8 148)).alloc (.cells C64 155)) 148 #[.int .u32 0, .int .u32 0, .int .u32 0, .int .u32 0, .int .u32 0, .int .u32 0, .int .u32 0, .int .u32 0]
      have e : ((w.alloc (.cells C8 148)).alloc (.cells C64 155)).heap.size = w.heap.size + 1 + 1 := by simp
      rw [e] at h
      exact h
  generalize hW0 : ((w.alloc (.cells C8 148)).alloc (.cells C64 155)).alloc (.cells #[.int .u32 0, .int .u32 0, .int .u32 0, .int .u32 0, .int .u32 0, .int .u32 0, .int .u32 0, .int .u32 0] 148) = W0
  obtain ⟨hB0, hB1, hB2, hbl, hE0⟩ := hw0 W0 hW0
  clear hw0 hW0 hE
  have hZs := wordV_zsize 8
  generalize wordV 8 [] = Z at *
  have HZS := Lib.hid hZs
  clear hZs
  have k0 := hB0.cell 0
  have k1 := hB0.cell 1
  have k2 := hB0.cell 2
  have k3 := hB0.cell 3
  have k4 := hB0.cell 4
  have k5 := hB0.cell 5
  have k6 := hB0.cell 6
  have k7 := hB0.cell 7
  rw [H8'.out] at k0 k1 k2 k3 k4 k5 k6 k7
  rw [h8_get s 0 s.a rfl] at k0
  rw [h8_get s 1 s.b rfl] at k1
  rw [h8_get s 2 s.c rfl] at k2
  rw [h8_get s 3 s.d rfl] at k3
  rw [h8_get s 4 s.e rfl] at k4
  rw [h8_get s 5 s.f rfl] at k5
  rw [h8_get s 6 s.g rfl] at k6
  rw [h8_get s 7 s.h rfl] at k7
  go_quiet (fail)
  go_wp2_with fail
  clear k0 k1 k2 k3
  have hB0s : Blk (W0.drewN nq) w.heap.size 148 C8 := hB0
  have hB1s : Blk (W0.drewN nq) (w.heap.size + 1) 155 C64 := hB1
  have hB2s : Blk (W0.drewN nq) (w.heap.size + 1 + 1) 148 Z := hB2
  have hbls : Below w.heap.size w (W0.drewN nq) := ⟨hbl.os, hbl.tape, hbl.output, hbl.size, hbl.block⟩
  have hE0s := hE0.drewN nq
  have k4s : (W0.drewN nq).cell? ⟨w.heap.size, 4, none⟩ = some (.int .u32 (uv s.e)) := k4
  have k5s : (W0.drewN nq).cell? ⟨w.heap.size, 5, none⟩ = some (.int .u32 (uv s.f)) := k5
  have k6s : (W0.drewN nq).cell? ⟨w.heap.size, 6, none⟩ = some (.int .u32 (uv s.g)) := k6
  have k7s : (W0.drewN nq).cell? ⟨w.heap.size, 7, none⟩ = some (.int .u32 (uv s.h)) := k7
  clear hB0 hB1 hB2 hbl hE0 k4 k5 k6 k7
  generalize W0.drewN nq = W1 at *
  go_quiet (fail)
  clear k4s k5s k6s k7s
  have hB0t : Blk (W1.drewN nq) w.heap.size 148 C8 := hB0s
  have hB1t : Blk (W1.drewN nq) (w.heap.size + 1) 155 C64 := hB1s
  have hB2t : Blk (W1.drewN nq) (w.heap.size + 1 + 1) 148 Z := hB2s
  have hblt : Below w.heap.size w (W1.drewN nq) := ⟨hbls.os, hbls.tape, hbls.output, hbls.size, hbls.block⟩
  have hE0t := hE0s.drewN nq
  clear hB0s hB1s hB2s hbls hE0s 
  generalize W1.drewN nq = W2 at *
  obtain ⟨C, hload, hClen, hC2⟩ := rc_load W2 hE0t
  have HC2 := Lib.hid hC2
  have HCL := Lib.hid hClen
  clear hC2 hClen
  go_wp2_with (refine wpList_load_mid rfl 155 (.global 5) rfl 5 0 rfl C _ hload Tryz.underlying155 rfl (by rw [HCL.out]; exact info64) ?_)
  clear hload HCL hE0t
  have hC2 := HC2.out
  clear HC2
  generalize C.toArray = CC at *
  have HC2 := Lib.hid hC2
  clear hC2
  go_loopw [38, 5, 6, 7, 8, 9, 10, 11, 12] (fun i a b c d e f g h wr => ∃ (k : Nat) (t : H8), k ≤ 64 ∧ i = .int .i64 (k : Int) ∧ t = roundsB s W k ∧ a = .int .u32 (uv t.a) ∧ b = .int .u32 (uv t.b) ∧ c = .int .u32 (uv t.c) ∧ d = .int .u32 (uv t.d) ∧ e = .int .u32 (uv t.e) ∧ f = .int .u32 (uv t.f) ∧ g = .int .u32 (uv t.g) ∧ h = .int .u32 (uv t.h) ∧
      Blk wr w.heap.size 148 C8 ∧ Blk wr (w.heap.size + 1) 155 C64 ∧ Blk wr (w.heap.size + 1 + 1) 148 Z ∧ Below w.heap.size w wr) (fun i _ _ _ _ _ _ _ _ _ => 64 - (intOf i).toNat)
  case atStart => exact ⟨0, s, by omega, rfl, rfl, rfl, rfl, rfl, rfl, rfl, rfl, rfl, rfl, hB0t, hB1t, hB2t, hblt⟩
  case round =>
    clear hB0t hB1t hB2t hblt
    obtain ⟨k, t, hk, rfl, ht, rfl, rfl, rfl, rfl, rfl, rfl, rfl, rfl, hB0, hB1, hB2, hbl⟩ := hrel
    have HT := Lib.hid ht
    clear ht
    by_cases hlt : k < 64
    · obtain ⟨kc, hcv, hkd⟩ := list_get consts_len k hlt
      have hck := HC2.out k _ hcv
      have hix := idx_word64 CC k (uv kc) hlt hck
      obtain ⟨wk, hwv, hwd⟩ := list_get HW.out k hlt
      have hwc := hB1.cell k
      rw [H64.out, wordV_get hwv] at hwc
      have HR : Hid (roundB t kc wk = roundsB s W (k + 1)) := by
        show roundB t kc wk = roundsB s W (k + 1)
        rw [roundsB, ← HT.out, hkd, hwd]
      have hk64 : (k : Int) < 64 := by omega
      obtain ⟨a, b, c, d, e, f, g, h⟩ := t
      have n1 := uv_not e
      have x1 := uv_and e f
      have x2 := uv_and (~~~e) g
      have x3 : bits .xor .u32 (uv (e &&& f)) (uv (~~~e &&& g)) = uv (chooseB e f g) := uv_xor _ _
      have y1 := uv_and a b
      have y2 := uv_and a c
      have y3 := uv_and b c
      have y4 := uv_xor (a &&& b) (a &&& c)
      have y5 : bits .xor .u32 (uv (a &&& b ^^^ a &&& c)) (uv (b &&& c)) = uv (majorB a b c) := uv_xor _ _
      have z1 := uv_xor (rotr e 6) (rotr e 11)
      have z2 : bits .xor .u32 (uv (rotr e 6 ^^^ rotr e 11)) (uv (rotr e 25)) = uv (sumE e) := uv_xor _ _
      have z3 := uv_xor (rotr a 2) (rotr a 13)
      have z4 : bits .xor .u32 (uv (rotr a 2 ^^^ rotr a 13)) (uv (rotr a 22)) = uv (sumA a) := uv_xor _ _
      have s1 := uv_add h (sumE e)
      have s2 := uv_add (h + sumE e) (chooseB e f g)
      have s3 := uv_add (h + sumE e + chooseB e f g) kc
      have s4 : IntKind.u32.wrap (uv (h + sumE e + chooseB e f g + kc) + uv wk) = uv (t1B ⟨a, b, c, d, e, f, g, h⟩ kc wk) := uv_add _ _
      have s5 : IntKind.u32.wrap (uv (sumA a) + uv (majorB a b c)) = uv (t2B ⟨a, b, c, d, e, f, g, h⟩) := uv_add _ _
      have HRR : Hid (roundB ⟨a, b, c, d, e, f, g, h⟩ kc wk = ⟨t1B ⟨a, b, c, d, e, f, g, h⟩ kc wk + t2B ⟨a, b, c, d, e, f, g, h⟩, a, b, c, d + t1B ⟨a, b, c, d, e, f, g, h⟩ kc wk, e, f, g⟩) := rfl
      generalize chooseB e f g = CH at *
      generalize majorB a b c = MJ at *
      generalize sumE e = SE at *
      generalize sumA a = SA at *
      generalize t1B ⟨a, b, c, d, e, f, g, h⟩ kc wk = T1 at *
      generalize t2B ⟨a, b, c, d, e, f, g, h⟩ = T2 at *
      have s6 := uv_add d T1
      have s7 := uv_add T1 T2
      clear hcv hck hkd hwv hwd HT
      go_upto_region 8 with fail
      clear n1 x1 x2 x3 y1 y2 y3 y4 y5
      go_quiet ((first | (go_at_call 117; exact quiet_left (turn_lit e 6 6 rfl (by omega) (by omega) _)) | (go_at_call 117; exact quiet_left (turn_lit e 11 11 rfl (by omega) (by omega) _)) | (go_at_call 117; exact quiet_left (turn_lit e 25 25 rfl (by omega) (by omega) _))))
      have hQ0 : Blk (wr.drewN nq) w.heap.size 148 C8 := hB0
      have hQ1 : Blk (wr.drewN nq) (w.heap.size + 1) 155 C64 := hB1
      have hQ2 : Blk (wr.drewN nq) (w.heap.size + 1 + 1) 148 Z := hB2
      have hQl : Below w.heap.size w (wr.drewN nq) := ⟨hbl.os, hbl.tape, hbl.output, hbl.size, hbl.block⟩
      clear hB0 hB1 hB2 hbl hwc z1 z2 s1 s2 s3 s4
      generalize wr.drewN nq = wq at *
      go_wp2_with fail
      refine (turn_lit a 2 2 rfl (by omega) (by omega) _).mono ?_
      rintro e1 w1 ⟨rfl, rfl⟩
      go_wp2_with fail
      refine (turn_lit a 13 13 rfl (by omega) (by omega) _).mono ?_
      rintro e1 w1 ⟨rfl, rfl⟩
      go_wp2_with fail
      refine (turn_lit a 22 22 rfl (by omega) (by omega) _).mono ?_
      rintro e1 w1 ⟨rfl, rfl⟩
      go_wp2
      go_roundw
      case rel => exact ⟨k + 1, ⟨T1 + T2, a, b, c, d + T1, e, f, g⟩, by omega, by go_num, HRR.out.symm.trans HR.out, rfl, rfl, rfl, rfl, rfl, rfl, rfl, rfl, hQ0, hQ1, hQ2, hQl⟩
      case measure => simp [intOf]; omega
    · have hk64 : k = 64 := by omega
      rw [hk64] at HT
      clear hk64 HW H64 HC2 hB1
      have HFF : Hid (F = wordV 8 (mixB s t 8)) := by
        show F = wordV 8 (mixB s t 8)
        rw [HF.out, mix_all, ← HT.out]
      clear HF HT
      have hM0 : Blk wr w.heap.size 148 (wordV 8 (mixB s t 0)) := by rw [mix_zero, ← H8'.out]; exact hB0
      have ht8 : ∀ k v, (h8L t)[k]? = some v → (#[Value.int .u32 (uv t.a), Value.int .u32 (uv t.b), Value.int .u32 (uv t.c), Value.int .u32 (uv t.d), Value.int .u32 (uv t.e), Value.int .u32 (uv t.f), Value.int .u32 (uv t.g), Value.int .u32 (uv t.h)] : Array Value)[k]? = some (Value.int .u32 (uv v)) := fun k v h => wordV_get (n := 8) (W := h8L t) h
      have HT8 := Lib.hid ht8
      clear ht8 hB0 H8'
      go_wp2
      generalize hLT : (#[Value.int .u32 (uv t.a), Value.int .u32 (uv t.b), Value.int .u32 (uv t.c), Value.int .u32 (uv t.d), Value.int .u32 (uv t.e), Value.int .u32 (uv t.f), Value.int .u32 (uv t.g), Value.int .u32 (uv t.h)] : Array Value) = LT at *
      clear hLT
      go_loopw [111] (fun i wr => ∃ k : Nat, k ≤ 8 ∧ i = .int .i64 (k : Int) ∧ Blk wr w.heap.size 148 (wordV 8 (mixB s t k)) ∧ Blk wr (w.heap.size + 1 + 1) 148 Z ∧ Below w.heap.size w wr) (fun i _ => 8 - (intOf i).toNat)
      case atStart => exact ⟨0, by omega, rfl, hM0, hB2, hbl⟩
      case round =>
        clear hM0 hB2 hbl
        obtain ⟨j, hj, rfl, hM, hB2, hbl⟩ := hrel
        by_cases hjl : j < 8
        · have htv : (h8L t)[j]? = some ((h8L t)[j]'hjl) := List.getElem?_eq_getElem _
          have hix := idx_word8 LT j _ hjl (HT8.out j _ htv)
          have hc := hM.cell j
          rw [wordV_get (mix_get s t j hjl)] at hc
          have hf := hM.frozen j
          have hup := wordV_upd (n := 8) (x := (h8L s)[j]'hjl + (h8L t)[j]'hjl) (mix_len s t j (by omega)) hjl
          rw [mix_set s t j hjl] at hup
          have hset := hM.set_ j (.int .u32 (uv ((h8L s)[j]'hjl + (h8L t)[j]'hjl)))
          rw [hup] at hset
          have HUP : Hid (Blk (wr.setCell ⟨w.heap.size, j, none⟩ (.int .u32 (uv ((h8L s)[j]'hjl + (h8L t)[j]'hjl)))) w.heap.size 148 (wordV 8 (mixB s t (j + 1)))) := hset
          generalize (h8L s)[j]'hjl = sv at *
          generalize (h8L t)[j]'hjl = tv at *
          have hadd := uv_add sv tv
          have hj8 : (j : Int) < 8 := by omega
          clear htv hup hset hM
          go_wp2
          go_roundw
          case rel => exact ⟨j + 1, by omega, by go_num, HUP.out, Blk.far hB2 (by simp; omega) _, hbl.setCell (by simp) _⟩
          case measure => simp [intOf]; omega
        · obtain rfl : j = 8 := by omega
          have hl := mix_len s t 8 (by omega)
          obtain ⟨hth, hfin, hsz⟩ := hB2.full HZS.out hl
          have hbfin := below_setCells (w.heap.size + 1 + 1) (by omega) (wordV 8 (mixB s t 8)).toList 0 wr hbl
          rw [← HFF.out] at hth hfin hsz hbfin hM
          have H1 : Hid (F.all (·.oneCell') = true) := by show F.all (·.oneCell') = true; rw [HFF.out]; exact wordV_one 8 _
          have HSZ := Lib.hid hsz
          have HTH := Lib.hid hth
          have HFIN := Lib.hid hfin
          have HBF := Lib.hid hbfin
          clear hl hth hfin hsz hbfin HFF HT8
          go_wp2_with (first
            | (refine wpList_load_row rfl 148 (.tmp 2) rfl w.heap.size rfl 148 F (0, 0) _ hM Tryz.underlying148 rfl (by rw [HSZ.out]; exact info8) ?_)
            | (refine wpList_store_mid rfl 148 (.tmp 4) (.tmp 122) rfl (w.heap.size + 1 + 1) 0 F rfl rfl HTH.out (by rw [HSZ.out]; exact info8) H1.out ?_))
          exact bodyPost_ret (results_cell_row rfl _ _ (w.heap.size + 1 + 1) 148 F (0, 0) _ rfl HFIN.out Tryz.underlying148 rfl (by rw [HSZ.out]; exact info8)) rfl ⟨rfl, HBF.out⟩
end Go.Proofs.YthnkfjjgccabeaaGreatDoor
