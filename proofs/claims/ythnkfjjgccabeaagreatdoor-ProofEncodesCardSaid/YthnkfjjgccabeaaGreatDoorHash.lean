/- The digest of a string. -/
import Derived.Test.YthnkfjjgccabeaaGreatDoorPad
namespace Go.Proofs.YthnkfjjgccabeaaGreatDoor
open Go.RowKit

theorem absB_append : ∀ (j k : Nat) (s : H8) (a b : List UInt8), a.length = 64 * j → absB (j + k) s (a ++ b) = absB k (absB j s a) b
  | 0, k, s, a, b, h => by
    obtain rfl : a = [] := List.eq_nil_of_length_eq_zero (by simpa using h)
    simp [absB]
  | j + 1, k, s, a, b, h => by
    have hle : 64 ≤ a.length := by omega
    rw [show j + 1 + k = (j + k) + 1 by omega, absB, absB, List.take_append_of_le_length hle, List.drop_append_of_le_length hle]
    exact absB_append j k _ _ b (by rw [List.length_drop]; omega)
/-- Words, the greatest byte of each first. -/
def outW : List (BitVec 32) → List UInt8
  | [] => []
  | v :: r => bigE v.toNat 4 ++ outW r
theorem outB_eq (s : H8) : outB s = outW (h8L s) := by simp [outB, outW, h8L]
theorem drop_word (s : H8) (k : Nat) (h : k < 8) : (h8L s).drop k = (h8L s)[k]'h :: (h8L s).drop (k + 1) := List.drop_eq_getElem_cons h
theorem absB_zero (s : H8) (l : List UInt8) : absB 0 s l = s := rfl
/-- The digest, in two parts. -/
theorem shaL_parts (l : List UInt8) (j k m : Nat) (hj : j = l.length / 64) (hm : m = 64 * j) (hk : (l.drop m ++ padB l.length).length = 64 * k) :
    shaL l = outB (absB k (absB j firstB (l.take m)) (l.drop m ++ padB l.length)) := by
  have e : l ++ padB l.length = l.take m ++ (l.drop m ++ padB l.length) := by rw [← List.append_assoc, List.take_append_drop]
  have hl : (l.take m).length = 64 * j := by rw [List.length_take]; omega
  have hn : (l ++ padB l.length).length / 64 = j + k := by
    rw [e, List.length_append, hl, hk]; omega
  unfold shaL
  rw [hn, e, absB_append j k _ _ _ hl]
theorem rest_len (l : List UInt8) (m : Nat) (hm : m = 64 * (l.length / 64)) : ∃ k, (l.drop m ++ padB l.length).length = 64 * k ∧ k ≤ 2 := by
  refine ⟨(l.drop m ++ padB l.length).length / 64, ?_, ?_⟩ <;> rw [List.length_append, List.length_drop, padB_len] <;> omega

/-- The state after some blocks, as a literal. -/
theorem absorb_lit (s R : H8) (l : List UInt8) (n : Nat) (hn : l.length = 64 * n) (hs : l.length ≤ 4294967296) (hR : R = absB n s l) (w : World) (hE : Env w) :
    Calls Tryz.prog 98 #[.agg #[.int .u32 (uv s.a), .int .u32 (uv s.b), .int .u32 (uv s.c), .int .u32 (uv s.d), .int .u32 (uv s.e), .int .u32 (uv s.f), .int .u32 (uv s.g), .int .u32 (uv s.h)], .string (bs l)] w fun e w' => e = .returned (.agg #[.int .u32 (uv R.a), .int .u32 (uv R.b), .int .u32 (uv R.c), .int .u32 (uv R.d), .int .u32 (uv R.e), .int .u32 (uv R.f), .int .u32 (uv R.g), .int .u32 (uv R.h)]) ∧ Below w.heap.size w w' := by
  have h := absorb_calls s l n hn hs (wordV 8 (h8L R)) (by rw [hR]) w hE
  rw [h8_lit, h8_lit] at h
  exact h

set_option maxHeartbeats 2000000 in
set_option maxRecDepth 100000 in
theorem sha_calls (l : List UInt8) (hl : l.length ≤ 1000000000) (w : World) (hE : Env w) :
    Calls Tryz.prog 89 #[.string (bs l)] w fun e w' => e = .returned (.string (bs (shaL l))) ∧ Below w.heap.size w w' := by
  go_enter Tryz.func89, Tryz.ntmps89
  obtain ⟨F, hF⟩ : ∃ F, F = firstB := ⟨_, rfl⟩
  have f0 : w.cell? ⟨3, 0, none⟩ = some (.int .u32 (uv F.a)) := hE.fs 0 F.a (by rw [hF]; rfl)
  have f1 : w.cell? ⟨3, 1, none⟩ = some (.int .u32 (uv F.b)) := hE.fs 1 F.b (by rw [hF]; rfl)
  have f2 : w.cell? ⟨3, 2, none⟩ = some (.int .u32 (uv F.c)) := hE.fs 2 F.c (by rw [hF]; rfl)
  have f3 : w.cell? ⟨3, 3, none⟩ = some (.int .u32 (uv F.d)) := hE.fs 3 F.d (by rw [hF]; rfl)
  have f4 : w.cell? ⟨3, 4, none⟩ = some (.int .u32 (uv F.e)) := hE.fs 4 F.e (by rw [hF]; rfl)
  have f5 : w.cell? ⟨3, 5, none⟩ = some (.int .u32 (uv F.f)) := hE.fs 5 F.f (by rw [hF]; rfl)
  have f6 : w.cell? ⟨3, 6, none⟩ = some (.int .u32 (uv F.g)) := hE.fs 6 F.g (by rw [hF]; rfl)
  have f7 : w.cell? ⟨3, 7, none⟩ = some (.int .u32 (uv F.h)) := hE.fs 7 F.h (by rw [hF]; rfl)
  have HF := Lib.hid hF
  clear hF
  have hz : ((bs l).size : Int) = (l.length : Int) := by rw [bs_size]
  obtain ⟨j, hj⟩ : ∃ j, j = l.length / 64 := ⟨_, rfl⟩
  obtain ⟨m, hm⟩ : ∃ m, m = 64 * j := ⟨_, rfl⟩
  obtain ⟨n, hn⟩ : ∃ n, n = l.length := ⟨_, rfl⟩
  rw [← hn] at hz hj
  have hT : Int.tmod (n : Int) 64 = ((n % 64 : Nat) : Int) := by rw [Int.tmod_eq_emod_of_nonneg (by omega)]; omega
  obtain ⟨r, hr⟩ : ∃ r, r = n % 64 := ⟨_, rfl⟩
  rw [← hr] at hT
  have hW : IntKind.i64.wrap ((n : Int) - (r : Int)) = (m : Int) := by simp only [IntKind.wrap, IntKind.bits, IntKind.signed]; simp; omega
  have hmn : (m : Int) ≤ (n : Int) := by omega
  have HJ := Lib.hid hj
  have HM := Lib.hid hm
  have HN := Lib.hid hn
  have HR := Lib.hid hr
  obtain ⟨p1, hp1⟩ : ∃ p1, p1 = l.take m := ⟨_, rfl⟩
  obtain ⟨R1, hR1⟩ : ∃ R1, R1 = absB j F p1 := ⟨_, rfl⟩
  have hpl1 : p1.length = 64 * j := by rw [hp1, List.length_take]; omega
  have hcut : (bs l).extract 0 m = bs p1 := by rw [bs_cut, hp1]; simp
  have c1 := fun w hE => Lib.hid (absorb_lit F R1 p1 j hpl1 (by omega) hR1 w hE)
  have HP1 := Lib.hid hp1
  have HR1 := Lib.hid hR1
  have hb0 := (Below.refl w.heap.size w).alloc (Nat.le_refl _) (.cells #[.int .u32 (uv F.a), .int .u32 (uv F.b), .int .u32 (uv F.c), .int .u32 (uv F.d), .int .u32 (uv F.e), .int .u32 (uv F.f), .int .u32 (uv F.g), .int .u32 (uv F.h)] 148)
  have hE0 := hE.next hb0
  have hB0 : Blk (w.alloc (.cells #[.int .u32 (uv F.a), .int .u32 (uv F.b), .int .u32 (uv F.c), .int .u32 (uv F.d), .int .u32 (uv F.e), .int .u32 (uv F.f), .int .u32 (uv F.g), .int .u32 (uv F.h)] 148)) w.heap.size 148 (wordV 8 (h8L F)) := Blk.new w _ (wordV 8 (h8L F))
  clear hj hm hn hr hp1 hR1 hpl1
  go_wp2
  clear f0 f1 f2 f3 f4 f5 f6 f7
  generalize (w.alloc (.cells #[.int .u32 (uv F.a), .int .u32 (uv F.b), .int .u32 (uv F.c), .int .u32 (uv F.d), .int .u32 (uv F.e), .int .u32 (uv F.f), .int .u32 (uv F.g), .int .u32 (uv F.h)] 148)) = W0 at *
  obtain ⟨g0, g1, g2, g3, g4, g5, g6, g7, gf⟩ := eight_cells hB0
  have h0l := hB0.lt
  go_region_with (go_at_call 98; refine (c1 _ (show Env W0.drew from hE0.drewN 1)).out.mono ?_; rintro e w1 ⟨rfl, hb1⟩; obtain ⟨q0, q1, q2, q3, q4, q5, q6, q7, qf⟩ := eight_cells ((show Blk W0.drew w.heap.size 148 (wordV 8 (h8L F)) from hB0).next hb1))
  all_goals
    have hB1 : Blk w1 w.heap.size 148 (wordV 8 (h8L F)) := (show Blk W0.drew w.heap.size 148 (wordV 8 (h8L F)) from hB0).next hb1
    have hbl1 : Below w.heap.size w w1 := hb0.drew.trans (hb1.mono hb0.size)
    have hfin := Lib.hid (blk_eight hB1 R1)
    have hbel := Lib.hid (eight_below (g := w.heap.size) hbl1 (Nat.le_refl _) R1)
    clear q0 q1 q2 q3 q4 q5 q6 q7 qf g0 g1 g2 g3 g4 g5 g6 g7 gf hB1 hbl1 hB0 hb0 hE0 c1 h0l hb1
    generalize ((((((((w1.setCell ⟨w.heap.size, 0, none⟩ (.int .u32 (uv R1.a))).setCell ⟨w.heap.size, 1, none⟩ (.int .u32 (uv R1.b))).setCell ⟨w.heap.size, 2, none⟩ (.int .u32 (uv R1.c))).setCell ⟨w.heap.size, 3, none⟩ (.int .u32 (uv R1.d))).setCell ⟨w.heap.size, 4, none⟩ (.int .u32 (uv R1.e))).setCell ⟨w.heap.size, 5, none⟩ (.int .u32 (uv R1.f))).setCell ⟨w.heap.size, 6, none⟩ (.int .u32 (uv R1.g))).setCell ⟨w.heap.size, 7, none⟩ (.int .u32 (uv R1.h))) = W2 at *
    have hB2 : Blk W2 w.heap.size 148 (wordV 8 (h8L R1)) := hfin.out
    have hb2 : Below w.heap.size w W2 := hbel.out
    clear hfin hbel
    have hE2 := hE.next hb2
    obtain ⟨d, hd⟩ : ∃ d, d = l.drop m := ⟨_, rfl⟩
    obtain ⟨p2, hp2⟩ : ∃ p2, p2 = d ++ padB n := ⟨_, rfl⟩
    have hcut2 : (bs l).extract m n = bs d := by rw [bs_cut, hd, HN.out, List.take_of_length_le (by rw [List.length_drop]; omega)]
    have hcut3 : (bs l).extract m (bs l).size = bs d := by rw [bs_size, ← HN.out]; exact hcut2
    have happ : bs d ++ bs (padB n) = bs p2 := by rw [bs_append, hp2]
    obtain ⟨k, hk, hk2⟩ := rest_len l m (by rw [HM.out, HJ.out, HN.out])
    rw [← HN.out, ← hd, ← hp2] at hk
    obtain ⟨R2, hR2⟩ : ∃ R2, R2 = absB k R1 p2 := ⟨_, rfl⟩
    have hOut : Hid (shaL l = outB R2) := by
      show shaL l = outB R2
      rw [shaL_parts l j k m (by rw [HJ.out, HN.out]) HM.out (by rw [← HN.out, ← hd, ← hp2]; exact hk), ← HN.out, ← hd, ← hp2, ← HP1.out, ← HF.out, ← HR1.out, ← hR2]
    have cp := fun w => Lib.hid (pad_calls n (by rw [HN.out]; exact hl) w)
    have ca := fun w hE => Lib.hid (absorb_lit R1 R2 p2 k hk (by omega) hR2 w hE)
    have hmN : m ≤ n := by omega
    have hns : n = (bs l).size := by rw [bs_size]; exact HN.out
    have hds : (bs d).size ≤ 1000000000 := by rw [bs_size, hd, List.length_drop]; omega
    have hps : (bs (padB n)).size ≤ 200 := by rw [bs_size, padB_len]; omega
    clear hd hp2 hk hR2 hk2
    generalize padB n = pd at *
    obtain ⟨g0, g1, g2, g3, g4, g5, g6, g7, gf⟩ := eight_cells hB2
    have h0l := hB2.lt
    have HNS := Lib.hid hns
    clear hns
    go_wp2
    go_region_with (first
      | (go_at_call 99; refine (cp _).out.mono ?_; rintro e w3 ⟨rfl, hb3⟩; obtain ⟨r0, r1, r2, r3, r4, r5, r6, r7, rf⟩ := eight_cells ((show Blk W2.drew w.heap.size 148 (wordV 8 (h8L R1)) from hB2).next hb3))
      | (go_at_call 98; refine (ca _ ((show Env W2.drew from hE2.drewN 1).next hb3)).out.mono ?_; rintro e w4 ⟨rfl, hb4⟩; obtain ⟨q0, q1, q2, q3, q4, q5, q6, q7, qf⟩ := eight_cells (((show Blk W2.drew w.heap.size 148 (wordV 8 (h8L R1)) from hB2).next hb3).next hb4)))
    all_goals
      have hB4 : Blk w4 w.heap.size 148 (wordV 8 (h8L R1)) := ((show Blk W2.drew w.heap.size 148 (wordV 8 (h8L R1)) from hB2).next hb3).next hb4
      have hbl4 : Below w.heap.size w w4 := (hb2.drew.trans (hb3.mono hb2.size)).trans (hb4.mono (Nat.le_trans hb2.size hb3.size))
      have hfin := Lib.hid (blk_eight hB4 R2)
      have hbel := Lib.hid (eight_below (g := w.heap.size) hbl4 (Nat.le_refl _) R2)
      clear q0 q1 q2 q3 q4 q5 q6 q7 qf r0 r1 r2 r3 r4 r5 r6 r7 rf g0 g1 g2 g3 g4 g5 g6 g7 gf hB4 hbl4 hB2 hb2 hE2 ca cp h0l hb3 hb4
      generalize ((((((((w4.setCell ⟨w.heap.size, 0, none⟩ (.int .u32 (uv R2.a))).setCell ⟨w.heap.size, 1, none⟩ (.int .u32 (uv R2.b))).setCell ⟨w.heap.size, 2, none⟩ (.int .u32 (uv R2.c))).setCell ⟨w.heap.size, 3, none⟩ (.int .u32 (uv R2.d))).setCell ⟨w.heap.size, 4, none⟩ (.int .u32 (uv R2.e))).setCell ⟨w.heap.size, 5, none⟩ (.int .u32 (uv R2.f))).setCell ⟨w.heap.size, 6, none⟩ (.int .u32 (uv R2.g))).setCell ⟨w.heap.size, 7, none⟩ (.int .u32 (uv R2.h))) = W5 at *
      have hB5 : Blk W5 w.heap.size 148 (wordV 8 (h8L R2)) := hfin.out
      have hb5 : Below w.heap.size w W5 := hbel.out
      clear hfin hbel
      obtain ⟨g0, g1, g2, g3, g4, g5, g6, g7, gf⟩ := eight_cells hB5
      have h0l := hB5.lt
      have hFr := Lib.hid (Bl.fresh W5)
      have hb6 := hb5.alloc hb5.size (.cells #[.pointer none, .slice none 0 0] 125)
      have hO := outB_eq R2
      rw [hO] at hOut
      have HLO : Hid (shaL l = outW (h8L R2)) := hOut
      have ht8 : ∀ k v, (h8L R2)[k]? = some v → (#[Value.int .u32 (uv R2.a), Value.int .u32 (uv R2.b), Value.int .u32 (uv R2.c), Value.int .u32 (uv R2.d), Value.int .u32 (uv R2.e), Value.int .u32 (uv R2.f), Value.int .u32 (uv R2.g), Value.int .u32 (uv R2.h)] : Array Value)[k]? = some (Value.int .u32 (uv v)) := fun k v h => wordV_get (n := 8) (W := h8L R2) h
      have HT8 := Lib.hid ht8
      clear ht8 hOut hO
      go_wp2
      generalize (#[Value.int .u32 (uv R2.a), Value.int .u32 (uv R2.b), Value.int .u32 (uv R2.c), Value.int .u32 (uv R2.d), Value.int .u32 (uv R2.e), Value.int .u32 (uv R2.f), Value.int .u32 (uv R2.g), Value.int .u32 (uv R2.h)] : Array Value) = LT at *
      clear g0 g1 g2 g3 g4 g5 g6 g7 gf h0l hB5
      have hW6 : W5.heap.size ≤ (W5.alloc (.cells #[.pointer none, .slice none 0 0] 125)).heap.size := by simp
      generalize (W5.alloc (.cells #[.pointer none, .slice none 0 0] 125)) = W6 at *
      have hWB := hb5.size
      clear hb5
      generalize W5.heap.size = B at *
      go_loopw [30] (fun i wr => ∃ (k : Nat) (a : List UInt8), k ≤ 8 ∧ i = .int .i64 (k : Int) ∧ a ++ outW ((h8L R2).drop k) = outW (h8L R2) ∧ a.length = 4 * k ∧ Bl B a wr ∧ Below w.heap.size w wr ∧ B ≤ wr.heap.size) (fun i _ => 8 - (intOf i).toNat)
      case atStart => exact ⟨0, [], by omega, rfl, rfl, rfl, hFr.out, hb6, hW6⟩
      case round =>
        clear hFr hb6 hW6
        obtain ⟨k, a, hk, rfl, hAl, hal, hbl, hbw, hBw⟩ := hrel
        have HA := Lib.hid hAl
        clear hAl
        by_cases hkl : k < 8
        · have htv : (h8L R2)[k]? = some ((h8L R2)[k]'hkl) := List.getElem?_eq_getElem _
          have hix := idx_word8 LT k _ hkl (HT8.out k _ htv)
          have hdw := drop_word R2 k hkl
          generalize (h8L R2)[k]'hkl = tv at *
          obtain ⟨v, hv⟩ : ∃ v, v = tv.toNat := ⟨_, rfl⟩
          have hvl : v < 4294967296 := by rw [hv]; exact tv.isLt
          have hw64 : IntKind.u64.wrap (uv tv) = (v : Int) := by
            unfold uv; rw [← hv]
            simp only [IntKind.wrap, IntKind.bits, IntKind.signed]; simp; omega
          have HN2 : Hid ((a ++ bigE v 4) ++ outW ((h8L R2).drop (k + 1)) = outW (h8L R2)) := by
            show (a ++ bigE v 4) ++ outW ((h8L R2).drop (k + 1)) = outW (h8L R2)
            rw [← HA.out, hdw, outW, hv, List.append_assoc]
          have hLn : (a ++ bigE v 4).length = 4 * (k + 1) := by rw [List.length_append, bigE_len]; omega
          have hk8 : (k : Int) < 8 := by omega
          have cb := Lib.hid (big_calls B a v 4 (by omega) (by omega) (by omega) wr hbl hBw)
          have HV := Lib.hid hv
          clear htv hdw hv HA
          go_wp2_with fail
          refine cb.out.mono ?_
          rintro e w7 ⟨rfl, hbl7, hb7⟩
          go_wp2
          go_roundw
          case rel => exact ⟨k + 1, a ++ bigE v 4, by omega, by go_num, HN2.out, hLn, hbl7, hbw.trans (hb7.mono hWB), Nat.le_trans hBw hb7.size⟩
          case measure => simp [intOf]; omega
        · obtain rfl : k = 8 := by omega
          have HE8 : Hid (a = shaL l) := by
            show a = shaL l
            rw [HLO.out, ← HA.out, List.drop_eq_nil_of_le (by simp [h8L]), outW, List.append_nil]
          have ce := Lib.hid (bl_end B a wr hbl hBw)
          clear HA HLO HT8
          go_wp2_with fail
          refine ce.out.mono ?_
          rintro e w7 ⟨rfl, hb7⟩
          go_wp2_with fail
          go_ret
          exact ⟨by rw [← HE8.out]; rfl, hbw.trans (hb7.mono hWB)⟩
end Go.Proofs.YthnkfjjgccabeaaGreatDoor
