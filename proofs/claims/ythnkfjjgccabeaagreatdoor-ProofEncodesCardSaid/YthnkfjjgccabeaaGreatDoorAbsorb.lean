/- Blocks of a message, one after the other. -/
import Derived.Test.YthnkfjjgccabeaaGreatDoorComp
import Derived.Deep.RegionWith
namespace Go.Proofs.YthnkfjjgccabeaaGreatDoor
open Go.RowKit

theorem absB_snoc : ∀ (k : Nat) (s : H8) (l : List UInt8), absB (k + 1) s l = compB (absB k s l) ((l.drop (64 * k)).take 64)
  | 0, s, l => by simp [absB]
  | k + 1, s, l => by
    rw [absB, absB_snoc k (compB s (l.take 64)) (l.drop 64), absB, List.drop_drop]
    congr 3; omega
theorem bcell {W w1 : World} (hb : Below W.heap.size W w1) : (∀ b o, b < W.heap.size → w1.cell? ⟨b, o, none⟩ = W.cell? ⟨b, o, none⟩) ∧ (∀ b o, b < W.heap.size → w1.frozen? ⟨b, o, none⟩ = W.frozen? ⟨b, o, none⟩) :=
  ⟨fun b o h => hb.cell (p := ⟨b, o, none⟩) h, fun b o h => hb.frozen (p := ⟨b, o, none⟩) h⟩
theorem h8_lit (s : H8) : wordV 8 (h8L s) = #[.int .u32 (uv s.a), .int .u32 (uv s.b), .int .u32 (uv s.c), .int .u32 (uv s.d), .int .u32 (uv s.e), .int .u32 (uv s.f), .int .u32 (uv s.g), .int .u32 (uv s.h)] := rfl
theorem compB_eq (s : H8) (b : List UInt8) : compB s b = addB s (roundsB s (schedB b) 64) := by unfold compB; rfl
set_option maxHeartbeats 2000000 in
/-- The next state, as a literal. -/
theorem comp_lit (s R : H8) (b : List UInt8) (_ : b.length = 64) (C64 : Array Value) (h64 : C64 = wordV 64 (schedB b)) (hR : R = compB s b) (w : World) (hE : Env w) :
    Calls Tryz.prog 107 #[.agg #[.int .u32 (uv s.a), .int .u32 (uv s.b), .int .u32 (uv s.c), .int .u32 (uv s.d), .int .u32 (uv s.e), .int .u32 (uv s.f), .int .u32 (uv s.g), .int .u32 (uv s.h)], .agg C64] w fun e w' =>
      e = .returned (.agg #[.int .u32 (uv R.a), .int .u32 (uv R.b), .int .u32 (uv R.c), .int .u32 (uv R.d), .int .u32 (uv R.e), .int .u32 (uv R.f), .int .u32 (uv R.g), .int .u32 (uv R.h)]) ∧ Below w.heap.size w w' := by
  have hl : (schedB b).length = 64 := by unfold schedB; rw [extB_len]; simp [firstW]
  have hF : wordV 8 (h8L R) = wordV 8 (h8L (addB s (roundsB s (schedB b) 64))) := congrArg (fun x => wordV 8 (h8L x)) (hR.trans (compB_eq s b))
  clear hR
  have h := comp_calls s (schedB b) hl (wordV 8 (h8L s)) C64 rfl h64 (wordV 8 (h8L R)) hF w hE
  rw [h8_lit, h8_lit] at h
  exact h
theorem blk_eight {w : World} {g : Nat} {t : TypeId} {s : H8} (h : Blk w g t (wordV 8 (h8L s))) (R : H8) :
    Blk ((((((((w.setCell ⟨g, 0, none⟩ (.int .u32 (uv R.a))).setCell ⟨g, 1, none⟩ (.int .u32 (uv R.b))).setCell ⟨g, 2, none⟩ (.int .u32 (uv R.c))).setCell ⟨g, 3, none⟩ (.int .u32 (uv R.d))).setCell ⟨g, 4, none⟩ (.int .u32 (uv R.e))).setCell ⟨g, 5, none⟩ (.int .u32 (uv R.f))).setCell ⟨g, 6, none⟩ (.int .u32 (uv R.g))).setCell ⟨g, 7, none⟩ (.int .u32 (uv R.h))) g t (wordV 8 (h8L R)) := by
  rw [h8_lit] at h
  have h1 := (((((((h.set_ 0 (.int .u32 (uv R.a))).set_ 1 (.int .u32 (uv R.b))).set_ 2 (.int .u32 (uv R.c))).set_ 3 (.int .u32 (uv R.d))).set_ 4 (.int .u32 (uv R.e))).set_ 5 (.int .u32 (uv R.f))).set_ 6 (.int .u32 (uv R.g))).set_ 7 (.int .u32 (uv R.h))
  rw [h8_lit]
  simpa using h1
theorem eight_far {w : World} {g g' : Nat} {t : TypeId} {C : Array Value} (h : Blk w g' t C) (hne : g' ≠ g) (R : H8) : Blk ((((((((w.setCell ⟨g, 0, none⟩ (.int .u32 (uv R.a))).setCell ⟨g, 1, none⟩ (.int .u32 (uv R.b))).setCell ⟨g, 2, none⟩ (.int .u32 (uv R.c))).setCell ⟨g, 3, none⟩ (.int .u32 (uv R.d))).setCell ⟨g, 4, none⟩ (.int .u32 (uv R.e))).setCell ⟨g, 5, none⟩ (.int .u32 (uv R.f))).setCell ⟨g, 6, none⟩ (.int .u32 (uv R.g))).setCell ⟨g, 7, none⟩ (.int .u32 (uv R.h))) g' t C :=
  (((((((h.far hne _).far hne _).far hne _).far hne _).far hne _).far hne _).far hne _).far hne _
theorem eight_below {B : Nat} {a w : World} {g : Nat} (h : Below B a w) (hg : B ≤ g) (R : H8) : Below B a ((((((((w.setCell ⟨g, 0, none⟩ (.int .u32 (uv R.a))).setCell ⟨g, 1, none⟩ (.int .u32 (uv R.b))).setCell ⟨g, 2, none⟩ (.int .u32 (uv R.c))).setCell ⟨g, 3, none⟩ (.int .u32 (uv R.d))).setCell ⟨g, 4, none⟩ (.int .u32 (uv R.e))).setCell ⟨g, 5, none⟩ (.int .u32 (uv R.f))).setCell ⟨g, 6, none⟩ (.int .u32 (uv R.g))).setCell ⟨g, 7, none⟩ (.int .u32 (uv R.h))) :=
  (((((((h.setCell (p := ⟨g, 0, none⟩) hg _).setCell (p := ⟨g, 1, none⟩) hg _).setCell (p := ⟨g, 2, none⟩) hg _).setCell (p := ⟨g, 3, none⟩) hg _).setCell (p := ⟨g, 4, none⟩) hg _).setCell (p := ⟨g, 5, none⟩) hg _).setCell (p := ⟨g, 6, none⟩) hg _).setCell (p := ⟨g, 7, none⟩) hg _
theorem eight_cells {w : World} {g : Nat} {t : TypeId} {s : H8} (h : Blk w g t (wordV 8 (h8L s))) :
    w.cell? ⟨g, 0, none⟩ = some (.int .u32 (uv s.a)) ∧ w.cell? ⟨g, 1, none⟩ = some (.int .u32 (uv s.b)) ∧ w.cell? ⟨g, 2, none⟩ = some (.int .u32 (uv s.c)) ∧ w.cell? ⟨g, 3, none⟩ = some (.int .u32 (uv s.d)) ∧
    w.cell? ⟨g, 4, none⟩ = some (.int .u32 (uv s.e)) ∧ w.cell? ⟨g, 5, none⟩ = some (.int .u32 (uv s.f)) ∧ w.cell? ⟨g, 6, none⟩ = some (.int .u32 (uv s.g)) ∧ w.cell? ⟨g, 7, none⟩ = some (.int .u32 (uv s.h)) ∧ ∀ i, w.frozen? ⟨g, i, none⟩ = false :=
  ⟨(h.cell 0).trans (h8_get s 0 s.a rfl), (h.cell 1).trans (h8_get s 1 s.b rfl), (h.cell 2).trans (h8_get s 2 s.c rfl), (h.cell 3).trans (h8_get s 3 s.d rfl), (h.cell 4).trans (h8_get s 4 s.e rfl), (h.cell 5).trans (h8_get s 5 s.f rfl), (h.cell 6).trans (h8_get s 6 s.g rfl), (h.cell 7).trans (h8_get s 7 s.h rfl), h.frozen⟩
theorem bs_cut (l : List UInt8) (i j : Nat) : (bs l).extract i j = bs ((l.drop i).take (j - i)) := by
  rw [Lib.extract_eq, bs_data]; rfl

set_option maxHeartbeats 8000000 in
set_option maxRecDepth 100000 in
theorem absorb_calls (s : H8) (l : List UInt8) (n : Nat) (hn : l.length = 64 * n) (hs : l.length ≤ 4294967296) (F : Array Value) (hF : F = wordV 8 (h8L (absB n s l))) (w : World) (hE : Env w) :
    Calls Tryz.prog 98 #[.agg (wordV 8 (h8L s)), .string (bs l)] w fun e w' => e = .returned (.agg F) ∧ Below w.heap.size w w' := by
  have HF := Lib.hid hF
  have hz : ((bs l).size : Int) = 64 * (n : Int) := by rw [bs_size]; omega
  have hz2 : (bs l).size = 64 * n := by omega
  have HZ := Lib.hid hz
  have HZ2 := Lib.hid hz2
  have HN := Lib.hid hn
  clear hF hz hz2 hn
  rw [h8_lit]
  go_enter Tryz.func98, Tryz.ntmps98
  go_wp2
  have hw0 : ∀ W0 : World, (w.alloc (.cells #[.int .u32 (uv s.a), .int .u32 (uv s.b), .int .u32 (uv s.c), .int .u32 (uv s.d), .int .u32 (uv s.e), .int .u32 (uv s.f), .int .u32 (uv s.g), .int .u32 (uv s.h)] 148)).alloc (.cells #[.int .u32 0, .int .u32 0, .int .u32 0, .int .u32 0, .int .u32 0, .int .u32 0, .int .u32 0, .int .u32 0] 148) = W0 →
      Blk W0 w.heap.size 148 (wordV 8 (h8L s)) ∧ Blk W0 (w.heap.size + 1) 148 (wordV 8 []) ∧ Below w.heap.size w W0 := by
    rintro W0 rfl
    refine ⟨(Blk.new w _ (wordV 8 (h8L s))).alloc _, ?_, ((Below.refl _ _).alloc (Nat.le_refl _) _).alloc (by simp) _⟩
    have h := Blk.new (w.alloc (.cells #[.int .u32 (uv s.a), .int .u32 (uv s.b), .int .u32 (uv s.c), .int .u32 (uv s.d), .int .u32 (uv s.e), .int .u32 (uv s.f), .int .u32 (uv s.g), .int .u32 (uv s.h)] 148)) 148 #[.int .u32 0, .int .u32 0, .int .u32 0, .int .u32 0, .int .u32 0, .int .u32 0, .int .u32 0, .int .u32 0]
    have e : (w.alloc (.cells #[.int .u32 (uv s.a), .int .u32 (uv s.b), .int .u32 (uv s.c), .int .u32 (uv s.d), .int .u32 (uv s.e), .int .u32 (uv s.f), .int .u32 (uv s.g), .int .u32 (uv s.h)] 148)).heap.size = w.heap.size + 1 := by simp
    rw [e] at h
    exact h
  generalize hW0 : (w.alloc (.cells #[.int .u32 (uv s.a), .int .u32 (uv s.b), .int .u32 (uv s.c), .int .u32 (uv s.d), .int .u32 (uv s.e), .int .u32 (uv s.f), .int .u32 (uv s.g), .int .u32 (uv s.h)] 148)).alloc (.cells #[.int .u32 0, .int .u32 0, .int .u32 0, .int .u32 0, .int .u32 0, .int .u32 0, .int .u32 0, .int .u32 0] 148) = W0
  obtain ⟨hB0, hB1, hbl⟩ := hw0 W0 hW0
  clear hw0 hW0
  have hZs := wordV_zsize 8
  generalize wordV 8 [] = Z at *
  have HZS := Lib.hid hZs
  clear hZs
  go_loopw [5] (fun i wr => ∃ (j p : Nat) (S : H8), j ≤ n ∧ p = 64 * j ∧ S = absB j s l ∧ i = .int .i64 (p : Int) ∧ Blk wr w.heap.size 148 (wordV 8 (h8L S)) ∧ Blk wr (w.heap.size + 1) 148 Z ∧ Below w.heap.size w wr) (fun i _ => 64 * n - (intOf i).toNat)
  case atStart => exact ⟨0, 0, s, Nat.zero_le _, rfl, rfl, rfl, hB0, hB1, hbl⟩
  case round =>
    clear hB0 hB1 hbl
    obtain ⟨j, p, S, hj, hp, hS, rfl, hB0, hB1, hbl⟩ := hrel
    have HS := Lib.hid hS
    clear hS
    by_cases hlt : j < n
    · obtain ⟨c, hc⟩ : ∃ c, c = (l.drop p).take 64 := ⟨_, rfl⟩
      have hcl : c.length = 64 := by rw [hc, List.length_take, List.length_drop, HN.out]; omega
      obtain ⟨R, hR⟩ : ∃ R, R = compB S c := ⟨_, rfl⟩
      have HR : Hid (R = absB (j + 1) s l) := by
        show R = absB (j + 1) s l
        rw [absB_snoc, ← HS.out, hR, hc, hp]
      have hcut : (bs l).extract p (p + 64) = bs c := by rw [bs_cut, hc, show p + 64 - p = 64 by omega]
      have hE' := hE.next hbl
      have k0 := hB0.cell 0
      have k1 := hB0.cell 1
      have k2 := hB0.cell 2
      have k3 := hB0.cell 3
      have k4 := hB0.cell 4
      have k5 := hB0.cell 5
      have k6 := hB0.cell 6
      have k7 := hB0.cell 7
      rw [h8_get S 0 S.a rfl] at k0
      rw [h8_get S 1 S.b rfl] at k1
      rw [h8_get S 2 S.c rfl] at k2
      rw [h8_get S 3 S.d rfl] at k3
      rw [h8_get S 4 S.e rfl] at k4
      rw [h8_get S 5 S.f rfl] at k5
      rw [h8_get S 6 S.g rfl] at k6
      rw [h8_get S 7 S.h rfl] at k7
      have hpb : p + 64 ≤ l.length := by rw [HN.out, hp]; omega
      have hpm : 64 * n - (p + 64) < 64 * n - p := by omega
      have HP : Hid (p + 64 = 64 * (j + 1)) := by show p + 64 = 64 * (j + 1); omega
      have hlp : (p : Int) < ((bs l).size : Int) := by rw [HZ.out]; omega
      have hlp2 : (p : Int) + 64 ≤ ((bs l).size : Int) := by rw [HZ.out]; omega
      obtain ⟨p', hp'⟩ : ∃ p', p' = p + 64 := ⟨_, rfl⟩
      have hp64 : IntKind.i64.wrap ((p : Int) + 64) = (p' : Int) := by simp only [IntKind.wrap, IntKind.bits, IntKind.signed]; simp; omega
      rw [← hp'] at hcut HP hpm
      have hlp3 : (p' : Int) ≤ ((bs l).size : Int) := by omega
      have hpp : p ≤ p' := by omega
      have hppI : (p : Int) ≤ (p' : Int) := by omega
      have hlp4 : p' ≤ (bs l).size := by omega
      have cx := fun w => Lib.hid (expand_calls c hcl w)
      have cc := fun w hE => Lib.hid (comp_lit S R c hcl (wordV 64 (schedB c)) rfl hR w hE)
      generalize wordV 64 (schedB c) = SC at *
      have h0l := hB0.lt
      have hfr : ∀ i, wr.frozen? ⟨w.heap.size, i, none⟩ = false := hB0.frozen
      have h1l := hB1.lt
      have HP0 := Lib.hid hp
      clear hp hp' hc hR hlp2 hcl
      go_wp2
      go_outline
      go_region_with (first
        | (go_at_call 108; refine (cx _).out.mono ?_; rintro e w1 ⟨rfl, hb1⟩; obtain ⟨r0, r1, r2, r3, r4, r5, r6, r7, rf⟩ := eight_cells ((show Blk wr.drew w.heap.size 148 (wordV 8 (h8L S)) from hB0).next hb1))
        | (go_at_call 107; refine (cc _ ((show Env wr.drew from hE'.drewN 1).next hb1)).out.mono ?_; rintro e w2 ⟨rfl, hb2⟩; obtain ⟨q0, q1, q2, q3, q4, q5, q6, q7, qf⟩ := eight_cells (((show Blk wr.drew w.heap.size 148 (wordV 8 (h8L S)) from hB0).next hb1).next hb2)))
      all_goals
        have hB3 : Blk w2 w.heap.size 148 (wordV 8 (h8L S)) := ((show Blk wr.drew w.heap.size 148 (wordV 8 (h8L S)) from hB0).next hb1).next hb2
        have hC3 : Blk w2 (w.heap.size + 1) 148 Z := ((show Blk wr.drew (w.heap.size + 1) 148 Z from hB1).next hb1).next hb2
        have hbl3 : Below w.heap.size w w2 := (hbl.drew.trans (hb1.mono hbl.size)).trans (hb2.mono (Nat.le_trans hbl.size hb1.size))
        have hfin := Lib.hid (blk_eight hB3 R)
        have hfar := Lib.hid (eight_far (g := w.heap.size) hC3 (by omega) R)
        have hbel := Lib.hid (eight_below (g := w.heap.size) hbl3 (Nat.le_refl _) R)
        clear q0 q1 q2 q3 q4 q5 q6 q7 qf r0 r1 r2 r3 r4 r5 r6 r7 rf hB3 hC3 hbl3 hB0 hB1 hbl hfr k0 k1 k2 k3 k4 k5 k6 k7 hb1 hb2 hcut
        go_wp2
        go_roundw
        case rel => exact ⟨j + 1, p', R, by omega, HP.out, HR.out, by go_num, hfin.out, hfar.out, hbel.out⟩
        case measure => simp [intOf]; omega
    · obtain rfl : j = n := by omega
      have hge : ¬ (p : Int) < ((bs l).size : Int) := by rw [HZ.out]; omega
      obtain ⟨hth, hfin, hsz⟩ := hB1.full HZS.out (h8L_len S)
      have hbfin := below_setCells (w.heap.size + 1) (by omega) (wordV 8 (h8L S)).toList 0 wr hbl
      have hFS : F = wordV 8 (h8L S) := by rw [HF.out, HS.out]
      rw [← hFS] at hth hfin hsz hbfin hB0
      have H1 : Hid (F.all (·.oneCell') = true) := by show F.all (·.oneCell') = true; rw [hFS]; exact wordV_one 8 _
      have HSZ := Lib.hid hsz
      have HTH := Lib.hid hth
      have HFIN := Lib.hid hfin
      have HBF := Lib.hid hbfin
      clear hth hfin hsz hbfin HF hFS HS hp
      go_wp2_with (first
        | (refine wpList_load_row rfl 148 (.tmp 2) rfl w.heap.size rfl 148 F (0, 0) _ hB0 Tryz.underlying148 rfl (by rw [HSZ.out]; exact info8) ?_)
        | (refine wpList_store_mid rfl 148 (.tmp 4) (.tmp 20) rfl (w.heap.size + 1) 0 F rfl rfl HTH.out (by rw [HSZ.out]; exact info8) H1.out ?_))
      exact bodyPost_ret (results_cell_row rfl _ _ (w.heap.size + 1) 148 F (0, 0) _ rfl HFIN.out Tryz.underlying148 rfl (by rw [HSZ.out]; exact info8)) rfl ⟨rfl, HBF.out⟩
end Go.Proofs.YthnkfjjgccabeaaGreatDoor
