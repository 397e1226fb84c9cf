/- The reference's SHA-256: a block. -/
import Derived.Test.YtolmcaikjebdaaaDoorRSha3
import Derived.Deep.QuietTactic
namespace Go.Proofs.YtolmcaikjebdaaaDoor
open Go.RowKit
attribute [local go_sem ↓] Go.wp_at_zero Go.wp_at_succ

theorem quiet_turn {P : Program} {f : FuncId} {args : Array Value} {w : World} {n : Nat} {v : Value}
    (h : Calls P f args (w.drewN n) (Ret v (w.drewN n))) : Calls P f args (w.drewN n) fun e w'' => e = .returned v ∧ ∃ m, w'' = w.drewN m :=
  h.mono fun _ _ ⟨he, m, hm⟩ => ⟨he, n + m, by rw [hm, World.drewN_drewN]⟩
theorem as_args2 {P : Program} {f : FuncId} {args args' : Array Value} {w : World} {Q : Ending → World → Prop} (ha : args' = args) (h : Calls P f args w Q) : Calls P f args' w Q := by rw [ha]; exact h
theorem turn_q (x : BitVec 32) (k : Nat) (i : Int) (hi : i = (k : Int)) (h1 : 1 ≤ k) (h2 : k ≤ 31) (w : World) : ∀ (n : Nat) (args : Array Value), args = #[.int .u32 (uv x), .int .i64 i] →
    Hid (Calls Tryd.prog 74 args (w.drewN n) fun e w'' => e = .returned (.int .u32 (uv (rotr x k))) ∧ ∃ m, w'' = w.drewN m) :=
  fun n _ hargs => Lib.hid (as_args2 hargs (quiet_turn (rturn_lit x k i hi h1 h2 (w.drewN n))))
/-- The words of a state, in a block. -/
def H8At (g : Nat) (s : H8) (w : World) : Prop := ∀ j x, (h8L s)[j]? = some x → w.cell? ⟨g, j, none⟩ = some (.int .u32 (uv x))
theorem h8_lt (s : H8) {g : Nat} {w : World} (h : H8At g s w) : g < w.heap.size := by
  have h1 := h 0 s.a rfl
  rcases Nat.lt_or_ge g w.heap.size with h' | h'
  · exact h'
  · simp [World.cell?, Array.getElem?_eq_none h'] at h1
theorem h8_next {s : H8} {g : Nat} {w w' : World} (h : H8At g s w) (hb : Below w.heap.size w w') : H8At g s w' := fun j x hx => by
  rw [hb.cell (p := ⟨g, j, none⟩) (h8_lt s h)]; exact h j x hx
theorem h8_new (w : World) (t : H8) : H8At w.heap.size t (w.alloc (.cells #[.int .u32 (uv t.a), .int .u32 (uv t.b), .int .u32 (uv t.c), .int .u32 (uv t.d), .int .u32 (uv t.e), .int .u32 (uv t.f), .int .u32 (uv t.g), .int .u32 (uv t.h)] 55)) := by
  have hB := Blk.new w 55 #[.int .u32 (uv t.a), .int .u32 (uv t.b), .int .u32 (uv t.c), .int .u32 (uv t.d), .int .u32 (uv t.e), .int .u32 (uv t.f), .int .u32 (uv t.g), .int .u32 (uv t.h)]
  intro j x hx
  rw [hB.cell]
  match j, hx with
  | 0, hx => simp [h8L] at hx; subst hx; rfl
  | 1, hx => simp [h8L] at hx; subst hx; rfl
  | 2, hx => simp [h8L] at hx; subst hx; rfl
  | 3, hx => simp [h8L] at hx; subst hx; rfl
  | 4, hx => simp [h8L] at hx; subst hx; rfl
  | 5, hx => simp [h8L] at hx; subst hx; rfl
  | 6, hx => simp [h8L] at hx; subst hx; rfl
  | 7, hx => simp [h8L] at hx; subst hx; rfl
/-- What a round of the reference's block keeps. -/
structure BSt (w2 : World) (g1 C1 g k : Nat) (t : H8) (kc wk : BitVec 32) (w : World) : Prop where
  st : H8At g t w
  ck : w.cell? ⟨C1, k, none⟩ = some (.int .u32 (uv kc))
  cw : w.cell? ⟨g1, k, none⟩ = some (.int .u32 (uv wk))
  bel : Below w2.heap.size w2 w
section
variable {w2 w : World} {g1 C1 g k : Nat} {t : H8} {kc wk : BitVec 32} (h : BSt w2 g1 C1 g k t kc wk w)
include h
theorem BSt.drewN (n : Nat) : BSt w2 g1 C1 g k t kc wk (w.drewN n) := ⟨h.st, h.ck, h.cw, below_drewN h.bel n⟩
theorem BSt.cells : w.cell? ⟨g, 0, none⟩ = some (.int .u32 (uv t.a)) ∧ w.cell? ⟨g, 1, none⟩ = some (.int .u32 (uv t.b)) ∧ w.cell? ⟨g, 2, none⟩ = some (.int .u32 (uv t.c)) ∧ w.cell? ⟨g, 3, none⟩ = some (.int .u32 (uv t.d)) ∧
    w.cell? ⟨g, 4, none⟩ = some (.int .u32 (uv t.e)) ∧ w.cell? ⟨g, 5, none⟩ = some (.int .u32 (uv t.f)) ∧ w.cell? ⟨g, 6, none⟩ = some (.int .u32 (uv t.g)) ∧ w.cell? ⟨g, 7, none⟩ = some (.int .u32 (uv t.h)) :=
  ⟨h.st 0 _ rfl, h.st 1 _ rfl, h.st 2 _ rfl, h.st 3 _ rfl, h.st 4 _ rfl, h.st 5 _ rfl, h.st 6 _ rfl, h.st 7 _ rfl⟩
end
set_option maxRecDepth 100000 in
set_option maxHeartbeats 4000000 in
theorem rblock_calls (s : H8) (l : List UInt8) (hk hcap bk off cap : Nat) (w : World) (hst : H8At hk s w) (hsrc : ∀ j c, l[j]? = some c → w.cell? ⟨bk, off + j, none⟩ = some (.int .u8 (c.toNat : Int))) (hlt : bk < w.heap.size) (hl : l.length = 64) :
    Calls Tryd.prog 64 #[.slice (some ⟨hk, 0, none⟩) 8 hcap, .slice (some ⟨bk, off, none⟩) 64 cap] w fun e w' => ∃ g cp, e = .returned (.slice (some ⟨g, 0, none⟩) 8 cp) ∧ H8At g (compB s l) w' ∧ Below w.heap.size w w' := by
  obtain ⟨i0, hi, hz0, hz1, hz2⟩ := info_parts infoU32
  have cw := Lib.hid (rwords_calls l bk off cap w hsrc hlt hl)
  have ca := fun w => Lib.hid (radds_calls w)
  have hSl : (schedB l).length = 64 := by unfold schedB; rw [extB_len, firstW_len]
  obtain ⟨SB, hSB⟩ : ∃ SB, SB = schedB l := ⟨_, rfl⟩
  obtain ⟨CB, hCB⟩ : ∃ CB, CB = compB s l := ⟨_, rfl⟩
  have HCB : Hid (CB = addB s (roundsB s SB 64)) := by show CB = _; rw [hCB, hSB]; rfl
  rw [← hSB] at cw hSl
  rw [← hCB]
  have HSl := Lib.hid hSl
  clear hSB hCB hSl hsrc hl
  go_enter Tryd.func64, Tryd.ntmps64
  go_wp2_with fail
  refine cw.out.mono ?_
  rintro e w1 ⟨g1, cp1, rfl, ho1, hb1⟩
  go_wp2_with fail
  refine Calls.mono (ca w1).out ?_
  rintro e w2 ⟨rfl, hw2⟩
  obtain ⟨C1, hC1⟩ : ∃ C1, C1 = w1.heap.size := ⟨_, rfl⟩
  have hb12 : Below w1.heap.size w1 w2 := by rw [hw2]; exact below_one _ _
  have hB2 : Blk w2 C1 55 (wcs constsB).toArray := by rw [hw2, hC1]; exact Blk.new _ _ _
  have hb2 := hb1.trans (hb12.mono hb1.size)
  have hs2 : H8At hk s w2 := h8_next hst hb2
  have hcc : ∀ j x, constsB[j]? = some x → w2.cell? ⟨C1, j, none⟩ = some (.int .u32 (uv x)) := fun j x hx => by
    rw [hB2.cell]; have := wcs_get hx; simpa using this
  have hg1 : g1 < w1.heap.size := (World.ownsRow.lt ho1 g1 rfl).2
  have hww : ∀ j x, SB[j]? = some x → w2.cell? ⟨g1, j, none⟩ = some (.int .u32 (uv x)) := fun j x hx => by
    rw [hb12.cell (p := ⟨g1, j, none⟩) hg1]
    have ho' : OwnW w.heap.size (.slice (some ⟨g1, 0, none⟩) SB.length cp1) SB w1 := by rw [HSl.out]; exact ho1
    exact ho'.cell hx
  have hg2 : g1 < w2.heap.size := by have := hb12.size; omega
  have hC2 : C1 < w2.heap.size := hB2.lt
  rw [← hC1]
  clear cw ca ho1 hb1 hb12 hw2 hg1 hC1 hst hB2
  have hk2 := h8_lt s hs2
  have h0 : (w2.alloc (.cells #[] 55)).ownsRow w2.heap.size 55 1 (.slice (some ⟨w2.heap.size, 0, none⟩) 0 0) 0 [] := World.ownsRow_lit w2 #[] 0 (Nat.le_refl _) (by simp [maxLen]) rfl
  have hb0 : Below w2.heap.size w2 (w2.alloc (.cells #[] 55)) := (Below.refl _ _).alloc (Nat.le_refl _) _
  have hnl : (wcs (h8L s)).length = 8 * 1 := rfl
  have hone : ∀ u ∈ wcs (h8L s), u.oneCell' = true := by
    intro u hu
    unfold wcs at hu
    obtain ⟨x, _, rfl⟩ := List.mem_map.1 hu
    rfl
  have hnews : ∀ j u, (wcs (h8L s))[j]? = some u → (w2.alloc (.cells #[] 55)).cell? ((⟨hk, 0, none⟩ : Addr).add j) = some u := by
    intro j u hu
    unfold wcs at hu
    rw [List.getElem?_map] at hu
    obtain ⟨x, hx, rfl⟩ := Option.map_eq_some_iff.1 hu
    have e : (⟨hk, 0, none⟩ : Addr).add j = ⟨hk, j, none⟩ := by
      by_cases hj : j = 0 <;> simp [Addr.add, hj]
    rw [e, hb0.cell (p := ⟨hk, j, none⟩) hk2]
    exact hs2 j x hx
  obtain ⟨HW, hHW⟩ : ∃ HW, HW = wcs (h8L s) := ⟨_, rfl⟩
  rw [← hHW] at hnl hone hnews
  go_wp2_with (at_builtin; refine wpList_append_own _ rfl _ _ 66 rfl w2.heap.size 55 i0 (.int .u32 0) 1 4 Tryd.underlying66 hi hz0 hz1 hz2 rfl (by decide) _ _ _ rfl h0 ⟨hk, 0, none⟩ 8 hcap HW rfl hnl hnews hone ?c3 ?c4 ?c5 ?_)
  case c3 => unfold maxLen; omega
  case c4 => omega
  case c5 => simp
  intro v3 w3 hown3 hgrow3 _
  have hb3 := below_grown hb0 (Nat.le_refl _) h0 hgrow3
  have ho3 : w3.ownsRow w2.heap.size 55 1 v3 8 (wcs (h8L s)) := by simpa [hHW] using hown3
  obtain ⟨g3, cp3, rfl⟩ : ∃ g cap, v3 = .slice (some ⟨g, 0, none⟩) 8 cap := OwnW.len (W := h8L s) ho3 (by simp [h8L])
  have hv3 : H8At g3 s w3 := fun j x hx => OwnW.cell (W := h8L s) ho3 hx
  have hg3 : w2.heap.size ≤ g3 := (World.ownsRow.lt ho3 g3 rfl).1
  have hfz3 : ∀ j, w3.frozen? ⟨g3, j, none⟩ = false := fun j => World.ownsRow.frozenAt ho3 j
  clear hown3 hgrow3 h0 hb0 hnews hone hnl hHW
  have HH := Lib.hid (And.intro hs2 hb2)
  have HC := Lib.hid (And.intro hcc hww)
  clear hs2 hb2 hcc hww
  go_wp2_with fail
  go_loopw [7, 8] (fun v i wr => ∃ (k : Nat) (t : H8) (g cp : Nat), k ≤ 64 ∧ i = .int .i64 (k : Int) ∧ v = .slice (some ⟨g, 0, none⟩) 8 cp ∧ t = roundsB s SB k ∧ H8At g t wr ∧ (∀ j, wr.frozen? ⟨g, j, none⟩ = false) ∧ w2.heap.size ≤ g ∧ Below w2.heap.size w2 wr) (fun _ i _ => 64 - (intOf i).toNat)
  case atStart => exact ⟨0, s, g3, cp3, by omega, rfl, rfl, rfl, hv3, hfz3, hg3, hb3⟩
  case round =>
    clear hv3 hfz3 hg3 hb3
    obtain ⟨k, t, g, cp, hk', rfl, rfl, ht, hv, hfz, hg, hb⟩ := hrel
    have HT := Lib.hid ht
    clear ht
    by_cases hlt64 : k < 64
    · obtain ⟨kc, hcv, hkd⟩ := list_get consts_len k hlt64
      obtain ⟨wk, hwv, hwd⟩ := list_get HSl.out k hlt64
      have HR : Hid (roundB t kc wk = roundsB s SB (k + 1)) := by
        show roundB t kc wk = roundsB s SB (k + 1)
        rw [roundsB, ← HT.out, hkd, hwd]
      have hS : BSt w2 g1 C1 g k t kc wk wr := ⟨hv, by rw [hb.cell (p := ⟨C1, k, none⟩) hC2]; exact HC.out.1 k kc hcv, by rw [hb.cell (p := ⟨g1, k, none⟩) hg2]; exact HC.out.2 k wk hwv, hb⟩
      have hk64 : (k : Int) < 64 := by omega
      have hk0 : (0 : Int) ≤ (k : Int) := Int.natCast_nonneg _
      obtain ⟨a, b, c, d, e, f, g', h⟩ := t
      obtain ⟨c0, c1, c2, c3, c4, c5, c6, c7⟩ := hS.cells
      have n1 := uv_not e
      have x1 := uv_and e f
      have x2 := uv_and (~~~e) g'
      have x3 : bits .xor .u32 (uv (e &&& f)) (uv (~~~e &&& g')) = uv (chooseB e f g') := uv_xor _ _
      have y1 := uv_and a b
      have y2 := uv_and a c
      have y3 := uv_and b c
      have y4 := uv_xor (a &&& b) (a &&& c)
      have y5 : bits .xor .u32 (uv (a &&& b ^^^ a &&& c)) (uv (b &&& c)) = uv (majorB a b c) := uv_xor _ _
      have z1 := uv_xor (rotr e 6) (rotr e 11)
      have z2 : bits .xor .u32 (uv (rotr e 6 ^^^ rotr e 11)) (uv (rotr e 25)) = uv (sumE e) := uv_xor _ _
      have z3 := uv_xor (rotr a 2) (rotr a 13)
      have z4 : bits .xor .u32 (uv (rotr a 2 ^^^ rotr a 13)) (uv (rotr a 22)) = uv (sumA a) := uv_xor _ _
      have s1 := uv_add h (sumE e)
      have s2 := uv_add (h + sumE e) (chooseB e f g')
      have s3 := uv_add (h + sumE e + chooseB e f g') kc
      have s4 : IntKind.u32.wrap (uv (h + sumE e + chooseB e f g' + kc) + uv wk) = uv (t1B ⟨a, b, c, d, e, f, g', h⟩ kc wk) := uv_add _ _
      have HRR : Hid (roundB ⟨a, b, c, d, e, f, g', h⟩ kc wk = ⟨t1B ⟨a, b, c, d, e, f, g', h⟩ kc wk + (sumA a + majorB a b c), a, b, c, d + t1B ⟨a, b, c, d, e, f, g', h⟩ kc wk, e, f, g'⟩) := rfl
      generalize chooseB e f g' = CH at *
      generalize majorB a b c = MJ at *
      generalize sumE e = SE at *
      generalize sumA a = SA at *
      generalize t1B ⟨a, b, c, d, e, f, g', h⟩ kc wk = T1 at *
      have s6 := uv_add d T1
      have s7 := uv_add T1 SA
      have s8 := uv_add (T1 + SA) MJ
      have hS1 := Lib.hid hS
      clear hcv hkd hwv hwd HT hv hb hS hfz
      go_wp2_with fail
      have Q6 := turn_q e 6 6 rfl (by omega) (by omega) wr
      have Q11 := turn_q e 11 11 rfl (by omega) (by omega) wr
      have Q25 := turn_q e 25 25 rfl (by omega) (by omega) wr
      go_quiet ((first | (go_at_call 74; exact (Q6 _ _ (by with_reducible rfl)).out) | (go_at_call 74; exact (Q11 _ _ (by with_reducible rfl)).out) | (go_at_call 74; exact (Q25 _ _ (by with_reducible rfl)).out)))
      clear Q6 Q11 Q25
      clear z1 z2
      have hS2 := Lib.hid (hS1.out.drewN nq)
      clear c0 c1 c2 c3 c4 c5 c6 c7 hS1
      generalize wr.drewN nq = wr1 at *
      obtain ⟨c0, c1, c2, c3, c4, c5, c6, c7⟩ := hS2.out.cells
      go_wp2_with fail
      go_quiet (fail)
      clear n1 x1 x2 x3
      have hS3 := Lib.hid (hS2.out.drewN nq)
      clear c0 c1 c2 c3 c4 c5 c6 c7 hS2
      generalize wr1.drewN nq = wr2 at *
      obtain ⟨c0, c1, c2, c3, c4, c5, c6, c7⟩ := hS3.out.cells
      go_wp2_with fail
      have ck := hS3.out.ck
      have cw := hS3.out.cw
      go_quiet (fail)
      clear ck cw s1 s2 s3 s4
      have hS4 := Lib.hid (hS3.out.drewN nq)
      clear c0 c1 c2 c3 c4 c5 c6 c7 hS3
      generalize wr2.drewN nq = wr3 at *
      obtain ⟨c0, c1, c2, c3, c4, c5, c6, c7⟩ := hS4.out.cells
      go_wp2_with fail
      have Q2 := turn_q a 2 2 rfl (by omega) (by omega) wr3
      have Q13 := turn_q a 13 13 rfl (by omega) (by omega) wr3
      have Q22 := turn_q a 22 22 rfl (by omega) (by omega) wr3
      go_quiet ((first | (go_at_call 74; exact (Q2 _ _ (by with_reducible rfl)).out) | (go_at_call 74; exact (Q13 _ _ (by with_reducible rfl)).out) | (go_at_call 74; exact (Q22 _ _ (by with_reducible rfl)).out)))
      clear Q2 Q13 Q22
      clear z3 z4
      have hS5 := Lib.hid (hS4.out.drewN nq)
      clear c0 c1 c2 c3 c4 c5 c6 c7 hS4
      generalize wr3.drewN nq = wr4 at *
      obtain ⟨c0, c1, c2, c3, c4, c5, c6, c7⟩ := hS5.out.cells
      go_wp2_with fail
      go_quiet (fail)
      clear y1 y2 y3 y4 y5
      have hS6 := Lib.hid (hS5.out.drewN nq)
      clear c0 c1 c2 c3 c4 c5 c6 c7 hS5
      generalize wr4.drewN nq = wr5 at *
      obtain ⟨c0, c1, c2, c3, c4, c5, c6, c7⟩ := hS6.out.cells
      go_wp2_with fail
      go_still_tail 28, (by kernel_rfl)
      change wpList _ _ _ _ _ wr5.drew
      have hbd : Below w2.heap.size w2 wr5.drew := hS6.out.bel.drew
      have hnew := h8_new wr5.drew ⟨T1 + SA + MJ, a, b, c, d + T1, e, f, g'⟩
      have hsz : wr5.drew.heap.size = wr5.heap.size := rfl
      rw [hsz] at hnew
      have hfz : ∀ j, (wr5.drew.alloc (.cells #[.int .u32 (uv (T1 + SA + MJ)), .int .u32 (uv a), .int .u32 (uv b), .int .u32 (uv c), .int .u32 (uv (d + T1)), .int .u32 (uv e), .int .u32 (uv f), .int .u32 (uv g')] 55)).frozen? ⟨wr5.heap.size, j, none⟩ = false := fun j => (Blk.new wr5.drew 55 _).frozen j
      have hba := hbd.alloc hbd.size (.cells #[.int .u32 (uv (T1 + SA + MJ)), .int .u32 (uv a), .int .u32 (uv b), .int .u32 (uv c), .int .u32 (uv (d + T1)), .int .u32 (uv e), .int .u32 (uv f), .int .u32 (uv g')] 55)
      have HN := Lib.hid (And.intro hnew (And.intro hfz hba))
      have hgs : w2.heap.size ≤ wr5.heap.size := hbd.size
      have HTT : Hid ((⟨T1 + SA + MJ, a, b, c, d + T1, e, f, g'⟩ : H8) = roundsB s SB (k + 1)) := by
        show (⟨T1 + SA + MJ, a, b, c, d + T1, e, f, g'⟩ : H8) = roundsB s SB (k + 1)
        rw [← HR.out, HRR.out, BitVec.add_assoc]
      clear hnew hfz hba hbd hS6 c0 c1 c2 c3 c4 c5 c6 c7 HR HRR hsz
      go_wp2
      go_roundw
      case rel => exact ⟨k + 1, ⟨T1 + SA + MJ, a, b, c, d + T1, e, f, g'⟩, wr5.heap.size, 8, by omega, by go_num, rfl, HTT.out, HN.out.1, HN.out.2.1, hgs, HN.out.2.2⟩
      case measure => simp [intOf]; omega
    · have hk64 : k = 64 := by omega
      subst hk64
      have hc64 : ((64 : Nat) : Int) = 64 := rfl
      rw [hc64]
      clear hc64
      have HCB2 : Hid (CB = addB t s) := by
        show CB = addB t s
        rw [HCB.out, ← HT.out]
        unfold addB
        simp only [H8.mk.injEq]
        exact ⟨BitVec.add_comm .., BitVec.add_comm .., BitVec.add_comm .., BitVec.add_comm .., BitVec.add_comm .., BitVec.add_comm .., BitVec.add_comm .., BitVec.add_comm ..⟩
      clear HT HCB HC
      have hss : H8At hk s wr := h8_next (h8_next HH.out.1 (Below.refl _ _)) hb
      have hv0 : ∀ j x, (mixB t s 0)[j]? = some x → wr.cell? ⟨g, j, none⟩ = some (.int .u32 (uv x)) := hv
      have hgl := h8_lt t hv
      clear hv
      go_wp2_with fail
      go_loopw [14] (fun i wr' => ∃ k : Nat, k ≤ 8 ∧ i = .int .i64 (k : Int) ∧ (∀ j x, (mixB t s k)[j]? = some x → wr'.cell? ⟨g, j, none⟩ = some (.int .u32 (uv x))) ∧ (∀ j, wr'.frozen? ⟨g, j, none⟩ = false) ∧ H8At hk s wr' ∧ Below w2.heap.size w2 wr') (fun i _ => 8 - (intOf i).toNat)
      case atStart => exact ⟨0, by omega, rfl, hv0, hfz, hss, hb⟩
      case round =>
        clear hv0 hfz hss hb
        obtain ⟨j, hj, rfl, hM, hfz, hss, hb⟩ := hrel
        by_cases hjl : j < 8
        · have hM1 := hM j _ (mix_get t s j hjl)
          have hs1 := hss j _ (show (h8L s)[j]? = some ((h8L s)[j]'hjl) from List.getElem?_eq_getElem _)
          have hf := hfz j
          have hms := mix_set t s j hjl
          generalize (h8L s)[j]'hjl = sv at *
          generalize (h8L t)[j]'hjl = tv at *
          have hadd := uv_add tv sv
          have hj8 : (j : Int) < 8 := by omega
          have hj0 : (0 : Int) ≤ (j : Int) := Int.natCast_nonneg _
          have HA := Lib.hid (And.intro hM (And.intro hms (And.intro hfz (And.intro hss hb))))
          clear hM hms hfz hss hb
          go_wp2_with fail
          go_still_tail 12, (by kernel_rfl)
          go_wp2
          go_roundw
          case rel =>
            obtain ⟨hM, hms, hfz, hss, hb⟩ := HA.out
            refine ⟨j + 1, by omega, by go_num, ?_, ?_, ?_, ?_⟩
            · intro i x hx
              rw [← hms] at hx
              change (wr.setCell ⟨g, j, none⟩ (.int .u32 (uv (tv + sv)))).cell? ⟨g, i, none⟩ = _
              by_cases hij : i = j
              · subst hij
                rw [List.getElem?_set_self (by rw [mix_len t s i (by omega)]; exact hjl)] at hx
                simp only [Option.some.injEq] at hx
                subst hx
                exact World.cell?_setCell_same _ _ _ hM1
              · rw [List.getElem?_set_ne (Ne.symm hij)] at hx
                have hne : (⟨g, j, none⟩ : Addr) ≠ ⟨g, i, none⟩ := fun h => by
                  have h2 : j = i := congrArg Addr.off h
                  omega
                rw [World.cell?_setCell_other _ _ _ _ hne]
                exact hM i x hx
            · intro i
              change (wr.setCell ⟨g, j, none⟩ (.int .u32 (uv (tv + sv)))).frozen? ⟨g, i, none⟩ = _
              rw [World.frozen?_setCell]
              exact hfz i
            · intro i x hx
              change (wr.setCell ⟨g, j, none⟩ (.int .u32 (uv (tv + sv)))).cell? ⟨hk, i, none⟩ = _
              have hne : (⟨g, j, none⟩ : Addr) ≠ ⟨hk, i, none⟩ := fun h => by
                have := congrArg Addr.block h
                have h2 : g = hk := this
                omega
              rw [World.cell?_setCell_other _ _ _ _ hne]
              exact hss i x hx
            · exact (hb.setCell (p := ⟨g, j, none⟩) hg _).drew
          case measure => simp [intOf]; omega
        · obtain rfl : j = 8 := by omega
          have HM : Hid (H8At g CB wr) := by
            show H8At g CB _
            rw [HCB2.out]
            exact fun j x hx => hM j x hx
          clear hM
          go_wp2
          go_ret
          exact ⟨g, cp, rfl, HM.out, HH.out.2.trans (hb.mono HH.out.2.size)⟩
end Go.Proofs.YtolmcaikjebdaaaDoor
