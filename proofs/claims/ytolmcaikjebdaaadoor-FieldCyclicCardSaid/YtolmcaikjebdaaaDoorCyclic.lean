/- The law FieldCyclic. -/
import Derived.Test.YtolmcaikjebdaaaDoorExpo
import Derived.Test.YtolmcaikjebdaaaDoorCycS
import Derived.Test.YtolmcaikjebdaaaDoorRSha2
import Derived.Deep.RegionHeld3
import Derived.BigQuiet
namespace Go.Proofs.YtolmcaikjebdaaaDoor
open Go.RowKit

/-- A slice of bools that holds the bits of a number. -/
structure Bs (g b : Nat) (w : World) : Prop where
  at' : ∀ j, j < 403 → w.cell? ⟨g, j, none⟩ = some (.bool (b.testBit j))
  fz : ∀ j, w.frozen? ⟨g, j, none⟩ = false
theorem Bs.lt {g b : Nat} {w : World} (h : Bs g b w) : g < w.heap.size := by
  have h1 := h.at' 0 (by omega)
  rcases Nat.lt_or_ge g w.heap.size with h' | h'
  · exact h'
  · simp [World.cell?, Array.getElem?_eq_none h'] at h1
theorem Bs.next {g b : Nat} {w w' : World} (h : Bs g b w) (hb : Below w.heap.size w w') : Bs g b w' := by
  have hl := h.lt
  refine ⟨fun j hj => ?_, fun j => ?_⟩
  · rw [hb.cell (p := ⟨g, j, none⟩) hl]; exact h.at' j hj
  · rw [World.frozen?_of_block (a := ⟨g, j, none⟩) (hb.block g hl)]; exact h.fz j
theorem Bs.set {g b : Nat} {w : World} (h : Bs g b w) (j : Nat) (hj : j < 403) : Bs g (b ||| 1 <<< j) (w.setCell ⟨g, j, none⟩ (.bool true)) := by
  refine ⟨fun i hi => ?_, fun i => ?_⟩
  · rw [Nat.testBit_or, Nat.testBit_shiftLeft]
    by_cases hij : i = j
    · subst hij
      rw [World.cell?_setCell_same _ _ _ (h.at' i hi)]
      simp
    · have hne : (⟨g, j, none⟩ : Addr) ≠ ⟨g, i, none⟩ := fun e => hij (congrArg Addr.off e).symm
      rw [World.cell?_setCell_other _ _ _ _ hne, h.at' i hi]
      have : (decide (j ≤ i) && Nat.testBit 1 (i - j)) = false := by
        by_cases hle : j ≤ i
        · have : i - j ≠ 0 := by omega
          obtain ⟨m, hm⟩ : ∃ m, i - j = m + 1 := ⟨i - j - 1, by omega⟩
          rw [hm, Nat.testBit_succ]; simp
        · simp [hle]
      rw [this, Bool.or_false]
  · rw [World.frozen?_setCell]; exact h.fz i
theorem infoBool : (Tryd.prog.info? 4).map (fun i => (i.zero, i.size, i.bytes)) = some (some (.bool false), 1, 1) := by kernel_rfl
/-- A slice of 403 bools is made. -/
theorem made_bools (W : World) : ∃ W', (Instr.makeSlice 46 (.int .i64 403) (.int .i64 403)).run Tryd.prog W = .ok (.slice (some ⟨W.heap.size, 0, none⟩) 403 403) W' ∧ Bs W.heap.size 0 W' ∧ Below W.heap.size W W' := by
  obtain ⟨i0, hi, hz0, hz1, hz2⟩ := info_parts infoBool
  obtain ⟨W', h1, h2, h3⟩ := run_makeSlice_full (P := Tryd.prog) W W.heap.size 46 4 i0 (.bool false) 1 Tryd.underlying46 hi hz0 hz1 .i64 .i64 403 (by omega) (by rw [hz2]; omega) (by simp [maxLen]) (Nat.le_refl _)
  refine ⟨W', h1, ⟨fun j hj => ?_, fun j => World.ownsRow.frozenAt h2 j⟩, ⟨h3.os, h3.tape, h3.output, h3.size, fun k hk => h3.block k hk (by simp)⟩⟩
  rw [World.ownsRow.cellAt h2 j (by omega), Nat.zero_testBit]
  have : (madeCells (Value.bool false).cells (403 * 1)).toList[j]? = some (.bool false) := by
    have hc : (Value.bool false).cells = #[.bool false] := rfl
    unfold madeCells
    rw [hc, Array.getElem?_toList, Array.getElem?_map, Array.getElem?_range, if_pos (by omega)]
    simp [Nat.mod_one]
  exact this
/-- Worlds above a world. -/
structure Up (wr : World) where
  w : World
  b : Below wr.heap.size wr w
instance Up.any (wr : World) : Nonempty (Up wr) := ⟨⟨wr, Below.refl _ _⟩⟩
theorem wp_region_up {P : Program} {id : Nat} {Q : Exit → Act → World → Prop} {a : Act} {w : World} {l : List Oper} (hm : P.follows .mixedOrders = true) (hB : Region.lexB .any l.toArray = true)
    (h : wpQuiet P l.toArray (fun w' => ∃ u : Up w, w' = u.w) (fun a' => ∀ w', (∃ u : Up w, w' = u.w) → Q .normal a' w') l a) : (Code.region id l.toArray true).wp P Q a w :=
  wp_region_quiet (C := fun w' => ∃ u : Up w, w' = u.w) hm hB ⟨⟨_, below_drewN (Below.refl _ _) 1⟩, rfl⟩ (by simpa using h)
theorem cycB_elem {q : Nat} (hc : cycB q = true) (hv : validB (2 * (q : Int) + 1) (q : Int) 4 = true) (P : Nat) (hP : P = 2 * q + 1) (x : Nat) (hx : x ≤ P) : elemB (P : Int) (q : Int) 4 (x : Int) = (decide (x < P) && (cycS q).testBit x) := by
  unfold cycB at hc
  simp only [Bool.and_eq_true] at hc
  have h1 := List.all_eq_true.1 hc.1 x (List.mem_range.2 (by omega))
  rw [beq_iff_eq] at h1
  have hPi : (P : Int) = 2 * (q : Int) + 1 := by omega
  have hm : isMod (P : Int) := by rw [hPi]; exact (Cyc.of_valid hv).1.p
  have hp : powZ (P : Int) (x : Int) (q : Int) = ((x ^ q % P : Nat) : Int) := by
    rw [powZ_pos hm (by omega)]; simp
  unfold elemB subB
  rw [hPi, hv, ← hPi, hp, hP, ← h1, Bool.true_and]
  congr 1
  · rw [decide_eq_decide]; omega
  · congr 1
    · rw [decide_eq_decide]; omega
    · rw [decide_eq_decide]; omega
theorem cycB_rest {q : Nat} (hc : cycB q = true) : (cycE q).length = q ∧ (cycE q).head? = some 1 ∧ ∀ x ∈ cycE q, x = 1 ∨ chF (2 * q + 1) (cycS q) x q 0 0 = true := by
  unfold cycB at hc
  simp only [Bool.and_eq_true, decide_eq_true_eq, beq_iff_eq, List.all_eq_true, Bool.or_eq_true] at hc
  exact ⟨hc.2.1, hc.2.2.1, hc.2.2.2⟩
/-- Numbers as cells. -/
def ics (L : List Nat) : List Value := L.map fun x : Nat => Value.int .i64 (x : Int)
theorem infoInt : (Tryd.prog.info? 3).map (fun i => (i.zero, i.size, i.bytes)) = some (some (.int .i64 0), 1, 8) := by kernel_rfl
theorem own_form {B : Nat} {e : TypeId} {size n : Nat} {v : Value} {xs : List Value} {w : World} (h : w.ownsRow B e size v n xs) (hl : 0 < n) : ∃ g cap, v = .slice (some ⟨g, 0, none⟩) n cap := by
  obtain ⟨_, ⟨h1, h2⟩ | ⟨g, cap, cur, hv, _⟩⟩ := h
  · omega
  · exact ⟨g, cap, hv⟩
set_option maxRecDepth 100000 in
set_option maxHeartbeats 4000000 in
theorem cyclic_yes (q0 wh : Nat) (hq0 : q0 < 256) (hwh : wh < 256) (q : Nat) (hq : q = q0 % 201) (hv : validB (2 * (q : Int) + 1) (q : Int) 4 = true) (w : World) (hE : Env w) :
    Calls Tryd.prog 8 #[.int .u8 (q0 : Int), .int .u8 (wh : Int)] w (Tpost w) := by
  unfold Tpost
  have c1 := Lib.hid (sane_calls w hE)
  have hq2 : q < 201 := by omega
  have hmk : mkP (q : Int) = 2 * (q : Int) + 1 := by unfold mkP wrap64; omega
  have c2 := fun w hE => Lib.hid (make_calls (q : Int) (by unfold isInt; omega) w hE)
  rw [show makeV (q : Int) = .tuple #[.agg #[.int .i64 (2 * (q : Int) + 1), .int .i64 (q : Int), .int .i64 4], .bool true] by unfold makeV; rw [hmk, if_pos hv]] at c2
  obtain ⟨P, hP⟩ : ∃ P : Nat, P = 2 * q + 1 := ⟨_, rfl⟩
  have hPi : 2 * (q : Int) + 1 = (P : Int) := by omega
  rw [hPi] at c2
  have hEn := fun w' (h : Below w.heap.size w w') => Lib.hid (hE.next h)
  have v1 : IntKind.i64.wrap (q0 : Int) = (q0 : Int) := by simp only [IntKind.wrap, IntKind.bits, IntKind.signed]; simp; omega
  have v2 : (q0 : Int) % 201 = (q : Int) := by omega
  have HQ := Lib.hid (And.intro hq (And.intro hv (And.intro hP hmk)))
  clear hE hq hv hmk hPi hP
  go_enter Tryd.func8, Tryd.ntmps8
  go_wp2_with fail
  refine c1.out.mono ?_
  rintro e w1 ⟨rfl, hB⟩
  go_wp2_with fail
  refine Calls.mono (c2 w1 (hEn w1 hB).out).out ?_
  rintro e w2 ⟨rfl, hB2⟩
  have hS : Gst w w2.heap.size P q 4 (w2.alloc (.cells #[.int .i64 (P : Int), .int .i64 (q : Int), .int .i64 4] 29)) := by
    have h1 := hB.trans (hB2.mono hB.size)
    exact ⟨((hEn w1 hB).out.next hB2).next (below_one _ _), h1.trans ((below_one w2 _).mono h1.size), Blk.new _ _ _⟩
  clear hB hB2 c1 c2 hEn
  obtain ⟨z0, z1, z2⟩ := hS.cells
  obtain ⟨B, hBe⟩ : ∃ B, B = w2.heap.size := ⟨_, rfl⟩
  rw [← hBe] at hS z0 z1 z2
  obtain ⟨W1, hW1⟩ : ∃ W1, W1 = w2.alloc (.cells #[.int .i64 (P : Int), .int .i64 (q : Int), .int .i64 4] 29) := ⟨_, rfl⟩
  rw [← hW1] at hS z0 z1 z2
  obtain ⟨WB, hmk, hbs, hbb⟩ := made_bools W1
  obtain ⟨g1, hg1⟩ : ∃ g1, g1 = W1.heap.size := ⟨_, rfl⟩
  rw [← hg1] at hmk hbs
  rw [hW1] at hmk z0 z1 z2
  have hg1' : g1 = w2.heap.size + 1 := by rw [hg1, hW1]; simp
  have HgB := Lib.hid hg1
  clear hg1
  have HPQ : Hid (P = 2 * q + 1 ∧ cycB q = true) := by
    have h1 := HQ.out.2.2.1
    refine ⟨h1, ?_⟩
    have h2 := List.all_eq_true.1 cyc_all q (List.mem_range.2 hq2)
    rw [HQ.out.2.1] at h2
    simpa using h2
  have hPl : P < 403 := by have := HPQ.out.1; omega
  have hP1 : 1 ≤ P := by have := HPQ.out.1; omega
  obtain ⟨SQ, hSQ⟩ : ∃ SQ, SQ = cycS q := ⟨_, rfl⟩
  have HSQ : Nat → sqF P (P - 1) 1 0 = SQ := fun _ => by rw [hSQ, HPQ.out.1]; rfl
  have HS0 := Lib.hid hSQ
  clear hSQ
  go_wp2
  rw [← hg1', ← hBe]
  clear hmk hg1' hBe hW1 z0 z1 z2
  have hGS : Gst w B P q 4 W1 := hS
  go_loopw [9] (fun i wr => ∃ x b : Nat, 1 ≤ x ∧ x ≤ P ∧ i = .int .i64 (x : Int) ∧ sqF P (P - x) x b = SQ ∧ Bs g1 b wr ∧ Below W1.heap.size W1 wr) (fun i _ => P - (intOf i).toNat)
  case atStart => exact ⟨1, 0, by omega, hP1, rfl, HSQ 0, hbs, hbb⟩
  case round =>
    clear hbs hbb HSQ
    obtain ⟨x, b, hx1, hxP, rfl, hsq, hbs, hb⟩ := hrel
    have HSQ2 : Nat → sqF P (P - x) x b = SQ := fun _ => hsq
    clear hsq
    obtain ⟨z0, z1, z2⟩ := (hGS.next hb).cells
    by_cases hlt : x < P
    · have hx403 : x < 403 := by omega
      obtain ⟨X2, hX2⟩ : ∃ X2, X2 = x * x := ⟨_, rfl⟩
      have hX2l : X2 ≤ 403 * 403 := by rw [hX2]; exact Nat.mul_le_mul (by omega) (by omega)
      obtain ⟨M, hM⟩ : ∃ M, M = X2 % P := ⟨_, rfl⟩
      have hMP : M < P := by rw [hM]; exact Nat.mod_lt _ (by omega)
      have e0 : (x : Int) * (x : Int) = (X2 : Int) := by rw [hX2]; simp
      have t1 : Int.tmod (X2 : Int) (P : Int) = (M : Int) := by rw [hM]; exact tmod_nat X2 P
      have t2 : (X2 : Int) % (P : Int) = (M : Int) := by rw [hM]; simp
      have HNX : Nat → sqF P (P - (x + 1)) (x + 1) (b ||| 1 <<< M) = SQ := fun _ => by
        rw [← HSQ2 0, show P - x = (P - (x + 1)) + 1 by omega, sqF, hM, hX2]
      have hcM := hbs.at' M (by omega)
      have hfM := hbs.fz M
      have hM403 : M < 403 := by omega
      have HBS := Lib.hid (And.intro hbs hb)
      have hne : ¬ ((P : Int) = 0) := by omega
      clear hX2 hM HSQ2 hbs hb
      go_wp2
      go_roundw
      case rel =>
        obtain ⟨hbs, hb⟩ := HBS.out
        exact ⟨x + 1, b ||| 1 <<< M, by omega, by omega, by go_num, HNX 0, hbs.set M (by omega), hb.setCell (p := ⟨g1, M, none⟩) (Nat.le_of_eq HgB.out.symm) _⟩
      case measure => simp [intOf]; omega
    · obtain rfl : P = x := by omega
      have hbS : b = SQ := by have := HSQ2 0; rwa [Nat.sub_self, sqF] at this
      subst hbS
      clear HSQ2 z0 z1 z2
      have hG2 : Gst w B P q 4 wr := hGS.next hb
      generalize wr = W2 at *
      obtain ⟨z0, z1, z2⟩ := hG2.cells
      have how0 : (W2.alloc (.cells #[] 3)).ownsRow W2.heap.size 3 1 (.slice (some ⟨W2.heap.size, 0, none⟩) 0 0) ([] : List Nat).length (ics []) := World.ownsRow_lit W2 #[] 0 (Nat.le_refl _) (by simp [maxLen]) rfl
      have hbw0 : Below W2.heap.size W2 (W2.alloc (.cells #[] 3)) := below_one _ _
      have hxx : ¬ P < P := by omega
      have HE0 : Nat → elF P b (P + 1 - 0) 0 = cycE q := fun _ => by
        rw [HS0.out]; have := HPQ.out.1; unfold cycE; rw [this]; rfl
      have HEL : Hid (∀ y, y ≤ P → elemB (P : Int) (q : Int) 4 (y : Int) = (decide (y < P) && b.testBit y)) := by
        show ∀ y, y ≤ P → elemB (P : Int) (q : Int) 4 (y : Int) = (decide (y < P) && b.testBit y)
        intro y hy
        rw [HS0.out]
        exact cycB_elem HPQ.out.2 HQ.out.2.1 P HPQ.out.1 y hy
      have HBS := Lib.hid hbs
      have HG2 := Lib.hid hG2
      clear hGS hS hxP hlt hb hbs hG2 hx1
      go_wp2
      go_loopw [10, 11] (fun v i wr => ∃ (y : Nat) (acc : List Nat), y ≤ P + 1 ∧ i = .int .i64 (y : Int) ∧ acc.length ≤ y ∧ acc ++ elF P b (P + 1 - y) y = cycE q ∧ (∃ g c, v = .slice (some ⟨g, 0, none⟩) acc.length c) ∧ wr.ownsRow W2.heap.size 3 1 v acc.length (ics acc) ∧ Below W2.heap.size W2 wr) (fun _ i _ => P + 1 - (intOf i).toNat)
      case atStart => exact ⟨0, [], by omega, rfl, by simp, HE0 0, ⟨_, _, rfl⟩, how0, hbw0⟩
      case round =>
        clear how0 hbw0 HE0 z0 z1 z2
        obtain ⟨y, acc, hyP, rfl, hal, hE, ⟨ge, ce, rfl⟩, ho, hb⟩ := hrel
        have hE' : Nat → acc ++ elF P b (P + 1 - y) y = cycE q := fun _ => hE
        clear hE
        by_cases hy : y ≤ P
        · have hG := HG2.out.next hb
          obtain ⟨z0, z1, z2⟩ := hG.cells
          have hy403 : y < 403 := by omega
          obtain ⟨t, ht⟩ : ∃ t, t = b.testBit y := ⟨_, rfl⟩
          have hsq := (HBS.out.next hb).at' y hy403
          rw [← ht] at hsq
          obtain ⟨u, hu⟩ : ∃ u, u = (decide (y < P) && t) := ⟨_, rfl⟩
          have hel := HEL.out y hy
          rw [← ht, ← hu] at hel
          have hiP : isInt (P : Int) := by unfold isInt; omega
          have hiq : isInt (q : Int) := by unfold isInt; omega
          have hi4 : isInt (4 : Int) := by unfold isInt; omega
          have hiy : isInt (y : Int) := by unfold isInt; omega
          have ke : Hid (∀ (args' : Array Value) (w' : World), args' = #[.agg #[.int .i64 (P : Int), .int .i64 (q : Int), .int .i64 4], .int .i64 (y : Int)] → Below wr.heap.size wr w' →
              Calls Tryd.prog 29 args' w' fun e w'' => e = .returned (.bool u) ∧ Below wr.heap.size wr w'') := by
            show ∀ (args' : Array Value) (w' : World), args' = #[.agg #[.int .i64 (P : Int), .int .i64 (q : Int), .int .i64 4], .int .i64 (y : Int)] → Below wr.heap.size wr w' →
              Calls Tryd.prog 29 args' w' fun e w'' => e = .returned (.bool u) ∧ Below wr.heap.size wr w''
            intro args' w' he h; subst he
            rw [← hel]
            exact (elem_calls P q 4 y hiP hiq hi4 hiy w' (hG.next h).env).mono fun _ _ ⟨he, hn⟩ => ⟨he, h.trans (hn.mono h.size)⟩
          have HK : Hid (∀ w', Below wr.heap.size wr w' → w'.cell? ⟨B, 0, none⟩ = some (.int .i64 (P : Int)) ∧ w'.cell? ⟨B, 1, none⟩ = some (.int .i64 (q : Int)) ∧ w'.cell? ⟨B, 2, none⟩ = some (.int .i64 4) ∧ w'.cell? ⟨g1, y, none⟩ = some (.bool t) ∧ Below wr.heap.size wr w') := by
            show ∀ w', Below wr.heap.size wr w' → _
            intro w' h
            obtain ⟨k0, k1, k2⟩ := (hG.next h).cells
            exact ⟨k0, k1, k2, by rw [h.cell (p := ⟨g1, y, none⟩) (HBS.out.next hb).lt]; exact hsq, h⟩
          have HB := Lib.hid (And.intro hb ho)
          have HT := Lib.hid ht
          have hge := (World.ownsRow.lt ho ge rfl).2
          have hs2 := hb.size
          have y0 : (0 : Int) ≤ (y : Int) := Int.natCast_nonneg _
          have y1 : (y : Int) < 403 := by omega
          clear hel hG hiP hiq hi4 hiy hb ho ht
          obtain ⟨i0, hi, hz0, hz1, hz2⟩ := info_parts infoInt
          by_cases hyl : y < P
          · have d1 : decide ((y : Int) < (P : Int)) = true := decide_eq_true (by omega)
            rw [decide_eq_true hyl, Bool.true_and] at hu
            subst hu
            have ett : (u != u) = false := by simp
            have HEn : Nat → (if u = true then (acc ++ [y]) else acc) ++ elF P b (P + 1 - (y + 1)) (y + 1) = cycE q := fun _ => by
              rw [← hE' 0, show P + 1 - y = (P + 1 - (y + 1)) + 1 by omega, elF, decide_eq_true hyl, Bool.true_and, ← HT.out]
              cases u <;> simp
            clear hE'
            go_wp2
            go_region_held3 (fun w' => w'.cell? ⟨B, 0, none⟩ = some (.int .i64 (P : Int)) ∧ w'.cell? ⟨B, 1, none⟩ = some (.int .i64 (q : Int)) ∧ w'.cell? ⟨B, 2, none⟩ = some (.int .i64 4) ∧ w'.cell? ⟨g1, y, none⟩ = some (.bool u) ∧ Below wr.heap.size wr w')
              (first | exact HK.out _ (by assumption) | exact HK.out _ (below_drewN (Below.refl _ _) 1) | exact HK.out _ (Below.refl _ _))
              (first
                | (go_at_call 29; refine Calls.mono (ke.out _ _ (by with_reducible rfl) (by first | assumption | exact below_drewN (Below.refl _ _) 1)) ?_; rintro e w4 ⟨rfl, hb4⟩))
            all_goals
              obtain ⟨k0, k1, k2, _, _⟩ := HK.out _ hb4
              go_wp2_with fail
              refine Calls.mono (ke.out _ _ (by with_reducible rfl) hb4) ?_
              rintro e w5 ⟨rfl, hb5⟩
              clear k0 k1 k2 hb4
              have hs5 := hb5.size
              cases u
              · go_wp2
                go_roundw
                case rel => exact ⟨y + 1, acc, by omega, by go_num, by omega, by have := HEn 0; simpa using this, ⟨ge, ce, rfl⟩, owns_next HB.out.2 hb5, HB.out.1.trans (hb5.mono HB.out.1.size)⟩
                case measure => simp [intOf]; omega
              · have ho5 : Hid (w5.ownsRow W2.heap.size 3 1 (.slice (some ⟨ge, 0, none⟩) acc.length ce) acc.length (ics acc)) := owns_next HB.out.2 hb5
                have hb25 := HB.out.1.trans (hb5.mono HB.out.1.size)
                have hba := hb25.trans ((below_one w5 (.cells #[.int .i64 (y : Int)] 3)).mono hb25.size)
                go_wp2_with (at_builtin; refine wpList_append_own _ rfl _ _ 30 rfl W2.heap.size 3 i0 (.int .i64 0) 1 8 Tryd.underlying30 hi hz0 hz1 hz2 rfl (by decide) _ _ _ rfl (World.ownsRow.alloc ho5.out _) ⟨w5.heap.size, 0, none⟩ 1 1 [.int .i64 (y : Int)] rfl rfl ?c1 ?c2 ?c3 ?c4 ?c5 ?_)
                case c1 =>
                  intro j u hj
                  match j, hj with
                  | 0, hj => simp at hj; subst hj; simp [Addr.add]
                case c2 => intro u hu; simp at hu; subst hu; rfl
                case c3 => unfold maxLen; omega
                case c4 => omega
                case c5 => have := hb25.size; simp; omega
                intro v6 w6 hown6 hgrow6 _
                have hb6 := below_grown hba (Nat.le_refl _) (World.ownsRow.alloc ho5.out _) hgrow6
                have ho6 : w6.ownsRow W2.heap.size 3 1 v6 (acc ++ [y]).length (ics (acc ++ [y])) := by
                  have e : ics (acc ++ [y]) = ics acc ++ [.int .i64 (y : Int)] := by unfold ics; simp
                  rw [e, List.length_append]; exact hown6
                obtain ⟨g6, c6, hv6⟩ := own_form ho6 (by simp)
                clear hown6 hgrow6 hba ho5
                go_wp2
                go_roundw
                case rel => exact ⟨y + 1, acc ++ [y], by omega, by go_num, by simp; omega, by have := HEn 0; simpa using this, ⟨g6, c6, hv6⟩, ho6, hb6⟩
                case measure => simp [intOf]; omega
          · have d1 : decide ((y : Int) < (P : Int)) = false := decide_eq_false (by omega)
            rw [decide_eq_false hyl, Bool.false_and] at hu
            subst hu
            have HEn : Nat → acc ++ elF P b (P + 1 - (y + 1)) (y + 1) = cycE q := fun _ => by
              rw [← hE' 0, show P + 1 - y = (P + 1 - (y + 1)) + 1 by omega, elF, decide_eq_false hyl, Bool.false_and, if_neg (by simp)]
            clear hE'
            go_wp2
            have q0' : ∀ u : Up wr, u.w.cell? ⟨B, 0, none⟩ = some (.int .i64 (P : Int)) := fun u => (HK.out u.w u.b).1
            have q1' : ∀ u : Up wr, u.w.cell? ⟨B, 1, none⟩ = some (.int .i64 (q : Int)) := fun u => (HK.out u.w u.b).2.1
            have q2' : ∀ u : Up wr, u.w.cell? ⟨B, 2, none⟩ = some (.int .i64 4) := fun u => (HK.out u.w u.b).2.2.1
            clear y0 y1 hsq HK z0 z1 z2
            refine wp_region_up (by kernel_rfl) (by kernel_rfl) ?_
            repeat (go_big_quiet_step (exact Calls.mono (ke.out _ _ (by with_reducible rfl) (Up.b _)) fun e w' h => ⟨h.1, ⟨w', h.2⟩, rfl⟩))
            refine wpQuiet_nil ?_
            intro _ hw'
            obtain ⟨u5, hw''⟩ := hw'
            subst hw''
            obtain ⟨w4, hb4⟩ := u5
            clear q0' q1' q2'
            obtain ⟨k0, k1, k2⟩ := (HG2.out.next (HB.out.1.trans (hb4.mono HB.out.1.size))).cells
            go_wp2_with fail
            refine Calls.mono (ke.out _ _ (by with_reducible rfl) hb4) ?_
            rintro e w5 ⟨rfl, hb5⟩
            clear k0 k1 k2 hb4
            go_wp2
            go_roundw
            case rel => exact ⟨y + 1, acc, by omega, by go_num, by omega, HEn 0, ⟨ge, ce, rfl⟩, owns_next HB.out.2 hb5, HB.out.1.trans (hb5.mono HB.out.1.size)⟩
            case measure => simp [intOf]; omega
        · obtain rfl : y = P + 1 := by omega
          have hG3 : Gst w B P q 4 wr := HG2.out.next hb
          have hbs3 : Bs g1 b wr := HBS.out.next hb
          obtain ⟨k0, k1, k2⟩ := hG3.cells
          obtain ⟨hr1, hr2, hr3⟩ := cycB_rest HPQ.out.2
          have hacc : acc = cycE q := by have := hE' 0; rwa [Nat.sub_self, elF, List.append_nil] at this
          have hlen : acc.length = q := by rw [hacc]; exact hr1
          have hq1 : 5 ≤ q := by have := (Cyc.of_valid HQ.out.2.1).2.1; omega
          have hc0 : acc[0]? = some 1 := by rw [hacc, ← List.head?_eq_getElem?]; exact hr2
          have hle : ¬ (((P : Nat) : Int) + 1 ≤ (P : Int)) := by omega
          have hle2 : ((P + 1 : Nat) : Int) = (P : Int) + 1 := by omega
          rw [hlen] at ho ⊢
          have e0 : wr.cell? ⟨ge, 0, none⟩ = some (.int .i64 1) := by
            rw [World.ownsRow.cellAt ho 0 (by omega)]; unfold ics; simp [hc0]
          have HO := Lib.hid (And.intro ho (And.intro hb (And.intro hG3 hbs3)))
          have HAC := Lib.hid (And.intro hacc (And.intro hlen (And.intro hr2 hr3)))
          clear ho hb hG3 hbs3 hacc hlen hr2 hr3 hr1 hE' hc0 hal hyP
          rw [hle2]
          obtain ⟨M, J, em, ej, hJ1, hJq⟩ := idx_facts wh q hq1 hq2
          have hne : ¬ ((q : Int) - 1 = 0) := by omega
          have jn : (0 : Int) ≤ (J : Int) := Int.natCast_nonneg _
          have jl : (J : Int) < (q : Int) := by omega
          obtain ⟨x0, hx0, hxP2, hch⟩ := elem_facts q b P J acc HS0.out HPQ.out.1 HAC.out.1 HAC.out.2.1 HAC.out.2.2.1 HAC.out.2.2.2 hJ1 hJq
          have ex : wr.cell? ⟨ge, J, none⟩ = some (.int .i64 (x0 : Int)) := by
            rw [World.ownsRow.cellAt HO.out.1 J (by omega)]; unfold ics; simp [hx0]
          have hPm : isMod (P : Int) := by have := (Cyc.of_valid HQ.out.2.1).1.p; rwa [show (2 * (q : Int) + 1) = (P : Int) by have := HPQ.out.1; omega] at this
          have hqm : isMod (q : Int) := (Cyc.of_valid HQ.out.2.1).1.q
          clear hx0 HAC
          obtain ⟨WC, hmk2, hbs2, hbb2⟩ := made_bools wr
          obtain ⟨g2, hg2⟩ : ∃ g2, g2 = wr.heap.size := ⟨_, rfl⟩
          rw [← hg2] at hmk2 hbs2
          have Hg2 := Lib.hid hg2
          clear hg2
          go_wp2
          clear hmk2 ex k0 k1 k2 e0 em ej hne
          generalize wr = W3 at *
          go_loopw [14] (fun k ws => ∃ k' bb : Nat, k' ≤ q ∧ k = .int .i64 (k' : Int) ∧ chF P b x0 (q - k') k' bb = true ∧ Bs g2 bb ws ∧ Below W3.heap.size W3 ws) (fun k _ => q - (intOf k).toNat)
          case atStart => exact ⟨0, 0, by omega, rfl, hch 0, hbs2, hbb2⟩
          case round =>
            clear hbs2 hbb2 hch
            obtain ⟨k, bb, hkq, rfl, hch, hbs, hb⟩ := hrel
            have hch' : Nat → chF P b x0 (q - k) k bb = true := fun _ => hch
            clear hch
            have hG := HO.out.2.2.1.next hb
            obtain ⟨z0, z1, z2⟩ := hG.cells
            by_cases hk : k < q
            · obtain ⟨Y, hY⟩ : ∃ Y, Y = x0 ^ k % P := ⟨_, rfl⟩
              obtain ⟨hy1, hyb, hyn, hnx⟩ := ch_step hk (hch' 0) Y hY
              have hyP : Y < P := by rw [hY]; exact Nat.mod_lt _ (by omega)
              have kp : Hid (∀ w' : World, Calls Tryd.prog 31 #[.agg #[.int .i64 (P : Int), .int .i64 (q : Int), .int .i64 4], .int .i64 (x0 : Int), .int .i64 (k : Int)] w' fun e w'' => e = .returned (.int .i64 (Y : Int)) ∧ Below w'.heap.size w' w'') := by
                show ∀ w' : World, Calls Tryd.prog 31 #[.agg #[.int .i64 (P : Int), .int .i64 (q : Int), .int .i64 4], .int .i64 (x0 : Int), .int .i64 (k : Int)] w' fun e w'' => e = .returned (.int .i64 (Y : Int)) ∧ Below w'.heap.size w' w''
                intro w'
                have := power_calls (P : Int) (q : Int) 4 (x0 : Int) (k : Int) (by unfold isInt; omega) (by unfold isInt; omega) w'
                rwa [gPow_nat hPm hqm hk, ← hY] at this
              have HNX : Nat → chF P b x0 (q - (k + 1)) (k + 1) (bb ||| 1 <<< Y) = true := fun _ => hnx
              have HY := Lib.hid hY
              have hkl : (k : Int) < (q : Int) := by omega
              clear hY hnx hch'
              go_wp2_with fail
              refine Calls.mono (kp.out _) ?_
              rintro e w5 ⟨rfl, hb5⟩
              have hbz := hb.trans (hb5.mono hb.size)
              have hbs5 := hbs.next hb5
              clear z0 z1 z2 hb hb5 hbs hG
              obtain ⟨z0, z1, z2⟩ := (HO.out.2.2.1.next hbz).cells
              have m1 := hbs5.at' Y (by omega)
              have m2 := (HO.out.2.2.2.next hbz).at' Y (by omega)
              have m3 := hbs5.fz Y
              rw [hyn] at m1
              rw [hyb] at m2
              have n1 : ¬ ((Y : Int) < 1) := by omega
              have n2 : ¬ ((P : Int) ≤ (Y : Int)) := by omega
              have n3 : ¬ ((403 : Int) ≤ (Y : Int)) := by omega
              have n4 : (Y : Int) < 403 := by omega
              have n5 : (0 : Int) ≤ (Y : Int) := by omega
              have HB5 := Lib.hid (And.intro hbz hbs5)
              clear hbz hbs5 hyn hyb
              go_wp2
              go_roundw
              case rel =>
                obtain ⟨hbz, hbs5⟩ := HB5.out
                exact ⟨k + 1, bb ||| 1 <<< Y, by omega, by go_num, HNX 0, hbs5.set Y (by omega), hbz.setCell (p := ⟨g2, Y, none⟩) (Nat.le_of_eq Hg2.out.symm) _⟩
              case measure => simp [intOf]; omega
            · have hkq2 : k = q := by omega
              subst hkq2
              have kp : Hid (∀ w' : World, Calls Tryd.prog 31 #[.agg #[.int .i64 (P : Int), .int .i64 (k : Int), .int .i64 4], .int .i64 (x0 : Int), .int .i64 (k : Int)] w' fun e w'' => e = .returned (.int .i64 1) ∧ Below w'.heap.size w' w'') := by
                show ∀ w' : World, Calls Tryd.prog 31 #[.agg #[.int .i64 (P : Int), .int .i64 (k : Int), .int .i64 4], .int .i64 (x0 : Int), .int .i64 (k : Int)] w' fun e w'' => e = .returned (.int .i64 1) ∧ Below w'.heap.size w' w''
                intro w'
                have := power_calls (P : Int) (k : Int) 4 (x0 : Int) (k : Int) (by unfold isInt; omega) (by unfold isInt; omega) w'
                rwa [gPow_q hPm hqm (by have := HPQ.out.1; omega)] at this
              have HF := Lib.hid hG.bel
              have hkk : ¬ ((k : Int) < (k : Int)) := by omega
              clear hch' hb hbs hG
              go_wp2_with fail
              refine Calls.mono (kp.out _) ?_
              rintro e w5 ⟨rfl, hb5⟩
              clear z0 z1 z2 kp
              have HF5 := Lib.hid (HF.out.trans (hb5.mono HF.out.size))
              clear hb5 HF
              go_wp2
              go_ret
              exact ⟨rfl, HF5.out⟩

set_option maxRecDepth 100000 in
set_option maxHeartbeats 2000000 in
theorem cyclic_no (q0 wh : Nat) (hq0 : q0 < 256) (q : Nat) (hq : q = q0 % 201) (hv : validB (2 * (q : Int) + 1) (q : Int) 4 = false) (w : World) (hE : Env w) :
    Calls Tryd.prog 8 #[.int .u8 (q0 : Int), .int .u8 (wh : Int)] w (Tpost w) := by
  unfold Tpost
  have c1 := Lib.hid (sane_calls w hE)
  have hq2 : q < 201 := by omega
  have hmk : mkP (q : Int) = 2 * (q : Int) + 1 := by unfold mkP wrap64; omega
  have c2 := fun w hE => Lib.hid (make_calls (q : Int) (by unfold isInt; omega) w hE)
  rw [show makeV (q : Int) = .tuple #[.agg #[.int .i64 0, .int .i64 0, .int .i64 0], .bool false] by unfold makeV; rw [hmk, if_neg (by rw [hv]; simp)]] at c2
  have hEn := fun w' (h : Below w.heap.size w w') => Lib.hid (hE.next h)
  have v1 : IntKind.i64.wrap (q0 : Int) = (q0 : Int) := by simp only [IntKind.wrap, IntKind.bits, IntKind.signed]; simp; omega
  have v2 : (q0 : Int) % 201 = (q : Int) := by omega
  clear hE hq hv hmk
  go_enter Tryd.func8, Tryd.ntmps8
  go_wp2_with fail
  refine c1.out.mono ?_
  rintro e w1 ⟨rfl, hB⟩
  go_wp2_with fail
  refine Calls.mono (c2 w1 (hEn w1 hB).out).out ?_
  rintro e w2 ⟨rfl, hB2⟩
  have HF := Lib.hid (hB.trans (hB2.mono hB.size))
  clear hB hB2 c1 c2 hEn
  go_wp2
  go_ret
  exact ⟨rfl, HF.out.alloc HF.out.size _⟩
theorem cyclic_any (a : Int) (ha : 0 ≤ a ∧ a < 256) (b : Int) (hb : 0 ≤ b ∧ b < 256) (w : World) (hE : Env w) :
    Calls Tryd.prog 8 #[.int .u8 a, .int .u8 b] w (Tpost w) := by
  obtain ⟨x, rfl⟩ : ∃ x : Nat, a = (x : Int) := ⟨a.toNat, by omega⟩
  obtain ⟨y, rfl⟩ : ∃ y : Nat, b = (y : Int) := ⟨b.toNat, by omega⟩
  cases h : validB (2 * ((x % 201 : Nat) : Int) + 1) ((x % 201 : Nat) : Int) 4
  · exact cyclic_no x y (by omega) _ rfl h w hE
  · exact cyclic_yes x y (by omega) (by omega) _ rfl h w hE
end Go.Proofs.YtolmcaikjebdaaaDoor
