/- Reasons. -/
import Derived.Test.YtkfmhibdoapndaaDoorEv
import Derived.Deep.QuietTactic
import Derived.BigQuiet
import Derived.Laws.Cover1
namespace Go.Proofs.YtkfmhibdoapndaaDoor
open Go.RowKit

/-- Worlds above a world. -/
structure Up (wr : World) where
  w : World
  b : Below wr.heap.size wr w
instance Up.any (wr : World) : Nonempty (Up wr) := ⟨⟨wr, Below.refl _ _⟩⟩
theorem wp_region_up {P : Program} {id : Nat} {Q : Exit → Act → World → Prop} {a : Act} {w : World} {l : List Oper} (hm : P.follows .mixedOrders = true) (hB : Region.lexB .any l.toArray = true)
    (h : wpQuiet P l.toArray (fun w' => ∃ u : Up w, w' = u.w) (fun a' => ∀ w', (∃ u : Up w, w' = u.w) → Q .normal a' w') l a) : (Code.region id l.toArray true).wp P Q a w :=
  wp_region_quiet (C := fun w' => ∃ u : Up w, w' = u.w) hm hB ⟨⟨_, below_drewN (Below.refl _ _) 1⟩, rfl⟩ (by simpa using h)

/-! ### texts -/
def TextAt : Reads (List UInt8) := fun bk off x w => w.cell? ⟨bk, off, none⟩ = some (.string (bs x))
theorem TextAt.keeps (lo : Nat) : Keeps lo TextAt := fun bk off x w w' hl hlt h hb => by
  show w'.cell? _ = _
  rw [hb.cell hl hlt]; exact h
def IsTexts (lo : Nat) (v : Value) (xs : List (List UInt8)) (w : World) : Prop := IsSl lo 1 TextAt v xs w
theorem IsTexts.hi {lo : Nat} {v : Value} {xs : List (List UInt8)} {w w' : World} (h : IsTexts lo v xs w) (hb : Hi lo w w') : IsTexts lo v xs w' := IsSl.hi h (TextAt.keeps lo) hb
theorem IsTexts.next {lo : Nat} {v : Value} {xs : List (List UInt8)} {w w' : World} (h : IsTexts lo v xs w) (hb : Below w.heap.size w w') : IsTexts lo v xs w' := h.hi (Hi.below hb)
theorem IsTexts.at {lo : Nat} {a : Option Addr} {n cap : Nat} {xs : List (List UInt8)} {w : World} (h : IsTexts lo (.slice a n cap) xs w) (k : Nat) (hk : k < xs.length) :
    ∃ bk off, a = some ⟨bk, off, none⟩ ∧ bk < w.heap.size ∧ ∃ x, x = xs[k] ∧ w.cell? ⟨bk, off + k, none⟩ = some (.string (bs x)) := by
  obtain ⟨bk, off, h1, h2, x, h3, h4⟩ := IsSl.at h k hk
  exact ⟨bk, off, h1, h2.2, x, h3, by rw [Nat.mul_one] at h4; exact h4⟩

/-- Whether the reason with an index is not as it should be. -/
def rbad (l : List (List UInt8)) (i : Nat) : Bool := !isName (l.getD i []) || (decide (0 < i) && !Op.bytesLess (bs (l.getD (i - 1) [])).toList (bs (l.getD i [])).toList)
def reasB (l : List (List UInt8)) : Bool := decide (1 ≤ l.length) && decide (l.length ≤ 16) && (List.range l.length).all fun i => !rbad l i
theorem reasB_bad {l : List (List UInt8)} {k : Nat} (hk : k < l.length) (h : rbad l k = true) : reasB l = false := by
  unfold reasB
  rw [Bool.and_eq_false_iff]
  right
  rw [← Bool.not_eq_true, List.all_eq_true]
  intro h2
  have := h2 k (List.mem_range.2 hk)
  rw [h] at this
  cases this
theorem reasB_good {l : List (List UInt8)} (h1 : 1 ≤ l.length) (h2 : l.length ≤ 16) (h : ∀ i, i < l.length → rbad l i = false) : reasB l = true := by
  unfold reasB
  rw [decide_eq_true h1, decide_eq_true h2, Bool.true_and, Bool.true_and, List.all_eq_true]
  intro i hi
  rw [h i (List.mem_range.1 hi)]; rfl
set_option maxRecDepth 100000 in
set_option maxHeartbeats 2000000 in
theorem reasons_calls (lo : Nat) (v : Value) (l : List (List UInt8)) (hl : l.length ≤ 9223372036854775807) (hs : ∀ s ∈ l, s.length ≤ 4294967296) (w : World) (hv : IsTexts lo v l w) :
    Calls Tryd.prog 18 #[v] w fun e w' => e = .returned (.bool (reasB l)) ∧ Below w.heap.size w w' := by
  obtain ⟨a, cap, rfl⟩ := IsSl.len hv
  obtain ⟨V, hV⟩ : ∃ V, V = reasB l := ⟨_, rfl⟩
  rw [← hV]
  have HV := Lib.hid hV
  have HL := Lib.hid hv
  clear hV hv
  by_cases h1 : l.length < 1
  · have d1 : decide ((l.length : Int) < 1) = true := decide_eq_true (by omega)
    have HR : Hid (V = false) := by show _ = _; rw [HV.out]; unfold reasB; rw [decide_eq_false (by omega)]; rfl
    clear h1
    go_enter Tryd.func18, Tryd.ntmps18
    go_wp2
    go_ret
    exact ⟨ret_b HR.out.symm, Below.refl _ _⟩
  · have d1 : decide ((l.length : Int) < 1) = false := decide_eq_false (by omega)
    by_cases h2 : 16 < l.length
    · have d2 : decide ((l.length : Int) > 16) = true := decide_eq_true (by omega)
      have HR : Hid (V = false) := by show _ = _; rw [HV.out]; unfold reasB; rw [decide_eq_false (p := l.length ≤ 16) (by omega)]; simp
      clear h1 h2
      go_enter Tryd.func18, Tryd.ntmps18
      go_wp2
      go_ret
      exact ⟨ret_b HR.out.symm, Below.refl _ _⟩
    · have d2 : decide ((l.length : Int) > 16) = false := decide_eq_false (by omega)
      have h16 : (l.length : Int) ≤ 16 := by omega
      have H12 := Lib.hid (And.intro (Nat.le_of_not_lt h1) (Nat.le_of_not_lt h2))
      have HSZ := Lib.hid hs
      clear h1 h2 hs hl
      go_enter Tryd.func18, Tryd.ntmps18
      go_wp2
      go_loopw [15] (fun i wr => ∃ k : Nat, k ≤ l.length ∧ i = .int .i64 k ∧ Below w.heap.size w wr ∧ ∀ i, i < k → rbad l i = false) (fun i _ => l.length - (intOf i).toNat)
      case atStart => exact ⟨0, Nat.zero_le _, rfl, Below.refl _ _, fun i hi => absurd hi (Nat.not_lt_zero _)⟩
      case round =>
        obtain ⟨k, hk, rfl, hb, hgood⟩ := hrel
        have HG := Lib.hid hgood
        have HB := Lib.hid hb
        by_cases hlt : k < l.length
        · obtain ⟨bk, off, rfl, hbk, x, hx, y0⟩ := (HL.out.next hb).at k hlt
          have c1 : Hid (∀ (args' : Array Value) (w' : World), args' = #[.string (bs x)] → Below wr.heap.size wr w' → Calls Tryd.prog 30 args' w' fun e w'' => e = .returned (.bool (isName x)) ∧ Below wr.heap.size wr w'') := by
            show ∀ args' w', _
            intro args' w' he h
            subst he
            refine (name_calls x (HSZ.out x (by rw [hx]; exact List.getElem_mem _)) w').mono ?_
            rintro e w'' ⟨h1, h2⟩
            exact ⟨h1, h.trans (h2.mono h.size)⟩
          have hgx : l.getD k [] = x := by rw [hx, List.getD_eq_getElem?_getD, List.getElem?_eq_getElem hlt]; rfl
          have HR : Hid (rbad l k = (!isName x || (decide (0 < k) && !Op.bytesLess (bs (l.getD (k - 1) [])).toList (bs x).toList))) := by show _ = _; unfold rbad; rw [hgx]
          generalize isName x = N at *
          have hkl : (k : Int) < (l.length : Int) := by omega
          have HLT := Lib.hid hlt
          have HNX := (HL.out.next hb)
          clear hx hgx hgood hb hlt
          cases N
          · have HF : Hid (V = false) := by show _ = _; rw [HV.out]; exact reasB_bad HLT.out (by rw [HR.out]; rfl)
            clear HNX
            go_wp2_with fail
            refine (c1.out _ _ rfl (Below.refl _ _)).mono ?_
            rintro e w1 ⟨rfl, hb1⟩
            have hb4 := Lib.hid (HB.out.trans (hb1.mono HB.out.size))
            clear c1 hb1
            go_wp2
            go_ret
            exact ⟨ret_b HF.out.symm, hb4.out⟩
          · by_cases hz : k = 0
            · have HN : Hid (rbad l k = false) := by show _ = _; rw [HR.out, decide_eq_false (by omega)]; rfl
              have hk0 : ¬ 0 < k := by omega
              have HZ := Lib.hid hz
              clear hz
              go_wp2_with fail
              refine (c1.out _ _ rfl (Below.refl _ _)).mono ?_
              rintro e w1 ⟨rfl, hb1⟩
              have hb4 := Lib.hid (HB.out.trans (hb1.mono HB.out.size))
              clear c1 hb1 HR HNX
              go_wp2
              go_roundw
              case rel => exact ⟨k + 1, by have := HLT.out; omega, by go_num, hb4.out, fun i hi => by
                            have := HZ.out
                            obtain rfl : i = k := by omega
                            exact HN.out⟩
              case measure => simp [intOf]; omega
            · obtain ⟨j, rfl⟩ : ∃ j, k = j + 1 := ⟨k - 1, by omega⟩
              obtain ⟨bk', off', e1, hbk', y, hy, y1⟩ := HNX.at j (by have := HLT.out; omega)
              simp only [Option.some.injEq, Addr.mk.injEq, and_true] at e1
              obtain ⟨rfl, rfl⟩ := e1
              have hgy : l.getD (j + 1 - 1) [] = y := by rw [hy, List.getD_eq_getElem?_getD, Nat.add_sub_cancel, List.getElem?_eq_getElem (by have := HLT.out; omega)]; rfl
              obtain ⟨B, hB⟩ : ∃ B, B = Op.bytesLess (bs y).toList (bs x).toList := ⟨_, rfl⟩
              have HBy : Hid (Op.bytesLess (bs y).toList (bs x).toList = B) := hB.symm
              rw [hgy, ← hB] at HR
              have d0 : decide ((j : Int) + 1 > 0) = true := decide_eq_true (by omega)
              have HY : Hid (∀ w', Below wr.heap.size wr w' → w'.cell? ⟨bk, off + j, none⟩ = some (.string (bs y))) := by
                show ∀ w', _
                intro w' h
                rw [h.cell (p := ⟨bk, off + j, none⟩) hbk]; exact y1
              clear hy y1 hgy hB HNX hz
              go_wp2_with fail
              refine (c1.out _ _ rfl (Below.refl _ _)).mono ?_
              rintro e w1 ⟨rfl, hb1⟩
              have y1 := HY.out _ hb1
              have hb4 := Lib.hid (HB.out.trans (hb1.mono HB.out.size))
              have hBB := HBy.out
              clear c1 hb1 HY HBy
              cases B
              · have HF : Hid (V = false) := by show _ = _; rw [HV.out]; exact reasB_bad HLT.out (by rw [HR.out]; simp)
                go_wp2
                go_ret
                exact ⟨ret_b HF.out.symm, hb4.out⟩
              · have HN : Hid (rbad l (j + 1) = false) := by show _ = _; rw [HR.out]; simp
                go_wp2
                go_roundw
                case rel => exact ⟨j + 2, by have := HLT.out; omega, by go_num, hb4.out, fun i hi => by
                              by_cases h : i = j + 1
                              · rw [h]; exact HN.out
                              · exact HG.out i (by omega)⟩
                case measure => simp [intOf]; omega
        · obtain rfl : k = l.length := by omega
          have HF : Hid (V = true) := by show _ = _; rw [HV.out]; exact reasB_good H12.out.1 H12.out.2 HG.out
          clear hgood hb hlt
          go_wp2
          go_ret
          exact ⟨ret_b HF.out.symm, HB.out⟩
end Go.Proofs.YtkfmhibdoapndaaDoor
