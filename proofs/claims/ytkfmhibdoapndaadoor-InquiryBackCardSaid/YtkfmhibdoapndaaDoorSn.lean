/- Equal lists of numbers; equal openings. -/
import Derived.Test.YtkfmhibdoapndaaDoorRm
namespace Go.Proofs.YtkfmhibdoapndaaDoor
open Go.RowKit

/-! ### worlds that differ by draws -/
def Ret (v : Value) (w : World) (e : Ending) (w' : World) : Prop := e = .returned v ∧ ∃ n, w' = w.drewN n
theorem quiet_ret {P : Program} {f : FuncId} {args : Array Value} {w : World} {n : Nat} {v u : Value} (hv : v = u) (h : Calls P f args (w.drewN n) (Ret v (w.drewN n))) :
    Calls P f args (w.drewN n) fun e w'' => e = .returned u ∧ ∃ m, w'' = w.drewN m := by subst hv; exact Calls.quiet_of h
def Drawn (w w' : World) : Prop := ∃ m, w' = w.drewN m
theorem Drawn.refl (w : World) : Drawn w w := ⟨0, rfl⟩
theorem Drawn.more {w w' : World} (h : Drawn w w') (n : Nat) : Drawn w (w'.drewN n) := by
  obtain ⟨m, rfl⟩ := h; exact ⟨m + n, World.drewN_drewN _ _ _⟩
theorem Drawn.below {w w' : World} (h : Drawn w w') : Below w.heap.size w w' := by
  obtain ⟨m, rfl⟩ := h; exact below_drewN (Below.refl _ _) m
theorem drop_eq {α : Type} [DecidableEq α] (a b : List α) (k : Nat) (h1 : k < a.length) (h2 : k < b.length) : decide (a.drop k = b.drop k) = (decide (a[k] = b[k]) && decide (a.drop (k + 1) = b.drop (k + 1))) := by
  rw [Bool.eq_iff_iff, List.drop_eq_getElem_cons h1, List.drop_eq_getElem_cons h2]
  simp only [decide_eq_true_eq, Bool.and_eq_true, List.cons.injEq]
/-- All lengths are numbers of the machine's. -/
def okL {α : Type} (l : List α) : Prop := l.length ≤ 9223372036854775807
set_option maxHeartbeats 1000000 in
theorem samenums_calls (va vb : Value) (a b : List Int) (hla : okL a) (hlb : okL b) (w : World) (ha : IsNums va a w) (hb : IsNums vb b w) :
    Calls Tryd.prog 17 #[va, vb] w (Ret (.bool (decide (a = b))) w) := by
  obtain ⟨aa, ca, rfl⟩ := ha.len
  obtain ⟨ab, cb, rfl⟩ := hb.len
  have hll : a.length ≤ 9223372036854775807 := hla
  by_cases hl : a.length = b.length
  · obtain ⟨n, hn⟩ : ∃ n, n = a.length := ⟨_, rfl⟩
    have hbl : b.length = n := by omega
    obtain ⟨D, hD⟩ : ∃ D, D = decide (a = b) := ⟨_, rfl⟩
    have hD0 : Nat → decide (a.drop 0 = b.drop 0) = D := fun _ => by rw [List.drop_zero, List.drop_zero]; exact hD.symm
    rw [← hn] at hll
    rw [← hn, hbl, ← hD]
    have HA := Lib.hid ha
    have HB := Lib.hid hb
    have HN := Lib.hid hn
    have HBL := Lib.hid hbl
    have HLA := Lib.hid hla
    have HLB := Lib.hid hlb
    have hne : ((n : Int) != (n : Int)) = false := by simp
    clear hl hbl hn hD ha hb hla hlb
    go_enter Tryd.func17, Tryd.ntmps17
    go_wp2
    go_loopw [5] (fun iv wr => ∃ k : Nat, k ≤ n ∧ iv = .int .i64 (k : Int) ∧ (Nat → decide (a.drop k = b.drop k) = D) ∧ Drawn w wr) (fun iv _ => n - (intOf iv).toNat)
    case atStart => exact ⟨0, Nat.zero_le _, rfl, hD0, Drawn.refl _⟩
    case round =>
      clear hD0
      obtain ⟨k, hk, rfl, hDk, hW⟩ := hrel
      by_cases hlt : k < n
      · have h1 : k < a.length := by rw [← HN.out]; exact hlt
        have h2 : k < b.length := by rw [HBL.out]; exact hlt
        obtain ⟨bk, o1, rfl, _, x, hx, z0⟩ := (HA.out.next hW.below).at k h1
        obtain ⟨bk', o2, rfl, _, y, hy, z1⟩ := (HB.out.next hW.below).at k h2
        have hst : Nat → (decide (x = y) && decide (a.drop (k + 1) = b.drop (k + 1))) = D := fun _ => by rw [hx, hy, ← drop_eq a b k h1 h2]; exact hDk 0
        clear hx hy
        have HW := Lib.hid hW
        have hkn : (k : Int) < (n : Int) := by omega
        clear hDk hW
        go_wp2
        by_cases hxy : x = y
        · subst hxy
          have hDk : Nat → decide (a.drop (k + 1) = b.drop (k + 1)) = D := fun _ => by have := hst 0; simpa using this
          have hbn : (x != x) = false := by simp
          clear hst
          go_quiet (fail)
          go_wp2
          go_roundw
          case rel => exact ⟨k + 1, by omega, by go_num, hDk, HW.out.more _⟩
          case measure => simp [intOf]; omega
        · have hDf : Hid (D = false) := by show _ = _; have := hst 0; simpa [hxy] using this.symm
          have hbn : (x != y) = true := bne_iff_ne.2 hxy
          clear hst
          go_quiet (fail)
          go_wp2
          go_ret
          exact ⟨ret_b hDf.out.symm, HW.out.more _⟩
      · obtain rfl : k = n := by omega
        have hDt : Hid (D = true) := by
          show _ = _
          rw [← hDk 0, HN.out, List.drop_length, ← HN.out, ← HBL.out, List.drop_length]; rfl
        have HW := Lib.hid hW
        clear hDk hW
        go_wp2
        go_ret
        exact ⟨ret_b hDt.out.symm, HW.out⟩
  · have HV : Hid (decide (a = b) = false) := by
      show _ = _
      exact decide_eq_false fun e => hl (by rw [e])
    have hne : ((a.length : Int) != (b.length : Int)) = true := bne_iff_ne.2 (by omega)
    have hne2 : ¬ (a.length : Int) = (b.length : Int) := by omega
    clear hl ha hb hla hlb
    go_enter Tryd.func17, Tryd.ntmps17
    go_wp2
    go_ret
    exact ⟨ret_b HV.out.symm, 0, rfl⟩


def OpD.same (a b : OpD) : Bool := decide (a.ver = b.ver) && (decide (a.gate = b.gate) && (decide (a.no = b.no) && (decide (a.reason = b.reason) && (decide (a.holder = b.holder) && decide (a.jurors = b.jurors)))))
theorem bs_beq (a b : List UInt8) : ((bs a).toList == (bs b).toList) = decide (a = b) := by
  rw [Lib.toList_data, Lib.toList_data, bs_data, bs_data, Bool.eq_iff_iff]; simp
theorem int_beq (a b : Int) : (a == b) = decide (a = b) := rfl
set_option maxRecDepth 100000 in
set_option maxHeartbeats 4000000 in
theorem sameop_calls (a b : OpD) (va vb : Value) (hla : okL a.jurors) (hlb : okL b.jurors) (w : World) (hva : IsNums va a.jurors w) (hvb : IsNums vb b.jurors w) :
    Calls Tryd.prog 13 #[a.val va, b.val vb] w fun e w' => e = .returned (.bool (a.same b)) ∧ Below w.heap.size w w' := by
  have HS : Hid (a.same b = (decide (a.ver = b.ver) && (decide (a.gate = b.gate) && (decide (a.no = b.no) && (decide (a.reason = b.reason) && (decide (a.holder = b.holder) && decide (a.jurors = b.jurors))))))) := rfl
  have hb1 := below_one w (.cells (a.cells va) 37)
  have hb2 := Below.alloc_ hb1 (.cells (b.cells vb) 37)
  have A := (Blk.new w 37 (a.cells va)).alloc' (.cells (b.cells vb) 37)
  have B := Blk.new' (alloc_size w (.cells (a.cells va) 37)) 37 (b.cells vb)
  have c1 := Lib.hid (samenums_calls va vb a.jurors b.jurors hla hlb _ (hva.next hb2) (hvb.next hb2))
  obtain ⟨S, hS⟩ : ∃ S, S = a.same b := ⟨_, rfl⟩
  rw [← hS] at HS ⊢
  have e1 := int_beq a.ver b.ver
  have e2 := int_beq a.gate b.gate
  have e3 := int_beq a.no b.no
  have e4 := bs_beq a.reason b.reason
  have e5 := int_beq a.holder b.holder
  generalize decide (a.ver = b.ver) = x1 at *
  generalize decide (a.gate = b.gate) = x2 at *
  generalize decide (a.no = b.no) = x3 at *
  generalize decide (a.reason = b.reason) = x4 at *
  generalize decide (a.holder = b.holder) = x5 at *
  generalize decide (a.jurors = b.jurors) = x6 at *
  unfold OpD.val OpD.cells at *
  have y0 := A.cell 0
  have y1 := A.cell 1
  have y2 := A.cell 2
  have y3 := A.cell 3
  have y4 := A.cell 4
  have y5 := A.cell 5
  have z0 := B.cell 0
  have z1 := B.cell 1
  have z2 := B.cell 2
  have z3 := B.cell 3
  have z4 := B.cell 4
  have z5 := B.cell 5
  have HB := Lib.hid hb2
  clear hS A B hva hvb hb1 hb2 hla hlb
  cases x1
  · clear c1
    go_enter Tryd.func13, Tryd.ntmps13
    go_wp2
    go_ret
    exact ⟨ret_b (by rw [HS.out]; rfl), HB.out⟩
  · skip
    cases x2
    · clear c1
      go_enter Tryd.func13, Tryd.ntmps13
      go_wp2
      go_ret
      exact ⟨ret_b (by rw [HS.out]; rfl), HB.out⟩
    · skip
      cases x3
      · clear c1
        go_enter Tryd.func13, Tryd.ntmps13
        go_wp2
        go_ret
        exact ⟨ret_b (by rw [HS.out]; rfl), HB.out⟩
      · skip
        cases x4
        · clear c1
          go_enter Tryd.func13, Tryd.ntmps13
          go_wp2
          go_ret
          exact ⟨ret_b (by rw [HS.out]; rfl), HB.out⟩
        · skip
          cases x5
          · clear c1
            go_enter Tryd.func13, Tryd.ntmps13
            go_wp2
            go_ret
            exact ⟨ret_b (by rw [HS.out]; rfl), HB.out⟩
          · skip
            go_enter Tryd.func13, Tryd.ntmps13
            go_wp2_with fail
            refine c1.out.mono ?_
            rintro e w1 ⟨rfl, m, rfl⟩
            have HB2 := Lib.hid (below_drewN HB.out m)
            clear c1 y0 y1 y2 y3 y4 y5 z0 z1 z2 z3 z4 z5
            go_wp2
            go_ret
            exact ⟨ret_b (by rw [HS.out]; rfl), HB2.out⟩
end Go.Proofs.YtkfmhibdoapndaaDoor
