/- Same, Encode, Decode (written by tools/mktk5.py). -/
import Derived.Test.YtmgamngdmhnffaaGreatDoorTl
namespace Go.Proofs.YtmgamngdmhnffaaGreatDoor
open Go.RowKit

/-! ### worlds that differ by draws -/
theorem quiet_ret {P : Program} {f : FuncId} {args : Array Value} {w : World} {n : Nat} {v u : Value} (hv : v = u) (h : Calls P f args (w.drewN n) (Ret v (w.drewN n))) :
    Calls P f args (w.drewN n) fun e w'' => e = .returned u ∧ ∃ m, w'' = w.drewN m := by subst hv; exact Calls.quiet_of h
def Drawn (w w' : World) : Prop := ∃ m, w' = w.drewN m
theorem Drawn.refl (w : World) : Drawn w w := ⟨0, rfl⟩
theorem Drawn.more {w w' : World} (h : Drawn w w') (n : Nat) : Drawn w (w'.drewN n) := by
  obtain ⟨m, rfl⟩ := h; exact ⟨m + n, World.drewN_drewN _ _ _⟩
theorem Drawn.below {w w' : World} (h : Drawn w w') : Below w.heap.size w w' := by
  obtain ⟨m, rfl⟩ := h; exact below_drewN (Below.refl _ _) m
theorem drop_eq {α : Type} [DecidableEq α] (a b : List α) (k : Nat) (h1 : k < a.length) (h2 : k < b.length) : decide (a.drop k = b.drop k) = (decide (a[k] = b[k]) && decide (a.drop (k + 1) = b.drop (k + 1))) := by
  rw [Bool.eq_iff_iff, List.drop_eq_getElem_cons h1, List.drop_eq_getElem_cons h2]
  simp only [decide_eq_true_eq, Bool.and_eq_true, List.cons.injEq]
/-- All lengths are numbers of the machine's. -/
def okL {α : Type} (l : List α) : Prop := l.length ≤ 9223372036854775807
set_option maxHeartbeats 1000000 in
theorem sameints_calls (va vb : Value) (a b : List Int) (hla : okL a) (hlb : okL b) (w : World) (ha : IsNums va a w) (hb : IsNums vb b w) :
    Calls Tryz.prog 10 #[va, vb] w (Ret (.bool (decide (a = b))) w) := by
  obtain ⟨aa, ca, rfl⟩ := ha.len
  obtain ⟨ab, cb, rfl⟩ := hb.len
  have hll : a.length ≤ 9223372036854775807 := hla
  by_cases hl : a.length = b.length
  · obtain ⟨n, hn⟩ : ∃ n, n = a.length := ⟨_, rfl⟩
    have hbl : b.length = n := by omega
    obtain ⟨D, hD⟩ : ∃ D, D = decide (a = b) := ⟨_, rfl⟩
    have hD0 : Nat → decide (a.drop 0 = b.drop 0) = D := fun _ => by rw [List.drop_zero, List.drop_zero]; exact hD.symm
    rw [← hn] at hll
    rw [← hn, hbl, ← hD]
    have HA := Lib.hid ha
    have HB := Lib.hid hb
    have HN := Lib.hid hn
    have HBL := Lib.hid hbl
    have HLA := Lib.hid hla
    have HLB := Lib.hid hlb
    have hne : ((n : Int) != (n : Int)) = false := by simp
    clear hl hbl hn hD ha hb hla hlb
    go_enter Tryz.func10, Tryz.ntmps10
    go_wp2
    go_loopw [5] (fun iv wr => ∃ k : Nat, k ≤ n ∧ iv = .int .i64 (k : Int) ∧ (Nat → decide (a.drop k = b.drop k) = D) ∧ Drawn w wr) (fun iv _ => n - (intOf iv).toNat)
    case atStart => exact ⟨0, Nat.zero_le _, rfl, hD0, Drawn.refl _⟩
    case round =>
      clear hD0
      obtain ⟨k, hk, rfl, hDk, hW⟩ := hrel
      by_cases hlt : k < n
      · have h1 : k < a.length := by rw [← HN.out]; exact hlt
        have h2 : k < b.length := by rw [HBL.out]; exact hlt
        obtain ⟨bk, o1, rfl, _, x, hx, z0⟩ := (HA.out.next hW.below).at k h1
        obtain ⟨bk', o2, rfl, _, y, hy, z1⟩ := (HB.out.next hW.below).at k h2
        have hst : Nat → (decide (x = y) && decide (a.drop (k + 1) = b.drop (k + 1))) = D := fun _ => by rw [hx, hy, ← drop_eq a b k h1 h2]; exact hDk 0
        clear hx hy
        have HW := Lib.hid hW
        have hkn : (k : Int) < (n : Int) := by omega
        clear hDk hW
        go_wp2
        by_cases hxy : x = y
        · subst hxy
          have hDk : Nat → decide (a.drop (k + 1) = b.drop (k + 1)) = D := fun _ => by have := hst 0; simpa using this
          have hbn : (x != x) = false := by simp
          clear hst
          go_quiet (fail)
          go_wp2
          go_roundw
          case rel => exact ⟨k + 1, by omega, by go_num, hDk, HW.out.more _⟩
          case measure => simp [intOf]; omega
        · have hDf : Hid (D = false) := by show _ = _; have := hst 0; simpa [hxy] using this.symm
          have hbn : (x != y) = true := bne_iff_ne.2 hxy
          clear hst
          go_quiet (fail)
          go_wp2
          go_ret
          exact ⟨ret_b hDf.out.symm, HW.out.more _⟩
      · obtain rfl : k = n := by omega
        have hDt : Hid (D = true) := by
          show _ = _
          rw [← hDk 0, HN.out, List.drop_length, ← HN.out, ← HBL.out, List.drop_length]; rfl
        have HW := Lib.hid hW
        clear hDk hW
        go_wp2
        go_ret
        exact ⟨ret_b hDt.out.symm, HW.out⟩
  · have HV : Hid (decide (a = b) = false) := by
      show _ = _
      exact decide_eq_false fun e => hl (by rw [e])
    have hne : ((a.length : Int) != (b.length : Int)) = true := bne_iff_ne.2 (by omega)
    have hne2 : ¬ (a.length : Int) = (b.length : Int) := by omega
    clear hl ha hb hla hlb
    go_enter Tryz.func10, Tryz.ntmps10
    go_wp2
    go_ret
    exact ⟨ret_b HV.out.symm, 0, rfl⟩

/-! ### encodings -/
theorem listF_empty {α : Type} (one : Cod.Rd → α × Cod.Rd) (r : Cod.Rd) (h : (Cod.listF one r).2.2 = true) : (Cod.listF one r).1 = [] := by
  unfold Cod.listF at h ⊢
  simp only at h ⊢
  split
  · rfl
  · rename_i hz
    rw [if_neg hz] at h
    exact absurd h hz
theorem flat_ge {α : Type} (wr : α → List UInt8) (h : ∀ a, 1 ≤ (wr a).length) : ∀ (l : List α), l.length ≤ (l.flatMap wr).length
  | [] => by simp
  | a :: l => by
    have := flat_ge wr h l
    have := h a
    simp only [List.flatMap_cons, List.length_append, List.length_cons]; omega
theorem numsF_count (r : Cod.Rd) : (Cod.numsF r).1.length ≤ r.1.length := by
  cases h : (Cod.numsF r).2.2
  · have h1 := congrArg List.length (Cod.numsF_read h).2
    have h2 := flat_ge Cod.intS (fun a => by simp [Cod.intS]) (Cod.numsF r).1
    simp only [Cod.numsS, List.length_append, List.length_cons] at h1
    omega
  · rw [show (Cod.numsF r).1 = [] from listF_empty Cod.intF r h]
    simp

def TktD.list (t : TktD) : List Int := [t.mark, t.first, t.z, t.a, t.b, t.r]
def TktD.of (l : List Int) : TktD := ⟨l.getD 0 0, l.getD 1 0, l.getD 2 0, l.getD 3 0, l.getD 4 0, l.getD 5 0⟩
theorem TktD.ints.all {t : TktD} (h : t.ints) : ∀ x ∈ t.list, isInt x := by
  intro x hx
  unfold TktD.list at hx
  simp only [List.mem_cons, List.not_mem_nil, or_false] at hx
  rcases hx with rfl | rfl | rfl | rfl | rfl | rfl
  · exact h.mark
  · exact h.first
  · exact h.z
  · exact h.a
  · exact h.b
  · exact h.r
theorem nums6_len {t : TktD} (h : t.ints) : (Cod.numsS t.list).length ≤ 300 := by
  have h0 := Cod.intS_len _ h.mark
  have h1 := Cod.intS_len _ h.first
  have h2 := Cod.intS_len _ h.z
  have h3 := Cod.intS_len _ h.a
  have h4 := Cod.intS_len _ h.b
  have h5 := Cod.intS_len _ h.r
  have h6 := Cod.itoa_len 6 (by unfold Cod.isInt; omega)
  unfold Cod.numsS TktD.list
  simp
  omega
theorem len_six : ∀ (l : List Int), l.length = 6 → ∃ t0 t1 t2 t3 t4 t5, l = [t0, t1, t2, t3, t4, t5]
  | [t0, t1, t2, t3, t4, t5], _ => ⟨t0, t1, t2, t3, t4, t5, rfl⟩
/-- A world in which the six cells of a block were written. -/
def set6 (w : World) (b : Nat) (v0 v1 v2 v3 v4 v5 : Value) : World := (((((w.setCell ⟨b, 0, none⟩ v0).setCell ⟨b, 1, none⟩ v1).setCell ⟨b, 2, none⟩ v2).setCell ⟨b, 3, none⟩ v3).setCell ⟨b, 4, none⟩ v4).setCell ⟨b, 5, none⟩ v5
theorem set6_blk {w : World} {b : Nat} {t : TypeId} {x0 x1 x2 x3 x4 x5 : Value} (h : Blk w b t #[x0, x1, x2, x3, x4, x5]) (v0 v1 v2 v3 v4 v5 : Value) : Blk (set6 w b v0 v1 v2 v3 v4 v5) b t #[v0, v1, v2, v3, v4, v5] := by
  have := (((((h.set_ 0 v0).set_ 1 v1).set_ 2 v2).set_ 3 v3).set_ 4 v4).set_ 5 v5
  simpa [set6] using this
theorem set6_below {a w : World} {B b : Nat} (h : Below B a w) (hb : B ≤ b) (v0 v1 v2 v3 v4 v5 : Value) : Below B a (set6 w b v0 v1 v2 v3 v4 v5) :=
  (((((h.setCell (p := ⟨b, 0, none⟩) hb v0).setCell (p := ⟨b, 1, none⟩) hb v1).setCell (p := ⟨b, 2, none⟩) hb v2).setCell (p := ⟨b, 3, none⟩) hb v3).setCell (p := ⟨b, 4, none⟩) hb v4).setCell (p := ⟨b, 5, none⟩) hb v5

set_option maxRecDepth 100000 in
set_option maxHeartbeats 2000000 in
theorem Encode_calls (t : TktD) (ht : t.ints) (w : World) (hE : Cod.Env w) :
    Calls Tryz.prog 6 #[t.val] w fun e w' => e = .returned (.string (bs (Cod.numsS t.list))) ∧ Below w.heap.size w w' := by
  have hb := below_one w (.cells #[.int .i64 t.mark, .int .i64 t.first, .int .i64 t.z, .int .i64 t.a, .int .i64 t.b, .int .i64 t.r] 23)
  have hT := Blk.new w 23 #[.int .i64 t.mark, .int .i64 t.first, .int .i64 t.z, .int .i64 t.a, .int .i64 t.b, .int .i64 t.r]
  have y0 := hT.cell 0
  have y1 := hT.cell 1
  have y2 := hT.cell 2
  have y3 := hT.cell 3
  have y4 := hT.cell 4
  have y5 := hT.cell 5
  have hn := nums_arr (l := t.list) (Blk.new' (alloc_size w (.cells #[.int .i64 t.mark, .int .i64 t.first, .int .i64 t.z, .int .i64 t.a, .int .i64 t.b, .int .i64 t.r] 23)) 3 #[.int .i64 t.mark, .int .i64 t.first, .int .i64 t.z, .int .i64 t.a, .int .i64 t.b, .int .i64 t.r])
  have hb2 := Below.alloc_ hb (.cells #[.int .i64 t.mark, .int .i64 t.first, .int .i64 t.z, .int .i64 t.a, .int .i64 t.b, .int .i64 t.r] 3)
  have c1 := Lib.hid (Cod.base_Nums _ t.list _ (hE.next hb2) hn ht.all (by show 6 ≤ _; omega) (by have := nums6_len ht; omega))
  have c1' : Hid (Calls Tryz.prog 20 #[.slice (some ⟨w.heap.size + 1, 0, none⟩) 6 6] ((w.alloc (.cells #[.int .i64 t.mark, .int .i64 t.first, .int .i64 t.z, .int .i64 t.a, .int .i64 t.b, .int .i64 t.r] 23)).alloc (.cells #[.int .i64 t.mark, .int .i64 t.first, .int .i64 t.z, .int .i64 t.a, .int .i64 t.b, .int .i64 t.r] 3)) fun e w' => e = .returned (.string (bs (Cod.numsS t.list))) ∧ Below ((w.alloc (.cells #[.int .i64 t.mark, .int .i64 t.first, .int .i64 t.z, .int .i64 t.a, .int .i64 t.b, .int .i64 t.r] 23)).alloc (.cells #[.int .i64 t.mark, .int .i64 t.first, .int .i64 t.z, .int .i64 t.a, .int .i64 t.b, .int .i64 t.r] 3)).heap.size ((w.alloc (.cells #[.int .i64 t.mark, .int .i64 t.first, .int .i64 t.z, .int .i64 t.a, .int .i64 t.b, .int .i64 t.r] 23)).alloc (.cells #[.int .i64 t.mark, .int .i64 t.first, .int .i64 t.z, .int .i64 t.a, .int .i64 t.b, .int .i64 t.r] 3)) w') := c1.out
  unfold TktD.val
  generalize Cod.numsS t.list = S at *
  clear hT hn hb c1 hE
  go_enter Tryz.func6, Tryz.ntmps6
  go_wp2_with fail
  refine c1'.out.mono ?_
  clear c1' y0 y1 y2 y3 y4 y5
  rintro e w1 ⟨rfl, hb1⟩
  have hB := hb2.trans (hb1.mono hb2.size)
  clear hb1 hb2
  go_wp2
  go_ret
  exact ⟨rfl, hB⟩

/-- The ticket that a text encodes. -/
def tkF (s : List UInt8) : TktD := match tdecF s with
  | some l => TktD.of l
  | none => ⟨0, 0, 0, 0, 0, 0⟩
set_option maxRecDepth 100000 in
set_option maxHeartbeats 4000000 in
theorem Decode_calls (s : List UInt8) (hs : s.length ≤ 100000000) (w : World) (hE : Cod.Env w) :
    Calls Tryz.prog 5 #[.string (bs s)] w fun e w' => e = .returned (.tuple #[(tkF s).val, .bool (tdecF s).isSome]) ∧ Below w.heap.size w w' := by
  have B1 := Blk.new w 23 #[.int .i64 0, .int .i64 0, .int .i64 0, .int .i64 0, .int .i64 0, .int .i64 0]
  have hb1 := below_one w (.cells #[.int .i64 0, .int .i64 0, .int .i64 0, .int .i64 0, .int .i64 0, .int .i64 0] 23)
  have hs1 := Lib.hid (alloc_size w (.cells #[.int .i64 0, .int .i64 0, .int .i64 0, .int .i64 0, .int .i64 0, .int .i64 0] 23))
  have hE1 := hE.next hb1
  have c1 := Lib.hid (Cod.open_reader s (w.alloc (.cells #[.int .i64 0, .int .i64 0, .int .i64 0, .int .i64 0, .int .i64 0, .int .i64 0] 23)))
  rw [hs1.out] at c1
  obtain ⟨Z, Q, hZQ⟩ : ∃ Z Q, Cod.numsF (s, false) = (Z, Q) := ⟨_, _, rfl⟩
  have HZQ := Lib.hid hZQ
  have HD : Hid (tdecF s = if Cod.doneF Q = true ∧ Z.length = 6 then some Z else none) := by
    show _ = _
    unfold tdecF
    rw [hZQ]
  have HNO : Hid (tdecF s = none → (.tuple #[(tkF s).val, .bool (tdecF s).isSome] : Value) = .tuple #[.agg #[.int .i64 0, .int .i64 0, .int .i64 0, .int .i64 0, .int .i64 0, .int .i64 0], .bool false]) := by
    show _ → _
    intro h
    unfold tkF
    rw [h]
    rfl
  have HYES : Hid (∀ l, tdecF s = some l → (.tuple #[(tkF s).val, .bool (tdecF s).isSome] : Value) = .tuple #[(TktD.of l).val, .bool true]) := by
    show ∀ l, _
    intro l h
    unfold tkF
    rw [h]
    rfl
  have hcount := numsF_count (s, false)
  rw [hZQ] at hcount
  have hZ : Z.length ≤ 100000000 := Nat.le_trans hcount hs
  generalize (.tuple #[(tkF s).val, .bool (tdecF s).isSome] : Value) = RET at *
  have HE := Lib.hid hE
  have hlo : 8 ≤ w.heap.size := hE.lo
  clear hcount hZQ hE
  go_enter Tryz.func5, Tryz.ntmps5
  go_wp2_with fail
  generalize w.alloc (.cells #[.int .i64 0, .int .i64 0, .int .i64 0, .int .i64 0, .int .i64 0, .int .i64 0] 23) = W1 at *
  refine c1.out.mono ?_
  clear c1
  rintro e w2 ⟨rfl, hR2, hb2', -⟩
  rw [← hs1.out] at hb2'
  have hb2 := hb1.trans (hb2'.mono hb1.size)
  have B2 := B1.next hb2'
  have c2 := Lib.hid (Cod.rd_Nums (w.heap.size + 1) (s, false) w2 (HE.out.next hb2) hR2 (by simp only; omega) (Cod.okRd_fresh s) (by omega))
  rw [HZQ.out] at c2
  clear B1 hb1 hb2' hE1 hR2
  go_wp2_with fail
  refine c2.out.mono ?_
  clear c2
  rintro e w3 ⟨v, rfl, ⟨hI, hcap⟩, hR3, hg3⟩
  have hI : IsNums v Z w3 := hI
  obtain ⟨a, c, rfl⟩ := hI.len
  have hb3 : Below w.heap.size w w3 := hb2.trans ⟨hg3.os, hg3.tape, hg3.output, hg3.size, fun i hi => hg3.block i (Nat.lt_of_lt_of_le hi hb2.size) (by simp; omega)⟩
  have B3 : Blk w3 w.heap.size 23 #[.int .i64 0, .int .i64 0, .int .i64 0, .int .i64 0, .int .i64 0, .int .i64 0] := (hg3.block _ B2.lt (by simp)).trans B2
  have c3 := Lib.hid (Cod.rd_Done (w.heap.size + 1) Q w3 hR3)
  have HI := Lib.hid hI
  clear B2 hb2 hR3 hg3 hcap hI
  have hlz : (Z.length : Int) ≤ 100000000 := by omega
  go_wp2_with fail
  refine c3.out.mono ?_
  clear c3
  rintro e w4 ⟨rfl, rfl⟩
  have hZ0 : set6 w3 w.heap.size (.int .i64 0) (.int .i64 0) (.int .i64 0) (.int .i64 0) (.int .i64 0) (.int .i64 0) = set6 w3 w.heap.size (.int .i64 0) (.int .i64 0) (.int .i64 0) (.int .i64 0) (.int .i64 0) (.int .i64 0) := rfl
  have HBF := Lib.hid (set6_below hb3 (Nat.le_refl w.heap.size) (.int .i64 0) (.int .i64 0) (.int .i64 0) (.int .i64 0) (.int .i64 0) (.int .i64 0))
  have HRF := Lib.hid (set6_blk B3 (.int .i64 0) (.int .i64 0) (.int .i64 0) (.int .i64 0) (.int .i64 0) (.int .i64 0))
  clear hZ0
  generalize Cod.doneF Q = dn at *
  have q0 := B3.cell 0
  have q1 := B3.cell 1
  have q2 := B3.cell 2
  have q3 := B3.cell 3
  have q4 := B3.cell 4
  have q5 := B3.cell 5
  have qf := B3.frozen
  cases dn
  · have HR : Hid (RET = .tuple #[.agg #[.int .i64 0, .int .i64 0, .int .i64 0, .int .i64 0, .int .i64 0, .int .i64 0], .bool false]) := HNO.out (by rw [HD.out]; rfl)
    have hW := HRF.out
    have hBF := HBF.out
    unfold set6 at hW hBF
    have f0 := hW.cell 0
    have f1 := hW.cell 1
    have f2 := hW.cell 2
    have f3 := hW.cell 3
    have f4 := hW.cell 4
    have f5 := hW.cell 5
    clear hW HBF HRF B3 hZ
    go_wp2
    exact bodyPost_ret (v := .tuple #[.agg #[.int .i64 0, .int .i64 0, .int .i64 0, .int .i64 0, .int .i64 0, .int .i64 0], .bool false]) (by simp [results, Tryz.results5, go_sem, f0, f1, f2, f3, f4, f5]) rfl ⟨by rw [HR.out], hBF⟩
  · by_cases h6 : Z.length = 6
    · obtain ⟨t0, t1, t2, t3, t4, t5, rfl⟩ : ∃ t0 t1 t2 t3 t4 t5, Z = [t0, t1, t2, t3, t4, t5] := len_six Z h6
      have HR : Hid (RET = .tuple #[.agg #[.int .i64 t0, .int .i64 t1, .int .i64 t2, .int .i64 t3, .int .i64 t4, .int .i64 t5], .bool true]) := by show _ = _; exact HYES.out _ (by rw [HD.out]; rfl)
      obtain ⟨bk, off, rfl, _, z0, hz0, i0⟩ := HI.out.at 0 (by simp)
      obtain ⟨bk', off', e1, _, z1, hz1, i1⟩ := HI.out.at 1 (by simp)
      obtain ⟨bk2, off2, e2, _, z2, hz2, i2⟩ := HI.out.at 2 (by simp)
      obtain ⟨bk3, off3, e3, _, z3, hz3, i3⟩ := HI.out.at 3 (by simp)
      obtain ⟨bk4, off4, e4, _, z4, hz4, i4⟩ := HI.out.at 4 (by simp)
      obtain ⟨bk5, off5, e5, _, z5, hz5, i5⟩ := HI.out.at 5 (by simp)
      simp only [Option.some.injEq, Addr.mk.injEq, and_true] at e1 e2 e3 e4 e5
      obtain ⟨rfl, rfl⟩ := e1
      obtain ⟨rfl, rfl⟩ := e2
      obtain ⟨rfl, rfl⟩ := e3
      obtain ⟨rfl, rfl⟩ := e4
      obtain ⟨rfl, rfl⟩ := e5
      obtain rfl : z0 = t0 := hz0
      obtain rfl : z1 = t1 := hz1
      obtain rfl : z2 = t2 := hz2
      obtain rfl : z3 = t3 := hz3
      obtain rfl : z4 = t4 := hz4
      obtain rfl : z5 = t5 := hz5
      rw [Nat.add_zero] at i0
      have hBF := set6_below hb3 (Nat.le_refl w.heap.size) (.int .i64 z0) (.int .i64 z1) (.int .i64 z2) (.int .i64 z3) (.int .i64 z4) (.int .i64 z5)
      have hW := set6_blk B3 (.int .i64 z0) (.int .i64 z1) (.int .i64 z2) (.int .i64 z3) (.int .i64 z4) (.int .i64 z5)
      unfold set6 at hW hBF
      have f0 := hW.cell 0
      have f1 := hW.cell 1
      have f2 := hW.cell 2
      have f3 := hW.cell 3
      have f4 := hW.cell 4
      have f5 := hW.cell 5
      clear hW HBF HRF B3 hZ h6 HI
      go_wp2
      go_region
      go_wp2
      exact bodyPost_ret (v := .tuple #[.agg #[.int .i64 z0, .int .i64 z1, .int .i64 z2, .int .i64 z3, .int .i64 z4, .int .i64 z5], .bool true]) (by simp [results, Tryz.results5, go_sem, f0, f1, f2, f3, f4, f5]) rfl ⟨by rw [HR.out], below_drewN hBF 1⟩
    · have HR : Hid (RET = .tuple #[.agg #[.int .i64 0, .int .i64 0, .int .i64 0, .int .i64 0, .int .i64 0, .int .i64 0], .bool false]) := HNO.out (by rw [HD.out, if_neg (fun h => h6 h.2)])
      have hbn : ((Z.length : Int) != 6) = true := bne_iff_ne.2 (by omega)
      have hW := HRF.out
      have hBF := HBF.out
      unfold set6 at hW hBF
      have f0 := hW.cell 0
      have f1 := hW.cell 1
      have f2 := hW.cell 2
      have f3 := hW.cell 3
      have f4 := hW.cell 4
      have f5 := hW.cell 5
      clear hW HBF HRF B3 hZ h6
      go_wp2
      exact bodyPost_ret (v := .tuple #[.agg #[.int .i64 0, .int .i64 0, .int .i64 0, .int .i64 0, .int .i64 0, .int .i64 0], .bool false]) (by simp [results, Tryz.results5, go_sem, f0, f1, f2, f3, f4, f5]) rfl ⟨by rw [HR.out], hBF⟩
end Go.Proofs.YtmgamngdmhnffaaGreatDoor
