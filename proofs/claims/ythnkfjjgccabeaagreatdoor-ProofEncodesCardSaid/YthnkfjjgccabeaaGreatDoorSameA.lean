/- The reference's comparisons. -/
import Derived.Test.YthnkfjjgccabeaaGreatDoorHoldA
import Derived.Deep.OwnRows
import Derived.Test.YthnkfjjgccabeaaGreatDoorOin
namespace Go.Proofs.YthnkfjjgccabeaaGreatDoor
open Go.RowKit

/-! ### lists of lists -/
def ListAt (lo : Nat) : Reads (List Int) := fun bk off x w => ∃ u, w.cell? ⟨bk, off, none⟩ = some u ∧ NumsIn lo u x w
theorem ListAt.keeps (lo : Nat) : Keeps lo (ListAt lo) := fun bk off x w w' hl hlt h hb => by
  obtain ⟨u, h2, h3⟩ := h
  exact ⟨u, by rw [hb.cell hl hlt]; exact h2, h3.hi hb⟩
theorem ListAt.low {lo lo' bk off : Nat} {x : List Int} {w : World} (hl : lo' ≤ lo) (h : ListAt lo bk off x w) : ListAt lo' bk off x w := by
  obtain ⟨u, h2, h3⟩ := h
  exact ⟨u, h2, h3.low hl⟩
def IsLists (lo : Nat) (v : Value) (xs : List (List Int)) (w : World) : Prop := IsSl lo 1 (ListAt lo) v xs w
theorem IsLists.hi {lo : Nat} {v : Value} {xs : List (List Int)} {w w' : World} (h : IsLists lo v xs w) (hb : Hi lo w w') : IsLists lo v xs w' := IsSl.hi h (ListAt.keeps lo) hb
theorem IsLists.low {lo lo' : Nat} {v : Value} {xs : List (List Int)} {w : World} (hl : lo' ≤ lo) (h : IsLists lo v xs w) : IsLists lo' v xs w := IsSl.low h hl fun _ _ _ h => h.low hl
def TableAt (lo : Nat) : Reads (List (List Int)) := fun bk off x w => ∃ u, w.cell? ⟨bk, off, none⟩ = some u ∧ IsLists lo u x w
theorem TableAt.keeps (lo : Nat) : Keeps lo (TableAt lo) := fun bk off x w w' hl hlt h hb => by
  obtain ⟨u, h2, h3⟩ := h
  exact ⟨u, by rw [hb.cell hl hlt]; exact h2, h3.hi hb⟩
theorem TableAt.low {lo lo' bk off : Nat} {x : List (List Int)} {w : World} (hl : lo' ≤ lo) (h : TableAt lo bk off x w) : TableAt lo' bk off x w := by
  obtain ⟨u, h2, h3⟩ := h
  exact ⟨u, h2, h3.low hl⟩
def IsTables (lo : Nat) (v : Value) (xs : List (List (List Int))) (w : World) : Prop := IsSl lo 1 (TableAt lo) v xs w
theorem IsTables.hi {lo : Nat} {v : Value} {xs : List (List (List Int))} {w w' : World} (h : IsTables lo v xs w) (hb : Hi lo w w') : IsTables lo v xs w' := IsSl.hi h (TableAt.keeps lo) hb
theorem IsTables.low {lo lo' : Nat} {v : Value} {xs : List (List (List Int))} {w : World} (hl : lo' ≤ lo) (h : IsTables lo v xs w) : IsTables lo' v xs w := IsSl.low h hl fun _ _ _ h => h.low hl

/-! ### worlds that differ by draws -/
theorem quiet_ret {P : Program} {f : FuncId} {args : Array Value} {w : World} {n : Nat} {v u : Value} (hv : v = u) (h : Calls P f args (w.drewN n) (Ret v (w.drewN n))) :
    Calls P f args (w.drewN n) fun e w'' => e = .returned u ∧ ∃ m, w'' = w.drewN m := by subst hv; exact Calls.quiet_of h
def Drawn (w w' : World) : Prop := ∃ m, w' = w.drewN m
theorem Drawn.refl (w : World) : Drawn w w := ⟨0, rfl⟩
theorem Drawn.more {w w' : World} (h : Drawn w w') (n : Nat) : Drawn w (w'.drewN n) := by
  obtain ⟨m, rfl⟩ := h; exact ⟨m + n, World.drewN_drewN _ _ _⟩
theorem Drawn.below {w w' : World} (h : Drawn w w') : Below w.heap.size w w' := by
  obtain ⟨m, rfl⟩ := h; exact below_drewN (Below.refl _ _) m
theorem drop_eq {α : Type} [DecidableEq α] (a b : List α) (k : Nat) (h1 : k < a.length) (h2 : k < b.length) : decide (a.drop k = b.drop k) = (decide (a[k] = b[k]) && decide (a.drop (k + 1) = b.drop (k + 1))) := by
  rw [Bool.eq_iff_iff, List.drop_eq_getElem_cons h1, List.drop_eq_getElem_cons h2]
  simp only [decide_eq_true_eq, Bool.and_eq_true, List.cons.injEq]
/-- All lengths are numbers of the machine's. -/
def okL {α : Type} (l : List α) : Prop := l.length ≤ 9223372036854775807
def okLL (l : List (List Int)) : Prop := okL l ∧ ∀ x ∈ l, okL x
def okLLL (l : List (List (List Int))) : Prop := okL l ∧ ∀ x ∈ l, okLL x
set_option maxHeartbeats 1000000 in
theorem sameints_calls (va vb : Value) (a b : List Int) (hla : okL a) (hlb : okL b) (w : World) (ha : IsNums va a w) (hb : IsNums vb b w) :
    Calls Tryz.prog 17 #[va, vb] w (Ret (.bool (decide (a = b))) w) := by
  obtain ⟨aa, ca, rfl⟩ := ha.len
  obtain ⟨ab, cb, rfl⟩ := hb.len
  have hll : a.length ≤ 9223372036854775807 := hla
  by_cases hl : a.length = b.length
  · obtain ⟨n, hn⟩ : ∃ n, n = a.length := ⟨_, rfl⟩
    have hbl : b.length = n := by omega
    obtain ⟨D, hD⟩ : ∃ D, D = decide (a = b) := ⟨_, rfl⟩
    have hD0 : Nat → decide (a.drop 0 = b.drop 0) = D := fun _ => by rw [List.drop_zero, List.drop_zero]; exact hD.symm
    rw [← hn] at hll
    rw [← hn, hbl, ← hD]
    have HA := Lib.hid ha
    have HB := Lib.hid hb
    have HN := Lib.hid hn
    have HBL := Lib.hid hbl
    have HLA := Lib.hid hla
    have HLB := Lib.hid hlb
    have hne : ((n : Int) != (n : Int)) = false := by simp
    clear hl hbl hn hD ha hb hla hlb
    go_enter Tryz.func17, Tryz.ntmps17
    go_wp2
    go_loopw [5] (fun iv wr => ∃ k : Nat, k ≤ n ∧ iv = .int .i64 (k : Int) ∧ (Nat → decide (a.drop k = b.drop k) = D) ∧ Drawn w wr) (fun iv _ => n - (intOf iv).toNat)
    case atStart => exact ⟨0, Nat.zero_le _, rfl, hD0, Drawn.refl _⟩
    case round =>
      clear hD0
      obtain ⟨k, hk, rfl, hDk, hW⟩ := hrel
      by_cases hlt : k < n
      · have h1 : k < a.length := by rw [← HN.out]; exact hlt
        have h2 : k < b.length := by rw [HBL.out]; exact hlt
        obtain ⟨bk, o1, rfl, _, x, hx, z0⟩ := (HA.out.next hW.below).at k h1
        obtain ⟨bk', o2, rfl, _, y, hy, z1⟩ := (HB.out.next hW.below).at k h2
        have hst : Nat → (decide (x = y) && decide (a.drop (k + 1) = b.drop (k + 1))) = D := fun _ => by rw [hx, hy, ← drop_eq a b k h1 h2]; exact hDk 0
        clear hx hy
        have HW := Lib.hid hW
        have hkn : (k : Int) < (n : Int) := by omega
        clear hDk hW
        go_wp2
        by_cases hxy : x = y
        · subst hxy
          have hDk : Nat → decide (a.drop (k + 1) = b.drop (k + 1)) = D := fun _ => by have := hst 0; simpa using this
          have hbn : (x != x) = false := by simp
          clear hst
          go_quiet (fail)
          go_wp2
          go_roundw
          case rel => exact ⟨k + 1, by omega, by go_num, hDk, HW.out.more _⟩
          case measure => simp [intOf]; omega
        · have hDf : Hid (D = false) := by show _ = _; have := hst 0; simpa [hxy] using this.symm
          have hbn : (x != y) = true := bne_iff_ne.2 hxy
          clear hst
          go_quiet (fail)
          go_wp2
          go_ret
          exact ⟨ret_b hDf.out.symm, HW.out.more _⟩
      · obtain rfl : k = n := by omega
        have hDt : Hid (D = true) := by
          show _ = _
          rw [← hDk 0, HN.out, List.drop_length, ← HN.out, ← HBL.out, List.drop_length]; rfl
        have HW := Lib.hid hW
        clear hDk hW
        go_wp2
        go_ret
        exact ⟨ret_b hDt.out.symm, HW.out⟩
  · have HV : Hid (decide (a = b) = false) := by
      show _ = _
      exact decide_eq_false fun e => hl (by rw [e])
    have hne : ((a.length : Int) != (b.length : Int)) = true := bne_iff_ne.2 (by omega)
    have hne2 : ¬ (a.length : Int) = (b.length : Int) := by omega
    clear hl ha hb hla hlb
    go_enter Tryz.func17, Tryz.ntmps17
    go_wp2
    go_ret
    exact ⟨ret_b HV.out.symm, 0, rfl⟩
set_option maxHeartbeats 1000000 in
theorem samelists_calls (va vb : Value) (a b : List (List Int)) (hla : okLL a) (hlb : okLL b) (w : World) (ha : IsLists 0 va a w) (hb : IsLists 0 vb b w) :
    Calls Tryz.prog 35 #[va, vb] w (Ret (.bool (decide (a = b))) w) := by
  obtain ⟨aa, ca, rfl⟩ := ha.len
  obtain ⟨ab, cb, rfl⟩ := hb.len
  have hll : a.length ≤ 9223372036854775807 := hla.1
  by_cases hl : a.length = b.length
  · obtain ⟨n, hn⟩ : ∃ n, n = a.length := ⟨_, rfl⟩
    have hbl : b.length = n := by omega
    obtain ⟨D, hD⟩ : ∃ D, D = decide (a = b) := ⟨_, rfl⟩
    have hD0 : Nat → decide (a.drop 0 = b.drop 0) = D := fun _ => by rw [List.drop_zero, List.drop_zero]; exact hD.symm
    rw [← hn] at hll
    rw [← hn, hbl, ← hD]
    have HA := Lib.hid ha
    have HB := Lib.hid hb
    have HN := Lib.hid hn
    have HBL := Lib.hid hbl
    have HLA := Lib.hid hla
    have HLB := Lib.hid hlb
    have hne : ((n : Int) != (n : Int)) = false := by simp
    clear hl hbl hn hD ha hb hla hlb
    go_enter Tryz.func35, Tryz.ntmps35
    go_wp2
    go_loopw [5] (fun iv wr => ∃ k : Nat, k ≤ n ∧ iv = .int .i64 (k : Int) ∧ (Nat → decide (a.drop k = b.drop k) = D) ∧ Drawn w wr) (fun iv _ => n - (intOf iv).toNat)
    case atStart => exact ⟨0, Nat.zero_le _, rfl, hD0, Drawn.refl _⟩
    case round =>
      clear hD0
      obtain ⟨k, hk, rfl, hDk, hW⟩ := hrel
      by_cases hlt : k < n
      · have h1 : k < a.length := by rw [← HN.out]; exact hlt
        have h2 : k < b.length := by rw [HBL.out]; exact hlt
        obtain ⟨bk, o1, rfl, _, x, hx, u1, z0, g0⟩ := ((HA.out.hi (Hi.below hW.below))).at k h1
        obtain ⟨bk', o2, rfl, _, y, hy, u2, z1, g1⟩ := ((HB.out.hi (Hi.below hW.below))).at k h2
        have hst : Nat → (decide (x = y) && decide (a.drop (k + 1) = b.drop (k + 1))) = D := fun _ => by rw [hx, hy, ← drop_eq a b k h1 h2]; exact hDk 0
        have l1 := HLA.out.2 _ (List.getElem_mem h1)
        have l2 := HLB.out.2 _ (List.getElem_mem h2)
        rw [← hx] at l1
        rw [← hy] at l2
        rw [Nat.mul_one] at z0 z1
        have d1 := fun n => Lib.hid (quiet_ret rfl (sameints_calls u1 u2 x y l1 l2 (wr.drewN n) (g0.nums.next (below_drewN (Below.refl _ _) n)) (g1.nums.next (below_drewN (Below.refl _ _) n))))
        clear hx hy g0 g1 l1 l2
        have HW := Lib.hid hW
        have hkn : (k : Int) < (n : Int) := by omega
        clear hDk hW
        go_wp2
        by_cases hxy : x = y
        · have hDk : Nat → decide (a.drop (k + 1) = b.drop (k + 1)) = D := fun _ => by have := hst 0; simpa [hxy] using this
          rw [show decide (x = y) = true by simpa using hxy] at d1
          clear hst hxy
          go_quiet ((go_at_call 17; exact (d1 _).out))
          go_wp2
          go_roundw
          case rel => exact ⟨k + 1, by omega, by go_num, hDk, HW.out.more _⟩
          case measure => simp [intOf]; omega
        · have hDf : Hid (D = false) := by show _ = _; have := hst 0; simpa [hxy] using this.symm
          rw [show decide (x = y) = false by simpa using hxy] at d1
          clear hst hxy
          go_quiet ((go_at_call 17; exact (d1 _).out))
          go_wp2
          go_ret
          exact ⟨ret_b hDf.out.symm, HW.out.more _⟩
      · obtain rfl : k = n := by omega
        have hDt : Hid (D = true) := by
          show _ = _
          rw [← hDk 0, HN.out, List.drop_length, ← HN.out, ← HBL.out, List.drop_length]; rfl
        have HW := Lib.hid hW
        clear hDk hW
        go_wp2
        go_ret
        exact ⟨ret_b hDt.out.symm, HW.out⟩
  · have HV : Hid (decide (a = b) = false) := by
      show _ = _
      exact decide_eq_false fun e => hl (by rw [e])
    have hne : ((a.length : Int) != (b.length : Int)) = true := bne_iff_ne.2 (by omega)
    have hne2 : ¬ (a.length : Int) = (b.length : Int) := by omega
    clear hl ha hb hla hlb
    go_enter Tryz.func35, Tryz.ntmps35
    go_wp2
    go_ret
    exact ⟨ret_b HV.out.symm, 0, rfl⟩
set_option maxHeartbeats 1000000 in
theorem samenums_calls (va vb : Value) (a b : List (List (List Int))) (hla : okLLL a) (hlb : okLLL b) (w : World) (ha : IsTables 0 va a w) (hb : IsTables 0 vb b w) :
    Calls Tryz.prog 36 #[va, vb] w (Ret (.bool (decide (a = b))) w) := by
  obtain ⟨aa, ca, rfl⟩ := ha.len
  obtain ⟨ab, cb, rfl⟩ := hb.len
  have hll : a.length ≤ 9223372036854775807 := hla.1
  by_cases hl : a.length = b.length
  · obtain ⟨n, hn⟩ : ∃ n, n = a.length := ⟨_, rfl⟩
    have hbl : b.length = n := by omega
    obtain ⟨D, hD⟩ : ∃ D, D = decide (a = b) := ⟨_, rfl⟩
    have hD0 : Nat → decide (a.drop 0 = b.drop 0) = D := fun _ => by rw [List.drop_zero, List.drop_zero]; exact hD.symm
    rw [← hn] at hll
    rw [← hn, hbl, ← hD]
    have HA := Lib.hid ha
    have HB := Lib.hid hb
    have HN := Lib.hid hn
    have HBL := Lib.hid hbl
    have HLA := Lib.hid hla
    have HLB := Lib.hid hlb
    have hne : ((n : Int) != (n : Int)) = false := by simp
    clear hl hbl hn hD ha hb hla hlb
    go_enter Tryz.func36, Tryz.ntmps36
    go_wp2
    go_loopw [5] (fun iv wr => ∃ k : Nat, k ≤ n ∧ iv = .int .i64 (k : Int) ∧ (Nat → decide (a.drop k = b.drop k) = D) ∧ Drawn w wr) (fun iv _ => n - (intOf iv).toNat)
    case atStart => exact ⟨0, Nat.zero_le _, rfl, hD0, Drawn.refl _⟩
    case round =>
      clear hD0
      obtain ⟨k, hk, rfl, hDk, hW⟩ := hrel
      by_cases hlt : k < n
      · have h1 : k < a.length := by rw [← HN.out]; exact hlt
        have h2 : k < b.length := by rw [HBL.out]; exact hlt
        obtain ⟨bk, o1, rfl, _, x, hx, u1, z0, g0⟩ := ((HA.out.hi (Hi.below hW.below))).at k h1
        obtain ⟨bk', o2, rfl, _, y, hy, u2, z1, g1⟩ := ((HB.out.hi (Hi.below hW.below))).at k h2
        have hst : Nat → (decide (x = y) && decide (a.drop (k + 1) = b.drop (k + 1))) = D := fun _ => by rw [hx, hy, ← drop_eq a b k h1 h2]; exact hDk 0
        have l1 := HLA.out.2 _ (List.getElem_mem h1)
        have l2 := HLB.out.2 _ (List.getElem_mem h2)
        rw [← hx] at l1
        rw [← hy] at l2
        rw [Nat.mul_one] at z0 z1
        have d1 := fun n => Lib.hid (quiet_ret rfl (samelists_calls u1 u2 x y l1 l2 (wr.drewN n) (g0.hi (Hi.below (below_drewN (Below.refl _ _) n))) (g1.hi (Hi.below (below_drewN (Below.refl _ _) n)))))
        clear hx hy g0 g1 l1 l2
        have HW := Lib.hid hW
        have hkn : (k : Int) < (n : Int) := by omega
        clear hDk hW
        go_wp2
        by_cases hxy : x = y
        · have hDk : Nat → decide (a.drop (k + 1) = b.drop (k + 1)) = D := fun _ => by have := hst 0; simpa [hxy] using this
          rw [show decide (x = y) = true by simpa using hxy] at d1
          clear hst hxy
          go_quiet ((go_at_call 35; exact (d1 _).out))
          go_wp2
          go_roundw
          case rel => exact ⟨k + 1, by omega, by go_num, hDk, HW.out.more _⟩
          case measure => simp [intOf]; omega
        · have hDf : Hid (D = false) := by show _ = _; have := hst 0; simpa [hxy] using this.symm
          rw [show decide (x = y) = false by simpa using hxy] at d1
          clear hst hxy
          go_quiet ((go_at_call 35; exact (d1 _).out))
          go_wp2
          go_ret
          exact ⟨ret_b hDf.out.symm, HW.out.more _⟩
      · obtain rfl : k = n := by omega
        have hDt : Hid (D = true) := by
          show _ = _
          rw [← hDk 0, HN.out, List.drop_length, ← HN.out, ← HBL.out, List.drop_length]; rfl
        have HW := Lib.hid hW
        clear hDk hW
        go_wp2
        go_ret
        exact ⟨ret_b hDt.out.symm, HW.out⟩
  · have HV : Hid (decide (a = b) = false) := by
      show _ = _
      exact decide_eq_false fun e => hl (by rw [e])
    have hne : ((a.length : Int) != (b.length : Int)) = true := bne_iff_ne.2 (by omega)
    have hne2 : ¬ (a.length : Int) = (b.length : Int) := by omega
    clear hl ha hb hla hlb
    go_enter Tryz.func36, Tryz.ntmps36
    go_wp2
    go_ret
    exact ⟨ret_b HV.out.symm, 0, rfl⟩
end Go.Proofs.YthnkfjjgccabeaaGreatDoor
/- Small things: a proof's equality, the example. -/
namespace Go.Proofs.YthnkfjjgccabeaaGreatDoor
open Go.RowKit

/-- A proof. -/
structure ProofD where
  dares : List (List Int)
  answers : List (List (List Int))
deriving DecidableEq
def ProofD.Is (lo : Nat) (p : ProofD) (v : Value) (w : World) : Prop := ∃ vd va, v = .agg #[vd, va] ∧ IsLists lo vd p.dares w ∧ IsTables lo va p.answers w
def ProofD.ok (p : ProofD) : Prop := okLL p.dares ∧ okLLL p.answers
theorem ProofD.same (p q : ProofD) : decide (p = q) = (decide (p.dares = q.dares) && decide (p.answers = q.answers)) := by
  rw [Bool.eq_iff_iff]
  cases p; cases q
  simp
theorem Blk.get2 {w : World} {b : Nat} {t : TypeId} {x y : Value} (h : Blk w b t #[x, y]) : w.cell? ⟨b, 0, none⟩ = some x ∧ w.cell? ⟨b, 1, none⟩ = some y := ⟨h.cell 0, h.cell 1⟩

set_option maxRecDepth 100000 in
set_option maxHeartbeats 1000000 in
theorem sameproof_calls (p q : ProofD) (vp vq : Value) (hp : p.ok) (hq : q.ok) (w : World) (ip : p.Is 0 vp w) (iq : q.Is 0 vq w) :
    Calls Tryz.prog 9 #[vp, vq] w fun e w' => e = .returned (.bool (decide (p = q))) ∧ Below w.heap.size w w' := by
  obtain ⟨vd, va, rfl, d1, a1⟩ := ip
  obtain ⟨ud, ua, rfl, d2, a2⟩ := iq
  have HR := Lib.hid (ProofD.same p q)
  have B1 := Blk.new w 25 #[vd, va]
  have hb1 := below_one w (.cells #[vd, va] 25)
  obtain ⟨W1, hW1⟩ : ∃ W1, W1 = w.alloc (.cells #[vd, va] 25) := ⟨_, rfl⟩
  have hs1 : W1.heap.size = w.heap.size + 1 := by rw [hW1]; simp
  have B2 := Blk.new W1 25 #[ud, ua]
  have hb2' := below_one W1 (.cells #[ud, ua] 25)
  rw [← hW1] at B1 hb1
  have C1 := B1.next hb2'
  have hb2 := hb1.trans (hb2'.mono hb1.size)
  rw [hs1] at B2
  obtain ⟨y0, y1⟩ := C1.get2
  obtain ⟨x0, x1⟩ := B2.get2
  have HL := fun w' (hb : Below w.heap.size w w') => Lib.hid (samelists_calls vd ud p.dares q.dares hp.1 hq.1 w' (d1.hi (Hi.below hb)) (d2.hi (Hi.below hb)))
  have HN := fun w' (hb : Below w.heap.size w w') => Lib.hid (samenums_calls va ua p.answers q.answers hp.2 hq.2 w' (a1.hi (Hi.below hb)) (a2.hi (Hi.below hb)))
  have k1 := HL _ hb2
  generalize decide (p.dares = q.dares) = dd at *
  generalize decide (p.answers = q.answers) = da at *
  rw [hW1] at k1 y0 y1 x0 x1 hb2 hs1
  clear HL d1 d2 a1 a2 hp hq B1 B2 C1 hb1 hb2' hW1
  go_enter Tryz.func9, Tryz.ntmps9
  go_wp2_with fail
  generalize (w.alloc (.cells #[vd, va] 25)).alloc (.cells #[ud, ua] 25) = W2 at *
  refine k1.out.mono ?_
  clear k1
  rintro e w3 ⟨rfl, n, rfl⟩
  cases dd
  · have HF : Hid (decide (p = q) = false) := by show _ = _; rw [HR.out]; rfl
    clear HR
    go_wp2
    go_ret
    exact ⟨ret_b HF.out.symm, below_drewN hb2 n⟩
  · have HF : Hid (decide (p = q) = da) := by show _ = _; rw [HR.out]; rfl
    have k2 := HN _ (below_drewN hb2 n)
    clear HR HN
    go_wp2_with fail
    refine k2.out.mono ?_
    clear k2
    rintro e w4 ⟨rfl, m, rfl⟩
    go_wp2
    go_ret
    exact ⟨ret_b HF.out.symm, below_drewN hb2 _⟩

set_option maxHeartbeats 1000000 in
theorem fewsetup_calls (s : SetD) (vb : Value) (w : World) (hb0 : IsNums vb s.bs w) :
    Calls Tryz.prog 25 #[s.val vb] w fun e w' => e = .returned (.bool (decide ((s.bs.length : Int) ≤ 9))) ∧ Below w.heap.size w w' := by
  have hb := below_one w (.cells (s.cells vb) 34)
  have hS : SetAt s vb w.heap.size (w.alloc (.cells (s.cells vb) 34)) := Blk.new w _ _
  obtain ⟨a, cap, rfl⟩ := hb0.len
  unfold SetD.val
  unfold SetD.cells at hS hb
  obtain ⟨z0, z1, z2, z3, z4⟩ := hS.get
  clear hS hb0
  go_enter Tryz.func25, Tryz.ntmps25
  go_wp2
  go_ret
  exact ⟨ret_b rfl, hb⟩

/-- The setup of the example. -/
def exS : SetD := ⟨23, 11, 4, [16, 18], 12⟩
set_option maxRecDepth 100000 in
set_option maxHeartbeats 1000000 in
theorem example_calls (w : World) :
    Calls Tryz.prog 12 #[] w fun e w' => ∃ a c, e = .returned (exS.val (.slice a 2 c)) ∧ IsNums (.slice a 2 c) exS.bs w' ∧ Below w.heap.size w w' := by
  go_enter Tryz.func12, Tryz.ntmps12
  go_wp2_with fail
  have B1 := Blk.new w 34 #[.int .i64 23, .int .i64 11, .int .i64 4, .slice (some ⟨w.heap.size + 1, 0, none⟩) 2 2, .int .i64 12]
  have hb1 := below_one w (.cells #[.int .i64 23, .int .i64 11, .int .i64 4, .slice (some ⟨w.heap.size + 1, 0, none⟩) 2 2, .int .i64 12] 34)
  have hs1 := alloc_size w (.cells #[.int .i64 23, .int .i64 11, .int .i64 4, .slice (some ⟨w.heap.size + 1, 0, none⟩) 2 2, .int .i64 12] 34)
  generalize w.alloc (.cells #[.int .i64 23, .int .i64 11, .int .i64 4, .slice (some ⟨w.heap.size + 1, 0, none⟩) 2 2, .int .i64 12] 34) = W1 at *
  have B2 := Blk.new' hs1 3 #[.int .i64 16, .int .i64 18]
  have hb2 := Below.alloc_ hb1 (.cells #[.int .i64 16, .int .i64 18] 3)
  have C1 := B1.alloc' (.cells #[.int .i64 16, .int .i64 18] 3)
  generalize W1.alloc (.cells #[.int .i64 16, .int .i64 18] 3) = W2 at *
  refine bodyPost_ret (v := exS.val (.slice (some ⟨w.heap.size + 1, 0, none⟩) 2 2)) (by
    have c0 := C1.cell 0
    have c1 := C1.cell 1
    have c2 := C1.cell 2
    have c3 := C1.cell 3
    have c4 := C1.cell 4
    simp [results, Tryz.results12, go_sem] at c0 c1 c2 c3 c4 ⊢
    simp [c0, c1, c2, c3, c4, exS, SetD.val]) rfl ?_
  refine ⟨_, _, rfl, ?_, hb2⟩
  refine .inr ⟨w.heap.size + 1, 0, 2, rfl, B2.lt, fun i x hx => ?_⟩
  match i, hx with
  | 0, hx => cases hx; exact B2.cell 0
  | 1, hx => cases hx; exact B2.cell 1
end Go.Proofs.YthnkfjjgccabeaaGreatDoor
/- Split. -/
namespace Go.Proofs.YthnkfjjgccabeaaGreatDoor
open Go.RowKit

/-! ### what is known -/
structure KnowD where
  has : Bool
  values : List Int
deriving DecidableEq
def KnowAt (lo : Nat) : Reads KnowD := fun bk off k w => w.cell? ⟨bk, off, none⟩ = some (.bool k.has) ∧ ∃ u, w.cell? ⟨bk, off + 1, none⟩ = some u ∧ NumsIn lo u k.values w
theorem KnowAt.keeps (lo : Nat) : Keeps lo (KnowAt lo) := fun bk off x w w' hl hlt h hb => by
  obtain ⟨h1, u, h2, h3⟩ := h
  exact ⟨by rw [hb.cell hl hlt]; exact h1, u, by rw [hb.cell hl hlt]; exact h2, h3.hi hb⟩
theorem KnowAt.low {lo lo' bk off : Nat} {x : KnowD} {w : World} (hl : lo' ≤ lo) (h : KnowAt lo bk off x w) : KnowAt lo' bk off x w := by
  obtain ⟨h1, u, h2, h3⟩ := h
  exact ⟨h1, u, h2, h3.low hl⟩
def IsKnows (lo : Nat) (v : Value) (xs : List KnowD) (w : World) : Prop := IsSl lo 2 (KnowAt lo) v xs w
theorem IsKnows.hi {lo : Nat} {v : Value} {xs : List KnowD} {w w' : World} (h : IsKnows lo v xs w) (hb : Hi lo w w') : IsKnows lo v xs w' := IsSl.hi h (KnowAt.keeps lo) hb
theorem IsKnows.low {lo lo' : Nat} {v : Value} {xs : List KnowD} {w : World} (hl : lo' ≤ lo) (h : IsKnows lo v xs w) : IsKnows lo' v xs w := IsSl.low h hl fun _ _ _ h => h.low hl
def KnowsAt (lo : Nat) : Reads (List KnowD) := fun bk off x w => ∃ u, w.cell? ⟨bk, off, none⟩ = some u ∧ IsKnows lo u x w
theorem KnowsAt.keeps (lo : Nat) : Keeps lo (KnowsAt lo) := fun bk off x w w' hl hlt h hb => by
  obtain ⟨u, h2, h3⟩ := h
  exact ⟨u, by rw [hb.cell hl hlt]; exact h2, h3.hi hb⟩
def IsKnow (lo : Nat) (v : Value) (xs : List (List KnowD)) (w : World) : Prop := IsSl lo 1 (KnowsAt lo) v xs w

/-! ### the bits of a number -/
def bitK (v : Int) (k : Nat) : Int := v / 2 ^ k % 2
def knowK (b r : Int) : List KnowD := [if b = 0 then ⟨true, [r]⟩ else ⟨false, []⟩, if b = 0 then ⟨false, []⟩ else ⟨true, [r]⟩]
theorem bitK_two (v : Int) (k : Nat) : bitK v k = 0 ∨ bitK v k = 1 := by unfold bitK; omega
theorem low_one (Y : Nat) (h : Y < 9223372036854775808) : bits .and .i64 (Y : Int) 1 = ((Y % 2 : Nat) : Int) := by
  have h2 : (BitVec.ofInt 64 (1 : Int)).toNat = 1 := by decide +kernel
  show IntKind.i64.wrap ((BitVec.ofInt 64 (Y : Int) &&& BitVec.ofInt 64 1).toNat : Int) = _
  rw [BitVec.toNat_and, h2]
  have h3 : (BitVec.ofInt 64 (Y : Int)).toNat = Y := by
    rw [BitVec.ofInt_natCast, BitVec.toNat_ofNat]; omega
  rw [h3, show Y &&& 1 = Y % 2 from Nat.and_two_pow_sub_one_eq_mod _ 1]
  simp only [IntKind.wrap, IntKind.bits, IntKind.signed]; simp; omega
theorem bitK_and (v : Int) (k : Nat) (h0 : 0 ≤ v) (h : isInt v) : bits .and .i64 (v / 2 ^ k) 1 = bitK v k := by
  obtain ⟨n, rfl⟩ := Int.eq_ofNat_of_zero_le h0
  unfold isInt at h
  have e : ((n : Int) / 2 ^ k) = ((n / 2 ^ k : Nat) : Int) := by simp
  unfold bitK
  rw [e, low_one _ (Nat.lt_of_le_of_lt (Nat.div_le_self _ _) (by omega))]
  simp
theorem bitK_int (v : Int) (k : Nat) : isInt (bitK v k) := by
  have := bitK_two v k
  unfold isInt; omega
theorem two_pow_le' (k : Nat) (h : k ≤ 60) : (1 : Int) ≤ 2 ^ k ∧ (2 : Int) ^ k ≤ 1152921504606846976 := by
  have h1 : (2 : Nat) ^ k ≤ 2 ^ 60 := Nat.pow_le_pow_right (by omega) (by omega)
  have h2 : 1 ≤ (2 : Nat) ^ k := Nat.one_le_two_pow
  have e : (2 : Int) ^ k = ((2 ^ k : Nat) : Int) := by simp
  rw [e]
  omega
theorem two_pow_wrap' (k : Nat) (h : k ≤ 60) : IntKind.i64.wrap ((2 : Int) ^ k) = 2 ^ k := by
  have := two_pow_le' k h
  generalize (2 : Int) ^ k = x at *
  simp only [IntKind.wrap, IntKind.bits, IntKind.signed]; simp; omega
theorem two_pow_wrap64 (k : Nat) (h : k ≤ 60) : wrap64 ((2 : Int) ^ k) = 2 ^ k := by
  have := two_pow_le' k h
  generalize (2 : Int) ^ k = x at *
  unfold wrap64; omega
theorem infoKnow : (Tryz.prog.info? 58).map (fun i => (i.zero, i.size, i.bytes)) = some (some (.agg #[.bool false, .slice none 0 0]), 2, 32) := by kernel_rfl
theorem infoKnows : (Tryz.prog.info? 56).map (fun i => (i.zero, i.size, i.bytes)) = some (some (.slice none 0 0), 1, 24) := by kernel_rfl
theorem VRow.made1 (w : World) (a : Value) (n : Nat) (e : TypeId) : VRow w.heap.size n (fun _ => a) (w.alloc (.cells (madeCells #[a] n) e)) := by
  have h := World.rowIs_made w a n e
  exact ⟨h.lt, fun j hj => h.cell hj, fun j => h.frozen j⟩
def SetD.canSplit (s : SetD) (v : Int) (bl : List Int) : Bool := s.valid && (lenB 1 60 bl.length && (decide (0 ≤ v) && (decide (v < 2 ^ bl.length) && bl.all (exB s.Q))))
def SetD.splitB (s : SetD) (v : Int) (bl : List Int) : List Int := if s.canSplit v bl = true then (List.range bl.length).map fun k => s.com (bitK v k) (bl.getD k 0) else []
def SetD.splitK (s : SetD) (v : Int) (bl : List Int) : List (List KnowD) := if s.canSplit v bl = true then (List.range bl.length).map fun k => knowK (bitK v k) (bl.getD k 0) else []
/-- What Split returns. -/
def SplitRet (s : SetD) (v : Int) (bl : List Int) (w : World) (e : Ending) (w' : World) : Prop :=
  ∃ u1 u2, e = .returned (.tuple #[u1, u2, .bool (s.canSplit v bl)]) ∧ NumsIn w.heap.size u1 (s.splitB v bl) w' ∧ IsKnow w.heap.size u2 (s.splitK v bl) w' ∧ Below w.heap.size w w'
theorem SplitRet.no {s : SetD} {v : Int} {bl : List Int} {w w' : World} (h : s.canSplit v bl = false) (hb : Below w.heap.size w w') :
    SplitRet s v bl w (.returned (.tuple #[.slice none 0 0, .slice none 0 0, .bool false])) w' := by
  refine ⟨_, _, by rw [h], ?_, ?_, hb⟩
  · unfold SetD.splitB; rw [if_neg (by simp [h])]; exact .inl ⟨⟨_, _, rfl⟩, rfl⟩
  · unfold SetD.splitK; rw [if_neg (by simp [h])]; exact .inl ⟨⟨_, _, rfl⟩, rfl⟩

/-- The two rows that are filled. -/
structure SplitI (s : SetD) (v : Int) (bl : List Int) (g1 g2 k : Nat) (f1 f2 : Nat → Value) (w : World) : Prop where
  row1 : VRow g1 bl.length f1 w
  row2 : VRow g2 bl.length f2 w
  one : ∀ j r, j < k → bl[j]? = some r → f1 j = .int .i64 (s.com (bitK v j) r)
  two : ∀ j r, j < k → bl[j]? = some r → IsKnows (g2 + 1) (f2 j) (knowK (bitK v j) r) w
theorem SplitI.next {s : SetD} {v : Int} {bl : List Int} {g1 g2 k : Nat} {f1 f2 : Nat → Value} {w w' : World} (h : SplitI s v bl g1 g2 k f1 f2 w) (hb : Below w.heap.size w w') : SplitI s v bl g1 g2 k f1 f2 w' :=
  ⟨h.row1.next hb, h.row2.next hb, h.one, fun j r hj hr => (h.two j r hj hr).hi (Hi.below hb)⟩
theorem VRow.far {g n : Nat} {f : Nat → Value} {w : World} (h : VRow g n f w) {p : Addr} (hp : g ≠ p.block) (u : Value) : VRow g n f (w.setCell p u) :=
  h.of (Below.heap_setCell w p u g hp) (by simp [World.setCell])
theorem Hi.setCell {lo : Nat} {w w' : World} (h : Hi lo w w') {p : Addr} (hp : p.block < lo) (u : Value) : Hi lo w (w'.setCell p u) :=
  ⟨by simpa [World.setCell] using h.1, fun b hb hs => (Below.heap_setCell w' p u b (by omega)).trans (h.2 b hb hs)⟩
theorem Hi.alloc {lo : Nat} {w w' : World} (h : Hi lo w w') (o : Obj) : Hi lo w (w'.alloc o) := h.trans (Hi.below (below_one w' o))
/-- The world behind a round. -/
def storedK (w : World) (g k : Nat) (C x : Int) (cs : Array Value) : World :=
  (((w.setCell ⟨g, k, none⟩ (.int .i64 C)).setCell ⟨g + 1, k, none⟩ (.slice (some ⟨w.heap.size, 0, none⟩) 2 2)).alloc (.cells cs 58)).alloc (.cells #[.int .i64 x] 3)
theorem storedK_below {a w : World} {g k : Nat} {C x : Int} {cs : Array Value} (h : Below a.heap.size a w) (hg : a.heap.size ≤ g) : Below a.heap.size a (storedK w g k C x cs) :=
  Below.alloc_ (Below.alloc_ ((h.setCell (p := ⟨g, k, none⟩) hg _).setCell (p := ⟨g + 1, k, none⟩) (by simp; omega) _) _) _
theorem SetAt.stored {s : SetD} {vb : Value} {b g k : Nat} {w : World} {C x : Int} {cs : Array Value} (h : SetAt s vb b w) (hne : b < g) : SetAt s vb b (storedK w g k C x cs) :=
  (((Blk.far h (p := ⟨g, k, none⟩) (by simp; omega) _).far (p := ⟨g + 1, k, none⟩) (by simp; omega) _).alloc' _).alloc' _
theorem SplitI.step {s : SetD} {v : Int} {bl : List Int} {g k : Nat} {f1 f2 : Nat → Value} {w : World} {B C x : Int} {cs : Array Value} (h : SplitI s v bl g (g + 1) k f1 f2 w) (hk : k < bl.length) (hx : bl[k]? = some x) (hB : B = bitK v k) (hC : C = s.com B x)
    (hcs : cs = if B = 0 then #[.bool true, .slice (some ⟨w.heap.size + 1, 0, none⟩) 1 1, .bool false, .slice none 0 0] else #[.bool false, .slice none 0 0, .bool true, .slice (some ⟨w.heap.size + 1, 0, none⟩) 1 1]) :
    SplitI s v bl g (g + 1) (k + 1) (fun j => if j = k then .int .i64 C else f1 j) (fun j => if j = k then .slice (some ⟨w.heap.size, 0, none⟩) 2 2 else f2 j) (storedK w g k C x cs) := by
  have l2 := h.row2.lt
  have hs0 : ((w.setCell ⟨g, k, none⟩ (.int .i64 C)).setCell ⟨g + 1, k, none⟩ (.slice (some ⟨w.heap.size, 0, none⟩) 2 2)).heap.size = w.heap.size := by simp [World.setCell]
  have hH : Hi (g + 1 + 1) w (storedK w g k C x cs) := ((((Hi.below (Below.refl _ _)).setCell (p := ⟨g, k, none⟩) (by simp; omega) _).setCell (p := ⟨g + 1, k, none⟩) (by simp) _).alloc _).alloc _
  have r1 : VRow g bl.length (fun j => if j = k then .int .i64 C else f1 j) (storedK w g k C x cs) :=
    (((h.row1.set k hk _).far (p := ⟨g + 1, k, none⟩) (by simp) _).next (below_one _ _)).next (below_one _ _)
  have r2 : VRow (g + 1) bl.length (fun j => if j = k then .slice (some ⟨w.heap.size, 0, none⟩) 2 2 else f2 j) (storedK w g k C x cs) :=
    (((h.row2.far (p := ⟨g, k, none⟩) (by simp) _).set k hk _).next (below_one _ _)).next (below_one _ _)
  have B1 : Blk (storedK w g k C x cs) w.heap.size 58 cs := (Blk.new' hs0 _ _).alloc' _
  have B2 : Blk (storedK w g k C x cs) (w.heap.size + 1) 3 #[.int .i64 x] := Blk.new' (by rw [alloc_size, hs0]) _ _
  generalize storedK w g k C x cs = W at *
  have hV : NumsIn (g + 1 + 1) (.slice (some ⟨w.heap.size + 1, 0, none⟩) 1 1) [x] W := IsSl.single (by omega) B2.lt (B2.cell 0)
  have hN : NumsIn (g + 1 + 1) (.slice none 0 0) [] W := .inl ⟨⟨_, _, rfl⟩, rfl⟩
  refine ⟨r1, r2, fun j r hj hr => ?_, fun j r hj hr => ?_⟩
  · by_cases e : j = k
    · subst e
      rw [hx] at hr
      obtain rfl := Option.some.inj hr
      rw [if_pos rfl, hC, hB]
    · rw [if_neg e]; exact h.one j r (by omega) hr
  · by_cases e : j = k
    · subst e
      rw [hx] at hr
      obtain rfl := Option.some.inj hr
      rw [if_pos rfl, ← hB]
      unfold knowK
      by_cases hb : B = 0
      · rw [if_pos hb] at hcs
        subst hcs
        rw [if_pos hb, if_pos hb]
        exact IsSl.pair (by omega) B1.lt ⟨B1.cell 0, _, B1.cell 1, hV⟩ ⟨B1.cell 2, _, B1.cell 3, hN⟩
      · rw [if_neg hb] at hcs
        subst hcs
        rw [if_neg hb, if_neg hb]
        exact IsSl.pair (by omega) B1.lt ⟨B1.cell 0, _, B1.cell 1, hN⟩ ⟨B1.cell 2, _, B1.cell 3, hV⟩
    · rw [if_neg e]; exact (h.two j r (by omega) hr).hi hH
theorem range_get {α : Type} {n i : Nat} {f : Nat → α} {y : α} (h : ((List.range n).map f)[i]? = some y) : i < n ∧ y = f i := by
  rw [List.getElem?_map] at h
  rcases Nat.lt_or_ge i n with hi | hi
  · rw [List.getElem?_range hi] at h
    exact ⟨hi, (Option.some.inj h).symm⟩
  · rw [List.getElem?_eq_none (by simpa using hi)] at h; cases h
theorem SplitI.fin {s : SetD} {v : Int} {bl : List Int} {g lo : Nat} {f1 f2 : Nat → Value} {w : World} (h : SplitI s v bl g (g + 1) bl.length f1 f2 w) (hc : s.canSplit v bl = true) (hl : lo ≤ g) :
    NumsIn lo (.slice (some ⟨g, 0, none⟩) bl.length bl.length) (s.splitB v bl) w ∧ IsKnow lo (.slice (some ⟨g + 1, 0, none⟩) bl.length bl.length) (s.splitK v bl) w := by
  unfold SetD.splitB SetD.splitK
  rw [if_pos hc, if_pos hc]
  refine ⟨.inr ⟨g, 0, bl.length, by simp, ⟨hl, h.row1.lt⟩, fun i y hi => ?_⟩, .inr ⟨g + 1, 0, bl.length, by simp, ⟨by omega, h.row2.lt⟩, fun i y hi => ?_⟩⟩
  · obtain ⟨hlt, rfl⟩ := range_get hi
    have e := h.row1.at' i hlt
    have hr : bl[i]? = some (bl.getD i 0) := by rw [List.getD_eq_getElem?_getD, List.getElem?_eq_getElem hlt]; rfl
    rw [h.one i _ hlt hr] at e
    simpa [NumAt] using e
  · obtain ⟨hlt, rfl⟩ := range_get hi
    have e := h.row2.at' i hlt
    have hr : bl[i]? = some (bl.getD i 0) := by rw [List.getD_eq_getElem?_getD, List.getElem?_eq_getElem hlt]; rfl
    refine ⟨f2 i, by simpa using e, (h.two i _ hlt hr).low (by omega)⟩

set_option maxRecDepth 100000 in
set_option maxHeartbeats 2000000 in
theorem split_calls (s : SetD) (hi : s.ints) (vb u : Value) (v : Int) (hvi : isInt v) (bl : List Int) (hbi : ∀ x ∈ bl, isInt x) (hbl : bl.length ≤ 9223372036854775807) (w : World) (hE : Env w) (hb0 : IsNums vb s.bs w) (hv : IsNums u bl w) :
    Calls Tryz.prog 14 #[s.val vb, .int .i64 v, u] w (SplitRet s v bl w) := by
  obtain ⟨a, cap, rfl⟩ := hv.len
  have hb := below_one w (.cells (s.cells vb) 34)
  have hS : SetAt s vb w.heap.size (w.alloc (.cells (s.cells vb) 34)) := Blk.new w _ _
  have c1 := Lib.hid (vset_calls s hi vb _ (hE.next hb) (hb0.next hb))
  have HC : Hid (s.canSplit v bl = (s.valid && (lenB 1 60 bl.length && (decide (0 ≤ v) && (decide (v < 2 ^ bl.length) && bl.all (exB s.Q)))))) := rfl
  have HNO := fun (w' : World) (h : s.canSplit v bl = false) => Lib.hid (@SplitRet.no s v bl w w' h)
  have h60 : Hid (lenB 1 60 bl.length = true → bl.length ≤ 60) := by
    show lenB 1 60 bl.length = true → _
    unfold lenB; simp; omega
  have HBI := Lib.hid hbi
  have c2 := fun w => Lib.hid (arebits_calls a bl.length cap w)
  obtain ⟨V, hV⟩ : ∃ v, v = s.valid := ⟨_, rfl⟩
  obtain ⟨ab, hab⟩ : ∃ v, v = lenB 1 60 bl.length := ⟨_, rfl⟩
  rw [← hV] at c1 HC
  rw [← hab] at c2 HC h60
  unfold SetD.val at *
  unfold SetD.cells at hS hb c1
  clear hV hab hE hb0 hbi
  go_enter Tryz.func14, Tryz.ntmps14
  obtain ⟨z0, z1, z2, z3, z4⟩ := hS.get
  go_wp2_with fail
  generalize w.alloc (.cells #[.int .i64 s.P, .int .i64 s.Q, .int .i64 s.G, vb, .int .i64 s.H] 34) = W0 at *
  have hS0 : SetAt s vb w.heap.size W0 := hS
  refine Calls.mono c1.out ?_
  clear c1 hS z0 z1 z2 z3 z4
  rintro e w1 ⟨rfl, hb1⟩
  have hS1 := hS0.next hb1
  have hbb := hb.trans (hb1.mono hb.size)
  clear hS0 hb hb1
  cases V
  · have HF : Hid (s.canSplit v bl = false) := by show _ = _; rw [HC.out]; rfl
    go_wp2
    go_ret3
    exact (HNO _ HF.out).out hbb
  go_wp2_with fail
  refine Calls.mono (c2 w1).out ?_
  clear c2
  rintro e w2 ⟨rfl, rfl⟩
  cases ab
  · have HF : Hid (s.canSplit v bl = false) := by show _ = _; rw [HC.out]; rfl
    go_wp2
    go_ret3
    exact (HNO _ HF.out).out hbb
  have hn60 := h60.out rfl
  have T0 := two_pow_le' bl.length hn60
  have T1 : wrap64 ((2 : Int) ^ bl.length) = 2 ^ bl.length := two_pow_wrap64 bl.length hn60
  obtain ⟨T, hT⟩ : ∃ T, T = (2 : Int) ^ bl.length := ⟨_, rfl⟩
  have T2 : wrap64 ((2 : Int) ^ bl.length) = T := by rw [hT]; exact T1
  rw [← hT] at T0 HC
  clear h60 T1 hT
  by_cases hv0 : v < 0
  · have HF : Hid (s.canSplit v bl = false) := by show _ = _; rw [HC.out, decide_eq_false (by omega : ¬ 0 ≤ v)]; rfl
    go_wp2
    go_ret3
    exact (HNO _ HF.out).out hbb
  have hl0 : (0 : Int) ≤ (bl.length : Int) := Int.natCast_nonneg _
  have hl64 : (bl.length : Int) ≤ 64 := by omega
  by_cases hvl : T ≤ v
  · have HF : Hid (s.canSplit v bl = false) := by show _ = _; rw [HC.out, decide_eq_false (by omega : ¬ v < T)]; cases decide (0 ≤ v) <;> rfl
    go_wp2
    go_ret3
    exact (HNO _ HF.out).out hbb
  have HC2 : Hid (bl.all (exB s.Q) = s.canSplit v bl) := by show _ = _; rw [HC.out, decide_eq_true (by omega : v < T), decide_eq_true (by omega : 0 ≤ v)]; rfl
  have m1 := fun w => run_make_row' (P := Tryz.prog) 32 3 (.int .i64 0) 8 Tryz.underlying32 infoNum rfl .i64 .i64 bl.length (by omega) (by omega) w
  have m2 := fun w => run_make_row' (P := Tryz.prog) 46 56 (.slice none 0 0) 24 Tryz.underlying46 infoKnows rfl .i64 .i64 bl.length (by omega) (by omega) w
  have hN1 := VRow.made1 w1 (.int .i64 0) bl.length 3
  have hb2 := Below.alloc_ hbb (.cells (madeCells #[.int .i64 0] bl.length) 3)
  have hS2 := hS1.next (below_one w1 (.cells (madeCells #[.int .i64 0] bl.length) 3))
  have hg1 : w.heap.size < w1.heap.size := hS1.lt
  have hs2 := alloc_size w1 (.cells (madeCells #[.int .i64 0] bl.length) 3)
  clear HC hS1 hbb
  go_wp2
  generalize w1.alloc (.cells (madeCells #[.int .i64 0] bl.length) 3) = W2 at *
  have hN2 := VRow.made1 W2 (.slice none 0 0) bl.length 56
  have hb3 := Below.alloc_ hb2 (.cells (madeCells #[.slice none 0 0] bl.length) 56)
  have hS3 := hS2.next (below_one W2 (.cells (madeCells #[.slice none 0 0] bl.length) 56))
  have hN1' := hN1.next (below_one W2 (.cells (madeCells #[.slice none 0 0] bl.length) 56))
  rw [hs2] at hN2
  generalize W2.alloc (.cells (madeCells #[.slice none 0 0] bl.length) 56) = W3 at *
  have hI0 : SplitI s v bl w1.heap.size (w1.heap.size + 1) 0 _ _ W3 := ⟨hN1', hN2, fun j _ hj => by omega, fun j _ hj => by omega⟩
  generalize w1.heap.size = g at *
  clear hN1 hb2 hS2 hs2 hN2 hN1' m1 m2
  go_loopw [41] (fun i wr => ∃ (k : Nat) (f1 f2 : Nat → Value), k ≤ bl.length ∧ i = .int .i64 (k : Int) ∧ SplitI s v bl g (g + 1) k f1 f2 wr ∧ (bl.drop k).all (exB s.Q) = s.canSplit v bl ∧ SetAt s vb w.heap.size wr ∧ Below w.heap.size w wr) (fun i _ => bl.length - (intOf i).toNat)
  case atStart => exact ⟨0, _, _, Nat.zero_le _, rfl, hI0, HC2.out, hS3, hb3⟩
  case round =>
    clear hI0 hS3 hb3 HC2
    obtain ⟨k, f1, f2, hk, rfl, hI, hal, hSr, hbr⟩ := hrel
    by_cases hlt : k < bl.length
    · obtain ⟨bk, off, rfl, _, x, hx, y0⟩ := (hv.next hbr).at k hlt
      have hxi := HBI.out _ (List.getElem_mem hlt)
      have HX : Hid (bl[k]? = some x) := by show _ = _; rw [hx]; exact List.getElem?_eq_getElem hlt
      have HA := Lib.hid ((all_drop (exB s.Q) bl k hlt).symm.trans hal)
      rw [← hx] at hxi HA
      obtain ⟨z0, z1, z2, z3, z4⟩ := hSr.get
      have hkl : (k : Int) < (bl.length : Int) := by omega
      have c3 := Lib.hid (isexp_calls s.Q x wr)
      generalize exB s.Q x = bx at *
      have HI := Lib.hid hI
      have HS := Lib.hid hSr
      have HB := Lib.hid hbr
      clear hx hal hI hSr hbr
      go_wp2_with fail
      refine Calls.mono c3.out ?_
      clear c3
      rintro e w3 ⟨rfl, rfl⟩
      cases bx
      · have HF : Hid (s.canSplit v bl = false) := by show _ = _; rw [← HA.out]; rfl
        have hbr := HB.out
        go_wp2
        go_ret3
        exact (HNO _ HF.out).out hbr
      have HA2 : Hid ((bl.drop (k + 1)).all (exB s.Q) = s.canSplit v bl) := by show _ = _; rw [← HA.out]; rfl
      have hk0 : (0 : Int) ≤ (k : Int) := Int.natCast_nonneg _
      have hk64 : (k : Int) ≤ 64 := by omega
      have e1 : bits .and .i64 (v / 2 ^ k) 1 = bitK v k := bitK_and v k (by omega) hvi
      have HT : bitK v k = 0 ∨ bitK v k = 1 := bitK_two v k
      have c4 := Lib.hid (commit_calls s hi vb (bitK v k) x (bitK_int v k) hxi wr)
      obtain ⟨B, hB⟩ : ∃ B, B = bitK v k := ⟨_, rfl⟩
      rw [← hB] at e1 HT c4
      obtain ⟨C, hC⟩ : ∃ C, C = s.com B x := ⟨_, rfl⟩
      rw [← hC] at c4
      have HBk := Lib.hid hB
      have HCk := Lib.hid hC
      have HTT := Lib.hid HT
      clear hB hC HT
      go_wp2_with fail
      refine Calls.mono c4.out ?_
      clear c4 z0 z1 z2 z3 z4
      rintro e w4 ⟨rfl, hb4⟩
      have HI4 := Lib.hid (HI.out.next hb4)
      have HS4 := Lib.hid (HS.out.next hb4)
      have HB4 := Lib.hid (HB.out.trans (hb4.mono HB.out.size))
      have y1 := HI4.out.row1.at' k hlt
      have y2 := HI4.out.row1.fz k
      have x1 := HI4.out.row2.at' k hlt
      have x2 := HI4.out.row2.fz k
      have l1 : g < w4.heap.size := HI4.out.row1.lt
      have l2 : g + 1 < w4.heap.size := HI4.out.row2.lt
      have m3 : ∀ w, (Instr.makeSlice 56 (.int .i64 2) (.int .i64 2)).run Tryz.prog w = .ok (.slice (some ⟨w.heap.size, 0, none⟩) 2 2) (w.alloc (.cells #[.bool false, .slice none 0 0, .bool false, .slice none 0 0] 58)) :=
        fun w => by
          have h := run_make2 (P := Tryz.prog) 56 58 (.bool false) (.slice none 0 0) 32 Tryz.underlying56 infoKnow rfl 2 (by omega) (by omega) w
          rwa [show madeCells #[.bool false, .slice none 0 0] (2 * 2) = #[.bool false, .slice none 0 0, .bool false, .slice none 0 0] by kernel_rfl] at h
      clear HI HS HB hb4 HA
      rcases HTT.out with rfl | rfl
      · have HN := Lib.hid (HI4.out.step hlt HX.out HBk.out HCk.out rfl)
        have HSN := Lib.hid (HS4.out.stored (k := k) (C := C) (x := x) (cs := #[.bool true, .slice (some ⟨w4.heap.size + 1, 0, none⟩) 1 1, .bool false, .slice none 0 0]) hg1)
        have HBN := Lib.hid (storedK_below (k := k) (C := C) (x := x) (cs := #[.bool true, .slice (some ⟨w4.heap.size + 1, 0, none⟩) 1 1, .bool false, .slice none 0 0]) HB4.out (Nat.le_of_lt hg1))
        go_wp2
        go_roundw
        case rel => exact ⟨k + 1, _, _, by omega, by go_num, HN.out, HA2.out, HSN.out, HBN.out⟩
        case measure => simp [intOf]; omega
      · have HN := Lib.hid (HI4.out.step hlt HX.out HBk.out HCk.out rfl)
        have HSN := Lib.hid (HS4.out.stored (k := k) (C := C) (x := x) (cs := #[.bool false, .slice none 0 0, .bool true, .slice (some ⟨w4.heap.size + 1, 0, none⟩) 1 1]) hg1)
        have HBN := Lib.hid (storedK_below (k := k) (C := C) (x := x) (cs := #[.bool false, .slice none 0 0, .bool true, .slice (some ⟨w4.heap.size + 1, 0, none⟩) 1 1]) HB4.out (Nat.le_of_lt hg1))
        go_wp2
        go_roundw
        case rel => exact ⟨k + 1, _, _, by omega, by go_num, HN.out, HA2.out, HSN.out, HBN.out⟩
        case measure => simp [intOf]; omega
    · obtain rfl : k = bl.length := by omega
      have hcan : s.canSplit v bl = true := by rw [← hal, List.drop_length]; rfl
      have HF := Lib.hid (hI.fin (lo := w.heap.size) hcan (by omega))
      have HC := Lib.hid hcan
      clear hal hI hcan
      go_wp2
      go_ret3
      refine ⟨.slice (some ⟨g, 0, none⟩) bl.length bl.length, .slice (some ⟨g + 1, 0, none⟩) bl.length bl.length, ?_, HF.out.1, HF.out.2, hbr⟩
      simp [HC.out]

/-- The sanity function returns true. -/
def LessOk : Prop := ∀ w : World, Envs w → Calls Tryz.prog 4 #[] w fun e w' => e = .returned (.bool true) ∧ Below w.heap.size w w'
def True_ (w : World) (e : Ending) (w' : World) : Prop := e = .returned (.bool true) ∧ Below w.heap.size w w'

/-- A call behind a world: these arguments, this value; what it leaves. -/
def DoesN (w0 : World) (f : FuncId) (args : Array Value) (v : Value) : Prop :=
  ∀ (args' : Array Value) (w : World), args' = args → Below w0.heap.size w0 w → Calls Tryz.prog f args' w fun e w' => e = .returned v ∧ Below w0.heap.size w0 w' ∧ Below w.heap.size w w'
theorem DoesN.mk {w0 : World} {f : FuncId} {args : Array Value} {v : Value} (h : ∀ w, Below w0.heap.size w0 w → Calls Tryz.prog f args w fun e w' => e = .returned v ∧ Below w.heap.size w w') : DoesN w0 f args v := by
  intro args' w he hb
  subst he
  exact (h w hb).mono fun _ _ ⟨a, b⟩ => ⟨a, hb.trans (b.mono hb.size), b⟩
end Go.Proofs.YthnkfjjgccabeaaGreatDoor
