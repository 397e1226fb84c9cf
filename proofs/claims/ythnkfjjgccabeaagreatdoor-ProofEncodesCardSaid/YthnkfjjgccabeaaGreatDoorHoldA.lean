/- A function that remembers which numbers are elements. -/
import Derived.Test.YthnkfjjgccabeaaGreatDoorSigA
import Derived.Maps.OwnSet
import Derived.Maps.OwnOps
import Derived.Maps.Views
namespace Go.Proofs.YthnkfjjgccabeaaGreatDoor
open Go.RowKit Go.Maps

theorem lawInt : Keyed Tryz.prog 3 := int_keyed Tryz.underlying3
theorem zeroB (w : World) : (zeroValue 4).run Tryz.prog w = .ok (.bool false) w := by kernel_rfl
theorem plainElem_bool_inv {H : Type} {P : Program} {e : TypeId} (he : P.underlying e = some .bool) {v : Value} {z : DataW H × List MemPlace} (h : plainElem P e v = some z) : ∃ x, v = .bool x ∧ z = (.lit (.bool x), []) := by
  unfold plainElem at h
  rw [he] at h
  cases v <;> simp at h
  exact ⟨_, rfl, h.symm⟩
/-- What the function remembers: its group, its map, and that what stands there is so. -/
structure Memo (P Q G : Int) (gB mB b n : Nat) (w : World) : Prop where
  grp : Blk w gB 31 #[.int .i64 P, .int .i64 Q, .int .i64 G]
  var : Blk w mB 118 #[.map (some b)]
  own : ∃ D : DataW Unit, w.ownsMap Tryz.prog 3 (plainElem Tryz.prog 4) b n D ∧ IsMap D ∧ ∀ x : Int, Maps.has D (.int .i64 x) = true → ∀ z, D.atKey (.int .i64 x) z = .lit (.bool (subB P Q x))
  ng : gB ≠ b
  nm : mB ≠ b
theorem Memo.lt {P Q G : Int} {gB mB b n : Nat} {w : World} (h : Memo P Q G gB mB b n w) : b < w.heap.size := by
  obtain ⟨D, ⟨es, clock, hb, _⟩, _⟩ := h.own
  rcases Nat.lt_or_ge b w.heap.size with h' | h'
  · exact h'
  · simp [Array.getElem?_eq_none h'] at hb
theorem Memo.next {P Q G : Int} {gB mB b n : Nat} {w w' : World} (h : Memo P Q G gB mB b n w) (hb : Below w.heap.size w w') : Memo P Q G gB mB b n w' := by
  refine ⟨h.grp.next hb, h.var.next hb, ?_, h.ng, h.nm⟩
  obtain ⟨D, ⟨es, clock, he, h1, h2, h3⟩, hm, hx⟩ := h.own
  exact ⟨D, ⟨es, clock, (hb.block b h.lt).trans he, h1, h2, h3⟩, hm, hx⟩
theorem wf_int {x : Int} (h : isInt x) : (Lit.int .i64 x).wf = true := WalkArith.wf_i64 h

def MemoPost (P Q G : Int) (gB mB b n : Nat) (x : Int) (w : World) (e : Ending) (w' : World) : Prop := e = .returned (.bool (subB P Q x)) ∧ Memo P Q G gB mB b (n + 1) w' ∧ w.grownBy w' (some b)
theorem Memo.more {P Q G : Int} {gB mB b n : Nat} {w : World} (h : Memo P Q G gB mB b n w) : Memo P Q G gB mB b (n + 1) w := by
  refine ⟨h.grp, h.var, ?_, h.ng, h.nm⟩
  obtain ⟨D, ⟨es, clock, he, h1, h2, h3⟩, hm, hx⟩ := h.own
  exact ⟨D, ⟨es, clock, he, h1, by omega, h3⟩, hm, hx⟩
set_option maxRecDepth 100000 in
set_option maxHeartbeats 2000000 in
theorem memo_calls (P Q G : Int) (hQ : isInt Q) (gB mB b n : Nat) (hn : n ≤ 1000000) (x : Int) (hx : isInt x) (w : World) (hM : Memo P Q G gB mB b n w) :
    Calls Tryz.prog 72 #[.int .i64 x, .pointer (some ⟨mB, 0, none⟩), .pointer (some ⟨gB, 0, none⟩)] w (MemoPost P Q G gB mB b n x w) := by
  have hwx := wf_int hx
  have v0 := hM.var.cell 0
  have z0 := hM.grp.cell 0
  have z1 := hM.grp.cell 1
  have z2 := hM.grp.cell 2
  have c1 := Lib.hid (isel_calls P Q G x hQ hx w)
  obtain ⟨D, hown, hmap, hall⟩ := hM.own
  by_cases hh : Maps.has D (.int .i64 x) = true
  · have hat := hall x hh
    have HM := Lib.hid hM
    have HA := Lib.hid hat
    have HH := Lib.hid hh
    clear hM hall hat hh
    go_enter Tryz.func72, Tryz.ntmps72
    go_wp2_with (at_lookup; refine wpList_lookup_own_ok _ rfl _ _ 118 rfl 3 4 lawInt Tryz.underlying118 (plainElem Tryz.prog 4) (zeroB _) (.lit (.bool false)) [] (plainElem_bool Tryz.underlying4 false) b n D rfl hown _ _ rfl (keyOf_int_mk Tryz.underlying3 hwx) ?_; intro v ps hv; obtain ⟨y, rfl, hy⟩ := plainElem_bool_inv Tryz.underlying4 hv; have HY := Lib.hid hy; clear hv hy; rw [HH.out])
    have hy2 : y = subB P Q x := by
      have := (congrArg Prod.fst HY.out)
      simp only [HA.out] at this
      simpa using this.symm
    go_ret
    exact ⟨ret_b hy2, HM.out.more, Cod.only_refl _ _⟩
  · have hh' : Maps.has D (.int .i64 x) = false := by simpa using hh
    have HM := Lib.hid hM
    have HH := Lib.hid hh'
    have HA := Lib.hid hall
    have hKM := Lib.hid hmap
    obtain ⟨V, hV⟩ : ∃ V, V = subB P Q x := ⟨_, rfl⟩
    rw [← hV] at c1
    have HV := Lib.hid hV
    clear hM hall hh hh' hmap hV
    go_enter Tryz.func72, Tryz.ntmps72
    go_wp2_with (at_lookup; refine wpList_lookup_own_ok _ rfl _ _ 118 rfl 3 4 lawInt Tryz.underlying118 (plainElem Tryz.prog 4) (zeroB _) (.lit (.bool false)) [] (plainElem_bool Tryz.underlying4 false) b n D rfl hown _ _ rfl (keyOf_int_mk Tryz.underlying3 hwx) ?_; intro v ps hv; obtain ⟨y, rfl, hy⟩ := plainElem_bool_inv Tryz.underlying4 hv; clear hv hy; rw [HH.out])
    refine Calls.mono c1.out ?_
    clear c1 v0 z0 z1 z2
    rintro e w1 ⟨rfl, hb1⟩
    have hM1 := HM.out.next hb1
    have v0 := hM1.var.cell 0
    have hown1 : w1.ownsMap Tryz.prog 3 (plainElem Tryz.prog 4) b n D := by
      obtain ⟨es, clock, he, h1, h2, h3⟩ := hown
      exact ⟨es, clock, (hb1.block b HM.out.lt).trans he, h1, h2, h3⟩
    have HM1 := Lib.hid hM1
    have HB1 := Lib.hid hb1
    clear hown hM1 hb1
    go_wp2_with (at_mapUpdate; refine wpList_mapUpdate_own _ rfl _ _ _ 118 rfl 3 4 lawInt Tryz.underlying118 (plainElem Tryz.prog 4) b n D rfl hown1 (by unfold maxLen; omega) _ _ _ rfl rfl (keyOf_int_mk Tryz.underlying3 hwx) _ [] (plainElem_bool Tryz.underlying4 V) ?_; intro w2 hown2 hgrow2)
    go_ret
    refine ⟨ret_b HV.out, ⟨?_, ?_, ⟨_, hown2, hKM.out.put _ _, ?_⟩, HM.out.ng, HM.out.nm⟩, ?_⟩
    · show w2.heap[gB]? = _
      rw [hgrow2.block gB HM1.out.grp.lt (by have := HM.out.ng; simp; omega)]; exact HM1.out.grp
    · show w2.heap[mB]? = _
      rw [hgrow2.block mB HM1.out.var.lt (by have := HM.out.nm; simp; omega)]; exact HM1.out.var
    · intro x' hx' z
      by_cases e : x' = x
      · subst e
        rw [atKey_put_same hKM.out (by simp [WideAt.IsKeyLit])]
        rw [HV.out]
      · have hne : (Lit.int .i64 x') ≠ .int .i64 x := by simpa using e
        rw [has_put_other hne] at hx'
        rw [atKey_put_other hne]
        exact HA.out x' hx' z
    · exact Cod.only_trans (Cod.only_below (Cod.only_refl w b) HB1.out) hgrow2
end Go.Proofs.YthnkfjjgccabeaaGreatDoor
/- elements; fits. -/
namespace Go.Proofs.YthnkfjjgccabeaaGreatDoor
open Go.RowKit Go.Maps

/-- The function that elements returns. -/
def memoV (gB mB : Nat) : Value := .func (.func 72) #[] #[.pointer (some ⟨mB, 0, none⟩), .pointer (some ⟨gB, 0, none⟩)]
def ElemsPost (P Q G : Int) (w : World) (e : Ending) (w' : World) : Prop := ∃ gB mB b, e = .returned (memoV gB mB) ∧ Memo P Q G gB mB b 0 w' ∧ w.heap.size ≤ b ∧ Below w.heap.size w w'
set_option maxRecDepth 100000 in
set_option maxHeartbeats 2000000 in
theorem elems_calls (P Q G : Int) (w : World) : Calls Tryz.prog 53 #[.agg #[.int .i64 P, .int .i64 Q, .int .i64 G]] w (ElemsPost P Q G w) := by
  have hmm := @run_makeMap Tryz.prog
  go_enter Tryz.func53, Tryz.ntmps53
  go_wp2
  go_ret
  have e0 := alloc_size w (.cells #[.int .i64 P, .int .i64 Q, .int .i64 G] 31)
  have hb0 := below_one w (.cells #[.int .i64 P, .int .i64 Q, .int .i64 G] 31)
  have B0 := Blk.new w 31 #[.int .i64 P, .int .i64 Q, .int .i64 G]
  obtain ⟨W0, hW0⟩ : ∃ W0, W0 = w.alloc (.cells #[.int .i64 P, .int .i64 Q, .int .i64 G] 31) := ⟨_, rfl⟩
  have e1 := alloc_size W0 (.map #[] 0)
  have hO : (W0.alloc (.map #[] 0)).ownsMap Tryz.prog 3 (plainElem Tryz.prog 4) W0.heap.size 0 (.map [] : DataW Unit) := World.ownsMap_made _ _ _ _
  rw [← hW0] at e0 hb0 B0
  rw [e0] at e1 hO
  have B2 := Blk.new' e1 118 #[.map (some (w.heap.size + 1))]
  have hb1 := below_one W0 (.map #[] 0)
  have hb2 := below_one (W0.alloc (.map #[] 0)) (.cells #[.map (some (w.heap.size + 1))] 118)
  have hw : ElemsPost P Q G w (.returned (memoV w.heap.size (w.heap.size + 1 + 1))) ((W0.alloc (.map #[] 0)).alloc (.cells #[.map (some (w.heap.size + 1))] 118)) := by
    refine ⟨w.heap.size, w.heap.size + 1 + 1, w.heap.size + 1, rfl, ⟨(B0.next hb1).next hb2, B2, ⟨.map [], ?_, isMap_empty, fun x hx => by simp [Maps.has] at hx⟩, by omega, by omega⟩, by omega, (hb0.trans (hb1.mono hb0.size)).trans (hb2.mono ?_)⟩
    · obtain ⟨es, clock, he, h1, h2, h3⟩ := hO
      exact ⟨es, clock, (hb2.block _ (by rw [e1]; omega)).trans he, h1, h2, h3⟩
    · rw [e1]; omega
  rw [hW0] at hw
  exact hw

/-! ### values that fit -/
def fitsF (q : Int) (n : Int) (l : List Int) : Bool := decide ((l.length : Int) = n) && l.all (exB q)
theorem notexp_calls (q : Int) (b : Nat) (x : Int) (w : World) (h : w.cell? ⟨b, 0, none⟩ = some (.int .i64 q)) :
    Calls Tryz.prog 74 #[.int .i64 x, .pointer (some ⟨b, 0, none⟩)] w fun e w' => e = .returned (.bool (!exB q x)) ∧ w = w' := by
  have c1 := Lib.hid (isexp_calls q x w)
  obtain ⟨V, hV⟩ : ∃ V, V = exB q x := ⟨_, rfl⟩
  rw [← hV] at c1 ⊢
  clear hV
  go_enter Tryz.func74, Tryz.ntmps74
  go_wp2_with fail
  refine Calls.mono c1.out ?_
  rintro e w' ⟨rfl, rfl⟩
  go_wp2
  go_ret
  exact ⟨rfl, rfl⟩
/-- The index of the first number that does not fit. -/
def idxF (q : Int) (l : List Int) : Int := match l.findIdx? (fun x => !exB q x) with
  | some i => (i : Int)
  | none => -1
set_option maxRecDepth 100000 in
set_option maxHeartbeats 2000000 in
theorem idx_calls (q : Int) (b : Nat) (v : Value) (l : List Int) (hl : l.length ≤ 9223372036854775807) (w : World) (h : w.cell? ⟨b, 0, none⟩ = some (.int .i64 q)) (hv : IsNums v l w) :
    Calls Tryz.prog 90 #[v, .func (.func 74) #[] #[.pointer (some ⟨b, 0, none⟩)]] w fun e w' => (∃ i : Int, e = .returned (.int .i64 i) ∧ decide (0 ≤ i) = !l.all (exB q)) ∧ w = w' := by
  obtain ⟨a, cap, rfl⟩ := hv.len
  have c1 := fun x => Lib.hid (notexp_calls q b x w h)
  have HV := Lib.hid hv
  clear h hv
  go_enter Tryz.func90, Tryz.ntmps90
  go_wp2
  go_loop [8] (fun i => ∃ k : Nat, k ≤ l.length ∧ i = .int .i64 k ∧ (l.drop k).all (exB q) = l.all (exB q)) (fun i => l.length - (intOf i).toNat)
  case atStart => exact ⟨0, Nat.zero_le _, rfl, rfl⟩
  case round =>
    obtain ⟨k, hk, rfl, hal⟩ := hrel
    by_cases hlt : k < l.length
    · obtain ⟨bk, off, rfl, _, x, hx, y0⟩ := HV.out.at k hlt
      have HA := Lib.hid ((all_drop (exB q) l k hlt).symm.trans hal)
      rw [← hx] at HA
      have c2 := c1 x
      obtain ⟨V, hVe⟩ : ∃ V, V = exB q x := ⟨_, rfl⟩
      rw [← hVe] at c2 HA
      have hkl : (k : Int) < (l.length : Int) := by omega
      clear hx hal hVe c1
      go_wp2_with fail
      refine Calls.mono c2.out ?_
      rintro e w3 ⟨rfl, rfl⟩
      cases V
      · have HN : Hid (decide ((0 : Int) ≤ (k : Int)) = !l.all (exB q)) := by show _ = !l.all (exB q); rw [← HA.out]; simp
        go_wp2
        go_ret
        exact ⟨⟨_, rfl, HN.out⟩, rfl⟩
      · have HN : Hid ((l.drop (k + 1)).all (exB q) = l.all (exB q)) := by show _ = l.all (exB q); rw [← HA.out]; rfl
        clear HA
        go_wp2
        go_round
        case rel => exact ⟨k + 1, by omega, by go_num, HN.out⟩
        case measure => simp [intOf]; omega
    · obtain rfl : k = l.length := by omega
      have HN : Hid (decide ((0 : Int) ≤ -1) = !l.all (exB q)) := by show _ = !l.all (exB q); rw [← hal, List.drop_length]; rfl
      clear hal
      go_wp2
      go_ret
      exact ⟨⟨_, rfl, HN.out⟩, rfl⟩
end Go.Proofs.YthnkfjjgccabeaaGreatDoor
/- fits; the product of an equation's terms; holds. -/
namespace Go.Proofs.YthnkfjjgccabeaaGreatDoor
open Go.RowKit

set_option maxRecDepth 100000 in
theorem any_calls (q : Int) (b : Nat) (v : Value) (l : List Int) (hl : l.length ≤ 9223372036854775807) (w : World) (h : w.cell? ⟨b, 0, none⟩ = some (.int .i64 q)) (hv : IsNums v l w) :
    Calls Tryz.prog 73 #[v, .func (.func 74) #[] #[.pointer (some ⟨b, 0, none⟩)]] w fun e w' => e = .returned (.bool (!l.all (exB q))) ∧ w = w' := by
  have c1 := Lib.hid (idx_calls q b v l hl w h hv)
  clear h hv
  go_enter Tryz.func73, Tryz.ntmps73
  go_wp2_with fail
  refine Calls.mono c1.out ?_
  rintro e w' ⟨⟨i, rfl, hi⟩, rfl⟩
  have HI := Lib.hid hi
  clear hi
  go_wp2
  go_ret
  exact ⟨ret_b HI.out, rfl⟩
set_option maxRecDepth 100000 in
set_option maxHeartbeats 2000000 in
theorem fits_calls (q : Int) (c : ClaimD) (u v : Value) (l : List Int) (hl : l.length ≤ 9223372036854775807) (w : World) (hv : IsNums v l w) :
    Calls Tryz.prog 54 #[.int .i64 q, .agg #[.int .i64 c.vars, u], v] w fun e w' => e = .returned (.bool (fitsF q c.vars l)) ∧ Below w.heap.size w w' := by
  have hb0 := below_one w (.cells #[.int .i64 q] 3)
  have hb1 := Below.alloc_ hb0 (.cells #[.int .i64 c.vars, u] 66)
  have hB := (Blk.new w 3 #[.int .i64 q]).alloc' (.cells #[.int .i64 c.vars, u] 66)
  have z0 := hB.cell 0
  have hv1 := hv.next hb1
  have c1 := Lib.hid (any_calls q w.heap.size v l hl _ z0 hv1)
  obtain ⟨a, cap, rfl⟩ := hv.len
  have HF : Hid (fitsF q c.vars l = (decide ((l.length : Int) = c.vars) && l.all (exB q))) := rfl
  clear hB hv hv1 hb0
  by_cases hn : (l.length : Int) = c.vars
  · have d1 : ((l.length : Int) == c.vars) = true := by simp [hn]
    rw [decide_eq_true hn] at HF
    have HN := Lib.hid hn
    clear hn
    obtain ⟨V, hV⟩ : ∃ V, V = l.all (exB q) := ⟨_, rfl⟩
    rw [← hV] at c1 HF
    clear hV
    go_enter Tryz.func54, Tryz.ntmps54
    go_wp2_with fail
    refine Calls.mono c1.out ?_
    rintro e w' ⟨rfl, rfl⟩
    go_wp2
    go_ret
    exact ⟨ret_b (by rw [HF.out]; cases V <;> rfl), hb1⟩
  · have d1 : ((l.length : Int) == c.vars) = false := by simp [hn]
    rw [decide_eq_false hn] at HF
    clear hn c1
    go_enter Tryz.func54, Tryz.ntmps54
    go_wp2
    go_ret
    exact ⟨ret_b (by rw [HF.out]; rfl), hb1⟩

/-! ### products and claims -/
def SetD.prodF (s : SetD) (vals : List Int) : Int → List (Int × Int) → Int
  | r, t :: ts => s.prodF vals (s.tm r (s.pw t.2 (vals.getD t.1.toNat 0))) ts
  | r, [] => r
theorem SetD.prodF_drop (s : SetD) (vals : List Int) (r : Int) (l : List (Int × Int)) (k : Nat) (h : k < l.length) : s.prodF vals r (l.drop k) = s.prodF vals (s.tm r (s.pw l[k].2 (vals.getD l[k].1.toNat 0))) (l.drop (k + 1)) := by
  rw [List.drop_eq_getElem_cons h]; rfl
/-- All numbers of a claim are ints. -/
def EqD.ints (e : EqD) : Prop := isInt e.target ∧ e.terms.length ≤ 9223372036854775807 ∧ ∀ t ∈ e.terms, isInt t.1 ∧ isInt t.2
def ClaimD.ints (c : ClaimD) : Prop := isInt c.vars ∧ c.eqs.length ≤ 9223372036854775807 ∧ ∀ e ∈ c.eqs, e.ints
set_option maxRecDepth 100000 in
set_option maxHeartbeats 2000000 in
theorem product_calls (s : SetD) (e : EqD) (he : e.ints) (ht : ∀ t ∈ e.terms, 0 ≤ t.1) (vals : List Int) (hvi : ∀ x ∈ vals, isInt x) (hin : ∀ t ∈ e.terms, t.1 < (vals.length : Int)) (u v : Value) (w : World) (hu : IsTerms 0 u e.terms w) (hv : IsNums v vals w) :
    Calls Tryz.prog 75 #[.agg #[.int .i64 s.P, .int .i64 s.Q, .int .i64 s.G], .agg #[.int .i64 e.target, u], v] w fun e' w' => e' = .returned (.int .i64 (s.prodF vals 1 e.terms)) ∧ Below w.heap.size w w' := by
  obtain ⟨au, cu, rfl⟩ := IsSl.len hu
  obtain ⟨av, cv, rfl⟩ := hv.len
  have hb0 := below_one w (.cells #[.int .i64 s.P, .int .i64 s.Q, .int .i64 s.G] 31)
  have hb1 := Below.alloc_ hb0 (.cells #[.int .i64 e.target, .slice au e.terms.length cu] 91)
  have hB := (Blk.new w 31 #[.int .i64 s.P, .int .i64 s.Q, .int .i64 s.G]).alloc' (.cells #[.int .i64 e.target, .slice au e.terms.length cu] 91)
  have hC := Blk.new' (alloc_size w (.cells #[.int .i64 s.P, .int .i64 s.Q, .int .i64 s.G] 31)) 91 #[.int .i64 e.target, .slice au e.terms.length cu]
  have HTL := Lib.hid he.2.1
  have hTL := he.2.1
  have HTI := Lib.hid he.2.2
  have HHT := Lib.hid ht
  have HIN := Lib.hid hin
  have HVI := Lib.hid hvi
  have HU := Lib.hid hu
  have HV := Lib.hid hv
  obtain ⟨R0, hR0⟩ : ∃ R, R = s.prodF vals 1 e.terms := ⟨_, rfl⟩
  rw [← hR0]
  have HR0 := Lib.hid hR0
  clear hR0 he ht hin hvi hu hv hb0
  go_enter Tryz.func75, Tryz.ntmps75
  go_wp2
  generalize ((w.alloc (.cells #[.int .i64 s.P, .int .i64 s.Q, .int .i64 s.G] 31)).alloc (.cells #[.int .i64 e.target, .slice au e.terms.length cu] 91)) = W0 at *
  clear hC
  go_loopw [7, 13] (fun r i wr => ∃ (k : Nat) (R : Int), k ≤ e.terms.length ∧ i = .int .i64 (k : Int) ∧ r = .int .i64 R ∧ isInt R ∧ s.prodF vals R (e.terms.drop k) = R0 ∧ Blk wr w.heap.size 31 #[.int .i64 s.P, .int .i64 s.Q, .int .i64 s.G] ∧ Below w.heap.size w wr) (fun _ i _ => e.terms.length - (intOf i).toNat)
  case atStart => exact ⟨0, 1, Nat.zero_le _, rfl, rfl, by unfold isInt; omega, HR0.out.symm, hB, hb1⟩
  case round =>
    clear hB hb1 HR0
    obtain ⟨k, R, hk, rfl, rfl, hRi, hprod, hBr, hbr⟩ := hrel
    by_cases hlt : k < e.terms.length
    · obtain ⟨bk, off, rfl, hbk, t, htk, y0, y1⟩ := IsSl.at (IsSl.hi HU.out (TermAt.keeps 0) (Hi.below hbr)) k hlt
      have hmem := List.getElem_mem hlt
      have hti := HTI.out _ hmem
      have ht0 := HHT.out _ hmem
      have ht1 := HIN.out _ hmem
      have HP := Lib.hid ((s.prodF_drop vals R e.terms k hlt).symm.trans hprod)
      rw [← htk] at hti ht0 ht1 HP
      clear htk hmem hprod
      obtain ⟨t1, t2⟩ := t
      simp only at hti ht0 ht1 HP y0 y1
      obtain ⟨j, rfl⟩ := Int.eq_ofNat_of_zero_le ht0
      have hjl : j < vals.length := by omega
      obtain ⟨bv, ov, rfl, hbv, x, hx, y2⟩ := (HV.out.next hbr).at j hjl
      have hxi := HVI.out _ (List.getElem_mem hjl)
      have hgd : vals.getD j 0 = vals[j] := by rw [List.getD_eq_getElem?_getD, List.getElem?_eq_getElem hjl]; rfl
      rw [Int.toNat_natCast, hgd] at HP
      rw [← hx] at hxi HP
      have ht2 := hti.2
      have HP2 : Hid (s.prodF vals (gTimes s.P s.Q R (gPow s.P s.Q t2 x)) (e.terms.drop (k + 1)) = R0) := HP
      have hXi := gPow_int s.P s.Q t2 x
      have hYi := gTimes_int s.P s.Q R (gPow s.P s.Q t2 x)
      have k1 := fun w0 => Lib.hid (DoesE.mk (w0 := w0) (fun w _ => power_calls s.P s.Q s.G t2 x ht2 hxi w))
      have k2 := fun w0 => Lib.hid (DoesE.mk (w0 := w0) (fun w _ => times_calls s.P s.Q s.G R _ hRi hXi w))
      generalize gTimes s.P s.Q R (gPow s.P s.Q t2 x) = Y at *
      generalize gPow s.P s.Q t2 x = X at *
      have hkl : (k : Int) < (e.terms.length : Int) := by omega
      have hj0 : (0 : Int) ≤ (j : Int) := Int.natCast_nonneg _
      have hj1 : (j : Int) < (vals.length : Int) := by omega
      have hbT := below_one wr (.cells #[.int .i64 (j : Int), .int .i64 t2] 93)
      have hBT := Blk.new wr 93 #[.int .i64 (j : Int), .int .i64 t2]
      have hBG := hBr.next hbT
      have y3 : (wr.alloc (.cells #[.int .i64 (j : Int), .int .i64 t2] 93)).cell? ⟨bv, ov + j, none⟩ = some (.int .i64 x) := by
        rw [hbT.cell (p := ⟨bv, ov + j, none⟩) hbv]; exact y2
      have hlv : bv < (wr.alloc (.cells #[.int .i64 (j : Int), .int .i64 t2] 93)).heap.size := Nat.lt_of_lt_of_le hbv hbT.size
      have HB := Lib.hid hbr
      have HBT := Lib.hid hbT
      clear hbr hbT HP hx hgd hti ht0 ht1 hRi hXi hxi ht2 hBr HU hbv
      go_wp2
      generalize (wr.alloc (.cells #[.int .i64 (j : Int), .int .i64 t2] 93)) = W1 at *
      have j1 := k1 W1
      have j2 := k2 W1
      have HK : Hid (∀ w', Below W1.heap.size W1 w' → w'.cell? ⟨w.heap.size, 0, none⟩ = some (.int .i64 s.P) ∧ w'.cell? ⟨w.heap.size, 1, none⟩ = some (.int .i64 s.Q) ∧ w'.cell? ⟨w.heap.size, 2, none⟩ = some (.int .i64 s.G) ∧ w'.cell? ⟨wr.heap.size, 0, none⟩ = some (.int .i64 (j : Int)) ∧ w'.cell? ⟨wr.heap.size, 1, none⟩ = some (.int .i64 t2) ∧ w'.cell? ⟨bv, ov + j, none⟩ = some (.int .i64 x) ∧ Below W1.heap.size W1 w') := by
        show ∀ w', Below W1.heap.size W1 w' → _
        intro w' h
        have hB := hBG.next h
        have hD := hBT.next h
        exact ⟨hB.cell 0, hB.cell 1, hB.cell 2, hD.cell 0, hD.cell 1, by rw [h.cell (p := ⟨bv, ov + j, none⟩) hlv]; exact y3, h⟩
      have HBG := Lib.hid hBG
      clear k1 k2 hBT y0 y1 y2 y3 hlv hBG
      go_region_held3 (fun w' => w'.cell? ⟨w.heap.size, 0, none⟩ = some (.int .i64 s.P) ∧ w'.cell? ⟨w.heap.size, 1, none⟩ = some (.int .i64 s.Q) ∧ w'.cell? ⟨w.heap.size, 2, none⟩ = some (.int .i64 s.G) ∧ w'.cell? ⟨wr.heap.size, 0, none⟩ = some (.int .i64 (j : Int)) ∧ w'.cell? ⟨wr.heap.size, 1, none⟩ = some (.int .i64 t2) ∧ w'.cell? ⟨bv, ov + j, none⟩ = some (.int .i64 x) ∧ Below W1.heap.size W1 w')
        (first | exact HK.out _ (by assumption) | exact HK.out _ (below_drewN (Below.refl _ _) 1) | exact HK.out _ (Below.refl _ _))
        (first
          | (go_at_call 42; refine Calls.mono (j1.out _ _ (by with_reducible rfl) (by first | assumption | exact below_drewN (Below.refl W1.heap.size W1) 1)) ?_; rintro e w3 ⟨rfl, hb3, hc3⟩)
          | (go_at_call 41; refine Calls.mono (j2.out _ _ (by with_reducible rfl) (by first | assumption | exact below_drewN (Below.refl W1.heap.size W1) 1)) ?_; rintro e w4 ⟨rfl, hb4, hc4⟩))
      all_goals
        go_wp2
        go_roundw
        case rel => exact ⟨k + 1, Y, by omega, by go_num, rfl, hYi, HP2.out, HBG.out.next hb4, (HB.out.trans (HBT.out.mono HB.out.size)).trans (hb4.mono ((HB.out.trans (HBT.out.mono HB.out.size)).size))⟩
        case measure => simp [intOf]; omega
    · obtain rfl : k = e.terms.length := by omega
      have HR : Hid (R0 = R) := by show R0 = R; rw [← hprod, List.drop_length]; rfl
      clear hprod
      go_wp2
      go_ret
      exact ⟨ret_i HR.out.symm, hbr⟩
end Go.Proofs.YthnkfjjgccabeaaGreatDoor
/- holds. -/
namespace Go.Proofs.YthnkfjjgccabeaaGreatDoor
open Go.RowKit

def SetD.okTerm (s : SetD) (vars : Int) (t : Int × Int) : Bool := decide (0 ≤ t.1) && (decide (t.1 < vars) && s.el t.2)
def SetD.okEq (s : SetD) (vars : Int) (e : EqD) : Bool := decide (e.terms.length ≤ 80) && (s.el e.target && e.terms.all (s.okTerm vars))
def SetD.okClaim (s : SetD) (c : ClaimD) : Bool := (decide (0 ≤ c.vars) && (decide (c.vars ≤ 120) && (decide (1 ≤ c.eqs.length) && decide (c.eqs.length ≤ 60)))) && c.eqs.all (s.okEq c.vars)
def SetD.eqB (s : SetD) (vals : List Int) (e : EqD) : Bool := decide (s.prodF vals 1 e.terms = e.target)
def SetD.holdsF (s : SetD) (c : ClaimD) (vals : List Int) : Bool := c.eqs.all (s.eqB vals)
theorem SetD.prodF_int (s : SetD) (vals : List Int) : ∀ (l : List (Int × Int)) (r : Int), isInt r → isInt (s.prodF vals r l)
  | [], _, h => h
  | _ :: l, _, _ => SetD.prodF_int s vals l _ (gTimes_int _ _ _ _)

set_option maxRecDepth 100000 in
set_option maxHeartbeats 2000000 in
theorem holds_calls (s : SetD) (c : ClaimD) (hc : c.ints) (vals : List Int) (hvi : ∀ x ∈ vals, isInt x) (hin : ∀ e ∈ c.eqs, ∀ t ∈ e.terms, 0 ≤ t.1 ∧ t.1 < (vals.length : Int)) (u v : Value) (w : World) (hu : IsEqs 0 u c.eqs w) (hv : IsNums v vals w) :
    Calls Tryz.prog 55 #[.agg #[.int .i64 s.P, .int .i64 s.Q, .int .i64 s.G], .agg #[.int .i64 c.vars, u], v] w fun e' w' => e' = .returned (.bool (s.holdsF c vals)) ∧ Below w.heap.size w w' := by
  obtain ⟨au, cu, rfl⟩ := IsSl.len hu
  have hb0 := below_one w (.cells #[.int .i64 s.P, .int .i64 s.Q, .int .i64 s.G] 31)
  have hb1 := Below.alloc_ hb0 (.cells #[.int .i64 c.vars, .slice au c.eqs.length cu] 66)
  have hB := (Blk.new w 31 #[.int .i64 s.P, .int .i64 s.Q, .int .i64 s.G]).alloc' (.cells #[.int .i64 c.vars, .slice au c.eqs.length cu] 66)
  have hTL := hc.2.1
  have HCI := Lib.hid hc.2.2
  have HIN := Lib.hid hin
  have HVI := Lib.hid hvi
  have HU := Lib.hid hu
  have HV := Lib.hid hv
  have HF : Hid (s.holdsF c vals = c.eqs.all (s.eqB vals)) := rfl
  clear hc hin hvi hu hv hb0
  go_enter Tryz.func55, Tryz.ntmps55
  go_wp2
  generalize ((w.alloc (.cells #[.int .i64 s.P, .int .i64 s.Q, .int .i64 s.G] 31)).alloc (.cells #[.int .i64 c.vars, .slice au c.eqs.length cu] 66)) = W0 at *
  go_loopw [12] (fun i wr => ∃ k : Nat, k ≤ c.eqs.length ∧ i = .int .i64 (k : Int) ∧ (c.eqs.drop k).all (s.eqB vals) = s.holdsF c vals ∧ Blk wr w.heap.size 31 #[.int .i64 s.P, .int .i64 s.Q, .int .i64 s.G] ∧ Below w.heap.size w wr) (fun i _ => c.eqs.length - (intOf i).toNat)
  case atStart => exact ⟨0, Nat.zero_le _, rfl, rfl, hB, hb1⟩
  case round =>
    clear hB hb1
    obtain ⟨k, hk, rfl, hal, hBr, hbr⟩ := hrel
    by_cases hlt : k < c.eqs.length
    · obtain ⟨bk, off, rfl, hbk, e, hek, y0, u1, y1, hu1⟩ := IsSl.at (HU.out.hi (Hi.below hbr)) k hlt
      have hmem := List.getElem_mem hlt
      have hei := HCI.out _ hmem
      have hin := HIN.out _ hmem
      have HA := Lib.hid ((all_drop (s.eqB vals) c.eqs k hlt).symm.trans hal)
      rw [← hek] at hei hin HA
      obtain ⟨a1, c1, rfl⟩ := IsSl.len hu1
      have hbT := below_one wr (.cells #[.int .i64 e.target, .slice a1 e.terms.length c1] 91)
      have hBT := Blk.new wr 91 #[.int .i64 e.target, .slice a1 e.terms.length c1]
      have hBG := hBr.next hbT
      have hu2 := IsSl.hi hu1 (TermAt.keeps 0) (Hi.below hbT)
      have hv2 := (HV.out.next hbr).next hbT
      have hkl : (k : Int) < (c.eqs.length : Int) := by omega
      have hPi := s.prodF_int vals e.terms 1 (by unfold isInt; omega)
      have HEB : Hid (s.eqB vals e = decide (s.prodF vals 1 e.terms = e.target)) := rfl
      have k1 := fun w0 (hw : IsTerms 0 (.slice a1 e.terms.length c1) e.terms w0) (hw2 : IsNums v vals w0) => Lib.hid (DoesE.mk (w0 := w0) (fun w h => product_calls s e hei (fun t ht => (hin t ht).1) vals HVI.out (fun t ht => (hin t ht).2) _ v w (IsSl.hi hw (TermAt.keeps 0) (Hi.below h)) (hw2.next h)))
      obtain ⟨PR, hPR⟩ : ∃ R, R = s.prodF vals 1 e.terms := ⟨_, rfl⟩
      rw [← hPR] at k1 HEB
      have HBR := Lib.hid hbr
      have HBT := Lib.hid hbT
      clear hbr hbT hal hek hmem hBr hu1 hbk hPR hPi
      go_wp2
      generalize (wr.alloc (.cells #[.int .i64 e.target, .slice a1 e.terms.length c1] 91)) = W1 at *
      have j1 := k1 W1 hu2 hv2
      have HK : Hid (∀ w', Below W1.heap.size W1 w' → w'.cell? ⟨w.heap.size, 0, none⟩ = some (.int .i64 s.P) ∧ w'.cell? ⟨w.heap.size, 1, none⟩ = some (.int .i64 s.Q) ∧ w'.cell? ⟨w.heap.size, 2, none⟩ = some (.int .i64 s.G) ∧ w'.cell? ⟨wr.heap.size, 0, none⟩ = some (.int .i64 e.target) ∧ w'.cell? ⟨wr.heap.size, 1, none⟩ = some (.slice a1 e.terms.length c1) ∧ Below W1.heap.size W1 w') := by
        show ∀ w', Below W1.heap.size W1 w' → _
        intro w' h
        have hB := hBG.next h
        have hD := hBT.next h
        exact ⟨hB.cell 0, hB.cell 1, hB.cell 2, hD.cell 0, hD.cell 1, h⟩
      have HBG := Lib.hid hBG
      clear k1 hBT y0 y1 hBG hu2 hv2 hei hin
      go_region_held3 (fun w' => w'.cell? ⟨w.heap.size, 0, none⟩ = some (.int .i64 s.P) ∧ w'.cell? ⟨w.heap.size, 1, none⟩ = some (.int .i64 s.Q) ∧ w'.cell? ⟨w.heap.size, 2, none⟩ = some (.int .i64 s.G) ∧ w'.cell? ⟨wr.heap.size, 0, none⟩ = some (.int .i64 e.target) ∧ w'.cell? ⟨wr.heap.size, 1, none⟩ = some (.slice a1 e.terms.length c1) ∧ Below W1.heap.size W1 w')
        (first | exact HK.out _ (by assumption) | exact HK.out _ (below_drewN (Below.refl _ _) 1) | exact HK.out _ (Below.refl _ _))
        (first
          | (go_at_call 75; refine Calls.mono (j1.out _ _ (by with_reducible rfl) (by exact below_drewN (Below.refl W1.heap.size W1) 1)) ?_; rintro e' w3 ⟨rfl, hb3, hc3⟩))
      all_goals
        have HB3 := Lib.hid ((HBR.out.trans (HBT.out.mono HBR.out.size)).trans (hb3.mono ((HBR.out.trans (HBT.out.mono HBR.out.size)).size)))
        have hBG3 := HBG.out.next hb3
        have HG3 := Lib.hid hBG3
        clear hb3 hc3 j1 hBG3
        by_cases hpe : PR = e.target
        · have d1 : (PR != e.target) = false := by simp [hpe]
          have HN : Hid ((c.eqs.drop (k + 1)).all (s.eqB vals) = s.holdsF c vals) := by
            show _ = s.holdsF c vals
            rw [← HA.out, HEB.out, decide_eq_true hpe]; rfl
          clear hpe HA
          go_wp2
          go_roundw
          case rel => exact ⟨k + 1, by omega, by go_num, HN.out, HG3.out, HB3.out⟩
          case measure => simp [intOf]; omega
        · have d1 : (PR != e.target) = true := by simp [hpe]
          have HN : Hid (s.holdsF c vals = false) := by
            show s.holdsF c vals = false
            rw [← HA.out, HEB.out, decide_eq_false hpe]; rfl
          clear hpe HA
          go_wp2
          go_ret
          exact ⟨ret_b HN.out.symm, HB3.out⟩
    · obtain rfl : k = c.eqs.length := by omega
      have HN : Hid (s.holdsF c vals = true) := by show s.holdsF c vals = true; rw [← hal, List.drop_length]; rfl
      clear hal
      go_wp2
      go_ret
      exact ⟨ret_b HN.out.symm, hbr⟩
end Go.Proofs.YthnkfjjgccabeaaGreatDoor
/- Which claims are valid. -/
namespace Go.Proofs.YthnkfjjgccabeaaGreatDoor
open Go.RowKit

theorem Blk.grown {w w' : World} {g b : Nat} {t : TypeId} {cs : Array Value} (h : Blk w g t cs) (hg : w.grownBy w' (some b)) (hne : g ≠ b) : Blk w' g t cs := by
  show w'.heap[g]? = _
  rw [hg.block g h.lt (by simp; omega)]; exact h
set_option maxRecDepth 100000 in
set_option maxHeartbeats 4000000 in
theorem vclaim_calls (s : SetD) (hQ : isInt s.Q) (c : ClaimD) (hc : c.ints) (u : Value) (gB mB b : Nat) (W w : World) (hW : Below W.heap.size W w) (hbW : W.heap.size ≤ b) (hu : IsEqs 0 u c.eqs W) (hM : Memo s.P s.Q s.G gB mB b 0 w) :
    Calls Tryz.prog 52 #[.agg #[.int .i64 c.vars, u], memoV gB mB] w fun e' w' => e' = .returned (.bool (s.okClaim c)) ∧ Below W.heap.size W w' := by
  obtain ⟨au, cu, rfl⟩ := IsSl.len hu
  have hbo := below_one w (.cells #[.int .i64 c.vars, .slice au c.eqs.length cu] 66)
  have hB := Blk.new w 66 #[.int .i64 c.vars, .slice au c.eqs.length cu]
  have hWo := hW.trans (hbo.mono hW.size)
  have hMo := hM.next hbo
  have hTL := hc.2.1
  have HCI := Lib.hid hc.2.2
  have HU := Lib.hid hu
  have hbw := hM.lt
  have HF : Hid (s.okClaim c = ((decide (0 ≤ c.vars) && (decide (c.vars ≤ 120) && (decide (1 ≤ c.eqs.length) && decide (c.eqs.length ≤ 60)))) && c.eqs.all (s.okEq c.vars))) := rfl
  have z0 := hB.cell 0
  have z1 := hB.cell 1
  unfold memoV
  clear hc hu hW hM hbo
  by_cases h1 : c.vars < 0
  · have HN : Hid (s.okClaim c = false) := by show s.okClaim c = false; rw [HF.out, decide_eq_false (by omega)]; rfl
    clear HF
    go_enter Tryz.func52, Tryz.ntmps52
    go_wp2
    go_ret
    exact ⟨ret_b HN.out.symm, hWo⟩
  · by_cases h2 : 120 < c.vars
    · have HN : Hid (s.okClaim c = false) := by show s.okClaim c = false; rw [HF.out, decide_eq_false (show ¬ c.vars ≤ 120 by omega)]; simp
      clear HF
      go_enter Tryz.func52, Tryz.ntmps52
      go_wp2
      go_ret
      exact ⟨ret_b HN.out.symm, hWo⟩
    · by_cases h3 : (c.eqs.length : Int) < 1
      · have HN : Hid (s.okClaim c = false) := by show s.okClaim c = false; rw [HF.out, decide_eq_false (show ¬ 1 ≤ c.eqs.length by omega)]; simp
        clear HF
        go_enter Tryz.func52, Tryz.ntmps52
        go_wp2
        go_ret
        exact ⟨ret_b HN.out.symm, hWo⟩
      · by_cases h4 : 60 < (c.eqs.length : Int)
        · have HN : Hid (s.okClaim c = false) := by show s.okClaim c = false; rw [HF.out, decide_eq_false (show ¬ c.eqs.length ≤ 60 by omega)]; simp
          clear HF
          go_enter Tryz.func52, Tryz.ntmps52
          go_wp2
          go_ret
          exact ⟨ret_b HN.out.symm, hWo⟩
        · have HA : Hid (c.eqs.all (s.okEq c.vars) = s.okClaim c) := by
            show _ = s.okClaim c
            rw [HF.out, decide_eq_true (show 0 ≤ c.vars by omega), decide_eq_true (show c.vars ≤ 120 by omega), decide_eq_true (show 1 ≤ c.eqs.length by omega), decide_eq_true (show c.eqs.length ≤ 60 by omega)]; rfl
          have d1 : decide (c.vars < 0) = false := decide_eq_false h1
          have d2 : decide (120 < c.vars) = false := decide_eq_false h2
          have d3 : decide ((c.eqs.length : Int) < 1) = false := decide_eq_false h3
          have d4 : decide (60 < (c.eqs.length : Int)) = false := decide_eq_false h4
          have hl60 : c.eqs.length ≤ 60 := by omega
          clear HF
          go_enter Tryz.func52, Tryz.ntmps52
          go_wp2
          generalize (w.alloc (.cells #[.int .i64 c.vars, .slice au c.eqs.length cu] 66)) = W0 at *
          clear d1 d2 d3 d4 h1 h2 h3 h4 z0 z1
          obtain ⟨C, hC⟩ : ∃ C, C = w.heap.size := ⟨_, rfl⟩
          rw [← hC] at hB hbw ⊢
          clear hC
          go_loopw [32] (fun i wr => ∃ (k n : Nat), k ≤ c.eqs.length ∧ i = .int .i64 (k : Int) ∧ n ≤ 81 * k ∧ (c.eqs.drop k).all (s.okEq c.vars) = s.okClaim c ∧ Memo s.P s.Q s.G gB mB b n wr ∧ Blk wr C 66 #[.int .i64 c.vars, .slice au c.eqs.length cu] ∧ Below W.heap.size W wr) (fun i _ => c.eqs.length - (intOf i).toNat)
          case atStart => exact ⟨0, 0, Nat.zero_le _, rfl, by omega, HA.out, hMo, hB, hWo⟩
          case round =>
            clear hMo hB hWo HA
            obtain ⟨k, n, hk, rfl, hn, hal, hMr, hBr, hWr⟩ := hrel
            by_cases hlt : k < c.eqs.length
            · obtain ⟨bk, off, rfl, hbk, e, hek, y0', u1, y1', hu1⟩ := IsSl.at HU.out k hlt
              have y0 : wr.cell? ⟨bk, off + k * 2, none⟩ = some (.int .i64 e.target) := by rw [hWr.cell (p := ⟨bk, off + k * 2, none⟩) hbk.2]; exact y0'
              have y1 : wr.cell? ⟨bk, off + k * 2 + 1, none⟩ = some u1 := by rw [hWr.cell (p := ⟨bk, off + k * 2 + 1, none⟩) hbk.2]; exact y1'
              have hei := HCI.out _ (List.getElem_mem hlt)
              have HAL := Lib.hid ((all_drop (s.okEq c.vars) c.eqs k hlt).symm.trans hal)
              rw [← hek] at hei HAL
              obtain ⟨a1, c1, rfl⟩ := IsSl.len hu1
              have HT := Lib.hid hu1
              have hTI := hei.2.2
              have HTI := Lib.hid hTI
              have hti := hei.1
              have hTlen := hei.2.1
              have HOK : Hid (s.okEq c.vars e = (decide (e.terms.length ≤ 80) && (subB s.P s.Q e.target && e.terms.all (s.okTerm c.vars)))) := rfl
              have hbT := below_one wr (.cells #[.int .i64 e.target, .slice a1 e.terms.length c1] 91)
              have hBT := Blk.new wr 91 #[.int .i64 e.target, .slice a1 e.terms.length c1]
              have hMT := hMr.next hbT
              have hCT := hBr.next hbT
              have hWT := hWr.trans (hbT.mono hWr.size)
              have hbE : b ≠ wr.heap.size := by have := hMr.lt; omega
              have hkl : (k : Int) < (c.eqs.length : Int) := by omega
              have q0 := hBT.cell 0
              have q1 := hBT.cell 1
              clear hal hek y0' y1' hu1 hei hTI hbT hMr hBr hWr
              by_cases hT : 80 < (e.terms.length : Int)
              · have HN : Hid (s.okClaim c = false) := by
                  show s.okClaim c = false
                  rw [← HAL.out, HOK.out, decide_eq_false (by omega)]; rfl
                have d1 : decide (80 < (e.terms.length : Int)) = true := decide_eq_true hT
                clear HAL HOK
                go_wp2
                go_ret
                exact ⟨ret_b HN.out.symm, hWT⟩
              · have HO2 : Hid (s.okEq c.vars e = (subB s.P s.Q e.target && e.terms.all (s.okTerm c.vars))) := by
                  show s.okEq c.vars e = _
                  rw [HOK.out, decide_eq_true (by omega)]; rfl
                have d1 : decide (80 < (e.terms.length : Int)) = false := decide_eq_false hT
                have hT80 : e.terms.length ≤ 80 := by omega
                have cm := fun w hM => Lib.hid (memo_calls s.P s.Q s.G hQ gB mB b n (by omega) e.target hti w hM)
                unfold MemoPost at cm
                obtain ⟨bt, hbt⟩ : ∃ v, v = subB s.P s.Q e.target := ⟨_, rfl⟩
                rw [← hbt] at cm HO2
                clear HOK hT hbt
                go_wp2_with fail
                generalize (wr.alloc (.cells #[.int .i64 e.target, .slice a1 e.terms.length c1] 91)) = W1 at *
                refine Calls.mono (cm W1 hMT).out ?_
                clear cm d1 y0 y1 q0 q1
                rintro e1 w2 ⟨rfl, hM2, hg2⟩
                have hE2 := hBT.grown hg2 (Ne.symm hbE)
                have hC2 := hCT.grown hg2 (by have := hMT.lt; omega)
                have hW2 := below_only hWT hg2 hbW
                clear hBT hCT hMT hWT hg2
                have q0 := hE2.cell 0
                have q1 := hE2.cell 1
                cases bt
                · have HN : Hid (s.okClaim c = false) := by show s.okClaim c = false; rw [← HAL.out, HO2.out]; rfl
                  clear HAL HO2
                  go_wp2
                  go_ret
                  exact ⟨ret_b HN.out.symm, hW2⟩
                · have HO3 : Hid (e.terms.all (s.okTerm c.vars) = s.okEq c.vars e) := by show _ = s.okEq c.vars e; rw [HO2.out]; rfl
                  clear HO2
                  go_wp2
                  obtain ⟨E, hE⟩ : ∃ E, E = wr.heap.size := ⟨_, rfl⟩
                  rw [← hE] at hE2 hbE ⊢
                  clear hE q0 q1
                  obtain ⟨wo, rfl⟩ : ∃ wo : World, wo = wr := ⟨_, rfl⟩
                  go_loopw [50] (fun i wr => ∃ (j m : Nat), j ≤ e.terms.length ∧ i = .int .i64 (j : Int) ∧ m ≤ 81 * k + 1 + j ∧ (e.terms.drop j).all (s.okTerm c.vars) = s.okEq c.vars e ∧ Memo s.P s.Q s.G gB mB b m wr ∧ Blk wr C 66 #[.int .i64 c.vars, .slice (some ⟨bk, off, none⟩) c.eqs.length cu] ∧ Blk wr E 91 #[.int .i64 e.target, .slice a1 e.terms.length c1] ∧ Below W.heap.size W wr) (fun i _ => e.terms.length - (intOf i).toNat)
                  case atStart => exact ⟨0, n + 1, Nat.zero_le _, rfl, by omega, HO3.out, hM2, hC2, hE2, hW2⟩
                  case round =>
                    clear hM2 hC2 hE2 hW2 HO3
                    obtain ⟨j, m, hj, rfl, hm, hal, hMr, hCr, hEr, hWr⟩ := hrel
                    by_cases hjl : j < e.terms.length
                    · obtain ⟨bt, ot, rfl, hbt, t, htk, y0', y1'⟩ := IsSl.at HT.out j hjl
                      have y0 : wr.cell? ⟨bt, ot + j * 2, none⟩ = some (.int .i64 t.1) := by rw [hWr.cell (p := ⟨bt, ot + j * 2, none⟩) hbt.2]; exact y0'
                      have y1 : wr.cell? ⟨bt, ot + j * 2 + 1, none⟩ = some (.int .i64 t.2) := by rw [hWr.cell (p := ⟨bt, ot + j * 2 + 1, none⟩) hbt.2]; exact y1'
                      have hti := HTI.out _ (List.getElem_mem hjl)
                      have HTL := Lib.hid ((all_drop (s.okTerm c.vars) e.terms j hjl).symm.trans hal)
                      rw [← htk] at hti HTL
                      obtain ⟨t1, t2⟩ := t
                      simp only at y0 y1 hti
                      have HOT : Hid (s.okTerm c.vars (t1, t2) = (decide (0 ≤ t1) && (decide (t1 < c.vars) && subB s.P s.Q t2))) := rfl
                      have ht2 := hti.2
                      have hbo := below_one wr (.cells #[.int .i64 t1, .int .i64 t2] 93)
                      have hBo := Blk.new wr 93 #[.int .i64 t1, .int .i64 t2]
                      have hMo := hMr.next hbo
                      have hCo := hCr.next hbo
                      have hEo := hEr.next hbo
                      have hWo := hWr.trans (hbo.mono hWr.size)
                      have hbl := hMr.lt
                      have hjl2 : (j : Int) < (e.terms.length : Int) := by omega
                      have q0 := hBo.cell 0
                      have q1 := hBo.cell 1
                      have p0 := hCo.cell 0
                      clear hal htk y0' y1' hti hMr hCr hEr hWr hbo hbt
                      by_cases h1 : t1 < 0
                      · have HN : Hid (s.okClaim c = false) := by
                          show s.okClaim c = false
                          rw [← HAL.out, ← HTL.out, HOT.out, decide_eq_false (by omega)]; rfl
                        clear HAL HTL HOT
                        go_wp2
                        go_ret
                        exact ⟨ret_b HN.out.symm, hWo⟩
                      · by_cases h2 : c.vars ≤ t1
                        · have HN : Hid (s.okClaim c = false) := by
                            show s.okClaim c = false
                            rw [← HAL.out, ← HTL.out, HOT.out, decide_eq_false (show ¬ t1 < c.vars by omega)]; simp
                          clear HAL HTL HOT
                          go_wp2
                          go_ret
                          exact ⟨ret_b HN.out.symm, hWo⟩
                        · have HO5 : Hid (s.okTerm c.vars (t1, t2) = subB s.P s.Q t2) := by
                            show s.okTerm c.vars (t1, t2) = _
                            rw [HOT.out, decide_eq_true (show 0 ≤ t1 by omega), decide_eq_true (show t1 < c.vars by omega)]; rfl
                          have cm := fun w hM => Lib.hid (memo_calls s.P s.Q s.G hQ gB mB b m (by omega) t2 ht2 w hM)
                          unfold MemoPost at cm
                          obtain ⟨bv, hbv⟩ : ∃ v, v = subB s.P s.Q t2 := ⟨_, rfl⟩
                          rw [← hbv] at cm HO5
                          clear HOT hbv
                          go_wp2_with fail
                          generalize (wr.alloc (.cells #[.int .i64 t1, .int .i64 t2] 93)) = W5 at *
                          refine Calls.mono (cm W5 hMo).out ?_
                          clear cm q0 q1 p0 y0 y1
                          rintro e5 w6 ⟨rfl, hM6, hg6⟩
                          have hE6 := hEo.grown hg6 (Ne.symm hbE)
                          have hC6 := hCo.grown hg6 (by omega)
                          have hW6 := below_only hWo hg6 hbW
                          clear hEo hCo hWo hMo hBo hg6
                          cases bv
                          · have HN : Hid (s.okClaim c = false) := by show s.okClaim c = false; rw [← HAL.out, ← HTL.out, HO5.out]; rfl
                            clear HAL HTL HO5
                            go_wp2
                            go_ret
                            exact ⟨ret_b HN.out.symm, hW6⟩
                          · have HN : Hid ((e.terms.drop (j + 1)).all (s.okTerm c.vars) = s.okEq c.vars e) := by show _ = s.okEq c.vars e; rw [← HTL.out, HO5.out]; rfl
                            clear HTL HO5
                            go_wp2
                            go_roundw
                            case rel => exact ⟨j + 1, m + 1, by omega, by go_num, by omega, HN.out, hM6, hC6, hE6, hW6⟩
                            case measure => simp [intOf]; omega
                    · obtain rfl : j = e.terms.length := by omega
                      have HN : Hid ((c.eqs.drop (k + 1)).all (s.okEq c.vars) = s.okClaim c) := by
                        show _ = s.okClaim c
                        rw [← HAL.out, ← hal, List.drop_length]; rfl
                      clear hal HAL
                      go_wp2
                      go_roundw
                      case rel => exact ⟨k + 1, m, by omega, by go_num, by omega, HN.out, hMr, hCr, hWr⟩
                      case measure => simp [intOf]; omega
            · obtain rfl : k = c.eqs.length := by omega
              have HN : Hid (s.okClaim c = true) := by show s.okClaim c = true; rw [← hal, List.drop_length]; rfl
              clear hal
              go_wp2
              go_ret
              exact ⟨ret_b HN.out.symm, hWr⟩
end Go.Proofs.YthnkfjjgccabeaaGreatDoor
/- Holds. (Written by tools/mkhold.py.) -/
namespace Go.Proofs.YthnkfjjgccabeaaGreatDoor
open Go.RowKit

def SetD.HoldsF (s : SetD) (c : ClaimD) (vals : List Int) : Bool := s.valid && (s.okClaim c && (fitsF s.Q c.vars vals && s.holdsF c vals))
/-- What every world of the region holds: the setup's block, and the claim's. -/
def HoldS (s : SetD) (c : ClaimD) (vb : Value) (au : Option Addr) (cu B : Nat) (W0 w' : World) : Prop :=
  w'.cell? ⟨B, 0, none⟩ = some (.int .i64 s.P) ∧ w'.cell? ⟨B, 1, none⟩ = some (.int .i64 s.Q) ∧ w'.cell? ⟨B, 2, none⟩ = some (.int .i64 s.G) ∧ w'.cell? ⟨B, 3, none⟩ = some vb ∧ w'.cell? ⟨B, 4, none⟩ = some (.int .i64 s.H) ∧ w'.cell? ⟨B + 1, 0, none⟩ = some (.int .i64 c.vars) ∧ w'.cell? ⟨B + 1, 1, none⟩ = some (.slice au c.eqs.length cu) ∧ Below W0.heap.size W0 w'
theorem okTerms_in {s : SetD} {c : ClaimD} {vals : List Int} (h : s.okClaim c = true) (hf : fitsF s.Q c.vars vals = true) : ∀ e ∈ c.eqs, ∀ t ∈ e.terms, 0 ≤ t.1 ∧ t.1 < (vals.length : Int) := by
  intro e he t ht
  unfold SetD.okClaim at h
  unfold fitsF at hf
  simp only [Bool.and_eq_true, decide_eq_true_eq, List.all_eq_true] at h hf
  have h1 := h.2 e he
  unfold SetD.okEq at h1
  simp only [Bool.and_eq_true, decide_eq_true_eq, List.all_eq_true] at h1
  have h2 := h1.2.2 t ht
  unfold SetD.okTerm at h2
  simp only [Bool.and_eq_true, decide_eq_true_eq] at h2
  rw [hf.1]
  exact ⟨h2.1, h2.2.1⟩

set_option maxRecDepth 100000 in
set_option maxHeartbeats 8000000 in
theorem Holds_calls (s : SetD) (hi : s.ints) (vb : Value) (c : ClaimD) (hc : c.ints) (vals : List Int) (hvi : ∀ x ∈ vals, isInt x) (hvl : vals.length ≤ 9223372036854775807) (u v : Value) (w : World) (hE : Env w) (hb0' : IsNums vb s.bs w) (hu : IsEqs 0 u c.eqs w) (hv : IsNums v vals w) :
    Calls Tryz.prog 20 #[s.val vb, .agg #[.int .i64 c.vars, u], v] w fun e' w' => e' = .returned (.bool (s.HoldsF c vals)) ∧ Below w.heap.size w w' := by
  have HF : Hid (s.HoldsF c vals = (s.valid && (s.okClaim c && (fitsF s.Q c.vars vals && s.holdsF c vals)))) := rfl
  obtain ⟨au, cu, rfl⟩ := IsSl.len hu
  have hb := below_one w (.cells (s.cells vb) 34)
  have hS0 : SetAt s vb w.heap.size (w.alloc (.cells (s.cells vb) 34)) := Blk.new w _ _
  have hb0 := Below.alloc_ hb (.cells #[.int .i64 c.vars, .slice au c.eqs.length cu] 66)
  have hS1 := hS0.next (below_one _ (.cells #[.int .i64 c.vars, .slice au c.eqs.length cu] 66))
  have hC := Blk.new' (alloc_size w (.cells (s.cells vb) 34)) 66 #[.int .i64 c.vars, .slice au c.eqs.length cu]
  have k1 := fun w0 (hE : Env w0) (h : IsNums vb s.bs w0) => Lib.hid (DoesE.mk (w0 := w0) (fun w hb => vset_calls s hi vb w (hE.next hb) (h.next hb)))
  have hE1 := hE.next hb0
  have hs1 := hb0'.next hb0
  have HU := Lib.hid (hu.hi (Hi.below hb0))
  have HVV := Lib.hid (hv.next hb0)
  obtain ⟨av, cv, rfl⟩ := hv.len
  have hin := fun h1 h2 => okTerms_in (s := s) (c := c) (vals := vals) h1 h2
  have HIN := Lib.hid hin
  have HQ := Lib.hid hi.Q
  have HCI := Lib.hid hc
  have HVI := Lib.hid hvi
  unfold SetD.val at *
  unfold SetD.cells at hS1 hb0 hC hE1 hs1 HU HVV
  clear hS0 hb hE hb0' hu hv hin
  go_enter Tryz.func20, Tryz.ntmps20
  go_wp2_with fail
  generalize ((w.alloc (.cells #[.int .i64 s.P, .int .i64 s.Q, .int .i64 s.G, vb, .int .i64 s.H] 34)).alloc (.cells #[.int .i64 c.vars, .slice au c.eqs.length cu] 66)) = W0 at *
  have j1 := k1 W0 hE1 hs1
  have HK : Hid (∀ w', Below W0.heap.size W0 w' → HoldS s c vb au cu w.heap.size W0 w') := by
    show ∀ w', Below W0.heap.size W0 w' → HoldS s c vb au cu w.heap.size W0 w'
    intro w' h
    obtain ⟨z0, z1, z2, z3, z4⟩ := (show SetAt s vb w.heap.size W0 from hS1).next h |>.get
    have hD := hC.next h
    exact ⟨z0, z1, z2, z3, z4, hD.cell 0, hD.cell 1, h⟩
  have j2' := fun (w3 : World) (hb3 : Below W0.heap.size W0 w3) (gB mB b : Nat) (w4 : World) (hb4 : Below w3.heap.size w3 w4) (hbb : w3.heap.size ≤ b) (hM : Memo s.P s.Q s.G gB mB b 0 w4) => Lib.hid (vclaim_calls s HQ.out c HCI.out _ gB mB b w3 w4 hb4 hbb (HU.out.hi (Hi.below hb3)) hM)
  have j3 := fun (w5 : World) (hb5 : Below W0.heap.size W0 w5) => Lib.hid (fits_calls s.Q c (.slice au c.eqs.length cu) (.slice av vals.length cv) vals hvl w5 (HVV.out.next hb5))
  have j4 := fun (w6 : World) (hb6 : Below W0.heap.size W0 w6) (h1 : s.okClaim c = true) (h2 : fitsF s.Q c.vars vals = true) => Lib.hid (holds_calls s c HCI.out vals HVI.out (HIN.out h1 h2) (.slice au c.eqs.length cu) (.slice av vals.length cv) w6 (HU.out.hi (Hi.below hb6)) (HVV.out.next hb6))
  clear HIN
  generalize s.valid = V at *
  generalize s.okClaim c = V2 at *
  generalize fitsF s.Q c.vars vals = V3 at *
  generalize s.holdsF c vals = V4 at *
  clear k1 hS1 hC hE1 hs1 hvi hc hi
  refine wp_region_held_drew (S := HoldS s c vb au cu w.heap.size W0) (by kernel_rfl) (HK.out _ (below_drewN (Below.refl _ _) 1)) (fun hS => ?_)
  refine wpAnyH_take (i := 0) (v := .agg #[.int .i64 s.P, .int .i64 s.Q, .int .i64 s.G, vb, .int .i64 s.H]) rfl (by kernel_rfl) (by kernel_rfl) (by kernel_rfl) (fun _ _ _ h => h) (Or.inl ⟨rfl, fun W hW => (by obtain ⟨z0, z1, z2, z3, z4, z5, z6, -⟩ := hW; show (execOp _ _).run _ _ = _; go_simp)⟩) hS ?_
  refine wpAnyH_ready (rs := [1]) (by kernel_rfl) (by simp) ?_
  refine AllReadyH.cons rfl (fun K hK => ?_) AllReadyH.nil
  go_simp
  refine Calls.mono (j1.out _ _ (by with_reducible rfl) (below_drewN (Below.refl W0.heap.size W0) 1)) ?_
  rintro e w3 ⟨rfl, hb3, -⟩
  refine hK _ _ (HK.out _ hb3) (fun hS3 => ?_)
  clear hK K hS j1
  have hS := hS3
  clear hS3
  cases V
  · refine wpAnyH_take (i := 2) (v := .bool false) rfl (by kernel_rfl) (by kernel_rfl) (by kernel_rfl) (fun _ _ _ h => h) (Or.inl ⟨rfl, fun W _ => by kernel_rfl⟩) hS ?_
    refine wpAnyH_take (i := 3) (v := undef) rfl (by kernel_rfl) (by kernel_rfl) (by kernel_rfl) (fun _ _ _ h => h) (Or.inr ⟨by kernel_rfl, rfl⟩) hS ?_
    refine wpAnyH_take (i := 4) (v := undef) rfl (by kernel_rfl) (by kernel_rfl) (by kernel_rfl) (fun _ _ _ h => h) (Or.inr ⟨by kernel_rfl, rfl⟩) hS ?_
    refine wpAnyH_take (i := 5) (v := undef) rfl (by kernel_rfl) (by kernel_rfl) (by kernel_rfl) (fun _ _ _ h => h) (Or.inr ⟨by kernel_rfl, rfl⟩) hS ?_
    refine wpAnyH_take (i := 6) (v := undef) rfl (by kernel_rfl) (by kernel_rfl) (by kernel_rfl) (fun _ _ _ h => h) (Or.inr ⟨by kernel_rfl, rfl⟩) hS ?_
    refine wpAnyH_take (i := 7) (v := undef) rfl (by kernel_rfl) (by kernel_rfl) (by kernel_rfl) (fun _ _ _ h => h) (Or.inr ⟨by kernel_rfl, rfl⟩) hS ?_
    refine wpAnyH_take (i := 8) (v := .bool false) rfl (by kernel_rfl) (by kernel_rfl) (by kernel_rfl) (fun _ _ _ h => h) (Or.inl ⟨rfl, fun W _ => by kernel_rfl⟩) hS ?_
    refine wpAnyH_take (i := 9) (v := .bool false) rfl (by kernel_rfl) (by kernel_rfl) (by kernel_rfl) (fun _ _ _ h => h) (Or.inl ⟨rfl, fun W _ => by kernel_rfl⟩) hS ?_
    refine wpAnyH_take (i := 10) (v := undef) rfl (by kernel_rfl) (by kernel_rfl) (by kernel_rfl) (fun _ _ _ h => h) (Or.inr ⟨by kernel_rfl, rfl⟩) hS ?_
    refine wpAnyH_take (i := 11) (v := undef) rfl (by kernel_rfl) (by kernel_rfl) (by kernel_rfl) (fun _ _ _ h => h) (Or.inr ⟨by kernel_rfl, rfl⟩) hS ?_
    refine wpAnyH_take (i := 12) (v := undef) rfl (by kernel_rfl) (by kernel_rfl) (by kernel_rfl) (fun _ _ _ h => h) (Or.inr ⟨by kernel_rfl, rfl⟩) hS ?_
    refine wpAnyH_take (i := 13) (v := undef) rfl (by kernel_rfl) (by kernel_rfl) (by kernel_rfl) (fun _ _ _ h => h) (Or.inr ⟨by kernel_rfl, rfl⟩) hS ?_
    refine wpAnyH_take (i := 14) (v := undef) rfl (by kernel_rfl) (by kernel_rfl) (by kernel_rfl) (fun _ _ _ h => h) (Or.inr ⟨by kernel_rfl, rfl⟩) hS ?_
    refine wpAnyH_take (i := 15) (v := undef) rfl (by kernel_rfl) (by kernel_rfl) (by kernel_rfl) (fun _ _ _ h => h) (Or.inr ⟨by kernel_rfl, rfl⟩) hS ?_
    refine wpAnyH_take (i := 16) (v := .bool false) rfl (by kernel_rfl) (by kernel_rfl) (by kernel_rfl) (fun _ _ _ h => h) (Or.inl ⟨rfl, fun W _ => by kernel_rfl⟩) hS ?_
    refine wpAnyH_take (i := 17) (v := .bool false) rfl (by kernel_rfl) (by kernel_rfl) (by kernel_rfl) (fun _ _ _ h => h) (Or.inl ⟨rfl, fun W _ => by kernel_rfl⟩) hS ?_
    refine wpAnyH_take (i := 18) (v := undef) rfl (by kernel_rfl) (by kernel_rfl) (by kernel_rfl) (fun _ _ _ h => h) (Or.inr ⟨by kernel_rfl, rfl⟩) hS ?_
    refine wpAnyH_take (i := 19) (v := undef) rfl (by kernel_rfl) (by kernel_rfl) (by kernel_rfl) (fun _ _ _ h => h) (Or.inr ⟨by kernel_rfl, rfl⟩) hS ?_
    refine wpAnyH_take (i := 20) (v := undef) rfl (by kernel_rfl) (by kernel_rfl) (by kernel_rfl) (fun _ _ _ h => h) (Or.inr ⟨by kernel_rfl, rfl⟩) hS ?_
    refine wpAnyH_take (i := 21) (v := undef) rfl (by kernel_rfl) (by kernel_rfl) (by kernel_rfl) (fun _ _ _ h => h) (Or.inr ⟨by kernel_rfl, rfl⟩) hS ?_
    refine wpAnyH_take (i := 22) (v := undef) rfl (by kernel_rfl) (by kernel_rfl) (by kernel_rfl) (fun _ _ _ h => h) (Or.inr ⟨by kernel_rfl, rfl⟩) hS ?_
    refine wpAnyH_take (i := 23) (v := .bool false) rfl (by kernel_rfl) (by kernel_rfl) (by kernel_rfl) (fun _ _ _ h => h) (Or.inl ⟨rfl, fun W _ => by kernel_rfl⟩) hS ?_
    refine wpAnyH_take (i := 24) (v := .bool false) rfl (by kernel_rfl) (by kernel_rfl) (by kernel_rfl) (fun _ _ _ h => h) (Or.inl ⟨rfl, fun W _ => by kernel_rfl⟩) hS ?_
    refine wpAnyH_done (by kernel_rfl) ?_ _
    go_wp2
    go_ret
    exact ⟨Eq.trans (b := Ending.returned (.bool false)) (by kernel_rfl) (ret_b (by rw [HF.out]; rfl)), hb0.trans (hb3.mono hb0.size)⟩
  · refine wpAnyH_take (i := 2) (v := .bool true) rfl (by kernel_rfl) (by kernel_rfl) (by kernel_rfl) (fun _ _ _ h => h) (Or.inl ⟨rfl, fun W _ => by kernel_rfl⟩) hS ?_
    refine wpAnyH_take (i := 3) (v := .agg #[.int .i64 c.vars, .slice au c.eqs.length cu]) rfl (by kernel_rfl) (by kernel_rfl) (by kernel_rfl) (fun _ _ _ h => h) (Or.inl ⟨rfl, fun W hW => (by obtain ⟨z0, z1, z2, z3, z4, z5, z6, -⟩ := hW; show (execOp _ _).run _ _ = _; go_simp)⟩) hS ?_
    refine wpAnyH_take (i := 4) (v := .pointer (some ⟨w.heap.size, 0, none⟩)) rfl (by kernel_rfl) (by kernel_rfl) (by kernel_rfl) (fun _ _ _ h => h) (Or.inl ⟨rfl, fun W _ => by kernel_rfl⟩) hS ?_
    refine wpAnyH_take (i := 5) (v := .agg #[.int .i64 s.P, .int .i64 s.Q, .int .i64 s.G]) rfl (by kernel_rfl) (by kernel_rfl) (by kernel_rfl) (fun _ _ _ h => h) (Or.inl ⟨rfl, fun W hW => (by obtain ⟨z0, z1, z2, z3, z4, z5, z6, -⟩ := hW; show (execOp _ _).run _ _ = _; go_simp)⟩) hS ?_
    refine wpAnyH_ready (rs := [6]) (by kernel_rfl) (by simp) ?_
    refine AllReadyH.cons rfl (fun K hK => ?_) AllReadyH.nil
    go_simp
    refine Calls.mono (elems_calls s.P s.Q s.G w3) ?_
    rintro e w4 ⟨gB, mB, b, rfl, hM, hbb, hb4⟩
    have hb34 := hb3.trans (hb4.mono hb3.size)
    refine hK _ _ (HK.out _ hb34) (fun hS4 => ?_)
    clear hK K hS
    have hS := hS4
    clear hS4
    have j2 := j2' w3 hb3 gB mB b w4 hb4 hbb hM
    unfold memoV at *
    clear j2' hM hbb hb4
    refine wpAnyH_ready (rs := [7]) (by kernel_rfl) (by simp) ?_
    refine AllReadyH.cons rfl (fun K hK => ?_) AllReadyH.nil
    go_simp
    refine Calls.mono j2.out ?_
    rintro e w5 ⟨rfl, hb5⟩
    have hb35 := hb3.trans (hb5.mono hb3.size)
    refine hK _ _ (HK.out _ hb35) (fun hS5 => ?_)
    clear hK K hS j2
    have hS := hS5
    clear hS5 hb34
    cases V2
    · refine wpAnyH_take (i := 8) (v := .bool false) rfl (by kernel_rfl) (by kernel_rfl) (by kernel_rfl) (fun _ _ _ h => h) (Or.inl ⟨rfl, fun W _ => by kernel_rfl⟩) hS ?_
      refine wpAnyH_take (i := 9) (v := .bool false) rfl (by kernel_rfl) (by kernel_rfl) (by kernel_rfl) (fun _ _ _ h => h) (Or.inl ⟨rfl, fun W _ => by kernel_rfl⟩) hS ?_
      refine wpAnyH_take (i := 10) (v := undef) rfl (by kernel_rfl) (by kernel_rfl) (by kernel_rfl) (fun _ _ _ h => h) (Or.inr ⟨by kernel_rfl, rfl⟩) hS ?_
      refine wpAnyH_take (i := 11) (v := undef) rfl (by kernel_rfl) (by kernel_rfl) (by kernel_rfl) (fun _ _ _ h => h) (Or.inr ⟨by kernel_rfl, rfl⟩) hS ?_
      refine wpAnyH_take (i := 12) (v := undef) rfl (by kernel_rfl) (by kernel_rfl) (by kernel_rfl) (fun _ _ _ h => h) (Or.inr ⟨by kernel_rfl, rfl⟩) hS ?_
      refine wpAnyH_take (i := 13) (v := undef) rfl (by kernel_rfl) (by kernel_rfl) (by kernel_rfl) (fun _ _ _ h => h) (Or.inr ⟨by kernel_rfl, rfl⟩) hS ?_
      refine wpAnyH_take (i := 14) (v := undef) rfl (by kernel_rfl) (by kernel_rfl) (by kernel_rfl) (fun _ _ _ h => h) (Or.inr ⟨by kernel_rfl, rfl⟩) hS ?_
      refine wpAnyH_take (i := 15) (v := undef) rfl (by kernel_rfl) (by kernel_rfl) (by kernel_rfl) (fun _ _ _ h => h) (Or.inr ⟨by kernel_rfl, rfl⟩) hS ?_
      refine wpAnyH_take (i := 16) (v := .bool false) rfl (by kernel_rfl) (by kernel_rfl) (by kernel_rfl) (fun _ _ _ h => h) (Or.inl ⟨rfl, fun W _ => by kernel_rfl⟩) hS ?_
      refine wpAnyH_take (i := 17) (v := .bool false) rfl (by kernel_rfl) (by kernel_rfl) (by kernel_rfl) (fun _ _ _ h => h) (Or.inl ⟨rfl, fun W _ => by kernel_rfl⟩) hS ?_
      refine wpAnyH_take (i := 18) (v := undef) rfl (by kernel_rfl) (by kernel_rfl) (by kernel_rfl) (fun _ _ _ h => h) (Or.inr ⟨by kernel_rfl, rfl⟩) hS ?_
      refine wpAnyH_take (i := 19) (v := undef) rfl (by kernel_rfl) (by kernel_rfl) (by kernel_rfl) (fun _ _ _ h => h) (Or.inr ⟨by kernel_rfl, rfl⟩) hS ?_
      refine wpAnyH_take (i := 20) (v := undef) rfl (by kernel_rfl) (by kernel_rfl) (by kernel_rfl) (fun _ _ _ h => h) (Or.inr ⟨by kernel_rfl, rfl⟩) hS ?_
      refine wpAnyH_take (i := 21) (v := undef) rfl (by kernel_rfl) (by kernel_rfl) (by kernel_rfl) (fun _ _ _ h => h) (Or.inr ⟨by kernel_rfl, rfl⟩) hS ?_
      refine wpAnyH_take (i := 22) (v := undef) rfl (by kernel_rfl) (by kernel_rfl) (by kernel_rfl) (fun _ _ _ h => h) (Or.inr ⟨by kernel_rfl, rfl⟩) hS ?_
      refine wpAnyH_take (i := 23) (v := .bool false) rfl (by kernel_rfl) (by kernel_rfl) (by kernel_rfl) (fun _ _ _ h => h) (Or.inl ⟨rfl, fun W _ => by kernel_rfl⟩) hS ?_
      refine wpAnyH_take (i := 24) (v := .bool false) rfl (by kernel_rfl) (by kernel_rfl) (by kernel_rfl) (fun _ _ _ h => h) (Or.inl ⟨rfl, fun W _ => by kernel_rfl⟩) hS ?_
      refine wpAnyH_done (by kernel_rfl) ?_ _
      go_wp2
      go_ret
      exact ⟨Eq.trans (b := Ending.returned (.bool false)) (by kernel_rfl) (ret_b (by rw [HF.out]; rfl)), hb0.trans (hb35.mono hb0.size)⟩
    · refine wpAnyH_take (i := 8) (v := .bool true) rfl (by kernel_rfl) (by kernel_rfl) (by kernel_rfl) (fun _ _ _ h => h) (Or.inl ⟨rfl, fun W _ => by kernel_rfl⟩) hS ?_
      refine wpAnyH_take (i := 9) (v := .bool true) rfl (by kernel_rfl) (by kernel_rfl) (by kernel_rfl) (fun _ _ _ h => h) (Or.inl ⟨rfl, fun W _ => by kernel_rfl⟩) hS ?_
      refine wpAnyH_take (i := 10) (v := .pointer (some ⟨w.heap.size, 0, none⟩)) rfl (by kernel_rfl) (by kernel_rfl) (by kernel_rfl) (fun _ _ _ h => h) (Or.inl ⟨rfl, fun W _ => by kernel_rfl⟩) hS ?_
      refine wpAnyH_take (i := 11) (v := .pointer (some ⟨w.heap.size, 1, none⟩)) rfl (by kernel_rfl) (by kernel_rfl) (by kernel_rfl) (fun _ _ _ h => h) (Or.inl ⟨rfl, fun W _ => by kernel_rfl⟩) hS ?_
      refine wpAnyH_take (i := 12) (v := .int .i64 s.Q) rfl (by kernel_rfl) (by kernel_rfl) (by kernel_rfl) (fun _ _ _ h => h) (Or.inl ⟨rfl, fun W hW => (by obtain ⟨z0, z1, z2, z3, z4, z5, z6, -⟩ := hW; show (execOp _ _).run _ _ = _; go_simp)⟩) hS ?_
      refine wpAnyH_take (i := 13) (v := .agg #[.int .i64 c.vars, .slice au c.eqs.length cu]) rfl (by kernel_rfl) (by kernel_rfl) (by kernel_rfl) (fun _ _ _ h => h) (Or.inl ⟨rfl, fun W hW => (by obtain ⟨z0, z1, z2, z3, z4, z5, z6, -⟩ := hW; show (execOp _ _).run _ _ = _; go_simp)⟩) hS ?_
      refine wpAnyH_take (i := 14) (v := .slice av vals.length cv) rfl (by kernel_rfl) (by kernel_rfl) (by kernel_rfl) (fun _ _ _ h => h) (Or.inl ⟨rfl, fun W _ => by kernel_rfl⟩) hS ?_
      refine wpAnyH_ready (rs := [15]) (by kernel_rfl) (by simp) ?_
      refine AllReadyH.cons rfl (fun K hK => ?_) AllReadyH.nil
      go_simp
      refine Calls.mono (j3 w5 hb35).out ?_
      rintro e w6 ⟨rfl, hb6⟩
      have hb36 := hb35.trans (hb6.mono hb35.size)
      refine hK _ _ (HK.out _ hb36) (fun hS6 => ?_)
      clear hK K hS j3 hb6
      have hS := hS6
      clear hS6
      cases V3
      · refine wpAnyH_take (i := 16) (v := .bool false) rfl (by kernel_rfl) (by kernel_rfl) (by kernel_rfl) (fun _ _ _ h => h) (Or.inl ⟨rfl, fun W _ => by kernel_rfl⟩) hS ?_
        refine wpAnyH_take (i := 17) (v := .bool false) rfl (by kernel_rfl) (by kernel_rfl) (by kernel_rfl) (fun _ _ _ h => h) (Or.inl ⟨rfl, fun W _ => by kernel_rfl⟩) hS ?_
        refine wpAnyH_take (i := 18) (v := undef) rfl (by kernel_rfl) (by kernel_rfl) (by kernel_rfl) (fun _ _ _ h => h) (Or.inr ⟨by kernel_rfl, rfl⟩) hS ?_
        refine wpAnyH_take (i := 19) (v := undef) rfl (by kernel_rfl) (by kernel_rfl) (by kernel_rfl) (fun _ _ _ h => h) (Or.inr ⟨by kernel_rfl, rfl⟩) hS ?_
        refine wpAnyH_take (i := 20) (v := undef) rfl (by kernel_rfl) (by kernel_rfl) (by kernel_rfl) (fun _ _ _ h => h) (Or.inr ⟨by kernel_rfl, rfl⟩) hS ?_
        refine wpAnyH_take (i := 21) (v := undef) rfl (by kernel_rfl) (by kernel_rfl) (by kernel_rfl) (fun _ _ _ h => h) (Or.inr ⟨by kernel_rfl, rfl⟩) hS ?_
        refine wpAnyH_take (i := 22) (v := undef) rfl (by kernel_rfl) (by kernel_rfl) (by kernel_rfl) (fun _ _ _ h => h) (Or.inr ⟨by kernel_rfl, rfl⟩) hS ?_
        refine wpAnyH_take (i := 23) (v := .bool false) rfl (by kernel_rfl) (by kernel_rfl) (by kernel_rfl) (fun _ _ _ h => h) (Or.inl ⟨rfl, fun W _ => by kernel_rfl⟩) hS ?_
        refine wpAnyH_take (i := 24) (v := .bool false) rfl (by kernel_rfl) (by kernel_rfl) (by kernel_rfl) (fun _ _ _ h => h) (Or.inl ⟨rfl, fun W _ => by kernel_rfl⟩) hS ?_
        refine wpAnyH_done (by kernel_rfl) ?_ _
        go_wp2
        go_ret
        exact ⟨Eq.trans (b := Ending.returned (.bool false)) (by kernel_rfl) (ret_b (by rw [HF.out]; rfl)), hb0.trans (hb36.mono hb0.size)⟩
      · refine wpAnyH_take (i := 16) (v := .bool true) rfl (by kernel_rfl) (by kernel_rfl) (by kernel_rfl) (fun _ _ _ h => h) (Or.inl ⟨rfl, fun W _ => by kernel_rfl⟩) hS ?_
        refine wpAnyH_take (i := 17) (v := .bool true) rfl (by kernel_rfl) (by kernel_rfl) (by kernel_rfl) (fun _ _ _ h => h) (Or.inl ⟨rfl, fun W _ => by kernel_rfl⟩) hS ?_
        refine wpAnyH_take (i := 18) (v := .pointer (some ⟨w.heap.size, 0, none⟩)) rfl (by kernel_rfl) (by kernel_rfl) (by kernel_rfl) (fun _ _ _ h => h) (Or.inl ⟨rfl, fun W _ => by kernel_rfl⟩) hS ?_
        refine wpAnyH_take (i := 19) (v := .agg #[.int .i64 s.P, .int .i64 s.Q, .int .i64 s.G]) rfl (by kernel_rfl) (by kernel_rfl) (by kernel_rfl) (fun _ _ _ h => h) (Or.inl ⟨rfl, fun W hW => (by obtain ⟨z0, z1, z2, z3, z4, z5, z6, -⟩ := hW; show (execOp _ _).run _ _ = _; go_simp)⟩) hS ?_
        refine wpAnyH_take (i := 20) (v := .agg #[.int .i64 c.vars, .slice au c.eqs.length cu]) rfl (by kernel_rfl) (by kernel_rfl) (by kernel_rfl) (fun _ _ _ h => h) (Or.inl ⟨rfl, fun W hW => (by obtain ⟨z0, z1, z2, z3, z4, z5, z6, -⟩ := hW; show (execOp _ _).run _ _ = _; go_simp)⟩) hS ?_
        refine wpAnyH_take (i := 21) (v := .slice av vals.length cv) rfl (by kernel_rfl) (by kernel_rfl) (by kernel_rfl) (fun _ _ _ h => h) (Or.inl ⟨rfl, fun W _ => by kernel_rfl⟩) hS ?_
        refine wpAnyH_ready (rs := [22]) (by kernel_rfl) (by simp) ?_
        refine AllReadyH.cons rfl (fun K hK => ?_) AllReadyH.nil
        go_simp
        refine Calls.mono (j4 w6 hb36 rfl rfl).out ?_
        rintro e w7 ⟨rfl, hb7⟩
        have hb37 := hb36.trans (hb7.mono hb36.size)
        refine hK _ _ (HK.out _ hb37) (fun hS7 => ?_)
        clear hK K hS j4 hb7
        have hS := hS7
        clear hS7
        refine wpAnyH_take (i := 23) (v := .bool V4) rfl (by kernel_rfl) (by kernel_rfl) (by kernel_rfl) (fun _ _ _ h => h) (Or.inl ⟨rfl, fun W _ => by kernel_rfl⟩) hS ?_
        refine wpAnyH_take (i := 24) (v := .bool V4) rfl (by kernel_rfl) (by kernel_rfl) (by kernel_rfl) (fun _ _ _ h => h) (Or.inl ⟨rfl, fun W _ => by kernel_rfl⟩) hS ?_
        refine wpAnyH_done (by kernel_rfl) ?_ _
        go_wp2
        go_ret
        exact ⟨Eq.trans (b := Ending.returned (.bool V4)) (by kernel_rfl) (ret_b (by rw [HF.out]; rfl)), hb0.trans (hb37.mono hb0.size)⟩
end Go.Proofs.YthnkfjjgccabeaaGreatDoor
