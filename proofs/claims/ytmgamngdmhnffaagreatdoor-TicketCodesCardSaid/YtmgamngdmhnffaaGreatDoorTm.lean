/- Marks; opening a setup. -/
import Derived.Test.YtmgamngdmhnffaaGreatDoorToi
namespace Go.Proofs.YtmgamngdmhnffaaGreatDoor
open Go.RowKit

/-- Worlds above a world. -/
structure Up (wr : World) where
  w : World
  b : Below wr.heap.size wr w
instance Up.any (wr : World) : Nonempty (Up wr) := ⟨⟨wr, Below.refl _ _⟩⟩
theorem wp_region_up {P : Program} {id : Nat} {Q : Exit → Act → World → Prop} {a : Act} {w : World} {l : List Oper} (hm : P.follows .mixedOrders = true) (hB : Region.lexB .any l.toArray = true)
    (h : wpQuiet P l.toArray (fun w' => ∃ u : Up w, w' = u.w) (fun a' => ∀ w', (∃ u : Up w, w' = u.w) → Q .normal a' w') l a) : (Code.region id l.toArray true).wp P Q a w :=
  wp_region_quiet (C := fun w' => ∃ u : Up w, w' = u.w) hm hB ⟨⟨_, below_drewN (Below.refl _ _) 1⟩, rfl⟩ (by simpa using h)

set_option maxHeartbeats 1000000 in
theorem attr_calls (s : SetD) (vb v : Value) (l : List Int) (hl : l.length ≤ 9223372036854775807) (hs2 : 2 ≤ s.bs.length) (hsl : s.bs.length ≤ 9223372036854775807) (w : World) (hb0 : IsNums vb s.bs w) (hv : IsNums v l w) :
    Calls Tryz.prog 33 #[s.val vb, v] w fun e w' => e = .returned (.bool (s.attrB l)) ∧ Below w.heap.size w w' := by
  obtain ⟨a, c, rfl⟩ := hv.len
  obtain ⟨ab, cb, rfl⟩ := hb0.len
  have hb := below_one w (.cells (s.cells (.slice ab s.bs.length cb)) 59)
  have hS : GAt s (.slice ab s.bs.length cb) w.heap.size (w.alloc (.cells (s.cells (.slice ab s.bs.length cb)) 59)) := Blk.new w _ _
  have hn := hv.next hb
  have c1 := Lib.hid (nums_calls s (.slice ab s.bs.length cb) (.slice a l.length c) l hl _ hn)
  have HF : Hid (s.attrB l = (decide ((l.length : Int) = (s.bs.length : Int) - 1) && (l.all (exB s.Q) && decide (l.getD 0 0 ≠ 0)))) := rfl
  unfold SetD.val at *
  unfold SetD.cells at hS hb hn c1
  obtain ⟨z0, z1, z2, z3, z4⟩ := hS.get
  have HN := Lib.hid hn
  have HB := Lib.hid hb
  have HS := Lib.hid hS
  clear hb0 hv hn hb hS
  by_cases h1 : (l.length : Int) = (s.bs.length : Int) - 1
  · rw [decide_eq_true h1] at HF
    have hpos : 0 < l.length := by omega
    have hbe : ((l.length : Int) == (s.bs.length : Int) - 1) = true := beq_iff_eq.2 h1
    clear h1
    go_enter Tryz.func33, Tryz.ntmps33
    go_wp2_with fail
    generalize w.alloc (.cells #[.int .i64 s.P, .int .i64 s.Q, .int .i64 s.G, .slice ab s.bs.length cb, .int .i64 s.H] 59) = W0 at *
    refine c1.out.mono ?_
    clear c1 z0 z1 z2 z3 z4
    rintro e w1 ⟨rfl, hb1⟩
    obtain ⟨bk, off, rfl, _, x, hx, y0⟩ := (HN.out.next hb1).at 0 hpos
    rw [Nat.add_zero] at y0
    have hx0 : l.getD 0 0 = x := by rw [hx, List.getD_eq_getElem?_getD, List.getElem?_eq_getElem hpos]; rfl
    rw [hx0] at HF
    have HB1 := Lib.hid (HB.out.trans (hb1.mono HB.out.size))
    generalize l.all (exB s.Q) = B at *
    clear hx hx0 hb1
    cases B
    · have HR : Hid (s.attrB l = false) := by show _ = _; rw [HF.out]; rfl
      go_wp2
      go_ret
      exact ⟨ret_b HR.out.symm, HB1.out⟩
    · by_cases h0 : x = 0
      · have hb0 : (x != 0) = false := by simp [h0]
        have HR : Hid (s.attrB l = false) := by show _ = _; rw [HF.out, h0]; rfl
        clear h0
        go_wp2
        go_ret
        exact ⟨ret_b HR.out.symm, HB1.out⟩
      · have hb0 : (x != 0) = true := bne_iff_ne.2 h0
        have HR : Hid (s.attrB l = true) := by show _ = _; rw [HF.out, decide_eq_true h0]; rfl
        clear h0
        go_wp2
        go_ret
        exact ⟨ret_b HR.out.symm, HB1.out⟩
  · have HR : Hid (s.attrB l = false) := by show _ = _; rw [HF.out, decide_eq_false h1]; rfl
    have hbe : ((l.length : Int) == (s.bs.length : Int) - 1) = false := by simpa using h1
    clear h1 c1 HF
    go_enter Tryz.func33, Tryz.ntmps33
    go_wp2
    go_ret
    exact ⟨ret_b HR.out.symm, HB.out⟩

theorem exps_calls (v : Value) (l : List Int) (hl : l.length ≤ 100000000) (w : World) (hv : IsNums v l w) :
    Calls Tryz.prog 42 #[v] w fun e w' => ∃ a c, e = .returned (.slice a (l.length + 1) c) ∧ IsNums (.slice a (l.length + 1) c) (1 :: l) w' ∧ Below w.heap.size w w' := by
  have hO := own_one w 1
  have hb := below_one w (.cells #[.int .i64 1] 3)
  have HN := Lib.hid (hv.next hb)
  obtain ⟨av, cv, rfl⟩ := hv.len
  have HO := Lib.hid hO
  have HB := Lib.hid hb
  clear hO hb hv
  go_enter Tryz.func42, Tryz.ntmps42
  go_wp2_with (at_builtin; refine wpList_ints rfl _ _ rfl rfl rfl rfl HO.out HN.out (by simp; omega) HB.out.size ?_)
  intro v1 w1 hO1 hgr
  have hb1 := OInts.below HO.out HB.out hgr
  have hO2 : OInts w.heap.size v1 (1 :: l) w1 := hO1
  obtain ⟨a1, c1, hv1⟩ := hO2.form
  have hv1 : v1 = .slice a1 (l.length + 1) c1 := hv1
  subst hv1
  have HN1 := Lib.hid hO2.nums
  clear HO HN HB hO1 hO2 hgr
  go_wp2
  go_ret
  exact ⟨a1, c1, rfl, HN1.out, hb1⟩

set_option maxHeartbeats 1000000 in
theorem gmark_calls (s : SetD) (hi : s.ints) (vb v : Value) (l : List Int) (hli : ∀ x ∈ l, isInt x) (hl : l.length ≤ 100000000) (hbl : s.bs.length ≤ 4294967296) (w : World) (hb0 : IsNums vb s.bs w) (hv : IsNums v l w) :
    Calls Tryz.prog 25 #[s.val vb, v] w fun e w' => e = .returned (.int .i64 (s.markT l)) ∧ Below w.heap.size w w' := by
  obtain ⟨a, c, rfl⟩ := hv.len
  have hb := below_one w (.cells (s.cells vb) 59)
  have hS : GAt s vb w.heap.size (w.alloc (.cells (s.cells vb) 59)) := Blk.new w _ _
  have HX : Hid (s.prodN (1 :: l) = s.markT l) := rfl
  obtain ⟨M, hM⟩ : ∃ M, M = s.markT l := ⟨_, rfl⟩
  rw [← hM] at HX ⊢
  have hn := hv.next hb
  have hbn := hb0.next hb
  unfold SetD.val
  have HSV : Hid (s.val vb = .agg #[.int .i64 s.P, .int .i64 s.Q, .int .i64 s.G, vb, .int .i64 s.H]) := rfl
  unfold SetD.cells at hS hb hn hbn
  obtain ⟨W0, hW0⟩ : ∃ W0, W0 = w.alloc (.cells #[.int .i64 s.P, .int .i64 s.Q, .int .i64 s.G, vb, .int .i64 s.H] 59) := ⟨_, rfl⟩
  rw [← hW0] at hS hb hn hbn
  have HK : Hid (∀ w', Below W0.heap.size W0 w' → w'.cell? ⟨w.heap.size, 0, none⟩ = some (.int .i64 s.P) ∧ w'.cell? ⟨w.heap.size, 1, none⟩ = some (.int .i64 s.Q) ∧ w'.cell? ⟨w.heap.size, 2, none⟩ = some (.int .i64 s.G) ∧ w'.cell? ⟨w.heap.size, 3, none⟩ = some vb ∧ w'.cell? ⟨w.heap.size, 4, none⟩ = some (.int .i64 s.H) ∧ Below W0.heap.size W0 w') := by
    show ∀ w', _
    intro w' h
    obtain ⟨z0, z1, z2, z3, z4⟩ := (hS.next h).get
    exact ⟨z0, z1, z2, z3, z4, h⟩
  have k1 : Hid (∀ w', Below W0.heap.size W0 w' → Calls Tryz.prog 42 #[.slice a l.length c] w' fun e w'' => ∃ a' c', e = .returned (.slice a' (l.length + 1) c') ∧ IsNums (.slice a' (l.length + 1) c') (1 :: l) w'' ∧ Below W0.heap.size W0 w'') := by
    show ∀ w', _
    intro w' h
    refine (exps_calls (.slice a l.length c) l hl w' (hn.next h)).mono ?_
    rintro e w'' ⟨a', c', h1, h2, h3⟩
    exact ⟨a', c', h1, h2, h.trans (h3.mono h.size)⟩
  have k2 : Hid (∀ a' c' w', IsNums (.slice a' (l.length + 1) c') (1 :: l) w' → Below W0.heap.size W0 w' → Calls Tryz.prog 41 #[.agg #[.int .i64 s.P, .int .i64 s.Q, .int .i64 s.G, vb, .int .i64 s.H], .slice a' (l.length + 1) c'] w' fun e w'' => e = .returned (.int .i64 M) ∧ Below W0.heap.size W0 w'') := by
    show ∀ a' c' w', _
    intro a' c' w' hn' h
    have := gproduct_calls s hi vb (.slice a' (l.length + 1) c') (1 :: l) (by intro x hx; rcases List.mem_cons.1 hx with rfl | hx; exact ⟨by omega, by omega⟩; exact hli x hx) (by simp; omega) hbl w' (hbn.next h) hn'
    rw [HX.out, HSV.out] at this
    refine this.mono ?_
    rintro e w'' ⟨h1, h2⟩
    exact ⟨h1, h.trans (h2.mono h.size)⟩
  obtain ⟨z0, z1, z2, z3, z4⟩ := hS.get
  have HB := Lib.hid hb
  rw [hW0] at z0 z1 z2 z3 z4
  clear hS hb hn hbn hb0 hv hM
  go_enter Tryz.func25, Tryz.ntmps25
  go_wp2
  rw [← hW0] at z0 z1 z2 z3 z4 ⊢
  clear hW0
  go_region_held3 (fun w' => w'.cell? ⟨w.heap.size, 0, none⟩ = some (.int .i64 s.P) ∧ w'.cell? ⟨w.heap.size, 1, none⟩ = some (.int .i64 s.Q) ∧ w'.cell? ⟨w.heap.size, 2, none⟩ = some (.int .i64 s.G) ∧ w'.cell? ⟨w.heap.size, 3, none⟩ = some vb ∧ w'.cell? ⟨w.heap.size, 4, none⟩ = some (.int .i64 s.H) ∧ Below W0.heap.size W0 w')
    (first | exact HK.out _ (by assumption) | exact HK.out _ (below_drewN (Below.refl W0.heap.size W0) 1) | exact HK.out _ (Below.refl W0.heap.size W0))
    (first
      | (go_at_call 42; refine Calls.mono (k1.out _ (by first | assumption | exact below_drewN (Below.refl W0.heap.size W0) 1)) ?_; rintro e w3 ⟨a3, c3, rfl, hn3, hb3⟩)
      | (go_at_call 41; refine Calls.mono (k2.out _ _ _ hn3 (by assumption)) ?_; rintro e w4 ⟨rfl, hb4⟩))
  all_goals
    go_wp2
    go_ret
    exact ⟨rfl, HB.out.trans (hb4.mono HB.out.size)⟩

set_option maxHeartbeats 1000000 in
theorem us_calls (s : SetD) (hi : s.ints) (vb v : Value) (l : List Int) (hli : ∀ x ∈ l, isInt x) (hl : l.length ≤ 100000000) (hs2 : 2 ≤ s.bs.length) (hbl : s.bs.length ≤ 4294967296) (w : World) (hb0 : IsNums vb s.bs w) (hv : IsNums v l w) :
    Calls Tryz.prog 22 #[s.val vb, v] w fun e w' => e = .returned (.bool (s.usB l)) ∧ Below w.heap.size w w' := by
  have hb := below_one w (.cells (s.cells vb) 59)
  have hS : GAt s vb w.heap.size (w.alloc (.cells (s.cells vb) 59)) := Blk.new w _ _
  have HF : Hid (s.usB l = (s.attrB l && decide (s.markT l ≠ 1))) := rfl
  have c1 := Lib.hid (attr_calls s vb v l (by omega) hs2 (by omega) _ (hb0.next hb) (hv.next hb))
  have c2 := fun w' (h : Below w.heap.size w w') => Lib.hid (gmark_calls s hi vb v l hli hl hbl w' (hb0.next h) (hv.next h))
  generalize s.attrB l = A at *
  generalize s.markT l = M at *
  obtain ⟨a, c, rfl⟩ := hv.len
  obtain ⟨ab, cb, rfl⟩ := hb0.len
  unfold SetD.val at *
  unfold SetD.cells at hS hb c1
  obtain ⟨z0, z1, z2, z3, z4⟩ := hS.get
  clear hb0 hv
  go_enter Tryz.func22, Tryz.ntmps22
  go_wp2_with fail
  generalize w.alloc (.cells #[.int .i64 s.P, .int .i64 s.Q, .int .i64 s.G, .slice ab s.bs.length cb, .int .i64 s.H] 59) = W0 at *
  have hS0 : GAt s (.slice ab s.bs.length cb) w.heap.size W0 := hS
  refine c1.out.mono ?_
  clear c1 z0 z1 z2 z3 z4 hS
  rintro e w1 ⟨rfl, hb1⟩
  have hB1 := hb.trans (hb1.mono hb.size)
  obtain ⟨z0, z1, z2, z3, z4⟩ := (hS0.next hb1).get
  clear hb hS0 hb1
  cases A
  · go_wp2
    go_ret
    exact ⟨ret_b HF.out.symm, hB1⟩
  · have c2 := c2 w1 hB1
    go_wp2_with fail
    refine c2.out.mono ?_
    clear c2
    rintro e w2 ⟨rfl, hb2⟩
    have hB2 := hB1.trans (hb2.mono hB1.size)
    by_cases h1 : M = 1
    · have hbn : (M != 1) = false := by simp [h1]
      have HR : Hid (s.usB l = false) := by show _ = _; rw [HF.out, h1]; rfl
      clear h1 hb2 hB1
      go_wp2
      go_ret
      exact ⟨ret_b HR.out.symm, hB2⟩
    · have hbn : (M != 1) = true := bne_iff_ne.2 h1
      have HR : Hid (s.usB l = true) := by show _ = _; rw [HF.out, decide_eq_true h1]; rfl
      clear h1 hb2 hB1
      go_wp2
      go_ret
      exact ⟨ret_b HR.out.symm, hB2⟩
end Go.Proofs.YtmgamngdmhnffaaGreatDoor
