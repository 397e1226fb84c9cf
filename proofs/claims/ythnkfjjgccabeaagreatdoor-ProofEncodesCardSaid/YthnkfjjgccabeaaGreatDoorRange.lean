/- Range. -/
import Derived.Test.YthnkfjjgccabeaaGreatDoorBitc
import Derived.Deep.RegionLawGrows
namespace Go.Proofs.YthnkfjjgccabeaaGreatDoor
open Go.RowKit

def SetD.rangeF (s : SetD) (c : Int) (bits : List Int) : List ClauseD := if (s.canWeigh bits && s.el c) = true then (bits.map fun x => ⟨1, s.bitC x⟩) ++ [⟨1, [s.pob (s.ov c (s.weigh bits))]⟩] else []
theorem VRow.holds {g n : Nat} {f : Nat → Value} {w : World} (h : VRow g n f w) : ∀ b, (some ⟨g, 0, none⟩ : Option Addr) = some b → ∀ j u, ((List.range n).map f)[j]? = some u → w.cell? (b.add j) = some u := by
  intro b hb j u hj
  obtain rfl := Option.some.inj hb
  rw [List.getElem?_map] at hj
  have hlt : j < n := by
    rcases Nat.lt_or_ge j n with h' | h'
    · exact h'
    · rw [List.getElem?_eq_none (by simpa using h')] at hj; cases hj
  rw [List.getElem?_range hlt] at hj
  obtain rfl := Option.some.inj hj
  have := h.at' j hlt
  by_cases e : j = 0
  · subst e; simpa [Addr.add] using this
  · simpa [Addr.add, e] using this
theorem Blk.news {w : World} {g : Nat} {t : TypeId} {a b : Value} (h : Blk w g t #[a, b]) : ∀ j u, [a, b][j]? = some u → w.cell? ((⟨g, 0, none⟩ : Addr).add j) = some u := by
  intro j u hj
  match j, hj with
  | 0, hj => simp at hj; subst hj; exact h.cell 0
  | 1, hj => simp at hj; subst hj; exact h.cell 1
theorem below_store2 {a w : World} {b o1 o2 : Nat} {u v : Value} (h : Below a.heap.size a w) (hb : a.heap.size ≤ b) : Below a.heap.size a ((w.setCell ⟨b, o1, none⟩ u).setCell ⟨b, o2, none⟩ v) :=
  (h.setCell (p := ⟨b, o1, none⟩) hb u).setCell (p := ⟨b, o2, none⟩) hb v
/-- A call in any world: these arguments, this value. -/
def DoesR (f : FuncId) (args : Array Value) (v : Value) : Prop :=
  ∀ (args' : Array Value) (w : World), args' = args → Calls Tryz.prog f args' w fun e w' => e = .returned v ∧ Below w.heap.size w w'
theorem DoesR.mk {f : FuncId} {args : Array Value} {v : Value} (h : ∀ w, Calls Tryz.prog f args w fun e w' => e = .returned v ∧ Below w.heap.size w w') : DoesR f args v := by
  intro args' w he
  subst he
  exact h w
/-- A call of Bits, behind a world. -/
def DoesG (w0 : World) (s : SetD) (bits : List Int) (args : Array Value) : Prop :=
  ∀ (args' : Array Value) (w : World), args' = args → Below w0.heap.size w0 w → Calls Tryz.prog 47 args' w fun e w' => ∃ g f, e = .returned (.slice (some ⟨g, 0, none⟩) bits.length bits.length) ∧ w0.heap.size ≤ g ∧ BRow s bits g bits.length f w' ∧ Below w0.heap.size w0 w' ∧ Below w.heap.size w w'
theorem does_bits (w0 : World) (s : SetD) (hi : s.ints) (vb v : Value) (bits : List Int) (hbi : ∀ x ∈ bits, isInt x) (hbl : bits.length ≤ 9223372036854775807) (hE : Env w0) (hb0 : IsNums vb s.bs w0) (hv : IsNums v bits w0) (hc : s.canWeigh bits = true) :
    DoesG w0 s bits #[.agg #[.int .i64 s.P, .int .i64 s.Q, .int .i64 s.G, vb, .int .i64 s.H], v] := by
  intro args' w he hb
  subst he
  refine (bits_calls s hi vb v bits hbi hbl w (hE.next hb) (hb0.next hb) (hv.next hb)).mono ?_
  rintro e w' ⟨u, rfl, _, hb', hr⟩
  obtain ⟨g, f, rfl, hg, hR⟩ := hr hc
  exact ⟨g, f, rfl, Nat.le_trans hb.size hg, hR, hb.trans (hb'.mono hb.size), hb'⟩

theorem BRow.next {s : SetD} {bits : List Int} {g k : Nat} {f : Nat → Value} {w w' : World} (h : BRow s bits g k f w) (hb : Below w.heap.size w w') : BRow s bits g k f w' :=
  ⟨h.row.next hb, fun j x hj hx => ⟨(h.done j x hj hx).1, (h.done j x hj hx).2.hi (Hi.below hb)⟩⟩
theorem Hi.none {w w' : World} (h : w.grownBy w' none) (lo : Nat) : Hi lo w w' := ⟨h.size, fun b _ hs => h.block b hs (by simp)⟩
theorem Below.none {a w w' : World} (h : Below a.heap.size a w) (hg : w.grownBy w' none) : Below a.heap.size a w' :=
  ⟨hg.os.trans h.os, hg.tape.trans h.tape, hg.output.trans h.output, Nat.le_trans h.size hg.size, fun i hi => (hg.block i (Nat.lt_of_lt_of_le hi h.size) (by simp)).trans (h.block i hi)⟩
/-- An owned row as a list. -/
theorem owns_sl {α : Type} {w : World} {B n size lo : Nat} {e : TypeId} {v : Value} {L : List Value} {xs : List α} {one : Reads α} (h : w.ownsRow B e size v n L) (hn : xs.length = n) (hlo : lo ≤ B)
    (hone : ∀ g i x, B ≤ g → g < w.heap.size → (∀ j, j < size → w.cell? ⟨g, i * size + j, none⟩ = L[i * size + j]?) → xs[i]? = some x → one g (i * size) x w) : IsSl lo size one v xs w := by
  obtain ⟨hl, ⟨hv, h0⟩ | ⟨g, cap, cur, hv, hgB, hh, hc, hm, hs, ht⟩⟩ := h
  · exact .inl ⟨⟨none, 0, by rw [hv]⟩, List.length_eq_zero_iff.1 (by omega)⟩
  · have hlt : g < w.heap.size := by
      rcases Nat.lt_or_ge g w.heap.size with h' | h'
      · exact h'
      · simp [Array.getElem?_eq_none h'] at hh
    refine .inr ⟨g, 0, cap, by rw [hv, hn], ⟨Nat.le_trans hlo hgB, hlt⟩, fun i x hx => ?_⟩
    have hi : i < xs.length := (List.getElem?_eq_some_iff.1 hx).1
    rw [Nat.zero_add]
    refine hone g i x hgB hlt (fun j hj => ?_) hx
    rw [Lib.cell_of_heap hh, ← ht, List.getElem?_take_of_lt]
    · simp
    · have : (i + 1) * size ≤ n * size := Nat.mul_le_mul_right _ (by omega)
      rw [Nat.add_mul] at this
      omega
theorem range_fin {s : SetD} {bits : List Int} {g lo B p36 : Nat} {f : Nat → Value} {wz w7 : World} {v7 u : Value} {cl : ClaimD} (hR : BRow s bits g bits.length f wz) (hg : lo ≤ g) (h36 : Blk wz p36 66 #[.int .i64 cl.vars, u]) (hl : lo ≤ p36) (hu : IsEqs lo u cl.eqs wz)
    (hB : lo ≤ B) (hown : w7.ownsRow B 55 2 v7 (bits.length + 1) ((List.range (bits.length * 2)).map f ++ [.int .i64 1, .slice (some ⟨p36, 0, none⟩) 1 1])) (hgr : wz.grownBy w7 none) :
    IsGoal lo v7 ((bits.map fun x => ⟨1, s.bitC x⟩) ++ [⟨1, [cl]⟩]) w7 := by
  refine owns_sl hown (by simp) hB fun G i x _ hlt hc hx => ?_
  have hH := Hi.none hgr lo
  have hb7 : Blk w7 p36 66 #[.int .i64 cl.vars, u] := by
    show w7.heap[p36]? = _
    rw [hgr.block p36 h36.lt (by simp)]; exact h36
  have c0 := hc 0 (by omega)
  have c1 := hc 1 (by omega)
  rw [Nat.add_zero] at c0
  rcases Nat.lt_or_ge i bits.length with hi | hi
  · rw [List.getElem?_append_left (by simpa using hi), List.getElem?_map, List.getElem?_eq_getElem hi] at hx
    obtain rfl := Option.some.inj hx
    obtain ⟨a, b⟩ := hR.done i bits[i] hi (List.getElem?_eq_getElem hi)
    rw [List.getElem?_append_left (by simp; omega), List.getElem?_map, List.getElem?_range (by omega)] at c0 c1
    refine ⟨?_, _, c1, (b.low (by omega)).hi hH⟩
    rw [c0]; exact congrArg some a
  · have hi2 : i = bits.length := by
      have := (List.getElem?_eq_some_iff.1 hx).1
      simp at this; omega
    subst hi2
    rw [List.getElem?_append_right (by simp)] at hx
    simp at hx
    subst hx
    have e0 : ((List.range (bits.length * 2)).map f ++ [.int .i64 1, .slice (some ⟨p36, 0, none⟩) 1 1])[bits.length * 2]? = some (Value.int .i64 1) := by
      rw [List.getElem?_append_right (by simp)]; simp
    have e1 : ((List.range (bits.length * 2)).map f ++ [.int .i64 1, .slice (some ⟨p36, 0, none⟩) 1 1])[bits.length * 2 + 1]? = some (.slice (some ⟨p36, 0, none⟩) 1 1) := by
      rw [List.getElem?_append_right (by simp)]; simp
    exact ⟨c0.trans e0, _, c1.trans e1, IsSl.single hl hb7.lt ⟨hb7.cell 0, _, hb7.cell 1, hu.hi hH⟩⟩

set_option maxRecDepth 100000 in
set_option maxHeartbeats 4000000 in
theorem range_calls (s : SetD) (hi : s.ints) (vb v : Value) (c : Int) (hci : isInt c) (bits : List Int) (hbi : ∀ x ∈ bits, isInt x) (hbl : bits.length ≤ 9223372036854775807) (w : World) (hE : Env w) (hb0 : IsNums vb s.bs w) (hv : IsNums v bits w) :
    Calls Tryz.prog 15 #[s.val vb, .int .i64 c, v] w fun e w' => ∃ u, e = .returned u ∧ IsGoal w.heap.size u (s.rangeF c bits) w' ∧ Below w.heap.size w w' := by
  have hb := below_one w (.cells (s.cells vb) 34)
  have hS : SetAt s vb w.heap.size (w.alloc (.cells (s.cells vb) 34)) := Blk.new w _ _
  have c1 := Lib.hid (weigh_calls s hi vb v bits hbi hbl _ (hE.next hb) (hb0.next hb) (hv.next hb))
  obtain ⟨a, cap, rfl⟩ := hv.len
  have HF : Hid (s.rangeF c bits = if (s.canWeigh bits && s.el c) = true then (bits.map fun x => ⟨1, s.bitC x⟩) ++ [⟨1, [s.pob (s.ov c (s.weigh bits))]⟩] else []) := rfl
  unfold SetD.weighV at c1
  have h60 : Hid (s.canWeigh bits = true → bits.length ≤ 60) := by
    show s.canWeigh bits = true → _
    unfold SetD.canWeigh lenB; simp; omega
  have c2 := fun w => Lib.hid (isel_calls s.P s.Q s.G c hi.Q hci w)
  obtain ⟨be, hbe⟩ : ∃ v, v = subB s.P s.Q c := ⟨_, rfl⟩
  have HE : Hid (s.el c = be) := by show s.el c = be; rw [hbe]; rfl
  rw [← hbe] at c2
  have HW := Lib.hid (And.intro hE (And.intro hb0 hv))
  have hWi : isInt (s.weigh bits) := s.wF_int bits 0 1 (by unfold isInt; omega)
  have HOV : Hid (s.ov c (s.weigh bits) = gOver s.P s.Q c (s.weigh bits)) := rfl
  have k1 := Lib.hid (DoesR.mk (fun w => over_calls s.P s.Q s.G c _ hci hWi w))
  obtain ⟨Y, hY⟩ : ∃ Y, Y = gOver s.P s.Q c (s.weigh bits) := ⟨_, rfl⟩
  rw [← hY] at k1 HOV
  obtain ⟨i0, hi0, hz0, hz1, hz2⟩ := info_parts infoClause
  unfold SetD.val at *
  unfold SetD.cells at hS hb c1
  clear hE hb0 hv hbe hY
  by_cases hcan : s.canWeigh bits = true
  · rw [if_pos hcan] at c1
    have hn := h60.out hcan
    have HC := Lib.hid hcan
    generalize s.weigh bits = WG at *
    clear h60 hcan
    go_enter Tryz.func15, Tryz.ntmps15
    obtain ⟨z0, z1, z2, z3, z4⟩ := hS.get
    go_wp2_with fail
    generalize w.alloc (.cells #[.int .i64 s.P, .int .i64 s.Q, .int .i64 s.G, vb, .int .i64 s.H] 34) = W0 at *
    have hS0 : SetAt s vb w.heap.size W0 := hS
    refine Calls.mono c1.out ?_
    clear c1 hS z0 z1 z2 z3 z4
    rintro e w1 ⟨rfl, hb1⟩
    have hS1 := hS0.next hb1
    have hbb := hb.trans (hb1.mono hb.size)
    clear hS0 hb hb1
    obtain ⟨z0, z1, z2, z3, z4⟩ := hS1.get
    go_wp2_with fail
    refine Calls.mono (c2 w1).out ?_
    clear c2 z0 z1 z2 z3 z4
    rintro e w2 ⟨rfl, hb2⟩
    have hS2 := hS1.next hb2
    have hbb2 := hbb.trans (hb2.mono hbb.size)
    clear hS1 hbb hb2
    cases be
    · have HF2 : Hid (s.rangeF c bits = []) := by show s.rangeF c bits = []; rw [HF.out, HE.out]; simp
      go_wp2
      go_ret
      exact ⟨_, rfl, by rw [HF2.out]; exact .inl ⟨⟨_, _, rfl⟩, rfl⟩, hbb2⟩
    · have HK : Hid (∀ w', Below w2.heap.size w2 w' → w'.cell? ⟨w.heap.size, 0, none⟩ = some (.int .i64 s.P) ∧ w'.cell? ⟨w.heap.size, 1, none⟩ = some (.int .i64 s.Q) ∧ w'.cell? ⟨w.heap.size, 2, none⟩ = some (.int .i64 s.G) ∧ w'.cell? ⟨w.heap.size, 3, none⟩ = some vb ∧ w'.cell? ⟨w.heap.size, 4, none⟩ = some (.int .i64 s.H) ∧ Below w2.heap.size w2 w') := by
        show ∀ w', Below w2.heap.size w2 w' → _
        intro w' h
        obtain ⟨z0, z1, z2, z3, z4⟩ := (hS2.next h).get
        exact ⟨z0, z1, z2, z3, z4, h⟩
      have j2 := Lib.hid (does_pob s vb Y)
      have HS2 := Lib.hid hS2
      have HB2 := Lib.hid hbb2
      clear hS2 hbb2
      go_wp2
      go_region_held3 (fun w' => w'.cell? ⟨w.heap.size, 0, none⟩ = some (.int .i64 s.P) ∧ w'.cell? ⟨w.heap.size, 1, none⟩ = some (.int .i64 s.Q) ∧ w'.cell? ⟨w.heap.size, 2, none⟩ = some (.int .i64 s.G) ∧ w'.cell? ⟨w.heap.size, 3, none⟩ = some vb ∧ w'.cell? ⟨w.heap.size, 4, none⟩ = some (.int .i64 s.H) ∧ Below w2.heap.size w2 w')
        (first | exact HK.out _ (by assumption) | exact HK.out _ (Below.alloc_ (by assumption) _) | exact HK.out _ (below_drewN (Below.refl _ _) 1) | exact HK.out _ (Below.refl _ _) | exact HK.out _ (Below.alloc_ (below_drewN (Below.refl w2.heap.size w2) 1) _) | exact HK.out _ (below_store2 (by assumption) hb3.size) | exact HK.out _ (below_store2 (by assumption) (Nat.le_refl _)))
        (first
          | (go_at_call 46; refine Calls.mono (k1.out _ _ (by with_reducible rfl)) ?_; rintro e w3 ⟨rfl, hc3⟩; have hb3 : Below w2.heap.size w2 w3 := (by first | exact (below_drewN (Below.refl w2.heap.size w2) 1).trans (hc3.mono (Nat.le_refl _)) | exact (Below.alloc_ (below_drewN (Below.refl w2.heap.size w2) 1) _).trans (hc3.mono (Below.alloc_ (below_drewN (Below.refl w2.heap.size w2) 1) _).size)); try (have hq3 := Blk.next (Blk.new w2.drew 66 #[.int .i64 0, .slice none 0 0]) hc3))
          | (go_at_call 45; refine Calls.mono (j2.out _ _ (by with_reducible rfl)) ?_; rintro e w4 ⟨a1, p1, rfl, hu1, hc4⟩; have hb4 : Below w2.heap.size w2 w4 := (by first | exact hb3.trans (hc4.mono hb3.size) | exact (Below.alloc_ hb3 _).trans (hc4.mono (Below.alloc_ hb3 _).size)); first | (have hq4 := Blk.next hq3 hc4; have q0 : w4.cell? ⟨w2.heap.size, 0, none⟩ = some (.int .i64 0) := hq4.cell 0; have q1 : w4.cell? ⟨w2.heap.size, 1, none⟩ = some (.slice none 0 0) := hq4.cell 1; have q2 : ∀ j, w4.frozen? ⟨w2.heap.size, j, none⟩ = false := fun j => hq4.frozen j) | (have hq4 := Blk.next (Blk.new w3 66 #[.int .i64 0, .slice none 0 0]) hc4; have q0 := hq4.cell 0; have q1 := hq4.cell 1; have q2 := hq4.frozen) | skip))
      all_goals
        have hu4 : IsEqs w2.heap.size (.slice a1 (s.pob Y).eqs.length p1) (s.pob Y).eqs w4 := hu1.low (by first | exact hb3.size | exact (Below.alloc_ hb3 _).size)
        first
          | (have hB9 : Blk ((w4.setCell ⟨w2.heap.size, 0, none⟩ (.int .i64 (s.pob Y).vars)).setCell ⟨w2.heap.size, 1, none⟩ (.slice a1 (s.pob Y).eqs.length p1)) w2.heap.size 66 #[.int .i64 (s.pob Y).vars, .slice a1 (s.pob Y).eqs.length p1] := ((Blk.next hq3 hc4).set_ 0 _).set_ 1 _
             have hb9 : Below w2.heap.size w2 ((w4.setCell ⟨w2.heap.size, 0, none⟩ (.int .i64 (s.pob Y).vars)).setCell ⟨w2.heap.size, 1, none⟩ (.slice a1 (s.pob Y).eqs.length p1)) := below_store2 hb4 (Nat.le_refl _)
             have hu9 : IsEqs w2.heap.size (.slice a1 (s.pob Y).eqs.length p1) (s.pob Y).eqs ((w4.setCell ⟨w2.heap.size, 0, none⟩ (.int .i64 (s.pob Y).vars)).setCell ⟨w2.heap.size, 1, none⟩ (.slice a1 (s.pob Y).eqs.length p1)) := ((hu1.low (show w2.heap.size + 1 ≤ _ by have := (Below.alloc_ (below_drewN (Below.refl w2.heap.size w2) 1) (.cells #[.int .i64 0, .slice none 0 0] 66)).trans (hc3.mono (Below.alloc_ (below_drewN (Below.refl w2.heap.size w2) 1) _).size); have := hc3.size; simp at this; omega)).hi (Hi.grown (Cod.only_setCell (g := w2.heap.size) (p := ⟨w2.heap.size, 1, none⟩) (Cod.only_setCell (g := w2.heap.size) (p := ⟨w2.heap.size, 0, none⟩) (Cod.only_refl _ _) (.inl rfl) _) (.inl rfl) _))).low (by omega)
             have hl9 : w2.heap.size ≤ w2.heap.size := Nat.le_refl _
             generalize ((w4.setCell ⟨w2.heap.size, 0, none⟩ (.int .i64 (s.pob Y).vars)).setCell ⟨w2.heap.size, 1, none⟩ (.slice a1 (s.pob Y).eqs.length p1)) = W5 at *
             obtain ⟨b9, hb9e⟩ : ∃ b, b = w2.heap.size := ⟨_, rfl⟩
             rw [← hb9e] at hB9 ⊢
             rw [← hb9e] at hl9
             clear hq3)
          | (have hB9 : Blk ((w4.setCell ⟨w3.heap.size, 0, none⟩ (.int .i64 (s.pob Y).vars)).setCell ⟨w3.heap.size, 1, none⟩ (.slice a1 (s.pob Y).eqs.length p1)) w3.heap.size 66 #[.int .i64 (s.pob Y).vars, .slice a1 (s.pob Y).eqs.length p1] := (hq4.set_ 0 _).set_ 1 _
             have hb9 : Below w2.heap.size w2 ((w4.setCell ⟨w3.heap.size, 0, none⟩ (.int .i64 (s.pob Y).vars)).setCell ⟨w3.heap.size, 1, none⟩ (.slice a1 (s.pob Y).eqs.length p1)) := below_store2 hb4 hb3.size
             have hu9 : IsEqs w2.heap.size (.slice a1 (s.pob Y).eqs.length p1) (s.pob Y).eqs ((w4.setCell ⟨w3.heap.size, 0, none⟩ (.int .i64 (s.pob Y).vars)).setCell ⟨w3.heap.size, 1, none⟩ (.slice a1 (s.pob Y).eqs.length p1)) := ((hu1.low (show w3.heap.size + 1 ≤ _ by simp)).hi (Hi.grown (Cod.only_setCell (g := w3.heap.size) (p := ⟨w3.heap.size, 1, none⟩) (Cod.only_setCell (g := w3.heap.size) (p := ⟨w3.heap.size, 0, none⟩) (Cod.only_refl _ _) (.inl rfl) _) (.inl rfl) _))).low (by have := hb3.size; omega)
             have hl9 : w2.heap.size ≤ w3.heap.size := hb3.size
             generalize ((w4.setCell ⟨w3.heap.size, 0, none⟩ (.int .i64 (s.pob Y).vars)).setCell ⟨w3.heap.size, 1, none⟩ (.slice a1 (s.pob Y).eqs.length p1)) = W5 at *
             obtain ⟨b9, hb9e⟩ : ∃ b, b = w3.heap.size := ⟨_, rfl⟩
             rw [← hb9e] at hB9 hl9 ⊢)
          | (have hB9 : Blk (w4.alloc (.cells #[.int .i64 (s.pob Y).vars, .slice a1 (s.pob Y).eqs.length p1] 66)) w4.heap.size 66 #[.int .i64 (s.pob Y).vars, .slice a1 (s.pob Y).eqs.length p1] := Blk.new _ _ _
             have hb9 : Below w2.heap.size w2 (w4.alloc (.cells #[.int .i64 (s.pob Y).vars, .slice a1 (s.pob Y).eqs.length p1] 66)) := Below.alloc_ hb4 _
             have hu9 : IsEqs w2.heap.size (.slice a1 (s.pob Y).eqs.length p1) (s.pob Y).eqs (w4.alloc (.cells #[.int .i64 (s.pob Y).vars, .slice a1 (s.pob Y).eqs.length p1] 66)) := hu4.hi (Hi.below (below_one _ _))
             have hl9 : w2.heap.size ≤ w4.heap.size := hb4.size
             generalize (w4.alloc (.cells #[.int .i64 (s.pob Y).vars, .slice a1 (s.pob Y).eqs.length p1] 66)) = W5 at *
             obtain ⟨b9, hb9e⟩ : ∃ b, b = w4.heap.size := ⟨_, rfl⟩
             rw [← hb9e] at hB9 hl9 ⊢)
        have HU9 := Lib.hid hu9
        have HB9 := Lib.hid hB9
        have HL9 := Lib.hid hl9
        have hbb9 := HB2.out.trans (hb9.mono HB2.out.size)
        have hS5 := HS2.out.next hb9
        have hE5 := (HW.out.1.next hbb9)
        have hs5 := (HW.out.2.1.next hbb9)
        have hv5 := (HW.out.2.2.next hbb9)
        have jb := Lib.hid (does_bits W5 s hi vb _ bits hbi hbl hE5 hs5 hv5 HC.out)
        have HBB := Lib.hid hbb9
        have HK5 : Hid (∀ w', Below W5.heap.size W5 w' → w'.cell? ⟨w.heap.size, 0, none⟩ = some (.int .i64 s.P) ∧ w'.cell? ⟨w.heap.size, 1, none⟩ = some (.int .i64 s.Q) ∧ w'.cell? ⟨w.heap.size, 2, none⟩ = some (.int .i64 s.G) ∧ w'.cell? ⟨w.heap.size, 3, none⟩ = some vb ∧ w'.cell? ⟨w.heap.size, 4, none⟩ = some (.int .i64 s.H) ∧ w'.cell? ⟨b9, 0, none⟩ = some (.int .i64 (s.pob Y).vars) ∧ w'.cell? ⟨b9, 1, none⟩ = some (.slice a1 (s.pob Y).eqs.length p1) ∧ Below W5.heap.size W5 w') := by
          show ∀ w', Below W5.heap.size W5 w' → _
          intro w' h
          obtain ⟨z0, z1, z2, z3, z4⟩ := (hS5.next h).get
          have hB := HB9.out.next h
          exact ⟨z0, z1, z2, z3, z4, hB.cell 0, hB.cell 1, h⟩
        clear hE5 hs5 hv5 hbb9 hS5 hb9e hu9 hB9 hl9 hu4 hu1 hc4 hb4 hc3 hb3
        try clear q0 q1 q2
        try clear hq4
        go_wp2
        go_region_held3 (fun w' => w'.cell? ⟨w.heap.size, 0, none⟩ = some (.int .i64 s.P) ∧ w'.cell? ⟨w.heap.size, 1, none⟩ = some (.int .i64 s.Q) ∧ w'.cell? ⟨w.heap.size, 2, none⟩ = some (.int .i64 s.G) ∧ w'.cell? ⟨w.heap.size, 3, none⟩ = some vb ∧ w'.cell? ⟨w.heap.size, 4, none⟩ = some (.int .i64 s.H) ∧ w'.cell? ⟨b9, 0, none⟩ = some (.int .i64 (s.pob Y).vars) ∧ w'.cell? ⟨b9, 1, none⟩ = some (.slice a1 (s.pob Y).eqs.length p1) ∧ Below W5.heap.size W5 w')
          (first | exact HK5.out _ (by assumption) | exact HK5.out _ (below_drewN (Below.refl _ _) 1) | exact HK5.out _ (Below.alloc_ (by assumption) _) | exact HK5.out _ (Below.alloc_ (Below.alloc_ (by assumption) _) _) | exact HK5.out _ (Below.alloc_ (below_drewN (Below.refl W5.heap.size W5) 1) _) | exact HK5.out _ (Below.alloc_ (Below.alloc_ (below_drewN (Below.refl W5.heap.size W5) 1) _) _))
          (first
            | (go_at_call 47; refine Calls.mono (jb.out _ _ (by with_reducible rfl) (by first | exact below_drewN (Below.refl W5.heap.size W5) 1 | exact Below.alloc_ (below_drewN (Below.refl W5.heap.size W5) 1) _ | exact Below.alloc_ (Below.alloc_ (below_drewN (Below.refl W5.heap.size W5) 1) _) _)) ?_; rintro e w6 ⟨g, f, rfl, hg6, hR6, hb6, hc6⟩)
            | (refine step_append_grows (by rfl) _ _ _ (by rfl) 55 i0 _ 2 32 Tryz.underlying26 hi0 hz0 hz1 hz2 rfl (by omega) (some ⟨g, 0, none⟩) bits.length bits.length ((List.range (bits.length * 2)).map f) ?a1 ?a2 ?a3 ?a4 ⟨w6.heap.size + 1, 0, none⟩ 1 1 [.int .i64 1, .slice (some ⟨w6.heap.size, 0, none⟩) 1 1] ?b1 ?b2 ?b3 ?b4 ?b5 ?b6 ?b7 ?_; (case a1 => rfl); (case a2 => intro h; cases h); (case a3 => simp); (case a4 => exact VRow.holds ((hR6.row.next (below_one w6 _)).next (below_one _ _))); (case b1 => rfl); (case b2 => rfl); (case b3 => exact Blk.news (Blk.new' (alloc_size w6 _) 55 _)); (case b4 => simp [Value.oneCell']); (case b5 => omega); (case b6 => unfold maxLen; omega); (case b7 => omega); intro v7 w7 hown7 hgr7; have hbz : Below W5.heap.size W5 ((w6.alloc (.cells #[.int .i64 (s.pob Y).vars, .slice a1 (s.pob Y).eqs.length p1] 66)).alloc (.cells #[.int .i64 1, .slice (some ⟨w6.heap.size, 0, none⟩) 1 1] 55)) := Below.alloc_ (Below.alloc_ hb6 _) _; have hb7 : Below W5.heap.size W5 w7 := Below.none hbz hgr7; have HG7 : Hid (IsGoal w.heap.size v7 ((bits.map fun x => ⟨1, s.bitC x⟩) ++ [⟨1, [s.pob Y]⟩]) w7) := Lib.hid (range_fin (s := s) (bits := bits) (g := g) (lo := w.heap.size) (p36 := w6.heap.size) (f := f) (wz := (w6.alloc (.cells #[.int .i64 (s.pob Y).vars, .slice a1 (s.pob Y).eqs.length p1] 66)).alloc (.cells #[.int .i64 1, .slice (some ⟨w6.heap.size, 0, none⟩) 1 1] 55)) (w7 := w7) (v7 := v7) (u := .slice a1 (s.pob Y).eqs.length p1) (cl := s.pob Y) ((hR6.next (below_one w6 (.cells #[.int .i64 (s.pob Y).vars, .slice a1 (s.pob Y).eqs.length p1] 66))).next (below_one (w6.alloc (.cells #[.int .i64 (s.pob Y).vars, .slice a1 (s.pob Y).eqs.length p1] 66)) (.cells #[.int .i64 1, .slice (some ⟨w6.heap.size, 0, none⟩) 1 1] 55))) (Nat.le_trans HBB.out.size hg6) ((Blk.new w6 66 #[.int .i64 (s.pob Y).vars, .slice a1 (s.pob Y).eqs.length p1]).alloc' (.cells #[.int .i64 1, .slice (some ⟨w6.heap.size, 0, none⟩) 1 1] 55)) (Nat.le_trans HBB.out.size hb6.size) (((HU9.out.low HB2.out.size).hi (Hi.below hb6)).hi ((Hi.below (below_one w6 (.cells #[.int .i64 (s.pob Y).vars, .slice a1 (s.pob Y).eqs.length p1] 66))).trans (Hi.below (below_one (w6.alloc (.cells #[.int .i64 (s.pob Y).vars, .slice a1 (s.pob Y).eqs.length p1] 66)) (.cells #[.int .i64 1, .slice (some ⟨w6.heap.size, 0, none⟩) 1 1] 55))))) (Nat.le_trans HBB.out.size hbz.size) hown7 hgr7))
            | (refine step_append_grows (by rfl) _ _ _ (by rfl) 55 i0 _ 2 32 Tryz.underlying26 hi0 hz0 hz1 hz2 rfl (by omega) (some ⟨g, 0, none⟩) bits.length bits.length ((List.range (bits.length * 2)).map f) ?a1 ?a2 ?a3 ?a4 ⟨w6.heap.size, 0, none⟩ 1 1 [.int .i64 1, .slice (some ⟨W5.heap.size, 0, none⟩) 1 1] ?b1 ?b2 ?b3 ?b4 ?b5 ?b6 ?b7 ?_; (case a1 => rfl); (case a2 => intro h; cases h); (case a3 => simp); (case a4 => exact VRow.holds (hR6.row.next (below_one w6 _))); (case b1 => rfl); (case b2 => rfl); (case b3 => exact Blk.news (Blk.new w6 55 _)); (case b4 => simp [Value.oneCell']); (case b5 => omega); (case b6 => unfold maxLen; omega); (case b7 => omega); intro v7 w7 hown7 hgr7; have hbz : Below W5.heap.size W5 (w6.alloc (.cells #[.int .i64 1, .slice (some ⟨W5.heap.size, 0, none⟩) 1 1] 55)) := Below.alloc_ hb6 _; have hb7 : Below W5.heap.size W5 w7 := Below.none hbz hgr7; have HG7 : Hid (IsGoal w.heap.size v7 ((bits.map fun x => ⟨1, s.bitC x⟩) ++ [⟨1, [s.pob Y]⟩]) w7) := Lib.hid (range_fin (s := s) (bits := bits) (g := g) (lo := w.heap.size) (p36 := W5.heap.size) (f := f) (wz := w6.alloc (.cells #[.int .i64 1, .slice (some ⟨W5.heap.size, 0, none⟩) 1 1] 55)) (w7 := w7) (v7 := v7) (u := .slice a1 (s.pob Y).eqs.length p1) (cl := s.pob Y) (hR6.next (below_one w6 (.cells #[.int .i64 1, .slice (some ⟨W5.heap.size, 0, none⟩) 1 1] 55))) (Nat.le_trans HBB.out.size hg6) (Blk.alloc' (show Blk w6 W5.heap.size 66 #[.int .i64 (s.pob Y).vars, .slice a1 (s.pob Y).eqs.length p1] from Blk.next (Blk.new W5.drew 66 #[.int .i64 (s.pob Y).vars, .slice a1 (s.pob Y).eqs.length p1]) hc6) (.cells #[.int .i64 1, .slice (some ⟨W5.heap.size, 0, none⟩) 1 1] 55)) (Nat.le_trans HBB.out.size (Nat.le_refl _)) (((HU9.out.low HB2.out.size).hi (Hi.below hb6)).hi (Hi.below (below_one w6 (.cells #[.int .i64 1, .slice (some ⟨W5.heap.size, 0, none⟩) 1 1] 55)))) (Nat.le_trans HBB.out.size hbz.size) hown7 hgr7))
            | (refine step_append_grows (by rfl) _ _ _ (by rfl) 55 i0 _ 2 32 Tryz.underlying26 hi0 hz0 hz1 hz2 rfl (by omega) (some ⟨g, 0, none⟩) bits.length bits.length ((List.range (bits.length * 2)).map f) ?a1 ?a2 ?a3 ?a4 ⟨W5.heap.size + 1, 0, none⟩ 1 1 [.int .i64 1, .slice (some ⟨W5.heap.size, 0, none⟩) 1 1] ?b1 ?b2 ?b3 ?b4 ?b5 ?b6 ?b7 ?_; (case a1 => rfl); (case a2 => intro h; cases h); (case a3 => simp); (case a4 => exact VRow.holds (hR6.row)); (case b1 => rfl); (case b2 => rfl); (case b3 => exact Blk.news (Blk.next (Blk.new' (alloc_size W5.drew (.cells #[.int .i64 (s.pob Y).vars, .slice a1 (s.pob Y).eqs.length p1] 66)) 55 #[.int .i64 1, .slice (some ⟨W5.heap.size, 0, none⟩) 1 1]) hc6)); (case b4 => simp [Value.oneCell']); (case b5 => omega); (case b6 => unfold maxLen; omega); (case b7 => omega); intro v7 w7 hown7 hgr7; have hbz : Below W5.heap.size W5 (w6) := hb6; have hb7 : Below W5.heap.size W5 w7 := Below.none hbz hgr7; have HG7 : Hid (IsGoal w.heap.size v7 ((bits.map fun x => ⟨1, s.bitC x⟩) ++ [⟨1, [s.pob Y]⟩]) w7) := Lib.hid (range_fin (s := s) (bits := bits) (g := g) (lo := w.heap.size) (p36 := W5.heap.size) (f := f) (wz := w6) (w7 := w7) (v7 := v7) (u := .slice a1 (s.pob Y).eqs.length p1) (cl := s.pob Y) (hR6) (Nat.le_trans HBB.out.size hg6) ((show Blk w6 W5.heap.size 66 #[.int .i64 (s.pob Y).vars, .slice a1 (s.pob Y).eqs.length p1] from Blk.next ((Blk.new W5.drew 66 #[.int .i64 (s.pob Y).vars, .slice a1 (s.pob Y).eqs.length p1]).alloc' (.cells #[.int .i64 1, .slice (some ⟨W5.heap.size, 0, none⟩) 1 1] 55)) hc6)) (Nat.le_trans HBB.out.size (Nat.le_refl _)) ((HU9.out.low HB2.out.size).hi (Hi.below hb6)) (Nat.le_trans HBB.out.size hbz.size) hown7 hgr7)))
        all_goals
          go_wp2
          go_ret
          exact ⟨_, rfl, by rw [HF.out, if_pos (by rw [HC.out, HE.out]; rfl), HOV.out]; exact HG7.out, HBB.out.trans (hb7.mono HBB.out.size)⟩
  · rw [if_neg hcan] at c1
    have HF2 : Hid (s.rangeF c bits = []) := by show s.rangeF c bits = []; rw [HF.out, if_neg (by simp [hcan])]
    clear h60 hcan c2 k1
    go_enter Tryz.func15, Tryz.ntmps15
    obtain ⟨z0, z1, z2, z3, z4⟩ := hS.get
    go_wp2_with fail
    generalize w.alloc (.cells #[.int .i64 s.P, .int .i64 s.Q, .int .i64 s.G, vb, .int .i64 s.H] 34) = W0 at *
    refine Calls.mono c1.out ?_
    clear c1 hS z0 z1 z2 z3 z4
    rintro e w1 ⟨rfl, hb1⟩
    have hbb := hb.trans (hb1.mono hb.size)
    clear hb hb1
    go_wp2
    go_ret
    exact ⟨_, rfl, by rw [HF2.out]; exact .inl ⟨⟨_, _, rfl⟩, rfl⟩, hbb⟩
end Go.Proofs.YthnkfjjgccabeaaGreatDoor
