/- The clauses of bits. -/
import Derived.Test.YthnkfjjgccabeaaGreatDoorPob
namespace Go.Proofs.YthnkfjjgccabeaaGreatDoor
open Go.RowKit

theorem run_make2 {P : Program} (t e : TypeId) (a b : Value) (bytes : Nat) (ht : P.underlying t = some (.slice e)) (hinfo : (P.info? e).map (fun i => (i.zero, i.size, i.bytes)) = some (some (.agg #[a, b]), 2, bytes)) (hc : (Value.agg #[a, b]).cells = #[a, b])
    (n : Nat) (hbytes : bytes * n ≤ 281474976710656) (h63 : n ≤ 9223372036854775807) (w : World) :
    (Instr.makeSlice t (.int .i64 (n : Int)) (.int .i64 (n : Int))).run P w = .ok (.slice (some ⟨w.heap.size, 0, none⟩) n n) (w.alloc (.cells (madeCells #[a, b] (n * 2)) e)) := by
  obtain ⟨i, hi, hzz⟩ := Option.map_eq_some_iff.1 hinfo
  simp only [Prod.mk.injEq] at hzz
  obtain ⟨hz, hs, hb⟩ := hzz
  have hb' : (i.bytes : Int) * (n : Int) ≤ 281474976710656 := by
    rw [hb]
    have h : ((bytes * n : Nat) : Int) ≤ 281474976710656 := by omega
    rwa [Int.natCast_mul] at h
  have h := run_make (P := P) w t e i (.agg #[a, b]) ht hi hz .i64 .i64 n n (by omega) (Int.le_refl _) hb' (by omega)
  rw [hs, hc] at h
  simpa using h
theorem VRow.made2 (w : World) (a b : Value) (n : Nat) (e : TypeId) : VRow w.heap.size (n * 2) (fun j => if j % 2 = 0 then a else b) (w.alloc (.cells (madeCells #[a, b] (n * 2)) e)) := by
  have hB := Blk.new w e (madeCells #[a, b] (n * 2))
  refine ⟨by simp, fun j hj => ?_, fun j => hB.frozen j⟩
  rw [hB.cell j]
  have hm : j % 2 < 2 := Nat.mod_lt _ (by omega)
  simp only [madeCells, Array.getElem?_map, Array.getElem?_range]
  rw [if_pos hj]
  by_cases h : j % 2 = 0
  · simp [h]
  · have h1 : j % 2 = 1 := by omega
    simp [h1]
theorem only_drewN {a w : World} {row : Option Nat} (h : a.grownBy w row) (n : Nat) : a.grownBy (w.drewN n) row := ⟨h.os, h.tape, h.output, h.size, h.block⟩
theorem only_store2 {a w : World} {g o1 o2 : Nat} {u v : Value} {o : Obj} (h : a.grownBy w (some g)) : a.grownBy (((w.alloc o).setCell ⟨g, o1, none⟩ u).setCell ⟨g, o2, none⟩ v) (some g) :=
  Cod.only_setCell (g := g) (p := ⟨g, o2, none⟩) (Cod.only_setCell (g := g) (p := ⟨g, o1, none⟩) (Cod.only_alloc h o) (.inl rfl) u) (.inl rfl) v
theorem infoClause : (Tryz.prog.info? 55).map (fun i => (i.zero, i.size, i.bytes)) = some (some (.agg #[.int .i64 0, .slice none 0 0]), 2, 32) := by kernel_rfl

/-- A call that makes a claim. -/
def DoesC (f : FuncId) (args : Array Value) (c : ClaimD) : Prop :=
  ∀ (args' : Array Value) (w : World), args' = args → Calls Tryz.prog f args' w fun e w' => ∃ a p, e = .returned (.agg #[.int .i64 c.vars, .slice a c.eqs.length p]) ∧ IsEqs w.heap.size (.slice a c.eqs.length p) c.eqs w' ∧ Below w.heap.size w w'
theorem does_pob (s : SetD) (vb : Value) (x : Int) : DoesC 45 #[.agg #[.int .i64 s.P, .int .i64 s.Q, .int .i64 s.G, vb, .int .i64 s.H], .int .i64 x] (s.pob x) := by
  intro args' w he
  subst he
  refine (pob_calls s vb x w).mono ?_
  rintro e w' ⟨v, rfl, ⟨u, rfl, hu⟩, hb'⟩
  obtain ⟨a, p, rfl⟩ := IsSl.len hu
  exact ⟨a, p, rfl, hu, hb'⟩
def SetD.bitC (s : SetD) (x : Int) : List ClaimD := [s.pob x, s.pob (s.ov x s.G)]
def SetD.bitsF (s : SetD) (bits : List Int) : List ClauseD := if s.canWeigh bits = true then bits.map fun x => ⟨1, s.bitC x⟩ else []
/-- A goal that is filled clause by clause. -/
structure BRow (s : SetD) (bits : List Int) (g k : Nat) (f : Nat → Value) (w : World) : Prop where
  row : VRow g (bits.length * 2) f w
  done : ∀ j x, j < k → bits[j]? = some x → f (j * 2) = .int .i64 1 ∧ IsClaims (g + 1) (f (j * 2 + 1)) (s.bitC x) w

theorem Hi.grown {g : Nat} {w w' : World} (h : w.grownBy w' (some g)) : Hi (g + 1) w w' := ⟨h.size, fun b hb hs => h.block b hs (by simp; omega)⟩
theorem below_only {a w w' : World} {g : Nat} (h : Below a.heap.size a w) (hg : w.grownBy w' (some g)) (hag : a.heap.size ≤ g) : Below a.heap.size a w' :=
  ⟨hg.os.trans h.os, hg.tape.trans h.tape, hg.output.trans h.output, Nat.le_trans h.size hg.size, fun i hi => (hg.block i (Nat.lt_of_lt_of_le hi h.size) (by simp; omega)).trans (h.block i hi)⟩
theorem SetAt.grown {s : SetD} {vb : Value} {b g : Nat} {w w' : World} (h : SetAt s vb b w) (hg : w.grownBy w' (some g)) (hne : b ≠ g) : SetAt s vb b w' := by
  show w'.heap[b]? = _
  rw [hg.block b (Blk.lt h) (by simp; omega)]; exact h
/-- The world behind a round: the claims' block, and the clause in its place. -/
def storedC (w : World) (g k : Nat) (a b c d : Value) : World :=
  ((w.alloc (.cells #[a, b, c, d] 66)).setCell ⟨g, k * 2, none⟩ (.int .i64 1)).setCell ⟨g, k * 2 + 1, none⟩ (.slice (some ⟨w.heap.size, 0, none⟩) 2 2)
theorem BRow.step {s : SetD} {bits : List Int} {g k : Nat} {f : Nat → Value} {w3 w5 : World} {u1 u2 : Value} {x Y : Int} (hx : x = bits.getD k 0) (hk : k < bits.length) (hY : s.ov x s.G = Y)
    (hD : ∀ j x, j < k → bits[j]? = some x → f (j * 2) = .int .i64 1 ∧ IsClaims (g + 1) (f (j * 2 + 1)) (s.bitC x) w3) (hg : w3.grownBy w5 (some g)) (hV : VRow g (bits.length * 2) f w5)
    (h1 : IsEqs (g + 1) u1 (s.pob x).eqs w5) (h2 : IsEqs (g + 1) u2 (s.pob Y).eqs w5) :
    BRow s bits g (k + 1) (fun j => if j = k * 2 + 1 then .slice (some ⟨w5.heap.size, 0, none⟩) 2 2 else if j = k * 2 then .int .i64 1 else f j) (storedC w5 g k (.int .i64 (s.pob x).vars) u1 (.int .i64 (s.pob Y).vars) u2) := by
  have hgl := hV.lt
  have hgr : w5.grownBy (storedC w5 g k (.int .i64 (s.pob x).vars) u1 (.int .i64 (s.pob Y).vars) u2) (some g) := only_store2 (Cod.only_refl _ _)
  have hH := Hi.grown hgr
  have hH3 := (Hi.grown hg).trans hH
  have hB : Blk (storedC w5 g k (.int .i64 (s.pob x).vars) u1 (.int .i64 (s.pob Y).vars) u2) w5.heap.size 66 #[.int .i64 (s.pob x).vars, u1, .int .i64 (s.pob Y).vars, u2] :=
    ((Blk.new w5 _ _).far (p := ⟨g, k * 2, none⟩) (by simp; omega) _).far (p := ⟨g, k * 2 + 1, none⟩) (by simp; omega) _
  have hN : IsClaims (g + 1) (.slice (some ⟨w5.heap.size, 0, none⟩) 2 2) (s.bitC x) (storedC w5 g k (.int .i64 (s.pob x).vars) u1 (.int .i64 (s.pob Y).vars) u2) := by
    unfold SetD.bitC
    rw [hY]
    exact IsSl.pair (by omega) hB.lt ⟨hB.cell 0, _, hB.cell 1, h1.hi hH⟩ ⟨hB.cell 2, _, hB.cell 3, h2.hi hH⟩
  refine ⟨?_, fun j y hj hy => ?_⟩
  · exact ((hV.next (below_one w5 _)).set (k * 2) (by omega) _).set (k * 2 + 1) (by omega) _
  · by_cases e : j = k
    · subst e
      have : y = x := by rw [hx, List.getD_eq_getElem?_getD, hy]; rfl
      subst this
      exact ⟨by rw [if_neg (by omega), if_pos rfl], by rw [if_pos rfl]; exact hN⟩
    · obtain ⟨a, b⟩ := hD j y (by omega) hy
      exact ⟨by rw [if_neg (by omega), if_neg (by omega)]; exact a, by rw [if_neg (by omega), if_neg (by omega)]; exact b.hi hH3⟩
theorem BRow.goal {s : SetD} {bits : List Int} {g lo : Nat} {f : Nat → Value} {w : World} (h : BRow s bits g bits.length f w) (hl : lo ≤ g) :
    IsGoal lo (.slice (some ⟨g, 0, none⟩) bits.length bits.length) (bits.map fun x => ⟨1, s.bitC x⟩) w := by
  refine .inr ⟨g, 0, bits.length, by rw [List.length_map], ⟨hl, h.row.lt⟩, fun i y hi => ?_⟩
  rw [List.getElem?_map] at hi
  cases hx : bits[i]? with
  | none => rw [hx] at hi; cases hi
  | some x =>
    rw [hx] at hi
    obtain rfl := Option.some.inj hi
    have hlt : i < bits.length := (List.getElem?_eq_some_iff.1 hx).1
    obtain ⟨a, b⟩ := h.done i x hlt hx
    refine ⟨?_, _, ?_, b.low (by omega)⟩
    · have := h.row.at' (i * 2) (by omega)
      rw [a] at this
      simpa using this
    · have := h.row.at' (i * 2 + 1) (by omega)
      simpa using this

/-- The row of the clauses, if there are any. -/
def BitsRow (s : SetD) (bits : List Int) (lo : Nat) (u : Value) (w : World) : Prop := s.canWeigh bits = true → ∃ g f, u = .slice (some ⟨g, 0, none⟩) bits.length bits.length ∧ lo ≤ g ∧ BRow s bits g bits.length f w

set_option maxRecDepth 100000 in
set_option maxHeartbeats 2000000 in
theorem bits_calls (s : SetD) (hi : s.ints) (vb v : Value) (bits : List Int) (hbi : ∀ x ∈ bits, isInt x) (hbl : bits.length ≤ 9223372036854775807) (w : World) (hE : Env w) (hb0 : IsNums vb s.bs w) (hv : IsNums v bits w) :
    Calls Tryz.prog 47 #[s.val vb, v] w fun e w' => ∃ u, e = .returned u ∧ IsGoal w.heap.size u (s.bitsF bits) w' ∧ Below w.heap.size w w' ∧ BitsRow s bits w.heap.size u w' := by
  have hb := below_one w (.cells (s.cells vb) 34)
  have hS : SetAt s vb w.heap.size (w.alloc (.cells (s.cells vb) 34)) := Blk.new w _ _
  have c1 := Lib.hid (weigh_calls s hi vb v bits hbi hbl _ (hE.next hb) (hb0.next hb) (hv.next hb))
  obtain ⟨a, cap, rfl⟩ := hv.len
  have HF : Hid (s.bitsF bits = if s.canWeigh bits = true then bits.map fun x => ⟨1, s.bitC x⟩ else []) := rfl
  unfold SetD.weighV at c1
  have h60 : Hid (s.canWeigh bits = true → bits.length ≤ 60) := by
    show s.canWeigh bits = true → _
    unfold SetD.canWeigh lenB; simp; omega
  have HBI := Lib.hid hbi
  have c2 := fun x (hx : isInt x) w => Lib.hid (over_calls s.P s.Q s.G x s.G hx hi.G w)
  unfold SetD.val at *
  unfold SetD.cells at hS hb c1
  clear hE hb0 hbi
  by_cases hcan : s.canWeigh bits = true
  · rw [if_pos hcan] at c1 HF
    have hn := h60.out hcan
    have hmk := fun w => run_make2 (P := Tryz.prog) 26 55 (.int .i64 0) (.slice none 0 0) 32 Tryz.underlying26 infoClause rfl bits.length (by omega) (by omega) w
    clear h60 hcan
    go_enter Tryz.func47, Tryz.ntmps47
    obtain ⟨z0, z1, z2, z3, z4⟩ := hS.get
    go_wp2_with fail
    generalize w.alloc (.cells #[.int .i64 s.P, .int .i64 s.Q, .int .i64 s.G, vb, .int .i64 s.H] 34) = W0 at *
    have hS0 : SetAt s vb w.heap.size W0 := hS
    refine Calls.mono c1.out ?_
    clear c1 hS z0 z1 z2 z3 z4
    rintro e w1 ⟨rfl, hb1⟩
    have hS1 := hS0.next hb1
    have hbb := hb.trans (hb1.mono hb.size)
    clear hS0 hb hb1
    go_wp2
    have hR0 : BRow s bits w1.heap.size 0 _ (w1.alloc (.cells (madeCells #[.int .i64 0, .slice none 0 0] (bits.length * 2)) 55)) := ⟨VRow.made2 w1 _ _ bits.length _, fun j _ hj => by omega⟩
    have hb2 := Below.alloc_ hbb (.cells (madeCells #[.int .i64 0, .slice none 0 0] (bits.length * 2)) 55)
    have hS2 := hS1.next (below_one w1 (.cells (madeCells #[.int .i64 0, .slice none 0 0] (bits.length * 2)) 55))
    have hwg : w.heap.size < w1.heap.size := hS1.lt
    generalize w1.alloc (.cells (madeCells #[.int .i64 0, .slice none 0 0] (bits.length * 2)) 55) = W2 at *
    obtain ⟨g, hg⟩ : ∃ g, g = w1.heap.size := ⟨_, rfl⟩
    rw [← hg] at hR0 hwg ⊢
    clear hg hS1 hbb hmk
    go_loopw [24] (fun i wr => ∃ (k : Nat) (f : Nat → Value), k ≤ bits.length ∧ i = .int .i64 (k : Int) ∧ BRow s bits g k f wr ∧ SetAt s vb w.heap.size wr ∧ Below w.heap.size w wr) (fun i _ => bits.length - (intOf i).toNat)
    case atStart => exact ⟨0, _, Nat.zero_le _, rfl, hR0, hS2, hb2⟩
    case round =>
      clear hR0 hS2 hb2
      obtain ⟨k, f, hk, rfl, hR, hSr, hbr⟩ := hrel
      by_cases hlt : k < bits.length
      · obtain ⟨bk, off, rfl, _, x, hx, y0⟩ := (hv.next hbr).at k hlt
        have hxi := HBI.out _ (List.getElem_mem hlt)
        rw [← hx] at hxi
        have HX := Lib.hid hx
        obtain ⟨z0, z1, z2, z3, z4⟩ := hSr.get
        have hkl : (k : Int) < (bits.length : Int) := by omega
        have HR := Lib.hid hR
        have HS := Lib.hid hSr
        have HB := Lib.hid hbr
        have c3 := c2 x hxi wr
        have HY : Hid (s.ov x s.G = gOver s.P s.Q x s.G) := rfl
        obtain ⟨Y, hY⟩ : ∃ Y, Y = gOver s.P s.Q x s.G := ⟨_, rfl⟩
        rw [← hY] at c3 HY
        clear c2 hx hY hR hSr hbr
        go_wp2_with fail
        refine Calls.mono c3.out ?_
        clear c3 z0 z1 z2 z3 z4
        rintro e w3 ⟨rfl, hb3⟩
        have hS3 := HS.out.next hb3
        have HB3 := Lib.hid (HB.out.trans (hb3.mono HB.out.size))
        have hV3 : VRow g (bits.length * 2) f w3 := HR.out.row.next hb3
        have hD3 : Hid (∀ j x, j < k → bits[j]? = some x → f (j * 2) = .int .i64 1 ∧ IsClaims (g + 1) (f (j * 2 + 1)) (s.bitC x) w3) := by
          show ∀ j x, j < k → bits[j]? = some x → _
          intro j x hj hx
          obtain ⟨h1, h2⟩ := HR.out.done j x hj hx
          exact ⟨h1, h2.hi (Hi.below hb3)⟩
        have hgw : w.heap.size ≠ g := by omega
        have hgl : g < w3.heap.size := hV3.lt
        have HK : Hid (∀ w', w3.grownBy w' (some g) → w'.cell? ⟨w.heap.size, 0, none⟩ = some (.int .i64 s.P) ∧ w'.cell? ⟨w.heap.size, 1, none⟩ = some (.int .i64 s.Q) ∧ w'.cell? ⟨w.heap.size, 2, none⟩ = some (.int .i64 s.G) ∧ w'.cell? ⟨w.heap.size, 3, none⟩ = some vb ∧ w'.cell? ⟨w.heap.size, 4, none⟩ = some (.int .i64 s.H) ∧ w3.grownBy w' (some g)) := by
          show ∀ w', w3.grownBy w' (some g) → _
          intro w' h
          have hS' : SetAt s vb w.heap.size w' := by
            show w'.heap[w.heap.size]? = _
            rw [h.block w.heap.size hS3.lt (by simp; omega)]; exact hS3
          obtain ⟨z0, z1, z2, z3, z4⟩ := hS'.get
          exact ⟨z0, z1, z2, z3, z4, h⟩
        have j1 := Lib.hid (does_pob s vb x)
        have j2 := Lib.hid (does_pob s vb Y)
        have HS3 := Lib.hid hS3
        have HV3 := Lib.hid hV3
        have k2 : k * 2 < bits.length * 2 := by omega
        have k3 : k * 2 + 1 < bits.length * 2 := by omega
        clear hS3 hV3 hb3 HR HS HB
        go_wp2
        go_region_held3 (fun w' => w'.cell? ⟨w.heap.size, 0, none⟩ = some (.int .i64 s.P) ∧ w'.cell? ⟨w.heap.size, 1, none⟩ = some (.int .i64 s.Q) ∧ w'.cell? ⟨w.heap.size, 2, none⟩ = some (.int .i64 s.G) ∧ w'.cell? ⟨w.heap.size, 3, none⟩ = some vb ∧ w'.cell? ⟨w.heap.size, 4, none⟩ = some (.int .i64 s.H) ∧ w3.grownBy w' (some g))
          (first | exact HK.out _ (by assumption) | exact HK.out _ (only_drewN (Cod.only_refl _ _) 1) | exact HK.out _ (Cod.only_alloc (by assumption) _) | exact HK.out _ (only_store2 (by assumption)))
          (first
            | (go_at_call 45; refine Calls.mono (j1.out _ _ (by with_reducible rfl)) ?_; rintro e w4 ⟨a1, p1, rfl, hu1, hc4⟩; have hb4 : w3.grownBy w4 (some g) := Cod.only_below (by first | assumption | exact only_drewN (Cod.only_refl _ _) 1) hc4; have hV4 : VRow g (bits.length * 2) f w4 := VRow.next (by first | assumption | exact HV3.out.drewN 1) hc4; have y1 : ∀ o : Obj, (w4.alloc o).cell? ⟨g, k * 2, none⟩ = some (f (k * 2)) := fun o => (hV4.next (below_one w4 o)).at' _ k2; have y2 : ∀ o : Obj, (w4.alloc o).cell? ⟨g, k * 2 + 1, none⟩ = some (f (k * 2 + 1)) := fun o => (hV4.next (below_one w4 o)).at' _ k3; have y3 : ∀ (o : Obj) (j : Nat), (w4.alloc o).frozen? ⟨g, j, none⟩ = false := fun o j => (hV4.next (below_one w4 o)).fz j)
            | (go_at_call 45; refine Calls.mono (j2.out _ _ (by with_reducible rfl)) ?_; rintro e w5 ⟨a2, p2, rfl, hu2, hc5⟩; have hb5 : w3.grownBy w5 (some g) := Cod.only_below (by first | assumption | exact only_drewN (Cod.only_refl _ _) 1) hc5; have hV5 : VRow g (bits.length * 2) f w5 := VRow.next (by first | assumption | exact HV3.out.drewN 1) hc5; have x1 : ∀ o : Obj, (w5.alloc o).cell? ⟨g, k * 2, none⟩ = some (f (k * 2)) := fun o => (hV5.next (below_one w5 o)).at' _ k2; have x2 : ∀ o : Obj, (w5.alloc o).cell? ⟨g, k * 2 + 1, none⟩ = some (f (k * 2 + 1)) := fun o => (hV5.next (below_one w5 o)).at' _ k3; have x3 : ∀ (o : Obj) (j : Nat), (w5.alloc o).frozen? ⟨g, j, none⟩ = false := fun o j => (hV5.next (below_one w5 o)).fz j))
        all_goals
          have hu1' : IsEqs (g + 1) (.slice a1 (s.pob x).eqs.length p1) (s.pob x).eqs w5 := by
            first
              | exact (hu1.low (show g + 1 ≤ _ by first | exact hgl | exact Nat.le_trans hgl hb5.size)).hi (Hi.below hc5)
              | exact hu1.low (show g + 1 ≤ _ by first | exact hgl | exact Nat.le_trans hgl hb5.size)
          have hu2' : IsEqs (g + 1) (.slice a2 (s.pob Y).eqs.length p2) (s.pob Y).eqs w5 := hu2.low (Nat.le_trans hgl hb4.size)
          have HN := Lib.hid (BRow.step (show x = bits.getD k 0 by rw [HX.out, List.getD_eq_getElem?_getD, List.getElem?_eq_getElem hlt]; rfl) hlt HY.out hD3.out hb5 hV5 hu1' hu2')
          have HG := Lib.hid (only_store2 (o1 := k * 2) (o2 := k * 2 + 1) (u := .int .i64 1) (v := .slice (some ⟨w5.heap.size, 0, none⟩) 2 2) (o := .cells #[.int .i64 (s.pob x).vars, .slice a1 (s.pob x).eqs.length p1, .int .i64 (s.pob Y).vars, .slice a2 (s.pob Y).eqs.length p2] 66) hb5)
          clear y1 y2 y3 x1 x2 x3 hu1 hu2 hu1' hu2' hV4 hV5 hc4 hc5 hb4 hb5 k2 k3 hxi y0
          go_wp2
          go_roundw
          case rel => exact ⟨k + 1, _, by omega, by go_num, HN.out, HS3.out.grown HG.out hgw, below_only HB3.out HG.out (by omega)⟩
          case measure => simp [intOf]; omega
      · obtain rfl : k = bits.length := by omega
        have HG := Lib.hid (hR.goal (lo := w.heap.size) (by omega))
        have HR2 : Hid (BitsRow s bits w.heap.size (.slice (some ⟨g, 0, none⟩) bits.length bits.length) wr) := fun _ => ⟨g, f, rfl, by omega, hR⟩
        clear hR
        go_wp2
        go_ret
        exact ⟨_, rfl, by rw [HF.out]; exact HG.out, hbr, HR2.out⟩
  · rw [if_neg hcan] at c1 HF
    have HN2 := Lib.hid hcan
    clear h60 hcan c2
    go_enter Tryz.func47, Tryz.ntmps47
    obtain ⟨z0, z1, z2, z3, z4⟩ := hS.get
    go_wp2_with fail
    generalize w.alloc (.cells #[.int .i64 s.P, .int .i64 s.Q, .int .i64 s.G, vb, .int .i64 s.H] 34) = W0 at *
    refine Calls.mono c1.out ?_
    clear c1 hS z0 z1 z2 z3 z4
    rintro e w1 ⟨rfl, hb1⟩
    have hbb := hb.trans (hb1.mono hb.size)
    clear hb hb1
    go_wp2
    go_ret
    exact ⟨_, rfl, by rw [HF.out]; exact .inl ⟨⟨_, _, rfl⟩, rfl⟩, hbb, fun h => absurd h HN2.out⟩
end Go.Proofs.YthnkfjjgccabeaaGreatDoor
