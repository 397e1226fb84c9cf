/- The arguments opened: a value, and a slice of values, as they lie in memory. -/
import Derived.Test.YtgpeingndefacaaDoorVals
import Derived.Test.YtgpeingndefacaaDoorRow
import Derived.Deep.Slices
import Derived.Deep.Fields
import Derived.ChangeSame
import Derived.Lib.SmallJoins
import Derived.SliceStrings
namespace Go.Proofs.YtgpeingndefacaaDoor
section
open Go.ChangeShapes Go.WideShapes Go.Deep
section
variable {H : Type} {enc : TypeId × Value → H} {P : Program} {w : World} {base : Nat} {spare : Nat → Bool} {held : Bool}
theorem open_slice_fields {t e : TypeId} {fs : Array Field} {fuel : Nat} {cs : List Value} {x : DataW H × List MemPlace} (ht : P.underlying t = some (.slice e)) (he : P.underlying e = some (.struct fs))
    (hone : oneCellFields P fs = true) (hC : P.cellsOf e = fs.size) (h : DataW.trod enc P w base spare held fuel t cs = some x) :
    (cs = [.slice none 0 0] ∧ x = (.nil, [])) ∨
    ∃ (a : Addr) (len cap m : Nat) (D : Nat → DataW H) (Pl : Nat → List MemPlace), cs = [.slice (some a) len cap] ∧ base ≤ a.block ∧ len ≤ cap ∧ cap ≤ maxLen ∧ m = (if spare a.block then cap else len) ∧
      x = (.slice ((List.range len).map D) ((List.range (m - len)).map fun j => D (len + j)), MemPlace.row a (m * fs.size) ++ (List.range m).flatMap Pl) ∧
      ∀ i, i < m → ∃ (ys : List (DataW H × List MemPlace)) (n : Nat), D i = .agg (ys.map (·.1)) ∧ Pl i = ys.flatMap (·.2) ∧ ys.length = fs.size ∧
        ∀ (j : Nat) (f : Field), fs[j]? = some f → ∃ (v : Value) (y : DataW H × List MemPlace), w.cell? (a.add (i * fs.size + j)) = some v ∧ ys[j]? = some y ∧ DataW.trod enc P w base spare held n f.type [v] = some y := by
  rcases open_slice ht h with h0 | ⟨a, len, cap, m, n, D, Pl, hcs, hb, hl, hm, hmm, hx, hi⟩
  · exact .inl h0
  · refine .inr ⟨a, len, cap, m, D, Pl, hcs, hb, hl, hm, hmm, by rw [hC] at hx; exact hx, fun i him => ?_⟩
    obtain ⟨cs', hc, ht'⟩ := hi i him
    rw [hC] at hc
    obtain ⟨ys, n', hn', hy, hlen, hyl, hf⟩ := DataW.trod_struct he ht'
    obtain ⟨_, hcl, hat⟩ := World.cells?_some hc
    simp only [Prod.mk.injEq] at hy
    refine ⟨ys, n', hy.1, hy.2, hyl, fun j f hj => ?_⟩
    obtain ⟨ho, hk⟩ := hone_of hone j f hj
    have hjl : j < fs.size := (Array.getElem?_eq_some_iff.1 hj).1
    have hcell := hat j hjl
    have hv : cs'[j]? = some (cs'[j]'(by omega)) := List.getElem?_eq_getElem (by omega)
    have h1 := hf j f hj
    rw [ho, hk] at h1
    have hone' : (cs'.drop j).take 1 = [cs'[j]'(by omega)] := by
      rw [List.drop_eq_getElem_cons (by omega)]
      rfl
    rw [hone'] at h1
    have hys : ys[j]? = some (ys[j]'(by omega)) := List.getElem?_eq_getElem (by omega)
    refine ⟨_, _, ?_, hys, h1.trans hys⟩
    rw [← Go.Deep.add_add, hcell, hv]
end
end
section
open Go.Joins Go.ChangeShapes Go.WideShapes Go.RowKit Go.Deep
section
variable {H : Type} {enc : TypeId × Value → H} {P : Program} {w : World} {base : Nat} {spare : Nat → Bool} {held : Bool}
theorem open_agg5 {r : Reach} {b0 : Nat} {t : TypeId} {f0 f1 f2 f3 f4 : Field} {v : Value} {d : DataW H} {p : List MemPlace} (hs : P.underlying t = some (.struct #[f0, f1, f2, f3, f4])) (hone : oneCellFields P #[f0, f1, f2, f3, f4] = true) (hC : P.cellsOf t = 5)
    (hv : Value.okWide P w r b0 t v) (h : DataW.Trod enc P w base spare held t v d p) :
    ∃ (v0 v1 v2 v3 v4 : Value) (y0 y1 y2 y3 y4 : DataW H × List MemPlace) (n : Nat), v = .agg #[v0, v1, v2, v3, v4] ∧ d = .agg [y0.1, y1.1, y2.1, y3.1, y4.1] ∧ p = y0.2 ++ (y1.2 ++ (y2.2 ++ (y3.2 ++ y4.2))) ∧
      DataW.trod enc P w base spare held n f0.type [v0] = some y0 ∧ DataW.trod enc P w base spare held n f1.type [v1] = some y1 ∧ DataW.trod enc P w base spare held n f2.type [v2] = some y2 ∧ DataW.trod enc P w base spare held n f3.type [v3] = some y3 ∧ DataW.trod enc P w base spare held n f4.type [v4] = some y4 := by
  obtain ⟨cs, rfl, hsz⟩ := okWide_struct hs hv
  obtain ⟨l⟩ := cs
  match l, hsz.trans hC with
  | [c0, c1, c2, c3, c4], _ =>
    obtain ⟨fuel, hf⟩ := h
    obtain ⟨xs, n, _, hx, _, hlen, hg⟩ := DataW.trod_struct hs hf
    obtain ⟨o0, k0⟩ := hone_of hone 0 f0 rfl
    obtain ⟨o1, k1⟩ := hone_of hone 1 f1 rfl
    obtain ⟨o2, k2⟩ := hone_of hone 2 f2 rfl
    obtain ⟨o3, k3⟩ := hone_of hone 3 f3 rfl
    obtain ⟨o4, k4⟩ := hone_of hone 4 f4 rfl
    match xs, hlen with
    | [y0, y1, y2, y3, y4], _ =>
      simp only [Prod.mk.injEq] at hx
      exact ⟨c0, c1, c2, c3, c4, y0, y1, y2, y3, y4, n, rfl, by simpa using hx.1, by simpa using hx.2, by simpa [Value.cells, o0, k0] using hg 0 f0 rfl, by simpa [Value.cells, o1, k1] using hg 1 f1 rfl, by simpa [Value.cells, o2, k2] using hg 2 f2 rfl, by simpa [Value.cells, o3, k3] using hg 3 f3 rfl, by simpa [Value.cells, o4, k4] using hg 4 f4 rfl⟩

end
end
open Go.ChangeShapes Go.WideShapes Go.ChangeAt Go.WideMaps Go.WideElems Go.RowKit
section
variable {H : Type} {enc : TypeId × Value → H} {w : World}

/-- A slice of ints that came in. -/
theorem in_ints {fuel : Nat} {v : Value} {y : DataW H × List MemPlace} (h : DataW.trod enc Tryd.prog w 0 (fun _ => true) true fuel 22 [v] = some y) :
    ∃ xs, IsInts v xs w ∧ (∀ x ∈ xs, isInt x) ∧ xs.length ≤ 9223372036854775807 := by
  rcases open_ints Tryd.underlying22 Tryd.underlying3 (by kernel_rfl) h with ⟨hcs, -⟩ | ⟨a, len, cap, zs, hcs, -, hl, hm, hz, -, hcell, hwz⟩
  · simp only [List.cons.injEq, and_true] at hcs
    exact ⟨[], .inl ⟨⟨none, 0, hcs⟩, rfl⟩, by simp, by simp⟩
  · simp only [List.cons.injEq, and_true] at hcs
    have hz2 : zs.length = cap := by simpa using hz
    unfold maxLen at hm
    have hlt : (zs.take len).length = len := by rw [List.length_take]; omega
    refine ⟨zs.take len, ?_, fun x hx => int_of_wf (hwz x (List.mem_of_mem_take hx)), by omega⟩
    by_cases h0 : len = 0
    · exact .inl ⟨⟨some a, cap, by rw [hcs, h0]⟩, by rw [h0]; rfl⟩
    · obtain ⟨b, off, rfl, hc⟩ := ints_at hcell (by omega)
      have hb : b < w.heap.size := by
        have h1 := hc 0 (by omega)
        rcases Nat.lt_or_ge b w.heap.size with h' | h'
        · exact h'
        · simp [World.cell?, Array.getElem?_eq_none h'] at h1
      refine .inr ⟨b, off, cap, by rw [hlt, hcs], hb, fun i x hx => ?_⟩
      have hi : i < (zs.take len).length := (List.getElem?_eq_some_iff.1 hx).1
      rw [hc i (by omega)]
      rw [List.getElem?_take_of_lt (by omega)] at hx
      rw [List.getD_eq_getElem?_getD, hx]; rfl
/-- A slice of strings that came in. -/
theorem in_texts {fuel : Nat} {v : Value} {y : DataW H × List MemPlace} (h : DataW.trod enc Tryd.prog w 0 (fun _ => true) true fuel 23 [v] = some y) :
    ∃ xs, IsTexts v xs w ∧ (∀ x ∈ xs, x.length ≤ 9223372036854775807) ∧ xs.length ≤ 9223372036854775807 := by
  rcases open_strings Tryd.underlying23 Tryd.underlying9 (by kernel_rfl) h with ⟨hcs, -⟩ | ⟨a, len, cap, ss, hcs, -, hl, hm, hz, -, hcell, hws⟩
  · simp only [List.cons.injEq, and_true] at hcs
    exact ⟨[], .inl ⟨⟨none, 0, hcs⟩, rfl⟩, by simp, by simp⟩
  · simp only [List.cons.injEq, and_true] at hcs
    have hz2 : ss.length = cap := by simpa using hz
    unfold maxLen at hm hws
    have hlt : ((ss.take len).map fun s => s.data.toList).length = len := by rw [List.length_map, List.length_take]; omega
    refine ⟨(ss.take len).map fun s => s.data.toList, ?_, fun x hx => ?_, by omega⟩
    · by_cases h0 : len = 0
      · exact .inl ⟨⟨some a, cap, by rw [hcs, h0]⟩, by rw [h0]; rfl⟩
      · obtain ⟨b, off, spot⟩ := a
        have hspot : spot = none := by simpa [Addr.add] using World.cell?_spot (hcell 0 (by omega))
        subst hspot
        have hc : ∀ j, j < ss.length → w.cell? ⟨b, off + j, none⟩ = some (.string (ss.getD j ByteArray.empty)) := fun j hj => by rw [← Go.WideShapes.add_plain]; exact hcell j hj
        have hb : b < w.heap.size := by
          have h1 := hc 0 (by omega)
          rcases Nat.lt_or_ge b w.heap.size with h' | h'
          · exact h'
          · simp [World.cell?, Array.getElem?_eq_none h'] at h1
        refine .inr ⟨b, off, cap, by rw [hlt, hcs], hb, fun i x hx => ?_⟩
        have hi : i < len := by
          have := (List.getElem?_eq_some_iff.1 hx).1
          omega
        rw [hc i (by omega)]
        rw [List.getElem?_map, List.getElem?_take_of_lt hi] at hx
        obtain ⟨s, hs, rfl⟩ := Option.map_eq_some_iff.1 hx
        rw [List.getD_eq_getElem?_getD, hs]
        show some (Value.string s) = some (Value.string (bs s.data.toList))
        rw [bs_of]
    · obtain ⟨s, hs, rfl⟩ := List.mem_map.1 hx
      rw [← Lib.size_eq]
      exact hws s (List.mem_of_mem_take hs)

/-- What is said of a value beside its cells. -/
def ValFit (v : Val) : Prop := v.l.length ≤ 9223372036854775807 ∧ v.t.length ≤ 9223372036854775807 ∧ (bs v.s).size ≤ 9223372036854775807
/-- Five cells that read as a value. -/
theorem in_val {n : Nat} {v0 v1 v2 v3 v4 : Value} {y0 y1 y2 y3 y4 : DataW H × List MemPlace} (h0 : DataW.trod enc Tryd.prog w 0 (fun _ => true) true n 3 [v0] = some y0) (h1 : DataW.trod enc Tryd.prog w 0 (fun _ => true) true n 3 [v1] = some y1)
    (h2 : DataW.trod enc Tryd.prog w 0 (fun _ => true) true n 9 [v2] = some y2) (h3 : DataW.trod enc Tryd.prog w 0 (fun _ => true) true n 22 [v3] = some y3) (h4 : DataW.trod enc Tryd.prog w 0 (fun _ => true) true n 23 [v4] = some y4) :
    ∃ v, ValIs v v0 v1 v2 v3 v4 w ∧ ValFit v := by
  obtain ⟨k, e0, -, wk⟩ := DataW.trod_int Tryd.underlying3 h0
  obtain ⟨i, e1, -, wi⟩ := DataW.trod_int Tryd.underlying3 h1
  obtain ⟨s, e2, -, hs⟩ := DataW.trod_string Tryd.underlying9 h2
  simp only [List.cons.injEq, and_true] at e0 e1 e2
  subst e0 e1 e2
  obtain ⟨l, hl, hli, hll⟩ := in_ints h3
  obtain ⟨t, ht, htt, htl⟩ := in_texts h4
  refine ⟨⟨k, i, s.data.toList, l, t⟩, ⟨rfl, rfl, by rw [bs_of], hl, ht, int_of_wf wk, int_of_wf wi, hli⟩, hll, htl, ?_⟩
  rw [bs_of]
  exact hs

/-- A slice of values that came in. -/
theorem in_vals {fuel : Nat} {u : Value} {y : DataW H × List MemPlace} (h : DataW.trod enc Tryd.prog w 0 (fun _ => true) true fuel 28 [u] = some y) :
    ∃ vs, IsVals u vs w ∧ (∀ v ∈ vs, ValFit v) ∧ vs.length ≤ 9223372036854775807 ∧ ∀ v ∈ vs, isInt v.n ∧ ∀ x ∈ v.l, isInt x := by
  rcases open_slice_fields Tryd.underlying28 Tryd.underlying25 (by kernel_rfl) (by kernel_rfl) h with ⟨hcs, -⟩ | ⟨a, len, cap, m, D, Pl, hcs, -, hl, hm, hmm, -, hf⟩
  · simp only [List.cons.injEq, and_true] at hcs
    exact ⟨[], .inl ⟨⟨none, 0, hcs⟩, rfl⟩, by simp, by simp, by simp⟩
  · simp only [List.cons.injEq, and_true] at hcs
    unfold maxLen at hm
    have hm2 : len ≤ m := by rw [hmm]; split <;> omega
    -- each element's five cells
    have hel : ∀ i, i < m → ∃ (v0 v1 v2 v3 v4 : Value) (v : Val), ValIs v v0 v1 v2 v3 v4 w ∧ ValFit v ∧ w.cell? (a.add (i * 5 + 0)) = some v0 ∧ w.cell? (a.add (i * 5 + 1)) = some v1 ∧ w.cell? (a.add (i * 5 + 2)) = some v2 ∧ w.cell? (a.add (i * 5 + 3)) = some v3 ∧ w.cell? (a.add (i * 5 + 4)) = some v4 := by
      intro i hi
      obtain ⟨ys, n, -, -, -, hj⟩ := hf i hi
      obtain ⟨v0, y0, c0, -, t0⟩ := hj 0 _ rfl
      obtain ⟨v1, y1, c1, -, t1⟩ := hj 1 _ rfl
      obtain ⟨v2, y2, c2, -, t2⟩ := hj 2 _ rfl
      obtain ⟨v3, y3, c3, -, t3⟩ := hj 3 _ rfl
      obtain ⟨v4, y4, c4, -, t4⟩ := hj 4 _ rfl
      obtain ⟨v, hv, hfit⟩ := in_val t0 t1 t2 t3 t4
      exact ⟨v0, v1, v2, v3, v4, v, hv, hfit, c0, c1, c2, c3, c4⟩
    by_cases h0 : len = 0
    · exact ⟨[], .inl ⟨⟨some a, cap, by rw [hcs, h0]⟩, rfl⟩, by simp, by simp, by simp⟩
    · obtain ⟨b, off, spot⟩ := a
      have hspot : spot = none := by
        obtain ⟨v0, _, _, _, _, _, _, _, c0, _⟩ := hel 0 (by omega)
        simpa [Addr.add] using World.cell?_spot c0
      subst hspot
      have hadd : ∀ k, (⟨b, off, none⟩ : Addr).add k = ⟨b, off + k, none⟩ := fun k => Go.WideShapes.add_plain ..
      have hb : b < w.heap.size := by
        obtain ⟨v0, _, _, _, _, _, _, _, c0, _⟩ := hel 0 (by omega)
        rw [hadd] at c0
        rcases Nat.lt_or_ge b w.heap.size with h' | h'
        · exact h'
        · simp [World.cell?, Array.getElem?_eq_none h'] at c0
      have hex : ∀ k, k ≤ len → ∃ vs : List Val, vs.length = k ∧ (∀ v ∈ vs, ValFit v) ∧ (∀ v ∈ vs, isInt v.n ∧ ∀ x ∈ v.l, isInt x) ∧ ∀ i v, vs[i]? = some v → ValAt b (off + i * 5) v w := by
        intro k
        induction k with
        | zero => intro _; exact ⟨[], rfl, by simp, by simp, by simp⟩
        | succ k ih =>
          intro hk
          obtain ⟨vs, hl1, hl2, hl3, hl4⟩ := ih (by omega)
          obtain ⟨v0, v1, v2, v3, v4, v, hv, hfit, c0, c1, c2, c3, c4⟩ := hel k (by omega)
          rw [hadd] at c0 c1 c2 c3 c4
          refine ⟨vs ++ [v], by simp [hl1], ?_, ?_, ?_⟩
          · intro x hx
            rw [List.mem_append, List.mem_singleton] at hx
            rcases hx with hx | rfl
            · exact hl2 x hx
            · exact hfit
          · intro x hx
            rw [List.mem_append, List.mem_singleton] at hx
            rcases hx with hx | rfl
            · exact hl3 x hx
            · exact ⟨hv.2.2.2.2.2.2.1, hv.2.2.2.2.2.2.2⟩
          · intro i x hx
            by_cases hi : i < vs.length
            · rw [List.getElem?_append_left hi] at hx
              exact hl4 i x hx
            · rw [List.getElem?_append_right (by omega)] at hx
              have hik : i - vs.length = 0 := by
                have := (List.getElem?_eq_some_iff.1 hx).1
                simpa using this
              rw [hik] at hx
              simp only [List.getElem?_cons_zero, Option.some.injEq] at hx
              subst hx
              have hi2 : i = k := by omega
              subst hi2
              exact ⟨v0, v1, v2, v3, v4, hv, by simpa using c0, by simpa [Nat.add_assoc] using c1, by simpa [Nat.add_assoc] using c2, by simpa [Nat.add_assoc] using c3, by simpa [Nat.add_assoc] using c4⟩
      obtain ⟨vs, hl1, hl2, hl3, hl4⟩ := hex len (Nat.le_refl _)
      exact ⟨vs, .inr ⟨b, off, cap, by rw [hl1, hcs], hb, hl4⟩, hl2, by omega, hl3⟩
end
theorem laidOut : laidOutB Tryd.prog = true := by kernel_rfl
end Go.Proofs.YtgpeingndefacaaDoor
