/- Lists of tokens that come in. -/
import Derived.Test.YtadfdgdpalnnfaaDoorToks
import Derived.Test.YtadfdgdpalnnfaaDoorRow
import Derived.Deep.Slices
import Derived.Deep.Fields
import Derived.ChangeSame
import Derived.Lib.SmallJoins
import Derived.SliceStrings
namespace Go.Proofs.YtadfdgdpalnnfaaDoor
section
open Go.ChangeShapes Go.WideShapes Go.Deep
variable {H : Type} {enc : TypeId × Value → H} {P : Program} {w : World} {base : Nat} {spare : Nat → Bool} {held : Bool}
theorem open_slice_fields {t e : TypeId} {fs : Array Field} {fuel : Nat} {cs : List Value} {x : DataW H × List MemPlace} (ht : P.underlying t = some (.slice e)) (he : P.underlying e = some (.struct fs))
    (hone : oneCellFields P fs = true) (hC : P.cellsOf e = fs.size) (h : DataW.trod enc P w base spare held fuel t cs = some x) :
    (cs = [.slice none 0 0] ∧ x = (.nil, [])) ∨
    ∃ (a : Addr) (len cap m : Nat) (D : Nat → DataW H) (Pl : Nat → List MemPlace), cs = [.slice (some a) len cap] ∧ base ≤ a.block ∧ len ≤ cap ∧ cap ≤ maxLen ∧ m = (if spare a.block then cap else len) ∧
      x = (.slice ((List.range len).map D) ((List.range (m - len)).map fun j => D (len + j)), MemPlace.row a (m * fs.size) ++ (List.range m).flatMap Pl) ∧
      ∀ i, i < m → ∃ (ys : List (DataW H × List MemPlace)) (n : Nat), D i = .agg (ys.map (·.1)) ∧ Pl i = ys.flatMap (·.2) ∧ ys.length = fs.size ∧
        ∀ (j : Nat) (f : Field), fs[j]? = some f → ∃ (v : Value) (y : DataW H × List MemPlace), w.cell? (a.add (i * fs.size + j)) = some v ∧ ys[j]? = some y ∧ DataW.trod enc P w base spare held n f.type [v] = some y := by
  rcases open_slice ht h with h0 | ⟨a, len, cap, m, n, D, Pl, hcs, hb, hl, hm, hmm, hx, hi⟩
  · exact .inl h0
  · refine .inr ⟨a, len, cap, m, D, Pl, hcs, hb, hl, hm, hmm, by rw [hC] at hx; exact hx, fun i him => ?_⟩
    obtain ⟨cs', hc, ht'⟩ := hi i him
    rw [hC] at hc
    obtain ⟨ys, n', hn', hy, hlen, hyl, hf⟩ := DataW.trod_struct he ht'
    obtain ⟨_, hcl, hat⟩ := World.cells?_some hc
    simp only [Prod.mk.injEq] at hy
    refine ⟨ys, n', hy.1, hy.2, hyl, fun j f hj => ?_⟩
    obtain ⟨ho, hk⟩ := hone_of hone j f hj
    have hjl : j < fs.size := (Array.getElem?_eq_some_iff.1 hj).1
    have hcell := hat j hjl
    have hv : cs'[j]? = some (cs'[j]'(by omega)) := List.getElem?_eq_getElem (by omega)
    have h1 := hf j f hj
    rw [ho, hk] at h1
    have hone' : (cs'.drop j).take 1 = [cs'[j]'(by omega)] := by
      rw [List.drop_eq_getElem_cons (by omega)]
      rfl
    rw [hone'] at h1
    have hys : ys[j]? = some (ys[j]'(by omega)) := List.getElem?_eq_getElem (by omega)
    refine ⟨_, _, ?_, hys, h1.trans hys⟩
    rw [← Go.Deep.add_add, hcell, hv]
end
section
open Go.ChangeShapes Go.WideShapes Go.ChangeAt Go.WideMaps Go.WideElems Go.RowKit
variable {H : Type} {enc : TypeId × Value → H} {w : World}
/-- A slice of tokens that came in. -/
theorem in_toks {fuel : Nat} {u : Value} {y : DataW H × List MemPlace} (h : DataW.trod enc Tryd.prog w 0 (fun _ => true) true fuel 22 [u] = some y) :
    ∃ ts, IsToks u ts w ∧ (∀ t ∈ ts, t.text.length ≤ 9223372036854775807) ∧ ts.length ≤ 9223372036854775807 := by
  rcases open_slice_fields Tryd.underlying22 Tryd.underlying25 (by kernel_rfl) (by kernel_rfl) h with ⟨hcs, -⟩ | ⟨a, len, cap, m, D, Pl, hcs, -, hl, hm, hmm, -, hf⟩
  · simp only [List.cons.injEq, and_true] at hcs
    exact ⟨[], .inl ⟨⟨none, 0, hcs⟩, rfl⟩, by simp, by simp⟩
  · simp only [List.cons.injEq, and_true] at hcs
    unfold maxLen at hm
    have hm2 : len ≤ m := by rw [hmm]; split <;> omega
    have hel : ∀ i, i < m → ∃ t : Tk, t.text.length ≤ 9223372036854775807 ∧ w.cell? (a.add (i * 4 + 0)) = some (.int .i64 t.kind) ∧ w.cell? (a.add (i * 4 + 1)) = some (.string (bs t.text)) ∧ w.cell? (a.add (i * 4 + 2)) = some (.int .i64 t.n) ∧ w.cell? (a.add (i * 4 + 3)) = some (.int .i64 t.pos) := by
      intro i hi
      obtain ⟨ys, n, -, -, -, hj⟩ := hf i hi
      obtain ⟨v0, y0, c0, -, t0⟩ := hj 0 _ rfl
      obtain ⟨v1, y1, c1, -, t1⟩ := hj 1 _ rfl
      obtain ⟨v2, y2, c2, -, t2⟩ := hj 2 _ rfl
      obtain ⟨v3, y3, c3, -, t3⟩ := hj 3 _ rfl
      obtain ⟨k, e0, -, -⟩ := DataW.trod_int Tryd.underlying3 t0
      obtain ⟨s, e1, -, hs⟩ := DataW.trod_string Tryd.underlying9 t1
      obtain ⟨n2, e2, -, -⟩ := DataW.trod_int Tryd.underlying3 t2
      obtain ⟨n3, e3, -, -⟩ := DataW.trod_int Tryd.underlying3 t3
      simp only [List.cons.injEq, and_true] at e0 e1 e2 e3
      subst e0 e1 e2 e3
      refine ⟨⟨k, s.data.toList, n2, n3⟩, ?_, c0, ?_, c2, c3⟩
      · simp only
        rw [← Lib.size_eq]
        exact hs
      · simp only
        rw [bs_of]; exact c1
    by_cases h0 : len = 0
    · exact ⟨[], .inl ⟨⟨some a, cap, by rw [hcs, h0]⟩, rfl⟩, by simp, by simp⟩
    · obtain ⟨b, off, spot⟩ := a
      have hspot : spot = none := by
        obtain ⟨t, _, c0, _⟩ := hel 0 (by omega)
        simpa [Addr.add] using World.cell?_spot c0
      subst hspot
      have hadd : ∀ k, (⟨b, off, none⟩ : Addr).add k = ⟨b, off + k, none⟩ := fun k => Go.WideShapes.add_plain ..
      have hb : b < w.heap.size := by
        obtain ⟨t, _, c0, _⟩ := hel 0 (by omega)
        rw [hadd] at c0
        rcases Nat.lt_or_ge b w.heap.size with h' | h'
        · exact h'
        · simp [World.cell?, Array.getElem?_eq_none h'] at c0
      have hex : ∀ k, k ≤ len → ∃ ts : List Tk, ts.length = k ∧ (∀ t ∈ ts, t.text.length ≤ 9223372036854775807) ∧ ∀ i t, ts[i]? = some t → TokAt b (off + i * 4) t w := by
        intro k
        induction k with
        | zero => intro _; exact ⟨[], rfl, by simp, by simp⟩
        | succ k ih =>
          intro hk
          obtain ⟨ts, hl1, hl2, hl4⟩ := ih (by omega)
          obtain ⟨t, hfit, c0, c1, c2, c3⟩ := hel k (by omega)
          rw [hadd] at c0 c1 c2 c3
          refine ⟨ts ++ [t], by simp [hl1], ?_, ?_⟩
          · intro x hx
            rw [List.mem_append, List.mem_singleton] at hx
            rcases hx with hx | rfl
            · exact hl2 x hx
            · exact hfit
          · intro i x hx
            by_cases hi : i < ts.length
            · rw [List.getElem?_append_left hi] at hx
              exact hl4 i x hx
            · rw [List.getElem?_append_right (by omega)] at hx
              have hik : i - ts.length = 0 := by
                have := (List.getElem?_eq_some_iff.1 hx).1
                simpa using this
              rw [hik] at hx
              simp only [List.getElem?_cons_zero, Option.some.injEq] at hx
              subst hx
              have hi2 : i = k := by omega
              subst hi2
              exact ⟨by simpa using c0, by simpa [Nat.add_assoc] using c1, by simpa [Nat.add_assoc] using c2, by simpa [Nat.add_assoc] using c3⟩
      obtain ⟨ts, hl1, hl2, hl4⟩ := hex len (Nat.le_refl _)
      exact ⟨ts, .inr ⟨b, off, cap, by rw [hl1, hcs], hb, hl4⟩, hl2, by omega⟩
end
theorem laidOut : laidOutB Tryd.prog = true := by kernel_rfl
end Go.Proofs.YtadfdgdpalnnfaaDoor
