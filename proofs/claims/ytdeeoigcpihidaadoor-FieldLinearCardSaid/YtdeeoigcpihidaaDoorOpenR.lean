/- Slices of slices of ints that came in. -/
import Derived.Test.YtdeeoigcpihidaaDoorLay
import Derived.Deep.Matrix
namespace Go.Proofs.YtdeeoigcpihidaaDoor
open Go.Joins Go.ChangeShapes Go.WideShapes Go.ChangeAt Go.WideMaps Go.WideElems Go.RowKit Go.Deep
section
variable {H : Type} {enc : TypeId × Value → H} {w : World}
theorem in_rows {fuel : Nat} {v : Value} {y : DataW H × List MemPlace} (h : DataW.trod enc Tryd.prog w 0 (fun _ => true) true fuel 22 [v] = some y) :
    ∃ xss, IsRows v xss w ∧ (∀ r ∈ xss, ∀ x ∈ r, isInt x) ∧ (∀ r ∈ xss, r.length ≤ 9223372036854775807) ∧ xss.length ≤ 9223372036854775807 := by
  rcases open_slice1 Tryd.underlying22 (by kernel_rfl) h with ⟨hcs, -⟩ | ⟨a, len, cap, m, n, V, D, Pl, hcs, -, hl, hm, hmm, -, hx⟩
  · simp only [List.cons.injEq, and_true] at hcs
    exact ⟨[], .inl ⟨⟨none, 0, hcs⟩, rfl⟩, by simp, by simp, by simp⟩
  · simp only [List.cons.injEq, and_true] at hcs
    unfold maxLen at hm
    have hm2 : m = cap := by simpa using hmm
    subst hm2
    have hex : ∀ r, ∃ xs, r < m → IsInts (V r) xs w ∧ (∀ x ∈ xs, isInt x) ∧ xs.length ≤ 9223372036854775807 := fun r => by
      by_cases hr : r < m
      · obtain ⟨xs, h1⟩ := in_ints (hx r hr).2
        exact ⟨xs, fun _ => h1⟩
      · exact ⟨[], fun h => absurd h hr⟩
    obtain ⟨X, hX⟩ : ∃ X : Nat → List Int, ∀ r, r < m → IsInts (V r) (X r) w ∧ (∀ x ∈ X r, isInt x) ∧ (X r).length ≤ 9223372036854775807 := ⟨fun r => Classical.choose (hex r), fun r => Classical.choose_spec (hex r)⟩
    refine ⟨(List.range len).map X, ?_, fun r hr => ?_, fun r hr => ?_, by simp; omega⟩
    · by_cases h0 : len = 0
      · exact .inl ⟨⟨some a, m, by rw [hcs, h0]⟩, by rw [h0]; rfl⟩
      · obtain ⟨b, off, spot⟩ := a
        have hspot : spot = none := by
          have c0 := (hx 0 (by omega)).1
          simpa [Addr.add] using World.cell?_spot c0
        subst hspot
        have hadd : ∀ k, (⟨b, off, none⟩ : Addr).add k = ⟨b, off + k, none⟩ := fun k => Go.WideShapes.add_plain ..
        have hb : b < w.heap.size := by
          have c0 := (hx 0 (by omega)).1
          rw [hadd] at c0
          rcases Nat.lt_or_ge b w.heap.size with h' | h'
          · exact h'
          · simp [World.cell?, Array.getElem?_eq_none h'] at c0
        refine .inr ⟨b, off, m, by rw [hcs]; simp, hb, fun i xs hxs => ?_⟩
        obtain ⟨hi, hxs⟩ := List.getElem?_eq_some_iff.1 hxs
        simp only [List.length_map, List.length_range] at hi
        rw [List.getElem_map, List.getElem_range] at hxs
        refine ⟨V i, ?_, by rw [← hxs]; exact (hX i (by omega)).1⟩
        have := (hx i (by omega)).1
        rwa [hadd] at this
    · obtain ⟨i, hi, rfl⟩ := List.mem_map.1 hr
      exact (hX i (by have := List.mem_range.1 hi; omega)).2.1
    · obtain ⟨i, hi, rfl⟩ := List.mem_map.1 hr
      exact (hX i (by have := List.mem_range.1 hi; omega)).2.2
end
end Go.Proofs.YtdeeoigcpihidaaDoor
