/- A Builder is carried. -/
import Derived.Test.YtkfmhibdoapndaaDoorCodp
import Derived.Test.YtkfmhibdoapndaaDoorBuild
namespace Go.Proofs.YtkfmhibdoapndaaDoor
open Go.RowKit

theorem owns_next {w w' : World} {B : Nat} {e : TypeId} {size : Nat} {v : Value} {n : Nat} {xs : List Value} (h : w.ownsRow B e size v n xs) (hb : Below w.heap.size w w') : w'.ownsRow B e size v n xs := by
  obtain ⟨hl, h0 | ⟨g, cap, cur, hv, hg, hh, r⟩⟩ := h
  · exact ⟨hl, .inl h0⟩
  · have hlt : g < w.heap.size := by
      rcases Nat.lt_or_ge g w.heap.size with h' | h'
      · exact h'
      · simp [Array.getElem?_eq_none h'] at hh
    exact ⟨hl, .inr ⟨g, cap, cur, hv, hg, by rw [hb.block g hlt]; exact hh, r⟩⟩
theorem builderAt_next {w w' : World} {B b : Nat} {p : Value} {l : List Value} (h : Lib.BuilderAt 86 5 B b p l w) (hb : Below w.heap.size w w') : Lib.BuilderAt 86 5 B b p l w' := by
  have hlt := h.lt
  obtain ⟨hB, v, hh, ho, hn⟩ := h
  exact ⟨hB, v, by rw [hb.block b hlt]; exact hh, owns_next ho hb, hn⟩
end Go.Proofs.YtkfmhibdoapndaaDoor
