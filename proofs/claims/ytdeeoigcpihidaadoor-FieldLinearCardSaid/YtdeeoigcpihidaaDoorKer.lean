/- The basis of a kernel: what Kernel makes, and how it lies in memory. -/
import Derived.Test.YtdeeoigcpihidaaDoorSolD
namespace Go.Proofs.YtdeeoigcpihidaaDoor
open Go.RowKit

def kerF (piv : List Nat) (f : Nat → Int) (j : Nat) : Nat → Nat → Int
  | 0, t => if t = j then 1 else 0
  | k + 1, t => if t = piv.getD k 0 then f k else kerF piv f j k t
def freeL (piv : List Nat) (c : Nat) : List Nat := (List.range c).filter fun j => !decide (j ∈ piv)
theorem freeL_snoc (piv : List Nat) (c : Nat) : freeL piv (c + 1) = if c ∈ piv then freeL piv c else freeL piv c ++ [c] := by
  unfold freeL
  rw [List.range_succ, List.filter_append]
  by_cases h : c ∈ piv <;> simp [h]
/-- A vector of the basis. -/
def kerR (q : Int) (P : List Nat × (Nat → Nat → Int)) (j : Nat) : Nat → Int := kerF P.1 (fun i => (-(P.2 i j)) % q) j P.1.length
def kerOk (q : Int) (xss : List (List Int)) (cols : Int) : Prop := matB xss = true ∧ (xss.length = 0 ∨ (widF xss : Int) = cols) ∧ 0 ≤ cols ∧ cols ≤ 64 ∧ primeB q = true
instance (q : Int) (xss : List (List Int)) (cols : Int) : Decidable (kerOk q xss cols) := by unfold kerOk; exact inferInstance
def kerO (q : Int) (xss : List (List Int)) (cols : Int) : Option (List (List Int)) :=
  if kerOk q xss cols then
    some ((freeL (redF q xss.length cols.toNat 0 [] (resM q xss)).1 cols.toNat).map fun j => (List.range cols.toNat).map (kerR q (redF q xss.length cols.toNat 0 [] (resM q xss)) j))
  else none
def KerP (q : Int) (xss : List (List Int)) (cols : Int) (w : World) (e : Ending) (w' : World) : Prop :=
  ∃ v, e = .returned (.tuple #[v, .bool (kerO q xss cols).isSome]) ∧ IsRows v ((kerO q xss cols).getD []) w' ∧ Below w.heap.size w w'
theorem KerP.no {q : Int} {xss : List (List Int)} {cols : Int} {w w' : World} (h : kerO q xss cols = none) (hb : Below w.heap.size w w') : KerP q xss cols w (.returned (.tuple #[.slice none 0 0, .bool false])) w' :=
  ⟨_, by rw [h]; rfl, by rw [h]; exact .inl ⟨⟨_, _, rfl⟩, rfl⟩, hb⟩
theorem own_keep {B : Nat} {e : TypeId} {size n : Nat} {v : Value} {xs : List Value} {w w' : World} (h : w.ownsRow B e size v n xs) (hk : ∀ g, g < w.heap.size → w'.heap[g]? = w.heap[g]?) : w'.ownsRow B e size v n xs := by
  refine ⟨h.1, ?_⟩
  rcases h.2 with hn | ⟨g, cap, cur, rfl, hg, hgg, rest⟩
  · exact .inl hn
  · exact .inr ⟨g, cap, cur, rfl, hg, by rw [hk g (Array.getElem?_eq_some_iff.1 hgg).1]; exact hgg, rest⟩
/-- Rows of a basis, and the slice of one's own that holds them. -/
structure Bas (T c : Nat) (F : Nat → Nat → Int) (fr : List Nat) (G : Nat → Nat) (bv : Value) (w : World) : Prop where
  own : w.ownsRow T 23 1 bv fr.length ((List.range fr.length).map fun s => Value.slice (some ⟨G s, 0, none⟩) c c)
  row : ∀ s, s < fr.length → T ≤ G s ∧ bv.ownBlock ≠ some (G s) ∧ RowAt (G s) c (F (fr.getD s 0)) w
section
variable {T c : Nat} {F : Nat → Nat → Int} {fr : List Nat} {G : Nat → Nat} {bv : Value} {w w' : World}
theorem Bas.keep (h : Bas T c F fr G bv w) (hk : ∀ g, g < w.heap.size → w'.heap[g]? = w.heap[g]?) (hs : w.heap.size ≤ w'.heap.size) : Bas T c F fr G bv w' :=
  ⟨own_keep h.own hk, fun s hs' => let ⟨h1, h2, h3⟩ := h.row s hs'; ⟨h1, h2, h3.of (hk _ h3.lt) hs⟩⟩
theorem Bas.empty (T c : Nat) (F : Nat → Nat → Int) (G : Nat → Nat) (w : World) : Bas T c F [] G (.slice none 0 0) w :=
  ⟨World.ownsRow_nil _ _ _ _, fun s hs => by simp at hs⟩
theorem Bas.grow (h : Bas T c F fr G bv w) {g0 j g cap : Nat} (hr : RowAt g0 c (F j) w) (hT : T ≤ g0) (hne : bv.ownBlock ≠ some g0)
    (ho : w'.ownsRow T 23 1 (.slice (some ⟨g, 0, none⟩) (fr.length + 1) cap) (fr.length + 1) (((List.range fr.length).map fun s => Value.slice (some ⟨G s, 0, none⟩) c c) ++ [Value.slice (some ⟨g0, 0, none⟩) c c]))
    (hg : w.grownBy w' bv.ownBlock) (hgo : bv.ownBlock = some g ∨ g = w.heap.size) : Bas T c F (fr ++ [j]) (fun s => if s = fr.length then g0 else G s) (.slice (some ⟨g, 0, none⟩) (fr.length + 1) cap) w' := by
  have hl : (fr ++ [j]).length = fr.length + 1 := by simp
  have hb : ∀ X f, RowAt X c f w → bv.ownBlock ≠ some X → RowAt X c f w' ∧ g ≠ X := fun X f hX hX2 => by
    refine ⟨hX.of (hg.block X hX.lt fun e => hX2 e.symm) hg.size, ?_⟩
    rcases hgo with e | e
    · intro e2; rw [e2] at e; exact hX2 e
    · have := hX.lt; omega
  refine ⟨?_, fun s hs => ?_⟩
  · rw [hl]
    refine (congrArg (fun L => w'.ownsRow T _ 1 _ _ L) ?_).mp ho
    rw [List.range_succ, List.map_append, List.map_cons, List.map_nil, if_pos rfl]
    congr 1
    refine List.map_congr_left fun s hs => ?_
    rw [if_neg (by have := List.mem_range.1 hs; omega)]
  · have hob : Value.ownBlock (.slice (some ⟨g, 0, none⟩) (fr.length + 1) cap) = some g := rfl
    rw [hob]
    by_cases e : s = fr.length
    · subst e
      obtain ⟨h1, h2⟩ := hb g0 (F j) hr hne
      have : (fr ++ [j]).getD fr.length 0 = j := by simp [List.getD_eq_getElem?_getD]
      rw [if_pos rfl, this]
      exact ⟨hT, fun e2 => h2 (Option.some.inj e2), h1⟩
    · rw [hl] at hs
      have hs2 : s < fr.length := by omega
      obtain ⟨h1, h2, h3⟩ := h.row s hs2
      obtain ⟨h4, h5⟩ := hb _ _ h3 h2
      have : (fr ++ [j]).getD s 0 = fr.getD s 0 := by simp [List.getD_eq_getElem?_getD, List.getElem?_append_left hs2]
      rw [if_neg e, this]
      exact ⟨h1, fun e2 => h5 (Option.some.inj e2), h4⟩
theorem Bas.rows (h : Bas T c F fr G bv w) : IsRows bv (fr.map fun j => (List.range c).map (F j)) w := by
  obtain ⟨_, ⟨h1, h2⟩ | ⟨g, cap, cur, hv, _, hh, _, _, _, ht⟩⟩ := h.own
  · have : fr = [] := List.eq_nil_of_length_eq_zero (by simpa using h2)
    subst this
    exact .inl ⟨⟨_, _, h1⟩, rfl⟩
  · refine .inr ⟨g, 0, cap, by rw [List.length_map]; exact hv, (Array.getElem?_eq_some_iff.1 hh).1, fun i xs hx => ?_⟩
    obtain ⟨hi, hx⟩ := List.getElem?_eq_some_iff.1 hx
    simp only [List.length_map] at hi
    refine ⟨.slice (some ⟨G i, 0, none⟩) c c, ?_, ?_⟩
    · rw [Nat.zero_add, cell_of_row w g i cur _ (0, 0) hh]
      have h1 : ((List.range fr.length).map fun s => Value.slice (some ⟨G s, 0, none⟩) c c)[i]? = some (Value.slice (some ⟨G i, 0, none⟩) c c) := by simp [hi]
      rw [← ht, List.getElem?_take] at h1
      split at h1
      · simpa using h1
      · cases h1
    · rw [← hx, List.getElem_map]
      have := (h.row i hi).2.2
      rw [List.getD_eq_getElem?_getD, List.getElem?_eq_getElem hi] at this
      exact ints_range this
end
end Go.Proofs.YtdeeoigcpihidaaDoor
