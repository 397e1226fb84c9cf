/- The basic solution, plainly. -/
import Derived.Test.YtdeeoigcpihidaaDoorAug
namespace Go.Proofs.YtdeeoigcpihidaaDoor
open Go.RowKit

theorem redF_lt (q : Int) (n : Nat) : ∀ (f j : Nat) (piv : List Nat) (M : Nat → Nat → Int), (∀ x ∈ piv, x < j) → ∀ x ∈ (redF q n f j piv M).1, x < j + f := by
  intro f
  induction f with
  | zero => intro j piv M h x hx; exact h x hx
  | succ f ih =>
    intro j piv M h x hx
    rw [redF] at hx
    split at hx
    · have := ih (j + 1) piv M (fun y hy => by have := h y hy; omega) x hx; omega
    · have := ih (j + 1) (piv ++ [j]) _ (fun y hy => by
        rcases List.mem_append.1 hy with hy | hy
        · have := h y hy; omega
        · have := List.mem_singleton.1 hy; omega) x hx
      omega
/-- The numbers at the pivots. -/
def solF (piv : List Nat) (f : Nat → Int) : Nat → Nat → Int
  | 0, _ => 0
  | k + 1, j => if j = piv.getD k 0 then f k else solF piv f k j
def solO (q : Int) (xss : List (List Int)) (b : List Int) : Option (List Int) :=
  if matB xss = true ∧ b.length = xss.length ∧ primeB q = true then
    (if widF xss ∈ (redF q xss.length (widF xss + 1) 0 [] (augM q xss b (widF xss))).1 then none else
      some ((List.range (widF xss)).map (solF (redF q xss.length (widF xss + 1) 0 [] (augM q xss b (widF xss))).1 (fun i => (redF q xss.length (widF xss + 1) 0 [] (augM q xss b (widF xss))).2 i (widF xss)) (redF q xss.length (widF xss + 1) 0 [] (augM q xss b (widF xss))).1.length)))
  else none
theorem primeB_mod {q : Int} (h : primeB q = true) : isMod q := by
  unfold primeB at h
  split at h
  · rename_i h2; exact ⟨by omega, h2.2⟩
  · cases h
theorem matB_rows {xss : List (List Int)} (h : matB xss = true) : xss.length ≤ 64 ∧ widF xss ≤ 64 ∧ ∀ r ∈ xss, r.length = widF xss := by
  unfold matB at h
  cases xss with
  | nil => simp [widF]
  | cons r l => simpa [and_assoc] using h
theorem ints_range {w : World} {X c : Nat} {f : Nat → Int} (h : RowAt X c f w) : IsInts (.slice (some ⟨X, 0, none⟩) c c) ((List.range c).map f) w := by
  refine .inr ⟨X, 0, c, by simp, h.lt, fun i x hx => ?_⟩
  obtain ⟨hi, hx⟩ := List.getElem?_eq_some_iff.1 hx
  simp only [List.length_map, List.length_range] at hi
  rw [Nat.zero_add, h.at' i hi, ← hx]; simp
def SolP (q : Int) (xss : List (List Int)) (b : List Int) (w : World) (e : Ending) (w' : World) : Prop :=
  ∃ v, e = .returned (.tuple #[v, .bool (solO q xss b).isSome]) ∧ IsInts v ((solO q xss b).getD []) w' ∧ Below w.heap.size w w'
theorem SolP.no {q : Int} {xss : List (List Int)} {b : List Int} {w w' : World} (h : solO q xss b = none) (hb : Below w.heap.size w w') : SolP q xss b w (.returned (.tuple #[.slice none 0 0, .bool false])) w' :=
  ⟨_, by rw [h]; rfl, by rw [h]; exact .inl ⟨⟨_, _, rfl⟩, rfl⟩, hb⟩
end Go.Proofs.YtdeeoigcpihidaaDoor
