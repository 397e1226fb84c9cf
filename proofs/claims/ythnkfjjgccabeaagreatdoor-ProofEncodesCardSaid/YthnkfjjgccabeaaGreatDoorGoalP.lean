/- The text of a goal, plainly: no two goals have the same. -/
import Derived.Test.YthnkfjjgccabeaaGreatDoorSl
namespace Go.Proofs.YthnkfjjgccabeaaGreatDoor

/-! ### the text of a goal -/

/-- A way to write things that tells where each ends. -/
def Sep {α : Type} (one : α → List Int) : Prop := ∀ (a b : α) (m m' : List Int), one a ++ m = one b ++ m' → a = b ∧ m = m'
def listG {α : Type} (one : α → List Int) (l : List α) : List Int := (l.length : Int) :: l.flatMap one
theorem flat_sep {α : Type} {one : α → List Int} (h : Sep one) : ∀ (a b : List α) (m m' : List Int), a.length = b.length → a.flatMap one ++ m = b.flatMap one ++ m' → a = b ∧ m = m'
  | [], [], m, m', _, e => ⟨rfl, by simpa using e⟩
  | [], _ :: _, _, _, hl, _ => by simp at hl
  | _ :: _, [], _, _, hl, _ => by simp at hl
  | x :: a, y :: b, m, m', hl, e => by
    simp only [List.flatMap_cons, List.append_assoc] at e
    obtain ⟨rfl, e'⟩ := h _ _ _ _ e
    obtain ⟨rfl, rfl⟩ := flat_sep h a b m m' (by simpa using hl) e'
    exact ⟨rfl, rfl⟩
theorem list_sep {α : Type} {one : α → List Int} (h : Sep one) : Sep (listG one) := by
  intro a b m m' e
  unfold listG at e
  simp only [List.cons_append, List.cons.injEq] at e
  exact flat_sep h a b m m' (by omega) e.2
def termG (t : Int × Int) : List Int := [t.1, t.2]
def eqG (e : EqD) : List Int := e.target :: listG termG e.terms
def claimG (c : ClaimD) : List Int := c.vars :: listG eqG c.eqs
def clauseG (c : ClauseD) : List Int := c.need :: listG claimG c.claims
def goalG (l : List ClauseD) : List Int := listG clauseG l
theorem term_sep : Sep termG := by
  intro a b m m' e
  simp only [termG, List.cons_append, List.nil_append, List.cons.injEq] at e
  exact ⟨Prod.ext e.1 e.2.1, e.2.2⟩
theorem eq_sep : Sep eqG := by
  intro a b m m' e
  obtain ⟨t, l⟩ := a
  obtain ⟨t', l'⟩ := b
  simp only [eqG, List.cons_append, List.cons.injEq] at e
  obtain ⟨rfl, e⟩ := e
  obtain ⟨rfl, rfl⟩ := list_sep term_sep _ _ _ _ e
  exact ⟨rfl, rfl⟩
theorem claim_sep : Sep claimG := by
  intro a b m m' e
  obtain ⟨t, l⟩ := a
  obtain ⟨t', l'⟩ := b
  simp only [claimG, List.cons_append, List.cons.injEq] at e
  obtain ⟨rfl, e⟩ := e
  obtain ⟨rfl, rfl⟩ := list_sep eq_sep _ _ _ _ e
  exact ⟨rfl, rfl⟩
theorem clause_sep : Sep clauseG := by
  intro a b m m' e
  obtain ⟨t, l⟩ := a
  obtain ⟨t', l'⟩ := b
  simp only [clauseG, List.cons_append, List.cons.injEq] at e
  obtain ⟨rfl, e⟩ := e
  obtain ⟨rfl, rfl⟩ := list_sep claim_sep _ _ _ _ e
  exact ⟨rfl, rfl⟩
theorem goalG_inj {a b : List ClauseD} (h : goalG a = goalG b) : a = b := by
  have := list_sep clause_sep a b [] [] (by rw [List.append_nil, List.append_nil]; exact h)
  exact this.1
