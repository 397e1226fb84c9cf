/- Slices of things in memory, as lists. -/
import Derived.Test.YthnkfjjgccabeaaGreatDoorPset
import Derived.Test.YthnkfjjgccabeaaGreatDoorCodq
namespace Go.Proofs.YthnkfjjgccabeaaGreatDoor
open Go.RowKit

/-- No block from a number on has turned. -/
def Hi (lo : Nat) (w w' : World) : Prop := w.heap.size ≤ w'.heap.size ∧ ∀ b, lo ≤ b → b < w.heap.size → w'.heap[b]? = w.heap[b]?
theorem Hi.below {lo : Nat} {w w' : World} (h : Below w.heap.size w w') : Hi lo w w' := ⟨h.size, fun b _ hb => h.block b hb⟩
theorem Hi.mono {lo lo' : Nat} {w w' : World} (h : Hi lo w w') (hl : lo ≤ lo') : Hi lo' w w' := ⟨h.1, fun b hb => h.2 b (Nat.le_trans hl hb)⟩
theorem Hi.trans {lo : Nat} {w w' w'' : World} (h : Hi lo w w') (k : Hi lo w' w'') : Hi lo w w'' := ⟨Nat.le_trans h.1 k.1, fun b hb hs => (k.2 b hb (Nat.lt_of_lt_of_le hs h.1)).trans (h.2 b hb hs)⟩
theorem Hi.cell {lo : Nat} {w w' : World} (h : Hi lo w w') {bk : Nat} (hl : lo ≤ bk) (hs : bk < w.heap.size) (o : Nat) : w'.cell? ⟨bk, o, none⟩ = w.cell? ⟨bk, o, none⟩ :=
  World.cell?_of_block (a := ⟨bk, o, none⟩) (h.2 bk hl hs)
/-- What stands at a block from an offset on. -/
abbrev Reads (α : Type) := Nat → Nat → α → World → Prop
def Keeps {α : Type} (lo : Nat) (one : Reads α) : Prop := ∀ (bk off : Nat) (x : α) (w w' : World), lo ≤ bk → bk < w.heap.size → one bk off x w → Hi lo w w' → one bk off x w'
/-- A slice value that reads as a list, each element in so many cells, in a block from a number on. -/
def IsSl {α : Type} (lo size : Nat) (one : Reads α) (v : Value) (xs : List α) (w : World) : Prop :=
  ((∃ a c, v = .slice a 0 c) ∧ xs = []) ∨ ∃ bk off cap, v = .slice (some ⟨bk, off, none⟩) xs.length cap ∧ (lo ≤ bk ∧ bk < w.heap.size) ∧ ∀ i x, xs[i]? = some x → one bk (off + i * size) x w
section
variable {α : Type} {lo size : Nat} {one : Reads α}
theorem IsSl.hi {v : Value} {xs : List α} {w w' : World} (h : IsSl lo size one v xs w) (hk : Keeps lo one) (hb : Hi lo w w') : IsSl lo size one v xs w' := by
  rcases h with h | ⟨bk, off, cap, hv, hlt, hc⟩
  · exact .inl h
  · exact .inr ⟨bk, off, cap, hv, ⟨hlt.1, Nat.lt_of_lt_of_le hlt.2 hb.1⟩, fun i x hx => hk _ _ _ _ _ hlt.1 hlt.2 (hc i x hx) hb⟩
theorem IsSl.low {lo' : Nat} {one' : Reads α} {v : Value} {xs : List α} {w : World} (h : IsSl lo size one v xs w) (hl : lo' ≤ lo) (hm : ∀ bk off x, one bk off x w → one' bk off x w) : IsSl lo' size one' v xs w := by
  rcases h with h | ⟨bk, off, cap, hv, hlt, hc⟩
  · exact .inl h
  · exact .inr ⟨bk, off, cap, hv, ⟨Nat.le_trans hl hlt.1, hlt.2⟩, fun i x hx => hm _ _ _ (hc i x hx)⟩
theorem IsSl.len {v : Value} {xs : List α} {w : World} (h : IsSl lo size one v xs w) : ∃ a cap, v = .slice a xs.length cap := by
  rcases h with ⟨⟨a, c, h1⟩, h2⟩ | ⟨bk, off, cap, h, _⟩
  · exact ⟨a, c, by rw [h1, h2]; rfl⟩
  · exact ⟨_, _, h⟩
theorem IsSl.at {a : Option Addr} {n cap : Nat} {xs : List α} {w : World} (h : IsSl lo size one (.slice a n cap) xs w) (k : Nat) (hk : k < xs.length) :
    ∃ bk off, a = some ⟨bk, off, none⟩ ∧ (lo ≤ bk ∧ bk < w.heap.size) ∧ ∃ x, x = xs[k] ∧ one bk (off + k * size) x w := by
  rcases h with ⟨_, h2⟩ | ⟨bk, off, cap', h, hlt, hc⟩
  · rw [h2] at hk; simp at hk
  · simp only [Value.slice.injEq] at h
    exact ⟨bk, off, h.1, hlt, _, rfl, hc k _ (List.getElem?_eq_getElem hk)⟩
/-- A slice of one element, in a block of its own. -/
theorem IsSl.single {w : World} {g cap : Nat} {x : α} (hl : lo ≤ g) (hg : g < w.heap.size) (h : one g 0 x w) : IsSl lo size one (.slice (some ⟨g, 0, none⟩) 1 cap) [x] w := by
  refine .inr ⟨g, 0, cap, rfl, ⟨hl, hg⟩, fun i y hi => ?_⟩
  match i, hi with
  | 0, hi => simp at hi; subst hi; simpa using h
theorem IsSl.pair {w : World} {g cap : Nat} {x y : α} (hl : lo ≤ g) (hg : g < w.heap.size) (h : one g 0 x w) (h' : one g size y w) : IsSl lo size one (.slice (some ⟨g, 0, none⟩) 2 cap) [x, y] w := by
  refine .inr ⟨g, 0, cap, rfl, ⟨hl, hg⟩, fun i z hi => ?_⟩
  match i, hi with
  | 0, hi => simp at hi; subst hi; simpa using h
  | 1, hi => simp at hi; subst hi; simpa using h'
end

/-! ### terms, equations, claims, clauses -/
def TermAt : Reads (Int × Int) := fun bk off t w => w.cell? ⟨bk, off, none⟩ = some (.int .i64 t.1) ∧ w.cell? ⟨bk, off + 1, none⟩ = some (.int .i64 t.2)
theorem TermAt.keeps (lo : Nat) : Keeps lo TermAt := fun bk off x w w' hl hlt h hb => by
  obtain ⟨h1, h2⟩ := h
  exact ⟨by rw [hb.cell hl hlt]; exact h1, by rw [hb.cell hl hlt]; exact h2⟩
def IsTerms (lo : Nat) (v : Value) (xs : List (Int × Int)) (w : World) : Prop := IsSl lo 2 TermAt v xs w
def EqAt (lo : Nat) : Reads EqD := fun bk off e w => w.cell? ⟨bk, off, none⟩ = some (.int .i64 e.target) ∧ ∃ u, w.cell? ⟨bk, off + 1, none⟩ = some u ∧ IsTerms lo u e.terms w
theorem EqAt.keeps (lo : Nat) : Keeps lo (EqAt lo) := fun bk off x w w' hl hlt h hb => by
  obtain ⟨h1, u, h2, h3⟩ := h
  exact ⟨by rw [hb.cell hl hlt]; exact h1, u, by rw [hb.cell hl hlt]; exact h2, h3.hi (TermAt.keeps lo) hb⟩
theorem EqAt.low {lo lo' bk off : Nat} {x : EqD} {w : World} (hl : lo' ≤ lo) (h : EqAt lo bk off x w) : EqAt lo' bk off x w := by
  obtain ⟨h1, u, h2, h3⟩ := h
  exact ⟨h1, u, h2, h3.low hl fun _ _ _ h => h⟩
def IsEqs (lo : Nat) (v : Value) (xs : List EqD) (w : World) : Prop := IsSl lo 2 (EqAt lo) v xs w
theorem IsEqs.hi {lo : Nat} {v : Value} {xs : List EqD} {w w' : World} (h : IsEqs lo v xs w) (hb : Hi lo w w') : IsEqs lo v xs w' := IsSl.hi h (EqAt.keeps lo) hb
theorem IsEqs.low {lo lo' : Nat} {v : Value} {xs : List EqD} {w : World} (hl : lo' ≤ lo) (h : IsEqs lo v xs w) : IsEqs lo' v xs w := IsSl.low h hl fun _ _ _ h => h.low hl
def ClaimAt (lo : Nat) : Reads ClaimD := fun bk off c w => w.cell? ⟨bk, off, none⟩ = some (.int .i64 c.vars) ∧ ∃ u, w.cell? ⟨bk, off + 1, none⟩ = some u ∧ IsEqs lo u c.eqs w
theorem ClaimAt.keeps (lo : Nat) : Keeps lo (ClaimAt lo) := fun bk off x w w' hl hlt h hb => by
  obtain ⟨h1, u, h2, h3⟩ := h
  exact ⟨by rw [hb.cell hl hlt]; exact h1, u, by rw [hb.cell hl hlt]; exact h2, h3.hi hb⟩
theorem ClaimAt.low {lo lo' bk off : Nat} {x : ClaimD} {w : World} (hl : lo' ≤ lo) (h : ClaimAt lo bk off x w) : ClaimAt lo' bk off x w := by
  obtain ⟨h1, u, h2, h3⟩ := h
  exact ⟨h1, u, h2, h3.low hl⟩
def IsClaims (lo : Nat) (v : Value) (xs : List ClaimD) (w : World) : Prop := IsSl lo 2 (ClaimAt lo) v xs w
theorem IsClaims.hi {lo : Nat} {v : Value} {xs : List ClaimD} {w w' : World} (h : IsClaims lo v xs w) (hb : Hi lo w w') : IsClaims lo v xs w' := IsSl.hi h (ClaimAt.keeps lo) hb
theorem IsClaims.low {lo lo' : Nat} {v : Value} {xs : List ClaimD} {w : World} (hl : lo' ≤ lo) (h : IsClaims lo v xs w) : IsClaims lo' v xs w := IsSl.low h hl fun _ _ _ h => h.low hl
def ClauseAt (lo : Nat) : Reads ClauseD := fun bk off c w => w.cell? ⟨bk, off, none⟩ = some (.int .i64 c.need) ∧ ∃ u, w.cell? ⟨bk, off + 1, none⟩ = some u ∧ IsClaims lo u c.claims w
theorem ClauseAt.keeps (lo : Nat) : Keeps lo (ClauseAt lo) := fun bk off x w w' hl hlt h hb => by
  obtain ⟨h1, u, h2, h3⟩ := h
  exact ⟨by rw [hb.cell hl hlt]; exact h1, u, by rw [hb.cell hl hlt]; exact h2, h3.hi hb⟩
theorem ClauseAt.low {lo lo' bk off : Nat} {x : ClauseD} {w : World} (hl : lo' ≤ lo) (h : ClauseAt lo bk off x w) : ClauseAt lo' bk off x w := by
  obtain ⟨h1, u, h2, h3⟩ := h
  exact ⟨h1, u, h2, h3.low hl⟩
def IsGoal (lo : Nat) (v : Value) (xs : List ClauseD) (w : World) : Prop := IsSl lo 2 (ClauseAt lo) v xs w
theorem IsGoal.hi {lo : Nat} {v : Value} {xs : List ClauseD} {w w' : World} (h : IsGoal lo v xs w) (hb : Hi lo w w') : IsGoal lo v xs w' := IsSl.hi h (ClauseAt.keeps lo) hb
theorem IsGoal.low {lo lo' : Nat} {v : Value} {xs : List ClauseD} {w : World} (hl : lo' ≤ lo) (h : IsGoal lo v xs w) : IsGoal lo' v xs w := IsSl.low h hl fun _ _ _ h => h.low hl
/-! ### numbers -/
def IsNums (v : Value) (xs : List Int) (w : World) : Prop := Cod.IsInts v xs w
theorem IsNums.next {v : Value} {xs : List Int} {w w' : World} (h : IsNums v xs w) (hb : Below w.heap.size w w') : IsNums v xs w' := Cod.IsInts.next h hb
theorem IsNums.len {v : Value} {xs : List Int} {w : World} (h : IsNums v xs w) : ∃ a cap, v = .slice a xs.length cap := Cod.IsInts.len h
theorem IsNums.at {a : Option Addr} {n cap : Nat} {xs : List Int} {w : World} (h : IsNums (.slice a n cap) xs w) (k : Nat) (hk : k < xs.length) :
    ∃ bk off, a = some ⟨bk, off, none⟩ ∧ bk < w.heap.size ∧ ∃ x, x = xs[k] ∧ w.cell? ⟨bk, off + k, none⟩ = some (.int .i64 x) := by
  obtain ⟨bk, off, h1, h2, h3⟩ := Cod.IsInts.at h k hk
  exact ⟨bk, off, h1, h2, _, rfl, h3 k _ (List.getElem?_eq_getElem hk)⟩
def NumAt : Reads Int := fun bk off x w => w.cell? ⟨bk, off, none⟩ = some (.int .i64 x)
theorem NumAt.keeps (lo : Nat) : Keeps lo NumAt := fun bk off x w w' hl hlt h hb => by
  show w'.cell? _ = _
  rw [hb.cell hl hlt]; exact h
/-- Numbers in a block from a number on. -/
def NumsIn (lo : Nat) (v : Value) (xs : List Int) (w : World) : Prop := IsSl lo 1 NumAt v xs w
theorem NumsIn.hi {lo : Nat} {v : Value} {xs : List Int} {w w' : World} (h : NumsIn lo v xs w) (hb : Hi lo w w') : NumsIn lo v xs w' := IsSl.hi h (NumAt.keeps lo) hb
theorem NumsIn.low {lo lo' : Nat} {v : Value} {xs : List Int} {w : World} (hl : lo' ≤ lo) (h : NumsIn lo v xs w) : NumsIn lo' v xs w := IsSl.low h hl fun _ _ _ h => h
theorem NumsIn.nums {lo : Nat} {v : Value} {xs : List Int} {w : World} (h : NumsIn lo v xs w) : IsNums v xs w := by
  rcases h with h | ⟨bk, off, cap, hv, hlt, hc⟩
  · exact .inl h
  · exact .inr ⟨bk, off, cap, hv, hlt.2, fun i x hx => by have := hc i x hx; rw [Nat.mul_one] at this; exact this⟩
theorem IsNums.into {v : Value} {xs : List Int} {w : World} (h : IsNums v xs w) : NumsIn 0 v xs w := by
  rcases h with h | ⟨bk, off, cap, hv, hlt, hc⟩
  · exact .inl h
  · exact .inr ⟨bk, off, cap, hv, ⟨Nat.zero_le _, hlt⟩, fun i x hx => by rw [Nat.mul_one]; exact hc i x hx⟩
/-! ### a row of cells of the call's own -/
structure VRow (g n : Nat) (f : Nat → Value) (w : World) : Prop where
  lt : g < w.heap.size
  at' : ∀ j, j < n → w.cell? ⟨g, j, none⟩ = some (f j)
  fz : ∀ j, w.frozen? ⟨g, j, none⟩ = false
theorem VRow.of {g n : Nat} {f : Nat → Value} {w w' : World} (h : VRow g n f w) (e : w'.heap[g]? = w.heap[g]?) (hs : w.heap.size ≤ w'.heap.size) : VRow g n f w' :=
  ⟨Nat.lt_of_lt_of_le h.lt hs, fun j hj => by rw [World.cell?_of_block (a := ⟨g, j, none⟩) e]; exact h.at' j hj, fun j => by rw [World.frozen?_of_block (a := ⟨g, j, none⟩) e]; exact h.fz j⟩
theorem VRow.next {g n : Nat} {f : Nat → Value} {w w' : World} (h : VRow g n f w) (hb : Below w.heap.size w w') : VRow g n f w' := h.of (hb.block g h.lt) hb.size
theorem VRow.congr {g n : Nat} {f f' : Nat → Value} {w : World} (h : VRow g n f w) (e : ∀ j, j < n → f j = f' j) : VRow g n f' w := ⟨h.lt, fun j hj => by rw [← e j hj]; exact h.at' j hj, h.fz⟩
theorem VRow.set {g n : Nat} {f : Nat → Value} {w : World} (h : VRow g n f w) (i : Nat) (hi : i < n) (x : Value) : VRow g n (fun j => if j = i then x else f j) (w.setCell ⟨g, i, none⟩ x) := by
  refine ⟨by simpa [World.setCell] using h.lt, fun j hj => ?_, fun j => ?_⟩
  · by_cases hij : j = i
    · subst hij
      rw [World.cell?_setCell_same _ _ _ (h.at' j hj), if_pos rfl]
    · have hne : (⟨g, i, none⟩ : Addr) ≠ ⟨g, j, none⟩ := fun e => hij (congrArg Addr.off e).symm
      rw [World.cell?_setCell_other _ _ _ _ hne, h.at' j hj, if_neg hij]
  · rw [World.frozen?_setCell]; exact h.fz j
theorem VRow.drewN {g n : Nat} {f : Nat → Value} {w : World} (h : VRow g n f w) (m : Nat) : VRow g n f (w.drewN m) := ⟨h.lt, h.at', h.fz⟩
end Go.Proofs.YthnkfjjgccabeaaGreatDoor
