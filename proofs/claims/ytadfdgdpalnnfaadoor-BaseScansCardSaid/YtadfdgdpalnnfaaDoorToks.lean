/- Lists of tokens that are read: Print, SameTokens; and cut. -/
import Derived.Test.YtadfdgdpalnnfaaDoorScan
namespace Go.Proofs.YtadfdgdpalnnfaaDoor
open Go.RowKit

/-- A token at a place. -/
def TokAt (bk off : Nat) (t : Tk) (w : World) : Prop := w.cell? ⟨bk, off, none⟩ = some (.int .i64 t.kind) ∧ w.cell? ⟨bk, off + 1, none⟩ = some (.string (bs t.text)) ∧ w.cell? ⟨bk, off + 2, none⟩ = some (.int .i64 t.n) ∧ w.cell? ⟨bk, off + 3, none⟩ = some (.int .i64 t.pos)
def IsToks (u : Value) (vs : List Tk) (w : World) : Prop :=
  ((∃ a c, u = .slice a 0 c) ∧ vs = []) ∨ ∃ bk off cap, u = .slice (some ⟨bk, off, none⟩) vs.length cap ∧ bk < w.heap.size ∧ ∀ i v, vs[i]? = some v → TokAt bk (off + i * 4) v w
theorem TokAt.next {bk off : Nat} {v : Tk} {w w' : World} (h : TokAt bk off v w) (hb : Below w.heap.size w w') (hlt : bk < w.heap.size) : TokAt bk off v w' := by
  have hc : ∀ j, w'.cell? ⟨bk, j, none⟩ = w.cell? ⟨bk, j, none⟩ := fun j => hb.cell (p := ⟨bk, j, none⟩) hlt
  exact ⟨by rw [hc]; exact h.1, by rw [hc]; exact h.2.1, by rw [hc]; exact h.2.2.1, by rw [hc]; exact h.2.2.2⟩
theorem IsToks.next {u : Value} {vs : List Tk} {w w' : World} (h : IsToks u vs w) (hb : Below w.heap.size w w') : IsToks u vs w' := by
  rcases h with h | ⟨bk, off, cap, hu, hlt, hc⟩
  · exact .inl h
  · exact .inr ⟨bk, off, cap, hu, Nat.lt_of_lt_of_le hlt hb.size, fun i v hv => (hc i v hv).next hb hlt⟩
theorem IsToks.len {u : Value} {vs : List Tk} {w : World} (h : IsToks u vs w) : ∃ a cap, u = .slice a vs.length cap := by
  rcases h with ⟨⟨a, c, h1⟩, h2⟩ | ⟨bk, off, cap, h, _⟩
  · exact ⟨a, c, by rw [h1, h2]; rfl⟩
  · exact ⟨_, _, h⟩
theorem IsToks.at {a : Option Addr} {n cap : Nat} {vs : List Tk} {w : World} (h : IsToks (.slice a n cap) vs w) (k : Nat) (hk : k < vs.length) :
    ∃ bk off, a = some ⟨bk, off, none⟩ ∧ bk < w.heap.size ∧ TokAt bk (off + k * 4) vs[k] w := by
  rcases h with ⟨h1, h2⟩ | ⟨bk, off, cap, h, hb, hc⟩
  · rw [h2] at hk; simp at hk
  · simp only [Value.slice.injEq] at h
    exact ⟨bk, off, h.1, hb, hc k _ (List.getElem?_eq_getElem hk)⟩
theorem flat_at : ∀ (vs : List Tk) (i : Nat) (v : Tk) (j : Nat) (u : Value), vs[i]? = some v → (tokCells v)[j]? = some u → (vs.flatMap tokCells)[i * 4 + j]? = some u
  | [], i, v, j, u, h, _ => by simp at h
  | a :: vs, 0, v, j, u, h, hj => by
    simp at h; subst h
    rw [List.flatMap_cons, Nat.zero_mul, Nat.zero_add, List.getElem?_append_left (List.getElem?_eq_some_iff.1 hj).1]
    exact hj
  | a :: vs, i + 1, v, j, u, h, hj => by
    rw [List.flatMap_cons, List.getElem?_append_right (by simp [tokCells]; omega)]
    have := flat_at vs i v j u (by simpa using h) hj
    have e : (i + 1) * 4 + j - (tokCells a).length = i * 4 + j := by simp [tokCells]; omega
    rw [e]; exact this
/-- A slice of one's own reads as its tokens. -/
theorem owns_toks {w : World} {B : Nat} {v : Value} {vs : List Tk} (h : w.ownsRow B 25 4 v vs.length (vs.flatMap tokCells)) : IsToks v vs w := by
  obtain ⟨hl, ⟨h0, h1⟩ | ⟨g, cap, cur, hv, hg, hh, hn, hm, hc, ht⟩⟩ := h
  · exact .inl ⟨⟨none, 0, h0⟩, List.length_eq_zero_iff.1 h1⟩
  · have hlt : g < w.heap.size := by
      rcases Nat.lt_or_ge g w.heap.size with h' | h'
      · exact h'
      · simp [Array.getElem?_eq_none h'] at hh
    refine .inr ⟨g, 0, cap, hv, hlt, fun i t hi => ?_⟩
    have hcell : ∀ j u, (tokCells t)[j]? = some u → w.cell? ⟨g, 0 + i * 4 + j, none⟩ = some u := by
      intro j u hj
      have h1 := flat_at vs i t j u hi hj
      rw [← ht] at h1
      have h2 : cur[i * 4 + j]? = some u := by
        have := List.getElem?_take (l := cur.toList) (i := vs.length * 4) (j := i * 4 + j)
        rw [this] at h1
        split at h1
        · simpa using h1
        · cases h1
      rw [Lib.cell_of_heap hh, Nat.zero_add]
      exact h2
    exact ⟨hcell 0 _ rfl, hcell 1 _ rfl, hcell 2 _ rfl, hcell 3 _ rfl⟩

/-- The text of tokens. -/
def tokS (t : Tk) : List UInt8 := if t.kind = 2 then quotL t.text else t.text
/-- The text of a list; the flag: nothing stands before. -/
def prF : Bool → List Tk → List UInt8
  | _, [] => []
  | true, t :: r => tokS t ++ prF false r
  | false, t :: r => 32 :: (tokS t ++ prF false r)
def printL (l : List Tk) : List UInt8 := prF true l
end Go.Proofs.YtadfdgdpalnnfaaDoor
