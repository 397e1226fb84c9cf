/- A column is appended to a matrix. -/
import Derived.Test.YtdeeoigcpihidaaDoorSolve
import Derived.Deep.RegionLaw
namespace Go.Proofs.YtdeeoigcpihidaaDoor
open Go.RowKit

/-- append where there is no room, as one step of a region that draws. -/
theorem step_append_grows {P : Program} {ops : Array Oper} {o : Oper} {a : Act} {w : World} {K : Act → World → Prop} {Q : Exit → Act → World → Prop} {E : Prop} (hgd : o.guard = none) (s x : Operand) (t : TypeId)
    (ho : o.op = .call { callee := .builtin .append, args := #[s, x], argTypes := #[t, t] })
    (e : TypeId) (i : TypeInfo) (z : Value) (size bytes : Nat) (ht : P.underlying t = some (.slice e)) (hi : P.info? e = some i) (hz : i.zero = some z)
    (hsize : i.size = size) (hby : i.bytes = bytes) (hzs : z.cells.size = size) (hsz : 0 < size)
    (b : Addr) (n cap : Nat) (olds : List Value) (hs : a.eval s = .slice (some b) n cap) (hlo : olds.length = n * size) (holds : ∀ j u, olds[j]? = some u → w.cell? (b.add j) = some u)
    (ad : Addr) (m c : Nat) (news : List Value) (hx : a.eval x = .slice (some ad) m c) (hl : news.length = m * size) (hnews : ∀ j u, news[j]? = some u → w.cell? (ad.add j) = some u)
    (hm : 0 < m) (hg : cap < n + m) (h63 : n + m ≤ maxLen) (hbytes : (n + m) * bytes ≤ 140737488355328)
    (h : ∀ g cp w', w'.ownsRow w.heap.size e size (.slice (some ⟨g, 0, none⟩) (n + m) cp) (n + m) (olds ++ news) → w.grownBy w' none → g < w'.heap.size → K (a.put o.dst (.slice (some ⟨g, 0, none⟩) (n + m) cp)) w') :
    if Region.wanted o (yielded ops a.tmps) = true then Oper.wp P o a w K Q else E := by
  have hw : Region.wanted o (yielded ops a.tmps) = true := by simp [Region.wanted, hgd]
  rw [if_pos hw]
  obtain ⟨v', w', hrun, r1, r2⟩ := run_append_arg_grows (P := P) w t o.type e i z size bytes ht hi hz hsize hby hzs hsz b n cap olds hlo holds ad m c news hl hnews hg h63 hbytes
  obtain ⟨g, cp, rfl, _, hlt⟩ := r1.form (by omega)
  unfold Oper.wp
  simp [execOp, ho, resolve, invoke, builtin, hs, hx, hrun, Result.andThen]
  exact h g cp w' r1 r2 hlt
/-- The residues of rows and of a right side. -/
def augM (q : Int) (xss : List (List Int)) (b : List Int) (c : Nat) : Nat → Nat → Int := fun i j => if j = c then (b.getD i 0) % q else resM q xss i j
theorem augM_all {q : Int} (hq : isMod q) (xss : List (List Int)) (b : List Int) (c n m : Nat) : allR q n m (augM q xss b c) := fun i _ j _ => by
  unfold augM
  split
  · exact res_in q _ hq
  · exact res_in q _ hq
/-- The first rows of a matrix have a further element. -/
structure Aug (q : Int) (xss : List (List Int)) (bb : List Int) (B c H n k : Nat) (R K : Nat → Nat) (w : World) : Prop where
  hlt : B ≤ H ∧ H < w.heap.size
  hat : ∀ i, i < n → w.cell? ⟨H, i, none⟩ = some (.slice (some ⟨R i, 0, none⟩) (if i < k then c + 1 else c) (if i < k then K i else c))
  hfz : ∀ i, w.frozen? ⟨H, i, none⟩ = false
  rlt : ∀ i, i < n → B ≤ R i ∧ R i < w.heap.size ∧ R i ≠ H
  rat : ∀ i, i < n → RowAt (R i) (if i < k then c + 1 else c) (augM q xss bb c i) w
  inj : ∀ i j, i < n → j < n → R i = R j → i = j
theorem Aug.start {q : Int} {xss : List (List Int)} {bb : List Int} {B c H n : Nat} {R : Nat → Nat} {w : World} {T : Nat} (h : Mat B T H n c R (fun _ => c) (resM q xss) w) : Aug q xss bb B c H n 0 R (fun _ => c) w where
  hlt := by have := h.hlt; have := h.tlt; omega
  hat := fun i hi => by rw [if_neg (by omega), if_neg (by omega)]; exact h.hat i hi
  hfz := h.hfz
  rlt := fun i hi => by have := h.rlt i hi; have := h.tlt; omega
  rat := fun i hi => by
    rw [if_neg (by omega)]
    refine (h.rat i hi).congr fun j hj => ?_
    unfold augM; rw [if_neg (by omega)]
  inj := h.inj
theorem Aug.done {q : Int} {xss : List (List Int)} {bb : List Int} {B c H n : Nat} {R K : Nat → Nat} {w : World} (h : Aug q xss bb B c H n n R K w) : Mat B w.heap.size H n (c + 1) R K (augM q xss bb c) w where
  tlt := Nat.le_refl _
  hlt := h.hlt
  hat := fun i hi => by have := h.hat i hi; rwa [if_pos hi, if_pos hi] at this
  hfz := h.hfz
  rlt := h.rlt
  rat := fun i hi => by have := h.rat i hi; rwa [if_pos hi] at this
  inj := h.inj
/-- A new row in the place of the k-th. -/
theorem Aug.step {q : Int} {xss : List (List Int)} {bb : List Int} {B c H n k : Nat} {R K : Nat → Nat} {w w1 : World} (h : Aug q xss bb B c H n k R K w) (hk : k < n) (g cp : Nat) (hg : w.heap.size ≤ g) (hsz : w.heap.size ≤ w1.heap.size)
    (hold : ∀ b, b < w.heap.size → w1.heap[b]? = w.heap[b]?) (hr : RowAt g (c + 1) (augM q xss bb c k) w1) :
    Aug q xss bb B c H n (k + 1) (fun i => if i = k then g else R i) (fun i => if i = k then cp else K i) (w1.setCell ⟨H, k, none⟩ (.slice (some ⟨g, 0, none⟩) (c + 1) cp)) := by
  have hH := h.hlt
  have hc1 : ∀ i, w1.cell? ⟨H, i, none⟩ = w.cell? ⟨H, i, none⟩ := fun i => World.cell?_of_block (a := ⟨H, i, none⟩) (hold H hH.2)
  have hs : (w1.setCell ⟨H, k, none⟩ (.slice (some ⟨g, 0, none⟩) (c + 1) cp)).heap.size = w1.heap.size := by simp [World.setCell]
  have hrg : ∀ b m f, b ≠ H → RowAt b m f w1 → RowAt b m f (w1.setCell ⟨H, k, none⟩ (.slice (some ⟨g, 0, none⟩) (c + 1) cp)) := fun b m f hb hr =>
    hr.of (Below.heap_setCell _ _ _ _ hb) (Nat.le_of_eq hs.symm)
  refine ⟨by rw [hs]; omega, fun i hi => ?_, fun i => ?_, fun i hi => ?_, fun i hi => ?_, fun i j hi hj e => ?_⟩
  · by_cases e : i = k
    · subst e
      rw [if_pos rfl, if_pos (by omega), if_pos (by omega), if_pos rfl]
      exact World.cell?_setCell_same _ _ _ ((hc1 i).trans (h.hat i hi))
    · have hne : (⟨H, k, none⟩ : Addr) ≠ ⟨H, i, none⟩ := fun e2 => e (congrArg Addr.off e2).symm
      rw [World.cell?_setCell_other _ _ _ _ hne, hc1, h.hat i hi, if_neg e, if_neg e]
      by_cases e3 : i < k
      · rw [if_pos e3, if_pos e3, if_pos (by omega), if_pos (by omega)]
      · rw [if_neg e3, if_neg e3, if_neg (by omega), if_neg (by omega)]
  · rw [World.frozen?_setCell, World.frozen?_of_block (a := ⟨H, i, none⟩) (hold H hH.2)]; exact h.hfz i
  · rw [hs]
    by_cases e : i = k
    · rw [if_pos e]; have := hr.lt; omega
    · rw [if_neg e]; have := h.rlt i hi; omega
  · by_cases e : i = k
    · subst e; rw [if_pos rfl, if_pos (by omega)]; exact hrg _ _ _ (by omega) hr
    · rw [if_neg e]
      have h1 := h.rlt i hi
      have h2 := (h.rat i hi).of (hold _ h1.2.1) hsz
      have h3 := hrg _ _ _ h1.2.2 h2
      by_cases e3 : i < k
      · rw [if_pos e3] at h3; rw [if_pos (by omega)]; exact h3
      · rw [if_neg e3] at h3; rw [if_neg (by omega)]; exact h3
  · by_cases e1 : i = k <;> by_cases e2 : j = k
    · omega
    · rw [if_pos e1, if_neg e2] at e; have := h.rlt j hj; omega
    · rw [if_neg e1, if_pos e2] at e; have := h.rlt i hi; omega
    · rw [if_neg e1, if_neg e2] at e; exact h.inj i j hi hj e
/-- A slice of one's own reads as a row. -/
theorem own_row {w : World} {T g m cap : Nat} {f : Nat → Int} (h : w.ownsRow T 3 1 (.slice (some ⟨g, 0, none⟩) m cap) m ((List.range m).map fun j => Value.int .i64 (f j))) : RowAt g m f w := by
  obtain ⟨_, ⟨h1, _⟩ | ⟨g', cp, cur, hv, _, hh, _, _, _, ht⟩⟩ := h
  · simp at h1
  · simp only [Value.slice.injEq, Option.some.injEq, Addr.mk.injEq] at hv
    obtain ⟨⟨rfl, _, _⟩, _, rfl⟩ := hv
    refine ⟨(Array.getElem?_eq_some_iff.1 hh).1, fun j hj => ?_, fun j => by simp [World.frozen?, hh]⟩
    rw [cell_of_row w g j cur 3 (0, 0) hh]
    have h1 : ((List.range m).map fun j => Value.int .i64 (f j))[j]? = some (.int .i64 (f j)) := by simp [hj]
    rw [← ht, List.getElem?_take] at h1
    split at h1
    · simpa using h1
    · cases h1
theorem range_app (c : Nat) (f : Nat → Int) (V : Int) (g : Nat → Int) (h1 : ∀ j, j < c → g j = f j) (h2 : g c = V) : ((List.range c).map fun j => Value.int .i64 (f j)) ++ [Value.int .i64 V] = (List.range (c + 1)).map fun j => Value.int .i64 (g j) := by
  rw [List.range_succ, List.map_append, List.map_cons, List.map_nil, h2]
  congr 1
  refine List.map_congr_left fun j hj => ?_
  rw [h1 j (List.mem_range.1 hj)]
end Go.Proofs.YtdeeoigcpihidaaDoor
