/- Matrices in memory; the reduced row echelon form as a function. -/
import Derived.Test.YtdeeoigcpihidaaDoorMat2
import Derived.Deep.AppendLies
import Derived.WalkSmall
namespace Go.Proofs.YtdeeoigcpihidaaDoor
open Go.RowKit

/-- A matrix of one's own: its blocks lie from B on and before T. -/
structure Mat (B T H n c : Nat) (R K : Nat → Nat) (M : Nat → Nat → Int) (w : World) : Prop where
  tlt : T ≤ w.heap.size
  hlt : B ≤ H ∧ H < T
  hat : ∀ i, i < n → w.cell? ⟨H, i, none⟩ = some (.slice (some ⟨R i, 0, none⟩) c (K i))
  hfz : ∀ i, w.frozen? ⟨H, i, none⟩ = false
  rlt : ∀ i, i < n → B ≤ R i ∧ R i < T ∧ R i ≠ H
  rat : ∀ i, i < n → RowAt (R i) c (M i) w
  inj : ∀ i k, i < n → k < n → R i = R k → i = k
section
variable {B T H n c : Nat} {R K : Nat → Nat} {M : Nat → Nat → Int} {w w' : World}
theorem Mat.below (h : Mat B T H n c R K M w) (hb : Below T w w') : Mat B T H n c R K M w' where
  tlt := Nat.le_trans h.tlt hb.size
  hlt := h.hlt
  hat := fun i hi => by rw [hb.cell (p := ⟨H, i, none⟩) h.hlt.2]; exact h.hat i hi
  hfz := fun i => by rw [hb.frozen (p := ⟨H, i, none⟩) h.hlt.2]; exact h.hfz i
  rlt := h.rlt
  rat := fun i hi => (h.rat i hi).of (hb.block _ (h.rlt i hi).2.1) hb.size
  inj := h.inj
theorem Mat.next (h : Mat B T H n c R K M w) (hb : Below w.heap.size w w') : Mat B T H n c R K M w' := h.below (hb.mono h.tlt)
theorem Mat.drewN (h : Mat B T H n c R K M w) (m : Nat) : Mat B T H n c R K M (w.drewN m) := ⟨h.tlt, h.hlt, h.hat, h.hfz, h.rlt, fun i hi => (h.rat i hi).drewN m, h.inj⟩
theorem Mat.congr {M' : Nat → Nat → Int} (h : Mat B T H n c R K M w) (e : ∀ i, i < n → ∀ j, j < c → M i j = M' i j) : Mat B T H n c R K M' w := ⟨h.tlt, h.hlt, h.hat, h.hfz, h.rlt, fun i hi => (h.rat i hi).congr (e i hi), h.inj⟩
theorem Mat.row (h : Mat B T H n c R K M w) (i : Nat) (hi : i < n) {g : Nat → Int} (hu : Upd (R i) w w') (hr : RowAt (R i) c g w') : Mat B T H n c R K (fun r => if r = i then g else M r) w' where
  tlt := by rw [hu.size]; exact h.tlt
  hlt := h.hlt
  hat := fun k hk => by rw [World.cell?_of_block (a := ⟨H, k, none⟩) (hu.block H (h.rlt i hi).2.2.symm)]; exact h.hat k hk
  hfz := fun k => by rw [World.frozen?_of_block (a := ⟨H, k, none⟩) (hu.block H (h.rlt i hi).2.2.symm)]; exact h.hfz k
  rlt := h.rlt
  rat := fun k hk => by
    by_cases e : k = i
    · subst e; rw [if_pos rfl]; exact hr
    · rw [if_neg e]; exact (h.rat k hk).upd hu fun e2 => e (h.inj k i hk hi e2)
  inj := h.inj
/-- Two rows exchanged. -/
def swapF {α : Type} (r s : Nat) (M : Nat → α) : Nat → α := fun i => if i = r then M s else if i = s then M r else M i
def swapI (r s i : Nat) : Nat := if i = r then s else if i = s then r else i
theorem swapF_is {α : Type} (r s : Nat) (M : Nat → α) (i : Nat) : swapF r s M i = M (swapI r s i) := by
  unfold swapF swapI
  split
  · rfl
  · split <;> rfl
theorem swapI_lt (r s i : Nat) {n : Nat} (hr : r < n) (hs : s < n) (hi : i < n) : swapI r s i < n := by
  unfold swapI; split
  · exact hs
  · split
    · exact hr
    · exact hi
theorem swapI_inj (r s i k : Nat) (e : swapI r s i = swapI r s k) : i = k := by
  unfold swapI at e
  split at e <;> split at e <;> (try split at e) <;> (try split at e) <;> omega
theorem Mat.swap (h : Mat B T H n c R K M w) (r s : Nat) (hr : r < n) (hs : s < n) (hu : Upd H w w') (h1 : w'.cell? ⟨H, r, none⟩ = some (.slice (some ⟨R s, 0, none⟩) c (K s))) (h2 : w'.cell? ⟨H, s, none⟩ = some (.slice (some ⟨R r, 0, none⟩) c (K r)))
    (h3 : ∀ i, i ≠ r → i ≠ s → w'.cell? ⟨H, i, none⟩ = w.cell? ⟨H, i, none⟩) (h4 : ∀ i, w'.frozen? ⟨H, i, none⟩ = false) : Mat B T H n c (swapF r s R) (swapF r s K) (swapF r s M) w' where
  tlt := by rw [hu.size]; exact h.tlt
  hlt := h.hlt
  hat := fun k hk => by
    unfold swapF
    by_cases e : k = r
    · subst e; simp only [if_true]; exact h1
    · by_cases e2 : k = s
      · subst e2; simp only [if_neg e, if_true]; exact h2
      · simp only [if_neg e, if_neg e2]; rw [h3 k e e2]; exact h.hat k hk
  hfz := h4
  rlt := fun k hk => by
    unfold swapF
    by_cases e : k = r
    · simp only [if_pos e]; exact h.rlt s hs
    · by_cases e2 : k = s
      · simp only [if_neg e, if_pos e2]; exact h.rlt r hr
      · simp only [if_neg e, if_neg e2]; exact h.rlt k hk
  rat := fun k hk => by
    unfold swapF
    by_cases e : k = r
    · simp only [if_pos e]; exact (h.rat s hs).upd hu (h.rlt s hs).2.2
    · by_cases e2 : k = s
      · simp only [if_neg e, if_pos e2]; exact (h.rat r hr).upd hu (h.rlt r hr).2.2
      · simp only [if_neg e, if_neg e2]; exact (h.rat k hk).upd hu (h.rlt k hk).2.2
  inj := fun i k hi hk e => by
    rw [swapF_is, swapF_is] at e
    exact swapI_inj r s i k (h.inj _ _ (swapI_lt r s i hr hs hi) (swapI_lt r s k hr hs hk) e)
end
/-- The row k times the inverse of its element at j. -/
def scaleF (q : Int) (k j : Nat) (M : Nat → Nat → Int) : Nat → Nat → Int := fun i => if i = k then (fun c => mulZ q (M k c) (powZ q (M k j) (-1))) else M i
/-- All other rows less multiples of the row k, for the rows before r. -/
def clearF (q : Int) (k j r : Nat) (M : Nat → Nat → Int) : Nat → Nat → Int := fun i => if i = k ∨ r ≤ i then M i else fun c => lessZ q (M i c) (M k c) (M i j)
def stepM (q : Int) (n k j i : Nat) (M : Nat → Nat → Int) : Nat → Nat → Int := clearF q k j n (scaleF q k j (swapF k (k + i) M))
def redF (q : Int) (n : Nat) : Nat → Nat → List Nat → (Nat → Nat → Int) → List Nat × (Nat → Nat → Int)
  | 0, _, piv, M => (piv, M)
  | f + 1, j, piv, M => match firstF (fun i => M (piv.length + i) j != 0) (n - piv.length) 0 with
    | none => redF q n f (j + 1) piv M
    | some i => redF q n f (j + 1) (piv ++ [j]) (stepM q n piv.length j i M)
/-- All elements are residues. -/
def allR (q : Int) (n c : Nat) (M : Nat → Nat → Int) : Prop := ∀ i, i < n → ∀ j, j < c → inR q (M i j)
theorem isInt_res {n : Int} (hn : isMod n) {x : Int} (h : 0 ≤ x ∧ x < n) : isInt x := by
  unfold isMod at hn; unfold isInt; omega
theorem powZ_in {n : Int} (hn : isMod n) (a b : Int) : 0 ≤ powZ n a b ∧ powZ n a b < n := by
  unfold powZ
  rw [if_pos hn]
  split
  · exact res_in n _ hn
  · split
    · exact res_in n _ hn
    · have := hn.1; omega
theorem powZ_int (n a b : Int) : isInt (powZ n a b) := by
  by_cases hn : isMod n
  · exact isInt_res hn (powZ_in hn a b)
  · unfold powZ isInt; rw [if_neg hn]; omega
theorem powZ_inR {q : Int} (hq : isMod q) (a b : Int) : inR q (powZ q a b) := powZ_in hq a b
theorem allR.swap {q : Int} {n c : Nat} {M : Nat → Nat → Int} (h : allR q n c M) (r s : Nat) (hr : r < n) (hs : s < n) : allR q n c (swapF r s M) := by
  intro i hi j hj
  unfold swapF
  split
  · exact h s hs j hj
  · split
    · exact h r hr j hj
    · exact h i hi j hj
theorem allR.scale {q : Int} (hq : isMod q) {n c : Nat} {M : Nat → Nat → Int} (h : allR q n c M) (k j : Nat) : allR q n c (scaleF q k j M) := by
  intro i hi j' hj'
  unfold scaleF
  split
  · exact mulZ_inR hq _ _
  · exact h i hi j' hj'
theorem allR.clear {q : Int} (hq : isMod q) {n c : Nat} {M : Nat → Nat → Int} (h : allR q n c M) (k j r : Nat) : allR q n c (clearF q k j r M) := by
  intro i hi j' hj'
  unfold clearF
  split
  · exact h i hi j' hj'
  · exact lessZ_inR hq _ _ _
theorem clearF_zero (q : Int) (k j : Nat) (M : Nat → Nat → Int) : clearF q k j 0 M = M := by
  funext i; unfold clearF; rw [if_pos (.inr (Nat.zero_le _))]
theorem clearF_skip (q : Int) (k j : Nat) (M : Nat → Nat → Int) : clearF q k j (k + 1) M = clearF q k j k M := by
  funext i; unfold clearF
  by_cases e : i = k
  · rw [if_pos (.inl e), if_pos (.inl e)]
  · by_cases e2 : k ≤ i
    · rw [if_pos (.inr (by omega)), if_pos (.inr e2)]
    · rw [if_neg (by omega), if_neg (by omega)]
theorem clearF_next (q : Int) (k j r : Nat) (M : Nat → Nat → Int) (hr : r ≠ k) : clearF q k j (r + 1) M = fun i => if i = r then (fun c => lessZ q (clearF q k j r M r c) (clearF q k j r M k c) (clearF q k j r M r j)) else clearF q k j r M i := by
  have e1 : clearF q k j r M r = M r := by unfold clearF; rw [if_pos (.inr (Nat.le_refl _))]
  have e2 : clearF q k j r M k = M k := by unfold clearF; rw [if_pos (.inl rfl)]
  funext i
  rw [e1, e2]
  by_cases e : i = r
  · subst e; rw [if_pos rfl]; unfold clearF; rw [if_neg (by omega)]
  · rw [if_neg e]; unfold clearF
    by_cases e3 : i = k ∨ r ≤ i
    · rw [if_pos e3, if_pos (by omega)]
    · rw [if_neg e3, if_neg (by omega)]
/-- Numbers as cells. -/
def ics (L : List Nat) : List Value := L.map fun x : Nat => Value.int .i64 (x : Int)
theorem ics_app (L : List Nat) (x : Nat) : ics (L ++ [x]) = ics L ++ [Value.int .i64 (x : Int)] := by simp [ics]
theorem own_len {B : Nat} {e : TypeId} {size n : Nat} {v : Value} {xs : List Value} {w : World} (h : w.ownsRow B e size v n xs) : ∃ a cap, v = .slice a n cap := by
  obtain ⟨_, ⟨h1, h2⟩ | ⟨g, cap, cur, hv, _⟩⟩ := h
  · exact ⟨none, 0, by rw [h1, h2]⟩
  · exact ⟨_, _, hv⟩
theorem own_upd {B : Nat} {e : TypeId} {size n : Nat} {v : Value} {xs : List Value} {w w' : World} {b : Nat} (h : w.ownsRow B e size v n xs) (hu : Upd b w w') (hb : b < B) : w'.ownsRow B e size v n xs := by
  refine ⟨h.1, ?_⟩
  rcases h.2 with hn | ⟨g, cap, cur, rfl, hg, hgg, rest⟩
  · exact .inl hn
  · exact .inr ⟨g, cap, cur, rfl, hg, by rw [hu.block g (by omega)]; exact hgg, rest⟩
/-- What a round of the reduction keeps: the matrix, the pivots, the box of the column. -/
structure Red (W : World) (B T H n c : Nat) (R K : Nat → Nat) (M : Nat → Nat → Int) (v : Value) (piv : List Nat) (w : World) : Prop where
  mat : Mat B T H n c R K M w
  own : w.ownsRow T 3 1 v piv.length (ics piv)
  bel : Below B W w
structure Box (T X j : Nat) (w : World) : Prop where
  lt : T ≤ X ∧ X < w.heap.size
  at' : w.cell? ⟨X, 0, none⟩ = some (.int .i64 (j : Int))
theorem Box.upd {T X j b : Nat} {w w' : World} (h : Box T X j w) (hu : Upd b w w') (hb : b < T) : Box T X j w' :=
  ⟨⟨h.lt.1, by rw [hu.size]; exact h.lt.2⟩, by rw [World.cell?_of_block (a := ⟨X, 0, none⟩) (hu.block X (by have := h.lt.1; omega))]; exact h.at'⟩
theorem Box.drewN {T X j : Nat} {w : World} (h : Box T X j w) (m : Nat) : Box T X j (w.drewN m) := ⟨h.lt, h.at'⟩
section
variable {W : World} {B T H n c : Nat} {R K : Nat → Nat} {M : Nat → Nat → Int} {v : Value} {piv : List Nat} {w w' : World}
theorem Red.drewN (h : Red W B T H n c R K M v piv w) (m : Nat) : Red W B T H n c R K M v piv (w.drewN m) := ⟨h.mat.drewN m, h.own, below_drewN h.bel m⟩
theorem Red.row (h : Red W B T H n c R K M v piv w) (i : Nat) (hi : i < n) {g : Nat → Int} (hu : Upd (R i) w w') (hr : RowAt (R i) c g w') : Red W B T H n c R K (fun r => if r = i then g else M r) v piv w' :=
  ⟨h.mat.row i hi hu hr, own_upd h.own hu (h.mat.rlt i hi).2.1, h.bel.trans (hu.below (h.mat.rlt i hi).1)⟩
theorem Red.swap (h : Red W B T H n c R K M v piv w) (r s : Nat) (hr : r < n) (hs : s < n) (hu : Upd H w w') (h1 : w'.cell? ⟨H, r, none⟩ = some (.slice (some ⟨R s, 0, none⟩) c (K s))) (h2 : w'.cell? ⟨H, s, none⟩ = some (.slice (some ⟨R r, 0, none⟩) c (K r)))
    (h3 : ∀ i, i ≠ r → i ≠ s → w'.cell? ⟨H, i, none⟩ = w.cell? ⟨H, i, none⟩) (h4 : ∀ i, w'.frozen? ⟨H, i, none⟩ = false) : Red W B T H n c (swapF r s R) (swapF r s K) (swapF r s M) v piv w' :=
  ⟨h.mat.swap r s hr hs hu h1 h2 h3 h4, own_upd h.own hu h.mat.hlt.2, h.bel.trans (hu.below h.mat.hlt.1)⟩
theorem Red.swap2 (h : Red W B T H n c R K M v piv w) (r s : Nat) (hr : r < n) (hs : s < n) :
    Red W B T H n c (swapF r s R) (swapF r s K) (swapF r s M) v piv ((w.setCell ⟨H, r, none⟩ (.slice (some ⟨R s, 0, none⟩) c (K s))).setCell ⟨H, s, none⟩ (.slice (some ⟨R r, 0, none⟩) c (K r))).drew ∧
      Upd H w ((w.setCell ⟨H, r, none⟩ (.slice (some ⟨R s, 0, none⟩) c (K s))).setCell ⟨H, s, none⟩ (.slice (some ⟨R r, 0, none⟩) c (K r))).drew := by
  have hU : Upd H w ((w.setCell ⟨H, r, none⟩ (.slice (some ⟨R s, 0, none⟩) c (K s))).setCell ⟨H, s, none⟩ (.slice (some ⟨R r, 0, none⟩) c (K r))).drew :=
    (((Upd.refl H w).setCell r _).setCell s _).drewN 1
  have hne : ∀ i k, i ≠ k → (⟨H, i, none⟩ : Addr) ≠ ⟨H, k, none⟩ := fun i k h e => h (congrArg Addr.off e)
  refine ⟨(h.swap r s hr hs hU ?_ ?_ ?_ ?_), hU⟩
  · show (World.setCell _ _ _).cell? _ = _
    by_cases e : s = r
    · subst e
      rw [World.cell?_setCell_same _ _ _ (World.cell?_setCell_same _ _ _ (h.mat.hat s hs))]
    · rw [World.cell?_setCell_other _ _ _ _ (hne s r e), World.cell?_setCell_same _ _ _ (h.mat.hat r hr)]
  · show (World.setCell _ _ _).cell? _ = _
    obtain ⟨v', hv'⟩ := cell?_setCell_some (w := w) (p := ⟨H, r, none⟩) (x := .slice (some ⟨R s, 0, none⟩) c (K s)) (q := ⟨H, s, none⟩) (h.mat.hat s hs)
    rw [World.cell?_setCell_same _ _ _ hv']
  · intro i h1 h2
    show (World.setCell _ _ _).cell? _ = _
    rw [World.cell?_setCell_other _ _ _ _ (hne s i (Ne.symm h2)), World.cell?_setCell_other _ _ _ _ (hne r i (Ne.symm h1))]
  · intro i
    show (World.setCell _ _ _).frozen? _ = _
    rw [World.frozen?_setCell, World.frozen?_setCell]; exact h.mat.hfz i
theorem Red.alloc (h : Red W B T H n c R K M v piv w) (o : Obj) : Red W B T H n c R K M v piv (w.alloc o) :=
  ⟨h.mat.next (below_one _ _), h.own.alloc o, h.bel.trans ((below_one w o).mono (by have := h.mat.tlt; have := h.mat.hlt; omega))⟩
theorem Red.congr {M' : Nat → Nat → Int} (h : Red W B T H n c R K M v piv w) (e : M = M') : Red W B T H n c R K M' v piv w := e ▸ h
theorem Red.grown {v' : Value} {piv' : List Nat} (h : Red W B T H n c R K M v piv w) (hg : w.grownBy w' v.ownBlock) (ho : w'.ownsRow T 3 1 v' piv'.length (ics piv')) : Red W B T H n c R K M v' piv' w' := by
  have hb : Below T w w' := ⟨hg.os, hg.tape, hg.output, hg.size, fun k hk => hg.block k (Nat.lt_of_lt_of_le hk h.mat.tlt) (fun e => by have := (h.own.lt k e.symm).1; omega)⟩
  exact ⟨h.mat.below hb, ho, h.bel.trans (hb.mono (by have := h.mat.hlt; omega))⟩
end
end Go.Proofs.YtdeeoigcpihidaaDoor
