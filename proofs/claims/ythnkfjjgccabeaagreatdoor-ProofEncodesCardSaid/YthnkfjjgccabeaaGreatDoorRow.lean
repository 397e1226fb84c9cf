/- Blocks of words: whole loads, whole stores, a result in a block. -/
import Derived.Test.YthnkfjjgccabeaaGreatDoorBits
import Derived.Deep.MidRow
import Derived.Below
import Derived.Laws.OwnMore
import Derived.Deep.Draws
import Derived.Laws.Rows
namespace Go.Proofs.YthnkfjjgccabeaaGreatDoor
open Go.RowKit

/-- The string of a list of bytes. -/
def bs (l : List UInt8) : ByteArray := ⟨l.toArray⟩
theorem bs_data (l : List UInt8) : (bs l).data.toList = l := by simp [bs]
theorem bs_size (l : List UInt8) : (bs l).size = l.length := by simp [bs, ByteArray.size]
theorem bs_of (s : ByteArray) : bs s.data.toList = s := Lib.mk_data s
theorem bs_append (a b : List UInt8) : bs a ++ bs b = bs (a ++ b) := by
  unfold bs; rw [ByteArray.ext_iff]; simp
theorem bs_get (l : List UInt8) (k : Nat) (h : k < (bs l).size) (h2 : k < l.length) : (bs l)[k]'h = l[k]'h2 := by
  simp [bs, ByteArray.getElem_eq_getElem_data]

/-- A block of an array of words that is known whole. -/
def Blk (w : World) (g : Nat) (t : TypeId) (cs : Array Value) : Prop := w.heap[g]? = some (.cells cs t (0, 0))
section
variable {w w' : World} {g : Nat} {t : TypeId} {cs : Array Value}
theorem Blk.lt (h : Blk w g t cs) : g < w.heap.size := by
  rcases Nat.lt_or_ge g w.heap.size with hlt | hge
  · exact hlt
  · unfold Blk at h; rw [Array.getElem?_eq_none hge] at h; cases h
theorem Blk.cell (h : Blk w g t cs) (i : Nat) : w.cell? ⟨g, i, none⟩ = cs[i]? := cell_of_row w g i cs t (0, 0) h
theorem Blk.frozen (h : Blk w g t cs) (i : Nat) : w.frozen? ⟨g, i, none⟩ = false := by
  unfold Blk at h
  simp [World.frozen?, h]
theorem Blk.new (w : World) (t : TypeId) (cs : Array Value) : Blk (w.alloc (.cells cs t)) w.heap.size t cs := heap_alloc_new w _
theorem Blk.drewN (h : Blk w g t cs) (n : Nat) : Blk (w.drewN n) g t cs := h
theorem Blk.alloc (h : Blk w g t cs) (o : Obj) : Blk (w.alloc o) g t cs := (Below.heap_alloc w o g h.lt).trans h
theorem Blk.set_ (h : Blk w g t cs) (i : Nat) (u : Value) : Blk (w.setCell ⟨g, i, none⟩ u) g t (cs.setIfInBounds i u) := by
  unfold Blk at h ⊢
  simp [World.setCell, Array.getElem?_modify, h]
theorem Blk.far (h : Blk w g t cs) {p : Addr} (hp : g ≠ p.block) (u : Value) : Blk (w.setCell p u) g t cs := (Below.heap_setCell w p u g hp).trans h
theorem Blk.below {B : Nat} (h : Blk w g t cs) (hb : Below B w w') (hg : g < B) : Blk w' g t cs := (hb.block g hg).trans h
theorem Blk.next (h : Blk w g t cs) (hb : Below w.heap.size w w') : Blk w' g t cs := h.below hb h.lt
theorem Blk.setAll (g : Nat) (t : TypeId) : ∀ (vs : List Value) (o : Nat) (w : World) (A B : List Value), A.length = o → B.length = vs.length → Blk w g t (A ++ B).toArray → Blk (w.setCells g o vs) g t (A ++ vs).toArray
  | [], o, w, A, B, _, hB, h => by
    obtain rfl : B = [] := List.eq_nil_of_length_eq_zero (by simpa using hB)
    exact h
  | v :: vs, o, w, A, [], _, hB, _ => by simp at hB
  | v :: vs, o, w, A, b :: B, hA, hB, h => by
    have h1 := h.set_ o v
    have e : (A ++ b :: B).toArray.setIfInBounds o v = (A ++ [v] ++ B).toArray := by
      rw [List.setIfInBounds_toArray, List.set_append_right _ _ (by omega), hA, Nat.sub_self, List.set_cons_zero]; simp
    rw [e] at h1
    have h2 := Blk.setAll g t vs (o + 1) (w.setCell ⟨g, o, none⟩ v) (A ++ [v]) B (by simp [hA]) (by simpa using hB) h1
    have e2 : A ++ [v] ++ vs = A ++ v :: vs := by simp
    rw [e2] at h2
    exact h2
theorem Blk.store {C : Array Value} (h : Blk w g t C) (D : Array Value) (hs : D.size = C.size) : Blk (w.setCells g 0 D.toList) g t D := by
  have h1 := Blk.setAll g t D.toList 0 w [] C.toList rfl (by simpa using hs.symm) (by simpa using h)
  simpa using h1
theorem Blk.there (h : Blk w g t cs) : w.there g 0 cs.size := fun j hj => by
  refine ⟨?_, ?_⟩
  · rw [Nat.zero_add, h.cell]; simp [hj]
  · rw [Nat.zero_add]; exact h.frozen j
theorem below_setCells {B : Nat} {a : World} (g : Nat) (hg : B ≤ g) : ∀ (vs : List Value) (o : Nat) (w : World), Below B a w → Below B a (w.setCells g o vs)
  | [], _, _, h => h
  | v :: vs, o, _, h => below_setCells g hg vs (o + 1) _ (h.setCell (p := ⟨g, o, none⟩) hg v)
end

/-- Words as the cells of an array of so many. -/
def wordV (n : Nat) (W : List (BitVec 32)) : Array Value := ((W.map fun x => Value.int .u32 (uv x)) ++ List.replicate (n - W.length) (Value.int .u32 0)).toArray
theorem wordV_get {n : Nat} {W : List (BitVec 32)} {i : Nat} {x : BitVec 32} (h : W[i]? = some x) : (wordV n W)[i]? = some (.int .u32 (uv x)) := by
  have hl := (List.getElem?_eq_some_iff.1 h).1
  unfold wordV
  rw [List.getElem?_toArray, List.getElem?_append_left (by simpa using hl), List.getElem?_map, h]; rfl
theorem wordV_zero {n : Nat} {W : List (BitVec 32)} (h : W.length < n) : (wordV n W)[W.length]? = some (.int .u32 0) := by
  unfold wordV
  rw [List.getElem?_toArray, List.getElem?_append_right (by simp), List.length_map, Nat.sub_self, List.getElem?_replicate, if_pos (by omega)]
theorem wordV_set {n : Nat} {W : List (BitVec 32)} {x : BitVec 32} (h : W.length < n) : (wordV n W).setIfInBounds W.length (.int .u32 (uv x)) = wordV n (W ++ [x]) := by
  unfold wordV
  obtain ⟨k, hk⟩ : ∃ k, n - W.length = k + 1 := ⟨n - W.length - 1, by omega⟩
  rw [hk, List.replicate_succ, List.setIfInBounds_toArray, List.set_append_right _ _ (by simp), List.length_map, Nat.sub_self, List.set_cons_zero]
  have e : n - (W ++ [x]).length = k := by simp; omega
  rw [e]; simp
theorem wordV_size {n : Nat} {W : List (BitVec 32)} (h : W.length ≤ n) : (wordV n W).size = n := by unfold wordV; simp; omega
theorem wordV_one (n : Nat) (W : List (BitVec 32)) : (wordV n W).all (·.oneCell') = true := by
  unfold wordV
  refine all_oneCell_toArray fun v hv => ?_
  rcases List.mem_append.1 hv with h | h
  · obtain ⟨x, _, rfl⟩ := List.mem_map.1 h; rfl
  · rw [(List.mem_replicate.1 h).2]; rfl
theorem wordV_zsize (n : Nat) : (wordV n []).size = n := wordV_size (Nat.zero_le _)
/-- Whole loads and stores of a full array. -/
theorem Blk.full {w : World} {g : Nat} {t : TypeId} {n : Nat} {C : Array Value} {W : List (BitVec 32)} (h : Blk w g t C) (hC : C.size = n) (hW : W.length = n) :
    w.there g 0 (wordV n W).size ∧ Blk (w.setCells g 0 (wordV n W).toList) g t (wordV n W) ∧ (wordV n W).size = n := by
  have e : (wordV n W).size = n := wordV_size (by omega)
  refine ⟨?_, h.store _ (by rw [e, hC]), e⟩
  rw [e, ← hC]
  exact h.there
theorem info64 : (Tryz.prog.info? 155).map (·.size) = some 64 := by kernel_rfl
theorem info8 : (Tryz.prog.info? 148).map (·.size) = some 8 := by kernel_rfl
theorem uv_mod (x : BitVec 32) : uv x % 4294967296 = uv x := by have := uv_lt x; omega
theorem byte_uv (b : UInt8) : (b.toNat : Int) = uv (byteB b) := by
  have := b.toNat_lt
  exact uv_lit _ (by omega)
end Go.Proofs.YthnkfjjgccabeaaGreatDoor
