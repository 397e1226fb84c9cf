/- Rows of bytes. -/
import Derived.Test.YtanecondopbfhaaGreatDoorTorn2
import Derived.Lib.ConvBytes
import Derived.Laws.IdiomStrings
import Derived.Laws.AppendOwn
import Derived.Laws.OwnMore
namespace Go.Proofs.YtanecondopbfhaaGreatDoor
open Go.RowKit

/-! ### A row of bytes none of whose cells is frozen -/

def u8s (l : List UInt8) : List Value := l.map fun x => Value.int .u8 (x.toNat : Int)

def BRow (w : World) (B : Nat) (v : Value) (l : List UInt8) : Prop :=
  ∃ g cap cur fz, v = .slice (some ⟨g, 0, none⟩) l.length cap ∧ B ≤ g ∧ w.heap[g]? = some (.cells cur 5 fz) ∧ (cur.size ≤ fz.1 ∨ fz.2 = 0) ∧ l.length ≤ cap ∧ cap ≤ maxLen ∧ cur.size = cap ∧ cur.toList.take l.length = u8s l

theorem info_u8 : (Tryz.prog.info? 5).map (fun i => (i.zero, i.size, i.bytes)) = some (some (.int .u8 0), 1, 1) := by kernel_rfl

theorem brow_get {cur : Array Value} {l : List UInt8} (h : cur.toList.take l.length = u8s l) {j : Nat} (hj : j < l.length) : cur[j]? = some (.int .u8 (l[j].toNat : Int)) := by
  have h1 : (cur.toList.take l.length)[j]? = (u8s l)[j]? := by rw [h]
  rw [List.getElem?_take_of_lt hj] at h1
  unfold u8s at h1
  rw [List.getElem?_map, List.getElem?_eq_getElem hj] at h1
  simpa using h1

theorem add_lit (g j : Nat) : (⟨g, 0, none⟩ : Addr).add j = ⟨g, j, none⟩ := by
  by_cases hj0 : j = 0 <;> simp [Addr.add, hj0]

theorem BRow.cell {w : World} {B g cap : Nat} {l : List UInt8} (h : BRow w B (.slice (some ⟨g, 0, none⟩) l.length cap) l) (j : Nat) (hj : j < l.length) : w.cell? ⟨g, j, none⟩ = some (.int .u8 (l[j].toNat : Int)) ∧ w.frozen? ⟨g, j, none⟩ = false := by
  obtain ⟨g', cap', cur, fz, hv, _, hg, hfz, hlc, _, hcs, ht⟩ := h
  simp only [Value.slice.injEq, Option.some.injEq, Addr.mk.injEq] at hv
  obtain ⟨⟨rfl, _⟩, _, rfl⟩ := hv
  refine ⟨?_, ?_⟩
  · rw [cell_of_row w g j cur _ _ hg]
    exact brow_get ht hj
  · unfold World.frozen?
    rw [hg]
    obtain ⟨lo, hi⟩ := fz
    simp only [Bool.and_eq_false_iff, decide_eq_false_iff_not]
    simp only at hfz
    omega

theorem BRow.set {w : World} {B g cap : Nat} {l : List UInt8} (h : BRow w B (.slice (some ⟨g, 0, none⟩) l.length cap) l) (j : Nat) (x : UInt8) :
    BRow (w.setCell ⟨g, j, none⟩ (.int .u8 (x.toNat : Int))) B (.slice (some ⟨g, 0, none⟩) l.length cap) (l.set j x) := by
  obtain ⟨g', cap', cur, fz, hv, hB, hg, hfz, hlc, hm, hcs, ht⟩ := h
  simp only [Value.slice.injEq, Option.some.injEq, Addr.mk.injEq] at hv
  obtain ⟨⟨rfl, _⟩, _, rfl⟩ := hv
  refine ⟨g, cap, cur.setIfInBounds j (.int .u8 (x.toNat : Int)), fz, by rw [List.length_set], hB, ?_, by simpa using hfz, by rw [List.length_set]; exact hlc, hm, by simpa using hcs, ?_⟩
  · simp [World.setCell, Array.getElem?_modify, hg]
  · rw [Array.toList_setIfInBounds, List.length_set, List.take_set, ht]
    unfold u8s
    rw [List.map_set]

theorem BRow.lt {w : World} {B : Nat} {v : Value} {l : List UInt8} (h : BRow w B v l) : ∃ g cap, v = .slice (some ⟨g, 0, none⟩) l.length cap ∧ B ≤ g ∧ g < w.heap.size ∧ l.length ≤ cap := by
  obtain ⟨g, cap, cur, fz, hv, hB, hg, hfz, hlc, hm, hcs, ht⟩ := h
  exact ⟨g, cap, hv, hB, (Array.getElem?_eq_some_iff.1 hg).1, hlc⟩

theorem BRow.alloc {w : World} {B : Nat} {v : Value} {l : List UInt8} (h : BRow w B v l) (o : Obj) : BRow (w.alloc o) B v l := by
  obtain ⟨g, cap, cur, fz, hv, hB, hg, rest⟩ := h
  exact ⟨g, cap, cur, fz, hv, hB, (Below.heap_alloc _ _ _ (Array.getElem?_eq_some_iff.1 hg).1).trans hg, rest⟩

theorem bit_one (x : Int) : bits BinOp.and IntKind.i64 x 1 = x % 2 := by
  have h : (BitVec.ofInt 64 x &&& BitVec.ofInt 64 1).toNat = (x % 2).toNat := by
    rw [BitVec.toNat_and, show (BitVec.ofInt 64 1).toNat = 1 from rfl, Nat.and_one_is_mod, BitVec.toNat_ofInt]
    omega
  show IntKind.i64.wrap ((BitVec.ofInt 64 x &&& BitVec.ofInt 64 1).toNat : Int) = _
  rw [h, IntKind.wrap_i64]
  omega

/-- The bytes of a string, in memory of one's own. -/
theorem bytes_row (w : World) (s : List UInt8) (hs : s.length ≤ 33554432) : BRow (Lib.bytesWorld w 5 (bs s)) w.heap.size (.slice (some ⟨w.heap.size, 0, none⟩) s.length (grownCap w s.length 0 5)) s ∧ Below w.heap.size w (Lib.bytesWorld w 5 (bs s)) := by
  have hls := bs_size s
  have hge := grownCap_ge w s.length 0 5
  refine ⟨⟨w.heap.size, _, _, _, rfl, Nat.le_refl _, Lib.bytesWorld_at_new w _ _, Or.inl (Nat.le_refl _), by simpa using hge, grownCap_le_maxLen w s.length 0 5 (by simp only [maxLen]; omega), ?_, ?_⟩, ?_⟩
  · have h2 : (bs s).data.size = s.length := hls
    simp [Lib.bytesCells, hls, h2]
    omega
  · unfold Lib.bytesCells
    rw [Array.toList_append, Array.toList_map, bs_data]
    exact List.take_left' (by simp)
  · exact ⟨by simp [Lib.bytesWorld, World.freeze, World.alloc, World.drew, -World.alloc_eq, -World.drew_eq], by simp [Lib.bytesWorld, World.freeze, World.alloc, World.drew, -World.alloc_eq, -World.drew_eq], by simp [Lib.bytesWorld, World.freeze, World.alloc, World.drew, -World.alloc_eq, -World.drew_eq], by rw [Lib.bytesWorld_size]; omega, fun k hk => Lib.bytesWorld_at_old w _ _ k hk⟩

theorem BRow.keeps {w w' : World} {B g cap n : Nat} {l : List UInt8} (h : BRow w B (.slice (some ⟨g, 0, none⟩) n cap) l) (hk : w'.heap[g]? = w.heap[g]?) : BRow w' B (.slice (some ⟨g, 0, none⟩) n cap) l := by
  obtain ⟨g', cap', cur, fz, hv, hB, hg, rest⟩ := h
  have e := hv
  simp only [Value.slice.injEq, Option.some.injEq, Addr.mk.injEq] at e
  obtain ⟨⟨rfl, _⟩, _, rfl⟩ := e
  exact ⟨g, cap, cur, fz, hv, hB, hk.trans hg, rest⟩

/-- A row of zeros is made, and is made a string. -/
theorem make_zeros (w : World) : ∃ (Z : List UInt8) (w' : World), Z.length = 20001 ∧ (Instr.makeSlice 56 (.int .i64 20001) (.int .i64 20001)).run Tryz.prog w = .ok (.slice (some ⟨w.heap.size, 0, none⟩) 20001 20001) w' ∧
    (convert 56 9 (.slice (some ⟨w.heap.size, 0, none⟩) 20001 20001)).run Tryz.prog w' = .ok (.string (bs Z)) w' ∧ Kept (fun _ => False) w w' := by
  obtain ⟨i0, hi, hz0, hz1, hz2⟩ : ∃ i, Tryz.prog.info? 5 = some i ∧ i.zero = some (.int .u8 0) ∧ i.size = 1 ∧ i.bytes = 1 := by
    obtain ⟨i, hi, he⟩ := Option.map_eq_some_iff.1 info_u8
    simp only [Prod.mk.injEq] at he
    exact ⟨i, hi, he.1, he.2.1, he.2.2⟩
  obtain ⟨N, hN⟩ : ∃ N : Nat, N = 20001 := ⟨_, rfl⟩
  have hN2 : (20001 : Int) = (N : Int) := by omega
  rw [← hN, hN2]
  obtain ⟨w', h1, h2, h3⟩ := run_makeSlice_full (P := Tryz.prog) w 0 56 5 i0 (.int .u8 0) 1 Tryz.underlying56 hi hz0 hz1 .i64 .i64 N (by omega) (by rw [hz2]; omega) (by unfold maxLen; omega) (Nat.zero_le _)
  refine ⟨List.replicate N 0, w', List.length_replicate, h1, ?_, ⟨h3.os, h3.tape, h3.output, h3.size, fun i hi _ => h3.block i hi (by simp)⟩⟩
  rw [show (Value.int .u8 0).cells = #[Value.int .u8 0] from rfl, toList_madeCells_one] at h2
  obtain ⟨hl, ⟨hv, _⟩ | ⟨g, cap, cur, hv, hgB, hh, hc, hm, hs, ht⟩⟩ := h2
  · simp at hv
  · simp only [Value.slice.injEq, Option.some.injEq, Addr.mk.injEq] at hv
    have hg := hv.1.1
    have hback := run_convert_bytes_back (P := Tryz.prog) w' 56 9 5 ⟨w.heap.size, 0, none⟩ N (List.replicate N 0) Tryz.underlying56 Tryz.underlying5 Tryz.underlying9 (fun i hi => by
      rw [List.getElem_replicate]
      rw [List.length_replicate] at hi
      rw [add_lit, hg, Lib.cell_of_heap hh]
      have h4 : (cur.toList.take (N * 1))[i]? = some (.int .u8 0) := by
        rw [ht, List.getElem?_replicate, if_pos (by omega)]
      rw [List.getElem?_take_of_lt (by omega)] at h4
      simpa using h4)
    rw [List.length_replicate] at hback
    exact hback

end Go.Proofs.YtanecondopbfhaaGreatDoor
