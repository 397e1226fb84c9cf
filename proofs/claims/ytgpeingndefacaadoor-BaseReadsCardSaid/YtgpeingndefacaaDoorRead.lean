/- The reader of the encodings: its methods do what the functions on lists of bytes say. -/
import Derived.Test.YtgpeingndefacaaDoorWrite
import Derived.Deep.LoopGhost
namespace Go.Proofs.YtgpeingndefacaaDoor
open Go.RowKit

/-! ### only one block turns -/
theorem only_refl (w : World) (b : Nat) : w.grownBy w (some b) := ⟨rfl, rfl, rfl, Nat.le_refl _, fun _ _ _ => rfl⟩
theorem only_trans {a b c : World} {g : Nat} (h : a.grownBy b (some g)) (k : b.grownBy c (some g)) : a.grownBy c (some g) :=
  ⟨k.os.trans h.os, k.tape.trans h.tape, k.output.trans h.output, Nat.le_trans h.size k.size, fun i hi hn => (k.block i (Nat.lt_of_lt_of_le hi h.size) hn).trans (h.block i hi hn)⟩
theorem only_drew {a w : World} {row : Option Nat} (h : a.grownBy w row) : a.grownBy w.drew row := ⟨h.os, h.tape, h.output, h.size, h.block⟩
theorem only_alloc {a w : World} {row : Option Nat} (h : a.grownBy w row) (o : Obj) : a.grownBy (w.alloc o) row :=
  ⟨h.os, h.tape, h.output, Nat.le_trans h.size (by simp), fun i hi hne => (Below.heap_alloc w o i (Nat.lt_of_lt_of_le hi h.size)).trans (h.block i hi hne)⟩
theorem only_setCell {a w : World} {g : Nat} (h : a.grownBy w (some g)) {p : Addr} (hp : p.block = g ∨ a.heap.size ≤ p.block) (u : Value) : a.grownBy (w.setCell p u) (some g) :=
  ⟨h.os, h.tape, h.output, by simpa [World.setCell] using h.size, fun i hi hne => (Below.heap_setCell w p u i (by
    rintro rfl
    rcases hp with hp | hp
    · exact hne (by rw [hp])
    · omega)).trans (h.block i hi hne)⟩
theorem only_below {a w w' : World} {g : Nat} (h : a.grownBy w (some g)) (hb : Below w.heap.size w w') : a.grownBy w' (some g) :=
  ⟨hb.os.trans h.os, hb.tape.trans h.tape, hb.output.trans h.output, Nat.le_trans h.size hb.size, fun i hi hn => (hb.block i (Nat.lt_of_lt_of_le hi h.size)).trans (h.block i hi hn)⟩
theorem Env.only {w w' : World} (h : Env w) {g : Nat} (hb : w.grownBy w' (some g)) (hg : 6 ≤ g) : Env w' := by
  have hb2 : Below 6 w w' := ⟨hb.os, hb.tape, hb.output, hb.size, fun i hi => hb.block i (by have := h.lo; omega) (by simp; omega)⟩
  exact h.below hb2 (Nat.le_refl _)

/-- The reader's block. -/
def Rb (b : Nat) (r : Rd) (w : World) : Prop := w.heap[b]? = some (.cells #[.string (bs r.1), .bool r.2] 53 (0, 0))
theorem Rb.lt {b : Nat} {r : Rd} {w : World} (h : Rb b r w) : b < w.heap.size := by
  rcases Nat.lt_or_ge b w.heap.size with h' | h'
  · exact h'
  · unfold Rb at h; simp [Array.getElem?_eq_none h'] at h
theorem Rb.c0 {b : Nat} {r : Rd} {w : World} (h : Rb b r w) : w.cell? ⟨b, 0, none⟩ = some (.string (bs r.1)) := by rw [Lib.cell_of_heap h]; rfl
theorem Rb.c1 {b : Nat} {r : Rd} {w : World} (h : Rb b r w) : w.cell? ⟨b, 1, none⟩ = some (.bool r.2) := by rw [Lib.cell_of_heap h]; rfl
theorem Rb.f {b : Nat} {r : Rd} {w : World} (h : Rb b r w) (j : Nat) : w.frozen? ⟨b, j, none⟩ = false := Lib.frozen_of_heap h j
theorem Rb.next {b : Nat} {r : Rd} {w w' : World} (h : Rb b r w) (hb : Below w.heap.size w w') : Rb b r w' := by
  have hlt := h.lt
  unfold Rb at h ⊢
  rw [hb.block b hlt]; exact h
theorem Rb.set0 {b : Nat} {r : Rd} {w : World} (h : Rb b r w) (l : List UInt8) : Rb b (l, r.2) (w.setCell ⟨b, 0, none⟩ (.string (bs l))) := by
  unfold Rb at h ⊢
  simp [World.setCell, Array.getElem?_modify, h]
theorem Rb.set1 {b : Nat} {r : Rd} {w : World} (h : Rb b r w) (f : Bool) : Rb b (r.1, f) (w.setCell ⟨b, 1, none⟩ (.bool f)) := by
  unfold Rb at h ⊢
  simp [World.setCell, Array.getElem?_modify, h]
theorem bs_nil : bs [] = { data := #[] } := rfl
theorem Rb.fail2 {b : Nat} {r : Rd} {w : World} (h : Rb b r w) : Rb b failed ((w.setCell ⟨b, 0, none⟩ (.string { data := #[] })).setCell ⟨b, 1, none⟩ (.bool true)) := by
  have h2 := (h.set0 []).set1 true
  rw [bs_nil] at h2
  exact h2
theorem only_fail2 (b : Nat) (w : World) : w.grownBy ((w.setCell ⟨b, 0, none⟩ (.string { data := #[] })).setCell ⟨b, 1, none⟩ (.bool true)) (some b) := by
  have h1 := only_setCell (p := ⟨b, 0, none⟩) (only_refl w b) (Or.inl rfl) (Value.string { data := #[] })
  exact only_setCell (p := ⟨b, 1, none⟩) h1 (Or.inl rfl) (Value.bool true)

theorem bs_drop (l : List UInt8) (i : Nat) : (bs l).extract i (bs l).size = bs (l.drop i) := by
  rw [Lib.extract_eq, bs_data, bs_size, ← List.length_drop, List.take_length]; rfl
theorem bs_take (l : List UInt8) (i : Nat) : (bs l).extract 0 i = bs (l.take i) := by
  rw [Lib.extract_eq, bs_data]; rfl

set_option maxRecDepth 100000 in
theorem open_reader (s : List UInt8) (w : World) :
    Calls Tryd.prog 20 #[.string (bs s)] w fun e w' => e = .returned (.pointer (some ⟨w.heap.size, 0, none⟩)) ∧ Rb w.heap.size (s, false) w' ∧ Below w.heap.size w w' ∧ w.heap.size < w'.heap.size := by
  go_enter Tryd.func20, Tryd.ntmps20
  go_wp2
  go_ret
  refine ⟨rfl, ?_, (Below.refl _ _).alloc (Nat.le_refl _) _, by simp⟩
  unfold Rb
  exact Array.getElem?_push_size ..

set_option maxRecDepth 100000 in
theorem rd_fail (b : Nat) (r : Rd) (w : World) (h : Rb b r w) :
    Calls Tryd.prog 51 #[.pointer (some ⟨b, 0, none⟩)] w fun e w' => e = .returned (.tuple #[]) ∧ Rb b failed w' ∧ w.grownBy w' (some b) := by
  have c0 := h.c0
  have c1 := h.c1
  have f0 := h.f 0
  have f1 := h.f 1
  go_enter Tryd.func51, Tryd.ntmps51
  go_wp2
  go_end0
  exact ⟨rfl, h.fail2, only_fail2 _ _⟩

theorem ib_any (l : List UInt8) (c : UInt8) (w : World) :
    Calls Tryd.prog 62 #[.string (bs l), .int .u8 (c.toNat : Int)] w fun e w' => e = .returned (.int .i64 (Lib.indexByte l c)) ∧ w = w' := by
  refine (Tryd.strings_IndexByte (bs l) (c.toNat : Int) w).mono ?_
  rintro e w' ⟨rfl, rfl⟩
  refine ⟨?_, rfl⟩
  rw [bs_data]; simp

theorem bs_ne_iff (a b : List UInt8) : ((bs a).toList == (bs b).toList) = decide (a = b) := by
  rw [Lib.toList_data, Lib.toList_data, bs_data, bs_data]
  by_cases h : a = b
  · simp [h]
  · simp [h]

theorem ret_pair {a b : Int} {x y : Bool} (h : a = b) (k : x = y) : Ending.returned (.tuple #[.int .i64 a, .bool x]) = .returned (.tuple #[.int .i64 b, .bool y]) := by rw [h, k]

set_option maxHeartbeats 400000 in
set_option maxRecDepth 100000 in
theorem canonical_ok (l : List UInt8) (hl : l.length ≤ 4294967296) (v : Int) (h : Lib.atoiAll l = .ok v) (w : World) (hE : Env w) :
    Calls Tryd.prog 63 #[.string (bs l)] w fun e w' => e = .returned (.tuple #[.int .i64 ((canon l).getD 0), .bool (canon l).isSome]) ∧ Below w.heap.size w w' := by
  have hv := atoiAll_int h
  have hcan : canon l = if Lib.itoa v = l then some v else none := by unfold canon; rw [h]
  have hq : ((bs (Lib.itoa v)).toList == (bs l).toList) = decide (Lib.itoa v = l) := bs_ne_iff _ _
  by_cases he : Lib.itoa v = l
  · rw [if_pos he] at hcan
    rw [decide_eq_true he] at hq
    have H := Lib.hid hcan
    clear hcan he
    go_enter Tryd.func63, Tryd.ntmps63
    go_wp2_with fail
    refine (Any.strconv_Atoi_ok Tryd.laysC172 (bs l) (by rw [bs_size]; omega) v (by rw [bs_data]; exact h) w).mono ?_
    rintro e w1 ⟨rfl, hw⟩
    have hb1 : Below w.heap.size w w1 := by
      rcases hw with rfl | ⟨t, rfl⟩
      · exact Below.refl _ _
      · exact Lib.bytesWorld_below _ _ _
    clear hw h
    go_wp2_with fail
    refine (itoa_calls v hv _ (hE.next hb1)).mono ?_
    rintro e w2 ⟨rfl, hb2⟩
    have hb02 := hb1.trans (hb2.mono hb1.size)
    go_wp2
    go_ret2
    exact ⟨ret_pair (by rw [H.out]; rfl) (by rw [H.out]; rfl), hb02⟩
  · rw [if_neg he] at hcan
    rw [decide_eq_false he] at hq
    have H := Lib.hid hcan
    clear hcan he
    go_enter Tryd.func63, Tryd.ntmps63
    go_wp2_with fail
    refine (Any.strconv_Atoi_ok Tryd.laysC172 (bs l) (by rw [bs_size]; omega) v (by rw [bs_data]; exact h) w).mono ?_
    rintro e w1 ⟨rfl, hw⟩
    have hb1 : Below w.heap.size w w1 := by
      rcases hw with rfl | ⟨t, rfl⟩
      · exact Below.refl _ _
      · exact Lib.bytesWorld_below _ _ _
    clear hw h
    go_wp2_with fail
    refine (itoa_calls v hv _ (hE.next hb1)).mono ?_
    rintro e w2 ⟨rfl, hb2⟩
    have hb02 := hb1.trans (hb2.mono hb1.size)
    go_wp2
    go_ret2
    exact ⟨ret_pair (by rw [H.out]; rfl) (by rw [H.out]; rfl), hb02⟩

set_option maxHeartbeats 400000 in
set_option maxRecDepth 100000 in
theorem canonical_err (l : List UInt8) (v : Int) (hcan : canon l = none) (w : World)
    (hA : Calls Tryd.prog 68 #[.string (bs l)] w fun e w' => (∃ N, e = .returned (.tuple #[.int .i64 v, .iface 95 (.pointer (some ⟨N, 0, none⟩))])) ∧ Below w.heap.size w w') :
    Calls Tryd.prog 63 #[.string (bs l)] w fun e w' => e = .returned (.tuple #[.int .i64 ((canon l).getD 0), .bool (canon l).isSome]) ∧ Below w.heap.size w w' := by
  have H := Lib.hid hcan
  have HA := Lib.hid hA
  clear hcan hA
  go_enter Tryd.func63, Tryd.ntmps63
  go_wp2_with fail
  refine HA.out.mono ?_
  rintro e w1 ⟨⟨N, rfl⟩, hb1⟩
  go_wp2
  go_ret2
  exact ⟨ret_pair (by rw [H.out]; rfl) (by rw [H.out]; rfl), hb1⟩
theorem canonical (l : List UInt8) (hl : l.length ≤ 4294967296) (w : World) (hE : Env w) :
    Calls Tryd.prog 63 #[.string (bs l)] w fun e w' => e = .returned (.tuple #[.int .i64 ((canon l).getD 0), .bool (canon l).isSome]) ∧ Below w.heap.size w w' := by
  have hS := hE.eS
  have hR := hE.eR
  have hz : (bs l).size ≤ 281474976710656 := by rw [bs_size]; omega
  cases h : Lib.atoiAll l
  case ok v => exact canonical_ok l hl v h w hE
  · refine canonical_err l 0 (by unfold canon; rw [h]) w ?_
    obtain ⟨te, pe, hc⟩ := hS
    refine (Any.strconv_Atoi_syntax Tryd.laysC172 (bs l) hz (by rw [bs_data]; exact h) (.iface te pe) w hc (Or.inr ⟨te, pe, rfl⟩)).mono ?_
    rintro e w' ⟨N, rfl, _, _, hb⟩
    exact ⟨⟨N, rfl⟩, hb⟩
  · refine canonical_err l (Lib.atoiSat l) (by unfold canon; rw [h]) w ?_
    obtain ⟨te, pe, hc⟩ := hR
    refine (Any.strconv_Atoi_range Tryd.laysC172 (bs l) hz (by rw [bs_data]; exact h) (.iface te pe) w hc (Or.inr ⟨te, pe, rfl⟩)).mono ?_
    rintro e w' ⟨N, rfl, _, _, hb⟩
    refine ⟨⟨N, ?_⟩, hb⟩
    rw [bs_data]
    rfl

end Go.Proofs.YtgpeingndefacaaDoor
