/- What the world holds of the library's variables and of the signs; strings as lists; frames; a Builder of one's own; canonical. -/
import Derived.Test.YtadfdgdpalnnfaaDoorBuild
import Derived.Lib.SmallJoins
import Derived.Lib.AppendIntMem
import Derived.Outline
import Derived.Deep.LoopGhost
namespace Go.Proofs.YtadfdgdpalnnfaaDoor
open Go.RowKit

/-- The string of a list of bytes. -/
def bs (l : List UInt8) : ByteArray := ⟨l.toArray⟩
theorem bs_data (l : List UInt8) : (bs l).data.toList = l := by simp [bs]
theorem bs_size (l : List UInt8) : (bs l).size = l.length := by simp [bs, ByteArray.size]
theorem bs_of (s : ByteArray) : bs s.data.toList = s := Lib.mk_data s
theorem bs_append (a b : List UInt8) : bs a ++ bs b = bs (a ++ b) := by
  unfold bs; rw [ByteArray.ext_iff]; simp

/-- The signs, in the order of the program's table. -/
def signL : List (List UInt8) := [[46, 46], [33, 61], [60, 61], [62, 61], [40], [41], [123], [125], [44], [59], [58], [46], [61], [60], [62], [43], [45], [42], [47]]

/-- What the world holds of the library's variables. -/
structure Env (w : World) : Prop where
  lo : 9 ≤ w.heap.size
  tab : Lib.TabIs Tryd.prog w "internal/strconv.uint64pow10" .u64 Lib.pow10Tab
  eS : ∃ te pe, w.cell? ⟨1, 0, none⟩ = some (.iface te pe)
  eR : ∃ te pe, w.cell? ⟨2, 0, none⟩ = some (.iface te pe)
  mx : ∃ m, w.cell? ⟨4, 0, none⟩ = some (.int .i64 m)
  sg : ∀ i l, signL[i]? = some l → w.cell? ⟨0, i, none⟩ = some (.string (bs l))

theorem Env.below {w w' : World} (h : Env w) {B : Nat} (hb : Below B w w') (hB : 9 ≤ B) : Env w' where
  lo := Nat.le_trans h.lo hb.size
  tab := var?_below (g := 3) hb (by kernel_rfl) (by omega) h.tab
  eS := by rw [hb.cell (p := ⟨1, 0, none⟩) (by simp only; omega)]; exact h.eS
  eR := by rw [hb.cell (p := ⟨2, 0, none⟩) (by simp only; omega)]; exact h.eR
  mx := by rw [hb.cell (p := ⟨4, 0, none⟩) (by simp only; omega)]; exact h.mx
  sg := fun i l hl => by rw [hb.cell (p := ⟨0, i, none⟩) (by simp only; omega)]; exact h.sg i l hl
theorem Env.next {w w' : World} (h : Env w) (hb : Below w.heap.size w w') : Env w' := h.below hb h.lo

theorem itoa_calls (n : Int) (hn : isInt n) (w : World) (hE : Env w) :
    Calls Tryd.prog 47 #[.int .i64 n] w fun e w' => e = .returned (.string (bs (Lib.itoa n))) ∧ Below w.heap.size w w' := by
  refine (Tryd.strconv_Itoa n hn.1 hn.2 w hE.tab).mono ?_
  rintro e w' ⟨rfl, k, os, rfl⟩
  exact ⟨rfl, Lib.below_grow _ _ (Nat.le_refl _) _ _⟩

theorem cells_bs (l : List UInt8) : Lib.strCells (bs l) = Lib.byteCells l := by
  unfold bs Lib.strCells Lib.byteCells; simp
theorem byteCells_append (a b : List UInt8) : Lib.byteCells a ++ Lib.byteCells b = Lib.byteCells (a ++ b) := by
  unfold Lib.byteCells; simp
theorem byteCells_length (a : List UInt8) : (Lib.byteCells a).length = a.length := by
  unfold Lib.byteCells; simp

theorem owns_next {w w' : World} {B : Nat} {e : TypeId} {size : Nat} {v : Value} {n : Nat} {xs : List Value} (h : w.ownsRow B e size v n xs) (hb : Below w.heap.size w w') : w'.ownsRow B e size v n xs := by
  obtain ⟨hl, h0 | ⟨g, cap, cur, hv, hg, hh, r⟩⟩ := h
  · exact ⟨hl, .inl h0⟩
  · have hlt : g < w.heap.size := by
      rcases Nat.lt_or_ge g w.heap.size with h' | h'
      · exact h'
      · simp [Array.getElem?_eq_none h'] at hh
    exact ⟨hl, .inr ⟨g, cap, cur, hv, hg, by rw [hb.block g hlt]; exact hh, r⟩⟩
theorem builderAt_next {w w' : World} {B b : Nat} {p : Value} {l : List Value} (h : Lib.BuilderAt 49 5 B b p l w) (hb : Below w.heap.size w w') : Lib.BuilderAt 49 5 B b p l w' := by
  have hlt := h.lt
  obtain ⟨hB, v, hh, ho, hn⟩ := h
  exact ⟨hB, v, by rw [hb.block b hlt]; exact hh, owns_next ho hb, hn⟩
theorem builder_next {w w' : World} {B b : Nat} {l : List Value} (h : Lib.IsBuilder 49 5 B b l w) (hb : Below w.heap.size w w') : Lib.IsBuilder 49 5 B b l w' := by
  rcases h with h | h
  · exact .inl (builderAt_next h hb)
  · exact .inr (builderAt_next h hb)

/-- A Builder in a block of its own that holds these bytes. -/
def Bl (B : Nat) (l : List UInt8) (w : World) : Prop := Lib.IsBuilder 49 5 B B (Lib.byteCells l) w
theorem Bl.next {w w' : World} {B : Nat} {l : List UInt8} (h : Bl B l w) (hb : Below w.heap.size w w') : Bl B l w' := builder_next h hb
theorem Bl.fresh (w : World) : Bl w.heap.size [] (w.alloc (.cells #[.pointer none, .slice none 0 0] 49)) := Lib.fresh_isBuilder 49 5 w
theorem bl_byte (B : Nat) (l : List UInt8) (c : UInt8) (w : World) (h : Bl B l w) (hl : l.length + 1 ≤ 140737488355328) (hB : B ≤ w.heap.size) :
    Calls Tryd.prog 36 #[.pointer (some ⟨B, 0, none⟩), .int .u8 (c.toNat : Int)] w fun e w' => e = .returned .nilIface ∧ Bl B (l ++ [c]) w' ∧ Below B w w' := by
  refine (writeByte B B _ (c.toNat : Int) w h (by rw [byteCells_length]; exact hl) hB).mono ?_
  rintro e w' ⟨rfl, h1, h2⟩
  refine ⟨rfl, .inr ?_, h2⟩
  rw [← byteCells_append]; exact h1
theorem bl_string (B : Nat) (l s : List UInt8) (w : World) (h : Bl B l w) (hl : l.length + s.length ≤ 140737488355328) (hB : B ≤ w.heap.size) :
    Calls Tryd.prog 37 #[.pointer (some ⟨B, 0, none⟩), .string (bs s)] w fun e w' => e = .returned (.tuple #[.int .i64 (bs s).size, .nilIface]) ∧ Bl B (l ++ s) w' ∧ Below B w w' := by
  refine (writeString B B _ (bs s) w h (by rw [byteCells_length, bs_size]; exact hl) hB).mono ?_
  rintro e w' ⟨rfl, h1, h2⟩
  refine ⟨rfl, .inr ?_, h2⟩
  rw [← byteCells_append, ← cells_bs s]; exact h1
theorem bl_end (B : Nat) (l : List UInt8) (w : World) (h : Bl B l w) (hB : B ≤ w.heap.size) :
    Calls Tryd.prog 38 #[.pointer (some ⟨B, 0, none⟩)] w fun e w' => e = .returned (.string (bs l)) ∧ Below B w w' := Tryd.Builder_String_any B B l w h hB

/-! ### only one block turns -/
theorem only_refl (w : World) (b : Nat) : w.grownBy w (some b) := ⟨rfl, rfl, rfl, Nat.le_refl _, fun _ _ _ => rfl⟩
theorem only_trans {a b c : World} {g : Nat} (h : a.grownBy b (some g)) (k : b.grownBy c (some g)) : a.grownBy c (some g) :=
  ⟨k.os.trans h.os, k.tape.trans h.tape, k.output.trans h.output, Nat.le_trans h.size k.size, fun i hi hn => (k.block i (Nat.lt_of_lt_of_le hi h.size) hn).trans (h.block i hi hn)⟩
theorem only_drew {a w : World} {row : Option Nat} (h : a.grownBy w row) : a.grownBy w.drew row := ⟨h.os, h.tape, h.output, h.size, h.block⟩
theorem only_alloc {a w : World} {row : Option Nat} (h : a.grownBy w row) (o : Obj) : a.grownBy (w.alloc o) row :=
  ⟨h.os, h.tape, h.output, Nat.le_trans h.size (by simp), fun i hi hne => (Below.heap_alloc w o i (Nat.lt_of_lt_of_le hi h.size)).trans (h.block i hi hne)⟩
theorem only_setCell {a w : World} {g : Nat} (h : a.grownBy w (some g)) {p : Addr} (hp : p.block = g ∨ a.heap.size ≤ p.block) (u : Value) : a.grownBy (w.setCell p u) (some g) :=
  ⟨h.os, h.tape, h.output, by simpa [World.setCell] using h.size, fun i hi hne => (Below.heap_setCell w p u i (by
    rintro rfl
    rcases hp with hp | hp
    · exact hne (by rw [hp])
    · omega)).trans (h.block i hi hne)⟩
theorem only_below {a w w' : World} {g : Nat} (h : a.grownBy w (some g)) (hb : Below w.heap.size w w') : a.grownBy w' (some g) :=
  ⟨hb.os.trans h.os, hb.tape.trans h.tape, hb.output.trans h.output, Nat.le_trans h.size hb.size, fun i hi hn => (hb.block i (Nat.lt_of_lt_of_le hi h.size)).trans (h.block i hi hn)⟩
theorem bs_drop (l : List UInt8) (i : Nat) : (bs l).extract i (bs l).size = bs (l.drop i) := by
  rw [Lib.extract_eq, bs_data, bs_size, ← List.length_drop, List.take_length]; rfl
theorem bs_take (l : List UInt8) (i : Nat) : (bs l).extract 0 i = bs (l.take i) := by
  rw [Lib.extract_eq, bs_data]; rfl

theorem bs_ne_iff (a b : List UInt8) : ((bs a).toList == (bs b).toList) = decide (a = b) := by
  rw [Lib.toList_data, Lib.toList_data, bs_data, bs_data]
  by_cases h : a = b
  · simp [h]
  · simp [h]

theorem ret_pair {a b : Int} {x y : Bool} (h : a = b) (k : x = y) : Ending.returned (.tuple #[.int .i64 a, .bool x]) = .returned (.tuple #[.int .i64 b, .bool y]) := by rw [h, k]

set_option maxHeartbeats 400000 in
set_option maxRecDepth 100000 in
theorem canonical_ok (l : List UInt8) (hl : l.length ≤ 4294967296) (v : Int) (h : Lib.atoiAll l = .ok v) (w : World) (hE : Env w) :
    Calls Tryd.prog 26 #[.string (bs l)] w fun e w' => e = .returned (.tuple #[.int .i64 ((canon l).getD 0), .bool (canon l).isSome]) ∧ Below w.heap.size w w' := by
  have hv := atoiAll_int h
  have hcan : canon l = if Lib.itoa v = l then some v else none := by unfold canon; rw [h]
  have hq : ((bs (Lib.itoa v)).toList == (bs l).toList) = decide (Lib.itoa v = l) := bs_ne_iff _ _
  by_cases he : Lib.itoa v = l
  · rw [if_pos he] at hcan
    rw [decide_eq_true he] at hq
    have H := Lib.hid hcan
    clear hcan he
    go_enter Tryd.func26, Tryd.ntmps26
    go_wp2_with fail
    refine (Any.strconv_Atoi_ok Tryd.laysC172 (bs l) (by rw [bs_size]; omega) v (by rw [bs_data]; exact h) w).mono ?_
    rintro e w1 ⟨rfl, hw⟩
    have hb1 : Below w.heap.size w w1 := by
      rcases hw with rfl | ⟨t, rfl⟩
      · exact Below.refl _ _
      · exact Lib.bytesWorld_below _ _ _
    clear hw h
    go_wp2_with fail
    refine (itoa_calls v hv _ (hE.next hb1)).mono ?_
    rintro e w2 ⟨rfl, hb2⟩
    have hb02 := hb1.trans (hb2.mono hb1.size)
    go_wp2
    go_ret2
    exact ⟨ret_pair (by rw [H.out]; rfl) (by rw [H.out]; rfl), hb02⟩
  · rw [if_neg he] at hcan
    rw [decide_eq_false he] at hq
    have H := Lib.hid hcan
    clear hcan he
    go_enter Tryd.func26, Tryd.ntmps26
    go_wp2_with fail
    refine (Any.strconv_Atoi_ok Tryd.laysC172 (bs l) (by rw [bs_size]; omega) v (by rw [bs_data]; exact h) w).mono ?_
    rintro e w1 ⟨rfl, hw⟩
    have hb1 : Below w.heap.size w w1 := by
      rcases hw with rfl | ⟨t, rfl⟩
      · exact Below.refl _ _
      · exact Lib.bytesWorld_below _ _ _
    clear hw h
    go_wp2_with fail
    refine (itoa_calls v hv _ (hE.next hb1)).mono ?_
    rintro e w2 ⟨rfl, hb2⟩
    have hb02 := hb1.trans (hb2.mono hb1.size)
    go_wp2
    go_ret2
    exact ⟨ret_pair (by rw [H.out]; rfl) (by rw [H.out]; rfl), hb02⟩

set_option maxHeartbeats 400000 in
set_option maxRecDepth 100000 in
theorem canonical_err (l : List UInt8) (v : Int) (hcan : canon l = none) (w : World)
    (hA : Calls Tryd.prog 46 #[.string (bs l)] w fun e w' => (∃ N, e = .returned (.tuple #[.int .i64 v, .iface 72 (.pointer (some ⟨N, 0, none⟩))])) ∧ Below w.heap.size w w') :
    Calls Tryd.prog 26 #[.string (bs l)] w fun e w' => e = .returned (.tuple #[.int .i64 ((canon l).getD 0), .bool (canon l).isSome]) ∧ Below w.heap.size w w' := by
  have H := Lib.hid hcan
  have HA := Lib.hid hA
  clear hcan hA
  go_enter Tryd.func26, Tryd.ntmps26
  go_wp2_with fail
  refine HA.out.mono ?_
  rintro e w1 ⟨⟨N, rfl⟩, hb1⟩
  go_wp2
  go_ret2
  exact ⟨ret_pair (by rw [H.out]; rfl) (by rw [H.out]; rfl), hb1⟩
theorem canonical (l : List UInt8) (hl : l.length ≤ 4294967296) (w : World) (hE : Env w) :
    Calls Tryd.prog 26 #[.string (bs l)] w fun e w' => e = .returned (.tuple #[.int .i64 ((canon l).getD 0), .bool (canon l).isSome]) ∧ Below w.heap.size w w' := by
  have hS := hE.eS
  have hR := hE.eR
  have hz : (bs l).size ≤ 281474976710656 := by rw [bs_size]; omega
  cases h : Lib.atoiAll l
  case ok v => exact canonical_ok l hl v h w hE
  · refine canonical_err l 0 (by unfold canon; rw [h]) w ?_
    obtain ⟨te, pe, hc⟩ := hS
    refine (Any.strconv_Atoi_syntax Tryd.laysC172 (bs l) hz (by rw [bs_data]; exact h) (.iface te pe) w hc (Or.inr ⟨te, pe, rfl⟩)).mono ?_
    rintro e w' ⟨N, rfl, _, _, hb⟩
    exact ⟨⟨N, rfl⟩, hb⟩
  · refine canonical_err l (Lib.atoiSat l) (by unfold canon; rw [h]) w ?_
    obtain ⟨te, pe, hc⟩ := hR
    refine (Any.strconv_Atoi_range Tryd.laysC172 (bs l) hz (by rw [bs_data]; exact h) (.iface te pe) w hc (Or.inr ⟨te, pe, rfl⟩)).mono ?_
    rintro e w' ⟨N, rfl, _, _, hb⟩
    refine ⟨⟨N, ?_⟩, hb⟩
    rw [bs_data]
    rfl

end Go.Proofs.YtadfdgdpalnnfaaDoor
