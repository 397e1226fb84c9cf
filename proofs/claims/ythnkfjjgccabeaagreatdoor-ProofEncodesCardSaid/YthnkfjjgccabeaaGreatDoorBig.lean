/- A Builder of one's own; numbers written with the greatest byte first. -/
import Derived.Test.YthnkfjjgccabeaaGreatDoorBuild
namespace Go.Proofs.YthnkfjjgccabeaaGreatDoor
open Go.RowKit

theorem byteCells_append (a b : List UInt8) : Lib.byteCells a ++ Lib.byteCells b = Lib.byteCells (a ++ b) := by
  unfold Lib.byteCells; simp
theorem byteCells_length (a : List UInt8) : (Lib.byteCells a).length = a.length := by
  unfold Lib.byteCells; simp
theorem owns_next {w w' : World} {B : Nat} {e : TypeId} {size : Nat} {v : Value} {n : Nat} {xs : List Value} (h : w.ownsRow B e size v n xs) (hb : Below w.heap.size w w') : w'.ownsRow B e size v n xs := by
  obtain ⟨hl, h0 | ⟨g, cap, cur, hv, hg, hh, r⟩⟩ := h
  · exact ⟨hl, .inl h0⟩
  · have hlt : g < w.heap.size := by
      rcases Nat.lt_or_ge g w.heap.size with h' | h'
      · exact h'
      · simp [Array.getElem?_eq_none h'] at hh
    exact ⟨hl, .inr ⟨g, cap, cur, hv, hg, by rw [hb.block g hlt]; exact hh, r⟩⟩
theorem builderAt_next {w w' : World} {B b : Nat} {p : Value} {l : List Value} (h : Lib.BuilderAt 125 5 B b p l w) (hb : Below w.heap.size w w') : Lib.BuilderAt 125 5 B b p l w' := by
  have hlt := h.lt
  obtain ⟨hB, v, hh, ho, hn⟩ := h
  exact ⟨hB, v, by rw [hb.block b hlt]; exact hh, owns_next ho hb, hn⟩
theorem builder_next {w w' : World} {B b : Nat} {l : List Value} (h : Lib.IsBuilder 125 5 B b l w) (hb : Below w.heap.size w w') : Lib.IsBuilder 125 5 B b l w' := by
  rcases h with h | h
  · exact .inl (builderAt_next h hb)
  · exact .inr (builderAt_next h hb)

/-- A Builder in a block of its own that holds these bytes. -/
def Bl (B : Nat) (l : List UInt8) (w : World) : Prop := Lib.IsBuilder 125 5 B B (Lib.byteCells l) w
theorem Bl.next {w w' : World} {B : Nat} {l : List UInt8} (h : Bl B l w) (hb : Below w.heap.size w w') : Bl B l w' := builder_next h hb
theorem Bl.fresh (w : World) : Bl w.heap.size [] (w.alloc (.cells #[.pointer none, .slice none 0 0] 125)) := Lib.fresh_isBuilder 125 5 w
theorem bl_byte (B : Nat) (l : List UInt8) (c : UInt8) (w : World) (h : Bl B l w) (hl : l.length + 1 ≤ 140737488355328) (hB : B ≤ w.heap.size) :
    Calls Tryz.prog 78 #[.pointer (some ⟨B, 0, none⟩), .int .u8 (c.toNat : Int)] w fun e w' => e = .returned .nilIface ∧ Bl B (l ++ [c]) w' ∧ Below B w w' := by
  refine (writeByte B B _ (c.toNat : Int) w h (by rw [byteCells_length]; exact hl) hB).mono ?_
  rintro e w' ⟨rfl, h1, h2⟩
  refine ⟨rfl, .inr ?_, h2⟩
  rw [← byteCells_append]; exact h1
theorem bl_end (B : Nat) (l : List UInt8) (w : World) (h : Bl B l w) (hB : B ≤ w.heap.size) :
    Calls Tryz.prog 79 #[.pointer (some ⟨B, 0, none⟩)] w fun e w' => e = .returned (.string (bs l)) ∧ Below B w w' := Tryz.Builder_String_any B B l w h hB
theorem bl_len (B : Nat) (l : List UInt8) (w : World) (h : Bl B l w) :
    Calls Tryz.prog 109 #[.pointer (some ⟨B, 0, none⟩)] w fun e w' => e = .returned (.int .i64 (l.length : Int)) ∧ w' = w := by
  have := Tryz.Builder_Len B B _ w h
  rw [byteCells_length] at this
  exact this
theorem big_byte (v k : Nat) : IntKind.u8.wrap ((v : Int) / 2 ^ (8 * k)) = ((UInt8.ofNat (v / 256 ^ k)).toNat : Int) := by
  have e : (256 : Nat) ^ k = 2 ^ (8 * k) := by rw [Nat.pow_mul]
  rw [UInt8.toNat_ofNat', e, IntKind.wrap_u8']
  have e2 : (v : Int) / 2 ^ (8 * k) = ((v / 2 ^ (8 * k) : Nat) : Int) := by simp
  rw [e2]; omega

set_option maxHeartbeats 1000000 in
theorem big_calls (B : Nat) (l : List UInt8) (v n : Nat) (_ : v < 18446744073709551616) (hn : n ≤ 8) (hl : l.length ≤ 1000000000) (w : World) (h : Bl B l w) (hB : B ≤ w.heap.size) :
    Calls Tryz.prog 100 #[.pointer (some ⟨B, 0, none⟩), .int .u64 (v : Int), .int .i64 (n : Int)] w fun e w' => e = .returned (.tuple #[]) ∧ Bl B (l ++ bigE v n) w' ∧ Below B w w' := by
  go_enter Tryz.func100, Tryz.ntmps100
  go_wp2
  go_loopw [6] (fun i wr => ∃ (m : Nat) (a : List UInt8), m ≤ n ∧ i = .int .i64 ((m : Int) - 1) ∧ a ++ bigE v m = l ++ bigE v n ∧ a.length + m ≤ l.length + n ∧ Bl B a wr ∧ Below B w wr) (fun i _ => (intOf i + 1).toNat)
  case atStart => exact ⟨n, l, Nat.le_refl _, rfl, rfl, by omega, h, Below.refl _ _⟩
  case round =>
    obtain ⟨m, a, hm, rfl, ha, hal, hbl, hbw⟩ := hrel
    have HA := Lib.hid ha
    clear ha
    by_cases h0 : 0 < m
    · obtain ⟨k, hk⟩ : ∃ k, k = m - 1 := ⟨_, rfl⟩
      have e1 : (m : Int) - 1 = (k : Int) := by omega
      have hb := big_byte v k
      have HE : Hid (bigE v m = UInt8.ofNat (v / 256 ^ k) :: bigE v k) := by
        show bigE v m = _
        rw [show m = k + 1 by omega, bigE]
      generalize UInt8.ofNat (v / 256 ^ k) = c at *
      have hk8 : k ≤ 7 := by omega
      have hkm : k < m := by omega
      have c1 := fun w h1 h2 => Lib.hid (bl_byte B a c w h1 (by omega) h2)
      have hBr := Nat.le_trans hB hbw.size
      have HK := Lib.hid hk
      clear hk
      go_wp2_with fail
      refine (c1 wr hbl hBr).out.mono ?_
      rintro e w1 ⟨rfl, hbl1, hb1⟩
      go_wp2
      go_roundw
      case rel =>
        refine ⟨k, a ++ [c], by omega, ?_, ?_, by simp; omega, hbl1, hbw.trans hb1⟩
        · rfl
        · rw [List.append_assoc, List.singleton_append, ← HE.out, HA.out]
      case measure => simp only [intOf]; omega
    · obtain rfl : m = 0 := by omega
      have HA' := HA.out
      rw [bigE, List.append_nil] at HA'
      clear HA
      go_wp2
      go_end0
      exact ⟨rfl, by rw [← HA']; exact hbl, hbw⟩
end Go.Proofs.YthnkfjjgccabeaaGreatDoor
