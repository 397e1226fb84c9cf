/- The padding of a message. -/
import Derived.Test.YthnkfjjgccabeaaGreatDoorBig
namespace Go.Proofs.YthnkfjjgccabeaaGreatDoor
open Go.RowKit

def zerosB (n : Nat) : Nat := (55 + 64 - n % 64) % 64
theorem zeros_lt (n : Nat) : zerosB n < 64 := Nat.mod_lt _ (by omega)
theorem zeros_go (n k : Nat) (h : k < zerosB n) : ¬ (n + (k + 1)) % 64 = 56 := by unfold zerosB at h; omega
theorem zeros_end (n : Nat) : (n + (zerosB n + 1)) % 64 = 56 := by unfold zerosB; omega
theorem rep_snoc (k : Nat) : (128 : UInt8) :: List.replicate k 0 ++ [0] = 128 :: List.replicate (k + 1) 0 := by
  rw [List.cons_append, List.replicate_succ', ]
theorem first_byte (B : Nat) (w : World) (h : Bl B [] w) (hB : B ≤ w.heap.size) :
    Calls Tryz.prog 78 #[.pointer (some ⟨B, 0, none⟩), .int .u8 128] w fun e w' => e = .returned .nilIface ∧ Bl B [128] w' ∧ Below B w w' := bl_byte B [] 128 w h (by simp) hB
theorem zero_byte (B k : Nat) (hk : k ≤ 64) (w : World) (h : Bl B (128 :: List.replicate k 0) w) (hB : B ≤ w.heap.size) :
    Calls Tryz.prog 78 #[.pointer (some ⟨B, 0, none⟩), .int .u8 0] w fun e w' => e = .returned .nilIface ∧ Bl B (128 :: List.replicate (k + 1) 0) w' ∧ Below B w w' := by
  rw [← rep_snoc]
  exact bl_byte B (128 :: List.replicate k 0) 0 w h (by simp; omega) hB
theorem rep_len (B k : Nat) (w : World) (h : Bl B (128 :: List.replicate k 0) w) :
    Calls Tryz.prog 109 #[.pointer (some ⟨B, 0, none⟩)] w fun e w' => e = .returned (.int .i64 ((k + 1 : Nat) : Int)) ∧ w' = w := by
  have := bl_len B _ w h
  rwa [List.length_cons, List.length_replicate] at this

/-- How many bytes a Builder's buffer holds. -/
def heldAt (w : World) (B : Nat) : Nat :=
  match w.heap[B]? with
  | some (.cells cs _ _) => match (show Option Value from cs[1]?) with
    | some (Value.slice _ n _) => n
    | _ => 0
  | _ => 0
theorem Bl.held {B : Nat} {l : List UInt8} {w : World} (h : Bl B l w) : heldAt w B = l.length := by
  have hx : ∀ p, Lib.BuilderAt 125 5 B B p (Lib.byteCells l) w → heldAt w B = l.length := by
    rintro p ⟨_, v, hh, ⟨_, ho⟩, _⟩
    rw [byteCells_length] at ho
    unfold heldAt
    rw [hh]
    rcases ho with ⟨rfl, h0⟩ | ⟨g, cap, cur, rfl, _⟩
    · simp [h0]
    · simp
  rcases h with h | h
  · exact hx _ h
  · exact hx _ h

set_option maxHeartbeats 1000000 in
theorem pad_calls (n : Nat) (hn : n ≤ 1000000000) (w : World) :
    Calls Tryz.prog 99 #[.int .i64 (n : Int)] w fun e w' => e = .returned (.string (bs (padB n))) ∧ Below w.heap.size w w' := by
  go_enter Tryz.func99, Tryz.ntmps99
  have hF := Bl.fresh w
  have hFb := (Below.refl w.heap.size w).alloc (Nat.le_refl _) (.cells #[.pointer none, .slice none 0 0] 125)
  generalize hB : w.heap.size = B at *
  have hWB : B ≤ (w.alloc (.cells #[.pointer none, .slice none 0 0] 125)).heap.size := by rw [← hB]; simp
  go_wp2_with fail
  generalize (w.alloc (.cells #[.pointer none, .slice none 0 0] 125)) = W0 at *
  refine (first_byte B W0 hF hWB).mono ?_
  rintro e w1 ⟨rfl, hbl1, hb1⟩
  go_wp2_with fail
  have hL := fun k => rep_len B k
  obtain ⟨z, hz⟩ : ∃ z, z = zerosB n := ⟨_, rfl⟩
  have hz64 : z < 64 := by rw [hz]; exact zeros_lt n
  have hgo : Hid (∀ k, k < z → ¬ (n + (k + 1)) % 64 = 56) := by show ∀ k, k < z → ¬ (n + (k + 1)) % 64 = 56; rw [hz]; exact zeros_go n
  have hend : Hid ((n + (z + 1)) % 64 = 56) := by show (n + (z + 1)) % 64 = 56; rw [hz]; exact zeros_end n
  have HZ := Lib.hid hz
  clear hz
  go_loopw [] (fun wr => ∃ k, k ≤ z ∧ Bl B (128 :: List.replicate k 0) wr ∧ Below B W0 wr) (fun wr => 100 - heldAt wr B)
  case atStart => exact ⟨0, Nat.zero_le _, hbl1, hb1⟩
  case round =>
    obtain ⟨k, hk, hbl, hbw⟩ := hrel
    have hc := Lib.hid (rep_len B k wr hbl)
    have hw : IntKind.i64.wrap ((n : Int) + ((k + 1 : Nat) : Int)) = ((n + (k + 1) : Nat) : Int) := by simp only [IntKind.wrap, IntKind.bits, IntKind.signed]; simp; omega
    obtain ⟨m, hm⟩ : ∃ m, m = n + (k + 1) := ⟨_, rfl⟩
    rw [← hm] at hw
    obtain ⟨k1, hk1⟩ : ∃ k1, k1 = k + 1 := ⟨_, rfl⟩
    rw [← hk1] at hw hc
    have hT : Int.tmod (m : Int) 64 = ((m % 64 : Nat) : Int) := by rw [Int.tmod_eq_emod_of_nonneg (by omega)]; omega
    obtain ⟨r, hr⟩ : ∃ r, r = m % 64 := ⟨_, rfl⟩
    rw [← hr] at hT
    by_cases hlt : k < z
    · have hne : ¬ (r : Int) = 56 := by have := hgo.out k hlt; rw [hr, hm]; omega
      have HM := Lib.hid hm
      have HK1 := Lib.hid hk1
      have HR := Lib.hid hr
      clear hm hk1 hr
      go_wp2_with fail
      refine hc.out.mono ?_
      rintro e wl ⟨rfl, rfl⟩
      go_wp2_with fail
      refine (zero_byte B k (by omega) wl hbl (Nat.le_trans hWB hbw.size)).mono ?_
      rintro e w2 ⟨rfl, hbl2, hb2⟩
      go_wp2
      go_roundw
      case rel => exact ⟨k + 1, hlt, hbl2, hbw.trans hb2⟩
      case measure =>
        rw [hbl.held, hbl2.held]
        simp; omega
    · obtain rfl : k = z := by omega
      have he : (r : Int) = 56 := by have := hend.out; rw [hr, hm]; omega
      obtain ⟨v, hv⟩ : ∃ v, v = n * 8 := ⟨_, rfl⟩
      have hv8 : IntKind.u64.wrap (IntKind.u64.wrap (n : Int) * 8) = (v : Int) := by simp only [IntKind.wrap, IntKind.bits, IntKind.signed]; simp; omega
      have hv9 : IntKind.u64.wrap ((n : Int) * 8) = (v : Int) := by simp only [IntKind.wrap, IntKind.bits, IntKind.signed]; simp; omega
      have hvl : v < 18446744073709551616 := by omega
      have HV : Hid (128 :: List.replicate k 0 ++ bigE v 8 = padB n) := by
        show _ = _
        rw [hv, HZ.out]; rfl
      clear hm hk1 hr hv
      go_wp2_with fail
      refine hc.out.mono ?_
      rintro e wl ⟨rfl, rfl⟩
      go_wp2_with fail
      refine (big_calls B (128 :: List.replicate k 0) v 8 hvl (by omega) (by simp; omega) wl hbl (Nat.le_trans hWB hbw.size)).mono ?_
      rintro e w2 ⟨rfl, hbl2, hb2⟩
      go_wp2_with fail
      refine (bl_end B _ w2 hbl2 (Nat.le_trans hWB (hbw.trans hb2).size)).mono ?_
      rintro e w3 ⟨rfl, hb3⟩
      go_wp2_with fail
      go_ret
      refine ⟨?_, ((hFb.trans hbw).trans hb2).trans hb3⟩
      rw [← HV.out]; rfl
end Go.Proofs.YthnkfjjgccabeaaGreatDoor
