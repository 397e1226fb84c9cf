/- SameTokens on equal lists; cut. -/
import Derived.Test.YtadfdgdpalnnfaaDoorPrint
namespace Go.Proofs.YtadfdgdpalnnfaaDoor
open Go.RowKit

set_option maxRecDepth 100000 in
theorem cut_calls (l : List UInt8) (hl : l.length ≤ 9223372036854775807) (w : World) :
    Calls Tryd.prog 9 #[.string (bs l)] w fun e w' => e = .returned (.string (bs (l.take 900))) ∧ w = w' := by
  have hz := bs_size l
  by_cases h : l.length ≤ 900
  · have hI : (((bs l).size : Nat) : Int) ≤ 900 := by omega
    have hx : (bs l).extract 0 (bs l).size = bs (l.take 900) := by rw [bs_take, hz, List.take_of_length_le (Nat.le_refl _), List.take_of_length_le h]
    have hm : min (((bs l).size : Nat) : Int) 900 = ((bs l).size : Int) := by omega
    clear hz
    go_enter Tryd.func9, Tryd.ntmps9
    go_wp2
    go_ret
    exact ⟨by simp, rfl⟩
  · have hI : (900 : Int) < (((bs l).size : Nat) : Int) := by omega
    have hx : (bs l).extract 0 900 = bs (l.take 900) := bs_take _ _
    have hm : min (((bs l).size : Nat) : Int) 900 = 900 := by omega
    have h9 : 900 ≤ (bs l).size := by omega
    clear hz
    go_enter Tryd.func9, Tryd.ntmps9
    go_wp2
    go_ret
    exact ⟨by simp, rfl⟩

def Qpost (v : Value) (w : World) (e : Ending) (w' : World) : Prop := e = .returned v ∧ ∃ n, w' = w.drewN n

set_option maxHeartbeats 1000000 in
set_option maxRecDepth 100000 in
theorem sameTokens_eq (u v : Value) (xs : List Tk) (w : World) (hu : IsToks u xs w) (hv : IsToks v xs w) (hn : xs.length ≤ 4294967297) :
    Calls Tryd.prog 16 #[u, v] w (Qpost (.bool true) w) := by
  obtain ⟨a, c, rfl⟩ := hu.len
  obtain ⟨b, d, rfl⟩ := hv.len
  have hb : ((xs.length : Int) != (xs.length : Int)) = false := by simp
  go_enter Tryd.func16, Tryd.ntmps16
  go_wp2
  go_loopw [5] (fun i wr => ∃ k : Nat, k ≤ xs.length ∧ i = .int .i64 k ∧ ∃ n, wr = w.drewN n) (fun i _ => xs.length - (intOf i).toNat)
  case atStart => exact ⟨0, Nat.zero_le _, rfl, 0, rfl⟩
  case round =>
    obtain ⟨k, hk, rfl, n, rfl⟩ := hrel
    by_cases hlt : k < xs.length
    · obtain ⟨b1, o1, rfl, hb1, hc1⟩ := hu.at k hlt
      obtain ⟨b2, o2, rfl, hb2, hc2⟩ := hv.at k hlt
      obtain ⟨p0, p1, p2, p3⟩ := hc1
      obtain ⟨q0, q1, q2, q3⟩ := hc2
      clear hu hv
      have hlI : (k : Int) < (xs.length : Int) := by omega
      generalize xs[k] = t at *
      obtain ⟨tk, tt, tn, tp⟩ := t
      simp only at p0 p1 p2 p3 q0 q1 q2 q3
      go_wp2
      go_quiet (fail)
      go_wp2
      go_roundw
      case rel => exact ⟨k + 1, by omega, by go_num, _, rfl⟩
      case measure => simp [intOf]; omega
    · go_wp2
      go_ret
      exact ⟨rfl, n, rfl⟩
end Go.Proofs.YtadfdgdpalnnfaaDoor
