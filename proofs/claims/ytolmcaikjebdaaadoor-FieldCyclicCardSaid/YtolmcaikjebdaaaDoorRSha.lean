/- The reference's SHA-256: words turned, the constants. -/
import Derived.Test.YtolmcaikjebdaaaDoorHash
import Derived.Test.YtolmcaikjebdaaaDoorRef
import Derived.Maps.AppendAt
namespace Go.Proofs.YtolmcaikjebdaaaDoor
open Go.RowKit

theorem rturn_calls (x : BitVec 32) (k : Nat) (_ : 1 ≤ k) (h2 : k ≤ 31) (w : World) :
    Calls Tryd.prog 74 #[.int .u32 (uv x), .int .i64 (k : Int)] w (Ret (.int .u32 (uv (rotr x k))) w) := by
  obtain ⟨m, hm⟩ : ∃ m, m = 32 - k := ⟨_, rfl⟩
  have e0 : (32 : Int) - (k : Int) = (m : Int) := by omega
  have e1 := uv_shl x m
  have e2 := uv_shr x k
  have e3 := uv_or (x >>> k) (x <<< m)
  have HR : Hid (x >>> k ||| x <<< m = rotr x k) := by
    show x >>> k ||| x <<< m = rotr x k
    unfold rotr; rw [hm, BitVec.or_comm]
  clear hm
  go_enter Tryd.func74, Tryd.ntmps74
  go_wp2
  go_region
  all_goals
    go_wp2
    go_ret
    exact ⟨ret_i (by rw [HR.out]), _, rfl⟩
def firstV : Array Value := #[.int .u32 0x6a09e667, .int .u32 0xbb67ae85, .int .u32 0x3c6ef372, .int .u32 0xa54ff53a, .int .u32 0x510e527f, .int .u32 0x9b05688c, .int .u32 0x1f83d9ab, .int .u32 0x5be0cd19]
/-- Words as cells. -/
def wcs (W : List (BitVec 32)) : List Value := W.map fun x => Value.int .u32 (uv x)
theorem firstV_is : firstV = (wcs (h8L firstB)).toArray := by kernel_rfl
theorem rfirsts_calls (w : World) : Calls Tryd.prog 63 #[] w fun e w' => e = .returned (.slice (some ⟨w.heap.size, 0, none⟩) 8 8) ∧ w' = w.alloc (.cells (wcs (h8L firstB)).toArray 55) := by
  rw [← firstV_is]
  go_enter Tryd.func63, Tryd.ntmps63
  go_wp2
  go_ret
  exact ⟨rfl, rfl⟩
set_option maxRecDepth 100000 in
theorem radds_calls (w : World) : Calls Tryd.prog 73 #[] w fun e w' => e = .returned (.slice (some ⟨w.heap.size, 0, none⟩) 64 64) ∧ w' = w.alloc (.cells (wcs constsB).toArray 55) := by
  have hA : ∃ A : Array Value, A = (wcs constsB).toArray := ⟨_, rfl⟩
  obtain ⟨A, hA⟩ := hA
  rw [← hA]
  have HA := Lib.hid hA
  clear hA
  go_enter Tryd.func73, Tryd.ntmps73
  go_wp2
  go_ret
  refine ⟨rfl, ?_⟩
  rw [HA.out]
  rfl
end Go.Proofs.YtolmcaikjebdaaaDoor
