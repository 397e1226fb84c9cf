/- Words of 32 bits, and turning them. -/
import Derived.Test.YthnkfjjgccabeaaGreatDoorPrime2
namespace Go.Proofs.YthnkfjjgccabeaaGreatDoor
open Go.RowKit

/-- A word as the number that a uint32 holds. -/
def uv (x : BitVec 32) : Int := (x.toNat : Int)
theorem uv_lt (x : BitVec 32) : 0 ≤ uv x ∧ uv x < 4294967296 := by unfold uv; have := x.isLt; omega
theorem uv_xor (x y : BitVec 32) : bits .xor .u32 (uv x) (uv y) = uv (x ^^^ y) := by
  unfold uv; rw [u32_xor_nat _ _ x.isLt y.isLt, BitVec.toNat_xor]
theorem uv_and (x y : BitVec 32) : bits .and .u32 (uv x) (uv y) = uv (x &&& y) := by
  unfold uv; rw [u32_and_nat _ _ x.isLt y.isLt, BitVec.toNat_and]
theorem uv_or (x y : BitVec 32) : bits .or .u32 (uv x) (uv y) = uv (x ||| y) := by
  unfold uv; rw [u32_or_nat _ _ x.isLt y.isLt, BitVec.toNat_or]
theorem uv_add (x y : BitVec 32) : IntKind.u32.wrap (uv x + uv y) = uv (x + y) := by
  unfold uv; rw [IntKind.wrap_u32', BitVec.toNat_add]; omega
theorem uv_shl (x : BitVec 32) (k : Nat) : IntKind.u32.wrap (uv x * 2 ^ k) = uv (x <<< k) := by
  unfold uv
  rw [IntKind.wrap_u32', BitVec.toNat_shiftLeft, Nat.shiftLeft_eq]
  rw [show ((x.toNat : Int) * 2 ^ k) = ((x.toNat * 2 ^ k : Nat) : Int) by simp]
  rw [show (4294967296 : Int) = ((2 ^ 32 : Nat) : Int) by decide, ← Int.natCast_emod]
theorem uv_shr (x : BitVec 32) (k : Nat) : uv x / 2 ^ k = uv (x >>> k) := by
  unfold uv
  rw [BitVec.toNat_ushiftRight, Nat.shiftRight_eq_div_pow]; simp
theorem uv_lit (n : Nat) (h : n < 4294967296) : (n : Int) = uv (BitVec.ofNat 32 n) := by
  unfold uv; rw [BitVec.toNat_ofNat, Nat.mod_eq_of_lt h]
theorem neg_and31 (k : Nat) (h1 : 1 ≤ k) (h2 : k ≤ 31) : bits .and .u64 (IntKind.u64.wrap (-(k : Int))) 31 = ((32 - k : Nat) : Int) := by
  have e : IntKind.u64.wrap (-(k : Int)) = ((18446744073709551616 - k : Nat) : Int) := by rw [IntKind.wrap_u64]; omega
  rw [e]
  have h := bits_and_u64_nat (18446744073709551616 - k) 31 (by omega) (by omega)
  have h3 : (18446744073709551616 - k) &&& 31 = (18446744073709551616 - k) % 32 := Nat.and_two_pow_sub_one_eq_mod _ 5
  rw [h3] at h
  exact h.trans (by congr 1; omega)
theorem rotl_calls (x : BitVec 32) (k : Nat) (h1 : 1 ≤ k) (h2 : k ≤ 31) (w : World) :
    Calls Tryz.prog 127 #[.int .u32 (uv x), .int .i64 (-(k : Int))] w fun e w' => e = .returned (.int .u32 (uv (rotr x k))) ∧ w = w' := by
  have e1 := neg_and31 k h1 h2
  have e2 := uv_shl x (32 - k)
  have e3 : uv x / 2 ^ (32 - (32 - k)) = uv (x >>> k) := by rw [show 32 - (32 - k) = k by omega]; exact uv_shr x k
  have e4 := uv_or (x <<< (32 - k)) (x >>> k)
  have HR : Hid (x <<< (32 - k) ||| x >>> k = rotr x k) := rfl
  go_enter Tryz.func127, Tryz.ntmps127
  go_wp2
  go_ret
  exact ⟨ret_i (by rw [← HR.out]), rfl⟩
/-- The program turns words so. -/
theorem turn_calls (x : BitVec 32) (k : Nat) (h1 : 1 ≤ k) (h2 : k ≤ 31) (w : World) :
    Calls Tryz.prog 117 #[.int .u32 (uv x), .int .i64 (k : Int)] w fun e w' => e = .returned (.int .u32 (uv (rotr x k))) ∧ w = w' := by
  have c := fun w => Lib.hid (rotl_calls x k h1 h2 w)
  have e1 : IntKind.i64.wrap (-(k : Int)) = -(k : Int) := by simp only [IntKind.wrap, IntKind.bits, IntKind.signed]; simp; omega
  go_enter Tryz.func117, Tryz.ntmps117
  go_wp2_with fail
  refine (c _).out.mono ?_
  rintro e w' ⟨rfl, rfl⟩
  go_wp2
  go_ret
  exact ⟨rfl, rfl⟩
theorem turn_lit (x : BitVec 32) (k : Nat) (n : Int) (hn : n = (k : Int)) (h1 : 1 ≤ k) (h2 : k ≤ 31) (w : World) :
    Calls Tryz.prog 117 #[.int .u32 (uv x), .int .i64 n] w fun e w' => e = .returned (.int .u32 (uv (rotr x k))) ∧ w = w' := by
  rw [hn]; exact turn_calls x k h1 h2 w
end Go.Proofs.YthnkfjjgccabeaaGreatDoor
