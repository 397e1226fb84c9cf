/- The documented examples. -/
import Derived.Test.YtolmcaikjebdaaaDoorMake
import Derived.Test.YtolmcaikjebdaaaDoorHex
namespace Go.Proofs.YtolmcaikjebdaaaDoor
open Go.RowKit

theorem isMod_of (n : Int) (h : 1 ≤ n ∧ n < 2305843009213693952) : isMod n := h
theorem x_inv5 : InvV 12 5 = .tuple #[.int .i64 5, .bool true] := by
  unfold InvV; rw [if_pos (isMod_of 12 (by omega)), show invZ 12 5 = some 5 by decide +kernel]; rfl
theorem x_inv8 : InvV 12 8 = .tuple #[.int .i64 0, .bool false] := by
  unfold InvV; rw [if_pos (isMod_of 12 (by omega)), show invZ 12 8 = none by decide +kernel]
theorem x_make11 : makeV 11 = .tuple #[.agg #[.int .i64 23, .int .i64 11, .int .i64 4], .bool true] := by
  unfold makeV; rw [show mkP 11 = 23 by decide +kernel, if_pos (by decide +kernel)]
theorem x_make13 : makeV 13 = .tuple #[.agg #[.int .i64 0, .int .i64 0, .int .i64 0], .bool false] := by
  unfold makeV; rw [if_neg (by decide +kernel)]
theorem x_add : addZ 11 9 5 = 3 := by decide +kernel
theorem x_sub : subZ 11 9 5 = 4 := by decide +kernel
theorem x_mul : mulZ 11 9 5 = 1 := by decide +kernel
theorem x_pow1 : powZ 11 2 10 = 1 := by decide +kernel
theorem x_pow2 : powZ 11 2 (-1) = 6 := by decide +kernel
theorem x_pow3 : powZ 12 2 (-1) = 0 := by decide +kernel
theorem x_pow4 : powZ 1 0 0 = 0 := by decide +kernel
theorem x_valid : validB 23 11 4 = true := by decide +kernel
theorem x_power1 : gPow 23 11 4 3 = 18 := by decide +kernel
theorem x_power2 : gPow 23 11 4 (-1) = 6 := by decide +kernel
theorem x_over : gOver 23 11 16 18 = 6 := by decide +kernel
theorem x_elem2 : elemB 23 11 4 2 = true := by decide +kernel
theorem x_elem5 : elemB 23 11 4 5 = false := by decide +kernel
def hexAbc : List UInt8 := [98, 97, 55, 56, 49, 54, 98, 102, 56, 102, 48, 49, 99, 102, 101, 97, 52, 49, 52, 49, 52, 48, 100, 101, 53, 100, 97, 101, 50, 50, 50, 51, 98, 48, 48, 51, 54, 49, 97, 51, 57, 54, 49, 55, 55, 97, 57, 99, 98, 52, 49, 48, 102, 102, 54, 49, 102, 50, 48, 48, 49, 53, 97, 100]
theorem x_hex : hexF (shaL [97, 98, 99]) = hexAbc := by rw [sha_abc]; decide +kernel
theorem x_num1 : numZ [97, 98, 99] 256 = 173 := by unfold numZ; rw [sha_abc]; decide +kernel
theorem x_num2 : numZ [97, 98, 99] 65536 = 5549 := by unfold numZ; rw [sha_abc]; decide +kernel

/-- What the examples keep. -/
structure San (w0 : World) (B : Nat) (w : World) : Prop where
  env : Env w
  bel : Below w0.heap.size w0 w
  blk : Blk w B 29 #[.int .i64 23, .int .i64 11, .int .i64 4]
theorem San.next {w0 w w' : World} {B : Nat} (h : San w0 B w) (hb : Below w.heap.size w w') : San w0 B w' := ⟨h.env.next hb, h.bel.trans (hb.mono h.bel.size), h.blk.next hb⟩
theorem San.drewN {w0 w : World} {B : Nat} (h : San w0 B w) (n : Nat) : San w0 B (w.drewN n) := ⟨h.env.drewN n, below_drewN h.bel n, h.blk⟩
theorem San.cells {w0 w : World} {B : Nat} (h : San w0 B w) : w.cell? ⟨B, 0, none⟩ = some (.int .i64 23) ∧ w.cell? ⟨B, 1, none⟩ = some (.int .i64 11) ∧ w.cell? ⟨B, 2, none⟩ = some (.int .i64 4) := ⟨h.blk.cell 0, h.blk.cell 1, h.blk.cell 2⟩
theorem i23 : isInt 23 := by unfold isInt; omega
theorem i11 : isInt 11 := by unfold isInt; omega
theorem i4 : isInt 4 := by unfold isInt; omega
/-- A call that keeps what is below, as the examples see it. -/
theorem San.of {w0 w : World} {B : Nat} {P : Program} {f : FuncId} {args : Array Value} {v : Value} (h : San w0 B w) (hc : Calls P f args w fun e w' => e = .returned v ∧ Below w.heap.size w w') :
    Calls P f args w fun e w' => e = .returned v ∧ San w0 B w' := hc.mono fun _ _ ⟨he, hb⟩ => ⟨he, h.next hb⟩
theorem San.ofRet {w0 w : World} {B : Nat} {P : Program} {f : FuncId} {args : Array Value} {v : Value} (h : San w0 B w) (hc : Calls P f args w (Ret v w)) :
    Calls P f args w fun e w' => e = .returned v ∧ San w0 B w' := hc.mono fun _ _ ⟨he, n, hn⟩ => ⟨he, by rw [hn]; exact h.drewN n⟩
theorem San.ofSame {w0 w : World} {B : Nat} {P : Program} {f : FuncId} {args : Array Value} {v : Value} (h : San w0 B w) (hc : Calls P f args w fun e w' => e = .returned v ∧ w = w') :
    Calls P f args w fun e w' => e = .returned v ∧ San w0 B w' := hc.mono fun _ _ ⟨he, hn⟩ => ⟨he, hn ▸ h⟩
section
variable {w0 w : World} {B : Nat} (h : San w0 B w)
include h
theorem s_make13 : Calls Tryd.prog 23 #[.int .i64 13] w fun e w' => e = .returned (.tuple #[.agg #[.int .i64 0, .int .i64 0, .int .i64 0], .bool false]) ∧ San w0 B w' := by
  have := make_calls 13 (by unfold isInt; omega) w h.env
  rw [x_make13] at this
  exact h.of this
theorem s_add : Calls Tryd.prog 15 #[.int .i64 11, .int .i64 9, .int .i64 5] w fun e w' => e = .returned (.int .i64 3) ∧ San w0 B w' := by
  have := add_calls 11 9 5 (by unfold isInt; omega) (by unfold isInt; omega) w
  rw [x_add] at this
  exact h.ofSame this
theorem s_sub : Calls Tryd.prog 17 #[.int .i64 11, .int .i64 9, .int .i64 5] w fun e w' => e = .returned (.int .i64 4) ∧ San w0 B w' := by
  have := sub_calls 11 9 5 (by unfold isInt; omega) (by unfold isInt; omega) w
  rw [x_sub] at this
  exact h.ofSame this
theorem s_mul : Calls Tryd.prog 19 #[.int .i64 11, .int .i64 9, .int .i64 5] w fun e w' => e = .returned (.int .i64 1) ∧ San w0 B w' := by
  have := mul_calls 11 9 5 (by unfold isInt; omega) (by unfold isInt; omega) w
  rw [x_mul] at this
  exact h.ofRet this
theorem s_pow1 : Calls Tryd.prog 21 #[.int .i64 11, .int .i64 2, .int .i64 10] w fun e w' => e = .returned (.int .i64 1) ∧ San w0 B w' := by
  have := pow_calls 11 2 10 (by unfold isInt; omega) (by unfold isInt; omega) w
  rw [x_pow1] at this
  exact h.ofRet this
theorem s_pow2 : Calls Tryd.prog 21 #[.int .i64 11, .int .i64 2, .int .i64 (-1)] w fun e w' => e = .returned (.int .i64 6) ∧ San w0 B w' := by
  have := pow_calls 11 2 (-1) (by unfold isInt; omega) (by unfold isInt; omega) w
  rw [x_pow2] at this
  exact h.ofRet this
theorem s_pow3 : Calls Tryd.prog 21 #[.int .i64 12, .int .i64 2, .int .i64 (-1)] w fun e w' => e = .returned (.int .i64 0) ∧ San w0 B w' := by
  have := pow_calls 12 2 (-1) (by unfold isInt; omega) (by unfold isInt; omega) w
  rw [x_pow3] at this
  exact h.ofRet this
theorem s_pow4 : Calls Tryd.prog 21 #[.int .i64 1, .int .i64 0, .int .i64 0] w fun e w' => e = .returned (.int .i64 0) ∧ San w0 B w' := by
  have := pow_calls 1 0 0 (by unfold isInt; omega) (by unfold isInt; omega) w
  rw [x_pow4] at this
  exact h.ofRet this
theorem s_valid : Calls Tryd.prog 27 #[.agg #[.int .i64 23, .int .i64 11, .int .i64 4]] w fun e w' => e = .returned (.bool true) ∧ San w0 B w' := by
  have := valid_calls 23 11 4 i23 i11 i4 w h.env
  rw [x_valid] at this
  exact h.of this
theorem s_power1 : Calls Tryd.prog 31 #[.agg #[.int .i64 23, .int .i64 11, .int .i64 4], .int .i64 4, .int .i64 3] w fun e w' => e = .returned (.int .i64 18) ∧ San w0 B w' := by
  have := power_calls 23 11 4 4 3 (by unfold isInt; omega) (by unfold isInt; omega) w
  rw [x_power1] at this
  exact h.of this
theorem s_power2 : Calls Tryd.prog 31 #[.agg #[.int .i64 23, .int .i64 11, .int .i64 4], .int .i64 4, .int .i64 (-1)] w fun e w' => e = .returned (.int .i64 6) ∧ San w0 B w' := by
  have := power_calls 23 11 4 4 (-1) (by unfold isInt; omega) (by unfold isInt; omega) w
  rw [x_power2] at this
  exact h.of this
theorem s_over : Calls Tryd.prog 35 #[.agg #[.int .i64 23, .int .i64 11, .int .i64 4], .int .i64 16, .int .i64 18] w fun e w' => e = .returned (.int .i64 6) ∧ San w0 B w' := by
  have := over_calls 23 11 4 16 18 (by unfold isInt; omega) (by unfold isInt; omega) w
  rw [x_over] at this
  exact h.of this
theorem s_elem2 : Calls Tryd.prog 29 #[.agg #[.int .i64 23, .int .i64 11, .int .i64 4], .int .i64 2] w fun e w' => e = .returned (.bool true) ∧ San w0 B w' := by
  have := elem_calls 23 11 4 2 i23 i11 i4 (by unfold isInt; omega) w h.env
  rw [x_elem2] at this
  exact h.of this
theorem s_elem5 : Calls Tryd.prog 29 #[.agg #[.int .i64 23, .int .i64 11, .int .i64 4], .int .i64 5] w fun e w' => e = .returned (.bool false) ∧ San w0 B w' := by
  have := elem_calls 23 11 4 5 i23 i11 i4 (by unfold isInt; omega) w h.env
  rw [x_elem5] at this
  exact h.of this
theorem s_sha (s : ByteArray) (hs : s = bs (shaL [97, 98, 99])) : Calls Tryd.prog 39 #[.string { data := #[97, 98, 99] }] w fun e w' => e = .returned (.string s) ∧ San w0 B w' := by
  rw [hs]
  exact h.of (sha_calls [97, 98, 99] (by simp) w h.env)
theorem s_hex (s : ByteArray) (hs : s = bs (shaL [97, 98, 99])) (d : ByteArray) (hd : d = bs hexAbc) : Calls Tryd.prog 44 #[.string s] w fun e w' => e = .returned (.string d) ∧ San w0 B w' := by
  rw [hs, hd, ← x_hex]
  exact h.of (hex_calls (shaL [97, 98, 99]) (by rw [shaL_len]; omega) w)
theorem s_num1 : Calls Tryd.prog 41 #[.string { data := #[97, 98, 99] }, .int .i64 256] w fun e w' => e = .returned (.int .i64 173) ∧ San w0 B w' := by
  have := number_calls [97, 98, 99] 256 (by simp) w h.env
  rw [x_num1] at this
  exact h.of this
theorem s_num2 : Calls Tryd.prog 41 #[.string { data := #[97, 98, 99] }, .int .i64 65536] w fun e w' => e = .returned (.int .i64 5549) ∧ San w0 B w' := by
  have := number_calls [97, 98, 99] 65536 (by simp) w h.env
  rw [x_num2] at this
  exact h.of this
theorem s_prime (n : Int) (b : Bool) (hn : isInt n) (hb : primeB n = b) : Calls Tryd.prog 13 #[.int .i64 n] w fun e w' => e = .returned (.bool b) ∧ San w0 B w' := by
  have := prime_calls n hn w h.env
  rw [hb] at this
  exact h.ofRet this
end

set_option maxHeartbeats 2000000 in
set_option maxRecDepth 100000 in
theorem sane_calls (w : World) (hE : Env w) : Calls Tryd.prog 10 #[] w fun e w' => e = .returned (.bool true) ∧ Below w.heap.size w w' := by
  have c1 := fun w => Lib.hid (inv_calls 12 5 (by unfold isInt; omega) w)
  have c2 := fun w => Lib.hid (inv_calls 12 8 (by unfold isInt; omega) w)
  rw [x_inv5] at c1
  rw [x_inv8] at c2
  have c3 := fun w hE => Lib.hid (make_calls 11 (by unfold isInt; omega) w hE)
  have c4 := fun w hE => Lib.hid (make_calls 13 (by unfold isInt; omega) w hE)
  rw [x_make11] at c3
  rw [x_make13] at c4
  go_enter Tryd.func10, Tryd.ntmps10
  go_wp2_with fail
  refine (c1 _).out.mono ?_
  rintro e w' ⟨rfl, rfl⟩
  go_wp2_with fail
  refine (c2 _).out.mono ?_
  rintro e w' ⟨rfl, rfl⟩
  go_wp2_with fail
  refine (c3 _ hE).out.mono ?_
  rintro e w1 ⟨rfl, hb1⟩
  have hS : San w w1.heap.size (w1.alloc (.cells #[.int .i64 23, .int .i64 11, .int .i64 4] 29)) := ⟨(hE.next hb1).next (below_one _ _), hb1.trans ((below_one w1 _).mono hb1.size), Blk.new _ _ _⟩
  clear hb1 c1 c2 c3 c4 hE
  go_wp2_with fail
  generalize (w1.alloc (.cells #[.int .i64 23, .int .i64 11, .int .i64 4] 29)) = W1 at *
  generalize w1.heap.size = B at *
  refine Calls.mono (s_make13 hS) ?_
  clear hS
  rintro e w2 ⟨rfl, hS⟩
  have hS := hS.next (below_one w2 (.cells #[.int .i64 0, .int .i64 0, .int .i64 0] 29))
  go_wp2_with fail
  generalize (w2.alloc (.cells #[.int .i64 0, .int .i64 0, .int .i64 0] 29)) = W2 at *
  refine Calls.mono (s_add hS) ?_
  clear hS
  rintro e w2 ⟨rfl, hS⟩
  obtain ⟨z0, z1, z2⟩ := hS.cells
  go_wp2_with fail
  refine Calls.mono (s_sub hS) ?_
  clear hS
  rintro e w2 ⟨rfl, hS⟩
  obtain ⟨z0, z1, z2⟩ := hS.cells
  go_wp2_with fail
  refine Calls.mono (s_mul hS) ?_
  clear hS
  rintro e w2 ⟨rfl, hS⟩
  obtain ⟨z0, z1, z2⟩ := hS.cells
  go_wp2_with fail
  refine Calls.mono (s_pow1 hS) ?_
  clear hS
  rintro e w2 ⟨rfl, hS⟩
  obtain ⟨z0, z1, z2⟩ := hS.cells
  go_wp2_with fail
  refine Calls.mono (s_pow2 hS) ?_
  clear hS
  rintro e w2 ⟨rfl, hS⟩
  obtain ⟨z0, z1, z2⟩ := hS.cells
  go_wp2_with fail
  refine Calls.mono (s_pow3 hS) ?_
  clear hS
  rintro e w2 ⟨rfl, hS⟩
  obtain ⟨z0, z1, z2⟩ := hS.cells
  go_wp2_with fail
  refine Calls.mono (s_pow4 hS) ?_
  clear hS
  rintro e w2 ⟨rfl, hS⟩
  obtain ⟨z0, z1, z2⟩ := hS.cells
  go_wp2_with fail
  refine Calls.mono (s_valid hS) ?_
  clear hS
  rintro e w2 ⟨rfl, hS⟩
  obtain ⟨z0, z1, z2⟩ := hS.cells
  go_wp2_with fail
  refine Calls.mono (s_power1 hS) ?_
  clear hS z0 z1 z2
  rintro e w2 ⟨rfl, hS⟩
  obtain ⟨z0, z1, z2⟩ := hS.cells
  go_wp2_with fail
  refine Calls.mono (s_power2 hS) ?_
  clear hS z0 z1 z2
  rintro e w2 ⟨rfl, hS⟩
  obtain ⟨z0, z1, z2⟩ := hS.cells
  go_wp2_with fail
  refine Calls.mono (s_over hS) ?_
  clear hS z0 z1 z2
  rintro e w2 ⟨rfl, hS⟩
  obtain ⟨z0, z1, z2⟩ := hS.cells
  go_wp2_with fail
  refine Calls.mono (s_elem2 hS) ?_
  clear hS z0 z1 z2
  rintro e w2 ⟨rfl, hS⟩
  obtain ⟨z0, z1, z2⟩ := hS.cells
  go_wp2_with fail
  refine Calls.mono (s_elem5 hS) ?_
  clear hS z0 z1 z2
  rintro e w2 ⟨rfl, hS⟩
  obtain ⟨z0, z1, z2⟩ := hS.cells
  obtain ⟨sb, hsb⟩ : ∃ s, s = bs (shaL [97, 98, 99]) := ⟨_, rfl⟩
  have HSB := Lib.hid hsb
  clear hsb
  go_wp2_with fail
  refine Calls.mono (s_sha hS sb HSB.out) ?_
  clear hS z0 z1 z2
  rintro e w2 ⟨rfl, hS⟩
  obtain ⟨z0, z1, z2⟩ := hS.cells
  go_wp2_with fail
  refine Calls.mono (s_hex hS sb HSB.out { data := #[98, 97, 55, 56, 49, 54, 98, 102, 56, 102, 48, 49, 99, 102, 101, 97, 52, 49, 52, 49, 52, 48, 100, 101, 53, 100, 97, 101, 50, 50, 50, 51, 98, 48, 48, 51, 54, 49, 97, 51, 57, 54, 49, 55, 55, 97, 57, 99, 98, 52, 49, 48, 102, 102, 54, 49, 102, 50, 48, 48, 49, 53, 97, 100] } rfl) ?_
  clear hS z0 z1 z2
  rintro e w2 ⟨rfl, hS⟩
  obtain ⟨z0, z1, z2⟩ := hS.cells
  go_wp2_with fail
  refine Calls.mono (s_num1 hS) ?_
  clear hS z0 z1 z2
  rintro e w2 ⟨rfl, hS⟩
  obtain ⟨z0, z1, z2⟩ := hS.cells
  go_wp2_with fail
  refine Calls.mono (s_num2 hS) ?_
  clear hS z0 z1 z2
  rintro e w2 ⟨rfl, hS⟩
  obtain ⟨z0, z1, z2⟩ := hS.cells
  go_wp2_with fail
  refine Calls.mono (s_prime hS 2 true (by unfold isInt; omega) prime_2) ?_
  clear hS z0 z1 z2
  rintro e w2 ⟨rfl, hS⟩
  obtain ⟨z0, z1, z2⟩ := hS.cells
  go_wp2_with fail
  refine Calls.mono (s_prime hS 1013 true (by unfold isInt; omega) prime_1013) ?_
  clear hS z0 z1 z2
  rintro e w2 ⟨rfl, hS⟩
  obtain ⟨z0, z1, z2⟩ := hS.cells
  go_wp2_with fail
  refine Calls.mono (s_prime hS 1011 false (by unfold isInt; omega) prime_1011) ?_
  clear hS z0 z1 z2
  rintro e w2 ⟨rfl, hS⟩
  obtain ⟨z0, z1, z2⟩ := hS.cells
  go_wp2_with fail
  refine Calls.mono (s_prime hS 1 false (by unfold isInt; omega) prime_1) ?_
  clear hS z0 z1 z2
  rintro e w2 ⟨rfl, hS⟩
  obtain ⟨z0, z1, z2⟩ := hS.cells
  go_wp2
  go_ret
  exact ⟨rfl, hS.bel⟩
end Go.Proofs.YtolmcaikjebdaaaDoor
