/- Powers, and the test for primes. -/
import Derived.Test.YthnkfjjgccabeaaGreatDoorDiv
namespace Go.Proofs.YthnkfjjgccabeaaGreatDoor
open Go.RowKit

/-- A call that returns this, and may have drawn. -/
def Ret (v : Value) (w : World) (e : Ending) (w' : World) : Prop := e = .returned v ∧ ∃ n, w' = w.drewN n
theorem low_bit (E : Nat) (h : E < 18446744073709551616) : bits .and .u64 (E : Int) 1 = ((E % 2 : Nat) : Int) := by
  have h1 := bits_and_u64_nat E 1 h (by omega)
  rw [show E &&& 1 = E % 2 from Nat.and_one_is_mod E] at h1
  exact h1
set_option maxHeartbeats 1000000 in
theorem raise_calls (n a e : Nat) (hn0 : 0 < n) (hn : n < 2305843009213693952) (ha : a < n) (he : e < 18446744073709551616) (w : World) :
    Calls Tryz.prog 85 #[.int .i64 (n : Int), .int .i64 (a : Int), .int .u64 (e : Int)] w (Ret (.int .i64 ((a ^ e % n : Nat) : Int)) w) := by
  have t0 : ((n : Int) == 0) = false := beq_eq_false_iff_ne.2 (by omega)
  have hst : Hid (1 % n * a ^ e % n = a ^ e % n) := by
    show 1 % n * a ^ e % n = a ^ e % n
    rw [Nat.mul_mod, Nat.mod_mod, ← Nat.mul_mod, Nat.one_mul]
  go_enter Tryz.func85, Tryz.ntmps85
  go_wp2
  go_loopw [7, 1, 2] (fun r x y wr => ∃ R A E m : Nat, r = .int .i64 (R : Int) ∧ x = .int .i64 (A : Int) ∧ y = .int .u64 (E : Int) ∧ R < n ∧ A < n ∧ R * A ^ E % n = a ^ e % n ∧ E ≤ e ∧ wr = w.drewN m) (fun _ _ y _ => (intOf y).toNat)
  case atStart => exact ⟨1 % n, a, e, 0, congrArg _ (modN 1 n), rfl, rfl, Nat.mod_lt _ hn0, ha, hst.out, Nat.le_refl _, rfl⟩
  case round =>
    obtain ⟨R, A, E, m, rfl, rfl, rfl, hR, hA, hi, hE, rfl⟩ := hrel
    by_cases hz : 0 < E
    · have d1 : decide (0 < E) = true := decide_eq_true hz
      obtain ⟨P, hP⟩ : ∃ P, P = E % 2 := ⟨_, rfl⟩
      have g1 : bits .and .u64 (E : Int) 1 = (P : Int) := by rw [low_bit E (by omega), hP]
      have hsq := sq_round n R A E
      rw [hi, ← hP] at hsq
      obtain ⟨S, hS⟩ : ∃ S, S = A * A % n := ⟨_, rfl⟩
      obtain ⟨T, hT⟩ : ∃ T, T = R * A % n := ⟨_, rfl⟩
      rw [← hS, ← hT] at hsq
      have hSl : S < n := by rw [hS]; exact Nat.mod_lt _ hn0
      have hTl : T < n := by rw [hT]; exact Nat.mod_lt _ hn0
      have cS := fun w => mult_calls n A A hn hA (by omega) w
      have cT := fun w => mult_calls n R A hn hR (by omega) w
      rw [← hS] at cS
      rw [← hT] at cT
      have CS := fun w => Lib.hid (cS w)
      have CT := fun w => Lib.hid (cT w)
      have HSQ := Lib.hid hsq
      clear cS cT hsq hS hT hi hst
      by_cases hp : P = 1
      · have d2 : ((P : Int) == 1) = true := by rw [hp]; rfl
        have HP := Lib.hid hp
        clear hp hP
        go_wp2_with fail
        refine (CT _).out.mono ?_
        rintro e w1 ⟨rfl, m1, hw⟩
        subst hw
        go_wp2_with fail
        refine (CS _).out.mono ?_
        rintro e w1 ⟨rfl, m2, hw⟩
        subst hw
        go_wp2
        go_roundw
        case rel => exact ⟨T, S, E / 2, _, rfl, rfl, by go_num, hTl, hSl, by have := HSQ.out; rw [if_pos HP.out] at this; exact this, by omega, rfl⟩
        case measure => simp [intOf]; omega
      · have d2 : ((P : Int) == 1) = false := beq_eq_false_iff_ne.2 (by omega)
        have HP := Lib.hid hp
        clear hp hP
        go_wp2_with fail
        refine (CS _).out.mono ?_
        rintro e w1 ⟨rfl, m2, hw⟩
        subst hw
        go_wp2
        go_roundw
        case rel => exact ⟨R, S, E / 2, _, rfl, rfl, by go_num, hR, hSl, by have := HSQ.out; rw [if_neg HP.out] at this; exact this, by omega, rfl⟩
        case measure => simp [intOf]; omega
    · obtain rfl : E = 0 := by omega
      have hfin : Hid (R = a ^ e % n) := by
        show R = a ^ e % n
        rw [← hi, Nat.pow_zero, Nat.mul_one, Nat.mod_eq_of_lt hR]
      clear hi hst
      go_wp2
      go_ret
      exact ⟨ret_i (by rw [hfin.out]), m, rfl⟩
end Go.Proofs.YthnkfjjgccabeaaGreatDoor
