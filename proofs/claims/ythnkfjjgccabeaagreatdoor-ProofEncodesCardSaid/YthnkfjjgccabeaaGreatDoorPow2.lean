/- Products and powers of any ints. -/
import Derived.Test.YthnkfjjgccabeaaGreatDoorPow
namespace Go.Proofs.YthnkfjjgccabeaaGreatDoor
open Go.RowKit

theorem res_nat (n a : Int) (hn : isMod n) : ∃ N A : Nat, n = (N : Int) ∧ a % n = (A : Int) ∧ A < N ∧ 0 < N ∧ N < 2305843009213693952 := by
  obtain ⟨h1, h2⟩ := res_in n a hn
  obtain ⟨h3, h4⟩ := hn
  exact ⟨n.toNat, (a % n).toNat, by omega, by omega, by omega, by omega, by omega⟩
set_option maxHeartbeats 1000000 in
theorem mul_calls (n a b : Int) (ha : isInt a) (hb : isInt b) (w : World) :
    Calls Tryz.prog 49 #[.int .i64 n, .int .i64 a, .int .i64 b] w (Ret (.int .i64 (mulZ n a b)) w) := by
  by_cases hn : isMod n
  · obtain ⟨N, A, hN, hA, hAl, hN0, hNl⟩ := res_nat n a hn
    obtain ⟨N', B, hN', hB, hBl, _, _⟩ := res_nat n b hn
    obtain rfl : N' = N := by omega
    have HN := Lib.hid hn
    have HE : Hid (mulZ n a b = ((A * B % N' : Nat) : Int)) := by
      show mulZ n a b = ((A * B % N' : Nat) : Int)
      unfold mulZ
      rw [if_pos hn, Int.mul_emod, hA, hB, hN]; simp
    have c1 := residue_calls n a hn ha.1 ha.2
    have c2 := residue_calls n b hn hb.1 hb.2
    have c3 := mult_calls N' A B hNl hAl (by omega)
    rw [hA] at c1
    rw [hB] at c2
    rw [← hN] at c3
    have C1 := fun w => Lib.hid (c1 w)
    have C2 := fun w => Lib.hid (c2 w)
    have C3 := fun w => Lib.hid (c3 w)
    have hn1 : 1 ≤ n := hn.1
    have hn2 : n < 2305843009213693952 := hn.2
    clear c1 c2 c3 hA hB hN hN' hn
    generalize A * B % N' = r at *
    go_enter Tryz.func49, Tryz.ntmps49
    go_wp2_with fail
    refine (ismod_yes n HN.out _).mono ?_
    rintro e w' ⟨rfl, rfl⟩
    go_wp2_with fail
    refine (C1 _).out.mono ?_
    rintro e w' ⟨rfl, rfl⟩
    go_wp2_with fail
    refine (C2 _).out.mono ?_
    rintro e w' ⟨rfl, rfl⟩
    go_wp2_with fail
    refine (C3 _).out.mono ?_
    rintro e w' ⟨rfl, m, hw⟩
    subst hw
    go_wp2
    go_ret
    exact ⟨ret_i HE.out.symm, m, rfl⟩
  · have HN := Lib.hid hn
    have HE : Hid (mulZ n a b = 0) := by show mulZ n a b = 0; unfold mulZ; rw [if_neg hn]
    clear hn
    go_enter Tryz.func49, Tryz.ntmps49
    go_wp2_with fail
    refine (ismod_no n HN.out _).mono ?_
    rintro e w' ⟨rfl, rfl⟩
    go_wp2
    go_ret
    exact ⟨ret_i HE.out.symm, 0, rfl⟩
theorem cast_pow_mod (A N k : Nat) : ((A ^ k % N : Nat) : Int) = (A : Int) ^ k % (N : Int) := by simp
set_option maxHeartbeats 1000000 in
theorem pow_calls (n a b : Int) (ha : isInt a) (hb : isInt b) (w : World) :
    Calls Tryz.prog 65 #[.int .i64 n, .int .i64 a, .int .i64 b] w (Ret (.int .i64 (powZ n a b)) w) := by
  obtain ⟨hb1, hb2⟩ := hb
  by_cases hn : isMod n
  · obtain ⟨N, A, hN, hA, hAl, hN0, hNl⟩ := res_nat n a hn
    have HN := Lib.hid hn
    have hn1 : 1 ≤ n := hn.1
    have hn2 : n < 2305843009213693952 := hn.2
    by_cases hb0 : 0 ≤ b
    · have HE : Hid (powZ n a b = ((A ^ b.toNat % N : Nat) : Int)) := by
        show powZ n a b = _
        rw [powZ_pos hn hb0, ← pow_emod, hA, hN]; simp
      have c1 := residue_calls n a hn ha.1 ha.2
      have c3 := raise_calls N A b.toNat hN0 hNl hAl (by omega)
      rw [hA] at c1
      rw [← hN, show ((b.toNat : Nat) : Int) = b by omega] at c3
      have C1 := fun w => Lib.hid (c1 w)
      have C3 := fun w => Lib.hid (c3 w)
      clear c1 c3 hA hN hn
      generalize A ^ b.toNat % N = r at *
      have e1 : IntKind.u64.wrap b = b := by rw [IntKind.wrap_u64]; omega
      go_enter Tryz.func65, Tryz.ntmps65
      go_wp2_with fail
      refine (ismod_yes n HN.out _).mono ?_
      rintro e w' ⟨rfl, rfl⟩
      go_wp2_with fail
      refine (C1 _).out.mono ?_
      rintro e w' ⟨rfl, rfl⟩
      go_wp2_with fail
      refine (C3 _).out.mono ?_
      rintro e w' ⟨rfl, m, hw⟩
      subst hw
      go_wp2
      go_ret
      exact ⟨ret_i HE.out.symm, m, rfl⟩
    · have d0 : decide (0 ≤ b) = false := decide_eq_false hb0
      have ci := inv_calls n a ha
      cases hx : invZ n a with
      | none =>
        have hv : InvV n a = .tuple #[.int .i64 0, .bool false] := by unfold InvV; rw [if_pos hn, hx]
        rw [hv] at ci
        have CI := fun w => Lib.hid (ci w)
        have HE : Hid (powZ n a b = 0) := powZ_none hx (by omega)
        clear ci hx hv hA hN hn
        go_enter Tryz.func65, Tryz.ntmps65
        go_wp2_with fail
        refine (ismod_yes n HN.out _).mono ?_
        rintro e w' ⟨rfl, rfl⟩
        go_wp2_with fail
        refine (CI _).out.mono ?_
        rintro e w' ⟨rfl, rfl⟩
        go_wp2
        go_ret
        exact ⟨ret_i HE.out.symm, 0, rfl⟩
      | some x =>
        have hv : InvV n a = .tuple #[.int .i64 (x : Int), .bool true] := by unfold InvV; rw [if_pos hn, hx]
        rw [hv] at ci
        have CI := fun w => Lib.hid (ci w)
        have hxl : x < N := by have := (invZ_some hx).1; omega
        have HE : Hid (powZ n a b = ((x ^ b.natAbs % N : Nat) : Int)) := by
          show powZ n a b = _
          rw [powZ_some hn hx, hN]; unfold eZ; rw [if_neg hb0]; simp
        have c3 := raise_calls N x b.natAbs hN0 hNl hxl (by omega)
        rw [← hN] at c3
        have C3 := fun w => Lib.hid (c3 w)
        have e1 : IntKind.u64.wrap (-IntKind.u64.wrap b) = (b.natAbs : Int) := by rw [IntKind.wrap_u64, IntKind.wrap_u64]; omega
        clear ci c3 hx hv hA hN hn
        generalize x ^ b.natAbs % N = r at *
        go_enter Tryz.func65, Tryz.ntmps65
        go_wp2_with fail
        refine (ismod_yes n HN.out _).mono ?_
        rintro e w' ⟨rfl, rfl⟩
        go_wp2_with fail
        refine (CI _).out.mono ?_
        rintro e w' ⟨rfl, rfl⟩
        go_wp2_with fail
        refine (C3 _).out.mono ?_
        rintro e w' ⟨rfl, m, hw⟩
        subst hw
        go_wp2
        go_ret
        exact ⟨ret_i HE.out.symm, m, rfl⟩
  · have HN := Lib.hid hn
    have HE : Hid (powZ n a b = 0) := by show powZ n a b = 0; unfold powZ; rw [if_neg hn]
    clear hn
    go_enter Tryz.func65, Tryz.ntmps65
    go_wp2_with fail
    refine (ismod_no n HN.out _).mono ?_
    rintro e w' ⟨rfl, rfl⟩
    go_wp2
    go_ret
    exact ⟨ret_i HE.out.symm, 0, rfl⟩
end Go.Proofs.YthnkfjjgccabeaaGreatDoor
