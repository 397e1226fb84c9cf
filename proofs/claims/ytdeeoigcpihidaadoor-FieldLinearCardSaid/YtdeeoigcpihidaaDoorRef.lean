/- The reference's numbers: moduli, residues, sums, differences, products. -/
import Derived.Test.YtdeeoigcpihidaaDoorPow2
namespace Go.Proofs.YtdeeoigcpihidaaDoor
open Go.RowKit

theorem rvalid_yes (n : Int) (h : isMod n) (w : World) : Calls Tryd.prog 55 #[.int .i64 n] w fun e w' => e = .returned (.bool true) ∧ w = w' := by
  obtain ⟨h1, h2⟩ := h
  have d1 : decide (1 ≤ n) = true := decide_eq_true h1
  have d2 : decide (n < 2305843009213693952) = true := decide_eq_true h2
  go_enter Tryd.func55, Tryd.ntmps55
  go_wp2
  go_ret
  exact ⟨rfl, rfl⟩
theorem rvalid_no (n : Int) (h : ¬ isMod n) (w : World) : Calls Tryd.prog 55 #[.int .i64 n] w fun e w' => e = .returned (.bool false) ∧ w = w' := by
  by_cases h1 : 1 ≤ n
  · have h2 : ¬ n < 2305843009213693952 := fun h2 => h ⟨h1, h2⟩
    clear h
    have d1 : decide (1 ≤ n) = true := decide_eq_true h1
    have d2 : decide (n < 2305843009213693952) = false := decide_eq_false h2
    go_enter Tryd.func55, Tryd.ntmps55
    go_wp2
    go_ret
    exact ⟨rfl, rfl⟩
  · clear h
    have d1 : decide (1 ≤ n) = false := decide_eq_false h1
    go_enter Tryd.func55, Tryd.ntmps55
    go_wp2
    go_ret
    exact ⟨rfl, rfl⟩
theorem rres_calls (n a : Int) (hn : isMod n) (_ : -9223372036854775808 ≤ a) (_ : a ≤ 9223372036854775807) (w : World) :
    Calls Tryd.prog 54 #[.int .i64 n, .int .i64 a] w fun e w' => e = .returned (.int .i64 (a % n)) ∧ w = w' := by
  obtain ⟨hn1, hn2⟩ := hn
  have hb := tmod_bounds a n (by omega)
  have hf := tmod_fix a n (by omega)
  have HF := Lib.hid hf
  clear hf
  obtain ⟨hb1, hb2⟩ := hb
  go_enter Tryd.func54, Tryd.ntmps54
  by_cases hs : a.tmod n < 0
  · go_wp2
    go_ret
    exact ⟨ret_i (by rw [HF.out, if_pos hs]), rfl⟩
  · go_wp2
    go_ret
    exact ⟨ret_i (by rw [HF.out, if_neg (by omega)]), rfl⟩
theorem rsub_calls (n a b : Int) (ha : isInt a) (hb : isInt b) (w : World) :
    Calls Tryd.prog 37 #[.int .i64 n, .int .i64 a, .int .i64 b] w (Ret (.int .i64 (subZ n a b)) w) := by
  obtain ⟨ha1, ha2⟩ := ha
  obtain ⟨hb1, hb2⟩ := hb
  by_cases hn : isMod n
  · obtain ⟨r1, r2⟩ := res_in n a hn
    obtain ⟨r3, r4⟩ := res_in n b hn
    obtain ⟨hn1, hn2⟩ := id hn
    have HN := Lib.hid hn
    have HE : Hid (subZ n a b = (a % n + n - b % n) % n) := by
      show subZ n a b = (a % n + n - b % n) % n
      unfold subZ; rw [if_pos hn, show a % n + n - b % n = (a % n - b % n) + n by omega, Int.add_emod_right, ← Int.sub_emod]
    clear hn
    have c1 := rres_calls n a HN.out ha1 ha2
    have c2 := rres_calls n b HN.out hb1 hb2
    have e1 : Int.tmod (a % n + n - b % n) n = (a % n + n - b % n) % n := Int.tmod_eq_emod_of_nonneg (by omega)
    generalize a % n = x at *
    generalize b % n = y at *
    generalize hz : (x + n - y) % n = z at *
    have C1 := fun w => Lib.hid (c1 w)
    have C2 := fun w => Lib.hid (c2 w)
    have hn0 : (n == 0) = false := beq_eq_false_iff_ne.2 (by omega)
    clear c1 c2 hz
    go_enter Tryd.func37, Tryd.ntmps37
    go_wp2_with fail
    refine (rvalid_yes n HN.out _).mono ?_
    rintro e w' ⟨rfl, rfl⟩
    go_wp2_with fail
    refine (C1 _).out.mono ?_
    rintro e w' ⟨rfl, rfl⟩
    go_wp2_with fail
    refine (C2 _).out.mono ?_
    rintro e w' ⟨rfl, rfl⟩
    go_wp2
    go_ret
    exact ⟨ret_i HE.out.symm, 0, rfl⟩
  · have HN := Lib.hid hn
    have HE : Hid (subZ n a b = 0) := by show subZ n a b = 0; unfold subZ; rw [if_neg hn]
    clear hn
    go_enter Tryd.func37, Tryd.ntmps37
    go_wp2_with fail
    refine (rvalid_no n HN.out _).mono ?_
    rintro e w' ⟨rfl, rfl⟩
    go_wp2
    go_ret
    exact ⟨ret_i HE.out.symm, 0, rfl⟩
theorem low_two (Y : Nat) (h : Y < 9223372036854775808) : bits .and .i64 (Y : Int) 3 = ((Y % 4 : Nat) : Int) := by
  have h2 : (BitVec.ofInt 64 (3 : Int)).toNat = 3 := by decide +kernel
  show IntKind.i64.wrap ((BitVec.ofInt 64 (Y : Int) &&& BitVec.ofInt 64 3).toNat : Int) = _
  rw [BitVec.toNat_and, h2]
  have h3 : (BitVec.ofInt 64 (Y : Int)).toNat = Y := by
    rw [BitVec.ofInt_natCast, BitVec.toNat_ofNat]; omega
  rw [h3, show Y &&& 3 = Y % 4 from Nat.and_two_pow_sub_one_eq_mod _ 2]
  simp only [IntKind.wrap, IntKind.bits, IntKind.signed]; simp; omega
set_option maxRecDepth 100000 in
set_option maxHeartbeats 1000000 in
theorem rmul_calls (n a b : Int) (ha : isInt a) (hb : isInt b) (w : World) :
    Calls Tryd.prog 52 #[.int .i64 n, .int .i64 a, .int .i64 b] w (Ret (.int .i64 (mulZ n a b)) w) := by
  obtain ⟨ha1, ha2⟩ := ha
  obtain ⟨hb1, hb2⟩ := hb
  by_cases hn : isMod n
  · obtain ⟨N, A, hN, hA, hAl, hN0, hNl⟩ := res_nat n a hn
    obtain ⟨N', B, hN', hB, hBl, _, _⟩ := res_nat n b hn
    obtain rfl : N' = N := by omega
    subst hN
    have HN := Lib.hid hn
    have HE : Hid (mulZ (N' : Int) a b = ((A * B % N' : Nat) : Int)) := by
      show mulZ (N' : Int) a b = ((A * B % N' : Nat) : Int)
      unfold mulZ
      rw [if_pos hn, Int.mul_emod, hA, hB]; simp
    have c1 := rres_calls N' a hn ha1 ha2
    have c2 := rres_calls N' b hn hb1 hb2
    rw [hA] at c1
    rw [hB] at c2
    have C1 := fun w => Lib.hid (c1 w)
    have C2 := fun w => Lib.hid (c2 w)
    have hn0 : ((N' : Int) == 0) = false := beq_eq_false_iff_ne.2 (by omega)
    clear c1 c2 hA hB hn hN'
    by_cases hs : N' ≤ 2147483648
    · have d1 : decide ((N' : Int) ≤ 2147483648) = true := decide_eq_true (by omega)
      obtain ⟨Z, hZ⟩ : ∃ Z, Z = A * B := ⟨_, rfl⟩
      have hZl : Z ≤ 4611686018427387904 := by
        have := Nat.mul_le_mul (show A ≤ 2147483648 by omega) (show B ≤ 2147483648 by omega)
        omega
      have e1 : IntKind.i64.wrap ((A : Int) * B) = (Z : Int) := by
        rw [hZ, ← Int.natCast_mul]
        rw [hZ] at hZl
        simp only [IntKind.wrap, IntKind.bits, IntKind.signed]; simp; omega
      have e3 : wrap64 ((A : Int) * B) = (Z : Int) := by rw [← Int.natCast_mul, ← hZ]; unfold wrap64; omega
      have e2 : Int.tmod (Z : Int) (N' : Int) = ((Z % N' : Nat) : Int) := by rw [Int.tmod_eq_emod_of_nonneg (by omega)]; simp
      rw [← hZ] at HE
      clear hZ
      generalize Z % N' = r at *
      go_enter Tryd.func52, Tryd.ntmps52
      go_wp2_with fail
      refine (rvalid_yes N' HN.out _).mono ?_
      rintro e w' ⟨rfl, rfl⟩
      go_wp2_with fail
      refine (C1 _).out.mono ?_
      rintro e w' ⟨rfl, rfl⟩
      go_wp2_with fail
      refine (C2 _).out.mono ?_
      rintro e w' ⟨rfl, rfl⟩
      go_wp2
      go_ret
      exact ⟨ret_i HE.out.symm, 0, rfl⟩
    · have d1 : decide ((N' : Int) ≤ 2147483648) = false := decide_eq_false (by omega)
      go_enter Tryd.func52, Tryd.ntmps52
      go_wp2_with fail
      refine (rvalid_yes N' HN.out _).mono ?_
      rintro e w' ⟨rfl, rfl⟩
      go_wp2_with fail
      refine (C1 _).out.mono ?_
      rintro e w' ⟨rfl, rfl⟩
      go_wp2_with fail
      refine (C2 _).out.mono ?_
      rintro e w' ⟨rfl, rfl⟩
      go_wp2
      have hst : A * (B / 2 ^ (2 * 31)) % N' = 0 := by
        rw [show B / 2 ^ (2 * 31) = 0 from Nat.div_eq_of_lt (by omega)]; simp
      have HST := Lib.hid hst
      clear hst
      go_loop [9, 10] (fun o k' => ∃ (t : Nat) (O k : Int), t ≤ 31 ∧ k' = .int .i64 k ∧ k = 2 * (t : Int) - 2 ∧ o = .int .i64 O ∧ O = ((A * (B / 2 ^ (2 * t)) % N' : Nat) : Int)) (fun _ k' => (intOf k' + 2).toNat)
      case atStart => exact ⟨31, 0, 60, by omega, rfl, by omega, rfl, by rw [HST.out]; rfl⟩
      case round =>
        obtain ⟨t, O, k, ht, rfl, hk, rfl, hO⟩ := hrel
        rcases Nat.eq_zero_or_pos t with h0 | h0
        · subst h0
          have hO2 : Hid (O = ((A * B % N' : Nat) : Int)) := by show O = _; rw [hO]; simp
          have hk0 : ¬ 0 ≤ k := by omega
          have hk3 : k < 0 := by omega
          clear hO hk
          go_wp2
          go_ret
          exact ⟨ret_i (by rw [hO2.out, HE.out]), 0, rfl⟩
        · obtain ⟨s, rfl⟩ : ∃ s, t = s + 1 := ⟨t - 1, by omega⟩
          obtain ⟨K, hK⟩ : ∃ K, K = 2 * s := ⟨_, rfl⟩
          obtain rfl : k = (K : Int) := by omega
          obtain ⟨X, hX⟩ : ∃ X : Nat, X = A * (B / 2 ^ (2 * (s + 1))) % N' := ⟨_, rfl⟩
          rw [← hX] at hO
          have hXl : X < N' := by rw [hX]; exact Nat.mod_lt _ hN0
          subst hO
          have hm1 : Int.tmod (4 * (X : Int)) (N' : Int) = ((4 * X % N' : Nat) : Int) := by rw [Int.tmod_eq_emod_of_nonneg (by omega)]; simp
          obtain ⟨Y, hY⟩ : ∃ Y, Y = 4 * X % N' := ⟨_, rfl⟩
          obtain ⟨D, hD⟩ : ∃ D, D = B / 2 ^ K % 4 := ⟨_, rfl⟩
          have hDl : D < 4 := by omega
          have hYl : Y < N' := by rw [hY]; exact Nat.mod_lt _ hN0
          have hdig : (Y + D * A) % N' = A * (B / 2 ^ (2 * s)) % N' := by rw [hY, hD, hX, hK]; exact digit_step N' A B (2 * s)
          rw [← hY] at hm1
          obtain ⟨C, hC⟩ : ∃ C, C = B / 2 ^ K := ⟨_, rfl⟩
          have hCl : C ≤ B := by rw [hC]; exact Nat.div_le_self _ _
          have hs1 : (B : Int) / 2 ^ K = (C : Int) := by rw [hC]; simp
          have hs2 : bits .and .i64 (C : Int) 3 = (D : Int) := by rw [low_two C (by omega), hD, hC]
          have HD := Lib.hid hdig
          have hKl : K ≤ 60 := by omega
          have HK := Lib.hid hK
          have hk2 := Lib.hid hk
          clear hdig hC hY hX hD hK hk
          go_wp2
          go_loop [9, 12] (fun o i' => ∃ (i : Nat) (O : Int), i ≤ D ∧ i' = .int .i64 (i : Int) ∧ o = .int .i64 O ∧ O = (((Y + i * A) % N' : Nat) : Int)) (fun _ i' => D - (intOf i').toNat)
          case atStart => exact ⟨0, (Y : Int), by omega, rfl, rfl, by rw [Nat.zero_mul, Nat.add_zero, Nat.mod_eq_of_lt hYl]⟩
          case round =>
            obtain ⟨i, O, hi, rfl, rfl, hO⟩ := hrel
            obtain ⟨Z, hZ⟩ : ∃ Z, Z = (Y + i * A) % N' := ⟨_, rfl⟩
            rw [← hZ] at hO
            subst hO
            have hZl : Z < N' := by rw [hZ]; exact Nat.mod_lt _ hN0
            by_cases hlt : i < D
            · have hm3 : Int.tmod ((Z : Int) + A) (N' : Int) = (((Z + A) % N' : Nat) : Int) := by rw [Int.tmod_eq_emod_of_nonneg (by omega)]; simp
              obtain ⟨T, hT⟩ : ∃ T, T = (Z + A) % N' := ⟨_, rfl⟩
              have hTe : T = (Y + (i + 1) * A) % N' := by rw [hT, hZ, add_step]
              rw [← hT] at hm3
              have HT := Lib.hid hTe
              clear hZ hT hTe
              go_wp2
              go_round
              case rel => exact ⟨i + 1, (T : Int), by omega, by go_num, rfl, by rw [HT.out]⟩
              case measure => simp [intOf]; omega
            · obtain rfl : i = D := by omega
              have HZ2 : Hid (Z = A * (B / 2 ^ (2 * s)) % N') := by show Z = _; rw [hZ, HD.out]
              clear hZ
              go_wp2
              go_round
              case rel => exact ⟨s, (Z : Int), (K : Int) - 2, by omega, by go_num, by have := HK.out; omega, rfl, by rw [HZ2.out]⟩
              case measure => simp [intOf]; omega
  · have HN := Lib.hid hn
    have HE : Hid (mulZ n a b = 0) := by show mulZ n a b = 0; unfold mulZ; rw [if_neg hn]
    clear hn
    go_enter Tryd.func52, Tryd.ntmps52
    go_wp2_with fail
    refine (rvalid_no n HN.out _).mono ?_
    rintro e w' ⟨rfl, rfl⟩
    go_wp2
    go_ret
    exact ⟨ret_i HE.out.symm, 0, rfl⟩
end Go.Proofs.YtdeeoigcpihidaaDoor
