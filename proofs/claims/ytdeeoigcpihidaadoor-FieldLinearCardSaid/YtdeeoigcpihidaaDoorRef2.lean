/- The reference's powers and inverses. -/
import Derived.Test.YtdeeoigcpihidaaDoorRef
namespace Go.Proofs.YtdeeoigcpihidaaDoor
open Go.RowKit

theorem mulZ_nat {n a b : Nat} (hn : isMod (n : Int)) : mulZ (n : Int) (a : Int) (b : Int) = ((a * b % n : Nat) : Int) := by
  unfold mulZ; rw [if_pos hn]; simp
theorem isInt_nat {a : Nat} (h : a < 2305843009213693952) : isInt (a : Int) := by unfold isInt; omega
theorem rmul_nat (n a b : Nat) (hn : isMod (n : Int)) (ha : a < 2305843009213693952) (hb : b < 2305843009213693952) (w : World) :
    Calls Tryd.prog 52 #[.int .i64 (n : Int), .int .i64 (a : Int), .int .i64 (b : Int)] w (Ret (.int .i64 ((a * b % n : Nat) : Int)) w) := by
  rw [← mulZ_nat hn]; exact rmul_calls _ _ _ (isInt_nat ha) (isInt_nat hb) w
theorem tmod_nat (a n : Nat) : Int.tmod (a : Int) (n : Int) = ((a % n : Nat) : Int) := by rw [Int.tmod_eq_emod_of_nonneg (by omega)]; simp
theorem tdiv_nat (a n : Nat) : Int.tdiv (a : Int) (n : Int) = ((a / n : Nat) : Int) := by rw [Int.tdiv_eq_ediv_of_nonneg (by omega)]; simp
set_option maxRecDepth 100000 in
set_option maxHeartbeats 1000000 in
theorem rpower_calls (n : Nat) (a : Int) (b : Nat) (hn : isMod (n : Int)) (ha : isInt a) (hb : b < 9223372036854775808) (A : Nat) (hA : a % (n : Int) = (A : Int)) (w : World) :
    Calls Tryd.prog 60 #[.int .i64 (n : Int), .int .i64 a, .int .i64 (b : Int)] w (Ret (.int .i64 ((A ^ b % n : Nat) : Int)) w) := by
  have hn1 : 1 ≤ (n : Int) := hn.1
  have hn2 : (n : Int) < 2305843009213693952 := hn.2
  have hn0 : 0 < n := by omega
  have hAl : A < n := by have := (res_in n a hn).2; omega
  have t0 : ((n : Int) == 0) = false := beq_eq_false_iff_ne.2 (by omega)
  have t1 : Int.tmod 1 (n : Int) = ((1 % n : Nat) : Int) := tmod_nat 1 n
  have hst : Hid (1 % n * A ^ b % n = A ^ b % n) := by
    show 1 % n * A ^ b % n = A ^ b % n
    rw [Nat.mul_mod, Nat.mod_mod, ← Nat.mul_mod, Nat.one_mul]
  obtain ⟨I, hI⟩ : ∃ I, I = 1 % n := ⟨_, rfl⟩
  have hIl : I < n := by rw [hI]; exact Nat.mod_lt _ hn0
  rw [← hI] at t1 hst
  have c1 := rres_calls n a hn ha.1 ha.2
  rw [hA] at c1
  have C1 := fun w => Lib.hid (c1 w)
  have HN := Lib.hid hn
  obtain ⟨F, hF⟩ : ∃ F, F = A ^ b % n := ⟨_, rfl⟩
  rw [← hF] at hst ⊢
  clear c1 hn hA hI hF
  go_enter Tryd.func60, Tryd.ntmps60
  go_wp2_with fail
  refine (C1 _).out.mono ?_
  rintro e w' ⟨rfl, rfl⟩
  go_wp2
  go_loopw [7, 8, 2] (fun r x y wr => ∃ R B E m : Nat, r = .int .i64 (R : Int) ∧ x = .int .i64 (B : Int) ∧ y = .int .i64 (E : Int) ∧ R < n ∧ B < n ∧ R * B ^ E % n = F ∧ E ≤ b ∧ wr = w.drewN m) (fun _ _ y _ => (intOf y).toNat)
  case atStart => exact ⟨I, A, b, 0, rfl, rfl, rfl, hIl, hAl, hst.out, Nat.le_refl _, rfl⟩
  case round =>
    obtain ⟨R, B, E, m, rfl, rfl, rfl, hR, hB, hi, hE, rfl⟩ := hrel
    by_cases hz : 0 < E
    · have d1 : decide (0 < E) = true := decide_eq_true hz
      obtain ⟨P, hP⟩ : ∃ P, P = E % 2 := ⟨_, rfl⟩
      have hsq := sq_round n R B E
      rw [hi, ← hP] at hsq
      have g1 : Int.tmod (E : Int) 2 = (P : Int) := by rw [hP]; exact tmod_nat E 2
      obtain ⟨G, hG⟩ : ∃ G, G = E / 2 := ⟨_, rfl⟩
      have g2 : Int.tdiv (E : Int) 2 = (G : Int) := by rw [hG]; exact tdiv_nat E 2
      rw [← hG] at hsq
      have hGl : G < E := by omega
      have hPl : P < 2 := by omega
      obtain ⟨S, hS⟩ : ∃ S, S = B * B % n := ⟨_, rfl⟩
      obtain ⟨T, hT⟩ : ∃ T, T = R * B % n := ⟨_, rfl⟩
      rw [← hS, ← hT] at hsq
      have hSl : S < n := by rw [hS]; exact Nat.mod_lt _ hn0
      have hTl : T < n := by rw [hT]; exact Nat.mod_lt _ hn0
      have cS := fun w => rmul_nat n B B HN.out (by omega) (by omega) w
      have cT := fun w => rmul_nat n R B HN.out (by omega) (by omega) w
      rw [← hS] at cS
      rw [← hT] at cT
      have CS := fun w => Lib.hid (cS w)
      have CT := fun w => Lib.hid (cT w)
      have HSQ := Lib.hid hsq
      clear cS cT hsq hS hT hi hst hG
      by_cases hp : P = 1
      · have d2 : ((P : Int) == 1) = true := by rw [hp]; rfl
        have HP := Lib.hid hp
        clear hp hP
        go_wp2_with fail
        refine (CT _).out.mono ?_
        rintro e w1 ⟨rfl, m1, hw⟩
        subst hw
        go_wp2_with fail
        refine (CS _).out.mono ?_
        rintro e w1 ⟨rfl, m2, hw⟩
        subst hw
        go_wp2
        go_roundw
        case rel => exact ⟨T, S, G, _, rfl, rfl, by go_num, hTl, hSl, by have := HSQ.out; rw [if_pos HP.out] at this; exact this, by omega, rfl⟩
        case measure => simp [intOf]; omega
      · have d2 : ((P : Int) == 1) = false := beq_eq_false_iff_ne.2 (by omega)
        have HP := Lib.hid hp
        clear hp hP
        go_wp2_with fail
        refine (CS _).out.mono ?_
        rintro e w1 ⟨rfl, m2, hw⟩
        subst hw
        go_wp2
        go_roundw
        case rel => exact ⟨R, S, G, _, rfl, rfl, by go_num, hR, hSl, by have := HSQ.out; rw [if_neg HP.out] at this; exact this, by omega, rfl⟩
        case measure => simp [intOf]; omega
    · obtain rfl : E = 0 := by omega
      have hfin : Hid (R = F) := by
        show R = F
        rw [← hi, Nat.pow_zero, Nat.mul_one, Nat.mod_eq_of_lt hR]
      clear hi hst
      go_wp2
      go_ret
      exact ⟨ret_i (by rw [hfin.out]), m, rfl⟩
set_option maxRecDepth 100000 in
set_option maxHeartbeats 1000000 in
theorem rinv_calls (n a : Int) (ha : isInt a) (w : World) :
    Calls Tryd.prog 51 #[.int .i64 n, .int .i64 a] w (Ret (InvV n a) w) := by
  by_cases hn : isMod n
  · obtain ⟨r1, r2⟩ := res_in n a hn
    obtain ⟨hn1, hn2⟩ := id hn
    have HN := Lib.hid hn
    have HE : Hid (InvV n a = InvV n (a % n)) := by
      show InvV n a = InvV n (a % n)
      unfold InvV; rw [invZ_mod]
    have c1 := rres_calls n a hn ha.1 ha.2
    have t0 : (n == 0) = false := beq_eq_false_iff_ne.2 (by omega)
    obtain ⟨I, hI⟩ : ∃ I, I = 1 % n := ⟨_, rfl⟩
    have t1 : Int.tmod 1 n = I := by rw [hI]; exact Int.tmod_eq_emod_of_nonneg (by omega)
    have hst : Hid (REuc n (a % n) n (a % n) 0 I) := by
      show REuc n (a % n) n (a % n) 0 I
      rw [hI]; exact REuc.start (by omega) r1
    generalize a % n = x at *
    have C1 := fun w => Lib.hid (c1 w)
    clear c1 hn hI
    go_enter Tryd.func51, Tryd.ntmps51
    go_wp2_with fail
    refine (rvalid_yes n HN.out _).mono ?_
    rintro e w' ⟨rfl, rfl⟩
    go_wp2_with fail
    refine (C1 _).out.mono ?_
    rintro e w' ⟨rfl, rfl⟩
    clear C1
    go_wp2_with fail
    go_loopw [6, 7, 8, 9] (fun r s x' y' wr => ∃ (R S X Y : Int) (m : Nat), r = .int .i64 R ∧ s = .int .i64 S ∧ x' = .int .i64 X ∧ y' = .int .i64 Y ∧ REuc n x R S X Y ∧ R ≤ n ∧ S ≤ n ∧ wr = w.drewN m) (fun _ s _ _ _ => (intOf s).toNat)
    case atStart => exact ⟨n, x, 0, I, 0, rfl, rfl, rfl, rfl, hst.out, by omega, by omega, rfl⟩
    case round =>
      obtain ⟨R, S, X, Y, m, rfl, rfl, rfl, rfl, hE, hR, hS, rfl⟩ := hrel
      have hR0 := hE.r0
      have hS0 := hE.s0
      have hX0 := hE.x0
      have hX1 := hE.x1
      have hY0 := hE.y0
      have hY1 := hE.y1
      by_cases hs : 0 < S
      · obtain ⟨hE2, b1, b2, b3, b4, b5⟩ := hE.next hs (by omega)
        have g1 : Int.tdiv R S = R / S := Int.tdiv_eq_ediv_of_nonneg (by omega)
        obtain ⟨K, hK⟩ : ∃ K, K = R / S := ⟨_, rfl⟩
        obtain ⟨L, hL⟩ : ∃ L, L = K * S := ⟨_, rfl⟩
        rw [← hK] at g1 hE2 b1 b2 b3 b4 b5
        rw [← hL] at hE2 b3 b4 b5
        have g2 : wrap64 (K * S) = L := by rw [← hL]; unfold wrap64; omega
        have g3 : IntKind.i64.wrap (K * S) = L := by rw [← hL]; simp only [IntKind.wrap, IntKind.bits, IntKind.signed]; simp; omega
        obtain ⟨M, hM⟩ : ∃ M, M = mulZ n K Y := ⟨_, rfl⟩
        have hMb : 0 ≤ M ∧ M < n := by rw [hM, show mulZ n K Y = K * Y % n by unfold mulZ; rw [if_pos HN.out]]; exact res_in n _ HN.out
        have cm := fun w => Lib.hid (rmul_calls n K Y (by unfold isInt; omega) (by unfold isInt; omega) w)
        rw [← hM] at cm
        obtain ⟨Z, hZ⟩ : ∃ Z, Z = subZ n X M := ⟨_, rfl⟩
        have cs := fun w => Lib.hid (rsub_calls n X M (by unfold isInt; omega) (by unfold isInt; omega) w)
        rw [← hZ] at cs
        have HE2 : Hid (REuc n x S (R - L) Y Z) := by
          show REuc n x S (R - L) Y Z
          have e : Z = (X - K * Y) % n := by
            rw [hZ, hM]
            unfold subZ mulZ
            rw [if_pos HN.out, if_pos HN.out, Int.sub_emod, Int.emod_emod_of_dvd _ (Int.dvd_refl n), ← Int.sub_emod]
          rw [e]; exact hE2
        have hne : (S != 0) = true := bne_iff_ne.2 (by omega)
        have hne2 : (S == 0) = false := beq_eq_false_iff_ne.2 (by omega)
        clear hE hE2 hK hL hM hZ
        go_wp2_with fail
        refine (cm _).out.mono ?_
        rintro e w1 ⟨rfl, m1, hw⟩
        subst hw
        go_wp2_with fail
        refine (cs _).out.mono ?_
        rintro e w1 ⟨rfl, m2, hw⟩
        subst hw
        go_wp2
        go_roundw
        case rel => exact ⟨S, R - L, Y, Z, _, by go_num, by go_num, by go_num, by go_num, HE2.out, by omega, by omega, rfl⟩
        case measure => simp [intOf]; omega
      · obtain rfl : S = 0 := by omega
        by_cases h1 : R = 1
        · subst h1
          have hd := hE.done_one (by omega)
          have g1 : Int.tmod X n = X := by rw [Int.tmod_eq_emod_of_nonneg (by omega), Int.emod_eq_of_lt (by omega) (by omega)]
          have HD : Hid (InvV n x = .tuple #[.int .i64 X, .bool true]) := by
            show InvV n x = .tuple #[.int .i64 X, .bool true]
            unfold InvV
            rw [if_pos HN.out, hd]
            show Value.tuple #[.int .i64 (X.toNat : Int), .bool true] = _
            rw [Int.toNat_of_nonneg hX0]
          clear hd hE
          go_wp2
          go_ret2
          exact ⟨ret_of (HE.out.trans HD.out).symm, m, rfl⟩
        · have hd := hE.done_not h1
          have HD : Hid (InvV n x = .tuple #[.int .i64 0, .bool false]) := by
            show InvV n x = .tuple #[.int .i64 0, .bool false]
            unfold InvV
            rw [if_pos HN.out, hd]
          have hne : (R != 1) = true := bne_iff_ne.2 h1
          clear hd hE
          go_wp2
          go_ret2
          exact ⟨ret_of (HE.out.trans HD.out).symm, m, rfl⟩
  · have HN := Lib.hid hn
    have HE : Hid (InvV n a = .tuple #[.int .i64 0, .bool false]) := by show InvV n a = _; unfold InvV; rw [if_neg hn]
    clear hn
    go_enter Tryd.func51, Tryd.ntmps51
    go_wp2_with fail
    refine (rvalid_no n HN.out _).mono ?_
    rintro e w' ⟨rfl, rfl⟩
    go_wp2
    go_ret2
    exact ⟨ret_of HE.out.symm, 0, rfl⟩
end Go.Proofs.YtdeeoigcpihidaaDoor
