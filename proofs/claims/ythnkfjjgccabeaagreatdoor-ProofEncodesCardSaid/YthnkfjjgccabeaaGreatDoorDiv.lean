/- The library's division of two words by one. -/
import Derived.Test.YthnkfjjgccabeaaGreatDoorArith
import Derived.Test.YthnkfjjgccabeaaGreatDoorKnuth
import Derived.Lib.ItoaNum
import Derived.Laws.Bits64b
import Derived.Deep.QuietTactic
import Derived.BigQuiet
import Derived.Deep.LoopGhost
import Derived.Deep.CutBlock
import Derived.Deep.CutRange
namespace Go.Proofs.YthnkfjjgccabeaaGreatDoor
open Go.RowKit

theorem maskN (a : Nat) (ha : a < 18446744073709551616) : bits .and .u64 (a : Int) 4294967295 = ((a % 4294967296 : Nat) : Int) := by
  have h := bits_and_u64_nat a 4294967295 ha (by omega)
  have e : a &&& 4294967295 = a % 4294967296 := Nat.and_two_pow_sub_one_eq_mod a 32
  rw [e] at h
  exact h
theorem divN (a b : Nat) : (a : Int) / (b : Int) = ((a / b : Nat) : Int) := (Int.natCast_ediv a b).symm
theorem modN (a b : Nat) : (a : Int) % (b : Int) = ((a % b : Nat) : Int) := (Int.natCast_emod a b).symm
theorem mulN (a b : Nat) : (a : Int) * (b : Int) = ((a * b : Nat) : Int) := (Int.natCast_mul a b).symm
theorem addN (a b : Nat) : (a : Int) + (b : Int) = ((a + b : Nat) : Int) := (Int.natCast_add a b).symm
theorem wrapN (a : Nat) (ha : a < 18446744073709551616) : IntKind.u64.wrap (a : Int) = (a : Int) := by rw [IntKind.wrap_u64]; omega
theorem wrapM (a : Nat) : IntKind.u64.wrap (a : Int) = ((a % 18446744073709551616 : Nat) : Int) := by rw [IntKind.wrap_u64]; omega

theorem ret_uu {a b c d : Int} (h : a = b) (k : c = d) : Ending.returned (.tuple #[.int .u64 a, .int .u64 c]) = .returned (.tuple #[.int .u64 b, .int .u64 d]) := by rw [h, k]
/-- What Div64 returns. -/
def DivV (hi lo y : Nat) : Value := .tuple #[.int .u64 (((hi * 18446744073709551616 + lo) / y : Nat) : Int), .int .u64 (((hi * 18446744073709551616 + lo) % y : Nat) : Int)]
set_option maxHeartbeats 1000000 in
theorem div_zero (hi lo y : Nat) (h0 : hi = 0) (hy : 0 < y) (hy2 : y < 18446744073709551616) (hlo : lo < 18446744073709551616) (w : World) :
    Calls Tryz.prog 88 #[.int .u64 (hi : Int), .int .u64 (lo : Int), .int .u64 (y : Int)] w fun e w' => e = .returned (DivV hi lo y) ∧ ∃ n, w' = w.drewN n := by
  have h1 : (y : Int) ≠ 0 := by omega
  have h2 : ((y : Int) == 0) = false := beq_eq_false_iff_ne.2 h1
  have h3 : decide (y ≤ hi) = false := decide_eq_false (by omega)
  have h4 : ((hi : Int) == 0) = true := by rw [h0]; rfl
  have H0 := Lib.hid h0
  clear h0
  go_enter Tryz.func88, Tryz.ntmps88
  go_wp2
  go_quiet (fail)
  go_wp2
  go_ret2
  refine ⟨?_, _, rfl⟩
  unfold DivV
  refine ret_uu ?_ ?_
  · rw [H0.out, Nat.zero_mul, Nat.zero_add, divN, wrapN _ (Nat.lt_of_le_of_lt (Nat.div_le_self lo y) hlo)]
  · rw [H0.out, Nat.zero_mul, Nat.zero_add, modN]
theorem lead (y : Nat) (h0 : 0 < y) (h1 : y < 2305843009213693952) : ∃ s : Nat, 3 ≤ s ∧ s ≤ 63 ∧ (64 - (Lib.bitLen y : Int)) = (s : Int) ∧ 9223372036854775808 ≤ y * 2 ^ s ∧ y * 2 ^ s < 18446744073709551616 := by
  obtain ⟨b1, b2, b3⟩ := Lib.bitLenAux_bounds 64 y (by omega) (by omega)
  have b4 := Lib.bitLen_le y 61 (by omega) (by simpa using h1)
  have e : Lib.bitLenAux 64 y = Lib.bitLen y := rfl
  rw [e] at b1 b2 b3
  refine ⟨64 - Lib.bitLen y, by omega, by omega, by omega, ?_, ?_⟩
  · have := Nat.mul_le_mul_right (2 ^ (64 - Lib.bitLen y)) b2
    rw [← Nat.pow_add, show Lib.bitLen y - 1 + (64 - Lib.bitLen y) = 63 by omega] at this
    exact this
  · have := Nat.mul_lt_mul_of_pos_right b3 (Nat.two_pow_pos (64 - Lib.bitLen y))
    rw [← Nat.pow_add, show Lib.bitLen y + (64 - Lib.bitLen y) = 64 by omega] at this
    exact this
theorem or_bits (h l s : Nat) (hl : l < 2 ^ s) : h * 2 ^ s ||| l = h * 2 ^ s + l := by
  rw [← Nat.shiftLeft_eq, Nat.shiftLeft_add_eq_or_of_lt hl]
theorem wrap_sub (a b c : Nat) (h : a = b + c) (hc : c < 18446744073709551616) : IntKind.u64.wrap ((a : Int) - (b : Int)) = (c : Int) := by
  rw [IntKind.wrap_u64]; omega
/-- A difference whose parts have wrapped. -/
theorem wrap_far (u l q y c : Nat) (h : u * 4294967296 + l = q * y + c) (hc : c < 18446744073709551616) :
    IntKind.u64.wrap (IntKind.u64.wrap (IntKind.u64.wrap ((u : Int) * 4294967296) + (l : Int)) - IntKind.u64.wrap ((q : Int) * (y : Int))) = (c : Int) := by
  rw [mulN q y]
  generalize q * y = p at *
  rw [IntKind.wrap_u64, IntKind.wrap_u64, IntKind.wrap_u64, IntKind.wrap_u64]
  omega
/-- The numbers of the division, normalized. -/
structure Dv (hi lo y s Y y1 y0 H M U L l1 l0 q p r : Nat) : Prop where
  bY : 9223372036854775808 ≤ Y
  tY : Y < 18446744073709551616
  hy1 : y1 = Y / 4294967296
  hy0 : y0 = Y % 4294967296
  hH : H < 18446744073709551616
  hM : M < 18446744073709551616
  hU : U < Y
  hL : L < 18446744073709551616
  hl1 : l1 = L / 4294967296
  hl0 : l0 = L % 4294967296
  hq : q = U / y1
  hp : p = q * y1
  hr : U = p + r
  hr1 : r < y1
  whole : DivV hi lo y = .tuple #[.int .u64 (((U * 18446744073709551616 + L) / Y : Nat) : Int), .int .u64 (((U * 18446744073709551616 + L) % Y / 2 ^ s : Nat) : Int)]
theorem dv_of (hi lo y s : Nat) (h1 : hi < y) (hlo : lo < 18446744073709551616) (s1 : 3 ≤ s) (s2 : s ≤ 63) (s4 : 9223372036854775808 ≤ y * 2 ^ s) (s5 : y * 2 ^ s < 18446744073709551616) :
    ∃ Y y1 y0 H M U L l1 l0 q p r : Nat, Dv hi lo y s Y y1 y0 H M U L l1 l0 q p r ∧ Y = y * 2 ^ s ∧ H = hi * 2 ^ s ∧ M = lo / 2 ^ (64 - s) ∧ U = H ||| M ∧ L = lo * 2 ^ s % 18446744073709551616 := by
  have hp : 0 < 2 ^ s := Nat.two_pow_pos s
  have hpp : 2 ^ (64 - s) * 2 ^ s = 18446744073709551616 := by rw [← Nat.pow_add, show 64 - s + s = 64 by omega]
  have hM : lo / 2 ^ (64 - s) < 2 ^ s := by
    rw [Nat.div_lt_iff_lt_mul (Nat.two_pow_pos _), Nat.mul_comm, hpp]; exact hlo
  have hY : hi * 2 ^ s + 2 ^ s ≤ y * 2 ^ s := by
    have := Nat.mul_le_mul_right (2 ^ s) (show hi + 1 ≤ y by omega)
    rw [Nat.add_mul, Nat.one_mul] at this; exact this
  have hdiv : lo * 2 ^ s / 18446744073709551616 = lo / 2 ^ (64 - s) := by rw [← hpp, Nat.mul_div_mul_right _ _ hp]
  have hlow : lo * 2 ^ s = lo / 2 ^ (64 - s) * 18446744073709551616 + lo * 2 ^ s % 18446744073709551616 := by
    have := Nat.div_add_mod (lo * 2 ^ s) 18446744073709551616
    rw [hdiv] at this; omega
  have hor := or_bits hi (lo / 2 ^ (64 - s)) s hM
  have hsum : (hi * 18446744073709551616 + lo) * 2 ^ s = (hi * 2 ^ s + lo / 2 ^ (64 - s)) * 18446744073709551616 + lo * 2 ^ s % 18446744073709551616 := by
    rw [Nat.add_mul, Nat.add_mul, Nat.mul_right_comm]; omega
  have hsh := div_shift (hi * 18446744073709551616 + lo) y s
  have hmod : lo * 2 ^ s % 18446744073709551616 < 18446744073709551616 := Nat.mod_lt _ (by omega)
  have h2s : 2 ^ s ≤ 9223372036854775808 := by
    have := Nat.pow_le_pow_right (show 0 < 2 by omega) s2
    simpa using this
  refine ⟨y * 2 ^ s, y * 2 ^ s / 4294967296, y * 2 ^ s % 4294967296, hi * 2 ^ s, lo / 2 ^ (64 - s), hi * 2 ^ s + lo / 2 ^ (64 - s), lo * 2 ^ s % 18446744073709551616, _, _, _, _, (hi * 2 ^ s + lo / 2 ^ (64 - s)) - (hi * 2 ^ s + lo / 2 ^ (64 - s)) / (y * 2 ^ s / 4294967296) * (y * 2 ^ s / 4294967296), ⟨s4, s5, rfl, rfl, by omega, by omega, by omega, hmod, rfl, rfl, rfl, rfl, ?_, ?_, ?_⟩, rfl, rfl, rfl, hor.symm, rfl⟩
  · have := Nat.div_mul_le_self (hi * 2 ^ s + lo / 2 ^ (64 - s)) (y * 2 ^ s / 4294967296)
    omega
  · exact q_rem (by omega)
  · unfold DivV
    rw [← hsum, hsh.1, hsh.2]
theorem q_done {u d y1 y0 q Y : Nat} (hY : Y = y1 * 4294967296 + y0) (h : q = (u * 4294967296 + d) / (y1 * 4294967296 + y0)) (hp : 0 < Y) : u * 4294967296 + d = q * Y + (u * 4294967296 + d) % Y ∧ (u * 4294967296 + d) % Y < Y := by
  rw [← hY] at h
  subst h
  have := Nat.div_add_mod (u * 4294967296 + d) Y
  rw [Nat.mul_comm] at this
  exact ⟨this.symm, Nat.mod_lt _ hp⟩

set_option maxHeartbeats 4000000 in
set_option maxRecDepth 100000 in
theorem div_big (hi lo y : Nat) (h0 : 0 < hi) (h1 : hi < y) (h2 : y < 2305843009213693952) (hlo : lo < 18446744073709551616) (w : World) :
    Calls Tryz.prog 88 #[.int .u64 (hi : Int), .int .u64 (lo : Int), .int .u64 (y : Int)] w fun e w' => e = .returned (DivV hi lo y) ∧ ∃ n, w' = w.drewN n := by
  obtain ⟨s, s1, s2, s3, s4, s5⟩ := lead y (by omega) h2
  have lz := fun w => Tryz.bits_LeadingZeros64 (y : Int) w (by omega) (by omega)
  rw [Int.toNat_natCast, s3] at lz
  have LZ := fun w => Lib.hid (lz w)
  clear lz s3
  have t2 : ((y : Int) == 0) = false := beq_eq_false_iff_ne.2 (by omega)
  have t3 : decide (y ≤ hi) = false := decide_eq_false (by omega)
  have t4 : ((hi : Int) == 0) = false := beq_eq_false_iff_ne.2 (by omega)
  obtain ⟨Y, y1, y0, H, M, U, L, l1, l0, q, p, r, hD, hY, hH, hM, hU, hL⟩ := dv_of hi lo y s h1 hlo s1 s2 s4 s5
  have e1 : IntKind.u64.wrap ((y : Int) * 2 ^ s) = (Y : Int) := by
    have : (y : Int) * 2 ^ s = (Y : Int) := by rw [hY]; simp
    rw [this, wrapN _ hD.tY]
  have e2 : (Y : Int) / 4294967296 = (y1 : Int) := by have := hD.hy1; omega
  have e3 : bits .and .u64 (Y : Int) 4294967295 = (y0 : Int) := by rw [maskN Y hD.tY, hD.hy0]
  have e4 : IntKind.u64.wrap ((hi : Int) * 2 ^ s) = (H : Int) := by
    have : (hi : Int) * 2 ^ s = (H : Int) := by rw [hH]; simp
    rw [this, wrapN _ hD.hH]
  have e5 : (lo : Int) / 2 ^ (64 - s) = (M : Int) := by rw [hM]; simp
  have e6 : bits .or .u64 (H : Int) (M : Int) = (U : Int) := by rw [bits_or_u64_nat H M hD.hH hD.hM, hU]
  have e7 : IntKind.u64.wrap ((lo : Int) * 2 ^ s) = (L : Int) := by
    have : (lo : Int) * 2 ^ s = ((lo * 2 ^ s : Nat) : Int) := by simp
    rw [this, wrapM, hL]
  have e8 : (L : Int) / 4294967296 = (l1 : Int) := by have := hD.hl1; omega
  have e9 : bits .and .u64 (L : Int) 4294967295 = (l0 : Int) := by rw [maskN L hD.hL, hD.hl0]
  have bY := hD.bY
  have tY := hD.tY
  have hy1 := hD.hy1
  have hy0 := hD.hy0
  have hUY := hD.hU
  have hl1 := hD.hl1
  have hl0 := hD.hl0
  have hLt := hD.hL
  have hY1 : Y = y1 * 4294967296 + y0 := by omega
  have by0 : y0 < 4294967296 := by omega
  have by1 : y1 < 4294967296 := by omega
  have by2 : 2147483648 ≤ y1 := by omega
  have bl1 : l1 < 4294967296 := by omega
  have bl0 : l0 < 4294967296 := by omega
  have hU3 : U < y1 * 4294967296 + y0 := by omega
  have qle : q ≤ 4294967297 := by rw [hD.hq]; exact q_top (y0 := y0) (by omega) (by omega) (by omega)
  have hqi : QInv U l1 y1 y0 q r := by
    have h := q_start (u := U) (d := l1) (y1 := y1) (y0 := y0) (by omega) (by omega)
    rw [← hD.hq, ← hD.hp] at h
    have hr := hD.hr
    rw [show U - p = r by omega] at h
    exact h
  have hr1 := hD.hr1
  have e10 : IntKind.u64.wrap ((U : Int) / (y1 : Int)) = (q : Int) := by rw [divN, ← hD.hq, wrapN _ (by omega)]
  have e11 : IntKind.u64.wrap ((q : Int) * (y1 : Int)) = (p : Int) := by rw [mulN, ← hD.hp, wrapN _ (by have := hD.hr; omega)]
  have e12 : IntKind.u64.wrap ((U : Int) - (p : Int)) = (r : Int) := wrap_sub _ _ _ hD.hr (by omega)
  have b1 : ((y1 : Int) == 0) = false := beq_eq_false_iff_ne.2 (by omega)
  have b2 : ¬ (y1 = 0) := by omega
  have HW := Lib.hid hD.whole
  have HQ := Lib.hid hqi
  have HYY := Lib.hid hY1
  have HL : Hid (L = l1 * 4294967296 + l0) := by show L = l1 * 4294967296 + l0; omega
  clear hD hY hH hM hU hL hqi hY1 hy1 hy0 hl1 hl0
  go_enter Tryz.func88, Tryz.ntmps88
  go_wp2_with fail
  refine (LZ _).out.mono ?_
  rintro e w' ⟨rfl, hw⟩
  subst hw
  go_upto_block 0 with fail
  go_cut [15, 16] from 67 to 85 (fun x z wx => ∃ Q R : Nat, x = .int .u64 (Q : Int) ∧ z = .int .u64 (R : Int) ∧ QInv U l1 y1 y0 Q R ∧ Q * y0 ≤ 4294967296 * R + l1 ∧ wx = w')
  case first =>
    go_wp2_with fail
    go_loop [15, 16] (fun x z => ∃ Q R : Nat, x = .int .u64 (Q : Int) ∧ z = .int .u64 (R : Int) ∧ QInv U l1 y1 y0 Q R ∧ Q ≤ 4294967297 ∧ R < 4294967296) (fun x _ => (intOf x).toNat)
    case atStart => exact ⟨q, r, rfl, rfl, HQ.out, qle, by omega⟩
    case round =>
      obtain ⟨Q, R, rfl, rfl, hi1, hi2, hi3⟩ := hrel
      obtain ⟨A, hA⟩ : ∃ A, A = Q * y0 := ⟨_, rfl⟩
      have hAl : A < 18446744073709551616 := by
        have := Nat.mul_le_mul hi2 (show y0 ≤ 4294967295 by omega)
        omega
      have g1 : IntKind.u64.wrap ((Q : Int) * (y0 : Int)) = (A : Int) := by rw [mulN, ← hA, wrapN _ hAl]
      obtain ⟨C, hC⟩ : ∃ C, C = 4294967296 * R + l1 := ⟨_, rfl⟩
      have g2 : IntKind.u64.wrap (4294967296 * (R : Int)) = ((4294967296 * R : Nat) : Int) := by
        rw [show (4294967296 : Int) * (R : Int) = ((4294967296 * R : Nat) : Int) by omega, wrapN _ (by omega)]
      have g3 : IntKind.u64.wrap (4294967296 * (R : Int) + (l1 : Int)) = (C : Int) := by
        rw [show (4294967296 : Int) * (R : Int) + (l1 : Int) = (C : Int) by omega, wrapN _ (by omega)]
      have hst := fun h => q_step hi1 (by omega) (by omega) h
      rw [← hA, ← hC] at hst
      have he := q_end hi1
      rw [← hA, ← hC] at he
      have HI := Lib.hid hi1
      have HA := Lib.hid hA
      have HC := Lib.hid hC
      have HST := Lib.hid hst
      obtain ⟨R2, hR2⟩ : ∃ R2, R2 = R + y1 := ⟨_, rfl⟩
      have g5 : IntKind.u64.wrap ((R : Int) + (y1 : Int)) = (R2 : Int) := by rw [addN, ← hR2, wrapN _ (by omega)]
      have HR2 := Lib.hid hR2
      have hlo2 : R2 < 18446744073709551616 := by omega
      clear hi1 hA hC hst he hR2
      by_cases c1 : 4294967296 ≤ Q
      · have d1 : decide (4294967296 ≤ (Q : Int)) = true := decide_eq_true (by omega)
        obtain ⟨q0, q1⟩ := HST.out (.inl c1)
        obtain ⟨Qp, hQp⟩ : ∃ Qp, Qp = Q - 1 := ⟨_, rfl⟩
        have g4 : IntKind.u64.wrap ((Q : Int) - 1) = (Qp : Int) := by rw [show (Q : Int) - 1 = (Qp : Int) by omega, wrapN _ (by omega)]
        have Q1 : Hid (QInv U l1 y1 y0 Qp R2) := by show QInv U l1 y1 y0 Qp R2; rw [hQp, HR2.out]; exact q1
        have hle : Qp ≤ 4294967296 := by omega
        have hlt : Qp < Q := by omega
        clear q1 hQp HST
        by_cases c3 : 4294967296 ≤ R2
        · have d3 : decide (4294967296 ≤ (R2 : Int)) = true := decide_eq_true (by omega)
          have hb := q_break (d := l1) hle c3 (show y0 < 4294967296 by omega)
          have HB := Lib.hid hb
          clear hb
          go_wp2
          go_meet
          exact ⟨Qp, R2, rfl, rfl, Q1.out, HB.out, rfl⟩
        · have d3 : decide (4294967296 ≤ (R2 : Int)) = false := decide_eq_false (by omega)
          go_wp2
          go_round
          case rel => exact ⟨Qp, R2, rfl, rfl, Q1.out, by omega, by omega⟩
          case measure => simp [intOf]; omega
      · have d1 : decide (4294967296 ≤ (Q : Int)) = false := decide_eq_false (by omega)
        by_cases c2 : C < A
        · have d2 : decide (C < A) = true := decide_eq_true c2
          obtain ⟨q0, q1⟩ := HST.out (.inr c2)
          obtain ⟨Qp, hQp⟩ : ∃ Qp, Qp = Q - 1 := ⟨_, rfl⟩
          have g4 : IntKind.u64.wrap ((Q : Int) - 1) = (Qp : Int) := by rw [show (Q : Int) - 1 = (Qp : Int) by omega, wrapN _ (by omega)]
          have Q1 : Hid (QInv U l1 y1 y0 Qp R2) := by show QInv U l1 y1 y0 Qp R2; rw [hQp, HR2.out]; exact q1
          have hle : Qp ≤ 4294967296 := by omega
          have hlt : Qp < Q := by omega
          clear q1 hQp HST
          by_cases c3 : 4294967296 ≤ R2
          · have d3 : decide (4294967296 ≤ (R2 : Int)) = true := decide_eq_true (by omega)
            have hb := q_break (d := l1) hle c3 (show y0 < 4294967296 by omega)
            have HB := Lib.hid hb
            clear hb
            go_wp2
            go_meet
            exact ⟨Qp, R2, rfl, rfl, Q1.out, HB.out, rfl⟩
          · have d3 : decide (4294967296 ≤ (R2 : Int)) = false := decide_eq_false (by omega)
            go_wp2
            go_round
            case rel => exact ⟨Qp, R2, rfl, rfl, Q1.out, by omega, by omega⟩
            case measure => simp [intOf]; omega
        · have d2 : decide (C < A) = false := decide_eq_false c2
          have hfin : Hid (Q * y0 ≤ 4294967296 * R + l1) := by show Q * y0 ≤ 4294967296 * R + l1; rw [← HA.out, ← HC.out]; omega
          clear HST
          go_wp2
          go_meet
          exact ⟨Q, R, rfl, rfl, HI.out, hfin.out, rfl⟩
  case rest =>
    obtain ⟨Q, R, rfl, rfl, hi1, hi2, hwc⟩ := hcut
    subst hwc
    obtain ⟨hq1, hq2⟩ := q_end hi1 hi2
    have hyy : Y = y1 * 4294967296 + y0 := HYY.out
    obtain ⟨hd1, hd2⟩ := q_done hyy hq1 (by omega)
    rw [← hyy] at hq1
    obtain ⟨U2, hU2⟩ : ∃ U2, U2 = (U * 4294967296 + l1) % Y := ⟨_, rfl⟩
    rw [← hU2] at hd1 hd2
    have e13 : IntKind.u64.wrap (IntKind.u64.wrap (IntKind.u64.wrap ((U : Int) * 4294967296) + (l1 : Int)) - IntKind.u64.wrap ((Q : Int) * (Y : Int))) = (U2 : Int) := wrap_far _ _ _ _ _ hd1 (by omega)
    obtain ⟨q2, hq2'⟩ : ∃ q2, q2 = U2 / y1 := ⟨_, rfl⟩
    obtain ⟨p2, hp2⟩ : ∃ p2, p2 = q2 * y1 := ⟨_, rfl⟩
    obtain ⟨r2, hr2⟩ : ∃ r2, r2 = U2 - p2 := ⟨_, rfl⟩
    have hle2 : p2 ≤ U2 := by rw [hp2, hq2']; exact Nat.div_mul_le_self _ _
    have qle2 : q2 ≤ 4294967297 := by rw [hq2']; exact q_top (y0 := y0) (by omega) (by omega) (by omega)
    have HQ2 : Hid (QInv U2 l0 y1 y0 q2 r2) := by
      show QInv U2 l0 y1 y0 q2 r2
      have h := q_start (u := U2) (d := l0) (y1 := y1) (y0 := y0) (by omega) (by omega)
      rw [← hq2', ← hp2, ← hr2] at h
      exact h
    have hrl : r2 < 4294967296 := by
      have h := q_rem (u := U2) (y1 := y1) (by omega)
      rw [← hq2', ← hp2, ← hr2] at h
      omega
    have e14 : IntKind.u64.wrap ((U2 : Int) / (y1 : Int)) = (q2 : Int) := by rw [divN, ← hq2', wrapN _ (by omega)]
    have e15 : IntKind.u64.wrap ((q2 : Int) * (y1 : Int)) = (p2 : Int) := by rw [mulN, ← hp2, wrapN _ (by omega)]
    have e16 : IntKind.u64.wrap ((U2 : Int) - (p2 : Int)) = (r2 : Int) := wrap_sub _ _ _ (by omega) (by omega)
    have hU4 : U2 < y1 * 4294967296 + y0 := by omega
    have HU2 := Lib.hid hU2
    have HQ1 := Lib.hid hq1
    clear hi1 hi2 hq1 hq2 hd1 hU2 hq2' hp2 hr2 hyy
    go_upto_block 2 with fail
    go_cut [18, 16] from 102 to 120 (fun x z wx => ∃ Q R : Nat, x = .int .u64 (Q : Int) ∧ z = .int .u64 (R : Int) ∧ QInv U2 l0 y1 y0 Q R ∧ Q * y0 ≤ 4294967296 * R + l0 ∧ wx = wc)
    case first =>
      go_wp2_with fail
      go_loop [18, 16] (fun x z => ∃ Q R : Nat, x = .int .u64 (Q : Int) ∧ z = .int .u64 (R : Int) ∧ QInv U2 l0 y1 y0 Q R ∧ Q ≤ 4294967297 ∧ R < 4294967296) (fun x _ => (intOf x).toNat)
      case atStart => exact ⟨q2, r2, rfl, rfl, HQ2.out, qle2, by omega⟩
      case round =>
        obtain ⟨Q, R, rfl, rfl, hi1, hi2, hi3⟩ := hrel
        obtain ⟨A, hA⟩ : ∃ A, A = Q * y0 := ⟨_, rfl⟩
        have hAl : A < 18446744073709551616 := by
          have := Nat.mul_le_mul hi2 (show y0 ≤ 4294967295 by omega)
          omega
        have g1 : IntKind.u64.wrap ((Q : Int) * (y0 : Int)) = (A : Int) := by rw [mulN, ← hA, wrapN _ hAl]
        obtain ⟨C, hC⟩ : ∃ C, C = 4294967296 * R + l0 := ⟨_, rfl⟩
        have g2 : IntKind.u64.wrap (4294967296 * (R : Int)) = ((4294967296 * R : Nat) : Int) := by
          rw [show (4294967296 : Int) * (R : Int) = ((4294967296 * R : Nat) : Int) by omega, wrapN _ (by omega)]
        have g3 : IntKind.u64.wrap (4294967296 * (R : Int) + (l0 : Int)) = (C : Int) := by
          rw [show (4294967296 : Int) * (R : Int) + (l0 : Int) = (C : Int) by omega, wrapN _ (by omega)]
        have hst := fun h => q_step hi1 (by omega) (by omega) h
        rw [← hA, ← hC] at hst
        have he := q_end hi1
        rw [← hA, ← hC] at he
        have HI := Lib.hid hi1
        have HA := Lib.hid hA
        have HC := Lib.hid hC
        have HST := Lib.hid hst
        obtain ⟨R2, hR2⟩ : ∃ R2, R2 = R + y1 := ⟨_, rfl⟩
        have g5 : IntKind.u64.wrap ((R : Int) + (y1 : Int)) = (R2 : Int) := by rw [addN, ← hR2, wrapN _ (by omega)]
        have HR2 := Lib.hid hR2
        have hlo2 : R2 < 18446744073709551616 := by omega
        clear hi1 hA hC hst he hR2
        by_cases c1 : 4294967296 ≤ Q
        · have d1 : decide (4294967296 ≤ (Q : Int)) = true := decide_eq_true (by omega)
          obtain ⟨q0, q1⟩ := HST.out (.inl c1)
          obtain ⟨Qp, hQp⟩ : ∃ Qp, Qp = Q - 1 := ⟨_, rfl⟩
          have g4 : IntKind.u64.wrap ((Q : Int) - 1) = (Qp : Int) := by rw [show (Q : Int) - 1 = (Qp : Int) by omega, wrapN _ (by omega)]
          have Q1 : Hid (QInv U2 l0 y1 y0 Qp R2) := by show QInv U2 l0 y1 y0 Qp R2; rw [hQp, HR2.out]; exact q1
          have hle : Qp ≤ 4294967296 := by omega
          have hlt : Qp < Q := by omega
          clear q1 hQp HST
          by_cases c3 : 4294967296 ≤ R2
          · have d3 : decide (4294967296 ≤ (R2 : Int)) = true := decide_eq_true (by omega)
            have hb := q_break (d := l0) hle c3 (show y0 < 4294967296 by omega)
            have HB := Lib.hid hb
            clear hb
            go_wp2
            go_meet
            exact ⟨Qp, R2, rfl, rfl, Q1.out, HB.out, rfl⟩
          · have d3 : decide (4294967296 ≤ (R2 : Int)) = false := decide_eq_false (by omega)
            go_wp2
            go_round
            case rel => exact ⟨Qp, R2, rfl, rfl, Q1.out, by omega, by omega⟩
            case measure => simp [intOf]; omega
        · have d1 : decide (4294967296 ≤ (Q : Int)) = false := decide_eq_false (by omega)
          by_cases c2 : C < A
          · have d2 : decide (C < A) = true := decide_eq_true c2
            obtain ⟨q0, q1⟩ := HST.out (.inr c2)
            obtain ⟨Qp, hQp⟩ : ∃ Qp, Qp = Q - 1 := ⟨_, rfl⟩
            have g4 : IntKind.u64.wrap ((Q : Int) - 1) = (Qp : Int) := by rw [show (Q : Int) - 1 = (Qp : Int) by omega, wrapN _ (by omega)]
            have Q1 : Hid (QInv U2 l0 y1 y0 Qp R2) := by show QInv U2 l0 y1 y0 Qp R2; rw [hQp, HR2.out]; exact q1
            have hle : Qp ≤ 4294967296 := by omega
            have hlt : Qp < Q := by omega
            clear q1 hQp HST
            by_cases c3 : 4294967296 ≤ R2
            · have d3 : decide (4294967296 ≤ (R2 : Int)) = true := decide_eq_true (by omega)
              have hb := q_break (d := l0) hle c3 (show y0 < 4294967296 by omega)
              have HB := Lib.hid hb
              clear hb
              go_wp2
              go_meet
              exact ⟨Qp, R2, rfl, rfl, Q1.out, HB.out, rfl⟩
            · have d3 : decide (4294967296 ≤ (R2 : Int)) = false := decide_eq_false (by omega)
              go_wp2
              go_round
              case rel => exact ⟨Qp, R2, rfl, rfl, Q1.out, by omega, by omega⟩
              case measure => simp [intOf]; omega
          · have d2 : decide (C < A) = false := decide_eq_false c2
            have hfin : Hid (Q * y0 ≤ 4294967296 * R + l0) := by show Q * y0 ≤ 4294967296 * R + l0; rw [← HA.out, ← HC.out]; omega
            clear HST
            go_wp2
            go_meet
            exact ⟨Q, R, rfl, rfl, HI.out, hfin.out, rfl⟩
    case rest =>
      obtain ⟨Q2, R', rfl, rfl, hj1, hj2, hwc2⟩ := hcut
      subst hwc2
      obtain ⟨hk1, hk2⟩ := q_end hj1 hj2
      have hyy : Y = y1 * 4294967296 + y0 := HYY.out
      obtain ⟨hm1, hm2⟩ := q_done hyy hk1 (by omega)
      rw [← hyy] at hk1
      obtain ⟨V, hV⟩ : ∃ V, V = (U2 * 4294967296 + l0) % Y := ⟨_, rfl⟩
      rw [← hV] at hm1 hm2
      have e17 : IntKind.u64.wrap (IntKind.u64.wrap (IntKind.u64.wrap ((U2 : Int) * 4294967296) + (l0 : Int)) - IntKind.u64.wrap ((Q2 : Int) * (Y : Int))) = (V : Int) := wrap_far _ _ _ _ _ hm1 (by omega)
      have hLL : L = l1 * 4294967296 + l0 := HL.out
      have hdt := div_two 4294967296 U l1 l0 Y (by omega)
      rw [← HQ1.out, ← HU2.out, ← hk1, ← hV] at hdt
      have hfit : Q * 4294967296 + Q2 < 18446744073709551616 := by
        have h1 : Q < 4294967296 := by rw [HQ1.out, Nat.div_lt_iff_lt_mul (by omega)]; omega
        have h2 : Q2 < 4294967296 := by rw [hk1, Nat.div_lt_iff_lt_mul (by omega)]; omega
        omega
      have HT := Lib.hid hdt
      have HLL := Lib.hid hLL
      clear hj1 hj2 hk1 hk2 hm1 hV hyy hLL hdt
      go_wp2
      go_ret2
      refine ⟨?_, 0, rfl⟩
      rw [HW.out]
      have hB : U * 18446744073709551616 + L = U * (4294967296 * 4294967296) + (l1 * 4294967296 + l0) := by rw [← HLL.out]
      rw [hB, HT.out.1, HT.out.2]
      exact ret_uu (by omega) (by simp)
theorem div_calls (hi lo y : Nat) (h1 : hi < y) (h2 : y < 2305843009213693952) (hlo : lo < 18446744073709551616) (w : World) :
    Calls Tryz.prog 88 #[.int .u64 (hi : Int), .int .u64 (lo : Int), .int .u64 (y : Int)] w fun e w' => e = .returned (DivV hi lo y) ∧ ∃ n, w' = w.drewN n := by
  rcases Nat.eq_zero_or_pos hi with h | h
  · exact div_zero hi lo y h (by omega) (by omega) hlo w
  · exact div_big hi lo y h h1 h2 hlo w

/-- The product modulo n. -/
theorem mult_calls (n a b : Nat) (hn : n < 2305843009213693952) (ha : a < n) (hb : b < 9223372036854775808) (w : World) :
    Calls Tryz.prog 69 #[.int .i64 (n : Int), .int .i64 (a : Int), .int .i64 (b : Int)] w fun e w' => e = .returned (.int .i64 ((a * b % n : Nat) : Int)) ∧ ∃ m, w' = w.drewN m := by
  have hm := fun w => Tryz.bits_Mul64 a b (by omega) (by omega) w
  have hlt : a * b / 18446744073709551616 < n := by
    rw [Nat.div_lt_iff_lt_mul (by omega)]
    have h1 := Nat.mul_le_mul_left a (show b ≤ 18446744073709551615 by omega)
    have h2 := Nat.mul_lt_mul_of_pos_right ha (show 0 < 18446744073709551616 by omega)
    omega
  have hd := fun w => div_calls (a * b / 18446744073709551616) (a * b % 18446744073709551616) n hlt hn (Nat.mod_lt _ (by omega)) w
  have hdm := Nat.div_add_mod (a * b) 18446744073709551616
  have hr : Hid (DivV (a * b / 18446744073709551616) (a * b % 18446744073709551616) n = .tuple #[.int .u64 ((a * b / n : Nat) : Int), .int .u64 ((a * b % n : Nat) : Int)]) := by
    show DivV (a * b / 18446744073709551616) (a * b % 18446744073709551616) n = .tuple #[.int .u64 ((a * b / n : Nat) : Int), .int .u64 ((a * b % n : Nat) : Int)]
    unfold DivV
    rw [Nat.mul_comm, hdm] 
  have hml : a * b % n < n := Nat.mod_lt _ (by omega)
  generalize a * b / 18446744073709551616 = h at *
  generalize a * b % 18446744073709551616 = l at *
  generalize a * b / n = q at *
  generalize a * b % n = r at *
  clear hdm
  rw [hr.out] at hd
  have HM := fun w => Lib.hid (hm w)
  have HD := fun w => Lib.hid (hd w)
  clear hm hd hr
  go_enter Tryz.func69, Tryz.ntmps69
  go_wp2_with fail
  refine (HM _).out.mono ?_
  rintro e w' ⟨rfl, hw⟩
  subst hw
  go_wp2_with fail
  refine (HD _).out.mono ?_
  rintro e w1 ⟨rfl, m, hw⟩
  subst hw
  go_wp2
  go_ret
  exact ⟨rfl, m, rfl⟩
end Go.Proofs.YthnkfjjgccabeaaGreatDoor
