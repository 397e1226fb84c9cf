/- Moduli, residues, sums and differences. -/
import Derived.Test.YthnkfjjgccabeaaGreatDoorNum2
import Derived.Test.YthnkfjjgccabeaaGreatDoorShelf
import Derived.WalkKit
import Derived.Calls
import Derived.LoopTactic
import Derived.Lib.Hide
import Derived.Outline
import Derived.Laws.BitsAllLaws
namespace Go.Proofs.YthnkfjjgccabeaaGreatDoor
open Go.RowKit

theorem ret_i {k : IntKind} {a b : Int} (h : a = b) : Ending.returned (.int k a) = .returned (.int k b) := by rw [h]
theorem ret_b {x y : Bool} (h : x = y) : Ending.returned (.bool x) = .returned (.bool y) := by rw [h]
theorem ret_ib {a b : Int} {x y : Bool} (h : a = b) (k : x = y) : Ending.returned (.tuple #[.int .i64 a, .bool x]) = .returned (.tuple #[.int .i64 b, .bool y]) := by rw [h, k]

theorem ismod_yes (n : Int) (h : isMod n) (w : World) : Calls Tryz.prog 68 #[.int .i64 n] w fun e w' => e = .returned (.bool true) ∧ w = w' := by
  obtain ⟨h1, h2⟩ := h
  have d1 : decide (1 ≤ n) = true := decide_eq_true h1
  have d2 : decide (n < 2305843009213693952) = true := decide_eq_true h2
  go_enter Tryz.func68, Tryz.ntmps68
  go_wp2
  go_ret
  exact ⟨rfl, rfl⟩
theorem ismod_no (n : Int) (h : ¬ isMod n) (w : World) : Calls Tryz.prog 68 #[.int .i64 n] w fun e w' => e = .returned (.bool false) ∧ w = w' := by
  by_cases h1 : 1 ≤ n
  · have h2 : ¬ n < 2305843009213693952 := fun h2 => h ⟨h1, h2⟩
    clear h
    have d1 : decide (1 ≤ n) = true := decide_eq_true h1
    have d2 : decide (n < 2305843009213693952) = false := decide_eq_false h2
    go_enter Tryz.func68, Tryz.ntmps68
    go_wp2
    go_ret
    exact ⟨rfl, rfl⟩
  · clear h
    have d1 : decide (1 ≤ n) = false := decide_eq_false h1
    go_enter Tryz.func68, Tryz.ntmps68
    go_wp2
    go_ret
    exact ⟨rfl, rfl⟩
theorem tmod_bounds (a n : Int) (hn : 0 < n) : -n < a.tmod n ∧ a.tmod n < n := by
  have := Int.tmod_lt_of_pos a hn
  have h2 := Int.tmod_lt_of_pos (-a) hn
  rw [Int.neg_tmod] at h2
  omega
theorem tmod_fix (a n : Int) (hn : 0 < n) : a % n = if a.tmod n < 0 then a.tmod n + n else a.tmod n := by
  have hb := tmod_bounds a n hn
  have h1 := Int.tmod_eq_emod (a := a) (b := n)
  have hm := Int.emod_nonneg a (show n ≠ 0 by omega)
  have hl := Int.emod_lt_of_pos a hn
  split at h1
  · rw [if_neg (by omega)]; omega
  · rw [show (n.natAbs : Int) = n by omega] at h1
    rw [if_pos (by omega)]; omega
theorem residue_calls (n a : Int) (hn : isMod n) (_ : -9223372036854775808 ≤ a) (_ : a ≤ 9223372036854775807) (w : World) :
    Calls Tryz.prog 67 #[.int .i64 n, .int .i64 a] w fun e w' => e = .returned (.int .i64 (a % n)) ∧ w = w' := by
  obtain ⟨hn1, hn2⟩ := hn
  have hb := tmod_bounds a n (by omega)
  have hf := tmod_fix a n (by omega)
  have HF := Lib.hid hf
  clear hf
  obtain ⟨hb1, hb2⟩ := hb
  go_enter Tryz.func67, Tryz.ntmps67
  by_cases hs : a.tmod n < 0
  · go_wp2
    go_ret
    exact ⟨ret_i (by rw [HF.out, if_pos hs]), rfl⟩
  · go_wp2
    go_ret
    exact ⟨ret_i (by rw [HF.out, if_neg (by omega)]), rfl⟩
/-- An int. -/
def isInt (a : Int) : Prop := -9223372036854775808 ≤ a ∧ a ≤ 9223372036854775807
theorem res_in (n a : Int) (hn : isMod n) : 0 ≤ a % n ∧ a % n < n := by
  obtain ⟨h1, h2⟩ := hn
  exact ⟨Int.emod_nonneg _ (by omega), Int.emod_lt_of_pos _ (by omega)⟩
theorem add_calls (n a b : Int) (ha : isInt a) (hb : isInt b) (w : World) :
    Calls Tryz.prog 48 #[.int .i64 n, .int .i64 a, .int .i64 b] w fun e w' => e = .returned (.int .i64 (addZ n a b)) ∧ w = w' := by
  obtain ⟨ha1, ha2⟩ := ha
  obtain ⟨hb1, hb2⟩ := hb
  by_cases hn : isMod n
  · obtain ⟨r1, r2⟩ := res_in n a hn
    obtain ⟨r3, r4⟩ := res_in n b hn
    obtain ⟨hn1, hn2⟩ := id hn
    have HN := Lib.hid hn
    have HE : Hid (addZ n a b = (a % n + b % n) % n) := by
      show addZ n a b = (a % n + b % n) % n
      unfold addZ; rw [if_pos hn, ← Int.add_emod]
    clear hn
    have c1 := residue_calls n a HN.out ha1 ha2
    have c2 := residue_calls n b HN.out hb1 hb2
    have c3 := residue_calls n (a % n + b % n) HN.out (by omega) (by omega)
    generalize a % n = x at *
    generalize b % n = y at *
    have C1 := fun w => Lib.hid (c1 w)
    have C2 := fun w => Lib.hid (c2 w)
    have C3 := fun w => Lib.hid (c3 w)
    clear c1 c2 c3
    go_enter Tryz.func48, Tryz.ntmps48
    go_wp2_with fail
    refine (ismod_yes n HN.out _).mono ?_
    rintro e w' ⟨rfl, rfl⟩
    go_wp2_with fail
    refine (C1 _).out.mono ?_
    rintro e w' ⟨rfl, rfl⟩
    go_wp2_with fail
    refine (C2 _).out.mono ?_
    rintro e w' ⟨rfl, rfl⟩
    go_wp2_with fail
    refine (C3 _).out.mono ?_
    rintro e w' ⟨rfl, rfl⟩
    go_wp2
    go_ret
    exact ⟨ret_i HE.out.symm, rfl⟩
  · have HN := Lib.hid hn
    have HE : Hid (addZ n a b = 0) := by show addZ n a b = 0; unfold addZ; rw [if_neg hn]
    clear hn
    go_enter Tryz.func48, Tryz.ntmps48
    go_wp2_with fail
    refine (ismod_no n HN.out _).mono ?_
    rintro e w' ⟨rfl, rfl⟩
    go_wp2
    go_ret
    exact ⟨ret_i HE.out.symm, rfl⟩
theorem sub_calls (n a b : Int) (ha : isInt a) (hb : isInt b) (w : World) :
    Calls Tryz.prog 50 #[.int .i64 n, .int .i64 a, .int .i64 b] w fun e w' => e = .returned (.int .i64 (subZ n a b)) ∧ w = w' := by
  obtain ⟨ha1, ha2⟩ := ha
  obtain ⟨hb1, hb2⟩ := hb
  by_cases hn : isMod n
  · obtain ⟨r1, r2⟩ := res_in n a hn
    obtain ⟨r3, r4⟩ := res_in n b hn
    obtain ⟨hn1, hn2⟩ := id hn
    have HN := Lib.hid hn
    have HE : Hid (subZ n a b = (a % n - b % n) % n) := by
      show subZ n a b = (a % n - b % n) % n
      unfold subZ; rw [if_pos hn, ← Int.sub_emod]
    clear hn
    have c1 := residue_calls n a HN.out ha1 ha2
    have c2 := residue_calls n b HN.out hb1 hb2
    have c3 := residue_calls n (a % n - b % n) HN.out (by omega) (by omega)
    generalize a % n = x at *
    generalize b % n = y at *
    have C1 := fun w => Lib.hid (c1 w)
    have C2 := fun w => Lib.hid (c2 w)
    have C3 := fun w => Lib.hid (c3 w)
    clear c1 c2 c3
    go_enter Tryz.func50, Tryz.ntmps50
    go_wp2_with fail
    refine (ismod_yes n HN.out _).mono ?_
    rintro e w' ⟨rfl, rfl⟩
    go_wp2_with fail
    refine (C1 _).out.mono ?_
    rintro e w' ⟨rfl, rfl⟩
    go_wp2_with fail
    refine (C2 _).out.mono ?_
    rintro e w' ⟨rfl, rfl⟩
    go_wp2_with fail
    refine (C3 _).out.mono ?_
    rintro e w' ⟨rfl, rfl⟩
    go_wp2
    go_ret
    exact ⟨ret_i HE.out.symm, rfl⟩
  · have HN := Lib.hid hn
    have HE : Hid (subZ n a b = 0) := by show subZ n a b = 0; unfold subZ; rw [if_neg hn]
    clear hn
    go_enter Tryz.func50, Tryz.ntmps50
    go_wp2_with fail
    refine (ismod_no n HN.out _).mono ?_
    rintro e w' ⟨rfl, rfl⟩
    go_wp2
    go_ret
    exact ⟨ret_i HE.out.symm, rfl⟩

/-- What Inv returns. -/
def InvV (n a : Int) : Value := if isMod n then (match invZ n a with
    | some x => .tuple #[.int .i64 (x : Int), .bool true]
    | none => .tuple #[.int .i64 0, .bool false]) else .tuple #[.int .i64 0, .bool false]
theorem ret_of {v u : Value} (h : v = u) : Ending.returned v = .returned u := by rw [h]
theorem inv_calls (n a : Int) (ha : isInt a) (w : World) :
    Calls Tryz.prog 86 #[.int .i64 n, .int .i64 a] w fun e w' => e = .returned (InvV n a) ∧ w = w' := by
  obtain ⟨ha1, ha2⟩ := ha
  by_cases hn : isMod n
  · obtain ⟨r1, r2⟩ := res_in n a hn
    obtain ⟨hn1, hn2⟩ := id hn
    have HN := Lib.hid hn
    have HE : Hid (InvV n a = InvV n (a % n)) := by
      show InvV n a = InvV n (a % n)
      unfold InvV; rw [invZ_mod]
    clear hn
    have c1 := residue_calls n a HN.out ha1 ha2
    generalize a % n = x at *
    have C1 := fun w => Lib.hid (c1 w)
    clear c1
    go_enter Tryz.func86, Tryz.ntmps86
    go_wp2_with fail
    refine (ismod_yes n HN.out _).mono ?_
    rintro e w' ⟨rfl, rfl⟩
    go_wp2_with fail
    refine (C1 _).out.mono ?_
    rintro e w' ⟨rfl, rfl⟩
    clear C1
    go_wp2_with fail
    go_loop [6, 7, 8, 9] (fun r s x' y' => ∃ R S X Y : Int, r = .int .i64 R ∧ s = .int .i64 S ∧ x' = .int .i64 X ∧ y' = .int .i64 Y ∧ Euc n x R S X Y ∧ R ≤ n ∧ S ≤ n ∧ -n ≤ X ∧ X ≤ n) (fun _ s _ _ => (intOf s).toNat)
    case atStart => exact ⟨n, x, 0, 1, rfl, rfl, rfl, rfl, Euc.start (by omega) r1, by omega, by omega, by omega, by omega⟩
    case round =>
      obtain ⟨R, S, X, Y, rfl, rfl, rfl, rfl, hE, hR, hS, hX1, hX2⟩ := hrel
      have hR0 := hE.r0
      have hS0 := hE.s0
      by_cases hs : 0 < S
      · obtain ⟨hE2, b1, b2, b3, b4, b5, b6, b7, b8, b9, b10, b11, b12, b13, b14⟩ := hE.next hs
        have HE2 : Hid (Euc n x S (R - R / S * S) Y (X - R / S * Y)) := hE2
        have hne : (S != 0) = true := bne_iff_ne.2 (by omega)
        have d1 : -9223372036854775808 ≤ R / S * Y := by omega
        have d2 : R / S * Y ≤ 9223372036854775807 := by omega
        clear hE hE2
        go_wp2
        go_round
        case rel => exact ⟨S, R - R / S * S, Y, X - R / S * Y, by go_num, by go_num, by go_num, by go_num, HE2.out, by omega, by omega, by omega, by omega⟩
        case measure => simp [intOf]; omega
      · obtain rfl : S = 0 := by omega
        by_cases h1 : R = 1
        · subst h1
          have hd := hE.done_one (by omega)
          have HD : Hid (InvV n x = .tuple #[.int .i64 (X % n), .bool true]) := by
            show InvV n x = .tuple #[.int .i64 (X % n), .bool true]
            unfold InvV
            rw [if_pos HN.out, hd]
            have := Int.emod_nonneg X (show n ≠ 0 by omega)
            show Value.tuple #[.int .i64 ((X % n).toNat : Int), .bool true] = _
            rw [Int.toNat_of_nonneg this]
          clear hd hE
          go_wp2_with fail
          refine (residue_calls n X HN.out (by omega) (by omega) _).mono ?_
          rintro e w' ⟨rfl, rfl⟩
          go_wp2
          go_ret2
          exact ⟨ret_of (HE.out.trans HD.out).symm, rfl⟩
        · have hd := hE.done_not h1
          have HD : Hid (InvV n x = .tuple #[.int .i64 0, .bool false]) := by
            show InvV n x = .tuple #[.int .i64 0, .bool false]
            unfold InvV
            rw [if_pos HN.out, hd]
          have hne : (R != 1) = true := bne_iff_ne.2 h1
          clear hd hE
          go_wp2
          go_ret2
          exact ⟨ret_of (HE.out.trans HD.out).symm, rfl⟩
  · have HN := Lib.hid hn
    have HE : Hid (InvV n a = .tuple #[.int .i64 0, .bool false]) := by show InvV n a = _; unfold InvV; rw [if_neg hn]
    clear hn
    go_enter Tryz.func86, Tryz.ntmps86
    go_wp2_with fail
    refine (ismod_no n HN.out _).mono ?_
    rintro e w' ⟨rfl, rfl⟩
    go_wp2
    go_ret2
    exact ⟨ret_of HE.out.symm, rfl⟩
end Go.Proofs.YthnkfjjgccabeaaGreatDoor
