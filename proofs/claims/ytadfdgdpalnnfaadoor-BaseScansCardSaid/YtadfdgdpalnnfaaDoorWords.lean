/- isValue, Name, Number, quoted, Quote. -/
import Derived.Test.YtadfdgdpalnnfaaDoorSkip
import Derived.Lib.ReplaceLaws
namespace Go.Proofs.YtadfdgdpalnnfaaDoor
open Go.RowKit

set_option maxRecDepth 100000 in
theorem isValue_calls (l : List UInt8) (hl : l.length ≤ 4294967296) (w : World) :
    Calls Tryd.prog 28 #[.string (bs l)] w fun e w' => e = .returned (.bool (isVal l)) ∧ Below w.heap.size w w' := by
  have hS := fun w => Lib.hid (span_quot l hl w)
  have hz := bs_size l
  obtain ⟨y, hy⟩ : ∃ y, y = isVal l := ⟨_, rfl⟩
  rw [← hy]
  unfold isVal at hy
  generalize spanL isQt l = a at *
  generalize l.length = n at *
  by_cases h : n ≤ 400
  · have hI : (((bs l).size : Nat) : Int) ≤ 400 := by omega
    have HY := Lib.hid hy
    have HZ := Lib.hid hz
    clear hy hz
    go_enter Tryd.func28, Tryd.ntmps28
    go_wp2_with fail
    refine (hS _).out.mono ?_
    rintro e w1 ⟨rfl, hb⟩
    go_wp2
    go_ret
    refine ⟨ret_b ?_, hb⟩
    rw [HY.out, HZ.out, decide_eq_true h, Bool.eq_iff_iff]
    simp; omega
  · have hI : ¬ (((bs l).size : Nat) : Int) ≤ 400 := by omega
    have HY := Lib.hid hy
    clear hy hz
    go_enter Tryd.func28, Tryd.ntmps28
    go_wp2
    go_ret
    refine ⟨ret_b ?_, Below.refl _ _⟩
    rw [HY.out, decide_eq_false h]
    rfl

theorem emp_nil : (bs []).toList.isEmpty = true := by rw [Lib.toList_data, bs_data]; rfl
theorem emp_cons (c : UInt8) (l : List UInt8) : (bs (c :: l)).toList.isEmpty = false := by rw [Lib.toList_data, bs_data]; rfl

set_option maxRecDepth 100000 in
theorem name_calls (l : List UInt8) (hl : l.length ≤ 4294967296) (w : World) :
    Calls Tryd.prog 17 #[.string (bs l)] w fun e w' => e = .returned (.bool (isName l)) ∧ Below w.heap.size w w' := by
  cases l with
  | nil =>
    have hq := emp_nil
    go_enter Tryd.func17, Tryd.ntmps17
    go_wp2
    go_ret
    exact ⟨rfl, Below.refl _ _⟩
  | cons c r =>
    have hq := emp_cons c r
    have hS := fun w => Lib.hid (span_name (c :: r) hl w)
    have hz := bs_size (c :: r)
    have h0 : 0 < (bs (c :: r)).size := by rw [hz]; simp
    have hg := bs_get (c :: r) 0 h0 (by simp)
    have hC := fun w => Lib.hid (cls_letter ((bs (c :: r))[0]'h0) w)
    rw [hg] at hC
    obtain ⟨y, hy1⟩ : ∃ y, y = isName (c :: r) := ⟨_, rfl⟩
    rw [← hy1]
    have hy : y = (decide ((c :: r).length ≤ 20) && isLet c && decide (spanL isNm (c :: r) = (c :: r).length)) := hy1
    clear hy1
    generalize spanL isNm (c :: r) = a at *
    simp only [List.getElem_cons_zero] at hC
    generalize isLet c = b at *
    generalize (c :: r).length = n at *
    have HG := Lib.hid hg
    clear hg
    by_cases h : n ≤ 20
    · have hI : (((bs (c :: r)).size : Nat) : Int) ≤ 20 := by omega
      have HY := Lib.hid hy
      have HZ := Lib.hid hz
      clear hy hz
      go_enter Tryd.func17, Tryd.ntmps17
      go_wp2_with fail
      rw [HG.out]
      refine (hC _).out.mono ?_
      rintro e w1 ⟨rfl, rfl⟩
      cases b
      · go_wp2
        go_ret
        refine ⟨ret_b ?_, Below.refl _ _⟩
        rw [HY.out, decide_eq_true h]
        rfl
      · go_wp2_with fail
        refine (hS _).out.mono ?_
        rintro e w2 ⟨rfl, hb⟩
        go_wp2
        go_ret
        refine ⟨ret_b ?_, hb⟩
        rw [HY.out, HZ.out, decide_eq_true h, Bool.eq_iff_iff]
        simp; omega
    · have hI : ¬ (((bs (c :: r)).size : Nat) : Int) ≤ 20 := by omega
      have HY := Lib.hid hy
      clear hy hz
      go_enter Tryd.func17, Tryd.ntmps17
      go_wp2
      go_ret
      refine ⟨ret_b ?_, Below.refl _ _⟩
      rw [HY.out, decide_eq_false h]
      rfl

set_option maxRecDepth 100000 in
theorem number_calls (l : List UInt8) (hl : l.length ≤ 4294967296) (w : World) (hE : Env w) :
    Calls Tryd.prog 12 #[.string (bs l)] w fun e w' => e = .returned (.tuple #[.int .i64 ((numL l).getD 0), .bool (numL l).isSome]) ∧ Below w.heap.size w w' := by
  have hC := canonical l hl w hE
  have hN : numL l = match canon l with | none => none | some n => if n < 0 ∨ 1099511627776 < n then none else some n := rfl
  generalize numL l = y at *
  generalize canon l = z at *
  have HC := Lib.hid hC
  clear hC
  cases z with
  | none =>
    subst hN
    go_enter Tryd.func12, Tryd.ntmps12
    go_wp2_with fail
    refine HC.out.mono ?_
    rintro e w1 ⟨rfl, hb⟩
    go_wp2
    go_ret2
    exact ⟨rfl, hb⟩
  | some n =>
    simp only at hN
    by_cases h1 : n < 0
    · rw [if_pos (Or.inl h1)] at hN
      subst hN
      go_enter Tryd.func12, Tryd.ntmps12
      go_wp2_with fail
      refine HC.out.mono ?_
      rintro e w1 ⟨rfl, hb⟩
      go_wp2
      go_ret2
      exact ⟨rfl, hb⟩
    · by_cases h2 : 1099511627776 < n
      · rw [if_pos (Or.inr h2)] at hN
        subst hN
        go_enter Tryd.func12, Tryd.ntmps12
        go_wp2_with fail
        refine HC.out.mono ?_
        rintro e w1 ⟨rfl, hb⟩
        go_wp2
        go_ret2
        exact ⟨rfl, hb⟩
      · rw [if_neg (by omega)] at hN
        subst hN
        go_enter Tryd.func12, Tryd.ntmps12
        go_wp2_with fail
        refine HC.out.mono ?_
        rintro e w1 ⟨rfl, hb⟩
        go_wp2
        go_ret2
        exact ⟨rfl, hb⟩
end Go.Proofs.YtadfdgdpalnnfaaDoor
