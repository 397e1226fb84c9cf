/- Valid names. -/
import Derived.Test.YtkfmhibdoapndaaDoorCodq
namespace Go.Proofs.YtkfmhibdoapndaaDoor
open Go.RowKit
def isDig (c : UInt8) : Bool := decide (48 ≤ c.toNat ∧ c.toNat ≤ 57)
def isLet (c : UInt8) : Bool := decide ((97 ≤ c.toNat ∧ c.toNat ≤ 122) ∨ (65 ≤ c.toNat ∧ c.toNat ≤ 90))
def isNm (c : UInt8) : Bool := isLet c || isDig c || decide (c.toNat = 95)
/-- How many bytes at the beginning are in a class. -/
def spanL (p : UInt8 → Bool) : List UInt8 → Nat
  | [] => 0
  | c :: l => if p c = true then spanL p l + 1 else 0
theorem spanL_le (p : UInt8 → Bool) : ∀ l, spanL p l ≤ l.length
  | [] => Nat.le_refl _
  | c :: l => by
    unfold spanL
    have := spanL_le p l
    split <;> simp <;> omega
theorem spanL_all (p : UInt8 → Bool) : ∀ l, spanL p l = l.length ↔ ∀ x ∈ l, p x = true
  | [] => by simp [spanL]
  | c :: l => by
    have ih := spanL_all p l
    have hl := spanL_le p l
    unfold spanL
    by_cases h : p c = true
    · rw [if_pos h]; simp [h, ← ih]
    · rw [if_neg h]; simp [h]
/-- Whether a string is a name. -/
def isName : List UInt8 → Bool
  | [] => false
  | c :: l => decide ((c :: l).length ≤ 20) && isLet c && decide (spanL isNm (c :: l) = (c :: l).length)
/-- A function of the program is a class of bytes. -/
def Cls (f : FuncId) (p : UInt8 → Bool) : Prop := ∀ (c : UInt8) (w : World), Calls Tryd.prog f #[.int .u8 (c.toNat : Int)] w fun e w' => e = .returned (.bool (p c)) ∧ w = w'
theorem cls_digit : Cls 54 isDig := by
  intro c w
  unfold isDig
  generalize c.toNat = n
  go_enter Tryd.func54, Tryd.ntmps54
  by_cases h1 : 48 ≤ n
  · have e1 : (48 : Int) ≤ (n : Int) := by omega
    go_wp2
    go_ret
    refine ⟨ret_b ?_, rfl⟩
    rw [decide_eq_decide]; omega
  · have e1 : ¬ (48 : Int) ≤ (n : Int) := by omega
    go_wp2
    go_ret
    exact ⟨ret_b (by simp), rfl⟩
theorem cls_letter : Cls 41 isLet := by
  intro c w
  unfold isLet
  generalize c.toNat = n
  go_enter Tryd.func41, Tryd.ntmps41
  by_cases h1 : 97 ≤ n
  · have e1 : (97 : Int) ≤ (n : Int) := by omega
    by_cases h2 : n ≤ 122
    · have e2 : (n : Int) ≤ 122 := by omega
      go_wp2
      go_ret
      exact ⟨ret_b (by simp [h1, h2]), rfl⟩
    · have e2 : ¬ (n : Int) ≤ 122 := by omega
      have e3 : (65 : Int) ≤ (n : Int) := by omega
      go_wp2
      go_ret
      exact ⟨ret_b (by rw [Bool.eq_iff_iff]; simp; omega), rfl⟩
  · have e1 : ¬ (97 : Int) ≤ (n : Int) := by omega
    by_cases h3 : 65 ≤ n
    · have e3 : (65 : Int) ≤ (n : Int) := by omega
      go_wp2
      go_ret
      exact ⟨ret_b (by rw [Bool.eq_iff_iff]; simp; omega), rfl⟩
    · have e3 : ¬ (65 : Int) ≤ (n : Int) := by omega
      go_wp2
      go_ret
      exact ⟨ret_b (by simp), rfl⟩
theorem cls_name : Cls 43 isNm := by
  intro c w
  have hl := Lib.hid (cls_letter c w)
  have hd := Lib.hid (cls_digit c w)
  have e95 : decide (c.toNat = 95) = ((c.toNat : Int) == 95) := by
    by_cases h : c.toNat = 95
    · simp [h]
    · have : ((c.toNat : Int) == 95) = false := beq_eq_false_iff_ne.2 (by omega)
      simp [h, this]
  unfold isNm
  rw [e95]
  clear e95
  generalize isLet c = a at *
  generalize isDig c = d at *
  go_enter Tryd.func43, Tryd.ntmps43
  go_wp2_with fail
  refine hl.out.mono ?_
  rintro e w1 ⟨rfl, rfl⟩
  cases a
  · go_wp2_with fail
    refine hd.out.mono ?_
    rintro e w1 ⟨rfl, rfl⟩
    cases d
    · go_wp2
      go_ret
      exact ⟨ret_b (by simp), rfl⟩
    · go_wp2
      go_ret
      exact ⟨ret_b (by simp), rfl⟩
  · go_wp2
    go_ret
    exact ⟨ret_b (by simp), rfl⟩
theorem ret_int {a b : Int} (h : a = b) : Ending.returned (.int .i64 a) = .returned (.int .i64 b) := by rw [h]
theorem span_step {p : UInt8 → Bool} {l : List UInt8} {k : Nat} (hk : k < l.length) : (p l[k] = true → spanL p (l.drop k) = spanL p (l.drop (k + 1)) + 1) ∧ (p l[k] = false → spanL p (l.drop k) = 0) := by
  rw [List.drop_eq_getElem_cons hk]
  constructor
  · intro h; simp [spanL, h]
  · intro h; simp [spanL, h]
set_option maxRecDepth 100000 in
theorem span_name (l : List UInt8) (hl : l.length ≤ 4294967296) (w : World) :
    Calls Tryd.prog 42 #[.string (bs l), .func (.func 43) #[] #[]] w fun e w' => e = .returned (.int .i64 (spanL isNm l : Int)) ∧ Below w.heap.size w w' := by
  have hsm : (bs l).size ≤ 4294967296 := by rw [bs_size]; exact hl
  go_enter Tryd.func42, Tryd.ntmps42
  go_wp2
  go_loopw [5] (fun i wr => ∃ k : Nat, k ≤ l.length ∧ i = .int .i64 k ∧ Below w.heap.size w wr ∧ k + spanL isNm (l.drop k) = spanL isNm l) (fun i _ => l.length - (intOf i).toNat)
  case atStart => exact ⟨0, Nat.zero_le _, rfl, Below.refl _ _, by simp⟩
  case round =>
    obtain ⟨k, hk, rfl, hb, hsp⟩ := hrel
    have HS := Lib.hid hsp
    clear hsp
    by_cases hlt : k < l.length
    · have hlt2 : k < (bs l).size := by rw [bs_size]; exact hlt
      have hg := Lib.hid (bs_get l k hlt2 hlt)
      have hkI : (k : Int) < ((bs l).size : Int) := by omega
      have hst := Lib.hid (span_step (p := isNm) hlt)
      have hc := cls_name ((bs l)[k]'hlt2) wr
      rw [congrArg isNm hg.out] at hc
      generalize hx : isNm l[k] = x at hc
      have HX := Lib.hid hx
      have HC := Lib.hid hc
      clear hx hc
      go_wp2_with fail
      refine HC.out.mono ?_
      rintro e w1 ⟨rfl, rfl⟩
      cases x
      · have hz : (k : Int) = (spanL isNm l : Int) := by have h1 := HS.out; have h2 := hst.out.2 HX.out; omega
        go_wp2
        go_ret
        exact ⟨ret_int (by omega), hb⟩
      · have hs1 := hst.out.1 HX.out
        have hz : k + 1 + spanL isNm (l.drop (k + 1)) = spanL isNm l := by have h1 := HS.out; omega
        go_wp2
        go_roundw
        case rel => exact ⟨k + 1, by omega, by go_num, hb, hz⟩
        case measure => simp [intOf]; omega
    · have hkI : ¬ (k : Int) < ((bs l).size : Int) := by rw [bs_size]; omega
      have e : k = l.length := by omega
      have hz : spanL isNm l = k := by have := HS.out; rw [e, List.drop_length] at this; simp [spanL] at this; omega
      go_wp2
      go_ret
      exact ⟨ret_int (by omega), hb⟩
theorem emp_nil : (bs []).toList.isEmpty = true := by rw [Lib.toList_data, bs_data]; rfl
theorem emp_cons (c : UInt8) (l : List UInt8) : (bs (c :: l)).toList.isEmpty = false := by rw [Lib.toList_data, bs_data]; rfl
set_option maxRecDepth 100000 in
theorem name_calls (l : List UInt8) (hl : l.length ≤ 4294967296) (w : World) :
    Calls Tryd.prog 30 #[.string (bs l)] w fun e w' => e = .returned (.bool (isName l)) ∧ Below w.heap.size w w' := by
  cases l with
  | nil =>
    have hq := emp_nil
    go_enter Tryd.func30, Tryd.ntmps30
    go_wp2
    go_ret
    exact ⟨rfl, Below.refl _ _⟩
  | cons c r =>
    have hq := emp_cons c r
    have hS := fun w => Lib.hid (span_name (c :: r) hl w)
    have hz := bs_size (c :: r)
    have h0 : 0 < (bs (c :: r)).size := by rw [hz]; simp
    have hg := bs_get (c :: r) 0 h0 (by simp)
    have hC := fun w => Lib.hid (cls_letter ((bs (c :: r))[0]'h0) w)
    rw [hg] at hC
    obtain ⟨y, hy1⟩ : ∃ y, y = isName (c :: r) := ⟨_, rfl⟩
    rw [← hy1]
    have hy : y = (decide ((c :: r).length ≤ 20) && isLet c && decide (spanL isNm (c :: r) = (c :: r).length)) := hy1
    clear hy1
    generalize spanL isNm (c :: r) = a at *
    simp only [List.getElem_cons_zero] at hC
    generalize isLet c = b at *
    generalize (c :: r).length = n at *
    have HG := Lib.hid hg
    clear hg
    by_cases h : n ≤ 20
    · have hI : (((bs (c :: r)).size : Nat) : Int) ≤ 20 := by omega
      have HY := Lib.hid hy
      have HZ := Lib.hid hz
      clear hy hz
      go_enter Tryd.func30, Tryd.ntmps30
      go_wp2_with fail
      rw [HG.out]
      refine (hC _).out.mono ?_
      rintro e w1 ⟨rfl, rfl⟩
      cases b
      · go_wp2
        go_ret
        refine ⟨ret_b ?_, Below.refl _ _⟩
        rw [HY.out, decide_eq_true h]
        rfl
      · go_wp2_with fail
        refine (hS _).out.mono ?_
        rintro e w2 ⟨rfl, hb⟩
        go_wp2
        go_ret
        refine ⟨ret_b ?_, hb⟩
        rw [HY.out, HZ.out, decide_eq_true h, Bool.eq_iff_iff]
        simp; omega
    · have hI : ¬ (((bs (c :: r)).size : Nat) : Int) ≤ 20 := by omega
      have HY := Lib.hid hy
      clear hy hz
      go_enter Tryd.func30, Tryd.ntmps30
      go_wp2
      go_ret
      refine ⟨ret_b ?_, Below.refl _ _⟩
      rw [HY.out, decide_eq_false h]
      rfl
end Go.Proofs.YtkfmhibdoapndaaDoor
