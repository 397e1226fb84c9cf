/- The classes of bytes, span, and skip. -/
import Derived.Test.YtadfdgdpalnnfaaDoorLex
namespace Go.Proofs.YtadfdgdpalnnfaaDoor
open Go.RowKit

theorem bs_get (l : List UInt8) (k : Nat) (h : k < (bs l).size) (h2 : k < l.length) : (bs l)[k]'h = l[k] := by
  show (bs l).data[k]'_ = _
  simp [bs]

/-- A function of the program is a class of bytes. -/
def Cls (f : FuncId) (p : UInt8 → Bool) : Prop := ∀ (c : UInt8) (w : World), Calls Tryd.prog f #[.int .u8 (c.toNat : Int)] w fun e w' => e = .returned (.bool (p c)) ∧ w = w'
theorem ret_b {x y : Bool} (h : x = y) : Ending.returned (.bool x) = .returned (.bool y) := by rw [h]

theorem cls_blank : Cls 39 isBl := by
  intro c w
  unfold isBl
  generalize c.toNat = n
  go_enter Tryd.func39, Tryd.ntmps39
  by_cases h1 : n = 9
  · subst h1
    go_wp2
    go_ret
    exact ⟨ret_b (by simp), rfl⟩
  · have e1 : ((n : Int) == 9) = false := beq_eq_false_iff_ne.2 (by omega)
    by_cases h2 : n = 10
    · subst h2
      go_wp2
      go_ret
      exact ⟨ret_b (by simp), rfl⟩
    · have e2 : ((n : Int) == 10) = false := beq_eq_false_iff_ne.2 (by omega)
      by_cases h3 : n = 32
      · subst h3
        go_wp2
        go_ret
        exact ⟨ret_b (by simp), rfl⟩
      · have e3 : ((n : Int) == 32) = false := beq_eq_false_iff_ne.2 (by omega)
        go_wp2
        go_ret
        exact ⟨ret_b (by simp [h1, h2, h3]), rfl⟩
theorem cls_notlf : Cls 40 notLf := by
  intro c w
  unfold notLf
  generalize c.toNat = n
  go_enter Tryd.func40, Tryd.ntmps40
  go_wp2
  go_ret
  refine ⟨ret_b ?_, rfl⟩
  by_cases h : n = 10
  · subst h; rfl
  · have : ((n : Int) != 10) = true := bne_iff_ne.2 (by omega)
    simp [h, this]
theorem cls_digit : Cls 41 isDig := by
  intro c w
  unfold isDig
  generalize c.toNat = n
  go_enter Tryd.func41, Tryd.ntmps41
  by_cases h1 : 48 ≤ n
  · have e1 : (48 : Int) ≤ (n : Int) := by omega
    go_wp2
    go_ret
    refine ⟨ret_b ?_, rfl⟩
    rw [decide_eq_decide]; omega
  · have e1 : ¬ (48 : Int) ≤ (n : Int) := by omega
    go_wp2
    go_ret
    exact ⟨ret_b (by simp), rfl⟩
theorem cls_quot : Cls 48 isQt := by
  intro c w
  unfold isQt
  generalize c.toNat = n
  go_enter Tryd.func48, Tryd.ntmps48
  by_cases h1 : 32 ≤ n
  · have e1 : (32 : Int) ≤ (n : Int) := by omega
    go_wp2
    go_ret
    refine ⟨ret_b ?_, rfl⟩
    rw [decide_eq_decide]; omega
  · have e1 : ¬ (32 : Int) ≤ (n : Int) := by omega
    go_wp2
    go_ret
    exact ⟨ret_b (by simp), rfl⟩
theorem cls_letter : Cls 32 isLet := by
  intro c w
  unfold isLet
  generalize c.toNat = n
  go_enter Tryd.func32, Tryd.ntmps32
  by_cases h1 : 97 ≤ n
  · have e1 : (97 : Int) ≤ (n : Int) := by omega
    by_cases h2 : n ≤ 122
    · have e2 : (n : Int) ≤ 122 := by omega
      go_wp2
      go_ret
      exact ⟨ret_b (by simp [h1, h2]), rfl⟩
    · have e2 : ¬ (n : Int) ≤ 122 := by omega
      have e3 : (65 : Int) ≤ (n : Int) := by omega
      go_wp2
      go_ret
      exact ⟨ret_b (by rw [Bool.eq_iff_iff]; simp; omega), rfl⟩
  · have e1 : ¬ (97 : Int) ≤ (n : Int) := by omega
    by_cases h3 : 65 ≤ n
    · have e3 : (65 : Int) ≤ (n : Int) := by omega
      go_wp2
      go_ret
      exact ⟨ret_b (by rw [Bool.eq_iff_iff]; simp; omega), rfl⟩
    · have e3 : ¬ (65 : Int) ≤ (n : Int) := by omega
      go_wp2
      go_ret
      exact ⟨ret_b (by simp), rfl⟩
theorem cls_name : Cls 34 isNm := by
  intro c w
  have hl := Lib.hid (cls_letter c w)
  have hd := Lib.hid (cls_digit c w)
  have e95 : decide (c.toNat = 95) = ((c.toNat : Int) == 95) := by
    by_cases h : c.toNat = 95
    · simp [h]
    · have : ((c.toNat : Int) == 95) = false := beq_eq_false_iff_ne.2 (by omega)
      simp [h, this]
  unfold isNm
  rw [e95]
  clear e95
  generalize isLet c = a at *
  generalize isDig c = d at *
  go_enter Tryd.func34, Tryd.ntmps34
  go_wp2_with fail
  refine hl.out.mono ?_
  rintro e w1 ⟨rfl, rfl⟩
  cases a
  · go_wp2_with fail
    refine hd.out.mono ?_
    rintro e w1 ⟨rfl, rfl⟩
    cases d
    · go_wp2
      go_ret
      exact ⟨ret_b (by simp), rfl⟩
    · go_wp2
      go_ret
      exact ⟨ret_b (by simp), rfl⟩
  · go_wp2
    go_ret
    exact ⟨ret_b (by simp), rfl⟩

theorem ret_int {a b : Int} (h : a = b) : Ending.returned (.int .i64 a) = .returned (.int .i64 b) := by rw [h]
theorem span_step {p : UInt8 → Bool} {l : List UInt8} {k : Nat} (hk : k < l.length) : (p l[k] = true → spanL p (l.drop k) = spanL p (l.drop (k + 1)) + 1) ∧ (p l[k] = false → spanL p (l.drop k) = 0) := by
  rw [List.drop_eq_getElem_cons hk]
  constructor
  · intro h; simp [spanL, h]
  · intro h; simp [spanL, h]

set_option maxRecDepth 100000 in
theorem span_blank (l : List UInt8) (hl : l.length ≤ 4294967296) (w : World) :
    Calls Tryd.prog 33 #[.string (bs l), .func (.func 39) #[] #[]] w fun e w' => e = .returned (.int .i64 (spanL isBl l : Int)) ∧ Below w.heap.size w w' := by
  have hsm : (bs l).size ≤ 4294967296 := by rw [bs_size]; exact hl
  go_enter Tryd.func33, Tryd.ntmps33
  go_wp2
  go_loopw [5] (fun i wr => ∃ k : Nat, k ≤ l.length ∧ i = .int .i64 k ∧ Below w.heap.size w wr ∧ k + spanL isBl (l.drop k) = spanL isBl l) (fun i _ => l.length - (intOf i).toNat)
  case atStart => exact ⟨0, Nat.zero_le _, rfl, Below.refl _ _, by simp⟩
  case round =>
    obtain ⟨k, hk, rfl, hb, hsp⟩ := hrel
    have HS := Lib.hid hsp
    clear hsp
    by_cases hlt : k < l.length
    · have hlt2 : k < (bs l).size := by rw [bs_size]; exact hlt
      have hg := Lib.hid (bs_get l k hlt2 hlt)
      have hkI : (k : Int) < ((bs l).size : Int) := by omega
      have hst := Lib.hid (span_step (p := isBl) hlt)
      have hc := cls_blank ((bs l)[k]'hlt2) wr
      rw [congrArg isBl hg.out] at hc
      generalize hx : isBl l[k] = x at hc
      have HX := Lib.hid hx
      have HC := Lib.hid hc
      clear hx hc
      go_wp2_with fail
      refine HC.out.mono ?_
      rintro e w1 ⟨rfl, rfl⟩
      cases x
      · have hz : (k : Int) = (spanL isBl l : Int) := by have h1 := HS.out; have h2 := hst.out.2 HX.out; omega
        go_wp2
        go_ret
        exact ⟨ret_int (by omega), hb⟩
      · have hs1 := hst.out.1 HX.out
        have hz : k + 1 + spanL isBl (l.drop (k + 1)) = spanL isBl l := by have h1 := HS.out; omega
        go_wp2
        go_roundw
        case rel => exact ⟨k + 1, by omega, by go_num, hb, hz⟩
        case measure => simp [intOf]; omega
    · have hkI : ¬ (k : Int) < ((bs l).size : Int) := by rw [bs_size]; omega
      have e : k = l.length := by omega
      have hz : spanL isBl l = k := by have := HS.out; rw [e, List.drop_length] at this; simp [spanL] at this; omega
      go_wp2
      go_ret
      exact ⟨ret_int (by omega), hb⟩
set_option maxRecDepth 100000 in
theorem span_notlf (l : List UInt8) (hl : l.length ≤ 4294967296) (w : World) :
    Calls Tryd.prog 33 #[.string (bs l), .func (.func 40) #[] #[]] w fun e w' => e = .returned (.int .i64 (spanL notLf l : Int)) ∧ Below w.heap.size w w' := by
  have hsm : (bs l).size ≤ 4294967296 := by rw [bs_size]; exact hl
  go_enter Tryd.func33, Tryd.ntmps33
  go_wp2
  go_loopw [5] (fun i wr => ∃ k : Nat, k ≤ l.length ∧ i = .int .i64 k ∧ Below w.heap.size w wr ∧ k + spanL notLf (l.drop k) = spanL notLf l) (fun i _ => l.length - (intOf i).toNat)
  case atStart => exact ⟨0, Nat.zero_le _, rfl, Below.refl _ _, by simp⟩
  case round =>
    obtain ⟨k, hk, rfl, hb, hsp⟩ := hrel
    have HS := Lib.hid hsp
    clear hsp
    by_cases hlt : k < l.length
    · have hlt2 : k < (bs l).size := by rw [bs_size]; exact hlt
      have hg := Lib.hid (bs_get l k hlt2 hlt)
      have hkI : (k : Int) < ((bs l).size : Int) := by omega
      have hst := Lib.hid (span_step (p := notLf) hlt)
      have hc := cls_notlf ((bs l)[k]'hlt2) wr
      rw [congrArg notLf hg.out] at hc
      generalize hx : notLf l[k] = x at hc
      have HX := Lib.hid hx
      have HC := Lib.hid hc
      clear hx hc
      go_wp2_with fail
      refine HC.out.mono ?_
      rintro e w1 ⟨rfl, rfl⟩
      cases x
      · have hz : (k : Int) = (spanL notLf l : Int) := by have h1 := HS.out; have h2 := hst.out.2 HX.out; omega
        go_wp2
        go_ret
        exact ⟨ret_int (by omega), hb⟩
      · have hs1 := hst.out.1 HX.out
        have hz : k + 1 + spanL notLf (l.drop (k + 1)) = spanL notLf l := by have h1 := HS.out; omega
        go_wp2
        go_roundw
        case rel => exact ⟨k + 1, by omega, by go_num, hb, hz⟩
        case measure => simp [intOf]; omega
    · have hkI : ¬ (k : Int) < ((bs l).size : Int) := by rw [bs_size]; omega
      have e : k = l.length := by omega
      have hz : spanL notLf l = k := by have := HS.out; rw [e, List.drop_length] at this; simp [spanL] at this; omega
      go_wp2
      go_ret
      exact ⟨ret_int (by omega), hb⟩
set_option maxRecDepth 100000 in
theorem span_digit (l : List UInt8) (hl : l.length ≤ 4294967296) (w : World) :
    Calls Tryd.prog 33 #[.string (bs l), .func (.func 41) #[] #[]] w fun e w' => e = .returned (.int .i64 (spanL isDig l : Int)) ∧ Below w.heap.size w w' := by
  have hsm : (bs l).size ≤ 4294967296 := by rw [bs_size]; exact hl
  go_enter Tryd.func33, Tryd.ntmps33
  go_wp2
  go_loopw [5] (fun i wr => ∃ k : Nat, k ≤ l.length ∧ i = .int .i64 k ∧ Below w.heap.size w wr ∧ k + spanL isDig (l.drop k) = spanL isDig l) (fun i _ => l.length - (intOf i).toNat)
  case atStart => exact ⟨0, Nat.zero_le _, rfl, Below.refl _ _, by simp⟩
  case round =>
    obtain ⟨k, hk, rfl, hb, hsp⟩ := hrel
    have HS := Lib.hid hsp
    clear hsp
    by_cases hlt : k < l.length
    · have hlt2 : k < (bs l).size := by rw [bs_size]; exact hlt
      have hg := Lib.hid (bs_get l k hlt2 hlt)
      have hkI : (k : Int) < ((bs l).size : Int) := by omega
      have hst := Lib.hid (span_step (p := isDig) hlt)
      have hc := cls_digit ((bs l)[k]'hlt2) wr
      rw [congrArg isDig hg.out] at hc
      generalize hx : isDig l[k] = x at hc
      have HX := Lib.hid hx
      have HC := Lib.hid hc
      clear hx hc
      go_wp2_with fail
      refine HC.out.mono ?_
      rintro e w1 ⟨rfl, rfl⟩
      cases x
      · have hz : (k : Int) = (spanL isDig l : Int) := by have h1 := HS.out; have h2 := hst.out.2 HX.out; omega
        go_wp2
        go_ret
        exact ⟨ret_int (by omega), hb⟩
      · have hs1 := hst.out.1 HX.out
        have hz : k + 1 + spanL isDig (l.drop (k + 1)) = spanL isDig l := by have h1 := HS.out; omega
        go_wp2
        go_roundw
        case rel => exact ⟨k + 1, by omega, by go_num, hb, hz⟩
        case measure => simp [intOf]; omega
    · have hkI : ¬ (k : Int) < ((bs l).size : Int) := by rw [bs_size]; omega
      have e : k = l.length := by omega
      have hz : spanL isDig l = k := by have := HS.out; rw [e, List.drop_length] at this; simp [spanL] at this; omega
      go_wp2
      go_ret
      exact ⟨ret_int (by omega), hb⟩
set_option maxRecDepth 100000 in
theorem span_name (l : List UInt8) (hl : l.length ≤ 4294967296) (w : World) :
    Calls Tryd.prog 33 #[.string (bs l), .func (.func 34) #[] #[]] w fun e w' => e = .returned (.int .i64 (spanL isNm l : Int)) ∧ Below w.heap.size w w' := by
  have hsm : (bs l).size ≤ 4294967296 := by rw [bs_size]; exact hl
  go_enter Tryd.func33, Tryd.ntmps33
  go_wp2
  go_loopw [5] (fun i wr => ∃ k : Nat, k ≤ l.length ∧ i = .int .i64 k ∧ Below w.heap.size w wr ∧ k + spanL isNm (l.drop k) = spanL isNm l) (fun i _ => l.length - (intOf i).toNat)
  case atStart => exact ⟨0, Nat.zero_le _, rfl, Below.refl _ _, by simp⟩
  case round =>
    obtain ⟨k, hk, rfl, hb, hsp⟩ := hrel
    have HS := Lib.hid hsp
    clear hsp
    by_cases hlt : k < l.length
    · have hlt2 : k < (bs l).size := by rw [bs_size]; exact hlt
      have hg := Lib.hid (bs_get l k hlt2 hlt)
      have hkI : (k : Int) < ((bs l).size : Int) := by omega
      have hst := Lib.hid (span_step (p := isNm) hlt)
      have hc := cls_name ((bs l)[k]'hlt2) wr
      rw [congrArg isNm hg.out] at hc
      generalize hx : isNm l[k] = x at hc
      have HX := Lib.hid hx
      have HC := Lib.hid hc
      clear hx hc
      go_wp2_with fail
      refine HC.out.mono ?_
      rintro e w1 ⟨rfl, rfl⟩
      cases x
      · have hz : (k : Int) = (spanL isNm l : Int) := by have h1 := HS.out; have h2 := hst.out.2 HX.out; omega
        go_wp2
        go_ret
        exact ⟨ret_int (by omega), hb⟩
      · have hs1 := hst.out.1 HX.out
        have hz : k + 1 + spanL isNm (l.drop (k + 1)) = spanL isNm l := by have h1 := HS.out; omega
        go_wp2
        go_roundw
        case rel => exact ⟨k + 1, by omega, by go_num, hb, hz⟩
        case measure => simp [intOf]; omega
    · have hkI : ¬ (k : Int) < ((bs l).size : Int) := by rw [bs_size]; omega
      have e : k = l.length := by omega
      have hz : spanL isNm l = k := by have := HS.out; rw [e, List.drop_length] at this; simp [spanL] at this; omega
      go_wp2
      go_ret
      exact ⟨ret_int (by omega), hb⟩
set_option maxRecDepth 100000 in
theorem span_quot (l : List UInt8) (hl : l.length ≤ 4294967296) (w : World) :
    Calls Tryd.prog 33 #[.string (bs l), .func (.func 48) #[] #[]] w fun e w' => e = .returned (.int .i64 (spanL isQt l : Int)) ∧ Below w.heap.size w w' := by
  have hsm : (bs l).size ≤ 4294967296 := by rw [bs_size]; exact hl
  go_enter Tryd.func33, Tryd.ntmps33
  go_wp2
  go_loopw [5] (fun i wr => ∃ k : Nat, k ≤ l.length ∧ i = .int .i64 k ∧ Below w.heap.size w wr ∧ k + spanL isQt (l.drop k) = spanL isQt l) (fun i _ => l.length - (intOf i).toNat)
  case atStart => exact ⟨0, Nat.zero_le _, rfl, Below.refl _ _, by simp⟩
  case round =>
    obtain ⟨k, hk, rfl, hb, hsp⟩ := hrel
    have HS := Lib.hid hsp
    clear hsp
    by_cases hlt : k < l.length
    · have hlt2 : k < (bs l).size := by rw [bs_size]; exact hlt
      have hg := Lib.hid (bs_get l k hlt2 hlt)
      have hkI : (k : Int) < ((bs l).size : Int) := by omega
      have hst := Lib.hid (span_step (p := isQt) hlt)
      have hc := cls_quot ((bs l)[k]'hlt2) wr
      rw [congrArg isQt hg.out] at hc
      generalize hx : isQt l[k] = x at hc
      have HX := Lib.hid hx
      have HC := Lib.hid hc
      clear hx hc
      go_wp2_with fail
      refine HC.out.mono ?_
      rintro e w1 ⟨rfl, rfl⟩
      cases x
      · have hz : (k : Int) = (spanL isQt l : Int) := by have h1 := HS.out; have h2 := hst.out.2 HX.out; omega
        go_wp2
        go_ret
        exact ⟨ret_int (by omega), hb⟩
      · have hs1 := hst.out.1 HX.out
        have hz : k + 1 + spanL isQt (l.drop (k + 1)) = spanL isQt l := by have h1 := HS.out; omega
        go_wp2
        go_roundw
        case rel => exact ⟨k + 1, by omega, by go_num, hb, hz⟩
        case measure => simp [intOf]; omega
    · have hkI : ¬ (k : Int) < ((bs l).size : Int) := by rw [bs_size]; omega
      have e : k = l.length := by omega
      have hz : spanL isQt l = k := by have := HS.out; rw [e, List.drop_length] at this; simp [spanL] at this; omega
      go_wp2
      go_ret
      exact ⟨ret_int (by omega), hb⟩
end Go.Proofs.YtadfdgdpalnnfaaDoor
