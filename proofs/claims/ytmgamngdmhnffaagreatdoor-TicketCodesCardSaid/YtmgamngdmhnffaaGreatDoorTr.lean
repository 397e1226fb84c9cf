/- What the functions answer for the example. -/
import Derived.Test.YtmgamngdmhnffaaGreatDoorTq
namespace Go.Proofs.YtmgamngdmhnffaaGreatDoor
open Go.RowKit

theorem tkS_ints : tkS.ints := by
  refine ⟨?_, ?_, ?_, ?_, ?_, ?_⟩ <;> first | (unfold tkS isInt; decide) | (unfold tkS; intro x hx; simp only [List.mem_cons, List.not_mem_nil, or_false] at hx; rcases hx with rfl | rfl | rfl <;> (unfold isInt; decide)) | (unfold tkS; decide)
theorem ints_of {l : List Int} (h : l.all (fun x => decide (-9223372036854775808 ≤ x) && decide (x ≤ 9223372036854775807)) = true) : ∀ x ∈ l, isInt x := by
  intro x hx
  have := List.all_eq_true.1 h x hx
  simp only [Bool.and_eq_true, decide_eq_true_eq] at this
  exact this
/-- The setup of the example, its bases in a block. -/
def exV (b : Nat) : Value := .agg #[.int .i64 23, .int .i64 11, .int .i64 4, .slice (some ⟨b, 0, none⟩) 3 3, .int .i64 3]
def exT : Value := .agg #[.int .i64 8, .int .i64 18, .int .i64 9, .int .i64 16, .int .i64 13, .int .i64 0]
theorem tkT_ints : tkT.ints := ⟨by unfold tkT isInt; decide, by unfold tkT isInt; decide, by unfold tkT isInt; decide, by unfold tkT isInt; decide, by unfold tkT isInt; decide, by unfold tkT isInt; decide⟩
section
variable {b : Nat} {w : World}
theorem ex_propose {v : Value} (hE : Env w) (hb : IsNums (.slice (some ⟨b, 0, none⟩) 3 3) [4, 16, 18] w) (hv : IsNums v [5, 7] w) :
    Calls Tryz.prog 7 #[exV b, .int .i64 3, v, .int .i64 2] w fun e w' => e = .returned (.tuple #[.agg #[.int .i64 9, .int .i64 16, .int .i64 13], .int .i64 0]) ∧ Below w.heap.size w w' := by
  have h := Propose_calls tkS tkS_ints (.slice (some ⟨b, 0, none⟩) 3 3) v [5, 7] 3 2 (by unfold isInt; decide) (by unfold isInt; decide) (ints_of (by decide)) (by decide) w hE hb hv
  rw [if_pos (by decide +kernel), tk_mark, show tkS.G = 4 from rfl, tk_z, tk_a, tk_b] at h
  exact h
theorem ex_use {v vy : Value} (d : Int) (L : List Int) (hd : isInt d) (hB : tkS.useB [5, 7] ⟨4, 1, 0, [1, 2, 3]⟩ d = true) (hL : tkS.shiftF [1, 2, 3] (mulG 11 1 [d, 4]) [5, 7] = L) (hE : Env w) (hb : IsNums (.slice (some ⟨b, 0, none⟩) 3 3) [4, 16, 18] w) (hv : IsNums v [5, 7] w) (hy : IsNums vy [1, 2, 3] w) :
    Calls Tryz.prog 8 #[exV b, v, .agg #[.int .i64 4, .int .i64 1, .int .i64 0, vy], .int .i64 d] w fun e w' => ∃ o, e = .returned (.tuple #[.agg #[.int .i64 d, o], .bool true]) ∧ IsNums o L w' ∧ Below w.heap.size w w' := by
  have h := Use_calls tkS tkS_ints (.slice (some ⟨b, 0, none⟩) 3 3) v vy [5, 7] [1, 2, 3] 4 1 0 d (by unfold isInt; decide) hd (ints_of (by decide)) (by decide) (ints_of (by decide)) (by decide) w hE hb hv hy
  rw [hB, show tkS.Q = 11 from rfl, hL] at h
  exact h
theorem ex_trace {vx vy : Value} (d e : Int) (X Y : List Int) (R : Bool) (L : List Int) (hd : isInt d) (he : isInt e) (hX : ∀ x ∈ X, isInt x) (hY : ∀ x ∈ Y, isInt x) (lX : X.length ≤ 100000000) (lY : Y.length ≤ 100000000)
    (hR : (tkS.valid && tkS.revB tkT ⟨d, X⟩ ⟨e, Y⟩) = R) (hL : (bif R then tkS.traceF ⟨d, X⟩ ⟨e, Y⟩ else []) = L) (hE : Env w) (hb : IsNums (.slice (some ⟨b, 0, none⟩) 3 3) [4, 16, 18] w) (hx : IsNums vx X w) (hy : IsNums vy Y w) :
    Calls Tryz.prog 9 #[exV b, exT, .agg #[.int .i64 d, vx], .agg #[.int .i64 e, vy]] w fun e w' => ∃ u, e = .returned (.tuple #[u, .bool R]) ∧ IsNums u L w' ∧ Below w.heap.size w w' := by
  have h := Trace_calls tkS tkS_ints (.slice (some ⟨b, 0, none⟩) 3 3) vx vy tkT tkT_ints d e hd he X Y hX hY lX lY w hE hb hx hy
  rw [hR, hL] at h
  exact h
theorem ex_mark {v : Value} (hE : Env w) (hb : IsNums (.slice (some ⟨b, 0, none⟩) 3 3) [4, 16, 18] w) (hv : IsNums v [5, 7] w) :
    Calls Tryz.prog 11 #[exV b, v] w fun e w' => e = .returned (.int .i64 6) ∧ Below w.heap.size w w' := by
  have h := Mark_calls tkS tkS_ints (.slice (some ⟨b, 0, none⟩) 3 3) v [5, 7] (ints_of (by decide)) (by decide) w hE hb hv
  rw [if_pos (by decide +kernel), tk_mark] at h
  exact h
theorem ex_usable {v : Value} (hE : Env w) (hb : IsNums (.slice (some ⟨b, 0, none⟩) 3 3) [4, 16, 18] w) (hv : IsNums v [5, 7] w) :
    Calls Tryz.prog 12 #[exV b, v] w fun e w' => e = .returned (.bool true) ∧ Below w.heap.size w w' := by
  have h := Usable_calls tkS tkS_ints (.slice (some ⟨b, 0, none⟩) 3 3) v [5, 7] (ints_of (by decide)) (by decide) w hE hb hv
  rw [tk_valid, tk_us] at h
  exact h
theorem ex_usable0 {v : Value} (hE : Env w) (hb : IsNums (.slice (some ⟨b, 0, none⟩) 3 3) [4, 16, 18] w) (hv : IsNums v [5, 0] w) :
    Calls Tryz.prog 12 #[exV b, v] w fun e w' => e = .returned (.bool false) ∧ Below w.heap.size w w' := by
  have h := Usable_calls tkS tkS_ints (.slice (some ⟨b, 0, none⟩) 3 3) v [5, 0] (ints_of (by decide)) (by decide) w hE hb hv
  rw [tk_valid, tk_us0] at h
  exact h
theorem ex_public (hE : Env w) (hb : IsNums (.slice (some ⟨b, 0, none⟩) 3 3) [4, 16, 18] w) :
    Calls Tryz.prog 13 #[exV b, .int .i64 3] w fun e w' => e = .returned (.int .i64 18) ∧ Below w.heap.size w w' := by
  have h := Public_calls tkS tkS_ints (.slice (some ⟨b, 0, none⟩) 3 3) 3 (by unfold isInt; decide) w hE hb
  rw [if_pos (by decide +kernel), show tkS.G = 4 from rfl, tk_pub] at h
  exact h
theorem ex_public0 (hE : Env w) (hb : IsNums (.slice (some ⟨b, 0, none⟩) 3 3) [4, 16, 18] w) :
    Calls Tryz.prog 13 #[exV b, .int .i64 0] w fun e w' => e = .returned (.int .i64 0) ∧ Below w.heap.size w w' := by
  have h := Public_calls tkS tkS_ints (.slice (some ⟨b, 0, none⟩) 3 3) 0 (by unfold isInt; decide) w hE hb
  rw [if_neg (by decide +kernel)] at h
  exact h
theorem ex_grant (hE : Env w) (hb : IsNums (.slice (some ⟨b, 0, none⟩) 3 3) [4, 16, 18] w) :
    Calls Tryz.prog 14 #[exV b, .int .i64 3, .int .i64 2, .int .i64 6] w fun e w' => e = .returned (.int .i64 9) ∧ Below w.heap.size w w' := by
  have h := Grant_calls tkS tkS_ints (.slice (some ⟨b, 0, none⟩) 3 3) 3 2 6 (by unfold isInt; decide) (by unfold isInt; decide) (by unfold isInt; decide) w hE hb
  rw [if_pos (by decide +kernel), show tkS.Q = 11 from rfl, tk_grant] at h
  exact h
theorem ex_accepts {vx : Value} (d : Int) (X : List Int) (R : Bool) (hd : isInt d) (hX : ∀ x ∈ X, isInt x) (lX : X.length ≤ 100000000) (hR : (tkS.valid && tkS.accB tkT ⟨d, X⟩) = R) (hE : Env w) (hb : IsNums (.slice (some ⟨b, 0, none⟩) 3 3) [4, 16, 18] w) (hx : IsNums vx X w) :
    Calls Tryz.prog 15 #[exV b, exT, .agg #[.int .i64 d, vx]] w fun e w' => e = .returned (.bool R) ∧ Below w.heap.size w w' := by
  have h := Accepts_calls tkS tkS_ints (.slice (some ⟨b, 0, none⟩) 3 3) vx tkT tkT_ints d X hd hX lX w hE hb hx
  rw [hR] at h
  exact h
theorem ex_guilty {vx vy v : Value} (hE : Env w) (hb : IsNums (.slice (some ⟨b, 0, none⟩) 3 3) [4, 16, 18] w) (hx : IsNums vx [9, 9, 4] w) (hy : IsNums vy [10, 3, 0] w) (hv : IsNums v [5, 7] w) :
    Calls Tryz.prog 16 #[exV b, exT, .agg #[.int .i64 2, vx], .agg #[.int .i64 5, vy], v] w fun e w' => e = .returned (.bool true) ∧ Below w.heap.size w w' := by
  have h := Guilty_calls tkS tkS_ints (.slice (some ⟨b, 0, none⟩) 3 3) vx vy v tkT tkT_ints 2 5 (by unfold isInt; decide) (by unfold isInt; decide) [9, 9, 4] [10, 3, 0] [5, 7] (ints_of (by decide)) (ints_of (by decide)) (ints_of (by decide)) (by decide) (by decide) (by decide) w hE hb hx hy hv
  rw [show tkS.guiltyB tkT ⟨2, [9, 9, 4]⟩ ⟨5, [10, 3, 0]⟩ [5, 7] = true by decide +kernel] at h
  exact h
theorem ex_encode (hC : Cod.Env w) :
    Calls Tryz.prog 6 #[exT] w fun e w' => e = .returned (.string (bs [54, 91, 56, 59, 49, 56, 59, 57, 59, 49, 54, 59, 49, 51, 59, 48, 59, 93])) ∧ Below w.heap.size w w' := by
  have h := Encode_calls tkT tkT_ints w hC
  rw [show tkT.list = [8, 18, 9, 16, 13, 0] from rfl, tk_text] at h
  exact h
theorem ex_use2 : tkS.useB [5, 7] ⟨4, 1, 0, [1, 2, 3]⟩ 2 = true := by decide +kernel
theorem ex_use5 : tkS.useB [5, 7] ⟨4, 1, 0, [1, 2, 3]⟩ 5 = true := by decide +kernel
theorem ex_rev : (tkS.valid && tkS.revB tkT ⟨2, [9, 9, 4]⟩ ⟨5, [10, 3, 0]⟩) = true := by decide +kernel
theorem ex_rev0 : (tkS.valid && tkS.revB tkT ⟨2, [9, 9, 4]⟩ ⟨2, [9, 9, 4]⟩) = false := by decide +kernel
end
end Go.Proofs.YtmgamngdmhnffaaGreatDoor
