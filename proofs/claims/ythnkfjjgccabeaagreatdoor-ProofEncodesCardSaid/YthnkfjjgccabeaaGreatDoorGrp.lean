/- Groups: what is valid, members. -/
import Derived.Test.YthnkfjjgccabeaaGreatDoorNumb
namespace Go.Proofs.YthnkfjjgccabeaaGreatDoor
open Go.RowKit

def grpV (P Q G : Int) : Value := .agg #[.int .i64 P, .int .i64 Q, .int .i64 G]
def subB (P Q x : Int) : Bool := decide (1 ≤ x) && (decide (x < P) && decide (powZ P x Q = 1))
theorem below_one (w : World) (o : Obj) : Below w.heap.size w (w.alloc o) := (Below.refl _ _).alloc (Nat.le_refl _) o

set_option maxHeartbeats 1000000 in
theorem insub_calls (P Q G x : Int) (hQ : isInt Q) (hx : isInt x) (w : World) :
    Calls Tryz.prog 83 #[.agg #[.int .i64 P, .int .i64 Q, .int .i64 G], .int .i64 x] w fun e w' => e = .returned (.bool (subB P Q x)) ∧ Below w.heap.size w w' := by
  have hb := below_one w (.cells #[.int .i64 P, .int .i64 Q, .int .i64 G] 31)
  have cp := fun w => Lib.hid (pow_calls P x Q hx hQ w)
  by_cases h1 : 1 ≤ x
  · have d1 : decide (1 ≤ x) = true := decide_eq_true h1
    by_cases h2 : x < P
    · have d2 : decide (x < P) = true := decide_eq_true h2
      have HR : Hid (subB P Q x = decide (powZ P x Q = 1)) := by show subB P Q x = _; unfold subB; rw [d1, d2]; simp
      generalize powZ P x Q = v at *
      go_enter Tryz.func83, Tryz.ntmps83
      go_wp2_with fail
      generalize (w.alloc (.cells #[.int .i64 P, .int .i64 Q, .int .i64 G] 31)) = W0 at *
      have h9 := (cp W0).out
      clear cp
      refine Calls.mono h9 ?_
      rintro e w' ⟨rfl, m, rfl⟩
      go_wp2
      go_ret
      refine ⟨ret_b ?_, below_drewN hb _⟩
      rw [HR.out]
      by_cases hv : v = 1 <;> simp [hv]
    · have d2 : decide (x < P) = false := decide_eq_false h2
      have HR : Hid (subB P Q x = false) := by show subB P Q x = _; unfold subB; rw [d1, d2]; simp
      go_enter Tryz.func83, Tryz.ntmps83
      go_wp2
      go_ret
      exact ⟨ret_b HR.out.symm, hb⟩
  · have d1 : decide (1 ≤ x) = false := decide_eq_false h1
    have HR : Hid (subB P Q x = false) := by show subB P Q x = _; unfold subB; rw [d1]; simp
    go_enter Tryz.func83, Tryz.ntmps83
    go_wp2
    go_ret
    exact ⟨ret_b HR.out.symm, hb⟩

def validB (P Q G : Int) : Bool := decide (5 ≤ Q) && (decide (Q < 1152921504606846976) && (decide (P = 2 * Q + 1) && (decide (2 ≤ G) && (subB P Q G && (primeB Q && primeB P)))))
theorem grp_cells {w w1 : World} {B : Nat} {t : TypeId} {P Q G : Int} (h : Blk w B t #[.int .i64 P, .int .i64 Q, .int .i64 G]) (hb : Below w.heap.size w w1) :
    Blk w1 B t #[.int .i64 P, .int .i64 Q, .int .i64 G] ∧ w1.cell? ⟨B, 0, none⟩ = some (.int .i64 P) ∧ w1.cell? ⟨B, 1, none⟩ = some (.int .i64 Q) ∧ w1.cell? ⟨B, 2, none⟩ = some (.int .i64 G) :=
  ⟨h.next hb, (h.next hb).cell 0, (h.next hb).cell 1, (h.next hb).cell 2⟩

set_option maxHeartbeats 1000000 in
theorem valid_calls (P Q G : Int) (hP : isInt P) (hQ : isInt Q) (hG : isInt G) (w : World) (hE : Env w) :
    Calls Tryz.prog 63 #[.agg #[.int .i64 P, .int .i64 Q, .int .i64 G]] w fun e w' => e = .returned (.bool (validB P Q G)) ∧ Below w.heap.size w w' := by
  have hb := below_one w (.cells #[.int .i64 P, .int .i64 Q, .int .i64 G] 31)
  have hB : Blk (w.alloc (.cells #[.int .i64 P, .int .i64 Q, .int .i64 G] 31)) w.heap.size 31 #[.int .i64 P, .int .i64 Q, .int .i64 G] := Blk.new w _ _
  by_cases h1 : Q < 5
  · have d1 : decide (Q < 5) = true := decide_eq_true h1
    have HR : Hid (validB P Q G = false) := by show validB P Q G = _; unfold validB; rw [decide_eq_false (show ¬ 5 ≤ Q by omega)]; simp
    clear hE hB
    go_enter Tryz.func63, Tryz.ntmps63
    go_wp2
    go_ret
    exact ⟨ret_b HR.out.symm, hb⟩
  · have d1 : decide (Q < 5) = false := decide_eq_false h1
    have e1 : decide (5 ≤ Q) = true := decide_eq_true (by omega)
    by_cases h2 : Q < 1152921504606846976
    · have d2 : decide (1152921504606846976 ≤ Q) = false := decide_eq_false (by omega)
      have e2 : decide (Q < 1152921504606846976) = true := decide_eq_true h2
      have hwr : IntKind.i64.wrap (2 * Q) = 2 * Q := by simp only [IntKind.wrap, IntKind.bits, IntKind.signed]; simp; omega
      have hwr2 : IntKind.i64.wrap (2 * Q + 1) = 2 * Q + 1 := by simp only [IntKind.wrap, IntKind.bits, IntKind.signed]; simp; omega
      by_cases h3 : P = 2 * Q + 1
      · have d3 : (P != 2 * Q + 1) = false := by simp [h3]
        have e3 : decide (P = 2 * Q + 1) = true := decide_eq_true h3
        by_cases h4 : G < 2
        · have d4 : decide (G < 2) = true := decide_eq_true h4
          have HR : Hid (validB P Q G = false) := by show validB P Q G = _; unfold validB; rw [decide_eq_false (show ¬ 2 ≤ G by omega)]; simp
          clear hE hB h3 e1 e2 e3
          go_enter Tryz.func63, Tryz.ntmps63
          go_wp2
          go_ret
          exact ⟨ret_b HR.out.symm, hb⟩
        · have d4 : decide (G < 2) = false := decide_eq_false h4
          have e4 : decide (2 ≤ G) = true := decide_eq_true (by omega)
          have HR : Hid (validB P Q G = (subB P Q G && (primeB Q && primeB P))) := by show validB P Q G = _; unfold validB; rw [e1, e2, e3, e4]; simp
          have cs := fun w => Lib.hid (insub_calls P Q G G hQ hG w)
          have cq := fun w hE => Lib.hid (prime_calls Q hQ w hE)
          have cp := fun w hE => Lib.hid (prime_calls P hP w hE)
          generalize subB P Q G = s at *
          generalize primeB Q = pq at *
          generalize primeB P = pp at *
          have hE0 := hE.next hb
          clear h3 e1 e2 e3 e4
          go_enter Tryz.func63, Tryz.ntmps63
          go_wp2_with fail
          generalize (w.alloc (.cells #[.int .i64 P, .int .i64 Q, .int .i64 G] 31)) = W0 at *
          have h9 := (cs W0).out
          clear cs
          refine Calls.mono h9 ?_
          rintro e w1 ⟨rfl, hb1⟩
          obtain ⟨hB1, z0, z1, z2⟩ := grp_cells hB hb1
          have hE1 := hE0.next hb1
          have hbb := hb.trans (hb1.mono hb.size)
          clear hB hb hb1 hE0 hE
          cases s
          · go_wp2
            go_ret
            exact ⟨ret_b HR.out.symm, hbb⟩
          · go_wp2_with fail
            have h9 := (cq w1 hE1).out
            clear cq
            refine Calls.mono h9 ?_
            rintro e w' ⟨rfl, m, rfl⟩
            cases pq
            · go_wp2
              go_ret
              exact ⟨ret_b HR.out.symm, below_drewN hbb _⟩
            · go_wp2_with fail
              have h9 := (cp (w1.drewN m) (hE1.drewN m)).out
              clear cp
              refine Calls.mono h9 ?_
              rintro e w' ⟨rfl, m2, rfl⟩
              go_wp2
              go_ret
              exact ⟨ret_b HR.out.symm, below_drewN hbb _⟩
      · have d3 : (P != 2 * Q + 1) = true := by simp [h3]
        have HR : Hid (validB P Q G = false) := by show validB P Q G = _; unfold validB; rw [decide_eq_false h3]; simp
        clear hE hB
        go_enter Tryz.func63, Tryz.ntmps63
        go_wp2
        go_ret
        exact ⟨ret_b HR.out.symm, hb⟩
    · have d2 : decide (1152921504606846976 ≤ Q) = true := decide_eq_true (by omega)
      have HR : Hid (validB P Q G = false) := by show validB P Q G = _; unfold validB; rw [decide_eq_false h2]; simp
      clear hE hB
      go_enter Tryz.func63, Tryz.ntmps63
      go_wp2
      go_ret
      exact ⟨ret_b HR.out.symm, hb⟩
end Go.Proofs.YthnkfjjgccabeaaGreatDoor
