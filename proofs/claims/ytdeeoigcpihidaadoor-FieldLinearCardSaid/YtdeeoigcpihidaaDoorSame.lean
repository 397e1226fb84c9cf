/- The reference's comparisons. -/
import Derived.Test.YtdeeoigcpihidaaDoorWts
namespace Go.Proofs.YtdeeoigcpihidaaDoor
open Go.RowKit

theorem drop_eq {α : Type} [DecidableEq α] (a b : List α) (k : Nat) (h1 : k < a.length) (h2 : k < b.length) : decide (a.drop k = b.drop k) = (decide (a[k] = b[k]) && decide (a.drop (k + 1) = b.drop (k + 1))) := by
  rw [Bool.eq_iff_iff, List.drop_eq_getElem_cons h1, List.drop_eq_getElem_cons h2]
  simp only [decide_eq_true_eq, Bool.and_eq_true, List.cons.injEq]
set_option maxHeartbeats 1000000 in
theorem same_calls (va vb : Value) (a b : List Int) (hla : a.length ≤ 9223372036854775807) (_hlb : b.length ≤ 9223372036854775807) (w : World) (ha : IsInts va a w) (hb : IsInts vb b w) :
    Calls Tryd.prog 12 #[va, vb] w (Ret (.bool (decide (a = b))) w) := by
  obtain ⟨aa, ca, rfl⟩ := ha.len
  obtain ⟨ab, cb, rfl⟩ := hb.len
  by_cases hl : a.length = b.length
  · obtain ⟨n, hn⟩ : ∃ n, n = a.length := ⟨_, rfl⟩
    have hbl : b.length = n := by omega
    obtain ⟨D, hD⟩ : ∃ D, D = decide (a = b) := ⟨_, rfl⟩
    have hD0 : Nat → decide (a.drop 0 = b.drop 0) = D := fun _ => by rw [List.drop_zero, List.drop_zero]; exact hD.symm
    rw [← hn] at hla
    rw [← hn, hbl, ← hD]
    have HA := Lib.hid ha
    have HB := Lib.hid hb
    have HN := Lib.hid hn
    have HBL := Lib.hid hbl
    have hne : ((n : Int) != (n : Int)) = false := by simp
    clear hl hbl hn hD ha hb _hlb
    go_enter Tryd.func12, Tryd.ntmps12
    go_wp2
    go_loopw [5] (fun iv wr => ∃ k : Nat, k ≤ n ∧ iv = .int .i64 (k : Int) ∧ (Nat → decide (a.drop k = b.drop k) = D) ∧ Drawn w wr) (fun iv _ => n - (intOf iv).toNat)
    case atStart => exact ⟨0, Nat.zero_le _, rfl, hD0, Drawn.refl _⟩
    case round =>
      clear hD0
      obtain ⟨k, hk, rfl, hDk, hW⟩ := hrel
      by_cases hlt : k < n
      · have h1 : k < a.length := by rw [← HN.out]; exact hlt
        have h2 : k < b.length := by rw [HBL.out]; exact hlt
        obtain ⟨bk, o1, rfl, _, z0⟩ := (HA.out.next hW.below).at k h1
        obtain ⟨bk', o2, rfl, _, z1⟩ := (HB.out.next hW.below).at k h2
        have hst : Nat → (decide (a[k] = b[k]) && decide (a.drop (k + 1) = b.drop (k + 1))) = D := fun _ => by rw [← drop_eq a b k h1 h2]; exact hDk 0
        generalize a[k] = x at *
        generalize b[k] = y at *
        have HW := Lib.hid hW
        have hkn : (k : Int) < (n : Int) := by omega
        clear hDk hW
        go_wp2
        by_cases hxy : x = y
        · subst hxy
          have hDk : Nat → decide (a.drop (k + 1) = b.drop (k + 1)) = D := fun _ => by have := hst 0; simpa using this
          have hbn : (x != x) = false := by simp
          clear hst
          go_quiet (fail)
          go_wp2
          go_roundw
          case rel => exact ⟨k + 1, by omega, by go_num, hDk, HW.out.more _⟩
          case measure => simp [intOf]; omega
        · have hDf : Hid (D = false) := by show _ = _; have := hst 0; simpa [hxy] using this.symm
          have hbn : (x != y) = true := bne_iff_ne.2 hxy
          clear hst
          go_quiet (fail)
          go_wp2
          go_ret
          exact ⟨ret_b hDf.out.symm, HW.out.more _⟩
      · obtain rfl : k = n := by omega
        have hDt : Hid (D = true) := by
          show _ = _
          rw [← hDk 0, HN.out, List.drop_length, ← HN.out, ← HBL.out, List.drop_length]; rfl
        have HW := Lib.hid hW
        clear hDk hW
        go_wp2
        go_ret
        exact ⟨ret_b hDt.out.symm, HW.out⟩
  · have HV : Hid (decide (a = b) = false) := by
      show _ = _
      exact decide_eq_false fun e => hl (by rw [e])
    have hne : ((a.length : Int) != (b.length : Int)) = true := bne_iff_ne.2 (by omega)
    have hne2 : ¬ (a.length : Int) = (b.length : Int) := by omega
    clear hl ha hb
    go_enter Tryd.func12, Tryd.ntmps12
    go_wp2
    go_ret
    exact ⟨ret_b HV.out.symm, 0, rfl⟩
set_option maxHeartbeats 1000000 in
theorem samerows_calls (va vb : Value) (a b : List (List Int)) (hla : a.length ≤ 9223372036854775807) (_hlb : b.length ≤ 9223372036854775807) (hra : ∀ r ∈ a, r.length ≤ 9223372036854775807) (hrb : ∀ r ∈ b, r.length ≤ 9223372036854775807) (w : World) (ha : IsRows va a w) (hb : IsRows vb b w) :
    Calls Tryd.prog 13 #[va, vb] w (Ret (.bool (decide (a = b))) w) := by
  obtain ⟨aa, ca, rfl⟩ := ha.len
  obtain ⟨ab, cb, rfl⟩ := hb.len
  by_cases hl : a.length = b.length
  · obtain ⟨n, hn⟩ : ∃ n, n = a.length := ⟨_, rfl⟩
    have hbl : b.length = n := by omega
    obtain ⟨D, hD⟩ : ∃ D, D = decide (a = b) := ⟨_, rfl⟩
    have hD0 : Nat → decide (a.drop 0 = b.drop 0) = D := fun _ => by rw [List.drop_zero, List.drop_zero]; exact hD.symm
    rw [← hn] at hla
    rw [← hn, hbl, ← hD]
    have HA := Lib.hid ha
    have HB := Lib.hid hb
    have HN := Lib.hid hn
    have HBL := Lib.hid hbl
    have hne : ((n : Int) != (n : Int)) = false := by simp
    clear hl hbl hn hD ha hb _hlb
    go_enter Tryd.func13, Tryd.ntmps13
    go_wp2
    go_loopw [5] (fun iv wr => ∃ k : Nat, k ≤ n ∧ iv = .int .i64 (k : Int) ∧ (Nat → decide (a.drop k = b.drop k) = D) ∧ Drawn w wr) (fun iv _ => n - (intOf iv).toNat)
    case atStart => exact ⟨0, Nat.zero_le _, rfl, hD0, Drawn.refl _⟩
    case round =>
      clear hD0
      obtain ⟨k, hk, rfl, hDk, hW⟩ := hrel
      by_cases hlt : k < n
      · have h1 : k < a.length := by rw [← HN.out]; exact hlt
        have h2 : k < b.length := by rw [HBL.out]; exact hlt
        obtain ⟨bk, o1, b1, c1, rfl, _, z0, g0⟩ := (HA.out.next hW.below).at k h1
        obtain ⟨bk', o2, b2, c2, rfl, _, z1, g1⟩ := (HB.out.next hW.below).at k h2
        have hst : Nat → (decide (a[k] = b[k]) && decide (a.drop (k + 1) = b.drop (k + 1))) = D := fun _ => by rw [← drop_eq a b k h1 h2]; exact hDk 0
        have l1 := hra _ (List.getElem_mem h1)
        have l2 := hrb _ (List.getElem_mem h2)
        generalize a[k] = x at *
        generalize b[k] = y at *
        have d1 := fun n => Lib.hid (quiet_ret rfl (same_calls _ _ x y l1 l2 (wr.drewN n) (g0.next (below_drewN (Below.refl _ _) n)) (g1.next (below_drewN (Below.refl _ _) n))))
        have HW := Lib.hid hW
        have hkn : (k : Int) < (n : Int) := by omega
        clear hDk hW g0 g1 hra hrb
        go_wp2
        by_cases hxy : x = y
        · have hDk : Nat → decide (a.drop (k + 1) = b.drop (k + 1)) = D := fun _ => by have := hst 0; simpa [hxy] using this
          rw [show decide (x = y) = true by simpa using hxy] at d1
          clear hst hxy
          go_quiet ((go_at_call 12; exact (d1 _).out))
          go_wp2
          go_roundw
          case rel => exact ⟨k + 1, by omega, by go_num, hDk, HW.out.more _⟩
          case measure => simp [intOf]; omega
        · have hDf : Hid (D = false) := by show _ = _; have := hst 0; simpa [hxy] using this.symm
          rw [show decide (x = y) = false by simpa using hxy] at d1
          clear hst hxy
          go_quiet ((go_at_call 12; exact (d1 _).out))
          go_wp2
          go_ret
          exact ⟨ret_b hDf.out.symm, HW.out.more _⟩
      · obtain rfl : k = n := by omega
        have hDt : Hid (D = true) := by
          show _ = _
          rw [← hDk 0, HN.out, List.drop_length, ← HN.out, ← HBL.out, List.drop_length]; rfl
        have HW := Lib.hid hW
        clear hDk hW
        go_wp2
        go_ret
        exact ⟨ret_b hDt.out.symm, HW.out⟩
  · have HV : Hid (decide (a = b) = false) := by
      show _ = _
      exact decide_eq_false fun e => hl (by rw [e])
    have hne : ((a.length : Int) != (b.length : Int)) = true := bne_iff_ne.2 (by omega)
    have hne2 : ¬ (a.length : Int) = (b.length : Int) := by omega
    clear hl ha hb
    go_enter Tryd.func13, Tryd.ntmps13
    go_wp2
    go_ret
    exact ⟨ret_b HV.out.symm, 0, rfl⟩
end Go.Proofs.YtdeeoigcpihidaaDoor
