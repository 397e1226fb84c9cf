/- The reference's Value and Number. -/
import Derived.Test.YtadfdgdpalnnfaaDoorRWords
namespace Go.Proofs.YtadfdgdpalnnfaaDoor
open Go.RowKit

theorem step_all {p : UInt8 → Bool} {l : List UInt8} {k : Nat} (h : ∀ j, ∀ hj : j < l.length, j < k → p l[j] = true) (hk : k < l.length) (hp : p l[k] = true) : ∀ j, ∀ hj : j < l.length, j < k + 1 → p l[j] = true := by
  intro j hj h2
  rcases Nat.lt_or_ge j k with h3 | h3
  · exact h j hj h3
  · obtain rfl : j = k := by omega
    exact hp
theorem end_all {p : UInt8 → Bool} {l : List UInt8} {k : Nat} (h : ∀ j, ∀ hj : j < l.length, j < k → p l[j] = true) (hk : l.length ≤ k) : ∀ x ∈ l, p x = true := by
  intro x hx
  obtain ⟨i, hi, rfl⟩ := List.mem_iff_getElem.1 hx
  exact h i hi (by omega)

set_option maxRecDepth 100000 in
theorem rvalue_calls (l : List UInt8) (hl : l.length ≤ 4294967296) (w : World) :
    Calls Tryd.prog 30 #[.string (bs l)] w fun e w' => e = .returned (.bool (isVal l)) ∧ w = w' := by
  have hsm : (bs l).size ≤ 4294967296 := by rw [bs_size]; exact hl
  have hiff := isVal_iff l
  obtain ⟨y, hy⟩ : ∃ y, y = isVal l := ⟨_, rfl⟩
  rw [← hy] at hiff ⊢
  have HF := Lib.hid hiff
  clear hiff hy
  go_enter Tryd.func30, Tryd.ntmps30
  go_wp2
  go_loopw [3] (fun i wr => ∃ k : Nat, k ≤ l.length ∧ i = .int .i64 k ∧ wr = w ∧ ∀ j, ∀ hj : j < l.length, j < k → isQt l[j] = true) (fun i _ => l.length - (intOf i).toNat)
  case atStart => exact ⟨0, Nat.zero_le _, rfl, rfl, fun j _ h2 => by omega⟩
  case round =>
    obtain ⟨k, hk, rfl, rfl, hall⟩ := hrel
    have HALL := Lib.hid hall
    clear hall
    by_cases hlt : k < l.length
    · have hlt2 : k < (bs l).size := by rw [bs_size]; exact hlt
      have hkI : (k : Int) < ((bs l).size : Int) := by omega
      have hg := bs_get l k hlt2 hlt
      have HMEM : Hid (l[k] ∈ l) := List.getElem_mem hlt
      have HSTEP : Hid (isQt l[k] = true → ∀ j, ∀ hj : j < l.length, j < k + 1 → isQt l[j] = true) := fun h => step_all HALL.out hlt h
      have HBB := Lib.hid hg
      clear hg
      generalize l[k] = b at *
      have hu := b.toNat_lt
      by_cases q1 : 32 ≤ b.toNat
      · have e1 : ¬ (((bs l)[k]'hlt2).toNat : Int) < 32 := by rw [HBB.out]; omega
        by_cases q2 : b.toNat ≤ 126
        · have e2 : ¬ (126 : Int) < (((bs l)[k]'hlt2).toNat : Int) := by rw [HBB.out]; omega
          have HQ : Hid (isQt b = true) := by show _ = _; unfold isQt; exact decide_eq_true ⟨q1, q2⟩
          go_wp2
          go_roundw
          case rel => exact ⟨k + 1, by omega, by go_num, trivial, HSTEP.out HQ.out⟩
          case measure => simp only [intOf]; omega
        · have e2 : (126 : Int) < (((bs l)[k]'hlt2).toNat : Int) := by rw [HBB.out]; omega
          have HQ : Hid (isQt b = false) := by show _ = _; unfold isQt; exact decide_eq_false fun h => q2 h.2
          go_wp2
          go_ret
          refine ⟨ret_b ?_, rfl⟩
          cases y with
          | false => rfl
          | true => have h4 := (HF.out.1 rfl).2 _ HMEM.out; rw [HQ.out] at h4; cases h4
      · have e1 : (((bs l)[k]'hlt2).toNat : Int) < 32 := by rw [HBB.out]; omega
        have HQ : Hid (isQt b = false) := by show _ = _; unfold isQt; exact decide_eq_false fun h => q1 h.1
        go_wp2
        go_ret
        refine ⟨ret_b ?_, rfl⟩
        cases y with
        | false => rfl
        | true => have h4 := (HF.out.1 rfl).2 _ HMEM.out; rw [HQ.out] at h4; cases h4
    · have hkI : ¬ (k : Int) < ((bs l).size : Int) := by rw [bs_size]; omega
      by_cases h4 : l.length ≤ 400
      · have hI : (((bs l).size : Nat) : Int) ≤ 400 := by rw [bs_size]; omega
        go_wp2
        go_ret
        refine ⟨ret_b ?_, rfl⟩
        rw [HF.out.2 ⟨h4, end_all HALL.out (by omega)⟩]
      · have hI : ¬ (((bs l).size : Nat) : Int) ≤ 400 := by rw [bs_size]; omega
        go_wp2
        go_ret
        refine ⟨ret_b ?_, rfl⟩
        cases y with
        | false => rfl
        | true => exact absurd (HF.out.1 rfl).1 h4

theorem num_over {l : List UInt8} {k : Nat} (h : 1099511627776 < dval (l.take k) 0) : ¬ numOk l := fun ⟨_, _, _, h4⟩ => by have := dval_pre l k; omega

set_option maxRecDepth 100000 in
theorem rnumber_calls (l : List UInt8) (hl : l.length ≤ 4294967296) (w : World) :
    Calls Tryd.prog 13 #[.string (bs l)] w fun e w' => e = .returned (.tuple #[.int .i64 ((numL l).getD 0), .bool (numL l).isSome]) ∧ w = w' := by
  have hsm : (bs l).size ≤ 4294967296 := by rw [bs_size]; exact hl
  have hyes := fun h => numL_ok (l := l) h
  have hno := fun h => numL_no (l := l) h
  obtain ⟨y, hy⟩ : ∃ y, y = numL l := ⟨_, rfl⟩
  simp only [← hy] at hyes hno ⊢
  have HY := Lib.hid hyes
  have HN := Lib.hid hno
  clear hyes hno hy
  go_enter Tryd.func13, Tryd.ntmps13
  go_wp2
  go_loopw [4, 5] (fun nv i wr => ∃ k n : Nat, k ≤ l.length ∧ i = .int .i64 k ∧ nv = .int .i64 n ∧ n ≤ 10995116277769 ∧ wr = w ∧ Hid (n = dval (l.take k) 0) ∧ ∀ j, ∀ hj : j < l.length, j < k → isDig l[j] = true) (fun _ i _ => l.length - (intOf i).toNat)
  case atStart => exact ⟨0, 0, Nat.zero_le _, rfl, rfl, by omega, rfl, rfl, fun j _ h2 => by omega⟩
  case round =>
    obtain ⟨k, n, hk, rfl, rfl, hn, rfl, HV, hall⟩ := hrel
    have HALL := Lib.hid hall
    clear hall
    by_cases hlt : k < l.length
    · have hlt2 : k < (bs l).size := by rw [bs_size]; exact hlt
      have hkI : (k : Int) < ((bs l).size : Int) := by omega
      have hg := bs_get l k hlt2 hlt
      have HMEM : Hid (l[k] ∈ l) := List.getElem_mem hlt
      have HSTEP : Hid (isDig l[k] = true → ∀ j, ∀ hj : j < l.length, j < k + 1 → isDig l[j] = true) := fun h => step_all HALL.out hlt h
      have HNX : Hid (dval (l.take (k + 1)) 0 = 10 * dval (l.take k) 0 + (l[k].toNat - 48)) := dval_next l k hlt
      have hd := rcls_digit ((bs l)[k]'hlt2) wr
      rw [hg] at hd
      have HBB := Lib.hid hg
      clear hg
      generalize l[k] = b at *
      generalize hx : isDig b = x at hd
      have HX := Lib.hid hx
      have HD := Lib.hid hd
      clear hx hd
      go_wp2_with fail
      rw [HBB.out]
      refine HD.out.mono ?_
      rintro e w1 ⟨rfl, rfl⟩
      cases x
      · have HB : Hid (y = none) := HN.out fun h => by have h4 := h.2.1 _ HMEM.out; rw [HX.out] at h4; cases h4
        go_wp2
        go_ret2
        rw [HB.out]
        exact ⟨rfl, rfl⟩
      · by_cases hov : 1099511627776 < n
        · have hoI : (1099511627776 : Int) < (n : Int) := by omega
          have HB : Hid (y = none) := HN.out (num_over (k := k) (by have := HV.out; omega))
          go_wp2
          go_ret2
          rw [HB.out]
          exact ⟨rfl, rfl⟩
        · have hoI : ¬ (1099511627776 : Int) < (n : Int) := by omega
          have hdl := dig_le HX.out
          have hnx := HNX.out
          rw [← HV.out] at hnx
          have HNX2 := Lib.hid hnx
          clear hnx HNX
          have hbb := congrArg UInt8.toNat HBB.out
          generalize hcc : b.toNat = cc at *
          have hc1 : (48 : Int) ≤ (cc : Int) := by omega
          have hc2 : (cc : Int) ≤ 57 := by omega
          have hn0 : (0 : Int) ≤ (n : Int) := by omega
          have hn1 : (n : Int) ≤ 1099511627776 := by omega
          clear hcc
          go_wp2
          go_roundw
          case rel => exact ⟨k + 1, 10 * n + (cc - 48), by omega, by go_num, by congr 1; omega, by omega, trivial, HNX2.out.symm, HSTEP.out HX.out⟩
          case measure => simp only [intOf]; omega
    · have hkI : ¬ (k : Int) < ((bs l).size : Int) := by rw [bs_size]; omega
      have HVE : Hid (n = dval l 0) := by have h := HV.out; rw [List.take_of_length_le (by omega)] at h; exact h
      have HAL : Hid (∀ c ∈ l, isDig c = true) := end_all HALL.out (by omega)
      by_cases z1 : l.length < 1
      · have zI : (((bs l).size : Nat) : Int) < 1 := by rw [bs_size]; omega
        have HB : Hid (y = none) := HN.out fun h => h.1 (List.eq_nil_of_length_eq_zero (by omega))
        go_wp2
        go_ret2
        rw [HB.out]
        exact ⟨rfl, rfl⟩
      · have zI : ¬ (((bs l).size : Nat) : Int) < 1 := by rw [bs_size]; omega
        have hlt0 : 0 < (bs l).size := by rw [bs_size]; omega
        have hg := bs_get l 0 hlt0 (by omega)
        have HH : Hid (l.head? = some l[0]) := by
          cases l with
          | nil => simp at z1
          | cons c r => rfl
        have HBB := Lib.hid hg
        clear hg
        generalize l[0] = b at *
        by_cases z2 : 1 < l.length
        · have z2I : (1 : Int) < (((bs l).size : Nat) : Int) := by rw [bs_size]; omega
          obtain ⟨x, hx⟩ : ∃ x, (((((bs l)[0]'hlt0).toNat : Nat) : Int) == 48) = x := ⟨_, rfl⟩
          cases x
          · have HH2 : Hid (l.head? ≠ some 48) := by
              show _ ≠ _
              rw [HH.out]
              intro h
              rw [HBB.out, Option.some.inj h] at hx
              exact absurd hx (by decide)
            by_cases hov : 1099511627776 < n
            · have hoI : (1099511627776 : Int) < (n : Int) := by omega
              have HB : Hid (y = none) := HN.out fun h => by have h1 := h.2.2.2; have h2 := HVE.out; omega
              go_wp2
              go_ret2
              rw [HB.out]
              exact ⟨rfl, rfl⟩
            · have hoI : ¬ (1099511627776 : Int) < (n : Int) := by omega
              have HB : Hid (y = some (n : Int)) := by
                have h := HY.out ⟨fun h => by rw [h] at z2; simp at z2, HAL.out, fun _ => HH2.out, by have h2 := HVE.out; omega⟩
                rw [← HVE.out] at h
                exact h
              go_wp2
              go_ret2
              rw [HB.out]
              exact ⟨rfl, rfl⟩
          · have HB : Hid (y = none) := HN.out fun h => by
              have h1 := h.2.2.1 z2
              rw [HH.out] at h1
              rw [HBB.out] at hx
              have h2 : b.toNat = 48 := by have := beq_iff_eq.1 hx; omega
              exact h1 (congrArg some (UInt8.toNat.inj h2))
            go_wp2
            go_ret2
            rw [HB.out]
            exact ⟨rfl, rfl⟩
        · have z2I : ¬ (1 : Int) < (((bs l).size : Nat) : Int) := by rw [bs_size]; omega
          by_cases hov : 1099511627776 < n
          · have hoI : (1099511627776 : Int) < (n : Int) := by omega
            have HB : Hid (y = none) := HN.out fun h => by have h1 := h.2.2.2; have h2 := HVE.out; omega
            go_wp2
            go_ret2
            rw [HB.out]
            exact ⟨rfl, rfl⟩
          · have hoI : ¬ (1099511627776 : Int) < (n : Int) := by omega
            have HB : Hid (y = some (n : Int)) := by
              have h := HY.out ⟨fun h => by rw [h] at z1; simp at z1, HAL.out, fun h => absurd h z2, by have h2 := HVE.out; omega⟩
              rw [← HVE.out] at h
              exact h
            go_wp2
            go_ret2
            rw [HB.out]
            exact ⟨rfl, rfl⟩
end Go.Proofs.YtadfdgdpalnnfaaDoor
