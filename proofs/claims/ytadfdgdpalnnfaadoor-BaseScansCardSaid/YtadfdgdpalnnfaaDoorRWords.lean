/- The reference's classes of bytes, Name, Value, Number. -/
import Derived.Test.YtadfdgdpalnnfaaDoorSpan
import Derived.Test.YtadfdgdpalnnfaaDoorRPlain
namespace Go.Proofs.YtadfdgdpalnnfaaDoor
open Go.RowKit

theorem rcls_digit : Cls 27 isDig := by
  intro c w
  unfold isDig
  generalize c.toNat = n
  go_enter Tryd.func27, Tryd.ntmps27
  by_cases h1 : 48 ≤ n
  · have e1 : (48 : Int) ≤ (n : Int) := by omega
    go_wp2
    go_ret
    refine ⟨ret_b ?_, rfl⟩
    rw [decide_eq_decide]; omega
  · have e1 : ¬ (48 : Int) ≤ (n : Int) := by omega
    go_wp2
    go_ret
    exact ⟨ret_b (by simp), rfl⟩
theorem rcls_letter : Cls 35 isLet := by
  intro c w
  unfold isLet
  generalize c.toNat = n
  go_enter Tryd.func35, Tryd.ntmps35
  by_cases h1 : 97 ≤ n
  · have e1 : (97 : Int) ≤ (n : Int) := by omega
    by_cases h2 : n ≤ 122
    · have e2 : (n : Int) ≤ 122 := by omega
      go_wp2
      go_ret
      exact ⟨ret_b (by simp [h1, h2]), rfl⟩
    · have e2 : ¬ (n : Int) ≤ 122 := by omega
      have e3 : (65 : Int) ≤ (n : Int) := by omega
      go_wp2
      go_ret
      exact ⟨ret_b (by rw [Bool.eq_iff_iff]; simp; omega), rfl⟩
  · have e1 : ¬ (97 : Int) ≤ (n : Int) := by omega
    by_cases h3 : 65 ≤ n
    · have e3 : (65 : Int) ≤ (n : Int) := by omega
      go_wp2
      go_ret
      exact ⟨ret_b (by rw [Bool.eq_iff_iff]; simp; omega), rfl⟩
    · have e3 : ¬ (65 : Int) ≤ (n : Int) := by omega
      go_wp2
      go_ret
      exact ⟨ret_b (by simp), rfl⟩
theorem rcls_blank : Cls 24 isBl := by
  intro c w
  unfold isBl
  generalize c.toNat = n
  go_enter Tryd.func24, Tryd.ntmps24
  by_cases h1 : n = 9
  · subst h1
    go_wp2
    go_ret
    exact ⟨ret_b (by simp), rfl⟩
  · have e1 : ((n : Int) == 9) = false := beq_eq_false_iff_ne.2 (by omega)
    by_cases h2 : n = 10
    · subst h2
      go_wp2
      go_ret
      exact ⟨ret_b (by simp), rfl⟩
    · have e2 : ((n : Int) == 10) = false := beq_eq_false_iff_ne.2 (by omega)
      by_cases h3 : n = 32
      · subst h3
        go_wp2
        go_ret
        exact ⟨ret_b (by simp), rfl⟩
      · have e3 : ((n : Int) == 32) = false := beq_eq_false_iff_ne.2 (by omega)
        go_wp2
        go_ret
        exact ⟨ret_b (by simp [h1, h2, h3]), rfl⟩

theorem tail_get {c : UInt8} {r : List UInt8} {k : Nat} (h1 : 1 ≤ k) (hk : k < (c :: r).length) : (c :: r)[k] ∈ r := by
  obtain ⟨m, rfl⟩ : ∃ m, k = m + 1 := ⟨k - 1, by omega⟩
  rw [List.getElem_cons_succ]
  exact List.getElem_mem _
theorem tail_all {p : UInt8 → Bool} {c : UInt8} {r : List UInt8} (h : ∀ j, 1 ≤ j → ∀ hj : j < (c :: r).length, p (c :: r)[j] = true) : ∀ x ∈ r, p x = true := by
  intro x hx
  obtain ⟨i, hi, rfl⟩ := List.mem_iff_getElem.1 hx
  have := h (i + 1) (by omega) (by simp; omega)
  simpa using this
theorem nm_of {b : UInt8} : isNm b = (isLet b || isDig b || !((b.toNat : Int) != 95)) := by
  unfold isNm
  by_cases h : b.toNat = 95
  · simp [h]
  · have : ((b.toNat : Int) != 95) = true := bne_iff_ne.2 (by omega)
    simp [h, this]

set_option maxRecDepth 100000 in
theorem rname_calls (l : List UInt8) (hl : l.length ≤ 4294967296) (w : World) :
    Calls Tryd.prog 18 #[.string (bs l)] w fun e w' => e = .returned (.bool (isName l)) ∧ w = w' := by
  have hsm : (bs l).size ≤ 4294967296 := by rw [bs_size]; exact hl
  cases l with
  | nil =>
    have h1 : (((bs []).size : Nat) : Int) < 1 := by rw [bs_size]; simp
    go_enter Tryd.func18, Tryd.ntmps18
    go_wp2
    go_ret
    exact ⟨rfl, rfl⟩
  | cons c r =>
    have hiff := isName_iff c r
    obtain ⟨y, hy⟩ : ∃ y, y = isName (c :: r) := ⟨_, rfl⟩
    rw [← hy] at hiff ⊢
    have HF := Lib.hid hiff
    have h1 : ¬ (((bs (c :: r)).size : Nat) : Int) < 1 := by rw [bs_size]; simp; omega
    have h0 : 0 < (bs (c :: r)).size := by rw [bs_size]; simp
    have hg0 := bs_get (c :: r) 0 h0 (by simp)
    simp only [List.getElem_cons_zero] at hg0
    have HG := Lib.hid hg0
    have hc := rcls_letter ((bs (c :: r))[0]'h0) w
    rw [congrArg isLet hg0] at hc
    clear hiff hy hg0
    by_cases h20 : (c :: r).length ≤ 20
    · have h2 : ¬ (20 : Int) < (((bs (c :: r)).size : Nat) : Int) := by rw [bs_size]; omega
      generalize hx : isLet c = x at hc
      have HX := Lib.hid hx
      have HC := Lib.hid hc
      clear hx hc
      go_enter Tryd.func18, Tryd.ntmps18
      go_wp2_with fail
      refine HC.out.mono ?_
      rintro e w1 ⟨rfl, rfl⟩
      cases x
      · go_wp2
        go_ret
        refine ⟨ret_b ?_, rfl⟩
        have h3 := HF.out
        rw [HX.out] at h3
        simp at h3
        exact h3.symm
      · clear HC
        go_wp2
        go_loopw [3] (fun i wr => ∃ k : Nat, 1 ≤ k ∧ k ≤ (c :: r).length ∧ i = .int .i64 k ∧ wr = w ∧ ∀ j, 1 ≤ j → ∀ hj : j < (c :: r).length, j < k → isNm (c :: r)[j] = true) (fun i _ => (c :: r).length - (intOf i).toNat)
        case atStart => exact ⟨1, Nat.le_refl _, by simp, rfl, rfl, fun j h1 _ h2 => by omega⟩
        case round =>
          obtain ⟨k, hk1, hk, rfl, rfl, hall⟩ := hrel
          have HALL := Lib.hid hall
          clear hall
          by_cases hlt : k < (c :: r).length
          · have hlt2 : k < (bs (c :: r)).size := by rw [bs_size]; exact hlt
            have hg := Lib.hid (bs_get (c :: r) k hlt2 hlt)
            have hkI : (k : Int) < ((bs (c :: r)).size : Int) := by omega
            have hmem := Lib.hid (tail_get hk1 hlt)
            have hc := rcls_letter ((bs (c :: r))[k]'hlt2)
            have hd := rcls_digit ((bs (c :: r))[k]'hlt2)
            rw [hg.out] at hc hd
            have hnm := nm_of (b := (c :: r)[k])
            have HBB : Hid ((bs (c :: r))[k]'hlt2 = (c :: r)[k]) := hg
            have HSTEP : Hid (isNm (c :: r)[k] = true → ∀ j, 1 ≤ j → ∀ hj : j < (c :: r).length, j < k + 1 → isNm (c :: r)[j] = true) := fun h j h1 hj h2 => by
              rcases Nat.lt_or_ge j k with h3 | h3
              · exact HALL.out j h1 hj h3
              · obtain rfl : j = k := by omega
                exact h
            generalize hb : (c :: r)[k] = b at *
            generalize isLet b = x1 at *
            generalize isDig b = x2 at *
            have HC := Lib.hid (hc wr)
            have HD := Lib.hid (hd wr)
            have hu := b.toNat_lt
            obtain ⟨x3, hx3⟩ : ∃ x3, x3 = ((b.toNat : Int) != 95) := ⟨_, rfl⟩
            rw [← hx3] at hnm
            have HNM := Lib.hid hnm
            have hx4 : ((((bs (c :: r))[k]'hlt2).toNat : Int) != 95) = x3 := by rw [HBB.out]; exact hx3.symm
            clear hc hd hnm hb hx3
            go_wp2_with fail
            rw [HBB.out]
            refine HC.out.mono ?_
            rintro e w1 ⟨rfl, rfl⟩
            cases x1
            · go_wp2_with fail
              rw [HBB.out]
              refine HD.out.mono ?_
              rintro e w1 ⟨rfl, rfl⟩
              cases x2
              · cases x3
                · go_wp2
                  go_roundw
                  case rel => exact ⟨k + 1, by omega, by omega, by go_num, trivial, HSTEP.out (by rw [HNM.out]; rfl)⟩
                  case measure => simp only [intOf]; omega
                · go_wp2
                  go_ret
                  refine ⟨ret_b ?_, rfl⟩
                  cases y with
                  | false => rfl
                  | true =>
                    have h4 := (HF.out.1 rfl).2.2 _ hmem.out
                    rw [HNM.out] at h4
                    cases h4
              · go_wp2
                go_roundw
                case rel => exact ⟨k + 1, by omega, by omega, by go_num, trivial, HSTEP.out (by rw [HNM.out]; rfl)⟩
                case measure => simp only [intOf]; omega
            · go_wp2
              go_roundw
              case rel => exact ⟨k + 1, by omega, by omega, by go_num, trivial, HSTEP.out (by rw [HNM.out]; rfl)⟩
              case measure => simp only [intOf]; omega
          · have hkI : ¬ (k : Int) < ((bs (c :: r)).size : Int) := by rw [bs_size]; omega
            go_wp2
            go_ret
            exact ⟨ret_b (HF.out.2 ⟨h20, HX.out, tail_all fun j h1 hj => HALL.out j h1 hj (by omega)⟩).symm, rfl⟩
    · have h2 : (20 : Int) < (((bs (c :: r)).size : Nat) : Int) := by rw [bs_size]; omega
      clear hc
      go_enter Tryd.func18, Tryd.ntmps18
      go_wp2
      go_ret
      refine ⟨ret_b ?_, rfl⟩
      cases y with
      | false => rfl
      | true => exact absurd (HF.out.1 rfl).1 h20
end Go.Proofs.YtadfdgdpalnnfaaDoor
