/- Prime. -/
import Derived.Test.YthnkfjjgccabeaaGreatDoorPrime
namespace Go.Proofs.YthnkfjjgccabeaaGreatDoor
open Go.RowKit

theorem find_first {α : Type} {p : α → Bool} : ∀ (L : List α) (k : Nat) (s : α), L[k]? = some s → (∀ j t, j < k → L[j]? = some t → p t = false) → p s = true → L.find? p = some s
  | [], k, s, h, _, _ => by simp at h
  | a :: L, 0, s, h, _, hp => by
    simp at h; subst h
    rw [List.find?_cons, hp]
  | a :: L, k + 1, s, h, hno, hp => by
    rw [List.find?_cons, hno 0 a (by omega) rfl]
    exact find_first L k s (by simpa using h) (fun j t hj ht => hno (j + 1) t (by omega) (by simpa using ht)) hp
theorem find_never {α : Type} {p : α → Bool} (L : List α) (h : ∀ (j : Nat) t, L[j]? = some t → p t = false) : L.find? p = none := by
  rw [List.find?_eq_none]
  intro x hx
  obtain ⟨j, hj⟩ := List.mem_iff_getElem?.1 hx
  rw [h j x hj]; simp
/-- No base so far divides n. -/
def noDiv (n k : Nat) : Prop := ∀ j t, j < k → witL[j]? = some t → n % t ≠ 0
theorem noDiv_next {n k p : Nat} (h : noDiv n k) (hp : witL[k]? = some p) (hd : n % p ≠ 0) : noDiv n (k + 1) := by
  intro j t hj ht
  rcases Nat.lt_or_ge j k with h1 | h1
  · exact h j t h1 ht
  · obtain rfl : j = k := by omega
    rw [hp] at ht
    simp only [Option.some.injEq] at ht
    subst ht; exact hd
theorem prime_hit {n k p : Nat} (h : noDiv n k) (hp : witL[k]? = some p) (hd : n % p = 0) : primeN n = decide (n = p) := by
  unfold primeN
  rw [find_first witL k p hp (fun j t hj ht => decide_eq_false (h j t hj ht)) (decide_eq_true hd)]
theorem prime_miss {n : Nat} (h : noDiv n 12) : primeN n = witL.all (passB n) := by
  unfold primeN
  rw [find_never witL (fun j t ht => decide_eq_false (h j t (by have := (List.getElem?_eq_some_iff.1 ht).1; exact this) ht))]
theorem big_of_noDiv {n : Nat} (h2 : 2 ≤ n) (h : noDiv n 12) : 37 < n := by
  rcases Nat.lt_or_ge 37 n with h1 | h1
  · exact h1
  · exfalso
    have : ∀ m, m < 38 → 2 ≤ m → ∃ j, j < 12 ∧ ∃ t, witL[j]? = some t ∧ m % t = 0 := by decide
    obtain ⟨j, hj, t, ht, hm⟩ := this n (by omega) h2
    exact h j t hj ht hm
/-- All bases so far accept n. -/
def allPass (n k : Nat) : Prop := ∀ j t, j < k → witL[j]? = some t → passB n t = true
theorem allPass_next {n k p : Nat} (h : allPass n k) (hp : witL[k]? = some p) (hd : passB n p = true) : allPass n (k + 1) := by
  intro j t hj ht
  rcases Nat.lt_or_ge j k with h1 | h1
  · exact h j t h1 ht
  · obtain rfl : j = k := by omega
    rw [hp] at ht
    simp only [Option.some.injEq] at ht
    subst ht; exact hd
theorem all_true {n : Nat} (h : allPass n 12) : witL.all (passB n) = true := by
  rw [List.all_eq_true]
  intro x hx
  obtain ⟨j, hj⟩ := List.mem_iff_getElem?.1 hx
  exact h j x (by have := (List.getElem?_eq_some_iff.1 hj).1; exact this) hj
theorem all_false {n k p : Nat} (hp : witL[k]? = some p) (hd : passB n p = false) : witL.all (passB n) = false := by
  rw [List.all_eq_false]
  exact ⟨p, List.mem_of_getElem? hp, by rw [hd]; simp⟩
theorem wit_bounds : ∀ (k p : Nat), witL[k]? = some p → 2 ≤ p ∧ p ≤ 37 := by
  intro k p h
  have hm := List.mem_of_getElem? h
  revert hm
  have : ∀ p ∈ witL, 2 ≤ p ∧ p ≤ 37 := by decide
  exact this p

theorem idx_wit (A : Array Value) (k : Nat) (b : Int) (hk : k < 12) (h : A[k]? = some (.int .i64 b)) (w : World) : (Instr.index 144 (.agg A) (.int .i64 (k : Int))).run Tryz.prog w = .ok (.int .i64 b) w := by
  simp [Instr.index, run_underlying Tryz.underlying144, asIntOf, go_sem, part, Tryz.isAgg3, Tryz.sizeOf3, h]
  intro hn
  omega
theorem cast_beq (a b : Nat) : ((a : Int) == (b : Int)) = decide (a = b) := by
  rw [Bool.eq_iff_iff, beq_iff_eq, decide_eq_true_iff]; omega
theorem infoWit : (Tryz.prog.info? 144).map (·.size) = some 12 := by kernel_rfl
theorem wit_load (w : World) (hE : Env w) : ∃ C : List Value, w.rangeAt 0 0 C ∧ C.length = 12 ∧ ∀ (i p : Nat), witL[i]? = some p → C.toArray[i]? = some (Value.int .i64 (p : Int)) := by
  refine ⟨witL.map fun l => Value.int .i64 ((l : Nat) : Int), fun j v hv => ?_, rfl, fun i l h => by simp [h]⟩
  rw [List.getElem?_map] at hv
  obtain ⟨l, hl, rfl⟩ := Option.map_eq_some_iff.1 hv
  rw [Nat.zero_add]
  exact hE.wit j l hl

set_option maxHeartbeats 1000000 in
theorem prime_in (n : Nat) (hn1 : 2 ≤ n) (hn : n < 2305843009213693952) (w : World) (hE : Env w) :
    Calls Tryz.prog 84 #[.int .i64 (n : Int)] w (Ret (.bool (primeN n)) w) := by
  have d1 : decide ((n : Int) < 2) = false := decide_eq_false (by omega)
  have d2 : decide (2305843009213693952 ≤ (n : Int)) = false := decide_eq_false (by omega)
  obtain ⟨C, hload, hClen, hC2⟩ := wit_load w hE
  have HC2 := Lib.hid hC2
  clear hC2
  go_enter Tryz.func84, Tryz.ntmps84
  go_wp2_with (refine wpList_load_mid rfl 144 (.global 0) rfl 0 0 rfl C _ hload Tryz.underlying144 rfl (by rw [hClen]; exact infoWit) ?_)
  go_loop [14] (fun i => ∃ k : Nat, k ≤ 12 ∧ i = .int .i64 (k : Int) ∧ noDiv n k) (fun i => 12 - (intOf i).toNat)
  case atStart => exact ⟨0, by omega, rfl, fun j t hj => by omega⟩
  case round =>
    obtain ⟨k, hk, rfl, hno⟩ := hrel
    have HNO := Lib.hid hno
    clear hno
    by_cases hlt : k < 12
    · have hl2 : k < witL.length := hlt
      have hp := List.getElem?_eq_getElem hl2
      generalize witL[k]'hl2 = p at *
      have hix := idx_wit C.toArray k (p : Int) hlt (HC2.out k p hp)
      have HP := Lib.hid hp
      obtain ⟨hp1, hp2⟩ := wit_bounds k p hp
      have hpz : ((p : Int) == 0) = false := beq_eq_false_iff_ne.2 (by omega)
      have hpn : ¬ (p = 0) := by omega
      clear hp hload
      by_cases hd : n % p = 0
      · have d3 : ((n : Int) % (p : Int) == 0) = true := by rw [modN, hd]; rfl
        have HR : Hid (primeN n = decide (n = p)) := prime_hit HNO.out HP.out hd
        clear hd
        go_wp2
        go_ret
        exact ⟨ret_b (by rw [HR.out]; exact cast_beq n p), 0, rfl⟩
      · have d3 : ((n : Int) % (p : Int) == 0) = false := by rw [modN]; exact beq_eq_false_iff_ne.2 (by omega)
        have HR : Hid (noDiv n (k + 1)) := noDiv_next HNO.out HP.out hd
        clear hd
        go_wp2
        go_round
        case rel => exact ⟨k + 1, by omega, by go_num, HR.out⟩
        case measure => simp [intOf]; omega
    · obtain rfl : k = 12 := by omega
      have hbig := big_of_noDiv hn1 HNO.out
      have HM : Hid (primeN n = witL.all (passB n)) := prime_miss HNO.out
      go_wp2_with (refine wpList_load_mid rfl 144 (.global 0) rfl 0 0 rfl C _ hload Tryz.underlying144 rfl (by rw [hClen]; exact infoWit) ?_)
      go_loopw [26] (fun i wr => ∃ k m : Nat, k ≤ 12 ∧ i = .int .i64 (k : Int) ∧ allPass n k ∧ wr = w.drewN m) (fun i _ => 12 - (intOf i).toNat)
      case atStart => exact ⟨0, 0, by omega, rfl, fun j t hj => by omega, rfl⟩
      case round =>
        obtain ⟨k, m, hk, rfl, hno, rfl⟩ := hrel
        have HNO := Lib.hid hno
        clear hno
        by_cases hlt : k < 12
        · have hl2 : k < witL.length := hlt
          have hp := List.getElem?_eq_getElem hl2
          generalize witL[k]'hl2 = p at *
          have hix := idx_wit C.toArray k (p : Int) hlt (HC2.out k p hp)
          have HP := Lib.hid hp
          obtain ⟨hp1, hp2⟩ := wit_bounds k p hp
          have hc := passes_calls n p (by omega) hn (by omega) (w.drewN m) (hE.drewN m)
          clear hp hload
          cases hb : passB n p with
          | false =>
            rw [hb] at hc
            have HR : Hid (primeN n = false) := by show primeN n = false; rw [HM.out]; exact all_false HP.out hb
            have HC := Lib.hid hc
            clear hc hb
            go_wp2_with fail
            refine HC.out.mono ?_
            rintro e w1 ⟨rfl, m2, hw⟩
            subst hw
            go_wp2
            go_ret
            exact ⟨ret_b HR.out.symm, _, rfl⟩
          | true =>
            rw [hb] at hc
            have HR : Hid (allPass n (k + 1)) := allPass_next HNO.out HP.out hb
            have HC := Lib.hid hc
            clear hc hb
            go_wp2_with fail
            refine HC.out.mono ?_
            rintro e w1 ⟨rfl, m2, hw⟩
            subst hw
            go_wp2
            go_roundw
            case rel => exact ⟨k + 1, _, by omega, by go_num, HR.out, rfl⟩
            case measure => simp [intOf]; omega
        · obtain rfl : k = 12 := by omega
          have HR : Hid (primeN n = true) := by show primeN n = true; rw [HM.out]; exact all_true HNO.out
          go_wp2
          go_ret
          exact ⟨ret_b HR.out.symm, m, rfl⟩
theorem primeB_nat {n : Nat} (h1 : 2 ≤ n) (h2 : n < 2305843009213693952) : primeB (n : Int) = primeN n := by
  unfold primeB; rw [if_pos ⟨by omega, by omega⟩]; rfl
theorem prime_calls (n : Int) (_ : isInt n) (w : World) (hE : Env w) :
    Calls Tryz.prog 84 #[.int .i64 n] w (Ret (.bool (primeB n)) w) := by
  by_cases h1 : n < 2
  · have d1 : decide (n < 2) = true := decide_eq_true h1
    have HR : Hid (primeB n = false) := by show primeB n = false; unfold primeB; rw [if_neg (by omega)]
    clear hE
    go_enter Tryz.func84, Tryz.ntmps84
    go_wp2
    go_ret
    exact ⟨ret_b HR.out.symm, 0, rfl⟩
  · by_cases h2 : 2305843009213693952 ≤ n
    · have d1 : decide (n < 2) = false := decide_eq_false h1
      have d2 : decide (2305843009213693952 ≤ n) = true := decide_eq_true h2
      have HR : Hid (primeB n = false) := by show primeB n = false; unfold primeB; rw [if_neg (by omega)]
      clear hE
      go_enter Tryz.func84, Tryz.ntmps84
      go_wp2
      go_ret
      exact ⟨ret_b HR.out.symm, 0, rfl⟩
    · obtain ⟨N, rfl⟩ := Int.eq_ofNat_of_zero_le (show 0 ≤ n by omega)
      rw [primeB_nat (by omega) (by omega)]
      exact prime_in N (by omega) (by omega) w hE
end Go.Proofs.YthnkfjjgccabeaaGreatDoor
