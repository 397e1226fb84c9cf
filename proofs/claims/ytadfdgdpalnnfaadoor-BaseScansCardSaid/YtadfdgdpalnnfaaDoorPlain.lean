/- Plain mathematics of the encodings of chapter 1: decimal numerals, the encodings, and a reader as a function on lists of bytes. -/
import Derived.Lib.ItoaNum
import Derived.Lib.AtoiAll
import Derived.Lib.Bytealg
namespace Go.Proofs.YtadfdgdpalnnfaaDoor
open Go.Lib

/-! ### digits -/

def isDig (c : UInt8) : Bool := decide (48 ≤ c.toNat ∧ c.toNat ≤ 57)

theorem dig_toNat (k : Nat) (h : k < 10) : (UInt8.ofNat (48 + k)).toNat = 48 + k := by
  simp [UInt8.toNat_ofNat']; omega

theorem decDigits_small {u : Nat} (h : u < 10) : decDigits u = [UInt8.ofNat (48 + u)] := by rw [decDigits, dif_pos h]
theorem decDigits_big {u : Nat} (h : ¬ u < 10) : decDigits u = decDigits (u / 10) ++ [UInt8.ofNat (48 + u % 10)] := by rw [decDigits, dif_neg h]

theorem decDigits_isDig (u : Nat) : ∀ c ∈ decDigits u, isDig c = true := by
  induction u using Nat.strongRecOn with
  | _ u ih =>
    intro c hc
    by_cases h : u < 10
    · rw [decDigits_small h] at hc
      simp only [List.mem_singleton] at hc
      subst hc
      simp only [isDig, decide_eq_true_eq, dig_toNat u h]; omega
    · rw [decDigits_big h, List.mem_append] at hc
      rcases hc with hc | hc
      · exact ih (u / 10) (by omega) c hc
      · simp only [List.mem_singleton] at hc
        subst hc
        have := dig_toNat (u % 10) (by omega)
        simp only [isDig, decide_eq_true_eq, this]; omega

theorem decDigits_ne (u : Nat) : decDigits u ≠ [] := by
  by_cases h : u < 10
  · rw [decDigits_small h]; simp
  · rw [decDigits_big h]; simp

theorem decDigits_head (u : Nat) : ∃ c r, decDigits u = c :: r ∧ isDig c = true := by
  cases h : decDigits u with
  | nil => exact absurd h (decDigits_ne u)
  | cons c r => exact ⟨c, r, rfl, decDigits_isDig u c (by rw [h]; simp)⟩

theorem parse_append : ∀ (l m : List UInt8) (acc u : Nat), parseUint10 acc l = .ok u → parseUint10 acc (l ++ m) = parseUint10 u m
  | [], m, acc, u, h => by
    simp only [parseUint10, NumEnd.ok.injEq] at h
    subst h; rfl
  | c :: r, m, acc, u, h => by
    simp only [parseUint10] at h
    simp only [List.cons_append, parseUint10]
    split at h
    · rename_i hc
      rw [if_pos hc]
      split at h
      · cases h
      · rename_i h1
        rw [if_neg h1]
        split at h
        · cases h
        · rename_i h2
          rw [if_neg h2]
          exact parse_append r m _ u h
    · cases h

theorem parse_decDigits (u : Nat) : u < 18446744073709551616 → parseUint10 0 (decDigits u) = .ok u := by
  induction u using Nat.strongRecOn with
  | _ u ih =>
    intro hu
    by_cases h : u < 10
    · rw [decDigits_small h]
      have e := dig_toNat u h
      simp only [parseUint10, e]
      rw [if_pos (by omega), if_neg (by omega), if_neg (by omega)]
      simp
    · rw [decDigits_big h, parse_append _ _ 0 (u / 10) (ih (u / 10) (by omega) (by omega))]
      have e := dig_toNat (u % 10) (by omega)
      simp only [parseUint10, e]
      rw [if_pos (by omega), if_neg (by omega), if_neg (by omega)]
      simp only [NumEnd.ok.injEq]
      omega

/-- An int's decimal numeral is parsed to this int. -/
theorem atoiAll_itoa (n : Int) (h0 : -9223372036854775808 ≤ n) (h1 : n ≤ 9223372036854775807) : atoiAll (itoa n) = .ok n := by
  unfold itoa
  by_cases hn : n < 0
  · rw [if_pos hn]
    have hp := parse_decDigits n.natAbs (by omega)
    unfold atoiAll
    simp only
    rw [if_pos (by right; decide)]
    unfold parseMag
    rw [if_neg (decDigits_ne _), hp]
    simp only
    have e : (45 : UInt8).toNat = 45 := by decide
    rw [if_neg (by simp [e]), if_neg (by omega), if_pos e]
    simp only [NumEnd.ok.injEq]
    omega
  · rw [if_neg hn]
    obtain ⟨c, r, hc, hd⟩ := decDigits_head n.toNat
    have hp := parse_decDigits n.toNat (by omega)
    rw [hc] at hp ⊢
    simp only [isDig, decide_eq_true_eq] at hd
    unfold atoiAll
    simp only
    rw [if_neg (by omega)]
    unfold parseMag
    rw [if_neg (by simp), hp]
    simp only
    rw [if_neg (by omega), if_neg (by omega), if_neg (by omega)]
    simp only [NumEnd.ok.injEq]
    omega

theorem itoa_inj (a b : Int) (ha0 : -9223372036854775808 ≤ a) (ha1 : a ≤ 9223372036854775807) (hb0 : -9223372036854775808 ≤ b) (hb1 : b ≤ 9223372036854775807) (h : itoa a = itoa b) : a = b := by
  have x := atoiAll_itoa a ha0 ha1
  rw [h, atoiAll_itoa b hb0 hb1] at x
  simpa using x.symm

/-- What base.canonical answers. -/
def canon (l : List UInt8) : Option Int :=
  match atoiAll l with
  | .ok v => if itoa v = l then some v else none
  | _ => none

def isInt (n : Int) : Prop := -9223372036854775808 ≤ n ∧ n ≤ 9223372036854775807

theorem canon_itoa (n : Int) (h : isInt n) : canon (itoa n) = some n := by
  unfold canon; rw [atoiAll_itoa n h.1 h.2]; simp

theorem canon_some {l : List UInt8} {n : Int} (h : canon l = some n) : itoa n = l := by
  unfold canon at h
  split at h
  · split at h
    · rename_i he
      simp only [Option.some.injEq] at h
      subst h; exact he
    · cases h
  · cases h

theorem atoiAll_int {l : List UInt8} {n : Int} (h : atoiAll l = .ok n) : isInt n := by
  unfold atoiAll at h
  cases l with
  | nil => simp at h
  | cons c r =>
    simp only at h
    unfold isInt
    split at h
    · cases h
    · cases h
    · rename_i u hm
      split at h
      · cases h
      · split at h
        · cases h
        · split at h
          · simp only [NumEnd.ok.injEq] at h; omega
          · simp only [NumEnd.ok.injEq] at h; omega

theorem canon_int {l : List UInt8} {n : Int} (h : canon l = some n) : isInt n := by
  unfold canon at h
  split at h
  · rename_i v hm
    split at h
    · simp only [Option.some.injEq] at h
      subst h; exact atoiAll_int hm
    · cases h
  · cases h

/-! ### the encodings -/

end Go.Proofs.YtadfdgdpalnnfaaDoor
