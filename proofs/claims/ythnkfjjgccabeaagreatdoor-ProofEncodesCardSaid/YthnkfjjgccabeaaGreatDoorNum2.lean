/- Powers by squaring, the test of Miller and Rabin, and the reference's ways to multiply and to invert (plain numbers). -/
import Derived.Test.YthnkfjjgccabeaaGreatDoorExp
namespace Go.Proofs.YthnkfjjgccabeaaGreatDoor

/-- One round of raising to a power. -/
theorem sq_round (n r a e : Nat) : (if e % 2 = 1 then r * a % n else r) * (a * a % n) ^ (e / 2) % n = r * a ^ e % n := by
  have h1 : (a * a % n) ^ (e / 2) % n = (a * a) ^ (e / 2) % n := (Nat.pow_mod (a * a) (e / 2) n).symm
  have h2 : (a * a) ^ (e / 2) = a ^ (2 * (e / 2)) := by rw [Nat.pow_mul, Nat.pow_two]
  by_cases h : e % 2 = 1
  · rw [if_pos h, Nat.mul_mod, h1, h2, Nat.mod_mod, ← Nat.mul_mod, Nat.mul_assoc, ← Nat.pow_succ']
    congr 3; omega
  · rw [if_neg h, Nat.mul_mod, h1, h2, ← Nat.mul_mod]
    congr 3; omega

/-- How often 2 divides a number. -/
def twosN : Nat → Nat → Nat
  | 0, _ => 0
  | f + 1, d => if d % 2 = 0 then twosN f (d / 2) + 1 else 0
def twos (d : Nat) : Nat := twosN 64 d
def witL : List Nat := [2, 3, 5, 7, 11, 13, 17, 19, 23, 29, 31, 37]
/-- The test of Miller and Rabin for one base. -/
def passB (n a : Nat) : Bool := decide (a ^ ((n - 1) / 2 ^ twos (n - 1)) % n = 1) || (List.range (twos (n - 1))).any fun i => decide (a ^ ((n - 1) / 2 ^ twos (n - 1) * 2 ^ i) % n = n - 1)
def primeN (n : Nat) : Bool := match witL.find? fun p => decide (n % p = 0) with
  | some p => decide (n = p)
  | none => witL.all (passB n)
def primeB (n : Int) : Bool := if 2 ≤ n ∧ n < 2305843009213693952 then primeN n.toNat else false
theorem prime_2 : primeB 2 = true := by decide +kernel
theorem prime_1013 : primeB 1013 = true := by decide +kernel
theorem prime_1011 : primeB 1011 = false := by decide +kernel
theorem prime_1 : primeB 1 = false := by decide +kernel
/-- Squaring goes on to the next power. -/
theorem pass_next (n a d i : Nat) : (a ^ (d * 2 ^ i) % n) * (a ^ (d * 2 ^ i) % n) % n = a ^ (d * 2 ^ (i + 1)) % n := by
  rw [← Nat.mul_mod, ← Nat.pow_two, ← Nat.pow_mul, Nat.pow_succ, Nat.mul_assoc]
/-- What is left to try from the i-th square on. -/
def passFrom (n a d s i : Nat) : Bool := (List.range (s - i)).any fun j => decide (a ^ (d * 2 ^ (i + j)) % n = n - 1)
theorem passFrom_zero (n a : Nat) : passB n a = (decide (a ^ ((n - 1) / 2 ^ twos (n - 1)) % n = 1) || passFrom n a ((n - 1) / 2 ^ twos (n - 1)) (twos (n - 1)) 0) := by
  unfold passB passFrom; simp
theorem passFrom_step (n a d s i : Nat) (h : i < s) : passFrom n a d s i = (decide (a ^ (d * 2 ^ i) % n = n - 1) || passFrom n a d s (i + 1)) := by
  unfold passFrom
  have e : s - i = (s - (i + 1)) + 1 := by omega
  rw [e, List.range_succ_eq_map, List.any_cons, List.any_map]
  congr 2
  funext j
  simp only [Function.comp]
  rw [show i + j.succ = i + 1 + j by omega]
theorem passFrom_end (n a d s i : Nat) (h : s ≤ i) : passFrom n a d s i = false := by
  unfold passFrom
  rw [show s - i = 0 by omega]; rfl
theorem twosN_spec : ∀ (f d : Nat), 0 < d → d < 2 ^ f → d / 2 ^ twosN f d % 2 = 1 ∧ d = d / 2 ^ twosN f d * 2 ^ twosN f d
  | 0, d, h0, h => by omega
  | f + 1, d, h0, h => by
    rw [twosN]
    by_cases hd : d % 2 = 0
    · rw [if_pos hd]
      obtain ⟨h1, h2⟩ := twosN_spec f (d / 2) (by omega) (by rw [Nat.pow_succ] at h; omega)
      have e : d / 2 ^ (twosN f (d / 2) + 1) = d / 2 / 2 ^ twosN f (d / 2) := by rw [Nat.pow_succ, Nat.mul_comm, Nat.div_div_eq_div_mul]
      rw [e]
      refine ⟨h1, ?_⟩
      rw [Nat.pow_succ, ← Nat.mul_assoc, ← h2]; omega
    · rw [if_neg hd]; simp; omega
/-- The reference divides by two while it can. -/
theorem twosN_step (f d : Nat) (h : d % 2 = 0) : twosN (f + 1) d = twosN f (d / 2) + 1 := by rw [twosN, if_pos h]
theorem twosN_stop (f d : Nat) (h : d % 2 ≠ 0) : twosN f d = 0 := by
  cases f with
  | zero => rfl
  | succ f => rw [twosN, if_neg h]
theorem twosN_uniq {s d o : Nat} (h : o % 2 = 1) (e : d = o * 2 ^ s) : ∀ f, d < 2 ^ f → twosN f d = s ∧ d / 2 ^ s = o := by
  intro f hf
  have hp : 0 < 2 ^ s := Nat.two_pow_pos s
  refine ⟨?_, by rw [e, Nat.mul_div_cancel _ hp]⟩
  induction s generalizing d f with
  | zero => rw [Nat.pow_zero, Nat.mul_one] at e; subst e; exact twosN_stop f d (by omega)
  | succ s ih =>
    have hd : d = 2 * (o * 2 ^ s) := by rw [e, Nat.pow_succ, Nat.mul_comm (2 ^ s) 2, Nat.mul_left_comm]
    have hpos : 0 < o * 2 ^ s := Nat.mul_pos (by omega) (Nat.two_pow_pos s)
    cases f with
    | zero => simp at hf; omega
    | succ f =>
      rw [twosN_step f d (by omega), show d / 2 = o * 2 ^ s by omega]
      rw [Nat.pow_succ] at hf
      rw [ih (d := o * 2 ^ s) rfl f (by omega) (Nat.two_pow_pos s)]

/-- Two bits of the second factor more. -/
theorem digit_step (n x y k : Nat) : (4 * (x * (y / 2 ^ (k + 2)) % n) % n + y / 2 ^ k % 4 * x) % n = x * (y / 2 ^ k) % n := by
  have h : y / 2 ^ k = 4 * (y / 2 ^ (k + 2)) + y / 2 ^ k % 4 := by
    have : y / 2 ^ (k + 2) = y / 2 ^ k / 4 := by rw [Nat.pow_add, Nat.div_div_eq_div_mul]
    omega
  have e : (4 * (x * (y / 2 ^ (k + 2)) % n) % n + y / 2 ^ k % 4 * x) % n = (4 * (x * (y / 2 ^ (k + 2))) + y / 2 ^ k % 4 * x) % n := by
    rw [Nat.add_mod, Nat.mod_mod, Nat.mul_mod 4 (x * (y / 2 ^ (k + 2)) % n) n, Nat.mod_mod, ← Nat.mul_mod, ← Nat.add_mod]
  rw [e]
  congr 1
  generalize y / 2 ^ (k + 2) = q at *
  generalize y / 2 ^ k % 4 = m at *
  rw [h, Nat.mul_add, Nat.mul_comm m x]
  congr 1
  rw [Nat.mul_left_comm]
theorem add_step (n o i x : Nat) : ((o + i * x) % n + x) % n = (o + (i + 1) * x) % n := by
  rw [Nat.add_mod, Nat.mod_mod, ← Nat.add_mod, Nat.add_mul, Nat.one_mul, Nat.add_assoc]

/-- Where the reference's algorithm stands. -/
structure REuc (n a r s x y : Int) : Prop where
  r0 : 0 < r
  s0 : 0 ≤ s
  x0 : 0 ≤ x
  x1 : x < n
  y0 : 0 ≤ y
  y1 : y < n
  hr : r % n = x * a % n
  hs : s % n = y * a % n
  g : Int.gcd r s = Int.gcd n a
theorem REuc.start {n a : Int} (hn : 1 ≤ n) (ha : 0 ≤ a) : REuc n a n a 0 (1 % n) :=
  ⟨by omega, ha, by omega, by omega, Int.emod_nonneg _ (by omega), Int.emod_lt_of_pos _ (by omega), by simp, by rw [mul_emod_l, Int.one_mul], rfl⟩
theorem sub_cong {a b c d n : Int} (h1 : a % n = b % n) (h2 : c % n = d % n) : (a - c) % n = (b - d) % n := by
  rw [Int.sub_emod, h1, h2, ← Int.sub_emod]
theorem REuc.next {n a r s x y : Int} (h : REuc n a r s x y) (hs : 0 < s) (hn : 1 ≤ n) :
    REuc n a s (r - r / s * s) y ((x - r / s * y) % n) ∧ 0 ≤ r / s ∧ r / s ≤ r ∧ 0 ≤ r / s * s ∧ r / s * s ≤ r ∧ r - r / s * s < s := by
  have hdm : r - r / s * s = r % s := by have := Int.mul_ediv_add_emod r s; have hc := Int.mul_comm s (r / s); omega
  have hm0 : 0 ≤ r % s := Int.emod_nonneg _ (by omega)
  have hm1 : r % s < s := Int.emod_lt_of_pos _ hs
  have hr0 := h.r0
  have hk0 : 0 ≤ r / s := Int.ediv_nonneg (by omega) h.s0
  have hkr : r / s ≤ r / s * s := by
    have := Int.mul_le_mul_of_nonneg_left (show (1 : Int) ≤ s by omega) hk0
    omega
  have hks : 0 ≤ r / s * s := Int.mul_nonneg hk0 h.s0
  refine ⟨⟨hs, by omega, h.y0, h.y1, Int.emod_nonneg _ (by omega), Int.emod_lt_of_pos _ (by omega), h.hs, ?_, ?_⟩, hk0, by omega, hks, by omega, by omega⟩
  · rw [mul_emod_l, Int.sub_mul, Int.mul_assoc]
    exact sub_cong h.hr (cong_mul rfl h.hs)
  · rw [Int.gcd_sub_mul_right_right, Int.gcd_comm, h.g]
theorem REuc.done_one {n a x y : Int} (h : REuc n a 1 0 x y) (hn : 1 ≤ n) : invZ n a = some x.toNat :=
  invZ_is hn h.x0 h.x1 (by rw [Int.mul_comm]; exact h.hr.symm)
theorem REuc.done_not {n a r x y : Int} (h : REuc n a r 0 x y) (hr : r ≠ 1) : invZ n a = none := by
  cases hi : invZ n a with
  | none => rfl
  | some z =>
    exfalso
    obtain ⟨_, hz⟩ := invZ_some hi
    have hg := h.g
    rw [Int.gcd_zero_right] at hg
    have hr0 := h.r0
    have hra : (r : Int) = (Int.gcd n a : Int) := by rw [← hg]; omega
    have h1 : (Int.gcd n a : Int) ∣ n := Int.gcd_dvd_left ..
    have h2 : (Int.gcd n a : Int) ∣ a := Int.gcd_dvd_right ..
    rw [← hra] at h1 h2
    have h3 : r ∣ a * z - 1 := Int.dvd_trans h1 (Int.dvd_of_emod_eq_zero (Int.emod_eq_emod_iff_emod_sub_eq_zero.1 hz))
    have h4 : r ∣ 1 := by
      have := Int.dvd_sub (Int.dvd_trans h2 (Int.dvd_mul_right a z)) h3
      rwa [show a * (z : Int) - (a * z - 1) = 1 by omega] at this
    have h5 := Int.le_of_dvd (by omega) h4
    omega
end Go.Proofs.YthnkfjjgccabeaaGreatDoor
