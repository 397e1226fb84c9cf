/- Numbers modulo n, plainly: sums, products, powers, inverses. -/
namespace Go.Proofs.YthnkfjjgccabeaaGreatDoor

def isMod (n : Int) : Prop := 1 ≤ n ∧ n < 2305843009213693952
instance (n : Int) : Decidable (isMod n) := by unfold isMod; exact inferInstance
def addZ (n a b : Int) : Int := if isMod n then (a + b) % n else 0
def subZ (n a b : Int) : Int := if isMod n then (a - b) % n else 0
def mulZ (n a b : Int) : Int := if isMod n then (a * b) % n else 0
/-- The inverse, if there is one: the first one of the residues. -/
def invZ (n a : Int) : Option Nat := (List.range n.toNat).find? fun x => decide (a * x % n = 1 % n)
def powZ (n a b : Int) : Int := if isMod n then
    if 0 ≤ b then a ^ b.toNat % n else match invZ n a with
      | some x => (x : Int) ^ b.natAbs % n
      | none => 0
  else 0

theorem invZ_some {n a : Int} {x : Nat} (h : invZ n a = some x) : (x : Int) < n ∧ a * x % n = 1 % n := by
  unfold invZ at h
  have h1 := List.mem_of_find?_eq_some h
  have h2 := List.find?_some h
  simp only [List.mem_range, decide_eq_true_eq] at h1 h2
  exact ⟨by omega, h2⟩
theorem invZ_none {n a : Int} (h : invZ n a = none) (hn : 1 ≤ n) (z : Int) : a * z % n ≠ 1 % n := by
  unfold invZ at h
  rw [List.find?_eq_none] at h
  intro hz
  have hnn : 0 ≤ z % n := Int.emod_nonneg _ (by omega)
  have hlt : z % n < n := Int.emod_lt_of_pos _ (by omega)
  refine h (z % n).toNat (by rw [List.mem_range]; omega) ?_
  rw [decide_eq_true_eq, Int.toNat_of_nonneg hnn, Int.mul_emod, Int.emod_emod_of_dvd _ (Int.dvd_refl n), ← Int.mul_emod, hz]
/-- Inverses are alike. -/
theorem inv_uniq {n a x y : Int} (h1 : a * x % n = 1 % n) (h2 : a * y % n = 1 % n) : x % n = y % n := by
  have e1 : (x * (a * y)) % n = x % n := by rw [Int.mul_emod, h2, ← Int.mul_emod, Int.mul_one]
  have e2 : (x * (a * y)) % n = y % n := by
    have : x * (a * y) = (a * x) * y := by rw [← Int.mul_assoc, Int.mul_comm x a]
    rw [this, Int.mul_emod, h1, ← Int.mul_emod, Int.one_mul]
  rw [← e1, e2]
theorem invZ_is {n a x : Int} (hn : 1 ≤ n) (h0 : 0 ≤ x) (h1 : x < n) (h : a * x % n = 1 % n) : invZ n a = some x.toNat := by
  cases hi : invZ n a with
  | none => exact absurd h (invZ_none hi hn x)
  | some y =>
    obtain ⟨hy, hy2⟩ := invZ_some hi
    have := inv_uniq hy2 h
    rw [Int.emod_eq_of_lt (by omega) hy, Int.emod_eq_of_lt h0 h1] at this
    congr 1; omega
theorem invZ_mod {n a : Int} : invZ n (a % n) = invZ n a := by
  unfold invZ
  congr 1
  funext x
  rw [Int.mul_emod, Int.emod_emod_of_dvd _ (Int.dvd_refl n), ← Int.mul_emod]
theorem pow_emod (a n : Int) : ∀ k : Nat, (a % n) ^ k % n = a ^ k % n
  | 0 => by simp
  | k + 1 => by rw [Int.pow_succ, Int.pow_succ, Int.mul_emod, pow_emod a n k, Int.emod_emod_of_dvd _ (Int.dvd_refl n), ← Int.mul_emod]
theorem mul_emod_l (a b n : Int) : (a % n) * b % n = a * b % n := by
  rw [Int.mul_emod, Int.emod_emod_of_dvd _ (Int.dvd_refl n), ← Int.mul_emod]
theorem mul_emod_r (a b n : Int) : a * (b % n) % n = a * b % n := by
  rw [Int.mul_emod, Int.emod_emod_of_dvd _ (Int.dvd_refl n), ← Int.mul_emod]

/-! ### Euclid's algorithm -/
/-- Where the algorithm stands. -/
structure Euc (n a r s x y : Int) : Prop where
  r0 : 0 < r
  s0 : 0 ≤ s
  hr : ∃ u, r = x * a + u * n
  hs : ∃ v, s = y * a + v * n
  g : Int.gcd r s = Int.gcd n a
  sg : (0 ≤ x ∧ y ≤ 0 ∧ x * s + (-y) * r = n) ∨ (x ≤ 0 ∧ 0 ≤ y ∧ (-x) * s + y * r = n)
theorem Euc.start {n a : Int} (hn : 1 ≤ n) (ha : 0 ≤ a) : Euc n a n a 0 1 :=
  ⟨by omega, ha, ⟨1, by omega⟩, ⟨0, by omega⟩, rfl, .inr ⟨by omega, by omega, by omega⟩⟩
theorem mul_le_of_one {x s n z : Int} (h0 : 0 ≤ x) (hs : 1 ≤ s) (hz : 0 ≤ z) (h : x * s + z = n) : x ≤ n := by
  have := Int.mul_le_mul_of_nonneg_left hs h0
  omega
theorem euc_bounds {X Y r s k n m : Int} (hX : 0 ≤ X) (hY : 0 ≤ Y) (hk : 0 ≤ k) (hr : 1 ≤ r) (hs : 1 ≤ s) (hm : m = r - k * s) (hm0 : 0 ≤ m) (h : X * s + Y * r = n) :
    Y * m + (X + k * Y) * s = n ∧ 0 ≤ k * Y ∧ k * Y ≤ n ∧ X ≤ n ∧ Y ≤ n ∧ X + k * Y ≤ n := by
  have e : Y * m + (X + k * Y) * s = n := by
    rw [← h, hm, Int.mul_sub, Int.add_mul]
    have : k * Y * s = Y * (k * s) := by rw [Int.mul_comm k Y, Int.mul_assoc]
    omega
  have h1 : 0 ≤ k * Y := Int.mul_nonneg hk hY
  have h2 : 0 ≤ Y * m := Int.mul_nonneg hY hm0
  have h3 : X + k * Y ≤ n := mul_le_of_one (by omega) hs h2 (by omega)
  have h4 : 0 ≤ X * s := Int.mul_nonneg hX (by omega)
  have h5 : Y ≤ n := mul_le_of_one hY hr h4 (by omega)
  exact ⟨e, h1, by omega, by omega, h5, h3⟩
/-- The next step keeps all, and its numbers are no greater than n. -/
theorem Euc.next {n a r s x y : Int} (h : Euc n a r s x y) (hs : 0 < s) :
    Euc n a s (r - r / s * s) y (x - r / s * y) ∧ 0 ≤ r - r / s * s ∧ r - r / s * s < s ∧ 0 ≤ r / s ∧ r / s ≤ r ∧ 0 ≤ r / s * s ∧ r / s * s ≤ r ∧
    -n ≤ y ∧ y ≤ n ∧ -n ≤ r / s * y ∧ r / s * y ≤ n ∧ -n ≤ x - r / s * y ∧ x - r / s * y ≤ n ∧ -n ≤ x ∧ x ≤ n := by
  obtain ⟨r0, s0, ⟨u, hu⟩, ⟨v, hv⟩, hg, sg⟩ := h
  have hk0 : 0 ≤ r / s := Int.ediv_nonneg (by omega) s0
  have hdm : r - r / s * s = r % s := by have := Int.mul_ediv_add_emod r s; have hc := Int.mul_comm s (r / s); omega
  have hm0 : 0 ≤ r % s := Int.emod_nonneg _ (by omega)
  have hm1 : r % s < s := Int.emod_lt_of_pos _ hs
  have hkr : r / s ≤ r / s * s := by
    have := Int.mul_le_mul_of_nonneg_left (show (1 : Int) ≤ s by omega) hk0
    omega
  have hks : 0 ≤ r / s * s := Int.mul_nonneg hk0 s0
  have hgn : Int.gcd s (r - r / s * s) = Int.gcd n a := by rw [Int.gcd_sub_mul_right_right, Int.gcd_comm, hg]
  generalize r / s = k at *
  generalize r % s = m at *
  have hw : r - k * s = (x - k * y) * a + (u - k * v) * n := by
    rw [Int.sub_mul, Int.sub_mul]
    have h1 : k * s = k * y * a + k * v * n := by rw [hv, Int.mul_add, Int.mul_assoc, Int.mul_assoc]
    omega
  rcases sg with ⟨hx, hy, hn⟩ | ⟨hx, hy, hn⟩
  · obtain ⟨e, b1, b2, b3, b4, b5⟩ := euc_bounds (m := m) hx (show 0 ≤ -y by omega) hk0 (by omega) (by omega) hdm.symm hm0 hn
    have ek : k * -y = - (k * y) := Int.mul_neg ..
    rw [ek] at b1 b2 b5 e
    rw [show x + -(k * y) = x - k * y by omega] at e b5
    refine ⟨⟨hs, by omega, ⟨v, hv⟩, ⟨_, hw⟩, hgn, .inr ⟨hy, by omega, ?_⟩⟩, by omega, by omega, hk0, by omega, hks, by omega, by omega, by omega, by omega, by omega, by omega, by omega, by omega, by omega⟩
    rw [hdm]; exact e
  · obtain ⟨e, b1, b2, b3, b4, b5⟩ := euc_bounds (m := m) (show 0 ≤ -x by omega) hy hk0 (by omega) (by omega) hdm.symm hm0 hn
    refine ⟨⟨hs, by omega, ⟨v, hv⟩, ⟨_, hw⟩, hgn, .inl ⟨hy, by omega, ?_⟩⟩, by omega, by omega, hk0, by omega, hks, by omega, by omega, by omega, by omega, by omega, by omega, by omega, by omega, by omega⟩
    rw [hdm, show -(x - k * y) = -x + k * y by omega]; exact e
/-- What the algorithm says in the end. -/
theorem Euc.done_one {n a x y : Int} (h : Euc n a 1 0 x y) (hn : 1 ≤ n) : invZ n a = some (x % n).toNat := by
  obtain ⟨u, hu⟩ := h.hr
  have h0 : 0 ≤ x % n := Int.emod_nonneg _ (by omega)
  refine invZ_is hn h0 (Int.emod_lt_of_pos _ (by omega)) ?_
  rw [mul_emod_r, Int.mul_comm a x]
  have : (1 : Int) = x * a + u * n := hu
  rw [show x * a = 1 + n * (-u) by rw [Int.mul_neg, Int.mul_comm n u]; omega, Int.add_mul_emod_self_left]
theorem Euc.done_not {n a r x y : Int} (h : Euc n a r 0 x y) (hr : r ≠ 1) : invZ n a = none := by
  cases hi : invZ n a with
  | none => rfl
  | some z =>
    exfalso
    obtain ⟨_, hz⟩ := invZ_some hi
    have hg := h.g
    rw [Int.gcd_zero_right] at hg
    have hr0 := h.r0
    have hra : (r : Int) = (Int.gcd n a : Int) := by rw [← hg]; omega
    have h1 : (Int.gcd n a : Int) ∣ n := Int.gcd_dvd_left ..
    have h2 : (Int.gcd n a : Int) ∣ a := Int.gcd_dvd_right ..
    rw [← hra] at h1 h2
    have h3 : r ∣ a * z - 1 := Int.dvd_trans h1 (Int.dvd_of_emod_eq_zero (Int.emod_eq_emod_iff_emod_sub_eq_zero.1 hz))
    have h4 : r ∣ 1 := by
      have := Int.dvd_sub (Int.dvd_trans h2 (Int.dvd_mul_right a z)) h3
      rwa [show a * (z : Int) - (a * z - 1) = 1 by omega] at this
    have h5 := Int.le_of_dvd (by omega) h4
    omega
end Go.Proofs.YthnkfjjgccabeaaGreatDoor
