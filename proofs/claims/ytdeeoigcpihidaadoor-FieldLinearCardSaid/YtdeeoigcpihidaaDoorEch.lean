/- The reduced row echelon form: what its steps keep. -/
import Derived.Test.YtdeeoigcpihidaaDoorMat3
import Derived.Test.YtdeeoigcpihidaaDoorPts
namespace Go.Proofs.YtdeeoigcpihidaaDoor

/-- The sum of k values from t on. -/
def sumF (f : Nat → Int) : Nat → Nat → Int
  | _, 0 => 0
  | t, k + 1 => f t + sumF f (t + 1) k
theorem sumF_snoc (f : Nat → Int) : ∀ k t, sumF f t (k + 1) = sumF f t k + f (t + k)
  | 0, t => by simp [sumF]
  | k + 1, t => by
    rw [sumF, sumF_snoc f k (t + 1), sumF, show t + 1 + k = t + (k + 1) by omega]; omega
theorem sumF_congr {q : Int} {f g : Nat → Int} : ∀ k t, (∀ j, t ≤ j → j < t + k → f j % q = g j % q) → sumF f t k % q = sumF g t k % q
  | 0, _, _ => rfl
  | k + 1, t, h => by
    rw [sumF, sumF, Int.add_emod, h t (Nat.le_refl _) (by omega), sumF_congr k (t + 1) fun j h1 h2 => h j (by omega) (by omega), ← Int.add_emod]
theorem sumF_eq {f g : Nat → Int} : ∀ k t, (∀ j, t ≤ j → j < t + k → f j = g j) → sumF f t k = sumF g t k
  | 0, _, _ => rfl
  | k + 1, t, h => by
    rw [sumF, sumF, h t (Nat.le_refl _) (by omega), sumF_eq k (t + 1) fun j h1 h2 => h j (by omega) (by omega)]
theorem sumF_mul (a : Int) (f : Nat → Int) : ∀ k t, sumF (fun j => a * f j) t k = a * sumF f t k
  | 0, _ => by simp [sumF]
  | k + 1, t => by rw [sumF, sumF, sumF_mul a f k (t + 1), Int.mul_add]
theorem sumF_sub (f g : Nat → Int) : ∀ k t, sumF (fun j => f j - g j) t k = sumF f t k - sumF g t k
  | 0, _ => by simp [sumF]
  | k + 1, t => by rw [sumF, sumF, sumF, sumF_sub f g k (t + 1)]; omega
theorem sumF_zero {f : Nat → Int} : ∀ k t, (∀ j, t ≤ j → j < t + k → f j = 0) → sumF f t k = 0
  | 0, _, _ => rfl
  | k + 1, t, h => by rw [sumF, h t (Nat.le_refl _) (by omega), sumF_zero k (t + 1) fun j h1 h2 => h j (by omega) (by omega)]; rfl
theorem sumF_add (f : Nat → Int) : ∀ a b t, sumF f t (a + b) = sumF f t a + sumF f (t + a) b
  | 0, b, t => by simp [sumF]
  | a + 1, b, t => by
    rw [show a + 1 + b = (a + b) + 1 by omega, sumF, sumF_add f a b (t + 1), sumF, show t + 1 + a = t + (a + 1) by omega]; omega
theorem em_iff {a b q : Int} : a % q = b % q ↔ q ∣ a - b := by
  rw [Int.emod_eq_emod_iff_emod_sub_eq_zero, Int.dvd_iff_emod_eq_zero]
/-- An equation; the equations of a matrix. -/
def eqnP (q : Int) (c : Nat) (r x : Nat → Int) : Prop := sumF (fun j => r j * x j) 0 c % q = r c % q
def solves (q : Int) (n c : Nat) (M : Nat → Nat → Int) (x : Nat → Int) : Prop := ∀ i, i < n → eqnP q c (M i) x
theorem eqn_scale {q : Int} (hq : isMod q) {c : Nat} {r x : Nat → Int} {a u : Int} (hu : a * u % q = 1 % q) : eqnP q c (fun j => mulZ q (r j) u) x ↔ eqnP q c r x := by
  unfold eqnP
  have e1 : sumF (fun j => mulZ q (r j) u * x j) 0 c % q = u * sumF (fun j => r j * x j) 0 c % q := by
    rw [← sumF_mul]
    refine sumF_congr c 0 fun j _ _ => ?_
    show mulZ q (r j) u * x j % q = u * (r j * x j) % q
    unfold mulZ
    rw [if_pos hq, mul_emod_l, Int.mul_comm (r j) u, Int.mul_assoc]
  have e2 : mulZ q (r c) u % q = u * r c % q := by
    unfold mulZ
    rw [if_pos hq, Int.emod_emod_of_dvd _ (Int.dvd_refl q), Int.mul_comm]
  simp only [e1, e2]
  constructor
  · intro h
    exact cancel (by rw [Int.mul_comm]; exact hu) h
  · intro h
    rw [Int.mul_emod, h, ← Int.mul_emod]
theorem lessZ_cong {q : Int} (hq : isMod q) (a b f : Int) : lessZ q a b f % q = (a - f * b) % q := by
  unfold lessZ mulZ
  rw [if_pos hq, Int.emod_emod_of_dvd _ (Int.dvd_refl q), Int.sub_emod, Int.emod_emod_of_dvd _ (Int.dvd_refl q), ← Int.sub_emod, Int.mul_comm b f]
theorem eqn_less {q : Int} (hq : isMod q) {c : Nat} {r s x : Nat → Int} {f : Int} (hs : eqnP q c s x) : eqnP q c (fun j => lessZ q (r j) (s j) f) x ↔ eqnP q c r x := by
  unfold eqnP at hs ⊢
  have e1 : sumF (fun j => lessZ q (r j) (s j) f * x j) 0 c % q = (sumF (fun j => r j * x j) 0 c - f * sumF (fun j => s j * x j) 0 c) % q := by
    rw [← sumF_mul, ← sumF_sub]
    refine sumF_congr c 0 fun j _ _ => ?_
    show lessZ q (r j) (s j) f * x j % q = (r j * x j - f * (s j * x j)) % q
    rw [Int.mul_emod, lessZ_cong hq, ← Int.mul_emod, Int.sub_mul, Int.mul_assoc]
  rw [e1, lessZ_cong hq, em_iff, em_iff]
  rw [em_iff] at hs
  generalize sumF (fun j => r j * x j) 0 c = A at *
  generalize sumF (fun j => s j * x j) 0 c = B at *
  have h2 : q ∣ f * (B - s c) := Int.dvd_mul_of_dvd_right hs
  have e : A - f * B - (r c - f * s c) = (A - r c) - f * (B - s c) := by rw [Int.mul_sub]; omega
  rw [e]
  constructor
  · intro h
    have := Int.dvd_add h h2
    rwa [Int.sub_add_cancel] at this
  · intro h; exact Int.dvd_sub h h2
theorem swapI_self (r s i : Nat) : swapI r s (swapI r s i) = i := by
  unfold swapI
  by_cases h1 : i = r
  · subst h1
    rw [if_pos rfl]
    by_cases h2 : s = i
    · subst h2; rw [if_pos rfl]
    · rw [if_neg h2, if_pos rfl]
  · rw [if_neg h1]
    by_cases h2 : i = s
    · subst h2; rw [if_pos rfl, if_pos rfl]
    · rw [if_neg h2, if_neg h1, if_neg h2]
theorem solves_swap {q : Int} {n c r s : Nat} {M : Nat → Nat → Int} {x : Nat → Int} (hr : r < n) (hs : s < n) : solves q n c (swapF r s M) x ↔ solves q n c M x := by
  constructor
  · intro h i hi
    have := h (swapI r s i) (swapI_lt r s i hr hs hi)
    rwa [swapF_is, swapI_self] at this
  · intro h i hi
    rw [swapF_is]
    exact h _ (swapI_lt r s i hr hs hi)
theorem scaleF_k (q : Int) (k j : Nat) (M : Nat → Nat → Int) : scaleF q k j M k = fun c => mulZ q (M k c) (powZ q (M k j) (-1)) := by unfold scaleF; rw [if_pos rfl]
theorem scaleF_o (q : Int) (k j : Nat) (M : Nat → Nat → Int) {i : Nat} (h : i ≠ k) : scaleF q k j M i = M i := by unfold scaleF; rw [if_neg h]
theorem clearF_k (q : Int) (k j n : Nat) (M : Nat → Nat → Int) : clearF q k j n M k = M k := by unfold clearF; rw [if_pos (.inl rfl)]
theorem clearF_o (q : Int) (k j n : Nat) (M : Nat → Nat → Int) {i : Nat} (h : i ≠ k) (hi : i < n) : clearF q k j n M i = fun c => lessZ q (M i c) (M k c) (M i j) := by unfold clearF; rw [if_neg (by omega)]
theorem solves_step {q : Int} (hq : isMod q) {n c k j i : Nat} {M : Nat → Nat → Int} {x : Nat → Int} (hk : k + i < n) (hu : M (k + i) j * powZ q (M (k + i) j) (-1) % q = 1 % q) :
    solves q n c (stepM q n k j i M) x ↔ solves q n c M x := by
  refine Iff.trans ?_ (solves_swap (r := k) (s := k + i) (by omega) hk)
  unfold stepM
  have hNk : swapF k (k + i) M k = M (k + i) := by unfold swapF; rw [if_pos rfl]
  generalize swapF k (k + i) M = N at *
  rw [← hNk] at hu
  constructor
  · intro h
    have hk1 := h k (by omega)
    rw [clearF_k] at hk1
    have hk2 := hk1
    rw [scaleF_k, eqn_scale hq hu] at hk2
    intro i' hi
    by_cases e : i' = k
    · subst e; exact hk2
    · have h3 := h i' hi
      rw [clearF_o _ _ _ _ _ e hi, eqn_less hq hk1, scaleF_o _ _ _ _ e] at h3
      exact h3
  · intro h
    have hk1 : eqnP q c (scaleF q k j N k) x := by rw [scaleF_k, eqn_scale hq hu]; exact h k (by omega)
    intro i' hi
    by_cases e : i' = k
    · subst e; rw [clearF_k]; exact hk1
    · rw [clearF_o _ _ _ _ _ e hi, eqn_less hq hk1, scaleF_o _ _ _ _ e]
      exact h i' hi
/-- The column of the new pivot. -/
theorem step_pivot {q : Int} (hq : isMod q) (h2 : 2 ≤ q) {n k j i : Nat} {M : Nat → Nat → Int} (hu : M (k + i) j * powZ q (M (k + i) j) (-1) % q = 1 % q) (i' : Nat) (hi : i' < n) :
    stepM q n k j i M i' j = if i' = k then 1 else 0 := by
  unfold stepM
  have hNk : swapF k (k + i) M k = M (k + i) := by unfold swapF; rw [if_pos rfl]
  generalize swapF k (k + i) M = N at *
  rw [← hNk] at hu
  have h1 : scaleF q k j N k j = 1 := by
    rw [scaleF_k]
    show mulZ q (N k j) _ = 1
    unfold mulZ
    rw [if_pos hq, hu]
    exact Int.emod_eq_of_lt (by omega) (by omega)
  by_cases e : i' = k
  · subst e; rw [clearF_k, h1, if_pos rfl]
  · rw [clearF_o _ _ _ _ _ e hi, if_neg e]
    show lessZ q (scaleF q k j N i' j) (scaleF q k j N k j) (scaleF q k j N i' j) = 0
    rw [h1, scaleF_o _ _ _ _ e]
    unfold lessZ mulZ
    rw [if_pos hq, Int.one_mul, Int.sub_emod, Int.emod_emod_of_dvd _ (Int.dvd_refl q), Int.sub_self, Int.zero_emod]
/-- A column in which the row of the new pivot is 0. -/
theorem step_zero {q : Int} (hq : isMod q) {n k j i : Nat} {M : Nat → Nat → Int} (hk : k + i < n) (cc : Nat) (hz : M (k + i) cc = 0) (hin : ∀ i', i' < n → inR q (M i' cc)) (i' : Nat) (hi : i' < n) :
    stepM q n k j i M i' cc = if i' = k then 0 else swapF k (k + i) M i' cc := by
  unfold stepM
  have hNk : swapF k (k + i) M k = M (k + i) := by unfold swapF; rw [if_pos rfl]
  have hNi : inR q (swapF k (k + i) M i' cc) := by rw [swapF_is]; exact hin _ (swapI_lt _ _ _ (by omega) hk hi)
  generalize swapF k (k + i) M = N at *
  have h1 : scaleF q k j N k cc = 0 := by
    rw [scaleF_k]
    show mulZ q (N k cc) _ = 0
    rw [hNk, hz]
    unfold mulZ
    rw [if_pos hq, Int.zero_mul, Int.zero_emod]
  by_cases e : i' = k
  · subst e; rw [clearF_k, h1, if_pos rfl]
  · rw [clearF_o _ _ _ _ _ e hi, if_neg e]
    show lessZ q (scaleF q k j N i' cc) (scaleF q k j N k cc) (scaleF q k j N i' j) = _
    rw [h1, scaleF_o _ _ _ _ e]
    unfold lessZ mulZ
    rw [if_pos hq, Int.zero_mul, Int.zero_emod, Int.sub_zero]
    exact Int.emod_eq_of_lt hNi.1 hNi.2
theorem getD_app {l : List Nat} {j i : Nat} (h : i < l.length) : (l ++ [j]).getD i 0 = l.getD i 0 := by
  simp [List.getD_eq_getElem?_getD, List.getElem?_append_left h]
theorem getD_end {l : List Nat} {j : Nat} : (l ++ [j]).getD l.length 0 = j := by
  simp [List.getD_eq_getElem?_getD]
/-- The form, up to a column. -/
structure Ech (n j : Nat) (piv : List Nat) (M : Nat → Nat → Int) : Prop where
  len : piv.length ≤ n
  lt : ∀ i, i < piv.length → piv.getD i 0 < j
  asc : ∀ i k, i < k → k < piv.length → piv.getD i 0 < piv.getD k 0
  unit : ∀ i, i < piv.length → M i (piv.getD i 0) = 1
  zero : ∀ i k, i < piv.length → k < n → k ≠ i → M k (piv.getD i 0) = 0
  low : ∀ i, piv.length ≤ i → i < n → ∀ jj, jj < j → M i jj = 0
  left : ∀ i, i < piv.length → ∀ jj, jj < piv.getD i 0 → M i jj = 0
theorem Ech.start (n : Nat) (M : Nat → Nat → Int) : Ech n 0 [] M :=
  ⟨Nat.zero_le _, by simp, by simp, by simp, by simp, by intro _ _ _ _ h; omega, by simp⟩
theorem Ech.skip {n j : Nat} {piv : List Nat} {M : Nat → Nat → Int} (h : Ech n j piv M) (h0 : ∀ i, piv.length ≤ i → i < n → M i j = 0) : Ech n (j + 1) piv M where
  len := h.len
  lt := fun i hi => by have := h.lt i hi; omega
  asc := h.asc
  unit := h.unit
  zero := h.zero
  low := fun i h1 h2 jj hj => by
    by_cases e : jj = j
    · subst e; exact h0 i h1 h2
    · exact h.low i h1 h2 jj (by omega)
  left := h.left
theorem Ech.step {q : Int} (hq : isMod q) (h2 : 2 ≤ q) {n j C i : Nat} {piv : List Nat} {M : Nat → Nat → Int} (h : Ech n j piv M) (hM : allR q n C M) (hjC : j < C) (hi : piv.length + i < n)
    (hu : M (piv.length + i) j * powZ q (M (piv.length + i) j) (-1) % q = 1 % q) : Ech n (j + 1) (piv ++ [j]) (stepM q n piv.length j i M) := by
  have hl : (piv ++ [j]).length = piv.length + 1 := by simp
  have hrow : ∀ cc, cc < j → M (piv.length + i) cc = 0 := fun cc hc => h.low _ (by omega) hi cc hc
  have hz : ∀ cc, cc < j → ∀ i', i' < n → stepM q n piv.length j i M i' cc = if i' = piv.length then 0 else swapF piv.length (piv.length + i) M i' cc :=
    fun cc hc i' hi' => step_zero hq hi cc (hrow cc hc) (fun k hk => hM k hk cc (by omega)) i' hi'
  have hp := fun i' hi' => step_pivot (i := i) (k := piv.length) (j := j) (n := n) hq h2 hu i' hi'
  have hsw : ∀ k, k < piv.length → swapF piv.length (piv.length + i) M k = M k := fun k hk => by unfold swapF; rw [if_neg (by omega), if_neg (by omega)]
  have hln := h.len
  refine ⟨by rw [hl]; omega, fun k hk => ?_, fun a b hab hb => ?_, fun k hk => ?_, fun a k ha hk hne => ?_, fun k h1 h3 jj hjj => ?_, fun k hk jj hjj => ?_⟩
  · by_cases e : k < piv.length
    · rw [getD_app e]; have := h.lt k e; omega
    · obtain rfl : k = piv.length := by omega
      rw [getD_end]; omega
  · rw [hl] at hb
    by_cases e : b < piv.length
    · rw [getD_app e, getD_app (by omega)]; exact h.asc a b hab e
    · obtain rfl : b = piv.length := by omega
      rw [getD_end, getD_app hab]; exact h.lt a hab
  · by_cases e : k < piv.length
    · rw [getD_app e, hz _ (h.lt k e) k (by omega), if_neg (by omega), hsw k e]; exact h.unit k e
    · obtain rfl : k = piv.length := by omega
      rw [getD_end, hp _ (by omega), if_pos rfl]
  · by_cases e : a < piv.length
    · rw [getD_app e, hz _ (h.lt a e) k hk]
      split
      · rfl
      · unfold swapF
        split
        · exact h.zero a _ e hi (by omega)
        · split
          · exact h.zero a _ e (by omega) (by omega)
          · exact h.zero a k e hk hne
    · obtain rfl : a = piv.length := by omega
      rw [getD_end, hp k hk, if_neg hne]
  · by_cases e : jj = j
    · subst e; rw [hp k h3, if_neg (by omega)]
    · rw [hz jj (by omega) k h3]
      split
      · rfl
      · unfold swapF
        split
        · exact hrow jj (by omega)
        · split
          · exact h.low _ (Nat.le_refl _) (by omega) jj (by omega)
          · exact h.low k (by omega) h3 jj (by omega)
  · by_cases e : k < piv.length
    · rw [getD_app e] at hjj
      have := h.lt k e
      rw [hz jj (by omega) k (by omega), if_neg (by omega), hsw k e]; exact h.left k e jj hjj
    · obtain rfl : k = piv.length := by omega
      rw [getD_end] at hjj
      rw [hz jj hjj _ (by omega), if_pos rfl]
theorem allR_step {q : Int} (hq : isMod q) {n C : Nat} {M : Nat → Nat → Int} (h : allR q n C M) (k j i : Nat) (hi : k + i < n) : allR q n C (stepM q n k j i M) :=
  ((h.swap k (k + i) (by omega) hi).scale hq k j).clear hq k j n
theorem redF_ech {q : Int} (hq : isMod q) (h2 : 2 ≤ q) (hinv : ∀ a, a % q ≠ 0 → ∃ u, a * u % q = 1 % q) {n C c : Nat} : ∀ (f j : Nat) (piv : List Nat) (M : Nat → Nat → Int), Ech n j piv M → allR q n C M → j + f ≤ C →
    Ech n (j + f) (redF q n f j piv M).1 (redF q n f j piv M).2 ∧ allR q n C (redF q n f j piv M).2 ∧ ∀ x, solves q n c (redF q n f j piv M).2 x ↔ solves q n c M x
  | 0, j, piv, M, hE, hM, _ => ⟨hE, hM, fun _ => Iff.rfl⟩
  | f + 1, j, piv, M, hE, hM, hC => by
    rw [redF]
    cases hf : firstF (fun i => M (piv.length + i) j != 0) (n - piv.length) 0 with
    | none =>
      have h0 : ∀ i, piv.length ≤ i → i < n → M i j = 0 := fun i h3 h4 => by
        have := firstF_none _ _ hf (i - piv.length) (Nat.zero_le _) (by omega)
        rw [show piv.length + (i - piv.length) = i by omega] at this
        simpa using this
      have := redF_ech hq h2 hinv (C := C) (c := c) f (j + 1) piv M (hE.skip h0) hM (by omega)
      rw [show j + 1 + f = j + (f + 1) by omega] at this
      exact this
    | some i =>
      obtain ⟨_, h4, h5, _⟩ := firstF_some _ _ _ hf
      have hi : piv.length + i < n := by omega
      have hne : M (piv.length + i) j ≠ 0 := by simpa using h5
      have hr := hM _ hi j (by omega)
      have hne2 : M (piv.length + i) j % q ≠ 0 := by rw [Int.emod_eq_of_lt hr.1 hr.2]; exact hne
      have hu : M (piv.length + i) j * powZ q (M (piv.length + i) j) (-1) % q = 1 % q := by
        obtain ⟨u, hu⟩ := hinv _ hne2
        cases hx : invZ q (M (piv.length + i) j) with
        | none => exact absurd hu (invZ_none hx hq.1 u)
        | some y =>
          unfold powZ
          rw [if_pos hq, if_neg (by omega), hx]
          show _ * ((y : Int) ^ 1 % q) % q = _
          rw [mul_emod_r, Int.pow_one]
          exact (invZ_some hx).2
      obtain ⟨e1, e2, e3⟩ := redF_ech hq h2 hinv (C := C) (c := c) f (j + 1) (piv ++ [j]) (stepM q n piv.length j i M) (hE.step hq h2 hM (by omega) hi hu) (allR_step hq hM _ _ _ hi) (by omega)
      rw [show j + 1 + f = j + (f + 1) by omega] at e1
      exact ⟨e1, e2, fun x => (e3 x).trans (solves_step hq hi hu)⟩
/-- More columns. -/
theorem redF_more (q : Int) (n : Nat) : ∀ (f g j : Nat) (piv : List Nat) (M : Nat → Nat → Int), redF q n (f + g) j piv M = redF q n g (j + f) (redF q n f j piv M).1 (redF q n f j piv M).2
  | 0, g, j, piv, M => by rw [Nat.zero_add]; rfl
  | f + 1, g, j, piv, M => by
    rw [show f + 1 + g = (f + g) + 1 by omega, redF, redF]
    split
    · rw [redF_more q n f g (j + 1), show j + 1 + f = j + (f + 1) by omega]
    · rw [redF_more q n f g (j + 1), show j + 1 + f = j + (f + 1) by omega]
/-- Matrices that agree on the first columns have the same pivots there. -/
def agree (c : Nat) (M N : Nat → Nat → Int) : Prop := ∀ i j, j < c → M i j = N i j
theorem agree_step {q : Int} {n k j i c : Nat} {M N : Nat → Nat → Int} (h : agree c M N) (hj : j < c) : agree c (stepM q n k j i M) (stepM q n k j i N) := by
  have h1 : agree c (swapF k (k + i) M) (swapF k (k + i) N) := fun a b hb => by rw [swapF_is, swapF_is]; exact h _ b hb
  unfold stepM
  generalize swapF k (k + i) M = A at *
  generalize swapF k (k + i) N = B at *
  have h2 : agree c (scaleF q k j A) (scaleF q k j B) := fun a b hb => by
    by_cases e : a = k
    · subst e; rw [scaleF_k, scaleF_k]; show mulZ q (A a b) _ = mulZ q (B a b) _; rw [h1 a b hb, h1 a j hj]
    · rw [scaleF_o _ _ _ _ e, scaleF_o _ _ _ _ e]; exact h1 a b hb
  generalize scaleF q k j A = A at *
  generalize scaleF q k j B = B at *
  intro a b hb
  unfold clearF
  split
  · exact h2 a b hb
  · show lessZ q (A a b) (A k b) (A a j) = lessZ q (B a b) (B k b) (B a j)
    rw [h2 a b hb, h2 k b hb, h2 a j hj]
theorem redF_agree {q : Int} {n c : Nat} : ∀ (f j : Nat) (piv : List Nat) (M N : Nat → Nat → Int), agree c M N → j + f ≤ c → (redF q n f j piv M).1 = (redF q n f j piv N).1
  | 0, _, _, _, _, _, _ => rfl
  | f + 1, j, piv, M, N, h, hc => by
    rw [redF, redF]
    have e : (fun i => M (piv.length + i) j != 0) = fun i => N (piv.length + i) j != 0 := by funext i; rw [h _ j (by omega)]
    rw [e]
    split
    · exact redF_agree f (j + 1) piv M N h (by omega)
    · exact redF_agree f (j + 1) _ _ _ (agree_step h (by omega)) (by omega)
end Go.Proofs.YtdeeoigcpihidaaDoor
