/- How many vectors solve a system in echelon form; the stage's theorem, plainly. -/
import Derived.Test.YtdeeoigcpihidaaDoorEch
import Derived.Test.YtdeeoigcpihidaaDoorSolD
namespace Go.Proofs.YtdeeoigcpihidaaDoor

theorem cntB_add (P : Nat → Bool) (a : Nat) : ∀ b, cntB P (a + b) = cntB P a + cntB (fun d => P (a + d)) b
  | 0 => rfl
  | b + 1 => by rw [← Nat.add_assoc, cntB, cntB_add P a b, cntB]; omega
theorem cntB_congr {P Q : Nat → Bool} : ∀ n, (∀ k, k < n → P k = Q k) → cntB P n = cntB Q n
  | 0, _ => rfl
  | n + 1, h => by rw [cntB, cntB, cntB_congr n fun k hk => h k (by omega), h n (by omega)]
theorem cntB_none {P : Nat → Bool} : ∀ n, (∀ k, k < n → P k = false) → cntB P n = 0
  | 0, _ => rfl
  | n + 1, h => by rw [cntB, cntB_none n fun k hk => h k (by omega), h n (by omega)]; rfl
theorem cntB_all {P : Nat → Bool} : ∀ n, (∀ k, k < n → P k = true) → cntB P n = n
  | 0, _ => rfl
  | n + 1, h => by rw [cntB, cntB_all n fun k hk => h k (by omega), h n (by omega)]; rfl
theorem cntB_mul {P Q : Nat → Bool} {p w : Nat} : ∀ N, (∀ m, m < N → cntB (fun d => P (p * m + d)) p = if Q m then w else 0) → cntB P (p * N) = w * cntB Q N
  | 0, _ => rfl
  | N + 1, h => by
    rw [Nat.mul_succ, cntB_add, cntB_mul N fun m hm => h m (by omega), h N (by omega), cntB]
    split
    · rw [Nat.mul_add, Nat.mul_one]
    · rfl
theorem cntB_or {P Q : Nat → Bool} : ∀ n, (∀ k, k < n → ¬ (P k = true ∧ Q k = true)) → cntB (fun k => P k || Q k) n = cntB P n + cntB Q n
  | 0, _ => rfl
  | n + 1, h => by
    have h1 := h n (by omega)
    rw [cntB, cntB, cntB, cntB_or n fun k hk => h k (by omega)]
    cases e1 : P n <;> cases e2 : Q n <;> simp_all <;> omega
theorem cntB_not (P : Nat → Bool) : ∀ n, cntB (fun k => !P k) n + cntB P n = n
  | 0 => rfl
  | n + 1 => by rw [cntB, cntB]; have := cntB_not P n; cases P n <;> simp <;> omega
/-- A digit. -/
def dg (p m j : Nat) : Int := ((m / p ^ j % p : Nat) : Int)
theorem dg_low {p m d : Nat} (hd : d < p) : dg p (p * m + d) 0 = (d : Int) := by
  unfold dg
  rw [Nat.pow_zero, Nat.div_one, Nat.mul_add_mod, Nat.mod_eq_of_lt hd]
theorem dg_high {p m d j : Nat} (hd : d < p) : dg p (p * m + d) (j + 1) = dg p m j := by
  unfold dg
  rw [Nat.pow_succ, Nat.mul_comm (p ^ j) p, ← Nat.div_div_eq_div_mul, Nat.mul_add_div (by omega), Nat.div_eq_of_lt hd, Nat.add_zero]
theorem dg_digL (p : Nat) : ∀ (k m j : Nat), j < k → (digL p k m).getD j 0 = dg p m j
  | 0, _, _, h => by omega
  | k + 1, m, 0, _ => by simp [digL, dg]
  | k + 1, m, j + 1, h => by
    rw [digL]
    have := dg_digL p k (m / p) j (by omega)
    rw [List.getD_cons_succ, this]
    unfold dg
    rw [Nat.div_div_eq_div_mul, Nat.pow_succ, Nat.mul_comm (p ^ j) p]
/-- The equations whose pivots are among the last k columns. -/
def goodB (p c : Nat) (piv : List Nat) (M : Nat → Nat → Int) (k m : Nat) : Bool :=
  (List.range piv.length).all fun i => decide (piv.getD i 0 < c - k) || decide (sumF (fun j => M i j * dg p m (j - (c - k))) (c - k) k % (p : Int) = M i c % (p : Int))
theorem goodB_iff {p c : Nat} {piv : List Nat} {M : Nat → Nat → Int} {k m : Nat} : goodB p c piv M k m = true ↔ ∀ i, i < piv.length → c - k ≤ piv.getD i 0 → sumF (fun j => M i j * dg p m (j - (c - k))) (c - k) k % (p : Int) = M i c % (p : Int) := by
  unfold goodB
  rw [List.all_eq_true]
  constructor
  · intro h i hi hk
    have := h i (List.mem_range.2 hi)
    rw [Bool.or_eq_true, decide_eq_true_eq, decide_eq_true_eq] at this
    rcases this with h | h
    · omega
    · exact h
  · intro h i hi
    rw [Bool.or_eq_true, decide_eq_true_eq, decide_eq_true_eq]
    by_cases e : piv.getD i 0 < c - k
    · exact .inl e
    · exact .inr (h i (List.mem_range.1 hi) (by omega))
theorem mem_getD {l : List Nat} {x : Nat} : x ∈ l ↔ ∃ i, i < l.length ∧ l.getD i 0 = x := by
  rw [List.mem_iff_getElem]
  constructor
  · rintro ⟨i, hi, h⟩; exact ⟨i, hi, by simp [List.getD_eq_getElem?_getD, hi, h]⟩
  · rintro ⟨i, hi, h⟩; exact ⟨i, hi, by simpa [List.getD_eq_getElem?_getD, hi] using h⟩
theorem sum_step {p c k m d : Nat} (hd : d < p) (hk : k + 1 ≤ c) (r : Nat → Int) :
    sumF (fun j => r j * dg p (p * m + d) (j - (c - (k + 1)))) (c - (k + 1)) (k + 1) = r (c - (k + 1)) * (d : Int) + sumF (fun j => r j * dg p m (j - (c - k))) (c - k) k := by
  rw [sumF, show c - (k + 1) + 1 = c - k by omega]
  congr 1
  · show r _ * dg p _ (c - (k + 1) - (c - (k + 1))) = _
    rw [Nat.sub_self, dg_low hd]
  · refine sumF_eq k _ fun j h1 _ => ?_
    show r j * dg p _ (j - (c - (k + 1))) = r j * dg p m (j - (c - k))
    rw [show j - (c - (k + 1)) = (j - (c - k)) + 1 by omega, dg_high hd]
theorem good_step {p : Nat} (hp : 0 < p) {n c : Nat} {piv : List Nat} {M : Nat → Nat → Int} (h : Ech n c piv M) {k : Nat} (hk : k + 1 ≤ c) (m : Nat) :
    cntB (fun d => goodB p c piv M (k + 1) (p * m + d)) p = if goodB p c piv M k m then (if c - (k + 1) ∈ piv then 1 else p) else 0 := by
  have hS := fun (d : Nat) (hd : d < p) (i : Nat) => sum_step (m := m) hd hk (M i)
  have hz : ∀ i, i < piv.length → c - k ≤ piv.getD i 0 → M i (c - (k + 1)) = 0 := fun i hi hle => h.left i hi _ (by omega)
  by_cases hg : goodB p c piv M k m = true
  · rw [if_pos hg]
    rw [goodB_iff] at hg
    by_cases hm : c - (k + 1) ∈ piv
    · rw [if_pos hm]
      obtain ⟨i0, hi0, he⟩ := mem_getD.1 hm
      have hu : M i0 (c - (k + 1)) = 1 := by rw [← he]; exact h.unit i0 hi0
      let S := sumF (fun j => M i0 j * dg p m (j - (c - k))) (c - k) k
      have hX1 := Int.emod_nonneg (M i0 c - S) (show (p : Int) ≠ 0 by omega)
      have hX2 := Int.emod_lt_of_pos (M i0 c - S) (show (0 : Int) < p by omega)
      have key : ∀ d, d < p → (goodB p c piv M (k + 1) (p * m + d) = true ↔ d = ((M i0 c - S) % (p : Int)).toNat) := fun d hd => by
        rw [goodB_iff]
        have hone : ((d : Int) + S) % (p : Int) = M i0 c % (p : Int) ↔ d = ((M i0 c - S) % (p : Int)).toNat := by
          constructor
          · intro h1
            have : (M i0 c - S) % (p : Int) = d := by
              rw [Int.sub_emod, ← h1, ← Int.sub_emod, Int.add_sub_cancel]
              exact Int.emod_eq_of_lt (by omega) (by omega)
            omega
          · intro h1
            rw [h1, Int.toNat_of_nonneg hX1, Int.add_emod, Int.emod_emod_of_dvd _ (Int.dvd_refl _), ← Int.add_emod, Int.sub_add_cancel]
        rw [← hone]
        constructor
        · intro h1
          have h2 := h1 i0 hi0 (by omega)
          rw [hS d hd, hu, Int.one_mul] at h2
          exact h2
        · intro h1 i hi hle
          rw [hS d hd]
          by_cases e : piv.getD i 0 = c - (k + 1)
          · obtain rfl : i = i0 := by
              rcases Nat.lt_trichotomy i i0 with h3 | h3 | h3
              · have := h.asc i i0 h3 hi0; omega
              · exact h3
              · have := h.asc i0 i h3 hi; omega
            rw [hu, Int.one_mul]; exact h1
          · rw [hz i hi (by omega), Int.zero_mul, Int.zero_add]
            exact hg i hi (by omega)
      rw [cntB_one key p (Nat.le_refl _), if_pos (by omega)]
    · rw [if_neg hm]
      refine cntB_all p fun d hd => ?_
      rw [goodB_iff]
      intro i hi hle
      have hne : piv.getD i 0 ≠ c - (k + 1) := fun e => hm (mem_getD.2 ⟨i, hi, e⟩)
      rw [hS d hd, hz i hi (by omega), Int.zero_mul, Int.zero_add]
      exact hg i hi (by omega)
  · rw [if_neg hg]
    refine cntB_none p fun d hd => ?_
    rw [Bool.eq_false_iff]
    intro h1
    rw [goodB_iff] at h1
    refine hg (goodB_iff.2 fun i hi hle => ?_)
    have h2 := h1 i hi (by omega)
    rw [hS d hd, hz i hi hle, Int.zero_mul, Int.zero_add] at h2
    exact h2
theorem good_count {p : Nat} (hp : 0 < p) {n c : Nat} {piv : List Nat} {M : Nat → Nat → Int} (h : Ech n c piv M) : ∀ k, k ≤ c → cntB (goodB p c piv M k) (p ^ k) = p ^ cntB (fun s => !decide (c - (s + 1) ∈ piv)) k
  | 0, _ => by
    have : goodB p c piv M 0 0 = true := by
      rw [goodB_iff]; intro i hi hle; have := h.lt i hi; omega
    rw [Nat.pow_zero, cntB, cntB, this]; rfl
  | k + 1, hk => by
    rw [Nat.pow_succ, Nat.mul_comm, cntB_mul (w := if c - (k + 1) ∈ piv then 1 else p) (Q := goodB p c piv M k) _ fun m _ => good_step hp h hk m, good_count hp h k (by omega), cntB]
    by_cases e : c - (k + 1) ∈ piv
    · simp [e]
    · rw [if_neg e]
      simp only [e, decide_false, Bool.not_false, if_true]
      rw [Nat.pow_succ, Nat.mul_comm]
theorem cnt_mem : ∀ (L : List Nat) (N : Nat), L.Nodup → (∀ x ∈ L, x < N) → cntB (fun s => decide (s ∈ L)) N = L.length
  | [], N, _, _ => cntB_none N fun k _ => by simp
  | a :: L, N, hn, hl => by
    obtain ⟨h1, h2⟩ := List.nodup_cons.1 hn
    have e : cntB (fun s => decide (s ∈ a :: L)) N = cntB (fun s => decide (s = a) || decide (s ∈ L)) N := cntB_congr N fun k _ => by simp
    rw [e, cntB_or, cnt_mem L N h2 fun x hx => hl x (List.mem_cons_of_mem _ hx), cntB_one (m := a) (N := N) (fun k _ => by simp) N (Nat.le_refl _), if_pos (hl a List.mem_cons_self), List.length_cons]
    · omega
    · rintro k _ ⟨h3, h4⟩
      have h3 := of_decide_eq_true h3
      have h4 := of_decide_eq_true h4
      subst h3; exact h1 h4
theorem free_count {n c : Nat} {piv : List Nat} {M : Nat → Nat → Int} (h : Ech n c piv M) : cntB (fun s => !decide (c - (s + 1) ∈ piv)) c = c - piv.length ∧ piv.length ≤ c := by
  have h1 := cntB_not (fun s => decide (c - (s + 1) ∈ piv)) c
  have h2 : cntB (fun s => decide (c - (s + 1) ∈ piv)) c = cntB (fun s => decide (s ∈ piv.map fun x => c - (x + 1))) c := cntB_congr c fun k hk => by
    congr 1
    rw [List.mem_map, eq_iff_iff]
    constructor
    · intro h3; exact ⟨_, h3, by omega⟩
    · rintro ⟨x, hx, rfl⟩
      obtain ⟨i, hi, rfl⟩ := mem_getD.1 hx
      have := h.lt i hi
      rwa [show c - (c - (piv.getD i 0 + 1) + 1) = piv.getD i 0 by omega]
  have hnd : (piv.map fun x => c - (x + 1)).Nodup := by
    rw [List.Nodup, List.pairwise_iff_getElem]
    intro i j hi hj hij
    simp only [List.length_map] at hi hj
    have a1 := h.asc i j hij hj
    have a2 := h.lt j hj
    simp only [List.getD_eq_getElem?_getD, List.getElem?_eq_getElem hi, List.getElem?_eq_getElem hj, Option.getD_some] at a1 a2
    rw [List.getElem_map, List.getElem_map]
    omega
  rw [h2, cnt_mem _ c hnd, List.length_map] at h1
  · omega
  · intro x hx
    obtain ⟨y, hy, rfl⟩ := List.mem_map.1 hx
    obtain ⟨i, hi, rfl⟩ := mem_getD.1 hy
    have := h.lt i hi
    omega
/-- No row without a pivot asks for anything. -/
def fineM (n c : Nat) (piv : List Nat) (M : Nat → Nat → Int) : Prop := ∀ i, piv.length ≤ i → i < n → M i c = 0
theorem solves_good {p n c : Nat} {piv : List Nat} {M : Nat → Nat → Int} (h : Ech n c piv M) (hf : fineM n c piv M) (m : Nat) : solves (p : Int) n c M (dg p m) ↔ goodB p c piv M c m = true := by
  rw [goodB_iff, Nat.sub_self]
  constructor
  · intro h1 i hi _
    have := h1 i (by have := h.len; omega)
    exact this
  · intro h1 i hi
    by_cases e : i < piv.length
    · exact h1 i e (Nat.zero_le _)
    · unfold eqnP
      rw [hf i (by omega) hi, sumF_zero]
      intro j _ hj
      show M i j * _ = 0
      rw [h.low i (by omega) hi j (by omega), Int.zero_mul]
theorem not_solves {p n c : Nat} {piv : List Nat} {M : Nat → Nat → Int} (h : Ech n c piv M) (hM : allR (p : Int) n (c + 1) M) (hf : ¬ fineM n c piv M) (x : Nat → Int) : ¬ solves (p : Int) n c M x := by
  intro hs
  refine hf fun i h1 h2 => ?_
  have h3 := hs i h2
  unfold eqnP at h3
  rw [sumF_zero] at h3
  · have h4 := hM i h2 c (by omega)
    rw [Int.zero_emod, Int.emod_eq_of_lt h4.1 h4.2] at h3
    exact h3.symm
  · intro j _ hj
    show M i j * _ = 0
    rw [h.low i h1 h2 j (by omega), Int.zero_mul]
theorem solF_at {n c : Nat} {piv : List Nat} {M : Nat → Nat → Int} (h : Ech n c piv M) (f : Nat → Int) : ∀ k, k ≤ piv.length → (∀ i, i < k → solF piv f k (piv.getD i 0) = f i) ∧ ∀ j, (∀ i, i < k → piv.getD i 0 ≠ j) → solF piv f k j = 0
  | 0, _ => ⟨fun i hi => by omega, fun _ _ => rfl⟩
  | k + 1, hk => by
    obtain ⟨h1, h2⟩ := solF_at h f k (by omega)
    refine ⟨fun i hi => ?_, fun j hj => ?_⟩
    · rw [solF]
      by_cases e : i = k
      · subst e; rw [if_pos rfl]
      · have := h.asc i k (by omega) (by omega)
        rw [if_neg (by omega)]; exact h1 i (by omega)
    · rw [solF, if_neg (fun e => hj k (by omega) e.symm)]
      exact h2 j fun i hi => hj i (by omega)
theorem sumF_single {f : Nat → Int} {j0 : Nat} : ∀ k t, t ≤ j0 → j0 < t + k → (∀ j, t ≤ j → j < t + k → j ≠ j0 → f j = 0) → sumF f t k = f j0
  | 0, t, h1, h2, _ => by omega
  | k + 1, t, h1, h2, h => by
    rw [sumF]
    by_cases e : t = j0
    · subst e
      rw [sumF_zero k (t + 1) fun j h3 h4 => h j (by omega) (by omega) (by omega)]; omega
    · rw [h t (Nat.le_refl _) (by omega) e, sumF_single k (t + 1) (by omega) (by omega) fun j h3 h4 => h j (by omega) (by omega)]; omega
theorem sol_solves {p n c : Nat} {piv : List Nat} {M : Nat → Nat → Int} (h : Ech n c piv M) (hf : fineM n c piv M) : solves (p : Int) n c M (solF piv (fun i => M i c) piv.length) := by
  obtain ⟨h1, h2⟩ := solF_at h (fun i => M i c) piv.length (Nat.le_refl _)
  intro i hi
  unfold eqnP
  by_cases e : i < piv.length
  · rw [sumF_single (j0 := piv.getD i 0) c 0 (Nat.zero_le _) (by have := h.lt i e; omega)]
    · rw [h1 i e, h.unit i e, Int.one_mul]
    · intro j _ hj hne
      show M i j * solF _ _ _ j = 0
      by_cases e2 : ∃ k, k < piv.length ∧ piv.getD k 0 = j
      · obtain ⟨k, hk, rfl⟩ := e2
        rw [h.zero k i hk hi (fun e3 => hne (by rw [e3])), Int.zero_mul]
      · rw [h2 j (fun k hk e3 => e2 ⟨k, hk, e3⟩), Int.mul_zero]
  · rw [hf i (by omega) hi, sumF_zero]
    intro j _ hj
    show M i j * _ = 0
    rw [h.low i (by omega) hi j (by omega), Int.zero_mul]
end Go.Proofs.YtdeeoigcpihidaaDoor
