/- Polynomials modulo a prime through points: exactly one. -/
import Derived.Test.YtdeeoigcpihidaaDoorNum2
namespace Go.Proofs.YtdeeoigcpihidaaDoor

/-- The value of a polynomial. -/
def ev : List Int → Int → Int
  | [], _ => 0
  | c :: cs, x => ev cs x * x + c
/-- The polynomial r + (X - x0) d. -/
def lin (x0 : Int) : Int → List Int → List Int
  | r, [] => [r]
  | r, d :: ds => (r - x0 * d) :: lin x0 d ds
theorem lin_len (x0 : Int) : ∀ (ds : List Int) (r : Int), (lin x0 r ds).length = ds.length + 1
  | [], _ => rfl
  | d :: ds, r => by rw [lin, List.length_cons, lin_len x0 ds d]; rfl
theorem ev_lin (x0 x : Int) : ∀ (ds : List Int) (r : Int), ev (lin x0 r ds) x = r + (x - x0) * ev ds x
  | [], r => by simp [lin, ev]
  | d :: ds, r => by
    rw [lin, ev, ev, ev_lin x0 x ds d]
    generalize ev ds x = e
    simp only [Int.mul_add, Int.mul_sub, Int.mul_comm, Int.mul_left_comm]
    omega
/-- Each polynomial is of this form. -/
theorem lin_of (x0 : Int) : ∀ (cs : List Int) (c : Int), ∃ r ds, ds.length = cs.length ∧ lin x0 r ds = c :: cs
  | [], c => ⟨c, [], rfl, rfl⟩
  | c' :: cs, c => by
    obtain ⟨r, ds, h1, h2⟩ := lin_of x0 cs c'
    refine ⟨c + x0 * r, r :: ds, by simp [h1], ?_⟩
    rw [lin, h2]; simp
def sameL (p : Int) (a b : List Int) : Prop := a.map (· % p) = b.map (· % p)
theorem sameL.ev {p : Int} : ∀ {a b : List Int}, sameL p a b → ∀ x, ev a x % p = ev b x % p
  | [], [], _, _ => rfl
  | [], b :: bs, h, _ => by simp [sameL] at h
  | a :: as, [], h, _ => by simp [sameL] at h
  | a :: as, b :: bs, h, x => by
    simp only [sameL, List.map_cons, List.cons.injEq] at h
    rw [Go.Proofs.YtdeeoigcpihidaaDoor.ev, Go.Proofs.YtdeeoigcpihidaaDoor.ev, Int.add_emod, Int.mul_emod, sameL.ev h.2 x, h.1, ← Int.mul_emod, ← Int.add_emod]
theorem sameL_lin {p : Int} (x0 : Int) : ∀ {a b : List Int} (r s : Int), r % p = s % p → sameL p a b → sameL p (lin x0 r a) (lin x0 s b)
  | [], [], r, s, h, _ => by simp [sameL, lin, h]
  | [], b :: bs, _, _, _, h => by simp [sameL] at h
  | a :: as, [], _, _, _, h => by simp [sameL] at h
  | a :: as, b :: bs, r, s, h, hl => by
    simp only [sameL, List.map_cons, List.cons.injEq] at hl
    have := sameL_lin x0 a b hl.1 hl.2
    unfold sameL at this ⊢
    rw [lin, lin, List.map_cons, List.map_cons, this]
    congr 1
    rw [Int.sub_emod, Int.mul_emod, h, hl.1, ← Int.mul_emod, ← Int.sub_emod]
/-- The difference has an inverse. -/
def apartZ (p a b : Int) : Prop := ∃ u, (a - b) * u % p = 1 % p
theorem cancel {p d u y z : Int} (h : d * u % p = 1 % p) (e : d * y % p = d * z % p) : y % p = z % p := by
  have h1 : ∀ y, u * (d * y) % p = y % p := fun y => by
    rw [← Int.mul_assoc, Int.mul_comm u d, Int.mul_emod, h, ← Int.mul_emod, Int.one_mul]
  rw [← h1 y, ← h1 z, Int.mul_emod, e, ← Int.mul_emod]
/-- Two polynomials of so many coefficients with the same values at as many points are the same. -/
theorem pts_uniq {p : Int} : ∀ (pts : List Int) (a b : List Int), pts.Pairwise (fun x y => apartZ p y x) → a.length = pts.length → b.length = pts.length → (∀ x ∈ pts, ev a x % p = ev b x % p) → sameL p a b
  | [], a, b, _, ha, hb, _ => by
    obtain rfl := List.eq_nil_of_length_eq_zero ha
    obtain rfl := List.eq_nil_of_length_eq_zero hb
    rfl
  | x0 :: pts, [], _, _, ha, _, _ => by simp at ha
  | x0 :: pts, _ :: _, [], _, _, hb, _ => by simp at hb
  | x0 :: pts, a0 :: as, b0 :: bs, hp, ha, hb, h => by
    obtain ⟨r, ds, h1, h2⟩ := lin_of x0 as a0
    obtain ⟨s, es, h3, h4⟩ := lin_of x0 bs b0
    rw [← h2, ← h4]
    rw [← h2, ← h4] at h
    simp only [List.length_cons, Nat.add_right_cancel_iff] at ha hb
    obtain ⟨hp1, hp2⟩ := List.pairwise_cons.1 hp
    have hrs : r % p = s % p := by
      have := h x0 (List.mem_cons_self)
      rw [ev_lin, ev_lin] at this
      simpa using this
    refine sameL_lin x0 r s hrs (pts_uniq pts ds es hp2 (by omega) (by omega) fun x hx => ?_)
    obtain ⟨u, hu⟩ := hp1 x hx
    have h5 := h x (List.mem_cons_of_mem _ hx)
    rw [ev_lin, ev_lin] at h5
    refine cancel hu ?_
    have e1 : (x - x0) * ev ds x = r + (x - x0) * ev ds x - r := by omega
    have e2 : (x - x0) * ev es x = s + (x - x0) * ev es x - s := by omega
    rw [e1, e2, Int.sub_emod, h5, hrs, ← Int.sub_emod]
/-- A polynomial through points. -/
theorem pts_some {p : Int} (hp0 : 0 < p) : ∀ (n : Nat) (pts : List (Int × Int)), pts.length = n → (pts.map Prod.fst).Pairwise (fun x y => apartZ p y x) → ∃ c : List Int, c.length = n ∧ (∀ y ∈ c, 0 ≤ y ∧ y < p) ∧ ∀ pt ∈ pts, ev c pt.1 % p = pt.2 % p
  | 0, pts, hl, _ => by
    obtain rfl := List.eq_nil_of_length_eq_zero hl
    exact ⟨[], rfl, by simp, by simp⟩
  | n + 1, [], hl, _ => by simp at hl
  | n + 1, (x0, v0) :: pts, hl, hp => by
    rw [List.map_cons, List.pairwise_cons] at hp
    obtain ⟨hp1, hp2⟩ := hp
    have hc : ∀ pt : Int × Int, ∃ u, pt.1 ∈ pts.map Prod.fst → (pt.1 - x0) * u % p = 1 % p := fun pt => by
      by_cases hm : pt.1 ∈ pts.map Prod.fst
      · obtain ⟨u, hu⟩ := hp1 _ hm
        exact ⟨u, fun _ => hu⟩
      · exact ⟨0, fun h => absurd h hm⟩
    obtain ⟨U, hU⟩ : ∃ U : Int × Int → Int, ∀ pt, pt.1 ∈ pts.map Prod.fst → (pt.1 - x0) * U pt % p = 1 % p := ⟨fun pt => Classical.choose (hc pt), fun pt => Classical.choose_spec (hc pt)⟩
    obtain ⟨d, h1, _, h3⟩ := pts_some hp0 n (pts.map fun pt => (pt.1, (pt.2 - v0) * U pt)) (by simpa using hl) (by rw [List.map_map]; exact hp2)
    refine ⟨(lin x0 v0 d).map (· % p), by rw [List.length_map, lin_len, h1], fun y hy => ?_, fun pt hpt => ?_⟩
    · obtain ⟨z, _, rfl⟩ := List.mem_map.1 hy
      exact ⟨Int.emod_nonneg _ (by omega), Int.emod_lt_of_pos _ hp0⟩
    · have hs : sameL p ((lin x0 v0 d).map (· % p)) (lin x0 v0 d) := by
        unfold sameL
        rw [List.map_map]
        refine List.map_congr_left fun z _ => ?_
        simp
      rw [hs.ev, ev_lin]
      rcases List.mem_cons.1 hpt with rfl | hpt
      · simp
      · have h5 := h3 _ (List.mem_map_of_mem hpt)
        have h6 := hU pt (List.mem_map_of_mem hpt)
        simp only at h5
        have e : (pt.1 - x0) * ev d pt.1 % p = (pt.2 - v0) % p := by
          rw [Int.mul_emod, h5, ← Int.mul_emod, Int.mul_comm (pt.2 - v0), ← Int.mul_assoc, Int.mul_emod, h6, ← Int.mul_emod, Int.one_mul]
        rw [Int.add_emod, e, ← Int.add_emod]
        congr 1; omega
/-! ### Digits -/
def digL (p : Nat) : Nat → Nat → List Int
  | 0, _ => []
  | k + 1, n => ((n % p : Nat) : Int) :: digL p k (n / p)
theorem digL_len (p : Nat) : ∀ (k n : Nat), (digL p k n).length = k
  | 0, _ => rfl
  | k + 1, n => by rw [digL, List.length_cons, digL_len p k]
theorem digL_of {p : Nat} (hp : 0 < p) : ∀ (l : List Int), (∀ y ∈ l, 0 ≤ y ∧ y < (p : Int)) → ∃ n, n < p ^ l.length ∧ digL p l.length n = l
  | [], _ => ⟨0, by simp, rfl⟩
  | c :: cs, h => by
    obtain ⟨n, h1, h2⟩ := digL_of hp cs fun y hy => h y (List.mem_cons_of_mem _ hy)
    have hc := h c List.mem_cons_self
    refine ⟨c.toNat + p * n, ?_, ?_⟩
    · rw [List.length_cons, Nat.pow_succ, Nat.mul_comm (p ^ cs.length) p]
      have : p * (n + 1) ≤ p * p ^ cs.length := Nat.mul_le_mul_left p h1
      rw [Nat.mul_add] at this
      omega
    · rw [List.length_cons, digL]
      have e1 : (c.toNat + p * n) % p = c.toNat := by rw [Nat.add_mul_mod_self_left]; exact Nat.mod_eq_of_lt (by omega)
      have e2 : (c.toNat + p * n) / p = n := by rw [Nat.add_mul_div_left _ _ hp, Nat.div_eq_of_lt (by omega)]; omega
      rw [e1, e2, h2]
      congr 1; omega
theorem digL_inj {p : Nat} (hp : 0 < p) : ∀ (k n m : Nat), n < p ^ k → m < p ^ k → sameL (p : Int) (digL p k n) (digL p k m) → n = m
  | 0, n, m, hn, hm, _ => by simp at hn hm; omega
  | k + 1, n, m, hn, hm, h => by
    simp only [digL, sameL, List.map_cons, List.cons.injEq] at h
    have h1 : n % p = m % p := Int.ofNat_inj.1 (by simpa using h.1)
    rw [Nat.pow_succ, Nat.mul_comm] at hn hm
    have h2 := digL_inj hp k (n / p) (m / p) (Nat.div_lt_of_lt_mul hn) (Nat.div_lt_of_lt_mul hm) h.2
    rw [← Nat.div_add_mod n p, ← Nat.div_add_mod m p, h1, h2]
/-- How many numbers below n have a property. -/
def cntB (P : Nat → Bool) : Nat → Nat
  | 0 => 0
  | n + 1 => cntB P n + if P n then 1 else 0
theorem cntB_le (P : Nat → Bool) : ∀ n, cntB P n ≤ n
  | 0 => Nat.le_refl _
  | n + 1 => by rw [cntB]; have := cntB_le P n; split <;> omega
theorem cntB_one {P : Nat → Bool} {m N : Nat} (h : ∀ k, k < N → (P k = true ↔ k = m)) : ∀ n, n ≤ N → cntB P n = if m < n then 1 else 0
  | 0, _ => rfl
  | n + 1, hn => by
    rw [cntB, cntB_one h n (by omega)]
    by_cases e : n = m
    · subst e; rw [if_neg (Nat.lt_irrefl n), if_pos ((h n (by omega)).2 rfl), if_pos (Nat.lt_succ_self n)]
    · have hf : ¬ P n = true := fun hp => e ((h n (by omega)).1 hp)
      rw [if_neg hf]
      by_cases e2 : m < n
      · rw [if_pos e2, if_pos (by omega)]
      · rw [if_neg e2, if_neg (by omega)]
/-- Whether a polynomial has values at points. -/
def fitsB (p : Int) (c : List Int) : List Int → List Int → Bool
  | x :: xs, y :: ys => decide (ev c x % p = y % p) && fitsB p c xs ys
  | _, _ => true
theorem fitsB_iff (p : Int) (c : List Int) : ∀ (xs ys : List Int), xs.length = ys.length → (fitsB p c xs ys = true ↔ ∀ pt ∈ xs.zip ys, ev c pt.1 % p = pt.2 % p)
  | [], [], _ => by simp [fitsB]
  | [], _ :: _, h => by simp at h
  | _ :: _, [], h => by simp at h
  | x :: xs, y :: ys, h => by
    rw [fitsB, Bool.and_eq_true, decide_eq_true_eq, fitsB_iff p c xs ys (by simpa using h)]
    simp
theorem inv_small : ∀ p ∈ [2, 3, 5, 7, 11, 13], ∀ r : Nat, r < p → 0 < r → ∃ u, u < p ∧ r * u % p = 1 % p := by decide
theorem prime_small : ∀ p : Nat, p < 14 → primeB (p : Int) = true → p ∈ [2, 3, 5, 7, 11, 13] := by decide +kernel
theorem inv_smallZ {p : Nat} (hp : p < 14) (h : primeB (p : Int) = true) (a : Int) (ha : a % (p : Int) ≠ 0) : ∃ u : Int, a * u % (p : Int) = 1 % (p : Int) := by
  have hm := prime_small p hp h
  have hp0 : 0 < p := by
    rcases Nat.eq_zero_or_pos p with rfl | h0
    · simp at hm
    · exact h0
  have h1 := Int.emod_nonneg a (show (p : Int) ≠ 0 by omega)
  have h2 := Int.emod_lt_of_pos a (show (0 : Int) < p by omega)
  obtain ⟨u, _, h3⟩ := inv_small p hm (a % p).toNat (by omega) (by omega)
  refine ⟨u, ?_⟩
  have h4 : ((((a % p).toNat * u % p : Nat)) : Int) = ((1 % p : Nat) : Int) := by rw [h3]
  rw [Int.natCast_emod, Int.natCast_mul, Int.toNat_of_nonneg h1, mul_emod_l] at h4
  simpa using h4
/-- THE COUNT: of the polynomials with the value s at 0 exactly one has the values at the points. -/
theorem shares_one {p : Nat} (hp : p < 14) (hpr : primeB (p : Int) = true) (xs ys : List Int) (hl : xs.length = ys.length) (h0 : ∀ x ∈ xs, x % (p : Int) ≠ 0) (hd : xs.Pairwise fun x y => (y - x) % (p : Int) ≠ 0) (s : Nat) (hs : s < p) :
    cntB (fun n => decide (n % p = s) && fitsB (p : Int) (digL p (xs.length + 1) n) xs ys) (p ^ (xs.length + 1)) = 1 := by
  have hp0 : 0 < p := by omega
  have hz : (0, (s : Int)) :: xs.zip ys = (0 :: xs).zip ((s : Int) :: ys) := rfl
  have hf : (((0, (s : Int)) :: xs.zip ys).map Prod.fst) = 0 :: xs := by rw [List.map_cons, List.map_fst_zip (by omega)]
  have hlen : ((0, (s : Int)) :: xs.zip ys).length = xs.length + 1 := by rw [List.length_cons, List.length_zip, hl, Nat.min_self]
  have hpw : (0 :: xs).Pairwise (fun x y => apartZ (p : Int) y x) := by
    refine List.pairwise_cons.2 ⟨fun x hx => inv_smallZ hp hpr _ (by simpa using h0 x hx), ?_⟩
    exact hd.imp fun h => inv_smallZ hp hpr _ h
  obtain ⟨c, hc1, hc2, hc3⟩ := pts_some (p := (p : Int)) (by omega) _ ((0, (s : Int)) :: xs.zip ys) hlen (by rw [hf]; exact hpw)
  obtain ⟨m, hm1, hm2⟩ := digL_of hp0 c hc2
  rw [hc1] at hm1 hm2
  have key : ∀ n, n < p ^ (xs.length + 1) → ((decide (n % p = s) && fitsB (p : Int) (digL p (xs.length + 1) n) xs ys) = true ↔ n = m) := fun n hn => by
    rw [Bool.and_eq_true, decide_eq_true_eq, fitsB_iff _ _ _ _ hl]
    have ev0 : ∀ n, ev (digL p (xs.length + 1) n) 0 = ((n % p : Nat) : Int) := fun n => by rw [digL, ev]; simp
    constructor
    · rintro ⟨h1, h2⟩
      refine digL_inj hp0 _ n m hn hm1 (pts_uniq (0 :: xs) _ _ hpw (by rw [digL_len]; rfl) (by rw [digL_len]; rfl) fun x hx => ?_)
      rw [hm2]
      rcases List.mem_cons.1 hx with rfl | hx
      · have := hc3 (0, (s : Int)) List.mem_cons_self
        rw [ev0, h1]
        exact this.symm
      · obtain ⟨i, hi, rfl⟩ := List.getElem_of_mem hx
        have hmem : (xs[i], ys[i]'(by omega)) ∈ xs.zip ys := by
          rw [List.mem_iff_getElem]
          exact ⟨i, by rw [List.length_zip]; omega, by rw [List.getElem_zip]⟩
        rw [h2 _ hmem, hc3 _ (List.mem_cons_of_mem _ hmem)]
    · rintro rfl
      rw [hm2]
      refine ⟨?_, fun pt hpt => hc3 _ (List.mem_cons_of_mem _ hpt)⟩
      have h1 := hc3 (0, (s : Int)) List.mem_cons_self
      rw [← hm2, ev0] at h1
      have h2 := Nat.mod_lt n hp0
      rw [Int.emod_eq_of_lt (by omega) (by omega), Int.emod_eq_of_lt (by simp) (by simp; omega)] at h1
      exact Int.ofNat_inj.1 h1
  rw [cntB_one key _ (Nat.le_refl _), if_pos hm1]
end Go.Proofs.YtdeeoigcpihidaaDoor
