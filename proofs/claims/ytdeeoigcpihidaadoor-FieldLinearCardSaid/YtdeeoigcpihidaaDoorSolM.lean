/- FieldSolutions, plainly: how many vectors solve a system; what Solve and Rank say of it. -/
import Derived.Test.YtdeeoigcpihidaaDoorCount
import Derived.Test.YtdeeoigcpihidaaDoorVec
namespace Go.Proofs.YtdeeoigcpihidaaDoor

theorem dotK_sum {q : Int} (hq : isMod q) (r v : List Int) : ∀ j, dotK q r v j = sumF (fun t => r.getD t 0 * v.getD t 0) 0 j % q
  | 0 => by simp [dotK, sumF]
  | j + 1 => by
    rw [dotK, dotK_sum hq r v j, sumF_snoc, Nat.zero_add]
    unfold addZ mulZ
    rw [if_pos hq, if_pos hq, Int.add_emod, Int.emod_emod_of_dvd _ (Int.dvd_refl q), Int.emod_emod_of_dvd _ (Int.dvd_refl q), ← Int.add_emod]
theorem solves_congr {q : Int} {n c : Nat} {M : Nat → Nat → Int} {x y : Nat → Int} (h : ∀ j, j < c → x j = y j) : solves q n c M x ↔ solves q n c M y := by
  unfold solves eqnP
  have : ∀ i, sumF (fun j => M i j * x j) 0 c = sumF (fun j => M i j * y j) 0 c := fun i => sumF_eq c 0 fun j _ hj => by rw [h j (by omega)]
  simp only [this]
/-- The products are the right side: a solution. -/
theorem prod_iff {q : Int} (hq : isMod q) {xss : List (List Int)} {b v : List Int} {c : Nat} (hr : ∀ r ∈ xss, r.length = c) (hv : v.length = c) (hb : b.length = xss.length) :
    prL q xss v = redL q b ↔ solves q xss.length c (augM q xss b c) fun j => v.getD j 0 := by
  have key : ∀ i (hi : i < xss.length), (dotF q xss[i] v = addZ q (b[i]'(by omega)) 0 ↔ eqnP q c (augM q xss b c i) fun j => v.getD j 0) := fun i hi => by
    have hl : xss[i].length = c := hr _ (List.getElem_mem hi)
    unfold dotF eqnP
    rw [hl, hv, Nat.min_self, dotK_sum hq]
    have e1 : sumF (fun j => augM q xss b c i j * v.getD j 0) 0 c % q = sumF (fun t => xss[i].getD t 0 * v.getD t 0) 0 c % q := by
      refine sumF_congr c 0 fun j _ hj => ?_
      show augM q xss b c i j * v.getD j 0 % q = _
      unfold augM resM
      rw [if_neg (by omega), mul_emod_l]
      simp [List.getD_eq_getElem?_getD, hi]
    have e2 : augM q xss b c i c % q = addZ q (b[i]'(by omega)) 0 := by
      unfold augM addZ
      rw [if_pos rfl, if_pos hq, Int.emod_emod_of_dvd _ (Int.dvd_refl q), Int.add_zero]
      simp [List.getD_eq_getElem?_getD, show i < b.length by omega]
    rw [e1, e2]
  constructor
  · intro h i hi
    refine (key i hi).1 ?_
    have := congrArg (fun l => l[i]?) h
    simpa [prL, redL, hi, show i < b.length by omega] using this
  · intro h
    refine List.ext_getElem (by simp [prL, redL, hb]) fun i h1 h2 => ?_
    simp only [prL, List.length_map] at h1
    simp only [prL, redL, List.getElem_map]
    exact (key i h1).2 (h i h1)
/-- Whether a vector, by its number, is a solution. -/
def hitB (p : Nat) (xss : List (List Int)) (b : List Int) (c m : Nat) : Bool := decide (prL (p : Int) xss (digL p c m) = redL (p : Int) b)
theorem solF_cases (piv : List Nat) (f : Nat → Int) : ∀ k j, solF piv f k j = 0 ∨ ∃ i, i < k ∧ solF piv f k j = f i
  | 0, _ => .inl rfl
  | k + 1, j => by
    rw [solF]
    split
    · exact .inr ⟨k, by omega, rfl⟩
    · rcases solF_cases piv f k j with h | ⟨i, hi, h⟩
      · exact .inl h
      · exact .inr ⟨i, by omega, h⟩
structure SolFacts (p : Nat) (xss : List (List Int)) (b : List Int) (c : Nat) : Prop where
  rank : 0 ≤ rankZ (p : Int) xss ∧ rankZ (p : Int) xss ≤ c
  some : ∀ x, solO (p : Int) xss b = some x → cntB (hitB p xss b c) (p ^ c) = p ^ (c - (rankZ (p : Int) xss).toNat) ∧ prL (p : Int) xss x = redL (p : Int) b ∧ x.length = c ∧ ∀ y ∈ x, isInt y
  none : solO (p : Int) xss b = none → cntB (hitB p xss b c) (p ^ c) = 0
theorem sol_facts {p : Nat} (hp : p < 14) (hpr : primeB (p : Int) = true) {xss : List (List Int)} {b : List Int} {c : Nat} (hm : matB xss = true) (hc : widF xss = c) (hb : b.length = xss.length) : SolFacts p xss b c := by
  have hq := primeB_mod hpr
  have hp2 : 2 ≤ (p : Int) := by
    have h := prime_small p hp hpr
    rcases p with _ | _ | p
    · simp at h
    · simp at h
    · omega
  obtain ⟨_, _, hr⟩ := matB_rows hm
  rw [hc] at hr
  let n := xss.length
  let A := augM (p : Int) xss b c
  have hA : allR (p : Int) n (c + 1) A := augM_all hq xss b c n (c + 1)
  obtain ⟨e1, e2, e3⟩ := redF_ech hq hp2 (fun a ha => inv_smallZ hp hpr a ha) (n := n) (C := c + 1) (c := c) c 0 [] A (Ech.start n A) hA (by omega)
  rw [Nat.zero_add] at e1
  have hrank : rankZ (p : Int) xss = ((redF (p : Int) n c 0 [] A).1.length : Int) := by
    unfold rankZ
    rw [if_pos ⟨hm, hpr⟩, hc, redF_agree (c := c) c 0 [] (resM (p : Int) xss) A (fun i j hj => by show _ = augM _ _ _ _ i j; unfold augM; rw [if_neg (by omega)]) (by omega)]
  have hmore : redF (p : Int) n (c + 1) 0 [] A = redF (p : Int) n 1 c (redF (p : Int) n c 0 [] A).1 (redF (p : Int) n c 0 [] A).2 := by
    rw [redF_more (p : Int) n c 1 0 [] A, Nat.zero_add]
  obtain ⟨R, hR⟩ : ∃ R, R = redF (p : Int) n c 0 [] A := ⟨_, rfl⟩
  rw [← hR] at e1 e2 e3 hrank hmore
  obtain ⟨hfree, hle⟩ := free_count e1
  have hlt : ∀ x ∈ R.1, x < c := fun x hx => by
    obtain ⟨i, hi, rfl⟩ := mem_getD.1 hx
    exact e1.lt i hi
  have hhit : ∀ m, m < p ^ c → (hitB p xss b c m = true ↔ solves (p : Int) n c R.2 (dg p m)) := fun m _ => by
    unfold hitB
    rw [decide_eq_true_eq, prod_iff hq hr (digL_len p c m) hb, e3]
    exact solves_congr fun j hj => dg_digL p c m j hj
  have hsol : solO (p : Int) xss b = if c ∈ (redF (p : Int) n (c + 1) 0 [] A).1 then none else some ((List.range c).map (solF (redF (p : Int) n (c + 1) 0 [] A).1 (fun i => (redF (p : Int) n (c + 1) 0 [] A).2 i c) (redF (p : Int) n (c + 1) 0 [] A).1.length)) := by
    unfold solO
    rw [if_pos ⟨hm, hb, hpr⟩, hc]
  refine ⟨by rw [hrank]; omega, ?_, ?_⟩
  all_goals
    cases hf : firstF (fun i => R.2 (R.1.length + i) c != 0) (n - R.1.length) 0 with
    | none =>
      have hlast : redF (p : Int) n (c + 1) 0 [] A = R := by rw [hmore, redF, hf]; rfl
      have hfine : fineM n c R.1 R.2 := fun i h1 h2 => by
        have := firstF_none _ _ hf (i - R.1.length) (Nat.zero_le _) (by omega)
        rw [show R.1.length + (i - R.1.length) = i by omega] at this
        simpa using this
      have hnc : ¬ c ∈ R.1 := fun h => by have := hlt c h; omega
      rw [hlast, if_neg hnc] at hsol
      first
        | (intro x hx
           rw [hsol] at hx
           obtain rfl := Option.some.inj hx
           have hcount : cntB (hitB p xss b c) (p ^ c) = p ^ (c - R.1.length) := by
             rw [cntB_congr (Q := goodB p c R.1 R.2 c) (p ^ c) fun m hm => by rw [Bool.eq_iff_iff, hhit m hm, solves_good e1 hfine], good_count (by omega) e1 c (Nat.le_refl _), hfree]
           have hint : ∀ y ∈ (List.range c).map (solF R.1 (fun i => R.2 i c) R.1.length), isInt y := fun y hy => by
             obtain ⟨j, _, rfl⟩ := List.mem_map.1 hy
             rcases solF_cases R.1 (fun i => R.2 i c) R.1.length j with h | ⟨i, hi, h⟩
             · rw [h]; unfold isInt; omega
             · rw [h]; exact (e2 i (by have := e1.len; omega) c (by omega)).int hq
           refine ⟨by rw [hcount, hrank]; simp, ?_, by simp, hint⟩
           rw [prod_iff hq hr (by simp) hb]
           refine (e3 _).1 ((solves_congr fun j hj => ?_).1 (sol_solves e1 hfine))
           simp [List.getD_eq_getElem?_getD, hj])
        | (intro hx; rw [hsol] at hx; cases hx)
    | some i =>
      obtain ⟨_, h4, h5, _⟩ := firstF_some _ _ _ hf
      have hfine : ¬ fineM n c R.1 R.2 := fun h => by
        have := h (R.1.length + i) (by omega) (by omega)
        simp [this] at h5
      have hc1 : c ∈ (redF (p : Int) n (c + 1) 0 [] A).1 := by
        rw [hmore, redF, hf]
        show c ∈ (R.1 ++ [c])
        simp
      rw [if_pos hc1] at hsol
      first
        | (intro x hx; rw [hsol] at hx; cases hx; done)
        | (intro _
           refine cntB_none _ fun m hm => ?_
           rw [Bool.eq_false_iff]
           intro h
           exact not_solves e1 e2 hfine _ ((hhit m hm).1 h))
end Go.Proofs.YtdeeoigcpihidaaDoor
