/- The journal in plain terms: forms, sums, what is read of a string, and what is read of one that was torn. -/
import Derived.Test.YtanecondopbfhaaGreatDoorCod
namespace Go.Proofs.YtanecondopbfhaaGreatDoor
open Cod (textS numS intS textF numF naturalF Rd failed isInt)

def sumAt : Nat → List UInt8 → Nat
  | _, [] => 0
  | i, c :: l => c.toNat * (i + 1) + sumAt (i + 1) l

def sumL (l : List UInt8) : Nat := sumAt 0 l

theorem sumAt_snoc (c : UInt8) : ∀ (l : List UInt8) (i : Nat), sumAt i (l ++ [c]) = sumAt i l + c.toNat * (i + l.length + 1)
  | [], i => by simp [sumAt]
  | d :: l, i => by
    rw [List.cons_append, sumAt, sumAt, sumAt_snoc c l (i + 1), List.length_cons, show i + 1 + l.length + 1 = i + (l.length + 1) + 1 by omega]
    omega

theorem sumL_take (l : List UInt8) (k : Nat) (h : k < l.length) : sumL (l.take (k + 1)) = sumL (l.take k) + l[k].toNat * (k + 1) := by
  rw [List.take_succ_eq_append_getElem h]
  unfold sumL
  rw [sumAt_snoc, List.length_take, Nat.min_eq_left (Nat.le_of_lt h), Nat.zero_add]

theorem sumAt_le : ∀ (l : List UInt8) (i : Nat), sumAt i l ≤ 255 * (l.length * (i + l.length))
  | [], i => by simp [sumAt]
  | c :: l, i => by
    have h1 := sumAt_le l (i + 1)
    have h2 : c.toNat ≤ 255 := by have := c.toNat_lt; omega
    rw [sumAt, List.length_cons]
    have h3 : c.toNat * (i + 1) ≤ 255 * (i + 1) := Nat.mul_le_mul_right _ h2
    have h4 : (l.length + 1) * (i + (l.length + 1)) = l.length * (i + 1 + l.length) + (i + l.length + 1) := by
      rw [Nat.add_mul, show i + (l.length + 1) = i + 1 + l.length by omega]; omega
    rw [h4]
    omega

theorem sumL_le (l : List UInt8) (h : l.length ≤ 16777216) : sumL l ≤ 71776119061217280 := by
  have h1 := sumAt_le l 0
  have h2 : l.length * (0 + l.length) ≤ 16777216 * 16777216 := Nat.mul_le_mul h (by omega)
  unfold sumL
  omega

theorem sum_isInt (l : List UInt8) (h : l.length ≤ 16777216) : isInt (sumL l : Int) := by
  have := sumL_le l h
  unfold isInt; omega

def formL (l : List UInt8) : List UInt8 := textS l ++ numS (sumL l : Int)
def forms (l : List (List UInt8)) : List UInt8 := l.flatMap formL

theorem forms_append (a b : List (List UInt8)) : forms (a ++ b) = forms a ++ forms b := by simp [forms]
theorem forms_cons (a : List UInt8) (b : List (List UInt8)) : forms (a :: b) = formL a ++ forms b := by simp [forms]

/-- A record is read. -/
def recOk (r : Rd) : Bool := !(numF (textF r).2).2.2 && decide ((textF r).1.length ≤ 20000) && decide ((sumL (textF r).1 : Int) = (numF (textF r).2).1)

def recsF : Nat → Rd → List (List UInt8) × Rd
  | 0, r => ([], r)
  | n + 1, r => if recOk r = true then ((textF r).1 :: (recsF n (numF (textF r).2).2).1, (recsF n (numF (textF r).2).2).2) else ([], r)

def recsR (s : List UInt8) : List (List UInt8) × Rd := recsF (s.length + 1) (s, false)
def recs (s : List UInt8) : List (List UInt8) := (recsR s).1

theorem form_read (u x : List UInt8) (hu : u.length ≤ 20000) : textF (formL u ++ x, false) = (u, (numS (sumL u : Int) ++ x, false)) ∧ numF (numS (sumL u : Int) ++ x, false) = ((sumL u : Int), (x, false)) ∧ recOk (formL u ++ x, false) = true := by
  have h1 : textF (formL u ++ x, false) = (u, (numS (sumL u : Int) ++ x, false)) := by
    unfold formL
    rw [List.append_assoc, Cod.textF_write u _ (by omega)]
  have h2 : numF (numS (sumL u : Int) ++ x, false) = ((sumL u : Int), (x, false)) := Cod.numF_write _ _ _ (sum_isInt u (by omega)) (by omega)
  refine ⟨h1, h2, ?_⟩
  unfold recOk
  rw [h1, h2]
  simp [hu]

/-- What was read is what stands there. -/
theorem rec_shape {r : Rd} (h : recOk r = true) : r.2 = false ∧ (textF r).1.length ≤ 20000 ∧ (numF (textF r).2).2.2 = false ∧ r.1 = formL (textF r).1 ++ (numF (textF r).2).2.1 := by
  unfold recOk at h
  simp only [Bool.and_eq_true, Bool.not_eq_true', decide_eq_true_eq] at h
  obtain ⟨⟨h1, h2⟩, h3⟩ := h
  obtain ⟨n1, n2⟩ := Cod.numF_read h1
  obtain ⟨t1, t2⟩ := Cod.textF_read n1
  refine ⟨t1, h2, h1, ?_⟩
  rw [t2, n2, ← h3]
  unfold formL
  rw [List.append_assoc]

theorem form_pos (u : List UInt8) : 0 < (formL u).length := by
  unfold formL textS
  simp
  omega

theorem rec_shorter {r : Rd} (h : recOk r = true) : (numF (textF r).2).2.1.length < r.1.length := by
  obtain ⟨_, _, _, h4⟩ := rec_shape h
  have := form_pos (textF r).1
  have h5 := congrArg List.length h4
  rw [List.length_append] at h5
  omega

theorem recsF_more : ∀ (n m : Nat) (r : Rd), r.1.length < n → r.1.length < m → recsF n r = recsF m r
  | 0, _, _, h, _ => by omega
  | _, 0, _, _, h => by omega
  | n + 1, m + 1, r, hn, hm => by
    rw [recsF, recsF]
    by_cases h : recOk r = true
    · have hs := rec_shorter h
      rw [if_pos h, if_pos h, recsF_more n m _ (by omega) (by omega)]
    · rw [if_neg h, if_neg h]

theorem recsR_form (u x : List UInt8) (hu : u.length ≤ 20000) : recsR (formL u ++ x) = (u :: (recsR x).1, (recsR x).2) := by
  obtain ⟨h1, h2, h3⟩ := form_read u x hu
  have hp := form_pos u
  unfold recsR
  rw [recsF, if_pos h3, h1, h2, recsF_more _ (x.length + 1) (x, false) (by simp; omega) (by simp)]

theorem recsR_forms : ∀ (l : List (List UInt8)) (x : List UInt8), (∀ u ∈ l, u.length ≤ 20000) → recsR (forms l ++ x) = (l ++ (recsR x).1, (recsR x).2)
  | [], x, _ => by simp [forms]
  | u :: l, x, h => by
    rw [forms_cons, List.append_assoc, recsR_form u _ (h u (List.mem_cons_self ..)), recsR_forms l x (fun v hv => h v (List.mem_cons_of_mem _ hv))]
    rfl

theorem recsF_shape : ∀ (n : Nat) (r : Rd), r.2 = false → r.1 = forms (recsF n r).1 ++ (recsF n r).2.1 ∧ (recsF n r).2.2 = false ∧ ∀ u ∈ (recsF n r).1, u.length ≤ 20000
  | 0, r, h => ⟨by simp [recsF, forms], h, by simp [recsF]⟩
  | n + 1, r, h => by
    rw [recsF]
    by_cases hk : recOk r = true
    · rw [if_pos hk]
      obtain ⟨_, h2, h3, h4⟩ := rec_shape hk
      obtain ⟨i1, i2, i3⟩ := recsF_shape n (numF (textF r).2).2 h3
      refine ⟨?_, i2, ?_⟩
      · rw [forms_cons, List.append_assoc, ← i1]
        exact h4
      · intro u hu
        rcases List.mem_cons.1 hu with rfl | hu
        · exact h2
        · exact i3 u hu
    · rw [if_neg hk]
      exact ⟨by simp [forms], h, by simp⟩

theorem recs_shape (s : List UInt8) : s = forms (recs s) ++ (recsR s).2.1 ∧ ∀ u ∈ recs s, u.length ≤ 20000 := by
  obtain ⟨h1, _, h3⟩ := recsF_shape (s.length + 1) (s, false) rfl
  exact ⟨h1, h3⟩

theorem recs_len (s : List UInt8) : (forms (recs s)).length = s.length - (recsR s).2.1.length ∧ (forms (recs s)).length ≤ s.length := by
  have h := congrArg List.length (recs_shape s).1
  rw [List.length_append] at h
  omega

theorem recs_forms (l : List (List UInt8)) (h : ∀ u ∈ l, u.length ≤ 20000) : recs (forms l) = l := by
  have := recsR_forms l [] h
  rw [List.append_nil] at this
  unfold recs
  rw [this]
  have h0 : recsR [] = ([], ([], false)) := by
    unfold recsR
    rw [List.length_nil, recsF, if_neg]
    have : textF ([], false) = ([], failed) := by decide
    unfold recOk
    rw [this]
    decide
  rw [h0]
  simp

/-! ### torn strings -/

/-- x is z, perhaps shorter, and with zeros at some places. -/
def tz : List UInt8 → List UInt8 → Prop
  | [], _ => True
  | _ :: _, [] => False
  | a :: x, b :: z => (a = b ∨ a = 0) ∧ tz x z

theorem tz_of : ∀ (x z : List UInt8), x.length ≤ z.length → (∀ i, i < x.length → x.getD i 0 = z.getD i 0 ∨ x.getD i 0 = 0) → tz x z
  | [], _, _, _ => trivial
  | a :: x, [], h, _ => by simp at h
  | a :: x, b :: z, h, hi => by
    refine ⟨by simpa using hi 0 (by simp), tz_of x z (by simpa using h) (fun i hx => ?_)⟩
    simpa using hi (i + 1) (by simpa using hx)

/-- Bytes that are not 0 stand there unchanged. -/
theorem tz_solid : ∀ (a x z : List UInt8), (∀ c ∈ a, c ≠ 0) → tz (a ++ x) z → ∃ z', z = a ++ z' ∧ tz x z'
  | [], x, z, _, h => ⟨z, rfl, h⟩
  | c :: a, x, [], _, h => by exact h.elim
  | c :: a, x, b :: z, hn, h => by
    obtain ⟨h1, h2⟩ := h
    obtain ⟨z', e, h3⟩ := tz_solid a x z (fun d hd => hn d (List.mem_cons_of_mem _ hd)) h2
    rcases h1 with h1 | h1
    · exact ⟨z', by rw [e, h1]; rfl, h3⟩
    · exact absurd h1 (hn c (List.mem_cons_self ..))

theorem tz_part : ∀ (t u x z : List UInt8), t.length = u.length → tz (t ++ x) (u ++ z) → tz t u ∧ tz x z
  | [], [], x, z, _, h => ⟨trivial, h⟩
  | [], _ :: _, _, _, h, _ => by simp at h
  | _ :: _, [], _, _, h, _ => by simp at h
  | a :: t, b :: u, x, z, hl, h => by
    obtain ⟨h1, h2⟩ := h
    obtain ⟨h3, h4⟩ := tz_part t u x z (by simpa using hl) h2
    exact ⟨⟨h1, h3⟩, h4⟩

theorem tz_sum : ∀ (t u : List UInt8) (i : Nat), t.length = u.length → tz t u → sumAt i t ≤ sumAt i u ∧ (sumAt i t = sumAt i u → t = u)
  | [], [], i, _, _ => ⟨Nat.le_refl _, fun _ => rfl⟩
  | [], _ :: _, _, h, _ => by simp at h
  | _ :: _, [], _, h, _ => by simp at h
  | a :: t, b :: u, i, hl, h => by
    obtain ⟨h1, h2⟩ := h
    obtain ⟨h3, h4⟩ := tz_sum t u (i + 1) (by simpa using hl) h2
    rw [sumAt, sumAt]
    have h5 : a.toNat * (i + 1) ≤ b.toNat * (i + 1) := by
      rcases h1 with h1 | h1
      · rw [h1]; exact Nat.le_refl _
      · rw [h1]; simp
    refine ⟨by omega, fun e => ?_⟩
    have h6 : a.toNat * (i + 1) = b.toNat * (i + 1) := by omega
    have h7 : a.toNat = b.toNat := Nat.eq_of_mul_eq_mul_right (by omega) h6
    rw [UInt8.toNat_inj.1 h7, h4 (by omega)]

theorem itoa_solid (n : Nat) : ∀ c ∈ Lib.itoa (n : Int), c ≠ 0 := by
  intro c hc
  unfold Lib.itoa at hc
  rw [if_neg (by omega)] at hc
  have := Cod.decDigits_isDig _ c hc
  unfold Cod.isDig at this
  rw [decide_eq_true_eq] at this
  intro e
  rw [e] at this
  simp at this

theorem numS_eq (n : Nat) : numS (n : Int) = Lib.itoa (n : Int) ++ [59] := by
  unfold numS
  rw [if_neg (by omega)]
  rfl

theorem torn_form {t u y z : List UInt8} (ht : t.length ≤ 20000) (hu : u.length ≤ 20000) (h : tz (formL t ++ y) (formL u ++ z)) : t = u := by
  unfold formL textS at h
  have e1 : (Lib.itoa (t.length : Int) ++ 58 :: (t ++ [44])) ++ numS (sumL t : Int) ++ y = (Lib.itoa (t.length : Int) ++ [58]) ++ (t ++ ([44] ++ (numS (sumL t : Int) ++ y))) := by simp
  have e2 : (Lib.itoa (u.length : Int) ++ 58 :: (u ++ [44])) ++ numS (sumL u : Int) ++ z = Lib.itoa (u.length : Int) ++ 58 :: (u ++ ([44] ++ (numS (sumL u : Int) ++ z))) := by simp
  rw [e1, e2] at h
  obtain ⟨z1, h1, h2⟩ := tz_solid _ _ _ (fun c hc => by
    rcases List.mem_append.1 hc with hc | hc
    · exact itoa_solid _ c hc
    · simp at hc; rw [hc]; decide) h
  have n1 := Cod.naturalF_write (t.length : Int) 58 z1 false (Cod.isInt_len (by omega)) (by omega) Cod.noNum58
  have n2 := Cod.naturalF_write (u.length : Int) 58 (u ++ ([44] ++ (numS (sumL u : Int) ++ z))) false (Cod.isInt_len (by omega)) (by omega) Cod.noNum58
  rw [h1, List.append_assoc, show [58] ++ z1 = 58 :: z1 from rfl, n1] at n2
  simp only [Prod.mk.injEq, Int.natCast_inj, and_true] at n2
  obtain ⟨hl, hz⟩ := n2
  rw [hz] at h2
  obtain ⟨h3, h4⟩ := tz_part _ _ _ _ hl h2
  obtain ⟨-, h5⟩ := tz_part [44] [44] _ _ rfl h4
  obtain ⟨z2, h6, h7⟩ := tz_solid (numS (sumL t : Int)) _ _ (fun c hc => by
    rw [numS_eq] at hc
    rcases List.mem_append.1 hc with hc | hc
    · exact itoa_solid _ c hc
    · simp at hc; rw [hc]; decide) h5
  have m1 := Cod.numF_write (sumL t : Int) z2 false (sum_isInt t (by omega)) (by omega)
  have m2 := Cod.numF_write (sumL u : Int) z false (sum_isInt u (by omega)) (by omega)
  rw [h6, m1] at m2
  simp only [Prod.mk.injEq, Int.natCast_inj] at m2
  exact (tz_sum t u 0 hl h3).2 m2.1

theorem tz_drop_form {u x z : List UInt8} (h : tz (formL u ++ x) (formL u ++ z)) : tz x z := (tz_part _ _ _ _ rfl h).2

theorem tz_nil {x : List UInt8} (h : tz x []) : x = [] := by
  cases x with
  | nil => rfl
  | cons a x => exact h.elim

/-- WHAT IS READ OF A TORN STRING: the records ahead of the first one that is damaged. -/
theorem torn_recs : ∀ (L : List (List UInt8)) (x : List UInt8), (∀ u ∈ L, u.length ≤ 20000) → tz x (forms L) →
    ∃ m, m ≤ L.length ∧ recs x = L.take m ∧ ∀ k, k ≤ L.length → (∃ y, x = forms (L.take k) ++ y) → k ≤ m
  | [], x, _, h => by
    have hx := tz_nil h
    subst hx
    exact ⟨0, Nat.le_refl _, by have := recs_forms [] (by simp); simpa [forms] using this, fun k hk _ => hk⟩
  | u :: L, x, hL, h => by
    have hu := hL u (List.mem_cons_self ..)
    by_cases hx : ∃ x', x = formL u ++ x'
    · obtain ⟨x', rfl⟩ := hx
      rw [forms_cons] at h
      obtain ⟨m, h1, h2, h3⟩ := torn_recs L x' (fun v hv => hL v (List.mem_cons_of_mem _ hv)) (tz_drop_form h)
      refine ⟨m + 1, by simpa using h1, ?_, ?_⟩
      · unfold recs
        rw [recsR_form u x' hu, List.take_succ_cons, ← h2]
        rfl
      · rintro k hk ⟨y, hy⟩
        cases k with
        | zero => omega
        | succ k =>
          have := h3 k (by simpa using hk) ⟨y, by
            rw [List.take_succ_cons, forms_cons, List.append_assoc] at hy
            exact List.append_cancel_left hy⟩
          omega
    · have hn : recOk (x, false) = false := by
        cases hr : recOk (x, false) with
        | false => rfl
        | true =>
          exfalso
          obtain ⟨_, h2, _, h4⟩ := rec_shape hr
          apply hx
          rw [forms_cons] at h
          have h5 : x = formL (textF (x, false)).1 ++ (numF (textF (x, false)).2).2.1 := h4
          rw [h5] at h
          exact ⟨_, by rw [← torn_form h2 hu h]; exact h5⟩
      refine ⟨0, by simp, ?_, ?_⟩
      · unfold recs recsR
        rw [recsF, if_neg (by rw [hn]; simp)]
        rfl
      · rintro k hk ⟨y, hy⟩
        cases k with
        | zero => exact Nat.le_refl _
        | succ k =>
          exfalso
          apply hx
          rw [List.take_succ_cons, forms_cons, List.append_assoc] at hy
          exact ⟨_, hy⟩

end Go.Proofs.YtanecondopbfhaaGreatDoor
