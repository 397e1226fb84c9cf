/- BaseTorn in plain terms: zeros, a string that is cut, and what is read of it. -/
import Derived.Test.YtanecondopbfhaaGreatDoorJsane
namespace Go.Proofs.YtanecondopbfhaaGreatDoor

/-- The first i bytes are zapped. -/
def zapTo (s : List UInt8) (z : List Int) (i : Nat) : List UInt8 := (List.range s.length).map fun p => if p < i ∧ odd z (p / 64) = true then 0 else s.getD p 0

theorem zapTo_length (s : List UInt8) (z : List Int) (i : Nat) : (zapTo s z i).length = s.length := by simp [zapTo]

theorem zapTo_get (s : List UInt8) (z : List Int) (i p : Nat) (hp : p < s.length) : (zapTo s z i)[p]'(by rw [zapTo_length]; exact hp) = if p < i ∧ odd z (p / 64) = true then 0 else s.getD p 0 := by
  unfold zapTo
  simp

theorem zapTo_zero (s : List UInt8) (z : List Int) : zapTo s z 0 = s := by
  refine List.ext_getElem (zapTo_length _ _ _) fun p h1 h2 => ?_
  rw [zapTo_get s z 0 p h2, if_neg (by omega), List.getD_eq_getElem?_getD, List.getElem?_eq_getElem h2]
  rfl

theorem zapTo_hit (s : List UInt8) (z : List Int) (i : Nat) (h : odd z (i / 64) = true) : zapTo s z (i + 1) = (zapTo s z i).set i 0 := by
  refine List.ext_getElem (by simp [zapTo_length]) fun p h1 h2 => ?_
  rw [zapTo_length] at h1
  rw [zapTo_get s z _ p h1, List.getElem_set]
  by_cases e : i = p
  · subst e
    rw [if_pos ⟨by omega, h⟩, if_pos rfl]
  · rw [if_neg e, zapTo_get s z i p h1]
    by_cases h3 : p < i ∧ odd z (p / 64) = true
    · rw [if_pos h3, if_pos ⟨by omega, h3.2⟩]
    · rw [if_neg h3, if_neg (fun h4 => h3 ⟨by omega, h4.2⟩)]

theorem zapTo_miss (s : List UInt8) (z : List Int) (i : Nat) (h : odd z (i / 64) = false) : zapTo s z (i + 1) = zapTo s z i := by
  unfold zapTo
  refine List.map_congr_left fun p _ => ?_
  by_cases e : p = i
  · subst e
    rw [if_neg (fun h4 => by rw [h] at h4; exact absurd h4.2 (by simp)), if_neg (by omega)]
  · by_cases h3 : p < i ∧ odd z (p / 64) = true
    · rw [if_pos h3, if_pos ⟨by omega, h3.2⟩]
    · rw [if_neg h3, if_neg (fun h4 => h3 ⟨by omega, h4.2⟩)]

theorem zapTo_nil (s : List UInt8) (i : Nat) : zapTo s [] i = s := by
  refine List.ext_getElem (zapTo_length _ _ _) fun p h1 h2 => ?_
  rw [zapTo_get s [] i p h2, if_neg (fun h => by have := h.2; simp [odd] at this), List.getD_eq_getElem?_getD, List.getElem?_eq_getElem h2]
  rfl

/-- The string that is written. -/
def tornL (s : List UInt8) (z : List Int) (n : Nat) : List UInt8 := (zapTo s z s.length).take n

theorem torn_tz (s : List UInt8) (z : List Int) (n : Nat) : tz (tornL s z n) s := by
  refine tz_of _ _ (by simp [tornL, zapTo_length]; omega) fun i hi => ?_
  have hs : i < s.length := by simp [tornL, zapTo_length] at hi; omega
  have h1 : (tornL s z n).getD i 0 = (zapTo s z s.length)[i]'(by rw [zapTo_length]; exact hs) := by
    rw [List.getD_eq_getElem?_getD, List.getElem?_eq_getElem hi]
    simp [tornL]
  rw [h1, zapTo_get s z _ i hs]
  by_cases h : i < s.length ∧ odd z (i / 64) = true
  · rw [if_pos h]; exact Or.inr rfl
  · rw [if_neg h]; exact Or.inl rfl

/-- The first k forms stand there whole. -/
def whole (l : List (List UInt8)) (x : List UInt8) (k : Nat) : Prop := (forms (l.take k)).length ≤ x.length ∧ x.take (forms (l.take k)).length = (forms l).take (forms (l.take k)).length

theorem forms_take (l : List (List UInt8)) (k : Nat) : (forms l).take (forms (l.take k)).length = forms (l.take k) := by
  have h : forms l = forms (l.take k) ++ forms (l.drop k) := by rw [← forms_append, List.take_append_drop]
  exact (congrArg (List.take (forms (l.take k)).length) h).trans List.take_left

theorem whole_iff {l : List (List UInt8)} {x : List UInt8} {k : Nat} : whole l x k ↔ ∃ y, x = forms (l.take k) ++ y := by
  unfold whole
  rw [forms_take]
  constructor
  · rintro ⟨h1, h2⟩
    exact ⟨x.drop (forms (l.take k)).length, by have h := List.take_append_drop (forms (l.take k)).length x; rw [h2] at h; exact h.symm⟩
  · rintro ⟨y, rfl⟩
    exact ⟨by simp, List.take_left⟩

theorem whole_le {l : List (List UInt8)} {x : List UInt8} {k m : Nat} (h : whole l x m) (hk : k ≤ m) : whole l x k := by
  rw [whole_iff] at h ⊢
  obtain ⟨y, rfl⟩ := h
  refine ⟨forms ((l.take m).drop k) ++ y, ?_⟩
  rw [← List.append_assoc, ← forms_append, show l.take k = (l.take m).take k by rw [List.take_take, Nat.min_eq_left hk], List.take_append_drop]

theorem torn_many {l : List (List UInt8)} {x : List UInt8} (hl : ∀ u ∈ l, u.length ≤ 20000) (hx : tz x (forms l)) {n : Nat} (hn : n ≤ l.length) (h1 : whole l x n) (h2 : n < l.length → ¬ whole l x (n + 1)) : recs x = l.take n := by
  obtain ⟨m, hm, hr, hmax⟩ := torn_recs l x hl hx
  have hwm : whole l x m := by
    rw [whole_iff, ← hr]
    exact ⟨_, (recs_shape x).1⟩
  have h3 := hmax n hn (whole_iff.1 h1)
  have h4 : m ≤ n := by
    refine Nat.le_of_not_lt fun hlt => h2 (by omega) (whole_le hwm (by omega))
  rw [hr, Nat.le_antisymm h4 h3]

theorem whole_zero (l : List (List UInt8)) (x : List UInt8) : whole l x 0 := by
  rw [whole_iff]; exact ⟨x, by simp [forms]⟩

theorem take_snoc (l : List (List UInt8)) (k : Nat) (hk : k < l.length) : l.take (k + 1) = l.take k ++ [l[k]] := List.take_succ_eq_append_getElem hk

/-- How long eight forms are. -/
theorem forms_le : ∀ (l : List (List UInt8)), (∀ u ∈ l, u.length ≤ 20000) → (forms l).length ≤ l.length * 20043
  | [], _ => by simp [forms]
  | a :: l, h => by
    have h1 := forms_le l (fun u hu => h u (List.mem_cons_of_mem _ hu))
    have h2 := h a (List.mem_cons_self ..)
    have h3 := form_len a h2
    rw [forms_cons, List.length_append, List.length_cons]
    omega

end Go.Proofs.YtanecondopbfhaaGreatDoor
