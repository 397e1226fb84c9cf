/- What a file of a journal holds, whatever happens: plain facts for BaseLasts and BaseRecovers. -/
import Derived.Test.YtanecondopbfhaaGreatDoorTorn
namespace Go.Proofs.YtanecondopbfhaaGreatDoor

/-- The file f holds the forms of A, perhaps with zeros and cut off; the forms of the first k records are whole, and durable. -/
structure Good (d : Dk) (f : Nat) (A : List (List UInt8)) (k : Nat) : Prop where
  kA : k ≤ A.length
  F : ∀ p, d.F.B f p = (forms A).getD p 0 ∨ d.F.B f p = 0
  D : ∀ p, d.D.B f p = (forms A).getD p 0 ∨ d.D.B f p = 0
  sz : d.F.sz f ≤ (forms A).length
  kF : ∀ p, p < (forms (A.take k)).length → d.F.B f p = (forms A).getD p 0
  kD : ∀ p, p < (forms (A.take k)).length → d.D.B f p = (forms A).getD p 0
  kz : (forms (A.take k)).length ≤ d.D.sz f

theorem Good.with_ {d e : Dk} {f : Nat} {A : List (List UInt8)} {k : Nat} (h : Good d f A k) (hF : e.F = d.F) (hD : e.D = d.D) : Good e f A k :=
  ⟨h.kA, by rw [hF]; exact h.F, by rw [hD]; exact h.D, by rw [hF]; exact h.sz, by rw [hF]; exact h.kF, by rw [hD]; exact h.kD, by rw [hD]; exact h.kz⟩

theorem Good.crash {d : Dk} {f : Nat} {A : List (List UInt8)} {k : Nat} (h : Good d f A k) (hk : d.Ok) (keep : List Int) : Good (d.crash keep) f A k := by
  rw [Dk.crash]
  split
  · exact h
  · have hz := left_sz hk keep f
    have hB : ∀ p, (d.left keep).B f p = d.F.B f p ∨ (d.left keep).B f p = d.D.B f p := by
      intro p
      rw [left_B]
      split
      · exact Or.inl rfl
      · exact Or.inr rfl
    have hA : ∀ p, (d.left keep).B f p = (forms A).getD p 0 ∨ (d.left keep).B f p = 0 := by
      intro p
      rcases hB p with e | e
      · rw [e]; exact h.F p
      · rw [e]; exact h.D p
    have hK : ∀ p, p < (forms (A.take k)).length → (d.left keep).B f p = (forms A).getD p 0 := by
      intro p hp
      rcases hB p with e | e
      · rw [e]; exact h.kF p hp
      · rw [e]; exact h.kD p hp
    exact ⟨h.kA, hA, hA, Nat.le_trans hz.2 h.sz, hK, hK, Nat.le_trans h.kz hz.1⟩

theorem Good.fin {d : Dk} {f : Nat} {A : List (List UInt8)} {k : Nat} (h : Good d f A k) (hk : d.Ok) (e : Int) : Good (d.fin e).1 f A k := by
  rw [Dk.fin]
  split
  · exact h
  · split
    · exact Good.crash (d := { d with calls := 0 }) (h.with_ rfl rfl) (hk.with_ rfl rfl rfl) _
    · exact h.with_ rfl rfl

theorem text_getD (m : Img) (f p : Nat) (hp : p < m.sz f) : (m.text f).getD p 0 = m.B f p := by
  rw [List.getD_eq_getElem?_getD, List.getElem?_eq_getElem (by rw [Img.text_length]; exact hp)]
  simp [Img.text, Img.read]

theorem forms_pre (A : List (List UInt8)) (k : Nat) : forms A = forms (A.take k) ++ forms (A.drop k) := by rw [← forms_append, List.take_append_drop]

theorem getD_pre {a b : List UInt8} {p : Nat} (hp : p < a.length) : (a ++ b).getD p 0 = a.getD p 0 := by
  rw [List.getD_eq_getElem?_getD, List.getD_eq_getElem?_getD, List.getElem?_append_left hp]

/-- A file that holds all forms, and is durable. -/
theorem good_all {d : Dk} {f : Nat} {A : List (List UInt8)} (hk : d.Ok) (hs : d.Still f (forms A)) : Good d f A A.length := by
  have hz : d.F.sz f = (forms A).length := by rw [← hs.text, Img.text_length]
  have hB : ∀ p, d.F.B f p = (forms A).getD p 0 := by
    intro p
    by_cases hp : p < d.F.sz f
    · rw [← hs.text, text_getD _ _ _ hp]
    · rw [hk.zF f p (by omega), List.getD_eq_getElem?_getD, List.getElem?_eq_none (by omega)]
      rfl
  have hD : ∀ p, d.D.B f p = (forms A).getD p 0 := fun p => by rw [← hs.same]; exact hB p
  exact ⟨Nat.le_refl _, fun p => Or.inl (hB p), fun p => Or.inl (hD p), by omega, fun p _ => hB p, fun p _ => hD p, by rw [List.take_length, ← hz, hs.size]; exact Nat.le_refl _⟩

/-- A record is written at the end. -/
theorem Good.add {d : Dk} {f : Nat} {A : List (List UInt8)} {k : Nat} (h : Good d f A k) (hk : d.Ok) (ht : d.F.text f = forms A) (s : List UInt8) : Good (d.add f (forms A).length (formL s)) f (A ++ [s]) k := by
  have hz : d.F.sz f = (forms A).length := by rw [← ht, Img.text_length]
  have ek : (A ++ [s]).take k = A.take k := List.take_append_of_le_length h.kA
  have hlen := forms_snoc A s
  have hkA : (forms (A.take k)).length ≤ (forms A).length := by
    have := congrArg List.length (forms_pre A k)
    rw [List.length_append] at this; omega
  have hpre : ∀ p, p < (forms A).length → (forms (A ++ [s])).getD p 0 = (forms A).getD p 0 := fun p hp => by rw [hlen]; exact getD_pre hp
  have hFB : ∀ p, (d.add f (forms A).length (formL s)).F.B f p = if (forms A).length ≤ p ∧ p < (forms A).length + (formL s).length then (formL s).getD (p - (forms A).length) 0 else d.F.B f p := by
    intro p
    show (if f = f ∧ (forms A).length ≤ p ∧ p < (forms A).length + (formL s).length then _ else _) = _
    simp
  have hold : ∀ p, p < (forms A).length → (d.add f (forms A).length (formL s)).F.B f p = d.F.B f p := fun p hp => by rw [hFB, if_neg (by omega)]
  refine ⟨by rw [List.length_append]; have := h.kA; omega, fun p => ?_, fun p => ?_, ?_, fun p hp => ?_, fun p hp => ?_, ?_⟩
  · by_cases hp : p < (forms A).length
    · rw [hold p hp, hpre p hp]; exact h.F p
    · rw [hFB]
      by_cases hp2 : p < (forms A).length + (formL s).length
      · rw [if_pos ⟨by omega, hp2⟩, hlen]
        refine Or.inl ?_
        rw [List.getD_eq_getElem?_getD, List.getD_eq_getElem?_getD, List.getElem?_append_right (by omega)]
      · rw [if_neg (by omega)]
        exact Or.inr (hk.zF f p (by omega))
  · by_cases hp : p < (forms A).length
    · rw [hpre p hp]; exact h.D p
    · exact Or.inr (hk.zD f p (by have := hk.le f; omega))
  · show (if f = f then max (d.F.sz f) ((forms A).length + (formL s).length) else d.F.sz f) ≤ _
    rw [if_pos rfl, hlen, List.length_append]
    omega
  · rw [ek] at hp
    rw [hold p (by omega), hpre p (by omega)]; exact h.kF p hp
  · rw [ek] at hp
    rw [hpre p (by omega)]; exact h.kD p hp
  · rw [ek]; exact h.kz

theorem Good.settle {d : Dk} {f : Nat} {A : List (List UInt8)} {k : Nat} (h : Good d f A k) (hk : d.Ok) : Good (d.settle f) f A k := by
  obtain ⟨_, hB, hS⟩ := hk.settle f
  refine ⟨h.kA, h.F, fun p => by rw [hB]; exact h.F p, h.sz, h.kF, fun p hp => by rw [hB]; exact h.kF p hp, ?_⟩
  rw [hS]
  exact Nat.le_trans h.kz (hk.le f)

/-- What is read of the file. -/
theorem Good.read {d : Dk} {f : Nat} {A : List (List UInt8)} {k : Nat} (h : Good d f A k) (hk : d.Ok) (hA : ∀ u ∈ A, u.length ≤ 20000) : ∃ m, k ≤ m ∧ m ≤ A.length ∧ recs (d.F.text f) = A.take m := by
  have hl := Img.text_length d.F f
  have ht : tz (d.F.text f) (forms A) := tz_of _ _ (by rw [hl]; exact h.sz) (fun i hi => by
    rw [hl] at hi
    rw [text_getD _ _ _ hi]
    exact h.F i)
  obtain ⟨m, h1, h2, h3⟩ := torn_recs A (d.F.text f) hA ht
  refine ⟨m, h3 k h.kA ?_, h1, h2⟩
  have hkz : (forms (A.take k)).length ≤ d.F.sz f := Nat.le_trans h.kz (hk.le f)
  refine ⟨(d.F.text f).drop (forms (A.take k)).length, ?_⟩
  have e : (d.F.text f).take (forms (A.take k)).length = forms (A.take k) := by
    refine List.ext_getElem (by rw [List.length_take, hl]; omega) fun i h4 h5 => ?_
    have h6 : i < d.F.sz f := by omega
    have h7 := h.kF i h5
    have h8 := text_getD d.F f i h6
    rw [h7, forms_pre A k, getD_pre h5, List.getD_eq_getElem?_getD, List.getD_eq_getElem?_getD, List.getElem?_eq_getElem h5, List.getElem?_eq_getElem (by rw [hl]; exact h6)] at h8
    rw [List.getElem_take]
    exact h8
  have h9 := List.take_append_drop (forms (A.take k)).length (d.F.text f)
  rw [e] at h9
  exact h9.symm

end Go.Proofs.YtanecondopbfhaaGreatDoor
