/- ProofEncodes, plainly: what Decode reads of what Encode writes, and the other way round. -/
import Derived.Test.YthnkfjjgccabeaaGreatDoorDecA
namespace Go.Proofs.YthnkfjjgccabeaaGreatDoor

/-! ### reading what was written -/
theorem nextF_ok {r : List Int × Bool} (h : (nextF r).2.2 = false) : r.2 = false ∧ r.1 = (nextF r).1 :: (nextF r).2.1 := by
  obtain ⟨l, f⟩ := r
  cases l with
  | nil => simp [nextF] at h
  | cons x t => exact ⟨h, rfl⟩
theorem countF_no {r : List Int × Bool} (h : (countF r).2.2 = false) : r.2 = false ∧ r.1 = (countF r).1 :: (countF r).2.1 := by
  by_cases hn : (nextF r).1 < 0 ∨ ((nextF r).2.1.length : Int) < (nextF r).1
  · rw [countF, if_pos hn] at h; cases h
  · rw [countF, if_neg hn] at h ⊢; exact nextF_ok h
theorem cutF_no {r : List Int × Bool} (h : (cutF r).2.2 = false) : r.2 = false ∧ r.1 = ((cutF r).1.length : Int) :: ((cutF r).1 ++ (cutF r).2.1) := by
  have h' : (countF r).2.2 = false := h
  obtain ⟨h1, h2⟩ := countF_no h'
  obtain ⟨h3, h4⟩ := countF_ok r
  refine ⟨h1, h2.trans ?_⟩
  unfold cutF
  simp only [List.take_append_drop, List.length_take, List.cons.injEq, and_true]
  omega
theorem innerF_no : ∀ (n : Nat) (r : List Int × Bool), (innerF n r).2.2 = false →
    r.2 = false ∧ r.1 = encD (innerF n r).1.1 (innerF n r).1.2 ++ (innerF n r).2.1 ∧ (innerF n r).1.1.length = n ∧ (innerF n r).1.2.length = n
  | 0, r, h => ⟨h, rfl, rfl, rfl⟩
  | n + 1, r, h => by
    obtain ⟨h1, h2, h3, h4⟩ := innerF_no n (cutF (nextF r).2).2 h
    obtain ⟨h5, h6⟩ := cutF_no h1
    obtain ⟨h7, h8⟩ := nextF_ok h5
    refine ⟨h7, ?_, by simp only [innerF, List.length_cons, h3], by simp only [innerF, List.length_cons, h4]⟩
    rw [h8, h6, h2]
    simp only [innerF, encD, List.cons_append, List.append_assoc]
theorem rowF_no {r : List Int × Bool} (h : (rowF r).2.2 = false) : r.2 = false ∧ r.1 = ((rowF r).1.1.length : Int) :: (encD (rowF r).1.1 (rowF r).1.2 ++ (rowF r).2.1) ∧ (rowF r).1.1.length = (rowF r).1.2.length := by
  obtain ⟨h1, h2, h3, h4⟩ := innerF_no _ _ h
  obtain ⟨h5, h6⟩ := countF_no h1
  obtain ⟨h7, -⟩ := countF_ok r
  refine ⟨h5, h6.trans ?_, by unfold rowF; omega⟩
  unfold rowF
  rw [← h2, h3]
  congr 1
  omega
theorem outerF_no : ∀ (n : Nat) (r : List Int × Bool), (outerF n r).2.2 = false →
    r.2 = false ∧ r.1 = encP (outerF n r).1.1 (outerF n r).1.2 ++ (outerF n r).2.1 ∧ (outerF n r).1.1.length = n ∧ shapeB (outerF n r).1.1 (outerF n r).1.2 = true
  | 0, r, h => ⟨h, rfl, rfl, rfl⟩
  | n + 1, r, h => by
    obtain ⟨h1, h2, h3, h4⟩ := outerF_no n (rowF r).2 h
    obtain ⟨h5, h6, h7⟩ := rowF_no h1
    refine ⟨h5, ?_, by simp only [outerF, List.length_cons, h3], by simp only [outerF, shapeB, Bool.and_eq_true, decide_eq_true_eq]; exact ⟨h7, h4⟩⟩
    rw [h6, h2]
    simp only [outerF, encP, List.cons_append, List.append_assoc]
theorem tabF_no {r : List Int × Bool} (h : (tabF r).2.2 = false) : r.2 = false ∧ r.1 = (ProofD.mk (tabF r).1.1 (tabF r).1.2).encF ++ (tabF r).2.1 ∧ (ProofD.mk (tabF r).1.1 (tabF r).1.2).shape = true := by
  obtain ⟨h1, h2, h3, h4⟩ := outerF_no _ _ h
  obtain ⟨h5, h6⟩ := countF_no h1
  obtain ⟨h7, -⟩ := countF_ok r
  refine ⟨h5, h6.trans ?_, h4⟩
  unfold ProofD.encF tabF
  simp only [List.cons_append]
  rw [← h2, h3]
  congr 1
  omega
theorem cutF_back (a m : List Int) (f : Bool) : cutF ((a.length : Int) :: (a ++ m), f) = (a, (m, f)) := by
  have h : countF ((a.length : Int) :: (a ++ m), f) = ((a.length : Int), (a ++ m, f)) := by
    unfold countF
    simp only [nextF, List.length_append]
    rw [if_neg (by omega)]
  unfold cutF
  rw [h]
  simp
theorem innerF_back : ∀ (ds : List Int) (l : List (List Int)) (m : List Int), ds.length = l.length → innerF ds.length (encD ds l ++ m, false) = ((ds, l), (m, false))
  | [], [], m, _ => rfl
  | d :: ds, a :: l, m, h => by
    have ih := innerF_back ds l m (by simpa using h)
    have hc := cutF_back a (encD ds l ++ m) false
    simp only [List.length_cons, innerF, encD, List.cons_append, List.append_assoc, nextF]
    rw [hc, ih]
  | [], _ :: _, m, h => by simp at h
  | _ :: _, [], m, h => by simp at h
theorem encD_len : ∀ (ds : List Int) (l : List (List Int)), ds.length = l.length → ds.length ≤ (encD ds l).length
  | [], [], _ => Nat.le_refl _
  | d :: ds, a :: l, h => by
    have := encD_len ds l (by simpa using h)
    simp only [encD, List.length_cons, List.length_append]
    omega
  | [], _ :: _, h => by simp at h
  | _ :: _, [], h => by simp at h
theorem rowF_back (ds : List Int) (l : List (List Int)) (m : List Int) (h : ds.length = l.length) : rowF ((ds.length : Int) :: (encD ds l ++ m), false) = ((ds, l), (m, false)) := by
  have hc : countF ((ds.length : Int) :: (encD ds l ++ m), false) = ((ds.length : Int), (encD ds l ++ m, false)) := by
    have := encD_len ds l h
    unfold countF
    simp only [nextF, List.length_append]
    rw [if_neg (by omega)]
  unfold rowF
  rw [hc]
  exact innerF_back ds l m h
theorem outerF_back : ∀ (x : List (List Int)) (y : List (List (List Int))) (m : List Int), shapeB x y = true → outerF x.length (encP x y ++ m, false) = ((x, y), (m, false))
  | [], [], m, _ => rfl
  | d :: ds, a :: l, m, h => by
    simp only [shapeB, Bool.and_eq_true, decide_eq_true_eq] at h
    have ih := outerF_back ds l m h.2
    have hc := rowF_back d a (encP ds l ++ m) h.1
    simp only [List.length_cons, outerF, encP, List.cons_append, List.append_assoc]
    rw [hc, ih]
  | [], _ :: _, m, h => by simp [shapeB] at h
  | _ :: _, [], m, h => by simp [shapeB] at h
theorem encP_len : ∀ (x : List (List Int)) (y : List (List (List Int))), shapeB x y = true → x.length ≤ (encP x y).length
  | [], [], _ => Nat.le_refl _
  | d :: ds, a :: l, h => by
    simp only [shapeB, Bool.and_eq_true, decide_eq_true_eq] at h
    have := encP_len ds l h.2
    simp only [encP, List.length_cons, List.length_append]
    omega
  | [], _ :: _, h => by simp [shapeB] at h
  | _ :: _, [], h => by simp [shapeB] at h
theorem tabF_back (p : ProofD) (h : p.shape = true) : tabF (p.encF, false) = ((p.dares, p.answers), ([], false)) := by
  have hc : countF (p.encF, false) = ((p.dares.length : Int), (encP p.dares p.answers, false)) := by
    have := encP_len p.dares p.answers h
    unfold ProofD.encF countF
    exact if_neg (by simp only [nextF]; omega)
  have := outerF_back p.dares p.answers [] h
  rw [List.append_nil] at this
  unfold tabF
  rw [hc]
  exact this
theorem loopF_int : ∀ (n : Nat) (r : Cod.Rd), ∀ x ∈ (Cod.loopF Cod.intF n r).1, Cod.isInt x := by
  intro n
  induction n with
  | zero => intro r x hx; simp [Cod.loopF] at hx
  | succ n ih =>
    intro r x hx
    unfold Cod.loopF at hx
    split at hx
    · simp at hx
    · rcases List.mem_cons.1 hx with rfl | h
      · exact Cod.intF_int r
      · exact ih _ x h
theorem numsF_int (r : Cod.Rd) : ∀ x ∈ (Cod.numsF r).1, Cod.isInt x := by
  intro x hx
  unfold Cod.numsF Cod.listF at hx
  simp only at hx
  split at hx
  · cases hx
  · exact loopF_int _ _ x hx
theorem decF_back (p : ProofD) (hs : p.shape = true) (hi : ∀ x ∈ p.encF, Cod.isInt x) (hl : p.encF.length ≤ 9223372036854775807) : decF (Cod.numsS p.encF) = some p := by
  have h := Cod.numsF_write p.encF [] hi hl
  rw [List.append_nil] at h
  unfold decF
  rw [h]
  simp [Cod.doneF, tabF_back p hs]
theorem decF_is {s : List UInt8} {p : ProofD} (h : decF s = some p) : p.shape = true ∧ Cod.numsS p.encF = s ∧ (∀ x ∈ p.encF, Cod.isInt x) ∧ p.encF.length ≤ s.length := by
  unfold decF at h
  split at h
  · rename_i h1
    split at h
    · cases h
    · rename_i h2
      obtain rfl := Option.some.inj h
      simp only [not_or, Bool.not_eq_true, Nat.not_lt, Nat.le_zero_eq] at h2
      obtain ⟨-, h3, h4⟩ := tabF_no h2.1
      rw [List.eq_nil_of_length_eq_zero h2.2, List.append_nil] at h3
      simp only at h3
      refine ⟨h4, ?_, ?_, ?_⟩
      · rw [← h3]
        unfold Cod.doneF at h1
        simp only [Bool.and_eq_true, Bool.not_eq_true', List.isEmpty_iff] at h1
        obtain ⟨-, h5⟩ := Cod.numsF_read h1.1
        rw [h1.2, List.append_nil] at h5
        exact h5.symm
      · rw [← h3]; exact numsF_int _
      · rw [← h3]; exact numsF_count (s, false)
  · cases h

/-! ### sizes -/
theorem nums_len : ∀ (l : List Int), (∀ x ∈ l, Cod.isInt x) → (l.flatMap Cod.intS).length ≤ 21 * l.length
  | [], _ => by simp
  | x :: l, h => by
    have h1 := Cod.intS_len x (h x (by simp))
    have h2 := nums_len l fun y hy => h y (by simp [hy])
    simp only [List.flatMap_cons, List.length_append, List.length_cons]
    omega
theorem numsS_len (l : List Int) (h : ∀ x ∈ l, Cod.isInt x) (hl : l.length ≤ 1000000) : (Cod.numsS l).length ≤ 21 * l.length + 22 := by
  have h1 := nums_len l h
  have h2 := Cod.itoa_len (l.length : Int) (Cod.isInt_len (by omega))
  simp only [Cod.numsS, List.length_append, List.length_cons, List.length_nil]
  omega
theorem shape_sizes : ∀ (x : List (List Int)) (y : List (List (List Int))), shapeB x y = true →
    (∀ d ∈ x, d.length ≤ (encP x y).length) ∧ (∀ a ∈ y, a.length ≤ (encP x y).length ∧ ∀ b ∈ a, b.length ≤ (encP x y).length)
  | [], [], _ => ⟨by simp, by simp⟩
  | d :: ds, a :: l, h => by
    simp only [shapeB, Bool.and_eq_true, decide_eq_true_eq] at h
    obtain ⟨h1, h2⟩ := shape_sizes ds l h.2
    have h3 := encD_len d a h.1
    have h4 : ∀ (d : List Int) (a : List (List Int)), d.length = a.length → ∀ b ∈ a, b.length ≤ (encD d a).length := by
      intro d a
      induction d generalizing a with
      | nil => intro e b hb; cases a with
        | nil => cases hb
        | cons _ _ => simp at e
      | cons z d ih => intro e b hb; cases a with
        | nil => cases hb
        | cons c a =>
          simp only [encD, List.length_cons, List.length_append]
          rcases List.mem_cons.1 hb with rfl | hb
          · omega
          · have := ih a (by simpa using e) b hb; omega
    simp only [encP, List.length_cons, List.length_append]
    refine ⟨fun z hz => ?_, fun z hz => ?_⟩
    · rcases List.mem_cons.1 hz with rfl | hz
      · omega
      · have := h1 z hz; omega
    · rcases List.mem_cons.1 hz with rfl | hz
      · exact ⟨by omega, fun b hb => by have := h4 d z h.1 b hb; omega⟩
      · exact ⟨by have := (h2 z hz).1; omega, fun b hb => by have := (h2 z hz).2 b hb; omega⟩
  | [], _ :: _, h => by simp [shapeB] at h
  | _ :: _, [], h => by simp [shapeB] at h
theorem ok_of_shape (p : ProofD) (h : p.shape = true) (hl : p.encF.length ≤ 1000000) : p.ok := by
  obtain ⟨h1, h2⟩ := shape_sizes p.dares p.answers h
  have h3 := encP_len p.dares p.answers h
  have h4 := shapeB_len p.dares p.answers h
  unfold ProofD.encF at hl
  rw [List.length_cons] at hl
  refine ⟨⟨by unfold okL; omega, fun x hx => by have := h1 x hx; unfold okL; omega⟩, ⟨by unfold okL; omega, fun x hx => ⟨by have := (h2 x hx).1; unfold okL; omega, fun z hz => by have := (h2 x hx).2 z hz; unfold okL; omega⟩⟩⟩
/-- What the law draws. -/
def fewD (p : ProofD) : Prop := (p.dares.length ≤ 6 ∧ ∀ d ∈ p.dares, d.length ≤ 8) ∧ (p.answers.length ≤ 6 ∧ ∀ a ∈ p.answers, a.length ≤ 6 ∧ ∀ b ∈ a, b.length ≤ 8)
theorem encD_few : ∀ (ds : List Int) (l : List (List Int)), (∀ b ∈ l, b.length ≤ 8) → (encD ds l).length ≤ 10 * l.length
  | [], _, _ => by simp [encD]
  | _ :: _, [], _ => by simp [encD]
  | d :: ds, a :: l, h => by
    have := encD_few ds l fun b hb => h b (by simp [hb])
    have := h a (by simp)
    simp only [encD, List.length_cons, List.length_append]
    omega
theorem encP_few : ∀ (x : List (List Int)) (y : List (List (List Int))), (∀ a ∈ y, a.length ≤ 6 ∧ ∀ b ∈ a, b.length ≤ 8) → (encP x y).length ≤ 61 * y.length
  | [], _, _ => by simp [encP]
  | _ :: _, [], _ => by simp [encP]
  | d :: ds, a :: l, h => by
    have h1 := encP_few ds l fun b hb => h b (by simp [hb])
    have h2 := encD_few d a (h a (by simp)).2
    have h3 := (h a (by simp)).1
    simp only [encP, List.length_cons, List.length_append]
    omega
theorem encF_few (p : ProofD) (h : fewD p) : p.encF.length ≤ 400 := by
  have := encP_few p.dares p.answers h.2.2
  have := h.2.1
  unfold ProofD.encF
  rw [List.length_cons]
  omega
def ProofD.ints (p : ProofD) : Prop := (∀ d ∈ p.dares, ∀ x ∈ d, isInt x) ∧ (∀ a ∈ p.answers, ∀ b ∈ a, ∀ x ∈ b, isInt x)
theorem int_len {n : Nat} (h : n ≤ 100) : isInt (n : Int) := by unfold isInt; omega
theorem encD_ints : ∀ (ds : List Int) (l : List (List Int)), (∀ x ∈ ds, isInt x) → (∀ b ∈ l, b.length ≤ 8 ∧ ∀ x ∈ b, isInt x) → ∀ x ∈ encD ds l, isInt x
  | [], _, _, _, x, hx => by simp [encD] at hx
  | _ :: _, [], _, _, x, hx => by simp [encD] at hx
  | d :: ds, a :: l, h1, h2, x, hx => by
    simp only [encD, List.mem_cons, List.mem_append] at hx
    rcases hx with rfl | rfl | hx | hx
    · exact h1 _ (by simp)
    · exact int_len (by have := (h2 a (by simp)).1; omega)
    · exact (h2 a (by simp)).2 x hx
    · exact encD_ints ds l (fun z hz => h1 z (by simp [hz])) (fun z hz => h2 z (by simp [hz])) x hx
theorem encP_ints : ∀ (y : List (List Int)) (l : List (List (List Int))), (∀ d ∈ y, d.length ≤ 8 ∧ ∀ x ∈ d, isInt x) → (∀ a ∈ l, ∀ b ∈ a, b.length ≤ 8 ∧ ∀ x ∈ b, isInt x) → ∀ x ∈ encP y l, isInt x
  | [], _, _, _, x, hx => by simp [encP] at hx
  | _ :: _, [], _, _, x, hx => by simp [encP] at hx
  | d :: ds, a :: l, h1, h2, x, hx => by
    simp only [encP, List.mem_cons, List.mem_append] at hx
    rcases hx with rfl | hx | hx
    · exact int_len (by have := (h1 d (by simp)).1; omega)
    · exact encD_ints d a (h1 d (by simp)).2 (h2 a (by simp)) x hx
    · exact encP_ints ds l (fun z hz => h1 z (by simp [hz])) (fun z hz => h2 z (by simp [hz])) x hx
theorem encF_ints (p : ProofD) (h : fewD p) (hi : p.ints) : ∀ x ∈ p.encF, isInt x := by
  intro x hx
  unfold ProofD.encF at hx
  rcases List.mem_cons.1 hx with rfl | hx
  · exact int_len (by have := h.1.1; omega)
  · exact encP_ints _ _ (fun d hd => ⟨h.1.2 d hd, hi.1 d hd⟩) (fun a ha b hb => ⟨(h.2.2 a ha).2 b hb, hi.2 a ha b hb⟩) x hx
theorem ok_of_few (p : ProofD) (h : fewD p) : p.ok :=
  ⟨⟨by have := h.1.1; unfold okL; omega, fun x hx => by have := h.1.2 x hx; unfold okL; omega⟩, ⟨by have := h.2.1; unfold okL; omega, fun x hx => ⟨by have := (h.2.2 x hx).1; unfold okL; omega, fun z hz => by have := (h.2.2 x hx).2 z hz; unfold okL; omega⟩⟩⟩
end Go.Proofs.YthnkfjjgccabeaaGreatDoor
