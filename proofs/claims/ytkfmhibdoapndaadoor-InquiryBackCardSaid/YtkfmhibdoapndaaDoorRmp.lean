/- What readers read, plainly. -/
import Derived.Test.YtkfmhibdoapndaaDoorMin
namespace Go.Proofs.YtkfmhibdoapndaaDoor.Cod

theorem loopF_ok {α : Type} {one : Rd → α × Rd} (h : ∀ r, okRd r → okRd (one r).2) : ∀ (n : Nat) (r : Rd), okRd r → okRd (loopF one n r).2
  | 0, _, hr => hr
  | n + 1, r, hr => by
    unfold loopF
    split
    · exact hr
    · exact loopF_ok h n _ (h r hr)
theorem listF_ok {α : Type} {one : Rd → α × Rd} (h : ∀ r, okRd r → okRd (one r).2) (r : Rd) (hr : okRd r) : okRd (listF one r).2 := by
  have := closingF_ok (c := 93) (loopF_ok h (naturalF 91 r).1.toNat _ (naturalF_ok (c := 91) hr))
  unfold listF
  simp only
  split
  · exact this
  · exact this
theorem numsF_ok (r : Rd) (hr : okRd r) : okRd (numsF r).2 := listF_ok (fun _ h => digitsF_ok h) r hr
theorem loopF_len {α : Type} {one : Rd → α × Rd} (h : ∀ r, (one r).2.1.length ≤ r.1.length) : ∀ (n : Nat) (r : Rd), (loopF one n r).2.1.length ≤ r.1.length
  | 0, _ => Nat.le_refl _
  | n + 1, r => by
    unfold loopF
    split
    · exact Nat.le_refl _
    · exact Nat.le_trans (loopF_len h n _) (h r)
theorem numsF_len (r : Rd) : (numsF r).2.1.length ≤ r.1.length := by
  have h1 := loopF_len (one := intF) (fun r => digitsF_len 59 r) (naturalF 91 r).1.toNat (naturalF 91 r).2
  have h2 := naturalF_len 91 r
  have h3 := closingF_len 93 (loopF intF (naturalF 91 r).1.toNat (naturalF 91 r).2).2
  unfold numsF listF
  simp only
  split
  · simp only; omega
  · simp only; omega
theorem listF_fail {α : Type} (one : Rd → α × Rd) (r : Rd) (h : (listF one r).2.2 = true) : (listF one r).1 = [] := by
  unfold listF at h ⊢
  simp only at h ⊢
  split
  · rfl
  · rename_i hz
    rw [if_neg hz] at h
    exact absurd h hz
theorem numsF_enc (r : Rd) : (numsS (numsF r).1).length ≤ r.1.length + 30 := by
  cases h : (numsF r).2.2
  · have := congrArg List.length (numsF_read h).2
    rw [List.length_append] at this
    omega
  · rw [show (numsF r).1 = [] from listF_fail intF r h]
    have := itoa_len 0 (by unfold isInt; omega)
    unfold numsS
    simp
    omega
theorem flat_one {α : Type} (wr : α → List UInt8) (h : ∀ a, 1 ≤ (wr a).length) : ∀ (l : List α), l.length ≤ (l.flatMap wr).length
  | [] => by simp
  | a :: l => by
    have := flat_one wr h l
    have := h a
    simp only [List.flatMap_cons, List.length_append, List.length_cons]; omega
theorem numsF_many (r : Rd) : (numsF r).1.length ≤ r.1.length + 30 := by
  have h1 := numsF_enc r
  have h2 := flat_one intS (fun a => by simp [intS]) (numsF r).1
  unfold numsS at h1
  simp only [List.length_append, List.length_cons] at h1
  omega
theorem textF_many (r : Rd) : (textF r).1.length ≤ r.1.length := by
  have h1 := naturalF_len 58 r
  unfold textF
  split
  · simp
  · simp only
    split
    · simp
    · simp only [List.length_take]; omega
theorem loopF_ints : ∀ (n : Nat) (r : Rd), ∀ x ∈ (loopF intF n r).1, isInt x
  | 0, _, x, hx => by simp [loopF] at hx
  | n + 1, r, x, hx => by
    unfold loopF at hx
    split at hx
    · simp at hx
    · rcases List.mem_cons.1 hx with rfl | hx
      · exact intF_int r
      · exact loopF_ints n _ x hx
theorem numsF_ints (r : Rd) : ∀ x ∈ (numsF r).1, isInt x := by
  unfold numsF listF
  simp only
  split
  · simp
  · exact loopF_ints _ _
end Go.Proofs.YtkfmhibdoapndaaDoor.Cod
