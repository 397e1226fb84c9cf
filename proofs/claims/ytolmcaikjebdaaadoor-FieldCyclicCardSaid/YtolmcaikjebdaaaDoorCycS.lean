/- Small groups: the elements are sorted; powers. -/
import Derived.Test.YtolmcaikjebdaaaDoorCycN
import Derived.Test.YtolmcaikjebdaaaDoorExpo
namespace Go.Proofs.YtolmcaikjebdaaaDoor
open Go.RowKit

theorem elF_sorted (P S : Nat) : ∀ f y, (∀ x ∈ elF P S f y, y ≤ x ∧ x < P) ∧ (elF P S f y).Pairwise (· < ·)
  | 0, y => ⟨by simp [elF], by simp [elF]⟩
  | f + 1, y => by
    obtain ⟨h1, h2⟩ := elF_sorted P S f (y + 1)
    unfold elF
    by_cases h : (decide (y < P) && S.testBit y) = true
    · rw [if_pos h]
      simp only [Bool.and_eq_true, decide_eq_true_eq] at h
      refine ⟨fun x hx => ?_, List.pairwise_cons.2 ⟨fun x hx => ?_, h2⟩⟩
      · rcases List.mem_cons.1 hx with rfl | hx
        · exact ⟨Nat.le_refl _, h.1⟩
        · have := h1 x hx; omega
      · have := h1 x hx; omega
    · rw [if_neg h]
      exact ⟨fun x hx => by have := h1 x hx; omega, h2⟩
theorem cycE_at {q : Nat} (h : (cycE q).head? = some 1) (J : Nat) (hJ : 1 ≤ J) (x : Nat) (hx : (cycE q)[J]? = some x) : x ≠ 1 ∧ x < 2 * q + 1 := by
  obtain ⟨h1, h2⟩ := elF_sorted (2 * q + 1) (cycS q) (2 * q + 2) 0
  have e : cycE q = elF (2 * q + 1) (cycS q) (2 * q + 2) 0 := rfl
  rw [← e] at h1 h2
  refine ⟨?_, (h1 x (List.mem_of_getElem? hx)).2⟩
  generalize cycE q = L at *
  match L, h with
  | a :: l, h =>
    simp at h
    subst h
    obtain ⟨j, rfl⟩ : ∃ j, J = j + 1 := ⟨J - 1, by omega⟩
    have := (List.pairwise_cons.1 h2).1 x (List.mem_of_getElem? (by simpa using hx))
    omega
theorem gPow_nat {P q x k : Nat} (hP : isMod (P : Int)) (hq : isMod (q : Int)) (hk : k < q) : gPow (P : Int) (q : Int) (x : Int) (k : Int) = ((x ^ k % P : Nat) : Int) := by
  unfold gPow
  rw [if_pos ⟨hP, hq⟩, Int.emod_eq_of_lt (by omega) (by omega), powZ_pos hP (by omega)]; simp
theorem gPow_q {P q x : Nat} (hP : isMod (P : Int)) (hq : isMod (q : Int)) (h2 : 2 ≤ P) : gPow (P : Int) (q : Int) (x : Int) (q : Int) = 1 := by
  unfold gPow
  rw [if_pos ⟨hP, hq⟩, Int.emod_self, powZ_pos hP (by omega)]
  simp
  exact Int.emod_eq_of_lt (by omega) (by omega)
theorem idx_facts (wh q : Nat) (hq : 5 ≤ q) (hq2 : q < 201) : ∃ M J : Nat, (wh : Int) % ((q : Int) - 1) = (M : Int) ∧ wrap64 (1 + (M : Int)) = (J : Int) ∧ 1 ≤ J ∧ J < q := by
  have hMl : wh % (q - 1) < q - 1 := Nat.mod_lt _ (by omega)
  have e : ((q : Int) - 1) = ((q - 1 : Nat) : Int) := by omega
  refine ⟨wh % (q - 1), 1 + wh % (q - 1), ?_, ?_, by omega, by omega⟩
  · rw [e]; exact (Int.natCast_emod _ _).symm
  · generalize wh % (q - 1) = M at *
    unfold wrap64; omega
theorem elem_facts (q b P J : Nat) (acc : List Nat) (hb : b = cycS q) (hP : P = 2 * q + 1) (ha : acc = cycE q) (hl : acc.length = q) (h2 : (cycE q).head? = some 1)
    (h3 : ∀ x ∈ cycE q, x = 1 ∨ chF (2 * q + 1) (cycS q) x q 0 0 = true) (hJ1 : 1 ≤ J) (hJ : J < q) :
    ∃ x : Nat, acc[J]? = some x ∧ x < P ∧ (Nat → chF P b x q 0 0 = true) := by
  subst hb hP
  rw [← ha] at h2 h3
  have hj : acc[J]? = some (acc[J]'(by omega)) := List.getElem?_eq_getElem (by omega)
  generalize acc[J]'(by omega) = x at hj
  obtain ⟨hx1, hxP⟩ := cycE_at (q := q) (ha ▸ h2) J hJ1 x (ha ▸ hj)
  refine ⟨x, hj, hxP, fun _ => ?_⟩
  rcases h3 x (List.mem_of_getElem? hj) with h | h
  · exact absurd h hx1
  · exact h
theorem ch_step {P b x q k bb : Nat} (hk : k < q) (h : chF P b x (q - k) k bb = true) (Y : Nat) (hY : Y = x ^ k % P) :
    1 ≤ Y ∧ b.testBit Y = true ∧ bb.testBit Y = false ∧ chF P b x (q - (k + 1)) (k + 1) (bb ||| 1 <<< Y) = true := by
  subst hY
  rw [show q - k = (q - (k + 1)) + 1 by omega, chF] at h
  simp only [Bool.and_eq_true, decide_eq_true_eq, Bool.not_eq_true'] at h
  exact ⟨h.1, h.2.1, h.2.2.1, h.2.2.2⟩
end Go.Proofs.YtolmcaikjebdaaaDoor
