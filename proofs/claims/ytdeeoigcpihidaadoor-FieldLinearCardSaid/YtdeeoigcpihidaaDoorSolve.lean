/- Systems of linear equations: Index, Contains. -/
import Derived.Test.YtdeeoigcpihidaaDoorResid
import Derived.Test.YtdeeoigcpihidaaDoorReduce
namespace Go.Proofs.YtdeeoigcpihidaaDoor
open Go.RowKit

theorem info_at {w : World} {T r : Nat} {piv : List Nat} {a : Option Addr} {cap : Nat} (h : w.ownsRow T 3 1 (.slice a r cap) piv.length (ics piv)) (k : Nat) (hk : k < piv.length) :
    ∃ g, a = some ⟨g, 0, none⟩ ∧ T ≤ g ∧ g < w.heap.size ∧ w.cell? ⟨g, k, none⟩ = some (.int .i64 (piv[k] : Int)) := by
  obtain ⟨_, ⟨h1, h2⟩ | ⟨g, cp, cur, hv, hg, hh, _, _, _, ht⟩⟩ := h
  · simp only [Value.slice.injEq] at h1; omega
  · simp only [Value.slice.injEq] at hv
    refine ⟨g, hv.1, hg, (Array.getElem?_eq_some_iff.1 hh).1, ?_⟩
    rw [cell_of_row w g k cur 3 (0, 0) hh]
    have h1 : (ics piv)[k]? = some (.int .i64 (piv[k] : Int)) := by simp [ics, hk]
    rw [← ht, List.getElem?_take] at h1
    split at h1
    · simpa using h1
    · cases h1
def idxL (x : Nat) : List Nat → Nat → Option Nat
  | [], _ => none
  | y :: l, k => if x = y then some k else idxL x l (k + 1)
theorem idxL_mem (x : Nat) : ∀ (l : List Nat) (k : Nat), (idxL x l k).isSome = decide (x ∈ l) := by
  intro l
  induction l with
  | nil => intro k; simp [idxL]
  | cons y l ih =>
    intro k
    rw [idxL]
    by_cases h : x = y
    · subst h; simp
    · rw [if_neg h, ih]; simp [h]
theorem index_calls (w : World) (T : Nat) (v : Value) (piv : List Nat) (hown : w.ownsRow T 3 1 v piv.length (ics piv)) (hn : piv.length ≤ 4294967296) (x : Nat) :
    Calls Tryd.prog 48 #[v, .int .i64 (x : Int)] w fun e w' => e = .returned (.int .i64 (optI (idxL x piv 0))) ∧ w = w' := by
  obtain ⟨a, cap, rfl⟩ := own_len hown
  obtain ⟨X, hX⟩ : ∃ X, X = idxL x piv 0 := ⟨_, rfl⟩
  rw [← hX]
  have HX : Nat → idxL x (piv.drop 0) 0 = X := fun _ => by rw [List.drop_zero]; exact hX.symm
  clear hX
  go_enter Tryd.func48, Tryd.ntmps48
  go_wp2
  go_loopw [8] (fun i wr => ∃ k : Nat, k ≤ piv.length ∧ i = .int .i64 (k : Int) ∧ (Nat → idxL x (piv.drop k) k = X) ∧ wr = w) (fun i _ => piv.length - (intOf i).toNat)
  case atStart => exact ⟨0, Nat.zero_le _, rfl, HX, rfl⟩
  case round =>
    clear HX
    obtain ⟨k, hk, rfl, HX, rfl⟩ := hrel
    by_cases hlt : k < piv.length
    · obtain ⟨g, rfl, _, _, z0⟩ := info_at hown k hlt
      have hst : Nat → (if x = piv[k] then some k else idxL x (piv.drop (k + 1)) (k + 1)) = X := fun _ => by
        rw [← HX 0, List.drop_eq_getElem_cons hlt, idxL]
      generalize piv[k] = y at *
      have HO := Lib.hid hown
      clear HX hown
      by_cases hxy : x = y
      · subst hxy
        have hX : Hid (some k = X) := by have := hst 0; rwa [if_pos rfl] at this
        clear hst
        go_wp2
        go_ret
        exact ⟨ret_i (by rw [← hX.out]; rfl), rfl⟩
      · have HX : Nat → idxL x (piv.drop (k + 1)) (k + 1) = X := fun _ => by have := hst 0; rwa [if_neg hxy] at this
        have hb : ((x : Int) == (y : Int)) = false := beq_eq_false_iff_ne.2 (by omega)
        have hb2 : ¬ (x : Int) = (y : Int) := by omega
        clear hst
        go_wp2
        go_roundw
        case rel => exact ⟨k + 1, by omega, by go_num, HX, by trivial⟩
        case measure => simp [intOf]; omega
    · obtain rfl : k = piv.length := by omega
      have hX : Hid (none = X) := by
        have := HX 0
        rw [List.drop_length, idxL] at this
        exact this
      clear HX
      go_wp2
      go_ret
      exact ⟨ret_i (by rw [← hX.out]; rfl), rfl⟩
theorem contains_calls (w : World) (T : Nat) (v : Value) (piv : List Nat) (hown : w.ownsRow T 3 1 v piv.length (ics piv)) (hn : piv.length ≤ 4294967296) (x : Nat) :
    Calls Tryd.prog 31 #[v, .int .i64 (x : Int)] w fun e w' => e = .returned (.bool (decide (x ∈ piv))) ∧ w = w' := by
  have c1 := Lib.hid (index_calls w T v piv hown hn x)
  rw [← idxL_mem x piv 0]
  generalize idxL x piv 0 = X at *
  clear hown
  cases X with
  | none =>
    rw [show optI none = -1 from rfl] at c1
    go_enter Tryd.func31, Tryd.ntmps31
    go_wp2_with fail
    refine c1.out.mono ?_
    rintro e w' ⟨rfl, rfl⟩
    go_wp2
    go_ret
    exact ⟨rfl, rfl⟩
  | some i =>
    rw [show optI (some i) = (i : Int) from rfl] at c1
    have h0 : (0 : Int) ≤ (i : Int) := by omega
    go_enter Tryd.func31, Tryd.ntmps31
    go_wp2_with fail
    refine c1.out.mono ?_
    rintro e w' ⟨rfl, rfl⟩
    go_wp2
    go_ret
    exact ⟨rfl, rfl⟩
end Go.Proofs.YtdeeoigcpihidaaDoor
