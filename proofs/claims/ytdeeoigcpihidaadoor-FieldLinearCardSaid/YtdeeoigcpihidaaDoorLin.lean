/- Widths, residues of matrices, Contains. -/
import Derived.Test.YtdeeoigcpihidaaDoorMat3
import Derived.Deep.OwnRows
namespace Go.Proofs.YtdeeoigcpihidaaDoor
open Go.RowKit

/-- A slice value that reads as a list of ints. -/
def IsInts (v : Value) (xs : List Int) (w : World) : Prop :=
  ((∃ a c, v = .slice a 0 c) ∧ xs = []) ∨ ∃ bk off cap, v = .slice (some ⟨bk, off, none⟩) xs.length cap ∧ bk < w.heap.size ∧ ∀ i x, xs[i]? = some x → w.cell? ⟨bk, off + i, none⟩ = some (.int .i64 x)
theorem IsInts.next {v : Value} {xs : List Int} {w w' : World} (h : IsInts v xs w) (hb : Below w.heap.size w w') : IsInts v xs w' := by
  rcases h with h | ⟨bk, off, cap, hv, hlt, hc⟩
  · exact .inl h
  · refine .inr ⟨bk, off, cap, hv, Nat.lt_of_lt_of_le hlt hb.size, fun i x hx => ?_⟩
    rw [hb.cell (p := ⟨bk, off + i, none⟩) hlt]; exact hc i x hx
theorem IsInts.len {v : Value} {xs : List Int} {w : World} (h : IsInts v xs w) : ∃ a cap, v = .slice a xs.length cap := by
  rcases h with ⟨⟨a, c, h1⟩, h2⟩ | ⟨bk, off, cap, h, _⟩
  · exact ⟨a, c, by rw [h1, h2]; rfl⟩
  · exact ⟨_, _, h⟩
theorem IsInts.at {a : Option Addr} {n cap : Nat} {xs : List Int} {w : World} (h : IsInts (.slice a n cap) xs w) (k : Nat) (hk : k < xs.length) :
    ∃ bk off, a = some ⟨bk, off, none⟩ ∧ bk < w.heap.size ∧ w.cell? ⟨bk, off + k, none⟩ = some (.int .i64 xs[k]) := by
  rcases h with ⟨_, h2⟩ | ⟨bk, off, cap', h, hlt, hc⟩
  · rw [h2] at hk; simp at hk
  · simp only [Value.slice.injEq] at h
    exact ⟨bk, off, h.1, hlt, hc k _ (List.getElem?_eq_getElem hk)⟩
/-- A slice of slices of ints that reads as a list of lists. -/
def IsRows (v : Value) (xss : List (List Int)) (w : World) : Prop :=
  ((∃ a c, v = .slice a 0 c) ∧ xss = []) ∨ ∃ bk off cap, v = .slice (some ⟨bk, off, none⟩) xss.length cap ∧ bk < w.heap.size ∧ ∀ i xs, xss[i]? = some xs → ∃ u, w.cell? ⟨bk, off + i, none⟩ = some u ∧ IsInts u xs w
theorem IsRows.next {v : Value} {xss : List (List Int)} {w w' : World} (h : IsRows v xss w) (hb : Below w.heap.size w w') : IsRows v xss w' := by
  rcases h with h | ⟨bk, off, cap, hv, hlt, hc⟩
  · exact .inl h
  · refine .inr ⟨bk, off, cap, hv, Nat.lt_of_lt_of_le hlt hb.size, fun i x hx => ?_⟩
    obtain ⟨u, h1, h2⟩ := hc i x hx
    exact ⟨u, by rw [hb.cell (p := ⟨bk, off + i, none⟩) hlt]; exact h1, h2.next hb⟩
theorem IsRows.len {v : Value} {xss : List (List Int)} {w : World} (h : IsRows v xss w) : ∃ a cap, v = .slice a xss.length cap := by
  rcases h with ⟨⟨a, c, h1⟩, h2⟩ | ⟨bk, off, cap, h, _⟩
  · exact ⟨a, c, by rw [h1, h2]; rfl⟩
  · exact ⟨_, _, h⟩
theorem IsRows.at {a : Option Addr} {n cap : Nat} {xss : List (List Int)} {w : World} (h : IsRows (.slice a n cap) xss w) (k : Nat) (hk : k < xss.length) :
    ∃ bk off b cp, a = some ⟨bk, off, none⟩ ∧ bk < w.heap.size ∧ w.cell? ⟨bk, off + k, none⟩ = some (.slice b xss[k].length cp) ∧ IsInts (.slice b xss[k].length cp) xss[k] w := by
  rcases h with ⟨_, h2⟩ | ⟨bk, off, cap', h, hlt, hc⟩
  · rw [h2] at hk; simp at hk
  · simp only [Value.slice.injEq] at h
    obtain ⟨u, h1, h2⟩ := hc k _ (List.getElem?_eq_getElem hk)
    obtain ⟨b, cp, rfl⟩ := h2.len
    exact ⟨bk, off, b, cp, h.1, hlt, h1, h2⟩
/-- The number of columns; whether these are a matrix. -/
def widF (xss : List (List Int)) : Nat := match xss with
  | [] => 0
  | r :: _ => r.length
def matB (xss : List (List Int)) : Bool := xss.isEmpty || (decide (xss.length ≤ 64) && decide (widF xss ≤ 64) && xss.all fun r => r.length == widF xss)
def widV (xss : List (List Int)) : Value := if matB xss then .tuple #[.int .i64 (widF xss : Int), .bool true] else .tuple #[.int .i64 0, .bool false]
def sameFrom (n : Nat) (l : List (List Int)) : Bool := l.all fun r => r.length == n
theorem sameFrom_drop (n : Nat) (l : List (List Int)) (k : Nat) (h : k < l.length) : sameFrom n (l.drop k) = ((l[k].length == n) && sameFrom n (l.drop (k + 1))) := by
  rw [List.drop_eq_getElem_cons h]; rfl
set_option maxHeartbeats 1000000 in
theorem width_calls (v : Value) (xss : List (List Int)) (w : World) (h : IsRows v xss w) (hn : xss.length ≤ 9223372036854775807) (hr : ∀ r ∈ xss, r.length ≤ 9223372036854775807) :
    Calls Tryd.prog 27 #[v] w fun e w' => e = .returned (widV xss) ∧ w = w' := by
  obtain ⟨a, cap, rfl⟩ := h.len
  by_cases h0 : xss.length = 0
  · have hV : widV xss = .tuple #[.int .i64 0, .bool true] := by
      have : xss = [] := List.eq_nil_of_length_eq_zero h0
      subst this; rfl
    rw [hV, h0]
    clear hV h h0 hn hr
    go_enter Tryd.func27, Tryd.ntmps27
    go_wp2
    go_ret2
    exact ⟨rfl, rfl⟩
  · obtain ⟨bk, off, b, cp, rfl, hlt, hc0, hi0⟩ := h.at 0 (by omega)
    have hw : widF xss = xss[0].length := by
      cases xss with
      | nil => simp at h0
      | cons r l => rfl
    have hne : xss.isEmpty = false := by
      cases xss with
      | nil => exact absurd rfl h0
      | cons r l => rfl
    have hV1 : widV xss = if xss.length ≤ 64 ∧ xss[0].length ≤ 64 ∧ sameFrom xss[0].length xss = true then .tuple #[.int .i64 (xss[0].length : Int), .bool true] else .tuple #[.int .i64 0, .bool false] := by
      unfold widV matB
      rw [hw, hne]
      simp only [Bool.false_or, Bool.and_eq_true, decide_eq_true_eq]
      by_cases e1 : xss.length ≤ 64 <;> by_cases e2 : xss[0].length ≤ 64 <;> simp [e1, e2, sameFrom]
    have hr0 := hr _ (List.getElem_mem (show 0 < xss.length by omega))
    obtain ⟨c, hcc⟩ : ∃ c, c = xss[0].length := ⟨_, rfl⟩
    rw [← hcc] at hV1 hc0 hi0 hr0
    rw [Nat.add_zero] at hc0
    have hn0 : (0 : Int) < (xss.length : Int) := by omega
    have hz : ((xss.length : Int) == 0) = false := beq_eq_false_iff_ne.2 (by omega)
    have h00 : ¬ (xss.length : Int) = 0 := by omega
    by_cases h1 : xss.length ≤ 64
    · by_cases h2 : c ≤ 64
      · have HV : Hid (widV xss = if sameFrom c (xss.drop 0) = true then .tuple #[.int .i64 (c : Int), .bool true] else .tuple #[.int .i64 0, .bool false]) := by
          show _ = _
          rw [hV1, List.drop_zero]; simp [h1, h2]
        have g1 : ¬ (64 : Int) < (xss.length : Int) := by omega
        have g2 : ¬ (64 : Int) < (c : Int) := by omega
        clear hV1 hcc hi0 hw hne h0
        go_enter Tryd.func27, Tryd.ntmps27
        go_wp2
        obtain ⟨F, hF⟩ : ∃ F, F = sameFrom c (xss.drop 0) := ⟨_, rfl⟩
        rw [← hF] at HV
        go_loopw [23] (fun i wr => ∃ k : Nat, k ≤ xss.length ∧ i = .int .i64 (k : Int) ∧ sameFrom c (xss.drop k) = F ∧ wr = w) (fun i _ => xss.length - (intOf i).toNat)
        case atStart => exact ⟨0, Nat.zero_le _, rfl, hF.symm, rfl⟩
        case round =>
          clear hF
          obtain ⟨k, hk, rfl, hF, rfl⟩ := hrel
          by_cases hlt : k < xss.length
          · obtain ⟨bk', off', b', cp', e1, -, hc1, -⟩ := h.at k hlt
            simp only [Option.some.injEq, Addr.mk.injEq] at e1
            obtain ⟨rfl, rfl, -⟩ := e1
            rw [sameFrom_drop c xss k hlt] at hF
            have hrk := hr _ (List.getElem_mem hlt)
            generalize xss[k].length = L at *
            by_cases hL : L = c
            · subst hL
              have HF : Hid (sameFrom L (xss.drop (k + 1)) = F) := by
                show _ = _
                simpa using hF
              have hbn : ((L : Int) != (L : Int)) = false := by simp
              clear hF
              go_wp2
              go_roundw
              case rel => exact ⟨k + 1, by omega, by go_num, HF.out, by trivial⟩
              case measure => simp [intOf]; omega
            · have hFf : F = false := by rw [← hF]; simp [hL]
              subst hFf
              have hbn : ((L : Int) != (c : Int)) = true := bne_iff_ne.2 (by omega)
              have hbn2 : ¬ (L : Int) = (c : Int) := by omega
              clear hF
              go_wp2
              go_ret2
              exact ⟨by rw [HV.out]; rfl, rfl⟩
          · obtain rfl : k = xss.length := by omega
            rw [List.drop_length] at hF
            have hFf : F = true := by rw [← hF]; rfl
            subst hFf
            clear hF
            go_wp2
            go_ret2
            exact ⟨by rw [HV.out]; rfl, rfl⟩
      · have hV : Hid (widV xss = .tuple #[.int .i64 0, .bool false]) := by
          show _ = _
          rw [hV1, if_neg (by omega)]
        have g1 : ¬ (64 : Int) < (xss.length : Int) := by omega
        have g2 : (64 : Int) < (c : Int) := by omega
        clear hV1 hcc hi0 hw hne h0 h
        go_enter Tryd.func27, Tryd.ntmps27
        go_wp2
        go_ret2
        exact ⟨by rw [hV.out]; rfl, rfl⟩
    · have hV : Hid (widV xss = .tuple #[.int .i64 0, .bool false]) := by
        show _ = _
        rw [hV1, if_neg (by omega)]
      have g1 : (64 : Int) < (xss.length : Int) := by omega
      clear hV1 hcc hi0 hw hne h0 h
      go_enter Tryd.func27, Tryd.ntmps27
      go_wp2
      go_ret2
      exact ⟨by rw [hV.out]; rfl, rfl⟩
end Go.Proofs.YtdeeoigcpihidaaDoor
