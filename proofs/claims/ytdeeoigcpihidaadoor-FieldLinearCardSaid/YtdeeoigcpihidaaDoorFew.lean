/- The sizes that FieldLinear takes. -/
import Derived.Test.YtdeeoigcpihidaaDoorDig
namespace Go.Proofs.YtdeeoigcpihidaaDoor
open Go.RowKit

def fewR (l : Nat) : Bool := decide (l ≤ 7) || (decide (65 ≤ l) && decide (l ≤ 66))
def fewFrom (l : List (List Int)) : Bool := l.all fun r => fewR r.length
def fewB (xss : List (List Int)) : Bool := fewR xss.length && fewFrom xss
theorem fewFrom_drop (l : List (List Int)) (k : Nat) (h : k < l.length) : fewFrom (l.drop k) = (fewR l[k].length && fewFrom (l.drop (k + 1))) := by
  rw [List.drop_eq_getElem_cons h]; rfl
theorem fewR_yes {l : Nat} (h : l ≤ 7 ∨ (65 ≤ l ∧ l ≤ 66)) : fewR l = true := by
  unfold fewR
  rcases h with h | ⟨h1, h2⟩
  · rw [decide_eq_true h]; rfl
  · rw [decide_eq_true h1, decide_eq_true h2]; simp
theorem fewR_no {l : Nat} (h : ¬ (l ≤ 7 ∨ (65 ≤ l ∧ l ≤ 66))) : fewR l = false := by
  unfold fewR
  rw [decide_eq_false (by omega), Bool.false_or]
  by_cases h1 : 65 ≤ l
  · rw [decide_eq_true h1, decide_eq_false (by omega)]; rfl
  · rw [decide_eq_false h1]; rfl
set_option maxHeartbeats 1000000 in
theorem rfew_calls (v : Value) (xss : List (List Int)) (hn : xss.length ≤ 9223372036854775807) (hr : ∀ r ∈ xss, r.length ≤ 9223372036854775807) (w : World) (h : IsRows v xss w) :
    Calls Tryd.prog 7 #[v, .int .i64 7] w fun e w' => e = .returned (.bool (fewB xss)) ∧ w = w' := by
  obtain ⟨a, cap, rfl⟩ := h.len
  have hfb : fewB xss = (fewR xss.length && fewFrom xss) := rfl
  by_cases hok : xss.length ≤ 7 ∨ (65 ≤ xss.length ∧ xss.length ≤ 66)
  · rw [fewR_yes hok, Bool.true_and] at hfb
    obtain ⟨F, hF⟩ : ∃ F, F = fewB xss := ⟨_, rfl⟩
    rw [← hF] at hfb
    rw [← hF]
    have HF : Nat → fewFrom (xss.drop 0) = F := fun _ => by rw [List.drop_zero]; exact hfb.symm
    have hcase : ¬ (7 : Int) < (xss.length : Int) ∨ ((7 : Int) < (xss.length : Int) ∧ ¬ (xss.length : Int) < 65 ∧ ¬ (66 : Int) < (xss.length : Int)) := by omega
    clear hok hfb hF
    rcases hcase with h7 | ⟨h7, h65, h66⟩
    all_goals
      go_enter Tryd.func7, Tryd.ntmps7
      go_wp2
      go_loopw [5] (fun iv wr => ∃ k : Nat, k ≤ xss.length ∧ iv = .int .i64 (k : Int) ∧ (Nat → fewFrom (xss.drop k) = F) ∧ wr = w) (fun iv _ => xss.length - (intOf iv).toNat)
      case atStart => exact ⟨0, Nat.zero_le _, rfl, HF, rfl⟩
      case round =>
        clear HF
        obtain ⟨k, hk, rfl, HF, rfl⟩ := hrel
        by_cases hlt : k < xss.length
        · obtain ⟨bk, off, b, cp, rfl, _, z0, _⟩ := h.at k hlt
          have hst : Nat → (fewR xss[k].length && fewFrom (xss.drop (k + 1))) = F := fun _ => by rw [← fewFrom_drop xss k hlt]; exact HF 0
          have hrk := hr _ (List.getElem_mem hlt)
          generalize xss[k].length = l at *
          have hk1 : (k : Int) < (xss.length : Int) := by omega
          clear HF h hr
          by_cases hl : l ≤ 7 ∨ (65 ≤ l ∧ l ≤ 66)
          · have HF2 : Nat → fewFrom (xss.drop (k + 1)) = F := fun _ => by have := hst 0; rwa [fewR_yes hl, Bool.true_and] at this
            have hc2 : ¬ (7 : Int) < (l : Int) ∨ ((7 : Int) < (l : Int) ∧ ¬ (l : Int) < 65 ∧ ¬ (66 : Int) < (l : Int)) := by omega
            clear hst hl
            rcases hc2 with g7 | ⟨g7, g65, g66⟩
            all_goals
              go_wp2
              go_roundw
              case rel => exact ⟨k + 1, by omega, by go_num, HF2, by trivial⟩
              case measure => simp [intOf]; omega
          · have HX : Hid (F = false) := by show _ = _; have := hst 0; rw [fewR_no hl, Bool.false_and] at this; exact this.symm
            have hc2 : (7 : Int) < (l : Int) ∧ ((l : Int) < 65 ∨ (¬ (l : Int) < 65 ∧ (66 : Int) < (l : Int))) := by omega
            clear hst hl
            obtain ⟨g7, g65 | ⟨g65, g66⟩⟩ := hc2
            all_goals
              go_wp2
              go_ret
              exact ⟨ret_b HX.out.symm, rfl⟩
        · obtain rfl : k = xss.length := by omega
          have HX : Hid (F = true) := by show _ = _; have := HF 0; rw [List.drop_length] at this; rw [← this]; rfl
          clear HF h hr
          go_wp2
          go_ret
          exact ⟨ret_b HX.out.symm, rfl⟩
  · rw [fewR_no hok, Bool.false_and] at hfb
    have HV := Lib.hid hfb
    have hcase : (7 : Int) < (xss.length : Int) ∧ ((xss.length : Int) < 65 ∨ (¬ (xss.length : Int) < 65 ∧ (66 : Int) < (xss.length : Int))) := by omega
    clear hok hfb h hr
    obtain ⟨g7, g65 | ⟨g65, g66⟩⟩ := hcase
    all_goals
      go_enter Tryd.func7, Tryd.ntmps7
      go_wp2
      go_ret
      exact ⟨ret_b HV.out.symm, rfl⟩
end Go.Proofs.YtdeeoigcpihidaaDoor
