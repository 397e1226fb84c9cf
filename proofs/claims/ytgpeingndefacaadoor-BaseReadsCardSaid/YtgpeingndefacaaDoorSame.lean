/- Comparing lists: SameNums and SameTexts. -/
import Derived.Test.YtgpeingndefacaaDoorRead4
import Derived.Deep.QuietTactic
import Derived.BigQuiet
namespace Go.Proofs.YtgpeingndefacaaDoor
open Go.RowKit

theorem IsInts.len {v : Value} {xs : List Int} {w : World} (h : IsInts v xs w) : ∃ a cap, v = .slice a xs.length cap := by
  rcases h with ⟨⟨a, c, h1⟩, h2⟩ | ⟨bk, off, cap, h, _⟩
  · exact ⟨a, c, by rw [h1, h2]; rfl⟩
  · exact ⟨_, _, h⟩
theorem IsInts.at {a : Option Addr} {n cap : Nat} {xs : List Int} {w : World} (h : IsInts (.slice a n cap) xs w) (k : Nat) (hk : k < xs.length) :
    ∃ bk off, a = some ⟨bk, off, none⟩ ∧ bk < w.heap.size ∧ ∀ i x, xs[i]? = some x → w.cell? ⟨bk, off + i, none⟩ = some (.int .i64 x) := by
  rcases h with ⟨h1, h2⟩ | ⟨bk, off, cap, h, hb, hc⟩
  · rw [h2] at hk; simp at hk
  · simp only [Value.slice.injEq] at h
    exact ⟨bk, off, h.1, hb, hc⟩
theorem IsTexts.len {v : Value} {xs : List (List UInt8)} {w : World} (h : IsTexts v xs w) : ∃ a cap, v = .slice a xs.length cap := by
  rcases h with ⟨⟨a, c, h1⟩, h2⟩ | ⟨bk, off, cap, h, _⟩
  · exact ⟨a, c, by rw [h1, h2]; rfl⟩
  · exact ⟨_, _, h⟩
theorem IsTexts.at {a : Option Addr} {n cap : Nat} {xs : List (List UInt8)} {w : World} (h : IsTexts (.slice a n cap) xs w) (k : Nat) (hk : k < xs.length) :
    ∃ bk off, a = some ⟨bk, off, none⟩ ∧ bk < w.heap.size ∧ ∀ i x, xs[i]? = some x → w.cell? ⟨bk, off + i, none⟩ = some (.string (bs x)) := by
  rcases h with ⟨h1, h2⟩ | ⟨bk, off, cap, h, hb, hc⟩
  · rw [h2] at hk; simp at hk
  · simp only [Value.slice.injEq] at h
    exact ⟨bk, off, h.1, hb, hc⟩

def Qpost (v : Value) (w : World) (e : Ending) (w' : World) : Prop := e = .returned v ∧ ∃ n, w' = w.drewN n

set_option maxHeartbeats 1000000 in
set_option maxRecDepth 100000 in
theorem sameNums_eq (u v : Value) (xs : List Int) (w : World) (hu : IsInts u xs w) (hv : IsInts v xs w) (hn : xs.length ≤ 4294967297) :
    Calls Tryd.prog 29 #[u, v] w (Qpost (.bool true) w) := by
  obtain ⟨a, c, rfl⟩ := hu.len
  obtain ⟨b, d, rfl⟩ := hv.len
  have hb : ((xs.length : Int) != (xs.length : Int)) = false := by simp
  go_enter Tryd.func29, Tryd.ntmps29
  go_wp2
  go_loopw [5] (fun i wr => ∃ k : Nat, k ≤ xs.length ∧ i = .int .i64 k ∧ ∃ n, wr = w.drewN n) (fun i _ => xs.length - (intOf i).toNat)
  case atStart => exact ⟨0, Nat.zero_le _, rfl, 0, rfl⟩
  case round =>
    obtain ⟨k, hk, rfl, n, rfl⟩ := hrel
    by_cases hlt : k < xs.length
    · obtain ⟨b1, o1, rfl, hb1, hc1⟩ := hu.at k hlt
      obtain ⟨b2, o2, rfl, hb2, hc2⟩ := hv.at k hlt
      have e1 := hc1 k xs[k] (List.getElem?_eq_getElem hlt)
      have e2 := hc2 k xs[k] (List.getElem?_eq_getElem hlt)
      clear hc1 hc2 hu hv
      have hlI : (k : Int) < (xs.length : Int) := by omega
      have hx : (xs[k] != xs[k]) = false := by simp
      go_wp2
      go_quiet (fail)
      go_wp2
      go_roundw
      case rel => exact ⟨k + 1, by omega, by go_num, _, rfl⟩
      case measure => simp [intOf]; omega
    · go_wp2
      go_ret
      exact ⟨rfl, n, rfl⟩

set_option maxHeartbeats 1000000 in
set_option maxRecDepth 100000 in
theorem sameTexts_eq (u v : Value) (xs : List (List UInt8)) (w : World) (hu : IsTexts u xs w) (hv : IsTexts v xs w) (hn : xs.length ≤ 4294967297) :
    Calls Tryd.prog 32 #[u, v] w (Qpost (.bool true) w) := by
  obtain ⟨a, c, rfl⟩ := hu.len
  obtain ⟨b, d, rfl⟩ := hv.len
  have hb : ((xs.length : Int) != (xs.length : Int)) = false := by simp
  go_enter Tryd.func32, Tryd.ntmps32
  go_wp2
  go_loopw [5] (fun i wr => ∃ k : Nat, k ≤ xs.length ∧ i = .int .i64 k ∧ ∃ n, wr = w.drewN n) (fun i _ => xs.length - (intOf i).toNat)
  case atStart => exact ⟨0, Nat.zero_le _, rfl, 0, rfl⟩
  case round =>
    obtain ⟨k, hk, rfl, n, rfl⟩ := hrel
    by_cases hlt : k < xs.length
    · obtain ⟨b1, o1, rfl, hb1, hc1⟩ := hu.at k hlt
      obtain ⟨b2, o2, rfl, hb2, hc2⟩ := hv.at k hlt
      have e1 := hc1 k xs[k] (List.getElem?_eq_getElem hlt)
      have e2 := hc2 k xs[k] (List.getElem?_eq_getElem hlt)
      clear hc1 hc2 hu hv
      have hlI : (k : Int) < (xs.length : Int) := by omega
      have hx : ((bs xs[k]).toList == (bs xs[k]).toList) = true := by simp
      go_wp2
      go_quiet (fail)
      go_wp2
      go_roundw
      case rel => exact ⟨k + 1, by omega, by go_num, _, rfl⟩
      case measure => simp [intOf]; omega
    · go_wp2
      go_ret
      exact ⟨rfl, n, rfl⟩
end Go.Proofs.YtgpeingndefacaaDoor
