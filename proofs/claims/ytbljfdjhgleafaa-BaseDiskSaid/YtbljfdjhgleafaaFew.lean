/- Lists of acts in memory; fewActs. -/
import Derived.Test.YtbljfdjhgleafaaActs
namespace Go.Proofs.Ytbljfdjhgleafaa
open Go.RowKit

structure ActAt (B g o : Nat) (a : Act') (kv : Value) (w : World) : Prop where
  c0 : w.cell? ⟨g, o, none⟩ = some (.int .i64 a.Do)
  c1 : w.cell? ⟨g, o + 1, none⟩ = some (.int .i64 a.F)
  c2 : w.cell? ⟨g, o + 2, none⟩ = some (.int .i64 a.N)
  c3 : w.cell? ⟨g, o + 3, none⟩ = some (.string (bs a.S))
  c4 : w.cell? ⟨g, o + 4, none⟩ = some kv
  kp : KeepAt w kv a.Keep
  kb : ∀ i, inBlock kv i → i < B

def IsActs (B : Nat) (v : Value) (l : List Act') (w : World) : Prop :=
  ((∃ a c, v = .slice a 0 c) ∧ l = []) ∨ ∃ g off cap, v = .slice (some ⟨g, off, none⟩) l.length cap ∧ g < B ∧ g < w.heap.size ∧ ∀ i a, l[i]? = some a → ∃ kv, ActAt B g (off + i * 5) a kv w

variable {w w' : World} {B : Nat} {v : Value} {l : List Act'}

theorem IsActs.kept {T : Nat → Prop} (h : IsActs B v l w) (hk : Kept T w w') (hT : ∀ i, T i → B ≤ i) : IsActs B v l w' := by
  rcases h with h | ⟨g, off, cap, hv, hg, hw, hc⟩
  · exact Or.inl h
  · refine Or.inr ⟨g, off, cap, hv, hg, Nat.lt_of_lt_of_le hw hk.size, fun i a ha => ?_⟩
    obtain ⟨kv, h⟩ := hc i a ha
    have e : ∀ o, w'.cell? ⟨g, o, none⟩ = w.cell? ⟨g, o, none⟩ := fun o => World.cell?_of_block (hk.block g hw (fun ht => by have := hT g ht; omega))
    exact ⟨kv, ⟨(e _).trans h.c0, (e _).trans h.c1, (e _).trans h.c2, (e _).trans h.c3, (e _).trans h.c4, h.kp.kept hk (fun i hi ht => by have := hT i ht; have := h.kb i hi; omega), h.kb⟩⟩

theorem IsActs.shape (h : IsActs B v l w) : ∃ a c, v = .slice a l.length c := by
  rcases h with ⟨⟨a, c, rfl⟩, rfl⟩ | ⟨g, off, cap, rfl, _⟩
  · exact ⟨_, _, rfl⟩
  · exact ⟨_, _, rfl⟩

def FewL (l : List Act') : Prop := l.length ≤ 40 ∧ ∀ a ∈ l, a.S.length ≤ 300 ∧ a.Keep.length ≤ 60

def FewP (l : List Act') (w : World) (r : Ending) (w' : World) : Prop := ∃ t : Bool, r = .returned (.bool t) ∧ (t = true → FewL l) ∧ w = w'

set_option maxHeartbeats 2000000 in
set_option maxRecDepth 100000 in
theorem few_calls (h : IsActs B v l w) (hb : l.length ≤ 9223372036854775807) (hfit : ∀ a ∈ l, a.S.length ≤ 9223372036854775807) :
    Calls Try.prog 8 #[v] w (FewP l w) := by
  obtain ⟨va, vc, rfl⟩ := h.shape
  have H := Lib.hid h
  have HF := Lib.hid hfit
  clear h hfit
  by_cases hlen : 40 < l.length
  · have d1 : (40 : Int) < (l.length : Int) := by omega
    clear hlen
    go_enter Try.func8, Try.ntmps8
    go_wp2_with fail
    go_ret
    exact ⟨false, rfl, fun h => by simp at h, rfl⟩
  · have d1 : ¬ (40 : Int) < (l.length : Int) := by omega
    go_enter Try.func8, Try.ntmps8
    go_wp2_with fail
    go_loopw [3] (fun i wr => ∃ k : Nat, k ≤ l.length ∧ i = .int .i64 k ∧ wr = w ∧ ∀ a ∈ l.take k, a.S.length ≤ 300 ∧ a.Keep.length ≤ 60) (fun i _ => 41 - (intOf i).toNat)
    case atStart => exact ⟨0, by omega, rfl, rfl, by simp⟩
    case round =>
      obtain ⟨k, hk, rfl, rfl, hall⟩ := hrel
      by_cases hlt : k < l.length
      · obtain ⟨a, ha⟩ : ∃ a, l[k]? = some a := ⟨_, List.getElem?_eq_getElem hlt⟩
        obtain ⟨g, off, rfl, kv, hat⟩ : ∃ g off, va = some ⟨g, off, none⟩ ∧ ∃ kv, ActAt B g (off + k * 5) a kv wr := by
          rcases H.out with ⟨_, rfl⟩ | ⟨g, off, cap, e, _, _, hc⟩
          · simp at hlt
          · simp at e
            exact ⟨g, off, e.1, hc k a ha⟩
        have a3 := hat.c3
        have a2 := hat.c2
        have a4 := hat.c4
        have hbl := bs_size a.S
        have hal := HF.out a (List.mem_of_getElem? ha)
        obtain ⟨ka, kc, rfl⟩ : ∃ ka kc, kv = .slice ka a.Keep.length kc := by
          rcases hat.kp with ⟨⟨x, c, rfl⟩, e⟩ | ⟨x, o, c, rfl, _⟩
          · rw [e]; exact ⟨_, _, rfl⟩
          · exact ⟨_, _, rfl⟩
        have HA := Lib.hid ha
        have HALL := Lib.hid hall
        clear hat ha hall
        have d2 : (k : Int) < (l.length : Int) := by omega
        go_wp2_with fail
        all_goals first
          | (go_ret; exact ⟨false, rfl, fun h => by simp at h, rfl⟩)
          | (go_roundw
             case rel =>
               refine ⟨k + 1, by omega, by go_num, trivial, ?_⟩
               intro x hx
               rw [List.take_add_one, HA.out, List.mem_append] at hx
               rcases hx with hx | hx
               · exact HALL.out x hx
               · simp at hx
                 subst hx
                 omega
             case measure => simp [intOf]; omega)
      · obtain rfl : k = l.length := by omega
        have HALL := Lib.hid hall
        clear hall
        go_wp2_with fail
        go_ret
        exact ⟨true, rfl, fun _ => ⟨by omega, by have := HALL.out; rwa [List.take_length] at this⟩, rfl⟩

end Go.Proofs.Ytbljfdjhgleafaa
