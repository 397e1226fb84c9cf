/- Lists of operations in memory; fewOps; disky; begins. -/
import Derived.Test.YtanecondopbfhaaGreatDoorJrow
import Derived.Test.YtanecondopbfhaaGreatDoorGood3
namespace Go.Proofs.YtanecondopbfhaaGreatDoor
open Go.RowKit

structure Op' where
  Kind : Int
  S : List UInt8
  N : Int
  Keep : List Int

structure OpAt (B g o : Nat) (a : Op') (kv : Value) (w : World) : Prop where
  c0 : w.cell? ⟨g, o, none⟩ = some (.int .i64 a.Kind)
  c1 : w.cell? ⟨g, o + 1, none⟩ = some (.string (bs a.S))
  c2 : w.cell? ⟨g, o + 2, none⟩ = some (.int .i64 a.N)
  c3 : w.cell? ⟨g, o + 3, none⟩ = some kv
  kp : KeepAt w kv a.Keep
  kb : ∀ i, inBlock kv i → i < B

def IsOps (B : Nat) (v : Value) (l : List Op') (w : World) : Prop :=
  ((∃ a c, v = .slice a 0 c) ∧ l = []) ∨ ∃ g off cap, v = .slice (some ⟨g, off, none⟩) l.length cap ∧ g < B ∧ g < w.heap.size ∧ ∀ i a, l[i]? = some a → ∃ kv, OpAt B g (off + i * 4) a kv w

variable {w w' : World} {B : Nat} {v : Value} {l : List Op'}

theorem IsOps.kept {T : Nat → Prop} (h : IsOps B v l w) (hk : Kept T w w') (hT : ∀ i, T i → B ≤ i) : IsOps B v l w' := by
  rcases h with h | ⟨g, off, cap, hv, hg, hw, hc⟩
  · exact Or.inl h
  · refine Or.inr ⟨g, off, cap, hv, hg, Nat.lt_of_lt_of_le hw hk.size, fun i a ha => ?_⟩
    obtain ⟨kv, h⟩ := hc i a ha
    have e : ∀ o, w'.cell? ⟨g, o, none⟩ = w.cell? ⟨g, o, none⟩ := fun o => World.cell?_of_block (hk.block g hw (fun ht => by have := hT g ht; omega))
    exact ⟨kv, ⟨(e _).trans h.c0, (e _).trans h.c1, (e _).trans h.c2, (e _).trans h.c3, h.kp.kept hk (fun i hi ht => by have := hT i ht; have := h.kb i hi; omega), h.kb⟩⟩

theorem IsOps.shape (h : IsOps B v l w) : ∃ a c, v = .slice a l.length c := by
  rcases h with ⟨⟨a, c, rfl⟩, rfl⟩ | ⟨g, off, cap, rfl, _⟩
  · exact ⟨_, _, rfl⟩
  · exact ⟨_, _, rfl⟩

theorem IsOps.get {va : Option Addr} {vc : Nat} (h : IsOps B (.slice va l.length vc) l w) {k : Nat} {a : Op'} (ha : l[k]? = some a) : ∃ g off, va = some ⟨g, off, none⟩ ∧ g < B ∧ g < w.heap.size ∧ ∃ kv, OpAt B g (off + k * 4) a kv w := by
  rcases h with ⟨_, rfl⟩ | ⟨g, off, cap, e, h1, h2, hc⟩
  · simp at ha
  · simp at e
    exact ⟨g, off, e.1, h1, h2, hc k a ha⟩

def FewOpL (l : List Op') : Prop := l.length ≤ 25 ∧ ∀ a ∈ l, a.S.length ≤ 200 ∧ a.Keep.length ≤ 50

def FewOpP (l : List Op') (w : World) (r : Ending) (w' : World) : Prop := ∃ t : Bool, r = .returned (.bool t) ∧ (t = true → FewOpL l) ∧ w = w'

set_option maxHeartbeats 2000000 in
set_option maxRecDepth 100000 in
theorem fewop_calls (h : IsOps B v l w) (hb : l.length ≤ 9223372036854775807) (hfit : ∀ a ∈ l, a.S.length ≤ 9223372036854775807) (hkf : ∀ a ∈ l, a.Keep.length ≤ 9223372036854775807) :
    Calls Tryz.prog 8 #[v] w (FewOpP l w) := by
  obtain ⟨va, vc, rfl⟩ := h.shape
  have H := Lib.hid h
  have HF := Lib.hid hfit
  have HKF := Lib.hid hkf
  clear h hfit hkf
  go_enter Tryz.func8, Tryz.ntmps8
  go_wp2_with fail
  go_loopw [3] (fun i wr => ∃ k : Nat, k ≤ l.length ∧ i = .int .i64 k ∧ wr = w ∧ ∀ a ∈ l.take k, a.S.length ≤ 200 ∧ a.Keep.length ≤ 50) (fun i _ => l.length - (intOf i).toNat)
  case atStart => exact ⟨0, by omega, rfl, rfl, by simp⟩
  case round =>
    obtain ⟨k, hk, rfl, rfl, hall⟩ := hrel
    by_cases hlt : k < l.length
    · obtain ⟨a, ha⟩ : ∃ a, l[k]? = some a := ⟨_, List.getElem?_eq_getElem hlt⟩
      obtain ⟨g, off, rfl, _, _, kv, hat⟩ := H.out.get ha
      have a1 := hat.c1
      have a3 := hat.c3
      have hbl := bs_size a.S
      have hal := HF.out a (List.mem_of_getElem? ha)
      have hkl := HKF.out a (List.mem_of_getElem? ha)
      obtain ⟨ka, kc, rfl⟩ := keep_shape hat.kp
      have HA := Lib.hid ha
      have HALL := Lib.hid hall
      clear hat ha hall
      have d2 : (k : Int) < (l.length : Int) := by omega
      go_wp2_with fail
      all_goals first
        | (go_ret; exact ⟨false, rfl, fun h => by simp at h, rfl⟩)
        | (go_roundw
           case rel =>
             refine ⟨k + 1, by omega, by go_num, trivial, ?_⟩
             intro x hx
             rw [List.take_add_one, HA.out, List.mem_append] at hx
             rcases hx with hx | hx
             · exact HALL.out x hx
             · simp at hx
               subst hx
               omega
           case measure => simp [intOf]; omega)
    · obtain rfl : k = l.length := by omega
      have hall2 := hall
      rw [List.take_length] at hall2
      have HALL := Lib.hid hall2
      clear hall hall2
      go_wp2_with fail
      go_ret
      exact ⟨_, rfl, fun h => ⟨by have := of_decide_eq_true h; omega, HALL.out⟩, rfl⟩

set_option maxRecDepth 100000 in
theorem disky_calls (e : Int) (w : World) : Calls Tryz.prog 33 #[.int .i64 e] w fun r w' => r = .returned (.bool (decide (e = 8) || decide (e = 9))) ∧ w = w' := by
  by_cases h8 : e = 8
  · subst h8
    go_enter Tryz.func33, Tryz.ntmps33
    go_wp2
    go_ret
    exact ⟨rfl, rfl⟩
  · have d1 : (e == 8) = false := by simpa using h8
    by_cases h9 : e = 9
    · subst h9
      go_enter Tryz.func33, Tryz.ntmps33
      go_wp2
      go_ret
      exact ⟨rfl, rfl⟩
    · have d2 : (e == 9) = false := by simpa using h9
      have H8 := Lib.hid h8
      have H9 := Lib.hid h9
      go_enter Tryz.func33, Tryz.ntmps33
      go_wp2
      go_ret
      exact ⟨by rw [decide_eq_false H8.out, decide_eq_false H9.out]; rfl, rfl⟩

set_option maxHeartbeats 1000000 in
set_option maxRecDepth 100000 in
theorem begins_calls {u v : Value} {L A : List (List UInt8)} {w : World} (hu : IsTexts u L w) (hcap : ∀ a n c, u = .slice a n c → n ≤ c) (hv : IsTexts v A w) (hL : L.length ≤ 4294967297) (hA : ∃ m, A = L.take m) :
    Calls Tryz.prog 34 #[u, v] w fun e w' => e = .returned (.bool true) ∧ ∃ n, w' = w.drewN n := by
  obtain ⟨a, c, rfl⟩ := hu.len
  obtain ⟨b, d, rfl⟩ := hv.len
  have hlc : L.length ≤ c := hcap _ _ _ rfl
  clear hcap
  have hAl : A.length ≤ L.length := by obtain ⟨m, rfl⟩ := hA; rw [List.length_take]; omega
  have hAe : A = L.take A.length := by
    obtain ⟨m, rfl⟩ := hA
    rw [List.length_take]
    by_cases hm : m ≤ L.length
    · rw [Nat.min_eq_left hm]
    · rw [Nat.min_eq_right (by omega), List.take_length, List.take_of_length_le (by omega)]
  have h1 := texts_take hu hAl
  rw [← hAe] at h1
  obtain ⟨n, hn⟩ : ∃ n, n = A.length := ⟨_, rfl⟩
  have hC := Lib.hid (tsame_eq _ _ A w h1 hv (by omega))
  have hmin : min (A.length : Int) (L.length : Int) = (A.length : Int) := by omega
  clear h1 hAe hA hu hv hn
  go_enter Tryz.func34, Tryz.ntmps34
  go_wp2_with fail
  refine hC.out.mono ?_
  rintro e w1 ⟨rfl, n, rfl⟩
  go_wp2
  go_ret
  exact ⟨rfl, n, rfl⟩

end Go.Proofs.YtanecondopbfhaaGreatDoor
