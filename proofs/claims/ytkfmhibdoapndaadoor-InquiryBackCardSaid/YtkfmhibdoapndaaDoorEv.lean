/- Weights; lists of numbers that are all as they should be; totals. -/
import Derived.Test.YtkfmhibdoapndaaDoorSl
import Derived.Test.YtkfmhibdoapndaaDoorName
namespace Go.Proofs.YtkfmhibdoapndaaDoor
open Go.RowKit

theorem all_drop {α : Type} (p : α → Bool) (l : List α) (k : Nat) (h : k < l.length) : (l.drop k).all p = (p l[k] && (l.drop (k + 1)).all p) := by
  rw [List.drop_eq_getElem_cons h]; rfl
/-- A weight. -/
def wB (n : Int) : Bool := decide (0 ≤ n) && decide (n ≤ 12)
theorem wok_calls (x : Int) (w : World) :
    Calls Tryd.prog 32 #[.int .i64 x] w fun e w' => e = .returned (.bool (wB x)) ∧ w = w' := by
  unfold wB
  by_cases h : 0 ≤ x
  · have d : decide (0 ≤ x) = true := decide_eq_true h
    go_enter Tryd.func32, Tryd.ntmps32
    go_wp2
    go_ret
    exact ⟨ret_b (by rw [d]; simp), rfl⟩
  · have d : decide (0 ≤ x) = false := decide_eq_false h
    go_enter Tryd.func32, Tryd.ntmps32
    go_wp2
    go_ret
    exact ⟨ret_b (by simp), rfl⟩
theorem notw_calls (b : Nat) (x : Int) (w : World) (h : w.cell? ⟨b, 0, none⟩ = some (.func (.func 32) #[] #[])) :
    Calls Tryd.prog 45 #[.int .i64 x, .pointer (some ⟨b, 0, none⟩)] w fun e w' => e = .returned (.bool (!wB x)) ∧ w = w' := by
  have c1 := Lib.hid (wok_calls x w)
  obtain ⟨V, hV⟩ : ∃ V, V = wB x := ⟨_, rfl⟩
  rw [← hV] at c1 ⊢
  clear hV
  go_enter Tryd.func45, Tryd.ntmps45
  go_wp2_with fail
  refine Calls.mono c1.out ?_
  rintro e w' ⟨rfl, rfl⟩
  go_wp2
  go_ret
  exact ⟨rfl, rfl⟩
set_option maxRecDepth 100000 in
set_option maxHeartbeats 2000000 in
theorem widx_calls (b : Nat) (v : Value) (l : List Int) (hl : l.length ≤ 9223372036854775807) (w : World) (h : w.cell? ⟨b, 0, none⟩ = some (.func (.func 32) #[] #[])) (hv : IsNums v l w) :
    Calls Tryd.prog 55 #[v, .func (.func 45) #[] #[.pointer (some ⟨b, 0, none⟩)]] w fun e w' => (∃ i : Int, e = .returned (.int .i64 i) ∧ decide (0 ≤ i) = !l.all wB) ∧ w = w' := by
  obtain ⟨a, cap, rfl⟩ := hv.len
  have c1 := fun x => Lib.hid (notw_calls b x w h)
  have HV := Lib.hid hv
  clear h hv
  go_enter Tryd.func55, Tryd.ntmps55
  go_wp2
  go_loop [8] (fun i => ∃ k : Nat, k ≤ l.length ∧ i = .int .i64 k ∧ (l.drop k).all wB = l.all wB) (fun i => l.length - (intOf i).toNat)
  case atStart => exact ⟨0, Nat.zero_le _, rfl, rfl⟩
  case round =>
    obtain ⟨k, hk, rfl, hal⟩ := hrel
    by_cases hlt : k < l.length
    · obtain ⟨bk, off, rfl, _, x, hx, y0⟩ := HV.out.at k hlt
      have HA := Lib.hid ((all_drop wB l k hlt).symm.trans hal)
      rw [← hx] at HA
      have c2 := c1 x
      obtain ⟨V, hVe⟩ : ∃ V, V = wB x := ⟨_, rfl⟩
      rw [← hVe] at c2 HA
      have hkl : (k : Int) < (l.length : Int) := by omega
      clear hx hal hVe c1
      go_wp2_with fail
      refine Calls.mono c2.out ?_
      rintro e w3 ⟨rfl, rfl⟩
      cases V
      · have HN : Hid (decide ((0 : Int) ≤ (k : Int)) = !l.all wB) := by show _ = !l.all wB; rw [← HA.out]; simp
        go_wp2
        go_ret
        exact ⟨⟨_, rfl, HN.out⟩, rfl⟩
      · have HN : Hid ((l.drop (k + 1)).all wB = l.all wB) := by show _ = l.all wB; rw [← HA.out]; rfl
        clear HA
        go_wp2
        go_round
        case rel => exact ⟨k + 1, by omega, by go_num, HN.out⟩
        case measure => simp [intOf]; omega
    · obtain rfl : k = l.length := by omega
      have HN : Hid (decide ((0 : Int) ≤ -1) = !l.all wB) := by show _ = !l.all wB; rw [← hal, List.drop_length]; rfl
      clear hal
      go_wp2
      go_ret
      exact ⟨⟨_, rfl, HN.out⟩, rfl⟩
set_option maxRecDepth 100000 in
theorem wany_calls (b : Nat) (v : Value) (l : List Int) (hl : l.length ≤ 9223372036854775807) (w : World) (h : w.cell? ⟨b, 0, none⟩ = some (.func (.func 32) #[] #[])) (hv : IsNums v l w) :
    Calls Tryd.prog 44 #[v, .func (.func 45) #[] #[.pointer (some ⟨b, 0, none⟩)]] w fun e w' => e = .returned (.bool (!l.all wB)) ∧ w = w' := by
  have c1 := Lib.hid (widx_calls b v l hl w h hv)
  clear h hv
  go_enter Tryd.func44, Tryd.ntmps44
  go_wp2_with fail
  refine Calls.mono c1.out ?_
  rintro e w' ⟨⟨i, rfl, hi⟩, rfl⟩
  have HI := Lib.hid hi
  clear hi
  go_wp2
  go_ret
  exact ⟨ret_b HI.out, rfl⟩
theorem below_one (w : World) (o : Obj) : Below w.heap.size w (w.alloc o) := (Below.refl _ w).alloc (Nat.le_refl _) o
set_option maxRecDepth 100000 in
theorem wevery_calls (v : Value) (l : List Int) (hl : l.length ≤ 9223372036854775807) (w : World) (hv : IsNums v l w) :
    Calls Tryd.prog 31 #[v, .func (.func 32) #[] #[]] w fun e w' => e = .returned (.bool (l.all wB)) ∧ Below w.heap.size w w' := by
  have hb := below_one w (.cells #[.func (.func 32) #[] #[]] 70)
  have hB := Blk.new w 70 #[.func (.func 32) #[] #[]]
  have c1 := Lib.hid (wany_calls w.heap.size v l hl _ (hB.cell 0) (hv.next hb))
  obtain ⟨a, cap, rfl⟩ := hv.len
  obtain ⟨V, hV⟩ : ∃ V, V = l.all wB := ⟨_, rfl⟩
  rw [← hV] at c1 ⊢
  clear hV hB hv
  go_enter Tryd.func31, Tryd.ntmps31
  go_wp2_with fail
  refine Calls.mono c1.out ?_
  rintro e w' ⟨rfl, rfl⟩
  go_wp2
  go_ret
  exact ⟨ret_b (by cases V <;> rfl), hb⟩

/-! ### totals -/
def sumW (l : List Int) : Int := l.foldr (· + ·) 0
theorem sumW_take (l : List Int) (k : Nat) (h : k < l.length) : sumW (l.take (k + 1)) = sumW (l.take k) + l[k] := by
  induction l generalizing k with
  | nil => simp at h
  | cons a l ih =>
    cases k with
    | zero => simp [sumW]
    | succ k =>
      simp only [List.length_cons] at h
      have := ih k (by omega)
      simp only [List.take_succ_cons, List.getElem_cons_succ]
      show a + sumW (l.take (k + 1)) = a + sumW (l.take k) + l[k]
      rw [this]; omega
theorem sumW_bound : ∀ (l : List Int), l.all wB = true → 0 ≤ sumW l ∧ sumW l ≤ 12 * (l.length : Int)
  | [], _ => by simp [sumW]
  | a :: l, h => by
    rw [List.all_cons, Bool.and_eq_true] at h
    have := sumW_bound l h.2
    have ha := h.1
    unfold wB at ha
    simp only [Bool.and_eq_true, decide_eq_true_eq] at ha
    show 0 ≤ a + sumW l ∧ a + sumW l ≤ _
    simp only [List.length_cons]
    omega
theorem all_take {α : Type} (p : α → Bool) (l : List α) (k : Nat) (h : l.all p = true) : (l.take k).all p = true := by
  rw [List.all_eq_true] at h ⊢
  intro x hx
  exact h x (List.mem_of_mem_take hx)
set_option maxRecDepth 100000 in
set_option maxHeartbeats 2000000 in
theorem total_calls (v : Value) (l : List Int) (hl : l.length ≤ 400) (ha : l.all wB = true) (w : World) (hv : IsNums v l w) :
    Calls Tryd.prog 20 #[v] w fun e w' => e = .returned (.int .i64 (sumW l)) ∧ w = w' := by
  obtain ⟨a, cap, rfl⟩ := hv.len
  have HV := Lib.hid hv
  have HS := fun k => Lib.hid (sumW_bound (l.take k) (all_take wB l k ha))
  have HA := Lib.hid ha
  clear hv ha
  go_enter Tryd.func20, Tryd.ntmps20
  go_wp2
  go_loop [8, 3] (fun i s => ∃ k : Nat, k ≤ l.length ∧ i = .int .i64 k ∧ s = .int .i64 (sumW (l.take k))) (fun i _ => l.length - (intOf i).toNat)
  case atStart => exact ⟨0, Nat.zero_le _, rfl, rfl⟩
  case round =>
    obtain ⟨k, hk, rfl, rfl⟩ := hrel
    by_cases hlt : k < l.length
    · obtain ⟨bk, off, rfl, _, x, hx, y0⟩ := HV.out.at k hlt
      have HT := Lib.hid (sumW_take l k hlt)
      rw [← hx] at HT
      have hb1 := (HS k).out
      have hb2 := (HS (k + 1)).out
      rw [HT.out] at hb2
      have hlk : (l.take k).length = k := by simp; omega
      have hlk2 : (l.take (k + 1)).length = k + 1 := by simp; omega
      rw [hlk] at hb1
      rw [hlk2] at hb2
      generalize sumW (l.take k) = S at *
      have hkl : (k : Int) < (l.length : Int) := by omega
      obtain ⟨hb1, hb1'⟩ := hb1
      obtain ⟨hb2, hb2'⟩ := hb2
      have h400 : (k : Int) ≤ 400 := by omega
      clear hx hlk hlk2
      go_wp2
      go_round
      case rel => exact ⟨k + 1, by omega, by go_num, by rw [HT.out]⟩
      case measure => simp [intOf]; omega
    · obtain rfl : k = l.length := by omega
      go_wp2
      go_ret
      exact ⟨ret_i (by simp), rfl⟩
end Go.Proofs.YtkfmhibdoapndaaDoor
