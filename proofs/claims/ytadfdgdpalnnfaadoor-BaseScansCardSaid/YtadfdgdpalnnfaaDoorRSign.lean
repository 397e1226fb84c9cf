/- The reference's sign. -/
import Derived.Test.YtadfdgdpalnnfaaDoorRUnq
import Derived.Test.YtadfdgdpalnnfaaDoorTok
import Derived.Deep.QuietTactic
import Derived.BigQuiet
namespace Go.Proofs.YtadfdgdpalnnfaaDoor
open Go.RowKit

def rsignL : List (List UInt8) := [[40], [41], [123], [125], [44], [59], [58], [46], [46, 46], [61], [33, 61], [60], [60, 61], [62], [62, 61], [43], [45], [42], [47]]
def bstep (x : List UInt8) (o : Nat) (s : List UInt8) : Nat := if o < s.length ∧ Lib.hasPrefix x s = true then s.length else o
def bestS (x : List UInt8) (k : Nat) : Nat := (rsignL.take k).foldl (bstep x) 0
theorem best_next (x : List UInt8) (k : Nat) (s : List UInt8) (h : rsignL[k]? = some s) : bestS x (k + 1) = bstep x (bestS x k) s := by
  obtain ⟨hk, he⟩ := List.getElem?_eq_some_iff.1 h
  unfold bestS
  rw [List.take_succ_eq_append_getElem hk, List.foldl_append, he]
  rfl
theorem bfold (x : List UInt8) : ∀ (L : List (List UInt8)) (o : Nat), o ≤ 2 → (∀ s ∈ L, s.length = 1 ∨ s.length = 2) → L.foldl (bstep x) o =
    if (L.any fun s => decide (s.length = 2) && Lib.hasPrefix x s) = true then 2 else if (L.any fun s => decide (s.length = 1) && Lib.hasPrefix x s) = true then max o 1 else o
  | [], o, _, _ => by simp
  | s :: L, o, ho, hL => by
    have hs := hL s (by simp)
    have ho2 : bstep x o s ≤ 2 := by unfold bstep; split <;> omega
    rw [List.foldl_cons, bfold x L _ ho2 (fun t ht => hL t (List.mem_cons_of_mem _ ht)), List.any_cons, List.any_cons]
    cases h2 : (L.any fun s => decide (s.length = 2) && Lib.hasPrefix x s) <;> cases h1 : (L.any fun s => decide (s.length = 1) && Lib.hasPrefix x s) <;> cases hp : Lib.hasPrefix x s <;> rcases hs with hs | hs <;> simp [bstep, hp, hs] <;> (try split) <;> omega
theorem best_sign (x : List UInt8) : bestS x 19 = match signF x with | some s => s.length | none => 0 := by
  have e := bfold x rsignL 0 (by omega) (by decide)
  have e1 : bestS x 19 = rsignL.foldl (bstep x) 0 := rfl
  rw [e1, e]
  have e2 : (rsignL.any fun s => decide (s.length = 2) && Lib.hasPrefix x s) = (signL.take 4).any fun s => Lib.hasPrefix x s := by simp [rsignL, signL]
  have e3 : (rsignL.any fun s => decide (s.length = 1) && Lib.hasPrefix x s) = (signL.drop 4).any fun s => Lib.hasPrefix x s := by simp [rsignL, signL]
  have e4 : signF x = ((signL.take 4).find? fun s => Lib.hasPrefix x s).or ((signL.drop 4).find? fun s => Lib.hasPrefix x s) := by
    unfold signF
    rw [← List.find?_append, List.take_append_drop]
  rw [e2, e3, e4]
  cases h1 : (signL.take 4).find? fun s => Lib.hasPrefix x s with
  | some s =>
    have hm := List.mem_of_find?_eq_some h1
    have hp := List.find?_some h1
    have hl : ∀ s ∈ signL.take 4, s.length = 2 := by decide
    have ha : ((signL.take 4).any fun s => Lib.hasPrefix x s) = true := List.any_eq_true.2 ⟨s, hm, hp⟩
    rw [if_pos ha]
    simp [hl s hm]
  | none =>
    have ha : ((signL.take 4).any fun s => Lib.hasPrefix x s) = false := by
      rw [List.any_eq_false]
      intro s hs
      exact List.find?_eq_none.1 h1 s hs
    rw [ha]
    cases h2 : (signL.drop 4).find? fun s => Lib.hasPrefix x s with
    | some s =>
      have hm := List.mem_of_find?_eq_some h2
      have hp := List.find?_some h2
      have hl : ∀ s ∈ signL.drop 4, s.length = 1 := by decide
      have hb : ((signL.drop 4).any fun s => Lib.hasPrefix x s) = true := List.any_eq_true.2 ⟨s, hm, hp⟩
      rw [if_neg (by simp), if_pos hb]
      simp [hl s hm]
    | none =>
      have hb : ((signL.drop 4).any fun s => Lib.hasPrefix x s) = false := by
        rw [List.any_eq_false]
        intro s hs
        exact List.find?_eq_none.1 h2 s hs
      rw [hb]
      simp

theorem pre_take (x s : List UInt8) : Lib.hasPrefix x s = decide (x.take s.length = s) := by
  have h : Lib.hasPrefix x s = s.isPrefixOf x := rfl
  rw [h, Bool.eq_iff_iff, List.isPrefixOf_iff_prefix, decide_eq_true_eq, List.prefix_iff_eq_take]
  exact eq_comm
theorem bs_mid (l : List UInt8) (a n : Nat) : (bs l).extract a (a + n) = bs ((l.drop a).take n) := by
  rw [Lib.extract_eq, bs_data, show a + n - a = n by omega]; rfl
theorem rsign_len : ∀ s ∈ rsignL, 1 ≤ s.length ∧ s.length ≤ 2 := by decide
theorem best_le (x : List UInt8) : ∀ k, bestS x k ≤ 2 := by
  intro k
  unfold bestS
  have : ∀ (L : List (List UInt8)) (o : Nat), o ≤ 2 → (∀ s ∈ L, s.length ≤ 2) → L.foldl (bstep x) o ≤ 2 := by
    intro L
    induction L with
    | nil => intro o h _; exact h
    | cons s L ih =>
      intro o h hL
      have := hL s (by simp)
      exact ih _ (by unfold bstep; split <;> omega) (fun t ht => hL t (List.mem_cons_of_mem _ ht))
  exact this _ 0 (by omega) (fun s hs => (rsign_len s (List.mem_of_mem_take hs)).2)

theorem rsignL_at (k : Nat) (h : k < 19) : ∃ s, rsignL[k]? = some s ∧ 1 ≤ s.length ∧ s.length ≤ 2 := by
  have h2 : k < rsignL.length := h
  exact ⟨_, List.getElem?_eq_getElem h2, rsign_len _ (List.getElem_mem h2)⟩
def rsCells : Array Value := (rsignL.map fun s => Value.string (bs s)).toArray
theorem rs_cell (w : World) (k : Nat) (s : List UInt8) (h : rsignL[k]? = some s) : (w.alloc (.cells rsCells 9)).cell? ⟨w.heap.size, k, none⟩ = some (.string (bs s)) := by
  have h2 : rsCells[k]? = some (.string (bs s)) := by simp [rsCells, h]
  rw [World.cell?_alloc_new]; exact h2
set_option maxRecDepth 100000 in
theorem rsign_calls (l : List UInt8) (hl : l.length ≤ 100000000) (a : Nat) (ha : a < l.length) (w : World) :
    Calls Tryd.prog 45 #[.string (bs l), .int .i64 (a : Int)] w fun e w' => e = .returned (.int .i64 (bestS (l.drop a) 19 : Int)) ∧ Below w.heap.size w w' := by
  have hsm : (bs l).size ≤ 100000000 := by rw [bs_size]; exact hl
  have haI : (a : Int) < 100000000 := by omega
  have haS : (a : Int) ≤ ((bs l).size : Int) := by rw [bs_size]; omega
  go_enter Tryd.func45, Tryd.ntmps45
  go_wp2
  show Code.wp _ _ _ _ (w.alloc (.cells rsCells 9))
  have hcell := rs_cell w
  have hbel : Below w.heap.size w (w.alloc (.cells rsCells 9)) := (Below.refl _ _).alloc (Nat.le_refl _) _
  obtain ⟨B, hB⟩ : ∃ B, B = w.heap.size := ⟨_, rfl⟩
  rw [← hB] at hcell hbel ⊢
  generalize w.alloc (.cells rsCells 9) = V at *
  have HC := Lib.hid hcell
  have HBEL := Lib.hid hbel
  have HBB := Lib.hid hB
  clear hcell hbel hB
  go_loopw [6, 7] (fun o i wr => ∃ k n : Nat, k ≤ 19 ∧ i = .int .i64 k ∧ o = .int .i64 n ∧ n ≤ 2 ∧ Hid (n = bestS (l.drop a) k) ∧ ∃ m, wr = V.drewN m) (fun _ i _ => 19 - (intOf i).toNat)
  case atStart => exact ⟨0, 0, by omega, rfl, rfl, by omega, rfl, 0, rfl⟩
  case round =>
    obtain ⟨k, n, hk, rfl, rfl, hn2, HN, m, rfl⟩ := hrel
    by_cases hlt : k < 19
    · obtain ⟨s, hs, hs1, hs2⟩ := rsignL_at k hlt
      have hcv := HC.out k s hs
      have hcz : ∀ n, (V.drewN n).cell? ⟨B, k, none⟩ = some (.string (bs s)) := fun n => hcv
      have hnx := best_next (l.drop a) k s hs
      rw [← HN.out] at hnx
      have hz := bs_size s
      have hpt := pre_take (l.drop a) s
      have hmid := bs_mid l a s.length
      have hne := bs_ne_iff ((l.drop a).take s.length) s
      obtain ⟨t, ht⟩ : ∃ t, t = (l.drop a).take s.length := ⟨_, rfl⟩
      have htl : t.length = min s.length (l.length - a) := by rw [ht]; simp
      rw [← ht] at hpt hmid hne
      obtain ⟨z, hzz⟩ : ∃ z, z = s.length := ⟨_, rfl⟩
      rw [← hzz] at hz hs1 hs2 hmid htl
      have hkI : (k : Int) < 19 := by omega
      have HNX := Lib.hid hnx
      have HPT := Lib.hid hpt
      have HT := Lib.hid ht
      have HTL := Lib.hid htl
      have HZ := Lib.hid hzz
      clear hnx hpt ht htl hs hzz
      by_cases c1 : n < z
      · have d1 : decide (n < z) = true := decide_eq_true c1
        by_cases c2 : a + z ≤ l.length
        · have d2 : decide ((a : Int) + (z : Int) ≤ ((bs l).size : Int)) = true := decide_eq_true (by rw [bs_size]; omega)
          have d3 : (a : Int) + (z : Int) ≤ ((bs l).size : Int) := by rw [bs_size]; omega
          by_cases c3 : t = s
          · rw [decide_eq_true c3] at hne
            have HF : Hid (bestS (l.drop a) (k + 1) = z) := by show _ = _; rw [HNX.out]; unfold bstep; rw [if_pos ⟨by rw [← HZ.out]; exact c1, by rw [HPT.out]; exact decide_eq_true c3⟩, HZ.out]
            clear c2 c3
            go_wp2
            go_quiet (fail)
            go_wp2
            go_roundw
            case rel => exact ⟨k + 1, z, by omega, by go_num, rfl, hs2, HF.out.symm, _, rfl⟩
            case measure => simp only [intOf]; omega
          · rw [decide_eq_false c3] at hne
            have HF : Hid (bestS (l.drop a) (k + 1) = n) := by show _ = _; rw [HNX.out]; unfold bstep; rw [if_neg (fun h => c3 (by have h2 := h.2; rw [HPT.out] at h2; exact of_decide_eq_true h2))]
            clear c2 c3
            go_wp2
            go_quiet (fail)
            go_wp2
            go_roundw
            case rel => exact ⟨k + 1, n, by omega, by go_num, rfl, hn2, HF.out.symm, _, rfl⟩
            case measure => simp only [intOf]; omega
        · have d2 : decide ((a : Int) + (z : Int) ≤ ((bs l).size : Int)) = false := decide_eq_false (by rw [bs_size]; omega)
          have d3 : ¬ (a : Int) + (z : Int) ≤ ((bs l).size : Int) := by rw [bs_size]; omega
          have HF : Hid (bestS (l.drop a) (k + 1) = n) := by
            show _ = _
            rw [HNX.out]; unfold bstep
            rw [if_neg (fun h => by
              have h2 := h.2
              rw [HPT.out] at h2
              have h3 := congrArg List.length (of_decide_eq_true h2)
              rw [HTL.out, ← HZ.out] at h3
              omega)]
          clear c2 hne hmid
          go_wp2
          go_quiet (fail)
          go_wp2
          go_roundw
          case rel => exact ⟨k + 1, n, by omega, by go_num, rfl, hn2, HF.out.symm, _, rfl⟩
          case measure => simp only [intOf]; omega
      · have d1 : decide (n < z) = false := decide_eq_false c1
        have HF : Hid (bestS (l.drop a) (k + 1) = n) := by show _ = _; rw [HNX.out]; unfold bstep; rw [if_neg (fun h => c1 (by rw [HZ.out]; exact h.1))]
        clear c1 hne hmid
        go_wp2
        go_quiet (fail)
        go_wp2
        go_roundw
        case rel => exact ⟨k + 1, n, by omega, by go_num, rfl, hn2, HF.out.symm, _, rfl⟩
        case measure => simp only [intOf]; omega
    · obtain rfl : k = 19 := by omega
      go_wp2
      go_ret
      refine ⟨?_, ?_⟩
      · rw [HN.out]; rfl
      · rw [← HBB.out]; exact below_drewN HBEL.out _
end Go.Proofs.YtadfdgdpalnnfaaDoor
