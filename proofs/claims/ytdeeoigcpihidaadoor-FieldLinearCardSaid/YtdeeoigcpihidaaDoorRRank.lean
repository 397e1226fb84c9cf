/- The reference's Rank; what its kernel rests on. -/
import Derived.Test.YtdeeoigcpihidaaDoorRSol
namespace Go.Proofs.YtdeeoigcpihidaaDoor
open Go.RowKit

theorem redF_agree2 {q : Int} {n c : Nat} : ∀ (f j : Nat) (piv : List Nat) (M N : Nat → Nat → Int), agree c M N → j + f ≤ c → (redF q n f j piv M).1 = (redF q n f j piv N).1 ∧ agree c (redF q n f j piv M).2 (redF q n f j piv N).2
  | 0, _, _, _, _, h, _ => ⟨rfl, h⟩
  | f + 1, j, piv, M, N, h, hc => by
    rw [redF, redF]
    have e : (fun i => M (piv.length + i) j != 0) = fun i => N (piv.length + i) j != 0 := by funext i; rw [h _ j (by omega)]
    rw [e]
    split
    · exact redF_agree2 f (j + 1) piv M N h (by omega)
    · exact redF_agree2 f (j + 1) _ _ _ (agree_step h (by omega)) (by omega)
def Asc (l : List Nat) : Prop := ∀ i k, i < k → k < l.length → l.getD i 0 < l.getD k 0
theorem redF_asc (q : Int) (n : Nat) : ∀ (f j : Nat) (piv : List Nat) (M : Nat → Nat → Int), Asc piv → (∀ i, i < piv.length → piv.getD i 0 < j) → Asc (redF q n f j piv M).1
  | 0, _, _, _, h, _ => h
  | f + 1, j, piv, M, h, hl => by
    rw [redF]
    split
    · exact redF_asc q n f (j + 1) piv M h fun i hi => by have := hl i hi; omega
    · refine redF_asc q n f (j + 1) _ _ (fun a b hab hb => ?_) fun i hi => ?_
      · rw [List.length_append, List.length_singleton] at hb
        by_cases e : b < piv.length
        · rw [getD_app e, getD_app (by omega)]; exact h a b hab e
        · obtain rfl : b = piv.length := by omega
          rw [getD_end, getD_app hab]; exact hl a hab
      · rw [List.length_append, List.length_singleton] at hi
        by_cases e : i < piv.length
        · rw [getD_app e]; have := hl i e; omega
        · obtain rfl : i = piv.length := by omega
          rw [getD_end]; omega
/-- So many pivots lie before a column. -/
def Upto (piv : List Nat) (k j : Nat) : Prop := k ≤ piv.length ∧ (∀ i, i < k → piv.getD i 0 < j) ∧ ∀ i, k ≤ i → i < piv.length → j ≤ piv.getD i 0
theorem Upto.hit {piv : List Nat} {k j : Nat} (ha : Asc piv) (h : Upto piv k j) (hk : k < piv.length) (he : piv.getD k 0 = j) : j ∈ piv ∧ Upto piv (k + 1) (j + 1) := by
  refine ⟨mem_getD.2 ⟨k, hk, he⟩, hk, fun i hi => ?_, fun i h1 h2 => ?_⟩
  · by_cases e : i = k
    · subst e; omega
    · have := h.2.1 i (by omega); omega
  · have := ha k i (by omega) h2; omega
theorem Upto.miss {piv : List Nat} {k j : Nat} (ha : Asc piv) (h : Upto piv k j) (hk : k < piv.length → piv.getD k 0 ≠ j) : ¬ j ∈ piv ∧ Upto piv k (j + 1) := by
  have hgt : ∀ i, k ≤ i → i < piv.length → j + 1 ≤ piv.getD i 0 := fun i h1 h2 => by
    by_cases e : i = k
    · subst e
      have := hk h2
      have := h.2.2 i h1 h2
      omega
    · have h3 := ha k i (by omega) h2
      have := h.2.2 k (Nat.le_refl _) (by omega)
      omega
  refine ⟨fun hm => ?_, h.1, fun i hi => by have := h.2.1 i hi; omega, hgt⟩
  obtain ⟨i, hi, he⟩ := mem_getD.1 hm
  by_cases e : i < k
  · have := h.2.1 i e; omega
  · have := hgt i (by omega) hi; omega
def zeroL (n : Nat) : List Int := (List.range n).map fun _ => 0
theorem zeroL_len (n : Nat) : (zeroL n).length = n := by simp [zeroL]
theorem zeroL_int (n : Nat) : ∀ x ∈ zeroL n, isInt x := fun x hx => by
  obtain ⟨_, _, rfl⟩ := List.mem_map.1 hx
  unfold isInt; omega
theorem made_zero (w : World) (n : Nat) : IsInts (.slice (some ⟨w.heap.size, 0, none⟩) n n) (zeroL n) (w.alloc (.cells (madeCells #[.int .i64 0] n) 3)) := by
  have h := World.rowIs_made w (.int .i64 0) n 3
  exact ints_range ⟨h.lt, fun j hj => h.cell hj, fun j => h.frozen j⟩
theorem aug_agree (q : Int) (xss : List (List Int)) (b : List Int) (c : Nat) : agree c (augM q xss b c) (resM q xss) := fun _ _ hj => augM_low hj
set_option maxRecDepth 100000 in
set_option maxHeartbeats 2000000 in
theorem rrank_calls (q : Int) (hqi : isInt q) (v : Value) (xss : List (List Int)) (hn : xss.length ≤ 9223372036854775807) (hr : ∀ r ∈ xss, r.length ≤ 9223372036854775807) (hi : ∀ r ∈ xss, ∀ x ∈ r, isInt x) (w : World) (h : IsRows v xss w) :
    Calls Tryd.prog 15 #[.int .i64 q, v] w fun e w' => e = .returned (.int .i64 (rankZ q xss)) ∧ Below w.heap.size w w' := by
  obtain ⟨a, cap, rfl⟩ := h.len
  have c1 := Lib.hid (rprime_calls q hqi w)
  cases hp : primeB q with
  | false =>
    have HV : Hid (rankZ q xss = -1) := by show _ = _; unfold rankZ; rw [if_neg (by rw [hp]; simp)]
    rw [hp] at c1
    clear hp h hr hi
    go_enter Tryd.func15, Tryd.ntmps15
    go_wp2_with fail
    refine c1.out.mono ?_
    rintro e w1 ⟨rfl, hb1⟩
    have HB := Lib.hid hb1
    clear hb1 c1
    go_wp2
    go_ret
    exact ⟨ret_i HV.out.symm, HB.out⟩
  | true =>
    rw [hp] at c1
    have c2 := fun w' hb => Lib.hid (rmatrix_calls (.slice a xss.length cap) xss w' (h.next hb) hn hr)
    cases hm : matB xss with
    | false =>
      have HV : Hid (rankZ q xss = -1) := by show _ = _; unfold rankZ; rw [if_neg (by rw [hm]; simp)]
      rw [hm] at c2
      clear hp hm h hr hi
      go_enter Tryd.func15, Tryd.ntmps15
      go_wp2_with fail
      refine c1.out.mono ?_
      rintro e w1 ⟨rfl, hb1⟩
      have HB := Lib.hid hb1
      have d2 := c2 w1 hb1
      clear hb1 c1 c2
      go_wp2_with fail
      refine Calls.mono d2.out ?_
      rintro e w2 ⟨rfl, m, rfl⟩
      clear d2
      go_wp2
      go_ret
      exact ⟨ret_i HV.out.symm, below_drewN HB.out m⟩
    | true =>
      rw [hm] at c2
      have c3 := fun w' hb => Lib.hid (rwidth_calls (.slice a xss.length cap) xss w' (h.next hb))
      have hq := primeB_mod hp
      obtain ⟨hn64, hc64, hrc⟩ := matB_rows hm
      obtain ⟨P, hP⟩ : ∃ P, P = redF q xss.length (widF xss) 0 [] (augM q xss (zeroL xss.length) (widF xss)) := ⟨_, rfl⟩
      have HV : Hid (rankZ q xss = (P.1.length : Int)) := by
        show _ = _
        unfold rankZ
        rw [if_pos ⟨hm, hp⟩, hP, (redF_agree2 (widF xss) 0 [] _ _ (aug_agree q xss (zeroL xss.length) (widF xss)) (by omega)).1]
      have c4 := fun w' hb bv hbv => Lib.hid (rresid_calls q hq (.slice a xss.length cap) bv xss (zeroL xss.length) (widF xss) hrc (by omega) (by omega) (zeroL_len _) hi (zeroL_int _) w' (h.next hb) hbv)
      obtain ⟨c, hc⟩ : ∃ c, c = widF xss := ⟨_, rfl⟩
      obtain ⟨n, hnn⟩ : ∃ n, n = xss.length := ⟨_, rfl⟩
      have c5 := fun H cap' w' hm' hB1 hB2 => Lib.hid (rreduced_calls q hq w.heap.size H n (c + 1) c cap' (by omega) (by omega) (by omega) hB1 (augM q xss (zeroL n) c) (augM_all hq xss (zeroL n) c n (c + 1)) w' hm' hB2)
      rw [← hc, ← hnn] at hP c4
      rw [← hP] at c5
      rw [← hc] at c3 hc64
      rw [← hnn] at c2 c3 hn64
      rw [← hnn]
      have hmk := fun w => run_make_row' (P := Tryd.prog) 23 3 (.int .i64 0) 8 Tryd.underlying23 infoInt' rfl .i64 .i64 n (by omega) (by omega) w
      clear hp hm hc hnn hP h hi hr hn hrc hqi hq
      go_enter Tryd.func15, Tryd.ntmps15
      go_wp2_with fail
      refine c1.out.mono ?_
      rintro e w1 ⟨rfl, hb1⟩
      have d2 := c2 w1 hb1
      have HB1 := Lib.hid hb1
      clear hb1 c1 c2
      go_wp2_with fail
      refine Calls.mono d2.out ?_
      rintro e w2 ⟨rfl, m, rfl⟩
      have HB2 : Hid (Below w.heap.size w (w1.drewN m)) := below_drewN HB1.out m
      generalize w1.drewN m = w2 at *
      have hb3 : Below w.heap.size w (w2.alloc (.cells (madeCells #[.int .i64 0] n) 3)) := HB2.out.trans ((below_one w2 _).mono HB2.out.size)
      have d4 := c4 _ hb3 _ (made_zero w2 n)
      have HB3 := Lib.hid hb3
      clear d2 HB1 c4 hb3
      go_wp2_with fail
      refine Calls.mono d4.out ?_
      rintro e w3 ⟨H, cp, rfl, hH, hM, hb3⟩
      have HB4 : Hid (Below w.heap.size w w3) := HB3.out.trans (hb3.mono HB3.out.size)
      have d3 := c3 w3 HB4.out
      have d5 := c5 H cp w3 hM (by have := HB3.out.size; omega) HB4.out.size
      clear d4 hM hb3 HB2 HB3 c5 hH hmk c3
      go_wp2_with fail
      refine Calls.mono d3.out ?_
      rintro e w4 ⟨rfl, rfl⟩
      go_wp2_with fail
      refine Calls.mono d5.out ?_
      rintro e w4 ⟨pv, rfl, hRS, hln⟩
      obtain ⟨ap, cpp, rfl⟩ := own_len hRS.own
      have HB5 : Hid (Below w.heap.size w w4) := HB4.out.trans hRS.bel
      clear hRS d5 d3
      go_wp2
      go_ret
      exact ⟨ret_i HV.out.symm, HB5.out⟩
end Go.Proofs.YtdeeoigcpihidaaDoor
