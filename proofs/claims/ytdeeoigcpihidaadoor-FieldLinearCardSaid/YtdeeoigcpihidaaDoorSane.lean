/- The documented examples of linear algebra hold. -/
import Derived.Test.YtdeeoigcpihidaaDoorSame
namespace Go.Proofs.YtdeeoigcpihidaaDoor
open Go.RowKit

def rowsX : List (List Int) := [[1, 2, 3], [2, 4, 6]]
theorem x_sol1 : solO 11 rowsX [5, 10] = some [5, 0, 0] := by decide +kernel
theorem x_sol2 : solO 11 rowsX [5, 9] = none := by decide +kernel
theorem x_ker : kerO 11 rowsX 3 = some [[9, 1, 0], [8, 0, 1]] := by decide +kernel
theorem x_thr : (List.range 2).map (thrK 11 [1, 2] [3, 5] 2).1 = [1, 2] := by decide +kernel
theorem x_wts : (List.range 2).map (wtF 11 [1, 2] 0) = [2, 10] := by decide +kernel
theorem x_sep : sepB 11 [1, 2] = true := by decide +kernel
theorem x_rank : rankZ 11 rowsX = 1 := by decide +kernel
theorem x_at : atF 11 [1, 2] 0 = 1 := by decide +kernel
theorem x_prime : primeB 11 = true := by decide +kernel
theorem i11 : isInt 11 := by unfold isInt; omega
theorem i0 : isInt 0 := by unfold isInt; omega
theorem i3 : isInt 3 := by unfold isInt; omega
theorem smallI {l : List Int} (h : ∀ x ∈ l, 0 ≤ x ∧ x ≤ 100) : ∀ x ∈ l, isInt x := fun x hx => by have := h x hx; unfold isInt; omega
theorem lit2 (a b : Int) (w : World) (n : Nat) (hn : n = w.heap.size) : IsInts (.slice (some ⟨n, 0, none⟩) 2 2) [a, b] (w.alloc (.cells #[.int .i64 a, .int .i64 b] 3)) := by
  subst hn
  refine .inr ⟨_, 0, 2, rfl, by simp, fun i x hx => ?_⟩
  rw [Nat.zero_add, cell_of_row _ _ _ _ _ _ (heap_alloc_new w _)]
  match i, hx with
  | 0, hx => simp at hx; subst hx; rfl
  | 1, hx => simp at hx; subst hx; rfl
theorem lit3 (a b c : Int) (w : World) (n : Nat) (hn : n = w.heap.size) : IsInts (.slice (some ⟨n, 0, none⟩) 3 3) [a, b, c] (w.alloc (.cells #[.int .i64 a, .int .i64 b, .int .i64 c] 3)) := by
  subst hn
  refine .inr ⟨_, 0, 3, rfl, by simp, fun i x hx => ?_⟩
  rw [Nat.zero_add, cell_of_row _ _ _ _ _ _ (heap_alloc_new w _)]
  match i, hx with
  | 0, hx => simp at hx; subst hx; rfl
  | 1, hx => simp at hx; subst hx; rfl
  | 2, hx => simp at hx; subst hx; rfl
theorem rows2 {u v : Value} {a b : List Int} {w : World} (hu : IsInts u a w) (hv : IsInts v b w) (n : Nat) (hn : n = w.heap.size) : IsRows (.slice (some ⟨n, 0, none⟩) 2 2) [a, b] (w.alloc (.cells #[u, v] 23)) := by
  subst hn
  refine .inr ⟨_, 0, 2, rfl, by simp, fun i x hx => ?_⟩
  rw [Nat.zero_add, cell_of_row _ _ _ _ _ _ (heap_alloc_new w _)]
  match i, hx with
  | 0, hx => simp at hx; subst hx; exact ⟨u, rfl, hu.next (below_one w _)⟩
  | 1, hx => simp at hx; subst hx; exact ⟨v, rfl, hv.next (below_one w _)⟩
theorem rowsX_len : ∀ r ∈ rowsX, r.length ≤ 9223372036854775807 := by decide
theorem rowsX_int : ∀ r ∈ rowsX, ∀ x ∈ r, isInt x := fun r hr => smallI (by revert r; decide)
section
variable {w : World} (hE : Env w) {rv : Value} (hr : IsRows rv rowsX w)
include hE hr
theorem s_sol1 {bv : Value} (hb : IsInts bv [5, 10] w) : Calls Tryd.prog 8 #[.int .i64 11, rv, bv] w fun e w' => ∃ v, e = .returned (.tuple #[v, .bool true]) ∧ IsInts v [5, 0, 0] w' ∧ Below w.heap.size w w' := by
  have := solve_calls 11 i11 rv rowsX bv [5, 10] (by decide) rowsX_len (by decide) rowsX_int (smallI (by decide)) w hE hr hb
  unfold SolP at this
  rw [x_sol1] at this
  exact this
theorem s_sol2 {bv : Value} (hb : IsInts bv [5, 9] w) : Calls Tryd.prog 8 #[.int .i64 11, rv, bv] w fun e w' => ∃ v, e = .returned (.tuple #[v, .bool false]) ∧ Below w.heap.size w w' := by
  have := solve_calls 11 i11 rv rowsX bv [5, 9] (by decide) rowsX_len (by decide) rowsX_int (smallI (by decide)) w hE hr hb
  unfold SolP at this
  rw [x_sol2] at this
  exact this.mono fun _ _ ⟨v, h1, _, h3⟩ => ⟨v, h1, h3⟩
theorem s_ker : Calls Tryd.prog 10 #[.int .i64 11, rv, .int .i64 3] w fun e w' => ∃ v, e = .returned (.tuple #[v, .bool true]) ∧ IsRows v [[9, 1, 0], [8, 0, 1]] w' ∧ Below w.heap.size w w' := by
  have := kernel_calls 11 i11 rv rowsX 3 (by decide) rowsX_len rowsX_int w hE hr
  unfold KerP at this
  rw [x_ker] at this
  exact this
theorem s_rank : Calls Tryd.prog 14 #[.int .i64 11, rv] w fun e w' => e = .returned (.int .i64 1) ∧ Below w.heap.size w w' := by
  have := rank_calls 11 i11 rv rowsX (by decide) rowsX_len rowsX_int w hE hr
  rw [x_rank] at this
  exact this
end
section
variable {w : World} (hE : Env w)
include hE
theorem s_thr {u v : Value} (hu : IsInts u [1, 2] w) (hv : IsInts v [3, 5] w) : Calls Tryd.prog 25 #[.int .i64 11, u, v] w fun e w' => ∃ v, e = .returned (.tuple #[v, .bool true]) ∧ IsInts v [1, 2] w' ∧ Below w.heap.size w w' := by
  have := through_calls 11 i11 x_prime u v [1, 2] [3, 5] rfl (by decide) x_sep (smallI (by decide)) (smallI (by decide)) w hE hu hv
  rw [show ([1, 2] : List Int).length = 2 from rfl, x_thr] at this
  exact this
theorem s_wts {u : Value} (hu : IsInts u [1, 2] w) : Calls Tryd.prog 26 #[.int .i64 11, u, .int .i64 0] w fun e w' => ∃ v, e = .returned (.tuple #[v, .bool true]) ∧ IsInts v [2, 10] w' ∧ Below w.heap.size w w' := by
  have := weights_calls 11 i11 x_prime u [1, 2] 0 i0 (by decide) x_sep (smallI (by decide)) w hE hu
  rw [show ([1, 2] : List Int).length = 2 from rfl, x_wts] at this
  exact this
omit hE in
theorem s_at {u : Value} (hu : IsInts u [1, 2] w) : Calls Tryd.prog 24 #[.int .i64 11, u, .int .i64 0] w (Ret (.int .i64 1) w) := by
  have := at_calls 11 u [1, 2] 0 i0 (smallI (by decide)) (by decide) w hu
  rw [x_at] at this
  exact this
omit hE in
theorem s_same {u v : Value} (a : List Int) (ha : a.length ≤ 100) (hu : IsInts u a w) (hv : IsInts v a w) : Calls Tryd.prog 12 #[u, v] w (Ret (.bool true) w) := by
  have := same_calls u v a a (by omega) (by omega) w hu hv
  rw [show decide (a = a) = true by simp] at this
  exact this
omit hE in
theorem s_rows {u v : Value} (a : List (List Int)) (ha : a.length ≤ 100) (hra : ∀ r ∈ a, r.length ≤ 9223372036854775807) (hu : IsRows u a w) (hv : IsRows v a w) : Calls Tryd.prog 13 #[u, v] w (Ret (.bool true) w) := by
  have := samerows_calls u v a a (by omega) (by omega) hra hra w hu hv
  rw [show decide (a = a) = true by simp] at this
  exact this
end
theorem retB {P : Program} {f : FuncId} {args : Array Value} {w : World} {v : Value} (h : Calls P f args w (Ret v w)) : Calls P f args w fun e w' => e = .returned v ∧ Below w.heap.size w w' :=
  h.mono fun _ _ ⟨he, n, hn⟩ => ⟨he, by rw [hn]; exact below_drewN (Below.refl _ _) n⟩
/-- What a step keeps. -/
structure Kept (n : Nat) (w0 : World) (rv x k p u : Value) (w : World) : Prop where
  env : Env w
  bel : Below w0.heap.size w0 w
  rows : IsRows rv rowsX w
  hx : 0 < n → IsInts x [5, 0, 0] w
  hk : 1 < n → IsRows k [[9, 1, 0], [8, 0, 1]] w
  hp : 2 < n → IsInts p [1, 2] w
  hu : 3 < n → IsInts u [2, 10] w
theorem Kept.next {n : Nat} {w0 w w' : World} {rv x k p u : Value} (h : Kept n w0 rv x k p u w) (hb : Below w.heap.size w w') : Kept n w0 rv x k p u w' :=
  ⟨h.env.next hb, h.bel.trans (hb.mono h.bel.size), h.rows.next hb, fun hn => (h.hx hn).next hb, fun hn => (h.hk hn).next hb, fun hn => (h.hp hn).next hb, fun hn => (h.hu hn).next hb⟩
set_option maxRecDepth 100000 in
set_option maxHeartbeats 2000000 in
theorem sane_calls (w : World) (hE : Env w) : Calls Tryd.prog 6 #[] w fun e w' => e = .returned (.bool true) ∧ Below w.heap.size w w' := by
  have HE := Lib.hid hE
  clear hE
  go_enter Tryd.func6, Tryd.ntmps6
  go_wp2_with fail
  have hA : Below w.heap.size w (w.alloc (.cells #[.int .i64 1, .int .i64 2, .int .i64 3] 3)) := below_one _ _
  have h1 := lit3 1 2 3 w _ rfl
  have h2 := lit3 2 4 6 (w.alloc (.cells #[.int .i64 1, .int .i64 2, .int .i64 3] 3)) (w.heap.size + 1) (by simp)
  have h3 := rows2 (h1.next (below_one _ _)) h2 (w.heap.size + 1 + 1) (by simp)
  have hB3 : Below w.heap.size w (((w.alloc (.cells #[.int .i64 1, .int .i64 2, .int .i64 3] 3)).alloc (.cells #[.int .i64 2, .int .i64 4, .int .i64 6] 3)).alloc (.cells #[.slice (some ⟨w.heap.size, 0, none⟩) 3 3, .slice (some ⟨w.heap.size + 1, 0, none⟩) 3 3] 23)) :=
    (hA.trans ((below_one _ _).mono (by simp))).trans ((below_one _ _).mono (by simp; omega))
  obtain ⟨R, hR⟩ : ∃ R, R = Value.slice (some ⟨w.heap.size + 1 + 1, 0, none⟩) 2 2 := ⟨_, rfl⟩
  have hK0 : Kept 0 w R undef undef undef undef (((w.alloc (.cells #[.int .i64 1, .int .i64 2, .int .i64 3] 3)).alloc (.cells #[.int .i64 2, .int .i64 4, .int .i64 6] 3)).alloc (.cells #[.slice (some ⟨w.heap.size, 0, none⟩) 3 3, .slice (some ⟨w.heap.size + 1, 0, none⟩) 3 3] 23)) := ⟨HE.out.next hB3, hB3, by rw [hR]; exact h3, fun h => by omega, fun h => by omega, fun h => by omega, fun h => by omega⟩
  rw [← hR]
  have hsz : (((w.alloc (.cells #[.int .i64 1, .int .i64 2, .int .i64 3] 3)).alloc (.cells #[.int .i64 2, .int .i64 4, .int .i64 6] 3)).alloc (.cells #[.slice (some ⟨w.heap.size, 0, none⟩) 3 3, .slice (some ⟨w.heap.size + 1, 0, none⟩) 3 3] 23)).heap.size = w.heap.size + 1 + 1 + 1 := by simp
  generalize (((w.alloc (.cells #[.int .i64 1, .int .i64 2, .int .i64 3] 3)).alloc (.cells #[.int .i64 2, .int .i64 4, .int .i64 6] 3)).alloc (.cells #[.slice (some ⟨w.heap.size, 0, none⟩) 3 3, .slice (some ⟨w.heap.size + 1, 0, none⟩) 3 3] 23)) = W at *
  rw [← hsz]
  clear hA h1 h2 h3 hB3 hR hsz HE
  -- Solve, twice
  have d := s_sol1 (hK0.env.next (below_one _ _)) (hK0.rows.next (below_one _ _)) (lit2 5 10 W _ rfl)
  refine Calls.mono d ?_
  rintro e W1 ⟨x, rfl, hx, hb⟩
  have hK1 := hK0.next ((below_one W _).trans (hb.mono (by simp)))
  have HK : Hid (Kept 1 w R x undef undef undef W1) := ⟨hK1.env, hK1.bel, hK1.rows, fun _ => hx, fun h => by omega, fun h => by omega, fun h => by omega⟩
  clear d hb hx hK0 hK1
  go_wp2_with fail
  have d := s_sol2 (HK.out.env.next (below_one _ _)) (HK.out.rows.next (below_one _ _)) (lit2 5 9 W1 _ rfl)
  refine Calls.mono d ?_
  rintro e W2 ⟨y, rfl, hb⟩
  have HK2 := Lib.hid (HK.out.next ((below_one W1 _).trans (hb.mono (by simp))))
  clear d hb HK
  go_wp2_with fail
  -- Kernel
  have d := s_ker HK2.out.env HK2.out.rows
  refine Calls.mono d ?_
  rintro e W3 ⟨k, rfl, hk, hb⟩
  have hK1 := HK2.out.next hb
  have HK : Hid (Kept 2 w R x k undef undef W3) := ⟨hK1.env, hK1.bel, hK1.rows, fun _ => hK1.hx (by omega), fun _ => hk, fun h => by omega, fun h => by omega⟩
  clear d hb hk HK2 hK1
  go_wp2_with fail
  -- Through
  have hb2 : Below W3.heap.size W3 ((W3.alloc (.cells #[.int .i64 1, .int .i64 2] 3)).alloc (.cells #[.int .i64 3, .int .i64 5] 3)) := (below_one _ _).trans ((below_one _ _).mono (by simp))
  have d := s_thr (HK.out.env.next hb2) ((lit2 1 2 W3 _ rfl).next (below_one _ _)) (lit2 3 5 (W3.alloc (.cells #[.int .i64 1, .int .i64 2] 3)) (W3.heap.size + 1) (by simp))
  refine Calls.mono d ?_
  rintro e W4 ⟨p, rfl, hp, hb⟩
  have hK1 := HK.out.next (hb2.trans (hb.mono (by simp; omega)))
  have HK2 : Hid (Kept 3 w R x k p undef W4) := ⟨hK1.env, hK1.bel, hK1.rows, fun _ => hK1.hx (by omega), fun _ => hK1.hk (by omega), fun _ => hp, fun h => by omega⟩
  clear d hb hb2 hp HK hK1
  go_wp2_with fail
  -- Weights
  have d := s_wts (HK2.out.env.next (below_one _ _)) (lit2 1 2 W4 _ rfl)
  refine Calls.mono d ?_
  rintro e W5 ⟨u, rfl, hu, hb⟩
  have hK1 := HK2.out.next ((below_one W4 _).trans (hb.mono (by simp)))
  have HK : Hid (Kept 4 w R x k p u W5) := ⟨hK1.env, hK1.bel, hK1.rows, fun _ => hK1.hx (by omega), fun _ => hK1.hk (by omega), fun _ => hK1.hp (by omega), fun _ => hu⟩
  clear d hb hu HK2 hK1
  go_wp2_with fail
  -- Rank
  have d := s_rank HK.out.env HK.out.rows
  refine Calls.mono d ?_
  rintro e W6 ⟨rfl, hb⟩
  have HK2 := Lib.hid (HK.out.next hb)
  clear d hb HK
  go_wp2_with fail
  -- At
  have d := retB (s_at (HK2.out.hp (by omega)))
  refine Calls.mono d ?_
  rintro e W7 ⟨rfl, hb⟩
  have HK := Lib.hid (HK2.out.next hb)
  clear d hb HK2
  go_wp2_with fail
  -- the comparisons
  have d := retB (s_same [5, 0, 0] (by decide) ((HK.out.hx (by omega)).next (below_one _ _)) (lit3 5 0 0 W7 _ rfl))
  refine Calls.mono d ?_
  rintro e W8 ⟨rfl, hb⟩
  have HK2 := Lib.hid (HK.out.next ((below_one W7 _).trans (hb.mono (by simp))))
  clear d hb HK
  go_wp2_with fail
  have h1 := lit3 9 1 0 W8 _ rfl
  have h2 := lit3 8 0 1 (W8.alloc (.cells #[.int .i64 9, .int .i64 1, .int .i64 0] 3)) (W8.heap.size + 1) (by simp)
  have h3 := rows2 (h1.next (below_one _ _)) h2 (W8.heap.size + 1 + 1) (by simp)
  have hB3 : Below W8.heap.size W8 (((W8.alloc (.cells #[.int .i64 9, .int .i64 1, .int .i64 0] 3)).alloc (.cells #[.int .i64 8, .int .i64 0, .int .i64 1] 3)).alloc (.cells #[.slice (some ⟨W8.heap.size, 0, none⟩) 3 3, .slice (some ⟨W8.heap.size + 1, 0, none⟩) 3 3] 23)) :=
    ((below_one _ _).trans ((below_one _ _).mono (by simp))).trans ((below_one _ _).mono (by simp; omega))
  have d := retB (s_rows [[9, 1, 0], [8, 0, 1]] (by decide) (by decide) ((HK2.out.hk (by omega)).next hB3) h3)
  refine Calls.mono d ?_
  rintro e W9 ⟨rfl, hb⟩
  have HK := Lib.hid (HK2.out.next (hB3.trans (hb.mono (by simp; omega))))
  clear d hb HK2 h1 h2 h3 hB3
  go_wp2_with fail
  have d := retB (s_same [1, 2] (by decide) ((HK.out.hp (by omega)).next (below_one _ _)) (lit2 1 2 W9 _ rfl))
  refine Calls.mono d ?_
  rintro e W10 ⟨rfl, hb⟩
  have HK2 := Lib.hid (HK.out.next ((below_one W9 _).trans (hb.mono (by simp))))
  clear d hb HK
  go_wp2_with fail
  have d := retB (s_same [2, 10] (by decide) ((HK2.out.hu (by omega)).next (below_one _ _)) (lit2 2 10 W10 _ rfl))
  refine Calls.mono d ?_
  rintro e W11 ⟨rfl, hb⟩
  have HK := Lib.hid (HK2.out.next ((below_one W10 _).trans (hb.mono (by simp))))
  clear d hb HK2
  go_wp2
  go_ret
  exact ⟨rfl, HK.out.bel⟩
end Go.Proofs.YtdeeoigcpihidaaDoor
