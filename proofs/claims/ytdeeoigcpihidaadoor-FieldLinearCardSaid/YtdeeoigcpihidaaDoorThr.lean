/- The polynomial through points. -/
import Derived.Test.YtdeeoigcpihidaaDoorZero
namespace Go.Proofs.YtdeeoigcpihidaaDoor
open Go.RowKit

theorem as_args {P : Program} {f : FuncId} {args args' : Array Value} {w : World} {Q : Ending → World → Prop} (ha : args' = args) (h : Calls P f args w Q) : Calls P f args' w Q := by rw [ha]; exact h
def fF (q : Int) (N : Nat) (p z : Nat → Int) (x y : Int) : Int := mulZ q (subZ q y (atF q ((List.range N).map p) x)) (powZ q (atF q ((List.range (N + 1)).map z) x) (-1))
def pG (q f : Int) (i : Nat) (p z : Nat → Int) : Nat → Int := fun j => if j < i then addZ q (p j) (mulZ q f (z j)) else p j
def thrK (q : Int) (xs ys : List Int) : Nat → (Nat → Int) × (Nat → Int)
  | 0 => (fun _ => 0, fun j => if j = 0 then 1 else 0)
  | k + 1 => (pG q (fF q xs.length (thrK q xs ys k).1 (thrK q xs ys k).2 (xs.getD k 0) (ys.getD k 0)) (k + 1) (thrK q xs ys k).1 (thrK q xs ys k).2, zeroF q (xs.getD k 0) (k + 2) (thrK q xs ys k).2)
theorem zeroF_int (q x : Int) (m : Nat) (z : Nat → Int) (h : ∀ j, isInt (z j)) (j : Nat) : isInt (zeroF q x m z j) := by
  unfold zeroF
  split
  · exact subZ_int _ _ _
  · split
    · exact subZ_int _ _ _
    · exact h j
theorem pG_int (q f : Int) (i : Nat) (p z : Nat → Int) (h : ∀ j, isInt (p j)) (j : Nat) : isInt (pG q f i p z j) := by
  unfold pG
  split
  · exact addZ_int _ _ _
  · exact h j
theorem thrK_int (q : Int) (xs ys : List Int) : ∀ k, (∀ j, isInt ((thrK q xs ys k).1 j)) ∧ ∀ j, isInt ((thrK q xs ys k).2 j)
  | 0 => ⟨fun j => by show isInt 0; unfold isInt; omega, fun j => by show isInt (if j = 0 then 1 else 0); unfold isInt; split <;> omega⟩
  | k + 1 => ⟨fun j => pG_int _ _ _ _ _ (thrK_int q xs ys k).1 j, fun j => zeroF_int _ _ _ _ (thrK_int q xs ys k).2 j⟩
theorem pG_next (q f : Int) (i : Nat) (p z : Nat → Int) (t : Nat) : (if t = i then addZ q (p i) (mulZ q f (z i)) else pG q f i p z t) = pG q f (i + 1) p z t := by
  unfold pG
  by_cases e : t = i
  · subst e; rw [if_pos rfl, if_pos (by omega)]
  · rw [if_neg e]
    by_cases e2 : t < i
    · rw [if_pos e2, if_pos (by omega)]
    · rw [if_neg e2, if_neg (by omega)]
theorem ints_of {f : Nat → Int} (h : ∀ j, isInt (f j)) (n : Nat) : ∀ c ∈ (List.range n).map f, isInt c := fun c hc => by
  obtain ⟨j, _, rfl⟩ := List.mem_map.1 hc; exact h j
theorem at_row (q : Int) (b N : Nat) (hN : N ≤ 4294967296) (f : Nat → Int) (hf : ∀ j, isInt (f j)) (x : Int) (hx : isInt x) (w : World) (h : RowAt b N f w) :
    Calls Tryd.prog 24 #[.int .i64 q, .slice (some ⟨b, 0, none⟩) N N, .int .i64 x] w (Ret (.int .i64 (atF q ((List.range N).map f) x)) w) :=
  at_calls q _ _ x hx (ints_of hf N) (by simp; omega) w (ints_range h)
set_option maxRecDepth 100000 in
set_option maxHeartbeats 2000000 in
theorem through_calls (q : Int) (hqi : isInt q) (hp : primeB q = true) (vx vy : Value) (xs ys : List Int) (hl : xs.length = ys.length) (hl64 : xs.length ≤ 64) (hsep : sepB q xs = true) (hxi : ∀ x ∈ xs, isInt x) (hyi : ∀ y ∈ ys, isInt y)
    (w : World) (hE : Env w) (hx : IsInts vx xs w) (hy : IsInts vy ys w) :
    Calls Tryd.prog 25 #[.int .i64 q, vx, vy] w fun e w' => ∃ v, e = .returned (.tuple #[v, .bool true]) ∧ IsInts v ((List.range xs.length).map (thrK q xs ys xs.length).1) w' ∧ Below w.heap.size w w' := by
  have c1 := Lib.hid (separate_calls q hqi hp vx xs hxi hl64 w hE hx)
  rw [hsep] at c1
  obtain ⟨ax, capx, rfl⟩ := hx.len
  obtain ⟨ay, capy, rfl⟩ := hy.len
  obtain ⟨N, hN⟩ : ∃ N, N = xs.length := ⟨_, rfl⟩
  have hyl : ys.length = N := by omega
  rw [← hN] at c1 hl64
  rw [← hN, hyl]
  have HN := Lib.hid hN
  have HYL := Lib.hid hyl
  have HX := Lib.hid hx
  have HY := Lib.hid hy
  have hmkN := fun w => run_make_row' (P := Tryd.prog) 23 3 (.int .i64 0) 8 Tryd.underlying23 infoInt' rfl .i64 .i64 N (by omega) (by omega) w
  obtain ⟨N1, hN1⟩ : ∃ N1, N1 = N + 1 := ⟨_, rfl⟩
  have hmkN1 := fun w => run_make_row' (P := Tryd.prog) 23 3 (.int .i64 0) 8 Tryd.underlying23 infoInt' rfl .i64 .i64 N1 (by omega) (by omega) w
  have hN1i : (N : Int) + 1 = (N1 : Int) := by omega
  have HN1 := Lib.hid hN1
  have hneq : ((N : Int) != (N : Int)) = false := by simp
  clear hN hyl hl hsep hp hqi hE hx hy hN1
  go_enter Tryd.func25, Tryd.ntmps25
  go_wp2_with fail
  refine c1.out.mono ?_
  clear c1
  rintro e w1 ⟨rfl, hB1⟩
  have HB1 := Lib.hid hB1
  have h01 : (0 : Int) < (N1 : Int) := by omega
  clear hB1
  obtain ⟨B, hB⟩ : ∃ B, B = w1.heap.size := ⟨_, rfl⟩
  have hWA : (w1.alloc (.cells (madeCells #[.int .i64 0] N) 3)).heap.size = w1.heap.size + 1 := by simp
  have hrN := World.rowIs_made w1 (.int .i64 0) N 3
  have hRN : RowAt w1.heap.size N (fun _ => 0) (w1.alloc (.cells (madeCells #[.int .i64 0] N) 3)) := ⟨hrN.lt, fun j hj => hrN.cell hj, fun j => hrN.frozen j⟩
  have hrZ := World.rowIs_made (w1.alloc (.cells (madeCells #[.int .i64 0] N) 3)) (.int .i64 0) N1 3
  have hRZ : RowAt (w1.heap.size + 1) N1 (fun _ => 0) ((w1.alloc (.cells (madeCells #[.int .i64 0] N) 3)).alloc (.cells (madeCells #[.int .i64 0] N1) 3)) := by
    rw [← hWA]; exact ⟨hrZ.lt, fun j hj => hrZ.cell hj, fun j => hrZ.frozen j⟩
  have y1 := hRZ.at' 0 (by omega)
  have y2 := hRZ.fz 0
  have hRN2 := hRN.next (below_one _ (.cells (madeCells #[.int .i64 0] N1) 3))
  have HRN := Lib.hid (hRN2.upd ((Upd.refl (w1.heap.size + 1) _).setCell 0 (.int .i64 1)) (by omega))
  have HRZ := Lib.hid (hRZ.set 0 (by omega) 1)
  have HBL : Hid (Below w1.heap.size w1 (((w1.alloc (.cells (madeCells #[.int .i64 0] N) 3)).alloc (.cells (madeCells #[.int .i64 0] N1) 3)).setCell ⟨w1.heap.size + 1, 0, none⟩ (.int .i64 1))) :=
    ((below_one _ _).trans ((below_one _ _).mono (by simp))).setCell (p := ⟨w1.heap.size + 1, 0, none⟩) (by show w1.heap.size ≤ w1.heap.size + 1; omega) _
  clear hWA hrN hRN hrZ hRZ hRN2
  go_wp2
  have e1 : ((w1.alloc (.cells (madeCells #[.int .i64 0] N) 3)).alloc (.cells (madeCells #[.int .i64 0] N1) 3)).setCell ⟨w1.heap.size + 1, 0, none⟩ (.int .i64 1) = (w1.alloc (.cells (madeCells #[.int .i64 0] N) 3)).alloc (.cells ((madeCells #[.int .i64 0] N1).setIfInBounds 0 (.int .i64 1)) 3) := World.setCell_alloc_at _ _ _ _ _ (by simp)
  rw [e1] at HRN HRZ HBL
  clear e1 y1 y2 hmkN hmkN1
  generalize ((w1.alloc (.cells (madeCells #[.int .i64 0] N) 3)).alloc (.cells ((madeCells #[.int .i64 0] N1).setIfInBounds 0 (.int .i64 1)) 3)) = W2 at *
  rw [← hB] at HRN HRZ HBL
  rw [← hB]
  have HBe := Lib.hid hB
  clear hB
  obtain ⟨Zb, hZb⟩ : ∃ Zb, Zb = B + 1 := ⟨_, rfl⟩
  rw [← hZb] at HRZ
  rw [← hZb]
  have HZb := Lib.hid hZb
  clear hZb
  have hR1 : RowAt B N (thrK q xs ys 0).1 W2 := HRN.out
  have hR2 : RowAt Zb N1 (thrK q xs ys 0).2 W2 := HRZ.out
  have hBL := HBL.out
  clear HRN HRZ HBL
  go_loopw [36] (fun iv wr => ∃ k : Nat, k ≤ N ∧ iv = .int .i64 (k : Int) ∧ RowAt B N (thrK q xs ys k).1 wr ∧ RowAt Zb N1 (thrK q xs ys k).2 wr ∧ Below B w1 wr) (fun iv _ => N - (intOf iv).toNat)
  case atStart => exact ⟨0, Nat.zero_le _, rfl, hR1, hR2, hBL⟩
  case round =>
    clear hR1 hR2 hBL
    obtain ⟨k, hk, rfl, hR1, hR2, hBL⟩ := hrel
    by_cases hlt : k < N
    · have hkx : k < xs.length := by rw [← HN.out]; exact hlt
      have hky : k < ys.length := by rw [HYL.out]; exact hlt
      have hbw : Below w.heap.size w wr := HB1.out.trans (hBL.mono (by rw [HBe.out]; exact HB1.out.size))
      have hX2 := HX.out.next hbw
      have hY2 := HY.out.next hbw
      obtain ⟨bx, ox, rfl, _, z0⟩ := hX2.at k hkx
      obtain ⟨by', oy, rfl, _, z0'⟩ := hY2.at k hky
      have hxk := hxi _ (List.getElem_mem hkx)
      have hyk := hyi _ (List.getElem_mem hky)
      have hgx : xs.getD k 0 = xs[k] := by rw [List.getD_eq_getElem?_getD, List.getElem?_eq_getElem hkx]; rfl
      have hgy : ys.getD k 0 = ys[k] := by rw [List.getD_eq_getElem?_getD, List.getElem?_eq_getElem hky]; rfl
      obtain ⟨hpi, hzi⟩ := thrK_int q xs ys k
      have hstep : thrK q xs ys (k + 1) = (pG q (fF q xs.length (thrK q xs ys k).1 (thrK q xs ys k).2 (xs.getD k 0) (ys.getD k 0)) (k + 1) (thrK q xs ys k).1 (thrK q xs ys k).2, zeroF q (xs.getD k 0) (k + 2) (thrK q xs ys k).2) := rfl
      rw [hgx, hgy, ← HN.out] at hstep
      generalize xs[k] = x at *
      generalize ys[k] = y at *
      have HTHR := Lib.hid hstep
      generalize (thrK q xs ys k).1 = p at *
      generalize (thrK q xs ys k).2 = z at *
      have q1 := fun n (args : Array Value) (h : args = #[.int .i64 q, .slice (some ⟨B, 0, none⟩) N N, .int .i64 x]) => Lib.hid (as_args h (quiet_ret rfl (at_row q B N (by omega) p hpi x hxk (wr.drewN n) (hR1.drewN n))))
      have q2 := fun n (args : Array Value) (h : args = #[.int .i64 q, .slice (some ⟨Zb, 0, none⟩) N1 N1, .int .i64 x]) => Lib.hid (as_args h (quiet_ret rfl (at_row q Zb N1 (by omega) z hzi x hxk (wr.drewN n) (hR2.drewN n))))
      have i1 := atF_int q ((List.range N).map p) x
      have i2 := atF_int q ((List.range N1).map z) x
      have hfF : fF q N p z x y = mulZ q (subZ q y (atF q ((List.range N).map p) x)) (powZ q (atF q ((List.range N1).map z) x) (-1)) := by rw [HN1.out]; rfl
      generalize atF q ((List.range N).map p) x = A1 at *
      generalize atF q ((List.range N1).map z) x = A2 at *
      have q3 := fun n => Lib.hid (quiet_same rfl (sub_calls q y A1 hyk i1 (wr.drewN n)))
      have i3 := subZ_int q y A1
      generalize subZ q y A1 = S at *
      have q4 := fun n => Lib.hid (quiet_ret rfl (pow_calls q A2 (-1) i2 (by unfold isInt; omega) (wr.drewN n)))
      have i4 := powZ_int q A2 (-1)
      generalize powZ q A2 (-1) = PW at *
      have q5 := fun n => Lib.hid (quiet_ret rfl (mul_calls q S PW i3 i4 (wr.drewN n)))
      have i5 := mulZ_int q S PW
      generalize mulZ q S PW = F at *
      rw [hfF] at HTHR
      have HR1 := Lib.hid hR1
      have HR2 := Lib.hid hR2
      have HBL := Lib.hid hBL
      have hkN : (k : Int) < (N : Int) := by omega
      clear hR1 hR2 hBL hbw hX2 hY2 hfF hstep hgx hgy hyk i1 i2 i3 i4 hxi hyi
      go_wp2
      go_quiet ((first
        | (go_at_call 24; exact (q1 _ _ (by with_reducible rfl)).out)
        | (go_at_call 24; exact (q2 _ _ (by with_reducible rfl)).out)
        | (go_at_call 23; exact (q3 _).out)
        | (go_at_call 42; exact (q4 _).out)
        | (go_at_call 39; exact (q5 _).out)))
      clear q1 q2 q3 q4 q5
      have hR3 := HR1.out.drewN nq
      have hR4 := HR2.out.drewN nq
      have hB4 := below_drewN HBL.out nq
      generalize wr.drewN nq = W3 at *
      have HR3 : Hid (RowAt B N (pG q F 0 p z) W3) := hR3.congr fun j _ => by unfold pG; rw [if_neg (by omega)]
      have HR4 := Lib.hid hR4
      have HB4 := Lib.hid hB4
      clear hR3 hR4 hB4 HR1 HR2 HBL z0 z0'
      go_wp2
      have hR3 := HR3.out
      go_loopw [61] (fun iv wr' => ∃ i : Nat, i ≤ k + 1 ∧ iv = .int .i64 (i : Int) ∧ RowAt B N (pG q F i p z) wr' ∧ Upd B W3 wr') (fun iv _ => k + 1 - (intOf iv).toNat)
      case atStart => exact ⟨0, Nat.zero_le _, rfl, hR3, Upd.refl _ _⟩
      case round =>
        clear hR3
        obtain ⟨i, hi, rfl, hRp, hU⟩ := hrel
        have hRz : RowAt Zb N1 z wr := HR4.out.upd hU (by have := HZb.out; omega)
        by_cases hil : i < k + 1
        · have z0 : wr.cell? ⟨B, i, none⟩ = some (.int .i64 (p i)) := by rw [hRp.at' i (by omega)]; unfold pG; rw [if_neg (Nat.lt_irrefl i)]
          have z0' : wr.cell? ⟨Zb, i, none⟩ = some (.int .i64 (z i)) := hRz.at' i (by have := HN1.out; omega)
          have z1 : ∀ m j, (wr.drewN m).frozen? ⟨B, j, none⟩ = false := fun m j => hRp.fz j
          have z2 : ∀ m, (wr.drewN m).cell? ⟨B, i, none⟩ = some (.int .i64 (p i)) := fun m => z0
          have d1 := fun w => Lib.hid (mul_calls q F (z i) i5 (hzi i) w)
          have j1 := mulZ_int q F (z i)
          have hset := pG_next q F i p z
          obtain ⟨M, hM⟩ : ∃ M, M = mulZ q F (z i) := ⟨_, rfl⟩
          rw [← hM] at d1 j1 hset
          have d2 := fun w => Lib.hid (add_calls q (p i) M (hpi i) j1 w)
          obtain ⟨V, hV⟩ : ∃ V, V = addZ q (p i) M := ⟨_, rfl⟩
          rw [← hV] at d2 hset
          have HSET := Lib.hid hset
          have HRp := Lib.hid hRp
          have HU := Lib.hid hU
          have hi1 : (i : Int) < (k : Int) + 1 := by omega
          have hi2 : (i : Int) < (N : Int) := by omega
          have hi3 : (i : Int) < (N1 : Int) := by omega
          have HIK := Lib.hid hil
          generalize p i = X at *
          generalize z i = Y at *
          clear hM hV hset hRp hU hRz j1 hil hi hpi hzi
          have z3 := z1 0 i
          have z4 := z2 0
          go_wp2
          go_region_with (first
            | (go_at_call 39; have h9 := (d1 wr.drew).out; clear d1; refine Calls.mono h9 ?_; rintro e w2 ⟨rfl, n1, rfl⟩)
            | (go_at_call 22; refine Calls.mono (d2 _).out ?_; rintro e w3 ⟨rfl, rfl⟩; have x1 := z1 (n1 + 1) i; have x2 := z2 (n1 + 1)))
          all_goals
            clear z0 z0' z1 z2 z3 z4
            go_wp2
            go_roundw
            case rel => exact ⟨i + 1, HIK.out, by go_num, ((HRp.out.drewN _).set i (by have := HIK.out; omega) V).congr fun t _ => HSET.out t, (HU.out.drewN _).setCell i _⟩
            case measure => have := HIK.out; simp [intOf]; omega
        · obtain rfl : i = k + 1 := by omega
          have d1 := fun w h => Lib.hid (addzero_calls q x hxk Zb (k + 2) N1 N1 (by omega) (by have := HN1.out; omega) (by have := HN1.out; omega) z hzi w h)
          have d2 := d1 wr hRz
          have HRp := Lib.hid hRp
          have HU := Lib.hid hU
          have hk2 : (k : Int) + 2 ≤ (N1 : Int) := by have := HN1.out; omega
          have hk3 : k + 2 ≤ N1 := by have := HN1.out; omega
          have hk4 : ((k + 1 : Nat) : Int) = (k : Int) + 1 := by omega
          rw [hk4]
          clear hRp hU hRz d1 hk4
          go_wp2_with fail
          refine Calls.mono d2.out ?_
          clear d2
          rintro e w5 ⟨rfl, hRz5, hU5⟩
          have HZ5 := Lib.hid hRz5
          have HU5 := Lib.hid hU5
          clear hRz5 hU5
          go_wp2
          go_roundw
          case rel =>
            refine ⟨k + 1, by omega, by go_num, ?_, ?_, (HB4.out.trans (HU.out.below (Nat.le_refl _))).trans (HU5.out.below (by have := HZb.out; omega))⟩
            · rw [HTHR.out]; exact HRp.out.upd HU5.out (by have := HZb.out; omega)
            · rw [HTHR.out]; exact HZ5.out
          case measure => simp [intOf]; omega
    · obtain rfl : k = N := by omega
      have HR1 := Lib.hid hR1
      have HBL := Lib.hid hBL
      clear hR1 hR2 hBL
      go_wp2
      go_ret2
      exact ⟨.slice (some ⟨B, 0, none⟩) k k, rfl, ints_range HR1.out, HB1.out.trans (HBL.out.mono (by rw [HBe.out]; exact HB1.out.size))⟩
end Go.Proofs.YtdeeoigcpihidaaDoor
