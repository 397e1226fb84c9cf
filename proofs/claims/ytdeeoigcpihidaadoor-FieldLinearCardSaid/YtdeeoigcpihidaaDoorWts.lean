/- Weights. -/
import Derived.Test.YtdeeoigcpihidaaDoorThr
namespace Go.Proofs.YtdeeoigcpihidaaDoor
open Go.RowKit

/-- The product of the differences to all but one. -/
def ovF (q : Int) (xs : List Int) (a : Int) (i : Nat) : Nat → Int
  | 0 => 1
  | j + 1 => if j = i then ovF q xs a i j else mulZ q (ovF q xs a i j) (subZ q a (xs.getD j 0))
theorem ovF_int (q : Int) (xs : List Int) (a : Int) (i : Nat) : ∀ j, isInt (ovF q xs a i j)
  | 0 => by unfold ovF isInt; omega
  | j + 1 => by
    rw [ovF]
    split
    · exact ovF_int q xs a i j
    · exact mulZ_int _ _ _
def wtF (q : Int) (xs : List Int) (x : Int) (i : Nat) : Int := mulZ q (ovF q xs x i xs.length) (powZ q (ovF q xs (xs.getD i 0) i xs.length) (-1))
def wtG (q : Int) (xs : List Int) (x : Int) (k : Nat) : Nat → Int := fun j => if j < k then wtF q xs x j else 0
theorem wtG_next (q : Int) (xs : List Int) (x : Int) (k t : Nat) : (if t = k then wtF q xs x k else wtG q xs x k t) = wtG q xs x (k + 1) t := by
  unfold wtG
  by_cases e : t = k
  · subst e; rw [if_pos rfl, if_pos (by omega)]
  · rw [if_neg e]
    by_cases e2 : t < k
    · rw [if_pos e2, if_pos (by omega)]
    · rw [if_neg e2, if_neg (by omega)]
set_option maxRecDepth 100000 in
set_option maxHeartbeats 2000000 in
theorem weights_calls (q : Int) (hqi : isInt q) (hp : primeB q = true) (vx : Value) (xs : List Int) (x : Int) (hxx : isInt x) (hl64 : xs.length ≤ 64) (hsep : sepB q xs = true) (hxi : ∀ x ∈ xs, isInt x)
    (w : World) (hE : Env w) (hx : IsInts vx xs w) :
    Calls Tryd.prog 26 #[.int .i64 q, vx, .int .i64 x] w fun e w' => ∃ v, e = .returned (.tuple #[v, .bool true]) ∧ IsInts v ((List.range xs.length).map (wtF q xs x)) w' ∧ Below w.heap.size w w' := by
  have c1 := Lib.hid (separate_calls q hqi hp vx xs hxi hl64 w hE hx)
  rw [hsep] at c1
  obtain ⟨ax, capx, rfl⟩ := hx.len
  obtain ⟨N, hN⟩ : ∃ N, N = xs.length := ⟨_, rfl⟩
  rw [← hN] at c1 hl64
  rw [← hN]
  have HN := Lib.hid hN
  have HX := Lib.hid hx
  have hmkN := fun w => run_make_row' (P := Tryd.prog) 23 3 (.int .i64 0) 8 Tryd.underlying23 infoInt' rfl .i64 .i64 N (by omega) (by omega) w
  clear hN hsep hp hqi hE hx
  go_enter Tryd.func26, Tryd.ntmps26
  go_wp2_with fail
  refine c1.out.mono ?_
  clear c1
  rintro e w1 ⟨rfl, hB1⟩
  have HB1 := Lib.hid hB1
  clear hB1
  obtain ⟨B, hB⟩ : ∃ B, B = w1.heap.size := ⟨_, rfl⟩
  have hrN := World.rowIs_made w1 (.int .i64 0) N 3
  have hR1 : RowAt w1.heap.size N (wtG q xs x 0) (w1.alloc (.cells (madeCells #[.int .i64 0] N) 3)) := ⟨hrN.lt, fun j hj => by rw [hrN.cell hj]; unfold wtG; rw [if_neg (by omega)], fun j => hrN.frozen j⟩
  have hBL : Below w1.heap.size w1 (w1.alloc (.cells (madeCells #[.int .i64 0] N) 3)) := below_one _ _
  have HR1 := Lib.hid hR1
  have HBL := Lib.hid hBL
  clear hrN hR1 hBL
  go_wp2
  clear hmkN
  generalize (w1.alloc (.cells (madeCells #[.int .i64 0] N) 3)) = W2 at *
  rw [← hB] at HR1 HBL
  rw [← hB]
  have HBe := Lib.hid hB
  have hR1 := HR1.out
  have hBL := HBL.out
  clear hB HR1 HBL
  go_loopw [24] (fun iv wr => ∃ k : Nat, k ≤ N ∧ iv = .int .i64 (k : Int) ∧ RowAt B N (wtG q xs x k) wr ∧ Below B w1 wr) (fun iv _ => N - (intOf iv).toNat)
  case atStart => exact ⟨0, Nat.zero_le _, rfl, hR1, hBL⟩
  case round =>
    clear hR1 hBL
    obtain ⟨k, hk, rfl, hR1, hBL⟩ := hrel
    by_cases hlt : k < N
    · have hkx : k < xs.length := by rw [← HN.out]; exact hlt
      have hbw : Below w.heap.size w wr := HB1.out.trans (hBL.mono (by rw [HBe.out]; exact HB1.out.size))
      obtain ⟨bx, ox, rfl, _, z0⟩ := (HX.out.next hbw).at k hkx
      have hak := hxi _ (List.getElem_mem hkx)
      have hga : xs.getD k 0 = xs[k] := by rw [List.getD_eq_getElem?_getD, List.getElem?_eq_getElem hkx]; rfl
      have hwt : wtF q xs x k = mulZ q (ovF q xs x k xs.length) (powZ q (ovF q xs (xs.getD k 0) k xs.length) (-1)) := rfl
      rw [hga, ← HN.out] at hwt
      generalize xs[k] = a at *
      have HWT := Lib.hid hwt
      have HR1 := Lib.hid hR1
      have HBL := Lib.hid hBL
      have hkN : (k : Int) < (N : Int) := by omega
      clear hR1 hBL hbw hwt hga
      go_wp2
      go_loopw [11, 12, 31] (fun ov un jv wr' => ∃ j : Nat, j ≤ N ∧ jv = .int .i64 (j : Int) ∧ ov = .int .i64 (ovF q xs x k j) ∧ un = .int .i64 (ovF q xs a k j) ∧ Drawn wr wr') (fun _ _ jv _ => N - (intOf jv).toNat)
      case atStart => exact ⟨0, Nat.zero_le _, rfl, rfl, rfl, Drawn.refl _⟩
      case round =>
        clear z0
        obtain ⟨j, hj, rfl, rfl, rfl, hD⟩ := hrel
        have i1 := ovF_int q xs x k j
        have i2 := ovF_int q xs a k j
        by_cases hjl : j < N
        · have hjx : j < xs.length := by rw [← HN.out]; exact hjl
          have hbw : Below w.heap.size w wr := (HB1.out.trans (HBL.out.mono (by rw [HBe.out]; exact HB1.out.size))).trans (hD.below.mono (by have := HB1.out.size; have := HBL.out.size; omega))
          obtain ⟨bx', ox', e1, _, z0⟩ := (HX.out.next hbw).at j hjx
          simp only [Option.some.injEq, Addr.mk.injEq] at e1
          obtain ⟨rfl, rfl, -⟩ := e1
          have hbj := hxi _ (List.getElem_mem hjx)
          have hgb : xs.getD j 0 = xs[j] := by rw [List.getD_eq_getElem?_getD, List.getElem?_eq_getElem hjx]; rfl
          have hjN : (j : Int) < (N : Int) := by omega
          by_cases hjk : j = k
          · subst hjk
            have h1 : ovF q xs x j (j + 1) = ovF q xs x j j := by rw [ovF, if_pos rfl]
            have h2 : ovF q xs a j (j + 1) = ovF q xs a j j := by rw [ovF, if_pos rfl]
            have H1 := Lib.hid h1
            have H2 := Lib.hid h2
            have HD := Lib.hid hD
            have hne : ((j : Int) != (j : Int)) = false := by simp
            generalize xs[j] = b at *
            clear h1 h2 hD hgb hbw
            go_wp2
            go_roundw
            case rel => exact ⟨j + 1, by omega, by go_num, congrArg (Value.int .i64) H1.out.symm, congrArg (Value.int .i64) H2.out.symm, HD.out⟩
            case measure => simp [intOf]; omega
          · have h1 : ovF q xs x k (j + 1) = mulZ q (ovF q xs x k j) (subZ q x (xs.getD j 0)) := by rw [ovF, if_neg hjk]
            have h2 : ovF q xs a k (j + 1) = mulZ q (ovF q xs a k j) (subZ q a (xs.getD j 0)) := by rw [ovF, if_neg hjk]
            rw [hgb] at h1 h2
            have hne : ((j : Int) != (k : Int)) = true := bne_iff_ne.2 (by omega)
            have hne2 : ¬ (j : Int) = (k : Int) := by omega
            generalize xs[j] = b at *
            generalize ovF q xs x k j = O at *
            generalize ovF q xs a k j = U at *
            have c1 := fun w => Lib.hid (sub_calls q x b hxx hbj w)
            have i3 := subZ_int q x b
            generalize subZ q x b = S at *
            have c2 := fun w => Lib.hid (mul_calls q O S i1 i3 w)
            generalize mulZ q O S = O' at *
            have c3 := fun w => Lib.hid (sub_calls q a b hak hbj w)
            have i4 := subZ_int q a b
            generalize subZ q a b = S' at *
            have c4 := fun w => Lib.hid (mul_calls q U S' i2 i4 w)
            generalize mulZ q U S' = U' at *
            have H1 := Lib.hid h1
            have H2 := Lib.hid h2
            have HD := Lib.hid hD
            clear h1 h2 hD hgb hbw i3 i4
            go_wp2_with fail
            refine Calls.mono (c1 _).out ?_
            rintro e w2 ⟨rfl, rfl⟩
            go_wp2_with fail
            refine Calls.mono (c2 _).out ?_
            rintro e w2 ⟨rfl, n1, rfl⟩
            go_wp2_with fail
            refine Calls.mono (c3 _).out ?_
            rintro e w2 ⟨rfl, rfl⟩
            go_wp2_with fail
            refine Calls.mono (c4 _).out ?_
            rintro e w2 ⟨rfl, n2, rfl⟩
            go_wp2
            go_roundw
            case rel => exact ⟨j + 1, by omega, by go_num, congrArg (Value.int .i64) H1.out.symm, congrArg (Value.int .i64) H2.out.symm, by first | exact (HD.out.more n1).more n2 | exact HD.out.more _⟩
            case measure => simp [intOf]; omega
        · obtain rfl : j = N := by omega
          have hR2 : RowAt B j (wtG q xs x k) wr := by
            obtain ⟨m, rfl⟩ := hD
            exact HR1.out.drewN m
          have hBL2 : Below B w1 wr := HBL.out.trans (hD.below.mono (by have := HBL.out.size; rw [HBe.out]; exact this))
          have z1 : ∀ m, (wr.drewN m).frozen? ⟨B, k, none⟩ = false := fun m => hR2.fz k
          have z2 : ∀ m, (wr.drewN m).cell? ⟨B, k, none⟩ = some (.int .i64 (wtG q xs x k k)) := fun m => hR2.at' k (by omega)
          have hset := wtG_next q xs x k
          generalize ovF q xs x k j = O at *
          generalize ovF q xs a k j = U at *
          have c1 := fun w => Lib.hid (pow_calls q U (-1) i2 (by unfold isInt; omega) w)
          have i3 := powZ_int q U (-1)
          generalize powZ q U (-1) = P at *
          have c2 := fun w => Lib.hid (mul_calls q O P i1 i3 w)
          rw [HWT.out] at hset
          generalize mulZ q O P = V at *
          have HSET := Lib.hid hset
          have HR2 := Lib.hid hR2
          have HBL2 := Lib.hid hBL2
          clear hset hR2 hBL2 hD i3 i1 i2
          go_wp2_with fail
          refine Calls.mono (c1 _).out ?_
          rintro e w2 ⟨rfl, n1, rfl⟩
          go_wp2_with fail
          refine Calls.mono (c2 _).out ?_
          rintro e w2 ⟨rfl, n2, rfl⟩
          have y1 := z1 (n1 + n2)
          have y2 := z2 (n1 + n2)
          clear z1 z2 c1 c2
          go_wp2
          go_roundw
          case rel => exact ⟨k + 1, by omega, by go_num, ((HR2.out.drewN _).set k hlt V).congr fun t _ => HSET.out t, (below_drewN HBL2.out _).setCell (p := ⟨B, k, none⟩) (Nat.le_refl _) _⟩
          case measure => simp [intOf]; omega
    · obtain rfl : k = N := by omega
      have HR1 := Lib.hid hR1
      have HBL := Lib.hid hBL
      have HR2 : Hid (RowAt B k (wtF q xs x) wr) := hR1.congr fun j hj => by unfold wtG; rw [if_pos hj]
      clear hR1 hBL
      go_wp2
      go_ret2
      exact ⟨.slice (some ⟨B, 0, none⟩) k k, rfl, ints_range HR2.out, HB1.out.trans (HBL.out.mono (by rw [HBe.out]; exact HB1.out.size))⟩
end Go.Proofs.YtdeeoigcpihidaaDoor
