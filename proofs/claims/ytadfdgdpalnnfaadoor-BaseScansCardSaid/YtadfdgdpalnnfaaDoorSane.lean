/- saneTokens. -/
import Derived.Test.YtadfdgdpalnnfaaDoorEx
namespace Go.Proofs.YtadfdgdpalnnfaaDoor
open Go.RowKit

theorem tok_2 : tokF [50, 46, 46, 120, 60, 61, 34, 97, 34, 41] = ⟨1, [50], 2, 1, 0⟩ := by
  rw [tokF, if_neg (by decide), if_pos (by decide)]
  show (match numL [50] with | some n => (⟨1, [50], n, 1, 0⟩ : Tok1) | none => bad 3) = _
  rw [num_2]
def exL : List Tk := [⟨0, [102], 0, 0⟩, ⟨3, [40], 0, 1⟩, ⟨1, [50], 2, 2⟩, ⟨3, [46, 46], 0, 3⟩, ⟨0, [120], 0, 5⟩, ⟨3, [60, 61], 0, 6⟩, ⟨2, [97], 0, 8⟩, ⟨3, [41], 0, 11⟩]
theorem ex5 : scanL [102, 40, 50, 46, 46, 120, 60, 61, 34, 97, 34, 41] = (exL, 0, 0) := by
  have e1 : scanL [102, 40, 50, 46, 46, 120, 60, 61, 34, 97, 34, 41] = scanF 11 2 [50, 46, 46, 120, 60, 61, 34, 97, 34, 41] [⟨0, [102], 0, 0⟩, ⟨3, [40], 0, 1⟩] := by kernel_rfl
  rw [e1, scan_good (by decide) (by decide) (by rw [tok_2]), tok_2]
  exact (show scanF 10 3 [46, 46, 120, 60, 61, 34, 97, 34, 41] [⟨0, [102], 0, 0⟩, ⟨3, [40], 0, 1⟩, ⟨1, [50], 2, 2⟩] = (exL, 0, 0) by kernel_rfl)
theorem ex5p : bs (printL exL) = { data := #[102, 32, 40, 32, 50, 32, 46, 46, 32, 120, 32, 60, 61, 32, 34, 97, 34, 32, 41] } := by kernel_rfl

/-- A call that returns these tokens and numbers. -/
def ScanP (L : List Tk) (at' : Nat) (er : Int) (w : World) (e : Ending) (w' : World) : Prop :=
  ∃ v, e = .returned (.tuple #[v, .int .i64 (at' : Int), .int .i64 er]) ∧ IsToks v L w' ∧ Below w.heap.size w w'
theorem scan_lit (l : List UInt8) (hl : l.length ≤ 4000) {L : List Tk} {at' : Nat} {er : Int} (h : scanL l = (L, at', er)) (w : World) (hE : Env w) :
    Calls Tryd.prog 10 #[.string (bs l)] w (ScanP L at' er w) := by
  refine (scan_calls l hl w hE).mono ?_
  rintro e w' ⟨v, he, ho, hb⟩
  rw [h] at he ho
  exact ⟨v, he, owns_toks ho, hb⟩
theorem calls_b {f : FuncId} {args : Array Value} {w : World} {s t : Bool} (h : Calls Tryd.prog f args w fun e w' => e = .returned (.bool s) ∧ Below w.heap.size w w') (e : s = t) :
    Calls Tryd.prog f args w fun e w' => e = .returned (.bool t) ∧ Below w.heap.size w w' := by rw [← e]; exact h
def wantL : List Tk := [⟨0, [97, 49], 0, 0⟩, ⟨3, [61], 0, 3⟩, ⟨2, [120, 34, 121], 0, 5⟩, ⟨3, [59], 0, 11⟩]

def wantO : Obj := .cells #[.int .i64 0, .string { data := #[97, 49] }, .int .i64 0, .int .i64 0, .int .i64 3, .string { data := #[61] }, .int .i64 0, .int .i64 3, .int .i64 2, .string { data := #[120, 34, 121] }, .int .i64 0, .int .i64 5, .int .i64 3, .string { data := #[59] }, .int .i64 0, .int .i64 11] 25

set_option maxHeartbeats 2000000 in
set_option maxRecDepth 100000 in
theorem saneTokens (w : World) (hE : Env w) :
    Calls Tryd.prog 8 #[] w fun e w' => e = .returned (.bool true) ∧ Below w.heap.size w w' := by
  go_enter Tryd.func8, Tryd.ntmps8
  go_wp2_with fail
  refine (scan_lit [97, 49, 32, 61, 32, 34, 120, 92, 34, 121, 34, 59, 32, 35, 32, 122] (by decide) ex1 w hE).mono ?_
  rintro e w1 ⟨v1, rfl, ht1, hb1⟩
  have hE1 := hE.next hb1
  go_wp2_with fail
  refine (scan_lit [120, 32, 48, 48, 55] (by decide) ex2 w1 hE1).mono ?_
  rintro e w2 ⟨v2, rfl, _, hb2⟩
  have hE2 := hE1.next hb2
  have ht2 := ht1.next hb2
  have hb02 := hb1.trans (hb2.mono hb1.size)
  go_wp2_with fail
  refine (scan_lit [97, 32, 33, 32, 98] (by decide) ex3 w2 hE2).mono ?_
  rintro e w3 ⟨v3, rfl, _, hb3⟩
  have hE3 := hE2.next hb3
  have ht3 := ht2.next hb3
  have hb03 := hb02.trans (hb3.mono hb02.size)
  clear ht1 ht2 hb1 hb2 hb02 hE1 hE2
  go_wp2_with fail
  refine (scan_lit [34, 97, 98] (by decide) ex4 w3 hE3).mono ?_
  rintro e w4 ⟨v4, rfl, _, hb4⟩
  have hE4 := hE3.next hb4
  have ht4 := ht3.next hb4
  have hb04 := hb03.trans (hb4.mono hb03.size)
  go_wp2_with fail
  refine (scan_lit [102, 40, 50, 46, 46, 120, 60, 61, 34, 97, 34, 41] (by decide) ex5 w4 hE4).mono ?_
  rintro e w5 ⟨v5, rfl, hx5, hb5⟩
  have hE5 := hE4.next hb5
  have ht5 := ht4.next hb5
  have hb05 := hb04.trans (hb5.mono hb04.size)
  clear ht3 ht4 hb3 hb4 hb5 hb03 hb04 hE3 hE4
  have hbw := (Below.refl w5.heap.size w5).alloc (Nat.le_refl _) wantO
  have hW : IsToks (.slice (some ⟨w5.heap.size, 0, none⟩) 4 4) wantL (w5.alloc wantO) := by
    refine .inr ⟨w5.heap.size, 0, 4, rfl, by simp, fun i t hi => ?_⟩
    match i, hi with
    | 0, hi => simp [wantL] at hi; subst hi; unfold TokAt; simp [wantO, bs]
    | 1, hi => simp [wantL] at hi; subst hi; unfold TokAt; simp [wantO, bs]
    | 2, hi => simp [wantL] at hi; subst hi; unfold TokAt; simp [wantO, bs]
    | 3, hi => simp [wantL] at hi; subst hi; unfold TokAt; simp [wantO, bs]
    | i + 4, hi => simp [wantL] at hi
  have hE6 := hE5.next hbw
  have ht6 := ht5.next hbw
  have hx6 := hx5.next hbw
  have hb06 := hb05.trans (hbw.mono hb05.size)
  unfold wantO at hbw hW hE6 ht6 hx6 hb06
  have hn12 := fun w hE => Lib.hid (number_calls [49, 50] (by decide) w hE)
  rw [num_12] at hn12
  have hn012 := fun w hE => Lib.hid (number_calls [48, 49, 50] (by decide) w hE)
  rw [num_012] at hn012
  have hPr := fun u w hE hu => Lib.hid (print_calls u exL w hE hu (by decide) (by decide) (by decide))
  rw [ex5p] at hPr
  have hN1 := fun w => Lib.hid (name_calls [97, 95, 49] (by decide) w)
  rw [name_a1] at hN1
  have hN2 := fun w => Lib.hid (name_calls [49, 97] (by decide) w)
  rw [name_1a] at hN2
  clear hbw ht5 hx5 hb05 hE5
  go_wp2_with fail
  refine (hn12 _ hE6).out.mono ?_
  rintro e w7 ⟨rfl, hb7⟩
  have hE7 := hE6.next hb7
  have ht7 := ht6.next hb7
  have hx7 := hx6.next hb7
  have hW7 := hW.next hb7
  have hb07 := hb06.trans (hb7.mono hb06.size)
  clear hE6 ht6 hx6 hW hb7 hb06
  go_wp2_with fail
  refine (hn012 _ hE7).out.mono ?_
  rintro e w8 ⟨rfl, hb8⟩
  have hE8 := hE7.next hb8
  have ht8 := ht7.next hb8
  have hx8 := hx7.next hb8
  have hW8 := hW7.next hb8
  have hb08 := hb07.trans (hb8.mono hb07.size)
  clear hE7 ht7 hx7 hW7 hb8 hb07
  go_wp2_with fail
  refine (sameTokens_eq v1 _ wantL w8 ht8 hW8 (by decide)).mono ?_
  rintro e w9 ⟨rfl, n9, rfl⟩
  have hd9 : Below w8.heap.size w8 (w8.drewN n9) := ⟨rfl, rfl, rfl, Nat.le_refl _, fun _ _ => rfl⟩
  have hE9 := hE8.next hd9
  have hx9 := hx8.next hd9
  have hb09 := hb08.trans (hd9.mono hb08.size)
  go_wp2_with fail
  refine (hPr v5 _ hE9 hx9).out.mono ?_
  rintro e w10 ⟨rfl, hb10⟩
  have hb010 := hb09.trans (hb10.mono hb09.size)
  go_wp2_with fail
  refine (hN1 w10).out.mono ?_
  rintro e w11 ⟨rfl, hb11⟩
  have hb011 := hb010.trans (hb11.mono hb010.size)
  go_wp2_with fail
  refine (hN2 w11).out.mono ?_
  rintro e w12 ⟨rfl, hb12⟩
  have hb012 := hb011.trans (hb12.mono hb011.size)
  go_wp2
  go_ret
  exact ⟨rfl, hb012⟩
end Go.Proofs.YtadfdgdpalnnfaaDoor
