/- Elements that are derived from names. -/
import Derived.Test.YtolmcaikjebdaaaDoorRGrp3
namespace Go.Proofs.YtolmcaikjebdaaaDoor
open Go.RowKit

/-- The element that is derived from a name. -/
def baseZ (P Q G : Int) (l : List UInt8) : Int := if validB P Q G = true then powZ P (2 + numZ l (P - 3)) 2 else 0
theorem numZ_in {l : List UInt8} {n : Int} (hn : isMod n) : 0 ≤ numZ l n ∧ numZ l n < n := by
  have hz : ∀ (L : List UInt8) (x : Int), 0 ≤ x ∧ x < n → 0 ≤ numF n x L ∧ numF n x L < n := by
    intro L
    induction L with
    | nil => intro x hx; exact hx
    | cons c L ih => intro x _; rw [numF]; exact ih _ (addZ_in hn _ _)
  unfold numZ
  rw [if_pos hn]
  exact hz _ 0 ⟨by omega, by have := hn.1; omega⟩
theorem sq_mul {n : Int} (hn : isMod n) (x : Int) : powZ n x 2 = mulZ n x x := by
  rw [powZ_pos hn (by omega), mulZ_is hn, show (2 : Int).toNat = 1 + 1 from rfl, Int.pow_succ, Int.pow_succ, Int.pow_zero, Int.one_mul]
set_option maxRecDepth 100000 in
set_option maxHeartbeats 1000000 in
theorem base_calls (P Q G : Int) (l : List UInt8) (hl : l.length ≤ 1000000) (hP : isInt P) (hQ : isInt Q) (hG : isInt G) (w : World) (hE : Env w) :
    Calls Tryd.prog 37 #[.agg #[.int .i64 P, .int .i64 Q, .int .i64 G], .string (bs l)] w fun e w' => e = .returned (.int .i64 (baseZ P Q G l)) ∧ Below w.heap.size w w' := by
  have hb := below_one w (.cells #[.int .i64 P, .int .i64 Q, .int .i64 G] 29)
  have hB : Blk (w.alloc (.cells #[.int .i64 P, .int .i64 Q, .int .i64 G] 29)) w.heap.size 29 #[.int .i64 P, .int .i64 Q, .int .i64 G] := Blk.new w _ _
  have c1 := fun w hE => Lib.hid (valid_calls P Q G hP hQ hG w hE)
  have hE0 := hE.next hb
  cases hv : validB P Q G with
  | false =>
    rw [hv] at c1
    have HR : Hid (baseZ P Q G l = 0) := by show baseZ P Q G l = 0; unfold baseZ; rw [if_neg (by rw [hv]; simp)]
    clear hv
    go_enter Tryd.func37, Tryd.ntmps37
    go_wp2_with fail
    generalize (w.alloc (.cells #[.int .i64 P, .int .i64 Q, .int .i64 G] 29)) = W0 at *
    refine Calls.mono (c1 W0 hE0).out ?_
    rintro e w1 ⟨rfl, hb1⟩
    have hbb := hb.trans (hb1.mono hb.size)
    go_wp2
    go_ret
    exact ⟨ret_i HR.out.symm, hbb⟩
  | true =>
    rw [hv] at c1
    obtain ⟨hc, hq5, hPP, hq2, _, _⟩ := Cyc.of_valid hv
    have hm3 : isMod (P - 3) := ⟨by omega, by have := hc.p.2; omega⟩
    have hn := numZ_in (l := l) hm3
    have c2 := fun w hE => Lib.hid (number_calls l (P - 3) (by omega) w hE)
    have hPb : 11 ≤ P ∧ P < 2305843009213693952 := ⟨by omega, hc.p.2⟩
    have HR0 : baseZ P Q G l = powZ P (2 + numZ l (P - 3)) 2 := by unfold baseZ; rw [if_pos hv]
    generalize numZ l (P - 3) = N at *
    obtain ⟨X, hX⟩ : ∃ X, X = 2 + N := ⟨_, rfl⟩
    have hX2 : IntKind.i64.wrap (2 + N) = X := by rw [hX]; have h1 := hn.1; have h2 := hn.2; have h3 := hPb.2; simp only [IntKind.wrap, IntKind.bits, IntKind.signed]; simp; omega
    rw [← hX] at HR0
    have HR := Lib.hid HR0
    have hXi : isInt X := by unfold isInt; omega
    have c3 := fun w => Lib.hid (pow_calls P X 2 hXi (by unfold isInt; omega) w)
    generalize powZ P X 2 = V at *
    obtain ⟨P3, hP3⟩ : ∃ P3, P3 = P - 3 := ⟨_, rfl⟩
    have hP32 : IntKind.i64.wrap (P - 3) = P3 := by rw [hP3]; have h1 := hPb.1; have h2 := hPb.2; simp only [IntKind.wrap, IntKind.bits, IntKind.signed]; simp; omega
    rw [← hP3] at c2
    have hN0 : 0 ≤ N := hn.1
    have hN1 : N < 2305843009213693952 := by omega
    have hP1 : 11 ≤ P := hPb.1
    have hP2 : P < 2305843009213693952 := hPb.2
    clear hv hc hPP hm3 HR0 hX hn hPb hP3
    go_enter Tryd.func37, Tryd.ntmps37
    go_wp2_with fail
    generalize (w.alloc (.cells #[.int .i64 P, .int .i64 Q, .int .i64 G] 29)) = W0 at *
    refine Calls.mono (c1 W0 hE0).out ?_
    rintro e w1 ⟨rfl, hb1⟩
    obtain ⟨hB1, z0, z1, z2⟩ := grp_cells hB hb1
    have hbb := hb.trans (hb1.mono hb.size)
    have hE1 := hE0.next hb1
    clear hB hb hb1
    have hB1d : Blk w1.drew w.heap.size 29 #[.int .i64 P, .int .i64 Q, .int .i64 G] := hB1
    have hbd : Below w.heap.size w w1.drew := below_drewN hbb 1
    have hE1d := hE1.drewN 1
    go_wp2
    go_region_with (first
      | (go_at_call 41; have h9 := (c2 w1.drew hE1d).out; clear c2; refine Calls.mono h9 ?_; rintro e w2 ⟨rfl, hb2⟩; obtain ⟨hB2, y0, y1, y2⟩ := grp_cells hB1d hb2)
      | (go_at_call 21; have h9 := (c3 w2).out; clear c3; refine Calls.mono h9 ?_; rintro e w3 ⟨rfl, m, rfl⟩))
    all_goals
      go_wp2
      go_ret
      exact ⟨ret_i HR.out.symm, below_drewN (hbd.trans (hb2.mono hbd.size)) _⟩
set_option maxRecDepth 100000 in
set_option maxHeartbeats 1000000 in
theorem rbase_calls (P Q G : Int) (l : List UInt8) (hl : l.length ≤ 1000000) (hP : isInt P) (hQ : isInt Q) (hG : isInt G) (w : World) :
    Calls Tryd.prog 38 #[.agg #[.int .i64 P, .int .i64 Q, .int .i64 G], .string (bs l)] w fun e w' => e = .returned (.int .i64 (baseZ P Q G l)) ∧ Below w.heap.size w w' := by
  have hb := below_one w (.cells #[.int .i64 P, .int .i64 Q, .int .i64 G] 29)
  have hB : Blk (w.alloc (.cells #[.int .i64 P, .int .i64 Q, .int .i64 G] 29)) w.heap.size 29 #[.int .i64 P, .int .i64 Q, .int .i64 G] := Blk.new w _ _
  have c1 := fun w => Lib.hid (rvalidg_calls P Q G hP hQ hG w)
  cases hv : validB P Q G with
  | false =>
    rw [hv] at c1
    have HR : Hid (baseZ P Q G l = 0) := by show baseZ P Q G l = 0; unfold baseZ; rw [if_neg (by rw [hv]; simp)]
    clear hv
    go_enter Tryd.func38, Tryd.ntmps38
    go_wp2_with fail
    generalize (w.alloc (.cells #[.int .i64 P, .int .i64 Q, .int .i64 G] 29)) = W0 at *
    refine Calls.mono (c1 W0).out ?_
    rintro e w1 ⟨rfl, hb1⟩
    have hbb := hb.trans (hb1.mono hb.size)
    go_wp2
    go_ret
    exact ⟨ret_i HR.out.symm, hbb⟩
  | true =>
    rw [hv] at c1
    obtain ⟨hc, hq5, hPP, hq2, _, _⟩ := Cyc.of_valid hv
    have hm3 : isMod (P - 3) := ⟨by omega, by have := hc.p.2; omega⟩
    have hn := numZ_in (l := l) hm3
    have c2 := fun w => Lib.hid (rnumber_calls l (P - 3) (by omega) w)
    have hPb : 11 ≤ P ∧ P < 2305843009213693952 := ⟨by omega, hc.p.2⟩
    have HR0 : baseZ P Q G l = mulZ P (2 + numZ l (P - 3)) (2 + numZ l (P - 3)) := by unfold baseZ; rw [if_pos hv]; exact sq_mul hc.p _
    generalize numZ l (P - 3) = N at *
    obtain ⟨X, hX⟩ : ∃ X, X = 2 + N := ⟨_, rfl⟩
    have hX2 := hX.symm
    rw [← hX] at HR0
    have HR := Lib.hid HR0
    have hXi : isInt X := by unfold isInt; omega
    have c3 := fun w => Lib.hid (rmul_calls P X X hXi hXi w)
    generalize mulZ P X X = V at *
    obtain ⟨P3, hP3⟩ : ∃ P3, P3 = P - 3 := ⟨_, rfl⟩
    have hP32 := hP3.symm
    rw [← hP3] at c2
    have hN0 : 0 ≤ N := hn.1
    have hN1 : N < 2305843009213693952 := by omega
    have hP1 : 11 ≤ P := hPb.1
    have hP2 : P < 2305843009213693952 := hPb.2
    clear hv hc hPP hm3 HR0 hX hn hPb hP3
    go_enter Tryd.func38, Tryd.ntmps38
    go_wp2_with fail
    generalize (w.alloc (.cells #[.int .i64 P, .int .i64 Q, .int .i64 G] 29)) = W0 at *
    refine Calls.mono (c1 W0).out ?_
    rintro e w1 ⟨rfl, hb1⟩
    obtain ⟨hB1, z0, z1, z2⟩ := grp_cells hB hb1
    have hbb := hb.trans (hb1.mono hb.size)
    clear hB hb hb1
    go_wp2_with fail
    refine Calls.mono (c2 w1).out ?_
    rintro e w2 ⟨rfl, hb2⟩
    obtain ⟨hB2, y0, y1, y2⟩ := grp_cells hB1 hb2
    have hbc := hbb.trans (hb2.mono hbb.size)
    clear hB1 hbb hb2 z0 z1 z2
    go_wp2_with fail
    refine Calls.mono (c3 w2).out ?_
    rintro e w3 ⟨rfl, m, rfl⟩
    go_wp2
    go_ret
    exact ⟨ret_i HR.out.symm, below_drewN hbc _⟩
end Go.Proofs.YtolmcaikjebdaaaDoor
