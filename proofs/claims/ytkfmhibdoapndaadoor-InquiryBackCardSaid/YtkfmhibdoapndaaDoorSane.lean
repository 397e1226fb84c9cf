/- sane returns true. -/
import Derived.Test.YtkfmhibdoapndaaDoorEx
namespace Go.Proofs.YtkfmhibdoapndaaDoor
open Go.RowKit

theorem stats_one {w : World} {g c : Nat} {x : StatD} {vr vw : Value} {t : TypeId} (h : Blk w g t #[vr, .int .i64 x.qu, vw]) (hr : IsTexts 0 vr x.rs w) (hw : IsNums vw x.ws w) : IsStats 0 (.slice (some ⟨g, 0, none⟩) 1 c) [x] w :=
  IsSl.single (Nat.zero_le _) h.lt ⟨vr, vw, h.cell 0, h.cell 1, h.cell 2, hr, hw.into⟩
set_option maxRecDepth 100000 in
set_option maxHeartbeats 8000000 in
theorem sane_calls (w : World) (hE : Cod.Env w) : Calls Tryd.prog 5 #[] w fun e w' => e = .returned (.bool true) ∧ Below w.heap.size w w' := by
  have c0 := Lib.hid (statute_calls w)
  go_enter Tryd.func5, Tryd.ntmps5
  go_wp2_with fail
  refine c0.out.mono ?_
  clear c0
  rintro e w1 ⟨vr, cw, g, rfl, hr, hn, hcw, hb⟩
  obtain ⟨ar, cr, rfl⟩ := IsSl.len hr
  obtain ⟨W2, hW2⟩ : ∃ W2, W2 = w1.alloc (.cells #[.slice ar 1 cr, .int .i64 2, .slice (some ⟨g, 0, none⟩) 3 cw] 25) := ⟨_, rfl⟩
  have s2 : W2.heap.size = w1.heap.size + 1 := by rw [hW2, alloc_size]
  have b2 : Below w1.heap.size w1 W2 := by rw [hW2]; exact below_one _ _
  have B2 : Blk W2 w1.heap.size 25 #[.slice ar 1 cr, .int .i64 2, .slice (some ⟨g, 0, none⟩) 3 cw] := by rw [hW2]; exact Blk.new _ _ _
  obtain ⟨W3, hW3⟩ : ∃ W3, W3 = W2.alloc (.cells #[.slice ar 1 cr, .int .i64 2, .slice (some ⟨g, 0, none⟩) 3 cw] 25) := ⟨_, rfl⟩
  have s3 : W3.heap.size = w1.heap.size + 1 + 1 := by rw [hW3, alloc_size, s2]
  have b3 : Below W2.heap.size W2 W3 := by rw [hW3]; exact below_one _ _
  have B3 : Blk W3 (w1.heap.size + 1) 25 #[.slice ar 1 cr, .int .i64 2, .slice (some ⟨g, 0, none⟩) 3 cw] := by rw [hW3]; exact Blk.new' s2 _ _
  obtain ⟨W4, hW4⟩ : ∃ W4, W4 = W3.alloc (.cells #[.int .i64 0, .int .i64 2] 3) := ⟨_, rfl⟩
  have s4 : W4.heap.size = w1.heap.size + 1 + 1 + 1 := by rw [hW4, alloc_size, s3]
  have b4 : Below W3.heap.size W3 W4 := by rw [hW4]; exact below_one _ _
  have B4 : Blk W4 (w1.heap.size + 1 + 1) 3 #[.int .i64 0, .int .i64 2] := by rw [hW4]; exact Blk.new' s3 _ _
  obtain ⟨W5, hW5⟩ : ∃ W5, W5 = W4.alloc (.cells #[.int .i64 0, .int .i64 4, .int .i64 7, .string ⟨#[116, 104, 101, 102, 116]⟩, .slice (some ⟨w1.heap.size + 1 + 1, 0, none⟩) 2 2, .int .i64 9] 37) := ⟨_, rfl⟩
  have b5 : Below W4.heap.size W4 W5 := by rw [hW5]; exact below_one _ _
  have B5 : Blk W5 (w1.heap.size + 1 + 1 + 1) 37 #[.int .i64 0, .int .i64 4, .int .i64 7, .string (bs theft), .slice (some ⟨w1.heap.size + 1 + 1, 0, none⟩) 2 2, .int .i64 9] := by rw [hW5]; exact Blk.new' s4 _ _
  have b15 : Below w1.heap.size w1 W5 := by
    have x2 := b2.trans (b3.mono b2.size)
    have x3 := x2.trans (b4.mono x2.size)
    exact x3.trans (b5.mono x3.size)
  have S5 : Hid (W5 = (((w1.alloc (.cells #[.slice ar 1 cr, .int .i64 2, .slice (some ⟨g, 0, none⟩) 3 cw] 25)).alloc (.cells #[.slice ar 1 cr, .int .i64 2, .slice (some ⟨g, 0, none⟩) 3 cw] 25)).alloc (.cells #[.int .i64 0, .int .i64 2] 3)).alloc (.cells #[.int .i64 0, .int .i64 4, .int .i64 7, .string ⟨#[116, 104, 101, 102, 116]⟩, .slice (some ⟨w1.heap.size + 1 + 1, 0, none⟩) 2 2, .int .i64 9] 37)) := by show _ = _; rw [hW5, hW4, hW3, hW2]
  have HS := Lib.hid (((B2.next b3).next b4).next b5)
  have HL := Lib.hid ((B3.next b4).next b5)
  have HJ := Lib.hid (nums_blk (B4.next b5))
  have HO := Lib.hid B5
  have HR := Lib.hid (hr.next b15)
  have HN := Lib.hid (IsNums.next hn b15)
  have HBW := Lib.hid (hb.trans (b15.mono hb.size))
  have HEN := Lib.hid (hE.next HBW.out)
  clear hW2 s2 b2 B2 hW3 s3 b3 B3 hW4 s4 b4 B4 hW5 b5 B5 b15 hr hn hb hE
  go_wp2_with fail
  rw [← S5.out]
  clear S5
  generalize w1.heap.size + 1 + 1 + 1 = gO at *
  generalize w1.heap.size + 1 + 1 = gJ at *
  generalize w1.heap.size + 1 = gL at *
  generalize w1.heap.size = gS at *
  have HKS : Hid (∀ w', Below W5.heap.size W5 w' → w'.cell? ⟨gS, 0, none⟩ = some (.slice ar 1 cr) ∧ w'.cell? ⟨gS, 1, none⟩ = some (.int .i64 2) ∧ w'.cell? ⟨gS, 2, none⟩ = some (.slice (some ⟨g, 0, none⟩) 3 cw)) := by
    show ∀ w', _
    intro w' h
    have := HS.out.next h
    exact ⟨this.cell 0, this.cell 1, this.cell 2⟩
  have HKO : Hid (∀ w', Below W5.heap.size W5 w' → w'.cell? ⟨gO, 0, none⟩ = some (.int .i64 0) ∧ w'.cell? ⟨gO, 1, none⟩ = some (.int .i64 4) ∧ w'.cell? ⟨gO, 2, none⟩ = some (.int .i64 7) ∧ w'.cell? ⟨gO, 3, none⟩ = some (.string (bs theft)) ∧ w'.cell? ⟨gO, 4, none⟩ = some (.slice (some ⟨gJ, 0, none⟩) 2 2) ∧ w'.cell? ⟨gO, 5, none⟩ = some (.int .i64 9)) := by
    show ∀ w', _
    intro w' h
    have := HO.out.next h
    exact ⟨this.cell 0, this.cell 1, this.cell 2, this.cell 3, this.cell 4, this.cell 5⟩
  have kS : ∀ (j : Int) (L : List Int), isInt j → exS.seats j = L → ∀ w', Below W5.heap.size W5 w' → Hid (Calls Tryd.prog 8 #[.agg #[.slice ar 1 cr, .int .i64 2, .slice (some ⟨g, 0, none⟩) 3 cw], .int .i64 j] w' fun e w'' => ∃ v, e = .returned v ∧ IsNums v L w'' ∧ Below W5.heap.size W5 w'') := by
    intro j L hj hL w' h
    show Calls _ _ _ _ _
    have := seats_calls exS exS_ok (.slice ar 1 cr) (.slice (some ⟨g, 0, none⟩) 3 cw) j hj w' (HR.out.next h) (IsNums.next HN.out h) (fun a n c e => by simp only [Value.slice.injEq] at e; omega)
    rw [hL] at this
    exact this.mono fun e w'' ⟨v, h1, h2, h3⟩ => ⟨v, h1, h2, h.trans (h3.mono h.size)⟩
  have kG : ∀ (ver qu ju : Int) (f1 f2 f3 f4 f5 : Value) (V : Bool), govB [exS] ver qu ju = V → ∀ w', Below W5.heap.size W5 w' → Hid (Calls Tryd.prog 9 #[.slice (some ⟨gL, 0, none⟩) 1 1, .agg #[.int .i64 ver, f1, f2, f3, f4, f5, .int .i64 qu, .int .i64 ju]] w' fun e w'' => e = .returned (.bool V) ∧ Below W5.heap.size W5 w'') := by
    intro ver qu ju f1 f2 f3 f4 f5 V hV w' h
    show Calls _ _ _ _ _
    have := governs_calls (.slice (some ⟨gL, 0, none⟩) 1 1) [exS] (by simp) (fun x hx => by obtain rfl := List.mem_singleton.1 hx; exact exS_ok) ⟨ver, f1, f2, f3, f4, f5, qu, ju⟩ w' (stats_one (x := exS) (HL.out.next h) (HR.out.next h) (IsNums.next HN.out h))
    unfold TaskD.val TaskD.cells at this
    simp only at this
    rw [hV] at this
    exact this.mono fun e w'' ⟨h1, h3⟩ => ⟨h1, h.trans (h3.mono h.size)⟩
  have z0 := (HKS.out _ (Below.refl _ _))
  refine (kS 0 [1] ⟨by omega, by omega⟩ ex_seat0 _ (Below.refl _ _)).out.mono ?_
  rintro e w6 ⟨v6, rfl, hv6, hb6⟩
  obtain ⟨a6, c6, rfl⟩ := hv6.len
  have x6 := Below.alloc_ hb6 (.cells #[.int .i64 1] 3)
  have k6 := Lib.hid (samenums_calls (.slice a6 [(1 : Int)].length c6) (.slice (some ⟨w6.heap.size, 0, none⟩) 1 1) [1] [1] (by simp [okL]) (by simp [okL]) _ (hv6.next (below_one w6 (.cells #[.int .i64 1] 3))) (nums_one w6 1))
  rw [show decide (([1] : List Int) = [1]) = true by decide] at k6
  go_wp2_with fail
  refine k6.out.mono ?_
  rintro e w7 ⟨rfl, m7, rfl⟩
  have hb7 := below_drewN x6 m7
  generalize (w6.alloc (.cells #[.int .i64 1] 3)).drewN m7 = w7 at *
  clear k6 x6 hv6 hb6 z0
  obtain ⟨z0, z1, z2⟩ := HKS.out _ hb7
  go_wp2_with fail
  refine (kS 1 [] ⟨by omega, by omega⟩ ex_seat1 _ hb7).out.mono ?_
  rintro e w8 ⟨v8, rfl, hv8, hb8⟩
  obtain ⟨a8, c8, rfl⟩ := hv8.len
  clear z0 z1 z2 hb7 hv8
  obtain ⟨z0, z1, z2⟩ := HKS.out _ hb8
  go_wp2_with fail
  refine (kS 2 [2, 3] ⟨by omega, by omega⟩ ex_seat2 _ hb8).out.mono ?_
  rintro e w9 ⟨v9, rfl, hv9, hb9⟩
  obtain ⟨a9, c9, rfl⟩ := hv9.len
  have x9 := Below.alloc_ hb9 (.cells #[.int .i64 2, .int .i64 3] 3)
  have k9 := Lib.hid (samenums_calls (.slice a9 [(2 : Int), 3].length c9) (.slice (some ⟨w9.heap.size, 0, none⟩) 2 2) [2, 3] [2, 3] (by simp [okL]) (by simp [okL]) _ (hv9.next (below_one w9 (.cells #[.int .i64 2, .int .i64 3] 3))) (nums_two w9 2 3))
  rw [show decide (([2, 3] : List Int) = [2, 3]) = true by decide] at k9
  clear z0 z1 z2 hb8
  go_wp2_with fail
  refine k9.out.mono ?_
  rintro e w10 ⟨rfl, m10, rfl⟩
  have hb10 := below_drewN x9 m10
  generalize (w9.alloc (.cells #[.int .i64 2, .int .i64 3] 3)).drewN m10 = w10 at *
  clear k9 x9 hv9 hb9
  obtain ⟨z0, z1, z2⟩ := HKS.out _ hb10
  go_wp2_with fail
  refine (kS 3 [] ⟨by omega, by omega⟩ ex_seat3 _ hb10).out.mono ?_
  rintro e w11 ⟨v11, rfl, hv11, hb11⟩
  obtain ⟨a11, c11, rfl⟩ := hv11.len
  clear z0 z1 z2 hb10 hv11 kS
  go_wp2_with fail
  refine (kG 0 2 3 _ _ _ _ _ true ex_gov1 _ hb11).out.mono ?_
  rintro e w12 ⟨rfl, hb12⟩
  clear hb11
  go_wp2_with fail
  refine (kG 0 2 2 _ _ _ _ _ false ex_gov2 _ hb12).out.mono ?_
  rintro e w13 ⟨rfl, hb13⟩
  clear hb12
  go_wp2_with fail
  refine (kG 1 2 3 _ _ _ _ _ false ex_gov3 _ hb13).out.mono ?_
  rintro e w14 ⟨rfl, hb14⟩
  clear hb13 kG
  have k14 := Lib.hid (readmin_calls exT (by decide) w14 (HEN.out.next hb14))
  rw [ex_read, ex_readB] at k14
  go_wp2_with fail
  refine k14.out.mono ?_
  rintro e w15 ⟨v15, rfl, hv15, hb15⟩
  obtain ⟨a15, c15, rfl⟩ := hv15.len
  have hb15' := hb14.trans (hb15.mono hb14.size)
  have hx15 := Below.alloc_ hb15' (.cells #[.int .i64 0, .int .i64 4, .int .i64 7, .string (bs theft), .slice a15 2 c15, .int .i64 9] 37)
  have B15 := Blk.new w15 37 #[.int .i64 0, .int .i64 4, .int .i64 7, .string (bs theft), .slice a15 2 c15, .int .i64 9]
  have N15 := hv15.next (below_one w15 (.cells #[.int .i64 0, .int .i64 4, .int .i64 7, .string (bs theft), .slice a15 2 c15, .int .i64 9] 37))
  have HEV : Hid (exO.val (.slice a15 exO.jurors.length c15) = .agg #[.int .i64 0, .int .i64 4, .int .i64 7, .string (bs theft), .slice a15 2 c15, .int .i64 9]) := rfl
  rw [HEV.out]
  clear k14 hb14 hb15 hb15' hv15
  obtain ⟨z0, z1, z2⟩ := HKS.out _ hx15
  have k17 : ∀ w', Below W5.heap.size W5 w' → Hid (Calls Tryd.prog 7 #[.agg #[.slice ar 1 cr, .int .i64 2, .slice (some ⟨g, 0, none⟩) 3 cw]] w' fun e w'' => e = .returned (.bool true) ∧ Below W5.heap.size W5 w'' ∧ Below w'.heap.size w' w'') := by
    intro w' h
    show Calls _ _ _ _ _
    have := valid_calls exS exS_ok (.slice ar 1 cr) (.slice (some ⟨g, 0, none⟩) 3 cw) w' (HR.out.next h) (IsNums.next HN.out h)
    rw [ex_valid] at this
    exact this.mono fun e w'' ⟨h1, h2⟩ => ⟨h1, h.trans (h2.mono h.size), h2⟩
  have k18 : ∀ w', Below W5.heap.size W5 w' → Hid (Calls Tryd.prog 12 #[.agg #[.int .i64 0, .int .i64 4, .int .i64 7, .string (bs theft), .slice (some ⟨gJ, 0, none⟩) 2 2, .int .i64 9]] w' fun e w'' => e = .returned (.string (bs exT)) ∧ Below W5.heap.size W5 w'' ∧ Below w'.heap.size w' w'') := by
    intro w' h
    show Calls _ _ _ _ _
    have := minutes_calls exO exO_ok (.slice (some ⟨gJ, 0, none⟩) 2 2) w' (HEN.out.next h) (IsNums.next HJ.out h)
    rw [ex_min] at this
    exact this.mono fun e w'' ⟨h1, h2⟩ => ⟨h1, h.trans (h2.mono h.size), h2⟩
  have hq : (bs exT).toList = [51, 91, 48, 59, 52, 59, 55, 59, 93, 53, 58, 116, 104, 101, 102, 116, 44, 50, 91, 48, 59, 50, 59, 93, 57, 59] := by rw [Lib.toList_data, bs_data]; rfl
  have HX := Lib.hid hx15
  have HB15 := Lib.hid B15
  have HN15 := Lib.hid N15
  go_wp2_with fail
  generalize w15.alloc (.cells #[.int .i64 0, .int .i64 4, .int .i64 7, .string (bs theft), .slice a15 2 c15, .int .i64 9] 37) = W16 at *
  generalize w15.heap.size = gB at *
  refine (k17 _ HX.out).out.mono ?_
  rintro e w17 ⟨rfl, hb17, hc17⟩
  clear z0 z1 z2 B15 N15 hx15 k17
  obtain ⟨y0, y1, y2, y3, y4, y5⟩ := HKO.out _ hb17
  go_wp2_with fail
  refine (k18 _ hb17).out.mono ?_
  rintro e w18 ⟨rfl, hb18, hc18⟩
  clear y0 y1 y2 y3 y4 y5 k18 hb17
  obtain ⟨y0, y1, y2, y3, y4, y5⟩ := HKO.out _ hb18
  have hc16 := hc17.trans (hc18.mono hc17.size)
  have B18 := HB15.out.next hc16
  have x0 := B18.cell 0
  have x1 := B18.cell 1
  have x2 := B18.cell 2
  have x3 := B18.cell 3
  have x4 := B18.cell 4
  have x5 := B18.cell 5
  have k19 := Lib.hid (sameop_calls exO exO (.slice a15 2 c15) (.slice (some ⟨gJ, 0, none⟩) 2 2) (by unfold okL; decide) (by unfold okL; decide) w18 (HN15.out.next hc16) (IsNums.next HJ.out hb18))
  rw [ex_same] at k19
  have HV1 : Hid (exO.val (.slice a15 2 c15) = .agg #[.int .i64 0, .int .i64 4, .int .i64 7, .string (bs theft), .slice a15 2 c15, .int .i64 9]) := rfl
  have HV2 : Hid (exO.val (.slice (some ⟨gJ, 0, none⟩) 2 2) = .agg #[.int .i64 0, .int .i64 4, .int .i64 7, .string (bs theft), .slice (some ⟨gJ, 0, none⟩) 2 2, .int .i64 9]) := rfl
  rw [HV1.out, HV2.out] at k19
  clear hc17 hc18 hc16 B18
  go_wp2_with fail
  refine k19.out.mono ?_
  rintro e w19 ⟨rfl, hb19⟩
  have HF := Lib.hid (HBW.out.trans ((hb18.trans (hb19.mono hb18.size)).mono HBW.out.size))
  clear k19 hb18 hb19 x0 x1 x2 x3 x4 x5 y0 y1 y2 y3 y4 y5
  go_wp2
  go_ret
  exact ⟨rfl, HF.out⟩
end Go.Proofs.YtkfmhibdoapndaaDoor
