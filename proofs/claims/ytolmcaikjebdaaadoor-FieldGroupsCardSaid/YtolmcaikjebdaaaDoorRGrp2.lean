/- The reference's groups: what is valid, members, making one, products. -/
import Derived.Test.YtolmcaikjebdaaaDoorRGrp
import Derived.Test.YtolmcaikjebdaaaDoorCyc
namespace Go.Proofs.YtolmcaikjebdaaaDoor
open Go.RowKit

theorem validB_sub {P Q G : Int} : validB P Q G = (decide (5 ≤ Q) && (decide (Q < 1152921504606846976) && (decide (P = 2 * Q + 1) && (decide (2 ≤ G) && (decide (G < P) && (primeB Q && (primeB P && decide (powZ P G Q = 1)))))))) := by
  unfold validB subB
  by_cases h4 : 2 ≤ G
  · rw [decide_eq_true h4, decide_eq_true (show 1 ≤ G by omega)]
    generalize decide (5 ≤ Q) = x1
    generalize decide (Q < 1152921504606846976) = x2
    generalize decide (P = 2 * Q + 1) = x3
    generalize decide (G < P) = x4
    generalize decide (powZ P G Q = 1) = x5
    generalize primeB Q = x6
    generalize primeB P = x7
    cases x1 <;> cases x2 <;> cases x3 <;> cases x4 <;> cases x5 <;> cases x6 <;> cases x7 <;> rfl
  · rw [decide_eq_false h4]; simp
set_option maxRecDepth 100000 in
set_option maxHeartbeats 1000000 in
theorem rvalidg_calls (P Q G : Int) (hP : isInt P) (hQ : isInt Q) (hG : isInt G) (w : World) : Calls Tryd.prog 28 #[.agg #[.int .i64 P, .int .i64 Q, .int .i64 G]] w fun e w' => e = .returned (.bool (validB P Q G)) ∧ Below w.heap.size w w' := by
  have hb := below_one w (.cells #[.int .i64 P, .int .i64 Q, .int .i64 G] 29)
  have hB : Blk (w.alloc (.cells #[.int .i64 P, .int .i64 Q, .int .i64 G] 29)) w.heap.size 29 #[.int .i64 P, .int .i64 Q, .int .i64 G] := Blk.new w _ _
  by_cases h1 : Q < 5
  · have d1 : decide (Q < 5) = true := decide_eq_true h1
    have HR : Hid (validB P Q G = false) := by show validB P Q G = _; rw [validB_sub, decide_eq_false (show ¬ 5 ≤ Q by omega)]; simp
    clear hB
    go_enter Tryd.func28, Tryd.ntmps28
    go_wp2
    go_ret
    exact ⟨ret_b HR.out.symm, hb⟩
  · have d1 : decide (Q < 5) = false := decide_eq_false h1
    by_cases h2 : Q < 1152921504606846976
    · have d2 : decide (1152921504606846976 ≤ Q) = false := decide_eq_false (by omega)
      by_cases h3 : P = 2 * Q + 1
      · have d3 : (P != 2 * Q + 1) = false := by simp [h3]
        have d3' : decide (2305843009213693952 ≤ P) = false := decide_eq_false (by omega)
        by_cases h4 : G < 2
        · have d4 : decide (G < 2) = true := decide_eq_true h4
          have H3 := Lib.hid h3
          clear h3
          have HR : Hid (validB P Q G = false) := by show validB P Q G = _; rw [validB_sub, decide_eq_false (show ¬ 2 ≤ G by omega)]; simp
          clear hB
          go_enter Tryd.func28, Tryd.ntmps28
          go_wp2
          go_ret
          exact ⟨ret_b HR.out.symm, hb⟩
        · have d4 : decide (G < 2) = false := decide_eq_false h4
          by_cases h5 : G < P
          · have d5 : decide (P ≤ G) = false := decide_eq_false (by omega)
            have hm : isMod P := ⟨by omega, by omega⟩
            have HR : Hid (validB P Q G = (primeB Q && (primeB P && decide (powZ P G Q = 1)))) := by
              show validB P Q G = _
              rw [validB_sub, decide_eq_true (show 5 ≤ Q by omega), decide_eq_true h2, decide_eq_true h3, decide_eq_true (show 2 ≤ G by omega), decide_eq_true h5]; simp
            have c1 := fun w => Lib.hid (rprime_calls Q hQ w)
            have c2 := fun w => Lib.hid (rprime_calls P hP w)
            have c3 := fun w => Lib.hid (rpowerz_calls P G Q hm hG (by omega) hQ w)
            have H3 := Lib.hid h3
            generalize primeB Q = pq at *
            generalize primeB P = pp at *
            generalize powZ P G Q = v at *
            clear h3 hm
            go_enter Tryd.func28, Tryd.ntmps28
            go_wp2_with fail
            generalize (w.alloc (.cells #[.int .i64 P, .int .i64 Q, .int .i64 G] 29)) = W0 at *
            obtain ⟨hB1, z0, z1, z2⟩ := grp_cells hB (Below.refl _ _)
            refine Calls.mono (c1 W0).out ?_
            rintro e w1 ⟨rfl, hb1⟩
            obtain ⟨hB2, y0, y1, y2⟩ := grp_cells hB hb1
            have hbb := hb.trans (hb1.mono hb.size)
            clear hB hB1 z0 z1 z2 hb hb1
            cases pq
            · go_wp2
              go_ret
              exact ⟨ret_b HR.out.symm, hbb⟩
            · go_wp2_with fail
              refine Calls.mono (c2 w1).out ?_
              rintro e w2 ⟨rfl, hb2⟩
              obtain ⟨hB3, z0, z1, z2⟩ := grp_cells hB2 hb2
              have hbc := hbb.trans (hb2.mono hbb.size)
              clear hB2 y0 y1 y2 hbb hb2
              cases pp
              · go_wp2
                go_ret
                exact ⟨ret_b HR.out.symm, hbc⟩
              · go_wp2_with fail
                refine Calls.mono (c3 w2).out ?_
                rintro e w3 ⟨rfl, m, rfl⟩
                go_wp2
                go_ret
                refine ⟨ret_b ?_, below_drewN hbc _⟩
                rw [HR.out]
                by_cases hv : v = 1 <;> simp [hv]
          · have d5 : decide (P ≤ G) = true := decide_eq_true (by omega)
            have H3 := Lib.hid h3
            clear h3
            have HR : Hid (validB P Q G = false) := by show validB P Q G = _; rw [validB_sub, decide_eq_false h5]; simp
            clear hB
            go_enter Tryd.func28, Tryd.ntmps28
            go_wp2
            go_ret
            exact ⟨ret_b HR.out.symm, hb⟩
      · have d3 : (P != 2 * Q + 1) = true := by simp [h3]
        have HR : Hid (validB P Q G = false) := by show validB P Q G = _; rw [validB_sub, decide_eq_false h3]; simp
        clear hB
        go_enter Tryd.func28, Tryd.ntmps28
        go_wp2
        go_ret
        exact ⟨ret_b HR.out.symm, hb⟩
    · have d2 : decide (1152921504606846976 ≤ Q) = true := decide_eq_true (by omega)
      have HR : Hid (validB P Q G = false) := by show validB P Q G = _; rw [validB_sub, decide_eq_false h2]; simp
      clear hB
      go_enter Tryd.func28, Tryd.ntmps28
      go_wp2
      go_ret
      exact ⟨ret_b HR.out.symm, hb⟩
set_option maxRecDepth 100000 in
set_option maxHeartbeats 1000000 in
theorem rmember_calls (P Q G x : Int) (hm : isMod P) (hq : 0 ≤ Q) (hQ : isInt Q) (hx : isInt x) (w : World) : Calls Tryd.prog 57 #[.agg #[.int .i64 P, .int .i64 Q, .int .i64 G], .int .i64 x] w fun e w' => e = .returned (.bool (subB P Q x)) ∧ Below w.heap.size w w' := by
  have hb := below_one w (.cells #[.int .i64 P, .int .i64 Q, .int .i64 G] 29)
  have hB : Blk (w.alloc (.cells #[.int .i64 P, .int .i64 Q, .int .i64 G] 29)) w.heap.size 29 #[.int .i64 P, .int .i64 Q, .int .i64 G] := Blk.new w _ _
  by_cases h1 : 1 ≤ x
  · have d1 : decide (1 ≤ x) = true := decide_eq_true h1
    by_cases h2 : x < P
    · have d2 : decide (x < P) = true := decide_eq_true h2
      have HR : Hid (subB P Q x = decide (powZ P x Q = 1)) := by show subB P Q x = _; unfold subB; rw [d1, d2]; simp
      have c1 := fun w => Lib.hid (rpowerz_calls P x Q hm hx hq hQ w)
      generalize powZ P x Q = v at *
      go_enter Tryd.func57, Tryd.ntmps57
      go_wp2_with fail
      generalize (w.alloc (.cells #[.int .i64 P, .int .i64 Q, .int .i64 G] 29)) = W0 at *
      obtain ⟨hB1, z0, z1, z2⟩ := grp_cells hB (Below.refl _ _)
      refine Calls.mono (c1 W0).out ?_
      rintro e w1 ⟨rfl, m, rfl⟩
      go_wp2
      go_ret
      refine ⟨ret_b ?_, below_drewN hb _⟩
      rw [HR.out]
      by_cases hv : v = 1 <;> simp [hv]
    · have d2 : decide (x < P) = false := decide_eq_false h2
      have HR : Hid (subB P Q x = false) := by show subB P Q x = _; unfold subB; rw [d1, d2]; simp
      go_enter Tryd.func57, Tryd.ntmps57
      go_wp2
      go_ret
      exact ⟨ret_b HR.out.symm, hb⟩
  · have d1 : decide (1 ≤ x) = false := decide_eq_false h1
    have HR : Hid (subB P Q x = false) := by show subB P Q x = _; unfold subB; rw [d1]; simp
    go_enter Tryd.func57, Tryd.ntmps57
    go_wp2
    go_ret
    exact ⟨ret_b HR.out.symm, hb⟩
set_option maxRecDepth 100000 in
set_option maxHeartbeats 1000000 in
theorem relem_calls (P Q G x : Int) (hP : isInt P) (hQ : isInt Q) (hG : isInt G) (hx : isInt x) (w : World) : Calls Tryd.prog 30 #[.agg #[.int .i64 P, .int .i64 Q, .int .i64 G], .int .i64 x] w fun e w' => e = .returned (.bool (elemB P Q G x)) ∧ Below w.heap.size w w' := by
  have hb := below_one w (.cells #[.int .i64 P, .int .i64 Q, .int .i64 G] 29)
  have hB : Blk (w.alloc (.cells #[.int .i64 P, .int .i64 Q, .int .i64 G] 29)) w.heap.size 29 #[.int .i64 P, .int .i64 Q, .int .i64 G] := Blk.new w _ _
  by_cases h1 : 1 ≤ x
  · have d1 : decide (1 ≤ x) = true := decide_eq_true h1
    by_cases h2 : x < P
    · have d2 : decide (x < P) = true := decide_eq_true h2
      have c1 := fun w => Lib.hid (rvalidg_calls P Q G hP hQ hG w)
      cases hv : validB P Q G with
      | false =>
        rw [hv] at c1
        have HR : Hid (elemB P Q G x = false) := by show elemB P Q G x = _; unfold elemB; rw [hv]; rfl
        clear hv
        go_enter Tryd.func30, Tryd.ntmps30
        go_wp2_with fail
        generalize (w.alloc (.cells #[.int .i64 P, .int .i64 Q, .int .i64 G] 29)) = W0 at *
        obtain ⟨hB1, z0, z1, z2⟩ := grp_cells hB (Below.refl _ _)
        refine Calls.mono (c1 W0).out ?_
        rintro e w1 ⟨rfl, hb1⟩
        have hbb := hb.trans (hb1.mono hb.size)
        go_wp2
        go_ret
        exact ⟨ret_b HR.out.symm, hbb⟩
      | true =>
        rw [hv] at c1
        have HR : Hid (elemB P Q G x = subB P Q x) := by show elemB P Q G x = _; unfold elemB; rw [hv]; rfl
        obtain ⟨hc, hq5, hPP, hq2, _, _⟩ := Cyc.of_valid hv
        have c2 := fun w => Lib.hid (rmember_calls P Q G x hc.p (by omega) hQ hx w)
        generalize subB P Q x = s at *
        clear hv hc hPP
        go_enter Tryd.func30, Tryd.ntmps30
        go_wp2_with fail
        generalize (w.alloc (.cells #[.int .i64 P, .int .i64 Q, .int .i64 G] 29)) = W0 at *
        obtain ⟨hB1, z0, z1, z2⟩ := grp_cells hB (Below.refl _ _)
        refine Calls.mono (c1 W0).out ?_
        rintro e w1 ⟨rfl, hb1⟩
        obtain ⟨hB2, y0, y1, y2⟩ := grp_cells hB hb1
        have hbb := hb.trans (hb1.mono hb.size)
        clear hB hB1 z0 z1 z2 hb hb1
        go_wp2_with fail
        refine Calls.mono (c2 w1).out ?_
        rintro e w2 ⟨rfl, hb2⟩
        go_wp2
        go_ret
        exact ⟨ret_b HR.out.symm, hbb.trans (hb2.mono hbb.size)⟩
    · have d2 : decide (x < P) = false := decide_eq_false h2
      have HR : Hid (elemB P Q G x = false) := by show elemB P Q G x = _; unfold elemB subB; rw [d1, d2]; simp
      go_enter Tryd.func30, Tryd.ntmps30
      go_wp2
      go_ret
      exact ⟨ret_b HR.out.symm, hb⟩
  · have d1 : decide (1 ≤ x) = false := decide_eq_false h1
    have HR : Hid (elemB P Q G x = false) := by show elemB P Q G x = _; unfold elemB subB; rw [d1]; simp
    go_enter Tryd.func30, Tryd.ntmps30
    go_wp2
    go_ret
    exact ⟨ret_b HR.out.symm, hb⟩
end Go.Proofs.YtolmcaikjebdaaaDoor
