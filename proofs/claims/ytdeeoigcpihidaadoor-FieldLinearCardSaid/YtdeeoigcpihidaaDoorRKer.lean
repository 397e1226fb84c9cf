/- The reference's Kernel, where there is none. -/
import Derived.Test.YtdeeoigcpihidaaDoorRRank
namespace Go.Proofs.YtdeeoigcpihidaaDoor
open Go.RowKit

theorem rkernel_bad (q : Int) (hqi : isInt q) (v : Value) (xss : List (List Int)) (cols : Int) (hn : xss.length ≤ 9223372036854775807) (hr : ∀ r ∈ xss, r.length ≤ 9223372036854775807) (w : World) (h : IsRows v xss w) (hno : ¬ kerOk q xss cols) :
    Calls Tryd.prog 11 #[.int .i64 q, v, .int .i64 cols] w (KerP q xss cols w) := by
  obtain ⟨a, cap, rfl⟩ := h.len
  have HV : Hid (kerO q xss cols = none) := by show _ = _; unfold kerO; rw [if_neg hno]
  have c1 := Lib.hid (rprime_calls q hqi w)
  cases hp : primeB q with
  | false =>
    rw [hp] at c1
    clear hno hp h hr
    go_enter Tryd.func11, Tryd.ntmps11
    go_wp2_with fail
    refine c1.out.mono ?_
    rintro e w1 ⟨rfl, hb1⟩
    have HB := Lib.hid hb1
    clear hb1 c1
    go_wp2
    go_ret2
    exact KerP.no HV.out HB.out
  | true =>
    rw [hp] at c1
    have c2 := fun w' hb => Lib.hid (rmatrix_calls (.slice a xss.length cap) xss w' (h.next hb) hn hr)
    cases hm : matB xss with
    | false =>
      rw [hm] at c2
      clear hno hp hm h hr
      go_enter Tryd.func11, Tryd.ntmps11
      go_wp2_with fail
      refine c1.out.mono ?_
      rintro e w1 ⟨rfl, hb1⟩
      have HB := Lib.hid hb1
      have d2 := c2 w1 hb1
      clear hb1 c1 c2
      go_wp2_with fail
      refine Calls.mono d2.out ?_
      rintro e w2 ⟨rfl, m, rfl⟩
      clear d2
      go_wp2
      go_ret2
      exact KerP.no HV.out (below_drewN HB.out m)
    | true =>
      rw [hm] at c2
      by_cases hc0 : cols < 0
      · clear hno hp hm h hr
        go_enter Tryd.func11, Tryd.ntmps11
        go_wp2_with fail
        refine c1.out.mono ?_
        rintro e w1 ⟨rfl, hb1⟩
        have HB := Lib.hid hb1
        have d2 := c2 w1 hb1
        clear hb1 c1 c2
        go_wp2_with fail
        refine Calls.mono d2.out ?_
        rintro e w2 ⟨rfl, m, rfl⟩
        clear d2
        go_wp2
        go_ret2
        exact KerP.no HV.out (below_drewN HB.out m)
      · by_cases hc1 : 64 < cols
        · clear hno hp hm h hr
          go_enter Tryd.func11, Tryd.ntmps11
          go_wp2_with fail
          refine c1.out.mono ?_
          rintro e w1 ⟨rfl, hb1⟩
          have HB := Lib.hid hb1
          have d2 := c2 w1 hb1
          clear hb1 c1 c2
          go_wp2_with fail
          refine Calls.mono d2.out ?_
          rintro e w2 ⟨rfl, m, rfl⟩
          clear d2
          go_wp2
          go_ret2
          exact KerP.no HV.out (below_drewN HB.out m)
        · have c3 := fun w' hb => Lib.hid (rwidth_calls (.slice a xss.length cap) xss w' (h.next hb))
          obtain ⟨W, hW⟩ : ∃ W, W = widF xss := ⟨_, rfl⟩
          have hbad : ¬ (xss.length = 0 ∨ (W : Int) = cols) := fun e => hno ⟨hm, by rw [← hW]; exact e, by omega, by omega, hp⟩
          rw [← hW] at c3
          have hn0 : (0 : Int) < (xss.length : Int) := by omega
          have hwne : ((W : Int) != cols) = true := bne_iff_ne.2 (fun e => hbad (.inr e))
          have hwne2 : ¬ (W : Int) = cols := fun e => hbad (.inr e)
          clear hno hp hm h hr hW hbad
          go_enter Tryd.func11, Tryd.ntmps11
          go_wp2_with fail
          refine c1.out.mono ?_
          rintro e w1 ⟨rfl, hb1⟩
          have HB := Lib.hid hb1
          have d2 := c2 w1 hb1
          clear hb1 c1 c2
          go_wp2_with fail
          refine Calls.mono d2.out ?_
          rintro e w2 ⟨rfl, m, rfl⟩
          have d3 := c3 (w1.drewN m) (below_drewN HB.out m)
          clear d2 c3
          go_wp2_with fail
          refine Calls.mono d3.out ?_
          rintro e w2 ⟨rfl, rfl⟩
          clear d3
          go_wp2
          go_ret2
          exact KerP.no HV.out (below_drewN HB.out m)
end Go.Proofs.YtdeeoigcpihidaaDoor
