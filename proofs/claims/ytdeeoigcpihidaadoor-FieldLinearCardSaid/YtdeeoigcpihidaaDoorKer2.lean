/- Kernel. -/
import Derived.Test.YtdeeoigcpihidaaDoorKer
import Derived.Test.YtdeeoigcpihidaaDoorSolve2
namespace Go.Proofs.YtdeeoigcpihidaaDoor
open Go.RowKit

theorem kernel_bad (q : Int) (hqi : isInt q) (v : Value) (xss : List (List Int)) (cols : Int) (hn : xss.length ≤ 9223372036854775807) (hr : ∀ r ∈ xss, r.length ≤ 9223372036854775807)
    (w : World) (hE : Env w) (h : IsRows v xss w) (hno : ¬ kerOk q xss cols) :
    Calls Tryd.prog 10 #[.int .i64 q, v, .int .i64 cols] w (KerP q xss cols w) := by
  have c1 := Lib.hid (width_calls v xss w h hn hr)
  obtain ⟨a, cap, rfl⟩ := h.len
  have HV : Hid (kerO q xss cols = none) := by show _ = _; unfold kerO; rw [if_neg hno]
  have hlen : xss.length = 0 ∨ 0 < xss.length := by omega
  by_cases hm : matB xss = true
  · rw [show widV xss = .tuple #[.int .i64 (widF xss : Int), .bool true] by unfold widV; rw [if_pos hm]] at c1
    obtain ⟨W, hW⟩ : ∃ W, W = widF xss := ⟨_, rfl⟩
    rw [← hW] at c1
    rcases hlen with h0 | h0
    · rw [h0]
      rw [h0] at c1
      by_cases hc0 : cols < 0
      · clear hno hm h0 h hn hr hE hW
        go_enter Tryd.func10, Tryd.ntmps10
        go_wp2_with fail
        refine c1.out.mono ?_
        rintro e w' ⟨rfl, rfl⟩
        go_wp2
        go_ret2
        exact KerP.no HV.out (Below.refl _ _)
      · by_cases hc1 : 64 < cols
        · clear hno hm h0 h hn hr hE hW
          go_enter Tryd.func10, Tryd.ntmps10
          go_wp2_with fail
          refine c1.out.mono ?_
          rintro e w' ⟨rfl, rfl⟩
          go_wp2
          go_ret2
          exact KerP.no HV.out (Below.refl _ _)
        · have c2 := Lib.hid (prime_calls q hqi w hE)
          have hp : primeB q = false := by
            rw [Bool.eq_false_iff]
            exact fun hp => hno ⟨hm, .inl h0, by omega, by omega, hp⟩
          rw [hp] at c2
          clear hno hm h0 h hn hr hE hW hp
          go_enter Tryd.func10, Tryd.ntmps10
          go_wp2_with fail
          refine c1.out.mono ?_
          rintro e w' ⟨rfl, rfl⟩
          go_wp2_with fail
          refine Calls.mono c2.out ?_
          rintro e w' ⟨rfl, m, rfl⟩
          go_wp2
          go_ret2
          exact KerP.no HV.out (below_drewN (Below.refl _ _) m)
    · have hn0 : (0 : Int) < (xss.length : Int) := by omega
      by_cases hw : (W : Int) = cols
      · subst hw
        have hbne : ((W : Int) != (W : Int)) = false := by simp
        have hc0 : ¬ (W : Int) < 0 := by omega
        by_cases hc1 : (64 : Int) < (W : Int)
        · clear hno hm h hr hE hW
          go_enter Tryd.func10, Tryd.ntmps10
          go_wp2_with fail
          refine c1.out.mono ?_
          rintro e w' ⟨rfl, rfl⟩
          go_wp2
          go_ret2
          exact KerP.no HV.out (Below.refl _ _)
        · have c2 := Lib.hid (prime_calls q hqi w hE)
          have hp : primeB q = false := by
            rw [Bool.eq_false_iff]
            exact fun hp => hno ⟨hm, .inr (by rw [hW]), by omega, by omega, hp⟩
          rw [hp] at c2
          clear hno hm h hr hE hW hp
          go_enter Tryd.func10, Tryd.ntmps10
          go_wp2_with fail
          refine c1.out.mono ?_
          rintro e w' ⟨rfl, rfl⟩
          go_wp2_with fail
          refine Calls.mono c2.out ?_
          rintro e w' ⟨rfl, m, rfl⟩
          go_wp2
          go_ret2
          exact KerP.no HV.out (below_drewN (Below.refl _ _) m)
      · have hbne : ((W : Int) != cols) = true := bne_iff_ne.2 hw
        clear hno hm h hr hE hW
        go_enter Tryd.func10, Tryd.ntmps10
        go_wp2_with fail
        refine c1.out.mono ?_
        rintro e w' ⟨rfl, rfl⟩
        go_wp2
        go_ret2
        exact KerP.no HV.out (Below.refl _ _)
  · rw [show widV xss = .tuple #[.int .i64 0, .bool false] by unfold widV; rw [if_neg hm]] at c1
    clear hno hm h hr hE hlen
    go_enter Tryd.func10, Tryd.ntmps10
    go_wp2_with fail
    refine c1.out.mono ?_
    rintro e w' ⟨rfl, rfl⟩
    go_wp2
    go_ret2
    exact KerP.no HV.out (Below.refl _ _)
end Go.Proofs.YtdeeoigcpihidaaDoor
