/- FieldSolutions: vectors counted. -/
import Derived.Test.YtdeeoigcpihidaaDoorSols
namespace Go.Proofs.YtdeeoigcpihidaaDoor
open Go.RowKit

set_option maxRecDepth 100000 in
set_option maxHeartbeats 2000000 in
theorem sols_out2 (q : Int) (hq : 0 ≤ q ∧ q < 256) (p : Nat) (hp : q % 14 = (p : Int)) (rv bv : Value) (xss : List (List Int)) (b : List Int) (hr : ∀ r ∈ xss, r.length ≤ 9223372036854775807) (W : World) (hE : Env W) (hx : IsRows rv xss W) (hy : IsInts bv b W)
    (h0 : 0 < xss.length) (h4 : xss.length ≤ 4) (hbl : b.length = xss.length) (hpr : primeB (p : Int) = true) (hno : ¬ (1 ≤ widF xss ∧ widF xss ≤ 5 ∧ sameFrom (widF xss) xss = true ∧ pwF (p : Int) (widF xss) 1 ≤ 2500)) :
    Calls Tryd.prog 4 #[.int .u8 q, rv, bv] W (Tpost W) := by
  obtain ⟨ax, cx, rfl⟩ := hx.len
  obtain ⟨ay, cy, rfl⟩ := hy.len
  have c1 := Lib.hid (sane_calls W hE)
  have hp14 : p < 14 := by omega
  have hpi : isInt (p : Int) := by unfold isInt; omega
  have hq0 := hq.1
  have hq1 := hq.2
  have HPQ := Lib.hid hp
  have hz : ((xss.length : Int) == 0) = false := beq_eq_false_iff_ne.2 (by omega)
  have hz2 : ¬ (xss.length : Int) = 0 := by omega
  have h4i : ¬ (4 : Int) < (xss.length : Int) := by omega
  have hn0 : (0 : Int) < (xss.length : Int) := by omega
  obtain ⟨c, hc⟩ : ∃ c, c = widF xss := ⟨_, rfl⟩
  have hw0 : xss[0].length = c := by
    rw [hc]
    cases xss with
    | nil => simp at h0
    | cons r l => rfl
  have hrow := fun w' (hb : Below W.heap.size W w') => (hx.next hb).at 0 h0
  have HROW := Lib.hid hrow
  have hbne : ((b.length : Int) != (xss.length : Int)) = false := by rw [hbl]; simp
  have hcl : c ≤ 9223372036854775807 := by rw [← hw0]; exact hr _ (List.getElem_mem h0)
  rw [← hc] at hno
  by_cases h1 : c < 1
  · have h1i : (c : Int) < 1 := by omega
    clear hno hp hbl hx hrow hr hc
    go_enter Tryd.func4, Tryd.ntmps4
    go_wp2_with fail
    refine c1.out.mono ?_
    rintro e w1 ⟨rfl, hB1⟩
    have c2 := Lib.hid (prime_calls (p : Int) hpi w1 (hE.next hB1))
    rw [hpr] at c2
    have HB1 := Lib.hid hB1
    have hp := HPQ.out
    clear hB1 hE c1 hpr
    go_wp2_with fail
    refine Calls.mono c2.out ?_
    rintro e w2 ⟨rfl, m, rfl⟩
    have HB2 : Hid (Below W.heap.size W (w1.drewN m)) := below_drewN HB1.out m
    obtain ⟨bk, off, rb, rcp, rfl, _, z0, _⟩ := HROW.out _ HB2.out
    rw [hw0, Nat.add_zero] at z0
    clear c2 hp hw0
    go_wp2
    go_ret
    exact ⟨rfl, HB2.out⟩
  · have h1i : ¬ (c : Int) < 1 := by omega
    by_cases h5 : 5 < c
    · have h5i : (5 : Int) < (c : Int) := by omega
      clear hno hp hbl hx hrow hr hc
      go_enter Tryd.func4, Tryd.ntmps4
      go_wp2_with fail
      refine c1.out.mono ?_
      rintro e w1 ⟨rfl, hB1⟩
      have c2 := Lib.hid (prime_calls (p : Int) hpi w1 (hE.next hB1))
      rw [hpr] at c2
      have HB1 := Lib.hid hB1
      have hp := HPQ.out
      clear hB1 hE c1 hpr
      go_wp2_with fail
      refine Calls.mono c2.out ?_
      rintro e w2 ⟨rfl, m, rfl⟩
      have HB2 : Hid (Below W.heap.size W (w1.drewN m)) := below_drewN HB1.out m
      obtain ⟨bk, off, rb, rcp, rfl, _, z0, _⟩ := HROW.out _ HB2.out
      rw [hw0, Nat.add_zero] at z0
      clear c2 hp hw0
      go_wp2
      go_ret
      exact ⟨rfl, HB2.out⟩
    · have h5i : ¬ (5 : Int) < (c : Int) := by omega
      have d1 := fun w' (hb : Below W.heap.size W w') => Lib.hid (shaped_calls (.slice ax xss.length cx) xss c h4 w' (hx.next hb))
      cases hs : sameFrom c xss with
      | false =>
        rw [hs] at d1
        clear hno hp hbl hx hrow hr hc hs
        go_enter Tryd.func4, Tryd.ntmps4
        go_wp2_with fail
        refine c1.out.mono ?_
        rintro e w1 ⟨rfl, hB1⟩
        have c2 := Lib.hid (prime_calls (p : Int) hpi w1 (hE.next hB1))
        rw [hpr] at c2
        have HB1 := Lib.hid hB1
        have hp := HPQ.out
        clear hB1 hE c1 hpr
        go_wp2_with fail
        refine Calls.mono c2.out ?_
        rintro e w2 ⟨rfl, m, rfl⟩
        have HB2 : Hid (Below W.heap.size W (w1.drewN m)) := below_drewN HB1.out m
        obtain ⟨bk, off, rb, rcp, rfl, _, z0, _⟩ := HROW.out _ HB2.out
        rw [hw0, Nat.add_zero] at z0
        clear c2 hp hw0
        have d2 := d1 _ HB2.out
        clear d1
        go_wp2_with fail
        refine Calls.mono d2.out ?_
        rintro e w3 ⟨rfl, rfl⟩
        clear d2
        go_wp2
        go_ret
        exact ⟨rfl, HB2.out⟩
      | true =>
        rw [hs] at d1
        have hpw : ¬ pwF (p : Int) c 1 ≤ 2500 := fun h => hno ⟨by omega, by omega, hs, h⟩
        have hpl := pwF_le p hp14 c (by omega)
        have c3 := fun w => Lib.hid (power_calls p c hp14 (by omega) w)
        obtain ⟨P, hP⟩ : ∃ P, P = pwF (p : Int) c 1 := ⟨_, rfl⟩
        rw [← hP] at hpw hpl c3
        have hpw2 : (2500 : Int) < P := by omega
        clear hno hp hbl hx hrow hr hc hs hP hpw
        go_enter Tryd.func4, Tryd.ntmps4
        go_wp2_with fail
        refine c1.out.mono ?_
        rintro e w1 ⟨rfl, hB1⟩
        have c2 := Lib.hid (prime_calls (p : Int) hpi w1 (hE.next hB1))
        rw [hpr] at c2
        have HB1 := Lib.hid hB1
        have hp := HPQ.out
        clear hB1 hE c1 hpr
        go_wp2_with fail
        refine Calls.mono c2.out ?_
        rintro e w2 ⟨rfl, m, rfl⟩
        have HB2 : Hid (Below W.heap.size W (w1.drewN m)) := below_drewN HB1.out m
        obtain ⟨bk, off, rb, rcp, rfl, _, z0, _⟩ := HROW.out _ HB2.out
        rw [hw0, Nat.add_zero] at z0
        clear c2 hp hw0
        have d2 := d1 _ HB2.out
        clear d1
        go_wp2_with fail
        refine Calls.mono d2.out ?_
        rintro e w3 ⟨rfl, rfl⟩
        clear d2
        go_wp2_with fail
        refine Calls.mono (c3 _).out ?_
        rintro e w3 ⟨rfl, rfl⟩
        clear c3
        go_wp2
        go_ret
        exact ⟨rfl, HB2.out⟩
end Go.Proofs.YtdeeoigcpihidaaDoor
