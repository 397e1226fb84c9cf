/- FieldSolutions, where there is something to count. -/
import Derived.Test.YtdeeoigcpihidaaDoorSols2
import Derived.Test.YtdeeoigcpihidaaDoorShares2
namespace Go.Proofs.YtdeeoigcpihidaaDoor
open Go.RowKit

set_option maxRecDepth 100000 in
set_option maxHeartbeats 2000000 in
theorem sols_in (q : Int) (hq : 0 ≤ q ∧ q < 256) (p : Nat) (hp : q % 14 = (p : Int)) (rv bv : Value) (xss : List (List Int)) (b : List Int) (hri : ∀ r ∈ xss, ∀ x ∈ r, isInt x) (hbi : ∀ x ∈ b, isInt x) (W : World) (hE : Env W) (hx : IsRows rv xss W) (hy : IsInts bv b W)
    (h0 : 0 < xss.length) (h4 : xss.length ≤ 4) (hbl : b.length = xss.length) (hpr : primeB (p : Int) = true) (hok : 1 ≤ widF xss ∧ widF xss ≤ 5 ∧ sameFrom (widF xss) xss = true ∧ pwF (p : Int) (widF xss) 1 ≤ 2500) :
    Calls Tryd.prog 4 #[.int .u8 q, rv, bv] W (Tpost W) := by
  obtain ⟨ax, cx, rfl⟩ := hx.len
  obtain ⟨ay, cy, rfl⟩ := hy.len
  have c1 := Lib.hid (sane_calls W hE)
  have hp14 : p < 14 := by omega
  have hpi : isInt (p : Int) := by unfold isInt; omega
  have hq0 := hq.1
  have hq1 := hq.2
  have HPQ := Lib.hid hp
  have hz : ((xss.length : Int) == 0) = false := beq_eq_false_iff_ne.2 (by omega)
  have hz2 : ¬ (xss.length : Int) = 0 := by omega
  have h4i : ¬ (4 : Int) < (xss.length : Int) := by omega
  have hn0 : (0 : Int) < (xss.length : Int) := by omega
  obtain ⟨c, hc⟩ : ∃ c, c = widF xss := ⟨_, rfl⟩
  have hw0 : xss[0].length = c := by
    rw [hc]
    cases xss with
    | nil => simp at h0
    | cons r l => rfl
  have hrow := fun w' (hb : Below W.heap.size W w') => (hx.next hb).at 0 h0
  have HROW := Lib.hid hrow
  have hbne : ((b.length : Int) != (xss.length : Int)) = false := by rw [hbl]; simp
  rw [← hc] at hok
  obtain ⟨h1, h5, hs, hpw⟩ := hok
  have hall : ∀ r ∈ xss, r.length = c := fun r hr => by
    unfold sameFrom at hs
    rw [List.all_eq_true] at hs
    simpa using hs r hr
  have hm : matB xss = true := by
    unfold matB
    rw [← hc, show (xss.all fun r => r.length == c) = true from hs, Bool.or_eq_true, Bool.and_eq_true, Bool.and_eq_true, decide_eq_true_eq, decide_eq_true_eq]
    exact .inr ⟨⟨by omega, by omega⟩, rfl⟩
  have hfact := sol_facts hp14 hpr hm hc.symm hbl
  have hr1000 : ∀ r ∈ xss, r.length ≤ 1000 := fun r hr => by rw [hall r hr]; omega
  have hrm : ∀ r ∈ xss, r.length ≤ 9223372036854775807 := fun r hr => by rw [hall r hr]; omega
  have hpow := pwF_pow p hp14 c (by omega) hpw
  have c3 := fun w => Lib.hid (power_calls p c hp14 (by omega) w)
  rw [hpow] at hpw c3
  have c3k := fun k w => Lib.hid (power_calls p (c - k) hp14 (by omega) w)
  obtain ⟨N, hN⟩ : ∃ N, N = p ^ c := ⟨_, rfl⟩
  rw [← hN] at hpw c3
  have hp2 : 0 < p := by
    have h := prime_small p hp14 hpr
    rcases Nat.eq_zero_or_pos p with h0 | h0
    · rw [h0] at h; simp at h
    · exact h0
  have hpwk : ∀ k, pwF (p : Int) (c - k) 1 = ((p ^ (c - k) : Nat) : Int) := fun k => by
    refine pwF_pow2 p hp14 (c - k) (by omega) (Nat.le_trans (Nat.pow_le_pow_right hp2 (Nat.sub_le c k)) ?_)
    rw [← hN]; omega
  have hN1 : N ≤ 2500 := by omega
  have hN2 : ¬ (2500 : Int) < (N : Int) := by omega
  have h1i : ¬ (c : Int) < 1 := by omega
  have h5i : ¬ (5 : Int) < (c : Int) := by omega
  have d1 := fun w' (hb : Below W.heap.size W w') => Lib.hid (shaped_calls (.slice ax xss.length cx) xss c h4 w' (hx.next hb))
  rw [hs] at d1
  have HX := Lib.hid hx
  have HY := Lib.hid hy
  have HFACT := Lib.hid hfact
  have HPK := Lib.hid hpwk
  have HN := Lib.hid hN
  have HRM := Lib.hid hrm
  have HR1 := Lib.hid hr1000
  have HALL := Lib.hid hall
  have HRI := Lib.hid hri
  have HBI := Lib.hid hbi
  have HBL := Lib.hid hbl
  have HE := Lib.hid hE
  clear hp hx hrow hs hm hfact hpow hpwk hN hall hrm hr1000 hri hbi hy hc hpw hbl
  go_enter Tryd.func4, Tryd.ntmps4
  go_wp2_with fail
  refine c1.out.mono ?_
  rintro e w1 ⟨rfl, hB1⟩
  have c2 := Lib.hid (prime_calls (p : Int) hpi w1 (HE.out.next hB1))
  rw [hpr] at c2
  have HB1 := Lib.hid hB1
  have hp := HPQ.out
  clear hB1 hE c1 hpr
  go_wp2_with fail
  refine Calls.mono c2.out ?_
  rintro e w2 ⟨rfl, m, rfl⟩
  have HB2 : Hid (Below W.heap.size W (w1.drewN m)) := below_drewN HB1.out m
  obtain ⟨bk, off, rb, rcp, rfl, _, z0, _⟩ := HROW.out _ HB2.out
  rw [hw0, Nat.add_zero] at z0
  clear c2 hp hw0
  have d2 := d1 _ HB2.out
  clear d1
  generalize w1.drewN m = w2 at *
  clear HB1
  go_wp2_with fail
  refine Calls.mono d2.out ?_
  rintro e w3 ⟨rfl, rfl⟩
  clear d2
  go_wp2_with fail
  refine Calls.mono (c3 _).out ?_
  rintro e w3 ⟨rfl, rfl⟩
  have d3 := reduced_calls (p : Int) (.slice ay b.length cy) b (by have := HBL.out; omega) HBI.out w2 (HY.out.next HB2.out)
  go_wp2_with fail
  refine Calls.mono d3 ?_
  rintro e w3 ⟨wv, rfl, hw, hb3⟩
  have HW := Lib.hid hw
  have HB3 : Hid (Below W.heap.size W w3) := HB2.out.trans (hb3.mono HB2.out.size)
  clear d3 hb3 hw HB2
  have HWS : Hid (W.heap.size ≤ w3.heap.size) := HB3.out.size
  have HE3 : Hid (Env w3) := HE.out.next HB3.out
  have hcl := fun n => cntB_le (hitB p xss b c) n
  have HCL := Lib.hid hcl
  clear hcl HE c3k
  go_wp2
  go_loopw [11, 12] (fun cv nv wr => ∃ n : Nat, n ≤ N ∧ nv = .int .i64 (n : Int) ∧ cv = .int .i64 (cntB (hitB p xss b c) n : Int) ∧ Below w3.heap.size w3 wr) (fun _ nv _ => N - (intOf nv).toNat)
  case atStart => exact ⟨0, Nat.zero_le _, rfl, rfl, Below.refl _ _⟩
  case round =>
    obtain ⟨n, hn, rfl, rfl, hB⟩ := hrel
    have c4 := c3 wr
    by_cases hnl : n < N
    · have hn1 : (n : Int) < (N : Int) := by omega
      have c5 := fun w => Lib.hid (digits_calls p n c hp2 hp14 (by omega) (by omega) w)
      have HB := Lib.hid hB
      have hst : Nat → cntB (hitB p xss b c) (n + 1) = cntB (hitB p xss b c) n + if hitB p xss b c n then 1 else 0 := fun _ => rfl
      have hcn := HCL.out n
      generalize cntB (hitB p xss b c) n = C at *
      clear hB
      go_wp2_with fail
      refine Calls.mono c4.out ?_
      rintro e w4 ⟨rfl, rfl⟩
      clear c4
      go_wp2_with fail
      refine Calls.mono (c5 _).out ?_
      clear c5
      rintro e w4 ⟨dv, rfl, hD, hb4⟩
      have hB4 : Below w3.heap.size w3 w4 := HB.out.trans (hb4.mono HB.out.size)
      have hB4W : Below W.heap.size W w4 := HB3.out.trans (hB4.mono HWS.out)
      have d5 := product_calls (p : Int) _ dv xss (digL p c n) (by omega) HR1.out (by rw [digL_len]; omega) HRI.out (digL_int p hp2 hp14 c n) w4 (HX.out.next hB4W) hD
      have HB4 := Lib.hid hB4
      clear hD hb4 hB4 hB4W HB
      go_wp2_with fail
      refine Calls.mono d5 ?_
      clear d5
      rintro e w5 ⟨pv, rfl, hP, hb5⟩
      have hB5 : Below w3.heap.size w3 w5 := HB4.out.trans (hb5.mono HB4.out.size)
      have d6 := same_calls pv wv (prL (p : Int) xss (digL p c n)) (redL (p : Int) b) (by simp [prL]; omega) (by have := HBL.out; simp [redL]; omega) w5 hP (HW.out.next hB5)
      have HB5 := Lib.hid hB5
      cases hh : hitB p xss b c n with
      | true =>
        rw [show decide (prL (p : Int) xss (digL p c n) = redL (p : Int) b) = true from hh] at d6
        have HST : Hid (cntB (hitB p xss b c) (n + 1) = C + 1) := by show _ = _; rw [hst 0, hh]; rfl
        have hC1 : (C : Int) ≤ 2500 := by omega
        clear hP hb5 hB5 HB4 hh hst hcn
        go_wp2_with fail
        refine Calls.mono d6 ?_
        clear d6
        rintro e w6 ⟨rfl, m6, rfl⟩
        go_wp2
        go_roundw
        case rel => exact ⟨n + 1, by omega, by go_num, by rw [HST.out]; go_num, below_drewN HB5.out m6⟩
        case measure => simp [intOf]; omega
      | false =>
        rw [show decide (prL (p : Int) xss (digL p c n) = redL (p : Int) b) = false from hh] at d6
        have HST : Hid (cntB (hitB p xss b c) (n + 1) = C) := by show _ = _; rw [hst 0, hh]; rfl
        clear hP hb5 hB5 HB4 hh hst hcn
        go_wp2_with fail
        refine Calls.mono d6 ?_
        clear d6
        rintro e w6 ⟨rfl, m6, rfl⟩
        go_wp2
        go_roundw
        case rel => exact ⟨n + 1, by omega, by go_num, by rw [HST.out], below_drewN HB5.out m6⟩
        case measure => simp [intOf]; omega
    · obtain rfl : n = N := by omega
      have HB := Lib.hid hB
      have hBW : Below W.heap.size W wr := HB3.out.trans (hB.mono HWS.out)
      have d7 := rank_calls (p : Int) hpi _ xss (by omega) HRM.out HRI.out wr (HE3.out.next hB) (HX.out.next hBW)
      clear hB hBW
      go_wp2_with fail
      refine Calls.mono c4.out ?_
      rintro e w4 ⟨rfl, rfl⟩
      clear c4 c3
      go_wp2_with fail
      refine Calls.mono d7 ?_
      clear d7
      rintro e w4 ⟨rfl, hb4⟩
      have hB4 : Below w3.heap.size w3 w4 := HB.out.trans (hb4.mono HB.out.size)
      have hB4W : Below W.heap.size W w4 := HB3.out.trans (hB4.mono HWS.out)
      have d8 := solve_calls (p : Int) hpi _ xss _ b (by omega) HRM.out (by have := HBL.out; omega) HRI.out HBI.out w4 (HE3.out.next hB4) (HX.out.next hB4W) (HY.out.next hB4W)
      have HB4 := Lib.hid hB4
      clear hb4 hB4 hB4W HB
      go_wp2_with fail
      refine Calls.mono d8 ?_
      clear d8
      rintro e w5 ⟨xv, rfl, hX, hb5⟩
      have HB5 : Hid (Below w3.heap.size w3 w5) := HB4.out.trans (hb5.mono HB4.out.size)
      have HB5W : Hid (Below W.heap.size W w5) := HB3.out.trans (HB5.out.mono HWS.out)
      clear hb5 HB4
      obtain ⟨K, hK⟩ : ∃ K : Nat, rankZ (p : Int) xss = (K : Int) := ⟨(rankZ (p : Int) xss).toNat, by have := HFACT.out.rank.1; omega⟩
      have hKc : K ≤ c := by have := HFACT.out.rank.2; omega
      have hK1 : ¬ (K : Int) < 0 := by omega
      have hK2 : ¬ (c : Int) < (K : Int) := by omega
      rw [hK]
      have hN0 := HN.out
      cases hs : solO (p : Int) xss b with
      | none =>
        have hcnt := HFACT.out.none hs
        rw [← hN0] at hcnt
        rw [hcnt]
        rw [hs] at hX
        clear hX hcnt hs hK hN0
        go_wp2
        go_ret
        exact ⟨rfl, HB5W.out⟩
      | some x =>
        obtain ⟨hcnt, hprod, hxl, hxi⟩ := HFACT.out.some x hs
        rw [← hN0, hK, Int.toNat_natCast] at hcnt
        rw [hs] at hX
        have hX2 : IsInts xv x w5 := hX
        obtain ⟨xa, xc, rfl⟩ := hX2.len
        rw [hxl]
        have hpos : 0 < p ^ (c - K) := Nat.pow_pos hp2
        have e1 := HPK.out K
        have e9 := power_calls p (c - K) hp14 (by omega) w5
        rw [e1] at e9
        rw [hcnt]
        obtain ⟨Q, hQ⟩ : ∃ Q, Q = p ^ (c - K) := ⟨_, rfl⟩
        rw [← hQ] at e9 hpos
        rw [← hQ]
        have hQ0 : (0 : Int) < (Q : Int) := by omega
        have hQQ : ((Q : Int) == (Q : Int)) = true := by simp
        have hcc : ((c : Int) == (c : Int)) = true := by simp
        have hcK : ((c - K : Nat) : Int) = (c : Int) - (K : Int) := by omega
        rw [hcK] at e9
        have hXX := HX.out.next HB5W.out
        have d10 := product_calls (p : Int) _ _ xss x (by omega) HR1.out (by omega) HRI.out hxi w5 hXX hX2
        rw [hprod] at d10
        rw [hxl] at d10
        clear hX hX2 hcnt hprod hxi hs hK hN0 e1 hQ hcK hXX hxl
        go_wp2_with fail
        refine Calls.mono e9 ?_
        rintro e w6 ⟨rfl, rfl⟩
        go_wp2_with fail
        refine Calls.mono d10 ?_
        rintro e w6 ⟨pv, rfl, hP, hb6⟩
        have hB6 : Below w3.heap.size w3 w6 := HB5.out.trans (hb6.mono HB5.out.size)
        have d11 := retB (s_same (redL (p : Int) b) (by have := HBL.out; simp [redL]; omega) hP (HW.out.next hB6))
        have HB6 : Hid (Below W.heap.size W w6) := HB3.out.trans (hB6.mono HWS.out)
        clear hP hb6 hB6 e9 d10
        go_wp2_with fail
        refine Calls.mono d11 ?_
        rintro e w7 ⟨rfl, hb7⟩
        have HB7 : Hid (Below W.heap.size W w7) := HB6.out.trans (hb7.mono HB6.out.size)
        clear d11 hb7
        go_wp2
        go_ret
        exact ⟨rfl, HB7.out⟩
end Go.Proofs.YtdeeoigcpihidaaDoor
