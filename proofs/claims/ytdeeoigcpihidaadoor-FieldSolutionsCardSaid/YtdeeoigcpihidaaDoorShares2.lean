/- FieldShares, where there is something to count. -/
import Derived.Test.YtdeeoigcpihidaaDoorShares
namespace Go.Proofs.YtdeeoigcpihidaaDoor
open Go.RowKit

theorem Drawn.trans {a b c : World} (h : Drawn a b) (k : Drawn b c) : Drawn a c := by
  obtain ⟨m, rfl⟩ := h; obtain ⟨n, rfl⟩ := k; exact ⟨m + n, World.drewN_drewN _ _ _⟩
theorem digL_int (p : Nat) (hp : 0 < p) (hp2 : p < 14) : ∀ (k n : Nat), ∀ c ∈ digL p k n, isInt c
  | 0, _, c, h => by simp [digL] at h
  | k + 1, n, c, h => by
    rw [digL] at h
    rcases List.mem_cons.1 h with rfl | h
    · have := Nat.mod_lt n hp; unfold isInt; omega
    · exact digL_int p hp hp2 k (n / p) c h
set_option maxRecDepth 100000 in
set_option maxHeartbeats 2000000 in
theorem shares_in (q : Int) (hq : 0 ≤ q ∧ q < 256) (vx vy : Value) (xs ys : List Int) (hxi : ∀ x ∈ xs, isInt x) (hyi : ∀ y ∈ ys, isInt y) (W : World) (hE : Env W) (hx : IsInts vx xs W) (hy : IsInts vy ys W)
    (hpr : primeB (q % 14) = true) (h3 : xs.length ≤ 3) (hl : xs.length = ys.length) (hpw : pwF (q % 14) (xs.length + 1) 1 ≤ 2500) :
    Calls Tryd.prog 5 #[.int .u8 q, vx, vy] W (Tpost W) := by
  obtain ⟨ax, cx, rfl⟩ := hx.len
  obtain ⟨ay, cy, rfl⟩ := hy.len
  have c1 := Lib.hid (sane_calls W hE)
  obtain ⟨p, hp⟩ : ∃ p : Nat, q % 14 = (p : Int) := ⟨(q % 14).toNat, by omega⟩
  have hp14 : p < 14 := by omega
  have hpi : isInt (p : Int) := by unfold isInt; omega
  rw [hp] at hpr hpw
  have hq0 := hq.1
  have hq1 := hq.2
  obtain ⟨L, hL⟩ : ∃ L, L = xs.length := ⟨_, rfl⟩
  have hLy : ys.length = L := by omega
  rw [← hL] at hpw h3
  rw [← hL, hLy]
  have hpow := pwF_pow p hp14 (L + 1) (by omega) hpw
  have c3 := fun w => Lib.hid (power_calls p (L + 1) hp14 (by omega) w)
  rw [hpow] at hpw c3
  obtain ⟨N, hN⟩ : ∃ N, N = p ^ (L + 1) := ⟨_, rfl⟩
  rw [← hN] at hpw c3
  have hp2 : 0 < p := by
    have h := prime_small p hp14 hpr
    rcases Nat.eq_zero_or_pos p with h0 | h0
    · rw [h0] at h; simp at h
    · exact h0
  have hqm : isMod (p : Int) := ⟨by omega, by omega⟩
  have hcast : ((L + 1 : Nat) : Int) = (L : Int) + 1 := by omega
  rw [hcast] at c3
  have HPQ := Lib.hid hp
  have HLX := Lib.hid hL
  have HLY := Lib.hid hLy
  have HN := Lib.hid hN
  have HPR := Lib.hid hpr
  have hneq : ((L : Int) != (L : Int)) = false := by simp
  have h31 : ¬ (3 : Int) < (L : Int) := by omega
  have hN2500 : ¬ (2500 : Int) < (N : Int) := by omega
  have hN1 : N ≤ 2500 := by omega
  have HX := Lib.hid hx
  have HY := Lib.hid hy
  clear hp hL hLy hN hpow hcast hl hx hy hpw
  go_enter Tryd.func5, Tryd.ntmps5
  go_wp2_with fail
  refine c1.out.mono ?_
  rintro e w1 ⟨rfl, hB1⟩
  have c2 := Lib.hid (prime_calls (p : Int) hpi w1 (hE.next hB1))
  rw [hpr] at c2
  have HB1 := Lib.hid hB1
  have hp := HPQ.out
  clear hB1 hpr hE c1
  go_wp2_with fail
  refine Calls.mono c2.out ?_
  rintro e w2 ⟨rfl, m, rfl⟩
  go_wp2_with fail
  refine Calls.mono (c3 _).out ?_
  rintro e w2 ⟨rfl, rfl⟩
  clear c2 hp hq0 hq1 hq hN2500
  have HB2 : Hid (Below W.heap.size W (w1.drewN m)) := below_drewN HB1.out m
  generalize w1.drewN m = w2 at *
  clear HB1
  go_wp2
  have hS0 : SepL p (xs.take 0) := ⟨by simp, by simp⟩
  go_loopw [9] (fun iv wr => ∃ i : Nat, i ≤ L ∧ iv = .int .i64 (i : Int) ∧ SepL p (xs.take i) ∧ Drawn w2 wr) (fun iv _ => L - (intOf iv).toNat)
  case atStart => exact ⟨0, Nat.zero_le _, rfl, hS0, Drawn.refl _⟩
  case round =>
    clear hS0
    obtain ⟨i, hi, rfl, hS, hD⟩ := hrel
    by_cases hlt : i < L
    · have hix : i < xs.length := by rw [← HLX.out]; exact hlt
      have hbw : Below W.heap.size W wr := HB2.out.trans (hD.below.mono HB2.out.size)
      have hX2 := HX.out.next hbw
      obtain ⟨bx, ox, rfl, _, z0⟩ := hX2.at i hix
      have hxk := hxi _ (List.getElem_mem hix)
      have hnext := fun h0 ha => SepL.next (p := p) hix hS h0 ha
      obtain ⟨x, hxe⟩ : ∃ x, x = xs[i] := ⟨_, rfl⟩
      rw [← hxe] at z0 hxk
      have HXE := Lib.hid hxe
      have d1 := fun w => Lib.hid (add_calls (p : Int) x 0 hxk (by unfold isInt; omega) w)
      rw [ne_of_addZ hqm] at d1
      have hi1 : (i : Int) < (L : Int) := by omega
      have HX2 := Lib.hid hX2
      have HD := Lib.hid hD
      have HS := Lib.hid hS
      have HNX := Lib.hid hnext
      have HBW := Lib.hid hbw
      by_cases hx0 : x % (p : Int) = 0
      · rw [hx0] at d1
        clear hX2 hD hS hnext hbw hxe hx0 hxi hyi
        go_wp2_with fail
        refine Calls.mono (d1 _).out ?_
        rintro e w3 ⟨rfl, rfl⟩
        go_wp2
        go_ret
        exact ⟨rfl, HBW.out⟩
      · obtain ⟨X0, hX0⟩ : ∃ X0, X0 = x % (p : Int) := ⟨_, rfl⟩
        rw [← hX0] at d1 hx0
        have HX0 := Lib.hid hX0
        have hx0b : (X0 == 0) = false := by simpa using hx0
        have hA0 : AwayL p x (xs.take 0) := by intro y hy; simp at hy
        clear hX2 hD hS hnext hbw hxe hX0 hyi
        go_wp2_with fail
        refine Calls.mono (d1 _).out ?_
        rintro e w3 ⟨rfl, rfl⟩
        clear d1
        go_wp2
        go_loopw [10] (fun kv wr' => ∃ k : Nat, k ≤ i ∧ kv = .int .i64 (k : Int) ∧ AwayL p x (xs.take k) ∧ Drawn wr wr') (fun kv _ => i - (intOf kv).toNat)
        case atStart => exact ⟨0, Nat.zero_le _, rfl, hA0, Drawn.refl _⟩
        case round =>
          clear hA0 z0
          obtain ⟨k, hk, rfl, hA, hD2⟩ := hrel
          by_cases hkl : k < i
          · have hkx : k < xs.length := by omega
            have hX3 := HX2.out.next hD2.below
            obtain ⟨bx', ox', e1, _, z0⟩ := hX3.at i hix
            obtain ⟨bx'', ox'', e2, _, z1⟩ := hX3.at k hkx
            simp only [Option.some.injEq, Addr.mk.injEq] at e1 e2
            obtain ⟨rfl, rfl, -⟩ := e1
            obtain ⟨rfl, rfl, -⟩ := e2
            rw [← HXE.out] at z0
            have hyk := hxi _ (List.getElem_mem hkx)
            have hnx := fun h0 => AwayL.next (p := p) (x := x) hkx hA h0
            generalize xs[k] = y at *
            have d2 := fun n => Lib.hid (quiet_same rfl (sub_calls (p : Int) x y hxk hyk (wr.drewN n)))
            have hsub : subZ (p : Int) x y = (x - y) % (p : Int) := by unfold subZ; rw [if_pos hqm]
            rw [hsub] at d2
            obtain ⟨S, hSe⟩ : ∃ S, S = (x - y) % (p : Int) := ⟨_, rfl⟩
            rw [← hSe] at d2 hnx
            have hk1 : (k : Int) < (i : Int) := by omega
            have hk2 : (k : Int) < (L : Int) := by omega
            have HD2 := Lib.hid hD2
            have HNX2 := Lib.hid hnx
            by_cases hs0 : S = 0
            · have hsb : (S == 0) = true := by simpa using hs0
              clear hSe hsub hnx hD2 hA hX3 hs0
              go_wp2
              go_quiet ((go_at_call 23; exact (d2 _).out))
              go_wp2
              go_ret
              exact ⟨rfl, below_drewN (HBW.out.trans (HD2.out.below.mono HBW.out.size)) _⟩
            · have hsb : (S == 0) = false := by simpa using hs0
              have HS0 := Lib.hid hs0
              clear hSe hsub hnx hD2 hA hX3 hs0
              go_wp2
              go_quiet ((go_at_call 23; exact (d2 _).out))
              go_wp2
              go_roundw
              case rel => exact ⟨k + 1, by omega, by go_num, HNX2.out HS0.out, HD2.out.more _⟩
              case measure => simp [intOf]; omega
          · obtain rfl : k = i := by omega
            have HA := Lib.hid hA
            have HD2 := Lib.hid hD2
            clear hA hD2
            go_wp2
            go_roundw
            case rel =>
              refine ⟨k + 1, by omega, by go_num, HNX.out (by rw [← HXE.out]; rw [← HX0.out]; exact hx0) (by rw [← HXE.out]; exact HA.out), HD.out.trans HD2.out⟩
            case measure => simp [intOf]; omega
    · obtain rfl : i = L := by omega
      have hSep : SepL p xs := by have := hS; rwa [HLX.out, List.take_length] at this
      have HS := Lib.hid hSep
      have HBW : Hid (Below W.heap.size W wr) := HB2.out.trans (hD.below.mono HB2.out.size)
      have hmk := fun w => run_make_row' (P := Tryd.prog) 23 3 (.int .i64 0) 8 Tryd.underlying23 infoInt' rfl .i64 .i64 p (by omega) (by omega) w
      have hrN := World.rowIs_made wr (.int .i64 0) p 3
      have HR0 : Hid (RowAt wr.heap.size p (metF p xs ys 0) (wr.alloc (.cells (madeCells #[.int .i64 0] p) 3))) := ⟨hrN.lt, fun j hj => hrN.cell hj, fun j => hrN.frozen j⟩
      have HB3 : Hid (Below W.heap.size W (wr.alloc (.cells (madeCells #[.int .i64 0] p) 3))) := HBW.out.trans ((below_one wr _).mono HBW.out.size)
      have HMW : Hid (W.heap.size ≤ wr.heap.size) := HBW.out.size
      clear hS hD hSep hrN HB2
      go_wp2
      clear hmk
      obtain ⟨M, hM⟩ : ∃ M, M = wr.heap.size := ⟨_, rfl⟩
      rw [← hM] at HR0 HMW
      rw [← hM]
      clear hM
      generalize (wr.alloc (.cells (madeCells #[.int .i64 0] p) 3)) = W3 at *
      have hR0 := HR0.out
      have hB3 := HB3.out
      clear HR0 HB3
      go_loopw [12] (fun nv wr' => ∃ n : Nat, n ≤ N ∧ nv = .int .i64 (n : Int) ∧ RowAt M p (metF p xs ys n) wr' ∧ Below W.heap.size W wr') (fun nv _ => N - (intOf nv).toNat)
      case atStart => exact ⟨0, Nat.zero_le _, rfl, hR0, hB3⟩
      case round =>
        clear hR0 hB3
        obtain ⟨n, hn, rfl, hR, hB⟩ := hrel
        have c4 := c3 wr
        by_cases hnl : n < N
        · have hn1 : (n : Int) < (N : Int) := by omega
          have c5 := fun w => Lib.hid (digits_calls p n (i + 1) hp2 hp14 (by omega) (by omega) w)
          rw [show ((i + 1 : Nat) : Int) = (i : Int) + 1 by omega] at c5
          have HR := Lib.hid hR
          have HB := Lib.hid hB
          clear hR hB
          go_wp2_with fail
          refine Calls.mono c4.out ?_
          rintro e w4 ⟨rfl, rfl⟩
          clear c4
          go_wp2_with fail
          refine Calls.mono (c5 _).out ?_
          clear c5
          rintro e w4 ⟨cv, rfl, hC, hb4⟩
          have hR4 := HR.out.next hb4
          have hB4 := HB.out.trans (hb4.mono HB.out.size)
          obtain ⟨D, hD⟩ : ∃ D, D = digL p (i + 1) n := ⟨_, rfl⟩
          have hDl : D.length = i + 1 := by rw [hD, digL_len]
          have hDi := digL_int p hp2 hp14 (i + 1) n
          rw [← hD] at hC hDi
          have hd0 : Nat → D[0]? = some ((n % p : Nat) : Int) := fun _ => by rw [hD, digL]; rfl
          have HD := Lib.hid hD
          have HDL := Lib.hid hDl
          have HDI := Lib.hid hDi
          have HC := Lib.hid hC
          have HR4 := Lib.hid hR4
          have HB4 := Lib.hid hB4
          obtain ⟨ac, cc, rfl⟩ := hC.len
          rw [hDl]
          have HF0 : Hid (Value.bool true = .bool (fitsB (p : Int) D (xs.take 0) (ys.take 0))) := by show _ = _; simp [fitsB]
          clear hD hDl hDi hC hR4 hB4 hb4 HR HB
          go_wp2
          go_loopw [14, 15] (fun fv jv wr' => ∃ j : Nat, j ≤ i ∧ jv = .int .i64 (j : Int) ∧ fv = .bool (fitsB (p : Int) D (xs.take j) (ys.take j)) ∧ Drawn w4 wr') (fun _ jv _ => i - (intOf jv).toNat)
          case atStart => exact ⟨0, Nat.zero_le _, rfl, HF0.out, Drawn.refl _⟩
          case round =>
            clear HF0
            obtain ⟨j, hj, rfl, rfl, hDr⟩ := hrel
            by_cases hjl : j < i
            · have hjx : j < xs.length := by rw [← HLX.out]; exact hjl
              have hjy : j < ys.length := by rw [HLY.out]; exact hjl
              have hbw : Below W.heap.size W wr := HB4.out.trans (hDr.below.mono HB4.out.size)
              have hst := fitsB_next (p : Int) D j xs ys hjx hjy
              obtain ⟨F, hF⟩ : ∃ F, F = fitsB (p : Int) D (xs.take j) (ys.take j) := ⟨_, rfl⟩
              rw [← hF] at hst
              rw [← hF]
              have hj1 : (j : Int) < (i : Int) := by omega
              have HDr := Lib.hid hDr
              cases F with
              | false =>
                rw [Bool.false_and] at hst
                have HST := Lib.hid hst
                clear hst hF hDr hbw hxi hyi
                go_wp2
                go_quiet (fail)
                go_wp2
                go_roundw
                case rel => exact ⟨j + 1, by omega, by go_num, congrArg Value.bool HST.out.symm, HDr.out.more _⟩
                case measure => simp [intOf]; omega
              | true =>
                rw [Bool.true_and] at hst
                obtain ⟨bx, ox, rfl, _, z0⟩ := (HX.out.next hbw).at j hjx
                obtain ⟨by', oy, rfl, _, z1⟩ := (HY.out.next hbw).at j hjy
                have hxj := hxi _ (List.getElem_mem hjx)
                have hyj := hyi _ (List.getElem_mem hjy)
                generalize xs[j] = x at *
                generalize ys[j] = y at *
                have hC2 : IsInts (.slice ac (i + 1) cc) D wr := by have := HC.out.next hDr.below; rwa [HDL.out] at this
                have q1 := fun n => Lib.hid (quiet_ret rfl (at_calls (p : Int) _ D x hxj HDI.out (by rw [HDL.out]; omega) (wr.drewN n) (hC2.next (below_drewN (Below.refl _ _) n))))
                have q2 := fun n => Lib.hid (quiet_same rfl (add_calls (p : Int) y 0 hyj (by unfold isInt; omega) (wr.drewN n)))
                rw [ne_of_addZ hqm] at q2
                rw [atF_ev hqm] at q1
                have hb : decide (ev D x % (p : Int) = y % (p : Int)) = (ev D x % (p : Int) == y % (p : Int)) := rfl
                rw [hb] at hst
                generalize ev D x % (p : Int) = A at *
                generalize y % (p : Int) = Y at *
                have HST := Lib.hid hst
                clear hst hF hDr hbw hxi hyi hC2 hb
                go_wp2
                go_quiet ((first
                  | (go_at_call 24; exact (q1 _).out)
                  | (go_at_call 22; exact (q2 _).out)))
                go_wp2
                go_roundw
                case rel => exact ⟨j + 1, by omega, by go_num, congrArg Value.bool HST.out.symm, HDr.out.more _⟩
                case measure => simp [intOf]; omega
            · obtain rfl : j = i := by omega
              have hFt : fitsB (p : Int) D (xs.take j) (ys.take j) = fitsB (p : Int) (digL p (xs.length + 1) n) xs ys := by
                have e1 : xs.take j = xs := by rw [HLX.out, List.take_length]
                have e2 : ys.take j = ys := by rw [← HLY.out, List.take_length]
                rw [e1, e2, HD.out, ← HLX.out]
              have HB5 : Hid (Below W.heap.size W wr) := HB4.out.trans (hDr.below.mono HB4.out.size)
              have hR5 : RowAt M p (metF p xs ys n) wr := by obtain ⟨m, rfl⟩ := hDr; exact HR4.out.drewN m
              obtain ⟨F, hF⟩ : ∃ F, F = fitsB (p : Int) D (xs.take j) (ys.take j) := ⟨_, rfl⟩
              rw [← hF] at hFt
              rw [← hF]
              cases F with
              | false =>
                have HRn : Hid (RowAt M p (metF p xs ys (n + 1)) wr) := hR5.congr fun s _ => metF_no hFt.symm s
                clear hFt hF hR5 hDr
                go_wp2
                go_roundw
                case rel => exact ⟨n + 1, by omega, by go_num, HRn.out, HB5.out⟩
                case measure => simp [intOf]; omega
              | true =>
                have hyes := metF_yes hFt.symm
                obtain ⟨d, hd⟩ : ∃ d, d = n % p := ⟨_, rfl⟩
                have hdp : d < p := by rw [hd]; exact Nat.mod_lt _ hp2
                rw [← hd] at hyes hd0
                have hC2 : IsInts (.slice ac (j + 1) cc) D wr := by have := HC.out.next hDr.below; rwa [HDL.out] at this
                have hdc : ∃ bc oc, ac = some ⟨bc, oc, none⟩ ∧ wr.cell? ⟨bc, oc, none⟩ = some (.int .i64 (d : Int)) := by
                  have h0 : 0 < D.length := by rw [HDL.out]; omega
                  have e0 : D[0] = (d : Int) := by have := hd0 0; rw [List.getElem?_eq_getElem h0] at this; exact Option.some.inj this
                  rw [← HDL.out] at hC2
                  obtain ⟨bc, oc, h1, _, h2⟩ := hC2.at 0 h0
                  rw [e0, Nat.add_zero] at h2
                  exact ⟨bc, oc, h1, h2⟩
                obtain ⟨bc, oc, rfl, z0⟩ := hdc
                have z1 := hR5.at' d hdp
                have z2 := hR5.fz d
                have hmb := metF_le p xs ys n d
                obtain ⟨V, hV⟩ : ∃ V, V = metF p xs ys n d := ⟨_, rfl⟩
                rw [← hV] at z1 hmb hyes
                have hv1 : V ≤ 2500 := by omega
                have hv0 : 0 ≤ V := hmb.1
                have HY2 := Lib.hid hyes
                have HR5 := Lib.hid hR5
                have hj1 : (0 : Int) < (j : Int) + 1 := by omega
                have hdpi : (d : Int) < (p : Int) := by omega
                clear hFt hF hR5 hDr hyes hd hd0 hC2 hV hmb
                go_wp2
                go_roundw
                case rel => exact ⟨n + 1, by omega, by go_num, (HR5.out.set d hdp (V + 1)).congr fun s _ => HY2.out s, HB5.out.setCell (p := ⟨M, d, none⟩) HMW.out _⟩
                case measure => simp [intOf]; omega
        · obtain rfl : n = N := by omega
          have hone : ∀ s, s < p → metF p xs ys n s = 1 := fun s hs => by
            have := shares_one hp14 HPR.out xs ys (by rw [← HLX.out, HLY.out]) HS.out.1 HS.out.2 s hs
            rw [← HLX.out, ← HN.out] at this
            unfold metF
            have e : cntB (fitP p xs ys s) n = 1 := by rw [← this]; unfold fitP; rw [← HLX.out]
            rw [e]; rfl
          have hR1 : RowAt M p (fun _ => 1) wr := hR.congr hone
          have HB5 := Lib.hid hB
          clear hR hB hone
          go_wp2_with fail
          refine Calls.mono c4.out ?_
          rintro e w4 ⟨rfl, rfl⟩
          clear c4
          go_wp2
          go_loopw [16] (fun sv wr' => ∃ s : Nat, s ≤ p ∧ sv = .int .i64 (s : Int) ∧ wr' = wr) (fun sv _ => p - (intOf sv).toNat)
          case atStart => exact ⟨0, Nat.zero_le _, rfl, rfl⟩
          case round =>
            obtain ⟨s, hs, rfl, rfl⟩ := hrel
            by_cases hsl : s < p
            · have z0 := hR1.at' s hsl
              have hs1 : (s : Int) < (p : Int) := by omega
              clear hR1
              go_wp2
              go_roundw
              case rel => exact ⟨s + 1, by omega, by go_num, by trivial⟩
              case measure => simp [intOf]; omega
            · obtain rfl : s = p := by omega
              clear hR1
              go_wp2
              go_ret
              exact ⟨rfl, HB5.out⟩
end Go.Proofs.YtdeeoigcpihidaaDoor
