/- BaseSurvives: the law. -/
import Derived.Test.YtnblleangiamcaaAfter
import Derived.Deep.QuietTactic
import Derived.BigQuiet
namespace Go.Proofs.Ytnblleangiamcaa
open Go.RowKit

variable {w w' : World} {v1 v3 : Value} {l : List Act'} {keep : List Int}

def BoolV (v : Value) : Prop := ∃ o : Bool, v = .bool o

set_option maxHeartbeats 4000000 in
set_option maxRecDepth 100000 in
theorem survives_any (h1 : IsActs w.heap.size v1 l w) (f : Int) (h3 : KeepAt w v3 keep) (h3b : ∀ i, inBlock v3 i → i < w.heap.size) (hf1 : FitL l) (hkl : keep.length ≤ 9223372036854775807) :
    Calls Try.prog 4 #[v1, .int .i64 f, v3] w fun r w' => r = .returned (.bool true) ∧ Below w.heap.size w w' := by
  obtain ⟨va, vc, rfl⟩ := h1.shape
  obtain ⟨ka, kc, rfl⟩ : ∃ ka kc, v3 = .slice ka keep.length kc := by
    rcases h3 with ⟨⟨x, c, rfl⟩, e⟩ | ⟨x, o, c, rfl, _⟩
    · rw [e]; exact ⟨_, _, rfl⟩
    · exact ⟨_, _, rfl⟩
  have hl1 := hf1.len
  have HA1 := Lib.hid h1
  have HV3 := Lib.hid h3
  have HB3 := Lib.hid h3b
  have HF1 := Lib.hid hf1
  clear h1 h3 h3b hf1
  go_enter Try.func4, Try.ntmps4
  go_wp2_with fail
  refine (sane_calls w).mono ?_
  rintro e w1 ⟨rfl, k1⟩
  have HK1 := Lib.hid k1
  have hk1 := Kept.of_below k1
  have c1 := Lib.hid (few_calls (HA1.out.kept hk1 (fun i hi => Nat.not_lt.1 hi)) hl1 HF1.out.s)
  clear k1 hk1
  go_wp2_with fail
  refine Calls.mono c1.out ?_
  rintro e w2 ⟨t1, rfl, ht1, rfl⟩
  have HT1 := Lib.hid ht1
  clear ht1 c1
  cases t1 with
  | false =>
    go_wp2_with fail
    go_ret
    exact ⟨rfl, HK1.out⟩
  | true =>
    have few1 := Lib.hid (HT1.out rfl)
    clear HT1
    by_cases h60 : 60 < keep.length
    · have d1 : (60 : Int) < (keep.length : Int) := by omega
      go_wp2_with fail
      go_ret
      exact ⟨rfl, HK1.out⟩
    · have d1 : ¬ (60 : Int) < (keep.length : Int) := by omega
      have c3 := Lib.hid (played_calls (HA1.out.kept (Kept.of_below HK1.out) (fun i hi => Nat.not_lt.1 hi)) HK1.out.size few1.out HF1.out)
      go_wp2_with fail
      refine Calls.mono c3.out ?_
      rintro e w3 ⟨b, rfl, hm3, hk3⟩
      have HK3 := Lib.hid ((Kept.of_below HK1.out).trans hk3)
      obtain ⟨d, hd0⟩ : ∃ d0, d0 = playL Dk.new l := ⟨_, rfl⟩
      rw [← hd0] at hm3
      have c4 := Lib.hid (m_down hm3)
      have HM3 := Lib.hid hm3
      clear hm3 hk3 c3 hd0
      obtain ⟨dn, hdn⟩ : ∃ dn, dn = d.down := ⟨_, rfl⟩
      rw [← hdn] at c4
      have HDN := Lib.hid hdn
      clear hdn
      cases dn with
      | true =>
        go_wp2_with (go_at_call 13; refine c4.out.mono ?_; rintro e w4 ⟨rfl, rfl⟩)
        go_ret
        exact ⟨rfl, HK3.out.below (Nat.le_refl _) (fun k hk => Nat.not_lt.1 hk)⟩
      | false =>
        by_cases hneg : f < 0
        · go_wp2_with (go_at_call 13; refine c4.out.mono ?_; rintro e w4 ⟨rfl, rfl⟩)
          go_ret
          exact ⟨rfl, HK3.out.below (Nat.le_refl _) (fun k hk => Nat.not_lt.1 hk)⟩
        · by_cases hbig : 15 < f
          · go_wp2_with (go_at_call 13; refine c4.out.mono ?_; rintro e w4 ⟨rfl, rfl⟩)
            go_ret
            exact ⟨rfl, HK3.out.below (Nat.le_refl _) (fun k hk => Nat.not_lt.1 hk)⟩
          · obtain ⟨f, rfl⟩ : ∃ n : Nat, f = (n : Int) := ⟨f.toNat, by omega⟩
            have hf16 : f < 16 := by omega
            have hsz : d.size (f : Int) = d.F.sz f := by rw [Dk.size, if_pos ⟨by omega, by omega⟩, Int.toNat_natCast]
            have c5 := Lib.hid (m_size HM3.out (f : Int))
            rw [hsz] at c5
            obtain ⟨sz, hszd⟩ : ∃ sz, sz = d.F.sz f := ⟨_, rfl⟩
            rw [← hszd] at c5
            have HSZ := Lib.hid hszd
            clear hsz hszd
            by_cases hhuge : 100000 < sz
            · have d5 : (100000 : Int) < (sz : Int) := by omega
              go_wp2_with (first
                | (go_at_call 13; refine c4.out.mono ?_; rintro e w4 ⟨rfl, rfl⟩)
                | (go_at_call 15; refine c5.out.mono ?_; rintro e w4 ⟨rfl, rfl⟩))
              go_ret
              exact ⟨rfl, HK3.out.below (Nat.le_refl _) (fun k hk => Nat.not_lt.1 hk)⟩
            · have d5 : ¬ (100000 : Int) < (sz : Int) := by omega
              have hok := HM3.out.ok
              obtain ⟨p1, p2, p3, p4⟩ := survives_pure hok f keep
              have c6 := Lib.hid (m_read HM3.out (f : Int) 0 16777216 (by decide) (by decide))
              rw [read_all hok HDN.out.symm ⟨by omega, by omega⟩, Int.toNat_natCast] at c6
              have q1 := read_crash hok HDN.out.symm hf16 []
              have q2 := read_crash hok HDN.out.symm hf16 [1]
              have q3 := read_crash hok HDN.out.symm hf16 keep
              rw [p1] at q2
              obtain ⟨now, hnow⟩ : ∃ t, t = d.F.text f := ⟨_, rfl⟩
              obtain ⟨last, hlast⟩ : ∃ t, t = (d.left []).text f := ⟨_, rfl⟩
              obtain ⟨some', hsome⟩ : ∃ t, t = (d.left keep).text f := ⟨_, rfl⟩
              have hnl : now.length = sz := by rw [hnow, Img.text_length]; exact HSZ.out.symm
              rw [← hnow] at c6 q2 p3 p4
              rw [← hlast] at q1 p2 p4
              rw [← hsome] at q3 p2 p3 p4
              have Q1 := Lib.hid q1
              have Q2 := Lib.hid q2
              have Q3 := Lib.hid q3
              have P4 := Lib.hid p4
              have z1 := bs_size now
              have z2 := bs_size last
              have z3 := bs_size some'
              have hnl2 : now.length ≤ 100000 := by omega
              clear q1 q2 q3 p1 p4 hnow hlast hsome hok hnl
              go_wp2_with (first
                | (go_at_call 13; refine c4.out.mono ?_; rintro e w4 ⟨rfl, rfl⟩)
                | (go_at_call 15; refine c5.out.mono ?_; rintro e w4 ⟨rfl, rfl⟩))
              refine Calls.mono c6.out ?_
              rintro e w5 ⟨rfl, h5, k5⟩
              have K5 := Lib.hid (HK3.out.trans k5)
              have c7 := Lib.hid (after_calls h5 (f : Int) (.slice none 0 0) [] (Or.inl ⟨⟨_, _, rfl⟩, rfl⟩) (fun i hi => by obtain ⟨o, n, c, e⟩ := hi; simp at e) (by decide))
              rw [Q1.out] at c7
              clear h5 k5 c6 c4 c5
              go_wp2_with fail
              refine Calls.mono c7.out ?_
              rintro e w6 ⟨rfl, h6, k6⟩
              have K6 := Lib.hid (K5.out.trans k6)
              have C8 := Lib.hid (fun o (ho : o = Obj.cells ([1].map (Value.int .i64)).toArray 3 (0, 0)) => after_lit (xs := [1]) h6 (f : Int) ho (by decide))
              rw [Q2.out] at C8
              clear h6 k6 c7
              go_wp2_with fail
              refine Calls.mono (C8.out _ rfl) ?_
              rintro e w7 ⟨rfl, h7, k7⟩
              have K7 := Lib.hid (K6.out.trans k7)
              have c9 := Lib.hid (after_calls h7 (f : Int) _ keep (HV3.out.kept K7.out (fun i hi hn => hn (HB3.out i hi))) HB3.out (by omega))
              rw [Q3.out] at c9
              clear h7 k7 C8
              go_wp2_with fail
              refine Calls.mono c9.out ?_
              rintro e w8 ⟨rfl, h8, k8⟩
              have K8 := Lib.hid (K7.out.trans k8)
              clear h8 k8 c9
              have g1 : ¬ ((some'.length : Int) < (last.length : Int)) := by omega
              have g2 : ¬ ((now.length : Int) < (some'.length : Int)) := by omega
              go_wp2_with fail
              have hlen3 : some'.length ≤ 100000 := by omega
              have HS0 : Hid (Kept (fun i => ¬ i < w.heap.size) w w8) := K8
              go_loopw [17] (fun i wr => ∃ k : Nat, 64 * k ≤ some'.length + 63 ∧ i = .int .i64 k ∧ Hid (Kept (fun i => ¬ i < w.heap.size) w wr)) (fun i _ => 300000 - (intOf i).toNat)
              case atStart => exact ⟨0, by omega, rfl, HS0⟩
              case round =>
                obtain ⟨k, hk, rfl, hs⟩ := hrel
                have m1 : IntKind.i64.wrap (64 * (k : Int)) = 64 * (k : Int) := IntWalk.i64_in _ (by omega)
                by_cases hlt : 64 * k < some'.length
                · have d6 : (64 * (k : Int) < (some'.length : Int)) := by omega
                  rcases P4.out k with hsec | hsec
                  · have HSEC := Lib.hid hsec
                    clear hsec
                    go_wp2_with fail
                    go_loopw [18, 19, 20] (fun a b2 i wr => ∃ j : Nat, 64 * k ≤ j ∧ j ≤ 64 * k + 64 ∧ a = .bool true ∧ BoolV b2 ∧ i = .int .i64 j ∧ Hid (Kept (fun i => ¬ i < w.heap.size) w wr)) (fun _ _ i _ => 300000 - (intOf i).toNat)
                    case atStart => exact ⟨64 * k, Nat.le_refl _, by omega, rfl, ⟨true, rfl⟩, by go_num, hs⟩
                    case round =>
                      obtain ⟨j, hj1, hj2, rfl, ⟨o, rfl⟩, rfl, hs2⟩ := hrel
                      have m2 : IntKind.i64.wrap (64 * (k : Int) + 64) = 64 * (k : Int) + 64 := IntWalk.i64_in _ (by omega)
                      have b3 : (0 : Int) ≤ (j : Int) := by omega
                      by_cases hin : j < 64 * k + 64
                      · have e1 : ((j : Int) < 64 * (k : Int) + 64) := by omega
                        by_cases hin2 : j < some'.length
                        · have e2 : ((j : Int) < (some'.length : Int)) := by omega
                          have e3 : ((j : Int) < (now.length : Int)) := by omega
                          have heq := Lib.hid (HSEC.out j (by omega) hin2)
                          have hby := Lib.hid (fun W => byteAt_eq last j W (by omega) (by omega))
                          cases o with
                          | false =>
                            go_wp2_with fail
                            go_quiet (fail)
                            obtain ⟨wq, ewq, hhq, hkq⟩ := ex_drewN wr nq
                            rw [ewq]
                            have HKQ := Lib.hid (hkq (fun i => ¬ i < w.heap.size))
                            clear ewq hhq hkq
                            go_wp2_with fail
                            go_quiet ((go_at_call 23; exact Calls.quiet_of_same (hby.out _)))
                            go_wp2_with fail
                            go_roundw
                            case rel =>
                              refine ⟨j + 1, by omega, by omega, ?_, ⟨_, rfl⟩, by go_num, (hs2.out.trans HKQ.out).trans (kept_drewN _ _ _)⟩
                              repeat rw [bs_get]
                              rw [heq.out]
                              simp
                            case measure => simp [intOf]; omega
                          | true =>
                            go_wp2_with fail
                            go_quiet (fail)
                            obtain ⟨wq, ewq, hhq, hkq⟩ := ex_drewN wr nq
                            rw [ewq]
                            have HKQ := Lib.hid (hkq (fun i => ¬ i < w.heap.size))
                            clear ewq hhq hkq
                            go_wp2_with fail
                            go_quiet ((go_at_call 23; exact Calls.quiet_of_same (hby.out _)))
                            go_wp2_with fail
                            go_roundw
                            case rel =>
                              refine ⟨j + 1, by omega, by omega, ?_, ⟨_, rfl⟩, by go_num, (hs2.out.trans HKQ.out).trans (kept_drewN _ _ _)⟩
                              repeat rw [bs_get]
                              rw [heq.out]
                              simp
                            case measure => simp [intOf]; omega
                        · have e2 : ¬ ((j : Int) < (some'.length : Int)) := by omega
                          go_wp2_with fail
                          go_roundw
                          case rel => exact ⟨k + 1, by omega, by go_num, hs2⟩
                          case measure => simp [intOf]; omega
                      · have e1 : ¬ ((j : Int) < 64 * (k : Int) + 64) := by omega
                        go_wp2_with fail
                        go_roundw
                        case rel => exact ⟨k + 1, by omega, by go_num, hs2⟩
                        case measure => simp [intOf]; omega
                  · have HSEC := Lib.hid hsec
                    clear hsec
                    go_wp2_with fail
                    go_loopw [18, 19, 20] (fun a b2 i wr => ∃ j : Nat, 64 * k ≤ j ∧ j ≤ 64 * k + 64 ∧ BoolV a ∧ b2 = .bool true ∧ i = .int .i64 j ∧ Hid (Kept (fun i => ¬ i < w.heap.size) w wr)) (fun _ _ i _ => 300000 - (intOf i).toNat)
                    case atStart => exact ⟨64 * k, Nat.le_refl _, by omega, ⟨true, rfl⟩, rfl, by go_num, hs⟩
                    case round =>
                      obtain ⟨j, hj1, hj2, ⟨o, rfl⟩, rfl, rfl, hs2⟩ := hrel
                      have m2 : IntKind.i64.wrap (64 * (k : Int) + 64) = 64 * (k : Int) + 64 := IntWalk.i64_in _ (by omega)
                      have b3 : (0 : Int) ≤ (j : Int) := by omega
                      by_cases hin : j < 64 * k + 64
                      · have e1 : ((j : Int) < 64 * (k : Int) + 64) := by omega
                        by_cases hin2 : j < some'.length
                        · have e2 : ((j : Int) < (some'.length : Int)) := by omega
                          have e3 : ((j : Int) < (now.length : Int)) := by omega
                          have heq := Lib.hid (HSEC.out j (by omega) hin2)
                          have hby := Lib.hid (fun W => byteAt_eq last j W (by omega) (by omega))
                          cases o with
                          | false =>
                            go_wp2_with fail
                            go_quiet (fail)
                            obtain ⟨wq, ewq, hhq, hkq⟩ := ex_drewN wr nq
                            rw [ewq]
                            have HKQ := Lib.hid (hkq (fun i => ¬ i < w.heap.size))
                            clear ewq hhq hkq
                            go_wp2_with fail
                            go_quiet ((go_at_call 23; exact Calls.quiet_of_same (hby.out _)))
                            go_wp2_with fail
                            go_roundw
                            case rel =>
                              refine ⟨j + 1, by omega, by omega, ⟨_, rfl⟩, ?_, by go_num, (hs2.out.trans HKQ.out).trans (kept_drewN _ _ _)⟩
                              repeat rw [bs_get]
                              rw [heq.out]
                              simp
                            case measure => simp [intOf]; omega
                          | true =>
                            go_wp2_with fail
                            go_quiet (fail)
                            obtain ⟨wq, ewq, hhq, hkq⟩ := ex_drewN wr nq
                            rw [ewq]
                            have HKQ := Lib.hid (hkq (fun i => ¬ i < w.heap.size))
                            clear ewq hhq hkq
                            go_wp2_with fail
                            go_quiet ((go_at_call 23; exact Calls.quiet_of_same (hby.out _)))
                            go_wp2_with fail
                            go_roundw
                            case rel =>
                              refine ⟨j + 1, by omega, by omega, ⟨_, rfl⟩, ?_, by go_num, (hs2.out.trans HKQ.out).trans (kept_drewN _ _ _)⟩
                              repeat rw [bs_get]
                              rw [heq.out]
                              simp
                            case measure => simp [intOf]; omega
                        · have e2 : ¬ ((j : Int) < (some'.length : Int)) := by omega
                          cases o with
                          | false =>
                            go_wp2_with fail
                            go_roundw
                            case rel => exact ⟨k + 1, by omega, by go_num, hs2⟩
                            case measure => simp [intOf]; omega
                          | true =>
                            go_wp2_with fail
                            go_roundw
                            case rel => exact ⟨k + 1, by omega, by go_num, hs2⟩
                            case measure => simp [intOf]; omega
                      · have e1 : ¬ ((j : Int) < 64 * (k : Int) + 64) := by omega
                        cases o with
                        | false =>
                          go_wp2_with fail
                          go_roundw
                          case rel => exact ⟨k + 1, by omega, by go_num, hs2⟩
                          case measure => simp [intOf]; omega
                        | true =>
                          go_wp2_with fail
                          go_roundw
                          case rel => exact ⟨k + 1, by omega, by go_num, hs2⟩
                          case measure => simp [intOf]; omega
                · have d6 : ¬ (64 * (k : Int) < (some'.length : Int)) := by omega
                  go_wp2_with fail
                  go_ret
                  exact ⟨rfl, hs.out.below (Nat.le_refl _) (fun k hk => Nat.not_lt.1 hk)⟩

end Go.Proofs.Ytnblleangiamcaa
