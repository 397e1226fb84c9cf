/- BaseArms: the law. -/
import Derived.Test.YtnblleangiamcaaSameF
namespace Go.Proofs.Ytnblleangiamcaa
open Go.RowKit

variable {w w' : World} {v1 v3 : Value} {l : List Act'} {keep : List Int} {S : Nat → Prop} {b1 b2 : Nat} {d1 d2 : Dk}

theorem t_do (h : Two S w b1 d1 b2 d2) (a : Act') (kv : Value) (hf : FitA a) (hR : d1.R + a.S.length + 2 ≤ 549755813888) (hv : KeepAt w kv a.Keep) (hvb : ∀ i, inBlock kv i → S i) :
    Calls Try.prog 11 #[.pointer (some ⟨b1, 0, none⟩), .agg #[.int .i64 a.Do, .int .i64 a.F, .int .i64 a.N, .string (bs a.S), kv]] w fun r w' => r = .returned (.int .i64 (d1.act a).2) ∧ Two S w' b1 (d1.act a).1 b2 d2 ∧ Kept (fun i => ¬ S i) w w' := by
  obtain ⟨S', hSS, hM, hback⟩ := h.left
  refine (do_calls hM a kv hf hR hv (fun i hi => hSS i (hvb i hi))).mono ?_
  rintro e w' ⟨rfl, h1, k1⟩
  exact ⟨rfl, hback _ _ h1 k1, k1.mono (fun i hi => Or.inl (fun hs => hi (hSS i hs)))⟩

theorem t_crash (h : Two S w b1 d1 b2 d2) (v : Value) (keep : List Int) (hv : KeepAt w v keep) (hvb : ∀ i, inBlock v i → S i) (hlen : keep.length ≤ 1099511627776) :
    Calls Try.prog 24 #[.pointer (some ⟨b1, 0, none⟩), v] w fun r w' => r = .returned (.tuple #[]) ∧ Two S w' b1 (d1.crash keep) b2 d2 ∧ Kept (fun i => ¬ S i) w w' := by
  obtain ⟨S', hSS, hM, hback⟩ := h.left
  refine (m_crash hM v keep hv (fun i hi => hSS i (hvb i hi)) hlen).mono ?_
  rintro e w' ⟨rfl, h1, k1⟩
  exact ⟨rfl, hback _ _ h1 k1, k1.mono (fun i hi => Or.inl (fun hs => hi (hSS i hs)))⟩

theorem t_arm (h : Two S w b1 d1 b2 d2) (n : Int) (v : Value) (xs : List Int) (hv : KeepAt w v xs) (hvb : ∀ i, inBlock v i → S i) (hn : n ≤ 9223372036854775807) (hlen : xs.length ≤ 1099511627776) :
    Calls Try.prog 26 #[.pointer (some ⟨b1, 0, none⟩), .int .i64 n, v] w fun r w' => r = .returned (.tuple #[]) ∧ Two S w' b1 (d1.arm n xs) b2 d2 ∧ Kept (fun i => ¬ S i) w w' := by
  obtain ⟨S', hSS, hM, hback⟩ := h.left
  refine (m_arm hM n v xs hv (fun i hi => hSS i (hvb i hi)) hn hlen).mono ?_
  rintro e w' ⟨rfl, h1, k1⟩
  exact ⟨rfl, hback _ _ h1 k1, k1.mono (fun i hi => Or.inl (fun hs => hi (hSS i hs)))⟩

theorem t_start (h : Two S w b1 d1 b2 d2) :
    Calls Try.prog 25 #[.pointer (some ⟨b1, 0, none⟩)] w fun r w' => r = .returned (.tuple #[]) ∧ Two S w' b1 d1.start b2 d2 ∧ Kept (fun i => ¬ S i) w w' := by
  obtain ⟨S', hSS, hM, hback⟩ := h.left
  refine (m_start hM).mono ?_
  rintro e w' ⟨rfl, h1, k1⟩
  exact ⟨rfl, hback _ _ h1 k1, k1.mono (fun i hi => Or.inl (fun hs => hi (hSS i hs)))⟩

/-- The worlds of the law's loop. -/
def ArS (w : World) (b1 b2 N : Nat) (keep : List Int) (i m : Nat) (wr : World) : Prop :=
  ∃ d c, Two (fun i => i < w.heap.size) wr b1 d b2 c ∧ Kept (fun i => ¬ i < w.heap.size) w wr ∧ (Ph1 N keep m d c ∨ Ph2 N m d c) ∧ d.R = c.R ∧ c.R ≤ 302 * i ∧ m ≤ i

set_option maxHeartbeats 4000000 in
set_option maxRecDepth 100000 in
theorem arms_any (h1 : IsActs w.heap.size v1 l w) (n : Int) (h3 : KeepAt w v3 keep) (h3b : ∀ i, inBlock v3 i → i < w.heap.size) (hf1 : FitL l) (hkl : keep.length ≤ 9223372036854775807) :
    Calls Try.prog 6 #[v1, .int .i64 n, v3] w fun r w' => r = .returned (.bool true) ∧ Below w.heap.size w w' := by
  obtain ⟨va, vc, rfl⟩ := h1.shape
  obtain ⟨ka, kc, rfl⟩ : ∃ ka kc, v3 = .slice ka keep.length kc := by
    rcases h3 with ⟨⟨x, c, rfl⟩, e⟩ | ⟨x, o, c, rfl, _⟩
    · rw [e]; exact ⟨_, _, rfl⟩
    · exact ⟨_, _, rfl⟩
  have hl1 := hf1.len
  have HA1 := Lib.hid h1
  have HV3 := Lib.hid h3
  have HB3 := Lib.hid h3b
  have HF1 := Lib.hid hf1
  clear h1 h3 h3b hf1
  go_enter Try.func6, Try.ntmps6
  go_wp2_with fail
  refine (sane_calls w).mono ?_
  rintro e w1 ⟨rfl, k1⟩
  have HK1 := Lib.hid k1
  have hk1 := Kept.of_below k1
  have c1 := Lib.hid (few_calls (HA1.out.kept hk1 (fun i hi => Nat.not_lt.1 hi)) hl1 HF1.out.s)
  clear k1 hk1
  go_wp2_with fail
  refine Calls.mono c1.out ?_
  rintro e w2 ⟨t1, rfl, ht1, rfl⟩
  have HT1 := Lib.hid ht1
  clear ht1 c1
  cases t1 with
  | false =>
    go_wp2_with fail
    go_ret
    exact ⟨rfl, HK1.out⟩
  | true =>
    have few1 := Lib.hid (HT1.out rfl)
    clear HT1
    by_cases h60 : 60 < keep.length
    · have d1 : (60 : Int) < (keep.length : Int) := by omega
      go_wp2_with fail
      go_ret
      exact ⟨rfl, HK1.out⟩
    · have d1 : ¬ (60 : Int) < (keep.length : Int) := by omega
      by_cases hn1 : n < 1
      · go_wp2_with fail
        go_ret
        exact ⟨rfl, HK1.out⟩
      · by_cases hn2 : 60 < n
        · go_wp2_with fail
          go_ret
          exact ⟨rfl, HK1.out⟩
        · obtain ⟨N, rfl⟩ : ∃ N : Nat, n = (N : Int) := ⟨n.toNat, by omega⟩
          have hN : 0 < N ∧ N ≤ 60 := by omega
          go_wp2_with fail
          refine (m_new w1).mono ?_
          rintro e w2 ⟨b1, rfl, h2, k2⟩
          have hm2 := h2.weak (S' := fun i => i < w.heap.size) (fun i hi => Nat.lt_of_lt_of_le hi HK1.out.size)
          have K2 := Lib.hid ((Kept.of_below HK1.out).trans (k2.mono (fun i hi => hi.elim)))
          have c2 := Lib.hid (t_new hm2)
          clear h2 k2 hm2
          go_wp2_with fail
          refine Calls.mono c2.out ?_
          rintro e w3 ⟨b2, rfl, h3, k3⟩
          have K3 := Lib.hid (K2.out.trans (k3.mono (fun i hi => hi.elim)))
          have c3 := Lib.hid (t_arm h3 (N : Int) _ keep (HV3.out.kept K3.out (fun i hi hn => hn (HB3.out i hi))) HB3.out (by omega) (by omega))
          clear h3 k3 c2
          go_wp2_with fail
          refine Calls.mono c3.out ?_
          rintro e w4 ⟨rfl, h4, k4⟩
          have HS0 : Hid (ArS w b1 b2 N keep 0 0 w4) := ⟨_, _, h4, K3.out.trans k4, Or.inl (Ph1.start N keep hN.1), rfl, Nat.le_refl _, Nat.le_refl _⟩
          have hll := few1.out.1
          clear h4 k4 c3 K3 K2
          go_wp2_with fail
          go_loopw [10, 11] (fun cn i wr => ∃ k m : Nat, k ≤ l.length ∧ i = .int .i64 k ∧ cn = .int .i64 m ∧ Hid (ArS w b1 b2 N keep k m wr)) (fun _ i _ => 41 - (intOf i).toNat)
          case atStart => exact ⟨0, 0, by omega, rfl, rfl, HS0⟩
          case round =>
            obtain ⟨k, m, hk, rfl, rfl, hs⟩ := hrel
            by_cases hlt : k < l.length
            · obtain ⟨a, ha⟩ : ∃ a, l[k]? = some a := ⟨_, List.getElem?_eq_getElem hlt⟩
              obtain ⟨d, c, hT, hK, hph, hRe, hRb, hmk⟩ := hs.out
              have hacts := HA1.out.kept hK (fun i hi => Nat.not_lt.1 hi)
              obtain ⟨g, off, rfl, kv, hat⟩ := hacts.get ha
              have hmem := List.mem_of_getElem? ha
              have hfa := few1.out.fit HF1.out hmem
              have hs3 := (few1.out.2 a hmem).1
              have a0 := hat.c0
              have hcd := Lib.hid (t_do hT a kv hfa (by omega) hat.kp hat.kb)
              have HRG := Lib.hid hat.range
              have hl5 : Hid ((actV a kv).length = 5) := rfl
              have d2 : (k : Int) < (l.length : Int) := by omega
              obtain ⟨K, hKd⟩ : ∃ K, bits BinOp.and IntKind.i64 a.Do 7 = K := ⟨_, rfl⟩
              have HKD : Hid (kd a.Do = K) := hKd
              have HIN := Lib.hid hacts
              have HAK := Lib.hid ha
              have HK := Lib.hid hK
              have HFA := Lib.hid hfa
              have hcR := R_act c a
              have HT := Lib.hid hT
              clear ha hacts hat hmem hfa hK hT
              have M1 : IntKind.i64.wrap ((m : Int) + 1) = (m : Int) + 1 := IntWalk.i64_in _ (by omega)
              by_cases g4 : 4 < K
              · go_wp2_with fail
                go_ret
                exact ⟨rfl, HK.out.below (Nat.le_refl _) (fun k hk => Nat.not_lt.1 hk)⟩
              · rcases hph with hp | hp
                · have hmN := hp.1
                  by_cases k4 : K < 4
                  · by_cases hlast : m + 1 < N
                    · have q := hp.more (a := a) (by rw [HKD.out]; exact k4) hlast
                      have t1 : ((m : Int) + 1 < (N : Int)) := by omega
                      have HQ := Lib.hid q
                      have HP := Lib.hid hp
                      clear q hp
                      go_wp2_with (refine wpList_load_mid rfl 33 _ rfl g (off + k * 5) rfl (actV a kv) _ HRG.out Try.underlying33 rfl (by rw [hl5.out]; kernel_rfl) ?_)
                      refine Calls.mono hcd.out ?_
                      rintro e w5 ⟨rfl, h5, k5⟩
                      have K5 := Lib.hid (HK.out.trans k5)
                      have HT5 := Lib.hid h5
                      clear h5 k5 hcd
                      have hin2 := HA1.out.kept K5.out (fun i hi => Nat.not_lt.1 hi)
                      obtain ⟨g', off', eg, kv2, hat2⟩ := hin2.get HAK.out
                      simp only [Option.some.injEq, Addr.mk.injEq, and_true] at eg
                      obtain ⟨rfl, rfl⟩ := eg
                      have hcd2 := Lib.hid (t_do HT5.out.symm a kv2 HFA.out (by omega) hat2.kp hat2.kb)
                      have HRG2 := Lib.hid hat2.range
                      have hl52 : Hid ((actV a kv2).length = 5) := rfl
                      clear hin2 hat2
                      rw [HQ.out.1] at *
                      go_wp2_with (refine wpList_load_mid rfl 33 _ rfl g (off + k * 5) rfl (actV a kv2) _ HRG2.out Try.underlying33 rfl (by rw [hl52.out]; kernel_rfl) ?_)
                      refine Calls.mono hcd2.out ?_
                      rintro e w6 ⟨rfl, h6, k6⟩
                      have K6 := Lib.hid (K5.out.trans k6)
                      have HT6 := Lib.hid h6.symm
                      clear h6 k6 hcd2
                      go_wp2_with fail
                      go_roundw
                      case rel =>
                        refine ⟨k + 1, m + 1, by omega, by go_num, by go_num, _, _, HT6.out, K6.out, Or.inl HQ.out.2, HQ.out.2.R, ?_, by omega⟩
                        omega
                      case measure => simp [intOf]; omega
                    · have hNm : m + 1 = N := by omega
                      have t1 : ¬ ((m : Int) + 1 < (N : Int)) := by omega
                      have t2 : ((m : Int) + 1 == (N : Int)) = true := by simp; omega
                      have t3 : (K == 4) = false := by simp; omega
                      by_cases k2 : K < 2
                      · have q := hp.fallW (a := a) (by rw [HKD.out]; exact k2) hNm
                        have HQ := Lib.hid q
                        have HP := Lib.hid hp
                        clear q hp
                        go_wp2_with (refine wpList_load_mid rfl 33 _ rfl g (off + k * 5) rfl (actV a kv) _ HRG.out Try.underlying33 rfl (by rw [hl5.out]; kernel_rfl) ?_)
                        refine Calls.mono hcd.out ?_
                        rintro e w5 ⟨rfl, h5, k5⟩
                        have K5 := Lib.hid (HK.out.trans k5)
                        have HT5 := Lib.hid h5
                        clear h5 k5 hcd
                        rw [HQ.out.1]
                        have hdd : (d.act a).1.down = true := HQ.out.2.2.1
                        have hin2 := HA1.out.kept K5.out (fun i hi => Nat.not_lt.1 hi)
                        obtain ⟨g', off', eg, kv2, hat2⟩ := hin2.get HAK.out
                        simp only [Option.some.injEq, Addr.mk.injEq, and_true] at eg
                        obtain ⟨rfl, rfl⟩ := eg
                        have hcd2 := Lib.hid (t_do HT5.out.symm a kv2 HFA.out (by omega) hat2.kp hat2.kb)
                        have HRG2 := Lib.hid hat2.range
                        have hl52 : Hid ((actV a kv2).length = 5) := rfl
                        clear hin2 hat2
                        go_wp2_with (refine wpList_load_mid rfl 33 _ rfl g (off + k * 5) rfl (actV a kv2) _ HRG2.out Try.underlying33 rfl (by rw [hl52.out]; kernel_rfl) ?_)
                        refine Calls.mono hcd2.out ?_
                        rintro e w6 ⟨rfl, h6, k6⟩
                        have K6 := Lib.hid (K5.out.trans k6)
                        have c9 := Lib.hid (t_crash h6 _ keep (HV3.out.kept K6.out (fun i hi hn => hn (HB3.out i hi))) HB3.out (by omega))
                        clear h6 k6 hcd2
                        go_wp2_with fail
                        refine Calls.mono c9.out ?_
                        rintro e w7 ⟨rfl, h7, k7⟩
                        have K7 := Lib.hid (K6.out.trans k7)
                        have HT7 := Lib.hid h7.symm
                        have hdn := Lib.hid (m_down h7.symm.one)
                        rw [hdd] at hdn
                        clear h7 k7 c9 hdd
                        go_wp2_with (go_at_call 13; refine hdn.out.mono ?_; rintro e w8 ⟨rfl, rfl⟩)
                        go_roundw
                        case rel =>
                          refine ⟨k + 1, m + 1, by omega, by go_num, by go_num, _, _, HT7.out, K7.out, Or.inr HQ.out.2, HQ.out.2.2.2.2.2, ?_, by omega⟩
                          rw [R_crash]
                          omega
                        case measure => simp [intOf]; omega
                      · have q := hp.fallS (a := a) (by rw [HKD.out]; omega) hNm
                        have HQ := Lib.hid q
                        have HP := Lib.hid hp
                        clear q hp
                        go_wp2_with (refine wpList_load_mid rfl 33 _ rfl g (off + k * 5) rfl (actV a kv) _ HRG.out Try.underlying33 rfl (by rw [hl5.out]; kernel_rfl) ?_)
                        refine Calls.mono hcd.out ?_
                        rintro e w5 ⟨rfl, h5, k5⟩
                        have K5 := Lib.hid (HK.out.trans k5)
                        have HT5 := Lib.hid h5
                        clear h5 k5 hcd
                        rw [HQ.out.1]
                        have hdd : (d.act a).1.down = true := HQ.out.2.2.1
                        have K6 := K5
                        have c9 := Lib.hid (t_crash HT5.out.symm _ keep (HV3.out.kept K6.out (fun i hi hn => hn (HB3.out i hi))) HB3.out (by omega))
                        go_wp2_with fail
                        refine Calls.mono c9.out ?_
                        rintro e w7 ⟨rfl, h7, k7⟩
                        have K7 := Lib.hid (K6.out.trans k7)
                        have HT7 := Lib.hid h7.symm
                        have hdn := Lib.hid (m_down h7.symm.one)
                        rw [hdd] at hdn
                        clear h7 k7 c9 hdd
                        go_wp2_with (go_at_call 13; refine hdn.out.mono ?_; rintro e w8 ⟨rfl, rfl⟩)
                        go_roundw
                        case rel =>
                          refine ⟨k + 1, m + 1, by omega, by go_num, by go_num, _, _, HT7.out, K7.out, Or.inr HQ.out.2, HQ.out.2.2.2.2.2, ?_, by omega⟩
                          rw [R_crash]
                          omega
                        case measure => simp [intOf]; omega
                  · have k4e : K = 4 := by omega
                    have q := hp.lose (a := a) (by rw [HKD.out]; exact k4e)
                    have t1 : ((m : Int) < (N : Int)) := by omega
                    have HQ := Lib.hid q
                    have HP := Lib.hid hp
                    clear q hp
                    go_wp2_with (refine wpList_load_mid rfl 33 _ rfl g (off + k * 5) rfl (actV a kv) _ HRG.out Try.underlying33 rfl (by rw [hl5.out]; kernel_rfl) ?_)
                    refine Calls.mono hcd.out ?_
                    rintro e w5 ⟨rfl, h5, k5⟩
                    have K5 := Lib.hid (HK.out.trans k5)
                    have HT5 := Lib.hid h5
                    clear h5 k5 hcd
                    have hin2 := HA1.out.kept K5.out (fun i hi => Nat.not_lt.1 hi)
                    obtain ⟨g', off', eg, kv2, hat2⟩ := hin2.get HAK.out
                    simp only [Option.some.injEq, Addr.mk.injEq, and_true] at eg
                    obtain ⟨rfl, rfl⟩ := eg
                    have hcd2 := Lib.hid (t_do HT5.out.symm a kv2 HFA.out (by omega) hat2.kp hat2.kb)
                    have HRG2 := Lib.hid hat2.range
                    have hl52 : Hid ((actV a kv2).length = 5) := rfl
                    clear hin2 hat2
                    rw [HQ.out.1] at *
                    go_wp2_with (refine wpList_load_mid rfl 33 _ rfl g (off + k * 5) rfl (actV a kv2) _ HRG2.out Try.underlying33 rfl (by rw [hl52.out]; kernel_rfl) ?_)
                    refine Calls.mono hcd2.out ?_
                    rintro e w6 ⟨rfl, h6, k6⟩
                    have K6 := Lib.hid (K5.out.trans k6)
                    have HT6 := Lib.hid h6.symm
                    clear h6 k6 hcd2
                    go_wp2_with fail
                    go_roundw
                    case rel =>
                      refine ⟨k + 1, m, by omega, by go_num, by go_num, _, _, HT6.out, K6.out, Or.inl HQ.out.2, HQ.out.2.R, ?_, by omega⟩
                      omega
                    case measure => simp [intOf]; omega
                · have hmN := hp.1
                  by_cases k4 : K < 4
                  · have q := hp.more (a := a) (by rw [HKD.out]; exact k4)
                    have t1 : ¬ ((m : Int) + 1 < (N : Int)) := by omega
                    have t2 : ((m : Int) + 1 == (N : Int)) = false := by simp; omega
                    have HQ := Lib.hid q
                    have HP := Lib.hid hp
                    clear q hp
                    go_wp2_with (refine wpList_load_mid rfl 33 _ rfl g (off + k * 5) rfl (actV a kv) _ HRG.out Try.underlying33 rfl (by rw [hl5.out]; kernel_rfl) ?_)
                    refine Calls.mono hcd.out ?_
                    rintro e w5 ⟨rfl, h5, k5⟩
                    have K5 := Lib.hid (HK.out.trans k5)
                    have HT5 := Lib.hid h5
                    clear h5 k5 hcd
                    rw [HQ.out.1]
                    have hdn := Lib.hid (m_down HT5.out.one)
                    rw [HQ.out.2.2.1] at hdn
                    go_wp2_with (go_at_call 13; refine hdn.out.mono ?_; rintro e w8 ⟨rfl, rfl⟩)
                    go_roundw
                    case rel =>
                      refine ⟨k + 1, m + 1, by omega, by go_num, by go_num, _, _, HT5.out, K5.out, Or.inr HQ.out.2, HQ.out.2.2.2.2.2, ?_, by omega⟩
                      omega
                    case measure => simp [intOf]; omega
                  · have k4e : K = 4 := by omega
                    have q := hp.lose (a := a) (by rw [HKD.out]; exact k4e)
                    have t1 : ¬ ((m : Int) < (N : Int)) := by omega
                    subst k4e
                    by_cases hmn : m = N
                    · have t2 : ((m : Int) == (N : Int)) = true := by simp; omega
                      have HQ := Lib.hid q
                      have HP := Lib.hid hp
                      clear q hp
                      go_wp2_with (refine wpList_load_mid rfl 33 _ rfl g (off + k * 5) rfl (actV a kv) _ HRG.out Try.underlying33 rfl (by rw [hl5.out]; kernel_rfl) ?_)
                      refine Calls.mono hcd.out ?_
                      rintro e w5 ⟨rfl, h5, k5⟩
                      have K5 := Lib.hid (HK.out.trans k5)
                      have HT5 := Lib.hid h5
                      clear h5 k5 hcd
                      have hdn := Lib.hid (m_down HT5.out.one)
                      rw [HQ.out.2.1] at hdn
                      go_wp2_with (go_at_call 13; refine hdn.out.mono ?_; rintro e w8 ⟨rfl, rfl⟩)
                      go_roundw
                      case rel =>
                        refine ⟨k + 1, m, by omega, by go_num, by go_num, _, _, HT5.out, K5.out, Or.inr HQ.out, HQ.out.2.2.2.2, ?_, by omega⟩
                        omega
                      case measure => simp [intOf]; omega
                    · have t2 : ((m : Int) == (N : Int)) = false := by simp; omega
                      have HQ := Lib.hid q
                      have HP := Lib.hid hp
                      clear q hp
                      go_wp2_with (refine wpList_load_mid rfl 33 _ rfl g (off + k * 5) rfl (actV a kv) _ HRG.out Try.underlying33 rfl (by rw [hl5.out]; kernel_rfl) ?_)
                      refine Calls.mono hcd.out ?_
                      rintro e w5 ⟨rfl, h5, k5⟩
                      have K5 := Lib.hid (HK.out.trans k5)
                      have HT5 := Lib.hid h5
                      clear h5 k5 hcd
                      have hdn := Lib.hid (m_down HT5.out.one)
                      rw [HQ.out.2.1] at hdn
                      go_wp2_with (go_at_call 13; refine hdn.out.mono ?_; rintro e w8 ⟨rfl, rfl⟩)
                      go_roundw
                      case rel =>
                        refine ⟨k + 1, m, by omega, by go_num, by go_num, _, _, HT5.out, K5.out, Or.inr HQ.out, HQ.out.2.2.2.2, ?_, by omega⟩
                        omega
                      case measure => simp [intOf]; omega
            · obtain rfl : k = l.length := by omega
              obtain ⟨d, c, hT, hK, hph, hRe, hRb, hmk⟩ := hs.out
              have hal : Alike d c := by
                rcases hph with hp | hp
                · exact hp.alike
                · exact hp.alike
              have HAL := Lib.hid hal
              have HK := Lib.hid hK
              have c5 := Lib.hid (same_calls hT hal (HA1.out.kept hK (fun i hi => Nat.not_lt.1 hi)) (fun i hi => hi) (by omega))
              clear hT hK hal hph hRe hRb
              go_wp2_with fail
              refine Calls.mono c5.out ?_
              rintro e w5 ⟨rfl, h5, k5⟩
              have K5 := Lib.hid (HK.out.trans k5)
              have c6 := Lib.hid (t_start h5)
              clear h5 k5 c5
              go_wp2_with fail
              refine Calls.mono c6.out ?_
              rintro e w6 ⟨rfl, h6, k6⟩
              have K6 := Lib.hid (K5.out.trans k6)
              have c7 := Lib.hid (t_start h6.symm)
              clear h6 k6 c6
              go_wp2_with fail
              refine Calls.mono c7.out ?_
              rintro e w7 ⟨rfl, h7, k7⟩
              have K7 := Lib.hid (K6.out.trans k7)
              have c8 := Lib.hid (same_calls h7.symm HAL.out.start (HA1.out.kept K7.out (fun i hi => Nat.not_lt.1 hi)) (fun i hi => hi) (by omega))
              clear h7 k7 c7
              go_wp2_with fail
              refine Calls.mono c8.out ?_
              rintro e w8 ⟨rfl, h8, k8⟩
              have K8 := Lib.hid (K7.out.trans k8)
              clear h8 k8 c8
              go_wp2_with fail
              go_ret
              exact ⟨rfl, K8.out.below (Nat.le_refl _) (fun k hk => Nat.not_lt.1 hk)⟩

end Go.Proofs.Ytnblleangiamcaa
