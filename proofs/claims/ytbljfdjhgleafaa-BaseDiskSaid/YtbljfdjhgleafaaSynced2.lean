/- BaseSynced: the law. -/
import Derived.Test.YtbljfdjhgleafaaSynced
namespace Go.Proofs.Ytbljfdjhgleafaa
open Go.RowKit

variable {w w' : World} {v1 v2 v3 : Value} {l more : List Act'} {keep : List Int}

theorem Kept.of_below {B : Nat} {w w' : World} (h : Below B w w') : Kept (fun i => ¬ i < B) w w' := (Below.kept h).mono (fun _ hi => Or.inl (Nat.not_lt.2 hi))

theorem Mine.ok {S : Nat → Prop} {b : Nat} {d : Dk} (h : Mine S w b d) : d.Ok := by
  obtain ⟨L, hi, _⟩ := h
  exact hi.ok

set_option maxHeartbeats 4000000 in
set_option maxRecDepth 100000 in
theorem synced_any (h1 : IsActs w.heap.size v1 l w) (f : Int) (h2 : IsActs w.heap.size v2 more w) (h3 : KeepAt w v3 keep) (h3b : ∀ i, inBlock v3 i → i < w.heap.size) (hf1 : FitL l) (hf2 : FitL more) (hkl : keep.length ≤ 9223372036854775807) :
    Calls Try.prog 5 #[v1, .int .i64 f, v2, v3] w fun r w' => r = .returned (.bool true) ∧ Below w.heap.size w w' := by
  obtain ⟨va, vc, rfl⟩ := h1.shape
  obtain ⟨ua, uc, rfl⟩ := h2.shape
  obtain ⟨ka, kc, rfl⟩ : ∃ ka kc, v3 = .slice ka keep.length kc := by
    rcases h3 with ⟨⟨x, c, rfl⟩, e⟩ | ⟨x, o, c, rfl, _⟩
    · rw [e]; exact ⟨_, _, rfl⟩
    · exact ⟨_, _, rfl⟩
  have hl1 := hf1.len
  have hl2 := hf2.len
  have HA1 := Lib.hid h1
  have HA2 := Lib.hid h2
  have HV3 := Lib.hid h3
  have HB3 := Lib.hid h3b
  have HF1 := Lib.hid hf1
  have HF2 := Lib.hid hf2
  clear h1 h2 h3 h3b hf1 hf2
  go_enter Try.func5, Try.ntmps5
  go_wp2_with fail
  refine (sane_calls w).mono ?_
  rintro e w1 ⟨rfl, k1⟩
  have HK1 := Lib.hid k1
  have hk1 := Kept.of_below k1
  have c1 := Lib.hid (few_calls (HA1.out.kept hk1 (fun i hi => Nat.not_lt.1 hi)) hl1 HF1.out.s)
  have c2 := Lib.hid (few_calls (HA2.out.kept hk1 (fun i hi => Nat.not_lt.1 hi)) hl2 HF2.out.s)
  clear k1 hk1
  go_wp2_with fail
  refine Calls.mono c1.out ?_
  rintro e w2 ⟨t1, rfl, ht1, rfl⟩
  have HT1 := Lib.hid ht1
  clear ht1 c1
  cases t1 with
  | false =>
    go_wp2_with fail
    go_ret
    exact ⟨rfl, HK1.out⟩
  | true =>
    have few1 := Lib.hid (HT1.out rfl)
    go_wp2_with fail
    refine Calls.mono c2.out ?_
    rintro e w2 ⟨t2, rfl, ht2, rfl⟩
    have HT2 := Lib.hid ht2
    clear ht2 c2
    cases t2 with
    | false =>
      go_wp2_with fail
      go_ret
      exact ⟨rfl, HK1.out⟩
    | true =>
      have few2 := Lib.hid (HT2.out rfl)
      clear HT1 HT2
      by_cases h60 : 60 < keep.length
      · have d1 : (60 : Int) < (keep.length : Int) := by omega
        go_wp2_with fail
        go_ret
        exact ⟨rfl, HK1.out⟩
      · have d1 : ¬ (60 : Int) < (keep.length : Int) := by omega
        have c3 := Lib.hid (played_calls (HA1.out.kept (Kept.of_below HK1.out) (fun i hi => Nat.not_lt.1 hi)) HK1.out.size few1.out HF1.out)
        go_wp2_with fail
        refine Calls.mono c3.out ?_
        rintro e w3 ⟨b, rfl, hm3, hk3⟩
        have HK3 := Lib.hid ((Kept.of_below HK1.out).trans hk3)
        obtain ⟨d0, hd0⟩ : ∃ d0, d0 = playL Dk.new l := ⟨_, rfl⟩
        have hR0 := R_play l Dk.new (fun x hx => (few1.out.2 x hx).1)
        rw [← hd0, r0] at hR0
        have hll := few1.out.1
        rw [← hd0] at hm3
        have c4 := Lib.hid (m_read hm3 f 0 16777216 (by decide) (by decide))
        have HM3 := Lib.hid hm3
        obtain ⟨rd, hrd⟩ : ∃ rd, rd = d0.read f 0 16777216 := ⟨_, rfl⟩
        rw [← hrd] at c4
        have HRD := Lib.hid hrd
        clear hm3 hk3 c3 hd0 hrd
        go_wp2_with fail
        refine Calls.mono c4.out ?_
        rintro e w4 ⟨rfl, hm4, hk4⟩
        have HK4 := Lib.hid (HK3.out.trans hk4)
        have c5 := Lib.hid (m_sync hm4 f)
        obtain ⟨se, hse⟩ : ∃ se, se = (d0.sync f).2 := ⟨_, rfl⟩
        rw [← hse] at c5
        have HSE := Lib.hid hse
        clear hm4 hk4 c4 hse
        go_wp2_with fail
        refine Calls.mono c5.out ?_
        rintro e w5 ⟨rfl, hm5, hk5⟩
        have HK5 := Lib.hid (HK4.out.trans hk5)
        by_cases hs0 : se = 0
        · subst hs0
          obtain ⟨t, q1, q2, q3⟩ := synced_pure HM3.out.ok f HSE.out.symm more keep
          have hrt : rd = (t, 0) := HRD.out.trans q1
          subst hrt
          have c6 := Lib.hid (m_read hm5 f 0 16777216 (by decide) (by decide))
          rw [q2] at c6
          have Q3 := Lib.hid q3
          clear hm5 hk5 c5 q1 q2 q3
          go_wp2_with fail
          refine Calls.mono c6.out ?_
          rintro e w6 ⟨rfl, hm6, hk6⟩
          have hR1 : (d0.sync f).1.R = d0.R := by
            rw [Dk.sync]
            split
            · rw [R_fin, Dk.syn]
              split <;> rfl
            · exact R_fin _ _
          have HS0 : Hid (Mine (fun i => i < w.heap.size) w6 b (moreL f (d0.sync f).1 (more.take 0)) ∧ Kept (fun i => ¬ i < w.heap.size) w w6) := ⟨hm6, HK5.out.trans hk6⟩
          obtain ⟨d1, hd1⟩ : ∃ d1, d1 = (d0.sync f).1 := ⟨_, rfl⟩
          rw [← hd1] at HS0 Q3 hR1
          have hR2 : d1.R ≤ 302 * 40 := by omega
          clear hm6 hk6 c6 hd1 hR1 hR0
          have hml := few2.out.1
          go_wp2_with fail
          go_loopw [15] (fun i wr => ∃ k : Nat, k ≤ more.length ∧ i = .int .i64 k ∧ Hid (Mine (fun i => i < w.heap.size) wr b (moreL f d1 (more.take k)) ∧ Kept (fun i => ¬ i < w.heap.size) w wr)) (fun i _ => 41 - (intOf i).toNat)
          case atStart => exact ⟨0, by omega, rfl, HS0⟩
          case round =>
            obtain ⟨k, hk, rfl, hs⟩ := hrel
            by_cases hlt : k < more.length
            · obtain ⟨a, ha⟩ : ∃ a, more[k]? = some a := ⟨_, List.getElem?_eq_getElem hlt⟩
              have hacts := HA2.out.kept hs.out.2 (fun i hi => Nat.not_lt.1 hi)
              obtain ⟨g, off, rfl, kv, hat⟩ := hacts.get ha
              have hmem := List.mem_of_getElem? ha
              have hfa := few2.out.fit HF2.out hmem
              have hR := more_R f (more.take k) d1 (fun x hx => (few2.out.2 x (List.mem_of_mem_take hx)).1)
              rw [List.length_take] at hR
              have hs3 := (few2.out.2 a hmem).1
              have hcd := Lib.hid (do_calls hs.out.1 a kv hfa (by omega) hat.kp hat.kb)
              have HRG := Lib.hid hat.range
              have hl5 : Hid ((actV a kv).length = 5) := rfl
              have a0 := hat.c0
              have a1 := hat.c1
              have HSN := Lib.hid (more_snoc f d1 more k a ha)
              have d2 : (k : Int) < (more.length : Int) := by omega
              obtain ⟨K, hK⟩ : ∃ K, bits BinOp.and IntKind.i64 a.Do 7 = K := ⟨_, rfl⟩
              have HKD : Hid (kd a.Do = K) := hK
              clear ha hacts hat hmem hfa hR hs3
              by_cases g1 : K < 4
              · by_cases g2 : a.F = f
                · have g3 : K ≠ 4 := by omega
                  have g4 : (K == 4) = false := by simpa using g3
                  have g5 : (a.F != f) = false := by simpa using g2
                  go_wp2_with fail
                  go_roundw
                  case rel =>
                    refine ⟨k + 1, by omega, by go_num, ?_, ?_⟩
                    · rw [HSN.out, if_neg (by simp [spares, HKD.out, g1, g2, g3])]
                      exact hs.out.1
                    · exact hs.out.2
                  case measure => simp [intOf]; omega
                · have g5 : (a.F != f) = true := by simpa using g2
                  go_wp2_with (refine wpList_load_mid rfl 33 _ rfl g (off + k * 5) rfl (actV a kv) _ HRG.out Try.underlying33 rfl (by rw [hl5.out]; kernel_rfl) ?_)
                  refine Calls.mono hcd.out ?_
                  rintro e w7 ⟨rfl, hm7, hk7⟩
                  have HM7 := Lib.hid hm7
                  have HK7 := Lib.hid hk7
                  clear hm7 hk7 hcd
                  go_wp2_with fail
                  go_roundw
                  case rel =>
                    refine ⟨k + 1, by omega, by go_num, ?_, ?_⟩
                    · rw [HSN.out, if_pos (by simp [spares, HKD.out, g1, g2])]
                      exact HM7.out
                    · exact hs.out.2.trans HK7.out
                  case measure => simp [intOf]; omega
              · by_cases g2 : K = 4
                · have g4 : (K == 4) = true := by simpa using g2
                  go_wp2_with (refine wpList_load_mid rfl 33 _ rfl g (off + k * 5) rfl (actV a kv) _ HRG.out Try.underlying33 rfl (by rw [hl5.out]; kernel_rfl) ?_)
                  refine Calls.mono hcd.out ?_
                  rintro e w7 ⟨rfl, hm7, hk7⟩
                  have HM7 := Lib.hid hm7
                  have HK7 := Lib.hid hk7
                  clear hm7 hk7 hcd
                  go_wp2_with fail
                  go_roundw
                  case rel =>
                    refine ⟨k + 1, by omega, by go_num, ?_, ?_⟩
                    · rw [HSN.out, if_pos (by simp [spares, HKD.out, g2])]
                      exact HM7.out
                    · exact hs.out.2.trans HK7.out
                  case measure => simp [intOf]; omega
                · have g4 : (K == 4) = false := by simpa using g2
                  go_wp2_with fail
                  go_roundw
                  case rel =>
                    refine ⟨k + 1, by omega, by go_num, ?_, ?_⟩
                    · rw [HSN.out, if_neg (by simp [spares, HKD.out, g1, g2])]
                      exact hs.out.1
                    · exact hs.out.2
                  case measure => simp [intOf]; omega
            · obtain rfl : k = more.length := by omega
              have hs2 := hs.out
              rw [List.take_length] at hs2
              have HS2 := Lib.hid hs2
              have c7 := Lib.hid (m_crash hs2.1 _ keep (HV3.out.kept hs2.2 (fun i hi hn => hn (HB3.out i hi))) HB3.out (by omega))
              clear hs2
              go_wp2_with fail
              refine Calls.mono c7.out ?_
              rintro e w7 ⟨rfl, hm7, hk7⟩
              have HK7 := Lib.hid (HS2.out.2.trans hk7)
              have c8 := Lib.hid (m_start hm7)
              clear hm7 hk7 c7
              go_wp2_with fail
              refine Calls.mono c8.out ?_
              rintro e w8 ⟨rfl, hm8, hk8⟩
              have HK8 := Lib.hid (HK7.out.trans hk8)
              have c9 := Lib.hid (m_read hm8 f 0 16777216 (by decide) (by decide))
              rw [Q3.out] at c9
              clear hm8 hk8 c8
              go_wp2_with fail
              refine Calls.mono c9.out ?_
              rintro e w9 ⟨rfl, hm9, hk9⟩
              have HK9 := Lib.hid (HK8.out.trans hk9)
              clear hm9 hk9 c9
              go_wp2_with fail
              go_ret
              exact ⟨rfl, HK9.out.below (Nat.le_refl _) (fun k hk => Nat.not_lt.1 hk)⟩
        · have f1 : (se != 0) = true := by simpa using hs0
          clear hm5 hk5 c5 hs0
          go_wp2_with fail
          go_ret
          exact ⟨rfl, HK5.out.below (Nat.le_refl _) (fun k hk => Nat.not_lt.1 hk)⟩

end Go.Proofs.Ytbljfdjhgleafaa
