/- BaseDisk: the walk. -/
import Derived.Test.YtbljfdjhgleafaaRlaw
import Derived.Deep.RegionHeld3
namespace Go.Proofs.Ytbljfdjhgleafaa
open Go.RowKit

variable {w w' : World} {b rb : Nat} {d : Dk} {r : Rk} {S : Nat → Prop} {v1 : Value} {l : List Act'}

/-- What holds ahead of each round. -/
structure BdS (B : Nat) (w : World) (l : List Act') (b rb : Nat) (k : Nat) (W : World) : Prop where
  both : ∃ r, Both (fun i => i < B) W b (playL Dk.new (l.take k)) rb r ∧ Rep r (playL Dk.new (l.take k)) ∧ r.keep.length ≤ 60
  kept : Kept (fun i => ¬ i < B) w W

/-- Within a round. -/
def BInv (B : Nat) (w0 : World) (b rb : Nat) (d : Dk) (r : Rk) (W : World) : Prop := Both (fun i => i < B) W b d rb r ∧ Kept (fun i => ¬ i < B) w0 W

set_option maxHeartbeats 4000000 in
set_option maxRecDepth 100000 in
theorem bdisk_any (h1 : IsActs w.heap.size v1 l w) (f at_ size : Int) (hf1 : FitL l) (ha : -9223372036854775808 ≤ at_ ∧ at_ ≤ 9223372036854775807) :
    Calls Try.prog 3 #[v1, .int .i64 f, .int .i64 at_, .int .i64 size] w fun e w' => e = .returned (.bool true) ∧ Below w.heap.size w w' := by
  obtain ⟨va, vc, rfl⟩ := h1.shape
  have hl1 := hf1.len
  have HA1 := Lib.hid h1
  have HF1 := Lib.hid hf1
  have HAT := Lib.hid ha
  clear h1 hf1 ha
  go_enter Try.func3, Try.ntmps3
  go_wp2_with fail
  refine (sane_calls w).mono ?_
  rintro e w1 ⟨rfl, k1⟩
  have HK1 := Lib.hid k1
  have hk1 := Kept.of_below k1
  have c1 := Lib.hid (few_calls (HA1.out.kept hk1 (fun i hi => Nat.not_lt.1 hi)) hl1 HF1.out.s)
  clear k1 hk1
  go_wp2_with fail
  refine Calls.mono c1.out ?_
  rintro e w2 ⟨t1, rfl, ht1, rfl⟩
  have HT1 := Lib.hid ht1
  clear ht1 c1
  cases t1 with
  | false =>
    go_wp2_with fail
    go_ret
    exact ⟨rfl, HK1.out⟩
  | true =>
    have few1 := Lib.hid (HT1.out rfl)
    have hll := few1.out.1
    clear HT1
    go_wp2_with fail
    refine (m_new w1).mono ?_
    rintro e w3 ⟨b0, rfl, hm3, hk3⟩
    have HM3 := Lib.hid hm3
    have HK3 := Lib.hid ((Kept.of_below HK1.out).trans (hk3.mono (fun _ hi => hi.elim)))
    clear hm3 hk3
    go_wp2_with fail
    refine (rnew_calls w3).mono ?_
    rintro e w4 ⟨rb, rfl, hi4, hrb, hk4⟩
    have hz1 := HK1.out.size
    have HS0 : Hid (BdS w.heap.size w l b0 rb 0 w4) :=
      ⟨⟨Rk.new, both_new (HM3.out.weak (fun i hi => Nat.lt_of_lt_of_le hi hz1)) hi4 hrb hk4, new_rep, by decide⟩, HK3.out.trans (hk4.mono (fun _ hi => hi.elim))⟩
    clear hi4 hrb hk4 HM3 HK3 HK1
    go_wp2_with fail
    go_loopw [10, 12] (fun p i wr => ∃ (k b : Nat), k ≤ l.length ∧ i = .int .i64 k ∧ p = .pointer (some ⟨b, 0, none⟩) ∧ Hid (BdS w.heap.size w l b rb k wr)) (fun _ i _ => 41 - (intOf i).toNat)
    case atStart => exact ⟨0, b0, by omega, rfl, rfl, HS0⟩
    case round =>
      clear HS0
      obtain ⟨k, b, hk, rfl, rfl, hs⟩ := hrel
      obtain ⟨⟨r, hbo, hrep, hkl⟩, hkp⟩ := hs.out
      have HKP := Lib.hid hkp
      have HREP := Lib.hid hrep
      have HBO := Lib.hid hbo
      by_cases hlt : k < l.length
      · obtain ⟨a, ha⟩ : ∃ a, l[k]? = some a := ⟨_, List.getElem?_eq_getElem hlt⟩
        have hacts := HA1.out.kept hkp (fun i hi => Nat.not_lt.1 hi)
        obtain ⟨g, off, rfl, kv, hat⟩ := hacts.get ha
        have hgb : g < w.heap.size := by
          rcases hacts with ⟨_, e⟩ | ⟨g', o', c', e, hg', _⟩
          · rw [e] at hlt; simp at hlt
          · simp only [Value.slice.injEq, Option.some.injEq, Addr.mk.injEq] at e
            rw [e.1.1]; exact hg'
        have HGB := Lib.hid hgb
        have hmem := List.mem_of_getElem? ha
        have hfa := few1.out.fit HF1.out hmem
        have hR := R_play (l.take k) Dk.new (fun x hx => (few1.out.2 x (List.mem_of_mem_take hx)).1)
        rw [r0, List.length_take] at hR
        have hs3 := (few1.out.2 a hmem).1
        have hsn := playL_snoc Dk.new l k a ha
        have HSN := Lib.hid hsn
        have HMEM := Lib.hid hmem
        have HFA := Lib.hid hfa
        have HAT2 := Lib.hid hat
        have HRG := Lib.hid hat.range
        have d2 : (k : Int) < (l.length : Int) := by omega
        obtain ⟨d, hd⟩ : ∃ d, d = playL Dk.new (l.take k) := ⟨_, rfl⟩
        rw [← hd] at hbo hrep HBO HREP HSN hR
        have hkv := kept_slice hat.kp
        have HRA := Lib.hid (hrep.act a)
        have hid0 : BInv w.heap.size wr b rb d r wr.drew := ⟨hbo.kept ((Kept.refl (fun _ => False) wr).drew) (fun _ hi => hi.elim), (Kept.refl _ wr).drew⟩
        have cdo : Hid (∀ W r2, BInv w.heap.size wr b rb d r2 W → Calls Try.prog 11 #[.pointer (some ⟨b, 0, none⟩), .agg #[.int .i64 a.Do, .int .i64 a.F, .int .i64 a.N, .string (bs a.S), kv]] W fun e w' => e = .returned (.int .i64 (d.act a).2) ∧ BInv w.heap.size wr b rb (d.act a).1 r2 w') :=
          fun W r2 hb => (b_do hb.1 a kv HFA.out (by omega) (HAT2.out.kp.kept hb.2 (fun i hi hn => hn (HAT2.out.kb i hi))) HAT2.out.kb).mono (by rintro e w' ⟨rfl, h1, h2⟩; exact ⟨rfl, h1, hb.2.trans h2⟩)
        have crf : Hid (∀ W d2, BInv w.heap.size wr b rb d2 r W → Calls Try.prog 12 #[.pointer (some ⟨rb, 0, none⟩), .agg #[.int .i64 a.Do, .int .i64 a.F, .int .i64 a.N, .string (bs a.S), kv]] W fun e w' => e = .returned (.int .i64 (d.act a).2) ∧ BInv w.heap.size wr b rb d2 (r.act a).1 w') := by
          intro W d2 hb
          have := (b_ref hb.1 HREP.out (by omega) a kv HFA.out (HAT2.out.kp.kept hb.2 (fun i hi hn => hn (HAT2.out.kb i hi))) HAT2.out.kb).mono (R' := fun e w' => e = .returned (.int .i64 (r.act a).2) ∧ BInv w.heap.size wr b rb d2 (r.act a).1 w') (by rintro e w' ⟨rfl, h1, h2⟩; exact ⟨rfl, h1, hb.2.trans h2⟩)
          rw [HRA.out.2] at this
          exact this
        have cdn : Hid (∀ W r2, BInv w.heap.size wr b rb (d.act a).1 r2 W → Calls Try.prog 13 #[.pointer (some ⟨b, 0, none⟩)] W fun e w' => e = .returned (.bool (d.act a).1.down) ∧ W = w') := fun W r2 hb => b_down hb.1
        have crd : Hid (∀ W d2, BInv w.heap.size wr b rb d2 (r.act a).1 W → Calls Try.prog 14 #[.pointer (some ⟨rb, 0, none⟩)] W fun e w' => e = .returned (.bool (d.act a).1.down) ∧ W = w') := by
          intro W d2 hb
          have := b_rdown hb.1
          rw [HRA.out.1.down] at this
          exact this
        have csz : Hid (∀ W r2, BInv w.heap.size wr b rb (d.act a).1 r2 W → Calls Try.prog 15 #[.pointer (some ⟨b, 0, none⟩), .int .i64 f] W fun e w' => e = .returned (.int .i64 ((d.act a).1.size f)) ∧ W = w') := fun W r2 hb => b_size hb.1 f
        have crs : Hid (∀ W, BInv w.heap.size wr b rb (d.act a).1 (r.act a).1 W → Calls Try.prog 16 #[.pointer (some ⟨rb, 0, none⟩), .int .i64 f] W fun e w' => e = .returned (.int .i64 ((d.act a).1.size f)) ∧ BInv w.heap.size wr b rb (d.act a).1 (r.act a).1 w') :=
          fun W hb => (b_rsize hb.1 HRA.out.1 f).mono (by rintro e w' ⟨rfl, h1, h2⟩; exact ⟨rfl, h1, hb.2.trans h2⟩)
        have SK : Hid (∀ W dd rr, BInv w.heap.size wr b rb dd rr W → W.cell? ⟨g, off + k * 5, none⟩ = some (.int .i64 a.Do) ∧ W.cell? ⟨g, off + k * 5 + 1, none⟩ = some (.int .i64 a.F) ∧ W.cell? ⟨g, off + k * 5 + 2, none⟩ = some (.int .i64 a.N) ∧ W.cell? ⟨g, off + k * 5 + 3, none⟩ = some (.string (bs a.S)) ∧ W.cell? ⟨g, off + k * 5 + 4, none⟩ = some kv) := by
          intro W dd rr hb
          have e : ∀ o, W.cell? ⟨g, o, none⟩ = wr.cell? ⟨g, o, none⟩ := fun o => World.cell?_of_block (hb.2.block g (World.block_lt_of_cell? wr _ HAT2.out.c0) (fun hn => hn HGB.out))
          exact ⟨(e _).trans HAT2.out.c0, (e _).trans HAT2.out.c1, (e _).trans HAT2.out.c2, (e _).trans HAT2.out.c3, (e _).trans HAT2.out.c4⟩
        obtain ⟨A2, hA2⟩ : ∃ A2, A2 = (d.act a).2 := ⟨_, rfl⟩
        obtain ⟨A3, hA3⟩ : ∃ A3, A3 = (d.act a).1.down := ⟨_, rfl⟩
        obtain ⟨A4, hA4⟩ : ∃ A4, A4 = (d.act a).1.size f := ⟨_, rfl⟩
        obtain ⟨D1, hD1⟩ : ∃ D1, D1 = (d.act a).1 := ⟨_, rfl⟩
        obtain ⟨R1, hR1⟩ : ∃ R1, R1 = (r.act a).1 := ⟨_, rfl⟩
        rw [← hA2] at cdo crf
        rw [← hA3] at cdn crd
        rw [← hA4] at csz crs
        rw [← hD1] at cdo cdn csz crs
        rw [← hR1] at crf crd crs
        have HD := Lib.hid hd
        have HD1 := Lib.hid hD1
        have HR1 := Lib.hid hR1
        clear hbo hrep hkp ha hacts hat hmem hfa hsn hd hs hA2 hA3 hA4 hD1 hR1
        go_wp2_with fail
        have hS00 := SK.out _ _ _ hid0
        go_region_held3 (fun W => W.cell? ⟨g, off + k * 5, none⟩ = some (.int .i64 a.Do) ∧ W.cell? ⟨g, off + k * 5 + 1, none⟩ = some (.int .i64 a.F) ∧ W.cell? ⟨g, off + k * 5 + 2, none⟩ = some (.int .i64 a.N) ∧ W.cell? ⟨g, off + k * 5 + 3, none⟩ = some (.string (bs a.S)) ∧ W.cell? ⟨g, off + k * 5 + 4, none⟩ = some kv)
          (first | go_keep | exact hS00 | exact SK.out _ _ _ (by assumption))
          (first
            | (go_at_call 11; refine Calls.mono (cdo.out _ _ (by assumption)) ?_; rintro e w9 ⟨rfl, hI9⟩)
            | (go_at_call 12; refine Calls.mono (crf.out _ _ (by assumption)) ?_; rintro e w8 ⟨rfl, hI8⟩)
            | (go_at_call 13; refine Calls.mono (cdn.out _ _ (by assumption)) ?_; rintro e w7 ⟨rfl, rfl⟩)
            | (go_at_call 14; refine Calls.mono (crd.out _ _ (by assumption)) ?_; rintro e w6 ⟨rfl, rfl⟩)
            | (go_at_call 15; refine Calls.mono (csz.out _ _ (by assumption)) ?_; rintro e w5 ⟨rfl, rfl⟩)
            | (go_at_call 16; refine Calls.mono (crs.out _ (by assumption)) ?_; rintro e w4 ⟨rfl, hI4⟩))
        all_goals
          have hnext : ∀ (W : World) (b2 : Nat), Both (fun i => i < w.heap.size) W b2 D1 rb R1 → Kept (fun i => ¬ i < w.heap.size) wr W → Hid (BdS w.heap.size w l b2 rb (k + 1) W) := by
            intro W b2 h1 h2
            have hpl : playL Dk.new (l.take (k + 1)) = D1 := by rw [HSN.out, HD1.out]
            refine ⟨⟨R1, by rw [hpl]; exact h1, by rw [hpl, HD1.out, HR1.out]; exact HRA.out.1, ?_⟩, HKP.out.trans h2⟩
            rw [HR1.out]
            rcases act_keep r a with h3 | h3
            · rw [h3]; exact hkl
            · rw [h3]; exact (few1.out.2 a HMEM.out).2
          have HNX := Lib.hid hnext
          have HI4 := Lib.hid hI4
          clear hnext hid0 hS00 hI4 cdo crf cdn crd csz crs SK
          by_cases hmid : k = l.length / 2
          · obtain ⟨h2, hh2⟩ : ∃ h2, h2 = l.length / 2 := ⟨_, rfl⟩
            have e1 : (l.length : Int) / 2 = (h2 : Int) := by omega
            have d7 : (k == h2) = true := by simp; omega
            have d8 : ((k : Int) == (h2 : Int)) = true := by simp; omega
            clear hmid hh2
            obtain ⟨a0, ha0⟩ : ∃ a0, l[0]? = some a0 := ⟨_, List.getElem?_eq_getElem (by omega)⟩
            have HA0 := Lib.hid ha0
            clear ha0
            go_wp2_with fail
            refine (b_copy HI4.out.1).mono ?_
            rintro e w5 ⟨gc, rfl, ⟨S2, hS2, hm5, hb5⟩, hk5⟩
            have HS2 := Lib.hid hS2
            have HM5 := Lib.hid hm5
            have HB5 := Lib.hid hb5
            have hk45 : Kept (fun i => ¬ i < w.heap.size) wr w5 := HI4.out.2.trans (hk5.mono (fun _ hi => hi.elim))
            have HK45 := Lib.hid hk45
            have hacts0 := HA1.out.kept (HKP.out.trans hk45) (fun i hi => Nat.not_lt.1 hi)
            obtain ⟨g0, off0, eg, kv0, hat0⟩ := hacts0.get HA0.out
            simp only [Option.some.injEq, Addr.mk.injEq, and_true] at eg
            obtain ⟨rfl, rfl⟩ := eg
            have hm0 := List.mem_of_getElem? HA0.out
            have hfa0 := few1.out.fit HF1.out hm0
            have hs0 := (few1.out.2 a0 hm0).1
            have hR1 : D1.R ≤ 302 * 41 := by
              have h1 := R_act d a
              have h2 := (few1.out.2 a HMEM.out).1
              rw [← HD1.out] at h1
              omega
            have cd0 := Lib.hid (do_calls HM5.out a0 kv0 hfa0 (by omega) hat0.kp (fun i hi => hS2 i (hat0.kb i hi)))
            have hrg0 := hat0.range
            rw [Nat.zero_mul, Nat.add_zero] at hrg0
            have HRG0 := Lib.hid hrg0
            clear hS2 hm5 hb5 hk5 hk45 hacts0 hat0 hm0 hfa0 hs0 hrg0
            go_wp2_with (refine wpList_load_mid rfl 33 _ rfl g off rfl (actV a0 kv0) _ HRG0.out Try.underlying33 rfl (by kernel_rfl) ?_)
            refine Calls.mono cd0.out ?_
            rintro e w6 ⟨rfl, hm6, hk6⟩
            have HK6 := Lib.hid hk6
            have cs6 := Lib.hid (m_sync hm6 f)
            clear hm6 hk6 cd0
            go_wp2_with fail
            refine Calls.mono cs6.out ?_
            rintro e w7 ⟨rfl, hm7, hk7⟩
            have HF := HNX.out w7 gc (HB5.out w7 (HK6.out.trans hk7)) (HK45.out.trans ((HK6.out.trans hk7).mono (fun i hi => Or.inl (fun hs => hi (HS2.out i hs)))))
            clear hm7 hk7 cs6
            go_wp2_with fail
            go_roundw
            case rel => exact ⟨k + 1, gc, by omega, by go_num, rfl, HF⟩
            case measure => simp [intOf]; omega
          · obtain ⟨h2, hh2⟩ : ∃ h2, h2 = l.length / 2 := ⟨_, rfl⟩
            have e1 : (l.length : Int) / 2 = (h2 : Int) := by omega
            have d7 : (k == h2) = false := by simp; omega
            have d8 : ((k : Int) == (h2 : Int)) = false := by simp; omega
            clear hmid hh2
            have HF := HNX.out w4 b HI4.out.1 HI4.out.2
            go_wp2_with fail
            go_roundw
            case rel => exact ⟨k + 1, b, by omega, by go_num, rfl, HF⟩
            case measure => simp [intOf]; omega
      · obtain rfl : k = l.length := by omega
        obtain ⟨d, hd⟩ : ∃ d, d = playL Dk.new (l.take l.length) := ⟨_, rfl⟩
        rw [← hd] at hbo hrep
        obtain ⟨S', h1, h2, h3⟩ := hbo.left
        have c5 := Lib.hid (m_read h2 f at_ size HAT.out.1 HAT.out.2)
        have H3 := Lib.hid h3
        have HREP2 := Lib.hid hrep
        have H1 := Lib.hid h1
        obtain ⟨rd, hrd⟩ : ∃ rd, rd = d.read f at_ size := ⟨_, rfl⟩
        rw [← hrd] at c5
        have hrr : r.read f at_ size = rd := (hrep.read f at_ size).trans hrd.symm
        have HRR := Lib.hid hrr
        clear hbo hrep hkp hs hd h1 h2 h3 HREP HBO hrd hrr
        go_wp2_with fail
        refine Calls.mono c5.out ?_
        rintro e w5 ⟨rfl, hm5, hk5⟩
        have hk5' : Kept (fun i => ¬ i < w.heap.size) wr w5 := hk5.mono (fun i hi => Or.inl (fun hs => hi (H1.out i hs)))
        have HK5 := Lib.hid (HKP.out.trans hk5')
        obtain ⟨Lx, LR, -, hir, -, hfr, -, hBlt⟩ := H3.out _ _ hm5 hk5
        have c6 := rread_calls hir HREP2.out f at_ size HAT.out.1 HAT.out.2
        rw [HRR.out] at c6
        have C6 := Lib.hid c6
        clear hm5 hk5 hk5' hir hfr hBlt c6 c5
        go_wp2_with fail
        refine Calls.mono C6.out ?_
        rintro e w6 ⟨rfl, hb6⟩
        have HK6 := Lib.hid (HK5.out.trans ((Below.kept hb6).mono (T := fun i => ¬ i < w.heap.size) (fun i hi => Or.inr hi)))
        clear hb6 C6
        go_wp2_with fail
        go_ret
        exact ⟨rfl, HK6.out.below (Nat.le_refl _) (fun k hk => Nat.not_lt.1 hk)⟩

end Go.Proofs.Ytbljfdjhgleafaa
