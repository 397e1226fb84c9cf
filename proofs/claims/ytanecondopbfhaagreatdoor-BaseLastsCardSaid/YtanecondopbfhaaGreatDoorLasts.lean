/- BaseLasts: the walk. -/
import Derived.Test.YtanecondopbfhaaGreatDoorLasts2
import Derived.Deep.RegionHeld3
namespace Go.Proofs.YtanecondopbfhaaGreatDoor
open Go.RowKit
open Cod (Env)

set_option maxHeartbeats 8000000 in
set_option maxRecDepth 100000 in
theorem lasts_any {v z : Value} {l : List Op'} {keep : List Int} {w : World} (hv : IsOps w.heap.size v l w) (hl : l.length ≤ 9223372036854775807) (hs : ∀ a ∈ l, a.S.length ≤ 9223372036854775807) (hkf : ∀ a ∈ l, a.Keep.length ≤ 9223372036854775807) (hn : ∀ a ∈ l, -9223372036854775808 ≤ a.N ∧ a.N ≤ 9223372036854775807) (hz : KeepAt w z keep) (hzb : ∀ i, inBlock z i → i < w.heap.size) (hzl : keep.length ≤ 9223372036854775807) (hE : Env w) :
    Calls Tryz.prog 4 #[v, z] w fun e w' => e = .returned (.bool true) ∧ Below w.heap.size w w' := by
  obtain ⟨va, vc, rfl⟩ := hv.shape
  obtain ⟨za, zc, rfl⟩ := keep_shape hz
  have hlo := hE.lo
  have HV := Lib.hid hv
  have HZ := Lib.hid hz
  have HZB := Lib.hid hzb
  have HN := Lib.hid hn
  have HS := Lib.hid hs
  have HKF := Lib.hid hkf
  clear hv hz hzb hn hs hkf
  go_enter Tryz.func4, Tryz.ntmps4
  go_wp2_with fail
  refine (jsane_calls w hE).mono ?_
  rintro e w1 ⟨rfl, k1⟩
  have HK1 := Lib.hid k1
  have hk1 := kept_below k1 rfl
  have hE1 := env_kept hE hk1 (fun _ _ h => h)
  have c1 := Lib.hid (fewop_calls (HV.out.kept hk1 (fun _ h => h.elim)) hl HS.out HKF.out)
  clear k1 hk1
  go_wp2_with fail
  refine Calls.mono c1.out ?_
  rintro e w2 ⟨t1, rfl, ht1, rfl⟩
  have HT1 := Lib.hid ht1
  clear ht1 c1
  cases t1 with
  | false =>
    go_wp2_with fail
    go_ret
    exact ⟨rfl, HK1.out⟩
  | true =>
    have HFEW := Lib.hid (HT1.out rfl)
    have hl25 := HFEW.out.1
    clear HT1
    by_cases hzz : 50 < keep.length
    · go_wp2_with fail
      go_ret
      exact ⟨rfl, HK1.out⟩
    · go_wp2_with fail
      refine (m_new w1).mono ?_
      rintro e w3 ⟨b, rfl, hm3, hk3⟩
      have hE3 := env_kept hE1 hk3 (fun _ _ h => h)
      have hzK := HK1.out.size
      have HK3 := Lib.hid (((kept_below HK1.out rfl).mono (T := fun i => ¬ i < w.heap.size) (fun _ h => h.elim)).trans (hk3.mono (fun _ h => h.elim)))
      have hM3 : Mine (fun i => i < w.heap.size) w3 b Dk.new := hm3.weak (fun i hi => Nat.lt_of_lt_of_le hi hzK)
      obtain ⟨d4, o4, hc4, ht4, -, hR4, hst4⟩ := calm_open hM3.ok new_calm (f := 3) (by decide)
      have c4 := n_open hM3 hE3 (fun i hi => by omega) 3 (by decide)
      rw [o4] at c4
      rw [new_text, recs_nil] at c4 ht4 hst4
      have C4 := Lib.hid c4
      clear c4 o4 hm3 hk3 hM3
      go_wp2_with fail
      refine C4.out.mono ?_
      rintro e w4 ⟨jb, rfl, h4, k4⟩
      have h4 : Jn (fun i => i < w.heap.size) w4 b d4 jb ⟨3, [], false⟩ := h4
      have HT0 : Hid (LS w.heap.size w b 0 (.pointer (some ⟨jb, 0, none⟩)) (.slice none 0 0) (.slice none 0 0) w4) :=
        ⟨⟨_, d4, [], 0, ⟨fun i hi => hi, fun i hi => by simp [Value.ownBlock] at hi, fun i hi => by simp [Value.ownBlock] at hi, ⟨rfl, .inl ⟨rfl, rfl⟩⟩, ⟨rfl, .inl ⟨rfl, rfl⟩⟩, Nat.le_refl _, by simp, by rw [hR4]; decide, Nat.le_refl _⟩, Or.inr ⟨jb, _, rfl, h4, ⟨good_all h4.ok hst4, by simp, rfl, fun _ => ⟨hc4.down, ht4, rfl⟩⟩⟩⟩, HK3.out.trans k4⟩
      clear h4 k4 hc4 ht4 hR4 hst4 C4 HK3 hE3
      go_wp2_with fail
      go_loopw [7, 9, 10, 11] (fun jv av sv i wr => ∃ k : Nat, k ≤ l.length + 1 ∧ i = .int .i64 k ∧ Hid (LS w.heap.size w b k jv av sv wr)) (fun _ _ _ i _ => 27 - (intOf i).toNat)
      case atStart => exact ⟨0, by omega, rfl, HT0⟩
      case round =>
        clear HT0
        obtain ⟨k, hk, rfl, ht⟩ := hrel
        by_cases hlt : k < l.length
        · obtain ⟨a, ha⟩ : ∃ a, l[k]? = some a := ⟨_, List.getElem?_eq_getElem hlt⟩
          have hops := HV.out.kept ht.out.kept (fun i hi => Nat.not_lt.1 hi)
          obtain ⟨g, off, rfl, hgB, hgw, kv, hat⟩ := hops.get ha
          have hat2 : OpAt w.heap.size g (off + k * 4) a kv (wr.alloc (.cells #[.int .i64 4, .string ⟨#[]⟩, .int .i64 0, .slice za keep.length zc] 38)) := by
            have e : ∀ o, (wr.alloc (.cells #[.int .i64 4, .string ⟨#[]⟩, .int .i64 0, .slice za keep.length zc] 38)).cell? ⟨g, o, none⟩ = wr.cell? ⟨g, o, none⟩ := fun o => by
              unfold World.cell?
              rw [Lib.alloc_old wr _ g hgw]
            exact ⟨(e _).trans hat.c0, (e _).trans hat.c1, (e _).trans hat.c2, (e _).trans hat.c3, hat.kp.kept ((Kept.refl (fun _ => False) wr).alloc _) (fun _ _ h => h), hat.kb⟩
          have HRG := Lib.hid hat2.range
          obtain ⟨ka, kc, rfl⟩ := keep_shape hat.kp
          unfold opV at HRG
          have d2 : (k : Int) < (l.length : Int) := by omega
          have d3 : (k : Int) ≤ (l.length : Int) := by omega
          have hk25 : a.S.length ≤ 200 ∧ a.Keep.length ≤ 50 := HFEW.out.2 a (List.mem_of_getElem? ha)
          have hNa := HN.out a (List.mem_of_getElem? ha)
          have HT := Lib.hid ht.out
          have HAT := Lib.hid hat2
          have HKP : Hid (∀ o, KeepAt (wr.alloc o) (.slice ka a.Keep.length kc) a.Keep) := fun o => hat.kp.kept ((Kept.refl (fun _ => False) wr).alloc o) (fun _ _ h => h)
          clear hops hat hat2 ht ha
          by_cases q0 : a.Kind = 0
          · as_aux_lemma =>
              rcases HT.out.cases with e7 | ⟨P7, d7, A7, kk7, jb7, j7, e7, hl7, hJ7, hL7, hk7⟩
              · subst e7
                have H5 := Lib.hid ((HT.out.alloc (.cells #[.int .i64 a.Kind, .string (bs a.S), .int .i64 a.N, .slice ka a.Keep.length kc] 38)).later (Nat.le_succ k))
                rw [q0] at H5
                go_wp2_with (refine wpList_load_mid rfl 38 _ rfl g (off + k * 4) rfl [.int .i64 a.Kind, .string (bs a.S), .int .i64 a.N, .slice ka a.Keep.length kc] _ HRG.out Tryz.underlying38 rfl (by kernel_rfl) ?_)
                go_roundw
                case rel => exact ⟨k + 1, by omega, by go_num, H5⟩
                case measure => simp [intOf]; omega
              · subst e7
                have hsu : ∀ i, some i = u10.ownBlock → i < wr.heap.size + 1 := fun i hi => by have := (row_lt hl7.rs i hi).2; omega
                have hwN := HT.out.kept.size
                have HSU := Lib.hid hsu
                clear hsu
                have hlj := lj_of hl7 hJ7 hL7 hk7 (.cells #[.int .i64 a.Kind, .string (bs a.S), .int .i64 a.N, .slice ka a.Keep.length kc] 38)
                have C1 := Lib.hid (lj_all hlj)
                rw [q0] at C1
                clear hl7 hJ7 hL7 hk7 hlj
                go_wp2_with (refine wpList_load_mid rfl 38 _ rfl g (off + k * 4) rfl [.int .i64 a.Kind, .string (bs a.S), .int .i64 a.N, .slice ka a.Keep.length kc] _ HRG.out Tryz.underlying38 rfl (by kernel_rfl) ?_)
                refine C1.out.mono ?_
                rintro r w5 ⟨bv, P5, rfl, hbv, hPP, hbP, h5, hk5⟩
                have C2 := Lib.hid (lj_append h5 hE hlo a.S hk25.1 (by omega))
                have o1 : w5.cell? ⟨wr.heap.size, 1, none⟩ = some (.string (bs a.S)) := by rw [Lib.cell_of_heap h5.at_]; rfl
                have H5 := Lib.hid h5
                have HBV := Lib.hid hbv
                have HBP := Lib.hid hbP
                clear h5 hbv hbP hPP C1 hk5
                go_wp2_with fail
                refine C2.out.mono ?_
                rintro r w6 ⟨e6, d6, j6, rfl, k6, h6, hR6, hat6, hk6, hc6⟩
                have C3 := Lib.hid (n_all h6)
                clear C2 o1
                go_wp2_with fail
                refine C3.out.mono ?_
                rintro r w8 ⟨rv, rfl, hrv, hb8⟩
                have hk8 := kept_below hb8 rfl
                have o1 : w8.cell? ⟨wr.heap.size, 1, none⟩ = some (.string (bs a.S)) := by
                  have hlt := (Array.getElem?_eq_some_iff.1 hat6).1
                  rw [Lib.cell_of_heap ((hk8.block _ hlt (fun h => h)).trans hat6)]; rfl
                have hz8 : w5.heap.size ≤ w8.heap.size := Nat.le_trans k6.size hk8.size
                have hra8 : TRow w.heap.size w8 u9 A7 := row_keeps (row_keeps H5.out.lists.ra (fun i hi hl => k6.block i hl (fun hn => hn (H5.out.lists.pa i hi)))) (fun i hi hl => hk8.block i hl (fun h => h))
                have hrs8 : TRow w.heap.size w8 u10 (A7.take kk7) := row_keeps (row_keeps H5.out.lists.rs (fun i hi hl => k6.block i hl (fun hn => hn (H5.out.lists.ps i hi)))) (fun i hi hl => hk8.block i hl (fun h => h))
                have hbv8 : TRow (wr.heap.size + 1) w8 bv j7.L := row_weak (row_keeps (row_keeps HBV.out (fun i hi hl => k6.block i hl (fun hn => hn (HBP.out i hi)))) (fun i hi hl => hk8.block i hl (fun h => h))) (by simp)
                have hrv8 : TRow w6.heap.size w8 rv j6.L := hrv
                have hJ8 := h6.same hk8 (fun _ h => h.elim)
                have hK8 : Kept (fun i => ¬ i < w.heap.size) w w8 := hk6.trans (hk8.mono (fun _ h => h.elim))
                have hlen7 := H5.out.lists.len
                have hz6 := k6.size
                have hz86 := hk8.size
                have hlj7 := (H5.out.jn.len_le).1
                have hbl : ∀ i, some i = bv.ownBlock → wr.heap.size + 1 ≤ i ∧ i < w8.heap.size := fun i hi => by have h1 := row_lt HBV.out i hi; simp only [World.size_alloc] at h1; omega
                have HBL := Lib.hid hbl
                clear hbl
                have hwz : wr.heap.size < w8.heap.size := by
                  have h1 := (Array.getElem?_eq_some_iff.1 hat6).1
                  have h2 := hk8.size
                  omega
                have HR8 := Lib.hid hra8
                have HS8 := Lib.hid hrs8
                have HB8 := Lib.hid hbv8
                have HV8 := Lib.hid hrv8
                have HJ8 := Lib.hid hJ8
                have HK8 := Lib.hid hK8
                have HR6 := Lib.hid hR6
                clear hra8 hrs8 hbv8 hrv8 hJ8 hK8 hR6 C3 k6 h6 hat6 hk6 hrv hb8 hk8 HKP HAT
                rcases hc6 with ⟨rfl, hL6, hj6⟩ | ⟨he6, hL6, hj6⟩ | ⟨rfl, hL6, hj6⟩
                · have HL6 := Lib.hid hL6
                  have HJ6 := Lib.hid hj6
                  clear hL6 hj6
                  go_wp2_with fail
                  clear HV HZ HZB HN HS HKF HK1 hE1 HFEW HRG HT d2 d3 q0 hNa h4 hgB hgw hzz hlo hzK
                  go_region_held3 (fun w' => w'.cell? ⟨wr.heap.size, 1, none⟩ = some (.string (bs a.S)))
                    (first
                      | exact (kept_cell hk3 hwz).trans o1
                      | exact (kept_cell hk2 hwz).trans o1
                      | exact (kept_cell (hk2.alloc _) hwz).trans o1
                      | go_keep)
                    (first
                      | (have hr2' := hr2
                         refine step_texts (by rfl) _ _ (by rfl) (by rfl) (B := w8.heap.size) (B2 := w8.heap.size) (A := [] ++ A7) (L := [a.S]) (by rfl) (by rfl) (by first | exact hr2 | exact row_alloc hr2 _)
                           (by first | exact row_of_one (by rfl) (by have := hk2.size; omega) | exact row_keeps (row_of_one (by simp) (by simp)) (fun i hi hl => hg2.block i hl (fun e => by have := own_some hi; have := own_some e; omega)) | exact row_keeps (row_alloc (row_of_one (by simp) (by simp)) _) (fun i hi hl => hg2.block i hl (fun e => by have := own_some hi; have := own_some e; omega))) (by simp; omega) (by have := hk2.size; simp; try omega) ?_
                         intro v3 w3 hr3 hg3 ho3
                         have hk3 : Kept (fun _ => False) w8 w3 := by first | exact kept_none hk2 hg3 (fun i hi => (row_lt hr2 i hi).1) | exact kept_none (hk2.alloc _) hg3 (fun i hi => (row_lt hr2 i hi).1))
                      | (refine step_texts (by rfl) _ _ (by rfl) (by rfl) (B := w8.heap.size) (B2 := w.heap.size) (A := []) (L := A7) (by rfl) (by rfl) (by first | exact row_of_none (by simp) (by simp) | exact row_alloc (row_of_none (by simp) (by simp)) _) (by first | exact row_alloc HR8.out _ | exact row_alloc (row_alloc HR8.out _) _) (by simp; omega) (by simp; try omega) ?_
                         intro v2 w2 hr2 hg2 ho2
                         have hk2 : Kept (fun _ => False) w8 w2 := by first | exact kept_none ((kept_drew w8).alloc _) hg2 (fun i hi => by have := own_some hi; omega) | exact kept_none (((kept_drew w8).alloc _).alloc _) hg2 (fun i hi => by have := own_some hi; omega)))
                  all_goals
                    as_aux_lemma =>
                      have hr4 : TRow w8.heap.size w3 v3 (A7 ++ [a.S]) := by simpa using hr3
                      have hbv3 : TRow (wr.heap.size + 1) w3 bv j7.L := row_keeps HB8.out (fun i hi hl => hk3.block i hl (fun h => h))
                      have hrv3 : TRow w6.heap.size w3 rv (j7.L ++ [a.S]) := by rw [← HJ6.out]; exact row_keeps HV8.out (fun i hi hl => hk3.block i hl (fun h => h))
                      have o3 : w3.cell? ⟨wr.heap.size, 1, none⟩ = some (.string (bs a.S)) := (kept_cell hk3 hwz).trans o1
                      have HR4 := Lib.hid hr4
                      have HBV3 := Lib.hid hbv3
                      have HRV3 := Lib.hid hrv3
                      have HK3 := Lib.hid hk3
                      have hz3 := hk3.size
                      clear hr2 hg2 ho2 hk2 hr3 hg3 ho3 hk3 hr4 hbv3 hrv3 o1
                      obtain ⟨ba, bn, bc, hbe⟩ := row_slice HBV3.out
                      subst hbe
                      go_wp2_with (refine wpList_texts (by kernel_rfl) _ _ (by rfl) (by rfl) (B := wr.heap.size + 1) (B2 := wr.heap.size + 1) (A := j7.L) (L := [a.S]) (by rfl) (by rfl) (row_alloc HBV3.out _) (row_of_one (by rfl) (by omega)) (by simp; omega) (by simp; omega) ?_; intro v5 w5' hr5 hg5 ho5)
                      have hrv5 : TRow w6.heap.size w5' rv (j7.L ++ [a.S]) := row_keeps (row_alloc HRV3.out _) (fun i hi hl => hg5.block i hl (fun e => by have h1 := (row_lt HRV3.out i hi).1; have h2 := (row_lt HBV.out i e).2; omega))
                      have CS : Hid (Calls Tryz.prog 27 #[rv, v5] w5' fun e w' => e = .returned (.bool true) ∧ ∃ n, w' = w5'.drewN n) := tsame_eq rv v5 _ w5' (row_texts hrv5) (row_texts hr5) (by simp; omega)
                      have HN : Hid (∀ n, LS w.heap.size w b (k + 1) (.pointer (some ⟨jb7, 0, none⟩)) v3 u10 (w5'.drewN n)) := fun n => ls_end0 H5.out HJ8.out HL6.out HR6.out hk25.1 HR4.out HS8.out HK3.out hg5 HBP.out HBL.out HSU.out (by omega) (Nat.le_refl _) HK8.out n
                      clear hrv5 hr5 hg5 ho5 HR4 HBV3 HRV3 HK3 H5 HBV HBP HR8 HS8 HB8 HV8 HJ8 HK8 HR6 HL6 HJ6 HSU HBL
                      go_wp2_with fail
                      refine CS.out.mono ?_
                      rintro r w10 ⟨rfl, n10, rfl⟩
                      have H10 := Lib.hid (HN.out n10)
                      clear HN CS
                      go_wp2_with fail
                      go_roundw
                      case rel => exact ⟨k + 1, by omega, by go_num, H10⟩
                      case measure => simp [intOf]; omega
                · have HL6 := Lib.hid hL6
                  have HJ6 := Lib.hid hj6
                  clear hL6 hj6
                  rcases he6 with rfl | rfl
                  · as_aux_lemma =>
                      have CD : Hid (Calls Tryz.prog 33 #[.int .i64 8] w8 fun r w' => r = .returned (.bool true) ∧ w8 = w') := disky_calls 8 w8
                      go_wp2_with fail
                      refine CD.out.mono ?_
                      rintro r w9 ⟨rfl, rfl⟩
                      clear CD
                      go_wp2_with fail
                      clear HV HZ HZB HN HS HKF HK1 hE1 HFEW HRG HT d2 d3 q0 hNa h4 hgB hgw hzz hlo hzK
                      go_region_held3 (fun w' => w'.cell? ⟨wr.heap.size, 1, none⟩ = some (.string (bs a.S)))
                        (first
                          | exact (kept_cell hk3 hwz).trans o1
                          | exact (kept_cell hk2 hwz).trans o1
                          | exact (kept_cell (hk2.alloc _) hwz).trans o1
                          | go_keep)
                        (first
                          | (have hr2' := hr2
                             refine step_texts (by rfl) _ _ (by rfl) (by rfl) (B := w8.heap.size) (B2 := w8.heap.size) (A := [] ++ A7) (L := [a.S]) (by rfl) (by rfl) (by first | exact hr2 | exact row_alloc hr2 _)
                               (by first | exact row_of_one (by rfl) (by have := hk2.size; omega) | exact row_keeps (row_of_one (by simp) (by simp)) (fun i hi hl => hg2.block i hl (fun e => by have := own_some hi; have := own_some e; omega)) | exact row_keeps (row_alloc (row_of_one (by simp) (by simp)) _) (fun i hi hl => hg2.block i hl (fun e => by have := own_some hi; have := own_some e; omega))) (by simp; omega) (by have := hk2.size; simp; try omega) ?_
                             intro v3 w3 hr3 hg3 ho3
                             have hk3 : Kept (fun _ => False) w8 w3 := by first | exact kept_none hk2 hg3 (fun i hi => (row_lt hr2 i hi).1) | exact kept_none (hk2.alloc _) hg3 (fun i hi => (row_lt hr2 i hi).1))
                          | (refine step_texts (by rfl) _ _ (by rfl) (by rfl) (B := w8.heap.size) (B2 := w.heap.size) (A := []) (L := A7) (by rfl) (by rfl) (by first | exact row_of_none (by simp) (by simp) | exact row_alloc (row_of_none (by simp) (by simp)) _) (by first | exact row_alloc HR8.out _ | exact row_alloc (row_alloc HR8.out _) _) (by simp; omega) (by simp; try omega) ?_
                             intro v2 w2 hr2 hg2 ho2
                             have hk2 : Kept (fun _ => False) w8 w2 := by first | exact kept_none ((kept_drew w8).alloc _) hg2 (fun i hi => by have := own_some hi; omega) | exact kept_none (((kept_drew w8).alloc _).alloc _) hg2 (fun i hi => by have := own_some hi; omega)))
                      all_goals
                        as_aux_lemma =>
                          have hr4 : TRow w8.heap.size w3 v3 (A7 ++ [a.S]) := by simpa using hr3
                          have hbv3 : TRow (wr.heap.size + 1) w3 bv j7.L := row_keeps HB8.out (fun i hi hl => hk3.block i hl (fun h => h))
                          have hrv3 : TRow w6.heap.size w3 rv j7.L := by rw [← HJ6.out]; exact row_keeps HV8.out (fun i hi hl => hk3.block i hl (fun h => h))
                          have hz3 := hk3.size
                          have CS : Hid (Calls Tryz.prog 27 #[rv, bv] w3 fun e w' => e = .returned (.bool true) ∧ ∃ n, w' = w3.drewN n) := tsame_eq rv bv _ w3 (row_texts hrv3) (row_texts hbv3) (by omega)
                          have HN : Hid (∀ n, LS w.heap.size w b (k + 1) (.pointer (some ⟨jb7, 0, none⟩)) v3 u10 (w3.drewN n)) := fun n => ls_end1 H5.out HJ8.out HL6.out HR6.out (Or.inr ⟨a.S, hk25.1, rfl⟩) (row_weak hr4 (by omega)) (fun i hi => by have h1 := row_lt hr4 i hi; exact Or.inr (by omega)) HS8.out hk3 HK8.out n
                          clear hr2 hg2 ho2 hk2 hr3 hg3 ho3 hk3 hr4 hbv3 hrv3 o1 H5 HBV HBP HR8 HS8 HB8 HV8 HJ8 HK8 HR6 HL6 HJ6 HSU HBL
                          go_wp2_with fail
                          refine CS.out.mono ?_
                          rintro r w10 ⟨rfl, n10, rfl⟩
                          have H10 := Lib.hid (HN.out n10)
                          clear HN CS
                          go_wp2_with fail
                          go_roundw
                          case rel => exact ⟨k + 1, by omega, by go_num, H10⟩
                          case measure => simp [intOf]; omega
                  · as_aux_lemma =>
                      have CD : Hid (Calls Tryz.prog 33 #[.int .i64 9] w8 fun r w' => r = .returned (.bool true) ∧ w8 = w') := disky_calls 9 w8
                      go_wp2_with fail
                      refine CD.out.mono ?_
                      rintro r w9 ⟨rfl, rfl⟩
                      clear CD
                      go_wp2_with fail
                      clear HV HZ HZB HN HS HKF HK1 hE1 HFEW HRG HT d2 d3 q0 hNa h4 hgB hgw hzz hlo hzK
                      go_region_held3 (fun w' => w'.cell? ⟨wr.heap.size, 1, none⟩ = some (.string (bs a.S)))
                        (first
                          | exact (kept_cell hk3 hwz).trans o1
                          | exact (kept_cell hk2 hwz).trans o1
                          | exact (kept_cell (hk2.alloc _) hwz).trans o1
                          | go_keep)
                        (first
                          | (have hr2' := hr2
                             refine step_texts (by rfl) _ _ (by rfl) (by rfl) (B := w8.heap.size) (B2 := w8.heap.size) (A := [] ++ A7) (L := [a.S]) (by rfl) (by rfl) (by first | exact hr2 | exact row_alloc hr2 _)
                               (by first | exact row_of_one (by rfl) (by have := hk2.size; omega) | exact row_keeps (row_of_one (by simp) (by simp)) (fun i hi hl => hg2.block i hl (fun e => by have := own_some hi; have := own_some e; omega)) | exact row_keeps (row_alloc (row_of_one (by simp) (by simp)) _) (fun i hi hl => hg2.block i hl (fun e => by have := own_some hi; have := own_some e; omega))) (by simp; omega) (by have := hk2.size; simp; try omega) ?_
                             intro v3 w3 hr3 hg3 ho3
                             have hk3 : Kept (fun _ => False) w8 w3 := by first | exact kept_none hk2 hg3 (fun i hi => (row_lt hr2 i hi).1) | exact kept_none (hk2.alloc _) hg3 (fun i hi => (row_lt hr2 i hi).1))
                          | (refine step_texts (by rfl) _ _ (by rfl) (by rfl) (B := w8.heap.size) (B2 := w.heap.size) (A := []) (L := A7) (by rfl) (by rfl) (by first | exact row_of_none (by simp) (by simp) | exact row_alloc (row_of_none (by simp) (by simp)) _) (by first | exact row_alloc HR8.out _ | exact row_alloc (row_alloc HR8.out _) _) (by simp; omega) (by simp; try omega) ?_
                             intro v2 w2 hr2 hg2 ho2
                             have hk2 : Kept (fun _ => False) w8 w2 := by first | exact kept_none ((kept_drew w8).alloc _) hg2 (fun i hi => by have := own_some hi; omega) | exact kept_none (((kept_drew w8).alloc _).alloc _) hg2 (fun i hi => by have := own_some hi; omega)))
                      all_goals
                        as_aux_lemma =>
                          have hr4 : TRow w8.heap.size w3 v3 (A7 ++ [a.S]) := by simpa using hr3
                          have hbv3 : TRow (wr.heap.size + 1) w3 bv j7.L := row_keeps HB8.out (fun i hi hl => hk3.block i hl (fun h => h))
                          have hrv3 : TRow w6.heap.size w3 rv j7.L := by rw [← HJ6.out]; exact row_keeps HV8.out (fun i hi hl => hk3.block i hl (fun h => h))
                          have hz3 := hk3.size
                          have CS : Hid (Calls Tryz.prog 27 #[rv, bv] w3 fun e w' => e = .returned (.bool true) ∧ ∃ n, w' = w3.drewN n) := tsame_eq rv bv _ w3 (row_texts hrv3) (row_texts hbv3) (by omega)
                          have HN : Hid (∀ n, LS w.heap.size w b (k + 1) (.pointer (some ⟨jb7, 0, none⟩)) v3 u10 (w3.drewN n)) := fun n => ls_end1 H5.out HJ8.out HL6.out HR6.out (Or.inr ⟨a.S, hk25.1, rfl⟩) (row_weak hr4 (by omega)) (fun i hi => by have h1 := row_lt hr4 i hi; exact Or.inr (by omega)) HS8.out hk3 HK8.out n
                          clear hr2 hg2 ho2 hk2 hr3 hg3 ho3 hk3 hr4 hbv3 hrv3 o1 H5 HBV HBP HR8 HS8 HB8 HV8 HJ8 HK8 HR6 HL6 HJ6 HSU HBL
                          go_wp2_with fail
                          refine CS.out.mono ?_
                          rintro r w10 ⟨rfl, n10, rfl⟩
                          have H10 := Lib.hid (HN.out n10)
                          clear HN CS
                          go_wp2_with fail
                          go_roundw
                          case rel => exact ⟨k + 1, by omega, by go_num, H10⟩
                          case measure => simp [intOf]; omega
                · have HL6 := Lib.hid hL6
                  have HJ6 := Lib.hid hj6
                  clear hL6 hj6
                  have CD : Hid (Calls Tryz.prog 33 #[.int .i64 7] w8 fun r w' => r = .returned (.bool false) ∧ w8 = w') := disky_calls 7 w8
                  have hrv3 : TRow w6.heap.size w8 rv j7.L := by rw [← HJ6.out]; exact HV8.out
                  have CS : Hid (Calls Tryz.prog 27 #[rv, bv] w8 fun e w' => e = .returned (.bool true) ∧ ∃ n, w' = w8.drewN n) := tsame_eq rv bv _ w8 (row_texts hrv3) (row_texts HB8.out) (by omega)
                  have HN : Hid (∀ n, LS w.heap.size w b (k + 1) (.pointer (some ⟨jb7, 0, none⟩)) u9 u10 (w8.drewN n)) := fun n => ls_end1 H5.out HJ8.out HL6.out HR6.out (Or.inl rfl) HR8.out (fun i hi => Or.inl (H5.out.lists.pa i hi)) HS8.out (Kept.refl _ w8) HK8.out n
                  clear hrv3 o1 H5 HBV HBP HR8 HS8 HB8 HV8 HJ8 HK8 HR6 HL6 HJ6 HSU HBL
                  go_wp2_with fail
                  refine CD.out.mono ?_
                  rintro r w9 ⟨rfl, rfl⟩
                  clear CD
                  go_wp2_with fail
                  refine CS.out.mono ?_
                  rintro r w10 ⟨rfl, n10, rfl⟩
                  have H10 := Lib.hid (HN.out n10)
                  clear HN CS
                  go_wp2_with fail
                  go_roundw
                  case rel => exact ⟨k + 1, by omega, by go_num, H10⟩
                  case measure => simp [intOf]; omega
          · as_aux_lemma =>
              have HQ0 := Lib.hid q0
              clear q0
              by_cases q2 : a.Kind = 2
              · go_wp2_with (refine wpList_load_mid rfl 38 _ rfl g (off + k * 4) rfl [.int .i64 a.Kind, .string (bs a.S), .int .i64 a.N, .slice ka a.Keep.length kc] _ HRG.out Tryz.underlying38 rfl (by kernel_rfl) ?_)
                refine (ls_lose (HT.out.alloc _) a.N hNa.2).mono ?_
                rintro r w5 ⟨rfl, h5⟩
                have H5 := Lib.hid (h5.later (Nat.le_succ k))
                clear h5
                go_wp2_with fail
                go_roundw
                case rel => exact ⟨k + 1, by omega, by go_num, H5⟩
                case measure => simp [intOf]; omega
              · have b2 : (a.Kind == 2) = false := by simpa using q2
                by_cases q3 : a.Kind = 3
                · go_wp2_with (refine wpList_load_mid rfl 38 _ rfl g (off + k * 4) rfl [.int .i64 a.Kind, .string (bs a.S), .int .i64 a.N, .slice ka a.Keep.length kc] _ HRG.out Tryz.underlying38 rfl (by kernel_rfl) ?_)
                  refine (ls_arm (HT.out.alloc _) a.N _ a.Keep (HKP.out _) HAT.out.kb hNa.2 (by omega)).mono ?_
                  rintro r w5 ⟨rfl, h5⟩
                  have H5 := Lib.hid (h5.later (Nat.le_succ k))
                  clear h5
                  go_wp2_with fail
                  go_roundw
                  case rel => exact ⟨k + 1, by omega, by go_num, H5⟩
                  case measure => simp [intOf]; omega
                · have b3 : (a.Kind == 3) = false := by simpa using q3
                  by_cases q45 : a.Kind = 4 ∨ a.Kind = 5
                  · rcases q45 with q4 | q4
                    go_wp2_with (refine wpList_load_mid rfl 38 _ rfl g (off + k * 4) rfl [.int .i64 a.Kind, .string (bs a.S), .int .i64 a.N, .slice ka a.Keep.length kc] _ HRG.out Tryz.underlying38 rfl (by kernel_rfl) ?_)
                    refine (ld_crash (HT.out.alloc _).dead _ a.Keep (HKP.out _) HAT.out.kb (by omega)).mono ?_
                    rintro r w5 ⟨rfl, h5⟩
                    have H5 := Lib.hid h5
                    clear h5
                    go_wp2_with fail
                    refine (ld_start H5.out).mono ?_
                    rintro r w6 ⟨rfl, h6⟩
                    clear H5
                    rotate_left
                    go_wp2_with (refine wpList_load_mid rfl 38 _ rfl g (off + k * 4) rfl [.int .i64 a.Kind, .string (bs a.S), .int .i64 a.N, .slice ka a.Keep.length kc] _ HRG.out Tryz.underlying38 rfl (by kernel_rfl) ?_)
                    refine (ld_start (HT.out.alloc _).dead).mono ?_
                    rintro r w6 ⟨rfl, h6⟩
                    rotate_left
                    all_goals
                      as_aux_lemma =>
                        have H6 := Lib.hid h6
                        clear h6
                        go_wp2_with fail
                        refine (ld_open H6.out hE hlo).mono ?_
                        rintro r w7 (⟨e, rfl, he, h7, -⟩ | ⟨jb7, rfl, P7, d7, A7, kk7, m7, hl7, hm1, hm2, hJ7, hL7, hk7⟩)
                        · have H7 := Lib.hid (h7.later (Nat.le_succ k))
                          have C8 := Lib.hid (disky_calls e w7)
                          have e8 : Hid ((decide (e = 8) || decide (e = 9)) = true) := by rcases he with e | e <;> (rw [e]; rfl)
                          rw [e8.out] at C8
                          clear h7 he e8
                          go_wp2_with fail
                          refine C8.out.mono ?_
                          rintro r w8 ⟨rfl, rfl⟩
                          go_wp2_with fail
                          go_roundw
                          case rel => exact ⟨k + 1, by omega, by go_num, H7⟩
                          case measure => simp [intOf]; omega
                        · have C8 := Lib.hid (n_all hJ7)
                          have HL7 := Lib.hid hl7
                          have HJ7 := Lib.hid hJ7
                          have HLV := Lib.hid hL7
                          have HK7 := Lib.hid hk7
                          clear hl7 hJ7 hL7 hk7
                          go_wp2_with fail
                          refine C8.out.mono ?_
                          rintro r w8 ⟨nv, rfl, hnv, hb8⟩
                          have hk8 := kept_below hb8 rfl
                          have H8 := Lib.hid ((ls_opened HL7.out HJ7.out HLV.out HK7.out hnv hb8 (Nat.le_refl _)).later (Nat.le_succ k))
                          have hra : IsTexts u9 A7 w8 := texts_kept (row_texts HL7.out.ra) hk8 (fun _ _ h => h)
                          have hrs : IsTexts u10 (A7.take kk7) w8 := texts_kept (row_texts HL7.out.rs) hk8 (fun _ _ h => h)
                          have hnt := row_texts hnv
                          have hlen7 := HL7.out.len
                          have CB1 : Hid (Calls Tryz.prog 34 #[u9, nv] w8 fun e w' => e = .returned (.bool true) ∧ ∃ n, w' = w8.drewN n) := begins_calls hra (row_cap HL7.out.ra) hnt (by omega) ⟨m7, rfl⟩
                          have CB2 : Hid (∀ q, Calls Tryz.prog 34 #[nv, u10] (w8.drewN q) fun e w' => e = .returned (.bool true) ∧ ∃ n, w' = (w8.drewN q).drewN n) := fun q => begins_calls (texts_kept hnt ((Kept.refl (fun _ => False) w8).drewN q) (fun _ _ h => h)) (row_cap hnv) (texts_kept hrs ((Kept.refl (fun _ => False) w8).drewN q) (fun _ _ h => h)) (by rw [List.length_take]; omega) ⟨kk7, by rw [List.take_take, Nat.min_eq_left hm1]⟩
                          clear hra hrs hnt hnv hb8 hk8 C8 HL7 HJ7 HLV HK7
                          go_wp2_with fail
                          refine CB1.out.mono ?_
                          rintro r w9 ⟨rfl, n9, rfl⟩
                          go_wp2_with fail
                          refine (CB2.out n9).mono ?_
                          rintro r w10 ⟨rfl, n10, rfl⟩
                          have H10 := Lib.hid (H8.out.drewN (n9 + n10))
                          clear H8 CB1 CB2
                          go_wp2_with fail
                          go_roundw
                          case rel => exact ⟨k + 1, by omega, by go_num, H10⟩
                          case measure => simp [intOf]; omega
                  · have b4 : (a.Kind == 4) = false := by simpa using (fun h => q45 (Or.inl h) : ¬ a.Kind = 4)
                    have b5 : (a.Kind == 5) = false := by simpa using (fun h => q45 (Or.inr h) : ¬ a.Kind = 5)
                    by_cases q01 : a.Kind = 0 ∨ a.Kind = 1
                    · rcases (HT.out.alloc (.cells #[.int .i64 a.Kind, .string (bs a.S), .int .i64 a.N, .slice ka a.Keep.length kc] 38)).cases with e7 | ⟨P7, d7, A7, kk7, jb7, j7, e7, hl7, hJ7, hL7, hk7⟩
                      · subst e7
                        have H5 := Lib.hid ((HT.out.alloc (.cells #[.int .i64 a.Kind, .string (bs a.S), .int .i64 a.N, .slice ka a.Keep.length kc] 38)).later (Nat.le_succ k))
                        rcases q01 with q0 | q0
                        all_goals
                          rw [q0] at H5
                          go_wp2_with (refine wpList_load_mid rfl 38 _ rfl g (off + k * 4) rfl [.int .i64 a.Kind, .string (bs a.S), .int .i64 a.N, .slice ka a.Keep.length kc] _ HRG.out Tryz.underlying38 rfl (by kernel_rfl) ?_)
                          go_roundw
                          case rel => exact ⟨k + 1, by omega, by go_num, H5⟩
                          case measure => simp [intOf]; omega
                      · subst e7
                        rcases q01 with q0 | q0
                        · exact absurd q0 HQ0.out
                        · as_aux_lemma =>
                            have hS7 := Lib.hid (ls_sync hl7 hJ7 hL7 hk7)
                            rw [q0] at hS7
                            clear hl7 hJ7 hL7 hk7
                            go_wp2_with (refine wpList_load_mid rfl 38 _ rfl g (off + k * 4) rfl [.int .i64 a.Kind, .string (bs a.S), .int .i64 a.N, .slice ka a.Keep.length kc] _ HRG.out Tryz.underlying38 rfl (by kernel_rfl) ?_)
                            refine hS7.out.mono ?_
                            rintro r w8 (⟨e, he, rfl, h8⟩ | ⟨rfl, d8, j8, hl8, hJ8, hL8, hjl8, hk8⟩)
                            · have H8 := Lib.hid (h8.later (Nat.le_succ k))
                              have hb : (e == 0) = false := by simpa using he
                              clear h8 he hS7
                              go_wp2_with fail
                              go_roundw
                              case rel => exact ⟨k + 1, by omega, by go_num, H8⟩
                              case measure => simp [intOf]; omega
                            · have C8 := n_all hJ8
                              rw [hjl8] at C8
                              have HC8 := Lib.hid C8
                              have HL8 := Lib.hid hl8
                              have HJ8 := Lib.hid hJ8
                              have HV8 := Lib.hid hL8
                              have HK8 := Lib.hid hk8
                              clear hl8 hJ8 hL8 hk8 hjl8 C8 hS7
                              go_wp2_with fail
                              refine HC8.out.mono ?_
                              rintro r w9 ⟨nv, rfl, hnv, hb9⟩
                              have H9 := Lib.hid ((ls_sure HL8.out HJ8.out HV8.out HK8.out hnv hb9 (Nat.le_refl _)).later (Nat.le_succ k))
                              clear hnv hb9 HC8 HL8 HJ8 HV8 HK8
                              go_wp2_with fail
                              go_roundw
                              case rel => exact ⟨k + 1, by omega, by go_num, H9⟩
                              case measure => simp [intOf]; omega
                    · have b0 : (a.Kind == 0) = false := by simpa using (fun h => q01 (Or.inl h) : ¬ a.Kind = 0)
                      have b1 : (a.Kind == 1) = false := by simpa using (fun h => q01 (Or.inr h) : ¬ a.Kind = 1)
                      have H5 := Lib.hid ((HT.out.alloc (.cells #[.int .i64 a.Kind, .string (bs a.S), .int .i64 a.N, .slice ka a.Keep.length kc] 38)).later (Nat.le_succ k))
                      clear q01 q45 q2 q3
                      go_wp2_with (refine wpList_load_mid rfl 38 _ rfl g (off + k * 4) rfl [.int .i64 a.Kind, .string (bs a.S), .int .i64 a.N, .slice ka a.Keep.length kc] _ HRG.out Tryz.underlying38 rfl (by kernel_rfl) ?_)
                      go_roundw
                      case rel => exact ⟨k + 1, by omega, by go_num, H5⟩
                      case measure => simp [intOf]; omega
        · by_cases hle : k ≤ l.length
          · as_aux_lemma =>
              obtain rfl : k = l.length := by omega
              have hka : Kept (fun _ => False) wr (wr.alloc (.cells #[.int .i64 4, .string ⟨#[]⟩, .int .i64 0, .slice za keep.length zc] 38)) := (Kept.refl (fun _ => False) wr).alloc _
              have HT := Lib.hid ht.out
              have HZK : Hid (∀ W, Kept (fun i => ¬ i < w.heap.size) w W → KeepAt W (.slice za keep.length zc) keep) := fun W hW => HZ.out.kept hW (fun i hi hn => hn (HZB.out i hi))
              clear ht hka
              go_wp2_with fail
              refine (lq_lose0 (lq_of HT.out.dead _)).mono ?_
              rintro r w3' ⟨rfl, h3⟩
              have H3 := Lib.hid h3
              clear h3
              go_wp2_with fail
              refine (lq_arm0 H3.out).mono ?_
              rintro r w4' ⟨rfl, h4⟩
              have H4 := Lib.hid h4
              have o0 : w4'.cell? ⟨wr.heap.size, 0, none⟩ = some (.int .i64 4) := by rw [Lib.cell_of_heap h4.at_]; rfl
              have o3 : w4'.cell? ⟨wr.heap.size, 3, none⟩ = some (.slice za keep.length zc) := by rw [Lib.cell_of_heap h4.at_]; rfl
              clear h4 H3
              go_wp2_with fail
              refine (ld_crash H4.out.dead _ keep (HZK.out _ H4.out.kept) HZB.out (by omega)).mono ?_
              rintro r w5 ⟨rfl, h5⟩
              have H5 := Lib.hid h5
              clear h5 H4 o0 o3
              go_wp2_with fail
              refine (ld_start H5.out).mono ?_
              rintro r w6 ⟨rfl, h6⟩
              have H6 := Lib.hid h6
              clear h6 H5
              go_wp2_with fail
              refine (ld_open H6.out hE hlo).mono ?_
              rintro r w7 (⟨e, rfl, he, h7, hno⟩ | ⟨jb7, rfl, P7, d7, A7, kk7, m7, hl7, hm1, hm2, hJ7, hL7, hk7⟩)
              · exact absurd ⟨rfl, rfl⟩ hno
              have C8 := Lib.hid (n_all hJ7)
              have HL7 := Lib.hid hl7
              have HJ7 := Lib.hid hJ7
              have HLV := Lib.hid hL7
              have HK7 := Lib.hid hk7
              clear hl7 hJ7 hL7 hk7
              go_wp2_with fail
              refine C8.out.mono ?_
              rintro r w8 ⟨nv, rfl, hnv, hb8⟩
              have hk8 := kept_below hb8 rfl
              have H8 := Lib.hid ((ls_opened HL7.out HJ7.out HLV.out HK7.out hnv hb8 (Nat.le_refl _)).later (Nat.le_succ l.length))
              have hra : IsTexts u9 A7 w8 := texts_kept (row_texts HL7.out.ra) hk8 (fun _ _ h => h)
              have hrs : IsTexts u10 (A7.take kk7) w8 := texts_kept (row_texts HL7.out.rs) hk8 (fun _ _ h => h)
              have hnt := row_texts hnv
              have hlen7 := HL7.out.len
              have CB1 : Hid (Calls Tryz.prog 34 #[u9, nv] w8 fun e w' => e = .returned (.bool true) ∧ ∃ n, w' = w8.drewN n) := begins_calls hra (row_cap HL7.out.ra) hnt (by omega) ⟨m7, rfl⟩
              have CB2 : Hid (∀ q, Calls Tryz.prog 34 #[nv, u10] (w8.drewN q) fun e w' => e = .returned (.bool true) ∧ ∃ n, w' = (w8.drewN q).drewN n) := fun q => begins_calls (texts_kept hnt ((Kept.refl (fun _ => False) w8).drewN q) (fun _ _ h => h)) (row_cap hnv) (texts_kept hrs ((Kept.refl (fun _ => False) w8).drewN q) (fun _ _ h => h)) (by rw [List.length_take]; omega) ⟨kk7, by rw [List.take_take, Nat.min_eq_left hm1]⟩
              clear hra hrs hnt hnv hb8 hk8 C8 HL7 HJ7 HLV HK7
              go_wp2_with fail
              refine CB1.out.mono ?_
              rintro r w9 ⟨rfl, n9, rfl⟩
              go_wp2_with fail
              refine (CB2.out n9).mono ?_
              rintro r w10 ⟨rfl, n10, rfl⟩
              have H10 := Lib.hid (H8.out.drewN (n9 + n10))
              clear H8 CB1 CB2
              go_wp2_with fail
              go_roundw
              case rel => exact ⟨l.length + 1, by omega, by go_num, H10⟩
              case measure => simp [intOf]; omega
          · go_wp2_with fail
            go_ret
            exact ⟨rfl, ht.out.kept.below (Nat.le_refl _) (fun k hk => Nat.not_lt.1 hk)⟩

end Go.Proofs.YtanecondopbfhaaGreatDoor
