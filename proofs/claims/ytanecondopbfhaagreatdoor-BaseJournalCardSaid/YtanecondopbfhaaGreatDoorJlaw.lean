/- BaseJournal: the walk. -/
import Derived.Test.YtanecondopbfhaaGreatDoorJlaw1
import Derived.Deep.RegionHeld3
import Derived.Deep.Quiet
namespace Go.Proofs.YtanecondopbfhaaGreatDoor
open Go.RowKit
open Cod (Env)

/-- Ahead of a round. -/
structure LB (N : Nat) (w : World) (b rb k : Nat) (jv ev kv fv : Value) (W : World) : Prop where
  ex : ∃ (d : Dk) (ee : Int), ev = .int .i64 ee ∧ fv = .int .i64 ee ∧ d.R ≤ 300 * k ∧
    ((jv = .pointer none ∧ kv = .pointer none ∧ Sep (fun i => i < N) W (MB b d) (MR rb d)) ∨ ∃ jb rj j, jv = .pointer (some ⟨jb, 0, none⟩) ∧ kv = .pointer (some ⟨rj, 0, none⟩) ∧ Sep (fun i => i < N) W (JB b d jb j) (JR rb d rj j))
  kept : Kept (fun i => ¬ i < N) w W

theorem sep_view {S : Nat → Prop} {W : World} {b rb jb rj : Nat} {d : Dk} {j : Jr} (h : Sep S W (JB b d jb j) (JR rb d rj j)) : ∃ ra rn rc, W.cell? ⟨rj, 2, none⟩ = some (.slice ra rn rc) ∧ IsTexts (.slice ra rn rc) j.L W ∧ rj < W.heap.size ∧ j.L.length ≤ 16777216 ∧ (forms j.L).length ≤ 16777216 := by
  obtain ⟨⟨F, h1, h2, h3, hB, hR⟩, gb, gr⟩ := h
  have hl := Jn.len_le hB
  obtain ⟨S', rv, hP, hM, hj, hrv, hat, hrow⟩ := hR
  obtain ⟨ra, rn, rc, rfl⟩ := row_slice hrow
  exact ⟨ra, rn, rc, by rw [Lib.cell_of_heap hat]; rfl, row_texts hrow, (Array.getElem?_eq_some_iff.1 hat).1, hl.1, hl.2⟩

theorem sep_all {S : Nat → Prop} {W : World} {b jb : Nat} {d : Dk} {j : Jr} {Rp : (Nat → Prop) → World → Prop} (h : Sep S W (JB b d jb j) Rp) (V : World) (hV : Kept (fun _ => False) W V) :
    Calls Tryz.prog 28 #[.pointer (some ⟨jb, 0, none⟩)] V fun r w' => ∃ v, r = .returned v ∧ IsTexts v j.L w' ∧ Kept (fun _ => False) V w' := by
  obtain ⟨P, hP, hB, back⟩ := (h.kept hV).base
  refine (n_all hB).mono ?_
  rintro r w' ⟨v, rfl, hv, hb⟩
  exact ⟨v, rfl, row_texts hv, kept_below hb rfl⟩

theorem quiet_left {P : Program} {f : FuncId} {args : Array Value} {w : World} {n : Nat} {v : Value}
    (h : Calls P f args (w.drewN n) fun e w' => e = .returned v ∧ w.drewN n = w') : Calls P f args (w.drewN n) fun e w'' => e = .returned v ∧ ∃ m, w'' = w.drewN m :=
  h.mono fun _ _ ⟨he, hm⟩ => ⟨he, n, hm.symm⟩

theorem texts_kept' {v : Value} {xs : List (List UInt8)} {w w' : World} (h : IsTexts v xs w) (hk : Kept (fun _ => False) w w') : IsTexts v xs w' := by
  rcases h with h | ⟨bk, off, cap, h, hb, hc⟩
  · exact .inl h
  · refine .inr ⟨bk, off, cap, h, Nat.lt_of_lt_of_le hb hk.size, fun i x hx => ?_⟩
    rw [← hc i x hx]
    exact World.cell?_of_block (hk.block bk hb (fun h => h))

set_option maxHeartbeats 8000000 in
set_option maxRecDepth 100000 in
theorem journal_any {v : Value} {l : List Op'} {w : World} (hv : IsOps w.heap.size v l w) (hl : l.length ≤ 9223372036854775807) (hs : ∀ a ∈ l, a.S.length ≤ 9223372036854775807) (hkf : ∀ a ∈ l, a.Keep.length ≤ 9223372036854775807) (hn : ∀ a ∈ l, -9223372036854775808 ≤ a.N ∧ a.N ≤ 9223372036854775807) (hE : Env w) :
    Calls Tryz.prog 3 #[v] w fun e w' => e = .returned (.bool true) ∧ Below w.heap.size w w' := by
  obtain ⟨va, vc, rfl⟩ := hv.shape
  have hlo := hE.lo
  have HV := Lib.hid hv
  have HN := Lib.hid hn
  have HS := Lib.hid hs
  have HKF := Lib.hid hkf
  clear hv hn hs hkf
  go_enter Tryz.func3, Tryz.ntmps3
  go_wp2_with fail
  refine (jsane_calls w hE).mono ?_
  rintro e w1 ⟨rfl, k1⟩
  have HK1 := Lib.hid k1
  have hk1 := kept_below k1 rfl
  have hE1 := env_kept hE hk1 (fun _ _ h => h)
  have c1 := Lib.hid (fewop_calls (HV.out.kept hk1 (fun _ h => h.elim)) hl HS.out HKF.out)
  clear k1 hk1
  go_wp2_with fail
  refine Calls.mono c1.out ?_
  rintro e w2 ⟨t1, rfl, ht1, rfl⟩
  have HT1 := Lib.hid ht1
  clear ht1 c1
  cases t1 with
  | false =>
    go_wp2_with fail
    go_ret
    exact ⟨rfl, HK1.out⟩
  | true =>
    have HFEW := Lib.hid (HT1.out rfl)
    have hl25 := HFEW.out.1
    clear HT1
    go_wp2_with fail
    refine (m_new w1).mono ?_
    rintro e w3 ⟨b, rfl, hm3, hk3⟩
    have hzK := HK1.out.size
    have HM3 : Hid (Mine (fun i => i < w.heap.size) w3 b Dk.new) := hm3.weak (fun i hi => Nat.lt_of_lt_of_le hi hzK)
    have HK3 := Lib.hid (((kept_below HK1.out rfl).mono (T := fun i => ¬ i < w.heap.size) (fun _ h => h.elim)).trans (hk3.mono (fun _ h => h.elim)))
    clear hm3 hk3
    go_wp2_with fail
    refine (rnew_calls w3).mono ?_
    rintro e w4 ⟨rb, rfl, hI, hrb, hk4⟩
    have HSEP : Hid (Sep (fun i => i < w.heap.size) w4 (MB b Dk.new) (MR rb Dk.new)) := by
      have hz := HK3.out.size
      have hz4 := hk4.size
      have hlt := hI.lt
      have hfoot : ∀ i, RFoot rb ⟨.slice none 0 0, .slice none 0 0, .slice none 0 0⟩ i → i = rb := fun i hi => by
        rcases hi with hi | hi | hi | hi
        · exact hi
        · simp [Value.ownBlock] at hi
        · simp [Value.ownBlock] at hi
        · simp [Value.ownBlock] at hi
      refine ⟨⟨fun i => i = rb, fun i hi e => by omega, fun i hi => by omega, fun i hi => by omega, ?_, ?_⟩, gr_mine .., gr_rm ..⟩
      · exact (gr_mine b Dk.new).weak _ _ _ ((gr_mine b Dk.new).grow _ _ _ _ HM3.out hk4 (fun _ _ h => h.elim)) (fun i hi => hi.imp id (fun h => by omega))
      · exact ⟨Rk.new, new_rep, by simp [Rk.new], _, hI, fun i hi hn => hn.2 (hfoot i hi), fun i hi => hi.1⟩
    have HK4 : Hid (Kept (fun i => ¬ i < w.heap.size) w w4) := HK3.out.trans (hk4.mono (fun _ h => h.elim))
    have HEnv : Hid (∀ W, Kept (fun i => ¬ i < w.heap.size) w W → Env W) := fun W h => env_kept hE h (fun i hi hn => hn (by omega))
    clear hI hrb hk4 HM3 HK3 hE1 HK1
    go_wp2_with fail
    refine (sep_open HSEP.out (HEnv.out _ HK4.out) (fun i hi => by omega)).mono ?_
    rintro r w5 ⟨hk5, hcs⟩
    have HK5 := Lib.hid (HK4.out.trans hk5)
    have hR0 : (Dk.new.jopen 3).1.1.R ≤ 300 * 0 := by rw [jopen_R]; decide
    have HR0 := Lib.hid hR0
    clear hk5 HSEP HK4 hR0
    obtain ⟨d4, o4, -⟩ := calm_open Dk.new_ok new_calm (f := 3) (by decide)
    have hxs : (Dk.new.jopen 3).2 = some ⟨3, recs (Dk.new.F.text 3), false⟩ := by rw [o4]
    have HXS := Lib.hid hxs
    clear o4 hxs d4
    rcases hcs with ⟨hx, rfl, hsep⟩ | ⟨jb, j, hx, rfl, hsep⟩
    · exact absurd (hx.symm.trans HXS.out) (by simp)
    have HSO := Lib.hid hsep
    have HX := Lib.hid hx
    clear hsep hx
    go_wp2_with fail
    refine (sep_ropen HSO.out).mono ?_
    rintro r w6 ⟨hk10, ⟨hx2, rfl, hsep2⟩ | ⟨rj, j3, hx2, rfl, hsep2⟩⟩
    · exact absurd (HX.out.symm.trans hx2) (by simp)
    obtain rfl : j = j3 := Option.some.inj (HX.out.symm.trans hx2)
    have HL0 : Hid (LB w.heap.size w b rb 0 (.pointer (some ⟨jb, 0, none⟩)) (.int .i64 0) (.pointer (some ⟨rj, 0, none⟩)) (.int .i64 0) w6) := ⟨⟨_, _, rfl, rfl, HR0.out, Or.inr ⟨jb, rj, j, rfl, rfl, hsep2⟩⟩, HK5.out.trans hk10⟩
    clear hk10 hsep2 hx2 HSO HX HXS HR0 HK5
    go_wp2_with fail
    go_loopw [6, 7, 8, 9, 10] (fun jv ev kv fv i wr => ∃ k : Nat, k ≤ l.length ∧ i = .int .i64 k ∧ Hid (LB w.heap.size w b rb k jv ev kv fv wr)) (fun _ _ _ _ i _ => 27 - (intOf i).toNat)
    case atStart => exact ⟨0, by omega, rfl, HL0⟩
    case round =>
      clear HL0
      obtain ⟨k, hk, rfl, ht⟩ := hrel
      by_cases hlt : k < l.length
      · obtain ⟨a, ha⟩ : ∃ a, l[k]? = some a := ⟨_, List.getElem?_eq_getElem hlt⟩
        have hops := HV.out.kept ht.out.kept (fun i hi => Nat.not_lt.1 hi)
        obtain ⟨g, off, rfl, hgB, hgw, kv, hat⟩ := hops.get ha
        have HRG := Lib.hid hat.range
        obtain ⟨ka, kc, rfl⟩ := keep_shape hat.kp
        unfold opV at HRG
        have d2 : (k : Int) < (l.length : Int) := by omega
        have hk25 : a.S.length ≤ 200 ∧ a.Keep.length ≤ 50 := HFEW.out.2 a (List.mem_of_getElem? ha)
        have hNa := HN.out a (List.mem_of_getElem? ha)
        obtain ⟨g0, off0, he0, _, _, kv0, hat0⟩ := HV.out.get ha
        have hwN := ht.out.kept.size
        simp only [Option.some.injEq, Addr.mk.injEq, and_true] at he0
        obtain ⟨rfl, rfl⟩ := he0
        have hkv : Value.slice ka a.Keep.length kc = kv0 := by
          have h1 := hat.c3
          rw [World.cell?_of_block (a := ⟨g, off + k * 4 + 3, none⟩) (ht.out.kept.block g hgB (fun hn => hn hgB))] at h1
          exact Option.some.inj (h1.symm.trans hat0.c3)
        have hkpw : KeepAt w (.slice ka a.Keep.length kc) a.Keep := by rw [hkv]; exact hat0.kp
        have HKB := Lib.hid hat.kb
        have HKPR := Lib.hid hkpw
        clear hops hat hat0 hkpw ha hkv
        obtain ⟨d, ee, rfl, rfl, hRd, hst⟩ := ht.out.ex
        have HRd := Lib.hid hRd
        have HT := Lib.hid ht.out.kept
        clear hRd ht
        rcases hst with ⟨rfl, rfl, hsep⟩ | ⟨jb, rj, j, rfl, rfl, hsep⟩
        · as_aux_lemma =>
            have HSA := Lib.hid (hsep.alloc (.cells #[.int .i64 a.Kind, .string (bs a.S), .int .i64 a.N, .slice ka a.Keep.length kc] 38))
            clear hsep
            go_wp2_with (refine wpList_load_mid rfl 38 _ rfl g (off + k * 4) rfl [.int .i64 a.Kind, .string (bs a.S), .int .i64 a.N, .slice ka a.Keep.length kc] _ HRG.out Tryz.underlying38 rfl (by kernel_rfl) ?_)
            go_quiet ((first
              | (go_at_call 13; exact quiet_left (sum_calls a.S (by omega) _))
              | (go_at_call 14; exact quiet_left (rsum_calls a.S (by omega) _))))
            obtain ⟨W1, hW1⟩ : ∃ W1, W1 = wr.alloc (.cells #[.int .i64 a.Kind, .string (bs a.S), .int .i64 a.N, .slice ka a.Keep.length kc] 38) := ⟨_, rfl⟩
            rw [← hW1] at HSA ⊢
            have hkw : Kept (fun _ => False) wr W1 := by rw [hW1]; exact (Kept.refl (fun _ => False) wr).alloc _
            have hat1 : W1.heap[wr.heap.size]? = some (.cells #[.int .i64 a.Kind, .string (bs a.S), .int .i64 a.N, .slice ka a.Keep.length kc] 38) := by rw [hW1]; exact heap_alloc_new wr _
            obtain ⟨W2, hW2⟩ : ∃ W2, W2 = W1.drewN nq := ⟨_, rfl⟩
            rw [← hW2]
            have hk12 : Kept (fun _ => False) W1 W2 := by rw [hW2]; exact (Kept.refl (fun _ => False) W1).drewN nq
            have hat2 := (hk12.block _ (Array.getElem?_eq_some_iff.1 hat1).1 (fun h => h)).trans hat1
            have o0 : W2.cell? ⟨wr.heap.size, 0, none⟩ = some (.int .i64 a.Kind) := by rw [Lib.cell_of_heap hat2]; rfl
            have o1 : W2.cell? ⟨wr.heap.size, 1, none⟩ = some (.string (bs a.S)) := by rw [Lib.cell_of_heap hat2]; rfl
            have o2 : W2.cell? ⟨wr.heap.size, 2, none⟩ = some (.int .i64 a.N) := by rw [Lib.cell_of_heap hat2]; rfl
            have o3 : W2.cell? ⟨wr.heap.size, 3, none⟩ = some (.slice ka a.Keep.length kc) := by rw [Lib.cell_of_heap hat2]; rfl
            have hz2 : wr.heap.size < W2.heap.size := (Array.getElem?_eq_some_iff.1 hat2).1
            have HS2 := Lib.hid (HSA.out.kept hk12)
            have HK2 : Hid (Kept (fun i => ¬ i < w.heap.size) w W2) := HT.out.trans ((hkw.trans hk12).mono (fun _ h => h.elim))
            have HKP : Hid (∀ W, Kept (fun i => ¬ i < w.heap.size) w W → KeepAt W (.slice ka a.Keep.length kc) a.Keep) := fun W hW => HKPR.out.kept hW (fun i hi hn => hn (HKB.out i hi))
            clear HSA hkw hat1 hk12 hat2 hW1 hW2 HKPR HT HRG
            by_cases q0 : a.Kind = 0
            · as_aux_lemma =>
                rw [q0] at o0
                have HQ := Lib.hid q0
                clear q0
                have H10 : Hid (LB w.heap.size w b rb (k + 1) (.pointer none) (.int .i64 ee) (.pointer none) (.int .i64 ee) W2) := ⟨⟨_, _, rfl, rfl, (by have := HRd.out; exact (by omega : d.R ≤ 300 * (k + 1))), Or.inl ⟨rfl, rfl, HS2.out.weak (fun i hi => Or.inl hi)⟩⟩, HK2.out⟩
                go_wp2_with fail
                go_roundw
                case rel => exact ⟨k + 1, by omega, by go_num, H10⟩
                case measure => simp [intOf]; omega
            · have b0 : (a.Kind == 0) = false := by simpa using q0
              by_cases q1 : a.Kind = 1
              · as_aux_lemma =>
                  rw [q1] at o0
                  have HQ := Lib.hid q1
                  clear q1 q0 b0
                  have H10 : Hid (LB w.heap.size w b rb (k + 1) (.pointer none) (.int .i64 ee) (.pointer none) (.int .i64 ee) W2) := ⟨⟨_, _, rfl, rfl, (by have := HRd.out; exact (by omega : d.R ≤ 300 * (k + 1))), Or.inl ⟨rfl, rfl, HS2.out.weak (fun i hi => Or.inl hi)⟩⟩, HK2.out⟩
                  go_wp2_with fail
                  go_roundw
                  case rel => exact ⟨k + 1, by omega, by go_num, H10⟩
                  case measure => simp [intOf]; omega
              · have b1 : (a.Kind == 1) = false := by simpa using q1
                by_cases q2 : a.Kind = 2
                · as_aux_lemma =>
                    rw [q2] at o0
                    have HQ := Lib.hid q2
                    clear q2 q1 q0 b0 b1
                    go_wp2_with fail
                    refine (sep_mb (d' := d.lose a.N) HS2.out (fun P _ hM => m_lose hM a.N hNa.2)).mono ?_
                    rintro r w7 ⟨rfl, hs7, hk7⟩
                    have o2w7 : w7.cell? ⟨wr.heap.size, 2, none⟩ = some (.int .i64 a.N) := (World.cell?_of_block (hk7.block wr.heap.size (by omega) (fun hn => hn (Or.inr rfl)))).trans o2
                    have HS7 := Lib.hid hs7
                    have HK7 : Hid (Kept (fun i => ¬ i < w.heap.size) w w7) := HK2.out.trans (hk7.mono (fun i hi => Or.inl (fun hn => hi (Or.inl hn))))
                    clear hs7 hk7 HS2
                    go_wp2_with fail
                    refine (sep_mr (d' := d.lose a.N) HS7.out (fun P _ hM => rm_lose hM a.N hNa.2)).mono ?_
                    rintro r w9 ⟨rfl, hs9, hk9⟩
                    have HS9 := Lib.hid hs9
                    have HK9 : Hid (Kept (fun i => ¬ i < w.heap.size) w w9) := HK7.out.trans (hk9.mono (fun i hi => Or.inl (fun hn => hi (Or.inl hn))))
                    have HR9 : Hid ((d.lose a.N).R ≤ 300 * (k + 1)) := by have := HRd.out; show d.R ≤ _; omega
                    clear hs9 hk9 HS7 HK7
                    go_wp2_with fail
                    go_quiet (fail)
                    have hkf : Kept (fun _ => False) w9 (w9.drewN nq) := (Kept.refl (fun _ => False) w9).drewN nq
                    have H10 : Hid (LB w.heap.size w b rb (k + 1) (.pointer none) (.int .i64 ee) (.pointer none) (.int .i64 ee) (w9.drewN nq)) := ⟨⟨_, _, rfl, rfl, HR9.out, Or.inl ⟨rfl, rfl, (HS9.out.kept hkf).weak (fun i hi => Or.inl hi)⟩⟩, HK9.out.trans (hkf.mono (fun _ h => h.elim))⟩
                    clear hkf HS9 HK9
                    go_wp2_with fail
                    go_roundw
                    case rel => exact ⟨k + 1, by omega, by go_num, H10⟩
                    case measure => simp [intOf]; omega
                · have b2 : (a.Kind == 2) = false := by simpa using q2
                  by_cases q3 : a.Kind = 3
                  · as_aux_lemma =>
                      rw [q3] at o0
                      have HQ := Lib.hid q3
                      clear q3 q2 q1 q0 b0 b1 b2
                      go_wp2_with fail
                      refine (sep_mb (d' := d.arm a.N a.Keep) HS2.out (fun P hP hM => m_arm hM a.N _ a.Keep (HKP.out _ HK2.out) (fun i hi => hP i (Or.inl (HKB.out i hi))) hNa.2 (by omega))).mono ?_
                      rintro r w7 ⟨rfl, hs7, hk7⟩
                      have o2w7 : w7.cell? ⟨wr.heap.size, 2, none⟩ = some (.int .i64 a.N) := (World.cell?_of_block (hk7.block wr.heap.size (by omega) (fun hn => hn (Or.inr rfl)))).trans o2
                      have o3w7 : w7.cell? ⟨wr.heap.size, 3, none⟩ = some (.slice ka a.Keep.length kc) := (World.cell?_of_block (hk7.block wr.heap.size (by omega) (fun hn => hn (Or.inr rfl)))).trans o3
                      have HS7 := Lib.hid hs7
                      have HK7 : Hid (Kept (fun i => ¬ i < w.heap.size) w w7) := HK2.out.trans (hk7.mono (fun i hi => Or.inl (fun hn => hi (Or.inl hn))))
                      clear hs7 hk7 HS2
                      go_wp2_with fail
                      refine (sep_mr (d' := d.arm a.N a.Keep) HS7.out (fun P hP hM => rm_arm hM a.N _ a.Keep (HKP.out _ HK7.out) (fun i hi => hP i (Or.inl (HKB.out i hi))) hNa.2 (by omega))).mono ?_
                      rintro r w9 ⟨rfl, hs9, hk9⟩
                      have HS9 := Lib.hid hs9
                      have HK9 : Hid (Kept (fun i => ¬ i < w.heap.size) w w9) := HK7.out.trans (hk9.mono (fun i hi => Or.inl (fun hn => hi (Or.inl hn))))
                      have HR9 : Hid ((d.arm a.N a.Keep).R ≤ 300 * (k + 1)) := by have := HRd.out; show d.R ≤ _; omega
                      clear hs9 hk9 HS7 HK7
                      go_wp2_with fail
                      go_quiet (fail)
                      have hkf : Kept (fun _ => False) w9 (w9.drewN nq) := (Kept.refl (fun _ => False) w9).drewN nq
                      have H10 : Hid (LB w.heap.size w b rb (k + 1) (.pointer none) (.int .i64 ee) (.pointer none) (.int .i64 ee) (w9.drewN nq)) := ⟨⟨_, _, rfl, rfl, HR9.out, Or.inl ⟨rfl, rfl, (HS9.out.kept hkf).weak (fun i hi => Or.inl hi)⟩⟩, HK9.out.trans (hkf.mono (fun _ h => h.elim))⟩
                      clear hkf HS9 HK9
                      go_wp2_with fail
                      go_roundw
                      case rel => exact ⟨k + 1, by omega, by go_num, H10⟩
                      case measure => simp [intOf]; omega
                  · have b3 : (a.Kind == 3) = false := by simpa using q3
                    by_cases q45 : a.Kind = 4 ∨ a.Kind = 5
                    · as_aux_lemma =>
                        have HSD : Hid (Sep (fun i => i < w.heap.size ∨ i = wr.heap.size) W2 (MB b d) (MR rb d)) := HS2.out
                        clear HS2
                        rcases q45 with q4 | q5
                        · rw [q4] at o0
                          have HQ := Lib.hid q4
                          clear q4 q3 q2 q1 q0 b0 b1 b2 b3
                          go_wp2_with fail
                          refine (sep_mb (d' := d.crash a.Keep) HSD.out (fun P hP hM => m_crash hM _ a.Keep (HKP.out _ HK2.out) (fun i hi => hP i (Or.inl (HKB.out i hi))) (by omega))).mono ?_
                          rintro r w7 ⟨rfl, hs7, hk7⟩
                          have o3w7 : w7.cell? ⟨wr.heap.size, 3, none⟩ = some (.slice ka a.Keep.length kc) := (World.cell?_of_block (hk7.block wr.heap.size (by omega) (fun hn => hn (Or.inr rfl)))).trans o3
                          have HS7 := Lib.hid hs7
                          have HK7 : Hid (Kept (fun i => ¬ i < w.heap.size) w w7) := HK2.out.trans (hk7.mono (fun i hi => Or.inl (fun hn => hi (Or.inl hn))))
                          clear hs7 hk7 HSD
                          go_wp2_with fail
                          refine (sep_mr (d' := d.crash a.Keep) HS7.out (fun P hP hM => rm_crash hM _ a.Keep (HKP.out _ HK7.out) (fun i hi => hP i (Or.inl (HKB.out i hi))) (by omega))).mono ?_
                          rintro r w8 ⟨rfl, hs8, hk8⟩
                          have HS8 := Lib.hid hs8
                          have HK8 : Hid (Kept (fun i => ¬ i < w.heap.size) w w8) := HK7.out.trans (hk8.mono (fun i hi => Or.inl (fun hn => hi (Or.inl hn))))
                          obtain ⟨d0, hd0⟩ : ∃ d0, d0 = d.crash a.Keep := ⟨_, rfl⟩
                          rw [← hd0] at HS8
                          have HR0 : Hid (d0.R ≤ 300 * k) := by rw [hd0, jcrash_R]; exact HRd.out
                          clear hs8 hk8 HS7 HK7 hd0
                          go_wp2_with fail
                          refine (sep_mb (d' := d0.start) HS8.out (fun P hP hM => m_start hM)).mono ?_
                          rintro r w17 ⟨rfl, hs7, hk7⟩
                          have HS17 := Lib.hid hs7
                          have HK17 : Hid (Kept (fun i => ¬ i < w.heap.size) w w17) := HK8.out.trans (hk7.mono (fun i hi => Or.inl (fun hn => hi (Or.inl hn))))
                          clear hs7 hk7 HS8 HK8
                          go_wp2_with fail
                          refine (sep_mr (d' := d0.start) HS17.out (fun P hP hM => rm_start hM)).mono ?_
                          rintro r w18 ⟨rfl, hs8, hk8⟩
                          obtain ⟨e0, he0⟩ : ∃ e0, e0 = d0.start := ⟨_, rfl⟩
                          rw [← he0] at hs8
                          have HS18 := Lib.hid hs8
                          have HK18 : Hid (Kept (fun i => ¬ i < w.heap.size) w w18) := HK17.out.trans (hk8.mono (fun i hi => Or.inl (fun hn => hi (Or.inl hn))))
                          have HR18 : Hid (e0.R ≤ 300 * k) := by rw [he0]; exact HR0.out
                          clear hs8 hk8 HS17 HK17 he0
                          go_wp2_with fail
                          refine (sep_open HS18.out (HEnv.out _ HK18.out) (fun i hi => Or.inl (by omega))).mono ?_
                          rintro r w19 ⟨hk9, hcs⟩
                          have HK19 : Hid (Kept (fun i => ¬ i < w.heap.size) w w19) := HK18.out.trans (hk9.mono (fun i hi => Or.inl (fun hn => hi (Or.inl hn))))
                          have HR9 : Hid ((e0.jopen 3).1.1.R ≤ 300 * (k + 1)) := by rw [jopen_R]; have := HR18.out; exact (by omega : e0.R ≤ 300 * (k + 1))
                          clear hk9 HS18 HK18
                          rcases hcs with ⟨hx, rfl, hsep⟩ | ⟨jb2, j2, hx, rfl, hsep⟩
                          · as_aux_lemma =>
                              have HSO := Lib.hid hsep
                              have HX := Lib.hid hx
                              clear hsep hx
                              go_wp2_with fail
                              refine (sep_ropen HSO.out).mono ?_
                              rintro r w9 ⟨hk10, ⟨hx2, rfl, hsep2⟩ | ⟨rj2, j3, hx2, rfl, hsep2⟩⟩
                              · have HK9 : Hid (Kept (fun i => ¬ i < w.heap.size) w w9) := HK19.out.trans (hk10.mono (fun i hi => Or.inl (fun hn => hi (Or.inl hn))))
                                obtain ⟨X, hX⟩ : ∃ X, X = e0.jopen 3 := ⟨_, rfl⟩
                                rw [← hX] at hsep2 HR9 ⊢
                                have HS9 := Lib.hid hsep2
                                clear hk10 hsep2 hx2 HSO HX hX HK19
                                go_wp2_with fail
                                go_quiet (fail)
                                have hkf : Kept (fun _ => False) w9 (w9.drewN nq) := (Kept.refl (fun _ => False) w9).drewN nq
                                have H10 : Hid (LB w.heap.size w b rb (k + 1) (.pointer none) (.int .i64 X.1.2) (.pointer none) (.int .i64 X.1.2) (w9.drewN nq)) := ⟨⟨_, _, rfl, rfl, HR9.out, Or.inl ⟨rfl, rfl, (HS9.out.kept hkf).weak (fun i hi => Or.inl hi)⟩⟩, HK9.out.trans (hkf.mono (fun _ h => h.elim))⟩
                                clear hkf HS9 HK9
                                go_wp2_with fail
                                go_roundw
                                case rel => exact ⟨k + 1, by omega, by go_num, H10⟩
                                case measure => simp [intOf]; omega
                              · exact absurd (HX.out.symm.trans hx2) (by simp)
                          · as_aux_lemma =>
                              have HSO := Lib.hid hsep
                              have HX := Lib.hid hx
                              clear hsep hx
                              go_wp2_with fail
                              refine (sep_ropen HSO.out).mono ?_
                              rintro r w9 ⟨hk10, ⟨hx2, rfl, hsep2⟩ | ⟨rj2, j3, hx2, rfl, hsep2⟩⟩
                              · exact absurd (HX.out.symm.trans hx2) (by simp)
                              · have HK9 : Hid (Kept (fun i => ¬ i < w.heap.size) w w9) := HK19.out.trans (hk10.mono (fun i hi => Or.inl (fun hn => hi (Or.inl hn))))
                                obtain rfl : j2 = j3 := Option.some.inj (HX.out.symm.trans hx2)
                                have HS9 := Lib.hid hsep2
                                clear hk10 hsep2 hx2 HSO HX HK19
                                obtain ⟨ra, rn, rc, cv, tv, hrj, hll, -⟩ := sep_view HS9.out
                                have HALL := Lib.hid (fun V hV => sep_all HS9.out V hV)
                                have HTV := Lib.hid tv
                                clear tv
                                go_wp2_with fail
                                go_region_held3 (fun w' => w'.cell? ⟨rj2, 2, none⟩ = some (.slice ra rn rc))
                                  (first | exact (World.cell?_of_block (hka.block rj2 hrj (fun h => h))).trans cv | go_keep)
                                  (first
                                    | (go_at_call 27
                                       have hka' := hka
                                       refine (tsame_eq v10 _ _ _ hta (texts_kept' HTV.out hka) (by omega)).mono ?_
                                       rintro r w11 ⟨rfl, n11, rfl⟩)
                                    | (go_at_call 28
                                       refine (HALL.out _ (by first | exact Kept.refl _ _ | exact (Kept.refl _ _).drew)).mono ?_
                                       rintro r w10 ⟨v10, rfl, hta, hkA⟩
                                       have hka : Kept (fun _ => False) w9 w10 := by first | exact hkA | exact ((Kept.refl _ w9).drew).trans hkA))
                                have hkf : Kept (fun _ => False) w9 (w10.drewN n11) := hka.drewN n11
                                have H10 : Hid (LB w.heap.size w b rb (k + 1) (.pointer (some ⟨jb2, 0, none⟩)) (.int .i64 0) (.pointer (some ⟨rj2, 0, none⟩)) (.int .i64 0) (w10.drewN n11)) := ⟨⟨_, _, rfl, rfl, HR9.out, Or.inr ⟨jb2, rj2, _, rfl, rfl, (HS9.out.kept hkf).weak (fun i hi => Or.inl hi)⟩⟩, HK9.out.trans (hkf.mono (fun _ h => h.elim))⟩
                                clear hkf hka hta hkA HALL HTV HS9 HK9 cv
                                go_wp2_with fail
                                go_roundw
                                case rel => exact ⟨k + 1, by omega, by go_num, H10⟩
                                case measure => simp [intOf]; omega
                        · rw [q5] at o0
                          have HQ := Lib.hid q5
                          clear q5 q3 q2 q1 q0 b0 b1 b2 b3
                          obtain ⟨w8, hw8⟩ : ∃ w8, w8 = W2 := ⟨_, rfl⟩
                          rw [← hw8] at HSD HK2 ⊢
                          have HS8 := Lib.hid HSD.out
                          have HK8 := Lib.hid HK2.out
                          obtain ⟨d0, hd0⟩ : ∃ d0, d0 = d := ⟨_, rfl⟩
                          rw [← hd0] at HS8
                          have HR0 : Hid (d0.R ≤ 300 * k) := by rw [hd0]; exact HRd.out
                          rw [← hw8] at o0 o1 o2 o3
                          clear hw8 HSD hd0
                          go_wp2_with fail
                          refine (sep_mb (d' := d0.start) HS8.out (fun P hP hM => m_start hM)).mono ?_
                          rintro r w17 ⟨rfl, hs7, hk7⟩
                          have HS17 := Lib.hid hs7
                          have HK17 : Hid (Kept (fun i => ¬ i < w.heap.size) w w17) := HK8.out.trans (hk7.mono (fun i hi => Or.inl (fun hn => hi (Or.inl hn))))
                          clear hs7 hk7 HS8 HK8
                          go_wp2_with fail
                          refine (sep_mr (d' := d0.start) HS17.out (fun P hP hM => rm_start hM)).mono ?_
                          rintro r w18 ⟨rfl, hs8, hk8⟩
                          obtain ⟨e0, he0⟩ : ∃ e0, e0 = d0.start := ⟨_, rfl⟩
                          rw [← he0] at hs8
                          have HS18 := Lib.hid hs8
                          have HK18 : Hid (Kept (fun i => ¬ i < w.heap.size) w w18) := HK17.out.trans (hk8.mono (fun i hi => Or.inl (fun hn => hi (Or.inl hn))))
                          have HR18 : Hid (e0.R ≤ 300 * k) := by rw [he0]; exact HR0.out
                          clear hs8 hk8 HS17 HK17 he0
                          go_wp2_with fail
                          refine (sep_open HS18.out (HEnv.out _ HK18.out) (fun i hi => Or.inl (by omega))).mono ?_
                          rintro r w19 ⟨hk9, hcs⟩
                          have HK19 : Hid (Kept (fun i => ¬ i < w.heap.size) w w19) := HK18.out.trans (hk9.mono (fun i hi => Or.inl (fun hn => hi (Or.inl hn))))
                          have HR9 : Hid ((e0.jopen 3).1.1.R ≤ 300 * (k + 1)) := by rw [jopen_R]; have := HR18.out; exact (by omega : e0.R ≤ 300 * (k + 1))
                          clear hk9 HS18 HK18
                          rcases hcs with ⟨hx, rfl, hsep⟩ | ⟨jb2, j2, hx, rfl, hsep⟩
                          · as_aux_lemma =>
                              have HSO := Lib.hid hsep
                              have HX := Lib.hid hx
                              clear hsep hx
                              go_wp2_with fail
                              refine (sep_ropen HSO.out).mono ?_
                              rintro r w9 ⟨hk10, ⟨hx2, rfl, hsep2⟩ | ⟨rj2, j3, hx2, rfl, hsep2⟩⟩
                              · have HK9 : Hid (Kept (fun i => ¬ i < w.heap.size) w w9) := HK19.out.trans (hk10.mono (fun i hi => Or.inl (fun hn => hi (Or.inl hn))))
                                obtain ⟨X, hX⟩ : ∃ X, X = e0.jopen 3 := ⟨_, rfl⟩
                                rw [← hX] at hsep2 HR9 ⊢
                                have HS9 := Lib.hid hsep2
                                clear hk10 hsep2 hx2 HSO HX hX HK19
                                go_wp2_with fail
                                go_quiet (fail)
                                have hkf : Kept (fun _ => False) w9 (w9.drewN nq) := (Kept.refl (fun _ => False) w9).drewN nq
                                have H10 : Hid (LB w.heap.size w b rb (k + 1) (.pointer none) (.int .i64 X.1.2) (.pointer none) (.int .i64 X.1.2) (w9.drewN nq)) := ⟨⟨_, _, rfl, rfl, HR9.out, Or.inl ⟨rfl, rfl, (HS9.out.kept hkf).weak (fun i hi => Or.inl hi)⟩⟩, HK9.out.trans (hkf.mono (fun _ h => h.elim))⟩
                                clear hkf HS9 HK9
                                go_wp2_with fail
                                go_roundw
                                case rel => exact ⟨k + 1, by omega, by go_num, H10⟩
                                case measure => simp [intOf]; omega
                              · exact absurd (HX.out.symm.trans hx2) (by simp)
                          · as_aux_lemma =>
                              have HSO := Lib.hid hsep
                              have HX := Lib.hid hx
                              clear hsep hx
                              go_wp2_with fail
                              refine (sep_ropen HSO.out).mono ?_
                              rintro r w9 ⟨hk10, ⟨hx2, rfl, hsep2⟩ | ⟨rj2, j3, hx2, rfl, hsep2⟩⟩
                              · exact absurd (HX.out.symm.trans hx2) (by simp)
                              · have HK9 : Hid (Kept (fun i => ¬ i < w.heap.size) w w9) := HK19.out.trans (hk10.mono (fun i hi => Or.inl (fun hn => hi (Or.inl hn))))
                                obtain rfl : j2 = j3 := Option.some.inj (HX.out.symm.trans hx2)
                                have HS9 := Lib.hid hsep2
                                clear hk10 hsep2 hx2 HSO HX HK19
                                obtain ⟨ra, rn, rc, cv, tv, hrj, hll, -⟩ := sep_view HS9.out
                                have HALL := Lib.hid (fun V hV => sep_all HS9.out V hV)
                                have HTV := Lib.hid tv
                                clear tv
                                go_wp2_with fail
                                go_region_held3 (fun w' => w'.cell? ⟨rj2, 2, none⟩ = some (.slice ra rn rc))
                                  (first | exact (World.cell?_of_block (hka.block rj2 hrj (fun h => h))).trans cv | go_keep)
                                  (first
                                    | (go_at_call 27
                                       have hka' := hka
                                       refine (tsame_eq v10 _ _ _ hta (texts_kept' HTV.out hka) (by omega)).mono ?_
                                       rintro r w11 ⟨rfl, n11, rfl⟩)
                                    | (go_at_call 28
                                       refine (HALL.out _ (by first | exact Kept.refl _ _ | exact (Kept.refl _ _).drew)).mono ?_
                                       rintro r w10 ⟨v10, rfl, hta, hkA⟩
                                       have hka : Kept (fun _ => False) w9 w10 := by first | exact hkA | exact ((Kept.refl _ w9).drew).trans hkA))
                                have hkf : Kept (fun _ => False) w9 (w10.drewN n11) := hka.drewN n11
                                have H10 : Hid (LB w.heap.size w b rb (k + 1) (.pointer (some ⟨jb2, 0, none⟩)) (.int .i64 0) (.pointer (some ⟨rj2, 0, none⟩)) (.int .i64 0) (w10.drewN n11)) := ⟨⟨_, _, rfl, rfl, HR9.out, Or.inr ⟨jb2, rj2, _, rfl, rfl, (HS9.out.kept hkf).weak (fun i hi => Or.inl hi)⟩⟩, HK9.out.trans (hkf.mono (fun _ h => h.elim))⟩
                                clear hkf hka hta hkA HALL HTV HS9 HK9 cv
                                go_wp2_with fail
                                go_roundw
                                case rel => exact ⟨k + 1, by omega, by go_num, H10⟩
                                case measure => simp [intOf]; omega
                    · as_aux_lemma =>
                        have b4 : (a.Kind == 4) = false := by simpa using (fun h => q45 (Or.inl h) : ¬ a.Kind = 4)
                        have b5 : (a.Kind == 5) = false := by simpa using (fun h => q45 (Or.inr h) : ¬ a.Kind = 5)
                        clear q45
                        obtain ⟨w9, hw9⟩ : ∃ w9, w9 = W2 := ⟨_, rfl⟩
                        rw [← hw9] at HS2 HK2 o0 ⊢
                        clear hw9 o1 o2 o3
                        have HS9 := Lib.hid HS2.out
                        have HK9 := Lib.hid HK2.out
                        have HR9 : Hid (d.R ≤ 300 * (k + 1)) := by have := HRd.out; exact (by omega : d.R ≤ 300 * (k + 1))
                        clear HS2 HK2
                        go_wp2_with fail
                        go_quiet (fail)
                        have hkf : Kept (fun _ => False) w9 (w9.drewN nq) := (Kept.refl (fun _ => False) w9).drewN nq
                        have H10 : Hid (LB w.heap.size w b rb (k + 1) (.pointer none) (.int .i64 ee) (.pointer none) (.int .i64 ee) (w9.drewN nq)) := ⟨⟨_, _, rfl, rfl, HR9.out, Or.inl ⟨rfl, rfl, (HS9.out.kept hkf).weak (fun i hi => Or.inl hi)⟩⟩, HK9.out.trans (hkf.mono (fun _ h => h.elim))⟩
                        clear hkf HS9 HK9
                        go_wp2_with fail
                        go_roundw
                        case rel => exact ⟨k + 1, by omega, by go_num, H10⟩
                        case measure => simp [intOf]; omega
        · as_aux_lemma =>
            have HSA := Lib.hid (hsep.alloc (.cells #[.int .i64 a.Kind, .string (bs a.S), .int .i64 a.N, .slice ka a.Keep.length kc] 38))
            clear hsep
            go_wp2_with (refine wpList_load_mid rfl 38 _ rfl g (off + k * 4) rfl [.int .i64 a.Kind, .string (bs a.S), .int .i64 a.N, .slice ka a.Keep.length kc] _ HRG.out Tryz.underlying38 rfl (by kernel_rfl) ?_)
            go_quiet ((first
              | (go_at_call 13; exact quiet_left (sum_calls a.S (by omega) _))
              | (go_at_call 14; exact quiet_left (rsum_calls a.S (by omega) _))))
            obtain ⟨W1, hW1⟩ : ∃ W1, W1 = wr.alloc (.cells #[.int .i64 a.Kind, .string (bs a.S), .int .i64 a.N, .slice ka a.Keep.length kc] 38) := ⟨_, rfl⟩
            rw [← hW1] at HSA ⊢
            have hkw : Kept (fun _ => False) wr W1 := by rw [hW1]; exact (Kept.refl (fun _ => False) wr).alloc _
            have hat1 : W1.heap[wr.heap.size]? = some (.cells #[.int .i64 a.Kind, .string (bs a.S), .int .i64 a.N, .slice ka a.Keep.length kc] 38) := by rw [hW1]; exact heap_alloc_new wr _
            obtain ⟨W2, hW2⟩ : ∃ W2, W2 = W1.drewN nq := ⟨_, rfl⟩
            rw [← hW2]
            have hk12 : Kept (fun _ => False) W1 W2 := by rw [hW2]; exact (Kept.refl (fun _ => False) W1).drewN nq
            have hat2 := (hk12.block _ (Array.getElem?_eq_some_iff.1 hat1).1 (fun h => h)).trans hat1
            have o0 : W2.cell? ⟨wr.heap.size, 0, none⟩ = some (.int .i64 a.Kind) := by rw [Lib.cell_of_heap hat2]; rfl
            have o1 : W2.cell? ⟨wr.heap.size, 1, none⟩ = some (.string (bs a.S)) := by rw [Lib.cell_of_heap hat2]; rfl
            have o2 : W2.cell? ⟨wr.heap.size, 2, none⟩ = some (.int .i64 a.N) := by rw [Lib.cell_of_heap hat2]; rfl
            have o3 : W2.cell? ⟨wr.heap.size, 3, none⟩ = some (.slice ka a.Keep.length kc) := by rw [Lib.cell_of_heap hat2]; rfl
            have hz2 : wr.heap.size < W2.heap.size := (Array.getElem?_eq_some_iff.1 hat2).1
            have HS2 := Lib.hid (HSA.out.kept hk12)
            have HK2 : Hid (Kept (fun i => ¬ i < w.heap.size) w W2) := HT.out.trans ((hkw.trans hk12).mono (fun _ h => h.elim))
            have HKP : Hid (∀ W, Kept (fun i => ¬ i < w.heap.size) w W → KeepAt W (.slice ka a.Keep.length kc) a.Keep) := fun W hW => HKPR.out.kept hW (fun i hi hn => hn (HKB.out i hi))
            clear HSA hkw hat1 hk12 hat2 hW1 hW2 HKPR HT HRG
            by_cases q0 : a.Kind = 0
            · as_aux_lemma =>
                rw [q0] at o0
                have HQ := Lib.hid q0
                clear q0
                have HC := Lib.hid (sep_append HS2.out (HEnv.out _ HK2.out) a.S (by omega) (by have := HRd.out; omega))
                go_wp2_with fail
                refine HC.out.mono ?_
                rintro r w7 ⟨rfl, hs7, hk7⟩
                have o1w7 : w7.cell? ⟨wr.heap.size, 1, none⟩ = some (.string (bs a.S)) := (World.cell?_of_block (hk7.block wr.heap.size (by omega) (fun hn => hn (Or.inr rfl)))).trans o1
                have HS7 := Lib.hid hs7
                have HK7 : Hid (Kept (fun i => ¬ i < w.heap.size) w w7) := HK2.out.trans (hk7.mono (fun i hi => Or.inl (fun hn => hi (Or.inl hn))))
                obtain ⟨-, -, -, -, -, -, -, hfl7⟩ := sep_view HS2.out
                clear hs7 hk7 HS2 HC
                go_wp2_with fail
                refine (sep_rappend HS7.out a.S (by omega) hfl7).mono ?_
                rintro r w9 ⟨rfl, hs9, hk9⟩
                have HK9 : Hid (Kept (fun i => ¬ i < w.heap.size) w w9) := HK7.out.trans (hk9.mono (fun i hi => Or.inl (fun hn => hi (Or.inl hn))))
                obtain ⟨X, hX⟩ : ∃ X, X = d.jappend j a.S := ⟨_, rfl⟩
                rw [← hX] at hs9 ⊢
                have HS9 := Lib.hid hs9
                have HR9 : Hid (X.1.1.R ≤ 300 * (k + 1)) := by
                  have h1 := jappend_R d j a.S
                  have h2 := form_len a.S (by omega)
                  have h3 := HRd.out
                  rw [hX]
                  exact (by omega : (d.jappend j a.S).1.1.R ≤ 300 * (k + 1))
                clear hs9 hk9 HS7 HK7 hX
                obtain ⟨ra, rn, rc, cv, tv, hrj, hll, -⟩ := sep_view HS9.out
                have HALL := Lib.hid (fun V hV => sep_all HS9.out V hV)
                have HTV := Lib.hid tv
                clear tv
                go_wp2_with fail
                go_region_held3 (fun w' => w'.cell? ⟨rj, 2, none⟩ = some (.slice ra rn rc))
                  (first | exact (World.cell?_of_block (hka.block rj hrj (fun h => h))).trans cv | go_keep)
                  (first
                    | (go_at_call 27
                       have hka' := hka
                       refine (tsame_eq v10 _ _ _ hta (texts_kept' HTV.out hka) (by omega)).mono ?_
                       rintro r w11 ⟨rfl, n11, rfl⟩)
                    | (go_at_call 28
                       refine (HALL.out _ (by first | exact Kept.refl _ _ | exact (Kept.refl _ _).drew)).mono ?_
                       rintro r w10 ⟨v10, rfl, hta, hkA⟩
                       have hka : Kept (fun _ => False) w9 w10 := by first | exact hkA | exact ((Kept.refl _ w9).drew).trans hkA))
                have hkf : Kept (fun _ => False) w9 (w10.drewN n11) := hka.drewN n11
                have H10 : Hid (LB w.heap.size w b rb (k + 1) (.pointer (some ⟨jb, 0, none⟩)) (.int .i64 X.1.2) (.pointer (some ⟨rj, 0, none⟩)) (.int .i64 X.1.2) (w10.drewN n11)) := ⟨⟨_, _, rfl, rfl, HR9.out, Or.inr ⟨jb, rj, _, rfl, rfl, (HS9.out.kept hkf).weak (fun i hi => Or.inl hi)⟩⟩, HK9.out.trans (hkf.mono (fun _ h => h.elim))⟩
                clear hkf hka hta hkA HALL HTV HS9 HK9 cv
                go_wp2_with fail
                go_roundw
                case rel => exact ⟨k + 1, by omega, by go_num, H10⟩
                case measure => simp [intOf]; omega
            · have b0 : (a.Kind == 0) = false := by simpa using q0
              by_cases q1 : a.Kind = 1
              · as_aux_lemma =>
                  rw [q1] at o0
                  have HQ := Lib.hid q1
                  clear q1 q0 b0
                  go_wp2_with fail
                  refine (sep_sync HS2.out).mono ?_
                  rintro r w7 ⟨rfl, hs7, hk7⟩
                  have HS7 := Lib.hid hs7
                  have HK7 : Hid (Kept (fun i => ¬ i < w.heap.size) w w7) := HK2.out.trans (hk7.mono (fun i hi => Or.inl (fun hn => hi (Or.inl hn))))
                  clear hs7 hk7 HS2
                  go_wp2_with fail
                  refine (sep_rsync HS7.out).mono ?_
                  rintro r w9 ⟨rfl, hs9, hk9⟩
                  have HK9 : Hid (Kept (fun i => ¬ i < w.heap.size) w w9) := HK7.out.trans (hk9.mono (fun i hi => Or.inl (fun hn => hi (Or.inl hn))))
                  obtain ⟨X, hX⟩ : ∃ X, X = d.jsync j := ⟨_, rfl⟩
                  rw [← hX] at hs9 ⊢
                  have HS9 := Lib.hid hs9
                  have HR9 : Hid (X.1.1.R ≤ 300 * (k + 1)) := by
                    have h1 := jsync_R d j
                    have h3 := HRd.out
                    rw [hX, h1]
                    exact (by omega : d.R ≤ 300 * (k + 1))
                  clear hs9 hk9 HS7 HK7 hX
                  obtain ⟨ra, rn, rc, cv, tv, hrj, hll, -⟩ := sep_view HS9.out
                  have HALL := Lib.hid (fun V hV => sep_all HS9.out V hV)
                  have HTV := Lib.hid tv
                  clear tv
                  go_wp2_with fail
                  go_region_held3 (fun w' => w'.cell? ⟨rj, 2, none⟩ = some (.slice ra rn rc))
                    (first | exact (World.cell?_of_block (hka.block rj hrj (fun h => h))).trans cv | go_keep)
                    (first
                      | (go_at_call 27
                         have hka' := hka
                         refine (tsame_eq v10 _ _ _ hta (texts_kept' HTV.out hka) (by omega)).mono ?_
                         rintro r w11 ⟨rfl, n11, rfl⟩)
                      | (go_at_call 28
                         refine (HALL.out _ (by first | exact Kept.refl _ _ | exact (Kept.refl _ _).drew)).mono ?_
                         rintro r w10 ⟨v10, rfl, hta, hkA⟩
                         have hka : Kept (fun _ => False) w9 w10 := by first | exact hkA | exact ((Kept.refl _ w9).drew).trans hkA))
                  have hkf : Kept (fun _ => False) w9 (w10.drewN n11) := hka.drewN n11
                  have H10 : Hid (LB w.heap.size w b rb (k + 1) (.pointer (some ⟨jb, 0, none⟩)) (.int .i64 X.1.2) (.pointer (some ⟨rj, 0, none⟩)) (.int .i64 X.1.2) (w10.drewN n11)) := ⟨⟨_, _, rfl, rfl, HR9.out, Or.inr ⟨jb, rj, _, rfl, rfl, (HS9.out.kept hkf).weak (fun i hi => Or.inl hi)⟩⟩, HK9.out.trans (hkf.mono (fun _ h => h.elim))⟩
                  clear hkf hka hta hkA HALL HTV HS9 HK9 cv
                  go_wp2_with fail
                  go_roundw
                  case rel => exact ⟨k + 1, by omega, by go_num, H10⟩
                  case measure => simp [intOf]; omega
              · have b1 : (a.Kind == 1) = false := by simpa using q1
                by_cases q2 : a.Kind = 2
                · as_aux_lemma =>
                    rw [q2] at o0
                    have HQ := Lib.hid q2
                    clear q2 q1 q0 b0 b1
                    go_wp2_with fail
                    refine (sep_jb (d' := d.lose a.N) HS2.out (fun P _ hM => m_lose hM a.N hNa.2)).mono ?_
                    rintro r w7 ⟨rfl, hs7, hk7⟩
                    have o2w7 : w7.cell? ⟨wr.heap.size, 2, none⟩ = some (.int .i64 a.N) := (World.cell?_of_block (hk7.block wr.heap.size (by omega) (fun hn => hn (Or.inr rfl)))).trans o2
                    have HS7 := Lib.hid hs7
                    have HK7 : Hid (Kept (fun i => ¬ i < w.heap.size) w w7) := HK2.out.trans (hk7.mono (fun i hi => Or.inl (fun hn => hi (Or.inl hn))))
                    clear hs7 hk7 HS2
                    go_wp2_with fail
                    refine (sep_jr (d' := d.lose a.N) HS7.out (fun P _ hM => rm_lose hM a.N hNa.2)).mono ?_
                    rintro r w9 ⟨rfl, hs9, hk9⟩
                    have HS9 := Lib.hid hs9
                    have HK9 : Hid (Kept (fun i => ¬ i < w.heap.size) w w9) := HK7.out.trans (hk9.mono (fun i hi => Or.inl (fun hn => hi (Or.inl hn))))
                    have HR9 : Hid ((d.lose a.N).R ≤ 300 * (k + 1)) := by have := HRd.out; show d.R ≤ _; omega
                    clear hs9 hk9 HS7 HK7
                    obtain ⟨ra, rn, rc, cv, tv, hrj, hll, -⟩ := sep_view HS9.out
                    have HALL := Lib.hid (fun V hV => sep_all HS9.out V hV)
                    have HTV := Lib.hid tv
                    clear tv
                    go_wp2_with fail
                    go_region_held3 (fun w' => w'.cell? ⟨rj, 2, none⟩ = some (.slice ra rn rc))
                      (first | exact (World.cell?_of_block (hka.block rj hrj (fun h => h))).trans cv | go_keep)
                      (first
                        | (go_at_call 27
                           have hka' := hka
                           refine (tsame_eq v10 _ _ _ hta (texts_kept' HTV.out hka) (by omega)).mono ?_
                           rintro r w11 ⟨rfl, n11, rfl⟩)
                        | (go_at_call 28
                           refine (HALL.out _ (by first | exact Kept.refl _ _ | exact (Kept.refl _ _).drew)).mono ?_
                           rintro r w10 ⟨v10, rfl, hta, hkA⟩
                           have hka : Kept (fun _ => False) w9 w10 := by first | exact hkA | exact ((Kept.refl _ w9).drew).trans hkA))
                    have hkf : Kept (fun _ => False) w9 (w10.drewN n11) := hka.drewN n11
                    have H10 : Hid (LB w.heap.size w b rb (k + 1) (.pointer (some ⟨jb, 0, none⟩)) (.int .i64 ee) (.pointer (some ⟨rj, 0, none⟩)) (.int .i64 ee) (w10.drewN n11)) := ⟨⟨_, _, rfl, rfl, HR9.out, Or.inr ⟨jb, rj, _, rfl, rfl, (HS9.out.kept hkf).weak (fun i hi => Or.inl hi)⟩⟩, HK9.out.trans (hkf.mono (fun _ h => h.elim))⟩
                    clear hkf hka hta hkA HALL HTV HS9 HK9 cv
                    go_wp2_with fail
                    go_roundw
                    case rel => exact ⟨k + 1, by omega, by go_num, H10⟩
                    case measure => simp [intOf]; omega
                · have b2 : (a.Kind == 2) = false := by simpa using q2
                  by_cases q3 : a.Kind = 3
                  · as_aux_lemma =>
                      rw [q3] at o0
                      have HQ := Lib.hid q3
                      clear q3 q2 q1 q0 b0 b1 b2
                      go_wp2_with fail
                      refine (sep_jb (d' := d.arm a.N a.Keep) HS2.out (fun P hP hM => m_arm hM a.N _ a.Keep (HKP.out _ HK2.out) (fun i hi => hP i (Or.inl (HKB.out i hi))) hNa.2 (by omega))).mono ?_
                      rintro r w7 ⟨rfl, hs7, hk7⟩
                      have o2w7 : w7.cell? ⟨wr.heap.size, 2, none⟩ = some (.int .i64 a.N) := (World.cell?_of_block (hk7.block wr.heap.size (by omega) (fun hn => hn (Or.inr rfl)))).trans o2
                      have o3w7 : w7.cell? ⟨wr.heap.size, 3, none⟩ = some (.slice ka a.Keep.length kc) := (World.cell?_of_block (hk7.block wr.heap.size (by omega) (fun hn => hn (Or.inr rfl)))).trans o3
                      have HS7 := Lib.hid hs7
                      have HK7 : Hid (Kept (fun i => ¬ i < w.heap.size) w w7) := HK2.out.trans (hk7.mono (fun i hi => Or.inl (fun hn => hi (Or.inl hn))))
                      clear hs7 hk7 HS2
                      go_wp2_with fail
                      refine (sep_jr (d' := d.arm a.N a.Keep) HS7.out (fun P hP hM => rm_arm hM a.N _ a.Keep (HKP.out _ HK7.out) (fun i hi => hP i (Or.inl (HKB.out i hi))) hNa.2 (by omega))).mono ?_
                      rintro r w9 ⟨rfl, hs9, hk9⟩
                      have HS9 := Lib.hid hs9
                      have HK9 : Hid (Kept (fun i => ¬ i < w.heap.size) w w9) := HK7.out.trans (hk9.mono (fun i hi => Or.inl (fun hn => hi (Or.inl hn))))
                      have HR9 : Hid ((d.arm a.N a.Keep).R ≤ 300 * (k + 1)) := by have := HRd.out; show d.R ≤ _; omega
                      clear hs9 hk9 HS7 HK7
                      obtain ⟨ra, rn, rc, cv, tv, hrj, hll, -⟩ := sep_view HS9.out
                      have HALL := Lib.hid (fun V hV => sep_all HS9.out V hV)
                      have HTV := Lib.hid tv
                      clear tv
                      go_wp2_with fail
                      go_region_held3 (fun w' => w'.cell? ⟨rj, 2, none⟩ = some (.slice ra rn rc))
                        (first | exact (World.cell?_of_block (hka.block rj hrj (fun h => h))).trans cv | go_keep)
                        (first
                          | (go_at_call 27
                             have hka' := hka
                             refine (tsame_eq v10 _ _ _ hta (texts_kept' HTV.out hka) (by omega)).mono ?_
                             rintro r w11 ⟨rfl, n11, rfl⟩)
                          | (go_at_call 28
                             refine (HALL.out _ (by first | exact Kept.refl _ _ | exact (Kept.refl _ _).drew)).mono ?_
                             rintro r w10 ⟨v10, rfl, hta, hkA⟩
                             have hka : Kept (fun _ => False) w9 w10 := by first | exact hkA | exact ((Kept.refl _ w9).drew).trans hkA))
                      have hkf : Kept (fun _ => False) w9 (w10.drewN n11) := hka.drewN n11
                      have H10 : Hid (LB w.heap.size w b rb (k + 1) (.pointer (some ⟨jb, 0, none⟩)) (.int .i64 ee) (.pointer (some ⟨rj, 0, none⟩)) (.int .i64 ee) (w10.drewN n11)) := ⟨⟨_, _, rfl, rfl, HR9.out, Or.inr ⟨jb, rj, _, rfl, rfl, (HS9.out.kept hkf).weak (fun i hi => Or.inl hi)⟩⟩, HK9.out.trans (hkf.mono (fun _ h => h.elim))⟩
                      clear hkf hka hta hkA HALL HTV HS9 HK9 cv
                      go_wp2_with fail
                      go_roundw
                      case rel => exact ⟨k + 1, by omega, by go_num, H10⟩
                      case measure => simp [intOf]; omega
                  · have b3 : (a.Kind == 3) = false := by simpa using q3
                    by_cases q45 : a.Kind = 4 ∨ a.Kind = 5
                    · as_aux_lemma =>
                        have HSD : Hid (Sep (fun i => i < w.heap.size ∨ i = wr.heap.size) W2 (MB b d) (MR rb d)) := HS2.out.closeB.closeR
                        clear HS2
                        rcases q45 with q4 | q5
                        · rw [q4] at o0
                          have HQ := Lib.hid q4
                          clear q4 q3 q2 q1 q0 b0 b1 b2 b3
                          go_wp2_with fail
                          refine (sep_mb (d' := d.crash a.Keep) HSD.out (fun P hP hM => m_crash hM _ a.Keep (HKP.out _ HK2.out) (fun i hi => hP i (Or.inl (HKB.out i hi))) (by omega))).mono ?_
                          rintro r w7 ⟨rfl, hs7, hk7⟩
                          have o3w7 : w7.cell? ⟨wr.heap.size, 3, none⟩ = some (.slice ka a.Keep.length kc) := (World.cell?_of_block (hk7.block wr.heap.size (by omega) (fun hn => hn (Or.inr rfl)))).trans o3
                          have HS7 := Lib.hid hs7
                          have HK7 : Hid (Kept (fun i => ¬ i < w.heap.size) w w7) := HK2.out.trans (hk7.mono (fun i hi => Or.inl (fun hn => hi (Or.inl hn))))
                          clear hs7 hk7 HSD
                          go_wp2_with fail
                          refine (sep_mr (d' := d.crash a.Keep) HS7.out (fun P hP hM => rm_crash hM _ a.Keep (HKP.out _ HK7.out) (fun i hi => hP i (Or.inl (HKB.out i hi))) (by omega))).mono ?_
                          rintro r w8 ⟨rfl, hs8, hk8⟩
                          have HS8 := Lib.hid hs8
                          have HK8 : Hid (Kept (fun i => ¬ i < w.heap.size) w w8) := HK7.out.trans (hk8.mono (fun i hi => Or.inl (fun hn => hi (Or.inl hn))))
                          obtain ⟨d0, hd0⟩ : ∃ d0, d0 = d.crash a.Keep := ⟨_, rfl⟩
                          rw [← hd0] at HS8
                          have HR0 : Hid (d0.R ≤ 300 * k) := by rw [hd0, jcrash_R]; exact HRd.out
                          clear hs8 hk8 HS7 HK7 hd0
                          go_wp2_with fail
                          refine (sep_mb (d' := d0.start) HS8.out (fun P hP hM => m_start hM)).mono ?_
                          rintro r w17 ⟨rfl, hs7, hk7⟩
                          have HS17 := Lib.hid hs7
                          have HK17 : Hid (Kept (fun i => ¬ i < w.heap.size) w w17) := HK8.out.trans (hk7.mono (fun i hi => Or.inl (fun hn => hi (Or.inl hn))))
                          clear hs7 hk7 HS8 HK8
                          go_wp2_with fail
                          refine (sep_mr (d' := d0.start) HS17.out (fun P hP hM => rm_start hM)).mono ?_
                          rintro r w18 ⟨rfl, hs8, hk8⟩
                          obtain ⟨e0, he0⟩ : ∃ e0, e0 = d0.start := ⟨_, rfl⟩
                          rw [← he0] at hs8
                          have HS18 := Lib.hid hs8
                          have HK18 : Hid (Kept (fun i => ¬ i < w.heap.size) w w18) := HK17.out.trans (hk8.mono (fun i hi => Or.inl (fun hn => hi (Or.inl hn))))
                          have HR18 : Hid (e0.R ≤ 300 * k) := by rw [he0]; exact HR0.out
                          clear hs8 hk8 HS17 HK17 he0
                          go_wp2_with fail
                          refine (sep_open HS18.out (HEnv.out _ HK18.out) (fun i hi => Or.inl (by omega))).mono ?_
                          rintro r w19 ⟨hk9, hcs⟩
                          have HK19 : Hid (Kept (fun i => ¬ i < w.heap.size) w w19) := HK18.out.trans (hk9.mono (fun i hi => Or.inl (fun hn => hi (Or.inl hn))))
                          have HR9 : Hid ((e0.jopen 3).1.1.R ≤ 300 * (k + 1)) := by rw [jopen_R]; have := HR18.out; exact (by omega : e0.R ≤ 300 * (k + 1))
                          clear hk9 HS18 HK18
                          rcases hcs with ⟨hx, rfl, hsep⟩ | ⟨jb2, j2, hx, rfl, hsep⟩
                          · as_aux_lemma =>
                              have HSO := Lib.hid hsep
                              have HX := Lib.hid hx
                              clear hsep hx
                              go_wp2_with fail
                              refine (sep_ropen HSO.out).mono ?_
                              rintro r w9 ⟨hk10, ⟨hx2, rfl, hsep2⟩ | ⟨rj2, j3, hx2, rfl, hsep2⟩⟩
                              · have HK9 : Hid (Kept (fun i => ¬ i < w.heap.size) w w9) := HK19.out.trans (hk10.mono (fun i hi => Or.inl (fun hn => hi (Or.inl hn))))
                                obtain ⟨X, hX⟩ : ∃ X, X = e0.jopen 3 := ⟨_, rfl⟩
                                rw [← hX] at hsep2 HR9 ⊢
                                have HS9 := Lib.hid hsep2
                                clear hk10 hsep2 hx2 HSO HX hX HK19
                                go_wp2_with fail
                                go_quiet (fail)
                                have hkf : Kept (fun _ => False) w9 (w9.drewN nq) := (Kept.refl (fun _ => False) w9).drewN nq
                                have H10 : Hid (LB w.heap.size w b rb (k + 1) (.pointer none) (.int .i64 X.1.2) (.pointer none) (.int .i64 X.1.2) (w9.drewN nq)) := ⟨⟨_, _, rfl, rfl, HR9.out, Or.inl ⟨rfl, rfl, (HS9.out.kept hkf).weak (fun i hi => Or.inl hi)⟩⟩, HK9.out.trans (hkf.mono (fun _ h => h.elim))⟩
                                clear hkf HS9 HK9
                                go_wp2_with fail
                                go_roundw
                                case rel => exact ⟨k + 1, by omega, by go_num, H10⟩
                                case measure => simp [intOf]; omega
                              · exact absurd (HX.out.symm.trans hx2) (by simp)
                          · as_aux_lemma =>
                              have HSO := Lib.hid hsep
                              have HX := Lib.hid hx
                              clear hsep hx
                              go_wp2_with fail
                              refine (sep_ropen HSO.out).mono ?_
                              rintro r w9 ⟨hk10, ⟨hx2, rfl, hsep2⟩ | ⟨rj2, j3, hx2, rfl, hsep2⟩⟩
                              · exact absurd (HX.out.symm.trans hx2) (by simp)
                              · have HK9 : Hid (Kept (fun i => ¬ i < w.heap.size) w w9) := HK19.out.trans (hk10.mono (fun i hi => Or.inl (fun hn => hi (Or.inl hn))))
                                obtain rfl : j2 = j3 := Option.some.inj (HX.out.symm.trans hx2)
                                have HS9 := Lib.hid hsep2
                                clear hk10 hsep2 hx2 HSO HX HK19
                                obtain ⟨ra, rn, rc, cv, tv, hrj, hll, -⟩ := sep_view HS9.out
                                have HALL := Lib.hid (fun V hV => sep_all HS9.out V hV)
                                have HTV := Lib.hid tv
                                clear tv
                                go_wp2_with fail
                                go_region_held3 (fun w' => w'.cell? ⟨rj2, 2, none⟩ = some (.slice ra rn rc))
                                  (first | exact (World.cell?_of_block (hka.block rj2 hrj (fun h => h))).trans cv | go_keep)
                                  (first
                                    | (go_at_call 27
                                       have hka' := hka
                                       refine (tsame_eq v10 _ _ _ hta (texts_kept' HTV.out hka) (by omega)).mono ?_
                                       rintro r w11 ⟨rfl, n11, rfl⟩)
                                    | (go_at_call 28
                                       refine (HALL.out _ (by first | exact Kept.refl _ _ | exact (Kept.refl _ _).drew)).mono ?_
                                       rintro r w10 ⟨v10, rfl, hta, hkA⟩
                                       have hka : Kept (fun _ => False) w9 w10 := by first | exact hkA | exact ((Kept.refl _ w9).drew).trans hkA))
                                have hkf : Kept (fun _ => False) w9 (w10.drewN n11) := hka.drewN n11
                                have H10 : Hid (LB w.heap.size w b rb (k + 1) (.pointer (some ⟨jb2, 0, none⟩)) (.int .i64 0) (.pointer (some ⟨rj2, 0, none⟩)) (.int .i64 0) (w10.drewN n11)) := ⟨⟨_, _, rfl, rfl, HR9.out, Or.inr ⟨jb2, rj2, _, rfl, rfl, (HS9.out.kept hkf).weak (fun i hi => Or.inl hi)⟩⟩, HK9.out.trans (hkf.mono (fun _ h => h.elim))⟩
                                clear hkf hka hta hkA HALL HTV HS9 HK9 cv
                                go_wp2_with fail
                                go_roundw
                                case rel => exact ⟨k + 1, by omega, by go_num, H10⟩
                                case measure => simp [intOf]; omega
                        · rw [q5] at o0
                          have HQ := Lib.hid q5
                          clear q5 q3 q2 q1 q0 b0 b1 b2 b3
                          obtain ⟨w8, hw8⟩ : ∃ w8, w8 = W2 := ⟨_, rfl⟩
                          rw [← hw8] at HSD HK2 ⊢
                          have HS8 := Lib.hid HSD.out
                          have HK8 := Lib.hid HK2.out
                          obtain ⟨d0, hd0⟩ : ∃ d0, d0 = d := ⟨_, rfl⟩
                          rw [← hd0] at HS8
                          have HR0 : Hid (d0.R ≤ 300 * k) := by rw [hd0]; exact HRd.out
                          rw [← hw8] at o0 o1 o2 o3
                          clear hw8 HSD hd0
                          go_wp2_with fail
                          refine (sep_mb (d' := d0.start) HS8.out (fun P hP hM => m_start hM)).mono ?_
                          rintro r w17 ⟨rfl, hs7, hk7⟩
                          have HS17 := Lib.hid hs7
                          have HK17 : Hid (Kept (fun i => ¬ i < w.heap.size) w w17) := HK8.out.trans (hk7.mono (fun i hi => Or.inl (fun hn => hi (Or.inl hn))))
                          clear hs7 hk7 HS8 HK8
                          go_wp2_with fail
                          refine (sep_mr (d' := d0.start) HS17.out (fun P hP hM => rm_start hM)).mono ?_
                          rintro r w18 ⟨rfl, hs8, hk8⟩
                          obtain ⟨e0, he0⟩ : ∃ e0, e0 = d0.start := ⟨_, rfl⟩
                          rw [← he0] at hs8
                          have HS18 := Lib.hid hs8
                          have HK18 : Hid (Kept (fun i => ¬ i < w.heap.size) w w18) := HK17.out.trans (hk8.mono (fun i hi => Or.inl (fun hn => hi (Or.inl hn))))
                          have HR18 : Hid (e0.R ≤ 300 * k) := by rw [he0]; exact HR0.out
                          clear hs8 hk8 HS17 HK17 he0
                          go_wp2_with fail
                          refine (sep_open HS18.out (HEnv.out _ HK18.out) (fun i hi => Or.inl (by omega))).mono ?_
                          rintro r w19 ⟨hk9, hcs⟩
                          have HK19 : Hid (Kept (fun i => ¬ i < w.heap.size) w w19) := HK18.out.trans (hk9.mono (fun i hi => Or.inl (fun hn => hi (Or.inl hn))))
                          have HR9 : Hid ((e0.jopen 3).1.1.R ≤ 300 * (k + 1)) := by rw [jopen_R]; have := HR18.out; exact (by omega : e0.R ≤ 300 * (k + 1))
                          clear hk9 HS18 HK18
                          rcases hcs with ⟨hx, rfl, hsep⟩ | ⟨jb2, j2, hx, rfl, hsep⟩
                          · as_aux_lemma =>
                              have HSO := Lib.hid hsep
                              have HX := Lib.hid hx
                              clear hsep hx
                              go_wp2_with fail
                              refine (sep_ropen HSO.out).mono ?_
                              rintro r w9 ⟨hk10, ⟨hx2, rfl, hsep2⟩ | ⟨rj2, j3, hx2, rfl, hsep2⟩⟩
                              · have HK9 : Hid (Kept (fun i => ¬ i < w.heap.size) w w9) := HK19.out.trans (hk10.mono (fun i hi => Or.inl (fun hn => hi (Or.inl hn))))
                                obtain ⟨X, hX⟩ : ∃ X, X = e0.jopen 3 := ⟨_, rfl⟩
                                rw [← hX] at hsep2 HR9 ⊢
                                have HS9 := Lib.hid hsep2
                                clear hk10 hsep2 hx2 HSO HX hX HK19
                                go_wp2_with fail
                                go_quiet (fail)
                                have hkf : Kept (fun _ => False) w9 (w9.drewN nq) := (Kept.refl (fun _ => False) w9).drewN nq
                                have H10 : Hid (LB w.heap.size w b rb (k + 1) (.pointer none) (.int .i64 X.1.2) (.pointer none) (.int .i64 X.1.2) (w9.drewN nq)) := ⟨⟨_, _, rfl, rfl, HR9.out, Or.inl ⟨rfl, rfl, (HS9.out.kept hkf).weak (fun i hi => Or.inl hi)⟩⟩, HK9.out.trans (hkf.mono (fun _ h => h.elim))⟩
                                clear hkf HS9 HK9
                                go_wp2_with fail
                                go_roundw
                                case rel => exact ⟨k + 1, by omega, by go_num, H10⟩
                                case measure => simp [intOf]; omega
                              · exact absurd (HX.out.symm.trans hx2) (by simp)
                          · as_aux_lemma =>
                              have HSO := Lib.hid hsep
                              have HX := Lib.hid hx
                              clear hsep hx
                              go_wp2_with fail
                              refine (sep_ropen HSO.out).mono ?_
                              rintro r w9 ⟨hk10, ⟨hx2, rfl, hsep2⟩ | ⟨rj2, j3, hx2, rfl, hsep2⟩⟩
                              · exact absurd (HX.out.symm.trans hx2) (by simp)
                              · have HK9 : Hid (Kept (fun i => ¬ i < w.heap.size) w w9) := HK19.out.trans (hk10.mono (fun i hi => Or.inl (fun hn => hi (Or.inl hn))))
                                obtain rfl : j2 = j3 := Option.some.inj (HX.out.symm.trans hx2)
                                have HS9 := Lib.hid hsep2
                                clear hk10 hsep2 hx2 HSO HX HK19
                                obtain ⟨ra, rn, rc, cv, tv, hrj, hll, -⟩ := sep_view HS9.out
                                have HALL := Lib.hid (fun V hV => sep_all HS9.out V hV)
                                have HTV := Lib.hid tv
                                clear tv
                                go_wp2_with fail
                                go_region_held3 (fun w' => w'.cell? ⟨rj2, 2, none⟩ = some (.slice ra rn rc))
                                  (first | exact (World.cell?_of_block (hka.block rj2 hrj (fun h => h))).trans cv | go_keep)
                                  (first
                                    | (go_at_call 27
                                       have hka' := hka
                                       refine (tsame_eq v10 _ _ _ hta (texts_kept' HTV.out hka) (by omega)).mono ?_
                                       rintro r w11 ⟨rfl, n11, rfl⟩)
                                    | (go_at_call 28
                                       refine (HALL.out _ (by first | exact Kept.refl _ _ | exact (Kept.refl _ _).drew)).mono ?_
                                       rintro r w10 ⟨v10, rfl, hta, hkA⟩
                                       have hka : Kept (fun _ => False) w9 w10 := by first | exact hkA | exact ((Kept.refl _ w9).drew).trans hkA))
                                have hkf : Kept (fun _ => False) w9 (w10.drewN n11) := hka.drewN n11
                                have H10 : Hid (LB w.heap.size w b rb (k + 1) (.pointer (some ⟨jb2, 0, none⟩)) (.int .i64 0) (.pointer (some ⟨rj2, 0, none⟩)) (.int .i64 0) (w10.drewN n11)) := ⟨⟨_, _, rfl, rfl, HR9.out, Or.inr ⟨jb2, rj2, _, rfl, rfl, (HS9.out.kept hkf).weak (fun i hi => Or.inl hi)⟩⟩, HK9.out.trans (hkf.mono (fun _ h => h.elim))⟩
                                clear hkf hka hta hkA HALL HTV HS9 HK9 cv
                                go_wp2_with fail
                                go_roundw
                                case rel => exact ⟨k + 1, by omega, by go_num, H10⟩
                                case measure => simp [intOf]; omega
                    · as_aux_lemma =>
                        have b4 : (a.Kind == 4) = false := by simpa using (fun h => q45 (Or.inl h) : ¬ a.Kind = 4)
                        have b5 : (a.Kind == 5) = false := by simpa using (fun h => q45 (Or.inr h) : ¬ a.Kind = 5)
                        clear q45
                        obtain ⟨w9, hw9⟩ : ∃ w9, w9 = W2 := ⟨_, rfl⟩
                        rw [← hw9] at HS2 HK2 o0 ⊢
                        clear hw9 o1 o2 o3
                        have HS9 := Lib.hid HS2.out
                        have HK9 := Lib.hid HK2.out
                        have HR9 : Hid (d.R ≤ 300 * (k + 1)) := by have := HRd.out; exact (by omega : d.R ≤ 300 * (k + 1))
                        clear HS2 HK2
                        obtain ⟨ra, rn, rc, cv, tv, hrj, hll, -⟩ := sep_view HS9.out
                        have HALL := Lib.hid (fun V hV => sep_all HS9.out V hV)
                        have HTV := Lib.hid tv
                        clear tv
                        go_wp2_with fail
                        go_region_held3 (fun w' => w'.cell? ⟨rj, 2, none⟩ = some (.slice ra rn rc))
                          (first | exact (World.cell?_of_block (hka.block rj hrj (fun h => h))).trans cv | go_keep)
                          (first
                            | (go_at_call 27
                               have hka' := hka
                               refine (tsame_eq v10 _ _ _ hta (texts_kept' HTV.out hka) (by omega)).mono ?_
                               rintro r w11 ⟨rfl, n11, rfl⟩)
                            | (go_at_call 28
                               refine (HALL.out _ (by first | exact Kept.refl _ _ | exact (Kept.refl _ _).drew)).mono ?_
                               rintro r w10 ⟨v10, rfl, hta, hkA⟩
                               have hka : Kept (fun _ => False) w9 w10 := by first | exact hkA | exact ((Kept.refl _ w9).drew).trans hkA))
                        have hkf : Kept (fun _ => False) w9 (w10.drewN n11) := hka.drewN n11
                        have H10 : Hid (LB w.heap.size w b rb (k + 1) (.pointer (some ⟨jb, 0, none⟩)) (.int .i64 ee) (.pointer (some ⟨rj, 0, none⟩)) (.int .i64 ee) (w10.drewN n11)) := ⟨⟨_, _, rfl, rfl, HR9.out, Or.inr ⟨jb, rj, _, rfl, rfl, (HS9.out.kept hkf).weak (fun i hi => Or.inl hi)⟩⟩, HK9.out.trans (hkf.mono (fun _ h => h.elim))⟩
                        clear hkf hka hta hkA HALL HTV HS9 HK9 cv
                        go_wp2_with fail
                        go_roundw
                        case rel => exact ⟨k + 1, by omega, by go_num, H10⟩
                        case measure => simp [intOf]; omega
      · obtain ⟨d, ee, he1, he2, hR, hst⟩ := ht.out.ex
        have hsd : Sep (fun i => i < w.heap.size) wr (MB b d) (MR rb d) := by
          rcases hst with ⟨_, _, h⟩ | ⟨jb, rj, j, _, _, h⟩
          · exact h
          · exact h.closeB.closeR
        have HSD := Lib.hid hsd
        have HKD := Lib.hid ht.out.kept
        clear hst ht hsd he1 he2 hR
        have d2 : (l.length : Int) ≤ (k : Int) := by omega
        go_wp2_with fail
        refine (sep_mb (d' := d.start) HSD.out (fun P hP hM => m_start hM)).mono ?_
        rintro r w17 ⟨rfl, hs7, hk7⟩
        have HS17 := Lib.hid hs7
        have HK17 := Lib.hid (HKD.out.trans hk7)
        clear hs7 hk7 HSD HKD
        go_wp2_with fail
        refine (sep_mr (d' := d.start) HS17.out (fun P hP hM => rm_start hM)).mono ?_
        rintro r w18 ⟨rfl, hs8, hk8⟩
        obtain ⟨e0, he0⟩ : ∃ e0, e0 = d.start := ⟨_, rfl⟩
        rw [← he0] at hs8
        have HS18 := Lib.hid hs8
        have HK18 := Lib.hid (HK17.out.trans hk8)
        clear hs8 hk8 HS17 HK17 he0
        obtain ⟨n, hn⟩ : ∃ n, n = e0.size 3 := ⟨_, rfl⟩
        obtain ⟨x, e2, hx⟩ : ∃ x e2, e0.read 3 0 (n : Int) = (x, e2) := ⟨_, _, rfl⟩
        obtain ⟨P, hP, hB, back⟩ := HS18.out.base
        have hsz := m_size hB 3
        rw [← hn] at hsz
        have hrd := sep_mb (d' := e0) (r0 := .tuple #[.string (bs x), .int .i64 e2]) HS18.out (fun P hP hM => by have h := m_read hM 3 0 (n : Int) (by decide) (by decide); rw [hx] at h; exact h)
        have HSZ := Lib.hid hsz
        have HRD := Lib.hid hrd
        have HNN := Lib.hid hn
        have HXX := Lib.hid hx
        clear hsz hrd hP hB back hx hn
        go_wp2_with fail
        refine HSZ.out.mono ?_
        rintro r w19 ⟨rfl, rfl⟩
        clear HSZ
        go_wp2_with fail
        refine HRD.out.mono ?_
        rintro r w20 ⟨rfl, hs9, hk9⟩
        have HS20 := Lib.hid hs9
        have HK20 := Lib.hid (HK18.out.trans hk9)
        clear hs9 hk9 HRD HS18 HK18
        have HSZ2 := Lib.hid (sep_mr (d' := e0) (r0 := .int .i64 (n : Int)) HS20.out (fun P hP hM => by have h := rm_size hM 3; rw [← HNN.out] at h; exact h.mono (fun _ _ h => ⟨h.1, h.2.1, h.2.2.mono (fun _ h => h.elim)⟩)))
        clear HS20
        go_wp2_with fail
        refine HSZ2.out.mono ?_
        rintro r w21 ⟨rfl, hs10, hk10⟩
        have HK21 := Lib.hid (HK20.out.trans hk10)
        have HRD2 := Lib.hid (sep_mr (d' := e0) (r0 := .tuple #[.string (bs x), .int .i64 e2]) hs10 (fun P hP hM => by have h := rm_read hM 3 0 (n : Int) (by decide) (by decide); rw [HXX.out] at h; exact h.mono (fun _ _ h => ⟨h.1, h.2.1, h.2.2.mono (fun _ h => h.elim)⟩)))
        clear hs10 hk10 HSZ2 HK20
        go_wp2_with fail
        refine HRD2.out.mono ?_
        rintro r w22 ⟨rfl, hs11, hk11⟩
        have HK22 := Lib.hid (HK21.out.trans hk11)
        clear hs11 hk11 HRD2 HK21
        go_wp2_with fail
        go_ret
        exact ⟨by simp, HK22.out.below (Nat.le_refl _) (fun k hk => Nat.not_lt.1 hk)⟩

end Go.Proofs.YtanecondopbfhaaGreatDoor
