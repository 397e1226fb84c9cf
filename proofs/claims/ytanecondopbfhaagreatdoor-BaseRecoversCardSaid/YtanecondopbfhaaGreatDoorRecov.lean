/- BaseRecovers: the walk. -/
import Derived.Test.YtanecondopbfhaaGreatDoorRecF
import Derived.Deep.MidRow
namespace Go.Proofs.YtanecondopbfhaaGreatDoor
open Go.RowKit
open Cod (Env Val ValIs ValAt IsVals encV Few isInt)

theorem own_some {i b n c : Nat} (h : some i = Value.ownBlock (.slice (some ⟨b, 0, none⟩) n c)) : i = b := Option.some.inj h

theorem bel_drewN {B : Nat} {a w : World} (h : Below B a w) (n : Nat) : Below B a (w.drewN n) := ⟨h.os, h.tape, h.output, h.size, h.block⟩

theorem vshape {w : World} {B n : Nat} {v : Value} {xs : List Value} (h : w.ownsRow B 65 5 v n xs) : ∃ a c, v = .slice a n c := by
  obtain ⟨_, ⟨rfl, h0⟩ | ⟨g, cap, cur, rfl, _⟩⟩ := h
  · exact ⟨none, 0, by rw [h0]⟩
  · exact ⟨_, _, rfl⟩

theorem kept_two {w7 w8 w9 : World} {o : Obj} {v3 : Value} {n : Nat} {xs : List Value} (hg3 : (w7.alloc o).grownBy w8 (Value.ownBlock (.slice (some ⟨w7.heap.size, 0, none⟩) 0 0))) (hr3 : w8.ownsRow w7.heap.size 65 5 v3 n xs) (hg4 : w8.grownBy w9 v3.ownBlock) : Kept (fun _ => False) w7 w9 := by
  have h1 : Kept (fun _ => False) w7 (w7.alloc o) := (Kept.refl _ w7).alloc o
  have h2 : Kept (fun _ => False) w7 w8 := h1.andThen (T := fun i => some i = Value.ownBlock (.slice (some ⟨w7.heap.size, 0, none⟩) 0 0)) ⟨hg3.os, hg3.tape, hg3.output, hg3.size, fun k hk hn => hg3.block k hk hn⟩ (fun i hi => Or.inr (by have := own_some hi; omega))
  exact h2.andThen (T := fun i => some i = v3.ownBlock) ⟨hg4.os, hg4.tape, hg4.output, hg4.size, fun k hk hn => hg4.block k hk hn⟩ (fun i hi => Or.inr (row_lt hr3 i hi).1)

/-- Behind the crash: the records A0, and i of the further ones; the row v holds the values AL. -/
structure L2 (w : World) (b jb : Nat) (v : Value) (A0 : List (List UInt8)) (AL more : List Val) (xs : List Value) (i : Nat) (W : World) : Prop where
  ex : ∃ kk c, RV w.heap.size w b jb v AL.length xs (A0 ++ (more.map encV).take i) kk c W ∧ c ≤ 30 + i

structure Al (w : World) (A0 : List (List UInt8)) (AL more : List Val) (xs : List Value) : Prop where
  rows : RowVals w AL xs
  enc : AL.map encV = A0 ++ more.map encV
  len : A0.length ≤ 20
  few : ∀ v ∈ AL, Few2 v ∧ isInt v.n ∧ ∀ x ∈ v.l, isInt x
  max : AL.length ≤ 40

theorem RV.range {N b jb n k c : Nat} {w W : World} {g cap : Nat} {xs : List Value} {A : List (List UInt8)} (h : RV N w b jb (.slice (some ⟨g, 0, none⟩) n cap) n xs A k c W) : ∀ j u, xs[j]? = some u → W.cell? ⟨g, j, none⟩ = some u := by
  obtain ⟨⟨P, d, h1, h2, h3, h4⟩, hk⟩ := h
  intro j u hu
  have := h3.cells (g := g) rfl j u hu
  rwa [Go.WideShapes.add_plain, Nat.zero_add] at this

theorem RV.form {N b jb n k c : Nat} {w W : World} {a : Option Addr} {cap : Nat} {xs : List Value} {A : List (List UInt8)} (h : RV N w b jb (.slice a n cap) n xs A k c W) (hn : 0 < n) : ∃ g, a = some ⟨g, 0, none⟩ := by
  obtain ⟨⟨P, d, h1, h2, h3, h4⟩, hk⟩ := h
  obtain ⟨_, ⟨e, h0⟩ | ⟨g, cap, cur, e, _⟩⟩ := h3
  · omega
  · simp only [Value.slice.injEq] at e
    exact ⟨g, e.1⟩

/-- Ahead of a round of the first loop. -/
def L1 (w : World) (b jb : Nat) (l : List Val) (n0 k : Nat) (W : World) : Prop := ∃ kk, RV w.heap.size w b jb (.slice none 0 0) 0 [] ((l.map encV).take k) kk k W ∧ (n0 < k → n0 ≤ kk)

theorem enc_take {l : List Val} {k : Nat} {v : Val} (h : l[k]? = some v) : (l.map encV).take k ++ [encV v] = (l.map encV).take (k + 1) := by
  rw [List.take_add_one, List.getElem?_map, h]; rfl

set_option maxHeartbeats 8000000 in
set_option maxRecDepth 100000 in
theorem recovers_any {v z u : Value} {l more : List Val} {sy : Nat} {keep : List Int} {w : World} (hv : IsVals v l w) (hvc : ∀ a n c, v = .slice a n c → n ≤ c) (hu : IsVals u more w) (hl : l.length ≤ 9223372036854775807) (hml : more.length ≤ 9223372036854775807)
    (hfl : ∀ v ∈ l, v.l.length ≤ 9223372036854775807 ∧ v.t.length ≤ 9223372036854775807 ∧ (bs v.s).size ≤ 9223372036854775807) (hfm : ∀ v ∈ more, v.l.length ≤ 9223372036854775807 ∧ v.t.length ≤ 9223372036854775807 ∧ (bs v.s).size ≤ 9223372036854775807)
    (hil : ∀ v ∈ l, isInt v.n ∧ ∀ x ∈ v.l, isInt x) (him : ∀ v ∈ more, isInt v.n ∧ ∀ x ∈ v.l, isInt x) (hs : sy ≤ 255) (hz : KeepAt w z keep) (hzb : ∀ i, inBlock z i → i < w.heap.size) (hzl : keep.length ≤ 9223372036854775807) (hE : Env w) :
    Calls Tryz.prog 6 #[v, .int .u8 (sy : Int), z, u] w fun e w' => e = .returned (.bool true) ∧ Below w.heap.size w w' := by
  obtain ⟨va, vc, rfl⟩ := hv.len
  obtain ⟨ua, uc, rfl⟩ := hu.len
  obtain ⟨za, zc, rfl⟩ := keep_shape hz
  have hvc := hvc _ _ _ rfl
  have hlo := hE.lo
  have HV := Lib.hid hv
  have HU := Lib.hid hu
  have HZ := Lib.hid hz
  have HZB := Lib.hid hzb
  have HFL := Lib.hid hfl
  have HFM := Lib.hid hfm
  have HIL := Lib.hid hil
  have HIM := Lib.hid him
  clear hv hu hz hzb hfl hfm hil him
  go_enter Tryz.func6, Tryz.ntmps6
  go_wp2_with fail
  refine (jsane_calls w hE).mono ?_
  rintro e w1 ⟨rfl, k1⟩
  have HK1 := Lib.hid k1
  have c1 := Lib.hid (fewv_calls _ l w1 (HV.out.next k1) hl HFL.out)
  clear k1
  go_wp2_with fail
  refine Calls.mono c1.out ?_
  rintro e w2 ⟨t1, rfl, ht1, n1, rfl⟩
  have HT1 := Lib.hid ht1
  clear ht1 c1
  cases t1 with
  | false =>
    go_wp2_with fail
    go_ret
    exact ⟨rfl, bel_drewN HK1.out _⟩
  | true =>
    have HF1 := Lib.hid (HT1.out rfl)
    have hl20 := HF1.out.1
    clear HT1
    have c2 := Lib.hid (fewv_calls _ more (w1.drewN n1) (HU.out.next (bel_drewN HK1.out n1)) hml HFM.out)
    go_wp2_with fail
    refine Calls.mono c2.out ?_
    rintro e w2 ⟨t2, rfl, ht2, n2, rfl⟩
    have HT2 := Lib.hid ht2
    clear ht2 c2
    cases t2 with
    | false =>
      go_wp2_with fail
      go_ret
      exact ⟨rfl, bel_drewN HK1.out _⟩
    | true =>
      have HF2 := Lib.hid (HT2.out rfl)
      have hm20 := HF2.out.1
      clear HT2
      by_cases hzz : 50 < keep.length
      · go_wp2_with fail
        go_ret
        exact ⟨rfl, bel_drewN HK1.out _⟩
      · have HK2 := Lib.hid (bel_drewN (bel_drewN HK1.out n1) n2)
        clear HK1
        obtain ⟨W1, hW1⟩ : ∃ W1, W1 = (w1.drewN n1).drewN n2 := ⟨_, rfl⟩
        rw [← hW1] at HK2 ⊢
        clear hW1
        have hE1 := env_kept hE (kept_below HK2.out rfl) (fun _ _ h => h)
        have hzK := HK2.out.size
        obtain ⟨n0, hn0⟩ : ∃ n0, n0 = sy % (l.length + 1) := ⟨_, rfl⟩
        have hnl : n0 ≤ l.length := by rw [hn0]; exact Nat.le_of_lt_succ (Nat.mod_lt _ (by omega))
        have e1 : (sy : Int) % ((l.length : Int) + 1) = (n0 : Int) := by rw [hn0]; push_cast; rfl
        have e2 : (sy : Int).tmod ((l.length : Int) + 1) = (n0 : Int) := by rw [Int.tmod_eq_emod_of_nonneg (by omega)]; exact e1
        clear hn0
        go_wp2_with fail
        refine (m_new W1).mono ?_
        rintro e w3 ⟨b, rfl, hm3, hk3⟩
        have hE3 := env_kept hE1 hk3 (fun _ _ h => h)
        have HK3 := Lib.hid (((kept_below HK2.out rfl).mono (T := fun i => ¬ i < w.heap.size) (fun _ h => h.elim)).trans (hk3.mono (fun _ h => h.elim)))
        have hM3 : Mine (fun i => i < w.heap.size) w3 b Dk.new := hm3.weak (fun i hi => Nat.lt_of_lt_of_le hi hzK)
        obtain ⟨d4, o4, hc4, ht4, -, hR4, hst4⟩ := calm_open hM3.ok new_calm (f := 2) (by decide)
        have c4 := n_open hM3 hE3 (fun i hi => by omega) 2 (by decide)
        rw [o4] at c4
        rw [new_text, recs_nil] at c4 ht4 hst4
        have C4 := Lib.hid c4
        clear c4 o4 hm3 hk3 hM3
        go_wp2_with fail
        refine C4.out.mono ?_
        rintro e w4 ⟨jb, rfl, h4, k4⟩
        have h4 : Jn (fun i => i < w.heap.size) w4 b d4 jb ⟨2, [], false⟩ := h4
        have HT0 : Hid (L1 w b jb l n0 0 w4) := ⟨0, ⟨⟨_, d4, fun i hi => hi, fun i hi => by simp [Value.ownBlock] at hi, ⟨rfl, .inl ⟨rfl, rfl⟩⟩, h4, ⟨good_all h4.ok hst4, by simp, rfl, fun _ => ⟨hc4.down, ht4, rfl⟩⟩, hc4, by rw [hR4]; decide⟩, HK3.out.trans k4⟩, fun h => absurd h (by omega)⟩
        clear h4 k4 hc4 ht4 hR4 hst4 C4 HK3 hE3
        go_wp2_with fail
        go_loopw [14] (fun i wr => ∃ k : Nat, k ≤ l.length + 1 ∧ i = .int .i64 k ∧ Hid (L1 w b jb l n0 k wr)) (fun i _ => 27 - (intOf i).toNat)
        case atStart => exact ⟨0, by omega, rfl, HT0⟩
        case round =>
          clear HT0
          obtain ⟨k, hk, rfl, ht⟩ := hrel
          obtain ⟨kk, hrv, hkk⟩ := ht.out
          have HR := Lib.hid hrv
          have HKK := Lib.hid hkk
          clear ht hrv hkk
          by_cases hle : k ≤ l.length
          · have d1 : (k : Int) ≤ (l.length : Int) := by omega
            have hEnv : ∀ W, Kept (fun i => ¬ i < w.heap.size) w W → Env W := fun W h => env_kept hE h (fun i hi hn => hn (by omega))
            have HEnv := Lib.hid hEnv
            clear hEnv
            by_cases hlt : k < l.length
            · have d2 : (k : Int) < (l.length : Int) := by omega
              obtain ⟨bk, off, rfl, hbk, x0, x1, x2, x3, x4, hval, c0, c1, c2, c3, c4⟩ := HV.out.at k hlt
              have HRG : Hid (∀ W, Kept (fun i => ¬ i < w.heap.size) w W → W.rangeAt bk (off + k * 5) [x0, x1, x2, x3, x4]) := fun W hW => by
                have e : ∀ o, W.cell? ⟨bk, o, none⟩ = w.cell? ⟨bk, o, none⟩ := fun o => World.cell?_of_block (hW.block bk hbk (fun h => h hbk))
                intro j y hj
                match j, hj with
                | 0, hj => simp at hj; subst hj; exact (e _).trans c0
                | 1, hj => simp at hj; subst hj; exact (e _).trans c1
                | 2, hj => simp at hj; subst hj; exact (e _).trans c2
                | 3, hj => simp at hj; subst hj; exact (e _).trans c3
                | 4, hj => simp at hj; subst hj; exact (e _).trans c4
                | j + 5, hj => simp at hj
              have HVI := Lib.hid hval
              have HFW := Lib.hid (HF1.out.2 l[k] (List.getElem_mem _))
              have HIN := Lib.hid (HIL.out l[k] (List.getElem_mem _))
              have HEN := Lib.hid (encV_cost l[k] HFW.out.1 HFW.out.2 HIN.out.1 HIN.out.2)
              have HTK := Lib.hid (enc_take (List.getElem?_eq_getElem hlt))
              clear hval c0 c1 c2 c3 c4
              by_cases hkn : k = n0
              focus
                subst hkn
                go_wp2_with fail
                refine (rs_sync HR.out).mono ?_
                rintro r w5 ⟨rfl, h5⟩
                have H5 := Lib.hid h5
                have HK5 := Lib.hid (fun _ : k < k + 1 => (show k ≤ ((l.map encV).take k).length by rw [List.length_take, List.length_map]; omega))
                clear h5 HR HKK
              rotate_left
              focus
                have d3 : ¬ (k : Int) = (n0 : Int) := by omega
                have H5 := Lib.hid HR.out
                have HK5 := Lib.hid (fun h : n0 < k + 1 => HKK.out (by omega))
                obtain ⟨w5, hw5⟩ : ∃ w5, w5 = wr := ⟨_, rfl⟩
                subst hw5
                clear HR HKK
              rotate_left
              all_goals
                go_wp2_with (refine wpList_load_mid rfl 65 _ rfl bk (off + k * 5) rfl [x0, x1, x2, x3, x4] _ (HRG.out _ H5.out.kept) Tryz.underlying65 rfl (by kernel_rfl) ?_)
                refine (Cod.write_calls l[k] x0 x1 x2 x3 x4 w5 (HEnv.out _ H5.out.kept) (HVI.out.next (H5.out.kept.below (Nat.le_refl _) (fun k hk => Nat.not_lt.1 hk))) HFW.out.1).mono ?_
                rintro r w6 ⟨rfl, hb6⟩
                have H6 := Lib.hid (H5.out.next (kept_below hb6 rfl))
                clear hb6 H5
                go_wp2_with fail
                refine (rs_append H6.out hE hlo (encV l[k]) HEN.out (by rw [List.length_take]; omega) (by omega)).mono ?_
                rintro r w7 ⟨rfl, h7⟩
                rw [HTK.out] at h7
                have H7 : Hid (L1 w b jb l _ (k + 1) w7) := ⟨_, h7, HK5.out⟩
                clear h7 H6 HK5
                go_wp2_with fail
                go_roundw
                case rel => exact ⟨k + 1, by omega, by go_num, H7⟩
                case measure => simp [intOf]; omega
            · obtain rfl : k = l.length := by omega
              have htk : (l.map encV).take (l.length + 1) = (l.map encV).take l.length := by rw [List.take_of_length_le (by simp), List.take_of_length_le (by simp)]
              have HTK := Lib.hid htk
              clear htk
              by_cases hkn : l.length = n0
              focus
                subst hkn
                go_wp2_with fail
                refine (rs_sync HR.out).mono ?_
                rintro r w5 ⟨rfl, h5⟩
                have H5 : Hid (L1 w b jb l l.length (l.length + 1) w5) := ⟨_, by rw [HTK.out]; exact h5.later (Nat.le_succ _), fun _ => (show l.length ≤ ((l.map encV).take l.length).length by rw [List.length_take, List.length_map]; omega)⟩
                clear h5 HR HKK
              rotate_left
              focus
                have d3 : ¬ (l.length : Int) = (n0 : Int) := by omega
                have H5 : Hid (L1 w b jb l n0 (l.length + 1) wr) := ⟨_, by rw [HTK.out]; exact HR.out.later (Nat.le_succ _), fun h => HKK.out (by omega)⟩
                clear HR HKK
              rotate_left
              all_goals
                go_wp2_with fail
                go_roundw
                case rel => exact ⟨l.length + 1, by omega, by go_num, H5⟩
                case measure => simp [intOf]; omega
          · obtain rfl : k = l.length + 1 := by omega
            have hall : (l.map encV).take (l.length + 1) = l.map encV := List.take_of_length_le (by simp)
            have hk0 := HKK.out (by omega)
            have hr0 := HR.out
            rw [hall] at hr0
            have HR0 := Lib.hid hr0
            have HZK : Hid (∀ W, Kept (fun i => ¬ i < w.heap.size) w W → KeepAt W (.slice za keep.length zc) keep) := fun W hW => HZ.out.kept hW (fun i hi hn => hn (HZB.out i hi))
            clear hr0 HR HKK hall
            go_wp2_with fail
            refine (rs_crash HR0.out _ keep (HZK.out _ HR0.out.kept) HZB.out (by omega)).mono ?_
            rintro r w5 ⟨rfl, h5⟩
            have H5 := Lib.hid h5
            clear h5 HR0
            go_wp2_with fail
            refine (rd_start H5.out).mono ?_
            rintro r w6 ⟨rfl, h6⟩
            have H6 := Lib.hid h6
            clear h6 H5
            go_wp2_with fail
            refine (rd_open H6.out hE hlo).mono ?_
            rintro r w7 ⟨jb2, m, rfl, hm1, hm2, h7⟩
            rw [List.length_map] at hm2
            have H7 := Lib.hid h7
            clear h7 H6
            go_wp2_with fail
            refine (rs_len H7.out).mono ?_
            rintro r w8 ⟨rfl, rfl⟩
            have hlm : ((l.map encV).take m).length = m := by rw [List.length_take, List.length_map]; omega
            rw [hlm]
            have HLM := Lib.hid hlm
            clear hlm
            have d4 : (n0 : Int) ≤ (m : Int) := by omega
            have d5 : (m : Int) ≤ (l.length : Int) := by omega
            have d6 : (m : Int) ≤ (vc : Int) := by omega
            obtain ⟨xs, hxs, hsrc⟩ := vsrc HV.out
            obtain ⟨ys, hys, hsrc2⟩ := vsrc HU.out
            have hxl := rv_len hxs
            have hyl := rv_len hys
            have hx1 := rv_one (rv_take m hxs)
            have hy1 := rv_one (rv_take more.length hys)
            have hb7 : Below w.heap.size w (w7.alloc (.cells #[] 65)) := (H7.out.kept.alloc _).below (Nat.le_refl _) (fun k hk => Nat.not_lt.1 hk)
            have hz7 := H7.out.kept.size
            have HX := Lib.hid hxs
            have HY := Lib.hid hys
            have HS1 := Lib.hid hsrc
            have HS2 := Lib.hid hsrc2
            have HX1 := Lib.hid hx1
            have HY1 := Lib.hid hy1
            have HB7 := Lib.hid hb7
            clear hxs hys hsrc hsrc2 hx1 hy1 hb7
            cases va with
            | none =>
              have hl0 : l = [] := by
                rcases HV.out with ⟨_, h⟩ | ⟨_, _, _, e, _⟩
                · exact h
                · simp at e
              subst hl0
              obtain rfl : m = 0 := by simpa using hm2
              go_wp2_with (first
                | (have hr3' := hr3
                   refine wpList_vals (by kernel_rfl) _ _ (by rfl) (by rfl) (B := w7.heap.size) (n := 0 + 0) (m := more.length) (xs := [] ++ xs.take (0 * 5)) (ys := ys.take (more.length * 5)) (by rfl) (by rfl) hr3 (HS2.out _ more.length _ HB8.out (Nat.le_refl _)) (by rw [List.length_take]; omega) HY1.out (by omega) (by have := hg3.size; simp at this; omega) ?_
                   intro v4 w9 hr4 hg4 ho4
                   obtain ⟨a4, c4, rfl⟩ := vshape hr4)
                | (refine wpList_vals (by kernel_rfl) _ _ (by rfl) (by rfl) (B := w7.heap.size) (n := 0) (m := 0) (xs := []) (ys := xs.take (0 * 5)) (by rfl) (by rfl) (vrow_none (by rfl)) (HS1.out _ 0 _ HB7.out hm2) (by rw [List.length_take]; omega) HX1.out (by omega) (by simp) ?_
                   intro v3 w8 hr3 hg3 ho3
                   have HB8 := Lib.hid ((HB7.out.grown hg3 (by simp; omega) (fun k hk => by have := own_some hk.symm; omega)))))
              have hal : Al w ((([] : List Val).map encV).take 0) (more) more (([] ++ xs.take (0 * 5)) ++ ys.take (more.length * 5)) := ⟨by have := rv_app (rv_take 0 HX.out) (rv_take more.length HY.out); rw [List.take_length] at this; exact this, by simp, by rw [List.length_take, List.length_map]; omega, fun v hv => by
                rcases List.mem_append.1 (show v ∈ ([] : List Val).take 0 ++ more from hv) with h | h
                · exact ⟨HF1.out.2 v (List.mem_of_mem_take h), HIL.out v (List.mem_of_mem_take h)⟩
                · exact ⟨HF2.out.2 v h, HIM.out v h⟩, by first | omega | (simp <;> omega)⟩
              have hnA : 0 + 0 + more.length = (more).length := by simp <;> omega
              have h9 := H7.out.row (kept_two hg3 hr3 hg4) hr4 (Nat.le_refl _)
              have hL : L2 w b jb2 (.slice a4 (more).length c4) ((([] : List Val).map encV).take 0) (more) more (([] ++ xs.take (0 * 5)) ++ ys.take (more.length * 5)) 0 w9 := ⟨_, _, by rw [hnA] at h9; rw [List.take_zero, List.append_nil]; exact h9, by first | omega | (simp <;> omega)⟩
              obtain ⟨A0, hA0⟩ : ∃ A0, A0 = (([] : List Val).map encV).take 0 := ⟨_, rfl⟩
              rw [← hA0] at hL hal
              obtain ⟨xsA, hxA⟩ : ∃ xsA, xsA = ([] ++ xs.take (0 * 5)) ++ ys.take (more.length * 5) := ⟨_, rfl⟩
              rw [← hxA] at hL hal
              have HL := Lib.hid hL
              have HAL := Lib.hid hal
              have hAmax := hal.max
              clear hL hal hnA hA0 hxA h9 hr4 hg4 ho4 hr3 hg3 ho3 HB8 HX HY HS1 HS2 HX1 HY1 HB7 H7
              have hEnv : ∀ W, Kept (fun i => ¬ i < w.heap.size) w W → Env W := fun W h => env_kept hE h (fun i hi hn => hn (by omega))
              have HEnv := Lib.hid hEnv
              clear hEnv
              go_loopw [17] (fun i wr => ∃ k : Nat, k ≤ more.length ∧ i = .int .i64 k ∧ Hid (L2 w b jb2 (.slice a4 more.length c4) A0 more more xsA k wr)) (fun i _ => 27 - (intOf i).toNat)
              case atStart => exact ⟨0, by omega, rfl, HL⟩
              case round =>
                clear HL
                obtain ⟨k, hk, rfl, ht⟩ := hrel
                obtain ⟨kk, c, hrv, hc⟩ := ht.out
                have HR := Lib.hid hrv
                clear ht hrv
                by_cases hlt : k < more.length
                · have d2 : (k : Int) < (more.length : Int) := by omega
                  obtain ⟨bk, off, rfl, hbk, x0, x1, x2, x3, x4, hval, c0, c1, c2, c3, c4'⟩ := HU.out.at k hlt
                  have HRG : Hid (∀ W, Kept (fun i => ¬ i < w.heap.size) w W → W.rangeAt bk (off + k * 5) [x0, x1, x2, x3, x4]) := fun W hW => by
                    have e : ∀ o, W.cell? ⟨bk, o, none⟩ = w.cell? ⟨bk, o, none⟩ := fun o => World.cell?_of_block (hW.block bk hbk (fun h => h hbk))
                    intro j y hj
                    match j, hj with
                    | 0, hj => simp at hj; subst hj; exact (e _).trans c0
                    | 1, hj => simp at hj; subst hj; exact (e _).trans c1
                    | 2, hj => simp at hj; subst hj; exact (e _).trans c2
                    | 3, hj => simp at hj; subst hj; exact (e _).trans c3
                    | 4, hj => simp at hj; subst hj; exact (e _).trans c4'
                    | j + 5, hj => simp at hj
                  have HVI := Lib.hid hval
                  have HFW := Lib.hid (HF2.out.2 more[k] (List.getElem_mem _))
                  have HIN := Lib.hid (HIM.out more[k] (List.getElem_mem _))
                  have HEN := Lib.hid (encV_cost more[k] HFW.out.1 HFW.out.2 HIN.out.1 HIN.out.2)
                  have HTK := Lib.hid (enc_take (List.getElem?_eq_getElem hlt))
                  have hA20 := HAL.out.len
                  clear hval c0 c1 c2 c3 c4'
                  go_wp2_with (refine wpList_load_mid rfl 65 _ rfl bk (off + k * 5) rfl [x0, x1, x2, x3, x4] _ (HRG.out _ HR.out.kept) Tryz.underlying65 rfl (by kernel_rfl) ?_)
                  refine (Cod.write_calls more[k] x0 x1 x2 x3 x4 wr (HEnv.out _ HR.out.kept) (HVI.out.next (HR.out.kept.below (Nat.le_refl _) (fun k hk => Nat.not_lt.1 hk))) HFW.out.1).mono ?_
                  rintro r w6 ⟨rfl, hb6⟩
                  have H6 := Lib.hid (HR.out.next (kept_below hb6 rfl))
                  clear hb6 HR
                  go_wp2_with fail
                  refine (rs_append H6.out hE hlo (encV more[k]) HEN.out (by rw [List.length_append, List.length_take]; omega) (by omega)).mono ?_
                  rintro r w7' ⟨rfl, h7⟩
                  rw [List.append_assoc, HTK.out] at h7
                  have H7 : Hid (L2 w b jb2 (.slice a4 more.length c4) A0 more more xsA (k + 1) w7') := ⟨_, _, h7, by omega⟩
                  clear h7 H6
                  go_wp2_with fail
                  go_roundw
                  case rel => exact ⟨k + 1, by omega, by go_num, H7⟩
                  case measure => simp [intOf]; omega
                · obtain rfl : k = more.length := by omega
                  have hr0 := HR.out
                  rw [show (more.map encV).take more.length = more.map encV from List.take_of_length_le (by simp), ← HAL.out.enc] at hr0
                  have HR0 := Lib.hid hr0
                  clear hr0 HR
                  go_wp2_with fail
                  refine (rs_sync HR0.out).mono ?_
                  rintro r w5 ⟨rfl, h5⟩
                  have H5 := Lib.hid h5
                  clear h5 HR0
                  go_wp2_with fail
                  refine (rs_crash H5.out (.slice none 0 0) [] (.inl ⟨⟨_, _, rfl⟩, rfl⟩) (fun i ⟨o, n, c, e⟩ => by simp at e) (by decide)).mono ?_
                  rintro r w6 ⟨rfl, h6⟩
                  have H6 := Lib.hid h6
                  clear h6 H5
                  go_wp2_with fail
                  refine (rd_start H6.out).mono ?_
                  rintro r w7' ⟨rfl, h7⟩
                  have H7 := Lib.hid h7
                  clear h7 H6
                  go_wp2_with fail
                  refine (rd_open H7.out hE hlo).mono ?_
                  rintro r w8' ⟨jb3, m3, rfl, hm1', hm2', h8⟩
                  rw [List.take_of_length_le hm1'] at h8
                  have H8 := Lib.hid h8
                  clear h8 H7 hm1' hm2'
                  go_wp2_with fail
                  refine (rs_len H8.out).mono ?_
                  rintro r w9' ⟨rfl, rfl⟩
                  rw [List.length_map]
                  go_wp2_with fail
                  go_loopw [18] (fun i wr => ∃ k : Nat, k ≤ more.length ∧ i = .int .i64 k ∧ ∃ kk, Hid (RV w.heap.size w b jb3 (.slice a4 more.length c4) more.length xsA (more.map encV) kk c wr)) (fun i _ => 47 - (intOf i).toNat)
                  case atStart => exact ⟨0, by omega, rfl, _, H8⟩
                  case round =>
                    clear H8
                    obtain ⟨k, hk, rfl, kk3, ht⟩ := hrel
                    by_cases hlt2 : k < more.length
                    · have d3 : (k : Int) < (more.length : Int) := by omega
                      obtain ⟨g, rfl⟩ := ht.out.form (by omega)
                      obtain ⟨y0, y1, y2, y3, y4, hvi, hce⟩ := rv_get k more[k] HAL.out.rows (List.getElem?_eq_getElem hlt2)
                      have hfw := HAL.out.few more[k] (List.getElem_mem _)
                      have hen := encV_cost more[k] hfw.1.1 hfw.1.2 hfw.2.1 hfw.2.2
                      have HG := Lib.hid (rs_get ht.out k (encV more[k]) (by rw [List.getElem?_map, List.getElem?_eq_getElem hlt2]; rfl))
                      have hwz := ht.out.kept.size
                      have HVI := Lib.hid hvi
                      have HCE := Lib.hid hce
                      have HFW := Lib.hid hfw
                      clear hvi hce hfw
                      go_wp2_with fail
                      refine HG.out.mono ?_
                      rintro r w9' ⟨rfl, rfl⟩
                      clear HG
                      go_wp2_with fail
                      refine (Cod.open_reader (encV more[k]) wr).mono ?_
                      rintro r w10 ⟨rfl, hR10, hb10, hz10⟩
                      have HT10 := Lib.hid (ht.out.next (kept_below hb10 rfl))
                      have HRG : Hid (w10.rangeAt g (k * 5) [y0, y1, y2, y3, y4]) := fun j y hj => HT10.out.range _ _ (HCE.out j y hj)
                      have HEQ := Lib.hid (Cod.equal_calls more[k] wr.heap.size [] y0 y1 y2 y3 y4 wr w10 (HEnv.out _ HT10.out.kept) hb10 (Nat.le_refl _) (HVI.out.next (ht.out.kept.below (Nat.le_refl _) (fun k hk => Nat.not_lt.1 hk))) HFW.out.1.1 (by omega) (by rw [List.append_nil]; exact hR10) (by rw [List.append_nil]; omega))
                      have HB10 := Lib.hid hb10
                      clear hR10 hb10 HT10
                      go_wp2_with (refine wpList_load_mid rfl 65 _ rfl g (k * 5) rfl [y0, y1, y2, y3, y4] _ HRG.out Tryz.underlying65 rfl (by kernel_rfl) ?_)
                      refine HEQ.out.mono ?_
                      rintro r w11 ⟨rfl, hR11, hg11⟩
                      have HD : Hid (Calls Tryz.prog 43 #[.pointer (some ⟨wr.heap.size, 0, none⟩)] w11 fun e w' => e = .returned (.bool true) ∧ w11 = w') := Cod.rd_Done wr.heap.size ([], false) w11 hR11
                      have HT11 := Lib.hid (ht.out.next (kept_below (Cod.below_only HB10.out hg11 (Nat.le_refl _)) rfl))
                      clear hR11 hg11 HEQ HRG HB10 ht
                      go_wp2_with fail
                      refine HD.out.mono ?_
                      rintro r w12 ⟨rfl, rfl⟩
                      clear HD
                      go_wp2_with fail
                      go_roundw
                      case rel => exact ⟨k + 1, by omega, by go_num, _, HT11⟩
                      case measure => simp [intOf]; omega
                    · go_wp2_with fail
                      go_ret
                      exact ⟨rfl, ht.out.kept.below (Nat.le_refl _) (fun k hk => Nat.not_lt.1 hk)⟩
            | some ad =>
              go_wp2_with (first
                | (have hr3' := hr3
                   refine wpList_vals (by kernel_rfl) _ _ (by rfl) (by rfl) (B := w7.heap.size) (n := 0 + m) (m := more.length) (xs := [] ++ xs.take (m * 5)) (ys := ys.take (more.length * 5)) (by rfl) (by rfl) hr3 (HS2.out _ more.length _ HB8.out (Nat.le_refl _)) (by rw [List.length_take]; omega) HY1.out (by omega) (by have := hg3.size; simp at this; omega) ?_
                   intro v4 w9 hr4 hg4 ho4
                   obtain ⟨a4, c4, rfl⟩ := vshape hr4)
                | (refine wpList_vals (by kernel_rfl) _ _ (by rfl) (by rfl) (B := w7.heap.size) (n := 0) (m := m) (xs := []) (ys := xs.take (m * 5)) (by rfl) (by rfl) (vrow_none (by rfl)) (HS1.out _ m _ HB7.out hm2) (by rw [List.length_take]; omega) HX1.out (by omega) (by simp) ?_
                   intro v3 w8 hr3 hg3 ho3
                   have HB8 := Lib.hid ((HB7.out.grown hg3 (by simp; omega) (fun k hk => by have := own_some hk.symm; omega)))))
              have hal : Al w ((l.map encV).take m) (l.take m ++ more) more (([] ++ xs.take (m * 5)) ++ ys.take (more.length * 5)) := ⟨by have := rv_app (rv_take m HX.out) (rv_take more.length HY.out); rw [List.take_length] at this; exact this, by simp, by rw [List.length_take, List.length_map]; omega, fun v hv => by
                rcases List.mem_append.1 (show v ∈ l.take m ++ more from hv) with h | h
                · exact ⟨HF1.out.2 v (List.mem_of_mem_take h), HIL.out v (List.mem_of_mem_take h)⟩
                · exact ⟨HF2.out.2 v h, HIM.out v h⟩, by first | omega | (simp <;> omega)⟩
              have hnA : 0 + m + more.length = (l.take m ++ more).length := by simp <;> omega
              have h9 := H7.out.row (kept_two hg3 hr3 hg4) hr4 (Nat.le_refl _)
              have hL : L2 w b jb2 (.slice a4 (l.take m ++ more).length c4) ((l.map encV).take m) (l.take m ++ more) more (([] ++ xs.take (m * 5)) ++ ys.take (more.length * 5)) 0 w9 := ⟨_, _, by rw [hnA] at h9; rw [List.take_zero, List.append_nil]; exact h9, by first | omega | (simp <;> omega)⟩
              rw [show m + more.length = (l.take m ++ more).length by rw [← hnA]; omega]
              obtain ⟨AL, hAL⟩ : ∃ AL, AL = l.take m ++ more := ⟨_, rfl⟩
              rw [← hAL] at hL hal ⊢
              clear hAL
              obtain ⟨A0, hA0⟩ : ∃ A0, A0 = (l.map encV).take m := ⟨_, rfl⟩
              rw [← hA0] at hL hal
              obtain ⟨xsA, hxA⟩ : ∃ xsA, xsA = ([] ++ xs.take (m * 5)) ++ ys.take (more.length * 5) := ⟨_, rfl⟩
              rw [← hxA] at hL hal
              have HL := Lib.hid hL
              have HAL := Lib.hid hal
              have hAmax := hal.max
              clear hL hal hnA hA0 hxA h9 hr4 hg4 ho4 hr3 hg3 ho3 HB8 HX HY HS1 HS2 HX1 HY1 HB7 H7
              have hEnv : ∀ W, Kept (fun i => ¬ i < w.heap.size) w W → Env W := fun W h => env_kept hE h (fun i hi hn => hn (by omega))
              have HEnv := Lib.hid hEnv
              clear hEnv
              go_loopw [17] (fun i wr => ∃ k : Nat, k ≤ more.length ∧ i = .int .i64 k ∧ Hid (L2 w b jb2 (.slice a4 AL.length c4) A0 AL more xsA k wr)) (fun i _ => 27 - (intOf i).toNat)
              case atStart => exact ⟨0, by omega, rfl, HL⟩
              case round =>
                clear HL
                obtain ⟨k, hk, rfl, ht⟩ := hrel
                obtain ⟨kk, c, hrv, hc⟩ := ht.out
                have HR := Lib.hid hrv
                clear ht hrv
                by_cases hlt : k < more.length
                · have d2 : (k : Int) < (more.length : Int) := by omega
                  obtain ⟨bk, off, rfl, hbk, x0, x1, x2, x3, x4, hval, c0, c1, c2, c3, c4'⟩ := HU.out.at k hlt
                  have HRG : Hid (∀ W, Kept (fun i => ¬ i < w.heap.size) w W → W.rangeAt bk (off + k * 5) [x0, x1, x2, x3, x4]) := fun W hW => by
                    have e : ∀ o, W.cell? ⟨bk, o, none⟩ = w.cell? ⟨bk, o, none⟩ := fun o => World.cell?_of_block (hW.block bk hbk (fun h => h hbk))
                    intro j y hj
                    match j, hj with
                    | 0, hj => simp at hj; subst hj; exact (e _).trans c0
                    | 1, hj => simp at hj; subst hj; exact (e _).trans c1
                    | 2, hj => simp at hj; subst hj; exact (e _).trans c2
                    | 3, hj => simp at hj; subst hj; exact (e _).trans c3
                    | 4, hj => simp at hj; subst hj; exact (e _).trans c4'
                    | j + 5, hj => simp at hj
                  have HVI := Lib.hid hval
                  have HFW := Lib.hid (HF2.out.2 more[k] (List.getElem_mem _))
                  have HIN := Lib.hid (HIM.out more[k] (List.getElem_mem _))
                  have HEN := Lib.hid (encV_cost more[k] HFW.out.1 HFW.out.2 HIN.out.1 HIN.out.2)
                  have HTK := Lib.hid (enc_take (List.getElem?_eq_getElem hlt))
                  have hA20 := HAL.out.len
                  clear hval c0 c1 c2 c3 c4'
                  go_wp2_with (refine wpList_load_mid rfl 65 _ rfl bk (off + k * 5) rfl [x0, x1, x2, x3, x4] _ (HRG.out _ HR.out.kept) Tryz.underlying65 rfl (by kernel_rfl) ?_)
                  refine (Cod.write_calls more[k] x0 x1 x2 x3 x4 wr (HEnv.out _ HR.out.kept) (HVI.out.next (HR.out.kept.below (Nat.le_refl _) (fun k hk => Nat.not_lt.1 hk))) HFW.out.1).mono ?_
                  rintro r w6 ⟨rfl, hb6⟩
                  have H6 := Lib.hid (HR.out.next (kept_below hb6 rfl))
                  clear hb6 HR
                  go_wp2_with fail
                  refine (rs_append H6.out hE hlo (encV more[k]) HEN.out (by rw [List.length_append, List.length_take]; omega) (by omega)).mono ?_
                  rintro r w7' ⟨rfl, h7⟩
                  rw [List.append_assoc, HTK.out] at h7
                  have H7 : Hid (L2 w b jb2 (.slice a4 AL.length c4) A0 AL more xsA (k + 1) w7') := ⟨_, _, h7, by omega⟩
                  clear h7 H6
                  go_wp2_with fail
                  go_roundw
                  case rel => exact ⟨k + 1, by omega, by go_num, H7⟩
                  case measure => simp [intOf]; omega
                · obtain rfl : k = more.length := by omega
                  have hr0 := HR.out
                  rw [show (more.map encV).take more.length = more.map encV from List.take_of_length_le (by simp), ← HAL.out.enc] at hr0
                  have HR0 := Lib.hid hr0
                  clear hr0 HR
                  go_wp2_with fail
                  refine (rs_sync HR0.out).mono ?_
                  rintro r w5 ⟨rfl, h5⟩
                  have H5 := Lib.hid h5
                  clear h5 HR0
                  go_wp2_with fail
                  refine (rs_crash H5.out (.slice none 0 0) [] (.inl ⟨⟨_, _, rfl⟩, rfl⟩) (fun i ⟨o, n, c, e⟩ => by simp at e) (by decide)).mono ?_
                  rintro r w6 ⟨rfl, h6⟩
                  have H6 := Lib.hid h6
                  clear h6 H5
                  go_wp2_with fail
                  refine (rd_start H6.out).mono ?_
                  rintro r w7' ⟨rfl, h7⟩
                  have H7 := Lib.hid h7
                  clear h7 H6
                  go_wp2_with fail
                  refine (rd_open H7.out hE hlo).mono ?_
                  rintro r w8' ⟨jb3, m3, rfl, hm1', hm2', h8⟩
                  rw [List.take_of_length_le hm1'] at h8
                  have H8 := Lib.hid h8
                  clear h8 H7 hm1' hm2'
                  go_wp2_with fail
                  refine (rs_len H8.out).mono ?_
                  rintro r w9' ⟨rfl, rfl⟩
                  rw [List.length_map]
                  go_wp2_with fail
                  go_loopw [18] (fun i wr => ∃ k : Nat, k ≤ AL.length ∧ i = .int .i64 k ∧ ∃ kk, Hid (RV w.heap.size w b jb3 (.slice a4 AL.length c4) AL.length xsA (AL.map encV) kk c wr)) (fun i _ => 47 - (intOf i).toNat)
                  case atStart => exact ⟨0, by omega, rfl, _, H8⟩
                  case round =>
                    clear H8
                    obtain ⟨k, hk, rfl, kk3, ht⟩ := hrel
                    by_cases hlt2 : k < AL.length
                    · have d3 : (k : Int) < (AL.length : Int) := by omega
                      obtain ⟨g, rfl⟩ := ht.out.form (by omega)
                      obtain ⟨y0, y1, y2, y3, y4, hvi, hce⟩ := rv_get k AL[k] HAL.out.rows (List.getElem?_eq_getElem hlt2)
                      have hfw := HAL.out.few AL[k] (List.getElem_mem _)
                      have hen := encV_cost AL[k] hfw.1.1 hfw.1.2 hfw.2.1 hfw.2.2
                      have HG := Lib.hid (rs_get ht.out k (encV AL[k]) (by rw [List.getElem?_map, List.getElem?_eq_getElem hlt2]; rfl))
                      have hwz := ht.out.kept.size
                      have HVI := Lib.hid hvi
                      have HCE := Lib.hid hce
                      have HFW := Lib.hid hfw
                      clear hvi hce hfw
                      go_wp2_with fail
                      refine HG.out.mono ?_
                      rintro r w9' ⟨rfl, rfl⟩
                      clear HG
                      go_wp2_with fail
                      refine (Cod.open_reader (encV AL[k]) wr).mono ?_
                      rintro r w10 ⟨rfl, hR10, hb10, hz10⟩
                      have HT10 := Lib.hid (ht.out.next (kept_below hb10 rfl))
                      have HRG : Hid (w10.rangeAt g (k * 5) [y0, y1, y2, y3, y4]) := fun j y hj => HT10.out.range _ _ (HCE.out j y hj)
                      have HEQ := Lib.hid (Cod.equal_calls AL[k] wr.heap.size [] y0 y1 y2 y3 y4 wr w10 (HEnv.out _ HT10.out.kept) hb10 (Nat.le_refl _) (HVI.out.next (ht.out.kept.below (Nat.le_refl _) (fun k hk => Nat.not_lt.1 hk))) HFW.out.1.1 (by omega) (by rw [List.append_nil]; exact hR10) (by rw [List.append_nil]; omega))
                      have HB10 := Lib.hid hb10
                      clear hR10 hb10 HT10
                      go_wp2_with (refine wpList_load_mid rfl 65 _ rfl g (k * 5) rfl [y0, y1, y2, y3, y4] _ HRG.out Tryz.underlying65 rfl (by kernel_rfl) ?_)
                      refine HEQ.out.mono ?_
                      rintro r w11 ⟨rfl, hR11, hg11⟩
                      have HD : Hid (Calls Tryz.prog 43 #[.pointer (some ⟨wr.heap.size, 0, none⟩)] w11 fun e w' => e = .returned (.bool true) ∧ w11 = w') := Cod.rd_Done wr.heap.size ([], false) w11 hR11
                      have HT11 := Lib.hid (ht.out.next (kept_below (Cod.below_only HB10.out hg11 (Nat.le_refl _)) rfl))
                      clear hR11 hg11 HEQ HRG HB10 ht
                      go_wp2_with fail
                      refine HD.out.mono ?_
                      rintro r w12 ⟨rfl, rfl⟩
                      clear HD
                      go_wp2_with fail
                      go_roundw
                      case rel => exact ⟨k + 1, by omega, by go_num, _, HT11⟩
                      case measure => simp [intOf]; omega
                    · go_wp2_with fail
                      go_ret
                      exact ⟨rfl, ht.out.kept.below (Nat.le_refl _) (fun k hk => Nat.not_lt.1 hk)⟩

end Go.Proofs.YtanecondopbfhaaGreatDoor
