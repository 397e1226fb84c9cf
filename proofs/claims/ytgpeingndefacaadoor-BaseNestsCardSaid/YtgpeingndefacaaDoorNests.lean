/- BaseNests' contract: encodings, as the strings of a list whose encoding is itself encoded as a string, are read back level by level. -/
import Derived.Test.YtgpeingndefacaaDoorBack
namespace Go.Proofs.YtgpeingndefacaaDoor
open Go.RowKit

theorem parts_bound (vs : List Val) (h20 : vs.length ≤ 20) (hf : ∀ v ∈ vs, Few v) (hi : ∀ v ∈ vs, isInt v.n ∧ ∀ x ∈ v.l, isInt x) :
    (∀ x ∈ vs.map encV, x.length ≤ 4294967296) ∧ (vs.map encV).length ≤ 20 ∧ (textsS (vs.map encV)).length ≤ 3462000 := by
  have h1 : ∀ x ∈ vs.map encV, x.length ≤ 173000 := by
    intro x hx
    obtain ⟨v, hv, rfl⟩ := List.mem_map.1 hx
    exact encV_len v (hf v hv) (hi v hv).1 (hi v hv).2
  refine ⟨fun x hx => by have := h1 x hx; omega, by simpa using h20, ?_⟩
  have h2 := flat_le textS 173030 (vs.map encV) (fun a ha => by
    have h3 := h1 a ha
    have h4 := itoa_len (a.length : Int) (isInt_len (by omega))
    unfold textS; simp only [List.length_append, List.length_cons, List.length_nil]; omega)
  have h5 := itoa_len ((vs.map encV).length : Int) (isInt_len (by rw [List.length_map]; omega))
  rw [List.length_map] at h2 h5
  unfold textsS
  simp only [List.length_append, List.length_cons, List.length_nil, List.length_map]; omega

set_option maxHeartbeats 4000000 in
set_option maxRecDepth 100000 in
theorem nests_calls (u : Value) (vs : List Val) (w : World) (hE : Env w) (hu : IsVals u vs w) (hm : vs.length ≤ 9223372036854775807)
    (hml : ∀ v ∈ vs, v.l.length ≤ 9223372036854775807 ∧ v.t.length ≤ 9223372036854775807 ∧ (bs v.s).size ≤ 9223372036854775807) (hi : ∀ v ∈ vs, isInt v.n ∧ ∀ x ∈ v.l, isInt x) :
    Calls Tryd.prog 7 #[u] w (Tpost w) := by
  obtain ⟨i0, hi0, hz0, hz1, hz2⟩ := info_parts info9
  obtain ⟨a, c, rfl⟩ := hu.len
  have HF := fun W (hb : Below w.heap.size w W) => fewValues _ vs W (hu.next hb) hm hml
  clear hml
  go_enter Tryd.func7, Tryd.ntmps7
  go_wp2_with fail
  refine (saneCodes w hE).mono ?_
  rintro e w1 ⟨rfl, hb1⟩
  have hE1 := hE.next hb1
  have HF1 := Lib.hid (HF w1 hb1)
  clear HF
  go_wp2_with fail
  refine HF1.out.mono ?_
  rintro e w2 ⟨b, rfl, hbt, n, rfl⟩
  have hb2 : Below w.heap.size w (w1.drewN n) := ⟨hb1.os, hb1.tape, hb1.output, hb1.size, hb1.block⟩
  cases b
  · clear hbt
    go_wp2
    go_ret
    exact ⟨rfl, hb2⟩
  · obtain ⟨h20, hfew⟩ := hbt rfl
    obtain ⟨hp1, hp2, hp3⟩ := parts_bound vs h20 hfew hi
    have hs0 := hb1.size
    have HI := Lib.hid hi
    have HW := Lib.hid hfew
    have HP := Lib.hid hp1
    clear hbt hi hfew hp1
    go_wp2_with fail
    go_loopw [4, 5] (fun v i wr => ∃ (k : Nat) (acc : List (List UInt8)), k ≤ vs.length ∧ i = .int .i64 k ∧ wr.ownsRow w.heap.size 9 1 v acc.length (acc.map fun s => Value.string (bs s)) ∧ Below w.heap.size w wr ∧ Env wr ∧ acc = (vs.take k).map encV) (fun _ i _ => vs.length - (intOf i).toNat)
    case atStart => exact ⟨0, [], Nat.zero_le _, rfl, ⟨rfl, .inl ⟨rfl, rfl⟩⟩, hb2, hE.next hb2, by simp⟩
    case round =>
      obtain ⟨k, acc, hk, rfl, hown, hbr, hEr, hacc⟩ := hrel
      have hlk : acc.length ≤ 20 := by rw [hacc]; simp; omega
      have HA := Lib.hid hacc
      clear hacc
      have hsr := hbr.size
      by_cases hlt : k < vs.length
      · obtain ⟨b1, o1, rfl, hlb, va, vb, vc, vd, ve, hv, h0, h1, h2, h3, h4⟩ := (hu.next hbr).at k hlt
        have hfk := HW.out vs[k] (List.getElem_mem _)
        have e1 : (vs.take (k + 1)).map encV = (vs.take k).map encV ++ [encV vs[k]] := by
          rw [List.take_succ_eq_append_getElem hlt, List.map_append, List.map_cons, List.map_nil]
        have HE := Lib.hid e1
        have HC := Lib.hid (write_calls vs[k] va vb vc vd ve wr hEr hv hfk)
        clear e1 hfk
        go_wp2_with fail
        refine HC.out.mono ?_
        rintro e w3 ⟨rfl, hb3⟩
        have hb03 := hbr.trans (hb3.mono hbr.size)
        have hE3 := hEr.next hb3
        have hown3 := owns_next hown hb3
        have hs3 := hb3.size
        clear hown
        go_wp2_with (at_builtin; refine wpList_append_own _ rfl _ _ 23 rfl w.heap.size 9 i0 (.string ⟨#[]⟩) 1 16 Tryd.underlying23 hi0 hz0 hz1 hz2 rfl (by decide) _ _ _ rfl (hown3.alloc _) ⟨w3.heap.size, 0, none⟩ 1 1 [.string (bs (encV vs[k]))] rfl rfl ?c1 ?c2 ?c3 ?c4 ?c5 ?_)
        case c1 =>
          intro j u hj
          match j, hj with
          | 0, hj => simp at hj; subst hj; simp [Addr.add]
        case c2 => intro u hu; simp at hu; subst hu; rfl
        case c3 => unfold maxLen; omega
        case c4 => omega
        case c5 => simp; omega
        intro v' w4 hown' hgrow _
        have ha := hb03.alloc (by omega) (.cells #[.string (bs (encV vs[k]))] 9)
        have hb04 : Below w.heap.size w w4 := ha.grown hgrow (by simp; omega) (fun j hj => by
          rcases Nat.lt_or_ge j w.heap.size with h' | h'
          · exact absurd hj.symm (owns_block hown3 j h')
          · exact h')
        have hE4 := hE.next hb04
        go_wp2
        go_roundw
        case rel => exact ⟨k + 1, acc ++ [encV vs[k]], by omega, by go_num, by simpa using hown', hb04, hE4, by rw [HE.out, HA.out]⟩
        case measure => simp [intOf]; omega
      · have hk' : k = vs.length := by omega
        have e1 : vs.take k = vs := by rw [hk', List.take_length]
        have hIT := owns_texts hown
        have hac := HA.out
        rw [e1] at hac
        rw [hac] at hIT
        clear e1 hk' hown hac
        obtain ⟨wo, rfl⟩ : ∃ wo : World, wo = wr := ⟨_, rfl⟩
        have HT := Lib.hid (base_Texts u4 (vs.map encV) wo hEr hIT HP.out (by omega) (by omega))
        go_wp2_with fail
        refine HT.out.mono ?_
        rintro e w3 ⟨rfl, hb3⟩
        have hb03 := hbr.trans (hb3.mono hbr.size)
        have hE3 := hEr.next hb3
        have hs3 := hb3.size
        clear hIT HT hb3
        go_wp2_with fail
        refine (base_Text_bs (textsS (vs.map encV)) (by omega) w3 hE3).mono ?_
        rintro e w4 ⟨rfl, hb4⟩
        have hb04 := hb03.trans (hb4.mono hb03.size)
        have hE4 := hE3.next hb4
        have hs4 := hb4.size
        clear hb03 hE3 hb4
        go_wp2_with fail
        refine (open_reader _ w4).mono ?_
        rintro e w5 ⟨rfl, hR5, hb5, hs5⟩
        have hb05 := hb04.trans (hb5.mono hb04.size)
        have hE5 := hE4.next hb5
        have hlo := hE.lo
        have hw4 := hb04.size
        clear hb04 hE4 hb5
        have hT1 : textF (textS (textsS (vs.map encV)), false) = (textsS (vs.map encV), ([], false)) := by
          have := textF_write (textsS (vs.map encV)) [] (by omega)
          rwa [List.append_nil] at this
        have hT2 : textsF (textsS (vs.map encV), false) = (vs.map encV, ([], false)) := by
          have := textsF_write (vs.map encV) [] (fun x hx => by have := HP.out x hx; omega) (by omega)
          rwa [List.append_nil] at this
        have hps : ∃ ps, ps = vs.map encV := ⟨_, rfl⟩
        obtain ⟨ps, hps⟩ := hps
        rw [← hps] at hT1 hT2 hR5 hp2 hp3
        have hpl : ps.length = vs.length := by rw [hps]; simp
        have hne : ((ps.length : Int) != (vs.length : Int)) = false := by rw [hpl]; simp
        have hTl : (textS (textsS ps)).length ≤ 4294967296 := by
          have := itoa_len ((textsS ps).length : Int) (isInt_len (by omega))
          unfold textS; simp only [List.length_append, List.length_cons, List.length_nil]; omega
        have HS := Lib.hid hps
        have HL := Lib.hid hpl
        have HT1 := Lib.hid hT1
        have HT2 := Lib.hid hT2
        rw [← hps]
        clear hps hpl hT1 hT2 HP
        go_wp2_with fail
        refine (rd_text _ (textS (textsS ps), false) w5 hE5 hR5 hTl).mono ?_
        rw [HT1.out]
        rintro e w6 ⟨rfl, hR6, hg6⟩
        have hb06 := below_only hb05 hg6 hw4
        have hE6 := hE5.only hg6 (by omega)
        have hs6 := hg6.size
        have hlt6 := hR6.lt
        clear hb05 hg6 hE5 hR5
        go_wp2_with fail
        refine (open_reader (textsS ps) w6).mono ?_
        rintro e w7 ⟨rfl, hR7, hb7, hs7⟩
        have hb07 := hb06.trans (hb7.mono hb06.size)
        have hE7 := hE6.next hb7
        have hRo := hR6.next hb7
        have hw6 := hb06.size
        clear hb06 hb7 hE6 hR6
        go_wp2_with fail
        refine (rd_Done_end _ w7 hRo).mono ?_
        rintro e w8 ⟨rfl, rfl⟩
        go_wp2_with fail
        refine (rd_Texts _ (textsS ps, false) w7 hE7 hR7 (by simp only; omega) (okRd_fresh _) (by omega)).mono ?_
        rw [HT2.out]
        rintro e w8 ⟨vv, rfl, hI8, hR8, hg8⟩
        have hb08 := below_only hb07 hg8 hw6
        have hE8 := hE7.only hg8 (by omega)
        have hlt8 := hR8.lt
        clear hb07 hg8 hE7 hR7 hRo
        obtain ⟨av, cv, rfl⟩ := hI8.len
        simp only at hI8
        go_wp2_with fail
        refine (rd_Done_end _ w8 hR8).mono ?_
        rintro e w9 ⟨rfl, rfl⟩
        clear hR8
        have hw8 := hb08.size
        go_wp2_with fail
        go_loopw [9] (fun i wq => ∃ k : Nat, k ≤ vs.length ∧ i = .int .i64 k ∧ Below w8.heap.size w8 wq) (fun i _ => vs.length - (intOf i).toNat)
        case atStart => exact ⟨0, Nat.zero_le _, rfl, Below.refl _ _⟩
        case round =>
          obtain ⟨k, hk, rfl, hbq⟩ := hrel
          have hbw := hb08.trans (hbq.mono hw8)
          have hEq := hE8.next hbq
          have hwq := hbq.size
          have hLp := HL.out
          by_cases hlt : k < vs.length
          · obtain ⟨b1, o1, rfl, hlb, va, vb, vc, vd, ve, hv, h0, h1, h2, h3, h4⟩ := (hu.next hb08).at k hlt
            obtain ⟨b2, o2, rfl, hlb2, hc2⟩ := (hI8.next hbq).at k (by omega)
            have hkp : k < ps.length := by omega
            have q5 := hc2 k ps[k] (List.getElem?_eq_getElem hkp)
            have e5 : ps[k] = encV vs[k] := by
              have := HS.out
              subst this
              simp
            rw [e5] at q5
            clear hLp e5 hc2
            have hlI : (k : Int) < (ps.length : Int) := by omega
            go_wp2_with fail
            refine (open_reader (encV vs[k]) wr).mono ?_
            rintro e wx ⟨rfl, hRx, hbx, hsx⟩
            have hbqx := hbq.trans (hbx.mono hwq)
            have hEx := hEq.next hbx
            have hcq : ∀ j, wx.cell? ⟨b1, j, none⟩ = w8.cell? ⟨b1, j, none⟩ := fun j => hbqx.cell (p := ⟨b1, j, none⟩) hlb
            have q0 := (hcq _).trans h0
            have q1 := (hcq _).trans h1
            have q2 := (hcq _).trans h2
            have q3 := (hcq _).trans h3
            have q4 := (hcq _).trans h4
            have hik := HI.out vs[k] (List.getElem_mem _)
            have hel := encV_len vs[k] (HW.out vs[k] (List.getElem_mem _)) hik.1 hik.2
            have hRy : Rb wr.heap.size (encV vs[k] ++ [], false) wx := by rw [List.append_nil]; exact hRx
            have HQ := Lib.hid (equal_calls vs[k] wr.heap.size [] va vb vc vd ve w8 wx hEx hbqx hwq hv (HW.out vs[k] (List.getElem_mem _)) (by omega) hRy (by rw [List.append_nil]; omega))
            clear hcq h0 h1 h2 h3 h4 hRx hbx hik q5
            go_wp2_with fail
            refine HQ.out.mono ?_
            rintro e wy ⟨rfl, hR5, hg5⟩
            have hb5 := below_only hbqx hg5 hwq
            go_wp2_with fail
            refine (rd_Done_end _ wy hR5).mono ?_
            rintro e w9 ⟨rfl, rfl⟩
            go_wp2
            go_roundw
            case rel => exact ⟨k + 1, by omega, by go_num, hb5⟩
            case measure => simp [intOf]; omega
          · clear hLp
            go_wp2
            go_ret
            exact ⟨rfl, hbw⟩
end Go.Proofs.YtgpeingndefacaaDoor
