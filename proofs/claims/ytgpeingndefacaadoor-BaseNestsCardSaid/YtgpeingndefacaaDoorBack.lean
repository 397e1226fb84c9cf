/- BaseBack's contract: a reader of the concatenated encodings returns the values in order, and then exactly the appended string. -/
import Derived.Test.YtgpeingndefacaaDoorVals2
namespace Go.Proofs.YtgpeingndefacaaDoor
open Go.RowKit

theorem all_len (vs : List Val) (h20 : vs.length ≤ 20) (hf : ∀ v ∈ vs, Few v) (hi : ∀ v ∈ vs, isInt v.n ∧ ∀ x ∈ v.l, isInt x) : (vs.flatMap encV).length ≤ 3460000 := by
  have := flat_le encV 173000 vs (fun v hv => encV_len v (hf v hv) (hi v hv).1 (hi v hv).2)
  omega
theorem take_len (vs : List Val) (k : Nat) : ((vs.take k).flatMap encV).length ≤ (vs.flatMap encV).length := by
  conv => rhs; rw [← List.take_append_drop k vs, List.flatMap_append, List.length_append]
  omega
theorem drop_len (vs : List Val) (k : Nat) : ((vs.drop k).flatMap encV).length ≤ (vs.flatMap encV).length := by
  conv => rhs; rw [← List.take_append_drop k vs, List.flatMap_append, List.length_append]
  omega

theorem rd_Done_some (b : Nat) (x : UInt8) (t : List UInt8) (w : World) (h : Rb b (x :: t, false) w) :
    Calls Tryd.prog 37 #[.pointer (some ⟨b, 0, none⟩)] w fun e w' => e = .returned (.bool false) ∧ w = w' := rd_Done b _ w h

set_option maxHeartbeats 4000000 in
set_option maxRecDepth 100000 in
theorem back_calls (u : Value) (vs : List Val) (tl : List UInt8) (w : World) (hE : Env w) (hu : IsVals u vs w) (hm : vs.length ≤ 9223372036854775807) (htl : (bs tl).size ≤ 9223372036854775807)
    (hml : ∀ v ∈ vs, v.l.length ≤ 9223372036854775807 ∧ v.t.length ≤ 9223372036854775807 ∧ (bs v.s).size ≤ 9223372036854775807) (hi : ∀ v ∈ vs, isInt v.n ∧ ∀ x ∈ v.l, isInt x) :
    Calls Tryd.prog 5 #[u, .string (bs tl)] w (Tpost w) := by
  obtain ⟨a, c, rfl⟩ := hu.len
  have HF := fun W (hb : Below w.heap.size w W) => fewValues _ vs W (hu.next hb) hm hml
  clear hml
  go_enter Tryd.func5, Tryd.ntmps5
  go_wp2_with fail
  refine (saneCodes w hE).mono ?_
  rintro e w1 ⟨rfl, hb1⟩
  have hE1 := hE.next hb1
  have HF1 := Lib.hid (HF w1 hb1)
  clear HF
  go_wp2_with fail
  refine HF1.out.mono ?_
  rintro e w2 ⟨b, rfl, hbt, n, rfl⟩
  have hb2 : Below w.heap.size w (w1.drewN n) := ⟨hb1.os, hb1.tape, hb1.output, hb1.size, hb1.block⟩
  cases b
  · clear hbt
    go_wp2
    go_ret
    exact ⟨rfl, hb2⟩
  · obtain ⟨h20, hfew⟩ := hbt rfl
    by_cases ht : (bs tl).size ≤ 400
    · have hall := all_len vs h20 hfew hi
      have hs0 := hb1.size
      have HI := Lib.hid hi
      have HW := Lib.hid hfew
      clear hbt hi hfew
      go_wp2_with fail
      go_loopw [6, 7] (fun s i wr => ∃ k : Nat, k ≤ vs.length ∧ s = .string (bs ((vs.take k).flatMap encV)) ∧ i = .int .i64 k ∧ Below w.heap.size w wr ∧ Env wr) (fun _ i _ => vs.length - (intOf i).toNat)
      case atStart => exact ⟨0, Nat.zero_le _, rfl, rfl, hb2, hE.next hb2⟩
      case round =>
        obtain ⟨k, hk, rfl, rfl, hbr, hEr⟩ := hrel
        have htk := take_len vs k
        by_cases hlt : k < vs.length
        · obtain ⟨b1, o1, rfl, hlb, va, vb, vc, vd, ve, hv, h0, h1, h2, h3, h4⟩ := (hu.next hbr).at k hlt
          have hfk := HW.out vs[k] (List.getElem_mem _)
          have hik := HI.out vs[k] (List.getElem_mem _)
          have hel := encV_len vs[k] hfk hik.1 hik.2
          have hsz : (bs ((vs.take k).flatMap encV)).size ≤ 3460000 := by rw [bs_size]; omega
          have hsz2 : (bs (encV vs[k])).size ≤ 173000 := by rw [bs_size]; exact hel
          have e1 : (vs.take (k + 1)).flatMap encV = (vs.take k).flatMap encV ++ encV vs[k] := by
            rw [List.take_succ_eq_append_getElem hlt, List.flatMap_append, List.flatMap_cons, List.flatMap_nil, List.append_nil]
          have HE := Lib.hid e1
          have HC := Lib.hid (write_calls vs[k] va vb vc vd ve wr hEr hv hfk)
          clear e1 hfk hik
          go_wp2_with fail
          refine HC.out.mono ?_
          rintro e w3 ⟨rfl, hb3⟩
          have hb03 := hbr.trans (hb3.mono hbr.size)
          have hE3 := hEr.next hb3
          go_wp2
          go_roundw
          case rel => exact ⟨k + 1, by omega, by rw [bs_append, HE.out], by go_num, hb03, hE3⟩
          case measure => simp [intOf]; omega
        · have hk' : k = vs.length := by omega
          have e1 : (vs.take k).flatMap encV = vs.flatMap encV := by rw [hk', List.take_length]
          rw [e1]
          have hsz : (bs (vs.flatMap encV)).size ≤ 3460000 := by rw [bs_size]; omega
          clear e1 hk' htk
          go_wp2_with fail
          rw [bs_append]
          refine (open_reader _ wr).mono ?_
          rintro e w4 ⟨rfl, hR4, hb4, hs4⟩
          have hb04 := hbr.trans (hb4.mono hbr.size)
          have hE4 := hEr.next hb4
          have hsr := hbr.size
          have hlo := hEr.lo
          have hgW : w.heap.size ≤ wr.heap.size := hsr
          obtain ⟨wo, rfl⟩ : ∃ wo : World, wo = wr := ⟨_, rfl⟩
          go_wp2_with fail
          go_loopw [9] (fun i wq => ∃ k : Nat, k ≤ vs.length ∧ i = .int .i64 k ∧ Rb wo.heap.size ((vs.drop k).flatMap encV ++ tl, false) wq ∧ Below w.heap.size w wq ∧ Env wq) (fun i _ => vs.length - (intOf i).toNat)
          case atStart => exact ⟨0, Nat.zero_le _, rfl, hR4, hb04, hE4⟩
          case round =>
            obtain ⟨k, hk, rfl, hRq, hbq, hEq⟩ := hrel
            have hdk := drop_len vs k
            by_cases hlt : k < vs.length
            · obtain ⟨b1, o1, rfl, hlb, va, vb, vc, vd, ve, hv, h0, h1, h2, h3, h4⟩ := hu.at k hlt
              have hcq : ∀ j, wr.cell? ⟨b1, j, none⟩ = w.cell? ⟨b1, j, none⟩ := fun j => hbq.cell (p := ⟨b1, j, none⟩) hlb
              have q0 := (hcq _).trans h0
              have q1 := (hcq _).trans h1
              have q2 := (hcq _).trans h2
              have q3 := (hcq _).trans h3
              have q4 := (hcq _).trans h4
              have e1 : (vs.drop k).flatMap encV ++ tl = encV vs[k] ++ ((vs.drop (k + 1)).flatMap encV ++ tl) := by
                rw [List.drop_eq_getElem_cons hlt, List.flatMap_cons, List.append_assoc]
              rw [e1] at hRq
              have htl2 : tl.length ≤ 400 := by rw [← bs_size]; exact ht
              have HQ := Lib.hid (equal_calls vs[k] wo.heap.size ((vs.drop (k + 1)).flatMap encV ++ tl) va vb vc vd ve w wr hEq hbq hgW hv (HW.out vs[k] (List.getElem_mem _)) (by omega) hRq (by rw [← e1, List.length_append]; omega))
              clear e1 hcq h0 h1 h2 h3 h4
              go_wp2_with fail
              refine HQ.out.mono ?_
              rintro e w5 ⟨rfl, hR5, hg5⟩
              have hb5 := below_only hbq hg5 hgW
              have hE5 := hEq.only hg5 (by omega)
              go_wp2
              go_roundw
              case rel => exact ⟨k + 1, by omega, by go_num, hR5, hb5, hE5⟩
              case measure => simp [intOf]; omega
            · have e1 : vs.drop k = [] := List.drop_eq_nil_of_le (by omega)
              rw [e1, List.flatMap_nil, List.nil_append] at hRq
              clear e1 hdk
              have hle : ((tl.length : Int) == (((bs tl).size : Nat) : Int)) = true := by rw [bs_size]; simp
              have hgo : (bs tl).toList == (bs tl).toList := by simp
              cases tl with
              | nil =>
                have hem : (bs []).toList.isEmpty = true := by rw [Lib.toList_data, bs_data]; rfl
                have hz : (((bs []).size : Nat) : Int) = 0 := by rw [bs_size]; rfl
                go_wp2_with fail
                refine (rd_Left_end _ wr hRq).mono ?_
                rintro e w5 ⟨rfl, rfl⟩
                go_wp2_with fail
                refine (rd_Done_end _ wr hRq).mono ?_
                rintro e w5 ⟨rfl, rfl⟩
                go_wp2_with fail
                refine (rd_Rest _ _ wr hRq).mono ?_
                rintro e w5 ⟨rfl, hR5, hg5⟩
                have hb5 := below_only hbq hg5 hgW
                go_wp2_with fail
                refine (rd_Done_end _ w5 hR5).mono ?_
                rintro e w6 ⟨rfl, rfl⟩
                go_wp2_with fail
                refine (rd_Left_end _ w5 hR5).mono ?_
                rintro e w6 ⟨rfl, rfl⟩
                go_wp2
                go_ret
                exact ⟨rfl, hb5⟩
              | cons x t =>
                have hem : (bs (x :: t)).toList.isEmpty = false := by rw [Lib.toList_data, bs_data]; rfl
                go_wp2_with fail
                refine (rd_Left _ _ wr hRq).mono ?_
                rintro e w5 ⟨rfl, rfl⟩
                go_wp2_with fail
                refine (rd_Done_some _ _ _ wr hRq).mono ?_
                rintro e w5 ⟨rfl, rfl⟩
                go_wp2_with fail
                refine (rd_Rest _ _ wr hRq).mono ?_
                rintro e w5 ⟨rfl, hR5, hg5⟩
                have hb5 := below_only hbq hg5 hgW
                go_wp2_with fail
                refine (rd_Done_end _ w5 hR5).mono ?_
                rintro e w6 ⟨rfl, rfl⟩
                go_wp2_with fail
                refine (rd_Left_end _ w5 hR5).mono ?_
                rintro e w6 ⟨rfl, rfl⟩
                go_wp2
                go_ret
                exact ⟨rfl, hb5⟩
    · go_wp2
      go_ret
      exact ⟨rfl, hb2⟩
end Go.Proofs.YtgpeingndefacaaDoor
