/- The reference's reader: Nums and Texts. -/
import Derived.Test.YtgpeingndefacaaDoorRefRead2
namespace Go.Proofs.YtgpeingndefacaaDoor
open Go.RowKit

def IntsPost' (b : Nat) (x : List Int × Rd) (w : World) (e : Ending) (w' : World) : Prop := ∃ v, e = .returned v ∧ IsInts v x.1 w' ∧ Qb b x.2 w' ∧ w.grownBy w' (some b)
def TextsPost' (b : Nat) (x : List (List UInt8) × Rd) (w : World) (e : Ending) (w' : World) : Prop := ∃ v, e = .returned v ∧ IsTexts v x.1 w' ∧ Qb b x.2 w' ∧ w.grownBy w' (some b)

set_option maxHeartbeats 1000000 in
set_option maxRecDepth 100000 in
theorem q_Nums (b : Nat) (r : Rd) (w : World) (h : Qb b r w) (hr : r.1.length ≤ 4294967296) (ho : okRd r) :
    Calls Tryd.prog 31 #[.pointer (some ⟨b, 0, none⟩)] w (IntsPost' b (numsF r) w) := by
  obtain ⟨i0, hi, hz0, hz1, hz2⟩ := info_parts info3
  have hd := q_number b r 91 w h hr
  have hn0 := naturalF_int 91 r
  have hl := naturalF_len 91 r
  have hok := naturalF_ok (c := 91) ho
  have hbl := h.lt
  have e1 : numsF r = endF (loopF intF (naturalF 91 r).1.toNat (naturalF 91 r).2) := rfl
  rw [e1]
  clear e1
  generalize naturalF 91 r = z at *
  obtain ⟨n, q0⟩ := z
  obtain ⟨N, rfl⟩ := Int.eq_ofNat_of_zero_le hn0.1
  simp only [Int.toNat_natCast] at *
  have hN : N ≤ 9223372036854775807 := by omega
  have HD := Lib.hid hd
  have HO := Lib.hid hok
  obtain ⟨y, hy⟩ : ∃ y, y = endF (loopF intF N q0) := ⟨_, rfl⟩
  rw [← hy]
  have HY := Lib.hid hy
  clear hd hn0 ho hok hy
  go_enter Tryd.func31, Tryd.ntmps31
  go_wp2_with fail
  refine HD.out.mono ?_
  rintro e w1 ⟨rfl, h1, g1⟩
  have HG := Lib.hid (headF_start intF N q0)
  go_wp2_with fail
  go_loopw [4, 5] (fun v i wr => ∃ (j : Nat) (acc : List Int) (q : Rd), j ≤ N ∧ i = .int .i64 j ∧ wr.ownsRow w.heap.size 3 1 v acc.length (acc.map (Value.int .i64)) ∧ Qb b q wr ∧ w.grownBy wr (some b) ∧ okRd q ∧ headF intF N q0 (N - j) acc q ∧ room acc.length q ≤ 4294967297 ∧ q.1.length ≤ 4294967296) (fun _ i _ => N - (intOf i).toNat)
  case atStart => exact ⟨0, [], q0, Nat.zero_le _, rfl, ⟨rfl, .inl ⟨rfl, rfl⟩⟩, h1, g1, HO.out, HG.out, by unfold room; simp; split <;> omega, by omega⟩
  case round =>
    obtain ⟨j, acc, q, hj, rfl, hown, hR, hg, hq, hH, hroom, hql⟩ := hrel
    have HH := Lib.hid hH
    have HQ := Lib.hid hq
    clear hH hq
    have hs := hg.size
    have c1 := hR.c1
    by_cases hgo : j < N ∧ q.2 = false
    · obtain ⟨hjN, hf⟩ := hgo
      have HF := Lib.hid hf
      rw [hf] at c1
      clear hf
      have hH2 : headF intF N q0 ((N - j - 1) + 1) acc q := by rw [show N - j - 1 + 1 = N - j by omega]; exact HH.out
      have HH2 := Lib.hid (headF_step hH2 HF.out)
      have hrm := room_step intF (fun r => intF_short) (fun r => digitsF_ok) acc.length q HQ.out HF.out
      have hq2 := Lib.hid (digitsF_ok (c := 59) HQ.out)
      have hln := digitsF_len 59 q
      clear hH2
      go_wp2_with fail
      refine (q_Int b q _ hR hql).mono ?_
      rintro e w2 ⟨rfl, hR2, hg2⟩
      have hown2 := owns_only hown hg2 hbl
      have hs2 := hg2.size
      have hg02 := only_trans hg hg2
      clear hown hg
      go_wp2_with (at_builtin; refine wpList_append_own _ rfl _ _ 22 rfl w.heap.size 3 i0 (.int .i64 0) 1 8 Tryd.underlying22 hi hz0 hz1 hz2 rfl (by decide) _ _ _ rfl (hown2.alloc _) ⟨w2.heap.size, 0, none⟩ 1 1 [.int .i64 (intF q).1] rfl rfl ?c1 ?c2 ?c3 ?c4 ?c5 ?_)
      case c1 =>
        intro j u hj
        match j, hj with
        | 0, hj => simp at hj; subst hj; simp [Addr.add]
      case c2 => intro u hu; simp at hu; subst hu; rfl
      case c3 => unfold maxLen; unfold room at hroom; omega
      case c4 => unfold room at hroom; omega
      case c5 => simp; omega
      intro v' w3 hown' hgrow _
      have hR3 : Qb b (intF q).2 w3 := by
        have hb2 := hR2.lt
        unfold Qb at hR2 ⊢
        rw [hgrow.block b (by simp; omega) (owns_block hown2 b hbl), Lib.alloc_old w2 _ b hb2]
        exact hR2
      have hg03 : w.grownBy w3 (some b) := by
        have ha := only_alloc hg02 (.cells #[.int .i64 (intF q).1] 3)
        exact ⟨hgrow.os.trans ha.os, hgrow.tape.trans ha.tape, hgrow.output.trans ha.output, Nat.le_trans ha.size hgrow.size, fun i hi hn => (hgrow.block i (Nat.lt_of_lt_of_le hi ha.size) (owns_block hown2 i hi)).trans (ha.block i hi hn)⟩
      go_wp2
      go_roundw
      case rel => exact ⟨j + 1, acc ++ [(intF q).1], (intF q).2, by omega, by go_num, by simpa using hown', hR3, hg03, hq2.out, by rw [show N - (j + 1) = N - j - 1 by omega]; exact HH2.out, by rw [List.length_append]; exact Nat.le_trans hrm hroom, by have : (intF q).2.1.length ≤ q.1.length := hln; omega⟩
      case measure => simp [intOf]; omega
    · have hcase : (q.2 = true) ∨ (q.2 = false ∧ ¬ j < N) := by
        cases hq2 : q.2
        · right; exact ⟨rfl, fun hlt => hgo ⟨hlt, hq2⟩⟩
        · left; rfl
      have hdone := headF_done HH.out (show N - j = 0 ∨ q.2 = true by
        rcases hcase with h2 | ⟨_, h2⟩
        · exact .inr h2
        · exact .inl (by omega))
      have hend : y = if (closingF 93 q).2 = true then ([], closingF 93 q) else (acc, closingF 93 q) := by rw [HY.out, hdone]; rfl
      clear hgo hdone
      rcases hcase with hq2 | ⟨hq2, hjN⟩
      · have hqf : q = failed := by
          have := HQ.out hq2
          obtain ⟨l, f⟩ := q
          simp only at this hq2
          rw [this, hq2]; rfl
        have hy2 : y = ([], failed) := by rw [hend, hqf]; rfl
        have HY2 := Lib.hid hy2
        have HQF := Lib.hid hqf
        rw [hq2] at c1
        clear hend hy2 hq2 hqf
        by_cases hlt : j < N
        · go_wp2
          go_ret
          rw [HY2.out]
          refine ⟨_, rfl, .inl ⟨⟨none, 0, rfl⟩, rfl⟩, ?_, hg⟩
          have := hR
          rwa [HQF.out] at this
        · go_wp2
          go_ret
          rw [HY2.out]
          refine ⟨_, rfl, .inl ⟨⟨none, 0, rfl⟩, rfl⟩, ?_, hg⟩
          have := hR
          rwa [HQF.out] at this
      · rw [closing_flag hq2] at hend
        rw [hq2] at c1
        have HC := Lib.hid (q_close b q 93 wr hR hql)
        generalize hco : closeOk 93 q = co at hend
        have HCO := Lib.hid hco
        have HEnd := Lib.hid hend
        clear hend hco hq2
        cases co
        · go_wp2_with fail
          refine HC.out.mono ?_
          rw [HCO.out]
          rintro e w2 ⟨rfl, hR2, hg2⟩
          have hg02 := only_trans hg hg2
          go_wp2
          go_ret
          rw [HEnd.out]
          exact ⟨_, rfl, .inl ⟨⟨none, 0, rfl⟩, rfl⟩, hR2, hg02⟩
        · go_wp2_with fail
          refine HC.out.mono ?_
          rw [HCO.out]
          rintro e w2 ⟨rfl, hR2, hg2⟩
          have hown2 := owns_only hown hg2 hbl
          have hg02 := only_trans hg hg2
          go_wp2
          go_ret
          rw [HEnd.out]
          exact ⟨_, rfl, owns_ints hown2, hR2, hg02⟩

set_option maxHeartbeats 1000000 in
set_option maxRecDepth 100000 in
theorem q_Texts (b : Nat) (r : Rd) (w : World) (h : Qb b r w) (hr : r.1.length ≤ 4294967296) (ho : okRd r) :
    Calls Tryd.prog 34 #[.pointer (some ⟨b, 0, none⟩)] w (TextsPost' b (textsF r) w) := by
  obtain ⟨i0, hi, hz0, hz1, hz2⟩ := info_parts info9
  have hd := q_number b r 91 w h hr
  have hn0 := naturalF_int 91 r
  have hl := naturalF_len 91 r
  have hok := naturalF_ok (c := 91) ho
  have hbl := h.lt
  have e1 : textsF r = endF (loopF textF (naturalF 91 r).1.toNat (naturalF 91 r).2) := rfl
  rw [e1]
  clear e1
  generalize naturalF 91 r = z at *
  obtain ⟨n, q0⟩ := z
  obtain ⟨N, rfl⟩ := Int.eq_ofNat_of_zero_le hn0.1
  simp only [Int.toNat_natCast] at *
  have hN : N ≤ 9223372036854775807 := by omega
  have HD := Lib.hid hd
  have HO := Lib.hid hok
  obtain ⟨y, hy⟩ : ∃ y, y = endF (loopF textF N q0) := ⟨_, rfl⟩
  rw [← hy]
  have HY := Lib.hid hy
  clear hd hn0 ho hok hy
  go_enter Tryd.func34, Tryd.ntmps34
  go_wp2_with fail
  refine HD.out.mono ?_
  rintro e w1 ⟨rfl, h1, g1⟩
  have HG := Lib.hid (headF_start textF N q0)
  go_wp2_with fail
  go_loopw [4, 5] (fun v i wr => ∃ (j : Nat) (acc : List (List UInt8)) (q : Rd), j ≤ N ∧ i = .int .i64 j ∧ wr.ownsRow w.heap.size 9 1 v acc.length (acc.map fun s => Value.string (bs s)) ∧ Qb b q wr ∧ w.grownBy wr (some b) ∧ okRd q ∧ headF textF N q0 (N - j) acc q ∧ room acc.length q ≤ 4294967297 ∧ q.1.length ≤ 4294967296) (fun _ i _ => N - (intOf i).toNat)
  case atStart => exact ⟨0, [], q0, Nat.zero_le _, rfl, ⟨rfl, .inl ⟨rfl, rfl⟩⟩, h1, g1, HO.out, HG.out, by unfold room; simp; split <;> omega, by omega⟩
  case round =>
    obtain ⟨j, acc, q, hj, rfl, hown, hR, hg, hq, hH, hroom, hql⟩ := hrel
    have HH := Lib.hid hH
    have HQ := Lib.hid hq
    clear hH hq
    have hs := hg.size
    have c1 := hR.c1
    by_cases hgo : j < N ∧ q.2 = false
    · obtain ⟨hjN, hf⟩ := hgo
      have HF := Lib.hid hf
      rw [hf] at c1
      clear hf
      have hH2 : headF textF N q0 ((N - j - 1) + 1) acc q := by rw [show N - j - 1 + 1 = N - j by omega]; exact HH.out
      have HH2 := Lib.hid (headF_step hH2 HF.out)
      have hrm := room_step textF (fun r => textF_short) (fun r => textF_ok) acc.length q HQ.out HF.out
      have hq2 := Lib.hid (textF_ok HQ.out)
      have hln := textF_len q
      clear hH2
      go_wp2_with fail
      refine (q_text b q _ hR hql HQ.out).mono ?_
      rintro e w2 ⟨rfl, hR2, hg2⟩
      have hown2 := owns_only hown hg2 hbl
      have hs2 := hg2.size
      have hg02 := only_trans hg hg2
      clear hown hg
      go_wp2_with (at_builtin; refine wpList_append_own _ rfl _ _ 23 rfl w.heap.size 9 i0 (.string ⟨#[]⟩) 1 16 Tryd.underlying23 hi hz0 hz1 hz2 rfl (by decide) _ _ _ rfl (hown2.alloc _) ⟨w2.heap.size, 0, none⟩ 1 1 [.string (bs (textF q).1)] rfl rfl ?c1 ?c2 ?c3 ?c4 ?c5 ?_)
      case c1 =>
        intro j u hj
        match j, hj with
        | 0, hj => simp at hj; subst hj; simp [Addr.add]
      case c2 => intro u hu; simp at hu; subst hu; rfl
      case c3 => unfold maxLen; unfold room at hroom; omega
      case c4 => unfold room at hroom; omega
      case c5 => simp; omega
      intro v' w3 hown' hgrow _
      have hR3 : Qb b (textF q).2 w3 := by
        have hb2 := hR2.lt
        unfold Qb at hR2 ⊢
        rw [hgrow.block b (by simp; omega) (owns_block hown2 b hbl), Lib.alloc_old w2 _ b hb2]
        exact hR2
      have hg03 : w.grownBy w3 (some b) := by
        have ha := only_alloc hg02 (.cells #[.string (bs (textF q).1)] 9)
        exact ⟨hgrow.os.trans ha.os, hgrow.tape.trans ha.tape, hgrow.output.trans ha.output, Nat.le_trans ha.size hgrow.size, fun i hi hn => (hgrow.block i (Nat.lt_of_lt_of_le hi ha.size) (owns_block hown2 i hi)).trans (ha.block i hi hn)⟩
      go_wp2
      go_roundw
      case rel => exact ⟨j + 1, acc ++ [(textF q).1], (textF q).2, by omega, by go_num, by simpa using hown', hR3, hg03, hq2.out, by rw [show N - (j + 1) = N - j - 1 by omega]; exact HH2.out, by rw [List.length_append]; exact Nat.le_trans hrm hroom, by have : (textF q).2.1.length ≤ q.1.length := hln; omega⟩
      case measure => simp [intOf]; omega
    · have hcase : (q.2 = true) ∨ (q.2 = false ∧ ¬ j < N) := by
        cases hq2 : q.2
        · right; exact ⟨rfl, fun hlt => hgo ⟨hlt, hq2⟩⟩
        · left; rfl
      have hdone := headF_done HH.out (show N - j = 0 ∨ q.2 = true by
        rcases hcase with h2 | ⟨_, h2⟩
        · exact .inr h2
        · exact .inl (by omega))
      have hend : y = if (closingF 93 q).2 = true then ([], closingF 93 q) else (acc, closingF 93 q) := by rw [HY.out, hdone]; rfl
      clear hgo hdone
      rcases hcase with hq2 | ⟨hq2, hjN⟩
      · have hqf : q = failed := by
          have := HQ.out hq2
          obtain ⟨l, f⟩ := q
          simp only at this hq2
          rw [this, hq2]; rfl
        have hy2 : y = ([], failed) := by rw [hend, hqf]; rfl
        have HY2 := Lib.hid hy2
        have HQF := Lib.hid hqf
        rw [hq2] at c1
        clear hend hy2 hq2 hqf
        by_cases hlt : j < N
        · go_wp2
          go_ret
          rw [HY2.out]
          refine ⟨_, rfl, .inl ⟨⟨none, 0, rfl⟩, rfl⟩, ?_, hg⟩
          have := hR
          rwa [HQF.out] at this
        · go_wp2
          go_ret
          rw [HY2.out]
          refine ⟨_, rfl, .inl ⟨⟨none, 0, rfl⟩, rfl⟩, ?_, hg⟩
          have := hR
          rwa [HQF.out] at this
      · rw [closing_flag hq2] at hend
        rw [hq2] at c1
        have HC := Lib.hid (q_close b q 93 wr hR hql)
        generalize hco : closeOk 93 q = co at hend
        have HCO := Lib.hid hco
        have HEnd := Lib.hid hend
        clear hend hco hq2
        cases co
        · go_wp2_with fail
          refine HC.out.mono ?_
          rw [HCO.out]
          rintro e w2 ⟨rfl, hR2, hg2⟩
          have hg02 := only_trans hg hg2
          go_wp2
          go_ret
          rw [HEnd.out]
          exact ⟨_, rfl, .inl ⟨⟨none, 0, rfl⟩, rfl⟩, hR2, hg02⟩
        · go_wp2_with fail
          refine HC.out.mono ?_
          rw [HCO.out]
          rintro e w2 ⟨rfl, hR2, hg2⟩
          have hown2 := owns_only hown hg2 hbl
          have hg02 := only_trans hg hg2
          go_wp2
          go_ret
          rw [HEnd.out]
          exact ⟨_, rfl, owns_texts hown2, hR2, hg02⟩
end Go.Proofs.YtgpeingndefacaaDoor
