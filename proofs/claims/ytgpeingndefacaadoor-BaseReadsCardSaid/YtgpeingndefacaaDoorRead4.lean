/- The reader's methods Nums and Texts. -/
import Derived.Test.YtgpeingndefacaaDoorRead3
namespace Go.Proofs.YtgpeingndefacaaDoor
open Go.RowKit

set_option maxHeartbeats 1000000 in
set_option maxRecDepth 100000 in
theorem readList_text (b : Nat) (r : Rd) (w : World) (hE : Env w) (h : Rb b r w) (hr : r.1.length ≤ 4294967296) (ho : okRd r) (hb6 : 6 ≤ b) :
    Calls Tryd.prog 56 #[.pointer (some ⟨b, 0, none⟩), .func (.func 27) #[.pointer (some ⟨b, 0, none⟩)] #[]] w (TextsPost b (textsF r) w) := by
  obtain ⟨i0, hi, hz0, hz1, hz2⟩ := info_parts info9
  have hd := rd_natural b r 91 w hE h hr
  have hn0 := naturalF_int 91 r
  have hl := naturalF_len 91 r
  have hok := naturalF_ok (c := 91) ho
  have hbl := h.lt
  have e1 : textsF r = endF (loopF textF (naturalF 91 r).1.toNat (naturalF 91 r).2) := rfl
  rw [e1]
  clear e1
  generalize naturalF 91 r = z at *
  obtain ⟨n, q0⟩ := z
  obtain ⟨N, rfl⟩ := Int.eq_ofNat_of_zero_le hn0.1
  simp only [Int.toNat_natCast] at *
  have hN : N ≤ 9223372036854775807 := by omega
  have HD := Lib.hid hd
  have HO := Lib.hid hok
  have hex : ∃ y, y = endF (loopF textF N q0) := ⟨_, rfl⟩
  obtain ⟨y, hy⟩ := hex
  rw [← hy]
  have HY := Lib.hid hy
  clear hd hn0 ho hok hy
  go_enter Tryd.func56, Tryd.ntmps56
  go_wp2_with fail
  refine HD.out.mono ?_
  rintro e w1 ⟨rfl, h1, g1⟩
  have HG := Lib.hid (headF_start textF N q0)
  go_wp2_with fail
  go_loopw [5, 6] (fun v i wr => ∃ (k : Nat) (acc : List (List UInt8)) (q : Rd), k ≤ N ∧ i = .int .i64 k ∧ wr.ownsRow w.heap.size 9 1 v acc.length (acc.map fun s => Value.string (bs s)) ∧ Rb b q wr ∧ w.grownBy wr (some b) ∧ okRd q ∧ headF textF N q0 k acc q ∧ room acc.length q ≤ 4294967297 ∧ q.1.length ≤ 4294967296) (fun _ i _ => (intOf i).toNat)
  case atStart => exact ⟨N, [], q0, Nat.le_refl _, rfl, ⟨rfl, .inl ⟨rfl, rfl⟩⟩, h1, g1, HO.out, HG.out, by unfold room; simp; split <;> omega, by omega⟩
  case round =>
    obtain ⟨k, acc, q, hk, rfl, hown, hR, hg, hq, hH, hroom, hql⟩ := hrel
    have HH := Lib.hid hH
    have HQ := Lib.hid hq
    clear hH hq
    have hs := hg.size
    have c1 := hR.c1
    by_cases hgo : 0 < k ∧ q.2 = false
    · obtain ⟨hk0, hf⟩ := hgo
      have HF := Lib.hid hf
      rw [hf] at c1
      clear hf
      have hdec : decide (0 < (k : Int)) = true := by simp; omega
      obtain ⟨k', rfl⟩ : ∃ k', k = k' + 1 := ⟨k - 1, by omega⟩
      have HH2 := Lib.hid (headF_step HH.out HF.out)
      have hrm := room_step textF (fun r => textF_short) (fun r => textF_ok) acc.length q HQ.out HF.out
      have hq2 := Lib.hid (textF_ok HQ.out)
      have hln := textF_len q
      go_wp2_with fail
      refine (rd_text b q _ (hE.only hg hb6) hR hql).mono ?_
      rintro e w2 ⟨rfl, hR2, hg2⟩
      have hown2 := owns_only hown hg2 hbl
      have hs2 := hg2.size
      have hg02 := only_trans hg hg2
      clear hown hg
      go_wp2_with (at_builtin; refine wpList_append_own _ rfl _ _ 23 rfl w.heap.size 9 i0 (.string ⟨#[]⟩) 1 16 Tryd.underlying23 hi hz0 hz1 hz2 rfl (by decide) _ _ _ rfl (hown2.alloc _) ⟨w2.heap.size, 0, none⟩ 1 1 [.string (bs (textF q).1)] rfl rfl ?c1 ?c2 ?c3 ?c4 ?c5 ?_)
      case c1 =>
        intro j u hj
        match j, hj with
        | 0, hj => simp at hj; subst hj; simp [Addr.add]
      case c2 => intro u hu; simp at hu; subst hu; rfl
      case c3 => unfold maxLen; unfold room at hroom; omega
      case c4 => unfold room at hroom; omega
      case c5 => simp; omega
      intro v' w3 hown' hgrow _
      have hR3 : Rb b (textF q).2 w3 := by
        have hb2 := hR2.lt
        unfold Rb at hR2 ⊢
        rw [hgrow.block b (by simp; omega) (owns_block hown2 b hbl), Lib.alloc_old w2 _ b hb2]
        exact hR2
      have hg03 : w.grownBy w3 (some b) := by
        have ha := only_alloc hg02 (.cells #[.string (bs (textF q).1)] 9)
        exact ⟨hgrow.os.trans ha.os, hgrow.tape.trans ha.tape, hgrow.output.trans ha.output, Nat.le_trans ha.size hgrow.size, fun i hi hn => (hgrow.block i (Nat.lt_of_lt_of_le hi ha.size) (owns_block hown2 i hi)).trans (ha.block i hi hn)⟩
      go_wp2
      go_roundw
      case rel => exact ⟨k', acc ++ [(textF q).1], (textF q).2, by omega, by go_num, by simpa using hown', hR3, hg03, hq2.out, HH2.out, by rw [List.length_append]; exact Nat.le_trans hrm hroom, by have : (textF q).2.1.length ≤ q.1.length := hln; omega⟩
      case measure => simp [intOf]
    · have hdone := headF_done HH.out (show k = 0 ∨ q.2 = true by
        by_cases h0 : k = 0
        · exact .inl h0
        · right
          cases hq2 : q.2
          · exact absurd ⟨by omega, hq2⟩ hgo
          · rfl)
      have hend : y = if (closingF 93 q).2 = true then ([], closingF 93 q) else (acc, closingF 93 q) := by rw [HY.out, hdone]; rfl
      clear hdone
      generalize hff : (closingF 93 q).2 = ff at hend
      have HF := Lib.hid hff
      clear hff
      have hcase : (k = 0 ∧ decide (0 < (k : Int)) = false) ∨ (0 < k ∧ decide (0 < (k : Int)) = true ∧ q.2 = true) := by
        by_cases h0 : k = 0
        · subst h0; left; exact ⟨rfl, by decide⟩
        · right
          refine ⟨by omega, by simp; omega, ?_⟩
          cases hq2 : q.2
          · exact absurd ⟨by omega, hq2⟩ hgo
          · rfl
      clear hgo
      cases ff
      · have HE2 := Lib.hid (show y = (acc, closingF 93 q) by rw [hend]; rfl)
        clear hend
        rcases hcase with ⟨rfl, hdec⟩ | ⟨hk0, hdec, hq2⟩
        · clear hdec
          go_wp2_with fail
          refine (rd_closing b q 93 _ hR).mono ?_
          rintro e w2 ⟨rfl, hR2, hg2⟩
          have hown2 := owns_only hown hg2 hbl
          have hg02 := only_trans hg hg2
          have d1 := hR2.c1
          rw [HF.out] at d1
          go_wp2
          go_ret
          exact ⟨_, rfl, by rw [HE2.out]; exact owns_texts hown2, by rw [HE2.out]; exact hR2, hg02⟩
        · rw [hq2] at c1
          clear hq2
          go_wp2_with fail
          refine (rd_closing b q 93 _ hR).mono ?_
          rintro e w2 ⟨rfl, hR2, hg2⟩
          have hown2 := owns_only hown hg2 hbl
          have hg02 := only_trans hg hg2
          have d1 := hR2.c1
          rw [HF.out] at d1
          go_wp2
          go_ret
          exact ⟨_, rfl, by rw [HE2.out]; exact owns_texts hown2, by rw [HE2.out]; exact hR2, hg02⟩
      · have HE2 := Lib.hid (show y = ([], closingF 93 q) by rw [hend]; rfl)
        clear hend
        rcases hcase with ⟨rfl, hdec⟩ | ⟨hk0, hdec, hq2⟩
        · clear hdec
          go_wp2_with fail
          refine (rd_closing b q 93 _ hR).mono ?_
          rintro e w2 ⟨rfl, hR2, hg2⟩
          have hg02 := only_trans hg hg2
          have d1 := hR2.c1
          rw [HF.out] at d1
          go_wp2
          go_ret
          exact ⟨_, rfl, by rw [HE2.out]; exact .inl ⟨⟨none, 0, rfl⟩, rfl⟩, by rw [HE2.out]; exact hR2, hg02⟩
        · rw [hq2] at c1
          clear hq2
          go_wp2_with fail
          refine (rd_closing b q 93 _ hR).mono ?_
          rintro e w2 ⟨rfl, hR2, hg2⟩
          have hg02 := only_trans hg hg2
          have d1 := hR2.c1
          rw [HF.out] at d1
          go_wp2
          go_ret
          exact ⟨_, rfl, by rw [HE2.out]; exact .inl ⟨⟨none, 0, rfl⟩, rfl⟩, by rw [HE2.out]; exact hR2, hg02⟩

set_option maxRecDepth 100000 in
theorem rd_Nums (b : Nat) (r : Rd) (w : World) (hE : Env w) (h : Rb b r w) (hr : r.1.length ≤ 4294967296) (ho : okRd r) (hb6 : 6 ≤ b) :
    Calls Tryd.prog 30 #[.pointer (some ⟨b, 0, none⟩)] w (IntsPost b (numsF r) w) := by
  have hmf : ∀ (fn : Fn) (first cap : Array Value) (w : World), (Instr.makeFunc fn first cap).run Tryd.prog w = .ok (.func fn first cap) w := fun _ _ _ _ => rfl
  have HD := Lib.hid (readList_int b r w hE h hr ho hb6)
  go_enter Tryd.func30, Tryd.ntmps30
  go_wp2_with fail
  refine HD.out.mono ?_
  rintro e w1 ⟨v, rfl, h1, h2, h3⟩
  go_wp2
  go_ret
  exact ⟨v, rfl, h1, h2, h3⟩
set_option maxRecDepth 100000 in
theorem rd_Texts (b : Nat) (r : Rd) (w : World) (hE : Env w) (h : Rb b r w) (hr : r.1.length ≤ 4294967296) (ho : okRd r) (hb6 : 6 ≤ b) :
    Calls Tryd.prog 33 #[.pointer (some ⟨b, 0, none⟩)] w (TextsPost b (textsF r) w) := by
  have hmf : ∀ (fn : Fn) (first cap : Array Value) (w : World), (Instr.makeFunc fn first cap).run Tryd.prog w = .ok (.func fn first cap) w := fun _ _ _ _ => rfl
  have HD := Lib.hid (readList_text b r w hE h hr ho hb6)
  go_enter Tryd.func33, Tryd.ntmps33
  go_wp2_with fail
  refine HD.out.mono ?_
  rintro e w1 ⟨v, rfl, h1, h2, h3⟩
  go_wp2
  go_ret
  exact ⟨v, rfl, h1, h2, h3⟩

end Go.Proofs.YtgpeingndefacaaDoor
