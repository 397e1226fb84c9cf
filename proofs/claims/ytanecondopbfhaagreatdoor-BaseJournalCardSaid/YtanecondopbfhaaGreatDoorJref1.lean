/- The reference's journal: Sum, Form, Forms, Records. -/
import Derived.Test.YtanecondopbfhaaGreatDoorJn
import Derived.Test.YtanecondopbfhaaGreatDoorCod3
namespace Go.Proofs.YtanecondopbfhaaGreatDoor
open Go.RowKit
open Cod (Env Qb Rpost' q_text q_Num q_Left qopen only_trans only_refl only_alloc textF numF textS numS)

set_option maxHeartbeats 1000000 in
set_option maxRecDepth 100000 in
theorem rsum_calls (s : List UInt8) (hs : s.length ≤ 16777216) (w : World) :
    Calls Tryz.prog 14 #[.string (bs s)] w fun e w' => e = .returned (.int .i64 (sumL s : Int)) ∧ w = w' := by
  have HZ := Lib.hid (bs_size s)
  have hz : (bs s).size ≤ 16777216 := by rw [bs_size]; exact hs
  go_enter Tryz.func14, Tryz.ntmps14
  go_wp2
  go_loopw [3, 4] (fun a i wr => ∃ k : Nat, k ≤ (bs s).size ∧ i = .int .i64 k ∧ a = .int .i64 (sumL (s.take k) : Int) ∧ wr = w) (fun _ i _ => (bs s).size - (intOf i).toNat)
  case atStart => exact ⟨0, Nat.zero_le _, rfl, by simp [sumL, sumAt], rfl⟩
  case round =>
    obtain ⟨k, hk, rfl, rfl, rfl⟩ := hrel
    by_cases hlt : k < (bs s).size
    · have H1 := Lib.hid (sum_step s hs k hlt)
      go_wp2
      go_roundw
      case rel => exact ⟨k + 1, by omega, by go_num, congrArg (Value.int .i64) H1.out, trivial⟩
      case measure => simp [intOf]; omega
    · have he := Lib.hid (show s.take k = s by rw [bs_size] at hk hlt; rw [List.take_of_length_le (by omega)])
      go_wp2
      go_ret
      exact ⟨by show Ending.returned (.int .i64 (sumL (s.take k) : Int)) = _; rw [he.out], rfl⟩

set_option maxRecDepth 100000 in
theorem rform_calls (s : List UInt8) (hs : s.length ≤ 16777216) (w : World) :
    Calls Tryz.prog 53 #[.string (bs s)] w fun e w' => e = .returned (.string (bs (formL s))) ∧ Below w.heap.size w w' := by
  have h1 := Cod.textS_len s (by omega)
  have h2 : (numS (sumL s : Int)).length ≤ 21 := by
    have h3 := Cod.intS_len _ (sum_isInt s hs)
    unfold numS
    split
    · simp
    · exact h3
  have hz1 : (bs (textS s)).size ≤ 4294967330 := by rw [bs_size]; exact h1
  have hz2 : (bs (numS (sumL s : Int))).size ≤ 21 := by rw [bs_size]; exact h2
  have hi := Lib.hid (sum_isInt s hs)
  clear h1 h2
  go_enter Tryz.func53, Tryz.ntmps53
  go_wp2_with (go_at_call 89; refine (Cod.ref_Text_bs s (by omega) _).mono ?_)
  rintro e w1 ⟨rfl, hb⟩
  go_wp2_with (go_at_call 14; refine (rsum_calls s hs _).mono ?_)
  rintro e w1' ⟨rfl, rfl⟩
  go_wp2_with (go_at_call 90; refine (Cod.ref_Num _ hi.out _).mono ?_)
  rintro e w2 ⟨rfl, hb2⟩
  go_wp2
  go_ret
  exact ⟨Cod.ret_str (by rw [Cod.bs_append]; rfl), hb.trans (hb2.mono hb.size)⟩

theorem rforms_take (l : List (List UInt8)) (k : Nat) (u : List UInt8) (h : l[k]? = some u) : forms (l.take (k + 1)) = forms (l.take k) ++ formL u := by
  rw [List.take_add_one, h, forms_append]
  simp [forms]

theorem rforms_take_le (l : List (List UInt8)) (k : Nat) : (forms (l.take k)).length ≤ (forms l).length := by
  have h : forms l = forms (l.take k) ++ forms (l.drop k) := by rw [← forms_append, List.take_append_drop]
  rw [h, List.length_append]; omega

theorem texts_at {v : Value} {l : List (List UInt8)} {w : World} (h : IsTexts v l w) : ∃ a c, v = .slice a l.length c ∧ ∀ k u, l[k]? = some u → ∃ g o, a = some ⟨g, o, none⟩ ∧ g < w.heap.size ∧ w.cell? ⟨g, o + k, none⟩ = some (.string (bs u)) := by
  rcases h with ⟨⟨a, c, rfl⟩, rfl⟩ | ⟨g, o, c, rfl, hg, hc⟩
  · exact ⟨a, c, rfl, by simp⟩
  · exact ⟨_, c, rfl, fun k u hu => ⟨g, o, rfl, hg, hc k u hu⟩⟩

set_option maxHeartbeats 1000000 in
set_option maxRecDepth 100000 in
theorem rforms_calls (v : Value) (l : List (List UInt8)) (w : World) (hv : IsTexts v l w) (hl : ∀ u ∈ l, u.length ≤ 16777216) (hlen : (forms l).length ≤ 16777216) :
    Calls Tryz.prog 50 #[v] w fun e w' => e = .returned (.string (bs (forms l))) ∧ Below w.heap.size w w' := by
  obtain ⟨a, c, rfl, hat⟩ := texts_at hv
  have hll := forms_len l
  have HAT := Lib.hid hat
  have HL := Lib.hid hl
  clear hat hl hv
  go_enter Tryz.func50, Tryz.ntmps50
  go_wp2
  go_loopw [3, 4] (fun s i wr => ∃ k : Nat, k ≤ l.length ∧ i = .int .i64 k ∧ s = .string (bs (forms (l.take k))) ∧ Below w.heap.size w wr) (fun _ i _ => l.length - (intOf i).toNat)
  case atStart => exact ⟨0, Nat.zero_le _, rfl, by simp [forms, bs], Below.refl _ _⟩
  case round =>
    obtain ⟨k, hk, rfl, rfl, hb⟩ := hrel
    by_cases hlt : k < l.length
    · obtain ⟨u, hu⟩ : ∃ u, l[k]? = some u := ⟨_, List.getElem?_eq_getElem hlt⟩
      obtain ⟨g, o, rfl, hgw, hc⟩ := HAT.out k u hu
      have c0 : wr.cell? ⟨g, o + k, none⟩ = some (.string (bs u)) := (hb.cell (p := ⟨g, o + k, none⟩) hgw).trans hc
      have hlu := HL.out u (List.mem_of_getElem? hu)
      have d1 : (k : Int) < (l.length : Int) := by omega
      have hf := rforms_take l k u hu
      have h1 := rforms_take_le l (k + 1)
      have hz1 : (bs (forms (l.take k))).size ≤ 16777216 := by rw [bs_size]; have := rforms_take_le l k; omega
      have hz2 : (bs (formL u)).size ≤ 16777216 := by rw [bs_size]; rw [hf, List.length_append] at h1; omega
      have HF := Lib.hid hf
      clear hf h1 hu hc
      go_wp2_with fail
      refine (rform_calls u hlu wr).mono ?_
      rintro e w1 ⟨rfl, hb1⟩
      have hb2 := hb.trans (hb1.mono hb.size)
      clear hb hb1
      go_wp2_with fail
      go_roundw
      case rel => exact ⟨k + 1, by omega, by go_num, by rw [HF.out, Cod.bs_append], hb2⟩
      case measure => simp [intOf]; omega
    · obtain rfl : k = l.length := by omega
      have he := Lib.hid (show l.take l.length = l from List.take_length)
      go_wp2
      go_ret
      exact ⟨by show Ending.returned (.string (bs (forms (l.take l.length)))) = _; rw [he.out], hb⟩

theorem recs_nil0 : recs [] = [] := by decide +kernel

def RecPost (s : List UInt8) (w : World) (e : Ending) (w' : World) : Prop := ∃ v, e = .returned v ∧ TRow w.heap.size w' v (recs s) ∧ Below w.heap.size w w'

set_option maxHeartbeats 2000000 in
set_option maxRecDepth 100000 in
theorem rrecords_calls (s : List UInt8) (hs : s.length ≤ 16777216) (w : World) :
    Calls Tryz.prog 49 #[.string (bs s)] w (RecPost s w) := by
  obtain ⟨i0, hi, hz0, hz1, hz2⟩ := info_of info9
  have hZ := Lib.hid (bs_size s)
  go_enter Tryz.func49, Tryz.ntmps49
  go_wp2_with fail
  refine (qopen s _).mono ?_
  rintro e w1 ⟨rfl, hR1, hb1, hlt1⟩
  go_wp2_with fail
  go_loopw [3] (fun v wr => ∃ (acc : List (List UInt8)) (x : List UInt8), TRow w1.heap.size wr v acc ∧ Qb w.heap.size (x, false) wr ∧ w1.grownBy wr (some w.heap.size) ∧ RS s acc x) (fun v _ => s.length - (match v with | .slice _ n _ => n | _ => 0))
  case atStart => exact ⟨[], s, ⟨rfl, .inl ⟨rfl, rfl⟩⟩, hR1, only_refl _ _, RS.zero s⟩
  case round =>
    obtain ⟨acc, x, hown, hR, hg, hrs⟩ := hrel
    have hl1 := hrs.len.1
    have hl2 := hrs.len.2
    have HRS := Lib.hid hrs
    clear hrs
    have hs1 := hg.size
    obtain ⟨va, vc, hve⟩ : ∃ va vc, u3 = .slice va acc.length vc := by
      obtain ⟨_, ⟨rfl, h0⟩ | ⟨g, cap, cur, rfl, _⟩⟩ := id hown
      · exact ⟨none, 0, by rw [h0]⟩
      · exact ⟨_, _, rfl⟩
    subst hve
    have fin : recs s = acc → ∀ W, TRow w1.heap.size W (.slice va acc.length vc) acc → w1.grownBy W (some w.heap.size) → RecPost s w (.returned (.slice va acc.length vc)) W := fun e W hown3 hg03 => ⟨_, rfl, by rw [e]; exact row_weak hown3 hb1.size, hb1.trans ⟨hg03.os, hg03.tape, hg03.output, hg03.size, fun i hi => hg03.block i (by omega) (by simp; omega)⟩⟩
    have FIN := Lib.hid fin
    clear fin
    go_wp2_with fail
    refine (q_Left _ (x, false) _ hR).mono ?_
    rintro e w2' ⟨rfl, rfl⟩
    by_cases hx0 : x = []
    · have hxl : ((x, false) : List UInt8 × Bool).1.length = 0 := by rw [hx0]; rfl
      have hrec : recs s = acc := by rw [HRS.out.2.1, hx0, recs_nil0, List.append_nil]
      have F := Lib.hid (FIN.out hrec _ hown hg)
      rw [hxl]
      clear hrec hx0 hxl
      go_wp2_with fail
      go_ret
      exact F.out
    · have hxl : 0 < x.length := List.length_pos_iff.2 hx0
      have d1 : (0 : Int) < ((x, false) : List UInt8 × Bool).1.length := by simp only; omega
      have d2 : (0 : Int) < (x.length : Int) := by omega
      clear hx0
      obtain ⟨u, q, hT⟩ : ∃ u q, textF (x, false) = (u, q) := ⟨_, _, rfl⟩
      obtain ⟨n, y, hN⟩ : ∃ n y, numF q = (n, y) := ⟨_, _, rfl⟩
      have hql : q.1.length ≤ x.length := by have := Cod.textF_len (x, false); rw [hT] at this; exact this
      have hok : recOk (x, false) = (!y.2 && decide (u.length ≤ 20000) && decide ((sumL u : Int) = n)) := by unfold recOk; rw [hT, hN]
      have HT := Lib.hid hT
      have HN := Lib.hid hN
      have HOK := Lib.hid hok
      clear hT hN hok
      go_wp2_with fail
      refine (q_text _ (x, false) _ hR (by simp only; omega) (Cod.okRd_fresh _)).mono ?_
      rintro e w2 ⟨rfl, hR2, hg2⟩
      rw [HT.out] at hR2 ⊢
      have hown2 := row_only hown hg2 hlt1
      have hg02 := only_trans hg hg2
      have hs2 := hg2.size
      clear hown hg hR
      go_wp2_with fail
      refine (q_Num _ q _ hR2 (by omega)).mono ?_
      rintro e w3 ⟨rfl, hR3, hg3⟩
      rw [HN.out] at hR3 ⊢
      have hown3 := row_only hown2 hg3 hlt1
      have hg03 := only_trans hg02 hg3
      have hs3 := hg3.size
      have c1 := hR3.c1
      clear hown2 hg02 hR2
      by_cases hf : y.2 = true
      · have F := Lib.hid (FIN.out (HRS.out.done (by rw [HOK.out, hf]; rfl)) _ hown3 hg03)
        rw [hf] at c1
        clear hf
        go_wp2_with fail
        go_ret
        exact F.out
      · have hf2 : y.2 = false := by simpa using hf
        clear hf
        rw [hf2] at c1
        have HU := Lib.hid (bs_size u)
        by_cases hlen : u.length ≤ 20000
        · have hU : (bs u).size ≤ 20000 := by rw [bs_size]; exact hlen
          by_cases hsum : (sumL u : Int) = n
          · have hk : recOk (x, false) = true := by rw [HOK.out, hf2, hsum]; simp [hlen]
            have HST := Lib.hid (HRS.out.step hk)
            rw [HT.out] at HST
            simp only at HST
            rw [HN.out] at HST
            simp only at HST
            have hle := HST.out.len.2
            rw [List.length_append, List.length_singleton] at hle
            have HSUM := Lib.hid hsum
            subst hsum
            clear hk
            go_wp2_with fail
            refine (rsum_calls u (by omega) _).mono ?_
            rintro e w4 ⟨rfl, rfl⟩
            go_wp2_with (at_builtin; refine wpList_append_own _ rfl _ _ 46 rfl w1.heap.size 9 i0 (.string ⟨#[]⟩) 1 16 Tryz.underlying46 hi hz0 hz1 hz2 rfl (by decide) _ _ _ rfl (hown3.alloc _) ⟨w3.heap.size, 0, none⟩ 1 1 [.string (bs u)] rfl rfl ?c1 ?c2 ?c3 ?c4 ?c5 ?_)
            case c1 =>
              intro j z hj
              match j, hj with
              | 0, hj => simp at hj; subst hj; simp [Addr.add]
            case c2 => intro z hz; simp at hz; subst hz; rfl
            case c3 => unfold maxLen; omega
            case c4 => omega
            case c5 => simp; omega
            intro v' w4 hown' hgrow _
            have hR4 : Qb w.heap.size y w4 := by
              have hb2 := hR3.lt
              unfold Qb at hR3 ⊢
              rw [hgrow.block _ (by simp; omega) (row_block hown3 _ hlt1), Lib.alloc_old w3 _ _ hb2]
              exact hR3
            have hg04 : w1.grownBy w4 (some w.heap.size) := by
              have ha := only_alloc hg03 (.cells #[.string (bs u)] 9)
              exact ⟨hgrow.os.trans ha.os, hgrow.tape.trans ha.tape, hgrow.output.trans ha.output, Nat.le_trans ha.size hgrow.size, fun i hi hn => (hgrow.block i (Nat.lt_of_lt_of_le hi ha.size) (row_block hown3 i hi)).trans (ha.block i hi hn)⟩
            obtain ⟨va', vc', hve'⟩ : ∃ va' vc', v' = .slice va' (acc.length + 1) vc' := by
              obtain ⟨_, ⟨rfl, h0⟩ | ⟨g, cap, cur, rfl, _⟩⟩ := id hown'
              · omega
              · exact ⟨_, _, rfl⟩
            subst hve'
            go_wp2_with fail
            go_roundw
            case rel => exact ⟨acc ++ [u], y.1, by simpa [TRow] using hown', by rw [← hf2]; exact hR4, hg04, HST.out⟩
            case measure => simp only; omega
          · have F := Lib.hid (FIN.out (HRS.out.done (by rw [HOK.out, decide_eq_false hsum]; simp)) _ hown3 hg03)
            have hne : (n != (sumL u : Int)) = true := by rw [bne_iff_ne]; exact fun e => hsum e.symm
            have hne2 : ¬ n = (sumL u : Int) := fun e => hsum e.symm
            clear hsum
            go_wp2_with fail
            refine (rsum_calls u (by omega) _).mono ?_
            rintro e w4 ⟨rfl, rfl⟩
            go_wp2_with fail
            go_ret
            exact F.out
        · have hU : ¬ (bs u).size ≤ 20000 := by rw [bs_size]; exact hlen
          have F := Lib.hid (FIN.out (HRS.out.done (by rw [HOK.out, decide_eq_false hlen]; simp)) _ hown3 hg03)
          go_wp2_with fail
          go_ret
          exact F.out

end Go.Proofs.YtanecondopbfhaaGreatDoor
