/- The journal's helpers: Sum, form, readRecords. -/
import Derived.Test.YtanecondopbfhaaGreatDoorJpure
import Derived.Test.YtanecondopbfhaaGreatDoorPut
namespace Go.Proofs.YtanecondopbfhaaGreatDoor
open Go.RowKit
open Cod (Env Rb Rpost rd_text rd_Num rd_Left open_reader only_trans only_refl only_alloc textF numF textS numS)

theorem byte_at (l : List UInt8) (k : Nat) (h : k < (bs l).size) (h2 : k < l.length) : (bs l)[k]'h = l[k] := by
  show (bs l).data[k]'_ = _
  simp [bs]

theorem w64 (n : Int) (h : -9223372036854775808 ≤ n ∧ n ≤ 9223372036854775807) : wrap64 n = n := by unfold wrap64; omega

theorem sum_step (s : List UInt8) (hs : s.length ≤ 16777216) (k : Nat) (hlt : k < (bs s).size) :
    wrap64 ((sumL (s.take k) : Int) + wrap64 (wrap64 (((bs s)[k]'hlt).toNat : Int) * ((k : Int) + 1))) = (sumL (s.take (k + 1)) : Int) := by
  have hkl : k < s.length := by rw [← bs_size]; exact hlt
  rw [byte_at s k hlt hkl, sumL_take s k hkl]
  have hb1 : sumL (s.take k) ≤ 71776119061217280 := sumL_le _ (by simp; omega)
  have hc : s[k].toNat ≤ 255 := by have := s[k].toNat_lt; omega
  have hm : s[k].toNat * (k + 1) ≤ 255 * 16777216 := Nat.mul_le_mul hc (by omega)
  rw [w64 (s[k].toNat : Int) (by omega), show ((s[k].toNat : Nat) : Int) * ((k : Int) + 1) = ((s[k].toNat * (k + 1) : Nat) : Int) by push_cast; rfl, w64 ((s[k].toNat * (k + 1) : Nat) : Int) (by omega), w64 _ (by omega)]
  push_cast
  rfl

set_option maxHeartbeats 1000000 in
set_option maxRecDepth 100000 in
theorem sum_calls (s : List UInt8) (hs : s.length ≤ 16777216) (w : World) :
    Calls Tryz.prog 13 #[.string (bs s)] w fun e w' => e = .returned (.int .i64 (sumL s : Int)) ∧ w = w' := by
  have HZ := Lib.hid (bs_size s)
  have hz : (bs s).size ≤ 16777216 := by rw [bs_size]; exact hs
  go_enter Tryz.func13, Tryz.ntmps13
  go_wp2
  go_loopw [3, 7] (fun a i wr => ∃ k : Nat, k ≤ (bs s).size ∧ i = .int .i64 k ∧ a = .int .i64 (sumL (s.take k) : Int) ∧ wr = w) (fun _ i _ => (bs s).size - (intOf i).toNat)
  case atStart => exact ⟨0, Nat.zero_le _, rfl, by simp [sumL, sumAt], rfl⟩
  case round =>
    obtain ⟨k, hk, rfl, rfl, rfl⟩ := hrel
    by_cases hlt : k < (bs s).size
    · have H1 := Lib.hid (sum_step s hs k hlt)
      go_wp2
      go_roundw
      case rel => exact ⟨k + 1, by omega, by go_num, congrArg (Value.int .i64) H1.out, trivial⟩
      case measure => simp [intOf]; omega
    · have he := Lib.hid (show s.take k = s by rw [bs_size] at hk hlt; rw [List.take_of_length_le (by omega)])
      go_wp2
      go_ret
      exact ⟨by show Ending.returned (.int .i64 (sumL (s.take k) : Int)) = _; rw [he.out], rfl⟩

set_option maxRecDepth 100000 in
theorem form_calls (s : List UInt8) (hs : s.length ≤ 16777216) (w : World) (hE : Env w) :
    Calls Tryz.prog 52 #[.string (bs s)] w fun e w' => e = .returned (.string (bs (formL s))) ∧ Below w.heap.size w w' := by
  have h1 := Cod.textS_len s (by omega)
  have h2 : (numS (sumL s : Int)).length ≤ 21 := by
    have h3 := Cod.intS_len _ (sum_isInt s hs)
    unfold numS
    split
    · simp
    · exact h3
  have hz1 : (bs (textS s)).size ≤ 4294967330 := by rw [bs_size]; exact h1
  have hz2 : (bs (numS (sumL s : Int))).size ≤ 21 := by rw [bs_size]; exact h2
  have hi := Lib.hid (sum_isInt s hs)
  clear h1 h2
  go_enter Tryz.func52, Tryz.ntmps52
  go_wp2_with (go_at_call 71; refine (Cod.base_Text_bs s (by omega) _ hE).mono ?_)
  rintro e w1 ⟨rfl, hb⟩
  go_wp2_with (go_at_call 13; refine (sum_calls s hs _).mono ?_)
  rintro e w1' ⟨rfl, rfl⟩
  go_wp2_with (go_at_call 68; refine (Cod.base_Num _ hi.out _ (hE.next hb)).mono ?_)
  rintro e w2 ⟨rfl, hb2⟩
  go_wp2
  go_ret
  exact ⟨Cod.ret_str (by rw [Cod.bs_append]; rfl), hb.trans (hb2.mono hb.size)⟩

/-! ### lists of strings in memory -/

theorem info3 : (Tryz.prog.info? 3).map (fun i => (i.zero, i.size, i.bytes)) = some (some (.int .i64 0), 1, 8) := by kernel_rfl
theorem info9 : (Tryz.prog.info? 9).map (fun i => (i.zero, i.size, i.bytes)) = some (some (.string ⟨#[]⟩), 1, 16) := by kernel_rfl
theorem info_of {t : TypeId} {z : Option Value} {s b : Nat} (h : (Tryz.prog.info? t).map (fun i => (i.zero, i.size, i.bytes)) = some (z, s, b)) : ∃ i, Tryz.prog.info? t = some i ∧ i.zero = z ∧ i.size = s ∧ i.bytes = b := by
  obtain ⟨i, hi, he⟩ := Option.map_eq_some_iff.1 h
  simp only [Prod.mk.injEq] at he
  exact ⟨i, hi, he.1, he.2.1, he.2.2⟩

/-- A row of one's own of strings. -/
abbrev TRow (B : Nat) (w : World) (v : Value) (l : List (List UInt8)) : Prop := w.ownsRow B 9 1 v l.length (l.map fun s => Value.string (bs s))

def IsTexts (v : Value) (xs : List (List UInt8)) (w : World) : Prop := ((∃ a c, v = .slice a 0 c) ∧ xs = []) ∨
  ∃ bk off cap, v = .slice (some ⟨bk, off, none⟩) xs.length cap ∧ bk < w.heap.size ∧ ∀ i x, xs[i]? = some x → w.cell? ⟨bk, off + i, none⟩ = some (.string (bs x))

theorem row_keeps {w w' : World} {B : Nat} {e : TypeId} {size : Nat} {v : Value} {n : Nat} {xs : List Value} (h : w.ownsRow B e size v n xs) (hk : ∀ i, some i = v.ownBlock → i < w.heap.size → w'.heap[i]? = w.heap[i]?) : w'.ownsRow B e size v n xs := by
  obtain ⟨hl, h0 | ⟨g, cap, cur, hv, hgB, hh, r⟩⟩ := h
  · exact ⟨hl, .inl h0⟩
  · have hlt : g < w.heap.size := by
      rcases Nat.lt_or_ge g w.heap.size with h' | h'
      · exact h'
      · simp [Array.getElem?_eq_none h'] at hh
    exact ⟨hl, .inr ⟨g, cap, cur, hv, hgB, by rw [hk g (by rw [hv]; rfl) hlt]; exact hh, r⟩⟩

theorem row_only {w w' : World} {B b : Nat} {e : TypeId} {size : Nat} {v : Value} {n : Nat} {xs : List Value} (h : w.ownsRow B e size v n xs) (hg : w.grownBy w' (some b)) (hb : b < B) : w'.ownsRow B e size v n xs := by
  obtain ⟨hl, h0 | ⟨g, cap, cur, hv, hgB, hh, r⟩⟩ := h
  · exact ⟨hl, .inl h0⟩
  · have hlt : g < w.heap.size := by
      rcases Nat.lt_or_ge g w.heap.size with h' | h'
      · exact h'
      · simp [Array.getElem?_eq_none h'] at hh
    exact ⟨hl, .inr ⟨g, cap, cur, hv, hgB, by rw [hg.block g hlt (by simp; omega)]; exact hh, r⟩⟩

theorem row_weak {w : World} {B B' : Nat} {e : TypeId} {size : Nat} {v : Value} {n : Nat} {xs : List Value} (h : w.ownsRow B e size v n xs) (hb : B' ≤ B) : w.ownsRow B' e size v n xs := by
  obtain ⟨hl, h0 | ⟨g, cap, cur, hv, hgB, r⟩⟩ := h
  · exact ⟨hl, .inl h0⟩
  · exact ⟨hl, .inr ⟨g, cap, cur, hv, by omega, r⟩⟩

theorem row_block {w : World} {B : Nat} {e : TypeId} {size : Nat} {v : Value} {n : Nat} {xs : List Value} (h : w.ownsRow B e size v n xs) (i : Nat) (hi : i < B) : some i ≠ v.ownBlock := by
  obtain ⟨hl, ⟨hv, _⟩ | ⟨g, cap, cur, hv, hgB, _⟩⟩ := h
  · rw [hv]; simp [Value.ownBlock]
  · rw [hv]; simp only [Value.ownBlock, ne_eq, Option.some.injEq]; omega

theorem row_lt {w : World} {B : Nat} {e : TypeId} {size : Nat} {v : Value} {n : Nat} {xs : List Value} (h : w.ownsRow B e size v n xs) (i : Nat) (hi : some i = v.ownBlock) : B ≤ i ∧ i < w.heap.size := by
  obtain ⟨hl, ⟨hv, _⟩ | ⟨g, cap, cur, hv, hgB, hh, _⟩⟩ := h
  · rw [hv] at hi; simp [Value.ownBlock] at hi
  · rw [hv] at hi
    simp only [Value.ownBlock, Option.some.injEq] at hi
    subst hi
    refine ⟨hgB, ?_⟩
    rcases Nat.lt_or_ge i w.heap.size with h' | h'
    · exact h'
    · simp [Array.getElem?_eq_none h'] at hh

theorem row_texts {w : World} {B : Nat} {v : Value} {xs : List (List UInt8)} (h : TRow B w v xs) : IsTexts v xs w := by
  have hlt := row_lt h
  obtain ⟨hl, ⟨hv, h0⟩ | ⟨g, cap, cur, hv, hgB, hh, hc, hm, hs, ht⟩⟩ := h
  · exact .inl ⟨⟨none, 0, hv⟩, List.length_eq_zero_iff.1 h0⟩
  · refine .inr ⟨g, 0, cap, hv, (hlt g (by rw [hv]; rfl)).2, fun i x hx => ?_⟩
    rw [Lib.cell_of_heap hh, Nat.zero_add]
    have h1 : (cur.toList.take (xs.length * 1))[i]? = some (Value.string (bs x)) := by rw [ht]; simp [hx]
    have hi : i < xs.length := by
      rcases Nat.lt_or_ge i xs.length with h' | h'
      · exact h'
      · simp [List.getElem?_eq_none h'] at hx
    rw [List.getElem?_take_of_lt (by omega)] at h1
    simpa using h1

/-! ### readRecords -/

/-- What has been read of s. -/
def RS (s : List UInt8) (acc : List (List UInt8)) (x : List UInt8) : Prop := s = forms acc ++ x ∧ recs s = acc ++ recs x ∧ ∀ u ∈ acc, u.length ≤ 20000

theorem forms_len : ∀ (l : List (List UInt8)), l.length ≤ (forms l).length
  | [] => by simp [forms]
  | a :: l => by
    have := forms_len l
    have := form_pos a
    rw [forms_cons, List.length_append, List.length_cons]; omega

theorem RS.zero (s : List UInt8) : RS s [] s := ⟨by simp [forms], by simp, by simp⟩

theorem RS.step {s : List UInt8} {acc : List (List UInt8)} {x : List UInt8} (h : RS s acc x) (hk : recOk (x, false) = true) :
    RS s (acc ++ [(textF (x, false)).1]) (numF (textF (x, false)).2).2.1 := by
  obtain ⟨_, h2, h3, h4⟩ := rec_shape hk
  have h5 : x = formL (textF (x, false)).1 ++ (numF (textF (x, false)).2).2.1 := h4
  obtain ⟨e1, e2, e3⟩ := h
  refine ⟨?_, ?_, ?_⟩
  · rw [forms_append, List.append_assoc, show forms [(textF (x, false)).1] = formL (textF (x, false)).1 by simp [forms], ← h5]; exact e1
  · have h6 := recsR_form (textF (x, false)).1 (numF (textF (x, false)).2).2.1 h2
    rw [← h5] at h6
    rw [e2, List.append_assoc, show recs x = (textF (x, false)).1 :: recs (numF (textF (x, false)).2).2.1 by unfold recs; rw [h6]]
    rfl
  · intro u hu
    rcases List.mem_append.1 hu with hu | hu
    · exact e3 u hu
    · simp at hu; rw [hu]; exact h2

theorem RS.done {s : List UInt8} {acc : List (List UInt8)} {x : List UInt8} (h : RS s acc x) (hk : recOk (x, false) = false) : recs s = acc := by
  rw [h.2.1, show recs x = [] by unfold recs recsR; rw [recsF, if_neg (by rw [hk]; simp)]]
  simp

theorem RS.len {s : List UInt8} {acc : List (List UInt8)} {x : List UInt8} (h : RS s acc x) : (forms acc).length + x.length = s.length ∧ acc.length ≤ s.length := by
  have h1 := congrArg List.length h.1
  rw [List.length_append] at h1
  have := forms_len acc
  omega

def RRpost (s : List UInt8) (w : World) (e : Ending) (w' : World) : Prop :=
  ∃ v, e = .returned (.tuple #[v, .int .i64 ((forms (recs s)).length : Int)]) ∧ TRow w.heap.size w' v (recs s) ∧ Below w.heap.size w w'

set_option maxHeartbeats 2000000 in
set_option maxRecDepth 100000 in
theorem readrec_calls (s : List UInt8) (hs : s.length ≤ 16777216) (w : World) (hE : Env w) :
    Calls Tryz.prog 46 #[.string (bs s)] w (RRpost s w) := by
  obtain ⟨i0, hi, hz0, hz1, hz2⟩ := info_of info9
  have hZ := Lib.hid (bs_size s)
  have hlo := hE.lo
  go_enter Tryz.func46, Tryz.ntmps46
  go_wp2
  go_step3
  go_wp2_with (go_at_call 41; refine (open_reader s _).mono ?_)
  rintro e w1 ⟨rfl, hR1, hb1, hlt1⟩
  have hE1 := hE.next hb1
  go_wp2_with fail
  go_step3
  go_wp2_with fail
  go_loopw [4, 5] (fun v i wr => ∃ (acc : List (List UInt8)) (x : List UInt8), i = .int .i64 ((forms acc).length : Int) ∧ TRow w1.heap.size wr v acc ∧ Rb w.heap.size (x, false) wr ∧ w1.grownBy wr (some w.heap.size) ∧ RS s acc x) (fun _ i _ => s.length - (intOf i).toNat)
  case atStart => exact ⟨[], s, rfl, ⟨rfl, .inl ⟨rfl, rfl⟩⟩, hR1, only_refl _ _, RS.zero s⟩
  case round =>
    obtain ⟨acc, x, rfl, hown, hR, hg, hrs⟩ := hrel
    have hl1 := hrs.len.1
    have hl2 := hrs.len.2
    have HRS := Lib.hid hrs
    clear hrs
    have hs1 := hg.size
    have hE2 := hE1.only hg hlo
    obtain ⟨u, q, hT⟩ : ∃ u q, textF (x, false) = (u, q) := ⟨_, _, rfl⟩
    obtain ⟨n, y, hN⟩ : ∃ n y, numF q = (n, y) := ⟨_, _, rfl⟩
    have hql : q.1.length ≤ x.length := by have := Cod.textF_len (x, false); rw [hT] at this; exact this
    have hok : recOk (x, false) = (!y.2 && decide (u.length ≤ 20000) && decide ((sumL u : Int) = n)) := by unfold recOk; rw [hT, hN]
    have HT := Lib.hid hT
    have HN := Lib.hid hN
    have HOK := Lib.hid hok
    clear hT hN hok
    go_wp2_with (go_at_call 76; refine (rd_text _ (x, false) _ hE2 hR (by simp only; omega)).mono ?_)
    rintro e w2 ⟨rfl, hR2, hg2⟩
    rw [HT.out] at hR2 ⊢
    have hE3 := hE2.only hg2 hlo
    have hown2 := row_only hown hg2 hlt1
    have hg02 := only_trans hg hg2
    have hs2 := hg2.size
    clear hown hg hE2 hR
    go_wp2_with (go_at_call 74; refine (rd_Num _ q _ hE3 hR2 (by omega)).mono ?_)
    rintro e w3 ⟨rfl, hR3, hg3⟩
    rw [HN.out] at hR3 ⊢
    have hown3 := row_only hown2 hg3 hlt1
    have hg03 := only_trans hg02 hg3
    have hs3 := hg3.size
    have c1 := hR3.c1
    clear hown2 hg02 hR2
    have fin : recOk (x, false) = false → RRpost s w (.returned (.tuple #[u4, .int .i64 ((forms acc).length : Int)])) w3 := fun hk => by
      have e := HRS.out.done hk
      exact ⟨u4, by rw [e], by rw [e]; exact row_weak hown3 hb1.size, hb1.trans ⟨hg03.os, hg03.tape, hg03.output, hg03.size, fun i hi => hg03.block i (by omega) (by simp; omega)⟩⟩
    by_cases hf : y.2 = true
    · have F := Lib.hid (fin (by rw [HOK.out, hf]; rfl))
      clear fin
      rw [hf] at c1
      clear hf
      go_wp2
      try rw [Exit.noGoto_ret]
      refine bodyPost_ret (results_tmp2 rfl _ _ _) rfl ?_
      exact F.out
    · have hf2 : y.2 = false := by simpa using hf
      clear hf
      rw [hf2] at c1
      have HU := Lib.hid (bs_size u)
      by_cases hlen : u.length ≤ 20000
      · have hU : (bs u).size ≤ 20000 := by rw [bs_size]; exact hlen
        by_cases hsum : (sumL u : Int) = n
        · have hk : recOk (x, false) = true := by rw [HOK.out, hf2, hsum]; simp [hlen]
          have hne : ((sumL u : Int) != n) = false := by rw [hsum]; simp
          have HST := Lib.hid (HRS.out.step hk)
          rw [HT.out] at HST
          simp only at HST
          rw [HN.out] at HST
          simp only at HST
          have hgrow1 : (forms (acc ++ [u])).length = (forms acc).length + (formL u).length := by rw [forms_append, List.length_append]; simp [forms]
          have hln := HST.out.len.1
          have hle := HST.out.len.2
          have hpos := form_pos u
          clear fin hk hsum
          go_wp2_with (go_at_call 13; refine (sum_calls u (by omega) _).mono ?_)
          rintro e w4 ⟨rfl, rfl⟩
          go_wp2_with (at_builtin; refine wpList_append_own _ rfl _ _ 46 rfl w1.heap.size 9 i0 (.string ⟨#[]⟩) 1 16 Tryz.underlying46 hi hz0 hz1 hz2 rfl (by decide) _ _ _ rfl (hown3.alloc _) ⟨w3.heap.size, 0, none⟩ 1 1 [.string (bs u)] rfl rfl ?c1 ?c2 ?c3 ?c4 ?c5 ?_)
          case c1 =>
            intro j z hj
            match j, hj with
            | 0, hj => simp at hj; subst hj; simp [Addr.add]
          case c2 => intro z hz; simp at hz; subst hz; rfl
          case c3 => unfold maxLen; omega
          case c4 => omega
          case c5 => simp; omega
          intro v' w4 hown' hgrow _
          have hR4 : Rb w.heap.size y w4 := by
            have hb2 := hR3.lt
            unfold Rb at hR3 ⊢
            rw [hgrow.block _ (by simp; omega) (row_block hown3 _ hlt1), Lib.alloc_old w3 _ _ hb2]
            exact hR3
          have hg04 : w1.grownBy w4 (some w.heap.size) := by
            have ha := only_alloc hg03 (.cells #[.string (bs u)] 9)
            exact ⟨hgrow.os.trans ha.os, hgrow.tape.trans ha.tape, hgrow.output.trans ha.output, Nat.le_trans ha.size hgrow.size, fun i hi hn => (hgrow.block i (Nat.lt_of_lt_of_le hi ha.size) (row_block hown3 i hi)).trans (ha.block i hi hn)⟩
          go_wp2_with (go_at_call 81; refine (rd_Left _ y _ hR4).mono ?_)
          rintro e w5 ⟨rfl, rfl⟩
          go_wp2
          go_roundw
          case rel => exact ⟨acc ++ [u], y.1, by rw [hZ.out, w64 _ (by omega)]; congr 1; omega, by simpa [TRow] using hown', by rw [← hf2]; exact hR4, hg04, HST.out⟩
          case measure => simp only [intOf]; rw [hZ.out, w64 _ (by omega)]; omega
        · have F := Lib.hid (fin (by rw [HOK.out, decide_eq_false hsum]; simp))
          have hne : ((sumL u : Int) != n) = true := by rw [bne_iff_ne]; exact hsum
          clear fin hsum
          go_wp2_with (go_at_call 13; refine (sum_calls u (by omega) _).mono ?_)
          rintro e w4 ⟨rfl, rfl⟩
          go_wp2
          try rw [Exit.noGoto_ret]
          refine bodyPost_ret (results_tmp2 rfl _ _ _) rfl ?_
          exact F.out
      · have hU : ¬ (bs u).size ≤ 20000 := by rw [bs_size]; exact hlen
        have F := Lib.hid (fin (by rw [HOK.out, decide_eq_false hlen]; simp))
        clear fin
        go_wp2
        try rw [Exit.noGoto_ret]
        refine bodyPost_ret (results_tmp2 rfl _ _ _) rfl ?_
        exact F.out

end Go.Proofs.YtanecondopbfhaaGreatDoor
