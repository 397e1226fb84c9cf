/- The reader's methods Num, Int, Left, Done, Rest, Nums and Texts. -/
import Derived.Test.YtgpeingndefacaaDoorRead2
namespace Go.Proofs.YtgpeingndefacaaDoor
open Go.RowKit

set_option maxRecDepth 100000 in
theorem rd_Num (b : Nat) (r : Rd) (w : World) (hE : Env w) (h : Rb b r w) (hr : r.1.length ≤ 4294967296) :
    Calls Tryd.prog 23 #[.pointer (some ⟨b, 0, none⟩)] w (Rpost b (.int .i64 (numF r).1) (numF r).2 w) := by
  have hd := rd_natural b r 59 w hE h hr
  show Calls _ _ _ _ (Rpost b (.int .i64 (naturalF 59 r).1) (naturalF 59 r).2 w)
  have HD := Lib.hid hd
  clear hd
  go_enter Tryd.func23, Tryd.ntmps23
  go_wp2_with fail
  refine HD.out.mono ?_
  rintro e w1 ⟨rfl, h1, g1⟩
  go_wp2
  go_ret
  exact ⟨rfl, h1, g1⟩
set_option maxRecDepth 100000 in
theorem rd_Int (b : Nat) (r : Rd) (w : World) (hE : Env w) (h : Rb b r w) (hr : r.1.length ≤ 4294967296) :
    Calls Tryd.prog 25 #[.pointer (some ⟨b, 0, none⟩)] w (Rpost b (.int .i64 (intF r).1) (intF r).2 w) := by
  have hd := rd_digits b r 59 w hE h hr
  show Calls _ _ _ _ (Rpost b (.int .i64 (digitsF 59 r).1) (digitsF 59 r).2 w)
  have HD := Lib.hid hd
  clear hd
  go_enter Tryd.func25, Tryd.ntmps25
  go_wp2_with fail
  refine HD.out.mono ?_
  rintro e w1 ⟨rfl, h1, g1⟩
  go_wp2
  go_ret
  exact ⟨rfl, h1, g1⟩
set_option maxRecDepth 100000 in
theorem rd_Left (b : Nat) (r : Rd) (w : World) (h : Rb b r w) :
    Calls Tryd.prog 35 #[.pointer (some ⟨b, 0, none⟩)] w fun e w' => e = .returned (.int .i64 (r.1.length : Int)) ∧ w = w' := by
  have c0 := h.c0
  have HZ := Lib.hid (bs_size r.1)
  go_enter Tryd.func35, Tryd.ntmps35
  go_wp2
  go_ret
  exact ⟨ret_int (by show ((bs r.1).size : Int) = _; rw [HZ.out]), rfl⟩

/-- What Done answers. -/
def doneF (r : Rd) : Bool := !r.2 && r.1.isEmpty
theorem ret_bool {a b : Bool} (h : a = b) : Ending.returned (.bool a) = .returned (.bool b) := by rw [h]
set_option maxRecDepth 100000 in
theorem rd_Done (b : Nat) (r : Rd) (w : World) (h : Rb b r w) :
    Calls Tryd.prog 37 #[.pointer (some ⟨b, 0, none⟩)] w fun e w' => e = .returned (.bool (doneF r)) ∧ w = w' := by
  obtain ⟨l, f⟩ := r
  have c0 := h.c0
  have c1 := h.c1
  cases l with
  | nil =>
    have hem : (bs []).toList.isEmpty = true := by rw [Lib.toList_data, bs_data]; rfl
    cases f
    · go_enter Tryd.func37, Tryd.ntmps37
      go_wp2
      go_ret
      exact ⟨rfl, rfl⟩
    · go_enter Tryd.func37, Tryd.ntmps37
      go_wp2
      go_ret
      exact ⟨rfl, rfl⟩
  | cons d t =>
    have hem : (bs (d :: t)).toList.isEmpty = false := by rw [Lib.toList_data, bs_data]; rfl
    cases f
    · go_enter Tryd.func37, Tryd.ntmps37
      go_wp2
      go_ret
      exact ⟨rfl, rfl⟩
    · go_enter Tryd.func37, Tryd.ntmps37
      go_wp2
      go_ret
      exact ⟨rfl, rfl⟩

set_option maxRecDepth 100000 in
theorem rd_Rest (b : Nat) (r : Rd) (w : World) (h : Rb b r w) :
    Calls Tryd.prog 39 #[.pointer (some ⟨b, 0, none⟩)] w (Rpost b (.string (bs r.1)) ([], r.2) w) := by
  have c0 := h.c0
  have f0 := h.f 0
  go_enter Tryd.func39, Tryd.ntmps39
  go_wp2
  go_ret
  exact ⟨rfl, h.set0 [], only_setCell (p := ⟨b, 0, none⟩) (only_refl w b) (Or.inl rfl) _⟩

/-! ### lists -/
theorem owns_only {w w' : World} {B b : Nat} {e : TypeId} {size : Nat} {v : Value} {n : Nat} {xs : List Value} (h : w.ownsRow B e size v n xs) (hg : w.grownBy w' (some b)) (hb : b < B) : w'.ownsRow B e size v n xs := by
  obtain ⟨hl, h0 | ⟨g, cap, cur, hv, hgB, hh, r⟩⟩ := h
  · exact ⟨hl, .inl h0⟩
  · have hlt : g < w.heap.size := by
      rcases Nat.lt_or_ge g w.heap.size with h' | h'
      · exact h'
      · simp [Array.getElem?_eq_none h'] at hh
    exact ⟨hl, .inr ⟨g, cap, cur, hv, hgB, by rw [hg.block g hlt (by simp; omega)]; exact hh, r⟩⟩
theorem owns_block {w : World} {B : Nat} {e : TypeId} {size : Nat} {v : Value} {n : Nat} {xs : List Value} (h : w.ownsRow B e size v n xs) (i : Nat) (hi : i < B) : some i ≠ v.ownBlock := by
  obtain ⟨hl, ⟨hv, _⟩ | ⟨g, cap, cur, hv, hgB, _⟩⟩ := h
  · rw [hv]; simp [Value.ownBlock]
  · rw [hv]; simp only [Value.ownBlock, ne_eq, Option.some.injEq]; omega
theorem owns_ints {w : World} {B : Nat} {v : Value} {xs : List Int} (h : w.ownsRow B 3 1 v xs.length (xs.map (Value.int .i64))) : IsInts v xs w := by
  obtain ⟨hl, ⟨hv, h0⟩ | ⟨g, cap, cur, hv, hgB, hh, hc, hm, hs, ht⟩⟩ := h
  · exact .inl ⟨⟨none, 0, hv⟩, List.length_eq_zero_iff.1 h0⟩
  · have hlt : g < w.heap.size := by
      rcases Nat.lt_or_ge g w.heap.size with h' | h'
      · exact h'
      · simp [Array.getElem?_eq_none h'] at hh
    refine .inr ⟨g, 0, cap, hv, hlt, fun i x hx => ?_⟩
    rw [Lib.cell_of_heap hh, Nat.zero_add]
    have hi : i < xs.length := (List.getElem?_eq_some_iff.1 hx).1
    have h1 : (cur.toList.take (xs.length * 1))[i]? = some (.int .i64 x) := by rw [ht]; simp [hx]
    rw [List.getElem?_take_of_lt (by omega)] at h1
    simpa using h1
theorem owns_texts {w : World} {B : Nat} {v : Value} {xs : List (List UInt8)} (h : w.ownsRow B 9 1 v xs.length (xs.map fun s => Value.string (bs s))) : IsTexts v xs w := by
  obtain ⟨hl, ⟨hv, h0⟩ | ⟨g, cap, cur, hv, hgB, hh, hc, hm, hs, ht⟩⟩ := h
  · exact .inl ⟨⟨none, 0, hv⟩, List.length_eq_zero_iff.1 h0⟩
  · have hlt : g < w.heap.size := by
      rcases Nat.lt_or_ge g w.heap.size with h' | h'
      · exact h'
      · simp [Array.getElem?_eq_none h'] at hh
    refine .inr ⟨g, 0, cap, hv, hlt, fun i x hx => ?_⟩
    rw [Lib.cell_of_heap hh, Nat.zero_add]
    have hi : i < xs.length := (List.getElem?_eq_some_iff.1 hx).1
    have h1 : (cur.toList.take (xs.length * 1))[i]? = some (.string (bs x)) := by rw [ht]; simp [hx]
    rw [List.getElem?_take_of_lt (by omega)] at h1
    simpa using h1

theorem digitsF_short {c : UInt8} {r : Rd} (h : (digitsF c r).2.2 = false) : (digitsF c r).2.1.length + 1 ≤ r.1.length := by
  have := congrArg List.length (digitsF_read h).2
  simp at this; omega
theorem intF_short {r : Rd} (h : (intF r).2.2 = false) : (intF r).2.1.length + 1 ≤ r.1.length := digitsF_short h
theorem textF_short {r : Rd} (h : (textF r).2.2 = false) : (textF r).2.1.length + 1 ≤ r.1.length := by
  have := congrArg List.length (textF_read h).2
  simp [textS] at this; omega
theorem intF_failed {r : Rd} (h : okRd r) (hf : (intF r).2.2 = true) : (intF r).2.1 = [] := digitsF_ok (c := 59) h hf

/-- How many cells a list of this reader can have. -/
def room (n : Nat) (q : Rd) : Nat := n + q.1.length + if q.2 = true then 0 else 1
theorem room_step {α : Type} (one : Rd → α × Rd) (hs : ∀ r, (one r).2.2 = false → (one r).2.1.length + 1 ≤ r.1.length) (ho : ∀ r, okRd r → okRd (one r).2) (n : Nat) (q : Rd) (hq : okRd q) (hf : q.2 = false) :
    room (n + 1) (one q).2 ≤ room n q := by
  unfold room
  rw [hf]
  cases h : (one q).2.2
  · have := hs q h
    simp; omega
  · have := ho q hq h
    rw [this]; simp

/-- At a loop's head: what has been read, and what the rest of the loop will read. -/
def headF {α : Type} (one : Rd → α × Rd) (N : Nat) (q0 : Rd) (k : Nat) (acc : List α) (q : Rd) : Prop :=
  loopF one N q0 = (acc ++ (loopF one k q).1, (loopF one k q).2)
theorem headF_start {α : Type} (one : Rd → α × Rd) (N : Nat) (q0 : Rd) : headF one N q0 N [] q0 := by unfold headF; simp
theorem headF_step {α : Type} {one : Rd → α × Rd} {N : Nat} {q0 : Rd} {k : Nat} {acc : List α} {q : Rd} (h : headF one N q0 (k + 1) acc q) (hf : q.2 = false) : headF one N q0 k (acc ++ [(one q).1]) (one q).2 := by
  unfold headF at h ⊢
  rw [h]
  simp [loopF, hf]
theorem headF_done {α : Type} {one : Rd → α × Rd} {N : Nat} {q0 : Rd} {k : Nat} {acc : List α} {q : Rd} (h : headF one N q0 k acc q) (hd : k = 0 ∨ q.2 = true) : loopF one N q0 = (acc, q) := by
  unfold headF at h
  rw [h]
  cases k with
  | zero => simp [loopF]
  | succ k =>
    have : q.2 = true := by
      rcases hd with hd | hd
      · omega
      · exact hd
    simp [loopF, this]

theorem info3 : (Tryd.prog.info? 3).map (fun i => (i.zero, i.size, i.bytes)) = some (some (.int .i64 0), 1, 8) := by kernel_rfl
theorem info9 : (Tryd.prog.info? 9).map (fun i => (i.zero, i.size, i.bytes)) = some (some (.string ⟨#[]⟩), 1, 16) := by kernel_rfl

/-- What reading a list of ints leaves. -/
def IntsPost (b : Nat) (x : List Int × Rd) (w : World) (e : Ending) (w' : World) : Prop := ∃ v, e = .returned v ∧ IsInts v x.1 w' ∧ Rb b x.2 w' ∧ w.grownBy w' (some b)
/-- What reading a list of strings leaves. -/
def TextsPost (b : Nat) (x : List (List UInt8) × Rd) (w : World) (e : Ending) (w' : World) : Prop := ∃ v, e = .returned v ∧ IsTexts v x.1 w' ∧ Rb b x.2 w' ∧ w.grownBy w' (some b)
/-- How a list ends. -/
def endF {α : Type} (l : List α × Rd) : List α × Rd := if (closingF 93 l.2).2 = true then ([], closingF 93 l.2) else (l.1, closingF 93 l.2)

set_option maxHeartbeats 1000000 in
set_option maxRecDepth 100000 in
theorem readList_int (b : Nat) (r : Rd) (w : World) (hE : Env w) (h : Rb b r w) (hr : r.1.length ≤ 4294967296) (ho : okRd r) (hb6 : 6 ≤ b) :
    Calls Tryd.prog 55 #[.pointer (some ⟨b, 0, none⟩), .func (.func 25) #[.pointer (some ⟨b, 0, none⟩)] #[]] w (IntsPost b (numsF r) w) := by
  obtain ⟨i0, hi, hz0, hz1, hz2⟩ := info_parts info3
  have hd := rd_natural b r 91 w hE h hr
  have hn0 := naturalF_int 91 r
  have hl := naturalF_len 91 r
  have hok := naturalF_ok (c := 91) ho
  have hbl := h.lt
  have e1 : numsF r = endF (loopF intF (naturalF 91 r).1.toNat (naturalF 91 r).2) := rfl
  rw [e1]
  clear e1
  generalize naturalF 91 r = z at *
  obtain ⟨n, q0⟩ := z
  obtain ⟨N, rfl⟩ := Int.eq_ofNat_of_zero_le hn0.1
  simp only [Int.toNat_natCast] at *
  have hN : N ≤ 9223372036854775807 := by omega
  have HD := Lib.hid hd
  have HO := Lib.hid hok
  have hex : ∃ y, y = endF (loopF intF N q0) := ⟨_, rfl⟩
  obtain ⟨y, hy⟩ := hex
  rw [← hy]
  have HY := Lib.hid hy
  clear hd hn0 ho hok hy
  go_enter Tryd.func55, Tryd.ntmps55
  go_wp2_with fail
  refine HD.out.mono ?_
  rintro e w1 ⟨rfl, h1, g1⟩
  have HG := Lib.hid (headF_start intF N q0)
  go_wp2_with fail
  go_loopw [5, 6] (fun v i wr => ∃ (k : Nat) (acc : List Int) (q : Rd), k ≤ N ∧ i = .int .i64 k ∧ wr.ownsRow w.heap.size 3 1 v acc.length (acc.map (Value.int .i64)) ∧ Rb b q wr ∧ w.grownBy wr (some b) ∧ okRd q ∧ headF intF N q0 k acc q ∧ room acc.length q ≤ 4294967297 ∧ q.1.length ≤ 4294967296) (fun _ i _ => (intOf i).toNat)
  case atStart => exact ⟨N, [], q0, Nat.le_refl _, rfl, ⟨rfl, .inl ⟨rfl, rfl⟩⟩, h1, g1, HO.out, HG.out, by unfold room; simp; split <;> omega, by omega⟩
  case round =>
    obtain ⟨k, acc, q, hk, rfl, hown, hR, hg, hq, hH, hroom, hql⟩ := hrel
    have HH := Lib.hid hH
    have HQ := Lib.hid hq
    clear hH hq
    have hs := hg.size
    have c1 := hR.c1
    by_cases hgo : 0 < k ∧ q.2 = false
    · obtain ⟨hk0, hf⟩ := hgo
      have HF := Lib.hid hf
      rw [hf] at c1
      clear hf
      have hdec : decide (0 < (k : Int)) = true := by simp; omega
      obtain ⟨k', rfl⟩ : ∃ k', k = k' + 1 := ⟨k - 1, by omega⟩
      have HH2 := Lib.hid (headF_step HH.out HF.out)
      have hrm := room_step intF (fun r => intF_short) (fun r => digitsF_ok) acc.length q HQ.out HF.out
      have hq2 := Lib.hid (digitsF_ok (c := 59) HQ.out)
      have hln := digitsF_len 59 q
      go_wp2_with fail
      refine (rd_Int b q _ (hE.only hg hb6) hR hql).mono ?_
      rintro e w2 ⟨rfl, hR2, hg2⟩
      have hown2 := owns_only hown hg2 hbl
      have hs2 := hg2.size
      have hg02 := only_trans hg hg2
      clear hown hg
      go_wp2_with (at_builtin; refine wpList_append_own _ rfl _ _ 22 rfl w.heap.size 3 i0 (.int .i64 0) 1 8 Tryd.underlying22 hi hz0 hz1 hz2 rfl (by decide) _ _ _ rfl (hown2.alloc _) ⟨w2.heap.size, 0, none⟩ 1 1 [.int .i64 (intF q).1] rfl rfl ?c1 ?c2 ?c3 ?c4 ?c5 ?_)
      case c1 =>
        intro j u hj
        match j, hj with
        | 0, hj => simp at hj; subst hj; simp [Addr.add]
      case c2 => intro u hu; simp at hu; subst hu; rfl
      case c3 => unfold maxLen; unfold room at hroom; omega
      case c4 => unfold room at hroom; omega
      case c5 => simp; omega
      intro v' w3 hown' hgrow _
      have hR3 : Rb b (intF q).2 w3 := by
        have hb2 := hR2.lt
        unfold Rb at hR2 ⊢
        rw [hgrow.block b (by simp; omega) (owns_block hown2 b hbl), Lib.alloc_old w2 _ b hb2]
        exact hR2
      have hg03 : w.grownBy w3 (some b) := by
        have ha := only_alloc hg02 (.cells #[.int .i64 (intF q).1] 3)
        exact ⟨hgrow.os.trans ha.os, hgrow.tape.trans ha.tape, hgrow.output.trans ha.output, Nat.le_trans ha.size hgrow.size, fun i hi hn => (hgrow.block i (Nat.lt_of_lt_of_le hi ha.size) (owns_block hown2 i hi)).trans (ha.block i hi hn)⟩
      go_wp2
      go_roundw
      case rel => exact ⟨k', acc ++ [(intF q).1], (intF q).2, by omega, by go_num, by simpa using hown', hR3, hg03, hq2.out, HH2.out, by rw [List.length_append]; exact Nat.le_trans hrm hroom, by have : (intF q).2.1.length ≤ q.1.length := hln; omega⟩
      case measure => simp [intOf]
    · have hdone := headF_done HH.out (show k = 0 ∨ q.2 = true by
        by_cases h0 : k = 0
        · exact .inl h0
        · right
          cases hq2 : q.2
          · exact absurd ⟨by omega, hq2⟩ hgo
          · rfl)
      have hend : y = if (closingF 93 q).2 = true then ([], closingF 93 q) else (acc, closingF 93 q) := by rw [HY.out, hdone]; rfl
      clear hdone
      generalize hff : (closingF 93 q).2 = ff at hend
      have HF := Lib.hid hff
      clear hff
      have hcase : (k = 0 ∧ decide (0 < (k : Int)) = false) ∨ (0 < k ∧ decide (0 < (k : Int)) = true ∧ q.2 = true) := by
        by_cases h0 : k = 0
        · subst h0; left; exact ⟨rfl, by decide⟩
        · right
          refine ⟨by omega, by simp; omega, ?_⟩
          cases hq2 : q.2
          · exact absurd ⟨by omega, hq2⟩ hgo
          · rfl
      clear hgo
      cases ff
      · have HE2 := Lib.hid (show y = (acc, closingF 93 q) by rw [hend]; rfl)
        clear hend
        rcases hcase with ⟨rfl, hdec⟩ | ⟨hk0, hdec, hq2⟩
        · clear hdec
          go_wp2_with fail
          refine (rd_closing b q 93 _ hR).mono ?_
          rintro e w2 ⟨rfl, hR2, hg2⟩
          have hown2 := owns_only hown hg2 hbl
          have hg02 := only_trans hg hg2
          have d1 := hR2.c1
          rw [HF.out] at d1
          go_wp2
          go_ret
          exact ⟨_, rfl, by rw [HE2.out]; exact owns_ints hown2, by rw [HE2.out]; exact hR2, hg02⟩
        · rw [hq2] at c1
          clear hq2
          go_wp2_with fail
          refine (rd_closing b q 93 _ hR).mono ?_
          rintro e w2 ⟨rfl, hR2, hg2⟩
          have hown2 := owns_only hown hg2 hbl
          have hg02 := only_trans hg hg2
          have d1 := hR2.c1
          rw [HF.out] at d1
          go_wp2
          go_ret
          exact ⟨_, rfl, by rw [HE2.out]; exact owns_ints hown2, by rw [HE2.out]; exact hR2, hg02⟩
      · have HE2 := Lib.hid (show y = ([], closingF 93 q) by rw [hend]; rfl)
        clear hend
        rcases hcase with ⟨rfl, hdec⟩ | ⟨hk0, hdec, hq2⟩
        · clear hdec
          go_wp2_with fail
          refine (rd_closing b q 93 _ hR).mono ?_
          rintro e w2 ⟨rfl, hR2, hg2⟩
          have hg02 := only_trans hg hg2
          have d1 := hR2.c1
          rw [HF.out] at d1
          go_wp2
          go_ret
          exact ⟨_, rfl, by rw [HE2.out]; exact .inl ⟨⟨none, 0, rfl⟩, rfl⟩, by rw [HE2.out]; exact hR2, hg02⟩
        · rw [hq2] at c1
          clear hq2
          go_wp2_with fail
          refine (rd_closing b q 93 _ hR).mono ?_
          rintro e w2 ⟨rfl, hR2, hg2⟩
          have hg02 := only_trans hg hg2
          have d1 := hR2.c1
          rw [HF.out] at d1
          go_wp2
          go_ret
          exact ⟨_, rfl, by rw [HE2.out]; exact .inl ⟨⟨none, 0, rfl⟩, rfl⟩, by rw [HE2.out]; exact hR2, hg02⟩

end Go.Proofs.YtgpeingndefacaaDoor
