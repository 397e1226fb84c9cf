/- The reference's reader: number, close, Num, Int, Text, Left, Done, Tail. -/
import Derived.Test.YtgpeingndefacaaDoorRefRead
namespace Go.Proofs.YtgpeingndefacaaDoor
open Go.RowKit

set_option maxHeartbeats 400000 in
set_option maxRecDepth 100000 in
theorem q_number (b : Nat) (r : Rd) (c : UInt8) (w : World) (h : Qb b r w) (hr : r.1.length ≤ 4294967296) :
    Calls Tryd.prog 48 #[.pointer (some ⟨b, 0, none⟩), .int .u8 (c.toNat : Int)] w (Rpost' b (.int .i64 (naturalF c r).1) (naturalF c r).2 w) := by
  have hd := q_ahead b r c w h hr
  by_cases hn : (digitsF c r).1 < 0
  · have e1 : naturalF c r = (0, failed) := by unfold naturalF; rw [if_pos hn]
    rw [e1]
    clear e1
    generalize digitsF c r = z at *
    obtain ⟨n, q⟩ := z
    have HD := Lib.hid hd
    clear hd
    simp only at hn
    go_enter Tryd.func48, Tryd.ntmps48
    go_wp2_with fail
    refine HD.out.mono ?_
    rintro e w1 ⟨rfl, h1, g1⟩
    go_wp2_with fail
    refine (q_fail b q _ h1).mono ?_
    rintro e w2 ⟨rfl, h2, g2⟩
    have g02 := only_trans g1 g2
    go_wp2
    go_ret
    exact ⟨rfl, h2, g02⟩
  · have e1 : naturalF c r = digitsF c r := by unfold naturalF; rw [if_neg hn]
    rw [e1]
    clear e1
    generalize digitsF c r = z at *
    obtain ⟨n, q⟩ := z
    have HD := Lib.hid hd
    clear hd
    simp only at hn
    go_enter Tryd.func48, Tryd.ntmps48
    go_wp2_with fail
    refine HD.out.mono ?_
    rintro e w1 ⟨rfl, h1, g1⟩
    go_wp2
    go_ret
    exact ⟨rfl, h1, g1⟩

set_option maxRecDepth 100000 in
theorem q_Num (b : Nat) (r : Rd) (w : World) (h : Qb b r w) (hr : r.1.length ≤ 4294967296) :
    Calls Tryd.prog 24 #[.pointer (some ⟨b, 0, none⟩)] w (Rpost' b (.int .i64 (numF r).1) (numF r).2 w) := by
  have hd := q_number b r 59 w h hr
  show Calls _ _ _ _ (Rpost' b (.int .i64 (naturalF 59 r).1) (naturalF 59 r).2 w)
  have HD := Lib.hid hd
  clear hd
  go_enter Tryd.func24, Tryd.ntmps24
  go_wp2_with fail
  refine HD.out.mono ?_
  rintro e w1 ⟨rfl, h1, g1⟩
  go_wp2
  go_ret
  exact ⟨rfl, h1, g1⟩
set_option maxRecDepth 100000 in
theorem q_Int (b : Nat) (r : Rd) (w : World) (h : Qb b r w) (hr : r.1.length ≤ 4294967296) :
    Calls Tryd.prog 26 #[.pointer (some ⟨b, 0, none⟩)] w (Rpost' b (.int .i64 (intF r).1) (intF r).2 w) := by
  have hd := q_ahead b r 59 w h hr
  show Calls _ _ _ _ (Rpost' b (.int .i64 (digitsF 59 r).1) (digitsF 59 r).2 w)
  have HD := Lib.hid hd
  clear hd
  go_enter Tryd.func26, Tryd.ntmps26
  go_wp2_with fail
  refine HD.out.mono ?_
  rintro e w1 ⟨rfl, h1, g1⟩
  go_wp2
  go_ret
  exact ⟨rfl, h1, g1⟩
set_option maxRecDepth 100000 in
theorem q_Left (b : Nat) (r : Rd) (w : World) (h : Qb b r w) :
    Calls Tryd.prog 36 #[.pointer (some ⟨b, 0, none⟩)] w fun e w' => e = .returned (.int .i64 (r.1.length : Int)) ∧ w = w' := by
  have c0 := h.c0
  have HZ := Lib.hid (bs_size r.1)
  go_enter Tryd.func36, Tryd.ntmps36
  go_wp2
  go_ret
  exact ⟨ret_int (by show ((bs r.1).size : Int) = _; rw [HZ.out]), rfl⟩
set_option maxRecDepth 100000 in
theorem q_Done (b : Nat) (r : Rd) (w : World) (h : Qb b r w) :
    Calls Tryd.prog 38 #[.pointer (some ⟨b, 0, none⟩)] w fun e w' => e = .returned (.bool (doneF r)) ∧ w = w' := by
  obtain ⟨l, f⟩ := r
  have c0 := h.c0
  have c1 := h.c1
  cases l with
  | nil =>
    have hem : (bs []).toList.isEmpty = true := by rw [Lib.toList_data, bs_data]; rfl
    cases f
    · go_enter Tryd.func38, Tryd.ntmps38
      go_wp2
      go_ret
      exact ⟨rfl, rfl⟩
    · go_enter Tryd.func38, Tryd.ntmps38
      go_wp2
      go_ret
      exact ⟨rfl, rfl⟩
  | cons d t =>
    have hem : (bs (d :: t)).toList.isEmpty = false := by rw [Lib.toList_data, bs_data]; rfl
    cases f
    · go_enter Tryd.func38, Tryd.ntmps38
      go_wp2
      go_ret
      exact ⟨rfl, rfl⟩
    · go_enter Tryd.func38, Tryd.ntmps38
      go_wp2
      go_ret
      exact ⟨rfl, rfl⟩
set_option maxRecDepth 100000 in
theorem q_Tail (b : Nat) (r : Rd) (w : World) (h : Qb b r w) :
    Calls Tryd.prog 40 #[.pointer (some ⟨b, 0, none⟩)] w (Rpost' b (.string (bs r.1)) ([], r.2) w) := by
  have c0 := h.c0
  have f0 := h.f 0
  go_enter Tryd.func40, Tryd.ntmps40
  go_wp2
  go_ret
  exact ⟨rfl, h.set0 [], only_setCell (p := ⟨b, 0, none⟩) (only_refl w b) (Or.inl rfl) _⟩

/-- Whether a closing byte stands there. -/
def closeOk (c : UInt8) (r : Rd) : Bool := match r.1 with | [] => false | d :: _ => decide (d = c)
theorem closing_flag {c : UInt8} {r : Rd} (h : r.2 = false) : (closingF c r).2 = !closeOk c r := by
  obtain ⟨l, f⟩ := r
  simp only at h
  subst h
  unfold closingF closeOk
  cases l with
  | nil => rfl
  | cons d t =>
    simp only
    by_cases hd : d = c
    · simp [hd]
    · simp [hd, failed]

set_option maxHeartbeats 400000 in
set_option maxRecDepth 100000 in
theorem q_close (b : Nat) (r : Rd) (c : UInt8) (w : World) (h : Qb b r w) (hr : r.1.length ≤ 4294967296) :
    Calls Tryd.prog 54 #[.pointer (some ⟨b, 0, none⟩), .int .u8 (c.toNat : Int)] w (Rpost' b (.bool (closeOk c r)) (closingF c r) w) := by
  obtain ⟨l, f⟩ := r
  cases l with
  | nil =>
    have c0 := h.c0
    have hem : (((bs []).size : Nat) : Int) = 0 := by rw [bs_size]; rfl
    show Calls _ _ _ _ (Rpost' b (.bool false) failed w)
    go_enter Tryd.func54, Tryd.ntmps54
    go_wp2_with fail
    refine (q_fail b _ _ h).mono ?_
    rintro e w2 ⟨rfl, h2, g2⟩
    go_wp2
    go_ret
    exact ⟨rfl, h2, g2⟩
  | cons d t =>
    have c0 := h.c0
    have f0 := h.f 0
    have hsz : 0 < (bs (d :: t)).size := by rw [bs_size]; simp
    have hsI : ((((bs (d :: t)).size : Nat) : Int) == 0) = false := beq_eq_false_iff_ne.2 (by omega)
    have hsm : (bs (d :: t)).size ≤ 4294967296 := by rw [bs_size]; exact hr
    by_cases hd : d = c
    · have e1 : closingF c (d :: t, f) = (t, f) := by unfold closingF; simp [hd]
      have e2 : closeOk c (d :: t, f) = true := by unfold closeOk; simp [hd]
      have hne : ((((bs (d :: t))[0]'hsz).toNat : Int) != (c.toNat : Int)) = false := by rw [bs_get0, hd]; simp
      rw [e1, e2]
      clear e1 e2 hd
      go_enter Tryd.func54, Tryd.ntmps54
      go_wp2
      go_ret
      rw [bs_drop]
      exact ⟨rfl, h.set0 _, only_setCell (p := ⟨b, 0, none⟩) (only_refl w b) (Or.inl rfl) _⟩
    · have e1 : closingF c (d :: t, f) = failed := by unfold closingF; simp [hd]
      have e2 : closeOk c (d :: t, f) = false := by unfold closeOk; simp [hd]
      have hne : ((((bs (d :: t))[0]'hsz).toNat : Int) != (c.toNat : Int)) = true := by
        rw [bs_get0, bne_iff_ne]
        intro e
        exact hd (UInt8.toNat_inj.1 (by omega))
      rw [e1, e2]
      clear e1 e2 hd
      go_enter Tryd.func54, Tryd.ntmps54
      go_wp2_with fail
      refine (q_fail b _ _ h).mono ?_
      rintro e w2 ⟨rfl, h2, g2⟩
      go_wp2
      go_ret
      exact ⟨rfl, h2, g2⟩

/-- How Text goes on behind the number. -/
theorem textF_cases (r : Rd) (ho : okRd r) : ((naturalF 58 r).2.2 = true ∧ textF r = ([], failed)) ∨
    ((naturalF 58 r).2.2 = false ∧ ((naturalF 58 r).2.1.length : Int) ≤ (naturalF 58 r).1 ∧ textF r = ([], failed)) ∨
    ((naturalF 58 r).2.2 = false ∧ (naturalF 58 r).1 < ((naturalF 58 r).2.1.length : Int) ∧ textF r = (if closeOk 44 ((naturalF 58 r).2.1.drop (naturalF 58 r).1.toNat, false) = true then (naturalF 58 r).2.1.take (naturalF 58 r).1.toNat else [], closingF 44 ((naturalF 58 r).2.1.drop (naturalF 58 r).1.toNat, false))) := by
  have hn := naturalF_int 58 r
  have hok := naturalF_ok (c := 58) ho
  unfold textF
  generalize naturalF 58 r = z at *
  obtain ⟨n, l, f⟩ := z
  simp only at *
  cases f
  · right
    by_cases h1 : (l.length : Int) ≤ n
    · left
      refine ⟨rfl, h1, ?_⟩
      by_cases h2 : (l.length : Int) < n
      · rw [if_pos h2]
      · rw [if_neg h2]
        have : l.drop n.toNat = [] := List.drop_eq_nil_of_le (by omega)
        rw [this]
        rfl
    · right
      refine ⟨rfl, by omega, ?_⟩
      rw [if_neg (by omega)]
      simp only [closing_flag (c := 44) (r := (l.drop n.toNat, false)) rfl]
      cases hc : closeOk 44 (l.drop n.toNat, false)
      · simp
      · simp
  · left
    have hl : l = [] := hok rfl
    subst hl
    refine ⟨rfl, ?_⟩
    by_cases h2 : (([] : List UInt8).length : Int) < n
    · rw [if_pos h2]
    · rw [if_neg h2]
      simp [closingF, failed]

set_option maxHeartbeats 400000 in
set_option maxRecDepth 100000 in
theorem q_text (b : Nat) (r : Rd) (w : World) (h : Qb b r w) (hr : r.1.length ≤ 4294967296) (ho : okRd r) :
    Calls Tryd.prog 28 #[.pointer (some ⟨b, 0, none⟩)] w (Rpost' b (.string (bs (textF r).1)) (textF r).2 w) := by
  have hd := q_number b r 58 w h hr
  have hn0 := naturalF_int 58 r
  have hl := naturalF_len 58 r
  have hcs := textF_cases r ho
  generalize textF r = y at *
  generalize naturalF 58 r = z at *
  obtain ⟨n, q, f⟩ := z
  obtain ⟨k, rfl⟩ := Int.eq_ofNat_of_zero_le hn0.1
  simp only [Int.toNat_natCast] at *
  have hk2 : k ≤ 9223372036854775807 := by omega
  have hsm : (bs q).size ≤ 4294967296 := by rw [bs_size]; omega
  have HZ := Lib.hid (bs_size q)
  have HD := Lib.hid hd
  clear hd hn0
  rcases hcs with ⟨rfl, hy⟩ | ⟨rfl, hlt, hy⟩ | ⟨rfl, hlt, hy⟩
  · rw [hy]
    clear hy
    go_enter Tryd.func28, Tryd.ntmps28
    go_wp2_with fail
    refine HD.out.mono ?_
    rintro e w1 ⟨rfl, h1, g1⟩
    have c0 := h1.c0
    have c1 := h1.c1
    go_wp2_with fail
    refine (q_fail b _ _ h1).mono ?_
    rintro e w2 ⟨rfl, h2, g2⟩
    have g02 := only_trans g1 g2
    go_wp2
    go_ret
    exact ⟨rfl, h2, g02⟩
  · rw [hy]
    have hlt2 : (bs q).size ≤ k := by rw [HZ.out]; omega
    clear hy hlt
    go_enter Tryd.func28, Tryd.ntmps28
    go_wp2_with fail
    refine HD.out.mono ?_
    rintro e w1 ⟨rfl, h1, g1⟩
    have c0 := h1.c0
    have c1 := h1.c1
    go_wp2_with fail
    refine (q_fail b _ _ h1).mono ?_
    rintro e w2 ⟨rfl, h2, g2⟩
    have g02 := only_trans g1 g2
    go_wp2
    go_ret
    exact ⟨rfl, h2, g02⟩
  · have hlt2 : k < (bs q).size := by rw [HZ.out]; omega
    clear hlt
    have HY := Lib.hid hy
    clear hy
    go_enter Tryd.func28, Tryd.ntmps28
    go_wp2_with fail
    refine HD.out.mono ?_
    rintro e w1 ⟨rfl, h1, g1⟩
    have c0 := h1.c0
    have c1 := h1.c1
    have f0 := h1.f 0
    go_wp2_with fail
    rw [bs_drop]
    refine (q_close b (q.drop k, false) 44 _ (h1.set0 _) (by simp only [List.length_drop]; omega)).mono ?_
    generalize hco : closeOk 44 (q.drop k, false) = co
    have HC := Lib.hid hco
    clear hco
    rintro e w2 ⟨rfl, h2, g2⟩
    have g02 := only_trans (only_setCell (p := ⟨b, 0, none⟩) g1 (Or.inl rfl) _) g2
    cases co
    · go_wp2
      go_ret
      rw [HY.out, HC.out]
      exact ⟨rfl, h2, g02⟩
    · go_wp2
      go_ret
      rw [HY.out, HC.out, bs_take]
      exact ⟨rfl, h2, g02⟩
end Go.Proofs.YtgpeingndefacaaDoor
