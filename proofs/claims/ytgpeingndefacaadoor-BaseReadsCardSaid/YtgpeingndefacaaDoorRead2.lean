/- The reader's methods digits, natural, closing, Text, Num, Int, Left, Done, Rest. -/
import Derived.Test.YtgpeingndefacaaDoorRead
namespace Go.Proofs.YtgpeingndefacaaDoor
open Go.RowKit

theorem ret_int {a b : Int} (h : a = b) : Ending.returned (.int .i64 a) = .returned (.int .i64 b) := by rw [h]
theorem ib_hit (l : List UInt8) (c : UInt8) (i : Nat) (h : Lib.indexByte l c = (i : Int)) (w : World) :
    Calls Tryd.prog 62 #[.string (bs l), .int .u8 (c.toNat : Int)] w fun e w' => e = .returned (.int .i64 (i : Int)) ∧ w = w' := by
  have := ib_any l c w
  rw [h] at this
  exact this
theorem ib_miss (l : List UInt8) (c : UInt8) (h : Lib.indexByte l c = -1) (w : World) :
    Calls Tryd.prog 62 #[.string (bs l), .int .u8 (c.toNat : Int)] w fun e w' => e = .returned (.int .i64 (-1)) ∧ w = w' := by
  have := ib_any l c w
  rw [h] at this
  exact this

/-- What a method of the reader leaves. -/
def Rpost (b : Nat) (v : Value) (r : Rd) (w : World) (e : Ending) (w' : World) : Prop := e = .returned v ∧ Rb b r w' ∧ w.grownBy w' (some b)

set_option maxHeartbeats 400000 in
set_option maxRecDepth 100000 in
theorem rd_digits_miss (b : Nat) (r : Rd) (c : UInt8) (w : World) (h : Rb b r w) (hi : Lib.indexByte r.1 c = -1) :
    Calls Tryd.prog 49 #[.pointer (some ⟨b, 0, none⟩), .int .u8 (c.toNat : Int)] w (Rpost b (.int .i64 (digitsF c r).1) (digitsF c r).2 w) := by
  have e1 : digitsF c r = (0, failed) := by unfold digitsF; rw [if_pos (by omega)]
  have H := Lib.hid e1
  have HI := Lib.hid hi
  clear e1 hi
  have c0 := h.c0
  rw [H.out]
  go_enter Tryd.func49, Tryd.ntmps49
  go_wp2_with fail
  refine (ib_miss r.1 c HI.out _).mono ?_
  rintro e w1 ⟨rfl, rfl⟩
  go_wp2_with fail
  refine (rd_fail b r _ h).mono ?_
  rintro e w1 ⟨rfl, h1, g1⟩
  go_wp2
  go_ret
  exact ⟨rfl, h1, g1⟩

set_option maxHeartbeats 400000 in
set_option maxRecDepth 100000 in
theorem rd_digits_bad (b : Nat) (r : Rd) (c : UInt8) (i : Nat) (w : World) (hE : Env w) (h : Rb b r w) (hi : Lib.indexByte r.1 c = (i : Int)) (hil : i < r.1.length) (hr : r.1.length ≤ 4294967296) (hcan : canon (r.1.take i) = none) :
    Calls Tryd.prog 49 #[.pointer (some ⟨b, 0, none⟩), .int .u8 (c.toNat : Int)] w (Rpost b (.int .i64 (digitsF c r).1) (digitsF c r).2 w) := by
  have e1 : digitsF c r = (0, failed) := by unfold digitsF; rw [hi, if_neg (by omega), Int.toNat_natCast, hcan]
  have H := Lib.hid e1
  have HI := Lib.hid hi
  have HC := Lib.hid hcan
  have hsz : i ≤ (bs r.1).size := by rw [bs_size]; omega
  have hsm : (bs r.1).size ≤ 4294967296 := by rw [bs_size]; exact hr
  clear e1 hi hcan
  have c0 := h.c0
  rw [H.out]
  go_enter Tryd.func49, Tryd.ntmps49
  go_wp2_with fail
  refine (ib_hit r.1 c i HI.out _).mono ?_
  rintro e w1 ⟨rfl, rfl⟩
  go_wp2_with fail
  rw [bs_take]
  refine (canonical (r.1.take i) (by simp; omega) _ hE).mono ?_
  rw [HC.out]
  rintro e w1 ⟨rfl, hb1⟩
  have h1 := h.next hb1
  go_wp2_with fail
  refine (rd_fail b r _ h1).mono ?_
  rintro e w2 ⟨rfl, h2, g2⟩
  have g02 := only_trans (only_below (only_refl w b) hb1) g2
  go_wp2
  go_ret
  exact ⟨rfl, h2, g02⟩

set_option maxHeartbeats 400000 in
set_option maxRecDepth 100000 in
theorem rd_digits_good (b : Nat) (r : Rd) (c : UInt8) (i : Nat) (n : Int) (w : World) (hE : Env w) (h : Rb b r w) (hi : Lib.indexByte r.1 c = (i : Int)) (hil : i < r.1.length) (hr : r.1.length ≤ 4294967296) (hcan : canon (r.1.take i) = some n) :
    Calls Tryd.prog 49 #[.pointer (some ⟨b, 0, none⟩), .int .u8 (c.toNat : Int)] w (Rpost b (.int .i64 (digitsF c r).1) (digitsF c r).2 w) := by
  have e1 : digitsF c r = (n, (r.1.drop (i + 1), r.2)) := by unfold digitsF; rw [hi, if_neg (by omega), Int.toNat_natCast, hcan]
  have H := Lib.hid e1
  have HI := Lib.hid hi
  have HC := Lib.hid hcan
  have hsz : i < (bs r.1).size := by rw [bs_size]; omega
  have hsm : (bs r.1).size ≤ 4294967296 := by rw [bs_size]; exact hr
  clear e1 hi hcan
  have c0 := h.c0
  rw [H.out]
  go_enter Tryd.func49, Tryd.ntmps49
  go_wp2_with fail
  refine (ib_hit r.1 c i HI.out _).mono ?_
  rintro e w1 ⟨rfl, rfl⟩
  go_wp2_with fail
  rw [bs_take]
  refine (canonical (r.1.take i) (by simp; omega) _ hE).mono ?_
  rw [HC.out]
  rintro e w1 ⟨rfl, hb1⟩
  have h1 := h.next hb1
  have d0 := h1.c0
  have f0 := h1.f 0
  go_wp2
  go_ret
  rw [bs_drop]
  exact ⟨rfl, h1.set0 _, only_setCell (p := ⟨b, 0, none⟩) (only_below (only_refl w b) hb1) (Or.inl rfl) _⟩
theorem rd_digits (b : Nat) (r : Rd) (c : UInt8) (w : World) (hE : Env w) (h : Rb b r w) (hr : r.1.length ≤ 4294967296) :
    Calls Tryd.prog 49 #[.pointer (some ⟨b, 0, none⟩), .int .u8 (c.toNat : Int)] w (Rpost b (.int .i64 (digitsF c r).1) (digitsF c r).2 w) := by
  by_cases hi : Lib.indexByte r.1 c = -1
  · exact rd_digits_miss b r c w h hi
  · have h0 : 0 ≤ Lib.indexByte r.1 c := by have := Lib.indexByte_ge r.1 c; omega
    obtain ⟨a, m, e, hi2⟩ := indexByte_hit c r.1 h0
    have hil : a.length < r.1.length := by rw [e]; simp
    cases hcan : canon (r.1.take a.length) with
    | none => exact rd_digits_bad b r c a.length w hE h hi2 hil hr hcan
    | some n => exact rd_digits_good b r c a.length n w hE h hi2 hil hr hcan

set_option maxHeartbeats 400000 in
set_option maxRecDepth 100000 in
theorem rd_natural (b : Nat) (r : Rd) (c : UInt8) (w : World) (hE : Env w) (h : Rb b r w) (hr : r.1.length ≤ 4294967296) :
    Calls Tryd.prog 47 #[.pointer (some ⟨b, 0, none⟩), .int .u8 (c.toNat : Int)] w (Rpost b (.int .i64 (naturalF c r).1) (naturalF c r).2 w) := by
  have hd := rd_digits b r c w hE h hr
  by_cases hn : (digitsF c r).1 < 0
  · have e1 : naturalF c r = (0, failed) := by unfold naturalF; rw [if_pos hn]
    rw [e1]
    clear e1
    generalize digitsF c r = z at *
    obtain ⟨n, q⟩ := z
    have HD := Lib.hid hd
    clear hd
    simp only at hn
    go_enter Tryd.func47, Tryd.ntmps47
    go_wp2_with fail
    refine HD.out.mono ?_
    rintro e w1 ⟨rfl, h1, g1⟩
    go_wp2_with fail
    refine (rd_fail b q _ h1).mono ?_
    rintro e w2 ⟨rfl, h2, g2⟩
    have g02 := only_trans g1 g2
    go_wp2
    go_ret
    exact ⟨rfl, h2, g02⟩
  · have e1 : naturalF c r = digitsF c r := by unfold naturalF; rw [if_neg hn]
    rw [e1]
    clear e1
    generalize digitsF c r = z at *
    obtain ⟨n, q⟩ := z
    have HD := Lib.hid hd
    clear hd
    simp only at hn
    go_enter Tryd.func47, Tryd.ntmps47
    go_wp2_with fail
    refine HD.out.mono ?_
    rintro e w1 ⟨rfl, h1, g1⟩
    go_wp2
    go_ret
    exact ⟨rfl, h1, g1⟩

theorem bs_get0 (d : UInt8) (t : List UInt8) (h : 0 < (bs (d :: t)).size) : (bs (d :: t))[0]'h = d := rfl

set_option maxHeartbeats 400000 in
set_option maxRecDepth 100000 in
theorem rd_closing (b : Nat) (r : Rd) (c : UInt8) (w : World) (h : Rb b r w) :
    Calls Tryd.prog 52 #[.pointer (some ⟨b, 0, none⟩), .int .u8 (c.toNat : Int)] w (Rpost b (.tuple #[]) (closingF c r) w) := by
  obtain ⟨l, f⟩ := r
  cases l with
  | nil =>
    have c0 := h.c0
    have hem : (bs []).toList.isEmpty = true := by rw [Lib.toList_data, bs_data]; rfl
    show Calls _ _ _ _ (Rpost b _ failed w)
    go_enter Tryd.func52, Tryd.ntmps52
    go_wp2_with fail
    refine (rd_fail b _ _ h).mono ?_
    rintro e w2 ⟨rfl, h2, g2⟩
    go_wp2
    exact bodyPost_ret (results_none rfl _ _ _) rfl ⟨rfl, h2, g2⟩
  | cons d t =>
    have c0 := h.c0
    have f0 := h.f 0
    have hem : (bs (d :: t)).toList.isEmpty = false := by rw [Lib.toList_data, bs_data]; rfl
    have hsz : 0 < (bs (d :: t)).size := by rw [bs_size]; simp
    by_cases hd : d = c
    · have e1 : closingF c (d :: t, f) = (t, f) := by unfold closingF; simp [hd]
      have hne : ((((bs (d :: t))[0]'hsz).toNat : Int) != (c.toNat : Int)) = false := by rw [bs_get0, hd]; simp
      rw [e1]
      clear e1 hd
      go_enter Tryd.func52, Tryd.ntmps52
      go_wp2
      go_end0
      rw [bs_drop]
      exact ⟨rfl, h.set0 _, only_setCell (p := ⟨b, 0, none⟩) (only_refl w b) (Or.inl rfl) _⟩
    · have e1 : closingF c (d :: t, f) = failed := by unfold closingF; simp [hd]
      have hne : ((((bs (d :: t))[0]'hsz).toNat : Int) != (c.toNat : Int)) = true := by
        rw [bs_get0, bne_iff_ne]
        intro e
        exact hd (UInt8.toNat_inj.1 (by omega))
      rw [e1]
      clear e1 hd
      go_enter Tryd.func52, Tryd.ntmps52
      go_wp2_with fail
      refine (rd_fail b _ _ h).mono ?_
      rintro e w2 ⟨rfl, h2, g2⟩
      go_wp2
      exact bodyPost_ret (results_none rfl _ _ _) rfl ⟨rfl, h2, g2⟩

set_option maxHeartbeats 400000 in
set_option maxRecDepth 100000 in
theorem rd_text (b : Nat) (r : Rd) (w : World) (hE : Env w) (h : Rb b r w) (hr : r.1.length ≤ 4294967296) :
    Calls Tryd.prog 27 #[.pointer (some ⟨b, 0, none⟩)] w (Rpost b (.string (bs (textF r).1)) (textF r).2 w) := by
  have hd := rd_natural b r 58 w hE h hr
  have hn0 := naturalF_int 58 r
  have hl := naturalF_len 58 r
  have e1 : textF r = if ((naturalF 58 r).2.1.length : Int) < (naturalF 58 r).1 then ([], failed) else
    if (closingF 44 ((naturalF 58 r).2.1.drop (naturalF 58 r).1.toNat, (naturalF 58 r).2.2)).2 = true then ([], closingF 44 ((naturalF 58 r).2.1.drop (naturalF 58 r).1.toNat, (naturalF 58 r).2.2))
    else ((naturalF 58 r).2.1.take (naturalF 58 r).1.toNat, closingF 44 ((naturalF 58 r).2.1.drop (naturalF 58 r).1.toNat, (naturalF 58 r).2.2)) := rfl
  rw [e1]
  clear e1
  generalize naturalF 58 r = z at *
  obtain ⟨n, q⟩ := z
  obtain ⟨k, rfl⟩ := Int.eq_ofNat_of_zero_le hn0.1
  simp only [Int.toNat_natCast] at *
  have hk2 : k ≤ 9223372036854775807 := by omega
  have hsz : (bs q.1).size = q.1.length := bs_size _
  have hsm : (bs q.1).size ≤ 4294967296 := by omega
  have HD := Lib.hid hd
  have HZ := Lib.hid hsz
  clear hd hsz hn0
  by_cases hlt : (q.1.length : Int) < k
  · rw [if_pos hlt]
    have hlt2 : (bs q.1).size < k := by rw [HZ.out]; omega
    clear hlt
    go_enter Tryd.func27, Tryd.ntmps27
    go_wp2_with fail
    refine HD.out.mono ?_
    rintro e w1 ⟨rfl, h1, g1⟩
    have c0 := h1.c0
    go_wp2_with fail
    refine (rd_fail b q _ h1).mono ?_
    rintro e w2 ⟨rfl, h2, g2⟩
    have g02 := only_trans g1 g2
    go_wp2
    go_ret
    exact ⟨rfl, h2, g02⟩
  · rw [if_neg hlt]
    have hlt2 : k ≤ (bs q.1).size := by rw [HZ.out]; omega
    clear hlt
    generalize hf : (closingF 44 (q.1.drop k, q.2)).2 = ff
    have HF := Lib.hid hf
    clear hf
    cases ff
    · rw [if_neg (by decide)]
      go_enter Tryd.func27, Tryd.ntmps27
      go_wp2_with fail
      refine HD.out.mono ?_
      rintro e w1 ⟨rfl, h1, g1⟩
      have c0 := h1.c0
      have f0 := h1.f 0
      go_wp2_with fail
      rw [bs_drop]
      refine (rd_closing b (q.1.drop k, q.2) 44 _ (h1.set0 _)).mono ?_
      rintro e w2 ⟨rfl, h2, g2⟩
      have c1 := h2.c1
      rw [HF.out] at c1
      have g02 := only_trans (only_setCell (p := ⟨b, 0, none⟩) g1 (Or.inl rfl) _) g2
      go_wp2
      go_ret
      rw [bs_take]
      exact ⟨rfl, h2, g02⟩
    · rw [if_pos rfl]
      go_enter Tryd.func27, Tryd.ntmps27
      go_wp2_with fail
      refine HD.out.mono ?_
      rintro e w1 ⟨rfl, h1, g1⟩
      have c0 := h1.c0
      have f0 := h1.f 0
      go_wp2_with fail
      rw [bs_drop]
      refine (rd_closing b (q.1.drop k, q.2) 44 _ (h1.set0 _)).mono ?_
      rintro e w2 ⟨rfl, h2, g2⟩
      have c1 := h2.c1
      rw [HF.out] at c1
      have g02 := only_trans (only_setCell (p := ⟨b, 0, none⟩) g1 (Or.inl rfl) _) g2
      go_wp2
      go_ret
      exact ⟨rfl, h2, g02⟩

end Go.Proofs.YtgpeingndefacaaDoor
