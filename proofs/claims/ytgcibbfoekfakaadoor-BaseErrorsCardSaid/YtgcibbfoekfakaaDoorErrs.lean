/- BaseErrors' contract. -/
import Derived.Test.YtgcibbfoekfakaaDoorErr
import Derived.Test.YtgcibbfoekfakaaDoorJoins
namespace Go.Proofs.YtgcibbfoekfakaaDoor
open Go.RowKit

def szOf (v : Value) : Nat := match v with
  | .string b => 8000 - b.size
  | _ => 0
theorem bs_rep_size (k : Nat) : (bs (List.replicate k 32)).size = k := by rw [bs_size]; simp
theorem ten_blanks : ({ data := #[32, 32, 32, 32, 32, 32, 32, 32, 32, 32] } : ByteArray) = bs (List.replicate 10 32) := by kernel_rfl
theorem cut_fill (x : List UInt8) (k m : Nat) (h1 : m ≤ k) : bs (x ++ [10]) ++ (bs (List.replicate k 32)).extract 0 m = bs (x ++ 10 :: List.replicate m 32) := by
  rw [bs_take, List.take_replicate, bs_append, show min m k = m by omega]
  simp
set_option maxHeartbeats 4000000 in
set_option maxRecDepth 100000 in
theorem errors_full (s : List UInt8) (hs : s.length ≤ 9223372036854775807) (w : World) (hE : Env w) :
    Calls Tryd.prog 6 #[.string (bs s), .bool true] w (Tpost w) := by
  have hc1 := fun w => Lib.hid (cut_calls s hs w)
  have hlx : (s.take 900).length ≤ 900 := by rw [List.length_take]; omega
  generalize s.take 900 = x at *
  have hxs : (bs x).size = x.length := bs_size x
  have hX := fun w hE => Lib.hid (scan_any x (by omega) w hE)
  have hbx := scanL_bounds x hlx
  have herr := scanL_err x (by omega)
  have hfill := scan_fill x (3999 - x.length) (by omega)
  have h4000 := fun w hE => Lib.hid (scan_any (x ++ 10 :: List.replicate (3999 - x.length) 32) (by simp; omega) w hE)
  have h4001 := fun w => Lib.hid (scan_full (x ++ 10 :: List.replicate (4000 - x.length) 32) (by simp; omega) (by simp; omega) w)
  have hP := fun w hE => Lib.hid (scan_any (x.take (scanL x).2.1) (by rw [List.length_take]; omega) w hE)
  have hS := fun w hE => Lib.hid (scan_any (x.drop (scanL x).2.1) (by rw [List.length_drop]; omega) w hE)
  generalize scanL (x ++ 10 :: List.replicate (3999 - x.length) 32) = Z at *
  generalize scanL x = X at *
  obtain ⟨a, i, ex⟩ := X
  obtain ⟨c, n, g⟩ := Z
  simp only at hX hbx herr hfill h4000 hP hS
  have HBX := Lib.hid hbx
  have HERR := Lib.hid herr
  have HF := Lib.hid hfill
  have HXS := Lib.hid hxs
  obtain ⟨U, hU⟩ : ∃ U, U = bs x ++ ({ data := #[10] } : ByteArray) := ⟨_, rfl⟩
  have hUs : U.size = x.length + 1 := by rw [hU, show ({ data := #[10] } : ByteArray) = bs [10] from rfl, bs_append, bs_size]; simp
  have hUB : U = bs (x ++ [10]) := by rw [hU, show ({ data := #[10] } : ByteArray) = bs [10] from rfl, bs_append]
  have gU : bs x ++ ({ data := #[10] } : ByteArray) = U := hU.symm
  have hu1 : 1 ≤ U.size := by omega
  have hu2 : U.size ≤ 901 := by omega
  have hbxs : (bs x).size ≤ 900 := by omega
  have HUS := Lib.hid hUs
  have HUB := Lib.hid hUB
  clear hbx herr hfill hxs hU hUs hUB
  go_enter Tryd.func6, Tryd.ntmps6
  go_wp2_with fail
  refine (saneTokens w hE).mono ?_
  rintro e w1 ⟨rfl, hb1⟩
  have hE1 := hE.next hb1
  go_wp2_with fail
  refine (hc1 w1).out.mono ?_
  rintro e w2 ⟨rfl, rfl⟩
  go_wp2_with fail
  refine (hX w1 hE1).out.mono ?_
  rintro e w2 ⟨va, rfl, ha, hb2⟩
  have hE2 := hE1.next hb2
  have hb02 := hb1.trans (hb2.mono hb1.size)
  clear hb1 hb2 hE1
  go_wp2_with fail
  go_loop [10] (fun v => ∃ (F : ByteArray) (k : Nat), v = .string F ∧ Hid (F = bs (List.replicate k 32)) ∧ F.size ≤ 8000 ∧ F.size = k ∧ 10 ≤ k) szOf
  case atStart => exact ⟨_, 10, rfl, Lib.hid ten_blanks, by decide, by decide, by omega⟩
  case round =>
    obtain ⟨F, k, rfl, hF, hk, hk2, hk3⟩ := hrel
    by_cases hlt : F.size < 4000
    · have d1 : decide ((F.size : Int) < 4000) = true := decide_eq_true (by omega)
      have hFF : F ++ F = bs (List.replicate (k + k) 32) := by rw [hF.out, bs_append, List.replicate_append_replicate]
      have hsz : (F ++ F).size = k + k := by rw [hFF, bs_rep_size]
      have HFF := Lib.hid hFF
      have HSZ := Lib.hid hsz
      have HK2 := Lib.hid hk2
      clear hFF hsz hk2
      go_wp2
      go_round
      case rel => exact ⟨F ++ F, k + k, rfl, HFF, by have := HSZ.out; have := HK2.out; omega, HSZ.out, by omega⟩
      case measure => have := HSZ.out; have := HK2.out; simp only [szOf]; omega
    · have hge : 4000 ≤ F.size := by omega
      have d1 : decide ((F.size : Int) < 4000) = false := decide_eq_false (by omega)
      have b1 : (0 : Int) ≤ 4000 - (U.size : Int) := by omega
      have b2 : 4000 - (U.size : Int) ≤ (F.size : Int) := by omega
      have b3 : (0 : Int) ≤ 4001 - (U.size : Int) := by omega
      have b4 : 4001 - (U.size : Int) ≤ (F.size : Int) := by omega
      have hk0 := hk2
      have hcat0 : U ++ F.extract 0 (4000 - U.size) = bs (x ++ 10 :: List.replicate (3999 - x.length) 32) := by
        rw [HUB.out, hF.out, ← HUB.out, HUS.out, HUB.out, show 4000 - (x.length + 1) = 3999 - x.length by omega]
        exact cut_fill x k _ (by omega)
      have hcat1 : U ++ F.extract 0 (4001 - U.size) = bs (x ++ 10 :: List.replicate (4000 - x.length) 32) := by
        rw [HUB.out, hF.out, ← HUB.out, HUS.out, HUB.out, show 4001 - (x.length + 1) = 4000 - x.length by omega]
        exact cut_fill x k _ (by omega)
      have HC0 := Lib.hid hcat0
      have HC1 := Lib.hid hcat1
      have hg := HF.out.1
      have hlen := HF.out.2
      subst hg
      have hlI : ((c.length : Int) != (a.length : Int)) = false := by rw [hlen]; simp
      have hgg : (g != g) = false := by simp
      have H41 : Hid (scanL (x ++ 10 :: List.replicate (4000 - x.length) 32) = ([], 0, 6)) := by
        show scanL (x ++ 10 :: List.replicate (4000 - x.length) 32) = ([], 0, 6)
        unfold scanL; rw [if_pos (by simp; omega)]
      clear hk2 hk0 hcat0 hcat1 hlen
      go_wp2_with fail
      rw [HC0.out]
      refine (h4000 w2 hE2).out.mono ?_
      rintro e w3 ⟨vc, rfl, hcc, hb3⟩
      have hE3 := hE2.next hb3
      have hb03 := hb02.trans (hb3.mono hb02.size)
      have ha3 := ha.next hb3
      go_wp2_with fail
      rw [HC1.out]
      refine (h4001 w3).out.mono ?_
      rintro e w4 ⟨vd, he, hdd, hb4⟩
      rw [H41.out] at he hdd
      subst he
      have hE4 := hE3.next hb4
      have hb04 := hb03.trans (hb4.mono hb03.size)
      have ha4 := ha3.next hb4
      have hcc4 := hcc.next hb4
      obtain ⟨pa, ca, rfl⟩ := ha4.len
      obtain ⟨pc, cc, rfl⟩ := hcc4.len
      clear ha ha3 hcc hb3 hb4 hE3 hE2 hb02 hb03 hdd h4000 h4001 hX hc1
      by_cases hg0 : g = 0
      · subst hg0
        clear HERR HBX
        go_wp2
        go_ret
        exact ⟨rfl, hb04⟩
      · obtain ⟨h1, h2, h3, h4⟩ := HERR.out hg0
        rw [h3] at hP
        rw [h4] at hS
        have hi1 : i < (bs x).size := by rw [HXS.out]; exact h1
        have hi2 : (i : Int) < ((bs x).size : Int) := by omega
        have hi3 : (0 : Int) ≤ (i : Int) := by omega
        have hi4 : ¬ (bs x).size ≤ i := by omega
        clear h1 h3 h4 HERR HBX hg0
        rcases h2 with rfl | rfl | rfl
        all_goals
          go_wp2_with fail
          rw [bs_take]
          refine (hP w4 hE4).out.mono ?_
          rintro e w5 ⟨ve, rfl, _, hb5⟩
          have hE5 := hE4.next hb5
          have hb05 := hb04.trans (hb5.mono hb04.size)
          go_wp2_with fail
          rw [bs_drop]
          refine (hS w5 hE5).out.mono ?_
          rintro e w6 ⟨vf, rfl, _, hb6⟩
          have hb06 := hb05.trans (hb6.mono hb05.size)
          go_wp2
          go_ret
          exact ⟨rfl, hb06⟩

set_option maxHeartbeats 4000000 in
set_option maxRecDepth 100000 in
theorem errors_not (s : List UInt8) (hs : s.length ≤ 9223372036854775807) (w : World) (hE : Env w) :
    Calls Tryd.prog 6 #[.string (bs s), .bool false] w (Tpost w) := by
  have hc1 := fun w => Lib.hid (cut_calls s hs w)
  have hlx : (s.take 900).length ≤ 900 := by rw [List.length_take]; omega
  generalize s.take 900 = x at *
  have hxs : (bs x).size = x.length := bs_size x
  have hX := fun w hE => Lib.hid (scan_any x (by omega) w hE)
  have herr := scanL_err x (by omega)
  have hP := fun w hE => Lib.hid (scan_any (x.take (scanL x).2.1) (by rw [List.length_take]; omega) w hE)
  have hS := fun w hE => Lib.hid (scan_any (x.drop (scanL x).2.1) (by rw [List.length_drop]; omega) w hE)
  generalize scanL x = X at *
  obtain ⟨a, i, g⟩ := X
  simp only at hX herr hP hS
  have HERR := Lib.hid herr
  have HXS := Lib.hid hxs
  have hbxs : (bs x).size ≤ 900 := by omega
  clear herr hxs
  by_cases hg0 : g = 0
  · subst hg0
    go_enter Tryd.func6, Tryd.ntmps6
    go_wp2_with fail
    refine (saneTokens w hE).mono ?_
    rintro e w1 ⟨rfl, hb1⟩
    have hE1 := hE.next hb1
    go_wp2_with fail
    refine (hc1 w1).out.mono ?_
    rintro e w2 ⟨rfl, rfl⟩
    go_wp2_with fail
    refine (hX w1 hE1).out.mono ?_
    rintro e w2 ⟨va, rfl, _, hb2⟩
    have hb02 := hb1.trans (hb2.mono hb1.size)
    go_wp2
    go_ret
    exact ⟨rfl, hb02⟩
  · obtain ⟨h1, h2, h3, h4⟩ := HERR.out hg0
    rw [h3] at hP
    rw [h4] at hS
    have hi1 : i < (bs x).size := by rw [HXS.out]; exact h1
    have hi2 : (i : Int) < ((bs x).size : Int) := by omega
    have hi3 : (0 : Int) ≤ (i : Int) := by omega
    have hi4 : ¬ (bs x).size ≤ i := by omega
    clear h1 h3 h4 HERR hg0
    rcases h2 with rfl | rfl | rfl
    all_goals
      go_enter Tryd.func6, Tryd.ntmps6
      go_wp2_with fail
      refine (saneTokens w hE).mono ?_
      rintro e w1 ⟨rfl, hb1⟩
      have hE1 := hE.next hb1
      go_wp2_with fail
      refine (hc1 w1).out.mono ?_
      rintro e w2 ⟨rfl, rfl⟩
      go_wp2_with fail
      refine (hX w1 hE1).out.mono ?_
      rintro e w4 ⟨va, rfl, _, hb2⟩
      have hE4 := hE1.next hb2
      have hb04 := hb1.trans (hb2.mono hb1.size)
      go_wp2_with fail
      rw [bs_take]
      refine (hP w4 hE4).out.mono ?_
      rintro e w5 ⟨ve, rfl, _, hb5⟩
      have hE5 := hE4.next hb5
      have hb05 := hb04.trans (hb5.mono hb04.size)
      go_wp2_with fail
      rw [bs_drop]
      refine (hS w5 hE5).out.mono ?_
      rintro e w6 ⟨vf, rfl, _, hb6⟩
      have hb06 := hb05.trans (hb6.mono hb05.size)
      go_wp2
      go_ret
      exact ⟨rfl, hb06⟩
theorem errors_any (s : ByteArray) (hs : s.size ≤ maxLen) (full : Bool) (w : World) (hE : Env w) : Calls Tryd.prog 6 #[.string s, .bool full] w (Tpost w) := by
  unfold maxLen at hs
  have hl : s.data.toList.length ≤ 9223372036854775807 := by rw [← Lib.size_eq]; exact hs
  rw [← bs_of s]
  cases full with
  | false => exact errors_not _ hl w hE
  | true => exact errors_full _ hl w hE
end Go.Proofs.YtgcibbfoekfakaaDoor
