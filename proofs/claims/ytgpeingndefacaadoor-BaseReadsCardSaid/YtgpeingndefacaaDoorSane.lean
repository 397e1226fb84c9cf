/- The documented examples, and the kind of a value. -/
import Derived.Test.YtgpeingndefacaaDoorRead4
namespace Go.Proofs.YtgpeingndefacaaDoor
open Go.RowKit

theorem dec0 : Lib.itoa 0 = [48] := by simp [Lib.itoa, Lib.decDigits]
theorem dec7 : Lib.itoa 7 = [55] := by simp [Lib.itoa, Lib.decDigits]
theorem dec1 : Lib.itoa 1 = [49] := by simp [Lib.itoa, Lib.decDigits]
theorem dec2 : Lib.itoa 2 = [50] := by simp [Lib.itoa, Lib.decDigits]
theorem dec3 : Lib.itoa 3 = [51] := by simp [Lib.itoa, Lib.decDigits]
theorem decm7 : Lib.itoa (-7) = [45, 55] := by simp [Lib.itoa, Lib.decDigits]
theorem decm1 : Lib.itoa (-1) = [45, 49] := by simp [Lib.itoa, Lib.decDigits]
theorem dec300 : Lib.itoa 300 = [51, 48, 48] := by simp [Lib.itoa, Lib.decDigits]

theorem calls_str {f : FuncId} {args : Array Value} {w : World} {s t : ByteArray} (h : Calls Tryd.prog f args w fun e w' => e = .returned (.string s) ∧ Below w.heap.size w w') (e : s = t) :
    Calls Tryd.prog f args w fun e w' => e = .returned (.string t) ∧ Below w.heap.size w w' := by rw [← e]; exact h
theorem num_0 (w : World) (hE : Env w) : Calls Tryd.prog 10 #[.int .i64 0] w fun e w' => e = .returned (.string { data := #[48, 59] }) ∧ Below w.heap.size w w' := calls_str (t := { data := #[48, 59] }) (base_Num 0 (by unfold isInt; omega) w hE) (by simp [numS, intS, dec0, bs])
theorem num_300 (w : World) (hE : Env w) : Calls Tryd.prog 10 #[.int .i64 300] w fun e w' => e = .returned (.string { data := #[51, 48, 48, 59] }) ∧ Below w.heap.size w w' := calls_str (t := { data := #[51, 48, 48, 59] }) (base_Num 300 (by unfold isInt; omega) w hE) (by simp [numS, intS, dec300, bs])
theorem num_m1 (w : World) (hE : Env w) : Calls Tryd.prog 10 #[.int .i64 (-1)] w fun e w' => e = .returned (.string { data := #[] }) ∧ Below w.heap.size w w' := calls_str (t := { data := #[] }) (base_Num (-1) (by unfold isInt; omega) w hE) (by simp [numS, bs])
theorem int_m7 (w : World) (hE : Env w) : Calls Tryd.prog 12 #[.int .i64 (-7)] w fun e w' => e = .returned (.string { data := #[45, 55, 59] }) ∧ Below w.heap.size w w' := calls_str (t := { data := #[45, 55, 59] }) (base_Int (-7) (by unfold isInt; omega) w hE) (by simp [intS, decm7, bs])
theorem int_7 (w : World) (hE : Env w) : Calls Tryd.prog 12 #[.int .i64 7] w fun e w' => e = .returned (.string { data := #[55, 59] }) ∧ Below w.heap.size w w' := calls_str (t := { data := #[55, 59] }) (base_Int 7 (by unfold isInt; omega) w hE) (by simp [intS, dec7, bs])
theorem text_acb (w : World) (hE : Env w) : Calls Tryd.prog 14 #[.string { data := #[97, 44, 98] }] w fun e w' => e = .returned (.string { data := #[51, 58, 97, 44, 98, 44] }) ∧ Below w.heap.size w w' := calls_str (t := { data := #[51, 58, 97, 44, 98, 44] }) (base_Text { data := #[97, 44, 98] } (by decide) w hE) (by simp [textS, dec3, bs])
theorem texts_nil (w : World) (hE : Env w) : Calls Tryd.prog 18 #[.slice none 0 0] w fun e w' => e = .returned (.string { data := #[48, 91, 93] }) ∧ Below w.heap.size w w' := calls_str (t := { data := #[48, 91, 93] }) (base_Texts (.slice none 0 0) [] w hE (.inl ⟨⟨none, 0, rfl⟩, rfl⟩) (by simp) (by simp) (by simp [textsS, dec0])) (by simp [textsS, dec0, bs])
theorem nums_two (v : Value) (w : World) (hE : Env w) (h : IsInts v [1, -1] w) : Calls Tryd.prog 16 #[v] w fun e w' => e = .returned (.string { data := #[50, 91, 49, 59, 45, 49, 59, 93] }) ∧ Below w.heap.size w w' := calls_str (t := { data := #[50, 91, 49, 59, 45, 49, 59, 93] }) (base_Nums v [1, -1] w hE h (by simp [isInt]) (by simp) (by simp [numsS, intS, dec2, dec1, decm1])) (by simp [numsS, intS, dec2, dec1, decm1, bs])

theorem canon_007 : canon [48, 48, 55] = none := by
  have h : Lib.atoiAll [48, 48, 55] = .ok 7 := by decide
  unfold canon
  rw [h]
  simp [dec7]
theorem num_007 : numF ([48, 48, 55, 59], false) = (0, failed) := by
  have hi : Lib.indexByte [48, 48, 55, 59] 59 = 3 := by decide
  have hd : digitsF 59 ([48, 48, 55, 59], false) = (0, failed) := by
    unfold digitsF
    simp only [hi]
    rw [if_neg (by omega)]
    have : canon (List.take (3 : Int).toNat [48, 48, 55, 59]) = none := canon_007
    rw [this]
  unfold numF naturalF
  rw [hd]
  rfl
theorem rd_007 (b : Nat) (w : World) (hE : Env w) (h : Rb b ([48, 48, 55, 59], false) w) : Calls Tryd.prog 23 #[.pointer (some ⟨b, 0, none⟩)] w (Rpost b (.int .i64 0) failed w) := by
  have := rd_Num b _ w hE h (by simp)
  rw [num_007] at this
  exact this

set_option maxHeartbeats 1000000 in
set_option maxRecDepth 100000 in
theorem saneCodes (w : World) (hE : Env w) :
    Calls Tryd.prog 8 #[] w fun e w' => e = .returned (.bool true) ∧ Below w.heap.size w w' := by
  go_enter Tryd.func8, Tryd.ntmps8
  go_wp2_with fail
  refine (num_0 w hE).mono ?_
  rintro e w1 ⟨rfl, hb1⟩
  have hE1 := hE.next hb1
  go_wp2_with fail
  refine (num_300 w1 hE1).mono ?_
  rintro e w2 ⟨rfl, hb2⟩
  have hE2 := hE1.next hb2
  have hb02 := hb1.trans (hb2.mono hb1.size)
  go_wp2_with fail
  refine (num_m1 w2 hE2).mono ?_
  rintro e w3 ⟨rfl, hb3⟩
  have hE3 := hE2.next hb3
  have hb03 := hb02.trans (hb3.mono hb02.size)
  go_wp2_with fail
  refine (int_m7 w3 hE3).mono ?_
  rintro e w4 ⟨rfl, hb4⟩
  have hE4 := hE3.next hb4
  have hb04 := hb03.trans (hb4.mono hb03.size)
  clear hb1 hb2 hb3 hb02 hb03 hE1 hE2 hE3
  go_wp2_with fail
  refine (int_7 w4 hE4).mono ?_
  rintro e w5 ⟨rfl, hb5⟩
  have hE5 := hE4.next hb5
  have hb05 := hb04.trans (hb5.mono hb04.size)
  go_wp2_with fail
  refine (text_acb w5 hE5).mono ?_
  rintro e w6 ⟨rfl, hb6⟩
  have hE6 := hE5.next hb6
  have hb06 := hb05.trans (hb6.mono hb05.size)
  clear hb4 hb5 hb6 hb04 hb05 hE4 hE5
  have ha : Below w6.heap.size w6 (w6.alloc (.cells #[.int .i64 1, .int .i64 (-1)] 3)) := (Below.refl _ _).alloc (Nat.le_refl _) _
  have hEa := hE6.next ha
  have hI : IsInts (.slice (some ⟨w6.heap.size, 0, none⟩) 2 2) [1, -1] (w6.alloc (.cells #[.int .i64 1, .int .i64 (-1)] 3)) := by
    refine .inr ⟨w6.heap.size, 0, 2, rfl, by simp, fun i x hx => ?_⟩
    rw [World.cell?_alloc_at _ _ _ _ rfl]
    match i, hx with
    | 0, hx => simp at hx; subst hx; rfl
    | 1, hx => simp at hx; subst hx; rfl
  have hsa : w6.heap.size < (w6.alloc (.cells #[.int .i64 1, .int .i64 (-1)] 3)).heap.size := by simp
  have hb0a := hb06.trans (ha.mono hb06.size)
  have hc : w6.heap.size ≤ (w6.alloc (.cells #[.int .i64 1, .int .i64 (-1)] 3)).heap.size := by simp
  go_wp2_with fail
  refine (nums_two _ _ hEa hI).mono ?_
  rintro e w7 ⟨rfl, hb7⟩
  have hE7 := hEa.next hb7
  have hb07 := hb0a.trans (hb7.mono hb0a.size)
  clear ha hEa hI hsa hb0a hc hb7 hb06 hE6
  go_wp2_with fail
  refine (texts_nil w7 hE7).mono ?_
  rintro e w8 ⟨rfl, hb8⟩
  have hE8 := hE7.next hb8
  have hb08 := hb07.trans (hb8.mono hb07.size)
  clear hb07 hb8 hE7
  go_wp2_with fail
  refine (open_reader [48, 48, 55, 59] w8).mono ?_
  rintro e w9 ⟨rfl, hR, hb9, hs9⟩
  have hE9 := hE8.next hb9
  have hb09 := hb08.trans (hb9.mono hb08.size)
  have hlo := hE8.lo
  have hs8 := hb08.size
  clear hb08 hb9 hE8
  go_wp2_with fail
  refine (rd_007 _ w9 hE9 hR).mono ?_
  rintro e w10 ⟨rfl, hR2, hg⟩
  have hb10 : Below w.heap.size w w10 := hb09.grown hg (by omega) (fun k hk => by simp at hk; omega)
  go_wp2_with fail
  refine (rd_Left _ _ w10 hR2).mono ?_
  rintro e w11 ⟨rfl, rfl⟩
  go_wp2_with fail
  refine (rd_Done _ _ w10 hR2).mono ?_
  rintro e w11 ⟨rfl, rfl⟩
  go_wp2
  go_ret
  exact ⟨rfl, hb10⟩
end Go.Proofs.YtgpeingndefacaaDoor
