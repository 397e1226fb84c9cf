/- The reference's writers. -/
import Derived.Test.YtgpeingndefacaaDoorVals2
import Derived.Laws.IdiomStrings
namespace Go.Proofs.YtgpeingndefacaaDoor
open Go.RowKit

/-- A digit's byte. -/
def digB (d : Nat) : UInt8 := UInt8.ofNat (48 + d)
theorem decDigits_small' {u : Nat} (h : u < 10) : Lib.decDigits u = [digB u] := decDigits_small h
theorem decDigits_big' {u : Nat} (h : ¬ u < 10) : Lib.decDigits u = Lib.decDigits (u / 10) ++ [digB (u % 10)] := decDigits_big h

theorem conv_digit (d : Nat) (hd : d < 10) (w : World) :
    (convert 62 9 (.slice (some ⟨w.heap.size, 0, none⟩) 1 1)).run Tryd.prog (w.alloc (.cells #[.int .u8 (48 + (d : Int))] 5)) = .ok (.string (bs [digB d])) (w.alloc (.cells #[.int .u8 (48 + (d : Int))] 5)) := by
  have h := run_convert_bytes_back (P := Tryd.prog) (w.alloc (.cells #[.int .u8 (48 + (d : Int))] 5)) 62 9 5 ⟨w.heap.size, 0, none⟩ 1 [digB d] Tryd.underlying62 Tryd.underlying5 Tryd.underlying9 (fun j hj => by
    obtain rfl : j = 0 := by simpa using hj
    show (w.alloc _).cell? ⟨w.heap.size, 0, none⟩ = _
    rw [World.cell?_alloc_at _ _ _ _ rfl]
    have e : (digB d).toNat = 48 + d := dig_toNat d hd
    simp only [List.getElem_cons_zero, e]
    simp)
  exact h

set_option maxHeartbeats 400000 in
set_option maxRecDepth 100000 in
theorem ref_digits_small (u : Nat) (hu : u < 10) (w : World) :
    Calls Tryd.prog 44 #[.int .i64 (-(u : Int))] w fun e w' => e = .returned (.string (bs (Lib.decDigits u))) ∧ Below w.heap.size w w' := by
  have h10 : ¬ (-(u : Int)) ≤ -10 := by omega
  have hm : (-(u : Int)).tmod 10 = -(u : Int) := by
    rw [Int.neg_tmod, Int.tmod_eq_emod_of_nonneg (by omega)]; omega
  have hs : (48 : Int) - (-(u : Int)) = 48 + (u : Int) := by omega
  have hc := conv_digit u hu w
  have H := Lib.hid (decDigits_small' hu)
  go_enter Tryd.func44, Tryd.ntmps44
  go_wp2
  go_ret
  exact ⟨ret_str (by rw [H.out]), (Below.refl _ _).alloc (Nat.le_refl _) _⟩

set_option maxHeartbeats 400000 in
set_option maxRecDepth 100000 in
theorem ref_digits (u : Nat) : u ≤ 9223372036854775808 → ∀ w : World,
    Calls Tryd.prog 44 #[.int .i64 (-(u : Int))] w fun e w' => e = .returned (.string (bs (Lib.decDigits u))) ∧ Below w.heap.size w w' := by
  induction u using Nat.strongRecOn with
  | _ u ih =>
    intro hmax w
    by_cases hu : u < 10
    · exact ref_digits_small u hu w
    · have h10 : (-(u : Int)) ≤ -10 := by omega
      have hm : (-(u : Int)).tmod 10 = -((u % 10 : Nat) : Int) := by
        rw [Int.neg_tmod, Int.tmod_eq_emod_of_nonneg (by omega)]; omega
      have hq : (-(u : Int)).tdiv 10 = -((u / 10 : Nat) : Int) := by
        rw [Int.neg_tdiv, Int.tdiv_eq_ediv_of_nonneg (by omega)]; omega
      have hd10 : u % 10 < 10 := by omega
      have hvb : u / 10 ≤ 922337203685477581 := by omega
      have hs : (48 : Int) - (-((u % 10 : Nat) : Int)) = 48 + ((u % 10 : Nat) : Int) := by omega
      have hc := conv_digit (u % 10) hd10 w
      have H := Lib.hid (decDigits_big' hu)
      have IH := Lib.hid (ih (u / 10) (by omega) (by omega) (w.alloc (.cells #[.int .u8 (48 + ((u % 10 : Nat) : Int))] 5)))
      have hz : (bs (Lib.decDigits (u / 10))).size ≤ 20 := by
        rw [bs_size, Lib.decDigits_length]
        have := nDigits_le 18 (u / 10) (by simp; omega)
        omega
      have hz1 : (bs [digB (u % 10)]).size ≤ 1 := by rw [bs_size]; simp
      clear ih
      generalize hr : u % 10 = r at *
      generalize hv : u / 10 = v at *
      have HR := Lib.hid hr
      have HV := Lib.hid hv
      clear hr hv
      go_enter Tryd.func44, Tryd.ntmps44
      go_wp2_with fail
      refine IH.out.mono ?_
      rintro e w1 ⟨rfl, hb⟩
      go_wp2
      go_ret
      exact ⟨ret_str (by rw [H.out, bs_append]), (((Below.refl _ _).alloc (Nat.le_refl _) _).trans (hb.mono (by simp)))⟩

theorem intS_neg {n : Int} (h : n < 0) : intS n = 45 :: (Lib.decDigits n.natAbs ++ [59]) := by unfold intS Lib.itoa; rw [if_pos h]; rfl
theorem intS_pos {n : Int} (h : ¬ n < 0) : intS n = Lib.decDigits n.toNat ++ [59] := by unfold intS Lib.itoa; rw [if_neg h]
theorem dec_size (u : Nat) (h : u ≤ 9223372036854775808) : (bs (Lib.decDigits u)).size ≤ 20 := by
  rw [bs_size, Lib.decDigits_length]
  have := nDigits_le 18 u (by simp; omega)
  omega

set_option maxRecDepth 100000 in
theorem ref_Int (n : Int) (hn : isInt n) (w : World) :
    Calls Tryd.prog 13 #[.int .i64 n] w fun e w' => e = .returned (.string (bs (intS n))) ∧ Below w.heap.size w w' := by
  have h1 := hn.1
  have h2 := hn.2
  by_cases h : n < 0
  · obtain ⟨u, rfl⟩ : ∃ u : Nat, n = -(u : Int) := ⟨n.natAbs, by omega⟩
    have hu : u ≤ 9223372036854775808 := by omega
    have hz := dec_size u hu
    have e1 : intS (-(u : Int)) = 45 :: (Lib.decDigits u ++ [59]) := by rw [intS_neg h, show (-(u : Int)).natAbs = u by omega]
    have H := Lib.hid e1
    have HD := Lib.hid (ref_digits u hu w)
    clear e1
    go_enter Tryd.func13, Tryd.ntmps13
    go_wp2_with fail
    refine HD.out.mono ?_
    rintro e w1 ⟨rfl, hb⟩
    go_wp2
    go_ret
    exact ⟨ret_str (by rw [H.out, show (ByteArray.mk #[59]) = bs [59] from rfl, show (ByteArray.mk #[45]) = bs [45] from rfl, bs_append, bs_append]; rfl), hb⟩
  · obtain ⟨u, rfl⟩ : ∃ u : Nat, n = (u : Int) := ⟨n.toNat, by omega⟩
    have hu : u ≤ 9223372036854775808 := by omega
    have hu2 : u ≤ 9223372036854775807 := by omega
    have hz := dec_size u hu
    have e1 : intS (u : Int) = Lib.decDigits u ++ [59] := by rw [intS_pos h, Int.toNat_natCast]
    have H := Lib.hid e1
    have HD := Lib.hid (ref_digits u hu w)
    clear e1
    go_enter Tryd.func13, Tryd.ntmps13
    go_wp2_with fail
    refine HD.out.mono ?_
    rintro e w1 ⟨rfl, hb⟩
    go_wp2
    go_ret
    exact ⟨ret_str (by rw [H.out, show (ByteArray.mk #[59]) = bs [59] from rfl, bs_append]), hb⟩

set_option maxRecDepth 100000 in
theorem ref_Num (n : Int) (hn : isInt n) (w : World) :
    Calls Tryd.prog 11 #[.int .i64 n] w fun e w' => e = .returned (.string (bs (numS n))) ∧ Below w.heap.size w w' := by
  by_cases h : n < 0
  · have e1 : numS n = [] := by unfold numS; rw [if_pos h]
    have H := Lib.hid e1
    clear e1
    go_enter Tryd.func11, Tryd.ntmps11
    go_wp2
    go_ret
    exact ⟨ret_str (by rw [H.out]; rfl), Below.refl _ _⟩
  · have e1 : numS n = intS n := by unfold numS; rw [if_neg h]
    have H := Lib.hid e1
    clear e1
    go_enter Tryd.func11, Tryd.ntmps11
    go_wp2_with fail
    refine (ref_Int n hn _).mono ?_
    rintro e w1 ⟨rfl, hb⟩
    go_wp2
    go_ret
    exact ⟨ret_str (by rw [H.out]), hb⟩

theorem itoa_nat (n : Nat) : Lib.itoa (n : Int) = Lib.decDigits n := by unfold Lib.itoa; rw [if_neg (by omega), Int.toNat_natCast]

set_option maxRecDepth 100000 in
theorem ref_Text (s : ByteArray) (hs : s.size ≤ 4294967296) (w : World) :
    Calls Tryd.prog 15 #[.string s] w fun e w' => e = .returned (.string (bs (textS s.data.toList))) ∧ Below w.heap.size w w' := by
  have hz := dec_size s.size (by omega)
  have HD := Lib.hid (ref_digits s.size (by omega) w)
  go_enter Tryd.func15, Tryd.ntmps15
  go_wp2_with fail
  refine HD.out.mono ?_
  rintro e w1 ⟨rfl, hb⟩
  go_wp2
  go_ret
  refine ⟨?_, hb⟩
  have e1 : bs (Lib.decDigits s.size) ++ ⟨#[58]⟩ ++ s ++ ⟨#[44]⟩ = bs (textS s.data.toList) := by
    rw [← itoa_nat, show (ByteArray.mk #[58]) = bs [58] from rfl, show (ByteArray.mk #[44]) = bs [44] from rfl, ← bs_of s, bs_append, bs_append, bs_append, bs_data, bs_size]
    unfold textS; simp
  exact ret_str e1
theorem ref_Text_bs (s : List UInt8) (hs : s.length ≤ 4294967296) (w : World) :
    Calls Tryd.prog 15 #[.string (bs s)] w fun e w' => e = .returned (.string (bs (textS s))) ∧ Below w.heap.size w w' := by
  have := ref_Text (bs s) (by rw [bs_size]; exact hs) w
  rw [bs_data] at this
  exact this

set_option maxHeartbeats 1000000 in
set_option maxRecDepth 100000 in
theorem ref_Nums (v : Value) (xs : List Int) (w : World) (hv : IsInts v xs w) (hx : ∀ x ∈ xs, isInt x) (hn : xs.length ≤ 400) :
    Calls Tryd.prog 17 #[v] w fun e w' => e = .returned (.string (bs (numsS xs))) ∧ Below w.heap.size w w' := by
  obtain ⟨a, cap, rfl⟩ := hv.len
  have hlen := numsS_len xs hx hn
  have hz := dec_size xs.length (by omega)
  have HD := Lib.hid (ref_digits xs.length (by omega) w)
  have HI := Lib.hid (itoa_nat xs.length)
  have HX := Lib.hid hx
  clear hx
  go_enter Tryd.func17, Tryd.ntmps17
  go_wp2_with fail
  refine HD.out.mono ?_
  rintro e w1 ⟨rfl, hb⟩
  go_wp2
  go_loopw [3, 4] (fun s i wr => ∃ (k : Nat) (acc : List UInt8), k ≤ xs.length ∧ i = .int .i64 k ∧ s = .string (bs acc) ∧ Below w.heap.size w wr ∧ acc = Lib.itoa (xs.length : Int) ++ [91] ++ (xs.take k).flatMap intS) (fun _ i _ => xs.length - (intOf i).toNat)
  case atStart => exact ⟨0, _, Nat.zero_le _, rfl, by rw [show (ByteArray.mk #[91]) = bs [91] from rfl, bs_append], hb, by rw [HI.out]; simp⟩
  case round =>
    obtain ⟨k, acc, hk, rfl, rfl, hbr, hacc⟩ := hrel
    have hl1 : (Lib.itoa (xs.length : Int) ++ [91] ++ (xs.take k).flatMap intS).length ≤ 4294967296 := flat_len intS _ _ _ (by unfold numsS at hlen; omega)
    have hsz : (bs acc).size ≤ 4294967296 := by rw [bs_size, hacc]; exact hl1
    have HA := Lib.hid hacc
    clear hl1 hacc
    by_cases hlt : k < xs.length
    · obtain ⟨bk, off, rfl, hbk, hc⟩ := (hv.next hbr).at k hlt
      have q := hc k _ (List.getElem?_eq_getElem hlt)
      have hxk := HX.out xs[k] (List.getElem_mem _)
      have hk21 : (bs (intS xs[k])).size ≤ 8600 := by rw [bs_size]; have := intS_len xs[k] hxk; omega
      have hlI : (k : Int) < (xs.length : Int) := by omega
      have e1 : (xs.take (k + 1)).flatMap intS = (xs.take k).flatMap intS ++ intS xs[k] := by
        rw [List.take_succ_eq_append_getElem hlt, List.flatMap_append, List.flatMap_cons, List.flatMap_nil, List.append_nil]
      have HE := Lib.hid e1
      have HW := Lib.hid (ref_Int _ hxk wr)
      clear e1 hc
      go_wp2_with fail
      refine HW.out.mono ?_
      rintro e w2 ⟨rfl, hb2⟩
      have hb02 := hbr.trans (hb2.mono hbr.size)
      go_wp2
      go_roundw
      case rel => exact ⟨k + 1, acc ++ intS xs[k], by omega, by go_num, by rw [bs_append], hb02, by rw [HE.out, HA.out, List.append_assoc]⟩
      case measure => simp [intOf]; omega
    · have hk' : k = xs.length := by omega
      have e1 : (xs.take k).flatMap intS = xs.flatMap intS := by rw [hk', List.take_length]
      have HE := Lib.hid e1
      clear e1 hk'
      go_wp2
      go_ret
      exact ⟨ret_str (by rw [show (ByteArray.mk #[93]) = bs [93] from rfl, bs_append, HA.out, HE.out]; unfold numsS; simp), hbr⟩

set_option maxHeartbeats 1000000 in
set_option maxRecDepth 100000 in
theorem ref_Texts (v : Value) (xs : List (List UInt8)) (w : World) (hv : IsTexts v xs w) (hx : ∀ x ∈ xs, x.length ≤ 400) (hn : xs.length ≤ 400) :
    Calls Tryd.prog 19 #[v] w fun e w' => e = .returned (.string (bs (textsS xs))) ∧ Below w.heap.size w w' := by
  obtain ⟨a, cap, rfl⟩ := hv.len
  have hlen := textsS_len xs hx hn
  have hz := dec_size xs.length (by omega)
  have HD := Lib.hid (ref_digits xs.length (by omega) w)
  have HI := Lib.hid (itoa_nat xs.length)
  have HX := Lib.hid hx
  clear hx
  go_enter Tryd.func19, Tryd.ntmps19
  go_wp2_with fail
  refine HD.out.mono ?_
  rintro e w1 ⟨rfl, hb⟩
  go_wp2
  go_loopw [3, 4] (fun s i wr => ∃ (k : Nat) (acc : List UInt8), k ≤ xs.length ∧ i = .int .i64 k ∧ s = .string (bs acc) ∧ Below w.heap.size w wr ∧ acc = Lib.itoa (xs.length : Int) ++ [91] ++ (xs.take k).flatMap textS) (fun _ i _ => xs.length - (intOf i).toNat)
  case atStart => exact ⟨0, _, Nat.zero_le _, rfl, by rw [show (ByteArray.mk #[91]) = bs [91] from rfl, bs_append], hb, by rw [HI.out]; simp⟩
  case round =>
    obtain ⟨k, acc, hk, rfl, rfl, hbr, hacc⟩ := hrel
    have hl1 : (Lib.itoa (xs.length : Int) ++ [91] ++ (xs.take k).flatMap textS).length ≤ 4294967296 := flat_len textS _ _ _ (by unfold textsS at hlen; omega)
    have hsz : (bs acc).size ≤ 4294967296 := by rw [bs_size, hacc]; exact hl1
    have HA := Lib.hid hacc
    clear hl1 hacc
    by_cases hlt : k < xs.length
    · obtain ⟨bk, off, rfl, hbk, hc⟩ := (hv.next hbr).at k hlt
      have q := hc k _ (List.getElem?_eq_getElem hlt)
      have hxk := HX.out xs[k] (List.getElem_mem _)
      have hk21 : (bs (textS xs[k])).size ≤ 8600 := by rw [bs_size]; have := textS_short xs[k] hxk; omega
      have hlI : (k : Int) < (xs.length : Int) := by omega
      have e1 : (xs.take (k + 1)).flatMap textS = (xs.take k).flatMap textS ++ textS xs[k] := by
        rw [List.take_succ_eq_append_getElem hlt, List.flatMap_append, List.flatMap_cons, List.flatMap_nil, List.append_nil]
      have HE := Lib.hid e1
      have HW := Lib.hid (ref_Text_bs xs[k] (by omega) wr)
      clear e1 hc
      go_wp2_with fail
      refine HW.out.mono ?_
      rintro e w2 ⟨rfl, hb2⟩
      have hb02 := hbr.trans (hb2.mono hbr.size)
      go_wp2
      go_roundw
      case rel => exact ⟨k + 1, acc ++ textS xs[k], by omega, by go_num, by rw [bs_append], hb02, by rw [HE.out, HA.out, List.append_assoc]⟩
      case measure => simp [intOf]; omega
    · have hk' : k = xs.length := by omega
      have e1 : (xs.take k).flatMap textS = xs.flatMap textS := by rw [hk', List.take_length]
      have HE := Lib.hid e1
      clear e1 hk'
      go_wp2
      go_ret
      exact ⟨ret_str (by rw [show (ByteArray.mk #[93]) = bs [93] from rfl, bs_append, HA.out, HE.out]; unfold textsS; simp), hbr⟩

end Go.Proofs.YtgpeingndefacaaDoor
