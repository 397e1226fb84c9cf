/- The reference's numbers and texts, and its reader, in this seat. -/
import Derived.Test.YtanecondopbfhaaGreatDoorCod
import Derived.Laws.IdiomStrings
import Derived.IntWalk
namespace Go.Proofs.YtanecondopbfhaaGreatDoor.Cod
open Go.RowKit Go.Lib

theorem take_all {α : Type} {P : α → Prop} {l : List α} {k : Nat} (h : ∀ x ∈ l.take k, P x) (hk : k < l.length) (hx : P l[k]) : ∀ x ∈ l.take (k + 1), P x := by
  intro x hm
  rw [List.take_succ_eq_append_getElem hk, List.mem_append] at hm
  rcases hm with hm | hm
  · exact h x hm
  · simp only [List.mem_singleton] at hm
    rw [hm]; exact hx

/-- A digit's byte. -/
def digB (d : Nat) : UInt8 := UInt8.ofNat (48 + d)

theorem decDigits_small' {u : Nat} (h : u < 10) : Lib.decDigits u = [digB u] := decDigits_small h

theorem decDigits_big' {u : Nat} (h : ¬ u < 10) : Lib.decDigits u = Lib.decDigits (u / 10) ++ [digB (u % 10)] := decDigits_big h

theorem conv_digit (d : Nat) (hd : d < 10) (w : World) :
    (convert 56 9 (.slice (some ⟨w.heap.size, 0, none⟩) 1 1)).run Tryz.prog (w.alloc (.cells #[.int .u8 (48 + (d : Int))] 5)) = .ok (.string (bs [digB d])) (w.alloc (.cells #[.int .u8 (48 + (d : Int))] 5)) := by
  have h := run_convert_bytes_back (P := Tryz.prog) (w.alloc (.cells #[.int .u8 (48 + (d : Int))] 5)) 56 9 5 ⟨w.heap.size, 0, none⟩ 1 [digB d] Tryz.underlying56 Tryz.underlying5 Tryz.underlying9 (fun j hj => by
    obtain rfl : j = 0 := by simpa using hj
    show (w.alloc _).cell? ⟨w.heap.size, 0, none⟩ = _
    rw [World.cell?_alloc_at _ _ _ _ rfl]
    have e : (digB d).toNat = 48 + d := dig_toNat d hd
    simp only [List.getElem_cons_zero, e]
    simp)
  exact h

set_option maxHeartbeats 400000 in
set_option maxRecDepth 100000 in
theorem ref_digits_small (u : Nat) (hu : u < 10) (w : World) :
    Calls Tryz.prog 116 #[.int .i64 (-(u : Int))] w fun e w' => e = .returned (.string (bs (Lib.decDigits u))) ∧ Below w.heap.size w w' := by
  have h10 : ¬ (-(u : Int)) ≤ -10 := by omega
  have hm : (-(u : Int)).tmod 10 = -(u : Int) := by
    rw [Int.neg_tmod, Int.tmod_eq_emod_of_nonneg (by omega)]; omega
  have hs : (48 : Int) - (-(u : Int)) = 48 + (u : Int) := by omega
  have hc := conv_digit u hu w
  have H := Lib.hid (decDigits_small' hu)
  go_enter Tryz.func116, Tryz.ntmps116
  go_wp2
  go_ret
  exact ⟨ret_str (by rw [H.out]), (Below.refl _ _).alloc (Nat.le_refl _) _⟩

set_option maxHeartbeats 400000 in
set_option maxRecDepth 100000 in
theorem ref_digits (u : Nat) : u ≤ 9223372036854775808 → ∀ w : World,
    Calls Tryz.prog 116 #[.int .i64 (-(u : Int))] w fun e w' => e = .returned (.string (bs (Lib.decDigits u))) ∧ Below w.heap.size w w' := by
  induction u using Nat.strongRecOn with
  | _ u ih =>
    intro hmax w
    by_cases hu : u < 10
    · exact ref_digits_small u hu w
    · have h10 : (-(u : Int)) ≤ -10 := by omega
      have hm : (-(u : Int)).tmod 10 = -((u % 10 : Nat) : Int) := by
        rw [Int.neg_tmod, Int.tmod_eq_emod_of_nonneg (by omega)]; omega
      have hq : (-(u : Int)).tdiv 10 = -((u / 10 : Nat) : Int) := by
        rw [Int.neg_tdiv, Int.tdiv_eq_ediv_of_nonneg (by omega)]; omega
      have hd10 : u % 10 < 10 := by omega
      have hvb : u / 10 ≤ 922337203685477581 := by omega
      have hs : (48 : Int) - (-((u % 10 : Nat) : Int)) = 48 + ((u % 10 : Nat) : Int) := by omega
      have hc := conv_digit (u % 10) hd10 w
      have H := Lib.hid (decDigits_big' hu)
      have IH := Lib.hid (ih (u / 10) (by omega) (by omega) (w.alloc (.cells #[.int .u8 (48 + ((u % 10 : Nat) : Int))] 5)))
      have hz : (bs (Lib.decDigits (u / 10))).size ≤ 20 := by
        rw [bs_size, Lib.decDigits_length]
        have := nDigits_le 18 (u / 10) (by simp; omega)
        omega
      have hz1 : (bs [digB (u % 10)]).size ≤ 1 := by rw [bs_size]; simp
      clear ih
      generalize hr : u % 10 = r at *
      generalize hv : u / 10 = v at *
      have HR := Lib.hid hr
      have HV := Lib.hid hv
      clear hr hv
      go_enter Tryz.func116, Tryz.ntmps116
      go_wp2_with fail
      refine IH.out.mono ?_
      rintro e w1 ⟨rfl, hb⟩
      go_wp2
      go_ret
      exact ⟨ret_str (by rw [H.out, bs_append]), (((Below.refl _ _).alloc (Nat.le_refl _) _).trans (hb.mono (by simp)))⟩

theorem intS_neg {n : Int} (h : n < 0) : intS n = 45 :: (Lib.decDigits n.natAbs ++ [59]) := by unfold intS Lib.itoa; rw [if_pos h]; rfl

theorem intS_pos {n : Int} (h : ¬ n < 0) : intS n = Lib.decDigits n.toNat ++ [59] := by unfold intS Lib.itoa; rw [if_neg h]

theorem dec_size (u : Nat) (h : u ≤ 9223372036854775808) : (bs (Lib.decDigits u)).size ≤ 20 := by
  rw [bs_size, Lib.decDigits_length]
  have := nDigits_le 18 u (by simp; omega)
  omega

set_option maxRecDepth 100000 in
theorem ref_Int (n : Int) (hn : isInt n) (w : World) :
    Calls Tryz.prog 117 #[.int .i64 n] w fun e w' => e = .returned (.string (bs (intS n))) ∧ Below w.heap.size w w' := by
  have h1 := hn.1
  have h2 := hn.2
  by_cases h : n < 0
  · obtain ⟨u, rfl⟩ : ∃ u : Nat, n = -(u : Int) := ⟨n.natAbs, by omega⟩
    have hu : u ≤ 9223372036854775808 := by omega
    have hz := dec_size u hu
    have e1 : intS (-(u : Int)) = 45 :: (Lib.decDigits u ++ [59]) := by rw [intS_neg h, show (-(u : Int)).natAbs = u by omega]
    have H := Lib.hid e1
    have HD := Lib.hid (ref_digits u hu w)
    clear e1
    go_enter Tryz.func117, Tryz.ntmps117
    go_wp2_with fail
    refine HD.out.mono ?_
    rintro e w1 ⟨rfl, hb⟩
    go_wp2
    go_ret
    exact ⟨ret_str (by rw [H.out, show (ByteArray.mk #[59]) = bs [59] from rfl, show (ByteArray.mk #[45]) = bs [45] from rfl, bs_append, bs_append]; rfl), hb⟩
  · obtain ⟨u, rfl⟩ : ∃ u : Nat, n = (u : Int) := ⟨n.toNat, by omega⟩
    have hu : u ≤ 9223372036854775808 := by omega
    have hu2 : u ≤ 9223372036854775807 := by omega
    have hz := dec_size u hu
    have e1 : intS (u : Int) = Lib.decDigits u ++ [59] := by rw [intS_pos h, Int.toNat_natCast]
    have H := Lib.hid e1
    have HD := Lib.hid (ref_digits u hu w)
    clear e1
    go_enter Tryz.func117, Tryz.ntmps117
    go_wp2_with fail
    refine HD.out.mono ?_
    rintro e w1 ⟨rfl, hb⟩
    go_wp2
    go_ret
    exact ⟨ret_str (by rw [H.out, show (ByteArray.mk #[59]) = bs [59] from rfl, bs_append]), hb⟩

set_option maxRecDepth 100000 in
theorem ref_Num (n : Int) (hn : isInt n) (w : World) :
    Calls Tryz.prog 90 #[.int .i64 n] w fun e w' => e = .returned (.string (bs (numS n))) ∧ Below w.heap.size w w' := by
  by_cases h : n < 0
  · have e1 : numS n = [] := by unfold numS; rw [if_pos h]
    have H := Lib.hid e1
    clear e1
    go_enter Tryz.func90, Tryz.ntmps90
    go_wp2
    go_ret
    exact ⟨ret_str (by rw [H.out]; rfl), Below.refl _ _⟩
  · have e1 : numS n = intS n := by unfold numS; rw [if_neg h]
    have H := Lib.hid e1
    clear e1
    go_enter Tryz.func90, Tryz.ntmps90
    go_wp2_with fail
    refine (ref_Int n hn _).mono ?_
    rintro e w1 ⟨rfl, hb⟩
    go_wp2
    go_ret
    exact ⟨ret_str (by rw [H.out]), hb⟩

theorem itoa_nat (n : Nat) : Lib.itoa (n : Int) = Lib.decDigits n := by unfold Lib.itoa; rw [if_neg (by omega), Int.toNat_natCast]

set_option maxRecDepth 100000 in
theorem ref_Text (s : ByteArray) (hs : s.size ≤ 4294967296) (w : World) :
    Calls Tryz.prog 89 #[.string s] w fun e w' => e = .returned (.string (bs (textS s.data.toList))) ∧ Below w.heap.size w w' := by
  have hz := dec_size s.size (by omega)
  have HD := Lib.hid (ref_digits s.size (by omega) w)
  go_enter Tryz.func89, Tryz.ntmps89
  go_wp2_with fail
  refine HD.out.mono ?_
  rintro e w1 ⟨rfl, hb⟩
  go_wp2
  go_ret
  refine ⟨?_, hb⟩
  have e1 : bs (Lib.decDigits s.size) ++ ⟨#[58]⟩ ++ s ++ ⟨#[44]⟩ = bs (textS s.data.toList) := by
    rw [← itoa_nat, show (ByteArray.mk #[58]) = bs [58] from rfl, show (ByteArray.mk #[44]) = bs [44] from rfl, ← bs_of s, bs_append, bs_append, bs_append, bs_data, bs_size]
    unfold textS; simp
  exact ret_str e1

theorem ref_Text_bs (s : List UInt8) (hs : s.length ≤ 4294967296) (w : World) :
    Calls Tryz.prog 89 #[.string (bs s)] w fun e w' => e = .returned (.string (bs (textS s))) ∧ Below w.heap.size w w' := by
  have := ref_Text (bs s) (by rw [bs_size]; exact hs) w
  rw [bs_data] at this
  exact this

/-- One digit more, as the code reckons (with ints that wrap). -/
def stepW (x : Int) (c : UInt8) : Int := wrap64 (wrap64 (10 * x) - ((c.toNat : Int) - 48))

theorem wrap_int (x : Int) : isInt (wrap64 x) := by unfold isInt wrap64; omega

theorem stepW_int (x : Int) (c : UInt8) : isInt (stepW x c) := wrap_int _

theorem fold_dec (u : Nat) : u ≤ 9223372036854775808 → (Lib.decDigits u).foldl stepW 0 = -(u : Int) := by
  induction u using Nat.strongRecOn with
  | _ u ih =>
    intro hu
    by_cases h : u < 10
    · rw [decDigits_small h]
      have e := dig_toNat u h
      simp only [List.foldl_cons, List.foldl_nil, stepW, e]
      unfold wrap64; omega
    · rw [decDigits_big h, List.foldl_append, ih (u / 10) (by omega) (by omega)]
      have e := dig_toNat (u % 10) (by omega)
      simp only [List.foldl_cons, List.foldl_nil, stepW, e]
      unfold wrap64; omega

theorem canon_none_of {l : List UInt8} (h : ∀ v, canon l = some v → False) : canon l = none := by
  cases hc : canon l with
  | none => rfl
  | some v => exact (h v hc).elim

/-- The digits of a numeral, behind its sign. -/
theorem canon_shape {l : List UInt8} {v : Int} (h : canon l = some v) :
    (l.head? = some 45 ∧ v < 0 ∧ (l.drop 1).foldl stepW 0 = v ∧ ∀ c ∈ l.drop 1, isDig c = true) ∨ (l.head? ≠ some 45 ∧ 0 ≤ v ∧ l.foldl stepW 0 = -v ∧ ∀ c ∈ l, isDig c = true) := by
  have hi := canon_int h
  have h1 := hi.1
  have h2 := hi.2
  have e := canon_some h
  subst e
  unfold Lib.itoa
  by_cases hn : v < 0
  · left
    rw [if_pos hn]
    refine ⟨rfl, hn, ?_, ?_⟩
    · show (Lib.decDigits v.natAbs).foldl stepW 0 = v
      rw [fold_dec _ (by omega)]; omega
    · exact decDigits_isDig _
  · right
    rw [if_neg hn]
    refine ⟨?_, by omega, ?_, decDigits_isDig _⟩
    · obtain ⟨c, r, hc, hd⟩ := decDigits_head v.toNat
      rw [hc]
      intro e
      simp only [List.head?_cons, Option.some.injEq] at e
      subst e
      exact absurd hd (by decide)
    · rw [fold_dec _ (by omega)]; omega

/-- What BackInt leaves. -/
def BackPost (l : List UInt8) (w : World) (e : Ending) (w' : World) : Prop :=
  ∃ (n : Int) (ok : Bool), e = .returned (.tuple #[.int .i64 n, .bool ok]) ∧ (if ok = true then canon l = some n else canon l = none) ∧ Below w.heap.size w w'

theorem bs_get (l : List UInt8) (k : Nat) (h : k < (bs l).size) (h2 : k < l.length) : (bs l)[k]'h = l[k] := by
  show (bs l).data[k]'_ = _
  simp [bs]

theorem fold_take {l : List UInt8} {f k : Nat} (hfk : f ≤ k) (hk : k < l.length) (x : Int) : ((l.drop f).take (k + 1 - f)).foldl stepW x = stepW (((l.drop f).take (k - f)).foldl stepW x) l[k] := by
  have e : k + 1 - f = (k - f) + 1 := by omega
  have hl : k - f < (l.drop f).length := by simp; omega
  rw [e, List.take_succ_eq_append_getElem hl, List.foldl_append]
  simp only [List.foldl_cons, List.foldl_nil, List.getElem_drop]
  congr 2
  omega

theorem backInt_end (l : List UInt8) (x : Int) (hx : isInt x) (hv : ∀ v, canon l = some v → v = x) : if ((bs (intS x)).toList == (bs (l ++ [59])).toList) = true then canon l = some x else canon l = none := by
  rw [bs_ne_iff]
  by_cases h : Lib.itoa x = l
  · have : intS x = l ++ [59] := by unfold intS; rw [h]
    rw [decide_eq_true this, if_pos rfl, ← h, canon_itoa x hx]
  · have : ¬ intS x = l ++ [59] := by
      unfold intS
      intro e
      exact h (List.append_cancel_right e)
    rw [decide_eq_false this, if_neg (by decide)]
    exact canon_none_of fun v hc => h (by rw [← hv v hc]; exact canon_some hc)

set_option maxHeartbeats 1000000 in
set_option maxRecDepth 100000 in
theorem backInt_neg (l : List UInt8) (hl : l.length ≤ 21) (hh : l.head? = some 45) (w : World) :
    Calls Tryz.prog 144 #[.string (bs l)] w (BackPost l w) := by
  obtain ⟨t, rfl⟩ : ∃ t, l = 45 :: t := by
    cases l with
    | nil => simp at hh
    | cons c t => simp at hh; exact ⟨t, by rw [hh]⟩
  have hsz : (bs (45 :: t)).size = t.length + 1 := by rw [bs_size]; rfl
  have hs0 : 0 < (bs (45 :: t)).size := by omega
  have hs21 : (bs (45 :: t)).size ≤ 21 := by rw [bs_size]; exact hl
  have h45 : ((((bs (45 :: t))[0]'hs0).toNat : Int) == 45) = true := by rw [bs_get0]; decide
  have HZ := Lib.hid hsz
  clear hsz hh
  go_enter Tryz.func144, Tryz.ntmps144
  go_wp2
  go_loopw [5, 6] (fun n i wr => ∃ (k : Nat) (x : Int), 1 ≤ k ∧ k ≤ (bs (45 :: t)).size ∧ i = .int .i64 k ∧ n = .int .i64 x ∧ wr = w ∧ isInt x ∧ x = (((List.drop 1 (45 :: t))).take (k - 1)).foldl stepW 0 ∧ ∀ c ∈ ((List.drop 1 (45 :: t))).take (k - 1), isDig c = true) (fun _ i _ => (bs (45 :: t)).size - (intOf i).toNat)
  case atStart => exact ⟨1, 0, Nat.le_refl _, by omega, rfl, rfl, rfl, by unfold isInt; omega, rfl, by simp⟩
  case round =>
    obtain ⟨k, x, hk1, hk, rfl, rfl, rfl, hx, hxe, hdig⟩ := hrel
    have HX := Lib.hid hxe
    have HD := Lib.hid hdig
    have hx1 := hx.1
    have hx2 := hx.2
    clear hxe hdig
    by_cases hlt : k < (bs (45 :: t)).size
    · have hkl : k < (45 :: t).length := by rw [← bs_size]; exact hlt
      have hgk := Lib.hid (bs_get _ k hlt hkl)
      have hkt : k < t.length + 1 := by simpa using hkl
      by_cases hd : isDig ((bs (45 :: t))[k]'hlt) = true
      · have hd2 := hd
        simp only [isDig, decide_eq_true_eq] at hd2
        obtain ⟨hd48, hd57⟩ := hd2
        have HI := Lib.hid hd
        clear hd
        go_wp2
        go_roundw
        case rel => exact ⟨k + 1, stepW x ((bs (45 :: t))[k]'hlt), by omega, by omega, by go_num, rfl, trivial, stepW_int _ _, by rw [HX.out, hgk.out]; have h := fold_take (l := (45 :: t)) (f := 1) hk1 hkl 0; exact h.symm, by have h := take_all (P := fun c => isDig c = true) HD.out (show k - 1 < (List.drop 1 (45 :: t)).length by simp only [List.drop_succ_cons, List.drop_zero]; omega) (by rw [List.getElem_drop]; have h2 := HI.out; rw [hgk.out] at h2; simpa [show 1 + (k - 1) = k by omega] using h2); rwa [show k - 1 + 1 = k + 1 - 1 by omega] at h⟩
        case measure => simp [intOf]; omega
      · have hnone : canon (45 :: t) = none := canon_none_of fun v hc => by
          rcases canon_shape hc with ⟨s1, -, -, s4⟩ | ⟨s1, -, -, s4⟩
          · have hm : (45 :: t)[k]'hkl ∈ List.drop 1 (45 :: t) := by
              rw [List.mem_iff_getElem]
              exact ⟨k - 1, by simp only [List.drop_succ_cons, List.drop_zero]; omega, by rw [List.getElem_drop]; congr 1; omega⟩
            have := s4 _ hm
            rw [← hgk.out] at this
            exact hd this
          · exact s1 rfl
        have HN := Lib.hid hnone
        have hd2 : ((bs (45 :: t))[k]'hlt).toNat < 48 ∨ 57 < ((bs (45 :: t))[k]'hlt).toNat := by
          simp only [isDig, decide_eq_true_eq] at hd
          omega
        clear hd hnone
        rcases hd2 with hd2 | hd2
        · go_wp2
          go_ret2
          exact ⟨0, false, rfl, HN.out, Below.refl _ _⟩
        · have hd3 : ¬ ((bs (45 :: t))[k]'hlt).toNat < 48 := by omega
          go_wp2
          go_ret2
          exact ⟨0, false, rfl, HN.out, Below.refl _ _⟩
    · have hk2 : k = (bs (45 :: t)).size := by omega
      have hall : x = (List.drop 1 (45 :: t)).foldl stepW 0 := by
        have h := HX.out
        rwa [List.take_of_length_le (by rw [hk2, HZ.out]; simp)] at h
      have hend := backInt_end (45 :: t) x hx (fun v hc => by
        rcases canon_shape hc with ⟨-, -, s3, -⟩ | ⟨s1, -⟩
        · rw [hall, s3]
        · exact absurd rfl s1)
      have HEnd := Lib.hid hend
      have hzi : (bs (45 :: t)).size ≤ 9223372036854775806 := by omega
      clear hall hend hk2
      go_wp2_with fail
      refine (ref_Int x hx _).mono ?_
      rintro e w2 ⟨rfl, hb⟩
      go_wp2
      go_ret2
      refine ⟨x, _, rfl, ?_, hb⟩
      rw [show (ByteArray.mk #[59]) = bs [59] from rfl, bs_append]
      exact HEnd.out

set_option maxHeartbeats 1000000 in
set_option maxRecDepth 100000 in
theorem backInt_posA (l : List UInt8) (hl : l.length ≤ 21) (hh : l.head? ≠ some 45) (hs0 : 0 < (bs l).size) (w : World) :
    Calls Tryz.prog 144 #[.string (bs l)] w (BackPost l w) := by
  have hs21 : (bs l).size ≤ 21 := by rw [bs_size]; exact hl
  have h45 : ((((bs l)[0]'hs0).toNat : Int) == 45) = false := by
    have h1 : 0 < l.length := by rw [← bs_size]; exact hs0
    rw [bs_get l 0 hs0 h1]
    cases l with
    | nil => simp at h1
    | cons c t =>
      simp only [List.head?_cons, ne_eq, Option.some.injEq] at hh
      simp only [List.getElem_cons_zero, beq_eq_false_iff_ne, ne_eq]
      intro e
      exact hh (UInt8.toNat_inj.1 (by simp; omega))
  go_enter Tryz.func144, Tryz.ntmps144
  go_wp2
  go_loopw [5, 6] (fun n i wr => ∃ (k : Nat) (x : Int), 0 ≤ k ∧ k ≤ (bs l).size ∧ i = .int .i64 k ∧ n = .int .i64 x ∧ wr = w ∧ isInt x ∧ x = ((l).take (k)).foldl stepW 0 ∧ ∀ c ∈ (l).take (k), isDig c = true) (fun _ i _ => (bs l).size - (intOf i).toNat)
  case atStart => exact ⟨0, 0, Nat.le_refl _, by omega, rfl, rfl, rfl, by unfold isInt; omega, rfl, by simp⟩
  case round =>
    obtain ⟨k, x, hk1, hk, rfl, rfl, rfl, hx, hxe, hdig⟩ := hrel
    have HX := Lib.hid hxe
    have HD := Lib.hid hdig
    have hx1 := hx.1
    have hx2 := hx.2
    clear hxe hdig
    by_cases hlt : k < (bs l).size
    · have hkl : k < l.length := by rw [← bs_size]; exact hlt
      have hgk := Lib.hid (bs_get _ k hlt hkl)
      by_cases hd : isDig ((bs l)[k]'hlt) = true
      · have hd2 := hd
        simp only [isDig, decide_eq_true_eq] at hd2
        obtain ⟨hd48, hd57⟩ := hd2
        have HI := Lib.hid hd
        clear hd
        go_wp2
        go_roundw
        case rel => exact ⟨k + 1, stepW x ((bs l)[k]'hlt), by omega, by omega, by go_num, rfl, trivial, stepW_int _ _, by rw [HX.out, hgk.out]; have h := fold_take (l := l) (f := 0) (Nat.zero_le k) hkl 0; simp only [List.drop_zero, Nat.sub_zero] at h; exact h.symm, take_all (P := fun c => isDig c = true) HD.out hkl (by have h2 := HI.out; rwa [hgk.out] at h2)⟩
        case measure => simp [intOf]; omega
      · have hnone : canon l = none := canon_none_of fun v hc => by
          rcases canon_shape hc with ⟨s1, -, -, s4⟩ | ⟨s1, -, -, s4⟩
          · exact hh s1
          · have := s4 _ (List.getElem_mem hkl)
            rw [← hgk.out] at this
            exact hd this
        have HN := Lib.hid hnone
        have hd2 : ((bs l)[k]'hlt).toNat < 48 ∨ 57 < ((bs l)[k]'hlt).toNat := by
          simp only [isDig, decide_eq_true_eq] at hd
          omega
        clear hd hnone
        rcases hd2 with hd2 | hd2
        · go_wp2
          go_ret2
          exact ⟨0, false, rfl, HN.out, Below.refl _ _⟩
        · have hd3 : ¬ ((bs l)[k]'hlt).toNat < 48 := by omega
          go_wp2
          go_ret2
          exact ⟨0, false, rfl, HN.out, Below.refl _ _⟩
    · have hk2 : k = (bs l).size := by omega
      have hall : x = l.foldl stepW 0 := by
        have h := HX.out
        rwa [List.take_of_length_le (by rw [hk2, bs_size]; exact Nat.le_refl _)] at h
      have hend := backInt_end l (wrap64 (-x)) (wrap_int _) (fun v hc => by
        have hvi := canon_int hc
        rcases canon_shape hc with ⟨s1, -⟩ | ⟨-, s2, s3, -⟩
        · exact absurd s1 hh
        · rw [hall, s3, Int.neg_neg]
          exact (IntWalk.wrap64_in v hvi).symm)
      have HEnd := Lib.hid hend
      have HW := Lib.hid (ref_Int (wrap64 (-x)) (wrap_int _) wr)
      have hzi : (bs l).size ≤ 9223372036854775806 := by omega
      clear hall hend hk2
      go_wp2_with fail
      refine HW.out.mono ?_
      rintro e w2 ⟨rfl, hb⟩
      go_wp2
      go_ret2
      refine ⟨wrap64 (-x), _, rfl, ?_, hb⟩
      rw [show (ByteArray.mk #[59]) = bs [59] from rfl, bs_append]
      exact HEnd.out

set_option maxHeartbeats 1000000 in
set_option maxRecDepth 100000 in
theorem backInt_posB (l : List UInt8) (hl : l.length ≤ 21) (hh : l.head? ≠ some 45) (hs0 : ¬ 0 < (bs l).size) (w : World) :
    Calls Tryz.prog 144 #[.string (bs l)] w (BackPost l w) := by
  have hs21 : (bs l).size ≤ 21 := by rw [bs_size]; exact hl
  go_enter Tryz.func144, Tryz.ntmps144
  go_wp2
  go_loopw [5, 6] (fun n i wr => ∃ (k : Nat) (x : Int), 0 ≤ k ∧ k ≤ (bs l).size ∧ i = .int .i64 k ∧ n = .int .i64 x ∧ wr = w ∧ isInt x ∧ x = ((l).take (k)).foldl stepW 0 ∧ ∀ c ∈ (l).take (k), isDig c = true) (fun _ i _ => (bs l).size - (intOf i).toNat)
  case atStart => exact ⟨0, 0, Nat.le_refl _, by omega, rfl, rfl, rfl, by unfold isInt; omega, rfl, by simp⟩
  case round =>
    obtain ⟨k, x, hk1, hk, rfl, rfl, rfl, hx, hxe, hdig⟩ := hrel
    have HX := Lib.hid hxe
    have HD := Lib.hid hdig
    have hx1 := hx.1
    have hx2 := hx.2
    clear hxe hdig
    by_cases hlt : k < (bs l).size
    · exact absurd (Nat.lt_of_le_of_lt (Nat.zero_le k) hlt) hs0
    · have hk2 : k = (bs l).size := by omega
      have hall : x = l.foldl stepW 0 := by
        have h := HX.out
        rwa [List.take_of_length_le (by rw [hk2, bs_size]; exact Nat.le_refl _)] at h
      have hend := backInt_end l (wrap64 (-x)) (wrap_int _) (fun v hc => by
        have hvi := canon_int hc
        rcases canon_shape hc with ⟨s1, -⟩ | ⟨-, s2, s3, -⟩
        · exact absurd s1 hh
        · rw [hall, s3, Int.neg_neg]
          exact (IntWalk.wrap64_in v hvi).symm)
      have HEnd := Lib.hid hend
      have HW := Lib.hid (ref_Int (wrap64 (-x)) (wrap_int _) wr)
      have hzi : (bs l).size ≤ 9223372036854775806 := by omega
      clear hall hend hk2
      go_wp2_with fail
      refine HW.out.mono ?_
      rintro e w2 ⟨rfl, hb⟩
      go_wp2
      go_ret2
      refine ⟨wrap64 (-x), _, rfl, ?_, hb⟩
      rw [show (ByteArray.mk #[59]) = bs [59] from rfl, bs_append]
      exact HEnd.out

theorem backInt (l : List UInt8) (hl : l.length ≤ 21) (w : World) : Calls Tryz.prog 144 #[.string (bs l)] w (BackPost l w) := by
  by_cases hh : l.head? = some 45
  · exact backInt_neg l hl hh w
  · by_cases hs0 : 0 < (bs l).size
    · exact backInt_posA l hl hh hs0 w
    · exact backInt_posB l hl hh hs0 w

/-- The reference reader's block. -/
def Qb (b : Nat) (r : Rd) (w : World) : Prop := w.heap[b]? = some (.cells #[.string (bs r.1), .bool r.2] 119 (0, 0))

theorem Qb.lt {b : Nat} {r : Rd} {w : World} (h : Qb b r w) : b < w.heap.size := by
  rcases Nat.lt_or_ge b w.heap.size with h' | h'
  · exact h'
  · unfold Qb at h; simp [Array.getElem?_eq_none h'] at h

theorem Qb.c0 {b : Nat} {r : Rd} {w : World} (h : Qb b r w) : w.cell? ⟨b, 0, none⟩ = some (.string (bs r.1)) := by rw [Lib.cell_of_heap h]; rfl

theorem Qb.c1 {b : Nat} {r : Rd} {w : World} (h : Qb b r w) : w.cell? ⟨b, 1, none⟩ = some (.bool r.2) := by rw [Lib.cell_of_heap h]; rfl

theorem Qb.f {b : Nat} {r : Rd} {w : World} (h : Qb b r w) (j : Nat) : w.frozen? ⟨b, j, none⟩ = false := Lib.frozen_of_heap h j

theorem Qb.next {b : Nat} {r : Rd} {w w' : World} (h : Qb b r w) (hb : Below w.heap.size w w') : Qb b r w' := by
  have hlt := h.lt
  unfold Qb at h ⊢
  rw [hb.block b hlt]; exact h

theorem Qb.set0 {b : Nat} {r : Rd} {w : World} (h : Qb b r w) (l : List UInt8) : Qb b (l, r.2) (w.setCell ⟨b, 0, none⟩ (.string (bs l))) := by
  unfold Qb at h ⊢
  simp [World.setCell, Array.getElem?_modify, h]

theorem Qb.set1 {b : Nat} {r : Rd} {w : World} (h : Qb b r w) (f : Bool) : Qb b (r.1, f) (w.setCell ⟨b, 1, none⟩ (.bool f)) := by
  unfold Qb at h ⊢
  simp [World.setCell, Array.getElem?_modify, h]

theorem Qb.fail2 {b : Nat} {r : Rd} {w : World} (h : Qb b r w) : Qb b failed ((w.setCell ⟨b, 0, none⟩ (.string { data := #[] })).setCell ⟨b, 1, none⟩ (.bool true)) := by
  have h2 := (h.set0 []).set1 true
  rw [bs_nil] at h2
  exact h2

/-- What a method of the reference reader leaves. -/
def Rpost' (b : Nat) (v : Value) (r : Rd) (w : World) (e : Ending) (w' : World) : Prop := e = .returned v ∧ Qb b r w' ∧ w.grownBy w' (some b)

set_option maxRecDepth 100000 in
theorem qopen (s : List UInt8) (w : World) :
    Calls Tryz.prog 85 #[.string (bs s)] w fun e w' => e = .returned (.pointer (some ⟨w.heap.size, 0, none⟩)) ∧ Qb w.heap.size (s, false) w' ∧ Below w.heap.size w w' ∧ w.heap.size < w'.heap.size := by
  go_enter Tryz.func85, Tryz.ntmps85
  go_wp2
  go_ret
  refine ⟨rfl, ?_, (Below.refl _ _).alloc (Nat.le_refl _) _, by simp⟩
  unfold Qb
  exact Array.getElem?_push_size ..

set_option maxRecDepth 100000 in
theorem q_fail (b : Nat) (r : Rd) (w : World) (h : Qb b r w) :
    Calls Tryz.prog 114 #[.pointer (some ⟨b, 0, none⟩)] w (Rpost' b (.int .i64 0) failed w) := by
  have c0 := h.c0
  have c1 := h.c1
  have f0 := h.f 0
  have f1 := h.f 1
  go_enter Tryz.func114, Tryz.ntmps114
  go_wp2
  go_ret
  exact ⟨rfl, h.fail2, only_fail2 _ _⟩

theorem idx_none (c : UInt8) : ∀ (l : List UInt8), (∀ x ∈ l, x ≠ c) → Lib.indexByte l c = -1
  | [], _ => rfl
  | d :: l, h => by
    have ih := idx_none c l (fun x hx => h x (List.mem_cons_of_mem _ hx))
    rw [indexByte_cons, if_neg (h d (List.mem_cons_self ..)), ih, if_pos (by omega)]

theorem idx_at {c : UInt8} {l : List UInt8} {k : Nat} (hk : k < l.length) (hc : l[k] = c) (hn : ∀ x ∈ l.take k, x ≠ c) : Lib.indexByte l c = (k : Int) := by
  have e : l = l.take k ++ c :: l.drop (k + 1) := by
    conv => lhs; rw [← List.take_append_drop k l, List.drop_eq_getElem_cons hk, hc]
  have h := indexByte_skip c (l.take k) (l.drop (k + 1)) hn
  rw [← e] at h
  rw [h, List.length_take]; omega

theorem canon_long {l : List UInt8} (h : 20 < l.length) : canon l = none := canon_none_of fun v hc => by
  have h1 := itoa_len v (canon_int hc)
  rw [canon_some hc] at h1; omega

theorem digits_far {c : UInt8} {l : List UInt8} {f : Bool} {k : Nat} (hk : 20 < k) (hn : ∀ x ∈ l.take k, x ≠ c) : digitsF c (l, f) = (0, failed) := by
  unfold digitsF
  by_cases h : Lib.indexByte l c < 0
  · rw [if_pos h]
  · rw [if_neg h]
    obtain ⟨a, b, e, hi⟩ := indexByte_hit c l (by omega)
    have ha : k ≤ a.length := by
      rcases Nat.lt_or_ge a.length k with h' | h'
      · exact absurd rfl (hn c (by
          rw [e, List.take_append]
          have : k - a.length = (k - a.length - 1) + 1 := by omega
          rw [this, List.take_succ_cons]
          simp))
      · exact h'
    rw [hi]
    simp only [Int.toNat_natCast]
    rw [e, List.take_left' rfl, canon_long (by omega)]

theorem digits_missing {c : UInt8} {l : List UInt8} {f : Bool} (hn : ∀ x ∈ l, x ≠ c) : digitsF c (l, f) = (0, failed) := by
  unfold digitsF
  rw [if_pos (by rw [idx_none c l hn]; omega)]

set_option maxHeartbeats 1000000 in
set_option maxRecDepth 100000 in
theorem q_ahead (b : Nat) (r : Rd) (c : UInt8) (w : World) (h : Qb b r w) (hr : r.1.length ≤ 4294967296) :
    Calls Tryz.prog 129 #[.pointer (some ⟨b, 0, none⟩), .int .u8 (c.toNat : Int)] w (Rpost' b (.int .i64 (digitsF c r).1) (digitsF c r).2 w) := by
  obtain ⟨l, f⟩ := r
  have c0 := h.c0
  have f0 := h.f 0
  have hsm : (bs l).size ≤ 4294967296 := by rw [bs_size]; exact hr
  obtain ⟨y, hy⟩ : ∃ y, y = digitsF c (l, f) := ⟨_, rfl⟩
  rw [← hy]
  have HY := Lib.hid hy
  clear hy
  go_enter Tryz.func129, Tryz.ntmps129
  go_wp2
  go_loopw [5] (fun i wr => ∃ k : Nat, k ≤ 21 ∧ k ≤ (bs l).size ∧ i = .int .i64 k ∧ wr = w ∧ ∀ x ∈ l.take k, x ≠ c) (fun i _ => (bs l).size - (intOf i).toNat)
  case atStart => exact ⟨0, by omega, Nat.zero_le _, rfl, rfl, by simp⟩
  case round =>
    obtain ⟨k, hk21, hk, rfl, rfl, hno⟩ := hrel
    have HNO := Lib.hid hno
    clear hno
    by_cases hlt : k < (bs l).size
    · have hkl : k < l.length := by rw [← bs_size]; exact hlt
      have hgk := Lib.hid (bs_get l k hlt hkl)
      by_cases hc : l[k] = c
      · have hne : ((((bs l)[k]'hlt).toNat : Int) != (c.toNat : Int)) = false := by rw [hgk.out, hc]; simp
        have hidx := idx_at hkl hc HNO.out
        have HB := Lib.hid (backInt (l.take k) (by simp; omega) wr)
        have hkI : (k : Int) < ((bs l).size : Int) := by omega
        have HI := Lib.hid hidx
        clear hidx hc
        have hcase : k < 21 ∨ ¬ k < 21 := by omega
        rcases hcase with h21 | h21
        · go_wp2_with fail
          rw [bs_take]
          refine HB.out.mono ?_
          rintro e w1 ⟨n, ok, rfl, hok, hb1⟩
          have h1 := h.next hb1
          cases ok
          · have hcn : canon (l.take k) = none := hok
            have hy2 : y = (0, failed) := by rw [HY.out]; unfold digitsF; rw [HI.out, if_neg (by omega), Int.toNat_natCast, hcn]
            have HY2 := Lib.hid hy2
            clear hy2 hcn hok
            go_wp2_with fail
            refine (q_fail b _ _ h1).mono ?_
            rintro e w2 ⟨rfl, h2, g2⟩
            have g02 := only_trans (only_below (only_refl wr b) hb1) g2
            go_wp2
            go_ret
            rw [HY2.out]
            exact ⟨rfl, h2, g02⟩
          · have hcn : canon (l.take k) = some n := hok
            have hy2 : y = (n, (l.drop (k + 1), f)) := by rw [HY.out]; unfold digitsF; rw [HI.out, if_neg (by omega), Int.toNat_natCast, hcn]
            have HY2 := Lib.hid hy2
            have d0 := h1.c0
            have d1 := h1.f 0
            clear hy2 hcn hok
            go_wp2
            go_ret
            rw [HY2.out, bs_drop]
            exact ⟨rfl, h1.set0 _, only_setCell (p := ⟨b, 0, none⟩) (only_below (only_refl wr b) hb1) (Or.inl rfl) _⟩
        · go_wp2_with fail
          rw [bs_take]
          refine HB.out.mono ?_
          rintro e w1 ⟨n, ok, rfl, hok, hb1⟩
          have h1 := h.next hb1
          cases ok
          · have hcn : canon (l.take k) = none := hok
            have hy2 : y = (0, failed) := by rw [HY.out]; unfold digitsF; rw [HI.out, if_neg (by omega), Int.toNat_natCast, hcn]
            have HY2 := Lib.hid hy2
            clear hy2 hcn hok
            go_wp2_with fail
            refine (q_fail b _ _ h1).mono ?_
            rintro e w2 ⟨rfl, h2, g2⟩
            have g02 := only_trans (only_below (only_refl wr b) hb1) g2
            go_wp2
            go_ret
            rw [HY2.out]
            exact ⟨rfl, h2, g02⟩
          · have hcn : canon (l.take k) = some n := hok
            have hy2 : y = (n, (l.drop (k + 1), f)) := by rw [HY.out]; unfold digitsF; rw [HI.out, if_neg (by omega), Int.toNat_natCast, hcn]
            have HY2 := Lib.hid hy2
            have d0 := h1.c0
            have d1 := h1.f 0
            clear hy2 hcn hok
            go_wp2
            go_ret
            rw [HY2.out, bs_drop]
            exact ⟨rfl, h1.set0 _, only_setCell (p := ⟨b, 0, none⟩) (only_below (only_refl wr b) hb1) (Or.inl rfl) _⟩
      · have hne : ((((bs l)[k]'hlt).toNat : Int) != (c.toNat : Int)) = true := by
          rw [hgk.out, bne_iff_ne]
          intro e
          exact hc (UInt8.toNat_inj.1 (by omega))
        have hkI : (k : Int) < ((bs l).size : Int) := by omega
        have hst := take_all (P := fun x => x ≠ c) HNO.out hkl hc
        have HST := Lib.hid hst
        clear hst hc
        by_cases h21 : k < 21
        · go_wp2
          go_roundw
          case rel => exact ⟨k + 1, by omega, by omega, by go_num, trivial, HST.out⟩
          case measure => simp [intOf]; omega
        · have hy2 : y = (0, failed) := by rw [HY.out]; exact digits_far (show 20 < k + 1 by omega) HST.out
          have HY2 := Lib.hid hy2
          clear hy2
          go_wp2_with fail
          refine (q_fail b _ _ h).mono ?_
          rintro e w2 ⟨rfl, h2, g2⟩
          go_wp2
          go_ret
          rw [HY2.out]
          exact ⟨rfl, h2, g2⟩
    · have hy2 : y = (0, failed) := by
        rw [HY.out]
        have h := HNO.out
        rw [List.take_of_length_le (by rw [bs_size] at hlt; omega)] at h
        exact digits_missing h
      have HY2 := Lib.hid hy2
      clear hy2
      go_wp2_with fail
      refine (q_fail b _ _ h).mono ?_
      rintro e w2 ⟨rfl, h2, g2⟩
      go_wp2
      go_ret
      rw [HY2.out]
      exact ⟨rfl, h2, g2⟩

set_option maxHeartbeats 400000 in
set_option maxRecDepth 100000 in
theorem q_number (b : Nat) (r : Rd) (c : UInt8) (w : World) (h : Qb b r w) (hr : r.1.length ≤ 4294967296) :
    Calls Tryz.prog 113 #[.pointer (some ⟨b, 0, none⟩), .int .u8 (c.toNat : Int)] w (Rpost' b (.int .i64 (naturalF c r).1) (naturalF c r).2 w) := by
  have hd := q_ahead b r c w h hr
  by_cases hn : (digitsF c r).1 < 0
  · have e1 : naturalF c r = (0, failed) := by unfold naturalF; rw [if_pos hn]
    rw [e1]
    clear e1
    generalize digitsF c r = z at *
    obtain ⟨n, q⟩ := z
    have HD := Lib.hid hd
    clear hd
    simp only at hn
    go_enter Tryz.func113, Tryz.ntmps113
    go_wp2_with fail
    refine HD.out.mono ?_
    rintro e w1 ⟨rfl, h1, g1⟩
    go_wp2_with fail
    refine (q_fail b q _ h1).mono ?_
    rintro e w2 ⟨rfl, h2, g2⟩
    have g02 := only_trans g1 g2
    go_wp2
    go_ret
    exact ⟨rfl, h2, g02⟩
  · have e1 : naturalF c r = digitsF c r := by unfold naturalF; rw [if_neg hn]
    rw [e1]
    clear e1
    generalize digitsF c r = z at *
    obtain ⟨n, q⟩ := z
    have HD := Lib.hid hd
    clear hd
    simp only at hn
    go_enter Tryz.func113, Tryz.ntmps113
    go_wp2_with fail
    refine HD.out.mono ?_
    rintro e w1 ⟨rfl, h1, g1⟩
    go_wp2
    go_ret
    exact ⟨rfl, h1, g1⟩

set_option maxRecDepth 100000 in
theorem q_Num (b : Nat) (r : Rd) (w : World) (h : Qb b r w) (hr : r.1.length ≤ 4294967296) :
    Calls Tryz.prog 88 #[.pointer (some ⟨b, 0, none⟩)] w (Rpost' b (.int .i64 (numF r).1) (numF r).2 w) := by
  have hd := q_number b r 59 w h hr
  show Calls _ _ _ _ (Rpost' b (.int .i64 (naturalF 59 r).1) (naturalF 59 r).2 w)
  have HD := Lib.hid hd
  clear hd
  go_enter Tryz.func88, Tryz.ntmps88
  go_wp2_with fail
  refine HD.out.mono ?_
  rintro e w1 ⟨rfl, h1, g1⟩
  go_wp2
  go_ret
  exact ⟨rfl, h1, g1⟩

set_option maxRecDepth 100000 in
theorem q_Left (b : Nat) (r : Rd) (w : World) (h : Qb b r w) :
    Calls Tryz.prog 86 #[.pointer (some ⟨b, 0, none⟩)] w fun e w' => e = .returned (.int .i64 (r.1.length : Int)) ∧ w = w' := by
  have c0 := h.c0
  have HZ := Lib.hid (bs_size r.1)
  go_enter Tryz.func86, Tryz.ntmps86
  go_wp2
  go_ret
  exact ⟨ret_int (by show ((bs r.1).size : Int) = _; rw [HZ.out]), rfl⟩

/-- Whether a closing byte stands there. -/
def closeOk (c : UInt8) (r : Rd) : Bool := match r.1 with | [] => false | d :: _ => decide (d = c)

theorem closing_flag {c : UInt8} {r : Rd} (h : r.2 = false) : (closingF c r).2 = !closeOk c r := by
  obtain ⟨l, f⟩ := r
  simp only at h
  subst h
  unfold closingF closeOk
  cases l with
  | nil => rfl
  | cons d t =>
    simp only
    by_cases hd : d = c
    · simp [hd]
    · simp [hd, failed]

set_option maxHeartbeats 400000 in
set_option maxRecDepth 100000 in
theorem q_close (b : Nat) (r : Rd) (c : UInt8) (w : World) (h : Qb b r w) (hr : r.1.length ≤ 4294967296) :
    Calls Tryz.prog 115 #[.pointer (some ⟨b, 0, none⟩), .int .u8 (c.toNat : Int)] w (Rpost' b (.bool (closeOk c r)) (closingF c r) w) := by
  obtain ⟨l, f⟩ := r
  cases l with
  | nil =>
    have c0 := h.c0
    have hem : (((bs []).size : Nat) : Int) = 0 := by rw [bs_size]; rfl
    show Calls _ _ _ _ (Rpost' b (.bool false) failed w)
    go_enter Tryz.func115, Tryz.ntmps115
    go_wp2_with fail
    refine (q_fail b _ _ h).mono ?_
    rintro e w2 ⟨rfl, h2, g2⟩
    go_wp2
    go_ret
    exact ⟨rfl, h2, g2⟩
  | cons d t =>
    have c0 := h.c0
    have f0 := h.f 0
    have hsz : 0 < (bs (d :: t)).size := by rw [bs_size]; simp
    have hsI : ((((bs (d :: t)).size : Nat) : Int) == 0) = false := beq_eq_false_iff_ne.2 (by omega)
    have hsm : (bs (d :: t)).size ≤ 4294967296 := by rw [bs_size]; exact hr
    by_cases hd : d = c
    · have e1 : closingF c (d :: t, f) = (t, f) := by unfold closingF; simp [hd]
      have e2 : closeOk c (d :: t, f) = true := by unfold closeOk; simp [hd]
      have hne : ((((bs (d :: t))[0]'hsz).toNat : Int) != (c.toNat : Int)) = false := by rw [bs_get0, hd]; simp
      rw [e1, e2]
      clear e1 e2 hd
      go_enter Tryz.func115, Tryz.ntmps115
      go_wp2
      go_ret
      rw [bs_drop]
      exact ⟨rfl, h.set0 _, only_setCell (p := ⟨b, 0, none⟩) (only_refl w b) (Or.inl rfl) _⟩
    · have e1 : closingF c (d :: t, f) = failed := by unfold closingF; simp [hd]
      have e2 : closeOk c (d :: t, f) = false := by unfold closeOk; simp [hd]
      have hne : ((((bs (d :: t))[0]'hsz).toNat : Int) != (c.toNat : Int)) = true := by
        rw [bs_get0, bne_iff_ne]
        intro e
        exact hd (UInt8.toNat_inj.1 (by omega))
      rw [e1, e2]
      clear e1 e2 hd
      go_enter Tryz.func115, Tryz.ntmps115
      go_wp2_with fail
      refine (q_fail b _ _ h).mono ?_
      rintro e w2 ⟨rfl, h2, g2⟩
      go_wp2
      go_ret
      exact ⟨rfl, h2, g2⟩

/-- How Text goes on behind the number. -/
theorem textF_cases (r : Rd) (ho : okRd r) : ((naturalF 58 r).2.2 = true ∧ textF r = ([], failed)) ∨
    ((naturalF 58 r).2.2 = false ∧ ((naturalF 58 r).2.1.length : Int) ≤ (naturalF 58 r).1 ∧ textF r = ([], failed)) ∨
    ((naturalF 58 r).2.2 = false ∧ (naturalF 58 r).1 < ((naturalF 58 r).2.1.length : Int) ∧ textF r = (if closeOk 44 ((naturalF 58 r).2.1.drop (naturalF 58 r).1.toNat, false) = true then (naturalF 58 r).2.1.take (naturalF 58 r).1.toNat else [], closingF 44 ((naturalF 58 r).2.1.drop (naturalF 58 r).1.toNat, false))) := by
  have hn := naturalF_int 58 r
  have hok := naturalF_ok (c := 58) ho
  unfold textF
  generalize naturalF 58 r = z at *
  obtain ⟨n, l, f⟩ := z
  simp only at *
  cases f
  · right
    by_cases h1 : (l.length : Int) ≤ n
    · left
      refine ⟨rfl, h1, ?_⟩
      by_cases h2 : (l.length : Int) < n
      · rw [if_pos h2]
      · rw [if_neg h2]
        have : l.drop n.toNat = [] := List.drop_eq_nil_of_le (by omega)
        rw [this]
        rfl
    · right
      refine ⟨rfl, by omega, ?_⟩
      rw [if_neg (by omega)]
      simp only [closing_flag (c := 44) (r := (l.drop n.toNat, false)) rfl]
      cases hc : closeOk 44 (l.drop n.toNat, false)
      · simp
      · simp
  · left
    have hl : l = [] := hok rfl
    subst hl
    refine ⟨rfl, ?_⟩
    by_cases h2 : (([] : List UInt8).length : Int) < n
    · rw [if_pos h2]
    · rw [if_neg h2]
      simp [closingF, failed]

set_option maxHeartbeats 400000 in
set_option maxRecDepth 100000 in
theorem q_text (b : Nat) (r : Rd) (w : World) (h : Qb b r w) (hr : r.1.length ≤ 4294967296) (ho : okRd r) :
    Calls Tryz.prog 87 #[.pointer (some ⟨b, 0, none⟩)] w (Rpost' b (.string (bs (textF r).1)) (textF r).2 w) := by
  have hd := q_number b r 58 w h hr
  have hn0 := naturalF_int 58 r
  have hl := naturalF_len 58 r
  have hcs := textF_cases r ho
  generalize textF r = y at *
  generalize naturalF 58 r = z at *
  obtain ⟨n, q, f⟩ := z
  obtain ⟨k, rfl⟩ := Int.eq_ofNat_of_zero_le hn0.1
  simp only [Int.toNat_natCast] at *
  have hk2 : k ≤ 9223372036854775807 := by omega
  have hsm : (bs q).size ≤ 4294967296 := by rw [bs_size]; omega
  have HZ := Lib.hid (bs_size q)
  have HD := Lib.hid hd
  clear hd hn0
  rcases hcs with ⟨rfl, hy⟩ | ⟨rfl, hlt, hy⟩ | ⟨rfl, hlt, hy⟩
  · rw [hy]
    clear hy
    go_enter Tryz.func87, Tryz.ntmps87
    go_wp2_with fail
    refine HD.out.mono ?_
    rintro e w1 ⟨rfl, h1, g1⟩
    have c0 := h1.c0
    have c1 := h1.c1
    go_wp2_with fail
    refine (q_fail b _ _ h1).mono ?_
    rintro e w2 ⟨rfl, h2, g2⟩
    have g02 := only_trans g1 g2
    go_wp2
    go_ret
    exact ⟨rfl, h2, g02⟩
  · rw [hy]
    have hlt2 : (bs q).size ≤ k := by rw [HZ.out]; omega
    clear hy hlt
    go_enter Tryz.func87, Tryz.ntmps87
    go_wp2_with fail
    refine HD.out.mono ?_
    rintro e w1 ⟨rfl, h1, g1⟩
    have c0 := h1.c0
    have c1 := h1.c1
    go_wp2_with fail
    refine (q_fail b _ _ h1).mono ?_
    rintro e w2 ⟨rfl, h2, g2⟩
    have g02 := only_trans g1 g2
    go_wp2
    go_ret
    exact ⟨rfl, h2, g02⟩
  · have hlt2 : k < (bs q).size := by rw [HZ.out]; omega
    clear hlt
    have HY := Lib.hid hy
    clear hy
    go_enter Tryz.func87, Tryz.ntmps87
    go_wp2_with fail
    refine HD.out.mono ?_
    rintro e w1 ⟨rfl, h1, g1⟩
    have c0 := h1.c0
    have c1 := h1.c1
    have f0 := h1.f 0
    go_wp2_with fail
    rw [bs_drop]
    refine (q_close b (q.drop k, false) 44 _ (h1.set0 _) (by simp only [List.length_drop]; omega)).mono ?_
    generalize hco : closeOk 44 (q.drop k, false) = co
    have HC := Lib.hid hco
    clear hco
    rintro e w2 ⟨rfl, h2, g2⟩
    have g02 := only_trans (only_setCell (p := ⟨b, 0, none⟩) g1 (Or.inl rfl) _) g2
    cases co
    · go_wp2
      go_ret
      rw [HY.out, HC.out]
      exact ⟨rfl, h2, g02⟩
    · go_wp2
      go_ret
      rw [HY.out, HC.out, bs_take]
      exact ⟨rfl, h2, g02⟩

end Go.Proofs.YtanecondopbfhaaGreatDoor.Cod
