/- The reference's BackInt: it finds the int whose decimal form a string is, or that there is none. -/
import Derived.Test.YtgpeingndefacaaDoorRef
import Derived.IntWalk
namespace Go.Proofs.YtgpeingndefacaaDoor
open Go.RowKit

/-- One digit more, as the code reckons (with ints that wrap). -/
def stepW (x : Int) (c : UInt8) : Int := wrap64 (wrap64 (10 * x) - ((c.toNat : Int) - 48))
theorem wrap_int (x : Int) : isInt (wrap64 x) := by unfold isInt wrap64; omega
theorem stepW_int (x : Int) (c : UInt8) : isInt (stepW x c) := wrap_int _

theorem fold_dec (u : Nat) : u ≤ 9223372036854775808 → (Lib.decDigits u).foldl stepW 0 = -(u : Int) := by
  induction u using Nat.strongRecOn with
  | _ u ih =>
    intro hu
    by_cases h : u < 10
    · rw [decDigits_small h]
      have e := dig_toNat u h
      simp only [List.foldl_cons, List.foldl_nil, stepW, e]
      unfold wrap64; omega
    · rw [decDigits_big h, List.foldl_append, ih (u / 10) (by omega) (by omega)]
      have e := dig_toNat (u % 10) (by omega)
      simp only [List.foldl_cons, List.foldl_nil, stepW, e]
      unfold wrap64; omega

theorem canon_none_of {l : List UInt8} (h : ∀ v, canon l = some v → False) : canon l = none := by
  cases hc : canon l with
  | none => rfl
  | some v => exact (h v hc).elim

/-- The digits of a numeral, behind its sign. -/
theorem canon_shape {l : List UInt8} {v : Int} (h : canon l = some v) :
    (l.head? = some 45 ∧ v < 0 ∧ (l.drop 1).foldl stepW 0 = v ∧ ∀ c ∈ l.drop 1, isDig c = true) ∨ (l.head? ≠ some 45 ∧ 0 ≤ v ∧ l.foldl stepW 0 = -v ∧ ∀ c ∈ l, isDig c = true) := by
  have hi := canon_int h
  have h1 := hi.1
  have h2 := hi.2
  have e := canon_some h
  subst e
  unfold Lib.itoa
  by_cases hn : v < 0
  · left
    rw [if_pos hn]
    refine ⟨rfl, hn, ?_, ?_⟩
    · show (Lib.decDigits v.natAbs).foldl stepW 0 = v
      rw [fold_dec _ (by omega)]; omega
    · exact decDigits_isDig _
  · right
    rw [if_neg hn]
    refine ⟨?_, by omega, ?_, decDigits_isDig _⟩
    · obtain ⟨c, r, hc, hd⟩ := decDigits_head v.toNat
      rw [hc]
      intro e
      simp only [List.head?_cons, Option.some.injEq] at e
      subst e
      exact absurd hd (by decide)
    · rw [fold_dec _ (by omega)]; omega

/-- What BackInt leaves. -/
def BackPost (l : List UInt8) (w : World) (e : Ending) (w' : World) : Prop :=
  ∃ (n : Int) (ok : Bool), e = .returned (.tuple #[.int .i64 n, .bool ok]) ∧ (if ok = true then canon l = some n else canon l = none) ∧ Below w.heap.size w w'

theorem bs_get (l : List UInt8) (k : Nat) (h : k < (bs l).size) (h2 : k < l.length) : (bs l)[k]'h = l[k] := by
  show (bs l).data[k]'_ = _
  simp [bs]

theorem fold_take {l : List UInt8} {f k : Nat} (hfk : f ≤ k) (hk : k < l.length) (x : Int) : ((l.drop f).take (k + 1 - f)).foldl stepW x = stepW (((l.drop f).take (k - f)).foldl stepW x) l[k] := by
  have e : k + 1 - f = (k - f) + 1 := by omega
  have hl : k - f < (l.drop f).length := by simp; omega
  rw [e, List.take_succ_eq_append_getElem hl, List.foldl_append]
  simp only [List.foldl_cons, List.foldl_nil, List.getElem_drop]
  congr 2
  omega

theorem backInt_end (l : List UInt8) (x : Int) (hx : isInt x) (hv : ∀ v, canon l = some v → v = x) : if ((bs (intS x)).toList == (bs (l ++ [59])).toList) = true then canon l = some x else canon l = none := by
  rw [bs_ne_iff]
  by_cases h : Lib.itoa x = l
  · have : intS x = l ++ [59] := by unfold intS; rw [h]
    rw [decide_eq_true this, if_pos rfl, ← h, canon_itoa x hx]
  · have : ¬ intS x = l ++ [59] := by
      unfold intS
      intro e
      exact h (List.append_cancel_right e)
    rw [decide_eq_false this, if_neg (by decide)]
    exact canon_none_of fun v hc => h (by rw [← hv v hc]; exact canon_some hc)

set_option maxHeartbeats 1000000 in
set_option maxRecDepth 100000 in
theorem backInt_neg (l : List UInt8) (hl : l.length ≤ 21) (hh : l.head? = some 45) (w : World) :
    Calls Tryd.prog 64 #[.string (bs l)] w (BackPost l w) := by
  obtain ⟨t, rfl⟩ : ∃ t, l = 45 :: t := by
    cases l with
    | nil => simp at hh
    | cons c t => simp at hh; exact ⟨t, by rw [hh]⟩
  have hsz : (bs (45 :: t)).size = t.length + 1 := by rw [bs_size]; rfl
  have hs0 : 0 < (bs (45 :: t)).size := by omega
  have hs21 : (bs (45 :: t)).size ≤ 21 := by rw [bs_size]; exact hl
  have h45 : ((((bs (45 :: t))[0]'hs0).toNat : Int) == 45) = true := by rw [bs_get0]; decide
  have HZ := Lib.hid hsz
  clear hsz hh
  go_enter Tryd.func64, Tryd.ntmps64
  go_wp2
  go_loopw [5, 6] (fun n i wr => ∃ (k : Nat) (x : Int), 1 ≤ k ∧ k ≤ (bs (45 :: t)).size ∧ i = .int .i64 k ∧ n = .int .i64 x ∧ wr = w ∧ isInt x ∧ x = (((List.drop 1 (45 :: t))).take (k - 1)).foldl stepW 0 ∧ ∀ c ∈ ((List.drop 1 (45 :: t))).take (k - 1), isDig c = true) (fun _ i _ => (bs (45 :: t)).size - (intOf i).toNat)
  case atStart => exact ⟨1, 0, Nat.le_refl _, by omega, rfl, rfl, rfl, by unfold isInt; omega, rfl, by simp⟩
  case round =>
    obtain ⟨k, x, hk1, hk, rfl, rfl, rfl, hx, hxe, hdig⟩ := hrel
    have HX := Lib.hid hxe
    have HD := Lib.hid hdig
    have hx1 := hx.1
    have hx2 := hx.2
    clear hxe hdig
    by_cases hlt : k < (bs (45 :: t)).size
    · have hkl : k < (45 :: t).length := by rw [← bs_size]; exact hlt
      have hgk := Lib.hid (bs_get _ k hlt hkl)
      have hkt : k < t.length + 1 := by simpa using hkl
      by_cases hd : isDig ((bs (45 :: t))[k]'hlt) = true
      · have hd2 := hd
        simp only [isDig, decide_eq_true_eq] at hd2
        obtain ⟨hd48, hd57⟩ := hd2
        have HI := Lib.hid hd
        clear hd
        go_wp2
        go_roundw
        case rel => exact ⟨k + 1, stepW x ((bs (45 :: t))[k]'hlt), by omega, by omega, by go_num, rfl, trivial, stepW_int _ _, by rw [HX.out, hgk.out]; have h := fold_take (l := (45 :: t)) (f := 1) hk1 hkl 0; exact h.symm, by have h := take_all (P := fun c => isDig c = true) HD.out (show k - 1 < (List.drop 1 (45 :: t)).length by simp only [List.drop_succ_cons, List.drop_zero]; omega) (by rw [List.getElem_drop]; have h2 := HI.out; rw [hgk.out] at h2; simpa [show 1 + (k - 1) = k by omega] using h2); rwa [show k - 1 + 1 = k + 1 - 1 by omega] at h⟩
        case measure => simp [intOf]; omega
      · have hnone : canon (45 :: t) = none := canon_none_of fun v hc => by
          rcases canon_shape hc with ⟨s1, -, -, s4⟩ | ⟨s1, -, -, s4⟩
          · have hm : (45 :: t)[k]'hkl ∈ List.drop 1 (45 :: t) := by
              rw [List.mem_iff_getElem]
              exact ⟨k - 1, by simp only [List.drop_succ_cons, List.drop_zero]; omega, by rw [List.getElem_drop]; congr 1; omega⟩
            have := s4 _ hm
            rw [← hgk.out] at this
            exact hd this
          · exact s1 rfl
        have HN := Lib.hid hnone
        have hd2 : ((bs (45 :: t))[k]'hlt).toNat < 48 ∨ 57 < ((bs (45 :: t))[k]'hlt).toNat := by
          simp only [isDig, decide_eq_true_eq] at hd
          omega
        clear hd hnone
        rcases hd2 with hd2 | hd2
        · go_wp2
          go_ret2
          exact ⟨0, false, rfl, HN.out, Below.refl _ _⟩
        · have hd3 : ¬ ((bs (45 :: t))[k]'hlt).toNat < 48 := by omega
          go_wp2
          go_ret2
          exact ⟨0, false, rfl, HN.out, Below.refl _ _⟩
    · have hk2 : k = (bs (45 :: t)).size := by omega
      have hall : x = (List.drop 1 (45 :: t)).foldl stepW 0 := by
        have h := HX.out
        rwa [List.take_of_length_le (by rw [hk2, HZ.out]; simp)] at h
      have hend := backInt_end (45 :: t) x hx (fun v hc => by
        rcases canon_shape hc with ⟨-, -, s3, -⟩ | ⟨s1, -⟩
        · rw [hall, s3]
        · exact absurd rfl s1)
      have HEnd := Lib.hid hend
      have hzi : (bs (45 :: t)).size ≤ 9223372036854775806 := by omega
      clear hall hend hk2
      go_wp2_with fail
      refine (ref_Int x hx _).mono ?_
      rintro e w2 ⟨rfl, hb⟩
      go_wp2
      go_ret2
      refine ⟨x, _, rfl, ?_, hb⟩
      rw [show (ByteArray.mk #[59]) = bs [59] from rfl, bs_append]
      exact HEnd.out

set_option maxHeartbeats 1000000 in
set_option maxRecDepth 100000 in
theorem backInt_posA (l : List UInt8) (hl : l.length ≤ 21) (hh : l.head? ≠ some 45) (hs0 : 0 < (bs l).size) (w : World) :
    Calls Tryd.prog 64 #[.string (bs l)] w (BackPost l w) := by
  have hs21 : (bs l).size ≤ 21 := by rw [bs_size]; exact hl
  have h45 : ((((bs l)[0]'hs0).toNat : Int) == 45) = false := by
    have h1 : 0 < l.length := by rw [← bs_size]; exact hs0
    rw [bs_get l 0 hs0 h1]
    cases l with
    | nil => simp at h1
    | cons c t =>
      simp only [List.head?_cons, ne_eq, Option.some.injEq] at hh
      simp only [List.getElem_cons_zero, beq_eq_false_iff_ne, ne_eq]
      intro e
      exact hh (UInt8.toNat_inj.1 (by simp; omega))
  go_enter Tryd.func64, Tryd.ntmps64
  go_wp2
  go_loopw [5, 6] (fun n i wr => ∃ (k : Nat) (x : Int), 0 ≤ k ∧ k ≤ (bs l).size ∧ i = .int .i64 k ∧ n = .int .i64 x ∧ wr = w ∧ isInt x ∧ x = ((l).take (k)).foldl stepW 0 ∧ ∀ c ∈ (l).take (k), isDig c = true) (fun _ i _ => (bs l).size - (intOf i).toNat)
  case atStart => exact ⟨0, 0, Nat.le_refl _, by omega, rfl, rfl, rfl, by unfold isInt; omega, rfl, by simp⟩
  case round =>
    obtain ⟨k, x, hk1, hk, rfl, rfl, rfl, hx, hxe, hdig⟩ := hrel
    have HX := Lib.hid hxe
    have HD := Lib.hid hdig
    have hx1 := hx.1
    have hx2 := hx.2
    clear hxe hdig
    by_cases hlt : k < (bs l).size
    · have hkl : k < l.length := by rw [← bs_size]; exact hlt
      have hgk := Lib.hid (bs_get _ k hlt hkl)
      by_cases hd : isDig ((bs l)[k]'hlt) = true
      · have hd2 := hd
        simp only [isDig, decide_eq_true_eq] at hd2
        obtain ⟨hd48, hd57⟩ := hd2
        have HI := Lib.hid hd
        clear hd
        go_wp2
        go_roundw
        case rel => exact ⟨k + 1, stepW x ((bs l)[k]'hlt), by omega, by omega, by go_num, rfl, trivial, stepW_int _ _, by rw [HX.out, hgk.out]; have h := fold_take (l := l) (f := 0) (Nat.zero_le k) hkl 0; simp only [List.drop_zero, Nat.sub_zero] at h; exact h.symm, take_all (P := fun c => isDig c = true) HD.out hkl (by have h2 := HI.out; rwa [hgk.out] at h2)⟩
        case measure => simp [intOf]; omega
      · have hnone : canon l = none := canon_none_of fun v hc => by
          rcases canon_shape hc with ⟨s1, -, -, s4⟩ | ⟨s1, -, -, s4⟩
          · exact hh s1
          · have := s4 _ (List.getElem_mem hkl)
            rw [← hgk.out] at this
            exact hd this
        have HN := Lib.hid hnone
        have hd2 : ((bs l)[k]'hlt).toNat < 48 ∨ 57 < ((bs l)[k]'hlt).toNat := by
          simp only [isDig, decide_eq_true_eq] at hd
          omega
        clear hd hnone
        rcases hd2 with hd2 | hd2
        · go_wp2
          go_ret2
          exact ⟨0, false, rfl, HN.out, Below.refl _ _⟩
        · have hd3 : ¬ ((bs l)[k]'hlt).toNat < 48 := by omega
          go_wp2
          go_ret2
          exact ⟨0, false, rfl, HN.out, Below.refl _ _⟩
    · have hk2 : k = (bs l).size := by omega
      have hall : x = l.foldl stepW 0 := by
        have h := HX.out
        rwa [List.take_of_length_le (by rw [hk2, bs_size]; exact Nat.le_refl _)] at h
      have hend := backInt_end l (wrap64 (-x)) (wrap_int _) (fun v hc => by
        have hvi := canon_int hc
        rcases canon_shape hc with ⟨s1, -⟩ | ⟨-, s2, s3, -⟩
        · exact absurd s1 hh
        · rw [hall, s3, Int.neg_neg]
          exact (IntWalk.wrap64_in v hvi).symm)
      have HEnd := Lib.hid hend
      have HW := Lib.hid (ref_Int (wrap64 (-x)) (wrap_int _) wr)
      have hzi : (bs l).size ≤ 9223372036854775806 := by omega
      clear hall hend hk2
      go_wp2_with fail
      refine HW.out.mono ?_
      rintro e w2 ⟨rfl, hb⟩
      go_wp2
      go_ret2
      refine ⟨wrap64 (-x), _, rfl, ?_, hb⟩
      rw [show (ByteArray.mk #[59]) = bs [59] from rfl, bs_append]
      exact HEnd.out
set_option maxHeartbeats 1000000 in
set_option maxRecDepth 100000 in
theorem backInt_posB (l : List UInt8) (hl : l.length ≤ 21) (hh : l.head? ≠ some 45) (hs0 : ¬ 0 < (bs l).size) (w : World) :
    Calls Tryd.prog 64 #[.string (bs l)] w (BackPost l w) := by
  have hs21 : (bs l).size ≤ 21 := by rw [bs_size]; exact hl
  go_enter Tryd.func64, Tryd.ntmps64
  go_wp2
  go_loopw [5, 6] (fun n i wr => ∃ (k : Nat) (x : Int), 0 ≤ k ∧ k ≤ (bs l).size ∧ i = .int .i64 k ∧ n = .int .i64 x ∧ wr = w ∧ isInt x ∧ x = ((l).take (k)).foldl stepW 0 ∧ ∀ c ∈ (l).take (k), isDig c = true) (fun _ i _ => (bs l).size - (intOf i).toNat)
  case atStart => exact ⟨0, 0, Nat.le_refl _, by omega, rfl, rfl, rfl, by unfold isInt; omega, rfl, by simp⟩
  case round =>
    obtain ⟨k, x, hk1, hk, rfl, rfl, rfl, hx, hxe, hdig⟩ := hrel
    have HX := Lib.hid hxe
    have HD := Lib.hid hdig
    have hx1 := hx.1
    have hx2 := hx.2
    clear hxe hdig
    by_cases hlt : k < (bs l).size
    · exact absurd (Nat.lt_of_le_of_lt (Nat.zero_le k) hlt) hs0
    · have hk2 : k = (bs l).size := by omega
      have hall : x = l.foldl stepW 0 := by
        have h := HX.out
        rwa [List.take_of_length_le (by rw [hk2, bs_size]; exact Nat.le_refl _)] at h
      have hend := backInt_end l (wrap64 (-x)) (wrap_int _) (fun v hc => by
        have hvi := canon_int hc
        rcases canon_shape hc with ⟨s1, -⟩ | ⟨-, s2, s3, -⟩
        · exact absurd s1 hh
        · rw [hall, s3, Int.neg_neg]
          exact (IntWalk.wrap64_in v hvi).symm)
      have HEnd := Lib.hid hend
      have HW := Lib.hid (ref_Int (wrap64 (-x)) (wrap_int _) wr)
      have hzi : (bs l).size ≤ 9223372036854775806 := by omega
      clear hall hend hk2
      go_wp2_with fail
      refine HW.out.mono ?_
      rintro e w2 ⟨rfl, hb⟩
      go_wp2
      go_ret2
      refine ⟨wrap64 (-x), _, rfl, ?_, hb⟩
      rw [show (ByteArray.mk #[59]) = bs [59] from rfl, bs_append]
      exact HEnd.out
theorem backInt (l : List UInt8) (hl : l.length ≤ 21) (w : World) : Calls Tryd.prog 64 #[.string (bs l)] w (BackPost l w) := by
  by_cases hh : l.head? = some 45
  · exact backInt_neg l hl hh w
  · by_cases hs0 : 0 < (bs l).size
    · exact backInt_posA l hl hh hs0 w
    · exact backInt_posB l hl hh hs0 w
end Go.Proofs.YtgpeingndefacaaDoor
