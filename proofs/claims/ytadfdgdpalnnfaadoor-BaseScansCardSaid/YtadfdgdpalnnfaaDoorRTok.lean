/- The reference's token: names. -/
import Derived.Test.YtadfdgdpalnnfaaDoorRSign
namespace Go.Proofs.YtadfdgdpalnnfaaDoor
open Go.RowKit

/-- What the reference's token returns. -/
def RTokV (a : Nat) (t : Tok1) : Value := if t.err = 0 then .tuple #[.agg #[.int .i64 t.kind, .string (bs t.text), .int .i64 t.n, .int .i64 a], .int .i64 ((a : Int) + t.size), .int .i64 0] else .tuple #[.agg #[.int .i64 0, .string (bs []), .int .i64 0, .int .i64 0], .int .i64 0, .int .i64 t.err]
theorem bs_part (l : List UInt8) {a k z : Nat} (h : k = a + z) : (bs l).extract a k = bs ((l.drop a).take z) := by rw [h]; exact bs_mid l a z
theorem u95 {b : UInt8} : isNm b = (isLet b || isDig b || ((b.toNat : Int) == 95)) := by
  unfold isNm
  by_cases h : b.toNat = 95
  · simp [h]
  · have : ((b.toNat : Int) == 95) = false := beq_eq_false_iff_ne.2 (by omega)
    simp [h, this]
theorem span_one {p : UInt8 → Bool} {l : List UInt8} {a : Nat} (ha : a < l.length) (h : p l[a] = true) : a + 1 + spanL p (l.drop (a + 1)) = a + spanL p (l.drop a) := by
  have := (span_step (p := p) ha).1 h
  omega

set_option maxHeartbeats 2000000 in
set_option maxRecDepth 100000 in
theorem rtok_letter (l : List UInt8) (hl : l.length ≤ 100000000) (a : Nat) (ha : a < l.length) (hc : isLet l[a] = true) (w : World) :
    Calls Tryd.prog 25 #[.string (bs l), .int .i64 (a : Int)] w fun e w' => e = .returned (RTokV a (tokF (l.drop a))) ∧ Below w.heap.size w w' := by
  have hsm : (bs l).size ≤ 100000000 := by rw [bs_size]; exact hl
  have haI : (a : Int) < 100000000 := by omega
  have haS : (a : Int) < ((bs l).size : Int) := by rw [bs_size]; omega
  have ha2 : a < (bs l).size := by rw [bs_size]; exact ha
  have hg := bs_get l a ha2 ha
  have hC := fun w => Lib.hid (rcls_letter ((bs l)[a]'ha2) w)
  rw [hg, hc] at hC
  have HG := Lib.hid hg
  have hsp := spanL_le isNm (l.drop a)
  have hs1 := span_one (p := isNm) ha (by simp [isNm, hc])
  have hT : tokF (l.drop a) = if isName ((l.drop a).take (spanL isNm (l.drop a))) = true then ⟨0, (l.drop a).take (spanL isNm (l.drop a)), 0, ((l.drop a).take (spanL isNm (l.drop a))).length, 0⟩ else bad 3 := by
    rw [List.drop_eq_getElem_cons ha, tokF, if_pos hc]
  obtain ⟨z, hz⟩ : ∃ z, z = spanL isNm (l.drop a) := ⟨_, rfl⟩
  rw [← hz] at hs1 hT hsp
  have HS1 := Lib.hid hs1
  rw [List.length_drop] at hsp
  have hN := fun w => Lib.hid (rname_calls ((l.drop a).take z) (by rw [List.length_take]; omega) w)
  have htl : ((l.drop a).take z).length = z := by rw [List.length_take, List.length_drop]; omega
  have hpart : ∀ k, k = a + z → (bs l).extract a k = bs ((l.drop a).take z) := fun k h => bs_part l h
  rw [htl] at hT
  generalize isName ((l.drop a).take z) = b at *
  generalize (l.drop a).take z = t at *
  generalize tokF (l.drop a) = T at *
  have HT := Lib.hid hT
  have HP := Lib.hid hpart
  clear hT hg hs1 hz htl hpart hc
  go_enter Tryd.func25, Tryd.ntmps25
  go_wp2_with fail
  rw [HG.out]
  refine (hC _).out.mono ?_
  rintro e w1 ⟨rfl, rfl⟩
  clear hC HG
  go_wp2_with fail
  go_loopw [7] (fun i wr => ∃ k : Nat, a + 1 ≤ k ∧ k ≤ l.length ∧ i = .int .i64 k ∧ wr = w.alloc (.cells #[.int .i64 0, .string { data := #[] }, .int .i64 0, .int .i64 0] 25) ∧ Hid (k + spanL isNm (l.drop k) = a + z)) (fun i _ => l.length - (intOf i).toNat)
  case atStart => exact ⟨a + 1, Nat.le_refl _, by omega, by go_num, rfl, HS1.out⟩
  case round =>
    obtain ⟨k, hk1, hk, rfl, rfl, HK⟩ := hrel
    have HK1 := Lib.hid hk1
    have hk0 : (1 : Int) ≤ (k : Int) := by omega
    have hak : (a : Int) ≤ (k : Int) := by omega
    clear hk1
    have hT3 := Tb.fresh w
    have c0 := hT3.c0
    have c1 := hT3.c1
    have c2 := hT3.c2
    have c3 := hT3.c3
    have f0 := hT3.f 0
    have f1 := hT3.f 1
    have f2 := hT3.f 2
    have f3 := hT3.f 3
    clear hT3
    by_cases hlt : k < l.length
    · have hlt2 : k < (bs l).size := by rw [bs_size]; exact hlt
      have hg := bs_get l k hlt2 hlt
      have hkI : (k : Int) < ((bs l).size : Int) := by omega
      have hst := span_step (p := isNm) hlt
      have HB := Lib.hid hg
      have hC := fun w => Lib.hid (rcls_letter ((bs l)[k]'hlt2) w)
      have hD := fun w => Lib.hid (rcls_digit ((bs l)[k]'hlt2) w)
      rw [hg] at hC hD
      clear hg
      have hnm := u95 (b := l[k])
      generalize l[k] = y at *
      generalize isLet y = x1 at *
      generalize isDig y = x2 at *
      obtain ⟨x3, hx3⟩ : ∃ x3, x3 = ((y.toNat : Int) == 95) := ⟨_, rfl⟩
      rw [← hx3] at hnm
      have hx4 : ((((bs l)[k]'hlt2).toNat : Int) == 95) = x3 := by rw [HB.out]; exact hx3.symm
      have HNM := Lib.hid hnm
      have HST := Lib.hid hst
      clear hnm hst hx3
      go_wp2_with fail
      rw [HB.out]
      refine (hC _).out.mono ?_
      rintro e w1 ⟨rfl, rfl⟩
      cases x1
      · go_wp2_with fail
        rw [HB.out]
        refine (hD _).out.mono ?_
        rintro e w1 ⟨rfl, rfl⟩
        cases x2
        · cases x3
          · have hx := HP.out k (by have h1 := HK.out; have h2 := HST.out.2 HNM.out; omega)
            have HZ : Hid (k = a + z) := by have h1 := HK.out; have h2 := HST.out.2 HNM.out; show _ = _; omega
            go_wp2_with fail
            refine (hN _).out.mono ?_
            rintro e w3 ⟨rfl, rfl⟩
            cases b
            · go_wp2
              refine bodyPost_ret (v := RTokV a T) (by rw [HT.out]; simp [results, Tryd.results25, go_sem, RTokV, bad, bs]) rfl ⟨rfl, (Below.refl _ _).alloc (Nat.le_refl _) _⟩
            · go_wp2
              refine bodyPost_ret (v := RTokV a T) (by rw [HT.out]; simp [results, Tryd.results25, go_sem, RTokV, HZ.out]) rfl ⟨rfl, (Below.refl _ _).alloc (Nat.le_refl _) _⟩
          · have hs := HST.out.1 (by rw [HNM.out]; rfl)
            have HS : Hid (k + 1 + spanL isNm (l.drop (k + 1)) = a + z) := by have h1 := HK.out; show _ = _; omega
            clear hs
            go_wp2
            go_roundw
            case rel => exact ⟨k + 1, by have := HK1.out; omega, by omega, by go_num, trivial, HS⟩
            case measure => simp only [intOf]; omega
        · have hs := HST.out.1 (by rw [HNM.out]; rfl)
          have HS : Hid (k + 1 + spanL isNm (l.drop (k + 1)) = a + z) := by have h1 := HK.out; show _ = _; omega
          clear hs
          go_wp2
          go_roundw
          case rel => exact ⟨k + 1, by have := HK1.out; omega, by omega, by go_num, trivial, HS⟩
          case measure => simp only [intOf]; omega
      · have hs := HST.out.1 (by rw [HNM.out]; rfl)
        have HS : Hid (k + 1 + spanL isNm (l.drop (k + 1)) = a + z) := by have h1 := HK.out; show _ = _; omega
        clear hs
        go_wp2
        go_roundw
        case rel => exact ⟨k + 1, by have := HK1.out; omega, by omega, by go_num, trivial, HS⟩
        case measure => simp only [intOf]; omega
    · have hkI : ¬ (k : Int) < ((bs l).size : Int) := by rw [bs_size]; omega
      have hkS : (k : Int) ≤ ((bs l).size : Int) := by rw [bs_size]; omega
      have HZ : Hid (k = a + z) := by
        have h1 := HK.out
        rw [List.drop_eq_nil_of_le (by omega)] at h1
        show _ = _
        simpa [spanL] using h1
      have hx := HP.out k HZ.out
      go_wp2_with fail
      refine (hN _).out.mono ?_
      rintro e w3 ⟨rfl, rfl⟩
      cases b
      · go_wp2
        refine bodyPost_ret (v := RTokV a T) (by rw [HT.out]; simp [results, Tryd.results25, go_sem, RTokV, bad, bs]) rfl ⟨rfl, (Below.refl _ _).alloc (Nat.le_refl _) _⟩
      · go_wp2
        refine bodyPost_ret (v := RTokV a T) (by rw [HT.out]; simp [results, Tryd.results25, go_sem, RTokV, HZ.out]) rfl ⟨rfl, (Below.refl _ _).alloc (Nat.le_refl _) _⟩
end Go.Proofs.YtadfdgdpalnnfaaDoor
