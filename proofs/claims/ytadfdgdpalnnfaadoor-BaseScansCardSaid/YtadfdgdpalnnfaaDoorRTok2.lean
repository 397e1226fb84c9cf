/- The reference's token: numbers. -/
import Derived.Test.YtadfdgdpalnnfaaDoorRTok
namespace Go.Proofs.YtadfdgdpalnnfaaDoor
open Go.RowKit

set_option maxHeartbeats 2000000 in
set_option maxRecDepth 100000 in
theorem rtok_digit (l : List UInt8) (hl : l.length ≤ 100000000) (a : Nat) (ha : a < l.length) (hc : isLet l[a] = false) (hd : isDig l[a] = true) (w : World) :
    Calls Tryd.prog 25 #[.string (bs l), .int .i64 (a : Int)] w fun e w' => e = .returned (RTokV a (tokF (l.drop a))) ∧ Below w.heap.size w w' := by
  have hsm : (bs l).size ≤ 100000000 := by rw [bs_size]; exact hl
  have haI : (a : Int) < 100000000 := by omega
  have haS : (a : Int) < ((bs l).size : Int) := by rw [bs_size]; omega
  have ha2 : a < (bs l).size := by rw [bs_size]; exact ha
  have hg := bs_get l a ha2 ha
  have hC := fun w => Lib.hid (rcls_letter ((bs l)[a]'ha2) w)
  have hD := fun w => Lib.hid (rcls_digit ((bs l)[a]'ha2) w)
  rw [hg, hc] at hC
  rw [hg, hd] at hD
  have HG := Lib.hid hg
  have hsp := spanL_le isDig (l.drop a)
  have hs1 := span_one (p := isDig) ha hd
  have hT : tokF (l.drop a) = match numL ((l.drop a).take (spanL isDig (l.drop a))) with
      | some n => ⟨1, (l.drop a).take (spanL isDig (l.drop a)), n, ((l.drop a).take (spanL isDig (l.drop a))).length, 0⟩
      | none => bad 3 := by
    rw [List.drop_eq_getElem_cons ha, tokF, if_neg (by simp [hc]), if_pos hd]; rfl
  obtain ⟨z, hz⟩ : ∃ z, z = spanL isDig (l.drop a) := ⟨_, rfl⟩
  rw [← hz] at hs1 hT hsp
  have HS1 := Lib.hid hs1
  rw [List.length_drop] at hsp
  have hN := fun w => Lib.hid (rnumber_calls ((l.drop a).take z) (by rw [List.length_take]; omega) w)
  have htl : ((l.drop a).take z).length = z := by rw [List.length_take, List.length_drop]; omega
  have hpart : ∀ k, k = a + z → (bs l).extract a k = bs ((l.drop a).take z) := fun k h => bs_part l h
  rw [htl] at hT
  generalize numL ((l.drop a).take z) = b at *
  generalize (l.drop a).take z = t at *
  generalize tokF (l.drop a) = T at *
  have HT := Lib.hid hT
  have HP := Lib.hid hpart
  clear hT hg hs1 hz htl hpart hc hd
  go_enter Tryd.func25, Tryd.ntmps25
  go_wp2_with fail
  rw [HG.out]
  refine (hC _).out.mono ?_
  rintro e w1 ⟨rfl, rfl⟩
  go_wp2_with fail
  rw [HG.out]
  refine (hD _).out.mono ?_
  rintro e w1 ⟨rfl, rfl⟩
  clear hC hD HG
  go_wp2_with fail
  go_loopw [7] (fun i wr => ∃ k : Nat, a + 1 ≤ k ∧ k ≤ l.length ∧ i = .int .i64 k ∧ wr = w.alloc (.cells #[.int .i64 0, .string { data := #[] }, .int .i64 0, .int .i64 0] 25) ∧ Hid (k + spanL isDig (l.drop k) = a + z)) (fun i _ => l.length - (intOf i).toNat)
  case atStart => exact ⟨a + 1, Nat.le_refl _, by omega, by go_num, rfl, HS1.out⟩
  case round =>
    obtain ⟨k, hk1, hk, rfl, rfl, HK⟩ := hrel
    have HK1 := Lib.hid hk1
    have hk0 : (1 : Int) ≤ (k : Int) := by omega
    have hak : (a : Int) ≤ (k : Int) := by omega
    clear hk1
    have hT3 := Tb.fresh w
    have c0 := hT3.c0
    have c1 := hT3.c1
    have c2 := hT3.c2
    have c3 := hT3.c3
    have f0 := hT3.f 0
    have f1 := hT3.f 1
    have f2 := hT3.f 2
    have f3 := hT3.f 3
    clear hT3
    by_cases hlt : k < l.length
    · have hlt2 : k < (bs l).size := by rw [bs_size]; exact hlt
      have hg := bs_get l k hlt2 hlt
      have hkI : (k : Int) < ((bs l).size : Int) := by omega
      have hst := span_step (p := isDig) hlt
      have HB := Lib.hid hg
      have hD := fun w => Lib.hid (rcls_digit ((bs l)[k]'hlt2) w)
      rw [hg] at hD
      clear hg
      generalize l[k] = y at *
      generalize isDig y = x2 at *
      have HST := Lib.hid hst
      clear hst
      go_wp2_with fail
      rw [HB.out]
      refine (hD _).out.mono ?_
      rintro e w1 ⟨rfl, rfl⟩
      cases x2
      · have hx := HP.out k (by have h1 := HK.out; have h2 := HST.out.2 rfl; omega)
        have HZ : Hid (k = a + z) := by have h1 := HK.out; have h2 := HST.out.2 rfl; show _ = _; omega
        go_wp2_with fail
        refine (hN _).out.mono ?_
        rintro e w3 ⟨rfl, rfl⟩
        cases b
        · go_wp2
          refine bodyPost_ret (v := RTokV a T) (by rw [HT.out]; simp [results, Tryd.results25, go_sem, RTokV, bad, bs]) rfl ⟨rfl, (Below.refl _ _).alloc (Nat.le_refl _) _⟩
        · go_wp2
          refine bodyPost_ret (v := RTokV a T) (by rw [HT.out]; simp [results, Tryd.results25, go_sem, RTokV, HZ.out]) rfl ⟨rfl, (Below.refl _ _).alloc (Nat.le_refl _) _⟩
      · have hs := HST.out.1 rfl
        have HS : Hid (k + 1 + spanL isDig (l.drop (k + 1)) = a + z) := by have h1 := HK.out; show _ = _; omega
        clear hs
        go_wp2
        go_roundw
        case rel => exact ⟨k + 1, by have := HK1.out; omega, by omega, by go_num, trivial, HS⟩
        case measure => simp only [intOf]; omega
    · have hkI : ¬ (k : Int) < ((bs l).size : Int) := by rw [bs_size]; omega
      have hkS : (k : Int) ≤ ((bs l).size : Int) := by rw [bs_size]; omega
      have HZ : Hid (k = a + z) := by
        have h1 := HK.out
        rw [List.drop_eq_nil_of_le (by omega)] at h1
        show _ = _
        simpa [spanL] using h1
      have hx := HP.out k HZ.out
      go_wp2_with fail
      refine (hN _).out.mono ?_
      rintro e w3 ⟨rfl, rfl⟩
      cases b
      · go_wp2
        refine bodyPost_ret (v := RTokV a T) (by rw [HT.out]; simp [results, Tryd.results25, go_sem, RTokV, bad, bs]) rfl ⟨rfl, (Below.refl _ _).alloc (Nat.le_refl _) _⟩
      · go_wp2
        refine bodyPost_ret (v := RTokV a T) (by rw [HT.out]; simp [results, Tryd.results25, go_sem, RTokV, HZ.out]) rfl ⟨rfl, (Below.refl _ _).alloc (Nat.le_refl _) _⟩
end Go.Proofs.YtadfdgdpalnnfaaDoor
