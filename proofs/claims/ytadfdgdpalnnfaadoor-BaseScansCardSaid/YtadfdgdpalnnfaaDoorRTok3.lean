/- The reference's token: strings, signs, all. -/
import Derived.Test.YtadfdgdpalnnfaaDoorRTok2
import Derived.Test.YtadfdgdpalnnfaaDoorScan
namespace Go.Proofs.YtadfdgdpalnnfaaDoor
open Go.RowKit

theorem rq_tok (l : List UInt8) (a : Nat) (ha : a < l.length) (hq : l[a] = 34) : tokF (l.drop a) = if (rqP l a).2.2 = true then ⟨2, (rqP l a).1, 0, (rqP l a).2.1 - a, 0⟩ else bad 2 := by
  rw [List.drop_eq_getElem_cons ha, hq, tokF, if_neg (by decide), if_neg (by decide), if_pos rfl]
  unfold rqP
  cases unqF (l.drop (a + 1)) with
  | none => rfl
  | some x =>
    obtain ⟨v, k⟩ := x
    simp only
    cases isVal v with
    | false => rfl
    | true => simp; omega
theorem rq_ge (l : List UInt8) (a : Nat) (h : (rqP l a).2.2 = true) : a ≤ (rqP l a).2.1 := by
  unfold rqP at h ⊢
  split at h
  · split at h
    · rename_i h2
      simp only [h2, if_true]; omega
    · cases h
  · cases h

set_option maxHeartbeats 2000000 in
set_option maxRecDepth 100000 in
theorem rtok_quote (l : List UInt8) (hl : l.length ≤ 100000000) (a : Nat) (ha : a < l.length) (hq : l[a] = 34) (w : World) :
    Calls Tryd.prog 25 #[.string (bs l), .int .i64 (a : Int)] w fun e w' => e = .returned (RTokV a (tokF (l.drop a))) ∧ Below w.heap.size w w' := by
  have hsm : (bs l).size ≤ 100000000 := by rw [bs_size]; exact hl
  have haI : (a : Int) < 100000000 := by omega
  have haS : (a : Int) < ((bs l).size : Int) := by rw [bs_size]; omega
  have ha2 : a < (bs l).size := by rw [bs_size]; exact ha
  have hg := bs_get l a ha2 ha
  have hC := fun w => Lib.hid (rcls_letter ((bs l)[a]'ha2) w)
  have hD := fun w => Lib.hid (rcls_digit ((bs l)[a]'ha2) w)
  have he : ((((bs l)[a]'ha2).toNat : Int) == 34) = true := by rw [hg, hq]; rfl
  rw [hg, hq] at hC hD
  have c1 : isLet 34 = false := by decide
  have c2 : isDig 34 = false := by decide
  rw [c1] at hC
  rw [c2] at hD
  have HG : Hid ((bs l)[a]'ha2 = 34) := by show _ = _; rw [hg, hq]
  have hT := rq_tok l a ha hq
  have hge := rq_ge l a
  have hQ := fun w => Lib.hid (rquoted_calls l (by omega) a ha w)
  generalize rqP l a = P at *
  generalize tokF (l.drop a) = T at *
  obtain ⟨pv, pn, pb⟩ := P
  simp only at hT hge hQ
  have HT := Lib.hid hT
  have HGE := Lib.hid hge
  clear hT hg hge hq c1 c2
  go_enter Tryd.func25, Tryd.ntmps25
  go_wp2_with fail
  rw [HG.out]
  refine (hC _).out.mono ?_
  rintro e w1 ⟨rfl, rfl⟩
  go_wp2_with fail
  rw [HG.out]
  refine (hD _).out.mono ?_
  rintro e w1 ⟨rfl, rfl⟩
  go_wp2_with fail
  refine (hQ _).out.mono ?_
  rintro e w1 ⟨rfl, rfl⟩
  have hT3 := Tb.fresh w
  have c0 := hT3.c0
  have c1 := hT3.c1
  have c2 := hT3.c2
  have c3 := hT3.c3
  have f0 := hT3.f 0
  have f1 := hT3.f 1
  have f2 := hT3.f 2
  have f3 := hT3.f 3
  clear hT3
  cases pb
  · go_wp2
    refine bodyPost_ret (v := RTokV a T) (by rw [HT.out]; simp [results, Tryd.results25, go_sem, RTokV, bad, bs]) rfl ⟨rfl, (Below.refl _ _).alloc (Nat.le_refl _) _⟩
  · have hpn : Hid ((a : Int) + ((pn - a : Nat) : Int) = (pn : Int)) := by have := HGE.out rfl; show _ = _; omega
    go_wp2
    refine bodyPost_ret (v := RTokV a T) (by rw [HT.out]; simp [results, Tryd.results25, go_sem, RTokV, hpn.out]) rfl ⟨rfl, (Below.refl _ _).alloc (Nat.le_refl _) _⟩

theorem sign_take {x s : List UInt8} (h : signF x = some s) : x.take s.length = s := by
  have hp := List.find?_some h
  have h2 : Lib.hasPrefix x s = true := hp
  rw [pre_take] at h2
  exact of_decide_eq_true h2
set_option maxHeartbeats 2000000 in
set_option maxRecDepth 100000 in
theorem rtok_sign (l : List UInt8) (hl : l.length ≤ 100000000) (a : Nat) (ha : a < l.length) (hc : isLet l[a] = false) (hd : isDig l[a] = false) (hq : l[a] ≠ 34) (w : World) :
    Calls Tryd.prog 25 #[.string (bs l), .int .i64 (a : Int)] w fun e w' => e = .returned (RTokV a (tokF (l.drop a))) ∧ Below w.heap.size w w' := by
  have hsm : (bs l).size ≤ 100000000 := by rw [bs_size]; exact hl
  have haI : (a : Int) < 100000000 := by omega
  have haS : (a : Int) < ((bs l).size : Int) := by rw [bs_size]; omega
  have ha2 : a < (bs l).size := by rw [bs_size]; exact ha
  have hg := bs_get l a ha2 ha
  have hC := fun w => Lib.hid (rcls_letter ((bs l)[a]'ha2) w)
  have hD := fun w => Lib.hid (rcls_digit ((bs l)[a]'ha2) w)
  have he : ((((bs l)[a]'ha2).toNat : Int) == 34) = false := by rw [hg]; exact ne_of_u8 hq
  rw [hg] at hC hD
  rw [hc] at hC
  rw [hd] at hD
  have HG := Lib.hid hg
  have hT : tokF (l.drop a) = match signF (l.drop a) with
      | some s => ⟨3, s, 0, s.length, 0⟩
      | none => bad 10 := by
    rw [List.drop_eq_getElem_cons ha, tokF, if_neg (by simp [hc]), if_neg (by simp [hd]), if_neg hq]; rfl
  have hbs := best_sign (l.drop a)
  have hS := fun w => Lib.hid (rsign_calls l hl a ha w)
  rw [hbs] at hS
  have hst := fun s (h : signF (l.drop a) = some s) => sign_take h
  have hln := fun s (h : signF (l.drop a) = some s) => sign_len s (List.mem_of_find?_eq_some h)
  have hpart : ∀ z, (bs l).extract a (a + z) = bs ((l.drop a).take z) := fun z => bs_mid l a z
  have hle : ∀ s, signF (l.drop a) = some s → a + s.length ≤ l.length := fun s h => by
    have := congrArg List.length (hst s h)
    rw [List.length_take, List.length_drop] at this
    omega
  generalize signF (l.drop a) = F at *
  generalize tokF (l.drop a) = T at *
  have HT := Lib.hid hT
  clear hT hg hbs hc hd hq
  have hlow := (Tb.fresh w).lt
  go_enter Tryd.func25, Tryd.ntmps25
  go_wp2_with fail
  rw [HG.out]
  refine (hC _).out.mono ?_
  rintro e w1 ⟨rfl, rfl⟩
  go_wp2_with fail
  rw [HG.out]
  refine (hD _).out.mono ?_
  rintro e w1 ⟨rfl, rfl⟩
  go_wp2_with fail
  refine (hS _).out.mono ?_
  rintro e w3 ⟨rfl, hb3⟩
  have hT3 := (Tb.fresh w).next hb3
  have hb03 := (Tb.below w).trans (hb3.mono (by simp))
  have c0 := hT3.c0
  have c1 := hT3.c1
  have c2 := hT3.c2
  have c3 := hT3.c3
  have f0 := hT3.f 0
  have f1 := hT3.f 1
  have f2 := hT3.f 2
  have f3 := hT3.f 3
  clear hb3 hT3 hlow
  cases F with
  | none =>
    clear hst hln hpart hle
    go_wp2
    refine bodyPost_ret (v := RTokV a T) (by rw [HT.out]; simp [results, Tryd.results25, go_sem, RTokV, bad, c0, c1, c2, c3, bs]) rfl ⟨rfl, store_below hb03 _ _ _ _⟩
  | some s =>
    have hx := hpart s.length
    rw [hst s rfl] at hx
    have h1 := hln s rfl
    have h2 := hle s rfl
    obtain ⟨z, hz⟩ : ∃ z, z = s.length := ⟨_, rfl⟩
    simp only [← hz] at *
    have hz0 : ((z : Int) == 0) = false := beq_eq_false_iff_ne.2 (by omega)
    have hzS : (a : Int) + (z : Int) ≤ ((bs l).size : Int) := by rw [bs_size]; omega
    have HZ := Lib.hid hz
    clear hst hln hpart hle hz
    go_wp2
    refine bodyPost_ret (v := RTokV a T) (by rw [HT.out]; simp [results, Tryd.results25, go_sem, RTokV, c0, c1, c2, c3]) rfl ⟨rfl, store_below hb03 _ _ _ _⟩

theorem rtoken_calls (l : List UInt8) (hl : l.length ≤ 100000000) (a : Nat) (ha : a < l.length) (w : World) :
    Calls Tryd.prog 25 #[.string (bs l), .int .i64 (a : Int)] w fun e w' => e = .returned (RTokV a (tokF (l.drop a))) ∧ Below w.heap.size w w' := by
  cases h1 : isLet l[a]
  · cases h2 : isDig l[a]
    · by_cases h3 : l[a] = 34
      · exact rtok_quote l hl a ha h3 w
      · exact rtok_sign l hl a ha h1 h2 h3 w
    · exact rtok_digit l hl a ha h1 h2 w
  · exact rtok_letter l hl a ha h1 w
end Go.Proofs.YtadfdgdpalnnfaaDoor
