/- The reference's quoted. -/
import Derived.Test.YtadfdgdpalnnfaaDoorREsc
namespace Go.Proofs.YtadfdgdpalnnfaaDoor
open Go.RowKit

/-- What the reference's quoted returns: value, the offset behind, whether there is one. -/
def rqP (l : List UInt8) (a : Nat) : List UInt8 × Nat × Bool := match unqF (l.drop (a + 1)) with
  | some x => if isVal x.1 then (x.1, a + 1 + x.2, true) else ([], 0, false)
  | none => ([], 0, false)
def rqI (l : List UInt8) (a : Nat) (acc : List UInt8) (k : Nat) : Prop := unqF (l.drop (a + 1)) = (unqF (l.drop k)).map fun x => (acc ++ x.1, x.2 + (k - (a + 1)))
theorem rqI_start (l : List UInt8) (a : Nat) : rqI l a [] (a + 1) := by unfold rqI; simp
theorem rqI_step {l acc : List UInt8} {a j n : Nat} {c : UInt8} (h : rqI l a acc j) (hj : a + 1 ≤ j) (e : unqF (l.drop j) = (unqF (l.drop (j + n))).map fun x => (c :: x.1, x.2 + n)) : rqI l a (acc ++ [c]) (j + n) := by
  unfold rqI at *
  rw [h, e, Option.map_map]
  congr 1
  funext x
  simp
  omega
theorem rq_none {l acc : List UInt8} {a j : Nat} (h : rqI l a acc j) (e : unqF (l.drop j) = none) : rqP l a = ([], 0, false) := by
  unfold rqI at h; unfold rqP; rw [h, e]; rfl
theorem rq_some {l acc : List UInt8} {a j : Nat} (h : rqI l a acc j) (hj : a + 1 ≤ j) (e : unqF (l.drop j) = some ([], 1)) : rqP l a = if isVal acc then (acc, j + 1, true) else ([], 0, false) := by
  unfold rqI at h; unfold rqP; rw [h, e]
  simp only [Option.map_some, List.append_nil]
  rw [show a + 1 + (1 + (j - (a + 1))) = j + 1 by omega]

set_option maxHeartbeats 1000000 in
set_option maxRecDepth 100000 in
theorem rquoted_calls (l : List UInt8) (hl : l.length ≤ 4294967296) (a : Nat) (ha : a < l.length) (w : World) :
    Calls Tryd.prog 44 #[.string (bs l), .int .i64 (a : Int)] w fun e w' => e = .returned (.tuple #[.string (bs (rqP l a).1), .int .i64 ((rqP l a).2.1 : Int), .bool (rqP l a).2.2]) ∧ w = w' := by
  have hsm : (bs l).size ≤ 4294967296 := by rw [bs_size]; exact hl
  obtain ⟨y, hy⟩ : ∃ y, y = rqP l a := ⟨_, rfl⟩
  rw [← hy]
  have HY := Lib.hid hy
  clear hy
  have haI : (a : Int) < 4294967296 := by omega
  go_enter Tryd.func44, Tryd.ntmps44
  go_wp2
  go_loopw [7, 8] (fun v i wr => ∃ (j : Nat) (acc : List UInt8), a + 1 ≤ j ∧ i = .int .i64 j ∧ v = .string (bs acc) ∧ wr = w ∧ Hid (rqI l a acc j) ∧ (bs acc).size ≤ j ∧ j ≤ l.length) (fun _ i _ => l.length + 1 - (intOf i).toNat)
  case atStart => exact ⟨a + 1, [], Nat.le_refl _, by go_num, rfl, rfl, rqI_start l a, by simp [bs_size], by omega⟩
  case round =>
    obtain ⟨j, acc, hj1, rfl, rfl, rfl, HI, hacc, hjl⟩ := hrel
    have hA2 : (bs acc).size ≤ 4294967296 := by omega
    have HA := Lib.hid hacc
    clear hacc
    by_cases hlt : j < l.length
    · have hlt2 : j < (bs l).size := by rw [bs_size]; exact hlt
      have hg := bs_get l j hlt2 hlt
      have hkI : (j : Int) < ((bs l).size : Int) := by omega
      have hkG : ¬ ((bs l).size : Int) ≤ (j : Int) := by omega
      by_cases hc : l[j]'hlt = 34
      · have he : ((((bs l)[j]'hlt2).toNat : Int) != 34) = false := by rw [hg, hc]; rfl
        have HP := Lib.hid (rq_some HI.out hj1 (unq_quote hlt hc))
        have hV := fun w => Lib.hid (rvalue_calls acc (by rw [bs_size] at hA2; omega) w)
        clear hg hc
        generalize isVal acc = b at *
        cases b
        · go_wp2_with fail
          refine (hV _).out.mono ?_
          rintro e w1 ⟨rfl, rfl⟩
          go_wp2
          go_ret3
          refine ⟨?_, rfl⟩
          rw [HY.out, HP.out]
          rfl
        · go_wp2_with fail
          refine (hV _).out.mono ?_
          rintro e w1 ⟨rfl, rfl⟩
          go_wp2
          go_ret3
          refine ⟨?_, rfl⟩
          rw [HY.out, HP.out]
          exact ret_3 rfl (by simp) rfl
      · have he : ((((bs l)[j]'hlt2).toNat : Int) != 34) = true := by rw [hg]; exact bne_of_u8 hc
        by_cases hc2 : l[j]'hlt = 92
        · have he2 : ((((bs l)[j]'hlt2).toNat : Int) == 92) = true := by rw [hg, hc2]; rfl
          by_cases hend : l.length ≤ j + 1
          · have hq : ((bs l).size : Int) ≤ (j : Int) + 1 := by rw [bs_size]; omega
            have HP := Lib.hid (rq_none HI.out (unq_esc_end hlt hc2 hend))
            clear hg hc hc2
            go_wp2
            go_ret3
            refine ⟨?_, rfl⟩
            rw [HY.out, HP.out]
            rfl
          · have hj2 : j + 1 < l.length := by omega
            have hjs2 : j + 1 < (bs l).size := by rw [bs_size]; exact hj2
            have hq : ¬ ((bs l).size : Int) ≤ (j : Int) + 1 := by omega
            have hg2 := bs_get l (j + 1) hjs2 hj2
            by_cases hd : l[j + 1]'hj2 = 34 ∨ l[j + 1]'hj2 = 92
            · have hd1 : ((((bs l)[j + 1]'hjs2).toNat : Int) != 34) = !decide (l[j + 1]'hj2 = 34) := by
                rw [hg2]
                by_cases e : l[j + 1]'hj2 = 34
                · rw [e]; rfl
                · rw [decide_eq_false e]; exact bne_of_u8 e
              have hd2 : ((((bs l)[j + 1]'hjs2).toNat : Int) != 92) = !decide (l[j + 1]'hj2 = 92) := by
                rw [hg2]
                by_cases e : l[j + 1]'hj2 = 92
                · rw [e]; rfl
                · rw [decide_eq_false e]; exact bne_of_u8 e
              have HN := Lib.hid (rqI_step HI.out hj1 (unq_esc hlt hc2 hj2 hd))
              have hsub := bs_sub l (j + 1) hj2
              have hD : Hid (l[j + 1]'hj2 = 34 ∨ l[j + 1]'hj2 = 92) := hd
              clear hg hc hc2 hg2 hd
              generalize hb : l[j + 1]'hj2 = b at *
              have HB := Lib.hid hb
              have hadd : bs acc ++ bs [b] = bs (acc ++ [b]) := bs_add _ _
              have h1s : (bs [b]).size = 1 := rfl
              have HJ1 := Lib.hid hj1
              have hj1I : (1 : Int) ≤ (j : Int) := by omega
              clear hj1 hkG haI
              have hs9 : Hid ((bs (acc ++ [b])).size ≤ j + 2) := by have hacc := HA.out; show _ ≤ _; rw [bs_size] at hacc ⊢; simp; omega
              clear hb
              rcases Decidable.em (b = 34) with e34 | e34
              · rw [decide_eq_true e34] at hd1
                clear hd2 e34
                go_wp2
                go_roundw
                case rel => exact ⟨j + 2, acc ++ [b], by have := HJ1.out; omega, by go_num, rfl, trivial, HN.out, hs9.out, by omega⟩
                case measure => simp only [intOf]; omega
              · have e92 : b = 92 := hD.out.resolve_left e34
                rw [decide_eq_false e34] at hd1
                rw [decide_eq_true e92] at hd2
                clear e34 e92
                go_wp2
                go_roundw
                case rel => exact ⟨j + 2, acc ++ [b], by have := HJ1.out; omega, by go_num, rfl, trivial, HN.out, hs9.out, by omega⟩
                case measure => simp only [intOf]; omega
            · have hd1 : ((((bs l)[j + 1]'hjs2).toNat : Int) != 34) = true := by rw [hg2]; exact bne_of_u8 (fun e => hd (Or.inl e))
              have hd2 : ((((bs l)[j + 1]'hjs2).toNat : Int) != 92) = true := by rw [hg2]; exact bne_of_u8 (fun e => hd (Or.inr e))
              have HP := Lib.hid (rq_none HI.out (unq_esc_bad hlt hc2 hj2 hd))
              have hj1I : (1 : Int) ≤ (j : Int) := by omega
              clear hg hc hc2 hg2 hd hj1 hkG haI
              go_wp2
              go_ret3
              refine ⟨?_, rfl⟩
              rw [HY.out, HP.out]
              rfl
        · have he2 : ((((bs l)[j]'hlt2).toNat : Int) == 92) = false := by rw [hg]; exact ne_of_u8 hc2
          have HN := Lib.hid (rqI_step HI.out hj1 (unq_byte hlt hc hc2))
          have hsub := bs_sub l j hlt
          clear hg hc hc2
          generalize hb : l[j]'hlt = b at *
          have hadd : bs acc ++ bs [b] = bs (acc ++ [b]) := bs_add _ _
          have h1s : (bs [b]).size = 1 := rfl
          have hs9 : Hid ((bs (acc ++ [b])).size ≤ j + 1) := by have hacc := HA.out; show _ ≤ _; rw [bs_size] at hacc ⊢; simp; omega
          have HJ1 := Lib.hid hj1
          have hj1I : (1 : Int) ≤ (j : Int) := by omega
          clear hb hj1 hkG haI
          go_wp2
          go_roundw
          case rel => exact ⟨j + 1, acc ++ [b], by have := HJ1.out; omega, by go_num, rfl, trivial, HN.out, hs9.out, by omega⟩
          case measure => simp only [intOf]; omega
    · have hkI : ¬ (j : Int) < ((bs l).size : Int) := by rw [bs_size]; omega
      have hkG : ((bs l).size : Int) ≤ (j : Int) := by rw [bs_size]; omega
      have HP := Lib.hid (rq_none HI.out (unq_end (by omega)))
      go_wp2
      go_ret3
      refine ⟨?_, rfl⟩
      rw [HY.out, HP.out]
      rfl
end Go.Proofs.YtadfdgdpalnnfaaDoor
