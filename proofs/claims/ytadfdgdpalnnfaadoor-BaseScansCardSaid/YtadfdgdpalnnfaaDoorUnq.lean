/- unquote. -/
import Derived.Test.YtadfdgdpalnnfaaDoorWords
namespace Go.Proofs.YtadfdgdpalnnfaaDoor
open Go.RowKit

/-- What unquote returns: value, bytes, whether there is one. -/
def unqP (l : List UInt8) : List UInt8 × Nat × Bool := match unqF (l.drop 1) with
  | some x => (x.1, x.2 + 1, isVal x.1)
  | none => ([], 0, false)
theorem unq_end {l : List UInt8} {j : Nat} (h : l.length ≤ j) : unqF (l.drop j) = none := by rw [List.drop_eq_nil_of_le h]; rfl
theorem unqF_34 (l : List UInt8) : unqF (34 :: l) = some ([], 1) := by simp [unqF, unqG]
theorem unqF_92n : unqF [92] = none := by simp [unqF, unqG]
theorem unqF_92 (d : UInt8) (r : List UInt8) : unqF (92 :: d :: r) = if d = 34 ∨ d = 92 then (unqF r).map fun x => (d :: x.1, x.2 + 2) else none := by
  have e : unqF (92 :: d :: r) = (unqG true (d :: r)).map fun x => (x.1, x.2 + 1) := by
    show unqG false (92 :: d :: r) = _
    rw [unqG, if_neg (by decide), if_pos rfl]
  rw [e, unqG]
  by_cases h : d = 34 ∨ d = 92
  · rw [if_pos h, if_pos h, Option.map_map]; rfl
  · rw [if_neg h, if_neg h]; rfl
theorem unqF_byte (c : UInt8) (l : List UInt8) (h1 : c ≠ 34) (h2 : c ≠ 92) : unqF (c :: l) = (unqF l).map fun x => (c :: x.1, x.2 + 1) := by
  show unqG false (c :: l) = _
  rw [unqG, if_neg h1, if_neg h2]; rfl
theorem unq_quote {l : List UInt8} {j : Nat} (h : j < l.length) (hc : l[j]'h = 34) : unqF (l.drop j) = some ([], 1) := by
  rw [List.drop_eq_getElem_cons h, hc, unqF_34]
theorem unq_esc_end {l : List UInt8} {j : Nat} (h : j < l.length) (hc : l[j]'h = 92) (h2 : l.length ≤ j + 1) : unqF (l.drop j) = none := by
  rw [List.drop_eq_getElem_cons h, hc, List.drop_eq_nil_of_le h2, unqF_92n]
theorem unq_esc_bad {l : List UInt8} {j : Nat} (h : j < l.length) (hc : l[j]'h = 92) (h2 : j + 1 < l.length) (hd : ¬ (l[j + 1]'h2 = 34 ∨ l[j + 1]'h2 = 92)) : unqF (l.drop j) = none := by
  rw [List.drop_eq_getElem_cons h, hc, List.drop_eq_getElem_cons h2, unqF_92, if_neg hd]
theorem unq_esc {l : List UInt8} {j : Nat} (h : j < l.length) (hc : l[j]'h = 92) (h2 : j + 1 < l.length) (hd : l[j + 1]'h2 = 34 ∨ l[j + 1]'h2 = 92) : unqF (l.drop j) = (unqF (l.drop (j + 2))).map fun x => (l[j + 1]'h2 :: x.1, x.2 + 2) := by
  rw [List.drop_eq_getElem_cons h, hc, List.drop_eq_getElem_cons h2, unqF_92, if_pos hd]
theorem unq_byte {l : List UInt8} {j : Nat} (h : j < l.length) (h1 : l[j]'h ≠ 34) (h2 : l[j]'h ≠ 92) : unqF (l.drop j) = (unqF (l.drop (j + 1))).map fun x => (l[j]'h :: x.1, x.2 + 1) := by
  rw [List.drop_eq_getElem_cons h, unqF_byte _ _ h1 h2]
/-- How far unquote has come. -/
def unqI (l acc : List UInt8) (j : Nat) : Prop := unqF (l.drop 1) = (unqF (l.drop j)).map fun x => (acc ++ x.1, x.2 + (j - 1))
theorem unqI_start (l : List UInt8) : unqI l [] 1 := by unfold unqI; simp
theorem unqI_step {l acc : List UInt8} {j n : Nat} {c : UInt8} (h : unqI l acc j) (hj : 1 ≤ j) (e : unqF (l.drop j) = (unqF (l.drop (j + n))).map fun x => (c :: x.1, x.2 + n)) : unqI l (acc ++ [c]) (j + n) := by
  unfold unqI at *
  rw [h, e, Option.map_map]
  congr 1
  funext x
  simp
  omega
theorem unqP_none {l acc : List UInt8} {j : Nat} (h : unqI l acc j) (e : unqF (l.drop j) = none) : unqP l = ([], 0, false) := by
  unfold unqI at h; unfold unqP; rw [h, e]; rfl
theorem unqP_some {l acc : List UInt8} {j : Nat} (h : unqI l acc j) (hj : 1 ≤ j) (e : unqF (l.drop j) = some ([], 1)) : unqP l = (acc, j + 1, isVal acc) := by
  unfold unqI at h; unfold unqP; rw [h, e]; simp; omega

theorem ne_of_u8 {c d : UInt8} (h : c ≠ d) : ((c.toNat : Int) == (d.toNat : Int)) = false := by
  refine beq_eq_false_iff_ne.2 (fun e => h (UInt8.toNat_inj.1 (by omega)))
theorem bne_of_u8 {c d : UInt8} (h : c ≠ d) : ((c.toNat : Int) != (d.toNat : Int)) = true := by
  unfold bne; rw [ne_of_u8 h]; rfl
theorem ret_3 {a a' : List UInt8} {n n' : Int} {x x' : Bool} (h1 : a = a') (h2 : n = n') (h3 : x = x') : Ending.returned (.tuple #[.string (bs a), .int .i64 n, .bool x]) = .returned (.tuple #[.string (bs a'), .int .i64 n', .bool x']) := by rw [h1, h2, h3]

set_option maxHeartbeats 1000000 in
set_option maxRecDepth 100000 in
theorem unquote_calls (l : List UInt8) (hl : l.length ≤ 4294967296) (w : World) :
    Calls Tryd.prog 42 #[.string (bs l)] w fun e w' => e = .returned (.tuple #[.string (bs (unqP l).1), .int .i64 ((unqP l).2.1 : Int), .bool (unqP l).2.2]) ∧ Below w.heap.size w w' := by
  have hsm : (bs l).size ≤ 4294967296 := by rw [bs_size]; exact hl
  have hz := Lib.hid (bs_size l)
  have hB0 := Bl.fresh w
  have hbel : Below w.heap.size w (w.alloc (.cells #[.pointer none, .slice none 0 0] 49)) := (Below.refl _ _).alloc (Nat.le_refl _) _
  obtain ⟨y, hy⟩ : ∃ y, y = unqP l := ⟨_, rfl⟩
  rw [← hy]
  have HY := Lib.hid hy
  clear hy
  go_enter Tryd.func42, Tryd.ntmps42
  go_wp2
  go_loopw [6] (fun i wr => ∃ (j : Nat) (acc : List UInt8), 1 ≤ j ∧ i = .int .i64 j ∧ Bl w.heap.size acc wr ∧ Below w.heap.size w wr ∧ unqI l acc j ∧ acc.length ≤ j ∧ j ≤ l.length + 1) (fun i _ => l.length + 1 - (intOf i).toNat)
  case atStart => exact ⟨1, [], Nat.le_refl _, rfl, hB0, hbel, unqI_start l, by simp, by omega⟩
  case round =>
    obtain ⟨j, acc, hj1, rfl, hB, hb, hI, hacc, hjl⟩ := hrel
    have HI := Lib.hid hI
    clear hI
    by_cases hlt : j < l.length
    · have hlt2 : j < (bs l).size := by rw [bs_size]; exact hlt
      have hg := bs_get l j hlt2 hlt
      have hkI : (j : Int) < ((bs l).size : Int) := by omega
      by_cases hc : l[j]'hlt = 34
      · have he : ((((bs l)[j]'hlt2).toNat : Int) == 34) = true := by rw [hg, hc]; rfl
        have HP := Lib.hid (unqP_some HI.out hj1 (unq_quote hlt hc))
        clear hg hc
        have hsz := hb.size
        go_wp2_with fail
        refine (Any.Builder_String_any_f Tryd.lays169 Tryd.Builder_Extra_169 w.heap.size w.heap.size acc wr (Lib.IsBuilderF.of hB) hsz).mono ?_
        rintro e w2 ⟨rfl, hB2, hb2⟩
        have hb02 := hb.trans hb2
        have hsz2 := hb02.size
        go_wp2_with fail
        refine (Any.Builder_String_any_f Tryd.lays169 Tryd.Builder_Extra_169 w.heap.size w.heap.size acc w2 hB2 hsz2).mono ?_
        rintro e w3 ⟨rfl, hB3, hb3⟩
        have hb03 := hb02.trans hb3
        go_wp2_with fail
        refine (isValue_calls acc (by omega) w3).mono ?_
        rintro e w4 ⟨rfl, hb4⟩
        have hb04 := hb03.trans (hb4.mono hb03.size)
        go_wp2
        go_ret3
        refine ⟨?_, hb04⟩
        rw [HY.out, HP.out]
        rfl
      · by_cases hc2 : l[j]'hlt = 92
        · have he : ((((bs l)[j]'hlt2).toNat : Int) == 34) = false := by rw [hg, hc2]; rfl
          have he2 : ((((bs l)[j]'hlt2).toNat : Int) == 92) = true := by rw [hg, hc2]; rfl
          by_cases hend : l.length ≤ j + 1
          · have hq : ((j : Int) + 1 == ((bs l).size : Int)) = true := by rw [beq_iff_eq, bs_size]; omega
            have HP := Lib.hid (unqP_none HI.out (unq_esc_end hlt hc2 hend))
            clear hg hc hc2
            go_wp2
            go_ret3
            refine ⟨?_, hb⟩
            rw [HY.out, HP.out]
            rfl
          · have hj2 : j + 1 < l.length := by omega
            have hjs2 : j + 1 < (bs l).size := by rw [bs_size]; exact hj2
            have hq : ((j : Int) + 1 == ((bs l).size : Int)) = false := beq_eq_false_iff_ne.2 (by omega)
            have hg2 := bs_get l (j + 1) hjs2 hj2
            by_cases hd : l[j + 1]'hj2 = 34 ∨ l[j + 1]'hj2 = 92
            · have hd1 : ((((bs l)[j + 1]'hjs2).toNat : Int) != 34) = !decide (l[j + 1]'hj2 = 34) := by
                rw [hg2]
                by_cases e : l[j + 1]'hj2 = 34
                · rw [e]; rfl
                · rw [decide_eq_false e]; exact bne_of_u8 e
              have hd2 : ((((bs l)[j + 1]'hjs2).toNat : Int) != 92) = !decide (l[j + 1]'hj2 = 92) := by
                rw [hg2]
                by_cases e : l[j + 1]'hj2 = 92
                · rw [e]; rfl
                · rw [decide_eq_false e]; exact bne_of_u8 e
              have HN := Lib.hid (unqI_step HI.out hj1 (unq_esc hlt hc2 hj2 hd))
              have HG := Lib.hid hg2
              have hwb := fun w' (h : Bl w.heap.size acc w') (hs : w.heap.size ≤ w'.heap.size) => bl_byte w.heap.size acc (l[j + 1]'hj2) w' h (by omega) hs
              rw [← HG.out] at hwb
              have HW := hwb wr hB hb.size
              have HW2 := Lib.hid HW
              clear hg hc hc2 hwb HW hg2
              rcases Decidable.em (l[j + 1]'hj2 = 34) with e34 | e34
              · rw [decide_eq_true e34] at hd1
                have HD := Lib.hid hd
                clear hd hd2 e34
                go_wp2_with fail
                refine HW2.out.mono ?_
                rintro e w2 ⟨rfl, hB2, hb2⟩
                rw [HG.out] at hB2
                have hb02 := hb.trans hb2
                go_wp2
                go_roundw
                case rel => exact ⟨j + 2, acc ++ [l[j + 1]'hj2], by omega, by go_num, hB2, hb02, HN.out, by simp; omega, by omega⟩
                case measure => simp [intOf]; omega
              · have e92 : l[j + 1]'hj2 = 92 := hd.resolve_left e34
                rw [decide_eq_false e34] at hd1
                rw [decide_eq_true e92] at hd2
                have HD := Lib.hid hd
                clear hd e34 e92
                go_wp2_with fail
                refine HW2.out.mono ?_
                rintro e w2 ⟨rfl, hB2, hb2⟩
                rw [HG.out] at hB2
                have hb02 := hb.trans hb2
                go_wp2
                go_roundw
                case rel => exact ⟨j + 2, acc ++ [l[j + 1]'hj2], by omega, by go_num, hB2, hb02, HN.out, by simp; omega, by omega⟩
                case measure => simp [intOf]; omega
            · have hd1 : ((((bs l)[j + 1]'hjs2).toNat : Int) != 34) = true := by rw [hg2]; exact bne_of_u8 (fun e => hd (Or.inl e))
              have hd2 : ((((bs l)[j + 1]'hjs2).toNat : Int) != 92) = true := by rw [hg2]; exact bne_of_u8 (fun e => hd (Or.inr e))
              have HP := Lib.hid (unqP_none HI.out (unq_esc_bad hlt hc2 hj2 hd))
              clear hg hc hc2 hg2 hd
              go_wp2
              go_ret3
              refine ⟨?_, hb⟩
              rw [HY.out, HP.out]
              rfl
        · have he : ((((bs l)[j]'hlt2).toNat : Int) == 34) = false := by rw [hg]; exact ne_of_u8 hc
          have he2 : ((((bs l)[j]'hlt2).toNat : Int) == 92) = false := by rw [hg]; exact ne_of_u8 hc2
          have HN := Lib.hid (unqI_step HI.out hj1 (unq_byte hlt hc hc2))
          have HG := Lib.hid hg
          have hwb := fun w' (h : Bl w.heap.size acc w') (hs : w.heap.size ≤ w'.heap.size) => bl_byte w.heap.size acc (l[j]'hlt) w' h (by omega) hs
          rw [← HG.out] at hwb
          have HW := hwb wr hB hb.size
          have HW2 := Lib.hid HW
          clear hg hc hc2 hwb HW
          go_wp2_with fail
          refine HW2.out.mono ?_
          rintro e w2 ⟨rfl, hB2, hb2⟩
          rw [HG.out] at hB2
          have hb02 := hb.trans hb2
          go_wp2
          go_roundw
          case rel => exact ⟨j + 1, acc ++ [l[j]'hlt], by omega, by go_num, hB2, hb02, HN.out, by simp; omega, by omega⟩
          case measure => simp [intOf]; omega
    · have hkI : ¬ (j : Int) < ((bs l).size : Int) := by rw [bs_size]; omega
      have HP := Lib.hid (unqP_none HI.out (unq_end (by omega)))
      go_wp2
      go_ret3
      refine ⟨?_, hb⟩
      rw [HY.out, HP.out]
      rfl
end Go.Proofs.YtadfdgdpalnnfaaDoor
