/- The reference's Escaped and Quote. -/
import Derived.Test.YtadfdgdpalnnfaaDoorRWords2
import Derived.Test.YtadfdgdpalnnfaaDoorQuot
import Derived.Test.YtadfdgdpalnnfaaDoorUnq
namespace Go.Proofs.YtadfdgdpalnnfaaDoor
open Go.RowKit

theorem bs_add (x y : List UInt8) : bs x ++ bs y = bs (x ++ y) := bs_append x y
theorem esc_next (l : List UInt8) (k : Nat) (h : k < l.length) : escL (l.take (k + 1)) = escL (l.take k) ++ (if l[k] = 34 ∨ l[k] = 92 then [92, l[k]] else [l[k]]) := by
  rw [List.take_succ_eq_append_getElem h]
  unfold escL
  rw [List.flatMap_append]
  simp
theorem esc_le2 : ∀ l : List UInt8, (escL l).length ≤ 2 * l.length := by
  intro l
  unfold escL
  induction l with
  | nil => simp
  | cons c r ih => rw [List.flatMap_cons, List.length_append, List.length_cons]; split <;> simp only [List.length_cons, List.length_nil] <;> omega
theorem bs_sub (l : List UInt8) (k : Nat) (h : k < l.length) : (bs l).extract k (k + 1) = bs [l[k]] := by
  rw [Lib.extract_eq, bs_data, show k + 1 - k = 1 by omega, List.drop_eq_getElem_cons h]; rfl

set_option maxRecDepth 100000 in
theorem rescaped_calls (l : List UInt8) (hl : l.length ≤ 100000000) (w : World) :
    Calls Tryd.prog 31 #[.string (bs l)] w fun e w' => e = .returned (.string (bs (quotL l))) ∧ w = w' := by
  have hsm : (bs l).size ≤ 100000000 := by rw [bs_size]; exact hl
  have HQ : Hid (quotL l = 34 :: (escL l ++ [34])) := rfl
  go_enter Tryd.func31, Tryd.ntmps31
  go_wp2
  go_loopw [3, 4] (fun t i wr => ∃ (k : Nat) (x : List UInt8), k ≤ l.length ∧ i = .int .i64 k ∧ t = .string (bs x) ∧ wr = w ∧ (bs x).size ≤ 200000001 ∧ Hid (x = 34 :: escL (l.take k))) (fun _ i _ => l.length - (intOf i).toNat)
  case atStart => exact ⟨0, [34], Nat.zero_le _, rfl, rfl, rfl, by decide, rfl⟩
  case round =>
    obtain ⟨k, x, hk, rfl, rfl, rfl, hxs, HX⟩ := hrel
    by_cases hlt : k < l.length
    · have hlt2 : k < (bs l).size := by rw [bs_size]; exact hlt
      have hkI : (k : Int) < ((bs l).size : Int) := by omega
      have hg := bs_get l k hlt2 hlt
      have hsub := bs_sub l k hlt
      have hnx := esc_next l k hlt
      have hle := esc_le2 (l.take (k + 1))
      rw [List.length_take] at hle
      have HBB := Lib.hid hg
      clear hg
      generalize l[k] = b at *
      have HNX := Lib.hid hnx
      have HLE := Lib.hid hle
      have hu := b.toNat_lt
      have h1s : (bs [b]).size = 1 := rfl
      have h92 : bs x ++ { data := #[92] } = bs (x ++ [92]) := bs_add x [92]
      have h92s : (bs (x ++ [92])).size ≤ 200000002 := by rw [bs_size] at hxs ⊢; simp; omega
      have ha : bs (x ++ [92]) ++ bs [b] = bs (x ++ [92, b]) := by rw [bs_add]; simp
      have hb : bs x ++ bs [b] = bs (x ++ [b]) := bs_add _ _
      clear hnx hle
      by_cases q1 : b = 34
      · have e1 : (((((bs l)[k]'hlt2).toNat : Nat) : Int) == 34) = true := by rw [HBB.out, q1]; rfl
        have Q1 := Lib.hid q1
        clear hb q1
        go_wp2
        go_roundw
        case rel =>
          refine ⟨k + 1, x ++ [92, b], by omega, by go_num, rfl, trivial, ?_, ?_⟩
          · have h1 := HX.out; have h2 := HNX.out; have h3 := HLE.out; rw [h2] at h3; rw [bs_size, h1]; simp [Q1.out] at h3 ⊢; omega
          · show _ = _; rw [HX.out, HNX.out, if_pos (.inl Q1.out)]; simp
        case measure => simp only [intOf]; omega
      · have e1 : (((((bs l)[k]'hlt2).toNat : Nat) : Int) == 34) = false := by rw [HBB.out]; exact ne_of_u8 q1
        by_cases q2 : b = 92
        · have e2 : (((((bs l)[k]'hlt2).toNat : Nat) : Int) == 92) = true := by rw [HBB.out, q2]; rfl
          have Q2 := Lib.hid q2
          clear hb q2
          go_wp2
          go_roundw
          case rel =>
            refine ⟨k + 1, x ++ [92, b], by omega, by go_num, rfl, trivial, ?_, ?_⟩
            · have h1 := HX.out; have h2 := HNX.out; have h3 := HLE.out; rw [h2] at h3; rw [bs_size, h1]; simp [Q2.out] at h3 ⊢; omega
            · show _ = _; rw [HX.out, HNX.out, if_pos (.inr Q2.out)]; simp
          case measure => simp only [intOf]; omega
        · have e2 : (((((bs l)[k]'hlt2).toNat : Nat) : Int) == 92) = false := by rw [HBB.out]; exact ne_of_u8 q2
          clear h92 ha h92s
          go_wp2
          go_roundw
          case rel =>
            refine ⟨k + 1, x ++ [b], by omega, by go_num, rfl, trivial, ?_, ?_⟩
            · have h1 := HX.out; have h2 := HNX.out; have h3 := HLE.out; rw [h2] at h3; rw [bs_size, h1]; simp [q1, q2] at h3 ⊢; omega
            · show _ = _; rw [HX.out, HNX.out, if_neg (by simp [q1, q2])]; simp
          case measure => simp only [intOf]; omega
    · have hkI : ¬ (k : Int) < ((bs l).size : Int) := by rw [bs_size]; omega
      have h34 : bs x ++ { data := #[34] } = bs (x ++ [34]) := bs_add x [34]
      go_wp2
      go_ret
      refine ⟨?_, rfl⟩
      rw [HQ.out, HX.out, List.take_of_length_le (by omega)]
      rfl

set_option maxRecDepth 100000 in
theorem rquote_calls (l : List UInt8) (hl : l.length ≤ 100000000) (w : World) :
    Calls Tryd.prog 15 #[.string (bs l)] w fun e w' => e = .returned (.tuple #[.string (bs (if isVal l then quotL l else [])), .bool (isVal l)]) ∧ w = w' := by
  have hV := fun w => Lib.hid (rvalue_calls l (by omega) w)
  have hQ := fun w => Lib.hid (rescaped_calls l hl w)
  generalize isVal l = b at *
  generalize quotL l = q at *
  cases b
  · go_enter Tryd.func15, Tryd.ntmps15
    go_wp2_with fail
    refine (hV _).out.mono ?_
    rintro e w1 ⟨rfl, rfl⟩
    go_wp2
    go_ret2
    exact ⟨ret_sb rfl rfl, rfl⟩
  · go_enter Tryd.func15, Tryd.ntmps15
    go_wp2_with fail
    refine (hV _).out.mono ?_
    rintro e w1 ⟨rfl, rfl⟩
    go_wp2_with fail
    refine (hQ _).out.mono ?_
    rintro e w2 ⟨rfl, rfl⟩
    go_wp2
    go_ret2
    exact ⟨ret_sb rfl rfl, rfl⟩
end Go.Proofs.YtadfdgdpalnnfaaDoor
