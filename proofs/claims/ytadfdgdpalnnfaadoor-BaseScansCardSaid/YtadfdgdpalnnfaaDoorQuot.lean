/- quoted and Quote. -/
import Derived.Test.YtadfdgdpalnnfaaDoorWords
import Derived.Lib.Replace
namespace Go.Proofs.YtadfdgdpalnnfaaDoor
open Go.RowKit

theorem replace_one (c : UInt8) (new : List UInt8) : ∀ s : List UInt8, Lib.replaceK [c] new (s.count c) s = s.flatMap fun x => if x = c then new else [x]
  | [] => rfl
  | d :: r => by
    have ih := replace_one c new r
    rw [List.flatMap_cons, ← ih]
    by_cases h : d = c
    · subst h
      have hi : Lib.index (d :: r) [d] = ((0 : Nat) : Int) := by simp [Lib.index]
      rw [List.count_cons_self, Lib.replaceK_hit _ _ _ _ 0 hi, if_pos rfl]
      rfl
    · rw [List.count_cons_of_ne h, if_neg h]
      generalize hk : r.count c = k
      cases k with
      | zero => rfl
      | succ k =>
        obtain ⟨i, hi⟩ := Lib.index_of_count (s := r) (old := [c]) (by rw [Lib.count_one]; omega)
        have hi2 : Lib.index (d :: r) [c] = ((i + 1 : Nat) : Int) := by
          have hb : (c == d) = false := beq_eq_false_iff_ne.2 (fun e => h e.symm)
          rw [Lib.index]
          have hp : List.isPrefixOf [c] (d :: r) = false := by simp [List.isPrefixOf, hb]
          rw [hp, hi]
          have : ((i : Int) == -1) = false := beq_eq_false_iff_ne.2 (by omega)
          simp [this]
        rw [Lib.replaceK_hit _ _ _ _ _ hi2, Lib.replaceK_hit _ _ _ _ _ hi]
        simp [List.take_succ_cons, List.drop_succ_cons]
theorem replaceAll_one (c : UInt8) (new s : List UInt8) (hne : [c] ≠ new) : Lib.replaceAll s [c] new = s.flatMap fun x => if x = c then new else [x] := by
  unfold Lib.replaceAll Lib.replace
  have : (([c] : List UInt8) == new) = false := beq_eq_false_iff_ne.2 hne
  rw [this]
  have hn : Lib.replaceNum s [c] (-1) = s.count c := by
    unfold Lib.replaceNum
    rw [if_pos (by omega), Lib.count_one]
  rw [hn, replace_one]
  rfl

/-- A value with a backslash before each quote and backslash. -/
def escL (l : List UInt8) : List UInt8 := l.flatMap fun x => if x = 34 ∨ x = 92 then [92, x] else [x]
def quotL (l : List UInt8) : List UInt8 := 34 :: (escL l ++ [34])
theorem esc_two (l : List UInt8) : Lib.replaceAll (Lib.replaceAll l [92] [92, 92]) [34] [92, 34] = escL l := by
  rw [replaceAll_one _ _ _ (by decide), replaceAll_one _ _ _ (by decide), List.flatMap_assoc]
  unfold escL
  congr 1
  funext x
  by_cases h : x = 92
  · subst h; rfl
  · rw [if_neg h]
    by_cases h2 : x = 34
    · subst h2; rfl
    · simp [h, h2]
theorem esc_len1 (l : List UInt8) : (Lib.replaceAll l [92] [92, 92]).length ≤ 2 * l.length := by
  rw [replaceAll_one _ _ _ (by decide)]
  induction l with
  | nil => simp
  | cons c r ih => rw [List.flatMap_cons, List.length_append, List.length_cons]; split <;> simp only [List.length_cons, List.length_nil] <;> omega

theorem countB_le (s : List UInt8) (c : UInt8) : Lib.countB (bs s) (bs [c]) ≤ s.length := by
  show Lib.count (bs s).data.toList (bs [c]).data.toList ≤ _
  rw [bs_data, bs_data, Lib.count_one]
  exact List.count_le_length
theorem replaceAll_calls (s : List UInt8) (c d : UInt8) (hs : s.length ≤ 1000000000) (w : World) (hE : Env w) :
    Calls Tryd.prog 49 #[.string (bs s), .string { data := #[c] }, .string { data := #[92, d] }] w fun e w' => e = .returned (.string (bs (Lib.replaceAll s [c] [92, d]))) ∧ Below w.heap.size w w' := by
  obtain ⟨m, hm⟩ := hE.mx
  have h := Tryd.strings_ReplaceAll (bs s) (bs [c]) (bs [92, d]) m w (by rw [bs_size]; omega) hm (by rw [bs_size]; simp) (by
    have h1 := countB_le s c
    rw [bs_size, bs_size]
    simp only [List.length_cons, List.length_nil]
    omega)
  rw [bs_data, bs_data, bs_data] at h
  exact h

theorem add_quotes (l : List UInt8) : ({ data := #[34] } : ByteArray) ++ bs l ++ { data := #[34] } = bs (34 :: (l ++ [34])) := by
  have e : ({ data := #[34] } : ByteArray) = bs [34] := rfl
  rw [e, bs_append, bs_append]
  simp

set_option maxRecDepth 100000 in
theorem quoted_calls (l : List UInt8) (hl : l.length ≤ 100000000) (w : World) (hE : Env w) :
    Calls Tryd.prog 29 #[.string (bs l)] w fun e w' => e = .returned (.string (bs (quotL l))) ∧ Below w.heap.size w w' := by
  have h1 := fun w hE => Lib.hid (replaceAll_calls l 92 92 (by omega) w hE)
  have hlen := esc_len1 l
  have h2 := fun w hE => Lib.hid (replaceAll_calls (Lib.replaceAll l [92] [92, 92]) 34 34 (by omega) w hE)
  rw [esc_two] at h2
  have hbig : (bs (Lib.replaceAll l [92] [92, 92])).size ≤ 200000000 := by rw [bs_size]; omega
  have hq : quotL l = 34 :: (escL l ++ [34]) := rfl
  have hle : (bs (escL l)).size ≤ 200000000 := by
    rw [bs_size]
    unfold escL
    have : ∀ m : List UInt8, (m.flatMap fun x => if x = 34 ∨ x = 92 then [92, x] else [x]).length ≤ 2 * m.length := by
      intro m
      induction m with
      | nil => simp
      | cons c r ih => rw [List.flatMap_cons, List.length_append, List.length_cons]; split <;> simp only [List.length_cons, List.length_nil] <;> omega
    have := this l
    omega
  have HQ := Lib.hid hq
  clear hq
  generalize quotL l = z at *
  generalize escL l = y at *
  generalize Lib.replaceAll l [92] [92, 92] = x at *
  go_enter Tryd.func29, Tryd.ntmps29
  go_wp2_with fail
  refine (h1 w hE).out.mono ?_
  rintro e w1 ⟨rfl, hb1⟩
  have hE1 := hE.next hb1
  go_wp2_with fail
  refine (h2 w1 hE1).out.mono ?_
  rintro e w2 ⟨rfl, hb2⟩
  have hb02 := hb1.trans (hb2.mono hb1.size)
  go_wp2
  go_ret
  refine ⟨?_, hb02⟩
  rw [HQ.out, ← add_quotes]
  rfl

theorem ret_sb {a b : ByteArray} {x y : Bool} (h : a = b) (k : x = y) : Ending.returned (.tuple #[.string a, .bool x]) = .returned (.tuple #[.string b, .bool y]) := by rw [h, k]
set_option maxRecDepth 100000 in
theorem quote_calls (l : List UInt8) (hl : l.length ≤ 100000000) (w : World) (hE : Env w) :
    Calls Tryd.prog 14 #[.string (bs l)] w fun e w' => e = .returned (.tuple #[.string (bs (if isVal l then quotL l else [])), .bool (isVal l)]) ∧ Below w.heap.size w w' := by
  have hV := fun w => Lib.hid (isValue_calls l (by omega) w)
  have hQ := fun w hE => Lib.hid (quoted_calls l hl w hE)
  generalize isVal l = b at *
  generalize quotL l = q at *
  cases b
  · go_enter Tryd.func14, Tryd.ntmps14
    go_wp2_with fail
    refine (hV _).out.mono ?_
    rintro e w1 ⟨rfl, hb1⟩
    go_wp2
    go_ret2
    exact ⟨ret_sb rfl rfl, hb1⟩
  · go_enter Tryd.func14, Tryd.ntmps14
    go_wp2_with fail
    refine (hV _).out.mono ?_
    rintro e w1 ⟨rfl, hb1⟩
    have hE1 := hE.next hb1
    go_wp2_with fail
    refine (hQ _ hE1).out.mono ?_
    rintro e w2 ⟨rfl, hb2⟩
    have hb02 := hb1.trans (hb2.mono hb1.size)
    go_wp2
    go_ret2
    exact ⟨ret_sb rfl rfl, hb02⟩
end Go.Proofs.YtadfdgdpalnnfaaDoor
