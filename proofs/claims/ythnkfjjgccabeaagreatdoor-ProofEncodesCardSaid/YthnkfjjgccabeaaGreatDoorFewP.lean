/- Few proofs and goals: what follows where the law goes on. -/
import Derived.Test.YthnkfjjgccabeaaGreatDoorEncP
import Derived.Test.YthnkfjjgccabeaaGreatDoorGoalP
namespace Go.Proofs.YthnkfjjgccabeaaGreatDoor
open Go.RowKit

def fewL (l : List (List Int)) : Prop := l.length ≤ 6 ∧ ∀ d ∈ l, d.length ≤ 8
def fewN (l : List (List (List Int))) : Prop := l.length ≤ 6 ∧ ∀ a ∈ l, a.length ≤ 6 ∧ ∀ b ∈ a, b.length ≤ 8
def fewC (c : ClaimD) : Prop := c.eqs.length ≤ 4 ∧ ∀ e ∈ c.eqs, e.terms.length ≤ 6
def fewG (l : List ClauseD) : Prop := l.length ≤ 5 ∧ ∀ x ∈ l, x.claims.length ≤ 5 ∧ ∀ c ∈ x.claims, fewC c
theorem all_of {α : Type} {p : α → Prop} {l : List α} (h : ∀ i (hi : i < l.length), p l[i]) : ∀ x ∈ l, p x := by
  intro x hx
  obtain ⟨i, hi, rfl⟩ := List.mem_iff_getElem.1 hx
  exact h i hi
/-- A yes says so much. -/
def Says (p : Prop) (w : World) (e : Ending) (w' : World) : Prop := ∃ b, e = .returned (.bool b) ∧ (b = true → p) ∧ Below w.heap.size w w'
theorem Says.no {p : Prop} {w w' : World} (h : Below w.heap.size w w') : Says p w (.returned (.bool false)) w' := ⟨false, rfl, (fun h => by cases h), h⟩

set_option maxRecDepth 100000 in
set_option maxHeartbeats 2000000 in
theorem fewlists_calls (v : Value) (l : List (List Int)) (hl : okL l) (hll : ∀ x ∈ l, okL x) (w : World) (hv : IsLists 0 v l w) :
    Calls Tryz.prog 23 #[v] w (Says (fewL l) w) := by
  obtain ⟨a, cap, rfl⟩ := IsSl.len hv
  have HV := Lib.hid hv
  have HLL := Lib.hid hll
  clear hv hll
  unfold okL at hl
  go_enter Tryz.func23, Tryz.ntmps23
  go_wp2
  go_loopw [3] (fun i wr => ∃ k : Nat, k ≤ l.length ∧ k ≤ 7 ∧ i = .int .i64 k ∧ wr = w ∧ ∀ i (hi : i < l.length), i < k → l[i].length ≤ 8) (fun i _ => l.length - (intOf i).toNat)
  case atStart => exact ⟨0, Nat.zero_le _, by omega, rfl, rfl, fun i _ hi => absurd hi (Nat.not_lt_zero _)⟩
  case round =>
    obtain ⟨k, hk, hk7, rfl, hwr, hgood⟩ := hrel
    have hwr' := hwr.symm
    subst hwr'
    have HG := Lib.hid hgood
    clear hgood
    by_cases hlt : k < l.length
    · have hli : (k : Int) < (l.length : Int) := by omega
      by_cases h7 : k < 7
      · have h7i : (k : Int) < 7 := by omega
        obtain ⟨bk, off, rfl, hbk, x, hx, u, y0, yu⟩ := IsSl.at HV.out k hlt
        obtain ⟨au, cu, rfl⟩ := IsSl.len yu
        rw [Nat.mul_one] at y0
        have hx63 := HLL.out x (by rw [hx]; exact List.getElem_mem _)
        unfold okL at hx63
        by_cases h8 : x.length ≤ 8
        · have h8i : ¬ (x.length : Int) > 8 := by omega
          have HN : Hid (∀ i (hi : i < l.length), i < k + 1 → l[i].length ≤ 8) := by
            show ∀ i hi, _
            intro i hi h
            by_cases e : i = k
            · subst e; rw [← hx]; exact h8
            · exact HG.out i hi (by omega)
          have HK := Lib.hid (show k + 1 ≤ l.length ∧ k + 1 ≤ 7 by omega)
          clear h8 hx yu
          go_wp2
          go_roundw
          case rel => exact ⟨k + 1, HK.out.1, HK.out.2, by go_num, by trivial, HN.out⟩
          case measure => simp [intOf]; omega
        · have h8i : (x.length : Int) > 8 := by omega
          clear h8 hx yu
          go_wp2
          go_ret
          exact Says.no (Below.refl _ _)
      · have h7i : ¬ (k : Int) < 7 := by omega
        have HF : Hid (decide ((l.length : Int) ≤ 6) = false) := by show _ = _; exact decide_eq_false (by omega)
        clear h7
        go_wp2
        go_ret
        exact ⟨_, rfl, (fun h => by have := HF.out; simp_all), Below.refl _ _⟩
    · have hli : ¬ (k : Int) < (l.length : Int) := by omega
      have HF : Hid (∀ d ∈ l, d.length ≤ 8) := by
        show ∀ d ∈ l, _
        exact all_of fun i hi => HG.out i hi (by omega)
      clear hlt
      go_wp2
      go_ret
      exact ⟨_, rfl, (fun h => ⟨by have := of_decide_eq_true h; omega, HF.out⟩), Below.refl _ _⟩

set_option maxRecDepth 100000 in
set_option maxHeartbeats 2000000 in
theorem fewnums_calls (v : Value) (l : List (List (List Int))) (hl : okLLL l) (w : World) (hv : IsTables 0 v l w) :
    Calls Tryz.prog 22 #[v] w (Says (fewN l) w) := by
  obtain ⟨a, cap, rfl⟩ := IsSl.len hv
  have HV := Lib.hid hv
  have HLL := Lib.hid hl.2
  have hl := hl.1
  clear hv
  unfold okL at hl
  go_enter Tryz.func22, Tryz.ntmps22
  go_wp2
  go_loopw [3] (fun i wr => ∃ k : Nat, k ≤ l.length ∧ k ≤ 7 ∧ i = .int .i64 k ∧ wr = w ∧ ∀ i (hi : i < l.length), i < k → l[i].length ≤ 6 ∧ ∀ b ∈ l[i], b.length ≤ 8) (fun i _ => l.length - (intOf i).toNat)
  case atStart => exact ⟨0, Nat.zero_le _, by omega, rfl, rfl, fun i _ hi => absurd hi (Nat.not_lt_zero _)⟩
  case round =>
    obtain ⟨k, hk, hk7, rfl, hwr, hgood⟩ := hrel
    have hwr' := hwr.symm
    subst hwr'
    have HG := Lib.hid hgood
    clear hgood
    by_cases hlt : k < l.length
    · have hli : (k : Int) < (l.length : Int) := by omega
      by_cases h7 : k < 7
      · have h7i : (k : Int) < 7 := by omega
        obtain ⟨bk, off, rfl, hbk, x, hx, u, y0, yu⟩ := IsSl.at HV.out k hlt
        obtain ⟨au, cu, rfl⟩ := IsSl.len yu
        rw [Nat.mul_one] at y0
        have hx63 := HLL.out x (by rw [hx]; exact List.getElem_mem _)
        have hx1 := hx63.1
        unfold okL at hx1
        have HX2 := Lib.hid hx63.2
        have HYU := Lib.hid yu
        have HX := Lib.hid hx
        have HLT := Lib.hid hlt
        have H7 := Lib.hid h7
        clear hx63 hx yu
        by_cases h6 : x.length ≤ 6
        · have h6i : ¬ (x.length : Int) > 6 := by omega
          go_wp2
          go_loopw [4] (fun i wr => ∃ j : Nat, j ≤ x.length ∧ i = .int .i64 j ∧ wr = w ∧ ∀ i (hi : i < x.length), i < j → x[i].length ≤ 8) (fun i _ => x.length - (intOf i).toNat)
          case atStart => exact ⟨0, Nat.zero_le _, rfl, by trivial, fun i _ hi => absurd hi (Nat.not_lt_zero _)⟩
          case round =>
            obtain ⟨j, hj, rfl, hwr, hgood⟩ := hrel
            have hwr' := hwr.symm
            subst hwr'
            have HG2 := Lib.hid hgood
            clear hgood
            by_cases hjlt : j < x.length
            · have hji : (j : Int) < (x.length : Int) := by omega
              obtain ⟨bj, oj, rfl, hbj, y, hy, u', q0, qu⟩ := IsSl.at HYU.out j hjlt
              obtain ⟨aq, cq, rfl⟩ := IsSl.len qu
              rw [Nat.mul_one] at q0
              have hy63 := HX2.out y (by rw [hy]; exact List.getElem_mem _)
              unfold okL at hy63
              by_cases h8 : y.length ≤ 8
              · have h8i : ¬ (y.length : Int) > 8 := by omega
                have HN : Hid (∀ i (hi : i < x.length), i < j + 1 → x[i].length ≤ 8) := by
                  show ∀ i hi, _
                  intro i hi h
                  by_cases e : i = j
                  · subst e; rw [← hy]; exact h8
                  · exact HG2.out i hi (by omega)
                have HK := Lib.hid (show j + 1 ≤ x.length by omega)
                clear h8 hy qu
                go_wp2
                go_roundw
                case rel => exact ⟨j + 1, HK.out, by go_num, by trivial, HN.out⟩
                case measure => simp [intOf]; omega
              · have h8i : (y.length : Int) > 8 := by omega
                clear h8 hy qu
                go_wp2
                go_ret
                exact Says.no (Below.refl _ _)
            · obtain rfl : j = x.length := by omega
              have hji : ¬ (x.length : Int) < (x.length : Int) := by omega
              have HN : Hid (∀ i (hi : i < l.length), i < k + 1 → l[i].length ≤ 6 ∧ ∀ b ∈ l[i], b.length ≤ 8) := by
                show ∀ i hi, _
                intro i hi h
                by_cases e : i = k
                · subst e; rw [← HX.out]; exact ⟨h6, all_of fun i hi => HG2.out i hi hi⟩
                · exact HG.out i hi (by omega)
              have HK := Lib.hid (show k + 1 ≤ l.length ∧ k + 1 ≤ 7 by have := HLT.out; have := H7.out; omega)
              clear hjlt h6
              go_wp2
              go_roundw
              case rel => exact ⟨k + 1, HK.out.1, HK.out.2, by go_num, by trivial, HN.out⟩
              case measure => simp [intOf]; omega
        · have h6i : (x.length : Int) > 6 := by omega
          clear h6
          go_wp2
          go_ret
          exact Says.no (Below.refl _ _)
      · have h7i : ¬ (k : Int) < 7 := by omega
        have HF : Hid (decide ((l.length : Int) ≤ 6) = false) := by show _ = _; exact decide_eq_false (by omega)
        clear h7
        go_wp2
        go_ret
        exact ⟨_, rfl, (fun h => by have := HF.out; simp_all), Below.refl _ _⟩
    · have hli : ¬ (k : Int) < (l.length : Int) := by omega
      have HF : Hid (∀ a ∈ l, a.length ≤ 6 ∧ ∀ b ∈ a, b.length ≤ 8) := by
        show ∀ a ∈ l, _
        exact all_of fun i hi => HG.out i hi (by omega)
      clear hlt
      go_wp2
      go_ret
      exact ⟨_, rfl, (fun h => ⟨by have := of_decide_eq_true h; omega, HF.out⟩), Below.refl _ _⟩

set_option maxRecDepth 100000 in
set_option maxHeartbeats 2000000 in
theorem fewproof_calls (p : ProofD) (vp : Value) (hp : p.ok) (w : World) (ip : p.Is 0 vp w) :
    Calls Tryz.prog 5 #[vp] w (Says (fewD p) w) := by
  obtain ⟨vd, va, rfl, d1, a1⟩ := ip
  obtain ⟨ad, cd, rfl⟩ := d1.len
  obtain ⟨aa, ca, rfl⟩ := a1.len
  have hb := below_one w (.cells #[.slice ad p.dares.length cd, .slice aa p.answers.length ca] 25)
  have B1 := Blk.new w 25 #[.slice ad p.dares.length cd, .slice aa p.answers.length ca]
  have k1 := Lib.hid (fewnums_calls _ p.answers hp.2 _ (a1.hi (Hi.below hb)))
  have k2 := fun w' (h : Below (w.alloc (.cells #[.slice ad p.dares.length cd, .slice aa p.answers.length ca] 25)).heap.size (w.alloc (.cells #[.slice ad p.dares.length cd, .slice aa p.answers.length ca] 25)) w') => Lib.hid (fewlists_calls _ p.dares hp.1.1 hp.1.2 w' ((d1.hi (Hi.below hb)).hi (Hi.below h)))
  have HBB := Lib.hid hb
  have HB1 := Lib.hid B1
  obtain ⟨z0, z1⟩ := B1.get2
  clear d1 a1 hp hb B1
  go_enter Tryz.func5, Tryz.ntmps5
  go_wp2_with fail
  refine k1.out.mono ?_
  clear k1
  rintro e w1 ⟨b1, rfl, hb1, hw1⟩
  have HN := Lib.hid hb1
  have HW1 := Lib.hid hw1
  obtain ⟨z0', z1'⟩ := (HB1.out.next hw1).get2
  have hw1' := HBB.out.trans (hw1.mono HBB.out.size)
  have HW1' := Lib.hid hw1'
  have k3 := k2 w1 hw1
  clear k2 z0 z1 hb1 hw1 hw1'
  cases b1 with
  | false =>
    clear k3
    go_wp2
    go_ret
    exact Says.no HW1'.out
  | true =>
    go_wp2_with fail
    refine k3.out.mono ?_
    clear k3 z0' z1'
    rintro e w2 ⟨b2, rfl, hb2, hw2⟩
    have HN2 := Lib.hid hb2
    have HW2 := Lib.hid (HW1'.out.trans (hw2.mono HW1'.out.size))
    clear hb2 hw2
    go_wp2
    go_ret
    exact ⟨b2, rfl, (fun h => ⟨HN2.out h, HN.out trivial⟩), HW2.out⟩

set_option maxRecDepth 100000 in
set_option maxHeartbeats 2000000 in
theorem fewclaim_calls (c : ClaimD) (ve : Value) (hl : okL c.eqs) (hll : ∀ x ∈ c.eqs, okL x.terms) (w : World) (hv : IsEqs 0 ve c.eqs w) :
    Calls Tryz.prog 24 #[.agg #[.int .i64 c.vars, ve]] w (Says (fewC c) w) := by
  obtain ⟨a, cap, rfl⟩ := IsSl.len hv
  have hb := below_one w (.cells #[.int .i64 c.vars, .slice a c.eqs.length cap] 66)
  obtain ⟨z0, z1⟩ := (Blk.new w 66 #[.int .i64 c.vars, .slice a c.eqs.length cap]).get2
  have HB := Lib.hid hb
  have HV := Lib.hid (hv.hi (Hi.below hb))
  have HLL := Lib.hid hll
  clear hv hll hb
  unfold okL at hl
  obtain ⟨W1, hW1⟩ : ∃ W1, W1 = w.alloc (.cells #[.int .i64 c.vars, .slice a c.eqs.length cap] 66) := ⟨_, rfl⟩
  rw [← hW1] at z0 z1 HB HV
  go_enter Tryz.func24, Tryz.ntmps24
  go_wp2
  rw [← hW1]
  clear hW1
  go_loopw [3] (fun i wr => ∃ k : Nat, k ≤ c.eqs.length ∧ k ≤ 5 ∧ i = .int .i64 k ∧ wr = W1 ∧ ∀ i (hi : i < c.eqs.length), i < k → c.eqs[i].terms.length ≤ 6) (fun i _ => c.eqs.length - (intOf i).toNat)
  case atStart => exact ⟨0, Nat.zero_le _, by omega, rfl, rfl, fun i _ hi => absurd hi (Nat.not_lt_zero _)⟩
  case round =>
    obtain ⟨k, hk, hk7, rfl, hwr, hgood⟩ := hrel
    have hwr' := hwr.symm
    subst hwr'
    have HG := Lib.hid hgood
    clear hgood
    by_cases hlt : k < c.eqs.length
    · have hli : (k : Int) < (c.eqs.length : Int) := by omega
      by_cases h7 : k < 5
      · have h7i : (k : Int) < 5 := by omega
        obtain ⟨bk, off, rfl, hbk, x, hx, y0, u, y1, yu⟩ := IsSl.at HV.out k hlt
        obtain ⟨au, cu, rfl⟩ := IsSl.len yu
        have hx63 := HLL.out x (by rw [hx]; exact List.getElem_mem _)
        unfold okL at hx63
        by_cases h8 : x.terms.length ≤ 6
        · have h8i : ¬ (x.terms.length : Int) > 6 := by omega
          have HN : Hid (∀ i (hi : i < c.eqs.length), i < k + 1 → c.eqs[i].terms.length ≤ 6) := by
            show ∀ i hi, _
            intro i hi h
            by_cases e : i = k
            · subst e; rw [← hx]; exact h8
            · exact HG.out i hi (by omega)
          have HK := Lib.hid (show k + 1 ≤ c.eqs.length ∧ k + 1 ≤ 5 by omega)
          clear h8 hx yu
          go_wp2
          go_roundw
          case rel => exact ⟨k + 1, HK.out.1, HK.out.2, by go_num, by trivial, HN.out⟩
          case measure => simp [intOf]; omega
        · have h8i : (x.terms.length : Int) > 6 := by omega
          clear h8 hx yu
          go_wp2
          go_ret
          exact Says.no HB.out
      · have h7i : ¬ (k : Int) < 5 := by omega
        have h4 : ¬ (c.eqs.length : Int) ≤ 4 := by omega
        clear h7
        go_wp2
        go_ret
        exact Says.no HB.out
    · have hli : ¬ (k : Int) < (c.eqs.length : Int) := by omega
      have HF : Hid (∀ d ∈ c.eqs, d.terms.length ≤ 6) := by
        show ∀ d ∈ c.eqs, _
        exact all_of fun i hi => HG.out i hi (by omega)
      by_cases h4 : c.eqs.length ≤ 4
      · have h4i : (c.eqs.length : Int) ≤ 4 := by omega
        have H4 := Lib.hid h4
        clear hlt h4
        by_cases h6 : c.vars ≤ 6
        · go_wp2
          go_ret
          exact ⟨_, rfl, (fun _ => ⟨H4.out, HF.out⟩), HB.out⟩
        · by_cases h120 : c.vars > 120
          · go_wp2
            go_ret
            exact ⟨_, rfl, (fun _ => ⟨H4.out, HF.out⟩), HB.out⟩
          · go_wp2
            go_ret
            exact ⟨_, rfl, (fun _ => ⟨H4.out, HF.out⟩), HB.out⟩
      · have h4i : ¬ (c.eqs.length : Int) ≤ 4 := by omega
        clear hlt h4
        go_wp2
        go_ret
        exact Says.no HB.out

set_option maxRecDepth 100000 in
set_option maxHeartbeats 2000000 in
theorem few_calls (l : List ClauseD) (v : Value) (hl : okL l) (hll : ∀ x ∈ l, okL x.claims ∧ ∀ c ∈ x.claims, okL c.eqs ∧ ∀ e ∈ c.eqs, okL e.terms) (w : World) (hv : IsGoal 0 v l w) :
    Calls Tryz.prog 6 #[.agg #[.int .i64 0, .int .i64 0, .int .i64 0, .slice none 0 0, .int .i64 0], v] w (Says (fewG l) w) := by
  obtain ⟨a, cap, rfl⟩ := IsSl.len hv
  have hb := below_one w (.cells #[.int .i64 0, .int .i64 0, .int .i64 0, .slice none 0 0, .int .i64 0] 34)
  have B1 := Blk.new w 34 #[.int .i64 0, .int .i64 0, .int .i64 0, .slice none 0 0, .int .i64 0]
  have HV := Lib.hid (IsGoal.hi hv (Hi.below hb))
  have HLL := Lib.hid hll
  have k2 := fun w' => Lib.hid (fewsetup_calls ⟨0, 0, 0, [], 0⟩ (.slice none 0 0) w' (.inl ⟨⟨none, 0, rfl⟩, rfl⟩))
  unfold SetD.val at k2
  clear hv hll
  unfold okL at hl
  obtain ⟨W1, hW1⟩ : ∃ W1, W1 = w.alloc (.cells #[.int .i64 0, .int .i64 0, .int .i64 0, .slice none 0 0, .int .i64 0] 34) := ⟨_, rfl⟩
  rw [← hW1] at B1 hb HV
  have HB := Lib.hid hb
  have HB1 := Lib.hid B1
  clear hb B1
  go_enter Tryz.func6, Tryz.ntmps6
  go_wp2
  rw [← hW1]
  clear hW1
  go_loopw [5] (fun i wr => ∃ k : Nat, k ≤ l.length ∧ k ≤ 6 ∧ i = .int .i64 k ∧ Below W1.heap.size W1 wr ∧ ∀ i (hi : i < l.length), i < k → l[i].claims.length ≤ 5 ∧ ∀ c ∈ l[i].claims, fewC c) (fun i _ => l.length - (intOf i).toNat)
  case atStart => exact ⟨0, Nat.zero_le _, by omega, rfl, Below.refl _ _, fun i _ hi => absurd hi (Nat.not_lt_zero _)⟩
  case round =>
    obtain ⟨k, hk, hk7, rfl, hbr, hgood⟩ := hrel
    have HG := Lib.hid hgood
    have HBR := Lib.hid hbr
    have HFin := Lib.hid (HB.out.trans (hbr.mono HB.out.size))
    obtain ⟨W2, hW2⟩ : ∃ W2, W2 = wr := ⟨_, rfl⟩
    subst hW2
    clear hgood hbr
    by_cases hlt : k < l.length
    · have hli : (k : Int) < (l.length : Int) := by omega
      by_cases h7 : k < 6
      · have h7i : (k : Int) < 6 := by omega
        obtain ⟨bk, off, rfl, hbk, x, hx, y0, u, y1, yu⟩ := IsSl.at (IsGoal.hi HV.out (Hi.below HBR.out)) k hlt
        obtain ⟨au, cu, rfl⟩ := IsSl.len yu
        obtain ⟨hx1, hx2⟩ := HLL.out x (by rw [hx]; exact List.getElem_mem _)
        unfold okL at hx1
        have HX2 := Lib.hid hx2
        have HYU := Lib.hid yu
        have HX := Lib.hid hx
        have HLT := Lib.hid hlt
        have H7 := Lib.hid h7
        have HY1 := Lib.hid y1
        have HBK := Lib.hid hbk
        clear hx2 hx yu
        by_cases h6 : x.claims.length ≤ 5
        · have h6i : ¬ (x.claims.length : Int) > 5 := by omega
          go_wp2
          clear y0 y1
          go_loopw [6] (fun i wr => ∃ j : Nat, j ≤ x.claims.length ∧ i = .int .i64 j ∧ Below W2.heap.size W2 wr ∧ ∀ i (hi : i < x.claims.length), i < j → fewC x.claims[i]) (fun i _ => x.claims.length - (intOf i).toNat)
          case atStart => exact ⟨0, Nat.zero_le _, rfl, Below.refl _ _, fun i _ hi => absurd hi (Nat.not_lt_zero _)⟩
          case round =>
            obtain ⟨j, hj, rfl, hbr, hgood⟩ := hrel
            have HG2 := Lib.hid hgood
            have HBR2 := Lib.hid hbr
            have y1 : wr.cell? ⟨bk, off + k * 2 + 1, none⟩ = some (.slice au x.claims.length cu) := (hbr.cell (p := ⟨bk, off + k * 2 + 1, none⟩) HBK.out.2).trans HY1.out
            have hbr1 := HBR.out.trans (hbr.mono HBR.out.size)
            have HBR3 := Lib.hid (HB.out.trans (hbr1.mono HB.out.size))
            have HBR1 := Lib.hid hbr1
            have HYC := Lib.hid (IsClaims.hi HYU.out (Hi.below hbr))
            clear hgood hbr hbr1
            by_cases hjlt : j < x.claims.length
            · have hji : (j : Int) < (x.claims.length : Int) := by omega
              obtain ⟨bj, oj, rfl, hbj, y, hy, q0, u', q1, qu⟩ := IsSl.at HYC.out j hjlt
              obtain ⟨aq, cq, rfl⟩ := IsSl.len qu
              obtain ⟨hy1, hy2⟩ := HX2.out y (by rw [hy]; exact List.getElem_mem _)
              have k1 := Lib.hid (fewclaim_calls y _ hy1 hy2 wr qu)
              have HY := Lib.hid hy
              have HJL := Lib.hid hjlt
              clear hy hy1 hy2 qu
              go_wp2_with fail
              refine k1.out.mono ?_
              clear k1 q0 q1 y1
              rintro e w5 ⟨b5, rfl, hf5, hb5⟩
              have HB5 := Lib.hid hb5
              cases b5 with
              | false =>
                have HR := Lib.hid (HBR3.out.trans (hb5.mono HBR3.out.size))
                clear hf5 hb5
                go_wp2
                go_ret
                exact Says.no HR.out
              | true =>
                have hfy := hf5 rfl
                have HN : Hid (∀ i (hi : i < x.claims.length), i < j + 1 → fewC x.claims[i]) := by
                  show ∀ i hi, _
                  intro i hi h
                  by_cases e : i = j
                  · subst e; rw [← HY.out]; exact hfy
                  · exact HG2.out i hi (by omega)
                have HK := Lib.hid (show j + 1 ≤ x.claims.length from HJL.out)
                have HR := Lib.hid (HBR2.out.trans (hb5.mono HBR2.out.size))
                clear hf5 hb5 hfy
                go_wp2
                go_roundw
                case rel => exact ⟨j + 1, HK.out, by go_num, HR.out, HN.out⟩
                case measure => have := HK.out; simp [intOf]; omega
            · obtain rfl : j = x.claims.length := by omega
              have hji : ¬ (x.claims.length : Int) < (x.claims.length : Int) := by omega
              have HN : Hid (∀ i (hi : i < l.length), i < k + 1 → l[i].claims.length ≤ 5 ∧ ∀ c ∈ l[i].claims, fewC c) := by
                show ∀ i hi, _
                intro i hi h
                by_cases e : i = k
                · subst e; rw [← HX.out]; exact ⟨h6, all_of fun i hi => HG2.out i hi hi⟩
                · exact HG.out i hi (by omega)
              have HK := Lib.hid (show k + 1 ≤ l.length ∧ k + 1 ≤ 6 by have := HLT.out; have := H7.out; omega)
              clear hjlt h6
              go_wp2
              go_roundw
              case rel => exact ⟨k + 1, HK.out.1, HK.out.2, by go_num, HBR1.out, HN.out⟩
              case measure => have := HK.out; simp [intOf]; omega
        · have h6i : (x.claims.length : Int) > 5 := by omega
          clear h6
          go_wp2
          go_ret
          exact Says.no HFin.out
      · have h7i : ¬ (k : Int) < 6 := by omega
        have h5 : ¬ (l.length : Int) ≤ 5 := by omega
        clear h7
        go_wp2
        go_ret
        exact Says.no HFin.out
    · have hli : ¬ (k : Int) < (l.length : Int) := by omega
      have HF : Hid (∀ x ∈ l, x.claims.length ≤ 5 ∧ ∀ c ∈ x.claims, fewC c) := by
        show ∀ x ∈ l, _
        exact all_of fun i hi => HG.out i hi (by omega)
      by_cases h5 : l.length ≤ 5
      · have h5i : (l.length : Int) ≤ 5 := by omega
        have H5 := Lib.hid h5
        obtain ⟨z0, z1, z2, z3, z4⟩ := (show SetAt ⟨0, 0, 0, [], 0⟩ (.slice none 0 0) _ W2 from HB1.out.next HBR.out).get
        clear hlt h5
        go_wp2_with fail
        refine (k2 W2).out.mono ?_
        clear k2 z0 z1 z2 z3 z4
        rintro e w5 ⟨rfl, hb5⟩
        have HR := Lib.hid (HFin.out.trans (hb5.mono HFin.out.size))
        clear hb5
        go_wp2
        go_ret
        exact ⟨_, rfl, (fun _ => ⟨H5.out, HF.out⟩), HR.out⟩
      · have h5i : ¬ (l.length : Int) ≤ 5 := by omega
        clear hlt h5
        go_wp2
        go_ret
        exact Says.no HFin.out
end Go.Proofs.YthnkfjjgccabeaaGreatDoor
