/- SamePoints, FewVotes. -/
import Derived.Test.YtkfmhibdoapndaaDoorVote
namespace Go.Proofs.YtkfmhibdoapndaaDoor
open Go.RowKit

theorem IsPts.at {a : Option Addr} {n cap : Nat} {xs : List Pt} {w : World} (h : IsPts (.slice a n cap) xs w) (k : Nat) (hk : k < xs.length) :
    ∃ bk off, a = some ⟨bk, off, none⟩ ∧ bk < w.heap.size ∧ ∃ x1 x2 x3, (x1, x2, x3) = xs[k] ∧ w.cell? ⟨bk, off + k * 3, none⟩ = some (.int .i64 x1) ∧ w.cell? ⟨bk, off + k * 3 + 1, none⟩ = some (.int .i64 x2) ∧ w.cell? ⟨bk, off + k * 3 + 2, none⟩ = some (.int .i64 x3) := by
  obtain ⟨bk, off, h1, h2, ⟨x1, x2, x3⟩, h3, h4, h5, h6⟩ := IsSl.at h k hk
  exact ⟨bk, off, h1, h2.2, x1, x2, x3, h3, h4, h5, h6⟩
set_option maxRecDepth 100000 in
set_option maxHeartbeats 4000000 in
theorem samepts_calls (va vb : Value) (a b : List Pt) (hla : okL a) (w : World) (ha : IsPts va a w) (hb : IsPts vb b w) :
    Calls Tryd.prog 14 #[va, vb] w (Ret (.bool (decide (a = b))) w) := by
  obtain ⟨aa, ca, rfl⟩ := IsSl.len ha
  obtain ⟨ab, cb, rfl⟩ := IsSl.len hb
  have hll : a.length ≤ 9223372036854775807 := hla
  by_cases hl : a.length = b.length
  · obtain ⟨n, hn⟩ : ∃ n, n = a.length := ⟨_, rfl⟩
    have hbl : b.length = n := by omega
    obtain ⟨D, hD⟩ : ∃ D, D = decide (a = b) := ⟨_, rfl⟩
    have hD0 : Nat → decide (a.drop 0 = b.drop 0) = D := fun _ => by rw [List.drop_zero, List.drop_zero]; exact hD.symm
    rw [← hn] at hll
    rw [← hn, hbl, ← hD]
    have HA := Lib.hid ha
    have HB := Lib.hid hb
    have HN := Lib.hid hn
    have HBL := Lib.hid hbl
    have hne : ((n : Int) != (n : Int)) = false := by simp
    clear hl hbl hn hD ha hb hla
    go_enter Tryd.func14, Tryd.ntmps14
    go_wp2
    go_loopw [5] (fun iv wr => ∃ k : Nat, k ≤ n ∧ iv = .int .i64 (k : Int) ∧ (Nat → decide (a.drop k = b.drop k) = D) ∧ Drawn w wr) (fun iv _ => n - (intOf iv).toNat)
    case atStart => exact ⟨0, Nat.zero_le _, rfl, hD0, Drawn.refl _⟩
    case round =>
      clear hD0
      obtain ⟨k, hk, rfl, hDk, hW⟩ := hrel
      by_cases hlt : k < n
      · have h1 : k < a.length := by rw [← HN.out]; exact hlt
        have h2 : k < b.length := by rw [HBL.out]; exact hlt
        obtain ⟨bk, o1, rfl, _, x1, x2, x3, hx, y1, y2, y3⟩ := IsPts.at (HA.out.next hW.below) k h1
        obtain ⟨bk', o2, rfl, _, q1, q2, q3, hq, z1, z2, z3⟩ := IsPts.at (HB.out.next hW.below) k h2
        have hst : Nat → (decide ((x1, x2, x3) = (q1, q2, q3)) && decide (a.drop (k + 1) = b.drop (k + 1))) = D := fun _ => by rw [hx, hq, ← drop_eq a b k h1 h2]; exact hDk 0
        have HST := Lib.hid hst
        clear hx hq
        have HW := Lib.hid hW
        have hkn : (k : Int) < (n : Int) := by omega
        clear hDk hW hst h1 h2
        by_cases e1 : x1 = q1
        · subst e1
          have b1 : (x1 != x1) = false := by simp
          by_cases e2 : x2 = q2
          · subst e2
            have b2 : (x2 != x2) = false := by simp
            by_cases e3 : x3 = q3
            · subst e3
              have hDk : Hid (Nat → decide (a.drop (k + 1) = b.drop (k + 1)) = D) := fun _ => by have := HST.out 0; simpa using this
              have b3 : (x3 != x3) = false := by simp
              clear HST
              go_wp2
              go_quiet (fail)
              go_wp2
              go_roundw
              case rel => exact ⟨k + 1, by omega, by go_num, hDk.out, HW.out.more _⟩
              case measure => simp [intOf]; omega
            · have hDf : Hid (D = false) := by show _ = _; have := HST.out 0; simpa [e3] using this.symm
              have b3 : (x3 != q3) = true := bne_iff_ne.2 e3
              clear HST
              go_wp2
              go_quiet (fail)
              go_wp2
              go_ret
              exact ⟨ret_b hDf.out.symm, HW.out.more _⟩
          · have hDf : Hid (D = false) := by show _ = _; have := HST.out 0; simpa [e2] using this.symm
            have b2 : (x2 != q2) = true := bne_iff_ne.2 e2
            clear HST
            go_wp2
            go_quiet (fail)
            go_wp2
            go_ret
            exact ⟨ret_b hDf.out.symm, HW.out.more _⟩
        · have hDf : Hid (D = false) := by show _ = _; have := HST.out 0; simpa [e1] using this.symm
          have b1 : (x1 != q1) = true := bne_iff_ne.2 e1
          clear HST
          go_wp2
          go_quiet (fail)
          go_wp2
          go_ret
          exact ⟨ret_b hDf.out.symm, HW.out.more _⟩
      · obtain rfl : k = n := by omega
        have hDt : Hid (D = true) := by
          show _ = _
          rw [← hDk 0, HN.out, List.drop_length, ← HN.out, ← HBL.out, List.drop_length]; rfl
        have HW := Lib.hid hW
        clear hDk hW
        go_wp2
        go_ret
        exact ⟨ret_b hDt.out.symm, HW.out⟩
  · have HV : Hid (decide (a = b) = false) := by
      show _ = _
      exact decide_eq_false fun e => hl (by rw [e])
    have hne : ((a.length : Int) != (b.length : Int)) = true := bne_iff_ne.2 (by omega)
    have hne2 : ¬ (a.length : Int) = (b.length : Int) := by omega
    clear hl ha hb hla
    go_enter Tryd.func14, Tryd.ntmps14
    go_wp2
    go_ret
    exact ⟨ret_b HV.out.symm, 0, rfl⟩

/-- What an element of a list of votes holds. -/
def VoteAt : Reads VoteD := fun bk off x w => ∃ v, w.cell? ⟨bk, off + 4, none⟩ = some (.string (bs x.reason)) ∧ w.cell? ⟨bk, off + 5, none⟩ = some v ∧ IsPts v x.pts w
theorem VoteAt.keeps : Keeps 0 VoteAt := fun bk off x w w' hl hlt h hb => by
  obtain ⟨v, h1, h2, h3⟩ := h
  exact ⟨v, by rw [hb.cell hl hlt]; exact h1, by rw [hb.cell hl hlt]; exact h2, IsSl.hi h3 (PtAt.keeps 0) hb⟩
def IsVotes (v : Value) (xs : List VoteD) (w : World) : Prop := IsSl 0 8 VoteAt v xs w
theorem IsVotes.next {v : Value} {xs : List VoteD} {w w' : World} (h : IsVotes v xs w) (hb : Below w.heap.size w w') : IsVotes v xs w' := IsSl.hi h VoteAt.keeps (Hi.below hb)
set_option maxRecDepth 100000 in
set_option maxHeartbeats 4000000 in
theorem fewvotes_calls (v : Value) (l : List VoteD) (hl : l.length ≤ 2) (hlen : ∀ x ∈ l, x.pts.length ≤ 9223372036854775807 ∧ x.reason.length ≤ 9223372036854775807) (w : World) (hv : IsVotes v l w) :
    Calls Tryd.prog 10 #[v, .int .i64 2] w fun e w' => e = .returned (.bool (l.all VoteD.few)) ∧ Below w.heap.size w w' := by
  obtain ⟨a, cap, rfl⟩ := IsSl.len hv
  obtain ⟨V, hV⟩ : ∃ V, V = l.all VoteD.few := ⟨_, rfl⟩
  rw [← hV]
  have HV := Lib.hid hV
  have HL := Lib.hid hv
  have HLEN := Lib.hid hlen
  clear hV hv hlen
  have hli : (l.length : Int) ≤ 2 := by omega
  go_enter Tryd.func10, Tryd.ntmps10
  go_wp2
  go_loopw [5] (fun i wr => ∃ k : Nat, k ≤ l.length ∧ i = .int .i64 k ∧ Below w.heap.size w wr ∧ ∀ i (hi : i < l.length), i < k → VoteD.few l[i] = true) (fun i _ => l.length - (intOf i).toNat)
  case atStart => exact ⟨0, Nat.zero_le _, rfl, Below.refl _ _, fun i _ hi => absurd hi (Nat.not_lt_zero _)⟩
  case round =>
    obtain ⟨k, hk, rfl, hb, hgood⟩ := hrel
    have HG := Lib.hid hgood
    have HB := Lib.hid hb
    by_cases hlt : k < l.length
    · obtain ⟨bk, off, rfl, hbk, x, hx, v, y4, y5, yp⟩ := IsSl.at (IsVotes.next HL.out hb) k hlt
      obtain ⟨ap, cp, rfl⟩ := IsSl.len yp
      have hkl : (k : Int) < (l.length : Int) := by omega
      have hk2 : (k : Int) ≤ 2 := by omega
      obtain ⟨hn1, hn2⟩ := HLEN.out x (by rw [hx]; exact List.getElem_mem _)
      have hz := bs_size x.reason
      have HX := Lib.hid hx
      have HLT := Lib.hid hlt
      clear hgood hb hx yp
      by_cases h1 : x.pts.length ≤ 14
      · have g1 : ¬ (x.pts.length : Int) > 14 := by omega
        by_cases h2 : x.reason.length ≤ 30
        · have g2 : ¬ ((bs x.reason).size : Int) > 30 := by omega
          have HN : Hid (∀ i (hi : i < l.length), i < k + 1 → VoteD.few l[i] = true) := by
            show ∀ i hi, _
            intro i hi h
            by_cases e : i = k
            · subst e
              rw [← HX.out]
              unfold VoteD.few
              rw [decide_eq_true h1, decide_eq_true h2]; rfl
            · exact HG.out i hi (by omega)
          clear h1 h2
          go_wp2
          go_roundw
          case rel => exact ⟨k + 1, HLT.out, by go_num, HB.out, HN.out⟩
          case measure => simp [intOf]; omega
        · have g2 : ((bs x.reason).size : Int) > 30 := by omega
          have HF : Hid (V = false) := by
            show _ = _
            rw [HV.out]
            refine all_bad HLT.out ?_
            rw [← HX.out]
            unfold VoteD.few
            rw [decide_eq_false h2]; simp
          clear h1 h2
          go_wp2
          go_ret
          exact ⟨ret_b HF.out.symm, HB.out⟩
      · have g1 : (x.pts.length : Int) > 14 := by omega
        have HF : Hid (V = false) := by
          show _ = _
          rw [HV.out]
          refine all_bad HLT.out ?_
          rw [← HX.out]
          unfold VoteD.few
          rw [decide_eq_false h1]; rfl
        clear h1
        go_wp2
        go_ret
        exact ⟨ret_b HF.out.symm, HB.out⟩
    · obtain rfl : k = l.length := by omega
      have HF : Hid (V = true) := by show _ = _; rw [HV.out]; exact all_good fun i hi => HG.out i hi hi
      clear hgood hb hlt
      go_wp2
      go_ret
      exact ⟨ret_b HF.out.symm, HB.out⟩
end Go.Proofs.YtkfmhibdoapndaaDoor
