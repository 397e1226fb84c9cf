/- Few statutes. -/
import Derived.Test.YtkfmhibdoapndaaDoorSn
namespace Go.Proofs.YtkfmhibdoapndaaDoor
open Go.RowKit

def StatD.few (x : StatD) : Bool := decide (x.rs.length ≤ 18) && (decide (x.ws.length ≤ 14) && x.rs.all fun s => decide (s.length ≤ 30))
theorem all_bad {α : Type} {p : α → Bool} {l : List α} {k : Nat} (hk : k < l.length) (h : p l[k] = false) : l.all p = false := by
  rw [← Bool.not_eq_true, List.all_eq_true]
  intro h2
  have := h2 _ (List.getElem_mem hk)
  rw [h] at this
  cases this
theorem all_good {α : Type} {p : α → Bool} {l : List α} (h : ∀ i (hi : i < l.length), p l[i] = true) : l.all p = true := by
  rw [List.all_eq_true]
  intro x hx
  obtain ⟨i, hi, rfl⟩ := List.mem_iff_getElem.1 hx
  exact h i hi
set_option maxRecDepth 100000 in
set_option maxHeartbeats 4000000 in
theorem fewstats_calls (v : Value) (l : List StatD) (hl : l.length ≤ 18) (hlen : ∀ x ∈ l, x.rs.length ≤ 9223372036854775807 ∧ x.ws.length ≤ 9223372036854775807) (hsz : ∀ x ∈ l, ∀ s ∈ x.rs, s.length ≤ 9223372036854775807) (w : World) (hv : IsStats 0 v l w) :
    Calls Tryd.prog 6 #[v] w fun e w' => e = .returned (.bool (l.all StatD.few)) ∧ Below w.heap.size w w' := by
  obtain ⟨a, cap, rfl⟩ := IsSl.len hv
  obtain ⟨V, hV⟩ : ∃ V, V = l.all StatD.few := ⟨_, rfl⟩
  rw [← hV]
  have HV := Lib.hid hV
  have HL := Lib.hid hv
  have HLEN := Lib.hid hlen
  have HSZ := Lib.hid hsz
  clear hV hv hlen hsz
  have hli : (l.length : Int) ≤ 18 := by omega
  go_enter Tryd.func6, Tryd.ntmps6
  go_wp2
  go_loopw [3] (fun i wr => ∃ k : Nat, k ≤ l.length ∧ i = .int .i64 k ∧ Below w.heap.size w wr ∧ ∀ i (hi : i < l.length), i < k → StatD.few l[i] = true) (fun i _ => l.length - (intOf i).toNat)
  case atStart => exact ⟨0, Nat.zero_le _, rfl, Below.refl _ _, fun i _ hi => absurd hi (Nat.not_lt_zero _)⟩
  case round =>
    obtain ⟨k, hk, rfl, hb, hgood⟩ := hrel
    have HG := Lib.hid hgood
    have HB := Lib.hid hb
    by_cases hlt : k < l.length
    · obtain ⟨bk, off, rfl, hbk, x, hx, vr, vw, y0, y1, y2, yr, yw⟩ := IsSl.at (IsStats.next HL.out hb) k hlt
      obtain ⟨ar, cr, rfl⟩ := IsSl.len yr
      obtain ⟨aw, cw, rfl⟩ := IsSl.len yw
      have hkl : (k : Int) < (l.length : Int) := by omega
      have hk18 : (k : Int) ≤ 18 := by omega
      obtain ⟨hn1, hn2⟩ := HLEN.out x (by rw [hx]; exact List.getElem_mem _)
      have HS1 := Lib.hid (HSZ.out x (by rw [hx]; exact List.getElem_mem _))
      have HX := Lib.hid hx
      have HLT := Lib.hid hlt
      have HYR := Lib.hid yr
      clear hgood hb hx yr yw y1
      by_cases h1 : x.rs.length ≤ 18
      · by_cases h2 : x.ws.length ≤ 14
        · have g1 : ¬ (x.rs.length : Int) > 18 := by omega
          have g2 : ¬ (x.ws.length : Int) > 14 := by omega
          have hr18 : (x.rs.length : Int) ≤ 18 := by omega
          have H12 := Lib.hid (And.intro h1 h2)
          have HY0 := Lib.hid y0
          clear h1 h2
          go_wp2
          go_loopw [4] (fun i wr2 => ∃ j : Nat, j ≤ x.rs.length ∧ i = .int .i64 j ∧ wr2 = wr ∧ ∀ i (hi : i < x.rs.length), i < j → (x.rs[i]'hi).length ≤ 30) (fun i _ => x.rs.length - (intOf i).toNat)
          case atStart => exact ⟨0, Nat.zero_le _, rfl, rfl, fun i _ hi => absurd hi (Nat.not_lt_zero _)⟩
          case round =>
            obtain ⟨j, hj, rfl, hw2, hjg⟩ := hrel
            subst hw2
            have HJ := Lib.hid hjg
            by_cases hjlt : j < x.rs.length
            · obtain ⟨bs', o', rfl, _, s, hs, q0⟩ := IsTexts.at HYR.out j hjlt
              have hjl : (j : Int) < (x.rs.length : Int) := by omega
              have hz := bs_size s
              have hs64 := HS1.out s (by rw [hs]; exact List.getElem_mem _)
              by_cases h30 : s.length ≤ 30
              · have g3 : ¬ ((bs s).size : Int) > 30 := by omega
                have HN : Hid (∀ i (hi : i < x.rs.length), i < j + 1 → (x.rs[i]'hi).length ≤ 30) := by
                  show ∀ i hi, _
                  intro i hi h
                  by_cases e : i = j
                  · subst e; rw [← hs]; exact h30
                  · exact HJ.out i hi (by omega)
                clear hjg hs h30 hjlt
                go_wp2
                go_roundw
                case rel => exact ⟨j + 1, by omega, by go_num, by trivial, HN.out⟩
                case measure => simp [intOf]; omega
              · have g3 : ((bs s).size : Int) > 30 := by omega
                have HF : Hid (V = false) := by
                  show _ = _
                  rw [HV.out]
                  refine all_bad HLT.out ?_
                  rw [← HX.out]
                  unfold StatD.few
                  rw [all_bad (p := fun s => decide (s.length ≤ 30)) hjlt (by rw [← hs]; exact decide_eq_false h30)]
                  simp
                clear hjg hs h30 hjlt
                go_wp2
                go_ret
                exact ⟨ret_b HF.out.symm, HB.out⟩
            · obtain rfl : j = x.rs.length := by omega
              have HN : Hid (∀ i (hi : i < l.length), i < k + 1 → StatD.few l[i] = true) := by
                show ∀ i hi, _
                intro i hi h
                by_cases e : i = k
                · subst e
                  rw [← HX.out]
                  unfold StatD.few
                  rw [decide_eq_true H12.out.1, decide_eq_true H12.out.2, all_good (p := fun s => decide (s.length ≤ 30)) (fun i hi => decide_eq_true (HJ.out i hi hi))]
                  rfl
                · exact HG.out i hi (by omega)
              have hkk : k + 1 ≤ l.length := HLT.out
              clear hjg hjlt
              go_wp2
              go_roundw
              case rel => exact ⟨k + 1, hkk, by go_num, HB.out, HN.out⟩
              case measure => simp [intOf]; omega
        · have g1 : ¬ (x.rs.length : Int) > 18 := by omega
          have g2 : (x.ws.length : Int) > 14 := by omega
          have HF : Hid (V = false) := by
            show _ = _
            rw [HV.out]
            refine all_bad HLT.out ?_
            rw [← HX.out]
            unfold StatD.few
            rw [decide_eq_false h2]
            simp
          clear h1 h2
          go_wp2
          go_ret
          exact ⟨ret_b HF.out.symm, HB.out⟩
      · have g1 : (x.rs.length : Int) > 18 := by omega
        have HF : Hid (V = false) := by
          show _ = _
          rw [HV.out]
          refine all_bad HLT.out ?_
          rw [← HX.out]
          unfold StatD.few
          rw [decide_eq_false h1]
          rfl
        clear h1
        go_wp2
        go_ret
        exact ⟨ret_b HF.out.symm, HB.out⟩
    · obtain rfl : k = l.length := by omega
      have HF : Hid (V = true) := by show _ = _; rw [HV.out]; exact all_good fun i hi => HG.out i hi hi
      clear hgood hb hlt
      go_wp2
      go_ret
      exact ⟨ret_b HF.out.symm, HB.out⟩
end Go.Proofs.YtkfmhibdoapndaaDoor
