/- BaseScans: the law's walk. -/
import Derived.Test.YtadfdgdpalnnfaaDoorSane
import Derived.Test.YtadfdgdpalnnfaaDoorRScan
import Derived.Test.YtadfdgdpalnnfaaDoorRPrint
namespace Go.Proofs.YtadfdgdpalnnfaaDoor
open Go.RowKit

def Spost (w : World) (e : Ending) (w' : World) : Prop := e = .returned (.bool true) ∧ Below w.heap.size w w'
theorem scanB (l : List UInt8) (hl : l.length ≤ 4000) (w : World) (hE : Env w) :
    Calls Tryd.prog 10 #[.string (bs l)] w (ScanP (scanL l).1 (scanL l).2.1 (scanL l).2.2 w) := scan_lit l hl rfl w hE
theorem scanR (l : List UInt8) (hl : l.length ≤ 4000) (w : World) :
    Calls Tryd.prog 11 #[.string (bs l)] w (ScanP (scanL l).1 (scanL l).2.1 (scanL l).2.2 w) := by
  refine (rscan_calls l hl w).mono ?_
  rintro e w' ⟨v, rfl, ho, hb⟩
  exact ⟨v, rfl, owns_toks ho, hb⟩
theorem scanF_len : ∀ (f k : Nat) (l : List UInt8) (acc : List Tk), (scanF f k l acc).1.length ≤ acc.length + f
  | 0, k, l, acc => by rw [scanF]; simp
  | f + 1, k, l, acc => by
    rw [scanF]
    by_cases h1 : l = []
    · rw [if_pos h1]; simp only; omega
    · rw [if_neg h1]
      simp only
      split
      · simp
      · have h3 := scanF_len f (k + (tokF l).size + sk false (l.drop (tokF l).size)) ((l.drop (tokF l).size).drop (sk false (l.drop (tokF l).size))) (acc ++ [⟨(tokF l).kind, (tokF l).text, (tokF l).n, k⟩])
        rw [List.length_append] at h3
        simp only [List.length_cons, List.length_nil] at h3
        omega
theorem scanL_cnt (l : List UInt8) (hl : l.length ≤ 900) : (scanL l).1.length ≤ 901 := by
  unfold scanL
  rw [if_neg (by omega)]
  have := scanF_len (l.length + 1) (sk false l) (l.drop (sk false l)) []
  simp only [List.length_nil] at this
  omega
theorem tokS_le (t : Tk) (h : t.text.length ≤ 100) : (tokS t).length ≤ 202 := by
  unfold tokS
  have := esc_le2 t.text
  split
  · have e : quotL t.text = 34 :: (escL t.text ++ [34]) := rfl
    rw [e]; simp; omega
  · omega
theorem prF_le : ∀ (b : Bool) (L : List Tk), (∀ t ∈ L, t.text.length ≤ 100) → (prF b L).length ≤ 203 * L.length
  | b, [], _ => by simp [prF]
  | true, t :: r, h => by
    have h1 := tokS_le t (h t (by simp))
    have h2 := prF_le false r (fun x hx => h x (List.mem_cons_of_mem _ hx))
    rw [prF, List.length_append, List.length_cons]; omega
  | false, t :: r, h => by
    have h1 := tokS_le t (h t (by simp))
    have h2 := prF_le false r (fun x hx => h x (List.mem_cons_of_mem _ hx))
    rw [prF, List.length_cons, List.length_append, List.length_cons]; omega

set_option maxHeartbeats 4000000 in
set_option maxRecDepth 100000 in
theorem scans_calls (s : List UInt8) (hs : s.length ≤ 9223372036854775807) (u : Value) (ts : List Tk) (w : World) (hE : Env w) (hu : IsToks u ts w) (hn : ts.length ≤ 9223372036854775807) (ht : ∀ t ∈ ts, t.text.length ≤ 9223372036854775807) :
    Calls Tryd.prog 3 #[.string (bs s), u] w (Spost w) := by
  have hc1 := fun w => Lib.hid (cut_calls s hs w)
  have hlx : (s.take 900).length ≤ 900 := by rw [List.length_take]; omega
  generalize s.take 900 = x at *
  have hX := fun w hE => Lib.hid (scanB x (by omega) w hE)
  have hY := fun w => Lib.hid (scanR x (by omega) w)
  have hcnt := scanL_cnt x hlx
  have hN1 := fun w hE => Lib.hid (number_calls x (by omega) w hE)
  have hN2 := fun w => Lib.hid (rnumber_calls x (by omega) w)
  have hQ1 := fun w hE => Lib.hid (quote_calls x (by omega) w hE)
  have hQ2 := fun w => Lib.hid (rquote_calls x (by omega) w)
  have hM1 := fun w => Lib.hid (name_calls x (by omega) w)
  have hM2 := fun w => Lib.hid (rname_calls x (by omega) w)
  generalize scanL x = X at *
  obtain ⟨a, i, g⟩ := X
  simp only at hX hY hcnt
  generalize (numL x).getD 0 = nv at *
  generalize (numL x).isSome = nb at *
  generalize bs (if isVal x then quotL x else []) = qv at *
  generalize isVal x = qb at *
  generalize isName x = nm at *
  have hi : ((i : Int) == (i : Int)) = true := by simp
  have hg : (g == g) = true := by simp
  have hnv : (nv == nv) = true := by simp
  have hnb : (nb == nb) = true := by simp
  have hqv : (qv.toList == qv.toList) = true := by simp
  have hqb : (qb == qb) = true := by simp
  have hnm : (nm == nm) = true := by simp
  obtain ⟨pa, pc, rfl⟩ := hu.len
  have HU := Lib.hid hu
  have HT := Lib.hid ht
  clear hu ht
  by_cases h100 : 100 < ts.length
  · have hI : (100 : Int) < (ts.length : Int) := by omega
    go_enter Tryd.func3, Tryd.ntmps3
    go_wp2_with fail
    refine (saneTokens w hE).mono ?_
    rintro e w1 ⟨rfl, hb1⟩
    go_wp2
    go_ret
    exact ⟨rfl, hb1⟩
  · have hI : ¬ (100 : Int) < (ts.length : Int) := by omega
    go_enter Tryd.func3, Tryd.ntmps3
    go_wp2_with fail
    refine (saneTokens w hE).mono ?_
    rintro e w1 ⟨rfl, hb1⟩
    have hE1 := hE.next hb1
    have HU1 : Hid (IsToks (.slice pa ts.length pc) ts w1) := HU.out.next hb1
    clear HU
    go_wp2_with fail
    go_loopw [6] (fun iv wr => ∃ k : Nat, k ≤ ts.length ∧ iv = .int .i64 k ∧ wr = w1 ∧ ∀ j, ∀ hj : j < ts.length, j < k → (ts[j]'hj).text.length ≤ 100) (fun iv _ => ts.length - (intOf iv).toNat)
    case atStart => exact ⟨0, Nat.zero_le _, rfl, rfl, fun j _ h => by omega⟩
    case round =>
      obtain ⟨k, hk, rfl, rfl, hall⟩ := hrel
      have HALL := Lib.hid hall
      clear hall
      by_cases hlt : k < ts.length
      · obtain ⟨b1, o1, rfl, hlb, hv⟩ := HU1.out.at k hlt
        have q1 := hv.2.1
        have hkI : (k : Int) < (ts.length : Int) := by omega
        have HSTEP : Hid ((ts[k]'hlt).text.length ≤ 100 → ∀ j, ∀ hj : j < ts.length, j < k + 1 → (ts[j]'hj).text.length ≤ 100) := fun h j hj h2 => by
          rcases Nat.lt_or_ge j k with h3 | h3
          · exact HALL.out j hj h3
          · obtain rfl : j = k := by omega
            exact h
        have htz := HT.out (ts[k]'hlt) (List.getElem_mem _)
        clear hv
        generalize (ts[k]'hlt).text = t at *
        have hz := bs_size t
        by_cases h1 : t.length ≤ 100
        · have h1I : ¬ (100 : Int) < ((bs t).size : Int) := by rw [hz]; omega
          have HS2 := Lib.hid (HSTEP.out h1)
          clear hz h1
          go_wp2
          go_roundw
          case rel => exact ⟨k + 1, by omega, by go_num, trivial, HS2.out⟩
          case measure => simp only [intOf]; omega
        · have h1I : (100 : Int) < ((bs t).size : Int) := by rw [hz]; omega
          clear hz h1
          go_wp2
          go_ret
          exact ⟨rfl, hb1⟩
      · have hkI : ¬ (k : Int) < (ts.length : Int) := by omega
        have hall : ∀ t ∈ ts, t.text.length ≤ 100 := by
          intro t ht
          obtain ⟨j, hj, rfl⟩ := List.mem_iff_getElem.1 ht
          exact HALL.out j hj (by omega)
        have hpl : (printL ts).length ≤ 203 * ts.length := prF_le true ts hall
        have hP1 := fun w hE hu => Lib.hid (print_calls (.slice pa ts.length pc) ts w hE hu (by omega) (fun t ht => by have := hall t ht; omega) (by omega))
        have hP2 := fun w hu => Lib.hid (rprint_calls (.slice pa ts.length pc) ts w hu (by omega) (fun t ht => by have := hall t ht; omega) (by omega))
        generalize bs (printL ts) = pv at *
        have hpv : (pv.toList == pv.toList) = true := by simp
        have hlk := fun u v w hu hv => Lib.hid (sameTokens_eq u v a w hu hv (by omega))
        clear hall hpl HALL
        go_wp2_with fail
        refine (hc1 _).out.mono ?_
        rintro e w2 ⟨rfl, rfl⟩
        go_wp2_with fail
        refine (hX _ hE1).out.mono ?_
        rintro e w2 ⟨va, rfl, ha, hb2⟩
        have hE2 := hE1.next hb2
        have hb02 := hb1.trans (hb2.mono hb1.size)
        have HU2 : Hid (IsToks (.slice pa ts.length pc) ts w2) := HU1.out.next hb2
        clear hb1 hb2 hE1 HU1
        go_wp2_with fail
        refine (hY w2).out.mono ?_
        rintro e w3 ⟨vb, rfl, hvb, hb3⟩
        have hE3 := hE2.next hb3
        have ha3 := ha.next hb3
        have hb03 := hb02.trans (hb3.mono hb02.size)
        have HU3 : Hid (IsToks (.slice pa ts.length pc) ts w3) := HU2.out.next hb3
        clear hb02 hb3 hE2 HU2 ha
        go_wp2_with fail
        refine (hN1 w3 hE3).out.mono ?_
        rintro e w4 ⟨rfl, hb4⟩
        have hE4 := hE3.next hb4
        have ha4 := ha3.next hb4
        have hv4 := hvb.next hb4
        have hb04 := hb03.trans (hb4.mono hb03.size)
        have HU4 : Hid (IsToks (.slice pa ts.length pc) ts w4) := HU3.out.next hb4
        clear hb03 hb4 hE3 HU3 ha3 hvb
        go_wp2_with fail
        refine (hN2 w4).out.mono ?_
        rintro e w5 ⟨rfl, rfl⟩
        go_wp2_with fail
        refine (hQ1 w4 hE4).out.mono ?_
        rintro e w5 ⟨rfl, hb5⟩
        have hE5 := hE4.next hb5
        have ha5 := ha4.next hb5
        have hv5 := hv4.next hb5
        have hb05 := hb04.trans (hb5.mono hb04.size)
        have HU5 : Hid (IsToks (.slice pa ts.length pc) ts w5) := HU4.out.next hb5
        clear hb04 hb5 hE4 HU4 ha4 hv4
        go_wp2_with fail
        refine (hQ2 w5).out.mono ?_
        rintro e w6 ⟨rfl, rfl⟩
        go_wp2_with fail
        refine (hlk va vb w5 ha5 hv5).out.mono ?_
        rintro e w6 ⟨rfl, m, hw⟩
        subst hw
        have hd6 : Below w5.heap.size w5 (w5.drewN m) := ⟨rfl, rfl, rfl, Nat.le_refl _, fun _ _ => rfl⟩
        have hE6 := hE5.next hd6
        have hb06 := hb05.trans (hd6.mono hb05.size)
        have HU6 : Hid (IsToks (.slice pa ts.length pc) ts (w5.drewN m)) := HU5.out.next hd6
        go_wp2_with fail
        refine (hM1 _).out.mono ?_
        rintro e w7 ⟨rfl, hb7⟩
        have hE7 := hE6.next hb7
        have hb07 := hb06.trans (hb7.mono hb06.size)
        have HU7 : Hid (IsToks (.slice pa ts.length pc) ts w7) := HU6.out.next hb7
        go_wp2_with fail
        refine (hM2 _).out.mono ?_
        rintro e w8 ⟨rfl, rfl⟩
        go_wp2_with fail
        refine (hP1 w7 hE7 HU7.out).out.mono ?_
        rintro e w8 ⟨rfl, hb8⟩
        have hb08 := hb07.trans (hb8.mono hb07.size)
        have HU8 : Hid (IsToks (.slice pa ts.length pc) ts w8) := HU7.out.next hb8
        go_wp2_with fail
        refine (hP2 w8 HU8.out).out.mono ?_
        rintro e w9 ⟨rfl, rfl⟩
        go_wp2
        go_ret
        exact ⟨rfl, hb08⟩
end Go.Proofs.YtadfdgdpalnnfaaDoor
