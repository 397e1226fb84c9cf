/- FieldLinear: the functions of linear algebra return what the reference returns. -/
import Derived.Test.YtdeeoigcpihidaaDoorRKer2
import Derived.Test.YtdeeoigcpihidaaDoorFew
import Derived.Test.YtdeeoigcpihidaaDoorShares
namespace Go.Proofs.YtdeeoigcpihidaaDoor
open Go.RowKit

theorem rkernel_calls (q : Int) (hqi : isInt q) (v : Value) (xss : List (List Int)) (cols : Int) (hn : xss.length ≤ 9223372036854775807) (hr : ∀ r ∈ xss, r.length ≤ 9223372036854775807)
    (hi : ∀ r ∈ xss, ∀ x ∈ r, isInt x) (w : World) (h : IsRows v xss w) :
    Calls Tryd.prog 11 #[.int .i64 q, v, .int .i64 cols] w (KerP q xss cols w) := by
  by_cases hk : kerOk q xss cols
  · exact rkernel_good q hqi v xss cols hn hr hi w h hk
  · exact rkernel_bad q hqi v xss cols hn hr w h hk
theorem rsolve_calls (q : Int) (hqi : isInt q) (v : Value) (xss : List (List Int)) (bv : Value) (b : List Int) (hn : xss.length ≤ 9223372036854775807) (hr : ∀ r ∈ xss, r.length ≤ 9223372036854775807) (hb : b.length ≤ 9223372036854775807)
    (hi : ∀ r ∈ xss, ∀ x ∈ r, isInt x) (hbi : ∀ x ∈ b, isInt x) (w : World) (h : IsRows v xss w) (hbv : IsInts bv b w) :
    Calls Tryd.prog 9 #[.int .i64 q, v, bv] w (SolP q xss b w) := by
  by_cases hk : matB xss = true ∧ b.length = xss.length ∧ primeB q = true
  · exact rsolve_good q hqi v xss bv b hn hr hi hbi w h hbv hk
  · exact rsolve_bad q hqi v xss bv b hn hr hb w h hbv hk
theorem sol_len (q : Int) (xss : List (List Int)) (b : List Int) : ((solO q xss b).getD []).length ≤ 64 := by
  unfold solO
  split
  · rename_i h
    obtain ⟨_, h2, _⟩ := matB_rows h.1
    split
    · simp
    · simpa using h2
  · simp
theorem ker_len (q : Int) (xss : List (List Int)) (cols : Int) : ((kerO q xss cols).getD []).length ≤ 64 ∧ ∀ r ∈ (kerO q xss cols).getD [], r.length ≤ 64 := by
  unfold kerO
  split
  · rename_i h
    obtain ⟨_, _, h1, h2, _⟩ := h
    refine ⟨?_, fun r hr => ?_⟩
    · have := freeL_len (redF q xss.length cols.toNat 0 [] (resM q xss)).1 cols.toNat
      simp; omega
    · simp only [Option.getD_some] at hr
      obtain ⟨j, _, rfl⟩ := List.mem_map.1 hr
      simp; omega
  · simp
set_option maxRecDepth 100000 in
set_option maxHeartbeats 2000000 in
theorem linear_out (q : Int) (rv bv : Value) (xss : List (List Int)) (b : List Int) (cols : Int) (hn : xss.length ≤ 9223372036854775807) (hr : ∀ r ∈ xss, r.length ≤ 9223372036854775807) (_ : b.length ≤ 9223372036854775807)
    (W : World) (hE : Env W) (hx : IsRows rv xss W) (hy : IsInts bv b W) (hno : ¬ (fewB xss = true ∧ b.length ≤ 70 ∧ ¬ (9 < cols ∧ cols < 60))) :
    Calls Tryd.prog 3 #[.int .i64 q, rv, bv, .int .i64 cols] W (Tpost W) := by
  obtain ⟨ax, cx, rfl⟩ := hx.len
  obtain ⟨ay, cy, rfl⟩ := hy.len
  have c1 := Lib.hid (sane_calls W hE)
  have c2 := fun w' hb => Lib.hid (rfew_calls (.slice ax xss.length cx) xss hn hr w' (hx.next hb))
  cases hf : fewB xss with
  | false =>
    rw [hf] at c2
    clear hno hf hx hy hr hE
    go_enter Tryd.func3, Tryd.ntmps3
    go_wp2_with fail
    refine c1.out.mono ?_
    rintro e w1 ⟨rfl, hB1⟩
    have HB1 := Lib.hid hB1
    have d2 := c2 w1 hB1
    clear hB1 c1 c2
    go_wp2_with fail
    refine Calls.mono d2.out ?_
    rintro e w2 ⟨rfl, rfl⟩
    clear d2
    go_wp2
    go_ret
    exact ⟨rfl, HB1.out⟩
  | true =>
    rw [hf] at c2
    have hlen : xss.length ≤ 7 ∨ (65 ≤ xss.length ∧ xss.length ≤ 66) := by
      by_cases h : xss.length ≤ 7 ∨ (65 ≤ xss.length ∧ xss.length ≤ 66)
      · exact h
      · unfold fewB at hf; rw [fewR_no h] at hf; cases hf
    have hcase : ¬ (7 : Int) < (xss.length : Int) ∨ ((7 : Int) < (xss.length : Int) ∧ ¬ (xss.length : Int) < 65) := by omega
    have hrest : (70 : Int) < (b.length : Int) ∨ (¬ (70 : Int) < (b.length : Int) ∧ 9 < cols ∧ cols < 60) := by
      by_cases h70 : b.length ≤ 70
      · right
        refine ⟨by omega, ?_⟩
        by_cases h : 9 < cols ∧ cols < 60
        · exact h
        · exact absurd ⟨hf, h70, h⟩ hno
      · left; omega
    clear hno hf hx hy hr hE hlen
    rcases hcase with h7 | ⟨h7, h65⟩
    all_goals
      rcases hrest with h70 | ⟨h70, h9, h60⟩
      all_goals
        go_enter Tryd.func3, Tryd.ntmps3
        go_wp2_with fail
        refine c1.out.mono ?_
        rintro e w1 ⟨rfl, hB1⟩
        have HB1 := Lib.hid hB1
        have d2 := c2 w1 hB1
        clear hB1 c1 c2
        go_wp2_with fail
        refine Calls.mono d2.out ?_
        rintro e w2 ⟨rfl, rfl⟩
        clear d2
        go_wp2
        go_ret
        exact ⟨rfl, HB1.out⟩
set_option maxRecDepth 100000 in
set_option maxHeartbeats 4000000 in
theorem linear_in (q : Int) (hqi : isInt q) (rv bv : Value) (xss : List (List Int)) (b : List Int) (cols : Int) (hn : xss.length ≤ 9223372036854775807) (hr : ∀ r ∈ xss, r.length ≤ 9223372036854775807) (hbl : b.length ≤ 9223372036854775807)
    (hri : ∀ r ∈ xss, ∀ x ∈ r, isInt x) (hbi : ∀ x ∈ b, isInt x) (W : World) (hE : Env W) (hx : IsRows rv xss W) (hy : IsInts bv b W) (hf : fewB xss = true) (h70 : b.length ≤ 70) (hcols : ¬ (9 < cols ∧ cols < 60)) :
    Calls Tryd.prog 3 #[.int .i64 q, rv, bv, .int .i64 cols] W (Tpost W) := by
  obtain ⟨ax, cx, rfl⟩ := hx.len
  obtain ⟨ay, cy, rfl⟩ := hy.len
  have c1 := Lib.hid (sane_calls W hE)
  have c2 := fun w' hb => Lib.hid (rfew_calls (.slice ax xss.length cx) xss hn hr w' (hx.next hb))
  have d3 := fun w' hb => Lib.hid (solve_calls q hqi _ xss _ b hn hr hbl hri hbi w' (hE.next hb) (hx.next hb) (hy.next hb))
  have d4 := fun w' hb => Lib.hid (rsolve_calls q hqi _ xss _ b hn hr hbl hri hbi w' (hx.next hb) (hy.next hb))
  have d5 := fun w' hb => Lib.hid (kernel_calls q hqi _ xss cols hn hr hri w' (hE.next hb) (hx.next hb))
  have d6 := fun w' hb => Lib.hid (rkernel_calls q hqi _ xss cols hn hr hri w' (hx.next hb))
  have d7 := fun w' hb => Lib.hid (rank_calls q hqi _ xss hn hr hri w' (hE.next hb) (hx.next hb))
  have d8 := fun w' hb => Lib.hid (rrank_calls q hqi _ xss hn hr hri w' (hx.next hb))
  have hsl := sol_len q xss b
  obtain ⟨hkl, hkr⟩ := ker_len q xss cols
  rw [hf] at c2
  have hlen : xss.length ≤ 7 ∨ (65 ≤ xss.length ∧ xss.length ≤ 66) := by
    by_cases h : xss.length ≤ 7 ∨ (65 ≤ xss.length ∧ xss.length ≤ 66)
    · exact h
    · unfold fewB at hf; rw [fewR_no h] at hf; cases hf
  have hcase : (¬ (7 : Int) < (xss.length : Int) ∧ decide ((7 : Int) < (xss.length : Int)) = false) ∨ ((7 : Int) < (xss.length : Int) ∧ ¬ (xss.length : Int) < 65 ∧ decide ((7 : Int) < (xss.length : Int)) = true) := by
    rcases hlen with h | ⟨h, _⟩
    · exact .inl ⟨by omega, decide_eq_false (by omega)⟩
    · exact .inr ⟨by omega, by omega, decide_eq_true (by omega)⟩
  have hc9 : ¬ 9 < cols ∨ (9 < cols ∧ ¬ cols < 60) := by omega
  have h70i : ¬ (70 : Int) < (b.length : Int) := by omega
  have HX := Lib.hid hx
  have HSL := Lib.hid hsl
  have HKL := Lib.hid hkl
  have HKR := Lib.hid hkr
  have HRR := Lib.hid hr
  unfold SolP at d3 d4
  unfold KerP at d5 d6
  generalize solO q xss b = SO at *
  generalize kerO q xss cols = KO at *
  generalize rankZ q xss = RZ at *
  clear hf hx hy hE hlen hri hbi hcols hsl hkl hkr hr
  rcases hcase with ⟨h7, hd7⟩ | ⟨h7, h65, hd7⟩
  all_goals
    rcases hc9 with h9 | ⟨h9, h60⟩
    all_goals
      go_enter Tryd.func3, Tryd.ntmps3
      go_wp2_with fail
      refine c1.out.mono ?_
      rintro e w1 ⟨rfl, hB1⟩
      have HB1 := Lib.hid hB1
      have d2 := c2 w1 hB1
      clear hB1 c1 c2
      go_wp2_with fail
      refine Calls.mono d2.out ?_
      rintro e w2 ⟨rfl, rfl⟩
      clear d2
      go_wp2
      go_loopw [11] (fun iv wr => ∃ i : Nat, i ≤ xss.length ∧ iv = .int .i64 (i : Int) ∧ wr = w1) (fun iv _ => xss.length - (intOf iv).toNat)
      case atStart => exact ⟨0, Nat.zero_le _, rfl, rfl⟩
      case round =>
        obtain ⟨i, hi, rfl, rfl⟩ := hrel
        by_cases hil : i < xss.length
        · obtain ⟨bk, off, br, cpr, rfl, _, z0, _⟩ := (HX.out.next HB1.out).at i hil
          have hrk := HRR.out _ (List.getElem_mem hil)
          generalize xss[i].length = l at *
          have hi1 : (i : Int) < (xss.length : Int) := by omega
          clear d3 d4 d5 d6 d7 d8
          have hl1 : (1 : Int) < (l : Int) ∨ ¬ (1 : Int) < (l : Int) := by omega
          rcases hl1 with hl1 | hl1
          all_goals
            go_wp2
            first
              | (go_ret; exact ⟨rfl, HB1.out⟩)
              | (go_roundw
                 case rel => exact ⟨i + 1, by omega, by go_num, by trivial⟩
                 case measure => simp [intOf]; omega)
        · obtain rfl : i = xss.length := by omega
          have e3 := d3 wr HB1.out
          clear d3
          go_wp2_with fail
          refine Calls.mono e3.out ?_
          clear e3
          rintro e w2 ⟨x, rfl, hx, hb⟩
          have hB2 := HB1.out.trans (hb.mono HB1.out.size)
          have e4 := d4 w2 hB2
          have HX2 := Lib.hid hx
          have HB2 := Lib.hid hB2
          clear d4 hb hx hB2 HB1
          go_wp2_with fail
          refine Calls.mono e4.out ?_
          clear e4
          rintro e w3 ⟨y, rfl, hy, hb⟩
          have HX3 := Lib.hid (HX2.out.next hb)
          have hB3 := HB2.out.trans (hb.mono HB2.out.size)
          have e5 := d5 w3 hB3
          have HY3 := Lib.hid hy
          have HB3 := Lib.hid hB3
          clear d5 hb hy hB3 HB2 HX2
          go_wp2_with fail
          refine Calls.mono e5.out ?_
          clear e5
          rintro e w4 ⟨k, rfl, hk, hb⟩
          have HX4 := Lib.hid (HX3.out.next hb)
          have HY4 := Lib.hid (HY3.out.next hb)
          have hB4 := HB3.out.trans (hb.mono HB3.out.size)
          have e6 := d6 w4 hB4
          have HK4 := Lib.hid hk
          have HB4 := Lib.hid hB4
          clear d6 hb hk hB4 HB3 HX3 HY3
          go_wp2_with fail
          refine Calls.mono e6.out ?_
          clear e6
          rintro e w5 ⟨l, rfl, hl, hb⟩
          have HK5 := Lib.hid (HK4.out.next hb)
          have HL5 := Lib.hid hl
          have hB5 := HB4.out.trans (hb.mono HB4.out.size)
          have e7 := retB (same_calls x y (SO.getD []) (SO.getD []) (by have := HSL.out; omega) (by have := HSL.out; omega) w5 (HX4.out.next hb) (HY4.out.next hb))
          rw [show decide (SO.getD [] = SO.getD []) = true by simp] at e7
          have HB5 := Lib.hid hB5
          have HE7 := Lib.hid e7
          obtain ⟨A1, hA1⟩ : ∃ A1, A1 = SO.isSome := ⟨_, rfl⟩
          obtain ⟨A2, hA2⟩ : ∃ A2, A2 = KO.isSome := ⟨_, rfl⟩
          rw [← hA1, ← hA2]
          have hA1b : (A1 == A1) = true := by simp
          have hA2b : (A2 == A2) = true := by simp
          clear hb hl hB5 HB4 HX4 HY4 HK4 e7 hA1 hA2
          go_wp2_with fail
          refine Calls.mono HE7.out ?_
          clear HE7
          rintro e w6 ⟨rfl, hb⟩
          have hB6 := HB5.out.trans (hb.mono HB5.out.size)
          have e8 := retB (samerows_calls k l (KO.getD []) (KO.getD []) (by have := HKL.out; omega) (by have := HKL.out; omega) (fun r hr => by have := HKR.out r hr; omega) (fun r hr => by have := HKR.out r hr; omega) w6 (HK5.out.next hb) (HL5.out.next hb))
          rw [show decide (KO.getD [] = KO.getD []) = true by simp] at e8
          have HB6 := Lib.hid hB6
          have HE8 := Lib.hid e8
          clear hb hB6 HB5 e8 HK5 HL5
          go_wp2_with fail
          refine Calls.mono HE8.out ?_
          clear HE8
          rintro e w7 ⟨rfl, hb⟩
          have hB7 := HB6.out.trans (hb.mono HB6.out.size)
          have e9 := d7 w7 hB7
          have HB7 := Lib.hid hB7
          clear d7 hb hB7 HB6
          go_wp2_with fail
          refine Calls.mono e9.out ?_
          clear e9
          rintro e w8 ⟨rfl, hb⟩
          have hB8 := HB7.out.trans (hb.mono HB7.out.size)
          have e10 := d8 w8 hB8
          have HB8 := Lib.hid hB8
          clear d8 hb hB8 HB7
          go_wp2_with fail
          refine Calls.mono e10.out ?_
          clear e10
          rintro e w9 ⟨rfl, hb⟩
          have HB9 : Hid (Below W.heap.size W w9) := HB8.out.trans (hb.mono HB8.out.size)
          have hRZ : (RZ == RZ) = true := by simp
          clear hb HB8
          go_wp2
          go_ret
          exact ⟨rfl, HB9.out⟩
end Go.Proofs.YtdeeoigcpihidaaDoor
