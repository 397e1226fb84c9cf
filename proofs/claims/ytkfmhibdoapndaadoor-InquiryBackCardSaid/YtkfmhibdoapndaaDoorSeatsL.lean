/- The law of InquirySeats. -/
import Derived.Test.YtkfmhibdoapndaaDoorSane
namespace Go.Proofs.YtkfmhibdoapndaaDoor
open Go.RowKit

theorem seats_of {x : StatD} (hv : x.valid = true) {k Y : Nat} (hk : k < x.ws.length) (hy : x.ws[k] = (Y : Int)) : x.seats (k : Int) = (List.range Y).map fun (i : Nat) => 1 + sumW (x.ws.take k) + (i : Int) := by
  unfold StatD.seats
  rw [if_pos ⟨hv, by unfold idxB; simp; omega⟩, Int.toNat_natCast, List.getD_eq_getElem?_getD, List.getElem?_eq_getElem hk, hy]
  simp
theorem gov_of {x : StatD} (hv : x.valid = true) (qu ju : Int) : govB [x] 0 qu ju = (decide (qu = x.qu) && decide (ju = sumW x.ws)) := by
  unfold govB statsB idxB
  simp [hv]
theorem valid_qu {x : StatD} (hv : x.valid = true) : 1 ≤ x.qu ∧ x.qu ≤ sumW x.ws ∧ sumW x.ws ≤ 12 := by
  unfold StatD.valid weighB at hv
  simp only [Bool.and_eq_true, decide_eq_true_eq] at hv
  exact ⟨hv.2.2.1, hv.2.2.2, hv.2.1.2.2⟩
theorem few_ok {x : StatD} (hf : x.few = true) (hq : isInt x.qu) : x.ok := by
  unfold StatD.few at hf
  simp only [Bool.and_eq_true, decide_eq_true_eq, List.all_eq_true] at hf
  exact ⟨hq, by omega, fun s hs => by have := hf.2.2 s hs; omega, by omega⟩
/-- A task whose five other fields are a text, a slice, a number, a slice, a number. -/
structure TaskD.plain (t : TaskD) : Prop where
  p1 : ∃ s, t.c1 = .string s
  p2 : ∃ a n c, t.c2 = .slice a n c
  p3 : ∃ k, t.c3 = .int .i64 k
  p4 : ∃ a n c, t.c4 = .slice a n c
  p5 : ∃ k, t.c5 = .int .i64 k
set_option maxRecDepth 100000 in
set_option maxHeartbeats 8000000 in
theorem seats_law (x : StatD) (hq : isInt x.qu) (hrl : x.rs.length ≤ 9223372036854775807) (hwl : x.ws.length ≤ 9223372036854775807) (hsz : ∀ s ∈ x.rs, s.length ≤ 9223372036854775807) (vr vw : Value) (hcap : ∀ a n c, vw = .slice a n c → n ≤ c) (t : TaskD) (ht : t.plain) (w : World) (hE : Cod.Env w) (hr : IsTexts 0 vr x.rs w) (hw : IsNums vw x.ws w) :
    Calls Tryd.prog 3 #[.agg #[vr, .int .i64 x.qu, vw], t.val] w fun e w' => e = .returned (.bool true) ∧ Below w.heap.size w w' := by
  obtain ⟨ver, f1, f2, f3, f4, f5, qu, ju⟩ := t
  obtain ⟨⟨s1, rfl⟩, ⟨a2, n2, c2, rfl⟩, ⟨k3, rfl⟩, ⟨a4, n4, c4, rfl⟩, ⟨k5, rfl⟩⟩ := ht
  obtain ⟨ar, cr, rfl⟩ := IsSl.len hr
  obtain ⟨aw, cw, rfl⟩ := hw.len
  have hb1 := below_one w (.cells #[.slice ar x.rs.length cr, .int .i64 x.qu, .slice aw x.ws.length cw] 25)
  have hb2 := Below.alloc_ hb1 (.cells #[.int .i64 ver, .string s1, .slice a2 n2 c2, .int .i64 k3, .slice a4 n4 c4, .int .i64 k5, .int .i64 qu, .int .i64 ju] 28)
  have B1 := (Blk.new w 25 #[.slice ar x.rs.length cr, .int .i64 x.qu, .slice aw x.ws.length cw]).alloc' (.cells #[.int .i64 ver, .string s1, .slice a2 n2 c2, .int .i64 k3, .slice a4 n4 c4, .int .i64 k5, .int .i64 qu, .int .i64 ju] 28)
  have B2 := Blk.new' (alloc_size w (.cells #[.slice ar x.rs.length cr, .int .i64 x.qu, .slice aw x.ws.length cw] 25)) 28 #[.int .i64 ver, .string s1, .slice a2 n2 c2, .int .i64 k3, .slice a4 n4 c4, .int .i64 k5, .int .i64 qu, .int .i64 ju]
  have HR0 := Lib.hid hr
  have HN0 := Lib.hid hw
  have HR := Lib.hid (hr.next hb2)
  have HN := Lib.hid (hw.next hb2)
  have HE := Lib.hid (hE.next hb2)
  unfold TaskD.val TaskD.cells
  simp only
  go_enter Tryd.func3, Tryd.ntmps3
  go_wp2_with fail
  generalize (w.alloc (.cells #[.slice ar x.rs.length cr, .int .i64 x.qu, .slice aw x.ws.length cw] 25)).alloc (.cells #[.int .i64 ver, .string s1, .slice a2 n2 c2, .int .i64 k3, .slice a4 n4 c4, .int .i64 k5, .int .i64 qu, .int .i64 ju] 28) = W at *
  have HB := Lib.hid hb2
  have HK : Hid (∀ w', Below W.heap.size W w' → w'.cell? ⟨w.heap.size, 0, none⟩ = some (.slice ar x.rs.length cr) ∧ w'.cell? ⟨w.heap.size, 1, none⟩ = some (.int .i64 x.qu) ∧ w'.cell? ⟨w.heap.size, 2, none⟩ = some (.slice aw x.ws.length cw)) := by
    show ∀ w', _
    intro w' h
    have := B1.next h
    exact ⟨this.cell 0, this.cell 1, this.cell 2⟩
  have HB2 := Lib.hid B2
  have HS0 := Lib.hid B1
  have HCAP : Hid (∀ a n c, (Value.slice aw x.ws.length cw) = .slice a n c → n ≤ c) := hcap
  have c1 := Lib.hid (sane_calls W HE.out)
  have HQ := Lib.hid hq
  have HW := Lib.hid (And.intro hrl (And.intro hwl hsz))
  clear hb1 hb2 B1 B2 hr hw hE hcap hq hrl hwl hsz
  refine c1.out.mono ?_
  clear c1
  rintro e w1 ⟨rfl, h1⟩
  obtain ⟨z0, z1, z2⟩ := HK.out _ h1
  have hb3 := Below.alloc_ h1 (.cells #[.slice ar x.rs.length cr, .int .i64 x.qu, .slice aw x.ws.length cw] 25)
  have B3 := Blk.new w1 25 #[.slice ar x.rs.length cr, .int .i64 x.qu, .slice aw x.ws.length cw]
  have c2 := Lib.hid (fewstats_calls (.slice (some ⟨w1.heap.size, 0, none⟩) 1 1) [x] (by simp) (fun y hy => by obtain rfl := List.mem_singleton.1 hy; exact ⟨HW.out.1, HW.out.2.1⟩) (fun y hy => by obtain rfl := List.mem_singleton.1 hy; exact HW.out.2.2) _ (stats_one B3 (HR.out.next hb3) (HN.out.next hb3)))
  have HF : Hid ([x].all StatD.few = x.few) := by show _ = _; simp
  rw [HF.out] at c2
  have H3 := Lib.hid hb3
  clear B3 hb3 h1 HF
  go_wp2_with fail
  refine c2.out.mono ?_
  clear c2 z0 z1 z2
  rintro e w2 ⟨rfl, h2⟩
  have h2 := H3.out.trans (h2.mono H3.out.size)
  have H2 := Lib.hid h2
  clear H3
  cases hfew : x.few
  · have HFIN := Lib.hid (HB.out.trans (h2.mono HB.out.size))
    clear hfew h2
    go_wp2
    go_ret
    exact ⟨rfl, HFIN.out⟩
  have HOK := Lib.hid (few_ok hfew HQ.out)
  have c3 := Lib.hid (valid_calls x HOK.out _ _ w2 (HR.out.next h2) (HN.out.next h2))
  obtain ⟨z0, z1, z2⟩ := HK.out _ h2
  clear hfew h2
  go_wp2_with fail
  refine c3.out.mono ?_
  clear c3 z0 z1 z2
  rintro e w3 ⟨rfl, h3⟩
  have h3 := H2.out.trans (h3.mono H2.out.size)
  have H3 := Lib.hid h3
  clear H2
  cases hval : x.valid
  · have HFIN := Lib.hid (HB.out.trans (h3.mono HB.out.size))
    clear hval h3
    go_wp2
    go_ret
    exact ⟨rfl, HFIN.out⟩
  obtain ⟨hw1, hw2, hw3⟩ := weighB_all (valid_w hval)
  have HVAL := Lib.hid hval
  have HWB := Lib.hid hw2
  obtain ⟨n, hn⟩ : ∃ n, n = x.ws.length := ⟨_, rfl⟩
  have HLN := Lib.hid hn
  rw [← hn] at hw1 HK HN HCAP HS0 HN0
  have hn12 : (n : Int) ≤ 12 := by omega
  clear hval hw1 hw2 hw3 h3 hn
  go_wp2
  go_loopw [7, 6] (fun j s wr => ∃ k : Nat, k ≤ n ∧ j = .int .i64 k ∧ s = .int .i64 (sumW (x.ws.take k)) ∧ Below W.heap.size W wr) (fun j _ _ => n - (intOf j).toNat)
  case atStart => exact ⟨0, Nat.zero_le _, rfl, rfl, H3.out⟩
  case round =>
    obtain ⟨k, hk, rfl, rfl, hb⟩ := hrel
    obtain ⟨z0, z1, z2⟩ := HK.out _ hb
    have H4 := Lib.hid hb
    by_cases hlt : k < n
    · have hwk : k < x.ws.length := by rw [← HLN.out]; exact hlt
      obtain ⟨bk, off, rfl, hbk, y, hy, y0⟩ := HN.out.at k hwk
      have hyb : 0 ≤ y ∧ y ≤ 12 := by
        have h := (List.all_eq_true.1 HWB.out) y (by rw [hy]; exact List.getElem_mem _)
        unfold wB at h
        simpa using h
      obtain ⟨Y, rfl⟩ : ∃ Y : Nat, y = (Y : Int) := ⟨y.toNat, by omega⟩
      have hY : Y ≤ 12 := by omega
      have hS := seats_of HVAL.out hwk hy.symm
      have hT := sumW_take x.ws k hwk
      rw [← hy] at hT
      have hsb := sumW_bound _ (all_take wB x.ws k HWB.out)
      have hl12 : (x.ws.take k).length ≤ 12 := by rw [List.length_take]; omega
      have c4 := seats_calls x HOK.out (.slice ar x.rs.length cr) (.slice (some ⟨bk, off, none⟩) n cw) (k : Int) ⟨by omega, by omega⟩ wr (HR.out.next hb) (IsNums.next HN.out hb) HCAP.out
      rw [hS] at c4
      generalize sumW (x.ws.take k) = T at *
      have HT := Lib.hid hT
      obtain ⟨L, hL⟩ : ∃ L, L = (List.range Y).map fun (i : Nat) => 1 + T + (i : Int) := ⟨_, rfl⟩
      rw [← hL] at c4
      have hLl : L.length = Y := by rw [hL]; simp
      have HLI : Hid (∀ i (h : i < L.length), L[i] = T + (i : Int) + 1) := by
        show ∀ i h, _
        intro i h
        subst hL
        simp only [List.getElem_map, List.getElem_range]
        omega
      have C4 := Lib.hid c4
      have HLL := Lib.hid hLl
      have hT0 : 0 ≤ T := hsb.1
      have hT1 : T ≤ 144 := by have := hsb.2; omega
      have hkn : (k : Int) < (n : Int) := by omega
      have hYC : Hid (∀ w', Below W.heap.size W w' → w'.cell? ⟨bk, off + k, none⟩ = some (.int .i64 (Y : Int))) := by
        show ∀ w', _
        intro w' h
        rw [h.cell (p := ⟨bk, off + k, none⟩) hbk]; exact y0
      clear hyb hS hT hsb hl12 c4 hL hLl hy hwk y0 hbk hb
      go_wp2_with fail
      refine C4.out.mono ?_
      clear C4 z0 z1 z2
      rintro e w5 ⟨v5, rfl, hv5, h5⟩
      have h5 := H4.out.trans (h5.mono H4.out.size)
      obtain ⟨a5, c5, rfl⟩ := hv5.len
      rw [HLL.out] at hv5 ⊢
      obtain ⟨z0, z1, z2⟩ := HK.out _ h5
      have y5 := hYC.out _ h5
      have H5 := Lib.hid h5
      have HV5 := Lib.hid hv5
      have hbn : ((Y : Int) != (Y : Int)) = false := by simp
      clear hv5 h5 H4
      go_wp2
      go_loopw [9, 6] (fun i s wr2 => ∃ j : Nat, j ≤ Y ∧ i = .int .i64 j ∧ s = .int .i64 (T + (j : Int)) ∧ wr2 = w5) (fun i _ _ => Y - (intOf i).toNat)
      case atStart => exact ⟨0, Nat.zero_le _, rfl, by simp, rfl⟩
      case round =>
        obtain ⟨j, hj, rfl, rfl, hw2⟩ := hrel
        subst hw2
        by_cases hjl : j < Y
        · obtain ⟨bl, ol, rfl, _, z, hz, q0⟩ := HV5.out.at j (by rw [HLL.out]; exact hjl)
          rw [HLI.out] at hz
          subst hz
          have hjY : (j : Int) < (Y : Int) := by omega
          have hj12 : (j : Int) ≤ 12 := by omega
          have hbn2 : (T + (j : Int) + 1 != T + (j : Int) + 1) = false := by simp
          go_wp2
          go_roundw
          case rel => exact ⟨j + 1, by omega, by go_num, by go_num, by trivial⟩
          case measure => simp [intOf]; omega
        · obtain rfl : j = Y := by omega
          have HT2 : Hid (T + (j : Int) = sumW (x.ws.take (k + 1))) := HT.out.symm
          go_wp2
          go_roundw
          case rel => exact ⟨k + 1, by omega, by go_num, by rw [HT2.out], H5.out⟩
          case measure => simp [intOf]; omega
    · obtain rfl : k = n := by omega
      have HTS : Hid (sumW (x.ws.take k) = sumW x.ws) := by show _ = _; rw [HLN.out, List.take_length]
      rw [HTS.out]
      obtain ⟨hq1, hq2, hq3⟩ := valid_qu HVAL.out
      obtain ⟨hqi1, hqi2⟩ := HQ.out
      have D := HB2.out.next hb
      have d0 := D.cell 0
      have d1 := D.cell 1
      have d2 := D.cell 2
      have d3 := D.cell 3
      have d4 := D.cell 4
      have d5 := D.cell 5
      have d6 := D.cell 6
      have d7 := D.cell 7
      have df := D.frozen
      obtain ⟨N, hN⟩ : ∃ N, N = sumW x.ws := ⟨_, rfl⟩
      rw [← hN] at hq2 hq3 ⊢
      have HNS := Lib.hid hN
      obtain ⟨Wc, hWc⟩ : ∃ Wc, Wc = ((wr.setCell ⟨w.heap.size + 1, 0, none⟩ (.int .i64 0)).setCell ⟨w.heap.size + 1, 6, none⟩ (.int .i64 x.qu)).setCell ⟨w.heap.size + 1, 7, none⟩ (.int .i64 N) := ⟨_, rfl⟩
      have Dc : Blk Wc (w.heap.size + 1) 28 #[.int .i64 0, .string s1, .slice a2 n2 c2, .int .i64 k3, .slice a4 n4 c4, .int .i64 k5, .int .i64 x.qu, .int .i64 N] := by
        have := ((D.set_ 0 (.int .i64 0)).set_ 6 (.int .i64 x.qu)).set_ 7 (.int .i64 N)
        rw [hWc]; simpa using this
      have sc : Wc.heap.size = wr.heap.size := by rw [hWc]; simp [World.setCell]
      have bw : w.heap.size + 1 < W.heap.size := HB2.out.lt
      have hbr := HB.out.trans (hb.mono HB.out.size)
      have bcl : Below w.heap.size w Wc := by rw [hWc]; exact ((hbr.setCell (p := ⟨w.heap.size + 1, 0, none⟩) (Nat.le_succ _) _).setCell (p := ⟨w.heap.size + 1, 6, none⟩) (Nat.le_succ _) _).setCell (p := ⟨w.heap.size + 1, 7, none⟩) (Nat.le_succ _) _
      have Sc : Blk Wc w.heap.size 25 #[.slice ar x.rs.length cr, .int .i64 x.qu, .slice aw k cw] := by
        have h1 := HS0.out.next hb
        rw [hWc]
        exact ((h1.far (p := ⟨w.heap.size + 1, 0, none⟩) (Nat.ne_of_lt (Nat.lt_succ_self _)) _).far (p := ⟨w.heap.size + 1, 6, none⟩) (Nat.ne_of_lt (Nat.lt_succ_self _)) _).far (p := ⟨w.heap.size + 1, 7, none⟩) (Nat.ne_of_lt (Nat.lt_succ_self _)) _
      obtain ⟨Wd, hWd⟩ : ∃ Wd, Wd = Wc.alloc (.cells #[.int .i64 0, .string s1, .slice a2 n2 c2, .int .i64 k3, .slice a4 n4 c4, .int .i64 k5, .int .i64 x.qu, .int .i64 (N + 1)] 28) := ⟨_, rfl⟩
      have bd : Below Wc.heap.size Wc Wd := by rw [hWd]; exact below_one _ _
      have sd : Wd.heap.size = wr.heap.size + 1 := by rw [hWd, alloc_size, sc]
      have Md : Blk Wd wr.heap.size 28 #[.int .i64 0, .string s1, .slice a2 n2 c2, .int .i64 k3, .slice a4 n4 c4, .int .i64 k5, .int .i64 x.qu, .int .i64 (N + 1)] := by rw [hWd]; exact Blk.new' sc _ _
      have Dd := Dc.next bd
      have Sd := Sc.next bd
      obtain ⟨We0, hWe0⟩ : ∃ We0, We0 = Wd.alloc (.cells #[.int .i64 0, .string s1, .slice a2 n2 c2, .int .i64 k3, .slice a4 n4 c4, .int .i64 k5, .int .i64 x.qu, .int .i64 N] 28) := ⟨_, rfl⟩
      have be0 : Below Wd.heap.size Wd We0 := by rw [hWe0]; exact below_one _ _
      have Se0 := Sd.next be0
      obtain ⟨We, hWe⟩ : ∃ We, We = Wd.alloc (.cells #[.int .i64 0, .string s1, .slice a2 n2 c2, .int .i64 k3, .slice a4 n4 c4, .int .i64 k5, .int .i64 (x.qu - 1), .int .i64 N] 28) := ⟨_, rfl⟩
      have be : Below Wd.heap.size Wd We := by rw [hWe]; exact below_one _ _
      have se : We.heap.size = wr.heap.size + 1 + 1 := by rw [hWe, alloc_size, sd]
      have Le : Blk We (wr.heap.size + 1) 28 #[.int .i64 0, .string s1, .slice a2 n2 c2, .int .i64 k3, .slice a4 n4 c4, .int .i64 k5, .int .i64 (x.qu - 1), .int .i64 N] := by rw [hWe]; exact Blk.new' sd _ _
      have De := Dd.next be
      have Me := Md.next be
      have Se := Sd.next be
      obtain ⟨Wf, hWf⟩ : ∃ Wf, Wf = We.alloc (.cells #[.slice ar x.rs.length cr, .int .i64 x.qu, .slice aw k cw] 25) := ⟨_, rfl⟩
      have bf : Below We.heap.size We Wf := by rw [hWf]; exact below_one _ _
      have Xf : Blk Wf (wr.heap.size + 1 + 1) 25 #[.slice ar x.rs.length cr, .int .i64 x.qu, .slice aw k cw] := by rw [hWf]; exact Blk.new' se _ _
      have Df := De.next bf
      have Mf := Me.next bf
      have Lf := Le.next bf
      have bbf : Below w.heap.size w Wf := by
        have x1 := bcl.trans (bd.mono bcl.size)
        have x2 := x1.trans (be.mono x1.size)
        exact x2.trans (bf.mono x2.size)
      have HRf := Lib.hid (HR0.out.next bbf)
      have HNf := Lib.hid (IsNums.next HN0.out bbf)
      have kG : ∀ (qu ju : Int) (V : Bool), govB [x] 0 qu ju = V → ∀ w', Below Wf.heap.size Wf w' → Hid (Calls Tryd.prog 9 #[.slice (some ⟨wr.heap.size + 1 + 1, 0, none⟩) 1 1, .agg #[.int .i64 0, .string s1, .slice a2 n2 c2, .int .i64 k3, .slice a4 n4 c4, .int .i64 k5, .int .i64 qu, .int .i64 ju]] w' fun e w'' => e = .returned (.bool V) ∧ Below Wf.heap.size Wf w'') := by
        intro qu ju V hV w' h
        show Calls _ _ _ _ _
        have := governs_calls (.slice (some ⟨wr.heap.size + 1 + 1, 0, none⟩) 1 1) [x] (by simp) (fun y hy => by obtain rfl := List.mem_singleton.1 hy; exact HOK.out) ⟨0, .string s1, .slice a2 n2 c2, .int .i64 k3, .slice a4 n4 c4, .int .i64 k5, qu, ju⟩ w' (stats_one (x := x) (Xf.next h) (HRf.out.next h) (IsNums.next HNf.out h))
        unfold TaskD.val TaskD.cells at this
        simp only at this
        rw [hV] at this
        exact this.mono fun e w'' ⟨h1, h3⟩ => ⟨h1, h.trans (h3.mono h.size)⟩
      have g1 : govB [x] 0 x.qu N = true := by rw [gov_of HVAL.out, hN]; simp
      have g2 : govB [x] 0 x.qu (N + 1) = false := by rw [gov_of HVAL.out, hN, decide_eq_false (p := sumW x.ws + 1 = sumW x.ws) (by omega)]; simp
      have g3 : govB [x] 0 (x.qu - 1) N = false := by rw [gov_of HVAL.out, decide_eq_false (p := x.qu - 1 = x.qu) (by omega)]; simp
      have HKD : Hid (∀ w', Below Wf.heap.size Wf w' → w'.cell? ⟨w.heap.size + 1, 0, none⟩ = some (.int .i64 0) ∧ w'.cell? ⟨w.heap.size + 1, 1, none⟩ = some (.string s1) ∧ w'.cell? ⟨w.heap.size + 1, 2, none⟩ = some (.slice a2 n2 c2) ∧ w'.cell? ⟨w.heap.size + 1, 3, none⟩ = some (.int .i64 k3) ∧ w'.cell? ⟨w.heap.size + 1, 4, none⟩ = some (.slice a4 n4 c4) ∧ w'.cell? ⟨w.heap.size + 1, 5, none⟩ = some (.int .i64 k5) ∧ w'.cell? ⟨w.heap.size + 1, 6, none⟩ = some (.int .i64 x.qu) ∧ w'.cell? ⟨w.heap.size + 1, 7, none⟩ = some (.int .i64 N)) := by
        show ∀ w', _
        intro w' h
        have := Df.next h
        exact ⟨this.cell 0, this.cell 1, this.cell 2, this.cell 3, this.cell 4, this.cell 5, this.cell 6, this.cell 7⟩
      have HKM : Hid (∀ w', Below Wf.heap.size Wf w' → w'.cell? ⟨wr.heap.size, 0, none⟩ = some (.int .i64 0) ∧ w'.cell? ⟨wr.heap.size, 1, none⟩ = some (.string s1) ∧ w'.cell? ⟨wr.heap.size, 2, none⟩ = some (.slice a2 n2 c2) ∧ w'.cell? ⟨wr.heap.size, 3, none⟩ = some (.int .i64 k3) ∧ w'.cell? ⟨wr.heap.size, 4, none⟩ = some (.slice a4 n4 c4) ∧ w'.cell? ⟨wr.heap.size, 5, none⟩ = some (.int .i64 k5) ∧ w'.cell? ⟨wr.heap.size, 6, none⟩ = some (.int .i64 x.qu) ∧ w'.cell? ⟨wr.heap.size, 7, none⟩ = some (.int .i64 (N + 1))) := by
        show ∀ w', _
        intro w' h
        have := Mf.next h
        exact ⟨this.cell 0, this.cell 1, this.cell 2, this.cell 3, this.cell 4, this.cell 5, this.cell 6, this.cell 7⟩
      have HKL : Hid (∀ w', Below Wf.heap.size Wf w' → w'.cell? ⟨wr.heap.size + 1, 0, none⟩ = some (.int .i64 0) ∧ w'.cell? ⟨wr.heap.size + 1, 1, none⟩ = some (.string s1) ∧ w'.cell? ⟨wr.heap.size + 1, 2, none⟩ = some (.slice a2 n2 c2) ∧ w'.cell? ⟨wr.heap.size + 1, 3, none⟩ = some (.int .i64 k3) ∧ w'.cell? ⟨wr.heap.size + 1, 4, none⟩ = some (.slice a4 n4 c4) ∧ w'.cell? ⟨wr.heap.size + 1, 5, none⟩ = some (.int .i64 k5) ∧ w'.cell? ⟨wr.heap.size + 1, 6, none⟩ = some (.int .i64 (x.qu - 1)) ∧ w'.cell? ⟨wr.heap.size + 1, 7, none⟩ = some (.int .i64 N)) := by
        show ∀ w', _
        intro w' h
        have := Lf.next h
        exact ⟨this.cell 0, this.cell 1, this.cell 2, this.cell 3, this.cell 4, this.cell 5, this.cell 6, this.cell 7⟩
      have HBF := Lib.hid bbf
      have HG := Lib.hid (And.intro g1 (And.intro g2 g3))
      have HWF := Lib.hid (show Wf = Wf from rfl)
      -- what the walk reads on its way
      have m0 := Dd.cell 0
      have m1 := Dd.cell 1
      have m2 := Dd.cell 2
      have m3 := Dd.cell 3
      have m4 := Dd.cell 4
      have m5 := Dd.cell 5
      have m6 := Dd.cell 6
      have m7 := Dd.cell 7
      have p1 := Se0.cell 1
      have r0 := Se.cell 0
      have r1 := Se.cell 1
      have r2 := Se.cell 2
      have sf1 := (Se.next bf).cell 1
      obtain ⟨u0, u1, u2, u3, u4', u5, u6, u7⟩ := HKD.out _ (Below.refl _ _)
      have HEQ : Hid (Wf = (((((wr.setCell ⟨w.heap.size + 1, 0, none⟩ (.int .i64 0)).setCell ⟨w.heap.size + 1, 6, none⟩ (.int .i64 x.qu)).setCell ⟨w.heap.size + 1, 7, none⟩ (.int .i64 N)).alloc (.cells #[.int .i64 0, .string s1, .slice a2 n2 c2, .int .i64 k3, .slice a4 n4 c4, .int .i64 k5, .int .i64 x.qu, .int .i64 (N + 1)] 28)).alloc (.cells #[.int .i64 0, .string s1, .slice a2 n2 c2, .int .i64 k3, .slice a4 n4 c4, .int .i64 k5, .int .i64 (x.qu - 1), .int .i64 N] 28)).alloc (.cells #[.slice ar x.rs.length cr, .int .i64 x.qu, .slice aw k cw] 25)) := by show _ = _; rw [hWf, hWe, hWd, hWc]
      rw [hWf, hWe, hWd, hWc] at sf1 u0 u1 u2 u3 u4' u5 u6 u7
      rw [hWe, hWd, hWc] at r0 r1 r2
      rw [hWe0, hWd, hWc] at p1
      rw [hWd, hWc] at m0 m1 m2 m3 m4 m5 m6 m7
      clear hN hb hlt D Dc sc bcl Sc bd sd Md Dd Sd be0 Se0 be se Le De Me Se bf Xf Df Mf Lf bbf hbr g1 g2 g3 hWf hWe hWe0 hWd hWc HWF
      go_wp2_with fail
      rw [← HEQ.out]
      clear HEQ sf1 u0 u1 u2 u3 u4' u5 u6 u7 r0 r1 r2 p1 m0 m1 m2 m3 m4 m5 m6 m7 d0 d1 d2 d3 d4 d5 d6 d7 df z0 z1 z2
      refine (kG x.qu N true HG.out.1 _ (Below.refl _ _)).out.mono ?_
      rintro e w7 ⟨rfl, h7⟩
      obtain ⟨u0, u1, u2, u3, u4', u5, u6, u7⟩ := HKM.out _ h7
      go_wp2_with fail
      refine (kG x.qu (N + 1) false HG.out.2.1 _ h7).out.mono ?_
      rintro e w8 ⟨rfl, h8⟩
      clear u0 u1 u2 u3 u4' u5 u6 u7 h7
      obtain ⟨u0, u1, u2, u3, u4', u5, u6, u7⟩ := HKL.out _ h8
      go_wp2_with fail
      refine (kG (x.qu - 1) N false HG.out.2.2 _ h8).out.mono ?_
      rintro e w9 ⟨rfl, h9⟩
      have HFIN := Lib.hid (HBF.out.trans (h9.mono HBF.out.size))
      clear u0 u1 u2 u3 u4' u5 u6 u7 h8 h9 kG
      go_wp2
      go_ret
      exact ⟨rfl, HFIN.out⟩
end Go.Proofs.YtkfmhibdoapndaaDoor
