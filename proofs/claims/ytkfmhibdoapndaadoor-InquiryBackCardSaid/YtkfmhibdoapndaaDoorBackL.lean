/- The law of InquiryBack. -/
import Derived.Test.YtkfmhibdoapndaaDoorBallot
namespace Go.Proofs.YtkfmhibdoapndaaDoor
open Go.RowKit

theorem rm_min {o : OpD} (h : o.ok) : rmF o.min = o := by
  obtain ⟨ver, gate, no, reason, jurors, holder⟩ := o
  have h1 := Cod.numsF_write [ver, gate, no] (Cod.textS reason ++ (Cod.numsS jurors ++ Cod.intS holder)) (by intro x hx; simp only [List.mem_cons, List.not_mem_nil, or_false] at hx; rcases hx with rfl | rfl | rfl; exact h.ver; exact h.gate; exact h.no) (by simp)
  have h2 := Cod.textF_write reason (Cod.numsS jurors ++ Cod.intS holder) (by have := h.reason; simp only at this; omega)
  have h3 := Cod.numsF_write jurors (Cod.intS holder) h.ints (by have := h.jurors; simp only at this; omega)
  have h4 := Cod.intF_write holder [] false h.holder
  rw [List.append_nil] at h4
  unfold rmF OpD.min
  simp only
  rw [h1]
  simp only
  rw [h2]
  simp only
  rw [h3]
  simp only
  rw [h4]
  rfl
theorem rm_back {o : OpD} (h : o.ok) : rmB o.min = true := by unfold rmB; rw [rm_min h]; exact decide_eq_true rfl
theorem rm_is {o : OpD} (h : o.ok) : rmO o.min = o := by unfold rmO; rw [rm_back h, rm_min h]; rfl
theorem rm_text {s : List UInt8} (h : rmB s = true) : (rmO s).min = s := by
  unfold rmO
  rw [if_pos h]
  unfold rmB at h
  exact of_decide_eq_true h
theorem rmO_ok {s : List UInt8} (hs : s.length ≤ 100000000) : (rmO s).ok := by
  unfold rmO
  split
  · have hZ := Cod.numsF_ints (s, false)
    have hg : ∀ i, isInt ((Cod.numsF (s, false)).1.getD i 0) := fun i => by
      rw [List.getD_eq_getElem?_getD]
      cases h : (Cod.numsF (s, false)).1[i]? with
      | none => unfold isInt; simp
      | some x => exact hZ x (List.mem_of_getElem? h)
    have l1 := Cod.numsF_len (s, false)
    have l2 := Cod.textF_len (Cod.numsF (s, false)).2
    have l3 := Cod.textF_many (Cod.numsF (s, false)).2
    have l4 := Cod.numsF_many (Cod.textF (Cod.numsF (s, false)).2).2
    have l5 := Cod.numsF_enc (Cod.textF (Cod.numsF (s, false)).2).2
    simp only at l1
    refine ⟨hg 0, hg 1, hg 2, Cod.intF_int _, ?_, ?_, Cod.numsF_ints _, ?_⟩
    · show (Cod.textF (Cod.numsF (s, false)).2).1.length ≤ _; omega
    · show (Cod.numsF (Cod.textF (Cod.numsF (s, false)).2).2).1.length ≤ _; omega
    · show (Cod.numsS (Cod.numsF (Cod.textF (Cod.numsF (s, false)).2).2).1).length ≤ _; omega
  · exact ⟨⟨by decide, by decide⟩, ⟨by decide, by decide⟩, ⟨by decide, by decide⟩, ⟨by decide, by decide⟩, by decide, by decide, (fun x hx => by cases hx), by decide +kernel⟩
theorem same_self (o : OpD) : o.same o = true := by unfold OpD.same; simp
theorem votes_two {w : World} {g c : Nat} {t : TypeId} {a b : VoteD} {va vb : Value} (h : Blk w g t (a.cells va ++ b.cells vb)) (ha : IsPts va a.pts w) (hb : IsPts vb b.pts w) : IsVotes (.slice (some ⟨g, 0, none⟩) 2 c) [a, b] w := by
  refine IsSl.pair (Nat.zero_le _) h.lt ⟨va, ?_, ?_, ha⟩ ⟨vb, ?_, ?_, hb⟩
  · exact (h.cell 4).trans rfl
  · exact (h.cell 5).trans rfl
  · exact (h.cell 12).trans rfl
  · exact (h.cell 13).trans rfl
structure OpD.given (o : OpD) : Prop where
  ver : isInt o.ver
  gate : isInt o.gate
  no : isInt o.no
  holder : isInt o.holder
  reason : o.reason.length ≤ 9223372036854775807
  jurors : o.jurors.length ≤ 9223372036854775807
  ints : ∀ x ∈ o.jurors, isInt x
structure VoteD.given (x : VoteD) : Prop where
  juror : isInt x.juror
  ver : isInt x.ver
  gate : isInt x.gate
  no : isInt x.no
  pts : ∀ p ∈ x.pts, isInt p.1 ∧ isInt p.2.1 ∧ isInt p.2.2
  few : x.pts.length ≤ 9223372036854775807
  short : x.reason.length ≤ 9223372036854775807
theorem OpD.given.ok {o : OpD} (h : o.given) (h1 : o.jurors.length ≤ 20) (h2 : o.reason.length ≤ 60) : o.ok :=
  ⟨h.ver, h.gate, h.no, h.holder, by omega, by omega, h.ints, by have := numsS_len o.jurors (by omega) h.ints; omega⟩
theorem VoteD.given.ok {x : VoteD} (h : x.given) (hf : x.few = true) : x.ok := by
  unfold VoteD.few at hf
  simp only [Bool.and_eq_true, decide_eq_true_eq] at hf
  exact ⟨h.juror, h.ver, h.gate, h.no, h.pts, by omega, by omega⟩
set_option maxRecDepth 100000 in
set_option maxHeartbeats 8000000 in
theorem back_law (o : OpD) (ho : o.given) (s : List UInt8) (hs : s.length ≤ 9223372036854775807) (a b : VoteD) (ha : a.given) (hb : b.given) (vo va vb : Value) (w : World) (hE : Cod.Env w) (hvo : IsNums vo o.jurors w) (hva : IsPts va a.pts w) (hvb : IsPts vb b.pts w) :
    Calls Tryd.prog 4 #[o.val vo, .string (bs s), a.val va, b.val vb] w fun e w' => e = .returned (.bool true) ∧ Below w.heap.size w w' := by
  obtain ⟨ao, co, rfl⟩ := hvo.len
  obtain ⟨aa, ca, rfl⟩ := IsSl.len hva
  obtain ⟨ab, cb, rfl⟩ := IsSl.len hvb
  have b1 := below_one w (.cells #[.int .i64 o.ver, .int .i64 o.gate, .int .i64 o.no, .string (bs o.reason), .slice ao o.jurors.length co, .int .i64 o.holder] 37)
  have b2 := Below.alloc_ b1 (.cells #[.int .i64 a.juror, .int .i64 a.ver, .int .i64 a.gate, .int .i64 a.no, .string (bs a.reason), .slice aa a.pts.length ca, .int .i64 a.c, .int .i64 a.s] 42)
  have b3 := Below.alloc_ b2 (.cells #[.int .i64 b.juror, .int .i64 b.ver, .int .i64 b.gate, .int .i64 b.no, .string (bs b.reason), .slice ab b.pts.length cb, .int .i64 b.c, .int .i64 b.s] 42)
  have s1 := alloc_size w (.cells #[.int .i64 o.ver, .int .i64 o.gate, .int .i64 o.no, .string (bs o.reason), .slice ao o.jurors.length co, .int .i64 o.holder] 37)
  have s2 := alloc_size (w.alloc (.cells #[.int .i64 o.ver, .int .i64 o.gate, .int .i64 o.no, .string (bs o.reason), .slice ao o.jurors.length co, .int .i64 o.holder] 37)) (.cells #[.int .i64 a.juror, .int .i64 a.ver, .int .i64 a.gate, .int .i64 a.no, .string (bs a.reason), .slice aa a.pts.length ca, .int .i64 a.c, .int .i64 a.s] 42)
  rw [s1] at s2
  have B1 := ((Blk.new w 37 #[.int .i64 o.ver, .int .i64 o.gate, .int .i64 o.no, .string (bs o.reason), .slice ao o.jurors.length co, .int .i64 o.holder]).alloc' (.cells #[.int .i64 a.juror, .int .i64 a.ver, .int .i64 a.gate, .int .i64 a.no, .string (bs a.reason), .slice aa a.pts.length ca, .int .i64 a.c, .int .i64 a.s] 42)).alloc' (.cells #[.int .i64 b.juror, .int .i64 b.ver, .int .i64 b.gate, .int .i64 b.no, .string (bs b.reason), .slice ab b.pts.length cb, .int .i64 b.c, .int .i64 b.s] 42)
  have B2 := (Blk.new' s1 42 #[.int .i64 a.juror, .int .i64 a.ver, .int .i64 a.gate, .int .i64 a.no, .string (bs a.reason), .slice aa a.pts.length ca, .int .i64 a.c, .int .i64 a.s]).alloc' (.cells #[.int .i64 b.juror, .int .i64 b.ver, .int .i64 b.gate, .int .i64 b.no, .string (bs b.reason), .slice ab b.pts.length cb, .int .i64 b.c, .int .i64 b.s] 42)
  have B3 := Blk.new' s2 42 #[.int .i64 b.juror, .int .i64 b.ver, .int .i64 b.gate, .int .i64 b.no, .string (bs b.reason), .slice ab b.pts.length cb, .int .i64 b.c, .int .i64 b.s]
  have HO := Lib.hid (hvo.next b3)
  have HA := Lib.hid (hva.next b3)
  have HBV := Lib.hid (hvb.next b3)
  have HE := Lib.hid (hE.next b3)
  have HGO := Lib.hid ho
  have HGA := Lib.hid ha
  have HGB := Lib.hid hb
  have hjl : o.jurors.length ≤ 9223372036854775807 := ho.jurors
  have hrl : o.reason.length ≤ 9223372036854775807 := ho.reason
  have zs := bs_size s
  have zr := bs_size o.reason
  unfold OpD.val OpD.cells VoteD.val VoteD.cells
  clear s1 s2 b1 b2 hvo hva hvb hE ho ha hb
  go_enter Tryd.func4, Tryd.ntmps4
  go_wp2_with fail
  generalize ((w.alloc (.cells #[.int .i64 o.ver, .int .i64 o.gate, .int .i64 o.no, .string (bs o.reason), .slice ao o.jurors.length co, .int .i64 o.holder] 37)).alloc (.cells #[.int .i64 a.juror, .int .i64 a.ver, .int .i64 a.gate, .int .i64 a.no, .string (bs a.reason), .slice aa a.pts.length ca, .int .i64 a.c, .int .i64 a.s] 42)).alloc (.cells #[.int .i64 b.juror, .int .i64 b.ver, .int .i64 b.gate, .int .i64 b.no, .string (bs b.reason), .slice ab b.pts.length cb, .int .i64 b.c, .int .i64 b.s] 42) = W at *
  have HB := Lib.hid b3
  have HKO : Hid (∀ w', Below W.heap.size W w' → w'.cell? ⟨w.heap.size, 0, none⟩ = some (.int .i64 o.ver) ∧ w'.cell? ⟨w.heap.size, 1, none⟩ = some (.int .i64 o.gate) ∧ w'.cell? ⟨w.heap.size, 2, none⟩ = some (.int .i64 o.no) ∧ w'.cell? ⟨w.heap.size, 3, none⟩ = some (.string (bs o.reason)) ∧ w'.cell? ⟨w.heap.size, 4, none⟩ = some (.slice ao o.jurors.length co) ∧ w'.cell? ⟨w.heap.size, 5, none⟩ = some (.int .i64 o.holder)) := by
    show ∀ w', _
    intro w' h
    have := B1.next h
    exact ⟨this.cell 0, this.cell 1, this.cell 2, this.cell 3, this.cell 4, this.cell 5⟩
  have HKA : Hid (∀ w', Below W.heap.size W w' → w'.cell? ⟨w.heap.size + 1, 0, none⟩ = some (.int .i64 a.juror) ∧ w'.cell? ⟨w.heap.size + 1, 1, none⟩ = some (.int .i64 a.ver) ∧ w'.cell? ⟨w.heap.size + 1, 2, none⟩ = some (.int .i64 a.gate) ∧ w'.cell? ⟨w.heap.size + 1, 3, none⟩ = some (.int .i64 a.no) ∧ w'.cell? ⟨w.heap.size + 1, 4, none⟩ = some (.string (bs a.reason)) ∧ w'.cell? ⟨w.heap.size + 1, 5, none⟩ = some (.slice aa a.pts.length ca) ∧ w'.cell? ⟨w.heap.size + 1, 6, none⟩ = some (.int .i64 a.c) ∧ w'.cell? ⟨w.heap.size + 1, 7, none⟩ = some (.int .i64 a.s)) := by
    show ∀ w', _
    intro w' h
    have := B2.next h
    exact ⟨this.cell 0, this.cell 1, this.cell 2, this.cell 3, this.cell 4, this.cell 5, this.cell 6, this.cell 7⟩
  have HKB : Hid (∀ w', Below W.heap.size W w' → w'.cell? ⟨w.heap.size + 1 + 1, 0, none⟩ = some (.int .i64 b.juror) ∧ w'.cell? ⟨w.heap.size + 1 + 1, 1, none⟩ = some (.int .i64 b.ver) ∧ w'.cell? ⟨w.heap.size + 1 + 1, 2, none⟩ = some (.int .i64 b.gate) ∧ w'.cell? ⟨w.heap.size + 1 + 1, 3, none⟩ = some (.int .i64 b.no) ∧ w'.cell? ⟨w.heap.size + 1 + 1, 4, none⟩ = some (.string (bs b.reason)) ∧ w'.cell? ⟨w.heap.size + 1 + 1, 5, none⟩ = some (.slice ab b.pts.length cb) ∧ w'.cell? ⟨w.heap.size + 1 + 1, 6, none⟩ = some (.int .i64 b.c) ∧ w'.cell? ⟨w.heap.size + 1 + 1, 7, none⟩ = some (.int .i64 b.s)) := by
    show ∀ w', _
    intro w' h
    have := B3.next h
    exact ⟨this.cell 0, this.cell 1, this.cell 2, this.cell 3, this.cell 4, this.cell 5, this.cell 6, this.cell 7⟩
  have c1 := Lib.hid (sane_calls W HE.out)
  clear B1 B2 B3 b3
  generalize w.heap.size + 1 + 1 = gB at *
  generalize w.heap.size + 1 = gA at *
  refine c1.out.mono ?_
  clear c1
  rintro e w1 ⟨rfl, h1⟩
  have H1 := Lib.hid h1
  have HF1 := Lib.hid (HB.out.trans (h1.mono HB.out.size))
  obtain ⟨y0, y1, y2, y3, y4, y5⟩ := HKO.out _ h1
  obtain ⟨p0, p1, p2, p3, p4, p5, p6, p7⟩ := HKA.out _ h1
  obtain ⟨q0, q1, q2, q3, q4, q5, q6, q7⟩ := HKB.out _ h1
  clear h1
  by_cases hj20 : o.jurors.length ≤ 20
  · by_cases hr60 : o.reason.length ≤ 60
    · by_cases hs300 : s.length ≤ 300
      · have g1 : ¬ (o.jurors.length : Int) > 20 := by omega
        have g2 : ¬ ((bs o.reason).size : Int) > 60 := by omega
        have g3 : ¬ ((bs s).size : Int) > 300 := by omega
        have x2 := Below.alloc_ H1.out (.cells #[.int .i64 a.juror, .int .i64 a.ver, .int .i64 a.gate, .int .i64 a.no, .string (bs a.reason), .slice aa a.pts.length ca, .int .i64 a.c, .int .i64 a.s, .int .i64 b.juror, .int .i64 b.ver, .int .i64 b.gate, .int .i64 b.no, .string (bs b.reason), .slice ab b.pts.length cb, .int .i64 b.c, .int .i64 b.s] 42)
        have B2 := Blk.new w1 42 #[.int .i64 a.juror, .int .i64 a.ver, .int .i64 a.gate, .int .i64 a.no, .string (bs a.reason), .slice aa a.pts.length ca, .int .i64 a.c, .int .i64 a.s, .int .i64 b.juror, .int .i64 b.ver, .int .i64 b.gate, .int .i64 b.no, .string (bs b.reason), .slice ab b.pts.length cb, .int .i64 b.c, .int .i64 b.s]
        have cF := Lib.hid (fewvotes_calls (.slice (some ⟨w1.heap.size, 0, none⟩) 2 2) [a, b] (by simp) (fun x hx => by simp only [List.mem_cons, List.not_mem_nil, or_false] at hx; rcases hx with rfl | rfl; exact ⟨HGA.out.few, HGA.out.short⟩; exact ⟨HGB.out.few, HGB.out.short⟩) _ (votes_two (a := a) (b := b) (va := .slice aa a.pts.length ca) (vb := .slice ab b.pts.length cb) B2 (HA.out.next x2) (HBV.out.next x2)))
        have HFW : Hid ([a, b].all VoteD.few = (a.few && b.few)) := by show _ = _; simp
        rw [HFW.out] at cF
        clear B2 HFW
        go_wp2_with fail
        refine cF.out.mono ?_
        clear cF
        rintro e w2 ⟨rfl, h2⟩
        have h2 := x2.trans (h2.mono x2.size)
        have H2 := Lib.hid h2
        have HF2 := Lib.hid (HB.out.trans (h2.mono HB.out.size))
        clear x2 y0 y1 y2 y3 y4 y5 p0 p1 p2 p3 p4 p5 p6 p7 q0 q1 q2 q3 q4 q5 q6 q7
        cases hfew : (a.few && b.few)
        · clear h2 hfew
          go_wp2
          go_ret
          exact ⟨rfl, HF2.out⟩
        rw [Bool.and_eq_true] at hfew
        have HOA := Lib.hid (HGA.out.ok hfew.1)
        have HOB := Lib.hid (HGB.out.ok hfew.2)
        have HOO := Lib.hid (HGO.out.ok hj20 hr60)
        obtain ⟨y0, y1, y2, y3, y4, y5⟩ := HKO.out _ h2
        have c3 := Lib.hid (minutes_calls o HOO.out (.slice ao o.jurors.length co) w2 (HE.out.next h2) (HO.out.next h2))
        unfold OpD.val OpD.cells at c3
        have hml : o.min.length ≤ 100000 := by
          have h1 := nums3_len o.ver o.gate o.no HOO.out.ver HOO.out.gate HOO.out.no
          have h2 := numsS_len o.jurors (by omega) HOO.out.ints
          have h3 := Cod.intS_len o.holder HOO.out.holder
          have h4 := Cod.itoa_len (o.reason.length : Int) (Cod.isInt_len (by omega))
          unfold OpD.min Cod.textS
          simp only [List.length_append, List.length_cons, List.length_nil]
          omega
        clear hfew h2 hjl hrl
        go_wp2_with fail
        refine c3.out.mono ?_
        clear c3 hj20 hr60 g1 g2 g3 zr
        rintro e w3 ⟨rfl, h3⟩
        have h3 := H2.out.trans (h3.mono H2.out.size)
        have H3 := Lib.hid h3
        have c4 := Lib.hid (readmin_calls o.min (by omega) w3 (HE.out.next h3))
        rw [rm_is HOO.out, rm_back HOO.out] at c4
        clear y0 y1 y2 y3 y4 y5 h3 H2
        go_wp2_with fail
        refine c4.out.mono ?_
        clear c4
        rintro e w4 ⟨v4, rfl, hv4, h4⟩
        have h4 := H3.out.trans (h4.mono H3.out.size)
        obtain ⟨a4, c4, rfl⟩ := hv4.len
        have x5 := Below.alloc_ h4 (.cells #[.int .i64 o.ver, .int .i64 o.gate, .int .i64 o.no, .string (bs o.reason), .slice a4 o.jurors.length c4, .int .i64 o.holder] 37)
        have B5 := Blk.new w4 37 #[.int .i64 o.ver, .int .i64 o.gate, .int .i64 o.no, .string (bs o.reason), .slice a4 o.jurors.length c4, .int .i64 o.holder]
        have N5 := hv4.next (below_one w4 (.cells #[.int .i64 o.ver, .int .i64 o.gate, .int .i64 o.no, .string (bs o.reason), .slice a4 o.jurors.length c4, .int .i64 o.holder] 37))
        have c5 := Lib.hid (readmin_calls s (by omega) _ (HE.out.next x5))
        have HV4 : Hid (o.val (.slice a4 o.jurors.length c4) = .agg #[.int .i64 o.ver, .int .i64 o.gate, .int .i64 o.no, .string (bs o.reason), .slice a4 o.jurors.length c4, .int .i64 o.holder]) := rfl
        rw [HV4.out]
        have H5 := Lib.hid x5
        have HB5 := Lib.hid B5
        have HN5 := Lib.hid N5
        clear h4 hv4 x5 B5 N5 H3 HV4
        go_wp2_with fail
        generalize w4.alloc (.cells #[.int .i64 o.ver, .int .i64 o.gate, .int .i64 o.no, .string (bs o.reason), .slice a4 o.jurors.length c4, .int .i64 o.holder] 37) = W5 at *
        generalize w4.heap.size = g5 at *
        refine c5.out.mono ?_
        clear c5
        rintro e w6 ⟨v6, rfl, hv6, h6⟩
        have HC6 := Lib.hid h6
        have h6 := H5.out.trans (h6.mono H5.out.size)
        obtain ⟨a6, c6, rfl⟩ := hv6.len
        obtain ⟨X, hX⟩ : ∃ X, X = rmO s := ⟨_, rfl⟩
        rw [← hX] at hv6 ⊢
        have HXX := Lib.hid hX
        have HXok := Lib.hid (show X.ok from hX ▸ rmO_ok (by omega))
        clear hX
        have HVX : Hid (X.val (.slice a6 X.jurors.length c6) = .agg #[.int .i64 X.ver, .int .i64 X.gate, .int .i64 X.no, .string (bs X.reason), .slice a6 X.jurors.length c6, .int .i64 X.holder]) := rfl
        rw [HVX.out]
        have x7 := Below.alloc_ h6 (.cells #[.int .i64 X.ver, .int .i64 X.gate, .int .i64 X.no, .string (bs X.reason), .slice a6 X.jurors.length c6, .int .i64 X.holder] 37)
        have b7 := below_one w6 (.cells #[.int .i64 X.ver, .int .i64 X.gate, .int .i64 X.no, .string (bs X.reason), .slice a6 X.jurors.length c6, .int .i64 X.holder] 37)
        have B7 := Blk.new w6 37 #[.int .i64 X.ver, .int .i64 X.gate, .int .i64 X.no, .string (bs X.reason), .slice a6 X.jurors.length c6, .int .i64 X.holder]
        have N7 := hv6.next b7
        have HC7 := Lib.hid (HC6.out.trans (b7.mono HC6.out.size))
        have D7 := HB5.out.next HC7.out
        have d0 := D7.cell 0
        have d1 := D7.cell 1
        have d2 := D7.cell 2
        have d3 := D7.cell 3
        have d4 := D7.cell 4
        have d5 := D7.cell 5
        obtain ⟨y0, y1, y2, y3, y4, y5⟩ := HKO.out _ x7
        have c7 := Lib.hid (sameop_calls o o (.slice a4 o.jurors.length c4) (.slice ao o.jurors.length co) (by unfold okL; have := HOO.out.jurors; omega) (by unfold okL; have := HOO.out.jurors; omega) _ (HN5.out.next HC7.out) (HO.out.next x7))
        rw [same_self] at c7
        unfold OpD.val OpD.cells at c7
        have H7 := Lib.hid x7
        have HB7 := Lib.hid B7
        have HN7 := Lib.hid N7
        clear h6 hv6 x7 b7 B7 N7 D7 HVX HC6 HC7
        go_wp2_with fail
        generalize w6.alloc (.cells #[.int .i64 X.ver, .int .i64 X.gate, .int .i64 X.no, .string (bs X.reason), .slice a6 X.jurors.length c6, .int .i64 X.holder] 37) = W7 at *
        generalize w6.heap.size = g7 at *
        refine c7.out.mono ?_
        clear c7 d0 d1 d2 d3 d4 d5 y0 y1 y2 y3 y4 y5
        rintro e w8 ⟨rfl, h8⟩
        have D8 := HB7.out.next h8
        have N8 := HN7.out.next h8
        have h8 := H7.out.trans (h8.mono H7.out.size)
        cases hfine : rmB s
        · clear hfine D8 N8
          obtain ⟨p0, p1, p2, p3, p4, p5, p6, p7⟩ := HKA.out _ h8
          obtain ⟨q0, q1, q2, q3, q4, q5, q6, q7⟩ := HKB.out _ h8
          have HW := Lib.hid h8
          go_upto_region 8 with fail
          go_cut [14] from 67 to 106 (fun v wr => v = .bool (a.like b) ∧ Below W.heap.size W wr)
          case first =>
            have HL : Hid (a.like b = (decide (a.juror = b.juror) && (decide (a.ver = b.ver) && (decide (a.gate = b.gate) && (decide (a.no = b.no) && (decide (a.reason = b.reason) && decide (a.pts = b.pts))))))) := rfl
            have e1 := int_beq a.juror b.juror
            have e2 := int_beq a.ver b.ver
            have e3 := int_beq a.gate b.gate
            have e4 := int_beq a.no b.no
            have e5 := bs_beq a.reason b.reason
            have cP := Lib.hid (samepts_calls (.slice aa a.pts.length ca) (.slice ab b.pts.length cb) a.pts b.pts (by unfold okL; have := HOA.out.few; omega) w8 (HA.out.next h8) (HBV.out.next h8))
            generalize decide (a.juror = b.juror) = x1 at *
            generalize decide (a.ver = b.ver) = x2 at *
            generalize decide (a.gate = b.gate) = x3 at *
            generalize decide (a.no = b.no) = x4 at *
            generalize decide (a.reason = b.reason) = x5 at *
            generalize decide (a.pts = b.pts) = x6 at *
            generalize a.like b = L at *
            clear h8
            cases x1
            · clear cP
              go_wp2_with fail
              go_meet
              exact ⟨by rw [HL.out]; rfl, HW.out⟩
            · skip
              cases x2
              · clear cP
                go_wp2_with fail
                go_meet
                exact ⟨by rw [HL.out]; rfl, HW.out⟩
              · skip
                cases x3
                · clear cP
                  go_wp2_with fail
                  go_meet
                  exact ⟨by rw [HL.out]; rfl, HW.out⟩
                · skip
                  cases x4
                  · clear cP
                    go_wp2_with fail
                    go_meet
                    exact ⟨by rw [HL.out]; rfl, HW.out⟩
                  · skip
                    cases x5
                    · clear cP
                      go_wp2_with fail
                      go_meet
                      exact ⟨by rw [HL.out]; rfl, HW.out⟩
                    · skip
                      go_wp2_with fail
                      refine cP.out.mono ?_
                      rintro e w' ⟨rfl, m, rfl⟩
                      have HW2 := Lib.hid (below_drewN HW.out m)
                      clear cP
                      go_wp2_with fail
                      go_meet
                      exact ⟨by rw [HL.out]; rfl, HW2.out⟩
          case rest =>
            obtain ⟨rfl, hc⟩ := hcut
            clear p0 p1 p2 p3 p4 p5 p6 p7 q0 q1 q2 q3 q4 q5 q6 q7
            have P := fun u : Up wc => HKA.out _ (hc.trans (u.b.mono hc.size))
            have Q := fun u : Up wc => HKB.out _ (hc.trans (u.b.mono hc.size))
            have p0 : ∀ u : Up wc, u.w.cell? ⟨gA, 0, none⟩ = some (.int .i64 a.juror) := fun u => (P u).1
            have p1 : ∀ u : Up wc, u.w.cell? ⟨gA, 1, none⟩ = some (.int .i64 a.ver) := fun u => (P u).2.1
            have p2 : ∀ u : Up wc, u.w.cell? ⟨gA, 2, none⟩ = some (.int .i64 a.gate) := fun u => (P u).2.2.1
            have p3 : ∀ u : Up wc, u.w.cell? ⟨gA, 3, none⟩ = some (.int .i64 a.no) := fun u => (P u).2.2.2.1
            have p4 : ∀ u : Up wc, u.w.cell? ⟨gA, 4, none⟩ = some (.string (bs a.reason)) := fun u => (P u).2.2.2.2.1
            have p5 : ∀ u : Up wc, u.w.cell? ⟨gA, 5, none⟩ = some (.slice aa a.pts.length ca) := fun u => (P u).2.2.2.2.2.1
            have p6 : ∀ u : Up wc, u.w.cell? ⟨gA, 6, none⟩ = some (.int .i64 a.c) := fun u => (P u).2.2.2.2.2.2.1
            have p7 : ∀ u : Up wc, u.w.cell? ⟨gA, 7, none⟩ = some (.int .i64 a.s) := fun u => (P u).2.2.2.2.2.2.2
            have q0 : ∀ u : Up wc, u.w.cell? ⟨gB, 0, none⟩ = some (.int .i64 b.juror) := fun u => (Q u).1
            have q1 : ∀ u : Up wc, u.w.cell? ⟨gB, 1, none⟩ = some (.int .i64 b.ver) := fun u => (Q u).2.1
            have q2 : ∀ u : Up wc, u.w.cell? ⟨gB, 2, none⟩ = some (.int .i64 b.gate) := fun u => (Q u).2.2.1
            have q3 : ∀ u : Up wc, u.w.cell? ⟨gB, 3, none⟩ = some (.int .i64 b.no) := fun u => (Q u).2.2.2.1
            have q4 : ∀ u : Up wc, u.w.cell? ⟨gB, 4, none⟩ = some (.string (bs b.reason)) := fun u => (Q u).2.2.2.2.1
            have q5 : ∀ u : Up wc, u.w.cell? ⟨gB, 5, none⟩ = some (.slice ab b.pts.length cb) := fun u => (Q u).2.2.2.2.2.1
            have q6 : ∀ u : Up wc, u.w.cell? ⟨gB, 6, none⟩ = some (.int .i64 b.c) := fun u => (Q u).2.2.2.2.2.2.1
            have q7 : ∀ u : Up wc, u.w.cell? ⟨gB, 7, none⟩ = some (.int .i64 b.s) := fun u => (Q u).2.2.2.2.2.2.2
            have kA : Hid (∀ (args' : Array Value) (w' : World), args' = #[.agg #[.int .i64 a.juror, .int .i64 a.ver, .int .i64 a.gate, .int .i64 a.no, .string (bs a.reason), .slice aa a.pts.length ca, .int .i64 a.c, .int .i64 a.s]] → Below wc.heap.size wc w' → Calls Tryd.prog 15 args' w' fun e w'' => e = .returned (.string (bs a.ballot)) ∧ Below wc.heap.size wc w'') := by
              show ∀ args' w', _
              intro args' w' he h
              subst he
              have hh := hc.trans (h.mono hc.size)
              refine (ballot_calls a HOA.out (.slice aa a.pts.length ca) w' (HE.out.next hh) (HA.out.next hh)).mono ?_
              rintro e w'' ⟨h1, h2⟩
              exact ⟨h1, h.trans (h2.mono h.size)⟩
            have kB : Hid (∀ (args' : Array Value) (w' : World), args' = #[.agg #[.int .i64 b.juror, .int .i64 b.ver, .int .i64 b.gate, .int .i64 b.no, .string (bs b.reason), .slice ab b.pts.length cb, .int .i64 b.c, .int .i64 b.s]] → Below wc.heap.size wc w' → Calls Tryd.prog 15 args' w' fun e w'' => e = .returned (.string (bs b.ballot)) ∧ Below wc.heap.size wc w'') := by
              show ∀ args' w', _
              intro args' w' he h
              subst he
              have hh := hc.trans (h.mono hc.size)
              refine (ballot_calls b HOB.out (.slice ab b.pts.length cb) w' (HE.out.next hh) (HBV.out.next hh)).mono ?_
              rintro e w'' ⟨h1, h2⟩
              exact ⟨h1, h.trans (h2.mono h.size)⟩
            have hEL : ((bs a.ballot).toList == (bs b.ballot).toList) = a.like b := by
              rw [bs_beq, Bool.eq_iff_iff, decide_eq_true_eq]
              exact ⟨ballot_inj HOA.out HOB.out, ballot_like⟩
            generalize a.like b = L at *
            have hLL : (L == L) = true := by simp
            have HC := Lib.hid (HB.out.trans (hc.mono HB.out.size))
            clear P Q hc
            go_wp2_with fail
            refine wp_region_up (by kernel_rfl) (by kernel_rfl) ?_
            repeat (go_big_quiet_step (first | exact Calls.mono (kA.out _ _ (by with_reducible rfl) (Up.b _)) fun e w' h => ⟨h.1, ⟨w', h.2⟩, rfl⟩ | exact Calls.mono (kB.out _ _ (by with_reducible rfl) (Up.b _)) fun e w' h => ⟨h.1, ⟨w', h.2⟩, rfl⟩))
            refine wpQuiet_nil ?_
            intro _ hw'
            obtain ⟨u6, rfl⟩ := hw'
            have hb4 := Lib.hid (HC.out.trans (u6.b.mono HC.out.size))
            generalize u6.w = w4 at *
            clear p0 p1 p2 p3 p4 p5 p6 p7 q0 q1 q2 q3 q4 q5 q6 q7 kA kB
            go_wp2
            go_ret
            exact ⟨rfl, hb4.out⟩
        · have HXS := Lib.hid (show X.min = s from by rw [HXX.out]; exact rm_text hfine)
          have c9 := Lib.hid (minutes_calls X HXok.out (.slice a6 X.jurors.length c6) w8 (HE.out.next h8) N8)
          rw [HXS.out] at c9
          unfold OpD.val OpD.cells at c9
          have d0 := D8.cell 0
          have d1 := D8.cell 1
          have d2 := D8.cell 2
          have d3 := D8.cell 3
          have d4 := D8.cell 4
          have d5 := D8.cell 5
          have H8 := Lib.hid h8
          clear hfine D8 N8 h8
          go_wp2_with fail
          refine c9.out.mono ?_
          clear c9 d0 d1 d2 d3 d4 d5
          rintro e w9 ⟨rfl, h9⟩
          have h9 := H8.out.trans (h9.mono H8.out.size)
          obtain ⟨p0, p1, p2, p3, p4, p5, p6, p7⟩ := HKA.out _ h9
          obtain ⟨q0, q1, q2, q3, q4, q5, q6, q7⟩ := HKB.out _ h9
          have HW := Lib.hid h9
          go_upto_region 8 with fail
          go_cut [14] from 67 to 106 (fun v wr => v = .bool (a.like b) ∧ Below W.heap.size W wr)
          case first =>
            have HL : Hid (a.like b = (decide (a.juror = b.juror) && (decide (a.ver = b.ver) && (decide (a.gate = b.gate) && (decide (a.no = b.no) && (decide (a.reason = b.reason) && decide (a.pts = b.pts))))))) := rfl
            have e1 := int_beq a.juror b.juror
            have e2 := int_beq a.ver b.ver
            have e3 := int_beq a.gate b.gate
            have e4 := int_beq a.no b.no
            have e5 := bs_beq a.reason b.reason
            have cP := Lib.hid (samepts_calls (.slice aa a.pts.length ca) (.slice ab b.pts.length cb) a.pts b.pts (by unfold okL; have := HOA.out.few; omega) w9 (HA.out.next h9) (HBV.out.next h9))
            generalize decide (a.juror = b.juror) = x1 at *
            generalize decide (a.ver = b.ver) = x2 at *
            generalize decide (a.gate = b.gate) = x3 at *
            generalize decide (a.no = b.no) = x4 at *
            generalize decide (a.reason = b.reason) = x5 at *
            generalize decide (a.pts = b.pts) = x6 at *
            generalize a.like b = L at *
            clear h9
            cases x1
            · clear cP
              go_wp2_with fail
              go_meet
              exact ⟨by rw [HL.out]; rfl, HW.out⟩
            · skip
              cases x2
              · clear cP
                go_wp2_with fail
                go_meet
                exact ⟨by rw [HL.out]; rfl, HW.out⟩
              · skip
                cases x3
                · clear cP
                  go_wp2_with fail
                  go_meet
                  exact ⟨by rw [HL.out]; rfl, HW.out⟩
                · skip
                  cases x4
                  · clear cP
                    go_wp2_with fail
                    go_meet
                    exact ⟨by rw [HL.out]; rfl, HW.out⟩
                  · skip
                    cases x5
                    · clear cP
                      go_wp2_with fail
                      go_meet
                      exact ⟨by rw [HL.out]; rfl, HW.out⟩
                    · skip
                      go_wp2_with fail
                      refine cP.out.mono ?_
                      rintro e w' ⟨rfl, m, rfl⟩
                      have HW2 := Lib.hid (below_drewN HW.out m)
                      clear cP
                      go_wp2_with fail
                      go_meet
                      exact ⟨by rw [HL.out]; rfl, HW2.out⟩
          case rest =>
            obtain ⟨rfl, hc⟩ := hcut
            clear p0 p1 p2 p3 p4 p5 p6 p7 q0 q1 q2 q3 q4 q5 q6 q7
            have P := fun u : Up wc => HKA.out _ (hc.trans (u.b.mono hc.size))
            have Q := fun u : Up wc => HKB.out _ (hc.trans (u.b.mono hc.size))
            have p0 : ∀ u : Up wc, u.w.cell? ⟨gA, 0, none⟩ = some (.int .i64 a.juror) := fun u => (P u).1
            have p1 : ∀ u : Up wc, u.w.cell? ⟨gA, 1, none⟩ = some (.int .i64 a.ver) := fun u => (P u).2.1
            have p2 : ∀ u : Up wc, u.w.cell? ⟨gA, 2, none⟩ = some (.int .i64 a.gate) := fun u => (P u).2.2.1
            have p3 : ∀ u : Up wc, u.w.cell? ⟨gA, 3, none⟩ = some (.int .i64 a.no) := fun u => (P u).2.2.2.1
            have p4 : ∀ u : Up wc, u.w.cell? ⟨gA, 4, none⟩ = some (.string (bs a.reason)) := fun u => (P u).2.2.2.2.1
            have p5 : ∀ u : Up wc, u.w.cell? ⟨gA, 5, none⟩ = some (.slice aa a.pts.length ca) := fun u => (P u).2.2.2.2.2.1
            have p6 : ∀ u : Up wc, u.w.cell? ⟨gA, 6, none⟩ = some (.int .i64 a.c) := fun u => (P u).2.2.2.2.2.2.1
            have p7 : ∀ u : Up wc, u.w.cell? ⟨gA, 7, none⟩ = some (.int .i64 a.s) := fun u => (P u).2.2.2.2.2.2.2
            have q0 : ∀ u : Up wc, u.w.cell? ⟨gB, 0, none⟩ = some (.int .i64 b.juror) := fun u => (Q u).1
            have q1 : ∀ u : Up wc, u.w.cell? ⟨gB, 1, none⟩ = some (.int .i64 b.ver) := fun u => (Q u).2.1
            have q2 : ∀ u : Up wc, u.w.cell? ⟨gB, 2, none⟩ = some (.int .i64 b.gate) := fun u => (Q u).2.2.1
            have q3 : ∀ u : Up wc, u.w.cell? ⟨gB, 3, none⟩ = some (.int .i64 b.no) := fun u => (Q u).2.2.2.1
            have q4 : ∀ u : Up wc, u.w.cell? ⟨gB, 4, none⟩ = some (.string (bs b.reason)) := fun u => (Q u).2.2.2.2.1
            have q5 : ∀ u : Up wc, u.w.cell? ⟨gB, 5, none⟩ = some (.slice ab b.pts.length cb) := fun u => (Q u).2.2.2.2.2.1
            have q6 : ∀ u : Up wc, u.w.cell? ⟨gB, 6, none⟩ = some (.int .i64 b.c) := fun u => (Q u).2.2.2.2.2.2.1
            have q7 : ∀ u : Up wc, u.w.cell? ⟨gB, 7, none⟩ = some (.int .i64 b.s) := fun u => (Q u).2.2.2.2.2.2.2
            have kA : Hid (∀ (args' : Array Value) (w' : World), args' = #[.agg #[.int .i64 a.juror, .int .i64 a.ver, .int .i64 a.gate, .int .i64 a.no, .string (bs a.reason), .slice aa a.pts.length ca, .int .i64 a.c, .int .i64 a.s]] → Below wc.heap.size wc w' → Calls Tryd.prog 15 args' w' fun e w'' => e = .returned (.string (bs a.ballot)) ∧ Below wc.heap.size wc w'') := by
              show ∀ args' w', _
              intro args' w' he h
              subst he
              have hh := hc.trans (h.mono hc.size)
              refine (ballot_calls a HOA.out (.slice aa a.pts.length ca) w' (HE.out.next hh) (HA.out.next hh)).mono ?_
              rintro e w'' ⟨h1, h2⟩
              exact ⟨h1, h.trans (h2.mono h.size)⟩
            have kB : Hid (∀ (args' : Array Value) (w' : World), args' = #[.agg #[.int .i64 b.juror, .int .i64 b.ver, .int .i64 b.gate, .int .i64 b.no, .string (bs b.reason), .slice ab b.pts.length cb, .int .i64 b.c, .int .i64 b.s]] → Below wc.heap.size wc w' → Calls Tryd.prog 15 args' w' fun e w'' => e = .returned (.string (bs b.ballot)) ∧ Below wc.heap.size wc w'') := by
              show ∀ args' w', _
              intro args' w' he h
              subst he
              have hh := hc.trans (h.mono hc.size)
              refine (ballot_calls b HOB.out (.slice ab b.pts.length cb) w' (HE.out.next hh) (HBV.out.next hh)).mono ?_
              rintro e w'' ⟨h1, h2⟩
              exact ⟨h1, h.trans (h2.mono h.size)⟩
            have hEL : ((bs a.ballot).toList == (bs b.ballot).toList) = a.like b := by
              rw [bs_beq, Bool.eq_iff_iff, decide_eq_true_eq]
              exact ⟨ballot_inj HOA.out HOB.out, ballot_like⟩
            generalize a.like b = L at *
            have hLL : (L == L) = true := by simp
            have HC := Lib.hid (HB.out.trans (hc.mono HB.out.size))
            clear P Q hc
            go_wp2_with fail
            refine wp_region_up (by kernel_rfl) (by kernel_rfl) ?_
            repeat (go_big_quiet_step (first | exact Calls.mono (kA.out _ _ (by with_reducible rfl) (Up.b _)) fun e w' h => ⟨h.1, ⟨w', h.2⟩, rfl⟩ | exact Calls.mono (kB.out _ _ (by with_reducible rfl) (Up.b _)) fun e w' h => ⟨h.1, ⟨w', h.2⟩, rfl⟩))
            refine wpQuiet_nil ?_
            intro _ hw'
            obtain ⟨u6, rfl⟩ := hw'
            have hb4 := Lib.hid (HC.out.trans (u6.b.mono HC.out.size))
            generalize u6.w = w4 at *
            clear p0 p1 p2 p3 p4 p5 p6 p7 q0 q1 q2 q3 q4 q5 q6 q7 kA kB
            go_wp2
            go_ret
            exact ⟨rfl, hb4.out⟩
      · have g1 : ¬ (o.jurors.length : Int) > 20 := by omega
        have g2 : ¬ ((bs o.reason).size : Int) > 60 := by omega
        have g3 : ((bs s).size : Int) > 300 := by omega
        go_wp2
        go_ret
        exact ⟨rfl, HF1.out⟩
    · have g1 : ¬ (o.jurors.length : Int) > 20 := by omega
      have g2 : ((bs o.reason).size : Int) > 60 := by omega
      go_wp2
      go_ret
      exact ⟨rfl, HF1.out⟩
  · have g1 : (o.jurors.length : Int) > 20 := by omega
    go_wp2
    go_ret
    exact ⟨rfl, HF1.out⟩
end Go.Proofs.YtkfmhibdoapndaaDoor
