/- The exported functions that open a setup (written by tools/mktp.py). -/
import Derived.Test.YtmgamngdmhnffaaGreatDoorTo
namespace Go.Proofs.YtmgamngdmhnffaaGreatDoor
open Go.RowKit

theorem valid_bases {s : SetD} (h : s.valid = true) : 2 ≤ s.bs.length := by
  unfold SetD.valid lenB at h
  simp only [Bool.and_eq_true, decide_eq_true_eq] at h
  omega
theorem valid_bases7 {s : SetD} (h : s.valid = true) : s.bs.length ≤ 7 := by
  unfold SetD.valid lenB at h
  simp only [Bool.and_eq_true, decide_eq_true_eq] at h
  omega
set_option maxHeartbeats 1000000 in
theorem Usable_calls (s : SetD) (hi : s.ints) (vb : Value) (v : Value) (l : List Int) (hli : ∀ x ∈ l, isInt x) (hl : l.length ≤ 100000000) (w : World) (hE : Env w) (hb0 : IsNums vb s.bs w) (hv : IsNums v l w) :
    Calls Tryz.prog 12 #[s.val vb, v] w fun e w' => e = .returned (.bool (s.valid && s.usB l)) ∧ Below w.heap.size w w' := by
  obtain ⟨a, c, rfl⟩ := hv.len
  obtain ⟨ab, cb, rfl⟩ := hb0.len
  have hb := below_one w (.cells (s.cells (.slice ab s.bs.length cb)) 33)
  have hS : SetAt s (.slice ab s.bs.length cb) w.heap.size (w.alloc (.cells (s.cells (.slice ab s.bs.length cb)) 33)) := Blk.new w _ _
  have c1 := Lib.hid (open_calls s hi (.slice ab s.bs.length cb) _ (hE.next hb) (hb0.next hb))
  have HBN := fun w' (h : Below w.heap.size w w') => Lib.hid (hb0.next h)
  obtain ⟨U, hU⟩ : ∃ z, z = s.usB l := ⟨_, rfl⟩
  rw [← hU]
  have HU := Lib.hid hU
  clear hU
  have HN := fun w' (h : Below w.heap.size w w') => Lib.hid (hv.next h)
  generalize hV : s.valid = V at *
  have HV := Lib.hid hV
  have h2 : V = true → 2 ≤ s.bs.length := fun e => by rw [e] at hV; exact valid_bases hV
  have h7 : V = true → s.bs.length ≤ 7 := fun e => by rw [e] at hV; exact valid_bases7 hV
  unfold SetD.val at *
  unfold SetD.cells at hS hb c1
  obtain ⟨z0, z1, z2, z3, z4⟩ := hS.get
  clear hE hb0 hS hV hv
  go_enter Tryz.func12, Tryz.ntmps12
  go_wp2_with fail
  generalize w.alloc (.cells #[.int .i64 s.P, .int .i64 s.Q, .int .i64 s.G, .slice ab s.bs.length cb, .int .i64 s.H] 33) = W0 at *
  refine c1.out.mono ?_
  clear c1 z0 z1 z2 z3 z4
  rintro e w1 ⟨rfl, hb1⟩
  have hB1 := hb.trans (hb1.mono hb.size)
  have hB2 := Below.alloc_ hB1 (.cells #[.int .i64 s.P, .int .i64 s.Q, .int .i64 s.G, .slice ab s.bs.length cb, .int .i64 s.H] 59)
  have hG : GAt s (.slice ab s.bs.length cb) w1.heap.size (w1.alloc (.cells #[.int .i64 s.P, .int .i64 s.Q, .int .i64 s.G, .slice ab s.bs.length cb, .int .i64 s.H] 59)) := Blk.new w1 _ _
  clear hb hb1 hB1
  cases V
  · go_wp2
    go_ret
    exact ⟨rfl, hB2⟩
  · have c2 := Lib.hid (us_calls s hi (.slice ab s.bs.length cb) (.slice a l.length c) l hli hl (h2 rfl) (by have := h7 rfl; omega) _ (HBN _ hB2).out (HN _ hB2).out)
    unfold SetD.val at c2
    obtain ⟨z0, z1, z2, z3, z4⟩ := hG.get
    rw [← HU.out] at c2
    clear hG
    go_wp2_with fail
    refine c2.out.mono ?_
    clear c2
    rintro e w2 ⟨rfl, hb2⟩
    have hB3 := hB2.trans (hb2.mono hB2.size)
    clear hb2 hB2
    go_wp2
    go_ret
    exact ⟨rfl, hB3⟩

set_option maxHeartbeats 1000000 in
theorem Mark_calls (s : SetD) (hi : s.ints) (vb : Value) (v : Value) (l : List Int) (hli : ∀ x ∈ l, isInt x) (hl : l.length ≤ 100000000) (w : World) (hE : Env w) (hb0 : IsNums vb s.bs w) (hv : IsNums v l w) :
    Calls Tryz.prog 11 #[s.val vb, v] w fun e w' => e = .returned (.int .i64 (if (s.valid && s.attrB l) = true then s.markT l else 0)) ∧ Below w.heap.size w w' := by
  obtain ⟨a, c, rfl⟩ := hv.len
  obtain ⟨ab, cb, rfl⟩ := hb0.len
  have hb := below_one w (.cells (s.cells (.slice ab s.bs.length cb)) 33)
  have hS : SetAt s (.slice ab s.bs.length cb) w.heap.size (w.alloc (.cells (s.cells (.slice ab s.bs.length cb)) 33)) := Blk.new w _ _
  have c1 := Lib.hid (open_calls s hi (.slice ab s.bs.length cb) _ (hE.next hb) (hb0.next hb))
  have HBN := fun w' (h : Below w.heap.size w w') => Lib.hid (hb0.next h)
  obtain ⟨A, hA⟩ : ∃ z, z = s.attrB l := ⟨_, rfl⟩
  rw [← hA]
  have HA := Lib.hid hA
  clear hA
  obtain ⟨M, hM⟩ : ∃ z, z = s.markT l := ⟨_, rfl⟩
  rw [← hM]
  have HM := Lib.hid hM
  clear hM
  have HN := fun w' (h : Below w.heap.size w w') => Lib.hid (hv.next h)
  generalize hV : s.valid = V at *
  have HV := Lib.hid hV
  have h2 : V = true → 2 ≤ s.bs.length := fun e => by rw [e] at hV; exact valid_bases hV
  have h7 : V = true → s.bs.length ≤ 7 := fun e => by rw [e] at hV; exact valid_bases7 hV
  unfold SetD.val at *
  unfold SetD.cells at hS hb c1
  obtain ⟨z0, z1, z2, z3, z4⟩ := hS.get
  clear hE hb0 hS hV hv
  go_enter Tryz.func11, Tryz.ntmps11
  go_wp2_with fail
  generalize w.alloc (.cells #[.int .i64 s.P, .int .i64 s.Q, .int .i64 s.G, .slice ab s.bs.length cb, .int .i64 s.H] 33) = W0 at *
  refine c1.out.mono ?_
  clear c1 z0 z1 z2 z3 z4
  rintro e w1 ⟨rfl, hb1⟩
  have hB1 := hb.trans (hb1.mono hb.size)
  have hB2 := Below.alloc_ hB1 (.cells #[.int .i64 s.P, .int .i64 s.Q, .int .i64 s.G, .slice ab s.bs.length cb, .int .i64 s.H] 59)
  have hG : GAt s (.slice ab s.bs.length cb) w1.heap.size (w1.alloc (.cells #[.int .i64 s.P, .int .i64 s.Q, .int .i64 s.G, .slice ab s.bs.length cb, .int .i64 s.H] 59)) := Blk.new w1 _ _
  clear hb hb1 hB1
  cases V
  · go_wp2
    go_ret
    exact ⟨rfl, hB2⟩
  · have c2 := Lib.hid (attr_calls s (.slice ab s.bs.length cb) (.slice a l.length c) l (by omega) (h2 rfl) (by have := h7 rfl; omega) _ (HBN _ hB2).out (HN _ hB2).out)
    have c3 := fun w' (h : Below w.heap.size w w') => Lib.hid (gmark_calls s hi (.slice ab s.bs.length cb) (.slice a l.length c) l hli hl (by have := h7 rfl; omega) w' (HBN _ h).out (HN _ h).out)
    unfold SetD.val at c2 c3
    obtain ⟨z0, z1, z2, z3, z4⟩ := hG.get
    rw [← HA.out] at c2
    simp only [← HM.out] at c3
    go_wp2_with fail
    generalize w1.alloc (.cells #[.int .i64 s.P, .int .i64 s.Q, .int .i64 s.G, .slice ab s.bs.length cb, .int .i64 s.H] 59) = W2 at *
    have hG2 : GAt s (.slice ab s.bs.length cb) w1.heap.size W2 := hG
    refine c2.out.mono ?_
    clear c2 z0 z1 z2 z3 z4 hG
    rintro e w2 ⟨rfl, hb2⟩
    have hB3 := hB2.trans (hb2.mono hB2.size)
    obtain ⟨z0, z1, z2, z3, z4⟩ := (hG2.next hb2).get
    clear hb2 hB2 hG2
    cases A
    · go_wp2
      go_ret
      exact ⟨rfl, hB3⟩
    · have c3 := c3 _ hB3
      go_wp2_with fail
      refine c3.out.mono ?_
      clear c3
      rintro e w3 ⟨rfl, hb3⟩
      have hB4 := hB3.trans (hb3.mono hB3.size)
      clear hb3 hB3
      go_wp2
      go_ret
      exact ⟨rfl, hB4⟩

set_option maxHeartbeats 1000000 in
theorem Public_calls (s : SetD) (hi : s.ints) (vb : Value) (x : Int) (hx : isInt x) (w : World) (hE : Env w) (hb0 : IsNums vb s.bs w) :
    Calls Tryz.prog 13 #[s.val vb, .int .i64 x] w fun e w' => e = .returned (.int .i64 (if (s.valid && facsB s.Q [x]) = true then s.pw s.G x else 0)) ∧ Below w.heap.size w w' := by
  obtain ⟨ab, cb, rfl⟩ := hb0.len
  have hb := below_one w (.cells (s.cells (.slice ab s.bs.length cb)) 33)
  have hS : SetAt s (.slice ab s.bs.length cb) w.heap.size (w.alloc (.cells (s.cells (.slice ab s.bs.length cb)) 33)) := Blk.new w _ _
  have c1 := Lib.hid (open_calls s hi (.slice ab s.bs.length cb) _ (hE.next hb) (hb0.next hb))
  have HBN := fun w' (h : Below w.heap.size w w') => Lib.hid (hb0.next h)
  obtain ⟨A, hA⟩ : ∃ z, z = facsB s.Q [x] := ⟨_, rfl⟩
  rw [← hA]
  have HA := Lib.hid hA
  clear hA
  obtain ⟨M, hM⟩ : ∃ z, z = s.pw s.G x := ⟨_, rfl⟩
  rw [← hM]
  have HM := Lib.hid hM
  clear hM
  generalize hV : s.valid = V at *
  have HV := Lib.hid hV
  have h2 : V = true → 2 ≤ s.bs.length := fun e => by rw [e] at hV; exact valid_bases hV
  have h7 : V = true → s.bs.length ≤ 7 := fun e => by rw [e] at hV; exact valid_bases7 hV
  unfold SetD.val at *
  unfold SetD.cells at hS hb c1
  obtain ⟨z0, z1, z2, z3, z4⟩ := hS.get
  clear hE hb0 hS hV
  go_enter Tryz.func13, Tryz.ntmps13
  go_wp2_with fail
  generalize w.alloc (.cells #[.int .i64 s.P, .int .i64 s.Q, .int .i64 s.G, .slice ab s.bs.length cb, .int .i64 s.H] 33) = W0 at *
  refine c1.out.mono ?_
  clear c1 z0 z1 z2 z3 z4
  rintro e w1 ⟨rfl, hb1⟩
  have hB1 := hb.trans (hb1.mono hb.size)
  have hB2 := Below.alloc_ hB1 (.cells #[.int .i64 s.P, .int .i64 s.Q, .int .i64 s.G, .slice ab s.bs.length cb, .int .i64 s.H] 59)
  have hG : GAt s (.slice ab s.bs.length cb) w1.heap.size (w1.alloc (.cells #[.int .i64 s.P, .int .i64 s.Q, .int .i64 s.G, .slice ab s.bs.length cb, .int .i64 s.H] 59)) := Blk.new w1 _ _
  clear hb hb1 hB1
  cases V
  · go_wp2
    go_ret
    exact ⟨rfl, hB2⟩
  · have hn := nums_one (w1.alloc (.cells #[.int .i64 s.P, .int .i64 s.Q, .int .i64 s.G, .slice ab s.bs.length cb, .int .i64 s.H] 59)) x
    have hB2' := Below.alloc_ hB2 (.cells #[.int .i64 x] 3)
    have hG2 := hG.next (below_one _ (.cells #[.int .i64 x] 3))
    rw [alloc_size] at hn
    have c2 := Lib.hid (facs_calls s (.slice ab s.bs.length cb) _ [x] (by simp) _ hn)
    have c3 := fun w' => Lib.hid (gpower_calls s (.slice ab s.bs.length cb) s.G x hi.G hx w')
    unfold SetD.val at c2 c3
    obtain ⟨z0, z1, z2, z3, z4⟩ := hG.get
    rw [← HA.out] at c2
    simp only [← HM.out] at c3
    clear hn hG hB2
    go_wp2_with fail
    generalize (w1.alloc (.cells #[.int .i64 s.P, .int .i64 s.Q, .int .i64 s.G, .slice ab s.bs.length cb, .int .i64 s.H] 59)).alloc (.cells #[.int .i64 x] 3) = W2 at *
    refine c2.out.mono ?_
    clear c2 z0 z1 z2 z3 z4
    rintro e w2 ⟨rfl, hb2⟩
    have hB3 := hB2'.trans (hb2.mono hB2'.size)
    obtain ⟨z0, z1, z2, z3, z4⟩ := (hG2.next hb2).get
    clear hb2 hB2' hG2
    cases A
    · go_wp2
      go_ret
      exact ⟨rfl, hB3⟩
    · go_wp2_with fail
      refine (c3 _).out.mono ?_
      clear c3
      rintro e w3 ⟨rfl, hb3⟩
      have hB4 := hB3.trans (hb3.mono hB3.size)
      clear hb3 hB3
      go_wp2
      go_ret
      exact ⟨rfl, hB4⟩

end Go.Proofs.YtmgamngdmhnffaaGreatDoor
