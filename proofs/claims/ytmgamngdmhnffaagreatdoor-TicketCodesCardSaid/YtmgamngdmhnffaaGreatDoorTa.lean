/- Well formed tickets, spends that are accepted, blindings. -/
import Derived.Test.YtmgamngdmhnffaaGreatDoorTp
namespace Go.Proofs.YtmgamngdmhnffaaGreatDoor
open Go.RowKit

def TktD.val (t : TktD) : Value := .agg #[.int .i64 t.mark, .int .i64 t.first, .int .i64 t.z, .int .i64 t.a, .int .i64 t.b, .int .i64 t.r]
structure TktD.ints (t : TktD) : Prop where
  mark : isInt t.mark
  first : isInt t.first
  z : isInt t.z
  a : isInt t.a
  b : isInt t.b
  r : isInt t.r
theorem nums_arr {w : World} {g : Nat} {t : TypeId} {l : List Int} (h : Blk w g t (l.map (Value.int .i64)).toArray) : IsNums (.slice (some ⟨g, 0, none⟩) l.length l.length) l w := by
  refine .inr ⟨g, 0, l.length, rfl, h.lt, fun i x hi => ?_⟩
  rw [Nat.zero_add, h.cell i]
  simp [hi]
def DoesE (w0 : World) (f : FuncId) (args : Array Value) (v : Value) : Prop :=
  ∀ (args' : Array Value) (w : World), args' = args → Below w0.heap.size w0 w → Calls Tryz.prog f args' w fun e w' => e = .returned v ∧ Below w0.heap.size w0 w' ∧ Below w.heap.size w w'
theorem DoesE.mk {w0 : World} {f : FuncId} {args : Array Value} {v : Value} (h : ∀ w, Below w0.heap.size w0 w → Calls Tryz.prog f args w fun e w' => e = .returned v ∧ Below w.heap.size w w') : DoesE w0 f args v := by
  intro args' w he hb
  subst he
  exact (h w hb).mono fun _ _ ⟨a, b⟩ => ⟨a, hb.trans (b.mono hb.size), b⟩

set_option maxHeartbeats 1000000 in
theorem form_calls (s : SetD) (hi : s.ints) (vb : Value) (t : TktD) (ht : t.ints) (w : World) :
    Calls Tryz.prog 49 #[s.val vb, t.val] w fun e w' => e = .returned (.bool (s.formB t)) ∧ Below w.heap.size w w' := by
  have HF : Hid (s.formB t = ([t.mark, t.first, t.z, t.a, t.b].all s.el && (decide (t.mark ≠ 1) && [t.r].all (exB s.Q)))) := rfl
  obtain ⟨W0, hW0⟩ : ∃ W0, W0 = (w.alloc (.cells (s.cells vb) 59)).alloc (.cells #[.int .i64 t.mark, .int .i64 t.first, .int .i64 t.z, .int .i64 t.a, .int .i64 t.b, .int .i64 t.r] 23) := ⟨_, rfl⟩
  have hb : Below w.heap.size w W0 := by rw [hW0]; exact Below.alloc_ (below_one w _) _
  have hS : GAt s vb w.heap.size W0 := by rw [hW0]; exact Blk.alloc' (Blk.new w _ _) _
  have hT : Blk W0 (w.heap.size + 1) 23 #[.int .i64 t.mark, .int .i64 t.first, .int .i64 t.z, .int .i64 t.a, .int .i64 t.b, .int .i64 t.r] := by rw [hW0]; exact Blk.new' (alloc_size w _) _ _
  have hs : W0.heap.size = w.heap.size + 1 + 1 := by rw [hW0, alloc_size, alloc_size]
  have hn := nums_arr (l := [t.mark, t.first, t.z, t.a, t.b]) (Blk.new' hs 3 #[.int .i64 t.mark, .int .i64 t.first, .int .i64 t.z, .int .i64 t.a, .int .i64 t.b])
  have hb2 := Below.alloc_ hb (.cells #[.int .i64 t.mark, .int .i64 t.first, .int .i64 t.z, .int .i64 t.a, .int .i64 t.b] 3)
  have c1 := Lib.hid (elems_calls s hi vb _ [t.mark, t.first, t.z, t.a, t.b] (by
    intro x hx
    simp only [List.mem_cons, List.not_mem_nil, or_false] at hx
    rcases hx with rfl | rfl | rfl | rfl | rfl
    · exact ht.mark
    · exact ht.first
    · exact ht.z
    · exact ht.a
    · exact ht.b) (by simp) _ hn)
  have hS2 := hS.next (below_one W0 (.cells #[.int .i64 t.mark, .int .i64 t.first, .int .i64 t.z, .int .i64 t.a, .int .i64 t.b] 3))
  have hT2 := hT.next (below_one W0 (.cells #[.int .i64 t.mark, .int .i64 t.first, .int .i64 t.z, .int .i64 t.a, .int .i64 t.b] 3))
  obtain ⟨z0, z1, z2, z3, z4⟩ := hS.get
  have y0 := hT.cell 0
  have y1 := hT.cell 1
  have y2 := hT.cell 2
  have y3 := hT.cell 3
  have y4 := hT.cell 4
  have y5 := hT.cell 5
  have c1' : Hid (Calls Tryz.prog 67 #[.agg #[.int .i64 s.P, .int .i64 s.Q, .int .i64 s.G, vb, .int .i64 s.H], .slice (some ⟨w.heap.size + 1 + 1, 0, none⟩) 5 5] (W0.alloc (.cells #[.int .i64 t.mark, .int .i64 t.first, .int .i64 t.z, .int .i64 t.a, .int .i64 t.b] 3)) fun e w' => e = .returned (.bool ([t.mark, t.first, t.z, t.a, t.b].all s.el)) ∧ Below (W0.alloc (.cells #[.int .i64 t.mark, .int .i64 t.first, .int .i64 t.z, .int .i64 t.a, .int .i64 t.b] 3)).heap.size (W0.alloc (.cells #[.int .i64 t.mark, .int .i64 t.first, .int .i64 t.z, .int .i64 t.a, .int .i64 t.b] 3)) w') := c1.out
  unfold SetD.val TktD.val
  unfold SetD.cells at hW0
  rw [hW0] at z0 z1 z2 z3 z4 y0 y1 y2 y3 y4 y5 c1'
  have HW0 := Lib.hid hW0
  generalize [t.mark, t.first, t.z, t.a, t.b].all s.el = E at *
  clear hS hT hs hn c1 hb hW0
  go_enter Tryz.func49, Tryz.ntmps49
  go_wp2_with fail
  refine c1'.out.mono ?_
  clear c1' z0 z1 z2 z3 z4 y0 y1 y2 y3 y4 y5
  rintro e w1 ⟨rfl, hb1⟩
  rw [← HW0.out] at hb1
  have hB1 := hb2.trans (hb1.mono hb2.size)
  have hS3 := hS2.next hb1
  have hT3 := hT2.next hb1
  clear hb2 hS2 hT2 hb1
  cases E
  · have HR : Hid (s.formB t = false) := by show _ = _; rw [HF.out]; rfl
    go_wp2
    go_ret
    exact ⟨ret_b HR.out.symm, hB1⟩
  · have y0 := hT3.cell 0
    have y5 := hT3.cell 5
    by_cases h1 : t.mark = 1
    · have HR : Hid (s.formB t = false) := by show _ = _; rw [HF.out, h1]; rfl
      have hbn : (t.mark != 1) = false := by simp [h1]
      clear h1
      go_wp2
      go_ret
      exact ⟨ret_b HR.out.symm, hB1⟩
    · have HR : Hid (s.formB t = [t.r].all (exB s.Q)) := by show _ = _; rw [HF.out, decide_eq_true h1]; rfl
      have hbn : (t.mark != 1) = true := bne_iff_ne.2 h1
      have hn := nums_one w1 t.r
      have hb4 := Below.alloc_ hB1 (.cells #[.int .i64 t.r] 3)
      have c2 := Lib.hid (nums_calls s vb _ [t.r] (by simp) _ hn)
      obtain ⟨z0, z1, z2, z3, z4⟩ := hS3.get
      generalize [t.r].all (exB s.Q) = N at *
      unfold SetD.val at c2
      clear h1 hn hS3 hT3 hB1 HF
      go_wp2_with fail
      refine c2.out.mono ?_
      clear c2
      rintro e w2 ⟨rfl, hb5⟩
      have hB5 := hb4.trans (hb5.mono hb4.size)
      clear hb4 hb5
      go_wp2
      go_ret
      exact ⟨ret_b HR.out.symm, hB5⟩
end Go.Proofs.YtmgamngdmhnffaaGreatDoor
