/- The claim that an element is a power of Blind. -/
import Derived.Test.YthnkfjjgccabeaaGreatDoorWeigh
namespace Go.Proofs.YthnkfjjgccabeaaGreatDoor
open Go.RowKit

/-- The claim that an element is a power of Blind. -/
def SetD.pob (s : SetD) (x : Int) : ClaimD := ⟨1, [⟨x, [(0, s.H)]⟩]⟩
/-- A claim, passed by value. -/
def ClaimIs (lo : Nat) (v : Value) (c : ClaimD) (w : World) : Prop := ∃ u, v = .agg #[.int .i64 c.vars, u] ∧ IsEqs lo u c.eqs w
def ClaimRet (c : ClaimD) (w : World) (e : Ending) (w' : World) : Prop := ∃ v, e = .returned v ∧ ClaimIs w.heap.size v c w' ∧ Below w.heap.size w w'

theorem alloc_size (w : World) (o : Obj) : (w.alloc o).heap.size = w.heap.size + 1 := by simp
theorem Blk.new' {w : World} {n : Nat} (h : w.heap.size = n) (t : TypeId) (cs : Array Value) : Blk (w.alloc (.cells cs t)) n t cs := h ▸ Blk.new w t cs
theorem Blk.alloc' {w : World} {g : Nat} {t : TypeId} {cs : Array Value} (h : Blk w g t cs) (o : Obj) : Blk (w.alloc o) g t cs := Blk.next h (below_one w o)
theorem Below.alloc_ {a w : World} (h : Below a.heap.size a w) (o : Obj) : Below a.heap.size a (w.alloc o) := h.trans ((below_one w o).mono h.size)
set_option maxRecDepth 100000 in
set_option maxHeartbeats 2000000 in
theorem pob_calls (s : SetD) (vb : Value) (x : Int) (w : World) :
    Calls Tryz.prog 45 #[s.val vb, .int .i64 x] w (ClaimRet (s.pob x) w) := by
  have hb := below_one w (.cells (s.cells vb) 34)
  have hS : SetAt s vb w.heap.size (w.alloc (.cells (s.cells vb) 34)) := Blk.new w _ _
  unfold SetD.val
  unfold SetD.cells at hS hb
  obtain ⟨z0, z1, z2, z3, z4⟩ := hS.get
  go_enter Tryz.func45, Tryz.ntmps45
  go_wp2_with fail
  have e0 := alloc_size w (.cells #[.int .i64 s.P, .int .i64 s.Q, .int .i64 s.G, vb, .int .i64 s.H] 34)
  clear hS z0 z1 z2 z3 z4
  generalize w.alloc (.cells #[.int .i64 s.P, .int .i64 s.Q, .int .i64 s.G, vb, .int .i64 s.H] 34) = W0 at *
  have B1 := Blk.new' e0 66 #[.int .i64 1, .slice (some ⟨w.heap.size + 1 + 1 + 1, 0, none⟩) 1 1]
  have e1 := alloc_size W0 (.cells #[.int .i64 1, .slice (some ⟨w.heap.size + 1 + 1 + 1, 0, none⟩) 1 1] 66)
  rw [e0] at e1
  have hb1 := Below.alloc_ hb (.cells #[.int .i64 1, .slice (some ⟨w.heap.size + 1 + 1 + 1, 0, none⟩) 1 1] 66)
  generalize W0.alloc (.cells #[.int .i64 1, .slice (some ⟨w.heap.size + 1 + 1 + 1, 0, none⟩) 1 1] 66) = W1 at *
  have B2 := Blk.new' e1 93 #[.int .i64 0, .int .i64 s.H]
  have C1 := B1.alloc' (.cells #[.int .i64 0, .int .i64 s.H] 93)
  have e2 := alloc_size W1 (.cells #[.int .i64 0, .int .i64 s.H] 93)
  rw [e1] at e2
  have hb2 := Below.alloc_ hb1 (.cells #[.int .i64 0, .int .i64 s.H] 93)
  clear B1 hb hb1
  generalize W1.alloc (.cells #[.int .i64 0, .int .i64 s.H] 93) = W2 at *
  have B3 := Blk.new' e2 91 #[.int .i64 x, .slice (some ⟨w.heap.size + 1 + 1, 0, none⟩) 1 1]
  have C2 := B2.alloc' (.cells #[.int .i64 x, .slice (some ⟨w.heap.size + 1 + 1, 0, none⟩) 1 1] 91)
  have D1 := C1.alloc' (.cells #[.int .i64 x, .slice (some ⟨w.heap.size + 1 + 1, 0, none⟩) 1 1] 91)
  have e3 := alloc_size W2 (.cells #[.int .i64 x, .slice (some ⟨w.heap.size + 1 + 1, 0, none⟩) 1 1] 91)
  rw [e2] at e3
  have hb3 := Below.alloc_ hb2 (.cells #[.int .i64 x, .slice (some ⟨w.heap.size + 1 + 1, 0, none⟩) 1 1] 91)
  clear B2 C1 hb2
  generalize W2.alloc (.cells #[.int .i64 x, .slice (some ⟨w.heap.size + 1 + 1, 0, none⟩) 1 1] 91) = W3 at *
  refine bodyPost_ret (v := .agg #[.int .i64 1, .slice (some ⟨w.heap.size + 1 + 1 + 1, 0, none⟩) 1 1]) (by
    have c0 := D1.cell 0
    have c1 := D1.cell 1
    simp [results, Tryz.results45, go_sem] at c0 c1 ⊢
    simp [c0, c1]) rfl ?_
  refine ⟨_, rfl, ⟨_, rfl, ?_⟩, hb3⟩
  refine IsSl.single (by omega) (by omega) ⟨B3.cell 0, _, B3.cell 1, ?_⟩
  exact IsSl.single (by omega) (by omega) ⟨C2.cell 0, C2.cell 1⟩
end Go.Proofs.YthnkfjjgccabeaaGreatDoor
