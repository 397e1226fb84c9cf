/- Opening a setup; marks, keys and answers by the exported functions. -/
import Derived.Test.YtmgamngdmhnffaaGreatDoorTm
namespace Go.Proofs.YtmgamngdmhnffaaGreatDoor
open Go.RowKit

/-- A world in which the five cells of a block were written. -/
def set5 (w : World) (b : Nat) (v0 v1 v2 v3 v4 : Value) : World :=
  ((((w.setCell ⟨b, 0, none⟩ v0).setCell ⟨b, 1, none⟩ v1).setCell ⟨b, 2, none⟩ v2).setCell ⟨b, 3, none⟩ v3).setCell ⟨b, 4, none⟩ v4
theorem set5_blk {w : World} {b : Nat} {t : TypeId} {x0 x1 x2 x3 x4 : Value} (h : Blk w b t #[x0, x1, x2, x3, x4]) (v0 v1 v2 v3 v4 : Value) : Blk (set5 w b v0 v1 v2 v3 v4) b t #[v0, v1, v2, v3, v4] := by
  have := ((((h.set_ 0 v0).set_ 1 v1).set_ 2 v2).set_ 3 v3).set_ 4 v4
  simpa [set5] using this
theorem set5_far {w : World} {b b' : Nat} {t : TypeId} {cs : Array Value} (h : Blk w b' t cs) (hne : b' ≠ b) (v0 v1 v2 v3 v4 : Value) : Blk (set5 w b v0 v1 v2 v3 v4) b' t cs :=
  ((((h.far (p := ⟨b, 0, none⟩) hne v0).far (p := ⟨b, 1, none⟩) hne v1).far (p := ⟨b, 2, none⟩) hne v2).far (p := ⟨b, 3, none⟩) hne v3).far (p := ⟨b, 4, none⟩) hne v4
theorem set5_below {a w : World} {B b : Nat} (h : Below B a w) (hb : B ≤ b) (v0 v1 v2 v3 v4 : Value) : Below B a (set5 w b v0 v1 v2 v3 v4) :=
  ((((h.setCell (p := ⟨b, 0, none⟩) hb v0).setCell (p := ⟨b, 1, none⟩) hb v1).setCell (p := ⟨b, 2, none⟩) hb v2).setCell (p := ⟨b, 3, none⟩) hb v3).setCell (p := ⟨b, 4, none⟩) hb v4

set_option maxRecDepth 100000 in
set_option maxHeartbeats 1000000 in
theorem open_calls (s : SetD) (hi : s.ints) (vb : Value) (w : World) (hE : Env w) (hb0 : IsNums vb s.bs w) :
    Calls Tryz.prog 21 #[s.val vb] w fun e w' => e = .returned (.tuple #[s.val vb, .bool s.valid]) ∧ Below w.heap.size w w' := by
  obtain ⟨ab, cb, rfl⟩ := hb0.len
  have hb := Below.alloc_ (below_one w (.cells (s.cells (.slice ab s.bs.length cb)) 33)) (.cells #[.int .i64 0, .int .i64 0, .int .i64 0, .slice none 0 0, .int .i64 0] 59)
  have hS : SetAt s (.slice ab s.bs.length cb) w.heap.size ((w.alloc (.cells (s.cells (.slice ab s.bs.length cb)) 33)).alloc (.cells #[.int .i64 0, .int .i64 0, .int .i64 0, .slice none 0 0, .int .i64 0] 59)) := Blk.alloc' (Blk.new w _ _) _
  have hP := Blk.new' (alloc_size w (.cells (s.cells (.slice ab s.bs.length cb)) 33)) 59 #[.int .i64 0, .int .i64 0, .int .i64 0, .slice none 0 0, .int .i64 0]
  have c1 := fun w' (h : Below w.heap.size w w') => Lib.hid (vset_calls s hi (.slice ab s.bs.length cb) w' (hE.next h) (hb0.next h))
  generalize s.valid = V at *
  unfold SetD.val at *
  unfold SetD.cells at hS hb hP
  obtain ⟨z0, z1, z2, z3, z4⟩ := hS.get
  clear hE hb0
  go_enter Tryz.func21, Tryz.ntmps21
  go_wp2
  generalize (w.alloc (.cells #[.int .i64 s.P, .int .i64 s.Q, .int .i64 s.G, .slice ab s.bs.length cb, .int .i64 s.H] 33)).alloc (.cells #[.int .i64 0, .int .i64 0, .int .i64 0, .slice none 0 0, .int .i64 0] 59) = W at *
  have hS0 : SetAt s (.slice ab s.bs.length cb) w.heap.size W := hS
  have HK : Hid (∀ w', Below W.heap.size W w' → (w'.cell? ⟨w.heap.size, 0, none⟩ = some (.int .i64 s.P) ∧ w'.cell? ⟨w.heap.size, 1, none⟩ = some (.int .i64 s.Q) ∧ w'.cell? ⟨w.heap.size, 2, none⟩ = some (.int .i64 s.G) ∧ w'.cell? ⟨w.heap.size, 3, none⟩ = some (.slice ab s.bs.length cb) ∧ w'.cell? ⟨w.heap.size, 4, none⟩ = some (.int .i64 s.H) ∧ Below w.heap.size w w')) := by
    show ∀ w', _
    intro w' h
    obtain ⟨z0, z1, z2, z3, z4⟩ := (hS0.next h).get
    exact ⟨z0, z1, z2, z3, z4, hb.trans (h.mono hb.size)⟩
  have HK2 : Hid (∀ w' v0 v1 v2 v3 v4, Below W.heap.size W w' → ((set5 w' (w.heap.size + 1) v0 v1 v2 v3 v4).cell? ⟨w.heap.size, 0, none⟩ = some (.int .i64 s.P) ∧ (set5 w' (w.heap.size + 1) v0 v1 v2 v3 v4).cell? ⟨w.heap.size, 1, none⟩ = some (.int .i64 s.Q) ∧ (set5 w' (w.heap.size + 1) v0 v1 v2 v3 v4).cell? ⟨w.heap.size, 2, none⟩ = some (.int .i64 s.G) ∧ (set5 w' (w.heap.size + 1) v0 v1 v2 v3 v4).cell? ⟨w.heap.size, 3, none⟩ = some (.slice ab s.bs.length cb) ∧ (set5 w' (w.heap.size + 1) v0 v1 v2 v3 v4).cell? ⟨w.heap.size, 4, none⟩ = some (.int .i64 s.H) ∧ Below w.heap.size w (set5 w' (w.heap.size + 1) v0 v1 v2 v3 v4))) := by
    show ∀ w' v0 v1 v2 v3 v4, _
    intro w' v0 v1 v2 v3 v4 h
    have hB : SetAt s (.slice ab s.bs.length cb) w.heap.size (set5 w' (w.heap.size + 1) v0 v1 v2 v3 v4) := set5_far (hS0.next h) (by omega) _ _ _ _ _
    obtain ⟨z0, z1, z2, z3, z4⟩ := hB.get
    exact ⟨z0, z1, z2, z3, z4, set5_below (hb.trans (h.mono hb.size)) (by omega) _ _ _ _ _⟩
  have k1 : Hid (∀ w', Below W.heap.size W w' → Calls Tryz.prog 40 #[.agg #[.int .i64 s.P, .int .i64 s.Q, .int .i64 s.G, .slice ab s.bs.length cb, .int .i64 s.H]] w' fun e w'' => e = .returned (.bool V) ∧ Below W.heap.size W w'') := by
    show ∀ w', _
    intro w' h
    refine (c1 w' (hb.trans (h.mono hb.size))).out.mono ?_
    rintro e w'' ⟨h1, h2⟩
    exact ⟨h1, h.trans (h2.mono h.size)⟩
  have HB := Lib.hid hb
  clear hS hS0 c1 hb
  go_region_held3 (fun w' => w'.cell? ⟨w.heap.size, 0, none⟩ = some (.int .i64 s.P) ∧ w'.cell? ⟨w.heap.size, 1, none⟩ = some (.int .i64 s.Q) ∧ w'.cell? ⟨w.heap.size, 2, none⟩ = some (.int .i64 s.G) ∧ w'.cell? ⟨w.heap.size, 3, none⟩ = some (.slice ab s.bs.length cb) ∧ w'.cell? ⟨w.heap.size, 4, none⟩ = some (.int .i64 s.H) ∧ Below w.heap.size w w')
    (first | exact HK.out _ (by assumption) | exact HK.out _ (below_drewN (Below.refl W.heap.size W) 1) | exact HK.out _ (Below.refl W.heap.size W) | exact HK2.out _ _ _ _ _ _ (by assumption))
    (first
      | (go_at_call 40; refine Calls.mono (k1.out _ (by first | assumption | exact below_drewN (Below.refl W.heap.size W) 1)) ?_; rintro e w5 ⟨rfl, hb5⟩; have hq := hP.next hb5; have q0 := hq.cell 0; have q1 := hq.cell 1; have q2 := hq.cell 2; have q3 := hq.cell 3; have q4 := hq.cell 4; have qf := hq.frozen))
  all_goals
    have hF := set5_blk hq (.int .i64 s.P) (.int .i64 s.Q) (.int .i64 s.G) (.slice ab s.bs.length cb) (.int .i64 s.H)
    have hBF : Below w.heap.size w (set5 w5 (w.heap.size + 1) (.int .i64 s.P) (.int .i64 s.Q) (.int .i64 s.G) (.slice ab s.bs.length cb) (.int .i64 s.H)) := set5_below (HB.out.trans (hb5.mono HB.out.size)) (by omega) _ _ _ _ _
    unfold set5 at hF hBF
    clear q0 q1 q2 q3 q4 qf hq
    have f0 := hF.cell 0
    have f1 := hF.cell 1
    have f2 := hF.cell 2
    have f3 := hF.cell 3
    have f4 := hF.cell 4
    clear hF
    go_wp2
    refine bodyPost_ret (v := .tuple #[.agg #[.int .i64 s.P, .int .i64 s.Q, .int .i64 s.G, .slice ab s.bs.length cb, .int .i64 s.H], .bool V]) (by simp [results, Tryz.results21, go_sem, f0, f1, f2, f3, f4]) rfl ⟨rfl, hBF⟩
end Go.Proofs.YtmgamngdmhnffaaGreatDoor
