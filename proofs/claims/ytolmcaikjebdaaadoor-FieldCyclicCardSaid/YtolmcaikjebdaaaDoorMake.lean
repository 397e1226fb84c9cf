/- Making a group. -/
import Derived.Test.YtolmcaikjebdaaaDoorGrp2
namespace Go.Proofs.YtolmcaikjebdaaaDoor
open Go.RowKit

def mkP (q : Int) : Int := wrap64 (wrap64 (2 * q) + 1)
def makeV (q : Int) : Value := if validB (mkP q) q 4 = true then .tuple #[.agg #[.int .i64 (mkP q), .int .i64 q, .int .i64 4], .bool true] else .tuple #[.agg #[.int .i64 0, .int .i64 0, .int .i64 0], .bool false]
set_option maxHeartbeats 1000000 in
theorem make_calls (q : Int) (hq : isInt q) (w : World) (hE : Env w) :
    Calls Tryd.prog 23 #[.int .i64 q] w fun e w' => e = .returned (makeV q) ∧ Below w.heap.size w w' := by
  have hp : isInt (mkP q) := by unfold isInt mkP wrap64; omega
  have c1 := fun w hE => Lib.hid (valid_calls (mkP q) q 4 hp hq (by unfold isInt; omega) w hE)
  obtain ⟨MV, hMV⟩ : ∃ MV, MV = makeV q := ⟨_, rfl⟩
  rw [← hMV]
  unfold makeV at hMV
  have HR := Lib.hid hMV
  clear hMV
  generalize validB (mkP q) q 4 = v at *
  have hP : wrap64 (wrap64 (2 * q) + 1) = mkP q := rfl
  generalize mkP q = P at *
  have hw0 : Below w.heap.size w ((w.alloc (.cells #[.int .i64 0, .int .i64 0, .int .i64 0] 29)).alloc (.cells #[.int .i64 P, .int .i64 q, .int .i64 4] 29)) ∧ Blk ((w.alloc (.cells #[.int .i64 0, .int .i64 0, .int .i64 0] 29)).alloc (.cells #[.int .i64 P, .int .i64 q, .int .i64 4] 29)) w.heap.size 29 #[.int .i64 0, .int .i64 0, .int .i64 0] ∧ Blk ((w.alloc (.cells #[.int .i64 0, .int .i64 0, .int .i64 0] 29)).alloc (.cells #[.int .i64 P, .int .i64 q, .int .i64 4] 29)) (w.heap.size + 1) 29 #[.int .i64 P, .int .i64 q, .int .i64 4] := by
    refine ⟨((Below.refl _ _).alloc (Nat.le_refl _) _).alloc (by simp) _, (Blk.new w _ _).alloc _, ?_⟩
    have h := Blk.new (w.alloc (.cells #[.int .i64 0, .int .i64 0, .int .i64 0] 29)) 29 #[.int .i64 P, .int .i64 q, .int .i64 4]
    have e : (w.alloc (.cells #[.int .i64 0, .int .i64 0, .int .i64 0] 29)).heap.size = w.heap.size + 1 := by simp
    rw [e] at h
    exact h
  go_enter Tryd.func23, Tryd.ntmps23
  go_wp2_with fail
  generalize ((w.alloc (.cells #[.int .i64 0, .int .i64 0, .int .i64 0] 29)).alloc (.cells #[.int .i64 P, .int .i64 q, .int .i64 4] 29)) = W0 at *
  obtain ⟨hb, hZ, hB⟩ := hw0
  have hE0 := hE.next hb
  have h9 := (c1 W0 hE0).out
  clear c1
  refine Calls.mono h9 ?_
  rintro e w1 ⟨rfl, hb1⟩
  obtain ⟨hB1, z0, z1, z2⟩ := grp_cells hB hb1
  obtain ⟨hZ1, y0, y1, y2⟩ := grp_cells hZ hb1
  have f0 := fun i => hZ1.frozen i
  have hbb := hb.trans (hb1.mono hb.size)
  clear hB hZ hb hb1 hE hE0
  cases v
  · have hMV := HR.out
    rw [if_neg (by simp)] at hMV
    have HR2 := Lib.hid hMV
    clear hMV HR hP
    go_wp2
    refine bodyPost_ret (v := MV) (by rw [HR2.out]; simp [results, Tryd.results23, go_sem, y0, y1, y2]) rfl ⟨rfl, ?_⟩
    exact ((hbb.setCell (p := ⟨w.heap.size, 0, none⟩) (Nat.le_refl _) _).setCell (p := ⟨w.heap.size, 1, none⟩) (Nat.le_refl _) _).setCell (p := ⟨w.heap.size, 2, none⟩) (Nat.le_refl _) _
  · have hMV := HR.out
    rw [if_pos rfl] at hMV
    have HR2 := Lib.hid hMV
    clear hMV HR hP
    go_wp2
    refine bodyPost_ret (v := MV) (by rw [HR2.out]; simp [results, Tryd.results23, go_sem, y0, y1, y2]) rfl ⟨rfl, ?_⟩
    exact ((hbb.setCell (p := ⟨w.heap.size, 0, none⟩) (Nat.le_refl _) _).setCell (p := ⟨w.heap.size, 1, none⟩) (Nat.le_refl _) _).setCell (p := ⟨w.heap.size, 2, none⟩) (Nat.le_refl _) _
end Go.Proofs.YtolmcaikjebdaaaDoor
