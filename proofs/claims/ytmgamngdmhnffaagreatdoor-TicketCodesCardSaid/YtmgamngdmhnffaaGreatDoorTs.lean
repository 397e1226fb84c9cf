/- The examples. -/
import Derived.Test.YtmgamngdmhnffaaGreatDoorTr
namespace Go.Proofs.YtmgamngdmhnffaaGreatDoor
open Go.RowKit

/-- The literals of the examples, in their blocks. -/
structure Ex (w w' : World) : Prop where
  below : Below w.heap.size w w'
  bs : IsNums (.slice (some ⟨w.heap.size, 0, none⟩) 3 3) [4, 16, 18] w'
  l : IsNums (.slice (some ⟨w.heap.size + 1 + 1, 0, none⟩) 2 2) [5, 7] w'
  ys : IsNums (.slice (some ⟨w.heap.size + 1 + 1 + 1, 0, none⟩) 3 3) [1, 2, 3] w'
  s : Blk w' (w.heap.size + 1) 33 #[.int .i64 23, .int .i64 11, .int .i64 4, .slice (some ⟨w.heap.size, 0, none⟩) 3 3, .int .i64 3]
  b : Blk w' (w.heap.size + 1 + 1 + 1 + 1) 35 #[.int .i64 4, .int .i64 1, .int .i64 0, .slice (some ⟨w.heap.size + 1 + 1 + 1, 0, none⟩) 3 3]
theorem Ex.next {w w' w'' : World} (h : Ex w w') (hb : Below w'.heap.size w' w'') : Ex w w'' :=
  ⟨h.below.trans (hb.mono h.below.size), h.bs.next hb, h.l.next hb, h.ys.next hb, h.s.next hb, h.b.next hb⟩
theorem Ex.start (w : World) : Ex w (((((w.alloc (.cells #[.int .i64 4, .int .i64 16, .int .i64 18] 3)).alloc (.cells #[.int .i64 23, .int .i64 11, .int .i64 4, .slice (some ⟨w.heap.size, 0, none⟩) 3 3, .int .i64 3] 33)).alloc (.cells #[.int .i64 5, .int .i64 7] 3)).alloc (.cells #[.int .i64 1, .int .i64 2, .int .i64 3] 3)).alloc (.cells #[.int .i64 4, .int .i64 1, .int .i64 0, .slice (some ⟨w.heap.size + 1 + 1 + 1, 0, none⟩) 3 3] 35)) := by
  have b1 := nums_arr (l := [4, 16, 18]) (Blk.new w 3 #[.int .i64 4, .int .i64 16, .int .i64 18])
  refine ⟨Below.alloc_ (Below.alloc_ (Below.alloc_ (Below.alloc_ (below_one w _) _) _) _) _, ?_, ?_, ?_, ?_, ?_⟩
  · exact (((b1.next (below_one _ _)).next (below_one _ _)).next (below_one _ _)).next (below_one _ _)
  · exact ((nums_arr (l := [5, 7]) (Blk.new' (by rw [alloc_size, alloc_size]) 3 #[.int .i64 5, .int .i64 7])).next (below_one _ _)).next (below_one _ _)
  · exact (nums_arr (l := [1, 2, 3]) (Blk.new' (by rw [alloc_size, alloc_size, alloc_size]) 3 #[.int .i64 1, .int .i64 2, .int .i64 3])).next (below_one _ _)
  · exact (((Blk.new' (by rw [alloc_size]) _ _).alloc' _).alloc' _).alloc' _
  · exact Blk.new' (by rw [alloc_size, alloc_size, alloc_size, alloc_size]) _ _
end Go.Proofs.YtmgamngdmhnffaaGreatDoor
