/- The example statute; the examples' answers. -/
import Derived.Test.YtkfmhibdoapndaaDoorFew
namespace Go.Proofs.YtkfmhibdoapndaaDoor
open Go.RowKit

def theft : List UInt8 := [116, 104, 101, 102, 116]
def exS : StatD := ⟨[theft], 2, [1, 0, 2]⟩
def exO : OpD := ⟨0, 4, 7, theft, [0, 2], 9⟩
def exT : List UInt8 := [51, 91, 48, 59, 52, 59, 55, 59, 93, 53, 58, 116, 104, 101, 102, 116, 44, 50, 91, 48, 59, 50, 59, 93, 57, 59]
theorem ex_valid : exS.valid = true := by decide +kernel
theorem ex_seat0 : exS.seats 0 = [1] := by decide +kernel
theorem ex_seat1 : exS.seats 1 = [] := by decide +kernel
theorem ex_seat2 : exS.seats 2 = [2, 3] := by decide +kernel
theorem ex_seat3 : exS.seats 3 = [] := by decide +kernel
theorem ex_gov1 : govB [exS] 0 2 3 = true := by decide +kernel
theorem ex_gov2 : govB [exS] 0 2 2 = false := by decide +kernel
theorem ex_gov3 : govB [exS] 1 2 3 = false := by decide +kernel
theorem ex_min : exO.min = exT := by decide +kernel
theorem ex_readF : rmF exT = exO := by
  have h : (rmF exT).ver = 0 ∧ (rmF exT).gate = 4 ∧ (rmF exT).no = 7 ∧ (rmF exT).reason = theft ∧ (rmF exT).jurors = [0, 2] ∧ (rmF exT).holder = 9 := by decide +kernel
  obtain ⟨h1, h2, h3, h4, h5, h6⟩ := h
  cases hF : rmF exT
  rw [hF] at h1 h2 h3 h4 h5 h6
  simp only at h1 h2 h3 h4 h5 h6
  subst h1 h2 h3 h4 h5 h6
  rfl
theorem ex_readB : rmB exT = true := by unfold rmB; rw [ex_readF, ex_min]; exact decide_eq_true rfl
theorem ex_read : rmO exT = exO := by unfold rmO; rw [ex_readB, ex_readF]; rfl
theorem ex_same : exO.same exO = true := by decide +kernel
theorem exS_ok : exS.ok := ⟨show isInt 2 from ⟨by omega, by omega⟩, by decide, by decide, by decide⟩
theorem exO_ok : exO.ok := ⟨show isInt 0 from ⟨by omega, by omega⟩, show isInt 4 from ⟨by omega, by omega⟩, show isInt 7 from ⟨by omega, by omega⟩, show isInt 9 from ⟨by omega, by omega⟩, by decide, by decide, by unfold exO isInt; intro x hx; simp only [List.mem_cons, List.not_mem_nil, or_false] at hx; omega, by decide +kernel⟩

theorem texts_one {w : World} {g : Nat} {t : TypeId} {s : List UInt8} (h : Blk w g t #[.string (bs s)]) : IsTexts 0 (.slice (some ⟨g, 0, none⟩) 1 1) [s] w :=
  IsSl.single (Nat.zero_le _) h.lt (h.cell 0)
set_option maxRecDepth 100000 in
set_option maxHeartbeats 1000000 in
theorem statute_calls (w : World) :
    Calls Tryd.prog 16 #[] w fun e w' => ∃ vr cw g, e = .returned (.agg #[vr, .int .i64 2, .slice (some ⟨g, 0, none⟩) 3 cw]) ∧ IsTexts 0 vr [theft] w' ∧ IsNums (.slice (some ⟨g, 0, none⟩) 3 cw) [1, 0, 2] w' ∧ 3 ≤ cw ∧ Below w.heap.size w w' := by
  obtain ⟨W1, hW1⟩ : ∃ W1, W1 = w.alloc (.cells #[.slice (some ⟨w.heap.size + 1 + 1, 0, none⟩) 1 1, .int .i64 2, .slice (some ⟨w.heap.size + 1, 0, none⟩) 3 3] 25) := ⟨_, rfl⟩
  have s1 : W1.heap.size = w.heap.size + 1 := by rw [hW1, alloc_size]
  have b1 : Below w.heap.size w W1 := by rw [hW1]; exact below_one w _
  have B1 : Blk W1 w.heap.size 25 #[.slice (some ⟨w.heap.size + 1 + 1, 0, none⟩) 1 1, .int .i64 2, .slice (some ⟨w.heap.size + 1, 0, none⟩) 3 3] := by rw [hW1]; exact Blk.new w _ _
  obtain ⟨W2, hW2⟩ : ∃ W2, W2 = W1.alloc (.cells #[.int .i64 1, .int .i64 0, .int .i64 2] 3) := ⟨_, rfl⟩
  have s2 : W2.heap.size = w.heap.size + 1 + 1 := by rw [hW2, alloc_size, s1]
  have b2' : Below W1.heap.size W1 W2 := by rw [hW2]; exact below_one W1 _
  have B2 : Blk W2 (w.heap.size + 1) 3 #[.int .i64 1, .int .i64 0, .int .i64 2] := by rw [hW2]; exact Blk.new' s1 _ _
  obtain ⟨W3, hW3⟩ : ∃ W3, W3 = W2.alloc (.cells #[.string ⟨#[116, 104, 101, 102, 116]⟩] 9) := ⟨_, rfl⟩
  have b3' : Below W2.heap.size W2 W3 := by rw [hW3]; exact below_one W2 _
  have B3 : Blk W3 (w.heap.size + 1 + 1) 9 #[.string (bs theft)] := by rw [hW3]; exact Blk.new' s2 _ _
  have HB := Lib.hid ((b1.trans (b2'.mono b1.size)).trans (b3'.mono (b1.trans (b2'.mono b1.size)).size))
  have HT := Lib.hid (texts_one B3)
  have HN := Lib.hid (nums_three (B2.next b3'))
  have HC := Lib.hid ((B1.next b2').next b3')
  have HE := Lib.hid (show W3 = ((w.alloc (.cells #[.slice (some ⟨w.heap.size + 1 + 1, 0, none⟩) 1 1, .int .i64 2, .slice (some ⟨w.heap.size + 1, 0, none⟩) 3 3] 25)).alloc (.cells #[.int .i64 1, .int .i64 0, .int .i64 2] 3)).alloc (.cells #[.string ⟨#[116, 104, 101, 102, 116]⟩] 9) by rw [hW3, hW2, hW1])
  clear hW1 s1 b1 B1 hW2 s2 b2' B2 hW3 b3' B3
  go_enter Tryd.func16, Tryd.ntmps16
  go_wp2
  rw [← HE.out]
  have f0 := HC.out.cell 0
  have f1 := HC.out.cell 1
  have f2 := HC.out.cell 2
  exact bodyPost_ret (v := .agg #[.slice (some ⟨w.heap.size + 1 + 1, 0, none⟩) 1 1, .int .i64 2, .slice (some ⟨w.heap.size + 1, 0, none⟩) 3 3]) (by simp [results, Tryd.results16, go_sem, f0, f1, f2]) rfl ⟨_, 3, _, rfl, HT.out, HN.out, Nat.le_refl _, HB.out⟩
end Go.Proofs.YtkfmhibdoapndaaDoor
