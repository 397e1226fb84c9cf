/- NewDisk. -/
import Derived.Test.YtanecondopbfhaaGreatDoorWr2
namespace Go.Proofs.YtanecondopbfhaaGreatDoor
open Go.RowKit

def newC (g : Nat) (i : Nat) : Value :=
  if i = 0 then .map (some g) else if i < 17 then .int .i64 0 else if i = 17 then .map (some (g + 1)) else if i < 34 then .int .i64 0 else
  if i < 50 then .map none else if i = 50 then .int .i64 0 else if i = 51 then .bool false else if i = 52 then .int .i64 0 else if i = 53 then .int .i64 0 else .slice none 0 0

def newL (g : Nat) : Loc := ⟨g, g + 1, fun f => g + 3 + f, .slice none 0 0, 0, fun _ => 0⟩

set_option maxHeartbeats 1000000 in
set_option maxRecDepth 100000 in
theorem new_calls (w : World) : Calls Tryz.prog 9 #[] w fun r w' => ∃ b L, r = .returned (.pointer (some ⟨b, 0, none⟩)) ∧ IsD w' b L Dk.new ∧ Kept (fun _ => False) w w' ∧ (∀ i, Own b L i → w.heap.size ≤ i) ∧ (∀ i, inBlock L.kv i → w.heap.size ≤ i) := by
  have hmm := @run_makeMap Tryz.prog
  go_enter Tryz.func9, Tryz.ntmps9
  go_wp2_with fail
  have hz : ((w.alloc (.map #[] 0)).alloc (.map #[] 0)).heap.size = w.heap.size + 1 + 1 := by simp
  refine Calls.mono (forget_low (w.heap.size + 1 + 1) (newC w.heap.size) _ ?hc) ?_
  case hc =>
    rw [← hz]
    exact (MapKept.heap_alloc _ _).1.trans (by kernel_rfl)
  rintro r w3 ⟨rfl, hf⟩
  have HF := Lib.hid hf
  clear hf
  go_wp2_with fail
  go_ret
  obtain ⟨Y, hY⟩ : ∃ Y, Y = (w.alloc (.map #[] 0)).alloc (.map #[] 0) := ⟨_, rfl⟩
  have hf := HF.out
  rw [← hY] at hf hz
  obtain ⟨O, hO⟩ : ∃ O, O = w3 := ⟨_, rfl⟩
  have hyz : ∀ o, (Y.alloc o).heap.size = w.heap.size + 3 := fun o => by simp [hz]
  have hcl := hf.cells
  have hnew := hf.new
  rw [hyz] at hcl hnew
  have kY : ∀ o, Kept (fun x => x = w.heap.size + 1 + 1) Y (Y.alloc o) := fun o => (Kept.refl _ _).alloc _
  have kY3 : Kept (fun x => x = w.heap.size + 1 + 1) Y w3 := (kY _).trans hf.kept
  have s0 : SecAt Y w.heap.size 0 (fun _ _ => 0) := by
    rw [hY]
    exact (SecAt.made w).same (Below.heap_alloc _ _ _ (by simp))
  have s1 : SecAt Y (w.heap.size + 1) 0 (fun _ _ => 0) := by
    rw [hY]
    have := SecAt.made (w.alloc (.map #[] 0))
    rwa [show (w.alloc (.map #[] 0)).heap.size = w.heap.size + 1 by simp] at this
  have kw : Kept (fun x => x = w.heap.size + 1 + 1) w w3 := by
    refine Kept.trans ?_ kY3
    rw [hY]
    exact ((Kept.refl _ _).alloc _).alloc _
  refine ⟨_, newL w.heap.size, rfl, ⟨hcl.eq ?_, (s0.kept kY3 (by omega)).mono (by omega), (s1.kept kY3 (by omega)).mono (by omega), fun f hf => ((hnew f hf).mono (by omega)).eq (fun k => by simp [Dk.new]), Or.inl ⟨⟨_, _, rfl⟩, rfl⟩, ?_, ?_, ?_, ?_, ?_, List.Pairwise.nil, fun x hx => absurd hx (by simp [Dk.new]), Nat.le_refl _, by decide, by decide, by decide, by decide, Dk.new_ok⟩, kw.mono (fun i hi => Or.inr (by omega)), ?_, ?_⟩
  · intro i hi
    unfold fcell
    by_cases h1 : 34 ≤ i ∧ i < 34 + 16
    · rw [if_pos h1]
      unfold dcell newL
      rw [if_neg (by omega), if_neg (by omega), if_neg (by omega), if_neg (by omega), if_pos (by omega)]
    · rw [if_neg h1]
      unfold dcell newC newL
      by_cases h2 : i < 34
      · repeat' split
        all_goals first | rfl | omega
      · repeat' split
        all_goals first | rfl | omega
  · rintro i ⟨o, n, c, e⟩
    simp [newL] at e
  · show w.heap.size ≠ w.heap.size + 1
    omega
  · intro f hf
    show w.heap.size + 3 + f ≠ w.heap.size
    omega
  · intro f hf
    show w.heap.size + 3 + f ≠ w.heap.size + 1
    omega
  · intro f g hf hg e
    have e' : w.heap.size + 3 + f = w.heap.size + 3 + g := e
    omega
  · rintro i (e | e | e | ⟨f, hf, e⟩)
    · omega
    · have e' : i = w.heap.size := e
      omega
    · have e' : i = w.heap.size + 1 := e
      omega
    · have e' : i = w.heap.size + 3 + f := e
      omega
  · rintro i ⟨o, n, c, e⟩
    simp [newL] at e

end Go.Proofs.YtanecondopbfhaaGreatDoor
