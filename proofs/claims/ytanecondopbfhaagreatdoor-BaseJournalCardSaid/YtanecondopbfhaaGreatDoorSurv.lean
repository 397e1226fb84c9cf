/- One sector becomes durable: the call, in terms of the disk's cells. -/
import Derived.Test.YtanecondopbfhaaGreatDoorCut
import Derived.BigQuiet
import Derived.Deep.QuietTactic
namespace Go.Proofs.YtanecondopbfhaaGreatDoor
open Go.RowKit

/-- A world after draws, under a name of its own. -/
theorem ex_drewN (w : World) (n : Nat) : ∃ w', w.drewN n = w' ∧ w'.heap = w.heap ∧ ∀ S, Kept S w w' :=
  ⟨_, rfl, rfl, fun _ => ⟨rfl, rfl, rfl, Nat.le_refl _, fun _ _ _ => rfl⟩⟩

theorem cell_heap {w w' : World} (h : w'.heap = w.heap) (a : Addr) : w'.cell? a = w.cell? a := World.cell?_of_block (by rw [h])
theorem frozen_heap {w w' : World} (h : w'.heap = w.heap) (a : Addr) : w'.frozen? a = w.frozen? a := World.frozen?_of_block (by rw [h])
theorem block_heap {w w' : World} (h : w'.heap = w.heap) (k : Nat) : w'.heap[k]? = w.heap[k]? := by rw [h]

/-- What the first region reads. -/
structure SvS (b : Nat) (c : Nat → Value) (m n : Nat) (B : Nat → Nat → UInt8) (P f k : Nat) (W : World) : Prop where
  cells : isCells W b 77 55 c
  pv : W.rangeAt P 0 [.int .i64 (f : Int), .int .i64 (k : Int)]
  sec : SecAt W m n B

set_option maxHeartbeats 1000000 in
set_option maxRecDepth 100000 in
theorem survive_low (b mF mD nF nD f k sF sD : Nat) (c : Nat → Value) (BF BD : Nat → Nat → UInt8) (w : World) (hc : isCells w b 77 55 c) (c0 : c 0 = .map (some mF)) (c17 : c 17 = .map (some mD))
    (cF : c (1 + f) = .int .i64 sF) (cD : c (18 + f) = .int .i64 sD) (hF : SecAt w mF nF BF) (hD : SecAt w mD nD BD) (hne : mF ≠ mD) (hf : f < 16) (hk : k < 262144) (hn : nD < 1000000000000) :
    Calls Tryz.prog 57 #[.pointer (some ⟨b, 0, none⟩), pk f k] w fun e w' => e = .returned (.tuple #[]) ∧
      isCells w' b 77 55 (upd c (18 + f) (.int .i64 (max sD (min (64 * (k + 1)) sF) : Nat))) ∧ SecAt w' mF nF BF ∧ SecAt w' mD (nD + 1) (fun g p => if g = f ∧ p / 64 = k then BF g p else BD g p) ∧ Kept (fun x => x = b ∨ x = mD) w w' := by
  unfold pk
  have b1 : (0 : Int) ≤ (f : Int) := by omega
  have b2 : (f : Int) < 16 := by omega
  have hmF := map_ne_cells hF hc
  have hmD := map_ne_cells hD hc
  obtain ⟨w1, hw1⟩ : ∃ w1, w1 = w.alloc (.cells #[.int .i64 f, .int .i64 k] 95) := ⟨_, rfl⟩
  have hz1 : w1.heap.size = w.heap.size + 1 := by rw [hw1]; simp
  have hc1 : isCells w1 b 77 55 c := by rw [hw1]; exact hc.alloc _
  have hF1 : SecAt w1 mF nF BF := by rw [hw1]; exact hF.same (Below.heap_alloc _ _ _ hF.lt)
  have hD1 : SecAt w1 mD nD BD := by rw [hw1]; exact hD.same (Below.heap_alloc _ _ _ hD.lt)
  have hp1 : w1.heap[w.heap.size]? = some (.cells #[.int .i64 f, .int .i64 k] 95 (0, 0)) := by rw [hw1]; exact (MapKept.heap_alloc w _).1
  have hk1 : Kept (fun x => x = b ∨ x = mD) w w1 := by rw [hw1]; exact (Kept.refl _ _).alloc _
  obtain ⟨w2, hrun, hD2, ht2⟩ := (show SecAt w1.drew mD nD BD from hD1).store f k hf hk (by unfold maxLen; omega) (sec BF f k) (sec_length _ _ _)
  have hk2 := mapTurned_kept ht2
  have hblt := hc.lt
  have hFlt := hF.lt
  have hDlt := hD.lt
  have hc2 : isCells w2 b 77 55 c := (show isCells w1.drew b 77 55 c from hc1).kept hk2 (fun h => hmD h.symm)
  have hF2 : SecAt w2 mF nF BF := (show SecAt w1.drew mF nF BF from hF1).kept hk2 hne
  have hp2 : w2.heap[w.heap.size]? = some (.cells #[.int .i64 f, .int .i64 k] 95 (0, 0)) := (hk2.block _ (by show _ < w1.heap.size; omega) (by omega)).trans hp1
  have hk3 : Kept (fun x => x = b ∨ x = mD) w w2 := hk1.drew.andThen hk2 (fun i hi => Or.inl (Or.inr hi))
  unfold pk at hrun
  obtain ⟨A, hA⟩ : ∃ A, A = secV (sec BF f k) := ⟨_, rfl⟩
  rw [← hA] at hrun
  have q0 : w2.cell? ⟨w.heap.size, 0, none⟩ = some (.int .i64 f) := by rw [cell_of_row _ _ _ _ _ _ hp2]; rfl
  have q1 : w2.cell? ⟨w.heap.size, 1, none⟩ = some (.int .i64 k) := by rw [cell_of_row _ _ _ _ _ _ hp2]; rfl
  have aF : w2.cell? ⟨b, 1 + f, none⟩ = some (.int .i64 sF) := by rw [hc2.cell _ (by omega), cF]
  have aD : w2.cell? ⟨b, 18 + f, none⟩ = some (.int .i64 sD) := by rw [hc2.cell _ (by omega), cD]
  have fD : w2.frozen? ⟨b, 18 + f, none⟩ = false := hc2.frozen _
  have HD2 := Lib.hid hD2
  have HC2 := Lib.hid hc2
  have HF2 := Lib.hid hF2
  have HK3 := Lib.hid hk3
  have HW1 := Lib.hid hw1
  have HRUN := Lib.hid hrun
  have HA := Lib.hid hA
  have C0 := Lib.hid c0
  have C17 := Lib.hid c17
  have HS1 : Hid (SvS b c mF nF BF w.heap.size f k w1.drew) := ⟨hc1, by simpa using World.rangeAt_of_block hp1 0 2, hF1⟩
  have HS2 : Hid (SvS b c mF nF BF w.heap.size f k w2) := ⟨hc2, by simpa using World.rangeAt_of_block hp2 0 2, hF2⟩
  clear hD2 hc2 hF2 hk3 hk2 ht2 hk1 hp1 hp2 hD1 hF1 hc1 hz1 hc hF hD c0 c17 cF cD hA hrun hw1
  go_enter Tryz.func57, Tryz.ntmps57
  go_wp2_with fail
  rw [← HW1.out]
  refine wp_region_held_drew (S := SvS b c mF nF BF w.heap.size f k) (by kernel_rfl) HS1.out (fun hS0 => ?_)
  refine wpAnyH_take (i := 0) (v := .pointer (some ⟨b, 0, none⟩)) rfl (by kernel_rfl) (by kernel_rfl) (by kernel_rfl) (fun _ _ _ h => h) ?y0 hS0 ?_
  case y0 => exact Or.inl ⟨rfl, fun W _ => by kernel_rfl⟩
  refine wpAnyH_take (i := 1) (v := .pointer (some ⟨b, 0, none⟩)) rfl (by kernel_rfl) (by kernel_rfl) (by kernel_rfl) (fun _ _ _ h => h) ?y1 hS0 ?_
  case y1 => exact Or.inl ⟨rfl, fun W _ => by kernel_rfl⟩
  refine wpAnyH_take (i := 2) (v := .pointer (some ⟨b, 17, none⟩)) rfl (by kernel_rfl) (by kernel_rfl) (by kernel_rfl) (fun _ _ _ h => h) ?y2 hS0 ?_
  case y2 => exact Or.inl ⟨rfl, fun W _ => by kernel_rfl⟩
  refine wpAnyH_take (i := 3) (v := .pointer (some ⟨b, 17, none⟩)) rfl (by kernel_rfl) (by kernel_rfl) (by kernel_rfl) (fun _ _ _ h => h) ?y3 hS0 ?_
  case y3 => exact Or.inl ⟨rfl, fun W _ => by kernel_rfl⟩
  refine wpAnyH_take (i := 4) (v := .map (some mD)) rfl (by kernel_rfl) (by kernel_rfl) (by kernel_rfl) (fun _ _ _ h => h) ?y4 hS0 ?_
  case y4 =>
    refine Or.inl ⟨rfl, fun W hW => ?_⟩
    have g0 : W.cell? ⟨b, 17, none⟩ = some (.map (some mD)) := by rw [hW.cells.cell _ (by omega), C17.out]
    show (execOp _ _).run _ _ = _
    go_simp
  refine wpAnyH_take (i := 5) (v := .agg #[.int .i64 f, .int .i64 k]) rfl (by kernel_rfl) (by kernel_rfl) (by kernel_rfl) (fun _ _ _ h => h) ?y5 hS0 ?_
  case y5 =>
    exact yieldsIf_load_mid rfl 95 _ rfl w.heap.size 0 (by simp [Act.eval, Act.put]) [.int .i64 f, .int .i64 k] _ (fun W hW => hW.pv) Tryz.underlying95 rfl (by kernel_rfl)
  refine wpAnyH_take (i := 6) (v := .pointer (some ⟨b, 0, none⟩)) rfl (by kernel_rfl) (by kernel_rfl) (by kernel_rfl) (fun _ _ _ h => h) ?y6 hS0 ?_
  case y6 => exact Or.inl ⟨rfl, fun W _ => by kernel_rfl⟩
  refine wpAnyH_take (i := 7) (v := .pointer (some ⟨b, 0, none⟩)) rfl (by kernel_rfl) (by kernel_rfl) (by kernel_rfl) (fun _ _ _ h => h) ?y7 hS0 ?_
  case y7 => exact Or.inl ⟨rfl, fun W _ => by kernel_rfl⟩
  refine wpAnyH_take (i := 8) (v := .pointer (some ⟨b, 0, none⟩)) rfl (by kernel_rfl) (by kernel_rfl) (by kernel_rfl) (fun _ _ _ h => h) ?y8 hS0 ?_
  case y8 => exact Or.inl ⟨rfl, fun W _ => by kernel_rfl⟩
  refine wpAnyH_take (i := 9) (v := .pointer (some ⟨b, 0, none⟩)) rfl (by kernel_rfl) (by kernel_rfl) (by kernel_rfl) (fun _ _ _ h => h) ?y9 hS0 ?_
  case y9 => exact Or.inl ⟨rfl, fun W _ => by kernel_rfl⟩
  refine wpAnyH_take (i := 10) (v := .map (some mF)) rfl (by kernel_rfl) (by kernel_rfl) (by kernel_rfl) (fun _ _ _ h => h) ?y10 hS0 ?_
  case y10 =>
    refine Or.inl ⟨rfl, fun W hW => ?_⟩
    have g0 : W.cell? ⟨b, 0, none⟩ = some (.map (some mF)) := by rw [hW.cells.cell _ (by omega), C0.out]
    show (execOp _ _).run _ _ = _
    go_simp
  refine wpAnyH_take (i := 11) (v := .agg #[.int .i64 f, .int .i64 k]) rfl (by kernel_rfl) (by kernel_rfl) (by kernel_rfl) (fun _ _ _ h => h) ?y11 hS0 ?_
  case y11 =>
    exact yieldsIf_load_mid rfl 95 _ rfl w.heap.size 0 (by simp [Act.eval, Act.put]) [.int .i64 f, .int .i64 k] _ (fun W hW => hW.pv) Tryz.underlying95 rfl (by kernel_rfl)
  refine wpAnyH_take (i := 12) (v := A) rfl (by kernel_rfl) (by kernel_rfl) (by kernel_rfl) (fun _ _ _ h => h) ?y12 hS0 ?_
  case y12 =>
    refine Or.inl ⟨rfl, fun W hW => ?_⟩
    have g0 := hW.sec.look f k hf (by omega)
    rw [← HA.out] at g0
    unfold pk at g0
    show (execOp _ _).run _ _ = _
    go_simp
  refine wpAnyH_ready (rs := [13]) (by kernel_rfl) (by simp) ?_
  refine AllReadyH.cons rfl (fun K hK => ?_) AllReadyH.nil
  have hrun := HRUN.out
  go_simp
  refine hK.out _ _ HS2.out (fun _ => ?_)
  clear hK K hrun HRUN
  refine wpAnyH_done (by kernel_rfl) ?_ _
  have e1 : IntKind.i64.wrap ((k : Int) + 1) = (k : Int) + 1 := IntWalk.i64_in _ (by omega)
  have e2 : IntKind.i64.wrap (((k : Int) + 1) * 64) = ((k : Int) + 1) * 64 := IntWalk.i64_in _ (by omega)
  obtain ⟨mn, hmn⟩ : ∃ mn, mn = min (64 * (k + 1)) sF := ⟨_, rfl⟩
  have e3 : min (((k : Int) + 1) * 64) (sF : Int) = (mn : Int) := by omega
  have HMN := Lib.hid hmn
  clear hmn hS0
  go_wp2_with fail
  go_quiet (fail)
  go_wp2_with fail
  obtain ⟨mx, hmx⟩ : ∃ mx, mx = max sD mn := ⟨_, rfl⟩
  have e4 : max (sD : Int) (mn : Int) = (mx : Int) := by omega
  have HMX := Lib.hid hmx
  clear hmx e1 e2 e3
  obtain ⟨w3, ew3, hh3, hk3⟩ := ex_drewN w2 nq
  rw [ew3]
  have hk4 := hk3 (fun x => x = b ∨ x = mD)
  have r0 : w3.cell? ⟨w.heap.size, 0, none⟩ = some (.int .i64 f) := by rw [cell_heap hh3]; exact q0
  have rD : w3.cell? ⟨b, 18 + f, none⟩ = some (.int .i64 sD) := by rw [cell_heap hh3]; exact aD
  have rf : w3.frozen? ⟨b, 18 + f, none⟩ = false := by rw [frozen_heap hh3]; exact fD
  have HH3 := Lib.hid hh3
  clear ew3 hh3 hk3 q0 q1 aF aD fD
  go_still_tail 17, (by kernel_rfl)
  change wpList _ _ _ _ _ w3.drew
  go_wp2_with fail
  go_end0
  refine ⟨rfl, ?_, ?_, ?_, ?_⟩
  · rw [← HMN.out, ← HMX.out]
    exact (show isCells w3 b 77 55 c from HC2.out.same (block_heap HH3.out _)).set _ _
  · exact HF2.out.same ((Below.heap_setCell _ _ _ _ hmF).trans (block_heap HH3.out _))
  · refine (HD2.out.same ((Below.heap_setCell _ _ _ _ hmD).trans (block_heap HH3.out _))).eq ?_
    intro g p _
    unfold setSec
    by_cases h5 : g = f ∧ p / 64 = k
    · rw [if_pos h5, if_pos h5, sec_getD _ _ _ _ (Nat.mod_lt _ (by decide)), show 64 * k + p % 64 = p by omega, h5.1]
    · rw [if_neg h5, if_neg h5]
  · exact HK3.out.andThen (T := fun x => x = b ∨ x = mD) (hk4.setCell (p := ⟨b, 18 + f, none⟩) (Or.inl (Or.inl rfl)) _).drew (fun i hi => Or.inl hi)

end Go.Proofs.YtanecondopbfhaaGreatDoor
