/- A file becomes durable: the call, in terms of the disk's cells. -/
import Derived.Test.YtanecondopbfhaaGreatDoorSurv
namespace Go.Proofs.YtanecondopbfhaaGreatDoor
open Go.RowKit Go.Maps

theorem ranges_same {H : Type} {P : Program} {k : TypeId} {R : Value → Option (DataW H × List MemPlace)} {w w' : World} {b r n : Nat} {D : DataW H} {left : Lit → Bool} {cnt : Nat} (h : w.ranges P k R b r n D left cnt)
    (h1 : w'.heap[b]? = w.heap[b]?) (h2 : w'.heap[r]? = w.heap[r]?) : w'.ranges P k R b r n D left cnt := by
  obtain ⟨es, clock, since, seen, c0, hb, F, hs, hD, hr, rest⟩ := h
  exact ⟨es, clock, since, seen, c0, h1.trans hb, F, hs, hD, h2.trans hr, rest⟩

theorem grown_kept {w w' : World} {row : Option Nat} {S : Nat → Prop} (h : w.grownBy w' row) (hS : ∀ k, row = some k → S k) : Kept S w w' :=
  ⟨h.os, h.tape, h.output, h.size, fun k hk hn => h.block k hk (fun e => hn (hS k e.symm))⟩

/-- The worlds of the loop. -/
structure StS (w : World) (b mF mD nF f sF : Nat) (c : Nat → Value) (BF BD : Nat → Nat → UInt8) (D : DataW Unit) (left : Lit → Bool) (W : World) : Prop where
  cells : ∃ s : Nat, isCells W b 77 55 (upd c (18 + f) (.int .i64 s))
  secF : SecAt W mF nF BF
  secD : SecAt W mD 4194304 (fun g p => if g = f ∧ Maps.has D (.int .i64 ((p / 64 : Nat) : Int)) = true ∧ left (.int .i64 ((p / 64 : Nat) : Int)) = false then BF g p else BD g p)
  kept : Kept (fun x => x = b ∨ x = mD) w W

set_option maxHeartbeats 2000000 in
set_option maxRecDepth 100000 in
theorem settle_low (b mF mD pf nF nD np f sF sD : Nat) (c : Nat → Value) (BF BD : Nat → Nat → UInt8) (g : Nat → Option Nat) (w : World) (hc : isCells w b 77 55 c) (c0 : c 0 = .map (some mF)) (c17 : c 17 = .map (some mD))
    (cF : c (1 + f) = .int .i64 sF) (cD : c (18 + f) = .int .i64 sD) (cP : c (34 + f) = .map (some pf)) (hF : SecAt w mF nF BF) (hD : SecAt w mD nD BD) (hP : RankAt w pf np g) (hne : mF ≠ mD) (hpD : pf ≠ mD) (hf : f < 16) :
    Calls Tryz.prog 111 #[.pointer (some ⟨b, 0, none⟩), .int .i64 f] w fun e w' => e = .returned (.tuple #[]) ∧ ∃ pf', w.heap.size ≤ pf' ∧
      isCells w' b 77 55 (upd (upd c (18 + f) (.int .i64 sF)) (34 + f) (.map (some pf'))) ∧ SecAt w' mF nF BF ∧ SecAt w' mD 4194304 (fun x p => if x = f ∧ (g (p / 64)).isSome = true then BF x p else BD x p) ∧ RankAt w' pf' 0 (fun _ => none) ∧ Kept (fun x => x = b ∨ x = mD) w w' := by
  have b1 : (0 : Int) ≤ (f : Int) := by omega
  have b2 : (f : Int) < 16 := by omega
  have hmF := map_ne_cells hF hc
  have hmD := map_ne_cells hD hc
  have hpb : pf ≠ b := by
    intro e
    obtain ⟨D, ⟨es, cl, h1, _⟩, _⟩ := hP
    rw [e, hc] at h1
    simp at h1
  have aP : w.cell? ⟨b, 34 + f, none⟩ = some (.map (some pf)) := by rw [hc.cell _ (by omega), cP]
  obtain ⟨D, hown, hk1, hk2, hk3⟩ := hP
  have hplt := hown.lt
  have hblt := hc.lt
  have HS : Hid (StS w b mF mD nF f sF c BF BD D (fun kl => Maps.has D kl) w) := by
    refine ⟨⟨sD, hc.eq ?_⟩, hF, hD.shrink.eq ?_, Kept.refl _ _⟩
    · intro i _
      unfold upd
      split
      · rename_i e; rw [e, cD]
      · rfl
    · intro x p _
      rw [if_neg]
      rintro ⟨_, h1, h2⟩
      rw [h1] at h2
      exact absurd h2 (by simp)
  have C0 := Lib.hid c0
  have C17 := Lib.hid c17
  have CF := Lib.hid cF
  have CP := Lib.hid cP
  have HK1 := Lib.hid hk1
  have HK2 := Lib.hid hk2
  have HK3 := Lib.hid hk3
  clear hc c0 c17 cF cD cP hF hD hk1 hk2 hk3
  go_enter Tryz.func111, Tryz.ntmps111
  go_wp2_with (first
    | (at_range; refine wpList_range_own _ rfl _ 74 rfl 3 3 keyedInt Tryz.underlying74 _ pf np D rfl hown ?_; intro w0 hrg0 hg0 hs0)
    | fail)
  go_frame
  have HS0 : Hid (StS w b mF mD nF f sF c BF BD D (fun kl => Maps.has D kl) w0) := by
    have hk := grown_kept (S := fun x => x = b ∨ x = mD) hg0 (fun k h => by simp at h)
    have hk' := grown_kept (S := fun _ => False) hg0 (fun k h => by simp at h)
    obtain ⟨⟨s, h1⟩, h2, h3, _⟩ := HS.out
    exact ⟨⟨s, h1.kept hk' id⟩, h2.kept hk' id, h3.kept hk' id, hk⟩
  go_loopw [4] (fun _ wr => ∃ (left : Lit → Bool) (cnt : Nat), wr.ranges Tryz.prog 3 (plainElem Tryz.prog 3) pf w.heap.size np D left cnt ∧ StS w b mF mD nF f sF c BF BD D left wr)
    (fun _ wr => wr.rangeLeft pf w.heap.size)
  case atStart => exact ⟨_, _, hrg0, HS0.out⟩
  case round =>
    obtain ⟨left, cnt, hrg, hst⟩ := hrel
    go_wp2_with (first
      | (at_next; refine wpList_next_ranges_ii _ rfl _ rfl 3 3 .i64 .i64 keyedInt Tryz.underlying3 Tryz.underlying3 pf w.heap.size np _ _ _ rfl hrg ?_ ?_)
      | fail)
    · intro _ hl0
      obtain ⟨⟨s, hc⟩, hF, hD, hK⟩ := hst
      have aF : wr.cell? ⟨b, 1 + f, none⟩ = some (.int .i64 sF) := by rw [hc.cell _ (by omega), upd, if_neg (by omega), CF.out]
      have aD : wr.cell? ⟨b, 18 + f, none⟩ = some (.int .i64 s) := by rw [hc.cell _ (by omega), upd, if_pos rfl]
      have fD : wr.frozen? ⟨b, 18 + f, none⟩ = false := hc.frozen _
      have hc4 : isCells ((wr.setCell ⟨b, 18 + f, none⟩ (.int .i64 sF)).alloc (.map #[] 0)).drew b 77 55 (upd (upd c (18 + f) (.int .i64 s)) (18 + f) (.int .i64 sF)) := (hc.set _ _).alloc _
      have aP2 : ((wr.setCell ⟨b, 18 + f, none⟩ (.int .i64 sF)).alloc (.map #[] 0)).cell? ⟨b, 34 + f, none⟩ = some (.map (some pf)) := by rw [show ((wr.setCell ⟨b, 18 + f, none⟩ (.int .i64 sF)).alloc (.map #[] 0)).cell? ⟨b, 34 + f, none⟩ = _ from hc4.cell _ (by omega), upd, if_neg (by omega), upd, if_neg (by omega), CP.out]
      have fP : ((wr.setCell ⟨b, 18 + f, none⟩ (.int .i64 sF)).alloc (.map #[] 0)).frozen? ⟨b, 34 + f, none⟩ = false := hc4.frozen _
      have HC4 := Lib.hid hc4
      clear hc4
      have HC := Lib.hid hc
      have HF := Lib.hid hF
      have HD := Lib.hid hD
      have HL := Lib.hid hl0
      clear hc hF hD hl0 hrg hrg0 hown
      have hmm := @run_makeMap Tryz.prog
      go_wp2_with fail
      go_still_tail 13, (by kernel_rfl)
      change wpList _ _ _ _ _ wr.drew
      go_wp2_with fail
      go_end0
      have hbw : b < wr.heap.size := by have := hK.size; omega
      have HKN : Kept (fun x => x = b) wr (((wr.setCell ⟨b, 18 + f, none⟩ (.int .i64 sF)).alloc (.map #[] 0)).setCell ⟨b, 34 + f, none⟩ (.map (some wr.heap.size))).drew :=
        ((((Kept.refl (fun x => x = b) wr).setCell (p := ⟨b, 18 + f, none⟩) (Or.inl rfl) _).alloc _).setCell (p := ⟨b, 34 + f, none⟩) (Or.inl rfl) _).drew
      refine ⟨rfl, wr.heap.size, by have := hK.size; omega, ?_, ?_, ?_, ?_, ?_⟩
      · refine (HC4.out.set _ _).eq ?_
        intro i _
        unfold upd
        by_cases h1 : i = 34 + f
        · rw [if_pos h1, if_pos h1]
        · rw [if_neg h1, if_neg h1]
          by_cases h2 : i = 18 + f
          · rw [if_pos h2, if_pos h2]
          · rw [if_neg h2, if_neg h2, if_neg h2]
      · exact HF.out.kept HKN hmF
      · refine (HD.out.kept HKN hmD).eq ?_
        intro y p _
        rw [HL.out]
        by_cases h1 : y = f
        · by_cases h2 : p / 64 < 262144
          · have h3 := HK2.out (p / 64) (by omega)
            cases hg : g (p / 64) with
            | none => rw [if_neg (by simp), if_neg (by rw [h3.1 hg]; simp)]
            | some r => rw [if_pos ⟨h1, rfl⟩, if_pos ⟨h1, (h3.2 r hg).1, rfl⟩]
          · rw [HK3.out _ (by omega), if_neg (by simp), if_neg]
            rintro ⟨_, h4, _⟩
            obtain ⟨k, r, ek, hk, _⟩ := HK1.out _ h4
            simp at ek
            omega
        · rw [if_neg (fun h => h1 h.1), if_neg (fun h => h1 h.1)]
      · have hm := RankAt.made (wr.setCell ⟨b, 18 + f, none⟩ (.int .i64 sF))
        have e : (wr.setCell ⟨b, 18 + f, none⟩ (.int .i64 sF)).heap.size = wr.heap.size := by simp [World.setCell]
        rw [e] at hm
        exact hm.same (Below.heap_setCell _ _ _ _ (show wr.heap.size ≠ b by omega))
      · exact hK.andThen HKN (fun i hi => Or.inl (Or.inl hi))
    · intro x r w1 cnt1 hwx hwr hlx hat hrg1 hlt hg1 hs1 hen
      obtain ⟨k, r', ekl, hk, hgk⟩ := HK1.out _ (Maps.has_true_of_atKey hat)
      have hxk : x = (k : Int) := by simpa using ekl
      subst hxk
      obtain ⟨⟨s, hc⟩, hF, hD, hK⟩ := hst
      have hz := hK.size
      have hk1 := grown_kept (S := fun i => i = w.heap.size) hg1 (fun i hi => by simpa using hi.symm)
      have hmFlt := hF.lt
      have hmDlt := hD.lt
      have hhas := Maps.has_true_of_atKey hat
      have hbr : b ≠ w.heap.size := by omega
      have hFr : mF ≠ w.heap.size := by have := HS.out.secF.lt; omega
      have hDr : mD ≠ w.heap.size := by have := HS.out.secD.lt; omega
      have hpr : pf ≠ w.heap.size := by omega
      have hc1 := hc.kept hk1 (fun h => hbr h)
      have hF1 := hF.kept hk1 (fun h => hFr h)
      have hD1 := hD.kept hk1 (fun h => hDr h)
      have hcon := Lib.hid (survive_low b mF mD nF 4194304 f k sF s _ BF _ w1 hc1 (by rw [upd, if_neg (by omega)]; exact C0.out) (by rw [upd, if_neg (by omega)]; exact C17.out) (by rw [upd, if_neg (by omega)]; exact CF.out) (by rw [upd, if_pos rfl]) hF1 hD1 hne hf hk (by omega))
      unfold pk at hcon
      have HRG := Lib.hid hrg
      have HRG1 := Lib.hid hrg1
      have HHAS := Lib.hid hhas
      have HKK := Lib.hid (hK.andThen hk1 (fun i hi => Or.inr (by omega)))
      clear hc hF hD hc1 hF1 hD1 hrg hrg1 hk1 hg1 hg0 hrg0 hhas hat ekl hown hgk hlx
      go_wp2_with fail
      refine Calls.mono hcon.out ?_
      rintro e w2 ⟨rfl, hc2, hF2, hD2, hk2⟩
      have hfin : Hid (StS w b mF mD nF f sF c BF BD D (fun z => left z && !z.sameKey (.int .i64 (k : Int))) w2) := by
        refine ⟨⟨_, hc2.eq (c' := upd c (18 + f) (.int .i64 ((max s (min (64 * (k + 1)) sF) : Nat) : Int))) ?_⟩, hF2, hD2.shrink.eq ?_, HKK.out.andThen hk2 (fun i hi => Or.inl hi)⟩
        · intro i _
          unfold upd
          split
          · rfl
          · rfl
        · intro y p _
          by_cases h5 : y = f ∧ p / 64 = k
          · rw [if_pos h5, if_pos ⟨h5.1, by rw [h5.2]; exact HHAS.out, by
              rw [h5.2]
              simp [WideAt.sameKey_self (show WideAt.IsKeyLit (.int .i64 (k : Int)) from trivial)]⟩]
          · rw [if_neg h5]
            by_cases h6 : y = f
            · have h7 : p / 64 ≠ k := fun h => h5 ⟨h6, h⟩
              have h8 : (Lit.int .i64 ((p / 64 : Nat) : Int)).sameKey (.int .i64 (k : Int)) = false := Maps.sameKey_ne (by simp; omega)
              simp only [h8, Bool.not_false, Bool.and_true]
            · rw [if_neg (fun h => h6 h.1), if_neg (fun h => h6 h.1)]
      have hrg2 := ranges_same HRG1.out (hk2.block pf (by have := HRG1.out.owns.lt; exact this) (by rintro (h | h); exact hpb h; exact hpD h)) (hk2.block w.heap.size HRG1.out.lt (by rintro (h | h); exact hbr h.symm; exact hDr h.symm))
      have HRG2 := Lib.hid hrg2
      clear hc2 hF2 hD2 hk2 hrg2 hcon
      go_wp2_with fail
      go_roundw
      case rel => exact ⟨_, cnt1, HRG2.out, hfin.out⟩
      case measure => rw [HRG2.out.left_eq, HRG.out.left_eq]; exact hlt

end Go.Proofs.YtanecondopbfhaaGreatDoor
