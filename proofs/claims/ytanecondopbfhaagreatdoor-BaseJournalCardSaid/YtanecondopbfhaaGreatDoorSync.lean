/- forget, Arm, sync and truncate. -/
import Derived.Test.YtanecondopbfhaaGreatDoorPend
namespace Go.Proofs.YtanecondopbfhaaGreatDoor
open Go.RowKit

variable {w w' : World} {b : Nat} {L : Loc} {d : Dk}

/-- The cells when the first k maps of pending sectors are new, from block g on. -/
def fcell (c : Nat → Value) (g k : Nat) : Nat → Value := fun i => if 34 ≤ i ∧ i < 34 + k then .map (some (g + (i - 34))) else c i

structure FgS (w : World) (b : Nat) (c : Nat → Value) (k : Nat) (W : World) : Prop where
  cells : isCells W b 77 55 (fcell c w.heap.size k)
  size : W.heap.size = w.heap.size + k
  new : ∀ j, j < k → RankAt W (w.heap.size + j) 0 (fun _ => none)
  kept : Kept (fun x => x = b) w W

set_option maxRecDepth 100000 in
theorem forget_low (b : Nat) (c : Nat → Value) (w : World) (hc : isCells w b 77 55 c) :
    Calls Tryz.prog 44 #[.pointer (some ⟨b, 0, none⟩)] w fun e w' => e = .returned (.tuple #[]) ∧ FgS w b c 16 w' := by
  have HS : Hid (FgS w b c 0 w) := ⟨hc.eq (fun i _ => by unfold fcell; rw [if_neg (by omega)]), rfl, fun j h => absurd h (Nat.not_lt_zero j), Kept.refl _ _⟩
  have hblt := hc.lt
  have hmm := @run_makeMap Tryz.prog
  clear hc
  go_enter Tryz.func44, Tryz.ntmps44
  go_wp2_with fail
  go_loopw [3] (fun i wr => ∃ k : Nat, k ≤ 16 ∧ i = .int .i64 k ∧ FgS w b c k wr) (fun i _ => 16 - (intOf i).toNat)
  case atStart => exact ⟨0, by omega, rfl, HS.out⟩
  case round =>
    obtain ⟨k, hk, rfl, hs⟩ := hrel
    by_cases hlt : k < 16
    · have hc4 := hs.cells.alloc (.map #[] 0)
      obtain ⟨v, hv⟩ : ∃ v, v = fcell c w.heap.size k (34 + k) := ⟨_, rfl⟩
      have a1 : (wr.alloc (.map #[] 0)).cell? ⟨b, 34 + k, none⟩ = some v := by rw [hc4.cell _ (by omega), hv]
      have a2 : (wr.alloc (.map #[] 0)).frozen? ⟨b, 34 + k, none⟩ = false := hc4.frozen _
      have b1 : (0 : Int) ≤ (k : Int) := by omega
      have b2 : (k : Int) < 16 := by omega
      have hsz := hs.size
      have hfin : Hid (FgS w b c (k + 1) ((wr.alloc (.map #[] 0)).setCell ⟨b, 34 + k, none⟩ (.map (some wr.heap.size)))) := by
        refine ⟨(hc4.set _ _).eq ?_, by simp [World.setCell]; omega, ?_, (hs.kept.alloc _).setCell (p := ⟨b, 34 + k, none⟩) (Or.inl rfl) _⟩
        · intro i _
          unfold upd fcell
          by_cases h1 : i = 34 + k
          · rw [if_pos (by omega), if_pos h1, hsz, h1, show 34 + k - 34 = k by omega]
          · rw [if_neg h1]
            by_cases h2 : 34 ≤ i ∧ i < 34 + k
            · rw [if_pos (by omega), if_pos h2]
            · rw [if_neg (by omega), if_neg h2]
        · intro j hj
          by_cases h1 : j = k
          · have hm := RankAt.made wr
            rw [h1, ← hsz]
            exact hm.same (Below.heap_setCell _ _ _ _ (show wr.heap.size ≠ b by omega))
          · have hj' := hs.new j (by omega)
            exact hj'.same ((Below.heap_setCell _ _ _ _ (show w.heap.size + j ≠ b by omega)).trans (Below.heap_alloc _ _ _ hj'.lt))
      clear hs hc4 hv hsz
      go_wp2_with fail
      go_roundw
      case rel => exact ⟨k + 1, by omega, by go_num, hfin.out⟩
      case measure => simp [intOf]; omega
    · obtain rfl : k = 16 := by omega
      go_wp2_with fail
      go_end0
      exact ⟨rfl, hs⟩

/-! ### Arm -/

/-- slices.Clone of a slice that reads as a list. -/
theorem clone_ints (w : World) (v : Value) (xs : List Int) (h : KeepAt w v xs) (hlen : xs.length ≤ 1099511627776) :
    Calls Tryz.prog 55 #[v] w fun e w' => ∃ v', e = .returned v' ∧ KeepAt w' v' xs ∧ (∀ i, inBlock v' i → w.heap.size ≤ i) ∧ (∃ a n c, v' = .slice a n c) ∧ Below w.heap.size w w' := by
  have post : ∀ (w' : World) (v' : Value) (n : Nat) (zs : List Int), w'.ownsRow w.heap.size 3 1 v' n (zs.map (Value.int .i64)) → zs = xs → n = xs.length →
      KeepAt w' v' xs ∧ (∀ i, inBlock v' i → w.heap.size ≤ i) ∧ (∃ a n c, v' = .slice a n c) := by
    rintro w' v' n zs ho rfl rfl
    obtain ⟨hl, ⟨rfl, h0⟩ | ⟨g, cap, cur, rfl, hg, hh, hn1, hn2, hn3, hn4⟩⟩ := ho
    · refine ⟨Or.inl ⟨⟨_, _, rfl⟩, List.eq_nil_of_length_eq_zero h0⟩, ?_, ⟨_, _, _, rfl⟩⟩
      rintro i ⟨o, n, c, hi⟩
      simp at hi
    · refine ⟨Or.inr ⟨g, 0, cap, rfl, (Array.getElem?_eq_some_iff.1 hh).1, ?_⟩, ?_, ⟨_, _, _, rfl⟩⟩
      · intro i x hx
        have h1 := (List.getElem?_eq_some_iff.1 hx).1
        have h2 : (cur.toList.take (zs.length * 1))[i]? = some (.int .i64 x) := by rw [hn4, List.getElem?_map, hx]; rfl
        rw [List.getElem?_take, if_pos (by omega)] at h2
        rw [cell_of_row _ _ _ _ _ _ hh, Nat.zero_add]
        simpa using h2
      · rintro i ⟨o, n, c, hi⟩
        simp at hi
        rw [← hi.1.1]
        exact hg
  rcases h with ⟨⟨a, c, rfl⟩, rfl⟩ | ⟨g, off, cap, rfl, hg, hc⟩
  · cases a with
    | none =>
      refine (Tryz.slices_Clone_int_nil 0 c w).mono ?_
      rintro e w' ⟨rfl, rfl⟩
      refine ⟨_, rfl, Or.inl ⟨⟨_, _, rfl⟩, rfl⟩, ?_, ⟨_, _, _, rfl⟩, Below.refl _ _⟩
      rintro i ⟨o, n, c, hi⟩
      simp at hi
    | some a =>
      refine (Tryz.slices_Clone_int_zero a c w).mono ?_
      rintro e w' ⟨v', rfl, ho, _, hb⟩
      obtain ⟨h1, h2, h3⟩ := post w' v' 0 [] ho rfl rfl
      exact ⟨v', rfl, h1, h2, h3, hb⟩
  · refine (Tryz.slices_Clone_int g off xs.length cap xs w (Nat.le_refl _) (by omega) (fun j hj => by
      rw [hc j _ (List.getElem?_eq_getElem hj)]
      simp [hj])).mono ?_
    rintro e w' ⟨v', rfl, ho, _, hb⟩
    obtain ⟨h1, h2, h3⟩ := post w' v' xs.length (xs.take xs.length) ho (List.take_length) rfl
    exact ⟨v', rfl, h1, h2, h3, hb⟩

/-- The maps stay, another slice of sectors to keep. -/
theorem IsD.keepTo (h : IsD w b L d) {d' : Dk} {v' : Value} (hF : d'.F = d.F) (hD : d'.D = d.D) (hq : d'.q = d.q) (hR : d'.R = d.R) (hlb : d'.lost ≤ 9223372036854775807) (hcb : d'.calls ≤ 9223372036854775807)
    (hc : isCells w' b 77 55 (dcell { L with kv := v' } d')) (hk : Kept (fun x => x = b) w w') (hkp : KeepAt w' v' d'.keep) (hv : ∀ i, inBlock v' i → w.heap.size ≤ i) (hkl : d'.keep.length ≤ 1099511627776) : IsD w' b { L with kv := v' } d' where
  cells := hc
  secF := by rw [hF]; exact h.secF.kept hk (map_ne_cells h.secF h.cells)
  secD := by rw [hD]; exact h.secD.kept hk (map_ne_cells h.secD h.cells)
  rnk := fun f hf => by
    rw [hq]
    exact (h.rnk f hf).kept hk (fun e => by
      obtain ⟨D, ⟨es, cl, h1, _⟩, _⟩ := h.rnk f hf
      rw [e, h.cells] at h1
      simp at h1)
  kp := hkp
  kb := fun i hi ho => by
    have h1 := hv i hi
    have h2 := h.foot i ho
    omega
  FD := h.FD
  pF := h.pF
  pD := h.pD
  pp := h.pp
  inc := by rw [hq]; exact h.inc
  top := by rw [hq]; exact h.top
  rR := by rw [hR]; exact h.rR
  Rb := by rw [hR]; exact h.Rb
  lb := hlb
  cb := hcb
  kl := hkl
  ok := h.ok.with_ hF hD hq

set_option maxHeartbeats 1000000 in
set_option maxRecDepth 100000 in
theorem arm_calls (h : IsD w b L d) (n : Int) (v : Value) (xs : List Int) (hv : KeepAt w v xs) (hvb : ∀ i, inBlock v i → i ≠ b) (hn : n ≤ 9223372036854775807) (hlen : xs.length ≤ 1099511627776) :
    Calls Tryz.prog 21 #[.pointer (some ⟨b, 0, none⟩), .int .i64 n, v] w fun e w' => e = .returned (.tuple #[]) ∧ Post w b L (d.arm n xs) w' := by
  have a1 : w.cell? ⟨b, 53, none⟩ = some (.int .i64 d.calls) := h.cells.cell 53 (by omega)
  have a2 := h.cells.frozen 53
  obtain ⟨m, hmn⟩ : ∃ m, m = n.toNat := ⟨_, rfl⟩
  have hm : max n 0 = (m : Int) := by omega
  have hmb : m ≤ 9223372036854775807 := by omega
  have HMN := Lib.hid hmn
  clear hmn
  have hc1 := h.cells.set 53 (.int .i64 (m : Int))
  have hk1 := (Kept.refl (fun x => x = b) w).setCell (p := ⟨b, 53, none⟩) (Or.inl rfl) (.int .i64 (m : Int))
  have hz1 : (w.setCell ⟨b, 53, none⟩ (.int .i64 (m : Int))).heap.size = w.heap.size := by simp [World.setCell]
  have hcon := Lib.hid (clone_ints _ v xs (hv.kept hk1 hvb) hlen)
  rw [hz1] at hcon
  have H := Lib.hid h
  have HC1 := Lib.hid hc1
  have HK1 := Lib.hid hk1
  have hblt := h.lt
  clear h hc1 hk1 hz1 hv hvb
  go_enter Tryz.func21, Tryz.ntmps21
  go_wp2_with fail
  refine Calls.mono hcon.out ?_
  rintro e w1 ⟨v', rfl, hkp, hvs, ⟨sa, sn, sc, rfl⟩, hb1⟩
  have hc2 : isCells w1 b 77 55 (upd (dcell L d) 53 (.int .i64 (m : Int))) := HC1.out.same (hb1.block b hblt)
  have a3 : w1.cell? ⟨b, 54, none⟩ = some L.kv := by rw [hc2.cell _ (by omega)]; rfl
  have a4 := hc2.frozen 54
  have hz := hb1.size
  obtain ⟨ov, hov⟩ : ∃ ov, ov = L.kv := ⟨_, rfl⟩
  rw [← hov] at a3
  have HC2 := Lib.hid hc2
  have HB1 := Lib.hid hb1
  have HKP := Lib.hid hkp
  have HVS := Lib.hid hvs
  clear hc2 hb1 hkp hvs hcon hov
  go_wp2_with fail
  go_end0
  have hz2 : w.heap.size ≤ w1.heap.size := by simpa [World.setCell] using hz
  have hkall : Kept (fun x => x = b) w (w1.setCell ⟨b, 54, none⟩ (.slice sa sn sc)) := (HK1.out.andThen (Below.kept HB1.out) (fun i hi => Or.inr hi)).setCell (p := ⟨b, 54, none⟩) (Or.inl rfl) _
  refine ⟨rfl, { L with kv := .slice sa sn sc }, H.out.keepTo (d' := d.arm n xs) rfl rfl rfl rfl H.out.lb (by show n.toNat ≤ _; rw [← HMN.out]; exact hmb) ((HC2.out.set 54 (.slice sa sn sc)).eq ?_) hkall
    (HKP.out.kept ((Kept.refl (fun x => x = b) w1).setCell (p := ⟨b, 54, none⟩) (Or.inl rfl) _) (fun i hi e => by have := HVS.out i hi; omega)) HVS.out hlen, hkall.mono own_b, fun i hi => Or.inl hi, fun i hi => Or.inr (HVS.out i hi)⟩
  intro i _
  by_cases e : i = 54
  · subst e; rfl
  · by_cases e2 : i = 53
    · subst e2
      show Value.int .i64 ((d.arm n xs).calls : Int) = .int .i64 (m : Int)
      rw [HMN.out]; rfl
    · simp only [upd, if_neg e, if_neg e2]
      unfold dcell
      simp [e2, Dk.arm]
      repeat' split
      all_goals first | rfl | omega

end Go.Proofs.YtanecondopbfhaaGreatDoor
