/- The reference's disk: comes, Write, Sync, Truncate. -/
import Derived.Test.YtbljfdjhgleafaaRcomes
namespace Go.Proofs.Ytbljfdjhgleafaa
open Go.RowKit

variable {w w' : World} {b : Nat} {L : RL} {r r' : Rk} {S : Nat → Prop} {d : Dk}

theorem keep_of_owns {v : Value} {xs : List Int} (h : w.ownsRow 0 3 1 v xs.length (xs.map (Value.int .i64))) : KeepAt w v xs := by
  have h0 := h
  obtain ⟨hl, ⟨hv, hn⟩ | ⟨g, cap, cur, hv, hg, hh, rest⟩⟩ := h
  · exact Or.inl ⟨⟨none, 0, hv⟩, List.eq_nil_of_length_eq_zero hn⟩
  · refine Or.inr ⟨g, 0, cap, hv, (Array.getElem?_eq_some_iff.1 hh).1, fun i x hx => ?_⟩
    have hi := (List.getElem?_eq_some_iff.1 hx).1
    rw [hv] at h0
    rw [Nat.zero_add, h0.cellAt _ (by omega), List.getElem?_map, hx]
    rfl

theorem own_of_in {v : Value} {i : Nat} (h : inBlock v i) : v.ownBlock = some i := by
  obtain ⟨o, n, c, rfl⟩ := h
  rfl

theorem Rep.now_len (h : Rep r d) {f : Nat} (hf : f < 16) : (getF r.fs f).now.length ≤ 16777216 := by
  rw [h.now f hf, Img.text_length]
  exact h.ok.mx f

theorem Rep.q_len (h : Rep r d) : r.q.length ≤ 4194304 := by
  rw [h.q]
  exact h.ok.q_len

theorem Rep.comes (h : Rep r d) (f a : Int) (s : List UInt8) : ∃ d1, Rep (r.comes f a s) d1 := by
  unfold Rk.comes
  split
  · exact ⟨d, h⟩
  · rename_i h0
    have hc : d.calls ≠ 0 := fun e => h0 (Or.inr (h.armed.trans e))
    split
    · exact ⟨_, h.armed_to _ (fun _ => hc)⟩
    · have hz := h.armed_to 0 (fun e => absurd rfl e)
      by_cases hg : 0 ≤ f ∧ f < 16 ∧ fitsB a s = true
      · rw [if_pos hg]
        have hb := hg.2.2
        unfold fitsB at hb
        rw [decide_eq_true_iff] at hb
        have := hz.add (f := f.toNat) (a := a.toNat) (s := s) (by omega) (by omega)
        exact ⟨_, this.crash _⟩
      · rw [if_neg hg]
        exact ⟨_, hz.crash _⟩

theorem comes_keep (r : Rk) (f a : Int) (s : List UInt8) : (r.comes f a s).keep = r.keep := by
  unfold Rk.comes Rk.crash Rk.add
  repeat' split
  all_goals rfl

theorem PostR.weak {T T2 : Nat → Prop} (h : PostR T w b L r' w') (hT : ∀ i, T i → T2 i) : PostR T2 w b L r' w' := by
  obtain ⟨L', h1, h2, h3⟩ := h
  exact ⟨L', h1, h2.mono (fun i hi => Or.inl (hT i hi)), h3⟩

theorem PostR.step {r1 r2 : Rk} {w1 w2 : World} {T : Nat → Prop} (h1 : PostR (RFoot b L) w b L r1 w1) (h2 : ∀ L1, IsR w1 b L1 r1 → PostR (RFoot b L1) w1 b L1 r2 w2) (hT : ∀ i, RFoot b L i → T i) : PostR T w b L r2 w2 := by
  obtain ⟨L1, hi, hk, ho⟩ := h1
  refine PostR.andThen (hk.mono (fun i hi => Or.inl (hT i hi))) ho (h2 L1 hi) (fun i hi => ?_)
  rcases ho i hi with h | h
  · exact Or.inl (hT i h)
  · exact Or.inr h

theorem foot_own : ∀ i, (fun i => i = b) i → RFoot b L i := fun _ e => Or.inl e

set_option maxHeartbeats 4000000 in
set_option maxRecDepth 100000 in
theorem rcomes_calls (h : IsR w b L r) (hr : Rep r d) (hkl : r.keep.length ≤ 1099511627776) (f a : Int) (s : List UInt8) (hs : s.length ≤ 1099511627776) :
    Calls Try.prog 52 #[.pointer (some ⟨b, 0, none⟩), .int .i64 f, .int .i64 a, .string (bs s)] w fun e w' => e = .returned (.tuple #[]) ∧ PostR (RFoot b L) w b L (r.comes f a s) w' := by
  have a3 : w.cell? ⟨b, 3, none⟩ = some (.bool r.down) := h.cells.cell 3 (by omega)
  have a4 : w.cell? ⟨b, 4, none⟩ = some (.int .i64 r.armed) := h.cells.cell 4 (by omega)
  have f4 := h.cells.frozen 4
  have hcb := h.cb
  have H := Lib.hid h
  by_cases hdn : r.down = true
  · have hcm : r.comes f a s = r := by unfold Rk.comes; rw [if_pos (Or.inl hdn)]
    rw [hcm]
    rw [hdn] at a3
    clear h hr hcm hdn
    go_enter Try.func52, Try.ntmps52
    go_wp2_with fail
    exact bodyPost_ret (v := .tuple #[]) (by simp [results, Try.results52, go_sem]) rfl ⟨rfl, PostR.refl H.out⟩
  · have hdf : r.down = false := by simpa using hdn
    rw [hdf] at a3
    by_cases h0 : r.armed = 0
    · have hcm : r.comes f a s = r := by unfold Rk.comes; rw [if_pos (Or.inr h0)]
      rw [hcm]
      rw [h0] at a4
      clear h hr hcm hdn h0 hdf hcb
      go_enter Try.func52, Try.ntmps52
      go_wp2_with fail
      exact bodyPost_ret (v := .tuple #[]) (by simp [results, Try.results52, go_sem]) rfl ⟨rfl, PostR.refl H.out⟩
    · have hI : ∀ m : Nat, m ≤ 9223372036854775807 → IsR (w.setCell ⟨b, 4, none⟩ (.int .i64 m)) b L { r with armed := m } := fun m hm => h.cell rfl rfl rfl h.lb hm ((h.cells.set 4 (.int .i64 m)).eq (fun j _ => by
        by_cases e : j = 4
        · subst e; rfl
        · simp [upd, e, rcell])) ((Kept.refl (fun x => x = b) w).setCell (p := ⟨b, 4, none⟩) (Or.inl rfl) _)
      have hkw : ∀ v, Kept (fun i => i = b) w (w.setCell ⟨b, 4, none⟩ v) := fun v => (Kept.refl (fun x => x = b) w).setCell (p := ⟨b, 4, none⟩) (Or.inl rfl) v
      by_cases h1 : r.armed = 1
      · have hz := hr.armed_to 0 (fun e => absurd rfl e)
        have hi0 := hI 0 (Nat.zero_le _)
        have hcm : r.comes f a s = (if 0 ≤ f ∧ f < 16 ∧ fitsB a s = true then ({ r with armed := 0 } : Rk).add f.toNat a.toNat s else { r with armed := 0 }).crash r.keep := by
          unfold Rk.comes
          rw [if_neg (by rw [hdf]; simp [h0]), if_neg (by simp [h1])]
        rw [hcm]
        rw [h1] at a4
        obtain ⟨r0, hr0⟩ : ∃ r0 : Rk, r0 = { r with armed := 0 } := ⟨_, rfl⟩
        have hk0 : r0.keep = r.keep := by rw [hr0]
        rw [← hr0] at hz hi0 ⊢
        have HZ := Lib.hid hz
        have HI0 := Lib.hid hi0
        have HKW := Lib.hid hkw
        have HK0 := Lib.hid hk0
        have cf := Lib.hid (fun W => rfits_calls a s hs W)
        clear h hr hcm hdn h0 hdf hcb h1 hI hkw hz hi0 hr0 hk0
        -- behind the write, the crash
        have hcrash : ∀ (r1 : Rk) (d1 : Dk) (W : World) (L1 : RL), IsR W b L1 r1 → Rep r1 d1 → r1.keep = r.keep →
            Calls Try.prog 36 #[.pointer (some ⟨b, 0, none⟩), L1.kv] W fun e w' => e = .returned (.tuple #[]) ∧ PostR (fun i => i = b) W b L1 (r1.crash r.keep) w' := by
          intro r1 d1 W L1 hi1 hr1 hk1
          have hks := hi1.ks
          have := rcrash_calls hi1 hr1 L1.kv r1.keep (keep_of_owns hks) (fun i hi e => owns_ne_cells hks hi1.cells int_ne_Disk (e ▸ own_of_in hi)) (by rw [hk1]; exact hkl)
          rw [hk1] at this
          exact this
        have HCR := Lib.hid hcrash
        clear hcrash
        have hfin : ∀ (r1 : Rk) (W : World) (L1 : RL), IsR W b L1 r1 → ∃ a5 n5 c5, W.cell? ⟨b, 5, none⟩ = some (.slice a5 n5 c5) ∧ L1.kv = .slice a5 n5 c5 := by
          intro r1 W L1 hi1
          have h5 : W.cell? ⟨b, 5, none⟩ = some L1.kv := hi1.cells.cell 5 (by omega)
          obtain ⟨hl, ⟨hv, hn⟩ | ⟨g, cap, cur, hv, _⟩⟩ := hi1.ks
          · exact ⟨_, _, _, h5.trans (congrArg some hv), hv⟩
          · exact ⟨_, _, _, h5.trans (congrArg some hv), hv⟩
        have HFIN := Lib.hid hfin
        clear hfin
        by_cases hf0 : 0 ≤ f
        · have df0 : decide (0 ≤ f) = true := decide_eq_true hf0
          by_cases hf1 : f ≤ 15
          · have df1 : decide (f ≤ 15) = true := decide_eq_true hf1
            cases hfb : fitsB a s with
            | true =>
              have hfb2 := hfb
              unfold fitsB at hfb2
              rw [decide_eq_true_iff] at hfb2
              rw [hfb] at cf
              rw [if_pos ⟨hf0, by omega, rfl⟩]
              have hnl : (getF r0.fs (f.toNat : Int)).now.length ≤ 16777216 := HZ.out.now_len (by omega)
              have ca := Lib.hid (radd_calls HI0.out (by have := HZ.out.nums.len; omega) HZ.out.q_len f.toNat a.toNat s hnl (by omega) (by omega))
              have e1 : ((f.toNat : Nat) : Int) = f := by omega
              have e2 : ((a.toNat : Nat) : Int) = a := by omega
              rw [e1, e2] at ca
              have hra := HZ.out.add (f := f.toNat) (a := a.toNat) (s := s) (by omega) (by omega)
              have hka : (r0.add f.toNat a.toNat s).keep = r.keep := by
                rw [← HK0.out]
                unfold Rk.add
                split <;> rfl
              have HRA := Lib.hid hra
              have HKA := Lib.hid hka
              clear hfb hfb2 hnl e1 e2 hra hka
              go_enter Try.func52, Try.ntmps52
              go_wp2_with (go_at_call 55; refine (cf.out _).mono ?_; rintro e w9 ⟨rfl, rfl⟩)
              refine Calls.mono ca.out ?_
              rintro e w1 ⟨rfl, L1, hi1, hk1, ho1⟩
              obtain ⟨a5, n5, c5, h5, hkv⟩ := HFIN.out _ _ _ hi1
              have cc := HCR.out _ _ _ _ hi1 HRA.out HKA.out
              rw [hkv] at cc
              have CC := Lib.hid cc
              have HK1 := Lib.hid hk1
              have HO1 := Lib.hid ho1
              clear hi1 hk1 ho1 hkv cc ca
              go_wp2_with fail
              refine Calls.mono CC.out ?_
              rintro e w2 ⟨rfl, hp2⟩
              have HP2 := Lib.hid hp2
              clear hp2 CC
              go_wp2_with fail
              go_end0
              refine ⟨rfl, PostR.andThen (((HKW.out _).mono (fun i e => Or.inl (Or.inl e))).trans HK1.out) (fun i hi => (HO1.out i hi).imp id (fun h => by simpa [World.setCell] using h)) HP2.out (fun i e => Or.inl (Or.inl e))⟩
            | false =>
              rw [hfb] at cf
              rw [if_neg (fun hh => by simp at hh)]
              have cc := HCR.out _ _ _ _ HI0.out HZ.out HK0.out
              obtain ⟨a5, n5, c5, -, hkv⟩ := HFIN.out _ _ _ HI0.out
              have h5 : w.cell? ⟨b, 5, none⟩ = some (.slice a5 n5 c5) := by rw [← hkv]; exact H.out.cells.cell 5 (by omega)
              rw [hkv] at cc
              have CC := Lib.hid cc
              clear hkv cc hfb
              go_enter Try.func52, Try.ntmps52
              go_wp2_with (go_at_call 55; refine (cf.out _).mono ?_; rintro e w9 ⟨rfl, rfl⟩)
              refine Calls.mono CC.out ?_
              rintro e w2 ⟨rfl, hp2⟩
              have HP2 := Lib.hid hp2
              clear hp2 CC
              go_wp2_with fail
              go_end0
              exact ⟨rfl, PostR.andThen ((HKW.out _).mono (fun i e => Or.inl (Or.inl e))) (fun _ hi => Or.inl hi) HP2.out (fun i e => Or.inl (Or.inl e))⟩
          · have df1 : decide (f ≤ 15) = false := decide_eq_false hf1
            rw [if_neg (fun hh => by omega)]
            have cc := HCR.out _ _ _ _ HI0.out HZ.out HK0.out
            obtain ⟨a5, n5, c5, -, hkv⟩ := HFIN.out _ _ _ HI0.out
            have h5 : w.cell? ⟨b, 5, none⟩ = some (.slice a5 n5 c5) := by rw [← hkv]; exact H.out.cells.cell 5 (by omega)
            rw [hkv] at cc
            have CC := Lib.hid cc
            clear hkv cc
            go_enter Try.func52, Try.ntmps52
            go_wp2_with fail
            refine Calls.mono CC.out ?_
            rintro e w2 ⟨rfl, hp2⟩
            have HP2 := Lib.hid hp2
            clear hp2 CC
            go_wp2_with fail
            go_end0
            exact ⟨rfl, PostR.andThen ((HKW.out _).mono (fun i e => Or.inl (Or.inl e))) (fun _ hi => Or.inl hi) HP2.out (fun i e => Or.inl (Or.inl e))⟩
        · have df0 : decide (0 ≤ f) = false := decide_eq_false hf0
          rw [if_neg (fun hh => hf0 hh.1)]
          have cc := HCR.out _ _ _ _ HI0.out HZ.out HK0.out
          obtain ⟨a5, n5, c5, -, hkv⟩ := HFIN.out _ _ _ HI0.out
          have h5 : w.cell? ⟨b, 5, none⟩ = some (.slice a5 n5 c5) := by rw [← hkv]; exact H.out.cells.cell 5 (by omega)
          rw [hkv] at cc
          have CC := Lib.hid cc
          clear hkv cc
          go_enter Try.func52, Try.ntmps52
          go_wp2_with fail
          refine Calls.mono CC.out ?_
          rintro e w2 ⟨rfl, hp2⟩
          have HP2 := Lib.hid hp2
          clear hp2 CC
          go_wp2_with fail
          go_end0
          exact ⟨rfl, PostR.andThen ((HKW.out _).mono (fun i e => Or.inl (Or.inl e))) (fun _ hi => Or.inl hi) HP2.out (fun i e => Or.inl (Or.inl e))⟩
      · have hcm : r.comes f a s = { r with armed := r.armed - 1 } := by
          unfold Rk.comes
          rw [if_neg (by rw [hdf]; simp [h0]), if_pos h1]
        rw [hcm]
        obtain ⟨m, hm⟩ : ∃ m, m = r.armed - 1 := ⟨_, rfl⟩
        have e1 : (r.armed : Int) - 1 = (m : Int) := by omega
        have hmp : 0 < m := by omega
        have hi0 := hI m (by omega)
        rw [← hm]
        have HI0 := Lib.hid hi0
        have HKW := Lib.hid hkw
        have d5 : (0 : Int) < (m : Int) := by omega
        have d6 : (1 : Int) ≤ (r.armed : Int) := by omega
        have ez : ((r.armed : Int) == 0) = false := by simp; omega
        have ez2 : (r.armed == 0) = false := by simp; omega
        clear h hr hcm hdn h0 hdf h1 hI hkw hi0 hm
        go_enter Try.func52, Try.ntmps52
        go_wp2_with fail
        exact bodyPost_ret (v := .tuple #[]) (by simp [results, Try.results52, go_sem]) rfl ⟨rfl, L, HI0.out, (HKW.out _).mono (fun i e => Or.inl (Or.inl e)), fun _ hi => Or.inl hi⟩

end Go.Proofs.Ytbljfdjhgleafaa
