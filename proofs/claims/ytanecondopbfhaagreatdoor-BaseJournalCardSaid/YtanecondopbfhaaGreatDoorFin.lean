/- finish, Sync, Truncate. -/
import Derived.Test.YtanecondopbfhaaGreatDoorCrash2
namespace Go.Proofs.YtanecondopbfhaaGreatDoor
open Go.RowKit

variable {w w' : World} {b : Nat} {L : Loc} {d : Dk}

set_option maxHeartbeats 1000000 in
set_option maxRecDepth 100000 in
theorem finish_calls (h : IsD w b L d) (e : Int) :
    Calls Tryz.prog 66 #[.pointer (some ⟨b, 0, none⟩), .int .i64 e] w fun r w' => r = .returned (.int .i64 (d.fin e).2) ∧ Post w b L (d.fin e).1 w' := by
  have a1 : w.cell? ⟨b, 51, none⟩ = some (.bool d.down) := h.cells.cell 51 (by omega)
  have a2 : w.cell? ⟨b, 53, none⟩ = some (.int .i64 d.calls) := h.cells.cell 53 (by omega)
  have a3 := h.cells.frozen 53
  have hcb := h.cb
  rw [Dk.fin]
  by_cases hd : d.down = true
  · rw [if_pos (Or.inl hd)]
    rw [hd] at a1
    have H := Lib.hid h
    clear h hd
    go_enter Tryz.func66, Tryz.ntmps66
    go_wp2_with fail
    go_ret
    exact ⟨rfl, Post.same H.out (Kept.refl _ _)⟩
  · have hd' : d.down = false := by simpa using hd
    rw [hd'] at a1
    by_cases h0 : d.calls = 0
    · rw [if_pos (Or.inr h0)]
      have H := Lib.hid h
      rw [h0] at a2
      clear h hd hd' h0
      go_enter Tryz.func66, Tryz.ntmps66
      go_wp2_with fail
      go_ret
      exact ⟨rfl, Post.same H.out (Kept.refl _ _)⟩
    · rw [if_neg (by rintro (e | e); exact hd e; exact h0 e)]
      obtain ⟨m, hm⟩ : ∃ m, m = d.calls - 1 := ⟨_, rfl⟩
      have e1 : (d.calls : Int) - 1 = (m : Int) := by omega
      have e2 : ((d.calls : Int) == 0) = false := by simp; omega
      have hc1 := h.cells.set 53 (.int .i64 (m : Int))
      have hk1 := (Kept.refl (fun x => x = b) w).setCell (p := ⟨b, 53, none⟩) (Or.inl rfl) (.int .i64 (m : Int))
      have h1 : IsD (w.setCell ⟨b, 53, none⟩ (.int .i64 (m : Int))) b L { d with calls := m } := by
        refine h.scal rfl rfl rfl rfl rfl h.lb (by show m ≤ _; omega) (hc1.eq ?_) hk1
        intro i _
        by_cases e : i = 53
        · subst e; rfl
        · simp [upd, e, dcell]
      have HK := Lib.hid hk1
      have H1 := Lib.hid h1
      by_cases hm0 : 0 < m
      · rw [if_neg (by omega), ← hm]
        have e3 : decide ((0 : Int) < (m : Int)) = true := decide_eq_true (by omega)
        clear h hd hd' h0 hm hc1 hk1 h1
        go_enter Tryz.func66, Tryz.ntmps66
        go_wp2_with fail
        go_ret
        exact ⟨rfl, Post.same H1.out (HK.out.mono own_b)⟩
      · obtain rfl : m = 0 := by omega
        rw [if_pos (by omega)]
        have h2 : IsD (w.setCell ⟨b, 53, none⟩ (.int .i64 0)) b L { d with calls := 0 } := h1
        have hcr := Lib.hid (crash_calls h2 L.kv d.keep h2.kp h2.kb h2.kl)
        have a4 : (w.setCell ⟨b, 53, none⟩ (.int .i64 0)).cell? ⟨b, 54, none⟩ = some L.kv := h2.cells.cell 54 (by omega)
        obtain ⟨kv, hkv⟩ : ∃ kv, kv = L.kv := ⟨_, rfl⟩
        rw [← hkv] at a4 hcr
        have hm2 : d.calls = 1 := by omega
        rw [hm2] at a2
        clear h hd hd' h0 hm hc1 hk1 h1 h2 hm0 hkv e1 e2 hm2
        go_enter Tryz.func66, Tryz.ntmps66
        go_wp2_with fail
        refine Calls.mono hcr.out ?_
        rintro e w2 ⟨rfl, hp⟩
        go_wp2_with fail
        go_ret
        exact ⟨rfl, Post.trans (HK.out.mono own_b) (fun i hi => Or.inl hi) (fun i hi => Or.inl hi) hp⟩

/-- Two calls, one behind the other. -/
theorem Post.bind {d1 d2 : Dk} {w1 w2 : World} {Q : Prop} (h : Post w b L d1 w1) (hn : ∀ L1, IsD w1 b L1 d1 → Q ∧ Post w1 b L1 d2 w2) : Q ∧ Post w b L d2 w2 := by
  obtain ⟨L1, hi, hk, ho, hv⟩ := h
  obtain ⟨h1, h2⟩ := hn L1 hi
  exact ⟨h1, Post.trans hk ho hv h2⟩

set_option maxRecDepth 100000 in
theorem dsync_calls (h : IsD w b L d) (f : Int) :
    Calls Tryz.prog 45 #[.pointer (some ⟨b, 0, none⟩), .int .i64 f] w fun r w' => r = .returned (.int .i64 (d.sync f).2) ∧ Post w b L (d.sync f).1 w' := by
  have a2 : w.cell? ⟨b, 53, none⟩ = some (.int .i64 d.calls) := h.cells.cell 53 (by omega)
  have hcc := Lib.hid (check_calls h f)
  have hcb := h.cb
  obtain ⟨k, hk⟩ : ∃ k, k = d.chk f := ⟨_, rfl⟩
  rw [← hk] at hcc
  rw [Dk.sync, ← hk]
  have hkb : k = 0 ∨ k = 1 ∨ k = 8 := by
    rw [hk, Dk.chk]
    split
    · exact Or.inr (Or.inr rfl)
    · split
      · exact Or.inl rfl
      · exact Or.inr (Or.inl rfl)
  by_cases hc : k = 0 ∧ d.calls ≠ 1
  · rw [if_pos hc]
    obtain ⟨rfl, hne⟩ := hc
    obtain ⟨hf1, hf2, _⟩ := Dk.chk_ok hk.symm
    obtain ⟨f, rfl⟩ : ∃ n : Nat, f = (n : Int) := ⟨f.toNat, by omega⟩
    have hcs := Lib.hid (sync_calls h f (by omega))
    have hfin := Lib.hid (fun w1 L1 (h1 : IsD w1 b L1 (d.syn f).1) => finish_calls h1 (d.syn f).2)
    have e1 : ((d.calls : Int) != 1) = true := by simp; omega
    rw [Int.toNat_natCast]
    obtain ⟨d1, e, hde⟩ : ∃ d1 e, d.syn f = (d1, e) := ⟨_, _, rfl⟩
    rw [hde] at hcs hfin ⊢
    clear h hk hne hkb hde
    go_enter Tryz.func45, Tryz.ntmps45
    go_wp2_with (first
      | (go_at_call 61; refine hcc.out.mono ?_; rintro r w' ⟨rfl, rfl⟩)
      | (go_at_call 80; refine hcs.out.mono ?_; rintro r w1 ⟨rfl, hp1⟩; obtain ⟨L1, hi1, hk1, ho1, hv1⟩ := hp1; replace hk1 := Lib.hid hk1; replace ho1 := Lib.hid ho1; replace hv1 := Lib.hid hv1; have hff := Lib.hid (hfin.out w1 L1 hi1); clear hi1)
      | (go_at_call 66; refine hff.out.mono ?_; rintro r w2 ⟨rfl, hp2⟩))
    go_ret
    exact ⟨rfl, Post.trans hk1.out ho1.out hv1.out hp2⟩
  · rw [if_neg hc]
    have hfin := Lib.hid (finish_calls h k)
    clear h hk
    rcases hkb with rfl | rfl | rfl
    · have hcal : d.calls = 1 := by
        apply Classical.byContradiction
        intro hh
        exact hc ⟨rfl, hh⟩
      rw [hcal] at a2
      clear hc hcal
      go_enter Tryz.func45, Tryz.ntmps45
      go_wp2_with (first
        | (go_at_call 61; refine hcc.out.mono ?_; rintro r w' ⟨rfl, rfl⟩)
        | (go_at_call 66; refine hfin.out.mono ?_; rintro r w2 ⟨rfl, hp2⟩))
      go_ret
      exact ⟨rfl, hp2⟩
    all_goals
      clear hc
      go_enter Tryz.func45, Tryz.ntmps45
      go_wp2_with (first
        | (go_at_call 61; refine hcc.out.mono ?_; rintro r w' ⟨rfl, rfl⟩)
        | (go_at_call 66; refine hfin.out.mono ?_; rintro r w2 ⟨rfl, hp2⟩))
      go_ret
      exact ⟨rfl, hp2⟩

end Go.Proofs.YtanecondopbfhaaGreatDoor
