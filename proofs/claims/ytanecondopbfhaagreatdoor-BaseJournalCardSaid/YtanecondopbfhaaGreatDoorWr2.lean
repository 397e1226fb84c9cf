/- Write; NewDisk. -/
import Derived.Test.YtanecondopbfhaaGreatDoorWr
namespace Go.Proofs.YtanecondopbfhaaGreatDoor
open Go.RowKit

variable {w w' : World} {b : Nat} {L : Loc} {d : Dk}

set_option maxRecDepth 100000 in
theorem dwrite_calls (h : IsD w b L d) (f a : Int) (s : List UInt8) (hs : s.length ≤ 1099511627776) (ha : -9223372036854775808 ≤ a ∧ a ≤ 9223372036854775807) (hR : d.R + s.length + 2 ≤ 549755813888) :
    Calls Tryz.prog 36 #[.pointer (some ⟨b, 0, none⟩), .int .i64 f, .int .i64 a, .string (bs s)] w fun r w' => r = .returned (.int .i64 (d.write f a s).2) ∧ Post w b L (d.write f a s).1 w' := by
  have hcc := Lib.hid (check_calls h f)
  obtain ⟨k, hk⟩ : ∃ k, k = d.chk f := ⟨_, rfl⟩
  rw [← hk] at hcc
  rw [Dk.write, ← hk]
  have hkb : k = 0 ∨ k = 1 ∨ k = 8 := by
    rw [hk, Dk.chk]
    split
    · exact Or.inr (Or.inr rfl)
    · split
      · exact Or.inl rfl
      · exact Or.inr (Or.inl rfl)
  by_cases hc : k = 0
  · rw [if_pos hc]
    subst hc
    obtain ⟨hf1, hf2, _⟩ := Dk.chk_ok hk.symm
    obtain ⟨f, rfl⟩ : ∃ n : Nat, f = (n : Int) := ⟨f.toNat, by omega⟩
    have hcs := Lib.hid (write_calls h f (by omega) a s hs ha hR)
    have hfin := Lib.hid (fun w1 L1 (h1 : IsD w1 b L1 (d.put f a s).1) => finish_calls h1 (d.put f a s).2)
    rw [Int.toNat_natCast]
    obtain ⟨d1, e, hde⟩ : ∃ d1 e, d.put f a s = (d1, e) := ⟨_, _, rfl⟩
    rw [hde] at hcs hfin ⊢
    clear h hk hkb hde
    go_enter Tryz.func36, Tryz.ntmps36
    go_wp2_with (first
      | (go_at_call 61; refine hcc.out.mono ?_; rintro r w' ⟨rfl, rfl⟩)
      | (go_at_call 65; refine hcs.out.mono ?_; rintro r w1 ⟨rfl, hp1⟩; obtain ⟨L1, hi1, hk1, ho1, hv1⟩ := hp1; replace hk1 := Lib.hid hk1; replace ho1 := Lib.hid ho1; replace hv1 := Lib.hid hv1; have hff := Lib.hid (hfin.out w1 L1 hi1); clear hi1)
      | (go_at_call 66; refine hff.out.mono ?_; rintro r w2 ⟨rfl, hp2⟩))
    go_ret
    exact ⟨rfl, Post.trans hk1.out ho1.out hv1.out hp2⟩
  · rw [if_neg hc]
    have hfin := Lib.hid (finish_calls h k)
    clear h hk
    rcases hkb with rfl | rfl | rfl
    · exact absurd rfl hc
    all_goals
      clear hc
      go_enter Tryz.func36, Tryz.ntmps36
      go_wp2_with (first
        | (go_at_call 61; refine hcc.out.mono ?_; rintro r w' ⟨rfl, rfl⟩)
        | (go_at_call 66; refine hfin.out.mono ?_; rintro r w2 ⟨rfl, hp2⟩))
      go_ret
      exact ⟨rfl, hp2⟩

end Go.Proofs.YtanecondopbfhaaGreatDoor
