/- Reading a file of the disk; its length. -/
import Derived.Test.YtanecondopbfhaaGreatDoorDisk
namespace Go.Proofs.YtanecondopbfhaaGreatDoor
open Go.RowKit

variable {w w' : World} {b : Nat} {L : Loc} {d : Dk}

set_option maxRecDepth 100000 in
theorem size_calls (h : IsD w b L d) (f : Int) : Calls Tryz.prog 30 #[.pointer (some ⟨b, 0, none⟩), .int .i64 f] w fun e w' => e = .returned (.int .i64 (d.size f)) ∧ w = w' := by
  obtain ⟨r, hr⟩ : ∃ r, r = d.size f := ⟨_, rfl⟩
  rw [← hr]
  rw [Dk.size] at hr
  by_cases h1 : f < 0
  · rw [if_neg (by omega)] at hr
    subst hr
    clear h
    have d1 : decide (f < 0) = true := decide_eq_true h1
    go_enter Tryz.func30, Tryz.ntmps30
    go_wp2_with fail
    go_ret
    exact ⟨rfl, rfl⟩
  · have d1 : decide (f < 0) = false := decide_eq_false h1
    by_cases h2 : 16 ≤ f
    · rw [if_neg (by omega)] at hr
      subst hr
      clear h
      have d2 : decide (16 ≤ f) = true := decide_eq_true h2
      go_enter Tryz.func30, Tryz.ntmps30
      go_wp2_with fail
      go_ret
      exact ⟨rfl, rfl⟩
    · have d2 : decide (16 ≤ f) = false := decide_eq_false h2
      rw [if_pos (by omega)] at hr
      obtain ⟨k, rfl⟩ : ∃ k : Nat, f = k := ⟨f.toNat, by omega⟩
      rw [Int.toNat_natCast] at hr
      have b1 : (0 : Int) ≤ (k : Int) := by omega
      have b2 : (k : Int) < 16 := by omega
      have a : w.cell? ⟨b, 1 + k, none⟩ = some (.int .i64 r) := by rw [h.cells.cell _ (by omega), dcell_F L d k (by omega), hr]
      clear h hr
      go_enter Tryz.func30, Tryz.ntmps30
      go_wp2_with fail
      go_ret
      exact ⟨rfl, rfl⟩

theorem IsD.range_F (h : IsD w b L d) : w.rangeAt b 0 (imgl L.mF d.F.sz) := by
  intro j v hv
  have hj : j < 17 := by
    have := (List.getElem?_eq_some_iff.1 hv).1
    simpa [imgl] using this
  rw [Nat.zero_add, h.cells.cell j (by omega)]
  rw [imgl, List.getElem?_map, List.getElem?_range hj] at hv
  rw [← hv]
  cases j with
  | zero => rfl
  | succ i => rw [show i + 1 = 1 + i by omega, dcell_F L d i (by omega)]; rw [Nat.add_comm]; rfl

set_option maxHeartbeats 1000000 in
set_option maxRecDepth 100000 in
theorem read_disk (h : IsD w b L d) (f a n : Int) (ha : -9223372036854775808 ≤ a) (ha2 : a ≤ 9223372036854775807) :
    Calls Tryz.prog 29 #[.pointer (some ⟨b, 0, none⟩), .int .i64 f, .int .i64 a, .int .i64 n] w fun e w' => e = .returned (.tuple #[.string (bs (d.read f a n).1), .int .i64 (d.read f a n).2]) ∧ Below w.heap.size w w' := by
  have hchk := check_calls h f
  obtain ⟨r, hr⟩ : ∃ r, r = d.read f a n := ⟨_, rfl⟩
  rw [← hr]
  rw [Dk.read] at hr
  obtain ⟨ck, hck⟩ : ∃ ck, ck = d.chk f := ⟨_, rfl⟩
  rw [← hck] at hchk hr
  by_cases h0 : ck = 0
  · rw [if_neg (by simp [h0])] at hr
    subst h0
    obtain ⟨f0, f16, _⟩ := Dk.chk_ok hck.symm
    obtain ⟨k, rfl⟩ : ∃ k : Nat, f = k := ⟨f.toNat, by omega⟩
    rw [Int.toNat_natCast] at hr
    have b1 : (0 : Int) ≤ (k : Int) := by omega
    have b2 : (k : Int) < 16 := by omega
    by_cases h1 : a < 0
    · rw [if_pos (Or.inl h1)] at hr
      subst hr
      have d1 : decide (a < 0) = true := decide_eq_true h1
      clear h hck
      go_enter Tryz.func29, Tryz.ntmps29
      go_wp2_with (go_at_call 61; refine hchk.mono ?_; rintro e w' ⟨rfl, rfl⟩)
      go_ret2
      exact ⟨rfl, Below.refl _ _⟩
    · have d1 : decide (a < 0) = false := decide_eq_false h1
      by_cases h2 : n < 0
      · rw [if_pos (Or.inr h2)] at hr
        subst hr
        have d2 : decide (n < 0) = true := decide_eq_true h2
        clear h hck
        go_enter Tryz.func29, Tryz.ntmps29
        go_wp2_with (go_at_call 61; refine hchk.mono ?_; rintro e w' ⟨rfl, rfl⟩)
        go_ret2
        exact ⟨rfl, Below.refl _ _⟩
      · have d2 : decide (n < 0) = false := decide_eq_false h2
        rw [if_neg (by omega)] at hr
        obtain ⟨x, rfl⟩ : ∃ x : Nat, a = x := ⟨a.toNat, by omega⟩
        obtain ⟨y, rfl⟩ : ∃ y : Nat, n = y := ⟨n.toNat, by omega⟩
        have hmx := h.ok.mx k
        have c1 : w.cell? ⟨b, 1 + k, none⟩ = some (.int .i64 (d.F.sz k)) := by rw [h.cells.cell _ (by omega), dcell_F L d k (by omega)]
        by_cases h3 : d.F.sz k ≤ x
        · rw [if_pos (by omega)] at hr
          subst hr
          clear h hck
          go_enter Tryz.func29, Tryz.ntmps29
          go_wp2_with (go_at_call 61; refine hchk.mono ?_; rintro e w' ⟨rfl, rfl⟩)
          go_ret2
          exact ⟨rfl, Below.refl _ _⟩
        · rw [if_neg (by omega), Int.toNat_natCast, Int.toNat_natCast] at hr
          obtain ⟨mn, hmn⟩ : ∃ mn, mn = min y (d.F.sz k - x) := ⟨_, rfl⟩
          have hmin : min (y : Int) ((d.F.sz k : Int) - (x : Int)) = (mn : Int) := by omega
          have hcon := Lib.hid (read_calls L.mF 4194304 d.F.sz d.F.B k x (x + mn) w h.secF (by omega) (by omega) (by omega))
          have hrg := Lib.hid h.range_F
          have hl17 : (imgl L.mF d.F.sz).length = 17 := by simp [imgl]
          have hcs : ((x + mn : Nat) : Int) = (x : Int) + (mn : Int) := by omega
          rw [← hmn] at hr
          unfold imgV at hcon
          rw [hcs] at hcon
          have HL := Lib.hid hl17
          have HR := Lib.hid hr
          clear h hck hl17 hr hmn hcs
          go_enter Tryz.func29, Tryz.ntmps29
          go_wp2_with (first
            | (go_at_call 61; refine hchk.mono ?_; rintro e w' ⟨rfl, rfl⟩)
            | (refine wpList_load_mid rfl 73 _ rfl b 0 rfl (imgl L.mF d.F.sz) _ hrg.out Tryz.underlying73 rfl (by rw [HL.out]; kernel_rfl) ?_)
            | (go_at_call 62; refine hcon.out.mono ?_; rintro e w' ⟨rfl, hb⟩))
          go_ret2
          refine ⟨?_, hb⟩
          rw [HR.out]
          rfl
  · rw [if_pos (by simpa using h0)] at hr
    subst hr
    have d1 : (ck == 0) = false := by simpa using h0
    have d2 : (ck != 0) = true := by simpa using h0
    clear h hck
    go_enter Tryz.func29, Tryz.ntmps29
    go_wp2_with (go_at_call 61; refine hchk.mono ?_; rintro e w' ⟨rfl, rfl⟩)
    go_ret2
    exact ⟨rfl, Below.refl _ _⟩

end Go.Proofs.YtanecondopbfhaaGreatDoor
