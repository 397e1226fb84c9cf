/- The test for primes. -/
import Derived.Test.YthnkfjjgccabeaaGreatDoorPow2
import Derived.Test.YthnkfjjgccabeaaGreatDoorSha
import Derived.Shelf.Spec.TrailingZeros
import Derived.Deep.MidRow
namespace Go.Proofs.YthnkfjjgccabeaaGreatDoor
open Go.RowKit

/-- What the world holds of the listed variables. -/
structure Env (w : World) : Prop where
  lo : 0 < w.heap.size ∧ 4 < w.heap.size ∧ 3 < w.heap.size ∧ 5 < w.heap.size
  wit : ∀ (i p : Nat), witL[i]? = some p → w.cell? ⟨0, i, none⟩ = some (.int .i64 (p : Int))
  tz : TabAt 4 Lib.deBruijn64tab w
  fs : ∀ i (v : BitVec 32), [firstB.a, firstB.b, firstB.c, firstB.d, firstB.e, firstB.f, firstB.g, firstB.h][i]? = some v → w.cell? ⟨3, i, none⟩ = some (.int .u32 (v.toNat : Int))
  rc : ∀ i (v : BitVec 32), constsB[i]? = some v → w.cell? ⟨5, i, none⟩ = some (.int .u32 (v.toNat : Int))
theorem Env.next {w w' : World} (h : Env w) (hb : Below w.heap.size w w') : Env w' where
  lo := ⟨Nat.lt_of_lt_of_le h.lo.1 hb.size, Nat.lt_of_lt_of_le h.lo.2.1 hb.size, Nat.lt_of_lt_of_le h.lo.2.2.1 hb.size, Nat.lt_of_lt_of_le h.lo.2.2.2 hb.size⟩
  wit := fun i p hp => by rw [hb.cell (p := ⟨_, i, none⟩) h.lo.1]; exact h.wit i p hp
  tz := fun j hj => by rw [hb.cell (p := ⟨_, j, none⟩) h.lo.2.1]; exact h.tz j hj
  fs := fun i p hp => by rw [hb.cell (p := ⟨_, i, none⟩) h.lo.2.2.1]; exact h.fs i p hp
  rc := fun i p hp => by rw [hb.cell (p := ⟨_, i, none⟩) h.lo.2.2.2]; exact h.rc i p hp
theorem Env.drewN {w : World} (h : Env w) (n : Nat) : Env (w.drewN n) where
  lo := h.lo
  wit := h.wit
  tz := h.tz
  fs := h.fs
  rc := h.rc

theorem ctz_twos (f x : Nat) : 0 < x → x < 2 ^ f → Lib.ctzFrom f x = twosN f x := by
  induction f generalizing x with
  | zero => intro h0 h; simp at h; omega
  | succ f ih =>
    intro h0 h
    rw [Lib.ctzFrom, twosN]
    by_cases hx : x % 2 = 1
    · rw [if_pos hx, if_neg (by omega)]
    · rw [if_neg hx, if_pos (by omega), ih (x / 2) (by omega) (by rw [Nat.pow_succ] at h; omega), Nat.add_comm]
theorem twosN_lt (f x : Nat) : 0 < x → x < 2 ^ f → twosN f x < f := by
  induction f generalizing x with
  | zero => intro h0 h; simp at h; omega
  | succ f ih =>
    intro h0 h
    rw [twosN]
    by_cases hx : x % 2 = 0
    · rw [if_pos hx]
      have := ih (x / 2) (by omega) (by rw [Nat.pow_succ] at h; omega)
      omega
    · rw [if_neg hx]; omega
theorem tz_core (x k idx : Nat) (w : World) (hx0 : ((x : Int) == 0) = false)
    (key : IntKind.u64.wrap (bits BinOp.and IntKind.u64 (x : Int) (IntKind.u64.wrap (-(x : Int))) * 285870213051353865) / 288230376151711744 = (idx : Int))
    (hi : idx < 64) (hk : k < 64) (hcell : w.cell? ⟨4, idx, none⟩ = some (.int .u8 (k : Int))) :
    Calls Tryz.prog 105 #[.int .u64 (x : Int)] w fun e w' => e = .returned (.int .i64 (k : Int)) ∧ w = w' := by
  go_enter Tryz.func105, Tryz.ntmps105
  go_wp2_with (simp only [key])
  go_ret
  exact ⟨rfl, rfl⟩
theorem tz_calls (x : Nat) (h0 : x ≠ 0) (hx : x < 18446744073709551616) (w : World) (hE : Env w) :
    Calls Tryz.prog 105 #[.int .u64 (x : Int)] w fun e w' => e = .returned (.int .i64 (twos x : Int)) ∧ w = w' := by
  obtain ⟨hlow, hk⟩ := Lib.lowest_bit 64 x h0 hx
  obtain ⟨hi, htab⟩ := Lib.deBruijn64_at _ hk
  have hcell := hE.tz _ hi
  rw [htab] at hcell
  have hc : Lib.ctz 64 x = twos x := by unfold Lib.ctz twos; rw [if_neg h0]; exact ctz_twos 64 x (by omega) hx
  rw [← hc]
  exact tz_core x _ _ w (beq_eq_false_iff_ne.2 (by omega)) (tz64_key x _ hx h0 hlow) hi hk hcell

set_option maxHeartbeats 1000000 in
theorem passes_calls (n a : Nat) (hn1 : 1 < n) (hn : n < 2305843009213693952) (ha : a < n) (w : World) (hE : Env w) :
    Calls Tryz.prog 96 #[.int .i64 (n : Int), .int .i64 (a : Int)] w (Ret (.bool (passB n a)) w) := by
  have hz := tz_calls (n - 1) (by omega) (by omega) w hE
  have hs64 : twos (n - 1) < 64 := twosN_lt 64 (n - 1) (by omega) (by omega)
  have hP := passFrom_zero n a
  obtain ⟨s, hs⟩ : ∃ s, s = twos (n - 1) := ⟨_, rfl⟩
  obtain ⟨d, hd⟩ : ∃ d, d = (n - 1) / 2 ^ s := ⟨_, rfl⟩
  rw [← hs] at hz hs64 hP
  rw [← hd] at hP
  have hdl : d < 18446744073709551616 := by rw [hd]; exact Nat.lt_of_le_of_lt (Nat.div_le_self _ _) (by omega)
  have e1 : ((n - 1 : Nat) : Int) = (n : Int) - 1 := by omega
  rw [e1] at hz
  have e2 : ((n : Int) - 1) / 2 ^ s = (d : Int) := by rw [hd, ← e1]; simp
  have hr := fun w => raise_calls n a d (by omega) hn ha hdl w
  have hst : a ^ (d * 2 ^ 0) % n = a ^ d % n := by simp
  have HZ := Lib.hid hz
  have HR := fun w => Lib.hid (hr w)
  have HP := Lib.hid hP
  have hml := fun w (i : Nat) => mult_calls n (a ^ (d * 2 ^ i) % n) (a ^ (d * 2 ^ i) % n) hn (Nat.mod_lt _ (by omega)) (by have : a ^ (d * 2 ^ i) % n < n := Nat.mod_lt _ (by omega); omega) w
  have hnx := fun i => pass_next n a d i
  simp only [hnx] at hml
  have HM := fun w i => Lib.hid (hml w i)
  have hlt := fun i : Nat => (Nat.mod_lt (a ^ (d * 2 ^ i)) (show 0 < n by omega))
  have HLT := Lib.hid hlt
  have HST := Lib.hid hst
  clear hz hr hP hs hd e1 hml hnx hlt hst
  go_enter Tryz.func96, Tryz.ntmps96
  go_wp2_with fail
  refine HZ.out.mono ?_
  rintro e w' ⟨rfl, rfl⟩
  go_wp2_with fail
  refine (HR _).out.mono ?_
  rintro e w1 ⟨rfl, m, hw⟩
  subst hw
  by_cases h1 : a ^ d % n = 1
  · have d1 : (((a ^ d % n : Nat) : Int) == 1) = true := by rw [h1]; rfl
    have HF : Hid (passB n a = true) := by show passB n a = true; rw [HP.out, decide_eq_true h1]; rfl
    clear h1
    generalize a ^ d % n = x at *
    go_wp2
    go_ret
    exact ⟨ret_b HF.out.symm, m, rfl⟩
  · have d1 : (((a ^ d % n : Nat) : Int) == 1) = false := beq_eq_false_iff_ne.2 (by omega)
    have HF : Hid (passB n a = passFrom n a d s 0) := by show passB n a = _; rw [HP.out, decide_eq_false h1]; rfl
    have HX : Hid (a ^ d % n = a ^ (d * 2 ^ 0) % n) := HST.out.symm
    clear h1
    generalize a ^ d % n = x at *
    go_wp2
    go_loopw [6, 22] (fun y i wr => ∃ k m' : Nat, k ≤ s ∧ y = .int .i64 ((a ^ (d * 2 ^ k) % n : Nat) : Int) ∧ i = .int .i64 (k : Int) ∧ passFrom n a d s 0 = passFrom n a d s k ∧ wr = w.drewN m') (fun _ i _ => s - (intOf i).toNat)
    case atStart => exact ⟨0, m, Nat.zero_le _, by rw [HX.out], rfl, rfl, rfl⟩
    case round =>
      obtain ⟨k, m', hk, rfl, rfl, hi, rfl⟩ := hrel
      have HI := Lib.hid hi
      clear hi
      by_cases hks : k < s
      · have hstep := passFrom_step n a d s k hks
        have hX := HLT.out k
        have hM := fun w => HM w k
        by_cases hq : a ^ (d * 2 ^ k) % n = n - 1
        · have d2 : (((a ^ (d * 2 ^ k) % n : Nat) : Int) == (n : Int) - 1) = true := beq_iff_eq.2 (by omega)
          have HG : Hid (passB n a = true) := by show passB n a = true; rw [HF.out, HI.out, hstep, decide_eq_true hq]; rfl
          clear hstep hq
          generalize a ^ (d * 2 ^ k) % n = X at *
          go_wp2
          go_ret
          exact ⟨ret_b HG.out.symm, m', rfl⟩
        · have d2 : (((a ^ (d * 2 ^ k) % n : Nat) : Int) == (n : Int) - 1) = false := beq_eq_false_iff_ne.2 (by omega)
          have HG : Hid (passFrom n a d s 0 = passFrom n a d s (k + 1)) := by show _ = passFrom n a d s (k + 1); rw [HI.out, hstep, decide_eq_false hq]; rfl
          clear hstep hq
          generalize a ^ (d * 2 ^ k) % n = X at *
          go_wp2_with fail
          refine (hM _).out.mono ?_
          rintro e w1 ⟨rfl, m2, hw⟩
          subst hw
          go_wp2
          go_roundw
          case rel => exact ⟨k + 1, _, by omega, rfl, by go_num, HG.out, rfl⟩
          case measure => simp [intOf]; omega
      · have HG : Hid (passB n a = false) := by show passB n a = false; rw [HF.out, HI.out]; exact passFrom_end n a d s k (by omega)
        generalize a ^ (d * 2 ^ k) % n = X at *
        go_wp2
        go_ret
        exact ⟨ret_b HG.out.symm, m', rfl⟩
end Go.Proofs.YthnkfjjgccabeaaGreatDoor
