/- FieldSolutions: the shapes that it leaves out. -/
import Derived.Test.YtdeeoigcpihidaaDoorSolM
import Derived.Test.YtdeeoigcpihidaaDoorShares
namespace Go.Proofs.YtdeeoigcpihidaaDoor
open Go.RowKit

set_option maxHeartbeats 1000000 in
theorem shaped_calls (v : Value) (xss : List (List Int)) (c : Nat) (hn : xss.length ≤ 4) (w : World) (h : IsRows v xss w) :
    Calls Tryd.prog 17 #[v, .int .i64 (c : Int)] w fun e w' => e = .returned (.bool (sameFrom c xss)) ∧ w = w' := by
  obtain ⟨a, cap, rfl⟩ := h.len
  obtain ⟨F, hF⟩ : ∃ F, F = sameFrom c xss := ⟨_, rfl⟩
  rw [← hF]
  have HF : Nat → sameFrom c (xss.drop 0) = F := fun _ => by rw [List.drop_zero]; exact hF.symm
  clear hF
  go_enter Tryd.func17, Tryd.ntmps17
  go_wp2
  go_loopw [5] (fun i wr => ∃ k : Nat, k ≤ xss.length ∧ i = .int .i64 (k : Int) ∧ (Nat → sameFrom c (xss.drop k) = F) ∧ wr = w) (fun i _ => xss.length - (intOf i).toNat)
  case atStart => exact ⟨0, Nat.zero_le _, rfl, HF, rfl⟩
  case round =>
    clear HF
    obtain ⟨k, hk, rfl, HF, rfl⟩ := hrel
    by_cases hlt : k < xss.length
    · obtain ⟨bk, off, b, cp, rfl, _, z0, _⟩ := h.at k hlt
      have hst : Nat → ((xss[k].length == c) && sameFrom c (xss.drop (k + 1))) = F := fun _ => by rw [← sameFrom_drop c xss k hlt]; exact HF 0
      generalize xss[k].length = l at *
      have hk1 : (k : Int) < (xss.length : Int) := by omega
      have hk2 : (k : Int) < 5 := by omega
      by_cases hl : l = c
      · subst hl
        have HF2 : Nat → sameFrom l (xss.drop (k + 1)) = F := fun _ => by have := hst 0; simpa using this
        have hbn : ((l : Int) != (l : Int)) = false := by simp
        clear hst HF h
        go_wp2
        go_roundw
        case rel => exact ⟨k + 1, by omega, by go_num, HF2, by trivial⟩
        case measure => simp [intOf]; omega
      · have HF2 : Hid (F = false) := by show _ = _; have := hst 0; rw [show (l == c) = false from beq_eq_false_iff_ne.2 hl, Bool.false_and] at this; exact this.symm
        have hbn : ((l : Int) != (c : Int)) = true := bne_iff_ne.2 (by omega)
        have hbn2 : ¬ (l : Int) = (c : Int) := by omega
        clear hst HF h
        go_wp2
        go_ret
        exact ⟨ret_b HF2.out.symm, rfl⟩
    · obtain rfl : k = xss.length := by omega
      have HF2 : Hid (F = true) := by show _ = _; have := HF 0; rw [List.drop_length] at this; rw [← this]; rfl
      have h4 : (xss.length : Int) ≤ 4 := by omega
      clear HF h
      go_wp2
      go_ret
      exact ⟨ret_b HF2.out.symm, rfl⟩
theorem pwF_pow2 : ∀ q : Nat, q < 14 → ∀ n : Nat, n < 6 → q ^ n ≤ 2500 → pwF (q : Int) n 1 = ((q ^ n : Nat) : Int) := by decide +kernel
/-- What the law asks of its arguments. -/
structure SolOk (p : Nat) (xss : List (List Int)) (b : List Int) (c : Nat) : Prop where
  n0 : 0 < xss.length
  n4 : xss.length ≤ 4
  bl : b.length = xss.length
  pr : primeB (p : Int) = true
  cw : widF xss = c
  c1 : 1 ≤ c
  c5 : c ≤ 5
  sh : sameFrom c xss = true
  pw : pwF (p : Int) c 1 ≤ 2500
set_option maxRecDepth 100000 in
set_option maxHeartbeats 2000000 in
theorem sols_out1 (q : Int) (hq : 0 ≤ q ∧ q < 256) (p : Nat) (hp : q % 14 = (p : Int)) (rv bv : Value) (xss : List (List Int)) (b : List Int) (hlx : xss.length ≤ 9223372036854775807) (_ : b.length ≤ 9223372036854775807) (W : World) (hE : Env W) (hx : IsRows rv xss W) (hy : IsInts bv b W)
    (hno : ¬ (0 < xss.length ∧ xss.length ≤ 4 ∧ b.length = xss.length ∧ primeB (p : Int) = true)) :
    Calls Tryd.prog 4 #[.int .u8 q, rv, bv] W (Tpost W) := by
  obtain ⟨ax, cx, rfl⟩ := hx.len
  obtain ⟨ay, cy, rfl⟩ := hy.len
  have c1 := Lib.hid (sane_calls W hE)
  have hp14 : p < 14 := by omega
  have hpi : isInt (p : Int) := by unfold isInt; omega
  have hq0 := hq.1
  have hq1 := hq.2
  have HPQ := Lib.hid hp
  by_cases h0 : xss.length = 0
  · rw [h0]
    clear hno hp h0 hlx hx
    go_enter Tryd.func4, Tryd.ntmps4
    go_wp2_with fail
    refine c1.out.mono ?_
    rintro e w1 ⟨rfl, hB1⟩
    have HB1 := Lib.hid hB1
    have hp := HPQ.out
    clear hB1 hE c1
    go_wp2
    go_ret
    exact ⟨rfl, HB1.out⟩
  · have hz : ((xss.length : Int) == 0) = false := beq_eq_false_iff_ne.2 (by omega)
    have hz2 : ¬ (xss.length : Int) = 0 := by omega
    by_cases h4 : (4 : Int) < (xss.length : Int)
    · clear hno hp h0 hx
      go_enter Tryd.func4, Tryd.ntmps4
      go_wp2_with fail
      refine c1.out.mono ?_
      rintro e w1 ⟨rfl, hB1⟩
      have HB1 := Lib.hid hB1
      have hp := HPQ.out
      clear hB1 hE c1
      go_wp2
      go_ret
      exact ⟨rfl, HB1.out⟩
    · by_cases hl : b.length = xss.length
      · have hpr : primeB (p : Int) = false := by
          rw [Bool.eq_false_iff]
          exact fun h => hno ⟨by omega, by omega, hl, h⟩
        have hbne : ((b.length : Int) != (xss.length : Int)) = false := by rw [hl]; simp
        clear hno hp h0 hl hx
        go_enter Tryd.func4, Tryd.ntmps4
        go_wp2_with fail
        refine c1.out.mono ?_
        rintro e w1 ⟨rfl, hB1⟩
        have c2 := Lib.hid (prime_calls (p : Int) hpi w1 (hE.next hB1))
        rw [hpr] at c2
        have HB1 := Lib.hid hB1
        have hp := HPQ.out
        clear hB1 hE c1 hpr
        go_wp2_with fail
        refine Calls.mono c2.out ?_
        rintro e w2 ⟨rfl, m, rfl⟩
        clear c2 hp
        go_wp2
        go_ret
        exact ⟨rfl, below_drewN HB1.out m⟩
      · have hbne : ((b.length : Int) != (xss.length : Int)) = true := bne_iff_ne.2 (by omega)
        have hbne2 : ¬ (b.length : Int) = (xss.length : Int) := by omega
        clear hno hp h0 hl hx
        go_enter Tryd.func4, Tryd.ntmps4
        go_wp2_with fail
        refine c1.out.mono ?_
        rintro e w1 ⟨rfl, hB1⟩
        have HB1 := Lib.hid hB1
        have hp := HPQ.out
        clear hB1 hE c1
        go_wp2
        go_ret
        exact ⟨rfl, HB1.out⟩
end Go.Proofs.YtdeeoigcpihidaaDoor
