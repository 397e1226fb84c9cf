/- The reference's test for primes. -/
import Derived.Test.YtdeeoigcpihidaaDoorRef2
import Derived.Test.YtdeeoigcpihidaaDoorRow
import Derived.WalkSmall
namespace Go.Proofs.YtdeeoigcpihidaaDoor
open Go.RowKit

theorem pos_odd (f : Nat) : ∀ d k, 0 < d → d * 2 ^ k < 2 ^ f → d * 2 ^ k < 2305843009213693952 → k < f := by
  intro d k h0 h1 _
  rcases Nat.lt_or_ge k f with h | h
  · exact h
  · exfalso
    have : 2 ^ f ≤ 2 ^ k := Nat.pow_le_pow_right (by omega) h
    have h2 : 1 * 2 ^ k ≤ d * 2 ^ k := Nat.mul_le_mul_right _ h0
    omega
set_option maxRecDepth 100000 in
set_option maxHeartbeats 1000000 in
theorem rpasses_calls (n a : Nat) (hn1 : 1 < n) (hn : n < 2305843009213693952) (ha : a < n) (w : World) :
    Calls Tryd.prog 50 #[.int .i64 (n : Int), .int .i64 (a : Int)] w (Ret (.bool (passB n a)) w) := by
  have hP := passFrom_zero n a
  have e1 : (n : Int) - 1 = ((n - 1 : Nat) : Int) := by omega
  have HP := Lib.hid hP
  have hM : isMod (n : Int) := ⟨by omega, by omega⟩
  have hAm : (a : Int) % (n : Int) = (a : Int) := Int.emod_eq_of_lt (by omega) (by omega)
  have HM := Lib.hid hM
  have HAM := Lib.hid hAm
  clear hP hM hAm
  obtain ⟨N1, hN1⟩ : ∃ N1, N1 = n - 1 := ⟨_, rfl⟩
  rw [← hN1] at e1 HP
  have hN1p : 0 < N1 := by omega
  go_enter Tryd.func50, Tryd.ntmps50
  go_wp2
  go_loop [5, 6] (fun d' k' => ∃ d k : Nat, d' = .int .i64 (d : Int) ∧ k' = .int .i64 (k : Int) ∧ 0 < d ∧ d * 2 ^ k = N1 ∧ d ≤ N1 ∧ k < 64) (fun d' _ => (intOf d').toNat)
  case atStart => exact ⟨N1, 0, by rw [hN1], rfl, hN1p, by simp, Nat.le_refl _, by omega⟩
  case round =>
    obtain ⟨d, k, rfl, rfl, hd0, hdk, hdl, hk⟩ := hrel
    have g1 : Int.tmod (d : Int) 2 = ((d % 2 : Nat) : Int) := tmod_nat d 2
    by_cases hev : d % 2 = 0
    · have d1 : (((d % 2 : Nat) : Int) == 0) = true := by rw [hev]; rfl
      have g2 : Int.tdiv (d : Int) 2 = ((d / 2 : Nat) : Int) := tdiv_nat d 2
      obtain ⟨G, hG⟩ : ∃ G, G = d / 2 := ⟨_, rfl⟩
      have hnx : G * 2 ^ (k + 1) = N1 := by
        rw [← hdk, Nat.pow_succ, Nat.mul_comm (2 ^ k) 2, ← Nat.mul_assoc]
        congr 1; omega
      have hk2 : k + 1 < 64 := by
        have := pos_odd 61 G (k + 1) (by omega) (by rw [hnx]; omega) (by rw [hnx]; omega)
        omega
      have hG0 : 0 < G := by omega
      have hG1 : G < d := by omega
      rw [← hG] at g2
      have HN := Lib.hid hnx
      generalize d % 2 = r at *
      clear hdk hnx hev hG
      go_wp2
      go_round
      case rel => exact ⟨G, k + 1, rfl, by go_num, hG0, HN.out, by omega, hk2⟩
      case measure => simp [intOf]; omega
    · have d1 : (((d % 2 : Nat) : Int) == 0) = false := beq_eq_false_iff_ne.2 (by omega)
      obtain ⟨hs, hd⟩ := twosN_uniq (s := k) (d := N1) (o := d) (by omega) hdk.symm 64 (by omega)
      have hP : passB n a = (decide (a ^ d % n = 1) || passFrom n a d k 0) := by
        rw [HP.out, show twos N1 = k from hs, hd]
      have HP2 := Lib.hid hP
      have hdl2 : d < 9223372036854775808 := by omega
      have hr := fun w => rpower_calls n (a : Int) d HM.out (isInt_nat (by omega)) hdl2 a HAM.out w
      have HR := fun w => Lib.hid (hr w)
      have hml := fun w (i : Nat) => rmul_nat n (a ^ (d * 2 ^ i) % n) (a ^ (d * 2 ^ i) % n) HM.out (by have : a ^ (d * 2 ^ i) % n < n := Nat.mod_lt _ (by omega); omega) (by have : a ^ (d * 2 ^ i) % n < n := Nat.mod_lt _ (by omega); omega) w
      have hnx := fun i => pass_next n a d i
      simp only [hnx] at hml
      have HML := fun w i => Lib.hid (hml w i)
      have hlt := fun i : Nat => (Nat.mod_lt (a ^ (d * 2 ^ i)) (show 0 < n by omega))
      have HLT := Lib.hid hlt
      have HST : Hid (a ^ d % n = a ^ (d * 2 ^ 0) % n) := by show a ^ d % n = a ^ (d * 2 ^ 0) % n; simp
      generalize d % 2 = r at *
      clear hr hml hnx hlt hP hs hd hdk hev HP
      go_wp2_with fail
      refine (HR _).out.mono ?_
      rintro e w1 ⟨rfl, m, hw⟩
      subst hw
      by_cases h1 : a ^ d % n = 1
      · have d2 : (((a ^ d % n : Nat) : Int) == 1) = true := by rw [h1]; rfl
        have HF : Hid (passB n a = true) := by show passB n a = true; rw [HP2.out, decide_eq_true h1]; rfl
        clear h1
        generalize a ^ d % n = x at *
        go_wp2
        go_ret
        exact ⟨ret_b HF.out.symm, m, rfl⟩
      · have d2 : (((a ^ d % n : Nat) : Int) == 1) = false := beq_eq_false_iff_ne.2 (by omega)
        have HF : Hid (passB n a = passFrom n a d k 0) := by show passB n a = _; rw [HP2.out, decide_eq_false h1]; rfl
        clear h1
        generalize a ^ d % n = x at *
        go_wp2
        go_loopw [7, 8] (fun y i wr => ∃ j m' : Nat, j ≤ k ∧ y = .int .i64 ((a ^ (d * 2 ^ j) % n : Nat) : Int) ∧ i = .int .i64 (j : Int) ∧ passFrom n a d k 0 = passFrom n a d k j ∧ wr = w.drewN m') (fun _ i _ => k - (intOf i).toNat)
        case atStart => exact ⟨0, m, Nat.zero_le _, by rw [HST.out], rfl, rfl, rfl⟩
        case round =>
          obtain ⟨j, m', hj, rfl, rfl, hi, rfl⟩ := hrel
          have HI := Lib.hid hi
          clear hi
          by_cases hks : j < k
          · have hstep := passFrom_step n a d k j hks
            have hX := HLT.out j
            have hM := fun w => HML w j
            by_cases hq : a ^ (d * 2 ^ j) % n = n - 1
            · have d3 : (((a ^ (d * 2 ^ j) % n : Nat) : Int) == (N1 : Int)) = true := beq_iff_eq.2 (by omega)
              have HG : Hid (passB n a = true) := by show passB n a = true; rw [HF.out, HI.out, hstep, decide_eq_true hq]; rfl
              clear hstep hq
              generalize a ^ (d * 2 ^ j) % n = X at *
              go_wp2
              go_ret
              exact ⟨ret_b HG.out.symm, m', rfl⟩
            · have d3 : (((a ^ (d * 2 ^ j) % n : Nat) : Int) == (N1 : Int)) = false := beq_eq_false_iff_ne.2 (by omega)
              have HG : Hid (passFrom n a d k 0 = passFrom n a d k (j + 1)) := by show _ = passFrom n a d k (j + 1); rw [HI.out, hstep, decide_eq_false hq]; rfl
              clear hstep hq
              generalize a ^ (d * 2 ^ j) % n = X at *
              go_wp2_with fail
              refine (hM _).out.mono ?_
              rintro e w1 ⟨rfl, m2, hw⟩
              subst hw
              go_wp2
              go_roundw
              case rel => exact ⟨j + 1, _, by omega, rfl, by go_num, HG.out, rfl⟩
              case measure => simp [intOf]; omega
          · have HG : Hid (passB n a = false) := by show passB n a = false; rw [HF.out, HI.out]; exact passFrom_end n a d k j (by omega)
            generalize a ^ (d * 2 ^ j) % n = X at *
            go_wp2
            go_ret
            exact ⟨ret_b HG.out.symm, m', rfl⟩

def witV : Array Value := #[.int .i64 2, .int .i64 3, .int .i64 5, .int .i64 7, .int .i64 11, .int .i64 13, .int .i64 17, .int .i64 19, .int .i64 23, .int .i64 29, .int .i64 31, .int .i64 37]
theorem witV_get : ∀ (k p : Nat), witL[k]? = some p → witV[k]? = some (.int .i64 (p : Int)) := by
  intro k p h
  have e : witV = (witL.map fun l => Value.int .i64 ((l : Nat) : Int)).toArray := rfl
  rw [e, List.getElem?_toArray, List.getElem?_map, h]; rfl
theorem rbases_calls (w : World) : Calls Tryd.prog 49 #[] w fun e w' => e = .returned (.slice (some ⟨w.heap.size, 0, none⟩) 12 12) ∧ w' = w.alloc (.cells witV 3) := by
  go_enter Tryd.func49, Tryd.ntmps49
  go_wp2
  go_ret
  exact ⟨rfl, rfl⟩
set_option maxRecDepth 100000 in
set_option maxHeartbeats 1000000 in
theorem rprime_in (n : Nat) (hn1 : 2 ≤ n) (hn : n < 2305843009213693952) (w : World) :
    Calls Tryd.prog 32 #[.int .i64 (n : Int)] w fun e w' => e = .returned (.bool (primeN n)) ∧ Below w.heap.size w w' := by
  have d1 : decide ((n : Int) < 2) = false := decide_eq_false (by omega)
  have d2 : decide (2305843009213693952 ≤ (n : Int)) = false := decide_eq_false (by omega)
  have hb : Below w.heap.size w (w.alloc (.cells witV 3)) := (Below.refl _ _).alloc (Nat.le_refl _) _
  have hB : Blk (w.alloc (.cells witV 3)) w.heap.size 3 witV := Blk.new w _ _
  obtain ⟨W1, hW1⟩ : ∃ W1, W1 = w.alloc (.cells witV 3) := ⟨_, rfl⟩
  have cb := rbases_calls w
  rw [← hW1] at cb hb hB
  have CB := Lib.hid cb
  clear cb hW1
  go_enter Tryd.func32, Tryd.ntmps32
  go_wp2_with fail
  refine CB.out.mono ?_
  rintro e w' ⟨rfl, rfl⟩
  have hcell : ∀ (k p : Nat), witL[k]? = some p → w'.cell? ⟨w.heap.size, k, none⟩ = some (.int .i64 (p : Int)) := fun k p h => by rw [hB.cell k]; exact witV_get k p h
  have HCE := Lib.hid hcell
  clear hcell CB
  go_wp2
  go_loop [4] (fun i => ∃ k : Nat, k ≤ 12 ∧ i = .int .i64 (k : Int) ∧ noDiv n k) (fun i => 12 - (intOf i).toNat)
  case atStart => exact ⟨0, by omega, rfl, fun j t hj => by omega⟩
  case round =>
    obtain ⟨k, hk, rfl, hno⟩ := hrel
    have HNO := Lib.hid hno
    clear hno
    by_cases hlt : k < 12
    · have hl2 : k < witL.length := hlt
      have hp := List.getElem?_eq_getElem hl2
      generalize witL[k]'hl2 = p at *
      have hix := HCE.out k p hp
      have HP := Lib.hid hp
      obtain ⟨hp1, hp2⟩ := wit_bounds k p hp
      have hpz : ((p : Int) == 0) = false := beq_eq_false_iff_ne.2 (by omega)
      have hpn : ¬ (p = 0) := by omega
      have g1 : Int.tmod (n : Int) (p : Int) = ((n % p : Nat) : Int) := tmod_nat n p
      clear hp
      by_cases hd : n % p = 0
      · have d3 : (((n % p : Nat) : Int) == 0) = true := by rw [hd]; rfl
        have HR : Hid (primeN n = decide (n = p)) := prime_hit HNO.out HP.out hd
        clear hd
        generalize n % p = r at *
        go_wp2
        go_ret
        exact ⟨ret_b (by rw [HR.out]; exact cast_beq n p), hb⟩
      · have d3 : (((n % p : Nat) : Int) == 0) = false := beq_eq_false_iff_ne.2 (by omega)
        have HR : Hid (noDiv n (k + 1)) := noDiv_next HNO.out HP.out hd
        clear hd
        generalize n % p = r at *
        go_wp2
        go_round
        case rel => exact ⟨k + 1, by omega, by go_num, HR.out⟩
        case measure => simp [intOf]; omega
    · obtain rfl : k = 12 := by omega
      have hbig := big_of_noDiv hn1 HNO.out
      have HM : Hid (primeN n = witL.all (passB n)) := prime_miss HNO.out
      go_wp2
      go_loopw [5] (fun i wr => ∃ k m : Nat, k ≤ 12 ∧ i = .int .i64 (k : Int) ∧ allPass n k ∧ wr = w'.drewN m) (fun i _ => 12 - (intOf i).toNat)
      case atStart => exact ⟨0, 0, by omega, rfl, fun j t hj => by omega, rfl⟩
      case round =>
        obtain ⟨k, m, hk, rfl, hno, rfl⟩ := hrel
        have HNO := Lib.hid hno
        clear hno
        by_cases hlt : k < 12
        · have hl2 : k < witL.length := hlt
          have hp := List.getElem?_eq_getElem hl2
          generalize witL[k]'hl2 = p at *
          have hix : (w'.drewN m).cell? ⟨w.heap.size, k, none⟩ = some (.int .i64 (p : Int)) := HCE.out k p hp
          have hix2 := HCE.out k p hp
          have HP := Lib.hid hp
          obtain ⟨hp1, hp2⟩ := wit_bounds k p hp
          have hc := fun w => rpasses_calls n p (by omega) hn (by omega) w
          clear hp
          cases hb' : passB n p with
          | false =>
            rw [hb'] at hc
            have HR : Hid (primeN n = false) := by show primeN n = false; rw [HM.out]; exact all_false HP.out hb'
            have HC := fun w => Lib.hid (hc w)
            clear hc hb'
            go_wp2_with fail
            refine (HC _).out.mono ?_
            rintro e w1 ⟨rfl, m2, hw⟩
            subst hw
            go_wp2
            go_ret
            exact ⟨ret_b HR.out.symm, below_drewN hb _⟩
          | true =>
            rw [hb'] at hc
            have HR : Hid (allPass n (k + 1)) := allPass_next HNO.out HP.out hb'
            have HC := fun w => Lib.hid (hc w)
            clear hc hb'
            go_wp2_with fail
            refine (HC _).out.mono ?_
            rintro e w1 ⟨rfl, m2, hw⟩
            subst hw
            go_wp2
            go_roundw
            case rel => exact ⟨k + 1, _, by omega, by go_num, HR.out, rfl⟩
            case measure => simp [intOf]; omega
        · obtain rfl : k = 12 := by omega
          have HR : Hid (primeN n = true) := by show primeN n = true; rw [HM.out]; exact all_true HNO.out
          go_wp2
          go_ret
          exact ⟨ret_b HR.out.symm, below_drewN hb _⟩
theorem rprime_calls (n : Int) (_ : isInt n) (w : World) :
    Calls Tryd.prog 32 #[.int .i64 n] w fun e w' => e = .returned (.bool (primeB n)) ∧ Below w.heap.size w w' := by
  by_cases h1 : n < 2
  · have d1 : decide (n < 2) = true := decide_eq_true h1
    have HR : Hid (primeB n = false) := by show primeB n = false; unfold primeB; rw [if_neg (by omega)]
    go_enter Tryd.func32, Tryd.ntmps32
    go_wp2
    go_ret
    exact ⟨ret_b HR.out.symm, Below.refl _ _⟩
  · by_cases h2 : 2305843009213693952 ≤ n
    · have d1 : decide (n < 2) = false := decide_eq_false h1
      have d2 : decide (2305843009213693952 ≤ n) = true := decide_eq_true h2
      have HR : Hid (primeB n = false) := by show primeB n = false; unfold primeB; rw [if_neg (by omega)]
      go_enter Tryd.func32, Tryd.ntmps32
      go_wp2
      go_ret
      exact ⟨ret_b HR.out.symm, Below.refl _ _⟩
    · obtain ⟨N, rfl⟩ := Int.eq_ofNat_of_zero_le (show 0 ≤ n by omega)
      rw [primeB_nat (by omega) (by omega)]
      exact rprime_in N (by omega) (by omega) w
end Go.Proofs.YtdeeoigcpihidaaDoor
