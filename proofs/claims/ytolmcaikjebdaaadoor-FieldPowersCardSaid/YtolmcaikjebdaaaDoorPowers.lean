/- The law FieldPowers. -/
import Derived.Test.YtolmcaikjebdaaaDoorRing
namespace Go.Proofs.YtolmcaikjebdaaaDoor
open Go.RowKit

/-- The modulus that an int stands for. -/
def modZ (n : Int) : Int := if isMod n then n else 12
theorem modZ_mod (n : Int) : isMod (modZ n) := by
  unfold modZ
  split
  · assumption
  · exact ⟨by omega, by omega⟩
theorem modulus_calls (n : Int) (w : World) : Calls Tryd.prog 43 #[.int .i64 n] w fun e w' => e = .returned (.int .i64 (modZ n)) ∧ w = w' := by
  by_cases h1 : 1 ≤ n
  · by_cases h2 : n < 2305843009213693952
    · have d1 : decide (1 ≤ n) = true := decide_eq_true h1
      have d2 : decide (n < 2305843009213693952) = true := decide_eq_true h2
      have HR : Hid (modZ n = n) := by show modZ n = n; unfold modZ; rw [if_pos ⟨h1, h2⟩]
      go_enter Tryd.func43, Tryd.ntmps43
      go_wp2
      go_ret
      exact ⟨ret_i HR.out.symm, rfl⟩
    · have d1 : decide (1 ≤ n) = true := decide_eq_true h1
      have d2 : decide (n < 2305843009213693952) = false := decide_eq_false h2
      have HR : Hid (modZ n = 12) := by show modZ n = 12; unfold modZ; rw [if_neg (fun h => h2 h.2)]
      go_enter Tryd.func43, Tryd.ntmps43
      go_wp2
      go_ret
      exact ⟨ret_i HR.out.symm, rfl⟩
  · have d1 : decide (1 ≤ n) = false := decide_eq_false h1
    have HR : Hid (modZ n = 12) := by show modZ n = 12; unfold modZ; rw [if_neg (fun h => h1 h.1)]
    go_enter Tryd.func43, Tryd.ntmps43
    go_wp2
    go_ret
    exact ⟨ret_i HR.out.symm, rfl⟩

theorem p_zero {n : Int} (hn : isMod n) (a : Int) : powZ n a 0 = 1 % n := by rw [powZ_pos hn (by omega)]; simp
theorem p_one {n : Int} (hn : isMod n) (a : Int) : powZ n a 1 = addZ n a 0 := by rw [powZ_pos hn (by omega), addZ_is hn, show (1 : Int).toNat = 1 from rfl, Int.pow_succ, Int.pow_zero, Int.one_mul, Int.add_zero]
theorem p_inv {n a : Int} {x : Nat} (hn : isMod n) (hx : invZ n a = some x) : powZ n a (-1) = x ∧ mulZ n a x = 1 % n ∧ (x : Int) < n := by
  obtain ⟨h1, h2⟩ := invZ_some hx
  refine ⟨?_, by rw [mulZ_is hn, h2], h1⟩
  rw [powZ_some hn hx]
  unfold eZ
  rw [if_neg (by omega), show (-1 : Int).natAbs = 1 from rfl, Int.pow_one, Int.emod_eq_of_lt (by omega) h1]
theorem p_mod_one {n : Int} : Int.tmod 1 n = 1 % n := Int.tmod_eq_emod_of_nonneg (by omega)

theorem tell_keep {w0 w : World} {P : Program} {f : FuncId} {args args' : Array Value} {v u : Value} (ha : args' = args) (hv : v = u) (hc : Calls P f args w (Ret v w)) (h : Below w0.heap.size w0 w) :
    Calls P f args' w fun e w' => e = .returned u ∧ Below w0.heap.size w0 w' := by rw [ha]; exact keepR hv hc h

/-- What the law needs of its numbers. -/
structure Pw (n a j k X P S K R E A : Int) : Prop where
  hn : isMod n
  ha : isInt a
  hj : isInt j
  hk : isInt k
  hjk : isInt (j + k)
  hm : isInt (j * k)
  x0 : 0 ≤ X
  x1 : X < n
  one : 1 % n = E
  e0 : 0 ≤ E
  e1 : E < n
  neg : powZ n a (-1) = X
  pj : powZ n a j = P
  pk : powZ n a k = K
  sum : powZ n a (j + k) = S
  sum2 : mulZ n P K = S
  prod : powZ n a (j * k) = R
  prod2 : powZ n P k = R
  zero : powZ n a 0 = E
  uno : powZ n a 1 = A
  uno2 : addZ n a 0 = A
section
variable {n a j k X P S K R E A : Int} (h : Pw n a j k X P S K R E A)
include h
theorem Pw.iX : isInt X := isInt_res h.hn ⟨h.x0, h.x1⟩
theorem Pw.iP : isInt P := by rw [← h.pj]; exact isInt_res h.hn (powZ_in h.hn _ _)
theorem Pw.iK : isInt K := by rw [← h.pk]; exact isInt_res h.hn (powZ_in h.hn _ _)
end
theorem pw_of {n a j k X : Int} (hn : isMod n) (ha : isInt a) (hj : -32768 ≤ j ∧ j ≤ 32767) (hk : -32768 ≤ k ∧ k ≤ 32767) (hX : powZ n a (-1) = X) (h : invZ n a ≠ none ∨ (0 ≤ j ∧ 0 ≤ k)) :
    ∃ P S K R E A, Pw n a j k X P S K R E A := by
  have hx := powZ_in hn a (-1)
  rw [hX] at hx
  have he := res_in n 1 hn
  have h1 : -1073741824 ≤ j * k ∧ j * k ≤ 1073741824 := by
    have hab : (j * k).natAbs ≤ 32768 * 32768 := by
      rw [Int.natAbs_mul]
      exact Nat.mul_le_mul (by omega) (by omega)
    omega
  refine ⟨powZ n a j, powZ n a (j + k), powZ n a k, powZ n a (j * k), 1 % n, addZ n a 0, ⟨hn, ha, ?_, ?_, ?_, ?_, hx.1, hx.2, rfl, he.1, he.2, hX, rfl, rfl, rfl, ?_, rfl, ?_, p_zero hn a, p_one hn a, rfl⟩⟩
  · unfold isInt; omega
  · unfold isInt; omega
  · unfold isInt; omega
  · unfold isInt; omega
  · rw [mulZ_is hn, powZ_add hn h]
  · exact (powZ_mul hn h).symm

theorem i0' : isInt 0 := by unfold isInt; omega
theorem i1' : isInt 1 := by unfold isInt; omega
theorem im' : isInt (-1) := by unfold isInt; omega

set_option maxRecDepth 100000 in
set_option maxHeartbeats 2000000 in
theorem powers_some (n a j k : Int) (ha : isInt a) (hj : -32768 ≤ j ∧ j ≤ 32767) (hk : -32768 ≤ k ∧ k ≤ 32767) (X : Int) (hI : InvV (modZ n) a = .tuple #[.int .i64 X, .bool true]) (hX : powZ (modZ n) a (-1) = X) (hX2 : mulZ (modZ n) a X = 1 % modZ n) (hc : invZ (modZ n) a ≠ none ∨ (0 ≤ j ∧ 0 ≤ k)) (w : World) (hE : Env w) :
    Calls Tryd.prog 7 #[.int .i64 n, .int .i64 a, .int .i16 j, .int .i16 k] w (Tpost w) := by
  unfold Tpost
  have c1 := Lib.hid (sane_calls w hE)
  clear hE
  have c2 := fun w => Lib.hid (modulus_calls n w)
  have c3 := fun w => Lib.hid (inv_calls (modZ n) a ha w)
  rw [hI] at c3
  clear hI
  obtain ⟨P, S, K, R, E, A, hp⟩ := pw_of (modZ_mod n) ha hj hk hX hc
  clear hX hc
  generalize modZ n = m at *
  have x0 := hp.x0
  have x1 := hp.x1
  have m0 := hp.hn.1
  have m1 := hp.hn.2
  have e0 := hp.e0
  have e1 := hp.e1
  have d1 : decide (X < 0) = false := decide_eq_false (by omega)
  have d2 : decide (m ≤ X) = false := decide_eq_false (by omega)
  have d3 : (m == 0) = false := beq_eq_false_iff_ne.2 (by omega)
  have t1 : Int.tmod 1 m = E := by rw [p_mod_one, hp.one]
  have v1 : IntKind.i64.wrap j = j := by simp only [IntKind.wrap, IntKind.bits, IntKind.signed]; simp; omega
  have v2 : IntKind.i64.wrap k = k := by simp only [IntKind.wrap, IntKind.bits, IntKind.signed]; simp; omega
  obtain ⟨V, hV⟩ : ∃ V, V = j * k := ⟨_, rfl⟩
  have iV := hp.hm
  rw [← hV] at iV
  have v3 : IntKind.i64.wrap (j * k) = V := by
    rw [← hV]
    unfold isInt at iV
    simp only [IntKind.wrap, IntKind.bits, IntKind.signed]; simp; omega
  have v4 : wrap64 (j * k) = V := by
    rw [← hV]
    unfold isInt at iV
    unfold wrap64; omega
  have q1 : (X == X) = true := by simp
  have q2 : (S == S) = true := by simp
  have q3 : (R == R) = true := by simp
  have q4 : (E == E) = true := by simp
  have q5 : (A == A) = true := by simp
  have HP := Lib.hid hp
  have HV := Lib.hid hV
  have HX := Lib.hid (hX2.trans hp.one)
  have HiV := Lib.hid iV
  clear hp hV iV
  go_enter Tryd.func7, Tryd.ntmps7
  go_wp2_with fail
  refine c1.out.mono ?_
  rintro e w1 ⟨rfl, hB⟩
  go_wp2_with fail
  refine Calls.mono (c2 w1).out ?_
  rintro e w2 ⟨rfl, rfl⟩
  go_wp2_with fail
  refine Calls.mono (c3 w1).out ?_
  rintro e w2 ⟨rfl, rfl⟩
  clear c1 c2 c3
  have Q1 := fun (n' : Nat) (args : Array Value) (hargs : args = #[.int .i64 m, .int .i64 a, .int .i64 X]) => Lib.hid (as_args hargs (quiet_ret (int_eq HX.out) (mul_calls m a X HP.out.ha HP.out.iX (w1.drewN n'))))
  have Q2 := fun (n' : Nat) (args : Array Value) (hargs : args = #[.int .i64 m, .int .i64 a, .int .i64 (-1)]) => Lib.hid (as_args hargs (quiet_ret (int_eq HP.out.neg) (pow_calls m a (-1) HP.out.ha im' (w1.drewN n'))))
  have hBq := Lib.hid (fun n => below_drewN hB n)
  clear hB
  go_wp2
  go_quiet ((first
    | (go_at_call 19; exact (Q1 _ _ (by with_reducible rfl)).out)
    | (go_at_call 21; exact (Q2 _ _ (by with_reducible rfl)).out)))
  go_wp2_with fail
  refine Calls.mono (pow_calls m a j HP.out.ha HP.out.hj (w1.drewN nq)) ?_
  rintro e w2 ⟨rfl, m2, rfl⟩
  have hBq2 := Lib.hid (fun n => hBq.out (nq + (m2 + n)))
  clear hBq Q1 Q2
  have hpj : Hid (powZ m a j = P) := HP.out.pj
  obtain ⟨w3, hw3⟩ : ∃ w3, w3 = (w1.drewN nq).drewN m2 := ⟨_, rfl⟩
  have hBq3 : Hid (∀ n, Below w.heap.size w (w3.drewN n)) := by
    show ∀ n, Below w.heap.size w (w3.drewN n)
    intro n
    rw [hw3, World.drewN_drewN, World.drewN_drewN]; exact hBq2.out n
  rw [← hw3, hpj.out]
  clear hw3 hBq2 hpj
  have Q1 := fun (n' : Nat) (args : Array Value) (hargs : args = #[.int .i64 m, .int .i64 a, .int .i64 (j + k)]) => Lib.hid (as_args hargs (quiet_ret (int_eq HP.out.sum) (pow_calls m a (j + k) HP.out.ha HP.out.hjk (w3.drewN n'))))
  have Q2 := fun (n' : Nat) (args : Array Value) (hargs : args = #[.int .i64 m, .int .i64 a, .int .i64 k]) => Lib.hid (as_args hargs (quiet_ret (int_eq HP.out.pk) (pow_calls m a k HP.out.ha HP.out.hk (w3.drewN n'))))
  have Q3 := fun (n' : Nat) (args : Array Value) (hargs : args = #[.int .i64 m, .int .i64 P, .int .i64 K]) => Lib.hid (as_args hargs (quiet_ret (int_eq HP.out.sum2) (mul_calls m P K HP.out.iP HP.out.iK (w3.drewN n'))))
  have Q4 := fun (n' : Nat) (args : Array Value) (hargs : args = #[.int .i64 m, .int .i64 a, .int .i64 V]) => Lib.hid (as_args hargs (quiet_ret (int_eq (show powZ m a V = R by rw [HV.out]; exact HP.out.prod)) (pow_calls m a V HP.out.ha HiV.out (w3.drewN n'))))
  have Q5 := fun (n' : Nat) (args : Array Value) (hargs : args = #[.int .i64 m, .int .i64 P, .int .i64 k]) => Lib.hid (as_args hargs (quiet_ret (int_eq HP.out.prod2) (pow_calls m P k HP.out.iP HP.out.hk (w3.drewN n'))))
  have Q6 := fun (n' : Nat) (args : Array Value) (hargs : args = #[.int .i64 m, .int .i64 a, .int .i64 0]) => Lib.hid (as_args hargs (quiet_ret (int_eq HP.out.zero) (pow_calls m a 0 HP.out.ha i0' (w3.drewN n'))))
  have Q7 := fun (n' : Nat) (args : Array Value) (hargs : args = #[.int .i64 m, .int .i64 a, .int .i64 1]) => Lib.hid (as_args hargs (quiet_ret (int_eq HP.out.uno) (pow_calls m a 1 HP.out.ha i1' (w3.drewN n'))))
  have Q8 := fun (n' : Nat) (args : Array Value) (hargs : args = #[.int .i64 m, .int .i64 a, .int .i64 0]) => Lib.hid (as_args hargs (quiet_same (int_eq HP.out.uno2) (add_calls m a 0 HP.out.ha i0' (w3.drewN n'))))
  go_wp2
  go_quiet ((first
    | (go_at_call 19; exact (Q3 _ _ (by with_reducible rfl)).out)
    | (go_at_call 21; exact (Q1 _ _ (by with_reducible rfl)).out)
    | (go_at_call 21; exact (Q2 _ _ (by with_reducible rfl)).out)
    | (go_at_call 21; exact (Q4 _ _ (by with_reducible rfl)).out)
    | (go_at_call 21; exact (Q5 _ _ (by with_reducible rfl)).out)
    | (go_at_call 21; exact (Q6 _ _ (by with_reducible rfl)).out)
    | (go_at_call 21; exact (Q7 _ _ (by with_reducible rfl)).out)
    | (go_at_call 15; exact (Q8 _ _ (by with_reducible rfl)).out)))
  go_wp2
  go_ret
  exact ⟨rfl, hBq3.out _⟩
set_option maxRecDepth 100000 in
set_option maxHeartbeats 2000000 in
theorem powers_none (n a j k : Int) (ha : isInt a) (hj : -32768 ≤ j ∧ j ≤ 32767) (hk : -32768 ≤ k ∧ k ≤ 32767) (X : Int) (hI : InvV (modZ n) a = .tuple #[.int .i64 X, .bool false]) (hX : powZ (modZ n) a (-1) = X) (hX2 : X = 0) (hj0 : 0 ≤ j) (hk0 : 0 ≤ k) (hc : invZ (modZ n) a ≠ none ∨ (0 ≤ j ∧ 0 ≤ k)) (w : World) (hE : Env w) :
    Calls Tryd.prog 7 #[.int .i64 n, .int .i64 a, .int .i16 j, .int .i16 k] w (Tpost w) := by
  unfold Tpost
  have c1 := Lib.hid (sane_calls w hE)
  clear hE
  have c2 := fun w => Lib.hid (modulus_calls n w)
  have c3 := fun w => Lib.hid (inv_calls (modZ n) a ha w)
  rw [hI] at c3
  clear hI
  obtain ⟨P, S, K, R, E, A, hp⟩ := pw_of (modZ_mod n) ha hj hk hX hc
  clear hX hc
  generalize modZ n = m at *
  have x0 := hp.x0
  have x1 := hp.x1
  have m0 := hp.hn.1
  have m1 := hp.hn.2
  have e0 := hp.e0
  have e1 := hp.e1
  have d1 : decide (X < 0) = false := decide_eq_false (by omega)
  have d2 : decide (m ≤ X) = false := decide_eq_false (by omega)
  have d3 : (m == 0) = false := beq_eq_false_iff_ne.2 (by omega)
  have t1 : Int.tmod 1 m = E := by rw [p_mod_one, hp.one]
  have v1 : IntKind.i64.wrap j = j := by simp only [IntKind.wrap, IntKind.bits, IntKind.signed]; simp; omega
  have v2 : IntKind.i64.wrap k = k := by simp only [IntKind.wrap, IntKind.bits, IntKind.signed]; simp; omega
  obtain ⟨V, hV⟩ : ∃ V, V = j * k := ⟨_, rfl⟩
  have iV := hp.hm
  rw [← hV] at iV
  have v3 : IntKind.i64.wrap (j * k) = V := by
    rw [← hV]
    unfold isInt at iV
    simp only [IntKind.wrap, IntKind.bits, IntKind.signed]; simp; omega
  have v4 : wrap64 (j * k) = V := by
    rw [← hV]
    unfold isInt at iV
    unfold wrap64; omega
  have q1 : (X == X) = true := by simp
  have q2 : (S == S) = true := by simp
  have q3 : (R == R) = true := by simp
  have q4 : (E == E) = true := by simp
  have q5 : (A == A) = true := by simp
  have HP := Lib.hid hp
  have HV := Lib.hid hV
  have r1 : (X != 0) = false := by rw [hX2]; rfl
  have r2 : decide (j < 0) = false := decide_eq_false (by omega)
  have r3 : decide (k < 0) = false := decide_eq_false (by omega)
  have HiV := Lib.hid iV
  clear hp hV iV hX2
  go_enter Tryd.func7, Tryd.ntmps7
  go_wp2_with fail
  refine c1.out.mono ?_
  rintro e w1 ⟨rfl, hB⟩
  go_wp2_with fail
  refine Calls.mono (c2 w1).out ?_
  rintro e w2 ⟨rfl, rfl⟩
  go_wp2_with fail
  refine Calls.mono (c3 w1).out ?_
  rintro e w2 ⟨rfl, rfl⟩
  clear c1 c2 c3
  have Q2 := fun (n' : Nat) (args : Array Value) (hargs : args = #[.int .i64 m, .int .i64 a, .int .i64 (-1)]) => Lib.hid (as_args hargs (quiet_ret (int_eq HP.out.neg) (pow_calls m a (-1) HP.out.ha im' (w1.drewN n'))))
  have hBq := Lib.hid (fun n => below_drewN hB n)
  clear hB
  go_wp2
  go_quiet ((first
    | (go_at_call 21; exact (Q2 _ _ (by with_reducible rfl)).out)))
  go_wp2_with fail
  refine Calls.mono (pow_calls m a j HP.out.ha HP.out.hj (w1.drewN nq)) ?_
  rintro e w2 ⟨rfl, m2, rfl⟩
  have hBq2 := Lib.hid (fun n => hBq.out (nq + (m2 + n)))
  clear hBq Q2
  have hpj : Hid (powZ m a j = P) := HP.out.pj
  obtain ⟨w3, hw3⟩ : ∃ w3, w3 = (w1.drewN nq).drewN m2 := ⟨_, rfl⟩
  have hBq3 : Hid (∀ n, Below w.heap.size w (w3.drewN n)) := by
    show ∀ n, Below w.heap.size w (w3.drewN n)
    intro n
    rw [hw3, World.drewN_drewN, World.drewN_drewN]; exact hBq2.out n
  rw [← hw3, hpj.out]
  clear hw3 hBq2 hpj
  have Q1 := fun (n' : Nat) (args : Array Value) (hargs : args = #[.int .i64 m, .int .i64 a, .int .i64 (j + k)]) => Lib.hid (as_args hargs (quiet_ret (int_eq HP.out.sum) (pow_calls m a (j + k) HP.out.ha HP.out.hjk (w3.drewN n'))))
  have Q2 := fun (n' : Nat) (args : Array Value) (hargs : args = #[.int .i64 m, .int .i64 a, .int .i64 k]) => Lib.hid (as_args hargs (quiet_ret (int_eq HP.out.pk) (pow_calls m a k HP.out.ha HP.out.hk (w3.drewN n'))))
  have Q3 := fun (n' : Nat) (args : Array Value) (hargs : args = #[.int .i64 m, .int .i64 P, .int .i64 K]) => Lib.hid (as_args hargs (quiet_ret (int_eq HP.out.sum2) (mul_calls m P K HP.out.iP HP.out.iK (w3.drewN n'))))
  have Q4 := fun (n' : Nat) (args : Array Value) (hargs : args = #[.int .i64 m, .int .i64 a, .int .i64 V]) => Lib.hid (as_args hargs (quiet_ret (int_eq (show powZ m a V = R by rw [HV.out]; exact HP.out.prod)) (pow_calls m a V HP.out.ha HiV.out (w3.drewN n'))))
  have Q5 := fun (n' : Nat) (args : Array Value) (hargs : args = #[.int .i64 m, .int .i64 P, .int .i64 k]) => Lib.hid (as_args hargs (quiet_ret (int_eq HP.out.prod2) (pow_calls m P k HP.out.iP HP.out.hk (w3.drewN n'))))
  have Q6 := fun (n' : Nat) (args : Array Value) (hargs : args = #[.int .i64 m, .int .i64 a, .int .i64 0]) => Lib.hid (as_args hargs (quiet_ret (int_eq HP.out.zero) (pow_calls m a 0 HP.out.ha i0' (w3.drewN n'))))
  have Q7 := fun (n' : Nat) (args : Array Value) (hargs : args = #[.int .i64 m, .int .i64 a, .int .i64 1]) => Lib.hid (as_args hargs (quiet_ret (int_eq HP.out.uno) (pow_calls m a 1 HP.out.ha i1' (w3.drewN n'))))
  have Q8 := fun (n' : Nat) (args : Array Value) (hargs : args = #[.int .i64 m, .int .i64 a, .int .i64 0]) => Lib.hid (as_args hargs (quiet_same (int_eq HP.out.uno2) (add_calls m a 0 HP.out.ha i0' (w3.drewN n'))))
  go_wp2
  go_quiet ((first
    | (go_at_call 19; exact (Q3 _ _ (by with_reducible rfl)).out)
    | (go_at_call 21; exact (Q1 _ _ (by with_reducible rfl)).out)
    | (go_at_call 21; exact (Q2 _ _ (by with_reducible rfl)).out)
    | (go_at_call 21; exact (Q4 _ _ (by with_reducible rfl)).out)
    | (go_at_call 21; exact (Q5 _ _ (by with_reducible rfl)).out)
    | (go_at_call 21; exact (Q6 _ _ (by with_reducible rfl)).out)
    | (go_at_call 21; exact (Q7 _ _ (by with_reducible rfl)).out)
    | (go_at_call 15; exact (Q8 _ _ (by with_reducible rfl)).out)))
  go_wp2
  go_ret
  exact ⟨rfl, hBq3.out _⟩
set_option maxRecDepth 100000 in
set_option maxHeartbeats 2000000 in
theorem powers_neg (n a j k : Int) (ha : isInt a) (hj : -32768 ≤ j ∧ j ≤ 32767) (hk : -32768 ≤ k ∧ k ≤ 32767) (hI : invZ (modZ n) a = none) (hc : j < 0 ∨ k < 0) (w : World) (hE : Env w) :
    Calls Tryd.prog 7 #[.int .i64 n, .int .i64 a, .int .i16 j, .int .i16 k] w (Tpost w) := by
  unfold Tpost
  have c1 := Lib.hid (sane_calls w hE)
  clear hE
  have c2 := fun w => Lib.hid (modulus_calls n w)
  have c3 := fun w => Lib.hid (inv_calls (modZ n) a ha w)
  obtain ⟨X, hX⟩ : ∃ X : Int, X = 0 := ⟨_, rfl⟩
  rw [show InvV (modZ n) a = .tuple #[.int .i64 X, .bool false] by unfold InvV; rw [if_pos (modZ_mod n), hI, hX]] at c3
  have hp := modZ_mod n
  generalize modZ n = m at *
  have m0 := hp.1
  have m1 := hp.2
  have d1 : decide (X < 0) = false := decide_eq_false (by omega)
  have d2 : decide (m ≤ X) = false := decide_eq_false (by omega)
  have r1 : (X != 0) = false := by rw [hX]; rfl
  have q1 : (X == X) = true := by simp
  have d3 : (m == 0) = false := beq_eq_false_iff_ne.2 (by omega)
  have v1 : IntKind.i64.wrap j = j := by simp only [IntKind.wrap, IntKind.bits, IntKind.signed]; simp; omega
  have v2 : IntKind.i64.wrap k = k := by simp only [IntKind.wrap, IntKind.bits, IntKind.signed]; simp; omega
  have HI := Lib.hid hI
  have HA := Lib.hid ha
  clear hp hI ha
  have hn0 : Hid (powZ m a (-1) = X) := by show powZ m a (-1) = X; rw [hX]; exact powZ_none HI.out (by omega)
  have HX := Lib.hid hX
  clear hX
  go_enter Tryd.func7, Tryd.ntmps7
  go_wp2_with fail
  refine c1.out.mono ?_
  rintro e w1 ⟨rfl, hB⟩
  go_wp2_with fail
  refine Calls.mono (c2 w1).out ?_
  rintro e w2 ⟨rfl, rfl⟩
  go_wp2_with fail
  refine Calls.mono (c3 w1).out ?_
  rintro e w2 ⟨rfl, rfl⟩
  clear c1 c2 c3
  have Q2 := fun (n' : Nat) (args : Array Value) (hargs : args = #[.int .i64 m, .int .i64 a, .int .i64 (-1)]) => Lib.hid (as_args hargs (quiet_ret (int_eq hn0.out) (pow_calls m a (-1) HA.out im' (w1.drewN n'))))
  have hBq := Lib.hid (fun n => below_drewN hB n)
  clear hB
  go_wp2
  go_quiet ((first
    | (go_at_call 21; exact (Q2 _ _ (by with_reducible rfl)).out)))
  obtain ⟨w3, hw3⟩ : ∃ w3, w3 = w1.drewN nq := ⟨_, rfl⟩
  have hB3 : Below w.heap.size w w3 := by rw [hw3]; exact hBq.out nq
  rw [← hw3]
  clear hw3 hBq Q2
  by_cases h1 : j < 0
  · have r2 : decide (j < 0) = true := decide_eq_true h1
    have r4 : decide (0 ≤ j) = false := decide_eq_false (by omega)
    have hj0 := Lib.hid (powZ_none (b := j) HI.out h1)
    by_cases h2 : k < 0
    · have r5 : decide (0 ≤ k) = false := decide_eq_false (by omega)
      have hk0 := Lib.hid (powZ_none (b := k) HI.out h2)
      clear hc
      go_wp2_with fail
      refine Calls.mono (keepR (int_eq hj0.out) (pow_calls m a j HA.out (by unfold isInt; omega) w3) hB3) ?_
      rintro e w4 ⟨rfl, hB4⟩
      go_wp2_with fail
      refine Calls.mono (keepR (int_eq hk0.out) (pow_calls m a k HA.out (by unfold isInt; omega) w4) hB4) ?_
      rintro e w5 ⟨rfl, hB5⟩
      go_wp2
      go_ret
      exact ⟨rfl, hB5⟩
    · have r5 : decide (0 ≤ k) = true := decide_eq_true (by omega)
      clear hc
      go_wp2_with fail
      refine Calls.mono (keepR (int_eq hj0.out) (pow_calls m a j HA.out (by unfold isInt; omega) w3) hB3) ?_
      rintro e w4 ⟨rfl, hB4⟩
      go_wp2
      go_ret
      exact ⟨rfl, hB4⟩
  · have r2 : decide (j < 0) = false := decide_eq_false h1
    have r4 : decide (0 ≤ j) = true := decide_eq_true (by omega)
    have h2 : k < 0 := by omega
    have r3 : decide (k < 0) = true := decide_eq_true h2
    have r5 : decide (0 ≤ k) = false := decide_eq_false (by omega)
    have hk0 := Lib.hid (powZ_none (b := k) HI.out h2)
    clear hc
    go_wp2_with fail
    refine Calls.mono (keepR (int_eq hk0.out) (pow_calls m a k HA.out (by unfold isInt; omega) w3) hB3) ?_
    rintro e w4 ⟨rfl, hB4⟩
    go_wp2
    go_ret
    exact ⟨rfl, hB4⟩

theorem i16_wf {x : Int} (h : (Lit.int .i16 x).wf = true) : -32768 ≤ x ∧ x ≤ 32767 := by
  simp only [Lit.wf, Bool.and_eq_true, decide_eq_true_eq] at h
  rw [show IntKind.i16.min = -32768 from rfl, show IntKind.i16.max = 32767 from rfl] at h
  exact h
theorem powers_any (n : Int) (_ : isInt n) (a : Int) (ha : isInt a) (b : Int) (hb : -32768 ≤ b ∧ b ≤ 32767) (c : Int) (hc : -32768 ≤ c ∧ c ≤ 32767) (w : World) (hE : Env w) :
    Calls Tryd.prog 7 #[.int .i64 n, .int .i64 a, .int .i16 b, .int .i16 c] w (Tpost w) := by
  have hm := modZ_mod n
  cases hx : invZ (modZ n) a with
  | some x =>
    obtain ⟨h1, h2, _⟩ := p_inv hm hx
    exact powers_some n a b c ha hb hc x (by unfold InvV; rw [if_pos hm, hx]) h1 h2 (.inl (by rw [hx]; simp)) w hE
  | none =>
    by_cases h : 0 ≤ b ∧ 0 ≤ c
    · exact powers_none n a b c ha hb hc 0 (by unfold InvV; rw [if_pos hm, hx]) (powZ_none hx (by omega)) rfl h.1 h.2 (.inr h) w hE
    · exact powers_neg n a b c ha hb hc hx (by omega) w hE
end Go.Proofs.YtolmcaikjebdaaaDoor
