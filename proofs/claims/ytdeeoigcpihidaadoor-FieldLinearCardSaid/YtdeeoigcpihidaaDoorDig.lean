/- Digits, powers. -/
import Derived.Test.YtdeeoigcpihidaaDoorSane
import Derived.Test.YtdeeoigcpihidaaDoorPts
namespace Go.Proofs.YtdeeoigcpihidaaDoor
open Go.RowKit

def pwF (q : Int) : Nat → Int → Int
  | 0, o => o
  | k + 1, o => if o ≤ 2500 then pwF q k (o * q) else o
theorem pwF_pow : ∀ q : Nat, q < 14 → ∀ n : Nat, n < 6 → pwF (q : Int) n 1 ≤ 2500 → pwF (q : Int) n 1 = ((q ^ n : Nat) : Int) := by decide +kernel
theorem pwF_le : ∀ q : Nat, q < 14 → ∀ n : Nat, n < 6 → 0 ≤ pwF (q : Int) n 1 ∧ pwF (q : Int) n 1 ≤ 40000 := by decide +kernel
set_option maxHeartbeats 1000000 in
theorem power_calls (q n : Nat) (hq : q < 14) (hn : n < 6) (w : World) :
    Calls Tryd.prog 18 #[.int .i64 (q : Int), .int .i64 (n : Int)] w fun e w' => e = .returned (.int .i64 (pwF (q : Int) n 1)) ∧ w = w' := by
  obtain ⟨P, hP⟩ : ∃ P, P = pwF (q : Int) n 1 := ⟨_, rfl⟩
  rw [← hP]
  have HP : Nat → pwF (q : Int) (n - 0) 1 = P := fun _ => hP.symm
  clear hP
  go_enter Tryd.func18, Tryd.ntmps18
  go_wp2
  go_loopw [5, 6] (fun o i wr => ∃ (k : Nat) (O : Int), k ≤ n ∧ i = .int .i64 (k : Int) ∧ o = .int .i64 O ∧ 0 ≤ O ∧ O ≤ 40000 ∧ (Nat → pwF (q : Int) (n - k) O = P) ∧ wr = w) (fun _ i _ => n - (intOf i).toNat)
  case atStart => exact ⟨0, 1, Nat.zero_le _, rfl, rfl, by omega, by omega, HP, rfl⟩
  case round =>
    clear HP
    obtain ⟨k, O, hk, rfl, rfl, h0, h1, HP, rfl⟩ := hrel
    by_cases hlt : k < n
    · have hst : Nat → (if O ≤ 2500 then pwF (q : Int) (n - (k + 1)) (O * q) else O) = P := fun _ => by
        rw [← HP 0, show n - k = (n - (k + 1)) + 1 by omega, pwF]
      have hkn : (k : Int) < (n : Int) := by omega
      by_cases hO : O ≤ 2500
      · have HP : Nat → pwF (q : Int) (n - (k + 1)) (O * q) = P := fun _ => by have := hst 0; rwa [if_pos hO] at this
        have hm0 : 0 ≤ O * (q : Int) := Int.mul_nonneg h0 (by omega)
        have hm1 : O * (q : Int) ≤ 40000 := by
          have : O * (q : Int) ≤ 2500 * 13 := Int.mul_le_mul hO (by omega) (by omega) (by omega)
          omega
        obtain ⟨O', hO'⟩ : ∃ O', O' = O * (q : Int) := ⟨_, rfl⟩
        rw [← hO'] at HP hm0 hm1
        have hO2 := hO'.symm
        clear hst hO'
        go_wp2
        go_roundw
        case rel => exact ⟨k + 1, O', by omega, by go_num, rfl, hm0, hm1, HP, by trivial⟩
        case measure => simp [intOf]; omega
      · have HX : Hid (O = P) := by have := hst 0; rwa [if_neg hO] at this
        clear hst HP
        go_wp2
        go_ret
        exact ⟨ret_i HX.out, rfl⟩
    · obtain rfl : k = n := by omega
      have HX : Hid (O = P) := by have := HP 0; rwa [Nat.sub_self, pwF] at this
      clear HP
      go_wp2
      go_ret
      exact ⟨ret_i HX.out, rfl⟩
/-- Ints as cells. -/
def zcs (L : List Int) : List Value := L.map (Value.int .i64)
theorem ints_own {w : World} {T : Nat} {v : Value} {L : List Int} (h : w.ownsRow T 3 1 v L.length (zcs L)) : IsInts v L w := by
  obtain ⟨_, ⟨h1, h2⟩ | ⟨g, cap, cur, hv, _, hh, _, _, _, ht⟩⟩ := h
  · exact .inl ⟨⟨_, _, by rw [h1]⟩, List.eq_nil_of_length_eq_zero (by simpa using h2)⟩
  · refine .inr ⟨g, 0, cap, hv, (Array.getElem?_eq_some_iff.1 hh).1, fun i x hx => ?_⟩
    rw [Nat.zero_add, cell_of_row w g i cur _ (0, 0) hh]
    have h1 : (zcs L)[i]? = some (.int .i64 x) := by simp [zcs, hx]
    rw [← ht, List.getElem?_take] at h1
    split at h1
    · simpa using h1
    · cases h1
set_option maxHeartbeats 1000000 in
theorem digits_calls (p n c : Nat) (hp : 0 < p) (hp2 : p < 14) (hn : n ≤ 1000000) (hc : c ≤ 100) (w : World) :
    Calls Tryd.prog 21 #[.int .i64 (n : Int), .int .i64 (p : Int), .int .i64 (c : Int)] w fun e w' => ∃ v, e = .returned v ∧ IsInts v (digL p c n) w' ∧ Below w.heap.size w w' := by
  obtain ⟨D, hD⟩ : ∃ D, D = digL p c n := ⟨_, rfl⟩
  rw [← hD]
  have hD0 : Nat → [] ++ digL p (c - 0) n = D := fun _ => hD.symm
  clear hD
  go_enter Tryd.func21, Tryd.ntmps21
  go_wp2
  have hO0 : (w.alloc (.cells #[] 3)).ownsRow w.heap.size 3 1 (.slice (some ⟨w.heap.size, 0, none⟩) 0 0) 0 (zcs []) := World.ownsRow_lit (base := w.heap.size) w #[] 0 (Nat.le_refl _) (by unfold maxLen; omega) (by rfl)
  have hB0 : Below w.heap.size w (w.alloc (.cells #[] 3)) := below_one _ _
  have hp1 : (0 : Int) < (p : Int) := by omega
  have hp3 : ¬ (p : Int) = 0 := by omega
  obtain ⟨i0, hi0, hz0, hz1, hz2⟩ := info_parts infoInt
  go_loopw [0, 7, 8] (fun mv v i wr => ∃ (k m : Nat) (L : List Int), k ≤ c ∧ i = .int .i64 (k : Int) ∧ mv = .int .i64 (m : Int) ∧ m ≤ 1000000 ∧ L.length = k ∧ (Nat → L ++ digL p (c - k) m = D) ∧ wr.ownsRow w.heap.size 3 1 v L.length (zcs L) ∧ Below w.heap.size w wr) (fun _ _ i _ => c - (intOf i).toNat)
  case atStart => exact ⟨0, n, [], Nat.zero_le _, rfl, rfl, hn, rfl, hD0, hO0, hB0⟩
  case round =>
    clear hO0 hB0 hD0 hn
    obtain ⟨k, m, L, hk, rfl, rfl, hm, hL, hD, hO, hB⟩ := hrel
    by_cases hlt : k < c
    · have hst : Nat → (L ++ [((m % p : Nat) : Int)]) ++ digL p (c - (k + 1)) (m / p) = D := fun _ => by
        rw [← hD 0, show c - k = (c - (k + 1)) + 1 by omega, digL, List.append_assoc]; rfl
      have hmod : (m : Int) % (p : Int) = ((m % p : Nat) : Int) := (Int.natCast_emod m p).symm
      have hdiv : (m : Int) / (p : Int) = ((m / p : Nat) : Int) := (Int.natCast_ediv m p).symm
      obtain ⟨r, hr⟩ : ∃ r, r = m % p := ⟨_, rfl⟩
      obtain ⟨m', hm'⟩ : ∃ m', m' = m / p := ⟨_, rfl⟩
      have hml : m' ≤ 1000000 := by rw [hm']; exact Nat.le_trans (Nat.div_le_self _ _) hm
      rw [← hr] at hmod hst
      rw [← hm'] at hdiv hst
      have hkc : (k : Int) < (c : Int) := by omega
      have hmi : (m : Int) ≤ 1000000 := by omega
      have HO := Lib.hid hO
      have HB := Lib.hid hB
      have HL := Lib.hid hL
      have hlen : L.length ≤ 100 := by omega
      have hbs := hB.size
      have HBS := Lib.hid hbs
      clear hO hB hL hD hr hm' hbs
      go_wp2_with (at_builtin; go_loud (refine wpList_append_own _ rfl _ _ 23 rfl w.heap.size 3 i0 (.int .i64 0) 1 8 Tryd.underlying23 hi0 hz0 hz1 hz2 rfl (by decide) _ _ _ rfl (HO.out.alloc _) ⟨wr.heap.size, 0, none⟩ 1 1 [.int .i64 (r : Int)] rfl rfl ?c1 ?c2 ?c3 ?c4 ?c5 ?_))
      case c1 =>
        intro j' u hj'
        match j', hj' with
        | 0, hj' => simp at hj'; subst hj'; simp [Addr.add]
      case c2 => intro u hu; simp at hu; subst hu; rfl
      case c3 => unfold maxLen; omega
      case c4 => omega
      case c5 => have := HBS.out; simp; omega
      intro v' w' hown hgr _
      have hlen2 : (L ++ [(r : Int)]).length = L.length + 1 := by simp
      have hown2 : Hid (w'.ownsRow w.heap.size 3 1 v' (L ++ [(r : Int)]).length (zcs (L ++ [(r : Int)]))) := by
        show World.ownsRow _ _ _ _ _ _ _
        rw [hlen2, show zcs (L ++ [(r : Int)]) = zcs L ++ [.int .i64 (r : Int)] by simp [zcs]]; exact hown
      have HB2 : Hid (Below w.heap.size w w') := by
        have h1 : Below w.heap.size w (wr.alloc (.cells #[.int .i64 (r : Int)] 3)) := HB.out.trans ((below_one wr _).mono HBS.out)
        exact h1.trans ⟨hgr.os, hgr.tape, hgr.output, hgr.size, fun k hk => hgr.block k (by have := HBS.out; simp; omega) (fun e => by have := (HO.out.lt k e.symm).1; omega)⟩
      have HL2 : Hid ((L ++ [(r : Int)]).length = k + 1) := by show _ = _; rw [hlen2, HL.out]
      clear hown hgr hlen2 HO HB
      go_wp2
      go_roundw
      case rel => exact ⟨k + 1, m', L ++ [(r : Int)], by omega, by go_num, rfl, hml, HL2.out, hst, hown2.out, HB2.out⟩
      case measure => simp [intOf]; omega
    · obtain rfl : k = c := by omega
      have hX : Hid (L = D) := by
        show _ = _
        rw [← hD 0, Nat.sub_self, digL, List.append_nil]
      have HO := Lib.hid hO
      have HB := Lib.hid hB
      clear hO hB hD hL
      go_wp2
      go_ret
      rw [← hX.out]
      exact ⟨_, rfl, ints_own HO.out, HB.out⟩
end Go.Proofs.YtdeeoigcpihidaaDoor
