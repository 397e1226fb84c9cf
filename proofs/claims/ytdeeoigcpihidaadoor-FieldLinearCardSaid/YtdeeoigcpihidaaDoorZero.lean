/- A zero is added to a polynomial. -/
import Derived.Test.YtdeeoigcpihidaaDoorSep
namespace Go.Proofs.YtdeeoigcpihidaaDoor
open Go.RowKit

def zeroF (q x : Int) (m : Nat) (z : Nat → Int) : Nat → Int := fun j => if j = 0 then subZ q 0 (mulZ q x (z 0)) else if j < m then subZ q (z (j - 1)) (mulZ q x (z j)) else z j
/-- .. down to a place. -/
def zeroG (q x : Int) (m k : Nat) (z : Nat → Int) : Nat → Int := fun j => if k < j ∧ j < m then subZ q (z (j - 1)) (mulZ q x (z j)) else z j
theorem zeroG_top (q x : Int) (m k : Nat) (z : Nat → Int) (h : m ≤ k + 1) : zeroG q x m k z = z := by
  funext j; unfold zeroG; rw [if_neg (by omega)]
theorem zeroG_at (q x : Int) (m k : Nat) (z : Nat → Int) (j : Nat) (h : j ≤ k) : zeroG q x m k z j = z j := by unfold zeroG; rw [if_neg (by omega)]
theorem zeroG_set (q x : Int) (m k' : Nat) (z : Nat → Int) (h : k' + 1 < m) (t : Nat) : (if t = k' + 1 then subZ q (z k') (mulZ q x (z (k' + 1))) else zeroG q x m (k' + 1) z t) = zeroG q x m k' z t := by
  unfold zeroG
  by_cases e : t = k' + 1
  · subst e; rw [if_pos rfl, if_pos ⟨by omega, h⟩]; simp
  · rw [if_neg e]
    by_cases e2 : k' < t ∧ t < m
    · rw [if_pos e2, if_pos ⟨by omega, e2.2⟩]
    · rw [if_neg e2, if_neg (by omega)]
theorem zeroF_set (q x : Int) (m : Nat) (z : Nat → Int) (t : Nat) : (if t = 0 then subZ q 0 (mulZ q x (z 0)) else zeroG q x m 0 z t) = zeroF q x m z t := by
  unfold zeroG zeroF
  by_cases e : t = 0
  · rw [if_pos e, if_pos e]
  · rw [if_neg e, if_neg e]
    by_cases e2 : t < m
    · rw [if_pos ⟨by omega, e2⟩, if_pos e2]
    · rw [if_neg (by omega), if_neg e2]
set_option maxHeartbeats 1000000 in
theorem addzero_calls (q x : Int) (hx : isInt x) (Z m c K : Nat) (hm : 1 ≤ m) (hmc : m ≤ c) (hc : c ≤ 4294967296) (z : Nat → Int) (hz : ∀ j, isInt (z j)) (w : World) (h : RowAt Z c z w) :
    Calls Tryd.prog 43 #[.int .i64 q, .slice (some ⟨Z, 0, none⟩) m K, .int .i64 x] w fun e w' => e = .returned (.tuple #[]) ∧ RowAt Z c (zeroF q x m z) w' ∧ Upd Z w w' := by
  have hR0 : RowAt Z c (zeroG q x m (m - 1) z) w := h.congr fun j _ => by rw [zeroG_top _ _ _ _ _ (by omega)]
  have hm0 : ((m : Int) - 1) = ((m - 1 : Nat) : Int) := by omega
  have HM0 := Lib.hid hm0
  have hmi : (1 : Int) ≤ (m : Int) := by omega
  have c1 := fun k w => Lib.hid (mul_calls q x (z k) hx (hz k) w)
  have c2 := fun a k w => Lib.hid (sub_calls q (z a) (mulZ q x (z k)) (hz a) (mulZ_int _ _ _) w)
  have c3 := fun w => Lib.hid (sub_calls q 0 (mulZ q x (z 0)) (by unfold isInt; omega) (mulZ_int _ _ _) w)
  clear h hm0 hz hx
  go_enter Tryd.func43, Tryd.ntmps43
  go_wp2
  go_loopw [6] (fun i wr => ∃ k : Nat, k < m ∧ i = .int .i64 (k : Int) ∧ RowAt Z c (zeroG q x m k z) wr ∧ Upd Z w wr) (fun i _ => (intOf i).toNat)
  case atStart => exact ⟨m - 1, by omega, congrArg (Value.int .i64) HM0.out, hR0, Upd.refl _ _⟩
  case round =>
    clear hR0
    obtain ⟨k, hk, rfl, hR, hU⟩ := hrel
    by_cases hlt : 0 < k
    · obtain ⟨k', hk'⟩ : ∃ k', k = k' + 1 := ⟨k - 1, by omega⟩
      have z0 : wr.cell? ⟨Z, k, none⟩ = some (.int .i64 (z k)) := by rw [hR.at' k (by omega), zeroG_at _ _ _ _ _ _ (Nat.le_refl _)]
      have z0' : wr.cell? ⟨Z, k', none⟩ = some (.int .i64 (z k')) := by rw [hR.at' k' (by omega), zeroG_at _ _ _ _ _ _ (by omega)]
      have z1 : ∀ m j, (wr.drewN m).frozen? ⟨Z, j, none⟩ = false := fun m j => hR.fz j
      have z2 : ∀ m, (wr.drewN m).cell? ⟨Z, k, none⟩ = some (.int .i64 (z k)) := fun m => z0
      have z2' : ∀ m, (wr.drewN m).cell? ⟨Z, k', none⟩ = some (.int .i64 (z k')) := fun m => z0'
      have d1 := c1 k
      have d2 := c2 k' k
      have hset := zeroG_set q x m k' z (by omega)
      rw [← hk'] at hset
      obtain ⟨M, hM⟩ : ∃ M, M = mulZ q x (z k) := ⟨_, rfl⟩
      rw [← hM] at d1 d2 hset
      obtain ⟨V, hV⟩ : ∃ V, V = subZ q (z k') M := ⟨_, rfl⟩
      rw [← hV] at d2 hset
      have HSET := Lib.hid hset
      have HR := Lib.hid hR
      have HU := Lib.hid hU
      have hkp : (0 : Int) < (k : Int) := by omega
      have hw : IntKind.i64.wrap ((k : Int) - 1) = (k' : Int) := by simp only [IntKind.wrap, IntKind.bits, IntKind.signed]; simp; omega
      have hk1 : (k : Int) < (m : Int) := by omega
      have hk2 : (k' : Int) < (m : Int) := by omega
      have HK := Lib.hid hk'
      generalize z k = X at *
      generalize z k' = X' at *
      clear hM hV hset hR hU c1 c2 c3 hk'
      have z3 := z1 0 k
      have z4 := z2 0
      go_wp2
      go_region_with (first
        | (go_at_call 39; have h9 := (d1 wr.drew).out; clear d1; refine Calls.mono h9 ?_; rintro e w2 ⟨rfl, n1, rfl⟩; have x2' := z2' (n1 + 1))
        | (go_at_call 23; refine Calls.mono (d2 _).out ?_; rintro e w3 ⟨rfl, rfl⟩; have x1 := z1 (n1 + 1) k; have x2 := z2 (n1 + 1)))
      all_goals
        clear z0 z0' z2 z2' z1 z3 z4 hw
        go_wp2
        go_roundw
        case rel => exact ⟨k', by have := HK.out; omega, congrArg (Value.int .i64) (by have := HK.out; omega), ((HR.out.drewN _).set k (by omega) V).congr fun t _ => HSET.out t, (HU.out.drewN _).setCell k _⟩
        case measure => have := HK.out; simp [intOf]; omega
    · obtain rfl : k = 0 := by omega
      have z0 : wr.cell? ⟨Z, 0, none⟩ = some (.int .i64 (z 0)) := by rw [hR.at' 0 (by omega), zeroG_at _ _ _ _ _ _ (Nat.le_refl _)]
      have z1 : ∀ m j, (wr.drewN m).frozen? ⟨Z, j, none⟩ = false := fun m j => hR.fz j
      have z2 : ∀ m, (wr.drewN m).cell? ⟨Z, 0, none⟩ = some (.int .i64 (z 0)) := fun m => z0
      have d1 := c1 0
      have hset := zeroF_set q x m z
      obtain ⟨M, hM⟩ : ∃ M, M = mulZ q x (z 0) := ⟨_, rfl⟩
      rw [← hM] at d1 c3 hset
      obtain ⟨V, hV⟩ : ∃ V, V = subZ q 0 M := ⟨_, rfl⟩
      rw [← hV] at c3 hset
      have HSET := Lib.hid hset
      have HR := Lib.hid hR
      have HU := Lib.hid hU
      have hk1 : (0 : Int) < (m : Int) := by omega
      generalize z 0 = X at *
      clear hM hV hset hR hU c1 c2 hlt
      go_wp2_with fail
      refine Calls.mono (d1 _).out ?_
      rintro e w2 ⟨rfl, n1, rfl⟩
      go_wp2_with fail
      refine Calls.mono (c3 _).out ?_
      rintro e w3 ⟨rfl, rfl⟩
      have x1 := z1 n1 0
      have x2 := z2 n1
      clear z0 z1 z2 d1 c3
      go_wp2
      go_end0
      exact ⟨rfl, ((HR.out.drewN _).set 0 (by omega) V).congr fun t _ => HSET.out t, (HU.out.drewN _).setCell 0 _⟩
end Go.Proofs.YtdeeoigcpihidaaDoor
