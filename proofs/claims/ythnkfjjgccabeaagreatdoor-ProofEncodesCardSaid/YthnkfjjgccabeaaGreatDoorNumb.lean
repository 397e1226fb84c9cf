/- The digest of a string as a number. -/
import Derived.Test.YthnkfjjgccabeaaGreatDoorHash
import Derived.Test.YthnkfjjgccabeaaGreatDoorPrime2
namespace Go.Proofs.YthnkfjjgccabeaaGreatDoor
open Go.RowKit

def numF (n : Int) : Int → List UInt8 → Int
  | r, [] => r
  | r, c :: l => numF n (addZ n (mulZ n r 256) (c.toNat : Int)) l
def numZ (l : List UInt8) (n : Int) : Int := if isMod n then numF n 0 (shaL l) else 0
theorem isInt_res {n : Int} (hn : isMod n) {x : Int} (h : 0 ≤ x ∧ x < n) : isInt x := by
  obtain ⟨h1, h2⟩ := hn
  unfold isInt; omega
theorem addZ_in {n : Int} (hn : isMod n) (a b : Int) : 0 ≤ addZ n a b ∧ addZ n a b < n := by
  unfold addZ; rw [if_pos hn]; exact res_in n _ hn
theorem mulZ_in {n : Int} (hn : isMod n) (a b : Int) : 0 ≤ mulZ n a b ∧ mulZ n a b < n := by
  unfold mulZ; rw [if_pos hn]; exact res_in n _ hn

set_option maxHeartbeats 1000000 in
set_option maxRecDepth 100000 in
theorem number_calls (l : List UInt8) (n : Int) (hl : l.length ≤ 1000000000) (w : World) (hE : Env w) :
    Calls Tryz.prog 70 #[.string (bs l), .int .i64 n] w fun e w' => e = .returned (.int .i64 (numZ l n)) ∧ Below w.heap.size w w' := by
  by_cases hn : isMod n
  · have HV : Hid (numZ l n = numF n 0 (shaL l)) := by show numZ l n = numF n 0 (shaL l); unfold numZ; rw [if_pos hn]
    have HN := Lib.hid hn
    have cs := Lib.hid (sha_calls l hl w hE)
    clear hn
    go_enter Tryz.func70, Tryz.ntmps70
    go_wp2_with fail
    refine (ismod_yes n HN.out _).mono ?_
    rintro e w' ⟨rfl, rfl⟩
    go_wp2_with fail
    refine cs.out.mono ?_
    rintro e w1 ⟨rfl, hb1⟩
    go_wp2_with fail
    obtain ⟨L, hL⟩ : ∃ L, L = shaL l := ⟨_, rfl⟩
    rw [← hL] at HV
    have hLl : L.length = 32 := by rw [hL]; exact shaL_len l
    rw [← hL]
    have HL := Lib.hid hL
    clear hL
    have hLs : (bs L).size = 32 := by rw [bs_size]; exact hLl
    have hLi : ((bs L).size : Int) = 32 := by omega
    have HLl := Lib.hid hLl
    clear hLl
    rw [hLi]
    go_loopw [5, 15] (fun r i wr => ∃ (k : Nat) (x : Int), k ≤ 32 ∧ i = .int .i64 (k : Int) ∧ r = .int .i64 x ∧ numF n x (L.drop k) = numF n 0 L ∧ 0 ≤ x ∧ x < n ∧ Below w.heap.size w wr) (fun _ i _ => 32 - (intOf i).toNat)
    case atStart => exact ⟨0, 0, by omega, rfl, rfl, rfl, by omega, by have := HN.out.1; omega, hb1⟩
    case round =>
      clear hb1
      obtain ⟨k, x, hk, rfl, rfl, hx, hx0, hxn, hbw⟩ := hrel
      have HX := Lib.hid hx
      clear hx
      by_cases hlt : k < 32
      · obtain ⟨c, hc⟩ : ∃ c, c = L[k]'(by rw [HLl.out]; exact hlt) := ⟨_, rfl⟩
        have g0 : ∀ h, (bs L)[k]'h = c := fun h => by rw [hc]; exact bs_get L _ h (by rw [HLl.out]; exact hlt)
        have i0 : k < (bs L).size := by omega
        obtain ⟨y, hy⟩ : ∃ y, y = mulZ n x 256 := ⟨_, rfl⟩
        obtain ⟨z, hz⟩ : ∃ z, z = addZ n y (c.toNat : Int) := ⟨_, rfl⟩
        have HX2 : Hid (numF n z (L.drop (k + 1)) = numF n 0 L) := by
          show numF n z (L.drop (k + 1)) = numF n 0 L
          rw [← HX.out, List.drop_eq_getElem_cons (l := L) (i := k) (by rw [HLl.out]; exact hlt), numF, ← hc, ← hy, ← hz]
        have hyi := mulZ_in HN.out x 256
        rw [← hy] at hyi
        have hzi := addZ_in HN.out y (c.toNat : Int)
        rw [← hz] at hzi
        have hc8 : c.toNat < 256 := c.toNat_lt
        have cm := fun w => Lib.hid (mul_calls n x 256 (isInt_res HN.out ⟨hx0, hxn⟩) (by unfold isInt; omega) w)
        have ca := fun w => Lib.hid (add_calls n y (c.toNat : Int) (isInt_res HN.out hyi) (by unfold isInt; omega) w)
        rw [← hy] at cm
        rw [← hz] at ca
        have hk32 : (k : Int) < 32 := by omega
        have hwc : IntKind.i64.wrap (c.toNat : Int) = (c.toNat : Int) := by simp only [IntKind.wrap, IntKind.bits, IntKind.signed]; simp; omega
        clear hc hy hz HX hyi
        go_wp2
        go_region_with (first
          | (go_at_call 49; have h9 := (cm wr.drew).out; clear cm; refine Calls.mono h9 ?_; rintro e w2 ⟨rfl, m2, rfl⟩)
          | (go_at_call 48; have h9 := (ca (wr.drewN (1 + m2))).out; clear ca; refine Calls.mono h9 ?_; rintro e w3 ⟨rfl, rfl⟩))
        all_goals
          go_wp2
          go_roundw
          case rel => exact ⟨k + 1, z, by omega, by go_num, rfl, HX2.out, hzi.1, hzi.2, below_drewN hbw _⟩
          case measure => simp [intOf]; omega
      · obtain rfl : k = 32 := by omega
        have HZ : Hid (numZ l n = x) := by
          show numZ l n = x
          rw [HV.out, ← HX.out, List.drop_eq_nil_of_le (by rw [HLl.out]; omega), numF]
        clear HX HV HL
        go_wp2
        go_ret
        exact ⟨ret_i HZ.out.symm, hbw⟩
  · have HV : Hid (numZ l n = 0) := by show numZ l n = 0; unfold numZ; rw [if_neg hn]
    have HN := Lib.hid hn
    clear hn
    go_enter Tryz.func70, Tryz.ntmps70
    go_wp2_with fail
    refine (ismod_no n HN.out _).mono ?_
    rintro e w' ⟨rfl, rfl⟩
    go_wp2
    go_ret
    exact ⟨ret_i HV.out.symm, Below.refl _ _⟩
end Go.Proofs.YthnkfjjgccabeaaGreatDoor
