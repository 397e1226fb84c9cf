/- The law FieldHashes. -/
import Derived.Test.YtolmcaikjebdaaaDoorRNumb
namespace Go.Proofs.YtolmcaikjebdaaaDoor
open Go.RowKit

theorem addZ_int' (n a b : Int) : isInt (addZ n a b) := by
  by_cases hn : isMod n
  · exact isInt_res hn (addZ_in hn a b)
  · unfold addZ isInt; rw [if_neg hn]; omega
theorem mulZ_int' (n a b : Int) : isInt (mulZ n a b) := by
  by_cases hn : isMod n
  · exact isInt_res hn (mulZ_in hn a b)
  · unfold mulZ isInt; rw [if_neg hn]; omega
theorem numF_out {n : Int} (hn : ¬ isMod n) : ∀ l, numF n 0 l = 0
  | [] => rfl
  | c :: l => by
    rw [numF, show addZ n (mulZ n 0 256) (c.toNat : Int) = 0 by unfold addZ; rw [if_neg hn]]
    exact numF_out hn l
theorem numZ_is (l : List UInt8) (n : Int) : numZ l n = numF n 0 (shaL l) := by
  unfold numZ
  split
  · rfl
  · rename_i h; exact (numF_out h _).symm
set_option maxHeartbeats 2000000 in
set_option maxRecDepth 100000 in
theorem hashes_any (s : ByteArray) (_ : s.size ≤ 9223372036854775807) (n : Int) (_ : isInt n) (w : World) (hE : Env w) :
    Calls Tryd.prog 5 #[.string s, .int .i64 n] w (Tpost w) := by
  unfold Tpost
  have c1 := Lib.hid (sane_calls w hE)
  have hEn := fun w' (h : Below w.heap.size w w') => Lib.hid (hE.next h)
  clear hE
  by_cases hs : s.size ≤ 300
  · obtain ⟨l, rfl⟩ : ∃ l, s = bs l := ⟨s.data.toList, (bs_of s).symm⟩
    have hl : l.length ≤ 300 := by rw [bs_size] at hs; exact hs
    have d1 : decide ((300 : Int) < ((bs l).size : Int)) = false := decide_eq_false (by omega)
    obtain ⟨L, hL⟩ : ∃ L, L = shaL l := ⟨_, rfl⟩
    obtain ⟨N, hN⟩ : ∃ N, N = numZ l n := ⟨_, rfl⟩
    have hLl : L.length = 32 := by rw [hL]; exact shaL_len l
    have c2 := fun w' (h : Below w.heap.size w w') => Lib.hid (below_keep (sha_calls l (by omega) w' (hEn w' h).out) h)
    have c3 := fun w' (h : Below w.heap.size w w') => Lib.hid (below_keep (rsha_calls l (by omega) w') h)
    have c4 := fun w' (h : Below w.heap.size w w') => Lib.hid (below_keep (number_calls l n (by omega) w' (hEn w' h).out) h)
    have c5 := fun w' (h : Below w.heap.size w w') => Lib.hid (below_keep (rnumber_calls l n (by omega) w') h)
    have hN2 : numF n 0 L = N := by rw [hN, hL, numZ_is]
    rw [← hL] at c2 c3
    rw [← hN] at c4 c5
    have hLs : (bs L).size = 32 := by rw [bs_size]; exact hLl
    have hLi : ((bs L).size : Int) = 32 := by omega
    have HLl := Lib.hid hLl
    have HN2 := Lib.hid hN2
    have q2 : (N != N) = false := by simp
    have q3 : (N == N) = true := by simp
    clear hL hN hLl hN2 hEn hl hs
    go_enter Tryd.func5, Tryd.ntmps5
    go_wp2_with fail
    refine c1.out.mono ?_
    rintro e w1 ⟨rfl, hB⟩
    go_wp2_with fail
    refine Calls.mono (c2 w1 hB).out ?_
    clear hB
    rintro e w2 ⟨rfl, hB⟩
    go_wp2_with fail
    refine Calls.mono (c3 w2 hB).out ?_
    clear hB
    rintro e w3 ⟨rfl, hB⟩
    go_wp2_with fail
    refine Calls.mono (c4 w3 hB).out ?_
    clear hB
    rintro e w4 ⟨rfl, hB⟩
    go_wp2_with fail
    refine Calls.mono (c5 w4 hB).out ?_
    clear hB
    rintro e w5 ⟨rfl, hB⟩
    go_wp2_with fail
    go_loopw [7, 8] (fun r i wr => ∃ (k : Nat) (x : Int), k ≤ 32 ∧ i = .int .i64 (k : Int) ∧ r = .int .i64 x ∧ numF n x (L.drop k) = N ∧ isInt x ∧ Below w.heap.size w wr) (fun _ i _ => 32 - (intOf i).toNat)
    case atStart => exact ⟨0, 0, by omega, rfl, rfl, HN2.out, by unfold isInt; omega, hB⟩
    case round =>
      clear hB
      obtain ⟨k, x, hk, rfl, rfl, hx, hxi, hbw⟩ := hrel
      have HX := Lib.hid hx
      clear hx
      by_cases hlt : k < 32
      · obtain ⟨c, hc⟩ : ∃ c, c = L[k]'(by rw [HLl.out]; exact hlt) := ⟨_, rfl⟩
        have g0 : ∀ h, (bs L)[k]'h = c := fun h => by rw [hc]; exact bs_get L _ h (by rw [HLl.out]; exact hlt)
        have i0 : k < (bs L).size := by omega
        obtain ⟨y, hy⟩ : ∃ y, y = mulZ n x 256 := ⟨_, rfl⟩
        obtain ⟨z, hz⟩ : ∃ z, z = addZ n y (c.toNat : Int) := ⟨_, rfl⟩
        have HX2 : Hid (numF n z (L.drop (k + 1)) = N) := by
          show numF n z (L.drop (k + 1)) = N
          rw [← HX.out, numF_step n L k x (by rw [HLl.out]; exact hlt), ← hc, ← hy, ← hz]
        have hyi : isInt y := by rw [hy]; exact mulZ_int' _ _ _
        have hzi : isInt z := by rw [hz]; exact addZ_int' _ _ _
        have hc8 : c.toNat < 256 := c.toNat_lt
        have cm := fun w => Lib.hid (mul_calls n x 256 hxi (by unfold isInt; omega) w)
        have ca := fun w => Lib.hid (add_calls n y (c.toNat : Int) hyi (by unfold isInt; omega) w)
        rw [← hy] at cm
        rw [← hz] at ca
        have hk32 : (k : Int) < 32 := by omega
        have hwc : IntKind.i64.wrap (c.toNat : Int) = (c.toNat : Int) := by simp only [IntKind.wrap, IntKind.bits, IntKind.signed]; simp; omega
        clear hc hy hz HX hyi hxi
        go_wp2
        go_region_with (first
          | (go_at_call 19; have h9 := (cm wr.drew).out; clear cm; refine Calls.mono h9 ?_; rintro e w2 ⟨rfl, m2, rfl⟩)
          | (go_at_call 15; have h9 := (ca (wr.drewN (1 + m2))).out; clear ca; refine Calls.mono h9 ?_; rintro e w3 ⟨rfl, rfl⟩))
        all_goals
          go_wp2
          go_roundw
          case rel => exact ⟨k + 1, z, by omega, by go_num, rfl, HX2.out, hzi, below_drewN hbw _⟩
          case measure => simp [intOf]; omega
      · obtain rfl : k = 32 := by omega
        have HZ : Hid (x = N) := by
          show x = N
          rw [← HX.out, List.drop_eq_nil_of_le (by rw [HLl.out]; omega), numF]
        rw [HZ.out]
        clear HX HZ
        go_wp2_with fail
        refine Calls.mono (c4 wr hbw).out ?_
        rintro e w6 ⟨rfl, hB⟩
        go_wp2
        go_ret
        exact ⟨rfl, hB⟩
  · have d1 : decide ((300 : Int) < (s.size : Int)) = true := decide_eq_true (by omega)
    clear hs hEn
    go_enter Tryd.func5, Tryd.ntmps5
    go_wp2_with fail
    refine c1.out.mono ?_
    rintro e w1 ⟨rfl, hB⟩
    go_wp2
    go_ret
    exact ⟨rfl, hB⟩
end Go.Proofs.YtolmcaikjebdaaaDoor
