/- Hexadecimal digits. -/
import Derived.Test.YtolmcaikjebdaaaDoorGrp2
namespace Go.Proofs.YtolmcaikjebdaaaDoor
open Go.RowKit

def digL : List UInt8 := [48, 49, 50, 51, 52, 53, 54, 55, 56, 57, 97, 98, 99, 100, 101, 102]
def hexF : List UInt8 → List UInt8
  | [] => []
  | c :: l => [digL.getD (c.toNat / 16) 0, digL.getD (c.toNat % 16) 0] ++ hexF l
theorem dig_cut : ∀ k, k < 16 → (bs digL).extract k (k + 1) = bs [digL.getD k 0] := by
  intro k hk
  rw [bs_cut]
  congr 1
  have : k = 0 ∨ k = 1 ∨ k = 2 ∨ k = 3 ∨ k = 4 ∨ k = 5 ∨ k = 6 ∨ k = 7 ∨ k = 8 ∨ k = 9 ∨ k = 10 ∨ k = 11 ∨ k = 12 ∨ k = 13 ∨ k = 14 ∨ k = 15 := by omega
  rcases this with rfl | rfl | rfl | rfl | rfl | rfl | rfl | rfl | rfl | rfl | rfl | rfl | rfl | rfl | rfl | rfl <;> rfl

set_option maxHeartbeats 1000000 in
set_option maxRecDepth 100000 in
theorem hex_calls (l : List UInt8) (hl : l.length ≤ 1000) (w : World) :
    Calls Tryd.prog 44 #[.string (bs l)] w fun e w' => e = .returned (.string (bs (hexF l))) ∧ Below w.heap.size w w' := by
  obtain ⟨n, hn⟩ : ∃ n, n = l.length := ⟨_, rfl⟩
  have hls : ((bs l).size : Int) = (n : Int) := by rw [bs_size, hn]
  have hls2 : (bs l).size = n := by rw [bs_size, hn]
  rw [← hn] at hl
  have HN := Lib.hid hn
  clear hn
  go_enter Tryd.func44, Tryd.ntmps44
  go_wp2
  have hD : ({ data := #[48, 49, 50, 51, 52, 53, 54, 55, 56, 57, 97, 98, 99, 100, 101, 102] } : ByteArray) = bs digL := rfl
  have dc := dig_cut
  have hDs : (bs digL).size = 16 := rfl
  generalize ({ data := #[48, 49, 50, 51, 52, 53, 54, 55, 56, 57, 97, 98, 99, 100, 101, 102] } : ByteArray) = D at *
  rw [← hD] at hDs dc
  clear hD
  have hDi : (D.size : Int) = 16 := by omega
  have DC := Lib.hid dc
  clear dc
  go_loopw [4, 5] (fun o i wr => ∃ (k : Nat) (a : List UInt8), k ≤ n ∧ i = .int .i64 (k : Int) ∧ o = .string (bs a) ∧ a ++ hexF (l.drop k) = hexF l ∧ (bs a).size ≤ 2 * k ∧ Below w.heap.size w wr) (fun _ i _ => n - (intOf i).toNat)
  case atStart => exact ⟨0, [], by omega, rfl, rfl, rfl, by decide, Below.refl _ _⟩
  case round =>
    obtain ⟨k, a, hk, rfl, rfl, hx, has, hbw⟩ := hrel
    have HX := Lib.hid hx
    clear hx
    by_cases hlt : k < n
    · have hkl : k < l.length := by rw [← HN.out]; exact hlt
      obtain ⟨c, hc⟩ : ∃ c, c = l[k]'hkl := ⟨_, rfl⟩
      have g0 : ∀ h, (bs l)[k]'h = c := fun h => by rw [hc]; exact bs_get l _ h hkl
      have i0 : k < (bs l).size := by omega
      have hc8 : c.toNat < 256 := c.toNat_lt
      obtain ⟨p, hp⟩ : ∃ p, p = c.toNat / 16 := ⟨_, rfl⟩
      obtain ⟨q, hq⟩ : ∃ q, q = c.toNat % 16 := ⟨_, rfl⟩
      obtain ⟨b, hb⟩ : ∃ b, b = a ++ [digL.getD p 0] ++ [digL.getD q 0] := ⟨_, rfl⟩
      have HX2 : Hid (b ++ hexF (l.drop (k + 1)) = hexF l) := by
        show b ++ hexF (l.drop (k + 1)) = hexF l
        rw [← HX.out, List.drop_eq_getElem_cons (l := l) (i := k) hkl, hexF, ← hc, ← hp, ← hq, hb]; simp
      have hpl : p < 16 := by omega
      have hql : q < 16 := by omega
      have x1 := DC.out p hpl
      have x2 := DC.out q hql
      have hcat : bs a ++ bs [digL.getD p 0] ++ bs [digL.getD q 0] = bs b := by rw [bs_append, bs_append, hb]
      have hbs : (bs b).size ≤ 2 * (k + 1) := by rw [bs_size, hb]; rw [bs_size] at has; simp; omega
      have hs1 : (bs [digL.getD p 0]).size = 1 := by rw [bs_size]; rfl
      have hs2 : (bs [digL.getD q 0]).size = 1 := by rw [bs_size]; rfl
      have hs3 : (bs a ++ bs [digL.getD p 0]).size ≤ 2 * k + 1 := by rw [bs_append, bs_size]; rw [bs_size] at has; simp; omega
      have hwc : IntKind.i64.wrap (c.toNat : Int) = (c.toNat : Int) := by simp only [IntKind.wrap, IntKind.bits, IntKind.signed]; simp; omega
      have hdv : Int.tdiv (c.toNat : Int) 16 = (p : Int) := by rw [Int.tdiv_eq_ediv_of_nonneg (by omega)]; omega
      have hmd : Int.tmod (c.toNat : Int) 16 = (q : Int) := by rw [Int.tmod_eq_emod_of_nonneg (by omega)]; omega
      have hp1 : IntKind.i64.wrap ((p : Int) + 1) = ((p + 1 : Nat) : Int) := by simp only [IntKind.wrap, IntKind.bits, IntKind.signed]; simp; omega
      have hq1 : IntKind.i64.wrap ((q : Int) + 1) = ((q + 1 : Nat) : Int) := by simp only [IntKind.wrap, IntKind.bits, IntKind.signed]; simp; omega
      obtain ⟨p2, hp2⟩ : ∃ p2, p2 = p + 1 := ⟨_, rfl⟩
      obtain ⟨q2, hq2⟩ : ∃ q2, q2 = q + 1 := ⟨_, rfl⟩
      rw [← hp2] at hp1 x1
      rw [← hq2] at hq1 x2
      have t1 : (p : Int) ≤ (p2 : Int) := by omega
      have t2 : (q : Int) ≤ (q2 : Int) := by omega
      have t3 : (p2 : Int) ≤ 16 := by omega
      have t4 : (q2 : Int) ≤ 16 := by omega
      generalize bs [digL.getD p 0] = X1 at *
      generalize bs [digL.getD q 0] = X2 at *
      have hkn : (k : Int) < (n : Int) := by omega
      have hbw2 := hbw.drew
      clear hc hp hq hb HX hp2 hq2
      go_wp2
      go_region
      all_goals
        go_wp2
        go_roundw
        case rel => exact ⟨k + 1, b, by omega, by go_num, rfl, HX2.out, by omega, hbw2⟩
        case measure => simp [intOf]; omega
    · obtain rfl : k = n := by omega
      have HE : Hid (a = hexF l) := by
        show a = hexF l
        rw [← HX.out, List.drop_eq_nil_of_le (by rw [HN.out]; omega), hexF, List.append_nil]
      clear HX DC
      go_wp2
      go_ret
      exact ⟨by rw [← HE.out]; rfl, hbw⟩
end Go.Proofs.YtolmcaikjebdaaaDoor
