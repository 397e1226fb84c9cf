/- Weigh. -/
import Derived.Test.YthnkfjjgccabeaaGreatDoorVsetA
namespace Go.Proofs.YthnkfjjgccabeaaGreatDoor
open Go.RowKit

/-- The product of elements to the power of the powers of two, from an exponent on. -/
def SetD.wF (s : SetD) : Nat → Int → List Int → Int
  | k, r, x :: xs => s.wF (k + 1) (s.tm r (s.pw x (2 ^ k))) xs
  | _, r, [] => r
def SetD.canWeigh (s : SetD) (bits : List Int) : Bool := s.valid && (lenB 1 60 bits.length && bits.all s.el)
def SetD.weigh (s : SetD) (bits : List Int) : Int := s.wF 0 1 bits
def SetD.weighV (s : SetD) (bits : List Int) : Value := if s.canWeigh bits = true then .tuple #[.int .i64 (s.weigh bits), .bool true] else .tuple #[.int .i64 0, .bool false]
theorem SetD.wF_drop (s : SetD) (k : Nat) (r : Int) (l : List Int) (h : k < l.length) : s.wF k r (l.drop k) = s.wF (k + 1) (s.tm r (s.pw l[k] (2 ^ k))) (l.drop (k + 1)) := by
  rw [List.drop_eq_getElem_cons h]; rfl
theorem SetD.wF_int (s : SetD) : ∀ (l : List Int) (k : Nat) (r : Int), isInt r → isInt (s.wF k r l)
  | [], _, _, h => h
  | _ :: l, k, _, _ => SetD.wF_int s l (k + 1) _ (gTimes_int _ _ _ _)
theorem two_pow_le (k : Nat) (h : k < 60) : (1 : Int) ≤ 2 ^ k ∧ (2 : Int) ^ k ≤ 576460752303423488 := by
  have h1 : (2 : Nat) ^ k ≤ 2 ^ 59 := Nat.pow_le_pow_right (by omega) (by omega)
  have h2 : 1 ≤ (2 : Nat) ^ k := Nat.one_le_two_pow
  have e : (2 : Int) ^ k = ((2 ^ k : Nat) : Int) := by simp
  rw [e]
  omega
theorem two_pow_wrap (k : Nat) (h : k < 60) : IntKind.i64.wrap ((2 : Int) ^ k) = 2 ^ k := by
  have := two_pow_le k h
  generalize (2 : Int) ^ k = x at *
  simp only [IntKind.wrap, IntKind.bits, IntKind.signed]; simp; omega

set_option maxRecDepth 100000 in
set_option maxHeartbeats 2000000 in
theorem weigh_calls (s : SetD) (hi : s.ints) (vb v : Value) (bits : List Int) (hbi : ∀ x ∈ bits, isInt x) (hbl : bits.length ≤ 9223372036854775807) (w : World) (hE : Env w) (hb0 : IsNums vb s.bs w) (hv : IsNums v bits w) :
    Calls Tryz.prog 13 #[s.val vb, v] w fun e w' => e = .returned (s.weighV bits) ∧ Below w.heap.size w w' := by
  obtain ⟨a, cap, rfl⟩ := hv.len
  have hb := below_one w (.cells (s.cells vb) 34)
  have hS : SetAt s vb w.heap.size (w.alloc (.cells (s.cells vb) 34)) := Blk.new w _ _
  have c1 := Lib.hid (vset_calls s hi vb _ (hE.next hb) (hb0.next hb))
  have c2 := fun w => Lib.hid (arebits_calls a bits.length cap w)
  have c3 := fun x (hx : isInt x) w => Lib.hid (isel_calls s.P s.Q s.G x hi.Q hx w)
  have HV : Hid (s.weighV bits = if s.canWeigh bits = true then .tuple #[.int .i64 (s.weigh bits), .bool true] else .tuple #[.int .i64 0, .bool false]) := rfl
  have HR : Hid (s.canWeigh bits = (s.valid && (lenB 1 60 bits.length && bits.all s.el))) := rfl
  have HBI := Lib.hid hbi
  have h60 : Hid (lenB 1 60 bits.length = true → bits.length ≤ 60) := by
    show lenB 1 60 bits.length = true → _
    unfold lenB; simp; omega
  obtain ⟨V, hV⟩ : ∃ v, v = s.valid := ⟨_, rfl⟩
  obtain ⟨ab, hab⟩ : ∃ v, v = lenB 1 60 bits.length := ⟨_, rfl⟩
  rw [← hV] at c1 HR
  rw [← hab] at c2 HR h60
  unfold SetD.val at *
  unfold SetD.cells at hS hb c1
  clear hV hab hE hb0 hbi
  go_enter Tryz.func13, Tryz.ntmps13
  obtain ⟨z0, z1, z2, z3, z4⟩ := hS.get
  go_wp2_with fail
  generalize (w.alloc (.cells #[.int .i64 s.P, .int .i64 s.Q, .int .i64 s.G, vb, .int .i64 s.H] 34)) = W0 at *
  have hS0 : SetAt s vb w.heap.size W0 := hS
  refine Calls.mono c1.out ?_
  clear c1 hS z0 z1 z2 z3 z4
  rintro e w1 ⟨rfl, hb1⟩
  have hS1 := hS0.next hb1
  have hbb := hb.trans (hb1.mono hb.size)
  clear hS0 hb hb1
  cases V
  · have HF : Hid (s.weighV bits = .tuple #[.int .i64 0, .bool false]) := by show s.weighV bits = _; rw [HV.out, HR.out]; rfl
    go_wp2
    go_ret2
    exact ⟨ret_of HF.out.symm, hbb⟩
  · go_wp2_with fail
    refine Calls.mono (c2 w1).out ?_
    clear c2
    rintro e w2 ⟨rfl, rfl⟩
    cases ab
    · have HF : Hid (s.weighV bits = .tuple #[.int .i64 0, .bool false]) := by show s.weighV bits = _; rw [HV.out, HR.out]; rfl
      go_wp2
      go_ret2
      exact ⟨ret_of HF.out.symm, hbb⟩
    · have hn60 := h60.out rfl
      have HA : Hid (bits.all s.el = s.canWeigh bits) := by show _ = s.canWeigh bits; rw [HR.out]; rfl
      clear HR h60
      go_wp2
      go_loopw [6, 19] (fun r i wr => ∃ (k : Nat) (R : Int), k ≤ bits.length ∧ i = .int .i64 (k : Int) ∧ r = .int .i64 R ∧ isInt R ∧ (bits.drop k).all s.el = s.canWeigh bits ∧ s.wF k R (bits.drop k) = s.weigh bits ∧ SetAt s vb w.heap.size wr ∧ Below w.heap.size w wr) (fun _ i _ => bits.length - (intOf i).toNat)
      case atStart => exact ⟨0, 1, Nat.zero_le _, rfl, rfl, by unfold isInt; omega, HA.out, rfl, hS1, hbb⟩
      case round =>
        clear hS1 hbb HA
        obtain ⟨k, R, hk, rfl, rfl, hR, hal, hwf, hSr, hbr⟩ := hrel
        by_cases hlt : k < bits.length
        · obtain ⟨bk, off, rfl, _, x, hx, y0⟩ := (hv.next hbr).at k hlt
          have hxi := HBI.out _ (List.getElem_mem hlt)
          have HA := Lib.hid ((all_drop s.el bits k hlt).symm.trans hal)
          have HW := Lib.hid ((s.wF_drop k R bits hlt).symm.trans hwf)
          rw [← hx] at hxi HA HW
          clear hx hal hwf
          have c4 := c3 x hxi wr
          have HX : Hid (s.el x = subB s.P s.Q x) := rfl
          obtain ⟨bx, hbx⟩ : ∃ v, v = subB s.P s.Q x := ⟨_, rfl⟩
          rw [HX.out] at HA
          rw [← hbx] at HA c4
          have hkl : (k : Int) < (bits.length : Int) := by omega
          obtain ⟨z0, z1, z2, z3, z4⟩ := hSr.get
          have HS := Lib.hid hSr
          have HB := Lib.hid hbr
          have hTi : isInt ((2 : Int) ^ k) := by have := two_pow_le k (by omega); unfold isInt; omega
          have hw1 := two_pow_wrap k (by omega)
          obtain ⟨T, hT⟩ : ∃ T, T = (2 : Int) ^ k := ⟨_, rfl⟩
          have HT := Lib.hid hT
          rw [← hT] at hTi HW
          have e1 : IntKind.i64.wrap ((2 : Int) ^ k) = T := by rw [hT]; exact hw1
          have E1 := Lib.hid e1
          have hXi := gPow_int s.P s.Q x T
          have hYi := gTimes_int s.P s.Q R (gPow s.P s.Q x T)
          have k1 := fun w0 => Lib.hid (DoesB.mk (w0 := w0) (v := .int .i64 (gPow s.P s.Q x T)) rfl (fun w _ => power_calls s.P s.Q s.G x T hxi hTi w))
          have k2 := fun w0 => Lib.hid (DoesB.mk (w0 := w0) (v := .int .i64 (gTimes s.P s.Q R (gPow s.P s.Q x T))) rfl (fun w _ => times_calls s.P s.Q s.G R _ hR hXi w))
          have HW2 : Hid (s.wF (k + 1) (gTimes s.P s.Q R (gPow s.P s.Q x T)) (bits.drop (k + 1)) = s.weigh bits) := HW
          generalize gTimes s.P s.Q R (gPow s.P s.Q x T) = Y at *
          generalize gPow s.P s.Q x T = X at *
          clear hbx c3 hSr hbr hR hxi hTi hw1 hT e1 HX hXi HW
          go_wp2_with fail
          refine Calls.mono c4.out ?_
          clear c4 z0 z1 z2 z3 z4
          rintro e w3 ⟨rfl, hb3⟩
          have hS3 := HS.out.next hb3
          have hB3 := HB.out.trans (hb3.mono HB.out.size)
          cases bx
          · have HF : Hid (s.weighV bits = .tuple #[.int .i64 0, .bool false]) := by show s.weighV bits = _; rw [HV.out, ← HA.out]; rfl
            go_wp2
            go_ret2
            exact ⟨ret_of HF.out.symm, hB3⟩
          · have HA2 : Hid ((bits.drop (k + 1)).all s.el = s.canWeigh bits) := by show _ = s.canWeigh bits; rw [← HA.out]; rfl
            have HK : Hid (∀ w', Below w3.heap.size w3 w' → w'.cell? ⟨w.heap.size, 0, none⟩ = some (.int .i64 s.P) ∧ w'.cell? ⟨w.heap.size, 1, none⟩ = some (.int .i64 s.Q) ∧ w'.cell? ⟨w.heap.size, 2, none⟩ = some (.int .i64 s.G) ∧ Below w3.heap.size w3 w') := by
              show ∀ w', Below w3.heap.size w3 w' → _
              intro w' h
              obtain ⟨z0, z1, z2, _, z4⟩ := (hS3.next h).get
              exact ⟨z0, z1, z2, h⟩
            have HS3 := Lib.hid hS3
            have HB3 := Lib.hid hB3
            have j1 := k1 w3
            have j2 := k2 w3
            have hk0 : (0 : Int) ≤ (k : Int) := Int.natCast_nonneg _
            have hk64 : (k : Int) ≤ 64 := by omega
            have e1 := E1.out
            clear HA hS3 hB3 k1 k2 HS HB hb3
            go_wp2
            go_region_held3 (fun w' => w'.cell? ⟨w.heap.size, 0, none⟩ = some (.int .i64 s.P) ∧ w'.cell? ⟨w.heap.size, 1, none⟩ = some (.int .i64 s.Q) ∧ w'.cell? ⟨w.heap.size, 2, none⟩ = some (.int .i64 s.G) ∧ Below w3.heap.size w3 w')
              (first | exact HK.out _ (by assumption) | exact HK.out _ (below_drewN (Below.refl _ _) 1) | exact HK.out _ (Below.refl _ _))
              (first
                | (go_at_call 42; refine Calls.mono (j1.out _ _ (by with_reducible rfl) (by first | assumption | exact below_drewN (Below.refl _ _) 1)) ?_; rintro e w4 ⟨rfl, hb4⟩)
                | (go_at_call 41; refine Calls.mono (j2.out _ _ (by with_reducible rfl) (by first | assumption | exact below_drewN (Below.refl _ _) 1)) ?_; rintro e w4 ⟨rfl, hb4⟩))
            all_goals
              clear e1
              go_wp2
              go_roundw
              case rel => exact ⟨k + 1, Y, by omega, by go_num, rfl, hYi, HA2.out, HW2.out, HS3.out.next hb4, HB3.out.trans (hb4.mono HB3.out.size)⟩
              case measure => simp [intOf]; omega
        · obtain rfl : k = bits.length := by omega
          have HF : Hid (s.weighV bits = .tuple #[.int .i64 R, .bool true]) := by
            show s.weighV bits = _
            have e1 : s.canWeigh bits = true := by rw [← hal, List.drop_length]; rfl
            have e2 : s.weigh bits = R := by rw [← hwf, List.drop_length]; rfl
            rw [HV.out, if_pos e1, e2]
          clear hal hwf
          go_wp2
          go_ret2
          exact ⟨ret_of HF.out.symm, hbr⟩
end Go.Proofs.YthnkfjjgccabeaaGreatDoor
