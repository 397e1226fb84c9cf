/- The reference's SHA-256: padding. -/
import Derived.Test.YtolmcaikjebdaaaDoorRSha
import Derived.Test.YtolmcaikjebdaaaDoorGrp
namespace Go.Proofs.YtolmcaikjebdaaaDoor
open Go.RowKit

theorem infoU8 : (Tryd.prog.info? 5).map (fun i => (i.zero, i.size, i.bytes)) = some (some (.int .u8 0), 1, 1) := by kernel_rfl
theorem infoU32 : (Tryd.prog.info? 55).map (fun i => (i.zero, i.size, i.bytes)) = some (some (.int .u32 0), 1, 4) := by kernel_rfl
theorem below_grown {B : Nat} {w0 w1 w2 : World} {v : Value} {e : TypeId} {size n : Nat} {xs : List Value} (hb : Below B w0 w1) (hB : B ≤ w0.heap.size) (ho : w1.ownsRow B e size v n xs) (hg : w1.grownBy w2 v.ownBlock) : Below B w0 w2 :=
  ⟨hg.os.trans hb.os, hg.tape.trans hb.tape, hg.output.trans hb.output, Nat.le_trans hb.size hg.size, fun i hi => (hg.block i (by have := hb.size; omega) (fun h => by have := (ho.lt i h.symm).1; omega)).trans (hb.block i hi)⟩
/-- A slice of bytes of one's own. -/
def OwnB (B : Nat) (v : Value) (l : List UInt8) (w : World) : Prop := w.ownsRow B 5 1 v l.length (Lib.byteCells l)
theorem OwnB.app {B : Nat} {v : Value} {l m : List UInt8} {w : World} (h : w.ownsRow B 5 1 v (l.length + m.length) (Lib.byteCells l ++ Lib.byteCells m)) : OwnB B v (l ++ m) w := by
  unfold OwnB; rw [List.length_append, ← byteCells_append]; exact h
/-- How long a slice is. -/
def lenOf : Value → Nat
  | .slice _ n _ => n
  | _ => 0
theorem OwnB.len {B : Nat} {v : Value} {l : List UInt8} {w : World} (h : OwnB B v l w) (hl : 0 < l.length) : ∃ g cap, v = .slice (some ⟨g, 0, none⟩) l.length cap := by
  obtain ⟨_, ⟨h1, h2⟩ | ⟨g, cap, cur, hv, _⟩⟩ := h
  · omega
  · exact ⟨g, cap, hv⟩
theorem byte_one (c : UInt8) : Lib.byteCells [c] = [.int .u8 (c.toNat : Int)] := rfl
set_option maxRecDepth 100000 in
set_option maxHeartbeats 2000000 in
theorem rpadded_calls (l : List UInt8) (bk cap : Nat) (w : World) (hsrc : ∀ j u, (Lib.byteCells l)[j]? = some u → w.cell? ⟨bk, j, none⟩ = some u) (hlt : bk < w.heap.size) (hl : l.length ≤ 1000000) :
    Calls Tryd.prog 62 #[.slice (some ⟨bk, 0, none⟩) l.length cap] w fun e w' => ∃ v, e = .returned v ∧ OwnB w.heap.size v (l ++ padB l.length) w' ∧ Below w.heap.size w w' := by
  obtain ⟨i0, hi, hz0, hz1, hz2⟩ := info_parts infoU8
  have h0 : (w.alloc (.cells #[] 5)).ownsRow w.heap.size 5 1 (.slice (some ⟨w.heap.size, 0, none⟩) 0 0) 0 [] := World.ownsRow_lit w #[] 0 (Nat.le_refl _) (by simp [maxLen]) rfl
  have hnl : (Lib.byteCells l).length = l.length * 1 := by rw [byteCells_length, Nat.mul_one]
  have hone : ∀ u ∈ Lib.byteCells l, u.oneCell' = true := by
    intro u hu
    unfold Lib.byteCells at hu
    obtain ⟨x, _, rfl⟩ := List.mem_map.1 hu
    rfl
  have hb0 : Below w.heap.size w (w.alloc (.cells #[] 5)) := (Below.refl _ _).alloc (Nat.le_refl _) _
  have hnews : ∀ j u, (Lib.byteCells l)[j]? = some u → (w.alloc (.cells #[] 5)).cell? ((⟨bk, 0, none⟩ : Addr).add j) = some u := by
    intro j u hu
    have h1 := hsrc j u hu
    have h2 : (w.alloc (.cells #[] 5)).cell? ⟨bk, j, none⟩ = some u := by
      rw [hb0.cell (p := ⟨bk, j, none⟩) hlt]; exact h1
    have e : (⟨bk, 0, none⟩ : Addr).add j = ⟨bk, j, none⟩ := by
      by_cases hj : j = 0 <;> simp [Addr.add, hj]
    rw [e]; exact h2
  go_enter Tryd.func62, Tryd.ntmps62
  go_wp2_with (at_builtin; refine wpList_append_own _ rfl _ _ 60 rfl w.heap.size 5 i0 (.int .u8 0) 1 1 Tryd.underlying60 hi hz0 hz1 hz2 rfl (by decide) _ _ _ rfl h0 ⟨bk, 0, none⟩ l.length cap (Lib.byteCells l) rfl hnl hnews hone ?c3 ?c4 ?c5 ?_)
  case c3 => unfold maxLen; omega
  case c4 => omega
  case c5 => simp
  intro v1 w1 hown1 hgrow1 _
  have hb1 := below_grown hb0 (Nat.le_refl _) h0 hgrow1
  have ho1 : w1.ownsRow w.heap.size 5 1 v1 l.length (Lib.byteCells l) := by simpa using hown1
  clear h0 hown1 hgrow1 hb0 hnews hnl hone hsrc
  have hb1s := hb1.size
  have hba := hb1.trans ((below_one w1 (.cells #[.int .u8 128] 5)).mono hb1s)
  go_wp2_with (at_builtin; refine wpList_append_own _ rfl _ _ 60 rfl w.heap.size 5 i0 (.int .u8 0) 1 1 Tryd.underlying60 hi hz0 hz1 hz2 rfl (by decide) _ _ _ rfl (ho1.alloc _) ⟨w1.heap.size, 0, none⟩ 1 1 [.int .u8 128] rfl rfl ?c1 ?c2 ?c3 ?c4 ?c5 ?_)
  case c1 =>
    intro j u hj
    match j, hj with
    | 0, hj => simp at hj; subst hj; simp [Addr.add]
  case c2 => intro u hu; simp at hu; subst hu; rfl
  case c3 => unfold maxLen; omega
  case c4 => omega
  case c5 => simp; omega
  intro v2 w2 hown2 hgrow2 _
  have hb2 := below_grown hba (Nat.le_refl _) (ho1.alloc _) hgrow2
  have ho2 : OwnB w.heap.size v2 (l ++ [128]) w2 := OwnB.app hown2
  clear ho1 hown2 hgrow2 hb1 hba hb1s
  obtain ⟨N, hN⟩ : ∃ N, N = l.length := ⟨_, rfl⟩
  obtain ⟨Z, hZ⟩ : ∃ Z, Z = (55 + 64 - N % 64) % 64 := ⟨_, rfl⟩
  have HZ := Lib.hid hZ
  have hZ0 : Hid (∀ k, k ≤ Z → ((N + 1 + k) % 64 = 56 ↔ k = Z)) := by
    show ∀ k, k ≤ Z → ((N + 1 + k) % 64 = 56 ↔ k = Z)
    intro k hk; omega
  have hZl : Z < 64 := by omega
  have HN := Lib.hid hN
  have hNl : N ≤ 1000000 := by omega
  have hP : padB l.length = 128 :: (List.replicate Z 0 ++ bigE (N * 8) 8) := by unfold padB; rw [hZ, hN]
  have HP := Lib.hid hP
  clear hP hZ hN
  go_wp2_with fail
  go_loopw [3] (fun v wr => ∃ (k : Nat) (a : List UInt8), k ≤ Z ∧ a = l ++ [128] ++ List.replicate k 0 ∧ a.length = N + 1 + k ∧ OwnB w.heap.size v a wr ∧ Below w.heap.size w wr) (fun v _ => N + 1 + Z - lenOf v)
  case atStart => exact ⟨0, _, Nat.zero_le _, by simp, by have := HN.out; simp; omega, ho2, hb2⟩
  case round =>
    clear ho2 hb2
    obtain ⟨k, a, hk, hae, hal, ho, hb⟩ := hrel
    obtain ⟨g, cp, rfl⟩ := ho.len (by omega)
    have HA := Lib.hid hae
    have HAL := Lib.hid hal
    have hal2 : a.length ≤ 2000000 := by omega
    clear hae
    have hiff := hZ0.out k hk
    have hlen : (a.length : Int) = (N : Int) + 1 + k := by omega
    obtain ⟨M, hM⟩ : ∃ M, M = (N + 1 + k) % 64 := ⟨_, rfl⟩
    have g1 : (a.length : Int) % 64 = (M : Int) := by rw [hlen, hM]; omega
    rw [← hM] at hiff
    clear hlen hal
    by_cases hkz : k = Z
    · have d1 : ((M : Int) != 56) = false := by
        have := hiff.2 hkz
        rw [this]; rfl
      clear hiff hM
      have HA2 : Hid (a = l ++ [128] ++ List.replicate Z 0) := by show a = _; rw [HA.out, hkz]
      clear HA
      have hbw : w.heap.size ≤ wr.heap.size := hb.size
      obtain ⟨T, hT⟩ : ∃ T, T = N * 8 := ⟨_, rfl⟩
      have m1 : IntKind.u64.wrap (a.length : Int) = (a.length : Int) := by rw [IntKind.wrap_u64]; omega
      have m2 : IntKind.u64.wrap (l.length : Int) = (N : Int) := by rw [IntKind.wrap_u64, HN.out]; omega
      have m3 : IntKind.u64.wrap (8 * (N : Int)) = (T : Int) := by rw [IntKind.wrap_u64]; omega
      have HT := Lib.hid hT
      clear hT
      go_wp2_with fail
      clear g1 d1 m1 m2 m3 HAL
      go_loopw [3, 5] (fun v k' wr => ∃ (j : Nat) (c : List UInt8) (K : Int), j ≤ 8 ∧ K = 56 - 8 * (j : Int) ∧ k' = .int .i64 K ∧ c ++ bigE T (8 - j) = a ++ bigE T 8 ∧ c.length = a.length + j ∧ (∃ g cp, v = .slice (some ⟨g, 0, none⟩) c.length cp) ∧ OwnB w.heap.size v c wr ∧ Below w.heap.size w wr) (fun _ k' _ => (intOf k' + 8).toNat)
      case atStart => exact ⟨0, a, 56, by omega, by omega, rfl, rfl, by omega, ⟨g, cp, rfl⟩, ho, hb⟩
      case round =>
        clear ho hb hbw
        obtain ⟨j, c, K, hj, hK, rfl, hc, hcl, ⟨g, cp, rfl⟩, ho, hb⟩ := hrel
        have HC := Lib.hid hc
        have HCL := Lib.hid hcl
        have hcl2 : c.length ≤ 3000000 := by omega
        clear hc hcl
        by_cases h8 : j < 8
        · obtain ⟨m, hm⟩ : ∃ m, m = 7 - j := ⟨_, rfl⟩
          obtain ⟨K2, hK2⟩ : ∃ K2, K2 = 8 * m := ⟨_, rfl⟩
          obtain rfl : K = (K2 : Int) := by omega
          have hbyte := big_byte T m
          rw [← hK2] at hbyte
          have HE : Hid (bigE T (8 - j) = UInt8.ofNat (T / 256 ^ m) :: bigE T m) := by
            show bigE T (8 - j) = _
            rw [show 8 - j = m + 1 by omega, bigE]
          generalize UInt8.ofNat (T / 256 ^ m) = x at *
          obtain ⟨D, hD⟩ : ∃ D : Int, D = (T : Int) / 2 ^ K2 := ⟨_, rfl⟩
          have hD2 := hD.symm
          rw [← hD] at hbyte
          have hK60 : K2 ≤ 56 := by omega
          have HM := Lib.hid (And.intro hm (And.intro hK2 hK))
          have hbs := hb.size
          have hba := hb.trans ((below_one wr (.cells #[.int .u8 (x.toNat : Int)] 5)).mono hbs)
          clear hm hK2 hK hD
          go_wp2_with (at_builtin; refine wpList_append_own _ rfl _ _ 60 rfl w.heap.size 5 i0 (.int .u8 0) 1 1 Tryd.underlying60 hi hz0 hz1 hz2 rfl (by decide) _ _ _ rfl (World.ownsRow.alloc ho _) ⟨wr.heap.size, 0, none⟩ 1 1 [.int .u8 (x.toNat : Int)] rfl rfl ?c1 ?c2 ?c3 ?c4 ?c5 ?_)
          case c1 =>
            intro j u hj
            match j, hj with
            | 0, hj => simp at hj; subst hj; simp [Addr.add]
          case c2 => intro u hu; simp at hu; subst hu; rfl
          case c3 => unfold maxLen; omega
          case c4 => omega
          case c5 => simp; omega
          intro v3 w3 hown3 hgrow3 _
          have hb3 := below_grown hba (Nat.le_refl _) (World.ownsRow.alloc ho _) hgrow3
          have ho3 : OwnB w.heap.size v3 (c ++ [x]) w3 := OwnB.app hown3
          obtain ⟨g3, cp3, hv3⟩ := ho3.len (by simp)
          clear ho hb hown3 hgrow3 hba
          go_wp2
          go_roundw
          case rel =>
            have h1 := HM.out.1
            have h2 := HM.out.2.2
            refine ⟨j + 1, c ++ [x], (K2 : Int) - 8, by omega, by omega, by go_num, ?_, by have := HCL.out; simp; omega, ⟨g3, cp3, hv3⟩, ho3, hb3⟩
            rw [List.append_assoc, List.singleton_append, show 8 - (j + 1) = m by omega, ← HE.out, HC.out]
          case measure => simp [intOf]; omega
        · have HF : Hid (c = l ++ padB l.length) := by
            show c = _
            have h1 := HC.out
            rw [show 8 - j = 0 by omega, bigE, List.append_nil] at h1
            rw [h1, HA2.out, HP.out, HT.out]; simp
          have hk0 : ¬ 0 ≤ K := by omega
          have hk3 : K < 0 := by omega
          have ho4 : OwnB w.heap.size (.slice (some ⟨g, 0, none⟩) c.length cp) (l ++ padB l.length) wr := by rw [← HF.out]; exact ho
          clear hK HCL HC ho
          go_wp2
          go_ret
          exact ⟨_, rfl, ho4, hb⟩
    · have d1 : ((M : Int) != 56) = true := bne_iff_ne.2 (by have : M ≠ 56 := fun h => hkz (hiff.1 h); omega)
      clear hiff hM
      have hbs := hb.size
      have hba := hb.trans ((below_one wr (.cells #[.int .u8 0] 5)).mono hbs)
      go_wp2_with (at_builtin; refine wpList_append_own _ rfl _ _ 60 rfl w.heap.size 5 i0 (.int .u8 0) 1 1 Tryd.underlying60 hi hz0 hz1 hz2 rfl (by decide) _ _ _ rfl (World.ownsRow.alloc ho _) ⟨wr.heap.size, 0, none⟩ 1 1 [.int .u8 0] rfl rfl ?c1 ?c2 ?c3 ?c4 ?c5 ?_)
      case c1 =>
        intro j u hj
        match j, hj with
        | 0, hj => simp at hj; subst hj; simp [Addr.add]
      case c2 => intro u hu; simp at hu; subst hu; rfl
      case c3 => unfold maxLen; omega
      case c4 => omega
      case c5 => simp; omega
      intro v3 w3 hown3 hgrow3 _
      have hb3 := below_grown hba (Nat.le_refl _) (World.ownsRow.alloc ho _) hgrow3
      have ho3 : OwnB w.heap.size v3 (a ++ [0]) w3 := OwnB.app hown3
      obtain ⟨g3, cp3, rfl⟩ := ho3.len (by simp)
      have hl3 : (a ++ [0]).length = N + 1 + (k + 1) := by have := HAL.out; simp; omega
      clear ho hb hown3 hgrow3 hba
      go_wp2
      go_roundw
      case rel => exact ⟨k + 1, a ++ [0], by omega, by rw [HA.out, List.append_assoc _ (List.replicate k 0), ← List.replicate_succ'], hl3, ho3, hb3⟩
      case measure => have := HAL.out; simp [lenOf]; omega
end Go.Proofs.YtolmcaikjebdaaaDoor
