/- The reference's SHA-256: the digest. -/
import Derived.Test.YtolmcaikjebdaaaDoorRSha4
import Derived.Lib.ConvBytes
import Derived.Laws.IdiomStrings
namespace Go.Proofs.YtolmcaikjebdaaaDoor
open Go.RowKit
attribute [local go_sem ↓] Go.wp_at_zero Go.wp_at_succ

theorem out_get (s : H8) : ∀ k, k < 32 → (outB s)[k]? = some (UInt8.ofNat (((h8L s).getD (k / 4) 0).toNat / 256 ^ (3 - k % 4)))
  | 0, _ => rfl | 1, _ => rfl | 2, _ => rfl | 3, _ => rfl | 4, _ => rfl | 5, _ => rfl | 6, _ => rfl | 7, _ => rfl
  | 8, _ => rfl | 9, _ => rfl | 10, _ => rfl | 11, _ => rfl | 12, _ => rfl | 13, _ => rfl | 14, _ => rfl | 15, _ => rfl
  | 16, _ => rfl | 17, _ => rfl | 18, _ => rfl | 19, _ => rfl | 20, _ => rfl | 21, _ => rfl | 22, _ => rfl | 23, _ => rfl
  | 24, _ => rfl | 25, _ => rfl | 26, _ => rfl | 27, _ => rfl | 28, _ => rfl | 29, _ => rfl | 30, _ => rfl | 31, _ => rfl
  | k + 32, h => absurd h (by omega)
theorem out_take (s : H8) (k : Nat) (h : k < 32) : (outB s).take (k + 1) = (outB s).take k ++ [UInt8.ofNat (((h8L s).getD (k / 4) 0).toNat / 256 ^ (3 - k % 4))] := by
  have hl : k < (outB s).length := by rw [outB_len]; exact h
  rw [List.take_succ_eq_append_getElem hl]
  have := out_get s k h
  rw [List.getElem?_eq_getElem hl] at this
  rw [Option.some.inj this]
theorem abs_step (s : H8) (P : List UInt8) (j : Nat) (h : 64 * j + 64 ≤ P.length) :
    absB (j + 1) s (P.take (64 * (j + 1))) = compB (absB j s (P.take (64 * j))) ((P.drop (64 * j)).take 64) := by
  have e : P.take (64 * (j + 1)) = P.take (64 * j) ++ (P.drop (64 * j)).take 64 := by
    rw [show 64 * (j + 1) = 64 * j + 64 by omega, List.take_add]
  have hl : (P.take (64 * j)).length = 64 * j := by rw [List.length_take]; omega
  rw [e, absB_append j 1 s _ _ hl, absB, absB]
  congr 1
  rw [List.take_of_length_le]
  rw [List.length_take]; omega
theorem below_bytes (w : World) (s : ByteArray) : Below w.heap.size w (Lib.bytesWorld w 5 s) :=
  ⟨by simp [Lib.bytesWorld, World.freeze, World.alloc, World.drew, -World.alloc_eq, -World.drew_eq], by simp [Lib.bytesWorld, World.freeze, World.alloc, World.drew, -World.alloc_eq, -World.drew_eq], by simp [Lib.bytesWorld, World.freeze, World.alloc, World.drew, -World.alloc_eq, -World.drew_eq], by rw [Lib.bytesWorld_size]; omega, fun k hk => Lib.bytesWorld_at_old w _ s k hk⟩
theorem OwnB.form {B : Nat} {v : Value} {l : List UInt8} {w : World} (h : OwnB B v l w) (hl : 0 < l.length) : ∃ g cap, v = .slice (some ⟨g, 0, none⟩) l.length cap ∧ l.length ≤ cap ∧ B ≤ g ∧ g < w.heap.size ∧ ∀ j c, l[j]? = some c → w.cell? ⟨g, j, none⟩ = some (.int .u8 (c.toNat : Int)) := by
  obtain ⟨g, cap, rfl⟩ := h.len hl
  have h1 := World.ownsRow.lt h g rfl
  refine ⟨g, cap, rfl, ?_, h1.1, h1.2, fun j c hc => ?_⟩
  · obtain ⟨_, ⟨h1, h2⟩ | ⟨g', cap', cur, hv, hr⟩⟩ := h
    · omega
    · simp only [Value.slice.injEq] at hv
      obtain ⟨_, _, h3⟩ := hv
      rw [h3]; exact hr.2.2.1
  · have hj := (List.getElem?_eq_some_iff.1 hc).1
    rw [World.ownsRow.cellAt h j (by omega)]
    unfold Lib.byteCells
    rw [List.getElem?_map, hc]; rfl
set_option maxRecDepth 100000 in
set_option maxHeartbeats 4000000 in
theorem rsha_calls (l : List UInt8) (hl : l.length ≤ 1000000) (w : World) :
    Calls Tryd.prog 40 #[.string (bs l)] w fun e w' => e = .returned (.string (bs (shaL l))) ∧ Below w.heap.size w w' := by
  obtain ⟨i0, hi, hz0, hz1, hz2⟩ := info_parts infoU8
  have hconv := Lib.run_convert_string_bytes (P := Tryd.prog) w 9 60 5 (bs l) Tryd.underlying9 Tryd.underlying60 Tryd.underlying5
  have hbw := below_bytes w (bs l)
  have hbs : (Lib.bytesWorld w 5 (bs l)).heap.size = w.heap.size + 1 := Lib.bytesWorld_size _ _ _
  have hcell : ∀ j u, (Lib.byteCells l)[j]? = some u → (Lib.bytesWorld w 5 (bs l)).cell? ⟨w.heap.size, j, none⟩ = some u := by
    intro j u hu
    unfold Lib.byteCells at hu
    rw [List.getElem?_map] at hu
    obtain ⟨x, hx, rfl⟩ := Option.map_eq_some_iff.1 hu
    have hj := (List.getElem?_eq_some_iff.1 hx).1
    rw [Lib.bytesWorld_cell w _ _ j (by rw [bs_size]; exact hj), bs_data, List.getD_eq_getElem?_getD, hx]; rfl
  generalize Lib.bytesWorld w 5 (bs l) = W1 at *
  generalize grownCap w (bs l).size 0 5 = C0 at *
  rw [bs_size] at hconv
  have cp := Lib.hid (rpadded_calls l w.heap.size C0 W1 hcell (by omega) hl)
  clear hcell hbs
  have HB1 := Lib.hid hbw
  clear hbw
  go_enter Tryd.func40, Tryd.ntmps40
  go_wp2_with fail
  refine cp.out.mono ?_
  rintro e w2 ⟨v2, rfl, ho2, hb2⟩
  obtain ⟨P, hP⟩ : ∃ P, P = l ++ padB l.length := ⟨_, rfl⟩
  obtain ⟨n, hn⟩ : ∃ n, n = P.length / 64 := ⟨_, rfl⟩
  have hPl : P.length = 64 * n := by have := whole_len l; rw [← hP] at this; omega
  have hPl2 : 64 ≤ P.length := by
    have h1 : P.length = l.length + (padB l.length).length := by rw [hP, List.length_append]
    have h2 := padB_len l.length
    have h3 := whole_len l
    rw [← hP] at h3
    omega
  have hPl3 : P.length ≤ 2000000 := by
    have h1 : P.length = l.length + (padB l.length).length := by rw [hP, List.length_append]
    have h2 := padB_len l.length
    omega
  have HV : Hid (shaL l = outB (absB n firstB P)) := by show shaL l = _; unfold shaL; rw [← hP, ← hn]
  rw [← hP] at ho2
  obtain ⟨gp, cp2, rfl, hcp, hgp1, hgp2, hpc⟩ := ho2.form (by omega)
  have HPC := Lib.hid hpc
  have HN := Lib.hid hPl
  have hb02 := HB1.out.trans (hb2.mono HB1.out.size)
  clear hP hn ho2 hpc cp hconv hb2 hl
  have hs02 := hb02.size
  obtain ⟨PL, hPL⟩ : ∃ PL, PL = P.length := ⟨_, rfl⟩
  rw [← hPL] at hcp hPl hPl2 hPl3 ⊢
  have HPL := Lib.hid hPL
  clear hPL HB1
  go_wp2_with fail
  refine (rfirsts_calls w2).mono ?_
  rintro e w3 ⟨rfl, hw3⟩
  obtain ⟨F0, hF0⟩ : ∃ F0, F0 = w2.heap.size := ⟨_, rfl⟩
  have hB3 : Blk w3 F0 55 (wcs (h8L firstB)).toArray := by rw [hw3, hF0]; exact Blk.new _ _ _
  have hb23 : Below w2.heap.size w2 w3 := by rw [hw3]; exact below_one _ _
  have h83 : H8At F0 firstB w3 := fun j x hx => by rw [hB3.cell]; have := wcs_get hx; simpa using this
  rw [← hF0]
  have hgp3 : gp < w3.heap.size := by have := hb23.size; omega
  have HC3 : Hid (∀ j c, P[j]? = some c → w3.cell? ⟨gp, j, none⟩ = some (.int .u8 (c.toNat : Int))) := by
    show ∀ j c, P[j]? = some c → w3.cell? ⟨gp, j, none⟩ = some (.int .u8 (c.toNat : Int))
    intro j c hc
    rw [hb23.cell (p := ⟨gp, j, none⟩) hgp2]; exact HPC.out j c hc
  have hb03 := hb02.trans (hb23.mono hb02.size)
  clear hw3 hF0 hB3 hb23 HPC hb02 hgp2 hgp1
  go_wp2_with fail
  go_loopw [4, 5] (fun h i wr => ∃ (j : Nat) (I : Nat) (g cp : Nat), j ≤ n ∧ I = 64 * j ∧ i = .int .i64 (I : Int) ∧ h = .slice (some ⟨g, 0, none⟩) 8 cp ∧ H8At g (absB j firstB (P.take (64 * j))) wr ∧ Below w3.heap.size w3 wr) (fun _ i _ => PL - (intOf i).toNat)
  case atStart => exact ⟨0, 0, F0, 8, by omega, rfl, rfl, rfl, h83, Below.refl _ _⟩
  case round =>
    clear h83
    obtain ⟨j, I, g, cp, hj, hI, rfl, rfl, hv, hb⟩ := hrel
    by_cases hjn : j < n
    · have hI64 : I + 64 ≤ PL := by omega
      have hab := abs_step firstB P j (by have := HPL.out; omega)
      have hsrc : ∀ i c, ((P.drop (64 * j)).take 64)[i]? = some c → wr.cell? ⟨gp, I + i, none⟩ = some (.int .u8 (c.toNat : Int)) := by
        intro i c hc
        rw [List.getElem?_take] at hc
        split at hc
        · rw [List.getElem?_drop] at hc
          rw [hb.cell (p := ⟨gp, I + i, none⟩) hgp3, hI]
          exact HC3.out _ _ hc
        · cases hc
      have hbl : ((P.drop (64 * j)).take 64).length = 64 := by
        have := HPL.out
        rw [List.length_take, List.length_drop]; omega
      generalize (P.drop (64 * j)).take 64 = bl at *
      generalize absB j firstB (P.take (64 * j)) = S at *
      have HAB := Lib.hid hab
      have hgw : gp < wr.heap.size := by have := hb.size; omega
      have cb := fun cap => Lib.hid (rblock_calls S bl g cp gp I cap wr hv hsrc hgw hbl)
      have HI := Lib.hid hI
      clear hab hsrc hbl hv hI
      go_wp2_with fail
      refine Calls.mono (cb (cp2 - I)).out ?_
      rintro e w4 ⟨g4, cp4, rfl, hv4, hb4⟩
      have hb34 := hb.trans (hb4.mono hb.size)
      clear cb hb hb4
      go_wp2
      go_roundw
      case rel => exact ⟨j + 1, I + 64, g4, cp4, by omega, by have := HI.out; omega, by go_num, rfl, by rw [HAB.out]; exact hv4, hb34⟩
      case measure => simp [intOf]; omega
    · obtain rfl : j = n := by omega
      have HS : Hid (shaL l = outB (absB j firstB (P.take (64 * j)))) := by
        show shaL l = _
        rw [HV.out, List.take_of_length_le (by have := HN.out; omega)]
      generalize absB j firstB (P.take (64 * j)) = S at *
      have hb0r := hb03.trans (hb.mono hb03.size)
      have hsw := hb0r.size
      have hgl := h8_lt S hv
      obtain ⟨we, hwe⟩ : ∃ we, we = wr.alloc (.cells #[] 5) := ⟨_, rfl⟩
      have ho0 : OwnB wr.heap.size (.slice (some ⟨wr.heap.size, 0, none⟩) 0 0) [] we := by
        rw [hwe]; exact World.ownsRow_lit wr #[] 0 (Nat.le_refl _) (by simp [maxLen]) rfl
      have hbe : Below wr.heap.size wr we := by rw [hwe]; exact below_one _ _
      have HHV := Lib.hid hv
      have hnl : ¬ I < 64 * j := by omega
      clear HV HN HC3 hb03 hb hv hjn hI
      go_wp2_with fail
      rw [← hwe]
      clear hwe
      generalize wr = wA at *
      go_loopw [6, 7] (fun v i wr' => ∃ k : Nat, k ≤ 32 ∧ i = .int .i64 (k : Int) ∧ (∃ g c, v = .slice (some ⟨g, 0, none⟩) k c) ∧ OwnB wA.heap.size v ((outB S).take k) wr' ∧ Below wA.heap.size wA wr') (fun _ i _ => 32 - (intOf i).toNat)
      case atStart => exact ⟨0, by omega, rfl, ⟨_, _, rfl⟩, ho0, hbe⟩
      case round =>
        clear ho0 hbe
        obtain ⟨k, hk, rfl, ⟨go, co, rfl⟩, ho, hb⟩ := hrel
        have htl : ((outB S).take k).length = k := by rw [List.length_take, outB_len]; omega
        by_cases hk32 : k < 32
        · have htk := out_take S k hk32
          obtain ⟨Q, hQ⟩ : ∃ Q, Q = k / 4 := ⟨_, rfl⟩
          obtain ⟨m, hm⟩ : ∃ m, m = 3 - k % 4 := ⟨_, rfl⟩
          obtain ⟨R, hR⟩ : ∃ R, R = k % 4 := ⟨_, rfl⟩
          obtain ⟨K2, hK2⟩ : ∃ K2, K2 = 8 * m := ⟨_, rfl⟩
          rw [← hQ, ← hm] at htk
          have hQ8 : Q < 8 := by omega
          have hx : (h8L S)[Q]? = some ((h8L S).getD Q 0) := by rw [List.getD_eq_getElem?_getD, List.getElem?_eq_getElem (show Q < (h8L S).length from hQ8)]; rfl
          have hcell : wr.cell? ⟨g, Q, none⟩ = some (.int .u32 (uv ((h8L S).getD Q 0))) := by
            rw [hb.cell (p := ⟨g, Q, none⟩) hgl]; exact HHV.out Q _ hx
          generalize (h8L S).getD Q 0 = x at *
          have hbyte : IntKind.u8.wrap (uv x / 2 ^ K2) = ((UInt8.ofNat (x.toNat / 256 ^ m)).toNat : Int) := by rw [hK2]; exact big_byte x.toNat m
          obtain ⟨D, hD⟩ : ∃ D : Int, D = uv x / 2 ^ K2 := ⟨_, rfl⟩
          have hD2 := hD.symm
          rw [← hD] at hbyte
          obtain ⟨T, hT⟩ : ∃ T, T = (outB S).take k := ⟨_, rfl⟩
          rw [← hT] at ho htl htk
          generalize UInt8.ofNat (x.toNat / 256 ^ m) = c at *
          have e1 : (k : Int) / 4 = (Q : Int) := by omega
          have e2 : (k : Int) % 4 = (R : Int) := by omega
          have e3 : (24 : Int) - 8 * (R : Int) = (K2 : Int) := by omega
          have hR4 : R < 4 := by omega
          have hK24 : K2 ≤ 24 := by omega
          have HTK := Lib.hid htk
          have HT := Lib.hid hT
          have HTL := Lib.hid htl
          have HO : Hid (wr.ownsRow wA.heap.size 5 1 (.slice (some ⟨go, 0, none⟩) k co) k (Lib.byteCells T)) := by
            show wr.ownsRow wA.heap.size 5 1 (.slice (some ⟨go, 0, none⟩) k co) k (Lib.byteCells T)
            have h := ho
            unfold OwnB at h
            rw [htl] at h
            exact h
          have hbs := hb.size
          have hba := hb.trans ((below_one wr (.cells #[.int .u8 (c.toNat : Int)] 5)).mono hbs)
          clear hQ hm hR hK2 hD htk hT htl ho hx
          go_wp2_with (at_builtin; refine wpList_append_own _ rfl _ _ 60 rfl wA.heap.size 5 i0 (.int .u8 0) 1 1 Tryd.underlying60 hi hz0 hz1 hz2 rfl (by decide) _ _ _ rfl (World.ownsRow.alloc HO.out _) ⟨wr.heap.size, 0, none⟩ 1 1 [.int .u8 (c.toNat : Int)] rfl rfl ?c1 ?c2 ?c3 ?c4 ?c5 ?_)
          case c1 =>
            intro j u hj
            match j, hj with
            | 0, hj => simp at hj; subst hj; simp [Addr.add]
          case c2 => intro u hu; simp at hu; subst hu; rfl
          case c3 => unfold maxLen; omega
          case c4 => omega
          case c5 => simp; omega
          intro v3 w3' hown3 hgrow3 _
          have hb3 := below_grown hba (Nat.le_refl _) (World.ownsRow.alloc HO.out _) hgrow3
          have ho3 : OwnB wA.heap.size v3 ((outB S).take (k + 1)) w3' := by
            rw [HTK.out]
            refine OwnB.app ?_
            rw [HTL.out]; exact hown3
          obtain ⟨g3, cp3, hv3⟩ := ho3.len (by rw [List.length_take, outB_len]; omega)
          rw [show ((outB S).take (k + 1)).length = k + 1 by rw [List.length_take, outB_len]; omega] at hv3
          clear hown3 hgrow3 hba HO hb
          go_wp2
          go_roundw
          case rel => exact ⟨k + 1, by omega, by go_num, ⟨g3, cp3, hv3⟩, ho3, hb3⟩
          case measure => simp [intOf]; omega
        · have hk' : k = 32 := by omega
          rw [hk'] at ho hk32 ⊢
          have hof : (outB S).take 32 = outB S := List.take_of_length_le (by rw [outB_len]; omega)
          rw [hof] at ho
          have hc32 : ∀ j (hj : j < (outB S).length), wr.cell? ((⟨go, 0, none⟩ : Addr).add j) = some (.int .u8 ((outB S)[j].toNat : Int)) := by
            intro j hj
            have h1 := World.ownsRow.cellAt (show wr.ownsRow wA.heap.size 5 1 (.slice (some ⟨go, 0, none⟩) 32 co) 32 (Lib.byteCells (outB S)) by have h := ho; unfold OwnB at h; rw [outB_len] at h; exact h) j (by rw [outB_len] at hj; omega)
            have e : (⟨go, 0, none⟩ : Addr).add j = ⟨go, j, none⟩ := by
              by_cases hj0 : j = 0 <;> simp [Addr.add, hj0]
            rw [e, h1]
            unfold Lib.byteCells
            rw [List.getElem?_map, List.getElem?_eq_getElem hj]; rfl
          have hback := run_convert_bytes_back (P := Tryd.prog) wr 60 9 5 ⟨go, 0, none⟩ co (outB S) Tryd.underlying60 Tryd.underlying5 Tryd.underlying9 hc32
          rw [outB_len] at hback
          have hbk2 : (⟨(outB S).toArray⟩ : ByteArray) = bs (shaL l) := by rw [HS.out]; rfl
          rw [hbk2] at hback
          have hbf := hb0r.trans (hb.mono hsw)
          have c32 : ((32 : Nat) : Int) = 32 := rfl
          rw [c32]
          clear hc32 hof ho HS HHV hb hk' c32
          go_wp2
          go_ret
          exact ⟨rfl, hbf⟩
end Go.Proofs.YtolmcaikjebdaaaDoor
