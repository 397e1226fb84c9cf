/- The reference's disk: add, survive. -/
import Derived.Test.YtbljfdjhgleafaaRadd
import Derived.StillTailTactics
namespace Go.Proofs.Ytbljfdjhgleafaa
open Go.RowKit

variable {w w' : World} {b : Nat} {L : RL} {r r' : Rk} {S : Nat → Prop}

theorem bs_cut (l : List UInt8) (i j : Nat) : (bs l).extract i j = bs ((l.drop i).take (j - i)) := by
  unfold bs
  refine ByteArray.ext ?_
  rw [ByteArray.data_extract]
  refine Array.ext' ?_
  rw [Array.toList_extract]

theorem PostR.refl {T : Nat → Prop} (h : IsR w b L r) : PostR T w b L r w := ⟨L, h, Kept.refl _ _, fun _ hi => Or.inl hi⟩

theorem PostR.of_below {T : Nat → Prop} (h : IsR w b L r) (hb : Below w.heap.size w w') : PostR T w b L r w' :=
  ⟨L, h.kept (Below.kept hb) (fun i hi => Nat.not_le.2 (h.foot_lt i hi)), (Below.kept hb).mono (fun _ hi => Or.inr hi), fun _ hi => Or.inl hi⟩

theorem PostR.andThen {T : Nat → Prop} {r2 : Rk} {w1 w2 : World} {L1 : RL} (hk : Kept T w w1) (ho : ∀ i, RFoot b L1 i → RFoot b L i ∨ w.heap.size ≤ i) {T2 : Nat → Prop} (h2 : PostR T2 w1 b L1 r2 w2) (hT : ∀ i, T2 i → T i ∨ w.heap.size ≤ i) : PostR T w b L r2 w2 := by
  obtain ⟨L2, hi, hk2, ho2⟩ := h2
  refine ⟨L2, hi, hk.andThen hk2 hT, fun i hi2 => ?_⟩
  rcases ho2 i hi2 with h3 | h3
  · exact ho i h3
  · exact Or.inr (Nat.le_trans hk.size h3)

set_option maxHeartbeats 4000000 in
set_option maxRecDepth 100000 in
theorem rsurvive_calls (h : IsR w b L r) (hn : r.fs.length ≤ 1000000) (f k : Nat) (hk : k ≤ 262144) (hl2 : (getF r.fs f).last.length ≤ 16777216) :
    Calls Try.prog 54 #[.pointer (some ⟨b, 0, none⟩), .agg #[.int .i64 f, .int .i64 k]] w fun e w' => e = .returned (.tuple #[]) ∧ PostR (fun i => i = b) w b L { r with fs := survF r.fs (f, k) } w' := by
  have hba : ∀ o, Below w.heap.size w (w.alloc o) := fun o => (Below.refl _ _).alloc (Nat.le_refl _) _
  have hA : ∀ o, IsR (w.alloc o) b L r := fun o => h.kept ((Kept.refl (fun _ => False) w).alloc o) (fun i _ e => e)
  have cg := fun o => Lib.hid (rget_calls (hA o) hn f)
  obtain ⟨G, hG⟩ : ∃ G, G = getF r.fs f := ⟨_, rfl⟩
  have hs : survF r.fs (f, k) = setF r.fs ⟨G.n, G.now, if 64 * k < G.now.length then putL G.last (64 * k) (sectorL G.now k) else G.last⟩ := by
    unfold survF
    rw [hG, getF_n]
  rw [← hG] at cg hl2
  have HS := Lib.hid hs
  have HA := Lib.hid hA
  have HL := h.foot_lt
  have HFL := Lib.hid HL
  have HW := Lib.hid h
  have HBA := Lib.hid hba
  have hlb := bs_size G.now
  clear h hG hs hA HL hba
  go_enter Try.func54, Try.ntmps54
  go_wp2_with fail
  refine Calls.mono (cg _).out ?_
  rintro e w1 ⟨rfl, hb1⟩
  obtain ⟨wa, hwa⟩ : ∃ wa, wa = w.alloc (.cells #[.int .i64 (f : Int), .int .i64 (k : Int)] 81) := ⟨_, rfl⟩
  have hza : wa.heap.size = w.heap.size + 1 := by rw [hwa]; simp
  have hxa : wa.heap[w.heap.size]? = some (.cells #[.int .i64 (f : Int), .int .i64 (k : Int)] 81 (0, 0)) := by rw [hwa]; exact (MapKept.heap_alloc w _).1
  have hb0 : Below w.heap.size w wa := by rw [hwa]; exact HBA.out _
  rw [← hwa] at hb1
  have hx1 : w1.heap[w.heap.size]? = some (.cells #[.int .i64 (f : Int), .int .i64 (k : Int)] 81 (0, 0)) := (hb1.block _ (by omega)).trans hxa
  have x0 : w1.cell? ⟨w.heap.size, 0, none⟩ = some (.int .i64 (f : Int)) := by rw [cell_of_row w1 _ _ _ _ _ hx1]; rfl
  have x1 : w1.cell? ⟨w.heap.size, 1, none⟩ = some (.int .i64 (k : Int)) := by rw [cell_of_row w1 _ _ _ _ _ hx1]; rfl
  have hz1 := hb1.size
  have HX1 := Lib.hid hx1
  have HB1 : Hid (Below w.heap.size w w1) := hb0.trans (hb1.mono (by omega))
  have e1 : (64 : Int) * (k : Int) = ((64 * k : Nat) : Int) := by omega
  obtain ⟨p, hp⟩ : ∃ p, p = 64 * k := ⟨_, rfl⟩
  rw [← hp] at e1 HS
  have hp2 : p ≤ 16777216 := by omega
  have hsz : w.heap.size < w1.heap.size := by omega
  have HP := Lib.hid hp
  clear hp hza hz1 hwa hxa hb0 hb1 hx1 cg HBA
  have hW2 : IsR (w1.alloc (.cells #[.int .i64 G.n, .string (bs G.now), .string (bs G.last)] 65)) b L r := (HW.out.kept (Below.kept HB1.out) (fun i hi => Nat.not_le.2 (HFL.out i hi))).kept ((Kept.refl (fun _ => False) w1).alloc _) (fun _ _ e => e)
  have hk2 : Kept (fun i => i = b) w (w1.alloc (.cells #[.int .i64 G.n, .string (bs G.now), .string (bs G.last)] 65)) := ((Below.kept HB1.out).mono (fun _ hi => Or.inr hi)).alloc _
  have HW2 := Lib.hid hW2
  have HK2 := Lib.hid hk2
  clear hW2 hk2
  by_cases hlt : p < G.now.length
  · have d1 : (p : Int) < (G.now.length : Int) := by omega
    obtain ⟨mn, hmn⟩ : ∃ mn, mn = min (p + 64) G.now.length := ⟨_, rfl⟩
    have e2 : min ((p : Int) + 64) (G.now.length : Int) = (mn : Int) := by omega
    have e3 : IntKind.i64.wrap (p : Int) = (p : Int) := IntWalk.i64_in _ (by omega)
    have e4 : IntKind.i64.wrap ((p : Int) + 64) = (p : Int) + 64 := IntWalk.i64_in _ (by omega)
    have hpm : p ≤ mn := by omega
    have hml : mn ≤ G.now.length := by omega
    obtain ⟨Z, hZ⟩ : ∃ Z, Z = sectorL G.now k := ⟨_, rfl⟩
    have hext : (bs G.now).extract p mn = bs Z := by
      have h1 : (G.now.drop p).take (mn - p) = Z := by
        rw [hZ, sectorL, ← HP.out, List.take_eq_take_iff, List.length_drop]
        omega
      rw [← h1]
      exact bs_cut _ _ _
    have hZl : Z.length ≤ 64 := by rw [hZ]; simp [sectorL]; omega
    rw [← hZ, if_pos hlt] at HS
    have HMN := Lib.hid hmn
    have cp := fun w' => Lib.hid (put_calls' G.last Z p w' (by omega) (by omega) (by omega))
    clear hZ hmn hlt
    obtain ⟨c, hc⟩ : ∃ c, c = w1.heap.size := ⟨_, rfl⟩
    obtain ⟨W, hW⟩ : ∃ W, W = w1.alloc (.cells #[.int .i64 G.n, .string (bs G.now), .string (bs G.last)] 65) := ⟨_, rfl⟩
    have hWb : W.heap[c]? = some (.cells #[.int .i64 G.n, .string (bs G.now), .string (bs G.last)] 65 (0, 0)) := by rw [hW, hc]; exact (MapKept.heap_alloc w1 _).1
    have hWx : W.heap[w.heap.size]? = some (.cells #[.int .i64 (f : Int), .int .i64 (k : Int)] 81 (0, 0)) := by rw [hW, Below.heap_alloc _ _ _ hsz]; exact HX1.out
    have y0 : W.cell? ⟨w.heap.size, 0, none⟩ = some (.int .i64 (f : Int)) := by rw [cell_of_row W _ _ _ _ _ hWx]; rfl
    have y1 : W.cell? ⟨w.heap.size, 1, none⟩ = some (.int .i64 (k : Int)) := by rw [cell_of_row W _ _ _ _ _ hWx]; rfl
    have z1 : W.cell? ⟨c, 1, none⟩ = some (.string (bs G.now)) := by rw [cell_of_row W _ _ _ _ _ hWb]; rfl
    have z2 : W.cell? ⟨c, 2, none⟩ = some (.string (bs G.last)) := by rw [cell_of_row W _ _ _ _ _ hWb]; rfl
    have hWz : c < W.heap.size := (Array.getElem?_eq_some_iff.1 hWb).1
    have hcw : w.heap.size < c := by rw [hc]; exact hsz
    rw [← hW] at HW2 HK2
    have HWB := Lib.hid hWb
    clear hWb hWx HX1
    go_wp2_with fail
    rw [← hW, ← hc]
    clear hW hc HB1 hsz x0 x1
    go_still_tail 19, (by kernel_rfl)
    change wpList _ _ _ _ _ W.drew
    have hz0 : W.drew.heap.size = W.heap.size := rfl
    have hdw : Kept (fun i => i = b) w W.drew := HK2.out.drew
    have hID : IsR W.drew b L r := HW2.out.kept ((Kept.refl (fun _ => False) W).drew) (fun _ _ e => e)
    have hDB : W.drew.heap[c]? = some (.cells #[.int .i64 G.n, .string (bs G.now), .string (bs G.last)] 65 (0, 0)) := HWB.out
    generalize W.drew = V at *
    rw [← hz0] at hWz
    have HID := Lib.hid hID
    have HDW := Lib.hid hdw
    have HDB := Lib.hid hDB
    have hVz : w.heap.size ≤ V.heap.size := hdw.size
    clear hz0 hdw hID hDB y0 y1 z1 z2 HW2 HK2 HWB
    go_wp2_with fail
    refine Calls.mono (cp _).out ?_
    rintro e w3 ⟨rfl, hb3⟩
    have hD3 : w3.heap[c]? = some (.cells #[.int .i64 G.n, .string (bs G.now), .string (bs G.last)] 65 (0, 0)) := (hb3.block _ hWz).trans HDB.out
    have z0 : w3.cell? ⟨c, 0, none⟩ = some (.int .i64 G.n) := by rw [cell_of_row w3 _ _ _ _ _ hD3]; rfl
    have z1 : w3.cell? ⟨c, 1, none⟩ = some (.string (bs G.now)) := by rw [cell_of_row w3 _ _ _ _ _ hD3]; rfl
    have z2 : w3.cell? ⟨c, 2, none⟩ = some (.string (bs G.last)) := by rw [cell_of_row w3 _ _ _ _ _ hD3]; rfl
    have zf : w3.frozen? ⟨c, 2, none⟩ = false := by unfold World.frozen?; rw [hD3]; rfl
    obtain ⟨P, hP⟩ : ∃ P, P = putL G.last p Z := ⟨_, rfl⟩
    rw [← hP] at HS ⊢
    have hb4 : Below V.heap.size V w3 := hb3
    have hk4 : Kept (fun i => i = b) w (w3.setCell ⟨c, 2, none⟩ (.string (bs P))) := by
      refine (HDW.out.trans ((Below.kept hb4).mono (T := fun i => i = b) (fun _ hi => Or.inr hi))).setCell (p := ⟨c, 2, none⟩) (Or.inr ?_) _
      show w.heap.size ≤ c
      omega
    have hI4 : IsR (w3.setCell ⟨c, 2, none⟩ (.string (bs P))) b L r := by
      have h1 := HID.out.kept (Below.kept hb4) (fun i hi => Nat.not_le.2 (HID.out.foot_lt i hi))
      refine h1.kept ((Kept.refl (fun i => i = c) w3).setCell (p := ⟨c, 2, none⟩) (Or.inl rfl) _) (fun i hi e => ?_)
      have := HFL.out i hi
      omega
    have cs := Lib.hid (rset_calls hI4 hn ⟨G.n, G.now, P⟩)
    have HK4 := Lib.hid hk4
    clear hb3 hD3 hP hb4 hk4 hI4 cp HDB HDW HID
    go_wp2_with fail
    refine Calls.mono cs.out ?_
    rintro e w5 ⟨rfl, hp5⟩
    have HP5 := Lib.hid hp5
    clear hp5 cs
    go_wp2_with fail
    go_end0
    refine ⟨rfl, ?_⟩
    rw [HS.out]
    exact PostR.andThen HK4.out (fun _ hi => Or.inl hi) HP5.out (fun _ hi => Or.inl hi)
  · have d1 : ¬ (p : Int) < (G.now.length : Int) := by omega
    rw [if_neg hlt] at HS
    have cs := Lib.hid (rset_calls HW2.out hn ⟨G.n, G.now, G.last⟩)
    go_wp2_with fail
    refine Calls.mono cs.out ?_
    rintro e w3 ⟨rfl, hp3⟩
    have HP3 := Lib.hid hp3
    clear hp3
    go_wp2_with fail
    go_end0
    refine ⟨rfl, ?_⟩
    rw [HS.out]
    exact PostR.andThen HK2.out (fun _ hi => Or.inl hi) HP3.out (fun _ hi => Or.inl hi)

end Go.Proofs.Ytbljfdjhgleafaa
