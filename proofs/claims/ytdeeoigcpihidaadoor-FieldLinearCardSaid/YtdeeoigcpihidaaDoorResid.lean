/- Matrices of residues are made. -/
import Derived.Test.YtdeeoigcpihidaaDoorLin
namespace Go.Proofs.YtdeeoigcpihidaaDoor
open Go.RowKit

theorem infoRow : (Tryd.prog.info? 23).map (fun i => (i.zero, i.size, i.bytes)) = some (some (.slice none 0 0), 1, 24) := by kernel_rfl
theorem infoInt' : (Tryd.prog.info? 3).map (fun i => (i.zero, i.size, i.bytes)) = some (some (.int .i64 0), 1, 8) := by kernel_rfl
/-- The residues of rows. -/
def resM (q : Int) (xss : List (List Int)) : Nat → Nat → Int := fun i j => ((xss.getD i []).getD j 0) % q
theorem resM_at (q : Int) (xss : List (List Int)) (i j : Nat) (hi : i < xss.length) (hj : j < xss[i].length) : resM q xss i j = xss[i][j] % q := by
  unfold resM
  simp [List.getD_eq_getElem?_getD, hi, hj]
theorem resM_all {q : Int} (hq : isMod q) (xss : List (List Int)) (n c : Nat) : allR q n c (resM q xss) := fun _ _ _ _ => res_in q _ hq
/-- The first rows of a matrix are made. -/
structure Par (q : Int) (xss : List (List Int)) (c H k : Nat) (R : Nat → Nat) (w : World) : Prop where
  hlt : H < w.heap.size
  hat : ∀ i, i < k → w.cell? ⟨H, i, none⟩ = some (.slice (some ⟨R i, 0, none⟩) c c)
  hre : ∀ i, k ≤ i → i < xss.length → w.cell? ⟨H, i, none⟩ = some (.slice none 0 0)
  hfz : ∀ i, w.frozen? ⟨H, i, none⟩ = false
  rlt : ∀ i, i < k → H < R i ∧ R i < w.heap.size
  rat : ∀ i, i < k → RowAt (R i) c (resM q xss i) w
  inj : ∀ i j, i < k → j < k → R i = R j → i = j
/-- A new row lies in the header. -/
structure Fresh (c H k : Nat) (w w2 : World) : Prop where
  size : w2.heap.size = w.heap.size + 1
  hk : w2.cell? ⟨H, k, none⟩ = some (.slice (some ⟨w.heap.size, 0, none⟩) c c)
  ho : ∀ i, i ≠ k → w2.cell? ⟨H, i, none⟩ = w.cell? ⟨H, i, none⟩
  hz : ∀ i, w2.frozen? ⟨H, i, none⟩ = w.frozen? ⟨H, i, none⟩
  row : RowAt w.heap.size c (fun _ => 0) w2
  old : ∀ b, b ≠ H → b < w.heap.size → w2.heap[b]? = w.heap[b]?
  os : w2.os = w.os
  tape : w2.tape = w.tape
  output : w2.output = w.output
theorem Fresh.mk' (c H k : Nat) (w : World) (v0 : Value) (hH : H < w.heap.size) (h0 : w.cell? ⟨H, k, none⟩ = some v0) :
    Fresh c H k w ((w.alloc (.cells (madeCells #[.int .i64 0] c) 3)).setCell ⟨H, k, none⟩ (.slice (some ⟨w.heap.size, 0, none⟩) c c)) where
  size := by simp [World.setCell]
  hk := by
    have h1 : (w.alloc (.cells (madeCells #[.int .i64 0] c) 3)).cell? ⟨H, k, none⟩ = some v0 := by
      rw [World.cell?_of_block (a := ⟨H, k, none⟩) (Below.heap_alloc w _ H hH)]; exact h0
    exact World.cell?_setCell_same _ _ _ h1
  ho := fun i hi => by
    have hne : (⟨H, k, none⟩ : Addr) ≠ ⟨H, i, none⟩ := fun e => hi (congrArg Addr.off e).symm
    rw [World.cell?_setCell_other _ _ _ _ hne, World.cell?_of_block (a := ⟨H, i, none⟩) (Below.heap_alloc w _ H hH)]
  hz := fun i => by rw [World.frozen?_setCell, World.frozen?_of_block (a := ⟨H, i, none⟩) (Below.heap_alloc w _ H hH)]
  row := by
    have h1 := World.rowIs_made w (.int .i64 0) c 3
    have h2 := h1.setOther (a := ⟨H, k, none⟩) (by show w.heap.size ≠ H; omega) (.slice (some ⟨w.heap.size, 0, none⟩) c c)
    exact ⟨h2.lt, fun j hj => h2.cell hj, fun j => h2.frozen j⟩
  old := fun b hb hl => by rw [Below.heap_setCell _ _ _ _ hb, Below.heap_alloc w _ b hl]
  os := rfl
  tape := rfl
  output := rfl
theorem Fresh.below {c H k B : Nat} {w w2 : World} (h : Fresh c H k w w2) (hB : B ≤ H) (hH : H < w.heap.size) : Below B w w2 := ⟨h.os, h.tape, h.output, by rw [h.size]; omega, fun b hb => h.old b (by omega) (by omega)⟩
theorem Par.step {q : Int} {xss : List (List Int)} {c H k : Nat} {R : Nat → Nat} {w w2 w3 : World} (h : Par q xss c H k R w) (hF : Fresh c H k w w2) (hu : Upd w.heap.size w2 w3) (hr : RowAt w.heap.size c (resM q xss k) w3) :
    Par q xss c H (k + 1) (fun i => if i = k then w.heap.size else R i) w3 where
  hlt := by have := h.hlt; rw [hu.size, hF.size]; omega
  hat := fun i hi => by
    have hl := h.hlt
    rw [World.cell?_of_block (a := ⟨H, i, none⟩) (hu.block H (by omega))]
    by_cases e : i = k
    · subst e; rw [if_pos rfl]; exact hF.hk
    · rw [if_neg e, hF.ho i e]; exact h.hat i (by omega)
  hre := fun i h1 h2 => by
    have hl := h.hlt
    rw [World.cell?_of_block (a := ⟨H, i, none⟩) (hu.block H (by omega)), hF.ho i (by omega)]
    exact h.hre i (by omega) h2
  hfz := fun i => by
    have hl := h.hlt
    rw [World.frozen?_of_block (a := ⟨H, i, none⟩) (hu.block H (by omega)), hF.hz i]; exact h.hfz i
  rlt := fun i hi => by
    have hl := h.hlt
    rw [hu.size, hF.size]
    by_cases e : i = k
    · rw [if_pos e]; omega
    · rw [if_neg e]; have := h.rlt i (by omega); omega
  rat := fun i hi => by
    by_cases e : i = k
    · subst e; rw [if_pos rfl]; exact hr
    · rw [if_neg e]
      have h1 := h.rlt i (by omega)
      exact ((h.rat i (by omega)).of (hF.old _ (by omega) h1.2) (by rw [hF.size]; omega)).upd hu (by omega)
  inj := fun i j hi hj e => by
    by_cases e1 : i = k <;> by_cases e2 : j = k
    · omega
    · rw [if_pos e1, if_neg e2] at e; have := h.rlt j (by omega); omega
    · rw [if_neg e1, if_pos e2] at e; have := h.rlt i (by omega); omega
    · rw [if_neg e1, if_neg e2] at e; exact h.inj i j (by omega) (by omega) e
set_option maxRecDepth 100000 in
set_option maxHeartbeats 2000000 in
theorem residues_calls (q : Int) (hq : isMod q) (v : Value) (xss : List (List Int)) (c : Nat) (hxc : ∀ r ∈ xss, r.length = c) (hn : xss.length ≤ 4294967296) (hc : c ≤ 4294967296) (hi : ∀ r ∈ xss, ∀ x ∈ r, isInt x) (w : World) (h : IsRows v xss w) :
    Calls Tryd.prog 28 #[.int .i64 q, v] w fun e w' => ∃ H R, e = .returned (.slice (some ⟨H, 0, none⟩) xss.length xss.length) ∧ Mat w.heap.size w'.heap.size H xss.length c R (fun _ => c) (resM q xss) w' ∧ Below w.heap.size w w' := by
  obtain ⟨a, cap, rfl⟩ := h.len
  obtain ⟨n, hn'⟩ : ∃ n, n = xss.length := ⟨_, rfl⟩
  have hmk := fun w => run_make_row' (P := Tryd.prog) 22 23 (.slice none 0 0) 24 Tryd.underlying22 infoRow rfl .i64 .i64 n (by omega) (by omega) w
  have hmk2 := fun w => run_make_row' (P := Tryd.prog) 23 3 (.int .i64 0) 8 Tryd.underlying23 infoInt' rfl .i64 .i64 c (by omega) (by omega) w
  have hP0 : Par q xss c w.heap.size 0 (fun _ => 0) (w.alloc (.cells (madeCells #[.slice none 0 0] n) 23)) := by
    have h1 := World.rowIs_made w (.slice none 0 0) n 23
    exact ⟨h1.lt, fun i hi => by omega, fun i _ hi => h1.cell (by omega), fun i => h1.frozen i, fun i hi => by omega, fun i hi => by omega, fun i j hi => by omega⟩
  have hb0 := below_one w (.cells (madeCells #[.slice none 0 0] n) 23)
  have c1 := fun x hx w => Lib.hid (residue_calls q x hq (show isInt x from hx).1 (show isInt x from hx).2 w)
  rw [← hn'] at h ⊢
  have HN := Lib.hid hn'
  clear hn'
  go_enter Tryd.func28, Tryd.ntmps28
  go_wp2
  generalize (w.alloc (.cells (madeCells #[.slice none 0 0] n) 23)) = W0 at *
  clear hmk
  obtain ⟨H, hH⟩ : ∃ H, H = w.heap.size := ⟨_, rfl⟩
  rw [← hH] at hP0
  rw [← hH]
  have HH := Lib.hid hH
  clear hH
  go_loopw [15] (fun iv wr => ∃ (k : Nat) (R : Nat → Nat), k ≤ n ∧ iv = .int .i64 (k : Int) ∧ Par q xss c H k R wr ∧ Below w.heap.size w wr) (fun iv _ => n - (intOf iv).toNat)
  case atStart => exact ⟨0, _, Nat.zero_le _, rfl, hP0, hb0⟩
  case round =>
    clear hP0 hb0
    obtain ⟨k, R, hk, rfl, hP, hb⟩ := hrel
    by_cases hlt : k < n
    · have hlt' : k < xss.length := by rw [← HN.out]; exact hlt
      have hrk : xss[k].length = c := hxc _ (List.getElem_mem hlt')
      obtain ⟨bk, off, b, cp, rfl, hbl, hcr, hir⟩ := h.at k hlt'
      have hrm := fun j hj => resM_at q xss k j hlt' hj
      have hix := hi _ (List.getElem_mem hlt')
      generalize xss[k] = row at *
      rw [hrk] at hcr hir
      have hcr2 : wr.cell? ⟨bk, off + k, none⟩ = some (.slice b c cp) := by rw [hb.cell (p := ⟨bk, off + k, none⟩) hbl]; exact hcr
      have y0 : wr.cell? ⟨H, k, none⟩ = some (.slice none 0 0) := hP.hre k (Nat.le_refl _) hlt'
      have y1 : wr.frozen? ⟨H, k, none⟩ = false := hP.hfz k
      have hFr := Fresh.mk' c H k wr _ hP.hlt y0
      have y2 : (wr.alloc (.cells (madeCells #[.int .i64 0] c) 3)).cell? ⟨H, k, none⟩ = some (.slice none 0 0) := by
        rw [World.cell?_of_block (a := ⟨H, k, none⟩) (Below.heap_alloc wr _ H hP.hlt)]; exact y0
      have y3 : (wr.alloc (.cells (madeCells #[.int .i64 0] c) 3)).frozen? ⟨H, k, none⟩ = false := by
        rw [World.frozen?_of_block (a := ⟨H, k, none⟩) (Below.heap_alloc wr _ H hP.hlt)]; exact y1
      have hkn : (k : Int) < (n : Int) := by omega
      have HP := Lib.hid hP
      have HB := Lib.hid hb
      have HI := Lib.hid hir
      clear hP hb hir y0 y1
      go_wp2
      obtain ⟨G, hG⟩ : ∃ G, G = wr.heap.size := ⟨_, rfl⟩
      rw [← hG] at hFr
      rw [← hG]
      generalize (World.setCell (World.alloc wr (.cells (madeCells #[.int .i64 0] c) 3)) ⟨H, k, none⟩ (.slice (some ⟨G, 0, none⟩) c c)) = W2 at *
      have hHG : H < G := by rw [hG]; exact HP.out.hlt
      have hwH : w.heap.size ≤ H := Nat.le_of_eq HH.out.symm
      have hFr0 : RowAt G c (fun j => if j < 0 then resM q xss k j else 0) W2 := by rw [hG]; exact hFr.row
      have hb2 : Below w.heap.size w W2 := HB.out.trans ((Fresh.below hFr (B := w.heap.size) hwH HP.out.hlt))
      have x0 : W2.cell? ⟨H, k, none⟩ = some (.slice (some ⟨G, 0, none⟩) c c) := by have := hFr.hk; rwa [← hG] at this
      have HFr := Lib.hid hFr
      have HGe := Lib.hid hG
      have HB2 := Lib.hid hb2
      clear hFr hG hb2 y2 y3 hcr2 hmk2
      go_loopw [28] (fun jv wr' => ∃ j : Nat, j ≤ c ∧ jv = .int .i64 (j : Int) ∧ RowAt G c (fun t => if t < j then resM q xss k t else 0) wr' ∧ Upd G W2 wr') (fun jv _ => c - (intOf jv).toNat)
      case atStart => exact ⟨0, Nat.zero_le _, rfl, hFr0, Upd.refl _ _⟩
      case round =>
        clear hFr0
        obtain ⟨j, hj, rfl, hR, hU⟩ := hrel
        have hb3 : Below w.heap.size w wr := HB2.out.trans (hU.below (by omega))
        by_cases hjl : j < c
        · have hjl' : j < row.length := by omega
          have hir2 : IsInts (.slice b row.length cp) row wr := by rw [hrk]; exact HI.out.next hb3
          obtain ⟨bb, ob, rfl, hbb, z0⟩ := hir2.at j hjl'
          have z1 : wr.cell? ⟨H, k, none⟩ = some (.slice (some ⟨G, 0, none⟩) c c) := by
            rw [World.cell?_of_block (a := ⟨H, k, none⟩) (hU.block H (by omega))]; exact x0
          have z2 : wr.cell? ⟨G, j, none⟩ = some (.int .i64 0) := by rw [hR.at' j hjl, if_neg (Nat.lt_irrefl j)]
          have z3 : wr.frozen? ⟨G, j, none⟩ = false := hR.fz j
          have hxi := hix _ (List.getElem_mem hjl')
          have hrj := hrm j hjl'
          generalize row[j] = x at *
          have c2 := c1 x hxi
          obtain ⟨V, hV⟩ : ∃ V, V = x % q := ⟨_, rfl⟩
          rw [← hV] at c2 hrj
          have HR := Lib.hid hR
          have HU := Lib.hid hU
          have HV := Lib.hid hrj
          have hjn : (j : Int) < (c : Int) := by omega
          clear hV hR hU hrj hir2 c1 hrm hb3 hxi hix x0
          go_wp2
          go_region_with (first
            | (go_at_call 29; refine Calls.mono (c2 _).out ?_; rintro e w3 ⟨rfl, rfl⟩))
          all_goals
            go_wp2
            go_roundw
            case rel =>
              refine ⟨j + 1, by omega, by go_num, ?_, (HU.out.drewN 1).setCell j _⟩
              have h1 := (HR.out.drewN 1).set j hjl V
              refine h1.congr fun t ht => ?_
              show (if t = j then V else if t < j then resM q xss k t else 0) = _
              by_cases e1 : t = j
              · subst e1; rw [if_pos rfl, if_pos (by omega), HV.out]
              · rw [if_neg e1]
                by_cases e2 : t < j
                · rw [if_pos e2, if_pos (by omega)]
                · rw [if_neg e2, if_neg (by omega)]
            case measure => simp [intOf]; omega
        · obtain rfl : j = c := by omega
          have HR : Hid (RowAt G j (resM q xss k) wr) := hR.congr fun t ht => by rw [if_pos ht]
          have HU := Lib.hid hU
          have HB3 := Lib.hid hb3
          clear hR hU hb3 x0
          go_wp2
          go_roundw
          case rel =>
            refine ⟨k + 1, (fun i => if i = k then G else R i), by omega, by go_num, ?_, HB3.out⟩
            have h1 := HR.out
            have h2 := HU.out
            rw [HGe.out] at h1 h2 ⊢
            exact HP.out.step HFr.out h2 h1
          case measure => simp [intOf]; omega
    · obtain rfl : k = n := by omega
      have HP := Lib.hid hP
      clear hP
      go_wp2
      go_ret
      have hP := HP.out
      have hH := HH.out
      refine ⟨H, R, rfl, ⟨Nat.le_refl _, ⟨by omega, hP.hlt⟩, hP.hat, hP.hfz, fun i hi => ?_, hP.rat, hP.inj⟩, hb⟩
      have := hP.rlt i hi
      exact ⟨by omega, this.2, by omega⟩
end Go.Proofs.YtdeeoigcpihidaaDoor
