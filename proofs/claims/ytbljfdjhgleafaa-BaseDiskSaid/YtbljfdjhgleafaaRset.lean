/- The reference's disk: set. -/
import Derived.Test.YtbljfdjhgleafaaRm
import Derived.Deep.QuietTactic
import Derived.BigQuiet
namespace Go.Proofs.Ytbljfdjhgleafaa
open Go.RowKit

variable {w w' : World} {b : Nat} {L : RL} {r r' : Rk} {S : Nat → Prop}

theorem info_file : (Try.prog.info? 65).map (fun i => (i.zero, i.size, i.bytes)) = some (some (.agg #[.int .i64 0, .string (bs []), .string (bs [])]), 3, 40) := by kernel_rfl

theorem rfc_snoc (l : List Rf) (x : Rf) : rfc l ++ rfv x = rfc (l ++ [x]) := by simp [rfc, rfv]

theorem filter_take_snoc (fs : List Rf) (n : Int) (k : Nat) (x : Rf) (hx : fs[k]? = some x) : (fs.take (k + 1)).filter (fun y => y.n != n) = (fs.take k).filter (fun y => y.n != n) ++ (if x.n = n then [] else [x]) := by
  rw [List.take_add_one, hx, List.filter_append]
  by_cases h : x.n = n
  · simp [h]
  · simp [h]

theorem owns_zero {B : Nat} {e : TypeId} {size n : Nat} {v : Value} {xs : List Value} (h : w.ownsRow B e size v n xs) : w.ownsRow 0 e size v n xs := by
  obtain ⟨hl, h0 | ⟨g, cap, cur, rfl, _, rest⟩⟩ := h
  · exact ⟨hl, .inl h0⟩
  · exact ⟨hl, .inr ⟨g, cap, cur, rfl, Nat.zero_le _, rest⟩⟩

/-- The worlds of set's loop. -/
structure SetS (w : World) (x : Rf) (v : Value) (acc : List Rf) (W : World) : Prop where
  own : W.ownsRow (w.heap.size + 1) 65 3 v acc.length (rfc acc)
  bel : Below w.heap.size w W
  box : W.heap[w.heap.size]? = some (.cells #[.int .i64 x.n, .string (bs x.now), .string (bs x.last)] 65 (0, 0))

theorem SetS.drew {x : Rf} {v : Value} {acc : List Rf} {W : World} (h : SetS w x v acc W) (n : Nat) : SetS w x v acc (W.drewN n) := ⟨h.own, ⟨h.bel.os, h.bel.tape, h.bel.output, h.bel.size, h.bel.block⟩, h.box⟩

theorem SetS.app {x y : Rf} {v v' : Value} {acc : List Rf} {W W' : World} (h : SetS w x v acc W) (o : Obj) (hown : W'.ownsRow (w.heap.size + 1) 65 3 v' (acc.length + 1) (rfc acc ++ rfv y)) (hg : (W.alloc o).grownBy W' v.ownBlock) : SetS w x v' (acc ++ [y]) W' := by
  have hz := h.bel.size
  have hlt := (Array.getElem?_eq_some_iff.1 h.box).1
  refine ⟨by rw [List.length_append, List.length_singleton, ← rfc_snoc]; exact hown, (h.bel.alloc (by omega) o).grown hg (by simp; omega) (fun i hi => by have := (h.own.lt i hi).1; omega), ?_⟩
  rw [hg.block _ (by simp; omega) (fun e => by have := (h.own.lt _ e.symm).1; omega), Below.heap_alloc _ _ _ hlt]
  exact h.box

set_option maxHeartbeats 2000000 in
set_option maxRecDepth 100000 in
theorem rset_calls (h : IsR w b L r) (hn : r.fs.length ≤ 1000000) (x : Rf) :
    Calls Try.prog 67 #[.pointer (some ⟨b, 0, none⟩), .agg #[.int .i64 x.n, .string (bs x.now), .string (bs x.last)]] w fun e w' => e = .returned (.tuple #[]) ∧ PostR (fun i => i = b) w b L { r with fs := setF r.fs x } w' := by
  obtain ⟨i0, hi, hz0, hz1, hz2⟩ := info_parts info_file
  obtain ⟨a, cap, hfv, hel⟩ := h.file
  have hlt := h.lt
  have c0 : w.cell? ⟨b, 0, none⟩ = some (.slice a r.fs.length cap) := by rw [h.cells.cell 0 (by omega), ← hfv]; rfl
  obtain ⟨fs, hfs⟩ : ∃ fs, fs = r.fs := ⟨_, rfl⟩
  rw [← hfs] at c0 hel hn
  have HEL := Lib.hid hel
  have H := Lib.hid h
  have HFS := Lib.hid hfs
  clear h hfv hel hfs
  have HS0 : Hid (SetS w x (.slice none 0 0) [] (w.alloc (.cells #[.int .i64 x.n, .string (bs x.now), .string (bs x.last)] 65))) :=
    ⟨World.ownsRow_nil _ _ _ _, (Below.refl _ _).alloc (Nat.le_refl _) _, (MapKept.heap_alloc w _).1⟩
  go_enter Try.func67, Try.ntmps67
  go_wp2_with fail
  go_loopw [4, 5] (fun v i wr => ∃ k : Nat, k ≤ fs.length ∧ i = .int .i64 k ∧ Hid (SetS w x v ((fs.take k).filter (fun y => y.n != x.n)) wr)) (fun _ i _ => 1000001 - (intOf i).toNat)
  case atStart => exact ⟨0, by omega, rfl, HS0⟩
  case round =>
    clear HS0
    obtain ⟨k, hk, rfl, hs⟩ := hrel
    have hbel := hs.out.bel
    have e0 : ∀ o, wr.cell? ⟨b, o, none⟩ = w.cell? ⟨b, o, none⟩ := fun o => hbel.cell (p := ⟨b, o, none⟩) hlt
    have c0r : wr.cell? ⟨b, 0, none⟩ = some (.slice a fs.length cap) := (e0 0).trans c0
    have hbx := hs.out.box
    have x0 : wr.cell? ⟨w.heap.size, 0, none⟩ = some (.int .i64 x.n) := by rw [cell_of_row wr _ _ _ _ _ hbx]; rfl
    have x1 : wr.cell? ⟨w.heap.size, 1, none⟩ = some (.string (bs x.now)) := by rw [cell_of_row wr _ _ _ _ _ hbx]; rfl
    have x2 : wr.cell? ⟨w.heap.size, 2, none⟩ = some (.string (bs x.last)) := by rw [cell_of_row wr _ _ _ _ _ hbx]; rfl
    have HBX := Lib.hid hbx
    have hzz := hbel.size
    have hwl := (Array.getElem?_eq_some_iff.1 hbx).1
    clear hbx
    by_cases hlt2 : k < fs.length
    · obtain ⟨y, hy⟩ : ∃ y, fs[k]? = some y := ⟨_, List.getElem?_eq_getElem hlt2⟩
      obtain ⟨g, rfl, hgw, hgb, hc⟩ := HEL.out k y hy
      have hcr : ∀ j v, (rfv y)[j]? = some v → wr.cell? ⟨g, k * 3 + j, none⟩ = some v := fun j v hv => (hbel.cell (p := ⟨g, k * 3 + j, none⟩) hgw).trans (hc j v hv)
      have a0 := hcr 0 _ rfl
      simp only [Nat.add_zero] at a0
      have HRG := Lib.hid hcr
      have HST := Lib.hid (filter_take_snoc fs x.n k y hy)
      have d2 : (k : Int) < (fs.length : Int) := by omega
      obtain ⟨acc, hacc⟩ : ∃ acc, acc = (fs.take k).filter (fun y => y.n != x.n) := ⟨_, rfl⟩
      rw [← hacc] at hs HST
      have hal : acc.length ≤ 1000000 := by rw [hacc]; exact Nat.le_trans (List.length_filter_le _ _) (by rw [List.length_take]; omega)
      have HACC := Lib.hid hacc
      have HBEL := Lib.hid hbel
      clear hc hy hcr hacc hbel e0
      by_cases hxf : y.n = x.n
      · have d3 : (y.n == x.n) = true := by simpa using hxf
        have d4 : (y.n != x.n) = false := by simpa using hxf
        go_wp2_with fail
        go_quiet (fail)
        have hs2 : Hid (SetS w x u4 acc (wr.drewN nq)) := hs.out.drew nq
        clear hs
        go_wp2_with fail
        go_roundw
        case rel => exact ⟨k + 1, by omega, by go_num, by rw [HST.out, if_pos hxf, List.append_nil]; exact hs2⟩
        case measure => simp [intOf]; omega
      · have d3 : (y.n == x.n) = false := by simpa using hxf
        have d4 : (y.n != x.n) = true := by simpa using hxf
        go_wp2_with fail
        go_quiet (fail)
        obtain ⟨wq, ewq, hhq, hkq⟩ := ex_drewN wr nq
        have hs2 : SetS w x u4 acc (wr.drewN nq) := hs.out.drew nq
        rw [ewq] at hs2 ⊢
        have eq0 : ∀ p, wq.cell? p = wr.cell? p := fun p => by simp [World.cell?, hhq]
        have c0q := (eq0 _).trans c0r
        have HRQ : Hid (wq.rangeAt g (k * 3) (rfv y)) := fun j v hv => (eq0 _).trans (HRG.out j v hv)
        have hqz := hs2.bel.size
        have hown := hs2.own
        have HS2 := Lib.hid hs2
        clear hs hs2 ewq hhq hkq eq0
        go_wp2_with (first
          | (at_builtin; refine wpList_append_own _ rfl _ _ 58 rfl (w.heap.size + 1) 65 i0 (.agg #[.int .i64 0, .string (bs []), .string (bs [])]) 3 40 Try.underlying58 hi hz0 hz1 hz2 rfl (by decide) _ _ _ rfl (hown.alloc _) ⟨wq.heap.size, 0, none⟩ 1 1 [.int .i64 y.n, .string (bs y.now), .string (bs y.last)] rfl rfl ?c1 ?c2 ?c3 ?c4 ?c5 ?_)
          | (refine wpList_load_mid rfl 65 _ rfl g (k * 3) rfl [.int .i64 y.n, .string (bs y.now), .string (bs y.last)] _ HRQ.out Try.underlying65 rfl (by kernel_rfl) ?_))
        case c1 =>
          intro j u hu
          match j, hu with
          | 0, hu => simp at hu; subst hu; simp [Addr.add]
          | 1, hu => simp at hu; subst hu; simp [Addr.add]
          | 2, hu => simp at hu; subst hu; simp [Addr.add]
        case c2 => intro u hu; simp at hu; rcases hu with rfl | rfl | rfl <;> rfl
        case c3 => unfold maxLen; omega
        case c4 => omega
        case c5 => have := (Array.getElem?_eq_some_iff.1 HS2.out.box).1; simp; omega
        intro v' w2 hown2 hgrow _
        have HF : Hid (SetS w x v' (acc ++ [y]) w2) := HS2.out.app _ hown2 hgrow
        clear hown2 hgrow hown
        go_wp2_with fail
        go_roundw
        case rel => exact ⟨k + 1, by omega, by go_num, by rw [HST.out, if_neg hxf]; exact HF⟩
        case measure => simp [intOf]; omega
    · obtain rfl : k = fs.length := by omega
      obtain ⟨acc, hacc⟩ : ∃ acc, acc = (fs.take fs.length).filter (fun y => y.n != x.n) := ⟨_, rfl⟩
      rw [← hacc] at hs
      have hal : acc.length ≤ 1000000 := by rw [hacc]; exact Nat.le_trans (List.length_filter_le _ _) (by rw [List.length_take]; omega)
      rw [List.take_length] at hacc
      have HACC := Lib.hid hacc
      have hown := hs.out.own
      have fb := (H.out.cells.kept (Below.kept hbel) (by omega)).frozen 0
      clear hacc hbel e0
      go_wp2_with (at_builtin; refine wpList_append_own _ rfl _ _ 58 rfl (w.heap.size + 1) 65 i0 (.agg #[.int .i64 0, .string (bs []), .string (bs [])]) 3 40 Try.underlying58 hi hz0 hz1 hz2 rfl (by decide) _ _ _ rfl (hown.alloc _) ⟨wr.heap.size, 0, none⟩ 1 1 [.int .i64 x.n, .string (bs x.now), .string (bs x.last)] rfl rfl ?c1 ?c2 ?c3 ?c4 ?c5 ?_)
      case c1 =>
        intro j u hu
        match j, hu with
        | 0, hu => simp at hu; subst hu; simp [Addr.add]
        | 1, hu => simp at hu; subst hu; simp [Addr.add]
        | 2, hu => simp at hu; subst hu; simp [Addr.add]
      case c2 => intro u hu; simp at hu; rcases hu with rfl | rfl | rfl <;> rfl
      case c3 => unfold maxLen; omega
      case c4 => omega
      case c5 => simp; omega
      intro v' w2 hown2 hgrow _
      have HF : Hid (SetS w x v' (acc ++ [x]) w2) := hs.out.app _ hown2 hgrow
      obtain ⟨g2, cap2, rfl⟩ : ∃ g2 cap2, v' = .slice (some ⟨g2, 0, none⟩) (acc.length + 1) cap2 := by
        obtain ⟨_, ⟨_, h0⟩ | ⟨g2, cap2, cur, h1, _⟩⟩ := hown2
        · omega
        · exact ⟨g2, cap2, h1⟩
      have hb2 := HF.out.bel
      have hc2 := H.out.cells.kept (Below.kept hb2) (by omega)
      have c02 := hc2.cell 0 (by omega)
      have f02 := hc2.frozen 0
      have HC2 := Lib.hid hc2
      have HB2 := Lib.hid hb2
      clear hown2 hgrow hown hc2 hb2
      go_wp2_with fail
      go_end0
      have hk := (Below.kept HB2.out).mono (T := fun i => i = b) (fun i hi => Or.inr hi)
      obtain ⟨v', hv'⟩ : ∃ v', v' = Value.slice (some ⟨g2, 0, none⟩) (acc.length + 1) cap2 := ⟨_, rfl⟩
      rw [← hv'] at HF ⊢
      have hk2 := hk.setCell (p := ⟨b, 0, none⟩) (Or.inl rfl) v'
      have hcl : isCells (w2.setCell ⟨b, 0, none⟩ v') b 61 6 (rcell { L with fv := v' } { r with fs := setF r.fs x }) := by
        refine (HC2.out.set 0 v').eq ?_
        intro i _
        by_cases e : i = 0
        · subst e; rfl
        · simp [upd, e, rcell]
      have hset : acc ++ [x] = setF r.fs x := by rw [HACC.out, HFS.out]; rfl
      have hfs2 : (w2.setCell ⟨b, 0, none⟩ v').ownsRow 0 65 3 v' (setF r.fs x).length (rfc (setF r.fs x)) := by
        rw [← hset]
        have h1 := HF.out.own
        refine owns_kept (owns_zero h1) ((Kept.refl (fun i => i = b) w2).setCell (p := ⟨b, 0, none⟩) (Or.inl rfl) v') (fun i hi e => ?_)
        have := (h1.lt i hi).1
        omega
      refine ⟨rfl, { L with fv := v' }, ⟨hcl, hfs2, ?_, ?_, H.out.lb, H.out.cb⟩, hk2, ?_⟩
      · exact owns_kept H.out.qs hk2 (fun i hi e => owns_ne_cells H.out.qs H.out.cells Sector_ne_Disk (e ▸ hi))
      · exact owns_kept H.out.ks hk2 (fun i hi e => owns_ne_cells H.out.ks H.out.cells int_ne_Disk (e ▸ hi))
      · rintro i (hi | hi | hi | hi)
        · exact Or.inl (Or.inl hi)
        · have := (HF.out.own.lt i hi).1
          exact Or.inr (by omega)
        · exact Or.inl (Or.inr (Or.inr (Or.inl hi)))
        · exact Or.inl (Or.inr (Or.inr (Or.inr hi)))

end Go.Proofs.Ytbljfdjhgleafaa
