/- The reference's disk in this seat: Rset, Rsml, Radd. -/
import Derived.Test.YtanecondopbfhaaGreatDoorJR2
import Derived.Deep.QuietTactic
import Derived.BigQuiet
namespace Go.Proofs.YtanecondopbfhaaGreatDoor

section
open Go.RowKit

variable {w w' : World} {b : Nat} {L : RL} {r r' : Rk} {S : Nat → Prop}

theorem info_file : (Tryz.prog.info? 102).map (fun i => (i.zero, i.size, i.bytes)) = some (some (.agg #[.int .i64 0, .string (bs []), .string (bs [])]), 3, 40) := by kernel_rfl

theorem rfc_snoc (l : List Rf) (x : Rf) : rfc l ++ rfv x = rfc (l ++ [x]) := by simp [rfc, rfv]

theorem filter_take_snoc (fs : List Rf) (n : Int) (k : Nat) (x : Rf) (hx : fs[k]? = some x) : (fs.take (k + 1)).filter (fun y => y.n != n) = (fs.take k).filter (fun y => y.n != n) ++ (if x.n = n then [] else [x]) := by
  rw [List.take_add_one, hx, List.filter_append]
  by_cases h : x.n = n
  · simp [h]
  · simp [h]

theorem owns_zero {B : Nat} {e : TypeId} {size n : Nat} {v : Value} {xs : List Value} (h : w.ownsRow B e size v n xs) : w.ownsRow 0 e size v n xs := by
  obtain ⟨hl, h0 | ⟨g, cap, cur, rfl, _, rest⟩⟩ := h
  · exact ⟨hl, .inl h0⟩
  · exact ⟨hl, .inr ⟨g, cap, cur, rfl, Nat.zero_le _, rest⟩⟩

/-- The worlds of set's loop. -/
structure SetS (w : World) (x : Rf) (v : Value) (acc : List Rf) (W : World) : Prop where
  own : W.ownsRow (w.heap.size + 1) 102 3 v acc.length (rfc acc)
  bel : Below w.heap.size w W
  box : W.heap[w.heap.size]? = some (.cells #[.int .i64 x.n, .string (bs x.now), .string (bs x.last)] 102 (0, 0))

theorem SetS.drew {x : Rf} {v : Value} {acc : List Rf} {W : World} (h : SetS w x v acc W) (n : Nat) : SetS w x v acc (W.drewN n) := ⟨h.own, ⟨h.bel.os, h.bel.tape, h.bel.output, h.bel.size, h.bel.block⟩, h.box⟩

theorem SetS.app {x y : Rf} {v v' : Value} {acc : List Rf} {W W' : World} (h : SetS w x v acc W) (o : Obj) (hown : W'.ownsRow (w.heap.size + 1) 102 3 v' (acc.length + 1) (rfc acc ++ rfv y)) (hg : (W.alloc o).grownBy W' v.ownBlock) : SetS w x v' (acc ++ [y]) W' := by
  have hz := h.bel.size
  have hlt := (Array.getElem?_eq_some_iff.1 h.box).1
  refine ⟨by rw [List.length_append, List.length_singleton, ← rfc_snoc]; exact hown, (h.bel.alloc (by omega) o).grown hg (by simp; omega) (fun i hi => by have := (h.own.lt i hi).1; omega), ?_⟩
  rw [hg.block _ (by simp; omega) (fun e => by have := (h.own.lt _ e.symm).1; omega), Below.heap_alloc _ _ _ hlt]
  exact h.box

set_option maxHeartbeats 2000000 in
set_option maxRecDepth 100000 in
theorem rset_calls (h : IsR w b L r) (hn : r.fs.length ≤ 1000000) (x : Rf) :
    Calls Tryz.prog 98 #[.pointer (some ⟨b, 0, none⟩), .agg #[.int .i64 x.n, .string (bs x.now), .string (bs x.last)]] w fun e w' => e = .returned (.tuple #[]) ∧ PostR (fun i => i = b) w b L { r with fs := setF r.fs x } w' := by
  obtain ⟨i0, hi, hz0, hz1, hz2⟩ := info_parts info_file
  obtain ⟨a, cap, hfv, hel⟩ := h.file
  have hlt := h.lt
  have c0 : w.cell? ⟨b, 0, none⟩ = some (.slice a r.fs.length cap) := by rw [h.cells.cell 0 (by omega), ← hfv]; rfl
  obtain ⟨fs, hfs⟩ : ∃ fs, fs = r.fs := ⟨_, rfl⟩
  rw [← hfs] at c0 hel hn
  have HEL := Lib.hid hel
  have H := Lib.hid h
  have HFS := Lib.hid hfs
  clear h hfv hel hfs
  have HS0 : Hid (SetS w x (.slice none 0 0) [] (w.alloc (.cells #[.int .i64 x.n, .string (bs x.now), .string (bs x.last)] 102))) :=
    ⟨World.ownsRow_nil _ _ _ _, (Below.refl _ _).alloc (Nat.le_refl _) _, (MapKept.heap_alloc w _).1⟩
  go_enter Tryz.func98, Tryz.ntmps98
  go_wp2_with fail
  go_loopw [4, 5] (fun v i wr => ∃ k : Nat, k ≤ fs.length ∧ i = .int .i64 k ∧ Hid (SetS w x v ((fs.take k).filter (fun y => y.n != x.n)) wr)) (fun _ i _ => 1000001 - (intOf i).toNat)
  case atStart => exact ⟨0, by omega, rfl, HS0⟩
  case round =>
    clear HS0
    obtain ⟨k, hk, rfl, hs⟩ := hrel
    have hbel := hs.out.bel
    have e0 : ∀ o, wr.cell? ⟨b, o, none⟩ = w.cell? ⟨b, o, none⟩ := fun o => hbel.cell (p := ⟨b, o, none⟩) hlt
    have c0r : wr.cell? ⟨b, 0, none⟩ = some (.slice a fs.length cap) := (e0 0).trans c0
    have hbx := hs.out.box
    have x0 : wr.cell? ⟨w.heap.size, 0, none⟩ = some (.int .i64 x.n) := by rw [cell_of_row wr _ _ _ _ _ hbx]; rfl
    have x1 : wr.cell? ⟨w.heap.size, 1, none⟩ = some (.string (bs x.now)) := by rw [cell_of_row wr _ _ _ _ _ hbx]; rfl
    have x2 : wr.cell? ⟨w.heap.size, 2, none⟩ = some (.string (bs x.last)) := by rw [cell_of_row wr _ _ _ _ _ hbx]; rfl
    have HBX := Lib.hid hbx
    have hzz := hbel.size
    have hwl := (Array.getElem?_eq_some_iff.1 hbx).1
    clear hbx
    by_cases hlt2 : k < fs.length
    · obtain ⟨y, hy⟩ : ∃ y, fs[k]? = some y := ⟨_, List.getElem?_eq_getElem hlt2⟩
      obtain ⟨g, rfl, hgw, hgb, hc⟩ := HEL.out k y hy
      have hcr : ∀ j v, (rfv y)[j]? = some v → wr.cell? ⟨g, k * 3 + j, none⟩ = some v := fun j v hv => (hbel.cell (p := ⟨g, k * 3 + j, none⟩) hgw).trans (hc j v hv)
      have a0 := hcr 0 _ rfl
      simp only [Nat.add_zero] at a0
      have HRG := Lib.hid hcr
      have HST := Lib.hid (filter_take_snoc fs x.n k y hy)
      have d2 : (k : Int) < (fs.length : Int) := by omega
      obtain ⟨acc, hacc⟩ : ∃ acc, acc = (fs.take k).filter (fun y => y.n != x.n) := ⟨_, rfl⟩
      rw [← hacc] at hs HST
      have hal : acc.length ≤ 1000000 := by rw [hacc]; exact Nat.le_trans (List.length_filter_le _ _) (by rw [List.length_take]; omega)
      have HACC := Lib.hid hacc
      have HBEL := Lib.hid hbel
      clear hc hy hcr hacc hbel e0
      by_cases hxf : y.n = x.n
      · have d3 : (y.n == x.n) = true := by simpa using hxf
        have d4 : (y.n != x.n) = false := by simpa using hxf
        go_wp2_with fail
        go_quiet (fail)
        have hs2 : Hid (SetS w x u4 acc (wr.drewN nq)) := hs.out.drew nq
        clear hs
        go_wp2_with fail
        go_roundw
        case rel => exact ⟨k + 1, by omega, by go_num, by rw [HST.out, if_pos hxf, List.append_nil]; exact hs2⟩
        case measure => simp [intOf]; omega
      · have d3 : (y.n == x.n) = false := by simpa using hxf
        have d4 : (y.n != x.n) = true := by simpa using hxf
        go_wp2_with fail
        go_quiet (fail)
        obtain ⟨wq, ewq, hhq, hkq⟩ := ex_drewN wr nq
        have hs2 : SetS w x u4 acc (wr.drewN nq) := hs.out.drew nq
        rw [ewq] at hs2 ⊢
        have eq0 : ∀ p, wq.cell? p = wr.cell? p := fun p => by simp [World.cell?, hhq]
        have c0q := (eq0 _).trans c0r
        have HRQ : Hid (wq.rangeAt g (k * 3) (rfv y)) := fun j v hv => (eq0 _).trans (HRG.out j v hv)
        have hqz := hs2.bel.size
        have hown := hs2.own
        have HS2 := Lib.hid hs2
        clear hs hs2 ewq hhq hkq eq0
        go_wp2_with (first
          | (at_builtin; refine wpList_append_own _ rfl _ _ 78 rfl (w.heap.size + 1) 102 i0 (.agg #[.int .i64 0, .string (bs []), .string (bs [])]) 3 40 Tryz.underlying78 hi hz0 hz1 hz2 rfl (by decide) _ _ _ rfl (hown.alloc _) ⟨wq.heap.size, 0, none⟩ 1 1 [.int .i64 y.n, .string (bs y.now), .string (bs y.last)] rfl rfl ?c1 ?c2 ?c3 ?c4 ?c5 ?_)
          | (refine wpList_load_mid rfl 102 _ rfl g (k * 3) rfl [.int .i64 y.n, .string (bs y.now), .string (bs y.last)] _ HRQ.out Tryz.underlying102 rfl (by kernel_rfl) ?_))
        case c1 =>
          intro j u hu
          match j, hu with
          | 0, hu => simp at hu; subst hu; simp [Addr.add]
          | 1, hu => simp at hu; subst hu; simp [Addr.add]
          | 2, hu => simp at hu; subst hu; simp [Addr.add]
        case c2 => intro u hu; simp at hu; rcases hu with rfl | rfl | rfl <;> rfl
        case c3 => unfold maxLen; omega
        case c4 => omega
        case c5 => have := (Array.getElem?_eq_some_iff.1 HS2.out.box).1; simp; omega
        intro v' w2 hown2 hgrow _
        have HF : Hid (SetS w x v' (acc ++ [y]) w2) := HS2.out.app _ hown2 hgrow
        clear hown2 hgrow hown
        go_wp2_with fail
        go_roundw
        case rel => exact ⟨k + 1, by omega, by go_num, by rw [HST.out, if_neg hxf]; exact HF⟩
        case measure => simp [intOf]; omega
    · obtain rfl : k = fs.length := by omega
      obtain ⟨acc, hacc⟩ : ∃ acc, acc = (fs.take fs.length).filter (fun y => y.n != x.n) := ⟨_, rfl⟩
      rw [← hacc] at hs
      have hal : acc.length ≤ 1000000 := by rw [hacc]; exact Nat.le_trans (List.length_filter_le _ _) (by rw [List.length_take]; omega)
      rw [List.take_length] at hacc
      have HACC := Lib.hid hacc
      have hown := hs.out.own
      have fb := (H.out.cells.kept (Below.kept hbel) (by omega)).frozen 0
      clear hacc hbel e0
      go_wp2_with (at_builtin; refine wpList_append_own _ rfl _ _ 78 rfl (w.heap.size + 1) 102 i0 (.agg #[.int .i64 0, .string (bs []), .string (bs [])]) 3 40 Tryz.underlying78 hi hz0 hz1 hz2 rfl (by decide) _ _ _ rfl (hown.alloc _) ⟨wr.heap.size, 0, none⟩ 1 1 [.int .i64 x.n, .string (bs x.now), .string (bs x.last)] rfl rfl ?c1 ?c2 ?c3 ?c4 ?c5 ?_)
      case c1 =>
        intro j u hu
        match j, hu with
        | 0, hu => simp at hu; subst hu; simp [Addr.add]
        | 1, hu => simp at hu; subst hu; simp [Addr.add]
        | 2, hu => simp at hu; subst hu; simp [Addr.add]
      case c2 => intro u hu; simp at hu; rcases hu with rfl | rfl | rfl <;> rfl
      case c3 => unfold maxLen; omega
      case c4 => omega
      case c5 => simp; omega
      intro v' w2 hown2 hgrow _
      have HF : Hid (SetS w x v' (acc ++ [x]) w2) := hs.out.app _ hown2 hgrow
      obtain ⟨g2, cap2, rfl⟩ : ∃ g2 cap2, v' = .slice (some ⟨g2, 0, none⟩) (acc.length + 1) cap2 := by
        obtain ⟨_, ⟨_, h0⟩ | ⟨g2, cap2, cur, h1, _⟩⟩ := hown2
        · omega
        · exact ⟨g2, cap2, h1⟩
      have hb2 := HF.out.bel
      have hc2 := H.out.cells.kept (Below.kept hb2) (by omega)
      have c02 := hc2.cell 0 (by omega)
      have f02 := hc2.frozen 0
      have HC2 := Lib.hid hc2
      have HB2 := Lib.hid hb2
      clear hown2 hgrow hown hc2 hb2
      go_wp2_with fail
      go_end0
      have hk := (Below.kept HB2.out).mono (T := fun i => i = b) (fun i hi => Or.inr hi)
      obtain ⟨v', hv'⟩ : ∃ v', v' = Value.slice (some ⟨g2, 0, none⟩) (acc.length + 1) cap2 := ⟨_, rfl⟩
      rw [← hv'] at HF ⊢
      have hk2 := hk.setCell (p := ⟨b, 0, none⟩) (Or.inl rfl) v'
      have hcl : isCells (w2.setCell ⟨b, 0, none⟩ v') b 81 6 (rcell { L with fv := v' } { r with fs := setF r.fs x }) := by
        refine (HC2.out.set 0 v').eq ?_
        intro i _
        by_cases e : i = 0
        · subst e; rfl
        · simp [upd, e, rcell]
      have hset : acc ++ [x] = setF r.fs x := by rw [HACC.out, HFS.out]; rfl
      have hfs2 : (w2.setCell ⟨b, 0, none⟩ v').ownsRow 0 102 3 v' (setF r.fs x).length (rfc (setF r.fs x)) := by
        rw [← hset]
        have h1 := HF.out.own
        refine owns_kept (owns_zero h1) ((Kept.refl (fun i => i = b) w2).setCell (p := ⟨b, 0, none⟩) (Or.inl rfl) v') (fun i hi e => ?_)
        have := (h1.lt i hi).1
        omega
      refine ⟨rfl, { L with fv := v' }, ⟨hcl, hfs2, ?_, ?_, H.out.lb, H.out.cb⟩, hk2, ?_⟩
      · exact owns_kept H.out.qs hk2 (fun i hi e => owns_ne_cells H.out.qs H.out.cells Sector_ne_Disk (e ▸ hi))
      · exact owns_kept H.out.ks hk2 (fun i hi e => owns_ne_cells H.out.ks H.out.cells int_ne_Disk (e ▸ hi))
      · rintro i (hi | hi | hi | hi)
        · exact Or.inl (Or.inl hi)
        · have := (HF.out.own.lt i hi).1
          exact Or.inr (by omega)
        · exact Or.inl (Or.inr (Or.inr (Or.inl hi)))
        · exact Or.inl (Or.inr (Or.inr (Or.inr hi)))
end

section
open Go.RowKit

variable {w w' : World} {b : Nat} {L : RL} {r r' : Rk} {S : Nat → Prop}

/-- One of the four plain cells is set. -/
theorem IsR.plain (h : IsR w b L r) {r' : Rk} (hf : r'.fs = r.fs) (hq : r'.q = r.q) (hkeep : r'.keep = r.keep) (hlb : r'.lost ≤ 9223372036854775807) (hcb : r'.armed ≤ 9223372036854775807) (i : Nat) (v : Value) (hv : ∀ j, j < 6 → rcell L r' j = upd (rcell L r) i v j) :
    PostR (fun i => i = b) w b L r' (w.setCell ⟨b, i, none⟩ v) := by
  have hk := (Kept.refl (fun x => x = b) w).setCell (p := ⟨b, i, none⟩) (Or.inl rfl) v
  exact ⟨L, h.cell hf hq hkeep hlb hcb ((h.cells.set i v).eq hv) hk, hk, fun _ hi => Or.inl hi⟩

set_option maxRecDepth 100000 in
theorem rstart_calls (h : IsR w b L r) : Calls Tryz.prog 26 #[.pointer (some ⟨b, 0, none⟩)] w fun e w' => e = .returned (.tuple #[]) ∧ PostR (fun i => i = b) w b L { r with down := false } w' := by
  have a : w.cell? ⟨b, 3, none⟩ = some (.bool r.down) := h.cells.cell 3 (by omega)
  have f := h.cells.frozen 3
  have H := Lib.hid h
  clear h
  go_enter Tryz.func26, Tryz.ntmps26
  go_wp2_with fail
  go_end0
  refine ⟨rfl, H.out.plain (r' := { r with down := false }) rfl rfl rfl H.out.lb H.out.cb 3 (.bool false) fun j _ => ?_⟩
  by_cases e : j = 3
  · subst e; rfl
  · simp [upd, e, rcell]

set_option maxRecDepth 100000 in
theorem rlose_calls (h : IsR w b L r) (n : Int) (hn : n ≤ 9223372036854775807) : Calls Tryz.prog 20 #[.pointer (some ⟨b, 0, none⟩), .int .i64 n] w fun e w' => e = .returned (.tuple #[]) ∧ PostR (fun i => i = b) w b L { r with lost := n.toNat } w' := by
  have a : w.cell? ⟨b, 2, none⟩ = some (.int .i64 r.lost) := h.cells.cell 2 (by omega)
  have f := h.cells.frozen 2
  have H := Lib.hid h
  clear h
  obtain ⟨m, hm0⟩ : ∃ m, m = n.toNat := ⟨_, rfl⟩
  have hm : max n 0 = (m : Int) := by omega
  have hm9 : m ≤ 9223372036854775807 := by omega
  rw [← hm0]
  clear hm0 hn
  go_enter Tryz.func20, Tryz.ntmps20
  go_wp2_with fail
  go_end0
  refine ⟨rfl, H.out.plain (r' := { r with lost := m }) rfl rfl rfl hm9 H.out.cb 2 (.int .i64 (m : Int)) fun j _ => ?_⟩
  by_cases e : j = 2
  · subst e; rfl
  · simp [upd, e, rcell]

set_option maxRecDepth 100000 in
theorem rmay_calls (h : IsR w b L r) (f : Int) : Calls Tryz.prog 63 #[.pointer (some ⟨b, 0, none⟩), .int .i64 f] w fun e w' => e = .returned (.int .i64 (r.may f)) ∧ w = w' := by
  have a : w.cell? ⟨b, 3, none⟩ = some (.bool r.down) := h.cells.cell 3 (by omega)
  obtain ⟨m, hm⟩ : ∃ m, m = r.may f := ⟨_, rfl⟩
  rw [← hm]
  unfold Rk.may at hm
  cases hd : r.down with
  | true =>
    rw [hd] at a hm
    rw [if_pos rfl] at hm
    subst hm
    clear h hd
    go_enter Tryz.func63, Tryz.ntmps63
    go_wp2_with fail
    go_ret
    exact ⟨rfl, rfl⟩
  | false =>
    rw [hd] at a hm
    rw [if_neg (by simp)] at hm
    clear h hd
    by_cases h1 : f < 0
    · rw [if_neg (by omega)] at hm
      subst hm
      have d1 : decide (f < 0) = true := decide_eq_true h1
      go_enter Tryz.func63, Tryz.ntmps63
      go_wp2_with fail
      go_ret
      exact ⟨rfl, rfl⟩
    · have d1 : decide (f < 0) = false := decide_eq_false h1
      by_cases h2 : 15 < f
      · rw [if_neg (by omega)] at hm
        subst hm
        have d2 : decide (15 < f) = true := decide_eq_true h2
        go_enter Tryz.func63, Tryz.ntmps63
        go_wp2_with fail
        go_ret
        exact ⟨rfl, rfl⟩
      · rw [if_pos (by omega)] at hm
        subst hm
        have d2 : decide (15 < f) = false := decide_eq_false h2
        go_enter Tryz.func63, Tryz.ntmps63
        go_wp2_with fail
        go_ret
        exact ⟨rfl, rfl⟩

set_option maxRecDepth 100000 in
theorem rfits_calls (a : Int) (s : List UInt8) (hs : s.length ≤ 1099511627776) (w : World) : Calls Tryz.prog 91 #[.int .i64 a, .string (bs s)] w fun e w' => e = .returned (.bool (fitsB a s)) ∧ w = w' := by
  have hl := bs_size s
  obtain ⟨m, hm⟩ : ∃ m, m = fitsB a s := ⟨_, rfl⟩
  rw [← hm]
  unfold fitsB at hm
  by_cases h1 : 0 ≤ a
  · have d1 : decide (0 ≤ a) = true := decide_eq_true h1
    by_cases h2 : a ≤ 16777216
    · have d2 : decide (a ≤ 16777216) = true := decide_eq_true h2
      by_cases h3 : a + s.length ≤ 16777216
      · have d3 : decide (a + (s.length : Int) ≤ 16777216) = true := decide_eq_true h3
        rw [decide_eq_true ⟨h1, h2, h3⟩] at hm
        subst hm
        go_enter Tryz.func91, Tryz.ntmps91
        go_wp2_with fail
        go_ret
        exact ⟨rfl, rfl⟩
      · have d3 : decide (a + (s.length : Int) ≤ 16777216) = false := decide_eq_false h3
        rw [decide_eq_false (fun h => h3 h.2.2)] at hm
        subst hm
        go_enter Tryz.func91, Tryz.ntmps91
        go_wp2_with fail
        go_ret
        exact ⟨rfl, rfl⟩
    · have d2 : decide (a ≤ 16777216) = false := decide_eq_false h2
      rw [decide_eq_false (fun h => h2 h.2.1)] at hm
      subst hm
      go_enter Tryz.func91, Tryz.ntmps91
      go_wp2_with fail
      go_ret
      exact ⟨rfl, rfl⟩
  · have d1 : decide (0 ≤ a) = false := decide_eq_false h1
    rw [decide_eq_false (fun h => h1 h.1)] at hm
    subst hm
    go_enter Tryz.func91, Tryz.ntmps91
    go_wp2_with fail
    go_ret
    exact ⟨rfl, rfl⟩

set_option maxRecDepth 100000 in
theorem rnew_calls (w : World) : Calls Tryz.prog 10 #[] w fun e w' => ∃ g, e = .returned (.pointer (some ⟨g, 0, none⟩)) ∧ IsR w' g ⟨.slice none 0 0, .slice none 0 0, .slice none 0 0⟩ Rk.new ∧ g = w.heap.size ∧ Kept (fun _ => False) w w' := by
  go_enter Tryz.func10, Tryz.ntmps10
  go_wp2_with fail
  go_ret
  refine ⟨_, rfl, ⟨isCells.made w _ 6 _ _ ?_, World.ownsRow_nil _ _ _ _, World.ownsRow_nil _ _ _ _, World.ownsRow_nil _ _ _ _, by decide, by decide⟩, rfl, (Kept.refl _ _).alloc _⟩
  rfl

theorem field_now (a b c : Value) (W : World) : (Instr.field 102 (.agg #[a, b, c]) 1).run Tryz.prog W = .ok b W := by kernel_rfl

theorem Below.mine {x : World} (h : Below w.heap.size w x) : Kept (fun i => w.heap.size ≤ i) w x := Below.kept h

set_option maxHeartbeats 1000000 in
set_option maxRecDepth 100000 in
theorem rsize_calls (h : IsR w b L r) (hn : r.fs.length ≤ 1000000) (f : Int) : Calls Tryz.prog 32 #[.pointer (some ⟨b, 0, none⟩), .int .i64 f] w fun e w' => e = .returned (.int .i64 ((getF r.fs f).now.length : Int)) ∧ Below w.heap.size w w' := by
  have c := Lib.hid (rget_calls h hn f)
  obtain ⟨G, hG⟩ : ∃ G, G = getF r.fs f := ⟨_, rfl⟩
  rw [← hG] at c ⊢
  have hs := bs_size G.now
  clear h hG
  go_enter Tryz.func32, Tryz.ntmps32
  go_wp2_with fail
  refine Calls.mono c.out ?_
  rintro e w2 ⟨rfl, hb⟩
  have HB := Lib.hid hb
  have hfd := fun W => field_now (.int .i64 G.n) (.string (bs G.now)) (.string (bs G.last)) W
  clear c hb
  go_wp2_with fail
  go_ret
  exact ⟨rfl, HB.out⟩
end

section
open Go.RowKit

variable {w w' : World} {b : Nat} {L : RL} {r r' : Rk} {S : Nat → Prop}

theorem info_sector : (Tryz.prog.info? 100).map (fun i => (i.zero, i.size, i.bytes)) = some (some (.agg #[.int .i64 0, .int .i64 0]), 2, 16) := by kernel_rfl

/-- The slice of the sectors. -/
theorem IsR.queue (h : IsR w b L r) : ∃ a cap, L.qv = .slice a r.q.length cap ∧ ∀ k x, r.q[k]? = some x → ∃ g, a = some ⟨g, 0, none⟩ ∧ g < w.heap.size ∧ g ≠ b ∧ w.cell? ⟨g, k * 2, none⟩ = some (.int .i64 (x.1 : Int)) ∧ w.cell? ⟨g, k * 2 + 1, none⟩ = some (.int .i64 (x.2 : Int)) := by
  have hqs := h.qs
  have hne := owns_ne_cells h.qs h.cells Sector_ne_Disk
  obtain ⟨hl, ⟨hv, h0⟩ | ⟨g, cap, cur, hv, hg, hh, rest⟩⟩ := h.qs
  · refine ⟨none, 0, by rw [hv, h0], fun k x hx => ?_⟩
    have := (List.getElem?_eq_some_iff.1 hx).1
    omega
  · refine ⟨some ⟨g, 0, none⟩, cap, hv, fun k x hx => ⟨g, rfl, (Array.getElem?_eq_some_iff.1 hh).1, fun e => hne (by rw [hv, e]; rfl), ?_, ?_⟩⟩
    · have hk := (List.getElem?_eq_some_iff.1 hx).1
      rw [hv] at hqs
      rw [hqs.cellAt _ (by omega), Nat.mul_comm]
      exact (plCells_get r.q k x hx).1
    · have hk := (List.getElem?_eq_some_iff.1 hx).1
      rw [hv] at hqs
      rw [hqs.cellAt _ (by omega), Nat.mul_comm]
      exact (plCells_get r.q k x hx).2

theorem PostR.trans {T : Nat → Prop} {L1 : RL} {r2 : Rk} {w1 w2 : World} (hk : Kept T w w1) (ho : ∀ i, RFoot b L1 i → RFoot b L i ∨ w.heap.size ≤ i) (h2 : PostR (fun i => i = b) w1 b L1 r2 w2) (hT : T b) : PostR T w b L r2 w2 := by
  obtain ⟨L2, hi, hk2, ho2⟩ := h2
  refine ⟨L2, hi, hk.andThen hk2 (fun i e => Or.inl (e ▸ hT)), fun i hi2 => ?_⟩
  rcases ho2 i hi2 with h3 | h3
  · exact ho i h3
  · exact Or.inr (Nat.le_trans hk.size h3)

theorem range_sq {g k : Nat} {x : Nat × Nat} (h0 : w.cell? ⟨g, k * 2, none⟩ = some (.int .i64 (x.1 : Int))) (h1 : w.cell? ⟨g, k * 2 + 1, none⟩ = some (.int .i64 (x.2 : Int))) : w.rangeAt g (k * 2) [.int .i64 (x.1 : Int), .int .i64 (x.2 : Int)] := by
  intro j v hv
  match j, hv with
  | 0, hv => simp at hv; subst hv; exact h0
  | 1, hv => simp at hv; subst hv; exact h1

theorem filter_q_snoc (q : List (Nat × Nat)) (f : Nat) (k : Nat) (x : Nat × Nat) (hx : q[k]? = some x) : (q.take (k + 1)).filter (fun y => y.1 != f) = (q.take k).filter (fun y => y.1 != f) ++ (if x.1 = f then [] else [x]) := by
  rw [List.take_add_one, hx, List.filter_append]
  by_cases h : x.1 = f
  · simp [h]
  · simp [h]

structure SqS (w : World) (v : Value) (acc : List (Nat × Nat)) (W : World) : Prop where
  own : W.ownsRow w.heap.size 100 2 v acc.length (plCells acc)
  bel : Below w.heap.size w W

theorem SqS.app {y : Nat × Nat} {v v' : Value} {acc : List (Nat × Nat)} {W W' : World} (h : SqS w v acc W) (o : Obj) (hown : W'.ownsRow w.heap.size 100 2 v' (acc.length + 1) (plCells acc ++ [.int .i64 (y.1 : Int), .int .i64 (y.2 : Int)])) (hg : (W.alloc o).grownBy W' v.ownBlock) : SqS w v' (acc ++ [y]) W' := by
  have hz := h.bel.size
  refine ⟨?_, (h.bel.alloc (by omega) o).grown hg (by simp; omega) (fun i hi => by have := (h.own.lt i hi).1; omega)⟩
  have e : plCells (acc ++ [y]) = plCells acc ++ [.int .i64 (y.1 : Int), .int .i64 (y.2 : Int)] := by simp [plCells]
  rw [List.length_append, List.length_singleton, e]
  exact hown

set_option maxHeartbeats 2000000 in
set_option maxRecDepth 100000 in
theorem rsettle_calls (h : IsR w b L r) (hn : r.fs.length ≤ 1000000) (hq : r.q.length ≤ 1000000000) (f : Nat) (s : List UInt8) :
    Calls Tryz.prog 84 #[.pointer (some ⟨b, 0, none⟩), .int .i64 f, .string (bs s)] w fun e w' => e = .returned (.tuple #[]) ∧ PostR (fun i => i = b) w b L (r.settle f s) w' := by
  obtain ⟨i0, hi, hz0, hz1, hz2⟩ := info_parts info_sector
  have cs := Lib.hid (rset_calls h hn ⟨f, s, s⟩)
  clear h
  go_enter Tryz.func84, Tryz.ntmps84
  go_wp2_with fail
  refine Calls.mono cs.out ?_
  rintro e w1 ⟨rfl, L1, h1, hk1, ho1⟩
  have HK1 := Lib.hid hk1
  have HO1 := Lib.hid ho1
  obtain ⟨a, cap, hqv, hel⟩ := h1.queue
  have hlt := h1.lt
  have c0 : w1.cell? ⟨b, 1, none⟩ = some (.slice a r.q.length cap) := by rw [h1.cells.cell 1 (by omega), ← hqv]; rfl
  obtain ⟨q, hqq⟩ : ∃ q, q = r.q := ⟨_, rfl⟩
  have hel2 : Hid (∀ k x, q[k]? = some x → ∃ g, a = some ⟨g, 0, none⟩ ∧ g < w1.heap.size ∧ g ≠ b ∧ w1.cell? ⟨g, k * 2, none⟩ = some (.int .i64 (x.1 : Int)) ∧ w1.cell? ⟨g, k * 2 + 1, none⟩ = some (.int .i64 (x.2 : Int))) := by
    rw [hqq]
    exact hel
  rw [← hqq] at c0 hq
  have HQ := Lib.hid hqq
  have H1 := Lib.hid h1
  clear hk1 ho1 h1 hqv hel cs hqq
  have HS0 : Hid (SqS w1 (.slice none 0 0) [] w1) := ⟨World.ownsRow_nil _ _ _ _, Below.refl _ _⟩
  go_wp2_with fail
  go_loopw [6, 7] (fun v i wr => ∃ k : Nat, k ≤ q.length ∧ i = .int .i64 k ∧ Hid (SqS w1 v ((q.take k).filter (fun y => y.1 != f)) wr)) (fun _ i _ => 1000000001 - (intOf i).toNat)
  case atStart => exact ⟨0, by omega, rfl, HS0⟩
  case round =>
    clear HS0
    obtain ⟨k, hk, rfl, hs⟩ := hrel
    have hbel := hs.out.bel
    have e0 : ∀ o, wr.cell? ⟨b, o, none⟩ = w1.cell? ⟨b, o, none⟩ := fun o => hbel.cell (p := ⟨b, o, none⟩) hlt
    have c0r : wr.cell? ⟨b, 1, none⟩ = some (.slice a q.length cap) := (e0 1).trans c0
    have hzz := hbel.size
    by_cases hlt2 : k < q.length
    · obtain ⟨y, hy⟩ : ∃ y, q[k]? = some y := ⟨_, List.getElem?_eq_getElem hlt2⟩
      obtain ⟨g, rfl, hgw, hgb, hy0, hy1⟩ := hel2.out k y hy
      have y0 := (hbel.cell (p := ⟨g, k * 2, none⟩) hgw).trans hy0
      have y1 := (hbel.cell (p := ⟨g, k * 2 + 1, none⟩) hgw).trans hy1
      have HRG := Lib.hid (range_sq y0 y1)
      have HST := Lib.hid (filter_q_snoc q f k y hy)
      have d2 : (k : Int) < (q.length : Int) := by omega
      obtain ⟨acc, hacc⟩ : ∃ acc, acc = (q.take k).filter (fun y => y.1 != f) := ⟨_, rfl⟩
      rw [← hacc] at hs HST
      have hal : acc.length ≤ 1000000000 := by rw [hacc]; exact Nat.le_trans (List.length_filter_le _ _) (by rw [List.length_take]; omega)
      have HACC := Lib.hid hacc
      clear hy hacc hbel e0 hy0 hy1
      by_cases hxf : y.1 = f
      · have d3 : (y.1 == f) = true := by simpa using hxf
        have d4 : (y.1 != f) = false := by simpa using hxf
        have d5 : ((y.1 : Int) == (f : Int)) = true := by simp; omega
        have d6 : ((y.1 : Int) != (f : Int)) = false := by simp; omega
        go_wp2_with fail
        go_roundw
        case rel => exact ⟨k + 1, by omega, by go_num, by rw [HST.out, if_pos hxf, List.append_nil]; exact hs⟩
        case measure => simp [intOf]; omega
      · have d3 : (y.1 == f) = false := by simpa using hxf
        have d4 : (y.1 != f) = true := by simpa using hxf
        have d5 : ((y.1 : Int) == (f : Int)) = false := by simp; omega
        have d6 : ((y.1 : Int) != (f : Int)) = true := by simp; omega
        have hown := hs.out.own
        go_wp2_with (first
          | (at_builtin; refine wpList_append_own _ rfl _ _ 79 rfl w1.heap.size 100 i0 (.agg #[.int .i64 0, .int .i64 0]) 2 16 Tryz.underlying79 hi hz0 hz1 hz2 rfl (by decide) _ _ _ rfl (hown.alloc _) ⟨wr.heap.size, 0, none⟩ 1 1 [.int .i64 (y.1 : Int), .int .i64 (y.2 : Int)] rfl rfl ?c1 ?c2 ?c3 ?c4 ?c5 ?_)
          | (refine wpList_load_mid rfl 100 _ rfl g (k * 2) rfl [.int .i64 (y.1 : Int), .int .i64 (y.2 : Int)] _ HRG.out Tryz.underlying100 rfl (by kernel_rfl) ?_))
        case c1 =>
          intro j u hu
          match j, hu with
          | 0, hu => simp at hu; subst hu; simp [Addr.add]
          | 1, hu => simp at hu; subst hu; simp [Addr.add]
        case c2 => intro u hu; simp at hu; rcases hu with rfl | rfl <;> rfl
        case c3 => unfold maxLen; omega
        case c4 => omega
        case c5 => simp; omega
        intro v' w2 hown2 hgrow _
        have HF : Hid (SqS w1 v' (acc ++ [y]) w2) := hs.out.app _ hown2 hgrow
        clear hown2 hgrow hown
        go_wp2_with fail
        go_roundw
        case rel => exact ⟨k + 1, by omega, by go_num, by rw [HST.out, if_neg hxf]; exact HF⟩
        case measure => simp [intOf]; omega
    · obtain rfl : k = q.length := by omega
      rw [List.take_length] at hs
      obtain ⟨acc, hacc⟩ : ∃ acc, acc = q.filter (fun y => y.1 != f) := ⟨_, rfl⟩
      rw [← hacc] at hs
      have HACC := Lib.hid hacc
      have hown := hs.out.own
      obtain ⟨a2, cap2, rfl⟩ : ∃ a2 cap2, u6 = .slice a2 acc.length cap2 := by
        obtain ⟨_, ⟨h0, h00⟩ | ⟨g2, cap2, cur, h1, _⟩⟩ := hown
        · exact ⟨none, 0, by rw [h0, h00]⟩
        · exact ⟨_, cap2, h1⟩
      have hc2 := H1.out.cells.kept (Below.kept hbel) (by omega)
      have fb := hc2.frozen 1
      have HC2 := Lib.hid hc2
      have HB2 := Lib.hid hbel
      clear hacc hbel e0 hown hc2
      go_wp2_with fail
      go_end0
      obtain ⟨v', hv'⟩ : ∃ v', v' = Value.slice a2 acc.length cap2 := ⟨_, rfl⟩
      rw [← hv'] at hs ⊢
      have hk := (Below.kept HB2.out).mono (T := fun i => i = b) (fun i hi => Or.inr hi)
      have hk2 := hk.setCell (p := ⟨b, 1, none⟩) (Or.inl rfl) v'
      have hcl : isCells (wr.setCell ⟨b, 1, none⟩ v') b 81 6 (rcell { L1 with qv := v' } (r.settle f s)) := by
        refine (HC2.out.set 1 v').eq ?_
        intro i _
        by_cases e : i = 1
        · subst e; rfl
        · simp [upd, e, rcell, Rk.settle]
      have hq2 : (wr.setCell ⟨b, 1, none⟩ v').ownsRow 0 100 2 v' (r.settle f s).q.length (plCells (r.settle f s).q) := by
        show (wr.setCell ⟨b, 1, none⟩ v').ownsRow 0 100 2 v' (r.q.filter _).length (plCells (r.q.filter _))
        rw [← HQ.out, ← HACC.out]
        have h1 := hs.out.own
        refine owns_kept (owns_zero h1) ((Kept.refl (fun i => i = b) wr).setCell (p := ⟨b, 1, none⟩) (Or.inl rfl) v') (fun i hi e => ?_)
        have := (h1.lt i hi).1
        omega
      refine ⟨rfl, { L1 with qv := v' }, ⟨hcl, ?_, hq2, ?_, H1.out.lb, H1.out.cb⟩, HK1.out.andThen hk2 (fun i e => Or.inl e), ?_⟩
      · exact owns_kept H1.out.fs hk2 (fun i hi e => owns_ne_cells H1.out.fs H1.out.cells File_ne_Disk (e ▸ hi))
      · exact owns_kept H1.out.ks hk2 (fun i hi e => owns_ne_cells H1.out.ks H1.out.cells int_ne_Disk (e ▸ hi))
      · rintro i (hi | hi | hi | hi)
        · exact Or.inl (Or.inl hi)
        · exact HO1.out i (Or.inr (Or.inl hi))
        · have := (hs.out.own.lt i hi).1
          have := HK1.out.size
          exact Or.inr (by omega)
        · exact HO1.out i (Or.inr (Or.inr (Or.inr hi)))

set_option maxHeartbeats 1000000 in
set_option maxRecDepth 100000 in
theorem rpending_calls (h : IsR w b L r) (hq : r.q.length ≤ 1000000000) (f n : Nat) :
    Calls Tryz.prog 118 #[.pointer (some ⟨b, 0, none⟩), .int .i64 f, .int .i64 n] w fun e w' => e = .returned (.bool (decide ((f, n) ∈ r.q))) ∧ w = w' := by
  obtain ⟨a, cap, hqv, hel⟩ := h.queue
  have c0 : w.cell? ⟨b, 1, none⟩ = some (.slice a r.q.length cap) := by rw [h.cells.cell 1 (by omega), ← hqv]; rfl
  have HEL := Lib.hid hel
  obtain ⟨t, ht⟩ : ∃ t, t = decide ((f, n) ∈ r.q) := ⟨_, rfl⟩
  rw [← ht]
  have HT : Hid (t = decide ((f, n) ∈ r.q.drop 0)) := ht
  clear h hqv hel ht
  go_enter Tryz.func118, Tryz.ntmps118
  go_wp2_with fail
  go_loopw [7] (fun i wr => ∃ k : Nat, k ≤ r.q.length ∧ i = .int .i64 k ∧ wr = w ∧ Hid (t = decide ((f, n) ∈ r.q.drop k))) (fun i _ => 1000000001 - (intOf i).toNat)
  case atStart => exact ⟨0, by omega, rfl, rfl, HT⟩
  case round =>
    clear HT
    obtain ⟨k, hk, rfl, rfl, ht⟩ := hrel
    by_cases hlt2 : k < r.q.length
    · obtain ⟨y, hy⟩ : ∃ y, r.q[k]? = some y := ⟨_, List.getElem?_eq_getElem hlt2⟩
      obtain ⟨g, rfl, hgw, hgb, hy0, hy1⟩ := HEL.out k y hy
      have d2 : (k : Int) < (r.q.length : Int) := by omega
      have hst : Hid (t = decide ((f, n) = y ∨ (f, n) ∈ r.q.drop (k + 1))) := by
        show t = _
        rw [ht.out, List.drop_eq_getElem_cons hlt2, (List.getElem?_eq_some_iff.1 hy).2]
        simp only [List.mem_cons]
      clear hy ht
      by_cases h1 : y.1 = f
      · have d3 : (y.1 == f) = true := by simpa using h1
        by_cases h2 : y.2 = n
        · have d4 : (y.2 == n) = true := by simpa using h2
          have htt : t = true := by rw [hst.out, decide_eq_true_iff]; exact Or.inl (by rw [← h1, ← h2])
          subst htt
          go_wp2_with fail
          go_ret
          exact ⟨rfl, rfl⟩
        · have d4 : (y.2 == n) = false := by simpa using h2
          have d5 : ((y.2 : Int) == (n : Int)) = false := by simp; omega
          have hne : ¬ (f, n) = y := fun e => h2 (by rw [← e])
          have HNE := Lib.hid hne
          clear hne
          go_wp2_with fail
          go_roundw
          case rel => exact ⟨k + 1, by omega, by go_num, trivial, by show t = _; have := hst.out; simpa [HNE.out] using this⟩
          case measure => simp [intOf]; omega
      · have d3 : (y.1 == f) = false := by simpa using h1
        have d5 : ((y.1 : Int) == (f : Int)) = false := by simp; omega
        have hne : ¬ (f, n) = y := fun e => h1 (by rw [← e])
        have HNE := Lib.hid hne
        clear hne
        go_wp2_with fail
        go_roundw
        case rel => exact ⟨k + 1, by omega, by go_num, trivial, by show t = _; have := hst.out; simpa [HNE.out] using this⟩
        case measure => simp [intOf]; omega
    · obtain rfl : k = r.q.length := by omega
      have htf : t = false := by rw [ht.out, List.drop_length]; simp
      subst htf
      clear ht
      go_wp2_with fail
      go_ret
      exact ⟨rfl, rfl⟩
end

end Go.Proofs.YtanecondopbfhaaGreatDoor
