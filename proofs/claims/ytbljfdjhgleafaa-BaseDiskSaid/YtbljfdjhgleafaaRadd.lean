/- The reference's disk: settle, pending, add. -/
import Derived.Test.YtbljfdjhgleafaaRsml
namespace Go.Proofs.Ytbljfdjhgleafaa
open Go.RowKit

variable {w w' : World} {b : Nat} {L : RL} {r r' : Rk} {S : Nat → Prop}

theorem info_sector : (Try.prog.info? 81).map (fun i => (i.zero, i.size, i.bytes)) = some (some (.agg #[.int .i64 0, .int .i64 0]), 2, 16) := by kernel_rfl

/-- The slice of the sectors. -/
theorem IsR.queue (h : IsR w b L r) : ∃ a cap, L.qv = .slice a r.q.length cap ∧ ∀ k x, r.q[k]? = some x → ∃ g, a = some ⟨g, 0, none⟩ ∧ g < w.heap.size ∧ g ≠ b ∧ w.cell? ⟨g, k * 2, none⟩ = some (.int .i64 (x.1 : Int)) ∧ w.cell? ⟨g, k * 2 + 1, none⟩ = some (.int .i64 (x.2 : Int)) := by
  have hqs := h.qs
  have hne := owns_ne_cells h.qs h.cells Sector_ne_Disk
  obtain ⟨hl, ⟨hv, h0⟩ | ⟨g, cap, cur, hv, hg, hh, rest⟩⟩ := h.qs
  · refine ⟨none, 0, by rw [hv, h0], fun k x hx => ?_⟩
    have := (List.getElem?_eq_some_iff.1 hx).1
    omega
  · refine ⟨some ⟨g, 0, none⟩, cap, hv, fun k x hx => ⟨g, rfl, (Array.getElem?_eq_some_iff.1 hh).1, fun e => hne (by rw [hv, e]; rfl), ?_, ?_⟩⟩
    · have hk := (List.getElem?_eq_some_iff.1 hx).1
      rw [hv] at hqs
      rw [hqs.cellAt _ (by omega), Nat.mul_comm]
      exact (plCells_get r.q k x hx).1
    · have hk := (List.getElem?_eq_some_iff.1 hx).1
      rw [hv] at hqs
      rw [hqs.cellAt _ (by omega), Nat.mul_comm]
      exact (plCells_get r.q k x hx).2

theorem PostR.trans {T : Nat → Prop} {L1 : RL} {r2 : Rk} {w1 w2 : World} (hk : Kept T w w1) (ho : ∀ i, RFoot b L1 i → RFoot b L i ∨ w.heap.size ≤ i) (h2 : PostR (fun i => i = b) w1 b L1 r2 w2) (hT : T b) : PostR T w b L r2 w2 := by
  obtain ⟨L2, hi, hk2, ho2⟩ := h2
  refine ⟨L2, hi, hk.andThen hk2 (fun i e => Or.inl (e ▸ hT)), fun i hi2 => ?_⟩
  rcases ho2 i hi2 with h3 | h3
  · exact ho i h3
  · exact Or.inr (Nat.le_trans hk.size h3)

theorem range_sq {g k : Nat} {x : Nat × Nat} (h0 : w.cell? ⟨g, k * 2, none⟩ = some (.int .i64 (x.1 : Int))) (h1 : w.cell? ⟨g, k * 2 + 1, none⟩ = some (.int .i64 (x.2 : Int))) : w.rangeAt g (k * 2) [.int .i64 (x.1 : Int), .int .i64 (x.2 : Int)] := by
  intro j v hv
  match j, hv with
  | 0, hv => simp at hv; subst hv; exact h0
  | 1, hv => simp at hv; subst hv; exact h1

theorem filter_q_snoc (q : List (Nat × Nat)) (f : Nat) (k : Nat) (x : Nat × Nat) (hx : q[k]? = some x) : (q.take (k + 1)).filter (fun y => y.1 != f) = (q.take k).filter (fun y => y.1 != f) ++ (if x.1 = f then [] else [x]) := by
  rw [List.take_add_one, hx, List.filter_append]
  by_cases h : x.1 = f
  · simp [h]
  · simp [h]

structure SqS (w : World) (v : Value) (acc : List (Nat × Nat)) (W : World) : Prop where
  own : W.ownsRow w.heap.size 81 2 v acc.length (plCells acc)
  bel : Below w.heap.size w W

theorem SqS.app {y : Nat × Nat} {v v' : Value} {acc : List (Nat × Nat)} {W W' : World} (h : SqS w v acc W) (o : Obj) (hown : W'.ownsRow w.heap.size 81 2 v' (acc.length + 1) (plCells acc ++ [.int .i64 (y.1 : Int), .int .i64 (y.2 : Int)])) (hg : (W.alloc o).grownBy W' v.ownBlock) : SqS w v' (acc ++ [y]) W' := by
  have hz := h.bel.size
  refine ⟨?_, (h.bel.alloc (by omega) o).grown hg (by simp; omega) (fun i hi => by have := (h.own.lt i hi).1; omega)⟩
  have e : plCells (acc ++ [y]) = plCells acc ++ [.int .i64 (y.1 : Int), .int .i64 (y.2 : Int)] := by simp [plCells]
  rw [List.length_append, List.length_singleton, e]
  exact hown

set_option maxHeartbeats 2000000 in
set_option maxRecDepth 100000 in
theorem rsettle_calls (h : IsR w b L r) (hn : r.fs.length ≤ 1000000) (hq : r.q.length ≤ 1000000000) (f : Nat) (s : List UInt8) :
    Calls Try.prog 53 #[.pointer (some ⟨b, 0, none⟩), .int .i64 f, .string (bs s)] w fun e w' => e = .returned (.tuple #[]) ∧ PostR (fun i => i = b) w b L (r.settle f s) w' := by
  obtain ⟨i0, hi, hz0, hz1, hz2⟩ := info_parts info_sector
  have cs := Lib.hid (rset_calls h hn ⟨f, s, s⟩)
  clear h
  go_enter Try.func53, Try.ntmps53
  go_wp2_with fail
  refine Calls.mono cs.out ?_
  rintro e w1 ⟨rfl, L1, h1, hk1, ho1⟩
  have HK1 := Lib.hid hk1
  have HO1 := Lib.hid ho1
  obtain ⟨a, cap, hqv, hel⟩ := h1.queue
  have hlt := h1.lt
  have c0 : w1.cell? ⟨b, 1, none⟩ = some (.slice a r.q.length cap) := by rw [h1.cells.cell 1 (by omega), ← hqv]; rfl
  obtain ⟨q, hqq⟩ : ∃ q, q = r.q := ⟨_, rfl⟩
  have hel2 : Hid (∀ k x, q[k]? = some x → ∃ g, a = some ⟨g, 0, none⟩ ∧ g < w1.heap.size ∧ g ≠ b ∧ w1.cell? ⟨g, k * 2, none⟩ = some (.int .i64 (x.1 : Int)) ∧ w1.cell? ⟨g, k * 2 + 1, none⟩ = some (.int .i64 (x.2 : Int))) := by
    rw [hqq]
    exact hel
  rw [← hqq] at c0 hq
  have HQ := Lib.hid hqq
  have H1 := Lib.hid h1
  clear hk1 ho1 h1 hqv hel cs hqq
  have HS0 : Hid (SqS w1 (.slice none 0 0) [] w1) := ⟨World.ownsRow_nil _ _ _ _, Below.refl _ _⟩
  go_wp2_with fail
  go_loopw [6, 7] (fun v i wr => ∃ k : Nat, k ≤ q.length ∧ i = .int .i64 k ∧ Hid (SqS w1 v ((q.take k).filter (fun y => y.1 != f)) wr)) (fun _ i _ => 1000000001 - (intOf i).toNat)
  case atStart => exact ⟨0, by omega, rfl, HS0⟩
  case round =>
    clear HS0
    obtain ⟨k, hk, rfl, hs⟩ := hrel
    have hbel := hs.out.bel
    have e0 : ∀ o, wr.cell? ⟨b, o, none⟩ = w1.cell? ⟨b, o, none⟩ := fun o => hbel.cell (p := ⟨b, o, none⟩) hlt
    have c0r : wr.cell? ⟨b, 1, none⟩ = some (.slice a q.length cap) := (e0 1).trans c0
    have hzz := hbel.size
    by_cases hlt2 : k < q.length
    · obtain ⟨y, hy⟩ : ∃ y, q[k]? = some y := ⟨_, List.getElem?_eq_getElem hlt2⟩
      obtain ⟨g, rfl, hgw, hgb, hy0, hy1⟩ := hel2.out k y hy
      have y0 := (hbel.cell (p := ⟨g, k * 2, none⟩) hgw).trans hy0
      have y1 := (hbel.cell (p := ⟨g, k * 2 + 1, none⟩) hgw).trans hy1
      have HRG := Lib.hid (range_sq y0 y1)
      have HST := Lib.hid (filter_q_snoc q f k y hy)
      have d2 : (k : Int) < (q.length : Int) := by omega
      obtain ⟨acc, hacc⟩ : ∃ acc, acc = (q.take k).filter (fun y => y.1 != f) := ⟨_, rfl⟩
      rw [← hacc] at hs HST
      have hal : acc.length ≤ 1000000000 := by rw [hacc]; exact Nat.le_trans (List.length_filter_le _ _) (by rw [List.length_take]; omega)
      have HACC := Lib.hid hacc
      clear hy hacc hbel e0 hy0 hy1
      by_cases hxf : y.1 = f
      · have d3 : (y.1 == f) = true := by simpa using hxf
        have d4 : (y.1 != f) = false := by simpa using hxf
        have d5 : ((y.1 : Int) == (f : Int)) = true := by simp; omega
        have d6 : ((y.1 : Int) != (f : Int)) = false := by simp; omega
        go_wp2_with fail
        go_roundw
        case rel => exact ⟨k + 1, by omega, by go_num, by rw [HST.out, if_pos hxf, List.append_nil]; exact hs⟩
        case measure => simp [intOf]; omega
      · have d3 : (y.1 == f) = false := by simpa using hxf
        have d4 : (y.1 != f) = true := by simpa using hxf
        have d5 : ((y.1 : Int) == (f : Int)) = false := by simp; omega
        have d6 : ((y.1 : Int) != (f : Int)) = true := by simp; omega
        have hown := hs.out.own
        go_wp2_with (first
          | (at_builtin; refine wpList_append_own _ rfl _ _ 59 rfl w1.heap.size 81 i0 (.agg #[.int .i64 0, .int .i64 0]) 2 16 Try.underlying59 hi hz0 hz1 hz2 rfl (by decide) _ _ _ rfl (hown.alloc _) ⟨wr.heap.size, 0, none⟩ 1 1 [.int .i64 (y.1 : Int), .int .i64 (y.2 : Int)] rfl rfl ?c1 ?c2 ?c3 ?c4 ?c5 ?_)
          | (refine wpList_load_mid rfl 81 _ rfl g (k * 2) rfl [.int .i64 (y.1 : Int), .int .i64 (y.2 : Int)] _ HRG.out Try.underlying81 rfl (by kernel_rfl) ?_))
        case c1 =>
          intro j u hu
          match j, hu with
          | 0, hu => simp at hu; subst hu; simp [Addr.add]
          | 1, hu => simp at hu; subst hu; simp [Addr.add]
        case c2 => intro u hu; simp at hu; rcases hu with rfl | rfl <;> rfl
        case c3 => unfold maxLen; omega
        case c4 => omega
        case c5 => simp; omega
        intro v' w2 hown2 hgrow _
        have HF : Hid (SqS w1 v' (acc ++ [y]) w2) := hs.out.app _ hown2 hgrow
        clear hown2 hgrow hown
        go_wp2_with fail
        go_roundw
        case rel => exact ⟨k + 1, by omega, by go_num, by rw [HST.out, if_neg hxf]; exact HF⟩
        case measure => simp [intOf]; omega
    · obtain rfl : k = q.length := by omega
      rw [List.take_length] at hs
      obtain ⟨acc, hacc⟩ : ∃ acc, acc = q.filter (fun y => y.1 != f) := ⟨_, rfl⟩
      rw [← hacc] at hs
      have HACC := Lib.hid hacc
      have hown := hs.out.own
      obtain ⟨a2, cap2, rfl⟩ : ∃ a2 cap2, u6 = .slice a2 acc.length cap2 := by
        obtain ⟨_, ⟨h0, h00⟩ | ⟨g2, cap2, cur, h1, _⟩⟩ := hown
        · exact ⟨none, 0, by rw [h0, h00]⟩
        · exact ⟨_, cap2, h1⟩
      have hc2 := H1.out.cells.kept (Below.kept hbel) (by omega)
      have fb := hc2.frozen 1
      have HC2 := Lib.hid hc2
      have HB2 := Lib.hid hbel
      clear hacc hbel e0 hown hc2
      go_wp2_with fail
      go_end0
      obtain ⟨v', hv'⟩ : ∃ v', v' = Value.slice a2 acc.length cap2 := ⟨_, rfl⟩
      rw [← hv'] at hs ⊢
      have hk := (Below.kept HB2.out).mono (T := fun i => i = b) (fun i hi => Or.inr hi)
      have hk2 := hk.setCell (p := ⟨b, 1, none⟩) (Or.inl rfl) v'
      have hcl : isCells (wr.setCell ⟨b, 1, none⟩ v') b 61 6 (rcell { L1 with qv := v' } (r.settle f s)) := by
        refine (HC2.out.set 1 v').eq ?_
        intro i _
        by_cases e : i = 1
        · subst e; rfl
        · simp [upd, e, rcell, Rk.settle]
      have hq2 : (wr.setCell ⟨b, 1, none⟩ v').ownsRow 0 81 2 v' (r.settle f s).q.length (plCells (r.settle f s).q) := by
        show (wr.setCell ⟨b, 1, none⟩ v').ownsRow 0 81 2 v' (r.q.filter _).length (plCells (r.q.filter _))
        rw [← HQ.out, ← HACC.out]
        have h1 := hs.out.own
        refine owns_kept (owns_zero h1) ((Kept.refl (fun i => i = b) wr).setCell (p := ⟨b, 1, none⟩) (Or.inl rfl) v') (fun i hi e => ?_)
        have := (h1.lt i hi).1
        omega
      refine ⟨rfl, { L1 with qv := v' }, ⟨hcl, ?_, hq2, ?_, H1.out.lb, H1.out.cb⟩, HK1.out.andThen hk2 (fun i e => Or.inl e), ?_⟩
      · exact owns_kept H1.out.fs hk2 (fun i hi e => owns_ne_cells H1.out.fs H1.out.cells File_ne_Disk (e ▸ hi))
      · exact owns_kept H1.out.ks hk2 (fun i hi e => owns_ne_cells H1.out.ks H1.out.cells int_ne_Disk (e ▸ hi))
      · rintro i (hi | hi | hi | hi)
        · exact Or.inl (Or.inl hi)
        · exact HO1.out i (Or.inr (Or.inl hi))
        · have := (hs.out.own.lt i hi).1
          have := HK1.out.size
          exact Or.inr (by omega)
        · exact HO1.out i (Or.inr (Or.inr (Or.inr hi)))

set_option maxHeartbeats 1000000 in
set_option maxRecDepth 100000 in
theorem rpending_calls (h : IsR w b L r) (hq : r.q.length ≤ 1000000000) (f n : Nat) :
    Calls Try.prog 69 #[.pointer (some ⟨b, 0, none⟩), .int .i64 f, .int .i64 n] w fun e w' => e = .returned (.bool (decide ((f, n) ∈ r.q))) ∧ w = w' := by
  obtain ⟨a, cap, hqv, hel⟩ := h.queue
  have c0 : w.cell? ⟨b, 1, none⟩ = some (.slice a r.q.length cap) := by rw [h.cells.cell 1 (by omega), ← hqv]; rfl
  have HEL := Lib.hid hel
  obtain ⟨t, ht⟩ : ∃ t, t = decide ((f, n) ∈ r.q) := ⟨_, rfl⟩
  rw [← ht]
  have HT : Hid (t = decide ((f, n) ∈ r.q.drop 0)) := ht
  clear h hqv hel ht
  go_enter Try.func69, Try.ntmps69
  go_wp2_with fail
  go_loopw [7] (fun i wr => ∃ k : Nat, k ≤ r.q.length ∧ i = .int .i64 k ∧ wr = w ∧ Hid (t = decide ((f, n) ∈ r.q.drop k))) (fun i _ => 1000000001 - (intOf i).toNat)
  case atStart => exact ⟨0, by omega, rfl, rfl, HT⟩
  case round =>
    clear HT
    obtain ⟨k, hk, rfl, rfl, ht⟩ := hrel
    by_cases hlt2 : k < r.q.length
    · obtain ⟨y, hy⟩ : ∃ y, r.q[k]? = some y := ⟨_, List.getElem?_eq_getElem hlt2⟩
      obtain ⟨g, rfl, hgw, hgb, hy0, hy1⟩ := HEL.out k y hy
      have d2 : (k : Int) < (r.q.length : Int) := by omega
      have hst : Hid (t = decide ((f, n) = y ∨ (f, n) ∈ r.q.drop (k + 1))) := by
        show t = _
        rw [ht.out, List.drop_eq_getElem_cons hlt2, (List.getElem?_eq_some_iff.1 hy).2]
        simp only [List.mem_cons]
      clear hy ht
      by_cases h1 : y.1 = f
      · have d3 : (y.1 == f) = true := by simpa using h1
        by_cases h2 : y.2 = n
        · have d4 : (y.2 == n) = true := by simpa using h2
          have htt : t = true := by rw [hst.out, decide_eq_true_iff]; exact Or.inl (by rw [← h1, ← h2])
          subst htt
          go_wp2_with fail
          go_ret
          exact ⟨rfl, rfl⟩
        · have d4 : (y.2 == n) = false := by simpa using h2
          have d5 : ((y.2 : Int) == (n : Int)) = false := by simp; omega
          have hne : ¬ (f, n) = y := fun e => h2 (by rw [← e])
          have HNE := Lib.hid hne
          clear hne
          go_wp2_with fail
          go_roundw
          case rel => exact ⟨k + 1, by omega, by go_num, trivial, by show t = _; have := hst.out; simpa [HNE.out] using this⟩
          case measure => simp [intOf]; omega
      · have d3 : (y.1 == f) = false := by simpa using h1
        have d5 : ((y.1 : Int) == (f : Int)) = false := by simp; omega
        have hne : ¬ (f, n) = y := fun e => h1 (by rw [← e])
        have HNE := Lib.hid hne
        clear hne
        go_wp2_with fail
        go_roundw
        case rel => exact ⟨k + 1, by omega, by go_num, trivial, by show t = _; have := hst.out; simpa [HNE.out] using this⟩
        case measure => simp [intOf]; omega
    · obtain rfl : k = r.q.length := by omega
      have htf : t = false := by rw [ht.out, List.drop_length]; simp
      subst htf
      clear ht
      go_wp2_with fail
      go_ret
      exact ⟨rfl, rfl⟩

end Go.Proofs.Ytbljfdjhgleafaa
