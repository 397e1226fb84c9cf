/- The reference's disk in this seat: Rcomes, Rcall. -/
import Derived.Test.YtanecondopbfhaaGreatDoorJR4
namespace Go.Proofs.YtanecondopbfhaaGreatDoor

section
open Go.RowKit

variable {w w' : World} {b : Nat} {L : RL} {r r' : Rk} {S : Nat → Prop} {d : Dk}

theorem pend_le (f n m : Nat) (q : List (Nat × Nat)) : (pend f n m q).length ≤ q.length + m := pend_length f m n q

/-- The disk when its files are put, and k sectors are pending. -/
def Rk.pre (r : Rk) (f a : Nat) (s : List UInt8) (k : Nat) : Rk := { r with fs := setF r.fs ⟨f, putL (getF r.fs f).now a s, (getF r.fs f).last⟩, q := pend f (a / 64) k r.q }

set_option maxHeartbeats 4000000 in
set_option maxRecDepth 100000 in
theorem radd_calls (h : IsR w b L r) (hn : r.fs.length ≤ 100000) (hq : r.q.length ≤ 4194304) (f a : Nat) (s : List UInt8) (hl : (getF r.fs f).now.length ≤ 16777216) (ha : a ≤ 16777216) (hs : s.length ≤ 16777216) :
    Calls Tryz.prog 92 #[.pointer (some ⟨b, 0, none⟩), .int .i64 f, .int .i64 a, .string (bs s)] w fun e w' => e = .returned (.tuple #[]) ∧ PostR (RFoot b L) w b L (r.add f a s) w' := by
  have hls := bs_size s
  unfold Rk.add
  by_cases hs0 : s = []
  · rw [if_pos hs0]
    subst hs0
    have tE : (bs []).toList.isEmpty = true := by rw [Lib.toList_data, bs_data]; rfl
    have H := Lib.hid h
    clear h
    go_enter Tryz.func92, Tryz.ntmps92
    go_wp2_with fail
    exact bodyPost_ret (v := .tuple #[]) (by simp [results, Tryz.results92, go_sem]) rfl ⟨rfl, PostR.refl H.out⟩
  · rw [if_neg hs0]
    have tE : (bs s).toList.isEmpty = false := by rw [Lib.toList_data, bs_data]; cases s <;> simp_all
    have hsl : 0 < s.length := by cases s <;> simp_all
    have cg := Lib.hid (rget_calls h (by omega) (f : Int))
    have hgn := getF_n r.fs (f : Int)
    obtain ⟨G, hG⟩ : ∃ G, G = getF r.fs (f : Int) := ⟨_, rfl⟩
    rw [← hG] at cg hl hgn
    obtain ⟨P, hP⟩ : ∃ P, P = putL G.now a s := ⟨_, rfl⟩
    have cp := fun W => Lib.hid (put_calls' G.now s a W (by omega) (by omega) (by omega))
    rw [← hP] at cp
    have hpre : Hid (∀ k, r.pre f a s k = { r with fs := setF r.fs ⟨G.n, P, G.last⟩, q := pend f (a / 64) k r.q }) := by
      intro k
      unfold Rk.pre
      rw [← hG, ← hP, hgn]
    have hgoal : Hid (({ r with fs := setF r.fs ⟨f, putL (getF r.fs f).now a s, (getF r.fs f).last⟩, q := pend f (a / 64) (touch a s.length) r.q } : Rk) = r.pre f a s (touch a s.length)) := rfl
    rw [hgoal.out]
    have H := Lib.hid h
    have HFL := Lib.hid h.foot_lt
    have hlt := h.lt
    obtain ⟨A0, hA0⟩ : ∃ A0, A0 = a / 64 := ⟨_, rfl⟩
    obtain ⟨E0, hE0⟩ : ∃ E0, E0 = (a + s.length - 1) / 64 := ⟨_, rfl⟩
    have hAE : A0 ≤ E0 := by rw [hA0, hE0]; exact Nat.div_le_div_right (by omega)
    have hEb : E0 ≤ 524288 := by omega
    have e1 : (a : Int) / 64 = (A0 : Int) := by omega
    have e2 : ((a : Int) + (s.length : Int) - 1) / 64 = (E0 : Int) := by omega
    have hT : touch a s.length = E0 - A0 + 1 := by unfold touch; omega
    have HT := Lib.hid hT
    have HA0 := Lib.hid hA0
    clear h hs0 hG hP hgn hgoal hA0 hE0 hT
    go_enter Tryz.func92, Tryz.ntmps92
    go_wp2_with fail
    refine Calls.mono cg.out ?_
    rintro e w1 ⟨rfl, hb1⟩
    have HB1 := Lib.hid hb1
    have hz1 := hb1.size
    obtain ⟨c, hc⟩ : ∃ c, c = w1.heap.size := ⟨_, rfl⟩
    obtain ⟨W, hW⟩ : ∃ W, W = w1.alloc (.cells #[.int .i64 G.n, .string (bs G.now), .string (bs G.last)] 102) := ⟨_, rfl⟩
    have hWb : W.heap[c]? = some (.cells #[.int .i64 G.n, .string (bs G.now), .string (bs G.last)] 102 (0, 0)) := by rw [hW, hc]; exact (MapKept.heap_alloc w1 _).1
    have hbW : Below w.heap.size w W := by rw [hW]; exact hb1.alloc (by omega) _
    have hWz : c < W.heap.size := (Array.getElem?_eq_some_iff.1 hWb).1
    have HBW := Lib.hid hbW
    have HWB := Lib.hid hWb
    have hcw : w.heap.size ≤ c := by omega
    clear hb1 cg hbW hWb
    go_wp2_with fail
    rw [← hW, ← hc]
    clear hW hc HB1
    refine Calls.mono (cp _).out ?_
    rintro e w3 ⟨rfl, hb3⟩
    have hD3 : w3.heap[c]? = some (.cells #[.int .i64 G.n, .string (bs G.now), .string (bs G.last)] 102 (0, 0)) := (hb3.block _ hWz).trans HWB.out
    have z0 : w3.cell? ⟨c, 0, none⟩ = some (.int .i64 G.n) := by rw [cell_of_row w3 _ _ _ _ _ hD3]; rfl
    have z1 : w3.cell? ⟨c, 1, none⟩ = some (.string (bs G.now)) := by rw [cell_of_row w3 _ _ _ _ _ hD3]; rfl
    have z2 : w3.cell? ⟨c, 2, none⟩ = some (.string (bs G.last)) := by rw [cell_of_row w3 _ _ _ _ _ hD3]; rfl
    have zf : w3.frozen? ⟨c, 1, none⟩ = false := by unfold World.frozen?; rw [hD3]; rfl
    have hb4 : Below w.heap.size w (w3.setCell ⟨c, 1, none⟩ (.string (bs P))) := (HBW.out.trans (hb3.mono HBW.out.size)).setCell (by simpa using hcw) _
    have hI4 : IsR (w3.setCell ⟨c, 1, none⟩ (.string (bs P))) b L r := H.out.kept (Below.kept hb4) (fun i hi => Nat.not_le.2 (HFL.out i hi))
    have cs := Lib.hid (rset_calls hI4 (by omega) ⟨G.n, P, G.last⟩)
    have HB4 := Lib.hid hb4
    clear hb3 hD3 hb4 hI4 cp HBW HWB
    go_wp2_with fail
    refine Calls.mono cs.out ?_
    rintro e w5 ⟨rfl, hp5⟩
    have HS0 : Hid (PostR (RFoot b L) w b L (r.pre f a s 0) w5) := by
      rw [hpre.out]
      exact PostR.andThen ((Below.kept HB4.out).mono (fun _ hi => Or.inr hi)) (fun _ hi => Or.inl hi) hp5 (fun i e => Or.inl (Or.inl e))
    clear hp5 cs z0 z1 z2 zf HB4
    obtain ⟨i0, hi, hz0, hzz1, hzz2⟩ := info_parts info_sector
    go_wp2_with fail
    go_loopw [9] (fun i wr => ∃ k : Nat, k ≤ E0 - A0 + 1 ∧ i = .int .i64 ((A0 + k : Nat) : Int) ∧ Hid (PostR (RFoot b L) w b L (r.pre f a s k) wr)) (fun i _ => 600000 - (intOf i).toNat)
    case atStart => exact ⟨0, by omega, by simp, HS0⟩
    case round =>
      clear HS0
      obtain ⟨k, hk, rfl, hs2⟩ := hrel
      obtain ⟨n, hnn⟩ : ∃ n, n = A0 + k := ⟨_, rfl⟩
      rw [← hnn]
      by_cases hgo : n ≤ E0
      · have d2 : (n : Int) ≤ (E0 : Int) := by omega
        have hk1E : k + 1 ≤ E0 - A0 + 1 := by omega
        obtain ⟨L1, hi1, hk1, ho1⟩ := hs2.out
        have hql : (r.pre f a s k).q.length ≤ 4194304 + 600000 := by
          have := pend_le f (a / 64) k r.q
          show (pend f (a / 64) k r.q).length ≤ _
          omega
        have cpe := Lib.hid (rpending_calls hi1 (by omega) f n)
        have hsn := pend_snoc f k (a / 64) r.q
        rw [← HA0.out, ← hnn] at hsn
        have hpq : (r.pre f a s k).q = pend f A0 k r.q := by rw [HA0.out]; rfl
        rw [hpq] at cpe hql
        have hfl : (r.pre f a s k).fs.length = (r.pre f a s (k + 1)).fs.length := rfl
        clear hfl
        have HSN := Lib.hid hsn
        have HPQ := Lib.hid hpq
        have c1 := hi1.cells.cell 1 (by omega)
        have fr1 := hi1.cells.frozen 1
        have hqs := hi1.qs
        rw [hpq] at hqs
        have HQS := Lib.hid hqs
        have hlt1 := hi1.lt
        obtain ⟨a7, cap7, hqv, -⟩ := hi1.queue
        rw [hpq] at hqv
        have c1' : wr.cell? ⟨b, 1, none⟩ = some (.slice a7 (pend f A0 k r.q).length cap7) := by rw [c1]; exact congrArg some hqv
        rw [hqv] at HQS
        have HQV := Lib.hid hqv
        have HI1 := Lib.hid hi1
        have HK1 := Lib.hid hk1
        have HO1 := Lib.hid ho1
        have HNN := Lib.hid hnn
        obtain ⟨Q, hQ⟩ : ∃ Q, Q = pend f A0 k r.q := ⟨_, rfl⟩
        rw [← hQ] at cpe hql HSN HPQ c1' HQS HQV
        have HQQ := Lib.hid hQ
        clear hi1 hk1 ho1 hsn hpq c1 hqs hqv hnn hQ hs2
        by_cases hm : (f, n) ∈ Q
        · rw [decide_eq_true hm] at cpe
          have HN : Hid (PostR (RFoot b L) w b L (r.pre f a s (k + 1)) wr) := by
            have e : r.pre f a s (k + 1) = r.pre f a s k := by
              show ({ r with fs := _, q := pend f (a / 64) (k + 1) r.q } : Rk) = { r with fs := _, q := pend f (a / 64) k r.q }
              rw [← HA0.out, HSN.out, if_pos hm, HQQ.out]
            rw [e]
            exact ⟨L1, HI1.out, HK1.out, HO1.out⟩
          clear hm
          go_wp2_with fail
          refine Calls.mono cpe.out ?_
          rintro e w7 ⟨rfl, rfl⟩
          go_wp2_with fail
          go_roundw
          case rel => exact ⟨k + 1, hk1E, by rw [HNN.out]; go_num, HN⟩
          case measure => simp [intOf]; omega
        · rw [decide_eq_false hm] at cpe
          have HM := Lib.hid hm
          clear hm
          go_wp2_with fail
          refine Calls.mono cpe.out ?_
          rintro e w7 ⟨rfl, rfl⟩
          go_wp2_with (at_builtin; refine wpList_append_lies _ rfl _ _ 79 rfl 0 100 i0 (.agg #[.int .i64 0, .int .i64 0]) 2 16 Tryz.underlying79 hi hz0 hzz1 hzz2 rfl (by decide) _ _ _ (by rfl) (HQS.out.alloc _) ⟨wr.heap.size, 0, none⟩ 1 1 [.int .i64 (f : Int), .int .i64 (n : Int)] rfl rfl ?c1 ?c2 (by decide) ?c3 ?c4 ?c5 (wr.heap.size + 1) (by simp) ?_)
          case c1 =>
            intro j u hu
            match j, hu with
            | 0, hu => simp at hu; subst hu; simp [Addr.add]
            | 1, hu => simp at hu; subst hu; simp [Addr.add]
          case c2 => intro u hu; simp at hu; rcases hu with rfl | rfl <;> rfl
          case c3 => unfold maxLen; omega
          case c4 => omega
          case c5 => omega
          intro g2 cap2 w2 hown2 hgrow hlies _
          have HLI := Lib.hid hlies
          clear hlies
          have hgq : Kept (fun i => L1.qv.ownBlock = some i) wr w2 := by
            rw [HQV.out]
            exact ((Kept.refl _ wr).alloc _).grown hgrow (fun i hi => Or.inl hi)
          have hbq : L1.qv.ownBlock ≠ some b := owns_ne_cells HI1.out.qs HI1.out.cells Sector_ne_Disk
          have hc2 : isCells w2 b 81 6 (rcell L1 (r.pre f a s k)) := HI1.out.cells.kept hgq hbq
          have k1 := hc2.cell 1 (by omega)
          have k1f := hc2.frozen 1
          have HC2 := Lib.hid hc2
          have HGQ := Lib.hid hgq
          have HG2 := Lib.hid hgrow
          have HW2 := Lib.hid hown2
          clear hown2 hgrow hgq hbq hc2
          go_wp2_with fail
          go_roundw
          case rel =>
            refine ⟨k + 1, hk1E, by rw [HNN.out]; go_num, ?_⟩
            obtain ⟨v', hv'⟩ : ∃ v', v' = Value.slice (some ⟨g2, 0, none⟩) (Q.length + 1) cap2 := ⟨_, rfl⟩
            have hw2 := HW2.out
            rw [← hv'] at hw2 ⊢
            have e : (r.pre f a s (k + 1)) = { r.pre f a s k with q := Q ++ [(f, n)] } := by
              show ({ r with fs := _, q := pend f (a / 64) (k + 1) r.q } : Rk) = { r with fs := _, q := Q ++ [(f, n)] }
              rw [← HA0.out, HSN.out, if_neg HM.out]
              rfl
            have hks := (Kept.refl (fun i => i = b) w2).setCell (p := ⟨b, 1, none⟩) (Or.inl rfl) v'
            have hkk : Kept (fun i => i = b ∨ L1.qv.ownBlock = some i) wr (w2.setCell ⟨b, 1, none⟩ v') := (HGQ.out.mono (fun i hi => Or.inl (Or.inr hi))).trans (hks.mono (fun i hi => Or.inl (Or.inl hi)))
            have hcl : isCells (w2.setCell ⟨b, 1, none⟩ v') b 81 6 (rcell { L1 with qv := v' } { r.pre f a s k with q := Q ++ [(f, n)] }) := by
              refine (HC2.out.set 1 v').eq ?_
              intro i _
              by_cases e : i = 1
              · subst e; rfl
              · simp [upd, e, rcell]
            have hqn : (w2.setCell ⟨b, 1, none⟩ v').ownsRow 0 100 2 v' (Q ++ [(f, n)]).length (plCells (Q ++ [(f, n)])) := by
              have e2 : plCells (Q ++ [(f, n)]) = plCells Q ++ [.int .i64 (f : Int), .int .i64 (n : Int)] := by simp [plCells]
              rw [List.length_append, List.length_singleton, e2]
              refine owns_kept hw2 hks (fun i hi e => owns_ne_cells hw2 HC2.out Sector_ne_Disk (e ▸ hi))
            show PostR (RFoot b L) w b L (r.pre f a s (k + 1)) (w2.setCell ⟨b, 1, none⟩ v')
            rw [e]
            refine ⟨{ L1 with qv := v' }, ⟨hcl, ?_, hqn, ?_, HI1.out.lb, HI1.out.cb⟩, HK1.out.andThen hkk ?_, ?_⟩
            · refine owns_kept HI1.out.fs hkk (fun i hi e => ?_)
              rcases e with e | e
              · exact owns_ne_cells HI1.out.fs HI1.out.cells File_ne_Disk (e ▸ hi)
              · exact owns_ne_owns HI1.out.qs HI1.out.fs Sector_ne_File e hi
            · refine owns_kept HI1.out.ks hkk (fun i hi e => ?_)
              rcases e with e | e
              · exact owns_ne_cells HI1.out.ks HI1.out.cells int_ne_Disk (e ▸ hi)
              · exact owns_ne_owns HI1.out.qs HI1.out.ks Sector_ne_int e hi
            · rintro i (e | e)
              · exact Or.inl (Or.inl e)
              · exact HO1.out i (Or.inr (Or.inr (Or.inl e)))
            · rintro i (e | e | e | e)
              · exact Or.inl (Or.inl e)
              · exact HO1.out i (Or.inr (Or.inl e))
              · have hz := HK1.out.size
                rw [hv'] at e
                simp only [Value.ownBlock, Option.some.injEq] at e
                rcases HLI.out with h9 | h9
                · exact HO1.out i (Or.inr (Or.inr (Or.inl (by rw [HQV.out, ← e]; exact h9))))
                · exact Or.inr (by omega)
              · exact HO1.out i (Or.inr (Or.inr (Or.inr e)))
          case measure => simp [intOf]; omega
      · have hkE : k = E0 - A0 + 1 := by omega
        have d2 : ¬ (n : Int) ≤ (E0 : Int) := by omega
        rw [hkE, ← HT.out] at hs2
        clear hnn
        go_wp2_with fail
        go_end0
        exact ⟨rfl, hs2.out⟩
end

section
open Go.RowKit

variable {w w' : World} {b : Nat} {L : RL} {r r' : Rk} {S : Nat → Prop} {d : Dk}

theorem keep_of_owns {v : Value} {xs : List Int} (h : w.ownsRow 0 3 1 v xs.length (xs.map (Value.int .i64))) : KeepAt w v xs := by
  have h0 := h
  obtain ⟨hl, ⟨hv, hn⟩ | ⟨g, cap, cur, hv, hg, hh, rest⟩⟩ := h
  · exact Or.inl ⟨⟨none, 0, hv⟩, List.eq_nil_of_length_eq_zero hn⟩
  · refine Or.inr ⟨g, 0, cap, hv, (Array.getElem?_eq_some_iff.1 hh).1, fun i x hx => ?_⟩
    have hi := (List.getElem?_eq_some_iff.1 hx).1
    rw [hv] at h0
    rw [Nat.zero_add, h0.cellAt _ (by omega), List.getElem?_map, hx]
    rfl

theorem own_of_in {v : Value} {i : Nat} (h : inBlock v i) : v.ownBlock = some i := by
  obtain ⟨o, n, c, rfl⟩ := h
  rfl

theorem Rep.now_len (h : Rep r d) {f : Nat} (hf : f < 16) : (getF r.fs f).now.length ≤ 16777216 := by
  rw [h.now f hf, Img.text_length]
  exact h.ok.mx f

theorem Rep.q_len (h : Rep r d) : r.q.length ≤ 4194304 := by
  rw [h.q]
  exact h.ok.q_len

theorem Rep.comes (h : Rep r d) (f a : Int) (s : List UInt8) : ∃ d1, Rep (r.comes f a s) d1 := by
  unfold Rk.comes
  split
  · exact ⟨d, h⟩
  · rename_i h0
    have hc : d.calls ≠ 0 := fun e => h0 (Or.inr (h.armed.trans e))
    split
    · exact ⟨_, h.armed_to _ (fun _ => hc)⟩
    · have hz := h.armed_to 0 (fun e => absurd rfl e)
      by_cases hg : 0 ≤ f ∧ f < 16 ∧ fitsB a s = true
      · rw [if_pos hg]
        have hb := hg.2.2
        unfold fitsB at hb
        rw [decide_eq_true_iff] at hb
        have := hz.add (f := f.toNat) (a := a.toNat) (s := s) (by omega) (by omega)
        exact ⟨_, this.crash _⟩
      · rw [if_neg hg]
        exact ⟨_, hz.crash _⟩

theorem comes_keep (r : Rk) (f a : Int) (s : List UInt8) : (r.comes f a s).keep = r.keep := by
  unfold Rk.comes Rk.crash Rk.add
  repeat' split
  all_goals rfl

theorem PostR.weak {T T2 : Nat → Prop} (h : PostR T w b L r' w') (hT : ∀ i, T i → T2 i) : PostR T2 w b L r' w' := by
  obtain ⟨L', h1, h2, h3⟩ := h
  exact ⟨L', h1, h2.mono (fun i hi => Or.inl (hT i hi)), h3⟩

theorem PostR.step {r1 r2 : Rk} {w1 w2 : World} {T : Nat → Prop} (h1 : PostR (RFoot b L) w b L r1 w1) (h2 : ∀ L1, IsR w1 b L1 r1 → PostR (RFoot b L1) w1 b L1 r2 w2) (hT : ∀ i, RFoot b L i → T i) : PostR T w b L r2 w2 := by
  obtain ⟨L1, hi, hk, ho⟩ := h1
  refine PostR.andThen (hk.mono (fun i hi => Or.inl (hT i hi))) ho (h2 L1 hi) (fun i hi => ?_)
  rcases ho i hi with h | h
  · exact Or.inl (hT i h)
  · exact Or.inr h

theorem foot_own : ∀ i, (fun i => i = b) i → RFoot b L i := fun _ e => Or.inl e

set_option maxHeartbeats 4000000 in
set_option maxRecDepth 100000 in
theorem rcomes_calls (h : IsR w b L r) (hr : Rep r d) (hkl : r.keep.length ≤ 1099511627776) (f a : Int) (s : List UInt8) (hs : s.length ≤ 1099511627776) :
    Calls Tryz.prog 83 #[.pointer (some ⟨b, 0, none⟩), .int .i64 f, .int .i64 a, .string (bs s)] w fun e w' => e = .returned (.tuple #[]) ∧ PostR (RFoot b L) w b L (r.comes f a s) w' := by
  have a3 : w.cell? ⟨b, 3, none⟩ = some (.bool r.down) := h.cells.cell 3 (by omega)
  have a4 : w.cell? ⟨b, 4, none⟩ = some (.int .i64 r.armed) := h.cells.cell 4 (by omega)
  have f4 := h.cells.frozen 4
  have hcb := h.cb
  have H := Lib.hid h
  by_cases hdn : r.down = true
  · have hcm : r.comes f a s = r := by unfold Rk.comes; rw [if_pos (Or.inl hdn)]
    rw [hcm]
    rw [hdn] at a3
    clear h hr hcm hdn
    go_enter Tryz.func83, Tryz.ntmps83
    go_wp2_with fail
    exact bodyPost_ret (v := .tuple #[]) (by simp [results, Tryz.results83, go_sem]) rfl ⟨rfl, PostR.refl H.out⟩
  · have hdf : r.down = false := by simpa using hdn
    rw [hdf] at a3
    by_cases h0 : r.armed = 0
    · have hcm : r.comes f a s = r := by unfold Rk.comes; rw [if_pos (Or.inr h0)]
      rw [hcm]
      rw [h0] at a4
      clear h hr hcm hdn h0 hdf hcb
      go_enter Tryz.func83, Tryz.ntmps83
      go_wp2_with fail
      exact bodyPost_ret (v := .tuple #[]) (by simp [results, Tryz.results83, go_sem]) rfl ⟨rfl, PostR.refl H.out⟩
    · have hI : ∀ m : Nat, m ≤ 9223372036854775807 → IsR (w.setCell ⟨b, 4, none⟩ (.int .i64 m)) b L { r with armed := m } := fun m hm => h.cell rfl rfl rfl h.lb hm ((h.cells.set 4 (.int .i64 m)).eq (fun j _ => by
        by_cases e : j = 4
        · subst e; rfl
        · simp [upd, e, rcell])) ((Kept.refl (fun x => x = b) w).setCell (p := ⟨b, 4, none⟩) (Or.inl rfl) _)
      have hkw : ∀ v, Kept (fun i => i = b) w (w.setCell ⟨b, 4, none⟩ v) := fun v => (Kept.refl (fun x => x = b) w).setCell (p := ⟨b, 4, none⟩) (Or.inl rfl) v
      by_cases h1 : r.armed = 1
      · have hz := hr.armed_to 0 (fun e => absurd rfl e)
        have hi0 := hI 0 (Nat.zero_le _)
        have hcm : r.comes f a s = (if 0 ≤ f ∧ f < 16 ∧ fitsB a s = true then ({ r with armed := 0 } : Rk).add f.toNat a.toNat s else { r with armed := 0 }).crash r.keep := by
          unfold Rk.comes
          rw [if_neg (by rw [hdf]; simp [h0]), if_neg (by simp [h1])]
        rw [hcm]
        rw [h1] at a4
        obtain ⟨r0, hr0⟩ : ∃ r0 : Rk, r0 = { r with armed := 0 } := ⟨_, rfl⟩
        have hk0 : r0.keep = r.keep := by rw [hr0]
        rw [← hr0] at hz hi0 ⊢
        have HZ := Lib.hid hz
        have HI0 := Lib.hid hi0
        have HKW := Lib.hid hkw
        have HK0 := Lib.hid hk0
        have cf := Lib.hid (fun W => rfits_calls a s hs W)
        clear h hr hcm hdn h0 hdf hcb h1 hI hkw hz hi0 hr0 hk0
        -- behind the write, the crash
        have hcrash : ∀ (r1 : Rk) (d1 : Dk) (W : World) (L1 : RL), IsR W b L1 r1 → Rep r1 d1 → r1.keep = r.keep →
            Calls Tryz.prog 24 #[.pointer (some ⟨b, 0, none⟩), L1.kv] W fun e w' => e = .returned (.tuple #[]) ∧ PostR (fun i => i = b) W b L1 (r1.crash r.keep) w' := by
          intro r1 d1 W L1 hi1 hr1 hk1
          have hks := hi1.ks
          have := rcrash_calls hi1 hr1 L1.kv r1.keep (keep_of_owns hks) (fun i hi e => owns_ne_cells hks hi1.cells int_ne_Disk (e ▸ own_of_in hi)) (by rw [hk1]; exact hkl)
          rw [hk1] at this
          exact this
        have HCR := Lib.hid hcrash
        clear hcrash
        have hfin : ∀ (r1 : Rk) (W : World) (L1 : RL), IsR W b L1 r1 → ∃ a5 n5 c5, W.cell? ⟨b, 5, none⟩ = some (.slice a5 n5 c5) ∧ L1.kv = .slice a5 n5 c5 := by
          intro r1 W L1 hi1
          have h5 : W.cell? ⟨b, 5, none⟩ = some L1.kv := hi1.cells.cell 5 (by omega)
          obtain ⟨hl, ⟨hv, hn⟩ | ⟨g, cap, cur, hv, _⟩⟩ := hi1.ks
          · exact ⟨_, _, _, h5.trans (congrArg some hv), hv⟩
          · exact ⟨_, _, _, h5.trans (congrArg some hv), hv⟩
        have HFIN := Lib.hid hfin
        clear hfin
        by_cases hf0 : 0 ≤ f
        · have df0 : decide (0 ≤ f) = true := decide_eq_true hf0
          by_cases hf1 : f ≤ 15
          · have df1 : decide (f ≤ 15) = true := decide_eq_true hf1
            cases hfb : fitsB a s with
            | true =>
              have hfb2 := hfb
              unfold fitsB at hfb2
              rw [decide_eq_true_iff] at hfb2
              rw [hfb] at cf
              rw [if_pos ⟨hf0, by omega, rfl⟩]
              have hnl : (getF r0.fs (f.toNat : Int)).now.length ≤ 16777216 := HZ.out.now_len (by omega)
              have ca := Lib.hid (radd_calls HI0.out (by have := HZ.out.nums.len; omega) HZ.out.q_len f.toNat a.toNat s hnl (by omega) (by omega))
              have e1 : ((f.toNat : Nat) : Int) = f := by omega
              have e2 : ((a.toNat : Nat) : Int) = a := by omega
              rw [e1, e2] at ca
              have hra := HZ.out.add (f := f.toNat) (a := a.toNat) (s := s) (by omega) (by omega)
              have hka : (r0.add f.toNat a.toNat s).keep = r.keep := by
                rw [← HK0.out]
                unfold Rk.add
                split <;> rfl
              have HRA := Lib.hid hra
              have HKA := Lib.hid hka
              clear hfb hfb2 hnl e1 e2 hra hka
              go_enter Tryz.func83, Tryz.ntmps83
              go_wp2_with (go_at_call 91; refine (cf.out _).mono ?_; rintro e w9 ⟨rfl, rfl⟩)
              refine Calls.mono ca.out ?_
              rintro e w1 ⟨rfl, L1, hi1, hk1, ho1⟩
              obtain ⟨a5, n5, c5, h5, hkv⟩ := HFIN.out _ _ _ hi1
              have cc := HCR.out _ _ _ _ hi1 HRA.out HKA.out
              rw [hkv] at cc
              have CC := Lib.hid cc
              have HK1 := Lib.hid hk1
              have HO1 := Lib.hid ho1
              clear hi1 hk1 ho1 hkv cc ca
              go_wp2_with fail
              refine Calls.mono CC.out ?_
              rintro e w2 ⟨rfl, hp2⟩
              have HP2 := Lib.hid hp2
              clear hp2 CC
              go_wp2_with fail
              go_end0
              refine ⟨rfl, PostR.andThen (((HKW.out _).mono (fun i e => Or.inl (Or.inl e))).trans HK1.out) (fun i hi => (HO1.out i hi).imp id (fun h => by simpa [World.setCell] using h)) HP2.out (fun i e => Or.inl (Or.inl e))⟩
            | false =>
              rw [hfb] at cf
              rw [if_neg (fun hh => by simp at hh)]
              have cc := HCR.out _ _ _ _ HI0.out HZ.out HK0.out
              obtain ⟨a5, n5, c5, -, hkv⟩ := HFIN.out _ _ _ HI0.out
              have h5 : w.cell? ⟨b, 5, none⟩ = some (.slice a5 n5 c5) := by rw [← hkv]; exact H.out.cells.cell 5 (by omega)
              rw [hkv] at cc
              have CC := Lib.hid cc
              clear hkv cc hfb
              go_enter Tryz.func83, Tryz.ntmps83
              go_wp2_with (go_at_call 91; refine (cf.out _).mono ?_; rintro e w9 ⟨rfl, rfl⟩)
              refine Calls.mono CC.out ?_
              rintro e w2 ⟨rfl, hp2⟩
              have HP2 := Lib.hid hp2
              clear hp2 CC
              go_wp2_with fail
              go_end0
              exact ⟨rfl, PostR.andThen ((HKW.out _).mono (fun i e => Or.inl (Or.inl e))) (fun _ hi => Or.inl hi) HP2.out (fun i e => Or.inl (Or.inl e))⟩
          · have df1 : decide (f ≤ 15) = false := decide_eq_false hf1
            rw [if_neg (fun hh => by omega)]
            have cc := HCR.out _ _ _ _ HI0.out HZ.out HK0.out
            obtain ⟨a5, n5, c5, -, hkv⟩ := HFIN.out _ _ _ HI0.out
            have h5 : w.cell? ⟨b, 5, none⟩ = some (.slice a5 n5 c5) := by rw [← hkv]; exact H.out.cells.cell 5 (by omega)
            rw [hkv] at cc
            have CC := Lib.hid cc
            clear hkv cc
            go_enter Tryz.func83, Tryz.ntmps83
            go_wp2_with fail
            refine Calls.mono CC.out ?_
            rintro e w2 ⟨rfl, hp2⟩
            have HP2 := Lib.hid hp2
            clear hp2 CC
            go_wp2_with fail
            go_end0
            exact ⟨rfl, PostR.andThen ((HKW.out _).mono (fun i e => Or.inl (Or.inl e))) (fun _ hi => Or.inl hi) HP2.out (fun i e => Or.inl (Or.inl e))⟩
        · have df0 : decide (0 ≤ f) = false := decide_eq_false hf0
          rw [if_neg (fun hh => hf0 hh.1)]
          have cc := HCR.out _ _ _ _ HI0.out HZ.out HK0.out
          obtain ⟨a5, n5, c5, -, hkv⟩ := HFIN.out _ _ _ HI0.out
          have h5 : w.cell? ⟨b, 5, none⟩ = some (.slice a5 n5 c5) := by rw [← hkv]; exact H.out.cells.cell 5 (by omega)
          rw [hkv] at cc
          have CC := Lib.hid cc
          clear hkv cc
          go_enter Tryz.func83, Tryz.ntmps83
          go_wp2_with fail
          refine Calls.mono CC.out ?_
          rintro e w2 ⟨rfl, hp2⟩
          have HP2 := Lib.hid hp2
          clear hp2 CC
          go_wp2_with fail
          go_end0
          exact ⟨rfl, PostR.andThen ((HKW.out _).mono (fun i e => Or.inl (Or.inl e))) (fun _ hi => Or.inl hi) HP2.out (fun i e => Or.inl (Or.inl e))⟩
      · have hcm : r.comes f a s = { r with armed := r.armed - 1 } := by
          unfold Rk.comes
          rw [if_neg (by rw [hdf]; simp [h0]), if_pos h1]
        rw [hcm]
        obtain ⟨m, hm⟩ : ∃ m, m = r.armed - 1 := ⟨_, rfl⟩
        have e1 : (r.armed : Int) - 1 = (m : Int) := by omega
        have hmp : 0 < m := by omega
        have hi0 := hI m (by omega)
        rw [← hm]
        have HI0 := Lib.hid hi0
        have HKW := Lib.hid hkw
        have d5 : (0 : Int) < (m : Int) := by omega
        have d6 : (1 : Int) ≤ (r.armed : Int) := by omega
        have ez : ((r.armed : Int) == 0) = false := by simp; omega
        have ez2 : (r.armed == 0) = false := by simp; omega
        clear h hr hcm hdn h0 hdf h1 hI hkw hi0 hm
        go_enter Tryz.func83, Tryz.ntmps83
        go_wp2_with fail
        exact bodyPost_ret (v := .tuple #[]) (by simp [results, Tryz.results83, go_sem]) rfl ⟨rfl, L, HI0.out, (HKW.out _).mono (fun i e => Or.inl (Or.inl e)), fun _ hi => Or.inl hi⟩
end

end Go.Proofs.YtanecondopbfhaaGreatDoor
