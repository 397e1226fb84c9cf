/- The reference's disk: add, comes, and the calls. -/
import Derived.Test.YtbljfdjhgleafaaRcrash
namespace Go.Proofs.Ytbljfdjhgleafaa
open Go.RowKit

variable {w w' : World} {b : Nat} {L : RL} {r r' : Rk} {S : Nat → Prop} {d : Dk}

theorem pend_le (f n m : Nat) (q : List (Nat × Nat)) : (pend f n m q).length ≤ q.length + m := pend_length f m n q

/-- The disk when its files are put, and k sectors are pending. -/
def Rk.pre (r : Rk) (f a : Nat) (s : List UInt8) (k : Nat) : Rk := { r with fs := setF r.fs ⟨f, putL (getF r.fs f).now a s, (getF r.fs f).last⟩, q := pend f (a / 64) k r.q }

set_option maxHeartbeats 4000000 in
set_option maxRecDepth 100000 in
theorem radd_calls (h : IsR w b L r) (hn : r.fs.length ≤ 100000) (hq : r.q.length ≤ 4194304) (f a : Nat) (s : List UInt8) (hl : (getF r.fs f).now.length ≤ 16777216) (ha : a ≤ 16777216) (hs : s.length ≤ 16777216) :
    Calls Try.prog 56 #[.pointer (some ⟨b, 0, none⟩), .int .i64 f, .int .i64 a, .string (bs s)] w fun e w' => e = .returned (.tuple #[]) ∧ PostR (RFoot b L) w b L (r.add f a s) w' := by
  have hls := bs_size s
  unfold Rk.add
  by_cases hs0 : s = []
  · rw [if_pos hs0]
    subst hs0
    have tE : (bs []).toList.isEmpty = true := by rw [Lib.toList_data, bs_data]; rfl
    have H := Lib.hid h
    clear h
    go_enter Try.func56, Try.ntmps56
    go_wp2_with fail
    exact bodyPost_ret (v := .tuple #[]) (by simp [results, Try.results56, go_sem]) rfl ⟨rfl, PostR.refl H.out⟩
  · rw [if_neg hs0]
    have tE : (bs s).toList.isEmpty = false := by rw [Lib.toList_data, bs_data]; cases s <;> simp_all
    have hsl : 0 < s.length := by cases s <;> simp_all
    have cg := Lib.hid (rget_calls h (by omega) (f : Int))
    have hgn := getF_n r.fs (f : Int)
    obtain ⟨G, hG⟩ : ∃ G, G = getF r.fs (f : Int) := ⟨_, rfl⟩
    rw [← hG] at cg hl hgn
    obtain ⟨P, hP⟩ : ∃ P, P = putL G.now a s := ⟨_, rfl⟩
    have cp := fun W => Lib.hid (put_calls' G.now s a W (by omega) (by omega) (by omega))
    rw [← hP] at cp
    have hpre : Hid (∀ k, r.pre f a s k = { r with fs := setF r.fs ⟨G.n, P, G.last⟩, q := pend f (a / 64) k r.q }) := by
      intro k
      unfold Rk.pre
      rw [← hG, ← hP, hgn]
    have hgoal : Hid (({ r with fs := setF r.fs ⟨f, putL (getF r.fs f).now a s, (getF r.fs f).last⟩, q := pend f (a / 64) (touch a s.length) r.q } : Rk) = r.pre f a s (touch a s.length)) := rfl
    rw [hgoal.out]
    have H := Lib.hid h
    have HFL := Lib.hid h.foot_lt
    have hlt := h.lt
    obtain ⟨A0, hA0⟩ : ∃ A0, A0 = a / 64 := ⟨_, rfl⟩
    obtain ⟨E0, hE0⟩ : ∃ E0, E0 = (a + s.length - 1) / 64 := ⟨_, rfl⟩
    have hAE : A0 ≤ E0 := by rw [hA0, hE0]; exact Nat.div_le_div_right (by omega)
    have hEb : E0 ≤ 524288 := by omega
    have e1 : (a : Int) / 64 = (A0 : Int) := by omega
    have e2 : ((a : Int) + (s.length : Int) - 1) / 64 = (E0 : Int) := by omega
    have hT : touch a s.length = E0 - A0 + 1 := by unfold touch; omega
    have HT := Lib.hid hT
    have HA0 := Lib.hid hA0
    clear h hs0 hG hP hgn hgoal hA0 hE0 hT
    go_enter Try.func56, Try.ntmps56
    go_wp2_with fail
    refine Calls.mono cg.out ?_
    rintro e w1 ⟨rfl, hb1⟩
    have HB1 := Lib.hid hb1
    have hz1 := hb1.size
    obtain ⟨c, hc⟩ : ∃ c, c = w1.heap.size := ⟨_, rfl⟩
    obtain ⟨W, hW⟩ : ∃ W, W = w1.alloc (.cells #[.int .i64 G.n, .string (bs G.now), .string (bs G.last)] 65) := ⟨_, rfl⟩
    have hWb : W.heap[c]? = some (.cells #[.int .i64 G.n, .string (bs G.now), .string (bs G.last)] 65 (0, 0)) := by rw [hW, hc]; exact (MapKept.heap_alloc w1 _).1
    have hbW : Below w.heap.size w W := by rw [hW]; exact hb1.alloc (by omega) _
    have hWz : c < W.heap.size := (Array.getElem?_eq_some_iff.1 hWb).1
    have HBW := Lib.hid hbW
    have HWB := Lib.hid hWb
    have hcw : w.heap.size ≤ c := by omega
    clear hb1 cg hbW hWb
    go_wp2_with fail
    rw [← hW, ← hc]
    clear hW hc HB1
    refine Calls.mono (cp _).out ?_
    rintro e w3 ⟨rfl, hb3⟩
    have hD3 : w3.heap[c]? = some (.cells #[.int .i64 G.n, .string (bs G.now), .string (bs G.last)] 65 (0, 0)) := (hb3.block _ hWz).trans HWB.out
    have z0 : w3.cell? ⟨c, 0, none⟩ = some (.int .i64 G.n) := by rw [cell_of_row w3 _ _ _ _ _ hD3]; rfl
    have z1 : w3.cell? ⟨c, 1, none⟩ = some (.string (bs G.now)) := by rw [cell_of_row w3 _ _ _ _ _ hD3]; rfl
    have z2 : w3.cell? ⟨c, 2, none⟩ = some (.string (bs G.last)) := by rw [cell_of_row w3 _ _ _ _ _ hD3]; rfl
    have zf : w3.frozen? ⟨c, 1, none⟩ = false := by unfold World.frozen?; rw [hD3]; rfl
    have hb4 : Below w.heap.size w (w3.setCell ⟨c, 1, none⟩ (.string (bs P))) := (HBW.out.trans (hb3.mono HBW.out.size)).setCell (by simpa using hcw) _
    have hI4 : IsR (w3.setCell ⟨c, 1, none⟩ (.string (bs P))) b L r := H.out.kept (Below.kept hb4) (fun i hi => Nat.not_le.2 (HFL.out i hi))
    have cs := Lib.hid (rset_calls hI4 (by omega) ⟨G.n, P, G.last⟩)
    have HB4 := Lib.hid hb4
    clear hb3 hD3 hb4 hI4 cp HBW HWB
    go_wp2_with fail
    refine Calls.mono cs.out ?_
    rintro e w5 ⟨rfl, hp5⟩
    have HS0 : Hid (PostR (RFoot b L) w b L (r.pre f a s 0) w5) := by
      rw [hpre.out]
      exact PostR.andThen ((Below.kept HB4.out).mono (fun _ hi => Or.inr hi)) (fun _ hi => Or.inl hi) hp5 (fun i e => Or.inl (Or.inl e))
    clear hp5 cs z0 z1 z2 zf HB4
    obtain ⟨i0, hi, hz0, hzz1, hzz2⟩ := info_parts info_sector
    go_wp2_with fail
    go_loopw [9] (fun i wr => ∃ k : Nat, k ≤ E0 - A0 + 1 ∧ i = .int .i64 ((A0 + k : Nat) : Int) ∧ Hid (PostR (RFoot b L) w b L (r.pre f a s k) wr)) (fun i _ => 600000 - (intOf i).toNat)
    case atStart => exact ⟨0, by omega, by simp, HS0⟩
    case round =>
      clear HS0
      obtain ⟨k, hk, rfl, hs2⟩ := hrel
      obtain ⟨n, hnn⟩ : ∃ n, n = A0 + k := ⟨_, rfl⟩
      rw [← hnn]
      by_cases hgo : n ≤ E0
      · have d2 : (n : Int) ≤ (E0 : Int) := by omega
        have hk1E : k + 1 ≤ E0 - A0 + 1 := by omega
        obtain ⟨L1, hi1, hk1, ho1⟩ := hs2.out
        have hql : (r.pre f a s k).q.length ≤ 4194304 + 600000 := by
          have := pend_le f (a / 64) k r.q
          show (pend f (a / 64) k r.q).length ≤ _
          omega
        have cpe := Lib.hid (rpending_calls hi1 (by omega) f n)
        have hsn := pend_snoc f k (a / 64) r.q
        rw [← HA0.out, ← hnn] at hsn
        have hpq : (r.pre f a s k).q = pend f A0 k r.q := by rw [HA0.out]; rfl
        rw [hpq] at cpe hql
        have hfl : (r.pre f a s k).fs.length = (r.pre f a s (k + 1)).fs.length := rfl
        clear hfl
        have HSN := Lib.hid hsn
        have HPQ := Lib.hid hpq
        have c1 := hi1.cells.cell 1 (by omega)
        have fr1 := hi1.cells.frozen 1
        have hqs := hi1.qs
        rw [hpq] at hqs
        have HQS := Lib.hid hqs
        have hlt1 := hi1.lt
        obtain ⟨a7, cap7, hqv, -⟩ := hi1.queue
        rw [hpq] at hqv
        have c1' : wr.cell? ⟨b, 1, none⟩ = some (.slice a7 (pend f A0 k r.q).length cap7) := by rw [c1]; exact congrArg some hqv
        rw [hqv] at HQS
        have HQV := Lib.hid hqv
        have HI1 := Lib.hid hi1
        have HK1 := Lib.hid hk1
        have HO1 := Lib.hid ho1
        have HNN := Lib.hid hnn
        obtain ⟨Q, hQ⟩ : ∃ Q, Q = pend f A0 k r.q := ⟨_, rfl⟩
        rw [← hQ] at cpe hql HSN HPQ c1' HQS HQV
        have HQQ := Lib.hid hQ
        clear hi1 hk1 ho1 hsn hpq c1 hqs hqv hnn hQ hs2
        by_cases hm : (f, n) ∈ Q
        · rw [decide_eq_true hm] at cpe
          have HN : Hid (PostR (RFoot b L) w b L (r.pre f a s (k + 1)) wr) := by
            have e : r.pre f a s (k + 1) = r.pre f a s k := by
              show ({ r with fs := _, q := pend f (a / 64) (k + 1) r.q } : Rk) = { r with fs := _, q := pend f (a / 64) k r.q }
              rw [← HA0.out, HSN.out, if_pos hm, HQQ.out]
            rw [e]
            exact ⟨L1, HI1.out, HK1.out, HO1.out⟩
          clear hm
          go_wp2_with fail
          refine Calls.mono cpe.out ?_
          rintro e w7 ⟨rfl, rfl⟩
          go_wp2_with fail
          go_roundw
          case rel => exact ⟨k + 1, hk1E, by rw [HNN.out]; go_num, HN⟩
          case measure => simp [intOf]; omega
        · rw [decide_eq_false hm] at cpe
          have HM := Lib.hid hm
          clear hm
          go_wp2_with fail
          refine Calls.mono cpe.out ?_
          rintro e w7 ⟨rfl, rfl⟩
          go_wp2_with (at_builtin; refine wpList_append_lies _ rfl _ _ 59 rfl 0 81 i0 (.agg #[.int .i64 0, .int .i64 0]) 2 16 Try.underlying59 hi hz0 hzz1 hzz2 rfl (by decide) _ _ _ (by rfl) (HQS.out.alloc _) ⟨wr.heap.size, 0, none⟩ 1 1 [.int .i64 (f : Int), .int .i64 (n : Int)] rfl rfl ?c1 ?c2 (by decide) ?c3 ?c4 ?c5 (wr.heap.size + 1) (by simp) ?_)
          case c1 =>
            intro j u hu
            match j, hu with
            | 0, hu => simp at hu; subst hu; simp [Addr.add]
            | 1, hu => simp at hu; subst hu; simp [Addr.add]
          case c2 => intro u hu; simp at hu; rcases hu with rfl | rfl <;> rfl
          case c3 => unfold maxLen; omega
          case c4 => omega
          case c5 => omega
          intro g2 cap2 w2 hown2 hgrow hlies _
          have HLI := Lib.hid hlies
          clear hlies
          have hgq : Kept (fun i => L1.qv.ownBlock = some i) wr w2 := by
            rw [HQV.out]
            exact ((Kept.refl _ wr).alloc _).grown hgrow (fun i hi => Or.inl hi)
          have hbq : L1.qv.ownBlock ≠ some b := owns_ne_cells HI1.out.qs HI1.out.cells Sector_ne_Disk
          have hc2 : isCells w2 b 61 6 (rcell L1 (r.pre f a s k)) := HI1.out.cells.kept hgq hbq
          have k1 := hc2.cell 1 (by omega)
          have k1f := hc2.frozen 1
          have HC2 := Lib.hid hc2
          have HGQ := Lib.hid hgq
          have HG2 := Lib.hid hgrow
          have HW2 := Lib.hid hown2
          clear hown2 hgrow hgq hbq hc2
          go_wp2_with fail
          go_roundw
          case rel =>
            refine ⟨k + 1, hk1E, by rw [HNN.out]; go_num, ?_⟩
            obtain ⟨v', hv'⟩ : ∃ v', v' = Value.slice (some ⟨g2, 0, none⟩) (Q.length + 1) cap2 := ⟨_, rfl⟩
            have hw2 := HW2.out
            rw [← hv'] at hw2 ⊢
            have e : (r.pre f a s (k + 1)) = { r.pre f a s k with q := Q ++ [(f, n)] } := by
              show ({ r with fs := _, q := pend f (a / 64) (k + 1) r.q } : Rk) = { r with fs := _, q := Q ++ [(f, n)] }
              rw [← HA0.out, HSN.out, if_neg HM.out]
              rfl
            have hks := (Kept.refl (fun i => i = b) w2).setCell (p := ⟨b, 1, none⟩) (Or.inl rfl) v'
            have hkk : Kept (fun i => i = b ∨ L1.qv.ownBlock = some i) wr (w2.setCell ⟨b, 1, none⟩ v') := (HGQ.out.mono (fun i hi => Or.inl (Or.inr hi))).trans (hks.mono (fun i hi => Or.inl (Or.inl hi)))
            have hcl : isCells (w2.setCell ⟨b, 1, none⟩ v') b 61 6 (rcell { L1 with qv := v' } { r.pre f a s k with q := Q ++ [(f, n)] }) := by
              refine (HC2.out.set 1 v').eq ?_
              intro i _
              by_cases e : i = 1
              · subst e; rfl
              · simp [upd, e, rcell]
            have hqn : (w2.setCell ⟨b, 1, none⟩ v').ownsRow 0 81 2 v' (Q ++ [(f, n)]).length (plCells (Q ++ [(f, n)])) := by
              have e2 : plCells (Q ++ [(f, n)]) = plCells Q ++ [.int .i64 (f : Int), .int .i64 (n : Int)] := by simp [plCells]
              rw [List.length_append, List.length_singleton, e2]
              refine owns_kept hw2 hks (fun i hi e => owns_ne_cells hw2 HC2.out Sector_ne_Disk (e ▸ hi))
            show PostR (RFoot b L) w b L (r.pre f a s (k + 1)) (w2.setCell ⟨b, 1, none⟩ v')
            rw [e]
            refine ⟨{ L1 with qv := v' }, ⟨hcl, ?_, hqn, ?_, HI1.out.lb, HI1.out.cb⟩, HK1.out.andThen hkk ?_, ?_⟩
            · refine owns_kept HI1.out.fs hkk (fun i hi e => ?_)
              rcases e with e | e
              · exact owns_ne_cells HI1.out.fs HI1.out.cells File_ne_Disk (e ▸ hi)
              · exact owns_ne_owns HI1.out.qs HI1.out.fs Sector_ne_File e hi
            · refine owns_kept HI1.out.ks hkk (fun i hi e => ?_)
              rcases e with e | e
              · exact owns_ne_cells HI1.out.ks HI1.out.cells int_ne_Disk (e ▸ hi)
              · exact owns_ne_owns HI1.out.qs HI1.out.ks Sector_ne_int e hi
            · rintro i (e | e)
              · exact Or.inl (Or.inl e)
              · exact HO1.out i (Or.inr (Or.inr (Or.inl e)))
            · rintro i (e | e | e | e)
              · exact Or.inl (Or.inl e)
              · exact HO1.out i (Or.inr (Or.inl e))
              · have hz := HK1.out.size
                rw [hv'] at e
                simp only [Value.ownBlock, Option.some.injEq] at e
                rcases HLI.out with h9 | h9
                · exact HO1.out i (Or.inr (Or.inr (Or.inl (by rw [HQV.out, ← e]; exact h9))))
                · exact Or.inr (by omega)
              · exact HO1.out i (Or.inr (Or.inr (Or.inr e)))
          case measure => simp [intOf]; omega
      · have hkE : k = E0 - A0 + 1 := by omega
        have d2 : ¬ (n : Int) ≤ (E0 : Int) := by omega
        rw [hkE, ← HT.out] at hs2
        clear hnn
        go_wp2_with fail
        go_end0
        exact ⟨rfl, hs2.out⟩

end Go.Proofs.Ytbljfdjhgleafaa
