/- A crash: the call. -/
import Derived.Test.YtanecondopbfhaaGreatDoorCrash
namespace Go.Proofs.YtanecondopbfhaaGreatDoor
open Go.RowKit

variable {w w' : World} {b : Nat} {L : Loc} {d : Dk}

theorem range_D {W : World} {b : Nat} {L : Loc} {d : Dk} (h : isCells W b 77 55 (dcell L d)) : W.rangeAt b 17 (imgl L.mD d.D.sz) := by
  intro j v hv
  have hj : j < 17 := by
    have := (List.getElem?_eq_some_iff.1 hv).1
    simpa [imgl] using this
  rw [h.cell _ (by omega)]
  rw [imgl, List.getElem?_map, List.getElem?_range hj] at hv
  rw [← hv]
  cases j with
  | zero => rfl
  | succ i => rw [show 17 + (i + 1) = 18 + i by omega, dcell_D L d i (by omega)]; rfl

theorem imgl_getD (m : Nat) (sz : Nat → Nat) (i : Nat) (hi : i < 17) : (imgl m sz).getD i undef = imgc m sz i := by
  rw [List.getD_eq_getElem?_getD, imgl, List.getElem?_map, List.getElem?_range hi]
  rfl

theorem run_img (W : World) (b m : Nat) (sz : Nat → Nat) (ht : W.there b 0 17) : Sem.run Tryz.prog (storeCells ⟨b, 0, none⟩ (imgl m sz)) W = .ok () (W.setCells b 0 (imgl m sz)) := by
  have hl : (imgl m sz).length = 17 := by simp [imgl]
  have := run_storeCells_cells (P := Tryz.prog) b 0 (imgl m sz) 0 W (fun j hj => by simpa using (ht j (by omega)).1) (fun j hj => by simpa using (ht j (by omega)).2) (imgl_one m sz)
  simpa using this

def fallC (c : Nat → Value) (m : Nat) (sz : Nat → Nat) : Nat → Value := fun i => if 0 ≤ i ∧ i < 0 + (imgl m sz).length then (imgl m sz).getD (i - 0) undef else c i

theorem fall_cells (L : Loc) (dk : Dk) (m g i : Nat) (hi : i < 55) :
    dcell { L with mF := m, pm := fun i => g + i } { dk with F := dk.D, q := [] } i = fcell (fallC (dcell L dk) m dk.D.sz) g 16 i := by
  have hl : (imgl m dk.D.sz).length = 17 := by simp [imgl]
  unfold fcell fallC
  rw [hl]
  by_cases h1 : 34 ≤ i ∧ i < 34 + 16
  · rw [if_pos h1]
    unfold dcell
    rw [if_neg (by omega), if_neg (by omega), if_neg (by omega), if_neg (by omega), if_pos (by omega)]
  · rw [if_neg h1]
    by_cases h2 : i < 17
    · rw [if_pos (by omega), Nat.sub_zero, imgl_getD _ _ _ h2]
      cases i with
      | zero => rfl
      | succ j => rw [show j + 1 = 1 + j by omega, dcell_F _ _ j (by omega), show 1 + j = j + 1 by omega]; rfl
    · rw [if_neg (by omega)]
      unfold dcell
      simp only [if_neg h2, show i ≠ 0 by omega, if_false]
      by_cases h3 : i < 50
      · have : i < 34 := by omega
        simp only [if_pos this]
      · simp only [if_neg h3, show ¬ i < 34 by omega, if_false]

theorem IsD.fall {w2 wr w3 w5 : World} {d1 dk : Dk} {m' : Nat} (h2 : IsD w2 b L d1) (hs : CrS w2 b L dk wr) (hS3 : SecAt w3 m' 4194304 dk.D.B) (hm' : wr.heap.size ≤ m') (hK3 : Kept (fun _ => False) wr w3)
    (hfg : FgS (w3.setCells b 0 (imgl m' dk.D.sz)) b (fallC (dcell L dk) m' dk.D.sz) 16 w5) (hR : dk.R = d1.R) (hkp : dk.keep = d1.keep) (hl : dk.lost = d1.lost) (hc : dk.calls = d1.calls) (hok : Dk.Ok { dk with F := dk.D, q := [] }) :
    IsD w5 b { L with mF := m', pm := fun i => w3.heap.size + i } { dk with F := dk.D, q := [] } ∧ Kept (fun x => x = b ∨ x = L.mD) w2 w5 := by
  have hz4 : (w3.setCells b 0 (imgl m' dk.D.sz)).heap.size = w3.heap.size := by simp
  have hbr := hs.cells.lt
  have hmr := hs.secD.lt
  have hm3 := hS3.lt
  have hmb : m' ≠ b := by omega
  have hDb : L.mD ≠ b := map_ne_cells hs.secD hs.cells
  have k4 : Kept (fun x => x = b) w3 (w3.setCells b 0 (imgl m' dk.D.sz)) := (Kept.refl (fun x => x = b) w3).setCells (b := b) (Or.inl rfl) (imgl m' dk.D.sz) 0
  have k5 : Kept (fun x => x = b) w3 w5 := k4.trans hfg.kept
  have kr5 : Kept (fun x => x = b) wr w5 := (hK3.mono (fun i hi => hi.elim)).trans k5
  have k25 : Kept (fun x => x = b ∨ x = L.mD) w2 w5 := hs.kept.trans (kr5.mono (fun i hi => Or.inl (Or.inl hi)))
  have hz := hfg.size
  have hn := hfg.new
  have hcl := hfg.cells
  rw [hz4] at hz hn hcl
  refine ⟨{
    cells := hcl.eq (fun i hi => fall_cells L dk m' w3.heap.size i hi)
    secF := hS3.kept k5 hmb
    secD := hs.secD.kept kr5 hDb
    rnk := fun f hf => ((hn f hf).mono (Nat.zero_le _)).eq (fun k => by simp)
    kp := by
      show KeepAt w5 L.kv dk.keep
      rw [hkp]
      exact h2.kp.kept k25 (fun i hi e => h2.kb i hi (e.elim Or.inl (fun e => Or.inr (Or.inr (Or.inl e)))))
    kb := fun i hi ho => by
      have hi2 : i < w2.heap.size := h2.foot_lt i (Or.inr hi)
      have h23 := hs.kept.size
      have h34 := hK3.size
      rcases ho with e | e | e | ⟨f, hf, e⟩
      · exact h2.kb i hi (Or.inl e)
      · have e' : i = m' := e
        omega
      · exact h2.kb i hi (Or.inr (Or.inr (Or.inl e)))
      · have e' : i = w3.heap.size + f := e
        omega
    FD := by show m' ≠ L.mD; omega
    pF := fun f hf => by show w3.heap.size + f ≠ m'; omega
    pD := fun f hf => by show w3.heap.size + f ≠ L.mD; have := hK3.size; omega
    pp := fun f g hf hg e => by have e' : w3.heap.size + f = w3.heap.size + g := e; omega
    inc := List.Pairwise.nil
    top := fun x hx => absurd hx (by simp)
    rR := by show L.rank ≤ dk.R; rw [hR]; exact h2.rR
    Rb := by show dk.R ≤ _; rw [hR]; exact h2.Rb
    lb := by show dk.lost ≤ _; rw [hl]; exact h2.lb
    cb := by show dk.calls ≤ _; rw [hc]; exact h2.cb
    kl := by show dk.keep.length ≤ _; rw [hkp]; exact h2.kl
    ok := hok }, k25⟩

set_option maxHeartbeats 2000000 in
set_option maxRecDepth 100000 in
theorem crash_calls (h : IsD w b L d) (v : Value) (keep : List Int) (hv : KeepAt w v keep) (hvb : ∀ i, inBlock v i → ¬ Own b L i) (hvl : keep.length ≤ 1099511627776) :
    Calls Tryz.prog 23 #[.pointer (some ⟨b, 0, none⟩), v] w fun e w' => e = .returned (.tuple #[]) ∧ Post w b L (d.crash keep) w' := by
  have a1 : w.cell? ⟨b, 51, none⟩ = some (.bool d.down) := h.cells.cell 51 (by omega)
  have a2 := h.cells.frozen 51
  by_cases hd : d.down = true
  · rw [Dk.crash, if_pos hd]
    rw [hd] at a1
    have H := Lib.hid h
    clear h hd hv hvb
    go_enter Tryz.func23, Tryz.ntmps23
    go_wp2_with fail
    exact bodyPost_ret (v := .tuple #[]) (by simp [results, Tryz.results23, go_sem]) rfl ⟨rfl, Post.same H.out (Kept.refl _ _)⟩
  · have hd' : d.down = false := by simpa using hd
    rw [hd'] at a1
    have a0 := hd'
    obtain ⟨d1, hd1⟩ : ∃ d1 : Dk, d1 = { d with down := true } := ⟨_, rfl⟩
    have hc1 : isCells (w.setCell ⟨b, 51, none⟩ (.bool true)) b 77 55 (dcell L d1) := by
      refine (h.cells.set 51 (.bool true)).eq ?_
      intro i _
      by_cases e : i = 51
      · subst e; rw [hd1]; rfl
      · simp [upd, e, dcell, hd1]
    have hk1 := (Kept.refl (fun x => x = b) w).setCell (p := ⟨b, 51, none⟩) (Or.inl rfl) (.bool true)
    have h1 : IsD (w.setCell ⟨b, 51, none⟩ (.bool true)) b L d1 := h.scal (by rw [hd1]) (by rw [hd1]) (by rw [hd1]) (by rw [hd1]) (by rw [hd1]) (by rw [hd1]; exact h.lb) (by rw [hd1]; exact h.cb) hc1 hk1
    have hcon := Lib.hid (pending_calls _ b L d1 h1)
    have hcz : (w.setCell ⟨b, 51, none⟩ (.bool true)).heap.size = w.heap.size := by simp [World.setCell]
    rw [hcz] at hcon
    obtain ⟨va, vc, rfl⟩ : ∃ va vc, v = .slice va keep.length vc := by
      rcases hv with ⟨⟨a, c, rfl⟩, rfl⟩ | ⟨g, off, cap, rfl, _⟩
      · exact ⟨_, _, rfl⟩
      · exact ⟨_, _, rfl⟩
    have hv1 := hv.kept hk1 (fun i hi e => hvb i hi (Or.inl e))
    have HV1 := Lib.hid hv1
    have HVB := Lib.hid hvb
    have H := Lib.hid h
    have H1 := Lib.hid h1
    have HK1 := Lib.hid hk1
    have HD1 := Lib.hid hd1
    have hql := h.ok.q_len
    clear h hc1 h1 hk1 hcz hv hvb hv1 hd hd' hd1
    go_enter Tryz.func23, Tryz.ntmps23
    go_wp2_with (go_at_call 56; refine hcon.out.mono ?_; rintro e w2 ⟨v2, rfl, ⟨pa, pc, rfl, hpl⟩, hvs, hb2⟩)
    have hb2' : Hid (Below w.heap.size (w.setCell ⟨b, 51, none⟩ (.bool true)) w2) := hb2
    have hI2 : Hid (IsD w2 b L d1) := H1.out.kept (Below.kept hb2) (fun i hi => Nat.not_le.2 (H.out.foot_lt i hi))
    have hV2 : Hid (KeepAt w2 (.slice va keep.length vc) keep) := by
      refine HV1.out.kept (Below.kept hb2) (fun i hi => Nat.not_le.2 ?_)
      rcases HV1.out with ⟨⟨a, c, e⟩, hk⟩ | ⟨g, off, cap, e, hg, _⟩
      · obtain ⟨o, n, c', e'⟩ := hi
        rw [e] at e'
        simp at e'
      · obtain ⟨o, n, c', e'⟩ := hi
        rw [e] at e'
        simp at e'
        rw [← e'.1.1]
        simpa [World.setCell] using hg
    have HPL := Lib.hid hpl
    have HVS := Lib.hid hvs
    have hqd : Hid (d1.q = d.q) := by rw [HD1.out]; rfl
    have hql1 : d1.q.length ≤ 4194304 := by rw [hqd.out]; exact hql
    have hbw : Hid (b < w.heap.size) := H.out.lt
    have hmw : Hid (L.mD < w.heap.size) := H.out.secD.lt
    clear hpl hb2 hcon hvs
    have HS : Hid (CrS w2 b L (d1.upTo keep 0) w2) := ⟨hI2.out.cells, hI2.out.secF, hI2.out.secD, Kept.refl _ _⟩
    go_loopw [16] (fun i wr => ∃ k : Nat, k ≤ d1.q.length ∧ i = .int .i64 k ∧ CrS w2 b L (d1.upTo keep k) wr) (fun i _ => d1.q.length - (intOf i).toNat)
    case atStart => exact ⟨0, Nat.zero_le _, rfl, HS.out⟩
    case round =>
      obtain ⟨k, hk, rfl, hs⟩ := hrel
      by_cases hlt : k < d1.q.length
      · obtain ⟨x, hx⟩ : ∃ x, d1.q[k]? = some x := ⟨_, List.getElem?_eq_getElem hlt⟩
        obtain ⟨g, rfl, hgl, hrow⟩ := HPL.out (fun e => by rw [e] at hlt; simp at hlt)
        have hgw : Hid (w.heap.size ≤ g) := HVS.out g ⟨0, d1.q.length - 1, pc, by rw [Nat.sub_add_cancel (by omega)]⟩
        have hgb : g ≠ b := by have h1 := hgw.out; have h2 := hbw.out; omega
        have hgD : g ≠ L.mD := by have h1 := hgw.out; have h2 := hmw.out; omega
        obtain ⟨⟨r1, _⟩, r3, _⟩ := hrow k x hx
        have hbg : wr.heap[g]? = w2.heap[g]? := hs.kept.block g hgl (by rintro (e | e); exact hgb e; exact hgD e)
        have q1 : wr.cell? ⟨g, 2 * k, none⟩ = some (.int .i64 x.1) := (World.cell?_of_block hbg).trans r1
        have q2 : wr.cell? ⟨g, 2 * k + 1, none⟩ = some (.int .i64 x.2) := (World.cell?_of_block hbg).trans r3
        have q3 : wr.cell? ⟨g, k * 2, none⟩ = some (.int .i64 x.1) := by rw [Nat.mul_comm]; exact q1
        have q4 : wr.cell? ⟨g, k * 2 + 1, none⟩ = some (.int .i64 x.2) := by rw [Nat.mul_comm]; exact q2
        have hok := hI2.out.ok.pq x (List.mem_of_getElem? hx)
        have hmx := hI2.out.ok.mx x.1
        have HX := Lib.hid hx
        have HS1 := Lib.hid hs
        clear r1 r3 hbg hrow hx hs
        have hnext : ∀ W, Kept (fun _ => False) wr W → CrS w2 b L (d1.upTo keep k) W := fun W hK => ⟨HS1.out.cells.kept hK id, HS1.out.secF.kept hK id, HS1.out.secD.kept hK id, HS1.out.kept.trans (hK.mono (fun i hi => hi.elim))⟩
        have HN := Lib.hid hnext
        clear hnext
        by_cases hke : keep = []
        · subst hke
          go_wp2_with fail
          go_roundw
          case rel =>
            refine ⟨k + 1, by omega, by go_num, ?_⟩
            rw [upTo_succ d1 [] k x HX.out, if_neg (by simp [odd])]
            exact HN.out _ ((Kept.refl _ _).alloc _)
          case measure => simp [intOf]; omega
        · have hkl : 0 < keep.length := List.length_pos_iff.2 hke
          obtain ⟨kg, koff, e, hkgl, hkc⟩ : ∃ kg koff, va = some ⟨kg, koff, none⟩ ∧ kg < w2.heap.size ∧ ∀ i y, keep[i]? = some y → w2.cell? ⟨kg, koff + i, none⟩ = some (.int .i64 y) := by
            rcases hV2.out with ⟨⟨a, c, e⟩, hk⟩ | ⟨g, off, cap, e, hg, hc⟩
            · exact absurd hk hke
            · simp at e
              exact ⟨g, off, e.1, hg, hc⟩
          subst e
          have hkn : ¬ Own b L kg := HVB.out kg ⟨koff, keep.length - 1, vc, by rw [Nat.sub_add_cancel (by omega)]⟩
          obtain ⟨j, hj⟩ : ∃ j, j = k % keep.length := ⟨_, rfl⟩
          have hjl : j < keep.length := by rw [hj]; exact Nat.mod_lt _ hkl
          have hj1 : (j : Int) < (keep.length : Int) := by omega
          have hjm : (k : Int) % (keep.length : Int) = (j : Int) := by rw [hj]; rfl
          obtain ⟨y, hy⟩ : ∃ y, keep[j]? = some y := ⟨_, List.getElem?_eq_getElem hjl⟩
          have hky : wr.cell? ⟨kg, koff + j, none⟩ = some (.int .i64 y) := by
            rw [World.cell?_of_block (w := w2) (HS1.out.kept.block kg hkgl (by rintro (e | e); exact hkn (Or.inl e); exact hkn (Or.inr (Or.inr (Or.inl e)))))]
            exact hkc _ y hy
          have hky2 : (wr.alloc (.cells #[.int .i64 x.1, .int .i64 x.2] 95)).cell? ⟨kg, koff + j, none⟩ = some (.int .i64 y) := by
            rw [World.cell?_of_block (w := wr) (Below.heap_alloc _ _ _ (Nat.lt_of_lt_of_le hkgl HS1.out.kept.size))]
            exact hky
          have hod : odd keep k = (y.tmod 2 != 0) := by
            rw [tmod_odd, odd, List.getD_eq_getElem?_getD, ← hj, hy]
            simp [hke]
          have d1' : decide ((0 : Int) < (keep.length : Int)) = true := decide_eq_true (by omega)
          have HOD := Lib.hid hod
          have hk2 : 0 < (keep.length : Int) := by omega
          clear hod hkc hy hke hkn hj
          by_cases hyo : (y.tmod 2 != 0) = true
          · have hcs := Lib.hid (survive_low b L.mF L.mD 4194304 4194304 x.1 x.2 _ _ _ _ _ (wr.alloc (.cells #[.int .i64 x.1, .int .i64 x.2] 95)) (HS1.out.cells.alloc _) rfl rfl (dcell_F L _ x.1 hok.1) (dcell_D L _ x.1 hok.1) (HS1.out.secF.same (Below.heap_alloc _ _ _ HS1.out.secF.lt)) (HS1.out.secD.same (Below.heap_alloc _ _ _ HS1.out.secD.lt)) hI2.out.FD hok.1 (by omega) (by omega))
            unfold pk at hcs
            go_wp2_with fail
            refine Calls.mono hcs.out ?_
            rintro e w3 ⟨rfl, hc3, hF3, hD3, hk3⟩
            have hfin : Hid (CrS w2 b L ((d1.upTo keep k).live x) w3) :=
              ⟨hc3.eq (fun i _ => live_cells L _ x hok.1 i), hF3, hD3.shrink, (HS1.out.kept.alloc _).trans hk3⟩
            clear hc3 hF3 hD3 hk3 hcs
            go_wp2_with fail
            go_roundw
            case rel =>
              refine ⟨k + 1, by omega, by go_num, ?_⟩
              rw [upTo_succ d1 keep k x HX.out, HOD.out, hyo, if_pos rfl]
              exact hfin.out
            case measure => simp [intOf]; omega
          · have hyo' : (y.tmod 2 != 0) = false := by simpa using hyo
            clear hyo
            go_wp2_with fail
            go_roundw
            case rel =>
              refine ⟨k + 1, by omega, by go_num, ?_⟩
              rw [upTo_succ d1 keep k x HX.out, HOD.out, hyo', if_neg (by simp)]
              exact HN.out _ ((Kept.refl _ _).alloc _)
            case measure => simp [intOf]; omega
      · obtain rfl : k = d1.q.length := by omega
        obtain ⟨dk, hdk⟩ : ∃ dk, dk = d1.upTo keep d1.q.length := ⟨_, rfl⟩
        rw [← hdk] at hs
        have hrg := Lib.hid (range_D hs.cells)
        have hl17 : Hid ((imgl L.mD dk.D.sz).length = 17) := by show _ = _; simp [imgl]
        have hcl := Lib.hid (clone_calls L.mD 4194304 dk.D.sz dk.D.B wr hs.secD)
        unfold imgV at hcl
        have HS2 := Lib.hid hs
        have HDK := Lib.hid hdk
        clear hs hdk
        go_wp2_with (first
          | (refine wpList_load_mid rfl 73 _ rfl b 17 rfl (imgl L.mD dk.D.sz) _ hrg.out Tryz.underlying73 rfl (by rw [hl17.out]; kernel_rfl) ?_)
          | (go_at_call 58; refine hcl.out.mono ?_; rintro e w3 ⟨m', rfl, hS3, hm', hK3⟩; have ht3 : Hid (w3.there b 0 17) := ((HS2.out.cells.kept hK3 id).there 0 17 (by omega))))
        have hk4 := (Kept.refl (fun x => x = b) w3).setCells (b := b) (Or.inl rfl) (imgl m' dk.D.sz) 0
        have hc4 := (HS2.out.cells.kept hK3 id).sets (imgl m' dk.D.sz) 0 _ _
        have h51 : w3.frozen? ⟨b, 51, none⟩ = false := (HS2.out.cells.kept hK3 id).frozen 51
        rw [run_img w3 b m' dk.D.sz ht3.out]
        obtain ⟨w4, hw4⟩ : ∃ w4, w4 = w3.setCells b 0 (imgl m' dk.D.sz) := ⟨_, rfl⟩
        rw [← hw4] at hk4 hc4 ⊢
        have hcf := Lib.hid (forget_low b _ w4 hc4)
        have HM' := Lib.hid hm'
        have HK3 := Lib.hid hK3
        have HSS := Lib.hid hS3
        have HW4 := Lib.hid hw4
        clear hk4 hc4 h51 hm' hK3 hS3 hw4 ht3 hcl hrg hl17
        go_wp2_with fail
        refine Calls.mono hcf.out ?_
        rintro e w5 ⟨rfl, hfg⟩
        rw [HW4.out] at hfg
        have hdq : dk = (lives keep 0 d.q).foldl Dk.live d1 := by rw [HDK.out, upTo_all, hqd.out]
        obtain ⟨l1, l2, l3, l4, l5, l6, l7⟩ := live_F d1 (lives keep 0 d.q)
        rw [← hdq] at l1 l2 l3 l4 l5 l6 l7
        have hdf : ({ dk with F := dk.D, q := [] } : Dk) = d.fallen keep := by rw [hdq, HD1.out]; rfl
        obtain ⟨hI5, hk5⟩ := IsD.fall hI2.out HS2.out HSS.out HM'.out HK3.out hfg l3 l7 l5 l6 (by rw [hdf]; exact fallen_ok a0 H.out.ok keep)
        have hca := Lib.hid (arm_calls hI5 0 (.slice none 0 0) [] (Or.inl ⟨⟨_, _, rfl⟩, rfl⟩) (fun i hi => by obtain ⟨o, n, c, e⟩ := hi; simp at e) (by omega) (by simp))
        rw [hdf, fallen_arm a0] at hca
        have HK5 := Lib.hid hk5
        clear hcf hfg hk5 hI5 hdf hdq l1 l2 l3 l4 l5 l6 l7
        go_wp2_with fail
        refine Calls.mono hca.out ?_
        rintro e w6 ⟨rfl, hp⟩
        go_wp2_with fail
        go_end0
        have hwz : (w.setCell ⟨b, 51, none⟩ (.bool true)).heap.size = w.heap.size := by simp [World.setCell]
        have hkk : Kept (Own b L) w w5 := by
          refine ((HK1.out.mono (T := Own b L) own_b).andThen (Below.kept hb2'.out) (fun i hi => Or.inr hi)).andThen HK5.out (fun i hi => Or.inl ?_)
          rcases hi with e | e
          · exact Or.inl e
          · exact Or.inr (Or.inr (Or.inl e))
        have hbz : w.heap.size ≤ wr.heap.size := by
          have h1 := hb2'.out.size
          have h2 := HS2.out.kept.size
          rw [hwz] at h1
          omega
        refine ⟨rfl, Post.trans (L1 := { L with mF := m', pm := fun i => w3.heap.size + i }) hkk (fun i hi => ?_) (fun i hi => Or.inl hi) hp⟩
        rcases hi with e | e | e | ⟨f, hf, e⟩
        · exact Or.inl (Or.inl e)
        · have e' : i = m' := e
          have := HM'.out
          exact Or.inr (by omega)
        · exact Or.inl (Or.inr (Or.inr (Or.inl e)))
        · have e' : i = w3.heap.size + f := e
          have := HK3.out.size
          exact Or.inr (by omega)

end Go.Proofs.YtanecondopbfhaaGreatDoor
