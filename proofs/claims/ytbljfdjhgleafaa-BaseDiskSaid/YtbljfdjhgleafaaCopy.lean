/- Copy. -/
import Derived.Test.YtbljfdjhgleafaaNew
namespace Go.Proofs.Ytbljfdjhgleafaa
open Go.RowKit

variable {w w' : World} {b : Nat} {L : Loc} {d : Dk}

def dl (L : Loc) (d : Dk) : List Value := (List.range 55).map (dcell L d)
theorem dl_length (L : Loc) (d : Dk) : (dl L d).length = 55 := by simp [dl]

theorem kept_slice {w : World} {v : Value} {xs : List Int} (h : KeepAt w v xs) : v.oneCell' = true := by
  rcases h with ⟨⟨a, c, rfl⟩, _⟩ | ⟨g, o, c, rfl, _⟩ <;> rfl

theorem dl_one (h : IsD w b L d) : ∀ v ∈ dl L d, v.oneCell' = true := by
  intro v hv
  obtain ⟨i, hi, rfl⟩ := List.mem_map.1 hv
  unfold dcell
  have := kept_slice h.kp
  repeat' split
  all_goals first | rfl | exact this

theorem run_dl (W : World) (g : Nat) (l : List Value) (hl : l.length = 55) (h1 : ∀ v ∈ l, v.oneCell' = true) (ht : W.there g 0 55) : Sem.run Try.prog (storeCells ⟨g, 0, none⟩ l) W = .ok () (W.setCells g 0 l) := by
  have := run_storeCells_cells (P := Try.prog) g 0 l 0 W (fun j hj => by simpa using (ht j (by omega)).1) (fun j hj => by simpa using (ht j (by omega)).2) h1
  simpa using this

theorem range_dl (h : isCells w b 57 55 (dcell L d)) : w.rangeAt b 0 (dl L d) := by
  intro j v hv
  have hj : j < 55 := by
    have := (List.getElem?_eq_some_iff.1 hv).1
    simpa [dl] using this
  rw [h.cell _ (by omega)]
  rw [dl, List.getElem?_map, List.getElem?_range hj] at hv
  rw [Nat.zero_add]
  exact hv

def zC (i : Nat) : Value :=
  if i = 0 then .map none else if i < 17 then .int .i64 0 else if i = 17 then .map none else if i < 34 then .int .i64 0 else
  if i < 50 then .map none else if i = 50 then .int .i64 0 else if i = 51 then .bool false else if i = 52 then .int .i64 0 else if i = 53 then .int .i64 0 else .slice none 0 0

theorem dl_store {op : Oper} {a : Act} {K : Act → World → Prop} {Q : Exit → Act → World → Prop} {w : World} {o : Obj} {l : List Value} {c : Nat → Value} (hc : l = (List.range 55).map c) (h1 : ∀ v ∈ l, v.oneCell' = true)
    (ho : o = .cells ((List.range 55).map zC).toArray 57 (0, 0))
    (h : ∀ w1, isCells w1 w.heap.size 57 55 c → Kept (fun _ => False) w w1 → w1.heap.size = w.heap.size + 1 → Oper.upon Try.prog op a K Q ((Result.ok () w1).andThen fun _ w' => Result.ok Next.skip w')) :
    Oper.upon Try.prog op a K Q ((Sem.run Try.prog (storeCells ⟨w.heap.size, 0, none⟩ l) (w.alloc o)).andThen fun _ w' => Result.ok Next.skip w') := by
  subst ho
  have h0 : isCells (w.alloc (.cells ((List.range 55).map zC).toArray 57 (0, 0))) w.heap.size 57 55 zC := (MapKept.heap_alloc _ _).1
  have hl : l.length = 55 := by rw [hc]; simp
  rw [run_dl _ _ _ hl h1 (h0.there 0 55 (by omega))]
  refine h _ ((h0.sets l 0 _ _).eq (fun i hi => ?_)) (((Kept.refl _ _).alloc _).setCells (Or.inr (Nat.le_refl _)) _ _) (by simp)
  rw [hl, if_pos (by omega), hc, List.getD_eq_getElem?_getD, List.getElem?_map, Nat.sub_zero, List.getElem?_range hi]
  rfl

theorem img_store {op : Oper} {a : Act} {K : Act → World → Prop} {Q : Exit → Act → World → Prop} {W : World} {g o m : Nat} {sz : Nat → Nat} {c : Nat → Value} (hc : isCells W g 57 55 c) (ho : o + 17 ≤ 55)
    (h : ∀ w1, isCells w1 g 57 55 (fun i => if o ≤ i ∧ i < o + 17 then imgc m sz (i - o) else c i) → Kept (fun x => x = g) W w1 → w1.heap.size = W.heap.size → Oper.upon Try.prog op a K Q ((Result.ok () w1).andThen fun _ w' => Result.ok Next.skip w')) :
    Oper.upon Try.prog op a K Q ((Sem.run Try.prog (storeCells ⟨g, o, none⟩ (imgl m sz)) W).andThen fun _ w' => Result.ok Next.skip w') := by
  have hl : (imgl m sz).length = 17 := by simp [imgl]
  have hr := run_storeCells_cells (P := Try.prog) g o (imgl m sz) 0 W (fun j hj => by have := (hc.there o 17 ho j (by omega)).1; simpa using this) (fun j hj => by have := (hc.there o 17 ho j (by omega)).2; simpa using this) (imgl_one m sz)
  rw [Nat.add_zero] at hr
  rw [hr]
  refine h _ ((hc.sets (imgl m sz) o _ _).eq (fun i hi => ?_)) ((Kept.refl (fun x => x = g) W).setCells (b := g) (Or.inl rfl) (imgl m sz) o) (by simp)
  rw [hl]
  by_cases h1 : o ≤ i ∧ i < o + 17
  · rw [if_pos h1, if_pos h1, imgl_getD _ _ _ (by omega)]
  · rw [if_neg h1, if_neg h1]

theorem range_img (h : isCells w b 57 55 (dcell L d)) : w.rangeAt b 0 (imgl L.mF d.F.sz) := by
  intro j v hv
  have hj : j < 17 := by
    have := (List.getElem?_eq_some_iff.1 hv).1
    simpa [imgl] using this
  rw [h.cell _ (by omega)]
  rw [imgl, List.getElem?_map, List.getElem?_range hj] at hv
  rw [← hv, Nat.zero_add]
  cases j with
  | zero => rfl
  | succ i => rw [show i + 1 = 1 + i by omega, dcell_F L d i (by omega), show 1 + i = i + 1 by omega]; rfl

theorem range_pml (h : isCells w b 57 55 (dcell L d)) : w.rangeAt b 34 (pml L) := by
  intro j v hv
  have hj : j < 16 := by
    have := (List.getElem?_eq_some_iff.1 hv).1
    simpa [pml] using this
  rw [h.cell _ (by omega), dcell_P L d j hj]
  simp [pml, hj] at hv
  rw [hv]

theorem dcell_im (m1 i : Nat) (hi : i < 55) : (if 0 ≤ i ∧ i < 0 + 17 then imgc m1 d.F.sz (i - 0) else dcell L d i) = dcell { L with mF := m1 } d i := by
  by_cases h1 : i < 17
  · rw [if_pos (by omega), Nat.sub_zero]
    cases i with
    | zero => rfl
    | succ j => rw [show j + 1 = 1 + j by omega, dcell_F _ _ j (by omega), show 1 + j = j + 1 by omega]; rfl
  · rw [if_neg (by omega)]
    unfold dcell
    simp only [h1, show i ≠ 0 by omega, if_false]

theorem dcell_im2 (m2 i : Nat) (hi : i < 55) : (if 17 ≤ i ∧ i < 17 + 17 then imgc m2 d.D.sz (i - 17) else dcell L d i) = dcell { L with mD := m2 } d i := by
  by_cases h1 : 17 ≤ i ∧ i < 17 + 17
  · rw [if_pos h1]
    obtain ⟨j, rfl⟩ : ∃ j, i = 17 + j := ⟨i - 17, by omega⟩
    rw [Nat.add_sub_cancel_left]
    cases j with
    | zero => rfl
    | succ j => rw [show 17 + (j + 1) = 18 + j by omega, dcell_D _ _ j (by omega)]; rfl
  · rw [if_neg h1]
    unfold dcell
    by_cases h2 : i < 17
    · simp only [h2, if_true]
    · simp only [h2, show ¬ i < 34 by omega, show i ≠ 17 by omega, if_false]

structure CpS (ws : World) (g : Nat) (L : Loc) (d : Dk) (k : Nat) (W : World) : Prop where
  cells : isCells W g 57 55 (dcell { L with pm := fun f => if f < k then ws.heap.size + f else L.pm f } d)
  size : W.heap.size = ws.heap.size + k
  new : ∀ f, f < k → RankAt W (ws.heap.size + f) 262144 (fun n => if (f, n) ∈ d.q then some (L.rk (f, n)) else none)
  kept : Kept (fun x => x = g) ws W

set_option maxHeartbeats 1000000 in
set_option maxRecDepth 100000 in
theorem copy_calls (h : IsD w b L d) : Calls Try.prog 17 #[.pointer (some ⟨b, 0, none⟩)] w fun r w' => ∃ g L', r = .returned (.pointer (some ⟨g, 0, none⟩)) ∧ IsD w' g L' d ∧ Kept (fun _ => False) w w' ∧ (∀ i, Own g L' i → w.heap.size ≤ i) ∧ (∀ i, inBlock L'.kv i → w.heap.size ≤ i) := by
  obtain ⟨DL, hDL⟩ : ∃ l, l = dl L d := ⟨_, rfl⟩
  have hr := range_dl h.cells
  have hl : DL.length = 55 := by rw [hDL, dl_length]
  have h1 : ∀ v ∈ DL, v.oneCell' = true := by rw [hDL]; exact dl_one h
  rw [← hDL] at hr
  have HR := Lib.hid hr
  have HL := Lib.hid hl
  have HDL := Lib.hid hDL
  have H1 := Lib.hid h1
  have H := Lib.hid h
  have hbl := h.lt
  clear h hr hl hDL h1
  go_enter Try.func17, Try.ntmps17
  go_wp2_with (refine wpList_load_mid rfl 57 _ rfl b 0 rfl DL _ HR.out Try.underlying57 rfl (by rw [HL.out]; kernel_rfl) ?_)
  refine dl_store (c := dcell L d) HDL.out H1.out (by kernel_rfl) (fun w1 hc1 hk1 hz1 => ?_)
  have H2 := H.out.kept hk1 (fun i _ => id)
  obtain ⟨g, hg⟩ : ∃ g, g = w.heap.size := ⟨_, rfl⟩
  rw [← hg] at hc1 hz1 ⊢
  have HG := Lib.hid hg
  have hgb : g ≠ b := by omega
  clear hg
  have hri := range_img H2.cells
  have hcl := Lib.hid (clone_calls L.mF 4194304 d.F.sz d.F.B w1 H2.secF)
  unfold imgV at hcl
  have hl17 : Hid ((imgl L.mF d.F.sz).length = 17) := by show _ = _; simp [imgl]
  have HRI := Lib.hid hri
  have HK1 := Lib.hid hk1
  have HH2 := Lib.hid H2
  have HC1 := Lib.hid hc1
  clear hri hk1 H2 hc1
  go_wp2_with (first
    | (refine wpList_load_mid rfl 53 _ rfl b 0 rfl (imgl L.mF d.F.sz) _ HRI.out Try.underlying53 rfl (by rw [hl17.out]; kernel_rfl) ?_)
    | (go_at_call 40; refine hcl.out.mono ?_; rintro e w2 ⟨m1, rfl, hS2, hm1, hK2⟩))
  have hgw : g < w2.heap.size := by have := hK2.size; omega
  have HS2 := Lib.hid hS2
  have HM1 := Lib.hid hm1
  have HK2 := Lib.hid hK2
  refine img_store (HC1.out.kept hK2 id) (by omega) (fun w3 hc3 hk3 hz3 => ?_)
  have hgw3 : g < w3.heap.size := by omega
  have hc3' := hc3.eq (fun i hi => (dcell_im m1 i hi).symm)
  have k13 : Kept (fun x => x = g) w1 w3 := (HK2.out.mono (fun i hi => hi.elim)).trans hk3
  have hgf : ∀ i, Foot b L i → i ≠ g := fun i hi e => by have := H.out.foot_lt i hi; have := HG.out; omega
  have h3 : IsD w3 b L d := HH2.out.kept k13 hgf
  have hmg : m1 ≠ g := by have := HM1.out; omega
  have HF3 := Lib.hid (HS2.out.kept hk3 hmg)
  have hrg := range_D h3.cells
  have hcl2 := Lib.hid (clone_calls L.mD 4194304 d.D.sz d.D.B w3 h3.secD)
  unfold imgV at hcl2
  have hl17b : Hid ((imgl L.mD d.D.sz).length = 17) := by show _ = _; simp [imgl]
  have HRG := Lib.hid hrg
  have HC3 := Lib.hid hc3'
  have HH3 := Lib.hid h3
  have HK13 := Lib.hid k13
  have HGF := Lib.hid hgf
  clear hc3 hc3' h3 k13 hgf hrg hS2 hm1 hK2 hcl hl17 HRI hk3 hz3
  go_wp2_with (first
    | (refine wpList_load_mid rfl 53 _ rfl b 17 rfl (imgl L.mD d.D.sz) _ HRG.out Try.underlying53 rfl (by rw [hl17b.out]; kernel_rfl) ?_)
    | (go_at_call 40; refine hcl2.out.mono ?_; rintro e w4 ⟨m2, rfl, hS4, hm2, hK4⟩))
  have HS4 := Lib.hid hS4
  have HM2 := Lib.hid hm2
  have HK4 := Lib.hid hK4
  refine img_store (HC3.out.kept hK4 id) (by omega) (fun w5 hc5 hk5 hz5 => ?_)
  have hc5' := hc5.eq (fun i hi => (dcell_im2 (L := { L with mF := m1 }) m2 i hi).symm)
  have k35 : Kept (fun x => x = g) w3 w5 := (HK4.out.mono (fun i hi => hi.elim)).trans hk5
  have h5 : IsD w5 b L d := HH3.out.kept k35 HGF.out
  have hmg2 : m2 ≠ g := by have := HM2.out; omega
  have HF5 := Lib.hid (HF3.out.kept k35 hmg)
  have HD5 := Lib.hid (HS4.out.kept hk5 hmg2)
  have hpl := range_pml h5.cells
  have hl16 : Hid ((pml L).length = 16) := by show _ = _; simp [pml]
  have hg5 : g < w5.heap.size := by have := HK4.out.size; omega
  have HS : Hid (CpS w5 g { L with mF := m1, mD := m2 } d 0 w5) := by
    refine ⟨hc5'.eq (fun i hi => ?_), rfl, fun f hf => absurd hf (Nat.not_lt_zero f), Kept.refl _ _⟩
    have : (fun f => if f < 0 then w5.heap.size + f else L.pm f) = L.pm := funext fun f => if_neg (Nat.not_lt_zero f)
    show dcell { L with mF := m1, mD := m2, pm := fun f => if f < 0 then w5.heap.size + f else L.pm f } d i = _
    rw [this]
  have HPL := Lib.hid hpl
  have HH5 := Lib.hid h5
  have HK35 := Lib.hid k35
  clear hc5 hc5' k35 h5 hpl hS4 hm2 hK4 hcl2 hl17b HRG hk5 hz5
  go_wp2_with (refine wpList_load_mid rfl 55 _ rfl b 34 rfl (pml L) _ HPL.out Try.underlying55 rfl (by rw [hl16.out]; kernel_rfl) ?_)
  go_loopw [25] (fun v wr => ∃ k : Nat, k ≤ 16 ∧ v = .int .i64 k ∧ CpS w5 g { L with mF := m1, mD := m2 } d k wr) (fun v _ => 16 - (intOf v).toNat)
  case atStart => exact ⟨0, by omega, rfl, HS.out⟩
  case round =>
    obtain ⟨k, hk, rfl, hs⟩ := hrel
    by_cases hlt : k < 16
    · have hidx := fun W => pml_index L k hlt W
      have hrk := (HH5.out.rnk k hlt).kept hs.kept (HGF.out _ (Or.inl (Or.inr (Or.inr (Or.inr ⟨k, hlt, rfl⟩)))))
      have hcc := Lib.hid (clone_rank_at (L.pm k) 262144 _ wr hrk)
      have hz := hs.size
      have hgr : g < wr.heap.size := by omega
      have HSS := Lib.hid hs
      have HZ := Lib.hid hz
      clear hs hrk hz
      go_wp2_with fail
      refine Calls.mono hcc.out ?_
      rintro e w6 ⟨rfl, hr6, o, ho⟩
      have hc6 : isCells w6 g 57 55 _ := ho ▸ HSS.out.cells.alloc o
      have hk6 : Kept (fun x => x = g) wr w6 := ho ▸ (Kept.refl _ _).alloc o
      have hz6 : w6.heap.size = wr.heap.size + 1 := by rw [ho]; simp
      have a1 : w6.cell? ⟨g, 34 + k, none⟩ = some (.map (some (L.pm k))) := by
        rw [hc6.cell _ (by omega), dcell_P _ _ k hlt]
        simp
      have a2 := hc6.frozen (34 + k)
      have HC6 := Lib.hid hc6
      have HK6 := Lib.hid hk6
      have HR6 := Lib.hid hr6
      have HZ6 := Lib.hid hz6
      clear hc6 hk6 hr6 ho hcc hz6
      go_wp2_with fail
      go_roundw
      case rel =>
        refine ⟨k + 1, by omega, by go_num, ?_⟩
        have hs := HSS.out
        have hz := HZ.out
        have hz6 := HZ6.out
        refine ⟨(HC6.out.set (34 + k) (.map (some wr.heap.size))).eq (fun i hi => ?_), by show (w6.setCell _ _).heap.size = _; simp [World.setCell]; omega, fun f hf => ?_, (hs.kept.trans HK6.out).setCell (p := ⟨g, 34 + k, none⟩) (Or.inl rfl) _⟩
        · unfold upd
          by_cases e : i = 34 + k
          · subst e
            rw [if_pos rfl, dcell_P _ _ k hlt]
            show Value.map (some (if k < k + 1 then w5.heap.size + k else L.pm k)) = _
            rw [if_pos (by omega), hz]
          · rw [if_neg e]
            unfold dcell
            by_cases e2 : 34 ≤ i ∧ i < 50
            · rw [if_neg (by omega), if_neg (by omega), if_neg (by omega), if_neg (by omega), if_pos (by omega), if_neg (by omega), if_neg (by omega), if_neg (by omega), if_neg (by omega), if_pos (by omega)]
              show Value.map (some (if i - 34 < k + 1 then _ else _)) = .map (some (if i - 34 < k then _ else _))
              by_cases e3 : i - 34 < k
              · rw [if_pos e3, if_pos (by omega)]
              · rw [if_neg e3, if_neg (by omega)]
            · by_cases e3 : i < 34
              · simp only [e3, if_true]
              · simp only [e3, show ¬ i < 50 by omega, if_false]
        · have hsz : ∀ v, (w6.setCell ⟨g, 34 + k, none⟩ v).heap[w5.heap.size + f]? = w6.heap[w5.heap.size + f]? := fun v => Below.heap_setCell _ _ _ _ (by show w5.heap.size + f ≠ g; omega)
          by_cases e : f = k
          · subst e
            have h1 := HR6.out
            rw [hz] at h1
            exact h1.same (hsz _)
          · exact ((hs.new f (by omega)).kept HK6.out (by show ¬ w5.heap.size + f = g; omega)).same (hsz _)
      case measure => simp [intOf]; omega
    · obtain rfl : k = 16 := by omega
      have hrb := HH5.out.kept hs.kept HGF.out
      have a1 : wr.cell? ⟨b, 54, none⟩ = some L.kv := hrb.cells.cell 54 (by omega)
      have hci := Lib.hid (clone_ints wr L.kv d.keep hrb.kp hrb.kl)
      obtain ⟨kv, hkv⟩ : ∃ kv, kv = L.kv := ⟨_, rfl⟩
      rw [← hkv] at a1 hci
      have HKV := Lib.hid hkv
      clear hkv
      have HS6 := Lib.hid hs
      clear hs hrb
      go_wp2_with fail
      refine Calls.mono hci.out ?_
      rintro e w7 ⟨v7, rfl, hkp, hv7, ⟨sa, sn, sc, rfl⟩, hb7⟩
      have hz7 := HS6.out.size
      have hc7 := HS6.out.cells.same (hb7.block g (by omega))
      have a2 : w7.cell? ⟨g, 54, none⟩ = some L.kv := hc7.cell 54 (by omega)
      rw [← HKV.out] at a2
      have a3 := hc7.frozen 54
      have HC7 := Lib.hid hc7
      have HB7 := Lib.hid hb7
      have HKP := Lib.hid hkp
      have HV7 := Lib.hid hv7
      clear hc7 hb7 hkp hv7 hci
      go_wp2_with fail
      go_ret
      have hs := HS6.out
      have hbb := HH5.out
      have hz35 := HK35.out.size
      have hz13 := HK13.out.size
      have hzg := HG.out
      have hm1 := HM1.out
      have hm2 := HM2.out
      have hK4z := HK4.out.size
      have hm1l : m1 < w5.heap.size := HF5.out.lt
      have hm2l : m2 < w5.heap.size := HD5.out.lt
      have hm1l3 : m1 < w3.heap.size := HF3.out.lt
      have kr : Kept (fun x => x = g) w5 (w7.setCell ⟨g, 54, none⟩ (.slice sa sn sc)) :=
        (hs.kept.andThen (Below.kept HB7.out) (fun i hi => Or.inr (by omega))).setCell (p := ⟨g, 54, none⟩) (Or.inl rfl) _
      have kr7 : Kept (fun x => x = g) wr (w7.setCell ⟨g, 54, none⟩ (.slice sa sn sc)) :=
        ((Kept.refl (fun x => x = g) wr).andThen (Below.kept HB7.out) (fun i hi => Or.inr hi)).setCell (p := ⟨g, 54, none⟩) (Or.inl rfl) _
      have kw : Kept (fun x => x = g) w (w7.setCell ⟨g, 54, none⟩ (.slice sa sn sc)) :=
        (((HK1.out.mono (fun i hi => hi.elim)).trans HK13.out).trans HK35.out).trans kr
      refine ⟨g, { L with mF := m1, mD := m2, pm := fun f => w5.heap.size + f, kv := .slice sa sn sc }, rfl, ⟨(HC7.out.set 54 (.slice sa sn sc)).eq (fun i hi => ?_), HF5.out.kept kr hmg, HD5.out.kept kr hmg2, fun f hf => (hs.new f (by omega)).kept kr7 (by omega), HKP.out.kept ((Kept.refl (fun x => x = g) w7).setCell (p := ⟨g, 54, none⟩) (Or.inl rfl) _) (fun i hi e => by have := HV7.out i hi; omega), ?_, ?_, ?_, ?_, ?_, hbb.inc, hbb.top, hbb.rR, hbb.Rb, hbb.lb, hbb.cb, hbb.kl, hbb.ok⟩, kw.mono (fun i hi => Or.inr (by omega)), ?_, ?_⟩
      · unfold upd
        by_cases e : i = 54
        · subst e; rfl
        · rw [if_neg e]
          unfold dcell
          by_cases e2 : 34 ≤ i ∧ i < 50
          · rw [if_neg (by omega), if_neg (by omega), if_neg (by omega), if_neg (by omega), if_pos (by omega), if_neg (by omega), if_neg (by omega), if_neg (by omega), if_neg (by omega), if_pos (by omega)]
            show _ = Value.map (some (if i - 34 < 16 then w5.heap.size + (i - 34) else L.pm (i - 34)))
            rw [if_pos (by omega)]
          · by_cases e3 : i < 34
            · simp only [e3, if_true]
            · simp only [e3, show ¬ i < 50 by omega, if_false]
              repeat' split
              all_goals first | rfl | omega
      · intro i hi ho
        have h1 := HV7.out i hi
        rcases ho with e | e | e | ⟨f, hf, e⟩
        · omega
        · have e' : i = m1 := e
          omega
        · have e' : i = m2 := e
          omega
        · have e' : i = w5.heap.size + f := e
          omega
      · show m1 ≠ m2
        omega
      · intro f hf
        show w5.heap.size + f ≠ m1
        omega
      · intro f hf
        show w5.heap.size + f ≠ m2
        omega
      · intro f f2 hf hf2 e
        have e' : w5.heap.size + f = w5.heap.size + f2 := e
        omega
      · rintro i (e | e | e | ⟨f, hf, e⟩)
        · omega
        · have e' : i = m1 := e
          omega
        · have e' : i = m2 := e
          omega
        · have e' : i = w5.heap.size + f := e
          omega
      · intro i hi
        have h1 := HV7.out i hi
        omega

end Go.Proofs.Ytbljfdjhgleafaa
