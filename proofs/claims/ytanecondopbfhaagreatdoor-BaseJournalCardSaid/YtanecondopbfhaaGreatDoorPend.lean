/- The list of the pending sectors. -/
import Derived.Test.YtanecondopbfhaaGreatDoorSortP
import Derived.Shelf.SlSortCmp.NoneTotal
namespace Go.Proofs.YtanecondopbfhaaGreatDoor
open Go.RowKit Go.Maps

def pml (L : Loc) : List Value := (List.range 16).map fun i => .map (some (L.pm i))

theorem pml_index (L : Loc) (k : Nat) (hk : k < 16) (W : World) : (Instr.index 75 (.agg (pml L).toArray) (.int .i64 (k : Int))).run Tryz.prog W = .ok (.map (some (L.pm k))) W :=
  match k, hk with
  | 0, _ => by kernel_rfl
  | 1, _ => by kernel_rfl
  | 2, _ => by kernel_rfl
  | 3, _ => by kernel_rfl
  | 4, _ => by kernel_rfl
  | 5, _ => by kernel_rfl
  | 6, _ => by kernel_rfl
  | 7, _ => by kernel_rfl
  | 8, _ => by kernel_rfl
  | 9, _ => by kernel_rfl
  | 10, _ => by kernel_rfl
  | 11, _ => by kernel_rfl
  | 12, _ => by kernel_rfl
  | 13, _ => by kernel_rfl
  | 14, _ => by kernel_rfl
  | 15, _ => by kernel_rfl
  | n + 16, h => absurd h (by omega)

theorem info_place : (Tryz.prog.info? 95).map (fun i => (i.zero, i.size, i.bytes)) = some (some (.agg #[.int .i64 0, .int .i64 0]), 2, 16) := by kernel_rfl

def plCells (l : List (Nat × Nat)) : List Value := l.flatMap fun x => [.int .i64 x.1, .int .i64 x.2]

theorem plCells_length (l : List (Nat × Nat)) : (plCells l).length = l.length * 2 := by
  induction l with
  | nil => rfl
  | cons x l ih => simp only [plCells, List.flatMap_cons, List.length_append] at ih ⊢; rw [ih]; simp; omega

theorem plCells_get : ∀ (l : List (Nat × Nat)) (i : Nat) (x : Nat × Nat), l[i]? = some x → (plCells l)[2 * i]? = some (.int .i64 x.1) ∧ (plCells l)[2 * i + 1]? = some (.int .i64 x.2)
  | [], i, x, h => by simp at h
  | y :: l, 0, x, h => by
    simp at h
    subst h
    exact ⟨rfl, rfl⟩
  | y :: l, i + 1, x, h => by
    have := plCells_get l i x (by simpa using h)
    show ([Value.int .i64 y.1, .int .i64 y.2] ++ plCells l)[2 * (i + 1)]? = _ ∧ ([Value.int .i64 y.1, .int .i64 y.2] ++ plCells l)[2 * (i + 1) + 1]? = _
    rw [List.getElem?_append_right (by simp; omega), List.getElem?_append_right (by simp; omega)]
    simpa [show 2 * (i + 1) - 2 = 2 * i by omega, show 2 * (i + 1) + 1 - 2 = 2 * i + 1 by omega] using this

theorem Dk.Ok.q_len {d : Dk} (h : d.Ok) : d.q.length ≤ 4194304 := by
  have := len_le_of_subset d.q ((List.range 16).flatMap fun (f : Nat) => (List.range 262144).map fun (k : Nat) => (f, k)) h.nd (fun x hx => by
    have h1 := h.pq x hx
    have h2 := h.mx x.1
    rw [List.mem_flatMap]
    exact ⟨x.1, List.mem_range.2 h1.1, List.mem_map.2 ⟨x.2, List.mem_range.2 (by omega), rfl⟩⟩)
  rw [List.length_flatMap] at this
  simp only [List.length_map, List.length_range] at this
  exact Nat.le_trans this (by decide)

theorem owns_same {w w' : World} {B : Nat} {e : TypeId} {size : Nat} {v : Value} {n : Nat} {xs : List Value} (h : w.ownsRow B e size v n xs) (hb : ∀ (g : Nat) (cur : Array Value) (t : TypeId), w.heap[g]? = some (Obj.cells cur t (0, 0)) → w'.heap[g]? = w.heap[g]?) : w'.ownsRow B e size v n xs := by
  obtain ⟨hl, h0 | ⟨g, cap, cur, hv, hg, hh, r⟩⟩ := h
  · exact ⟨hl, .inl h0⟩
  · exact ⟨hl, .inr ⟨g, cap, cur, hv, hg, (hb g cur e hh).trans hh, r⟩⟩

/-- The block of a row is one of cells. -/
theorem owns_block {w : World} {B : Nat} {e : TypeId} {size : Nat} {v : Value} {n : Nat} {xs : List Value} (h : w.ownsRow B e size v n xs) {i : Nat} (hi : v.ownBlock = some i) : ∃ cur, w.heap[i]? = some (.cells cur e (0, 0)) ∧ B ≤ i := by
  obtain ⟨hl, ⟨rfl, _⟩ | ⟨g, cap, cur, rfl, hg, hh, r⟩⟩ := h
  · simp [Value.ownBlock] at hi
  · simp [Value.ownBlock] at hi
    subst hi
    exact ⟨cur, hh, hg⟩

/-- The worlds of the loops: acc has been collected; M tells of which sectors that is so. -/
structure PlS (w : World) (b : Nat) (d : Dk) (v : Value) (acc : List (Nat × Nat)) (M : Nat × Nat → Prop) (W : World) : Prop where
  own : W.ownsRow (w.heap.size + 1) 95 2 v acc.length (plCells acc)
  nd : acc.Nodup
  mem : ∀ x, x ∈ acc ↔ x ∈ d.q ∧ M x
  bel : Below w.heap.size w W
  cap : W.heap[w.heap.size]? = some (.cells #[.pointer (some ⟨b, 0, none⟩)] 25 (0, 0))

/-- A slice that holds the sectors of a list. -/
def PlAt (w : World) (v : Value) (l : List (Nat × Nat)) : Prop := ∃ a cap, v = .slice a l.length cap ∧ (l ≠ [] → ∃ g, a = some ⟨g, 0, none⟩ ∧ g < w.heap.size ∧ PlRow w g l)

set_option maxHeartbeats 2000000 in
set_option maxRecDepth 100000 in
theorem pending_calls (w : World) (b : Nat) (L : Loc) (d : Dk) (h : IsD w b L d) :
    Calls Tryz.prog 56 #[.pointer (some ⟨b, 0, none⟩)] w fun e w' => ∃ v, e = .returned v ∧ PlAt w' v d.q ∧ (∀ i, inBlock v i → w.heap.size ≤ i) ∧ Below w.heap.size w w' := by
  obtain ⟨i0, hi, hz0, hz1, hz2⟩ := info_parts info_place
  have H := Lib.hid h
  have hlt := h.lt
  have hql := h.ok.q_len
  have hpm : w.rangeAt b 34 (pml L) := by
    intro j v hv
    have hj : j < 16 := by
      have := (List.getElem?_eq_some_iff.1 hv).1
      simpa [pml] using this
    rw [h.cells.cell _ (by omega), dcell_P L d j hj]
    simp [pml, hj] at hv
    rw [hv]
  clear h
  go_enter Tryz.func56, Tryz.ntmps56
  have hpm1 := World.rangeAt_alloc hpm (.cells #[.pointer (some ⟨b, 0, none⟩)] 25)
  have HPM := Lib.hid hpm1
  clear hpm hpm1
  have hpl : (pml L).length = 16 := by simp [pml]
  have HPL := Lib.hid hpl
  clear hpl
  go_wp2_with (refine wpList_load_mid rfl 75 _ rfl b 34 rfl (pml L) _ HPM.out Tryz.underlying75 rfl (by rw [HPL.out]; kernel_rfl) ?_)
  have HS : Hid (PlS w b d (.slice none 0 0) [] (fun x => x.1 < 0) (w.alloc (.cells #[.pointer (some ⟨b, 0, none⟩)] 25))) :=
    ⟨World.ownsRow_nil _ _ _ _, by simp, fun x => by simp, (Below.refl _ _).alloc (Nat.le_refl _) _, (MapKept.heap_alloc w _).1⟩
  go_loopw [3, 11] (fun v i wr => ∃ (k : Nat) (acc : List (Nat × Nat)), k ≤ 16 ∧ i = .int .i64 k ∧ PlS w b d v acc (fun x => x.1 < k) wr) (fun _ i _ => 16 - (intOf i).toNat)
  case atStart => exact ⟨0, [], by omega, rfl, HS.out⟩
  case round =>
    obtain ⟨k, acc, hk, rfl, hp⟩ := hrel
    by_cases hlt16 : k < 16
    · have hidx := fun W => pml_index L k hlt16 W
      have hz := hp.bel.size
      have hrk := (H.out.rnk k hlt16).same (hp.bel.block _ (H.out.rnk k hlt16).lt)
      obtain ⟨D, hown, hk1, hk2, _⟩ := hrk
      have hpw := hown.lt
      have HK1 := Lib.hid hk1
      have HK2 := Lib.hid hk2
      have HP := Lib.hid hp
      clear hk1 hk2 hp
      go_wp2_with (first
        | (at_range; refine wpList_range_own _ rfl _ 74 rfl 3 3 keyedInt Tryz.underlying74 _ (L.pm k) 262144 D rfl hown ?_; intro w0 hrg0 hg0 hs0)
        | fail)
      have hP0 : Hid (PlS w b d u3 acc (fun x => x.1 < k ∨ x.1 = k ∧ (Maps.has D (.int .i64 (x.2 : Int)) = true ∧ Maps.has D (.int .i64 (x.2 : Int)) = false)) w0) := by
        have hp := HP.out
        have hb0 : Below wr.heap.size wr w0 := ⟨hg0.os, hg0.tape, hg0.output, hg0.size, fun i hi => hg0.block i hi (by simp)⟩
        refine ⟨owns_next hp.own hb0, hp.nd, fun x => ?_, hp.bel.trans (hb0.mono hz), (hb0.block _ (Array.getElem?_eq_some_iff.1 hp.cap).1).trans hp.cap⟩
        rw [hp.mem x]
        constructor
        · rintro ⟨h1, h2⟩; exact ⟨h1, Or.inl h2⟩
        · rintro ⟨h1, h2 | ⟨_, h3, h4⟩⟩
          · exact ⟨h1, h2⟩
          · rw [h3] at h4; exact absurd h4 (by simp)
      obtain ⟨r, hr⟩ : ∃ r, r = wr.heap.size := ⟨_, rfl⟩
      rw [← hr] at hrg0 hs0 ⊢
      have HR := Lib.hid hr
      clear hr
      obtain ⟨wo, ewo⟩ : ∃ wo : World, wo = wr := ⟨_, rfl⟩
      subst ewo
      go_loopw [3, 6] (fun v _ wr => ∃ (acc : List (Nat × Nat)) (left : Lit → Bool) (cnt : Nat), wr.ranges Tryz.prog 3 (plainElem Tryz.prog 3) (L.pm k) r 262144 D left cnt ∧
          PlS w b d v acc (fun x => x.1 < k ∨ x.1 = k ∧ (Maps.has D (.int .i64 (x.2 : Int)) = true ∧ left (.int .i64 (x.2 : Int)) = false)) wr) (fun _ _ wr => wr.rangeLeft (L.pm k) r)
      case atStart => exact ⟨acc, _, _, hrg0, hP0.out⟩
      case round =>
        obtain ⟨acc, left, cnt, hrg, hp⟩ := hrel
        have hzz := hp.bel.size
        go_wp2_with (first
          | (at_next; refine wpList_next_ranges_ii _ rfl _ rfl 3 3 .i64 .i64 keyedInt Tryz.underlying3 Tryz.underlying3 (L.pm k) r 262144 _ _ _ rfl hrg ?_ ?_)
          | fail)
        · intro _ hl0
          have hfin : Hid (PlS w b d u3 acc (fun x => x.1 < k + 1) wr) := by
            refine ⟨hp.own, hp.nd, fun x => ?_, hp.bel, hp.cap⟩
            rw [hp.mem x]
            constructor
            · rintro ⟨h1, h2 | ⟨h2, _⟩⟩
              · exact ⟨h1, by omega⟩
              · exact ⟨h1, by omega⟩
            · rintro ⟨h1, h2⟩
              refine ⟨h1, ?_⟩
              by_cases h3 : x.1 < k
              · exact Or.inl h3
              · have h4 : x.1 = k := by omega
                have h5 := H.out.ok.pq x h1
                have h6 := H.out.ok.mx x.1
                refine Or.inr ⟨h4, ((HK2.out x.2 (by omega)).2 (L.rk (k, x.2)) (by rw [← h4, if_pos h1])).1, hl0 _⟩
          clear hrg hp hl0 hrg0
          go_wp2_with fail
          go_roundw
          case rel => exact ⟨k + 1, acc, by omega, by go_num, hfin.out⟩
          case measure => simp [intOf]; omega
        · intro x c w1 cnt1 hwx hwc hlx hat hrg1 hlt hg1 hs1 hen
          obtain ⟨n, r', ekl, hn, hgn⟩ := HK1.out _ (Maps.has_true_of_atKey hat)
          have hxn : x = (n : Int) := by simpa using ekl
          subst hxn
          have hhas := Maps.has_true_of_atKey hat
          have hkq : (k, n) ∈ d.q := by
            apply Classical.byContradiction
            intro hc
            rw [if_neg hc] at hgn
            exact absurd hgn (by simp)
          have hnacc : (k, n) ∉ acc := by
            rw [hp.mem]
            rintro ⟨_, h2 | ⟨_, _, h4⟩⟩
            · exact Nat.lt_irrefl _ h2
            · rw [hlx] at h4; exact absurd h4 (by simp)
          have hrne : ∀ (g : Nat) (cur : Array Value) (t : TypeId), wr.heap[g]? = some (Obj.cells cur t (0, 0)) → g ≠ r := by
            intro g cur t h1 e
            obtain ⟨es, clock, since, seen, c0, hb, F, hs, hD, hr, rest⟩ := hrg
            rw [e, hr] at h1
            simp at h1
          have hlen2 := len_le_of_subset acc d.q hp.nd (fun y hy => ((hp.mem y).1 hy).1)
          have hrr : w.heap.size < r := by
            have h1 := HR.out
            have h2 := (Array.getElem?_eq_some_iff.1 HP.out.cap).1
            omega
          have hown1 : w1.ownsRow (w.heap.size + 1) 95 2 u3 acc.length (plCells acc) := owns_same hp.own (fun g cur t h1 => hg1.block g (Array.getElem?_eq_some_iff.1 h1).1 (by simp; exact hrne g cur t h1))
          have hbel1 : Below w.heap.size w w1 := hp.bel.grown hg1 hzz (fun i hi => by simp at hi; omega)
          have hcap1 : w1.heap[w.heap.size]? = some (.cells #[.pointer (some ⟨b, 0, none⟩)] 25 (0, 0)) := (hg1.block _ (Array.getElem?_eq_some_iff.1 hp.cap).1 (by simp; exact hrne _ _ _ hp.cap)).trans hp.cap
          have hw1z : w.heap.size + 1 ≤ w1.heap.size := (Array.getElem?_eq_some_iff.1 hcap1).1
          have HRG := Lib.hid hrg
          have HRG1 := Lib.hid hrg1
          have HHAS := Lib.hid hhas
          have HKQ := Lib.hid hkq
          have HNA := Lib.hid hnacc
          have HPP := Lib.hid hp
          have HCAP := Lib.hid hcap1
          have HS1 := Lib.hid hs1
          clear hrg hrg1 hp hhas hkq hnacc hgn ekl hat hlx hrne hg1 hcap1 hrg0 hown hs1
          go_wp2_with (at_builtin; refine wpList_append_own _ rfl _ _ 92 rfl (w.heap.size + 1) 95 i0 (.agg #[.int .i64 0, .int .i64 0]) 2 16 Tryz.underlying92 hi hz0 hz1 hz2 rfl (by decide) _ _ _ rfl (hown1.alloc _) ⟨w1.heap.size, 0, none⟩ 1 1 [.int .i64 k, .int .i64 n] rfl rfl ?c1 ?c2 ?c3 ?c4 ?c5 ?_)
          case c1 =>
            intro j u hu
            match j, hu with
            | 0, hu => simp at hu; subst hu; simp [Addr.add]
            | 1, hu => simp at hu; subst hu; simp [Addr.add]
          case c2 => intro u hu; simp at hu; rcases hu with rfl | rfl <;> rfl
          case c3 => unfold maxLen; omega
          case c4 => omega
          case c5 => simp; omega
          intro v' w2 hown2 hgrow _
          have hcat : plCells acc ++ [Value.int .i64 k, .int .i64 n] = plCells (acc ++ [(k, n)]) := by simp [plCells]
          rw [hcat] at hown2
          have hz1 := HS1.out
          have hmk : ∀ i, i < w1.heap.size → (∀ cur t, w1.heap[i]? ≠ some (Obj.cells cur t (0, 0))) → w2.heap[i]? = w1.heap[i]? := by
            intro i hi hnc
            rw [hgrow.block i (by simp; omega) (fun e => by
              obtain ⟨cur, h1, _⟩ := owns_block hown1 e.symm
              exact hnc cur _ h1)]
            exact Below.heap_alloc _ _ _ hi
          have hrg2 := ranges_same HRG1.out (hmk (L.pm k) HRG1.out.owns.lt (fun cur t e => by
              obtain ⟨es, cl, h1, _⟩ := HRG1.out.owns
              rw [h1] at e
              simp at e)) (hmk r HRG1.out.lt (fun cur t e => by
              obtain ⟨es, clock, since, seen, c0, hb, F, hs, hD, hr, rest⟩ := HRG1.out
              rw [hr] at e
              simp at e))
          have hfin : Hid (PlS w b d v' (acc ++ [(k, n)]) (fun x => x.1 < k ∨ x.1 = k ∧ (Maps.has D (.int .i64 (x.2 : Int)) = true ∧ (left (.int .i64 (x.2 : Int)) && !(Lit.int .i64 (x.2 : Int)).sameKey (.int .i64 (n : Int))) = false)) w2) := by
            refine ⟨by simpa using hown2, ?_, fun x => ?_, (hbel1.alloc (by omega) _).grown hgrow (by simp; omega) (fun i hi => by have := owns_block hown1 hi; obtain ⟨_, _, h3⟩ := this; omega), ?_⟩
            · rw [List.nodup_append]
              refine ⟨HPP.out.nd, by simp, ?_⟩
              intro a ha b' hb'
              simp at hb'
              subst hb'
              intro e
              exact HNA.out (e ▸ ha)
            · rw [List.mem_append, HPP.out.mem x]
              constructor
              · rintro (⟨h1, h2 | ⟨h2, h3, h4⟩⟩ | h1)
                · exact ⟨h1, Or.inl h2⟩
                · exact ⟨h1, Or.inr ⟨h2, h3, by rw [h4]; rfl⟩⟩
                · simp at h1
                  subst h1
                  exact ⟨HKQ.out, Or.inr ⟨rfl, HHAS.out, by simp [WideAt.sameKey_self (show WideAt.IsKeyLit (.int .i64 (n : Int)) from trivial)]⟩⟩
              · rintro ⟨h1, h2 | ⟨h2, h3, h4⟩⟩
                · exact Or.inl ⟨h1, Or.inl h2⟩
                · by_cases h5 : x.2 = n
                  · exact Or.inr (by simp; exact Prod.ext h2 h5)
                  · rw [Maps.sameKey_ne (a := .int .i64 (x.2 : Int)) (b := .int .i64 (n : Int)) (by simp; omega)] at h4
                    simp at h4
                    exact Or.inl ⟨h1, Or.inr ⟨h2, h3, h4⟩⟩
            · rw [hgrow.block _ (by simp; omega) (fun e => by
                obtain ⟨_, _, h3⟩ := owns_block hown1 e.symm
                omega)]
              rw [Below.heap_alloc _ _ _ (by omega)]
              exact HCAP.out
          have HRG2 := Lib.hid hrg2
          clear hown2 hgrow hrg2 hown1 hmk hbel1 hcat
          go_wp2_with fail
          go_roundw
          case rel => exact ⟨_, _, cnt1, HRG2.out, hfin.out⟩
          case measure => rw [HRG2.out.left_eq, HRG.out.left_eq]; exact hlt
    · obtain rfl : k = 16 := by omega
      have hperm : acc.Perm d.q := (List.perm_ext_iff_of_nodup hp.nd H.out.ok.nd).2 (fun x => by
        rw [hp.mem x]
        exact ⟨fun h => h.1, fun h => ⟨h, (H.out.ok.pq x h).1⟩⟩)
      have hD : IsD wr b L d := H.out.kept (Below.kept hp.bel) (fun i hi => Nat.not_le.2 (H.out.foot_lt i hi))
      have hlen : acc.length = d.q.length := hperm.length_eq
      have hcb : wr.cell? ⟨w.heap.size, 0, none⟩ = some (.pointer (some ⟨b, 0, none⟩)) := by rw [cell_of_row _ _ _ _ _ _ hp.cap]; rfl
      have hown := hp.own
      have hcl := (Array.getElem?_eq_some_iff.1 hp.cap).1
      have HBEL := Lib.hid hp.bel
      by_cases hq : d.q = []
      · obtain ⟨a, cap, rfl⟩ : ∃ a cap, u3 = .slice a 0 cap := by
          rw [hq] at hlen
          rcases hown.2 with ⟨h1, _⟩ | ⟨g, cap, cur, h1, _⟩
          · exact ⟨_, _, h1⟩
          · rw [hlen] at h1; exact ⟨_, _, h1⟩
        have hcon := AnyF.slices_SortFunc_none Tryz.sortPl a cap (.func (.func 94) #[] #[.pointer (some ⟨w.heap.size, 0, none⟩)]) wr
        change Calls Tryz.prog 93 _ _ _ at hcon
        have HCON := Lib.hid hcon
        have HQ := Lib.hid hq
        clear hcon hq hp hown hD hperm hlen
        go_wp2_with (go_at_call 93; refine HCON.out.mono ?_; rintro e w' ⟨rfl, rfl⟩)
        go_ret
        refine ⟨_, rfl, ?_, ?_, HBEL.out⟩
        · rw [HQ.out]
          exact ⟨a, cap, rfl, fun h => absurd rfl h⟩
        · rintro i ⟨o, n, c, hi⟩
          simp at hi
      · obtain ⟨g, cap, cur, hv, hg, hh, hn1, hn2, hn3, hn4⟩ : ∃ g cap cur, u3 = .slice (some ⟨g, 0, none⟩) acc.length cap ∧ w.heap.size + 1 ≤ g ∧ wr.heap[g]? = some (.cells cur 95 (0, 0)) ∧ acc.length ≤ cap ∧ cap ≤ maxLen ∧ cur.size = cap * 2 ∧ cur.toList.take (acc.length * 2) = plCells acc := by
          rcases hown.2 with ⟨_, h1⟩ | h1
          · rw [h1] at hlen
            exact absurd (List.eq_nil_of_length_eq_zero hlen.symm) hq
          · exact h1
        subst hv
        have hrow : PlRow wr g acc := by
          intro i x hx
          have hi := (List.getElem?_eq_some_iff.1 hx).1
          obtain ⟨h1, h2⟩ := plCells_get acc i x hx
          refine ⟨⟨?_, hown.frozenAt _⟩, ?_, hown.frozenAt _⟩
          · rw [hown.cellAt _ (by omega), h1]
          · rw [hown.cellAt _ (by omega), h2]
        have hgl := (Array.getElem?_eq_some_iff.1 hh).1
        have hcon := sort_calls wr b w.heap.size g cap L d acc hD hcb hcl hgl hrow (fun h => by have := H.out.foot_lt g (Or.inl h); omega) (by omega) hperm hq (by omega)
        have HCON := Lib.hid hcon
        have HLEN := Lib.hid hlen
        clear hcon hq hp hown hD hperm hlen hrow hh
        go_wp2_with (go_at_call 93; refine HCON.out.mono ?_; rintro e w' ⟨rfl, hrow', hk'⟩)
        go_ret
        refine ⟨_, rfl, ?_, ?_, HBEL.out.trans (hk'.below (by omega) (fun k hk => by omega))⟩
        · rw [HLEN.out]
          exact ⟨_, cap, rfl, fun _ => ⟨g, rfl, Nat.lt_of_lt_of_le hgl hk'.size, hrow'⟩⟩
        · rintro i ⟨o, n, c, hi⟩
          simp at hi
          omega

end Go.Proofs.YtanecondopbfhaaGreatDoor
