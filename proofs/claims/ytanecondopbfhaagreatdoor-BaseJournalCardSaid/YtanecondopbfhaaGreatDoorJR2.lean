/- The reference's disk in this seat: RPut, Rm. -/
import Derived.Test.YtanecondopbfhaaGreatDoorJR1
import Derived.Lib.ConvBytes
import Derived.Laws.IdiomStrings
import Derived.Laws.AppendOwn
namespace Go.Proofs.YtanecondopbfhaaGreatDoor

section
open Go.RowKit

/-! ### A row of bytes none of whose cells is frozen -/

def u8s (l : List UInt8) : List Value := l.map fun x => Value.int .u8 (x.toNat : Int)

def BRow (w : World) (B : Nat) (v : Value) (l : List UInt8) : Prop :=
  ∃ g cap cur fz, v = .slice (some ⟨g, 0, none⟩) l.length cap ∧ B ≤ g ∧ w.heap[g]? = some (.cells cur 5 fz) ∧ (cur.size ≤ fz.1 ∨ fz.2 = 0) ∧ l.length ≤ cap ∧ cap ≤ maxLen ∧ cur.size = cap ∧ cur.toList.take l.length = u8s l

theorem info_u8 : (Tryz.prog.info? 5).map (fun i => (i.zero, i.size, i.bytes)) = some (some (.int .u8 0), 1, 1) := by kernel_rfl

theorem brow_get {cur : Array Value} {l : List UInt8} (h : cur.toList.take l.length = u8s l) {j : Nat} (hj : j < l.length) : cur[j]? = some (.int .u8 (l[j].toNat : Int)) := by
  have h1 : (cur.toList.take l.length)[j]? = (u8s l)[j]? := by rw [h]
  rw [List.getElem?_take_of_lt hj] at h1
  unfold u8s at h1
  rw [List.getElem?_map, List.getElem?_eq_getElem hj] at h1
  simpa using h1

theorem add_lit (g j : Nat) : (⟨g, 0, none⟩ : Addr).add j = ⟨g, j, none⟩ := by
  by_cases hj0 : j = 0 <;> simp [Addr.add, hj0]

theorem BRow.cell {w : World} {B g cap : Nat} {l : List UInt8} (h : BRow w B (.slice (some ⟨g, 0, none⟩) l.length cap) l) (j : Nat) (hj : j < l.length) : w.cell? ⟨g, j, none⟩ = some (.int .u8 (l[j].toNat : Int)) ∧ w.frozen? ⟨g, j, none⟩ = false := by
  obtain ⟨g', cap', cur, fz, hv, _, hg, hfz, hlc, _, hcs, ht⟩ := h
  simp only [Value.slice.injEq, Option.some.injEq, Addr.mk.injEq] at hv
  obtain ⟨⟨rfl, _⟩, _, rfl⟩ := hv
  refine ⟨?_, ?_⟩
  · rw [cell_of_row w g j cur _ _ hg]
    exact brow_get ht hj
  · unfold World.frozen?
    rw [hg]
    obtain ⟨lo, hi⟩ := fz
    simp only [Bool.and_eq_false_iff, decide_eq_false_iff_not]
    simp only at hfz
    omega

theorem BRow.set {w : World} {B g cap : Nat} {l : List UInt8} (h : BRow w B (.slice (some ⟨g, 0, none⟩) l.length cap) l) (j : Nat) (x : UInt8) :
    BRow (w.setCell ⟨g, j, none⟩ (.int .u8 (x.toNat : Int))) B (.slice (some ⟨g, 0, none⟩) l.length cap) (l.set j x) := by
  obtain ⟨g', cap', cur, fz, hv, hB, hg, hfz, hlc, hm, hcs, ht⟩ := h
  simp only [Value.slice.injEq, Option.some.injEq, Addr.mk.injEq] at hv
  obtain ⟨⟨rfl, _⟩, _, rfl⟩ := hv
  refine ⟨g, cap, cur.setIfInBounds j (.int .u8 (x.toNat : Int)), fz, by rw [List.length_set], hB, ?_, by simpa using hfz, by rw [List.length_set]; exact hlc, hm, by simpa using hcs, ?_⟩
  · simp [World.setCell, Array.getElem?_modify, hg]
  · rw [Array.toList_setIfInBounds, List.length_set, List.take_set, ht]
    unfold u8s
    rw [List.map_set]

theorem BRow.lt {w : World} {B : Nat} {v : Value} {l : List UInt8} (h : BRow w B v l) : ∃ g cap, v = .slice (some ⟨g, 0, none⟩) l.length cap ∧ B ≤ g ∧ g < w.heap.size ∧ l.length ≤ cap := by
  obtain ⟨g, cap, cur, fz, hv, hB, hg, hfz, hlc, hm, hcs, ht⟩ := h
  exact ⟨g, cap, hv, hB, (Array.getElem?_eq_some_iff.1 hg).1, hlc⟩

theorem BRow.alloc {w : World} {B : Nat} {v : Value} {l : List UInt8} (h : BRow w B v l) (o : Obj) : BRow (w.alloc o) B v l := by
  obtain ⟨g, cap, cur, fz, hv, hB, hg, rest⟩ := h
  exact ⟨g, cap, cur, fz, hv, hB, (Below.heap_alloc _ _ _ (Array.getElem?_eq_some_iff.1 hg).1).trans hg, rest⟩

/-- One byte is appended. -/
theorem brow_append {w : World} {B : Nat} {v : Value} {l : List UInt8} (h : BRow w B v l) (hB : B ≤ w.heap.size) (ty : TypeId) (a : Addr) (c : Nat) (x : UInt8) (hx : ∀ w' : World, w'.heap = w.heap → w'.cell? (a.add 0) = some (.int .u8 (x.toNat : Int))) (hl : l.length ≤ 1099511627776) :
    ∃ v' w', (Builtin.append_ #[56, 56] ty #[v, .slice (some a) 1 c]).run Tryz.prog w = .ok v' w' ∧ BRow w' B v' (l ++ [x]) ∧ Below B w w' := by
  obtain ⟨i0, hi, hz0, hz1, hz2⟩ := info_parts info_u8
  have h0 := h
  obtain ⟨g, cap, cur, fz, rfl, hBg, hg, hfz, hlc, hm, hcs, ht⟩ := h
  have hgl := (Array.getElem?_eq_some_iff.1 hg).1
  have hnew : ∀ j u, [Value.int .u8 (x.toNat : Int)][j]? = some u → w.cell? (a.add j) = some u := by
    intro j u hu
    match j, hu with
    | 0, hu => simp at hu; subst hu; exact hx w rfl
  by_cases hroom : l.length + 1 ≤ cap
  · have hf := run_firstCells_some (P := Tryz.prog) w i0.size 1 a 1 c [Value.int .u8 (x.toNat : Int)] (by simp [hz1]) hnew
    have hcell : w.cell? ⟨g, l.length, none⟩ = some cur[l.length] := by rw [cell_of_row w g _ cur _ _ hg]; simp
    have hfro : w.frozen? ⟨g, l.length, none⟩ = false := by
      unfold World.frozen?
      rw [hg]
      obtain ⟨lo, hi'⟩ := fz
      simp only [Bool.and_eq_false_iff, decide_eq_false_iff_not]
      simp only at hfz
      omega
    refine ⟨.slice (some ⟨g, 0, none⟩) (l.length + 1) cap, w.setCell ⟨g, l.length, none⟩ (.int .u8 (x.toNat : Int)), ?_, ?_, ?_⟩
    · rw [hz1] at hf
      have hst : (store ((⟨g, l.length, none⟩ : Addr).add 0) (Value.int .u8 (x.toNat : Int))).run Tryz.prog w = .ok () (w.setCell ⟨g, l.length, none⟩ (Value.int .u8 (x.toNat : Int))) := by
        rw [show (⟨g, l.length, none⟩ : Addr).add 0 = ⟨g, l.length, none⟩ from rfl, run_store _ _ _ _ _ rfl, hcell, hfro]
        rfl
      simp [Builtin.append_, run_underlying Tryz.underlying56, sizeOf, typeInfo, hi, hz1, Builtin.lenOf, hroom, hf, add_lit, storeCells, hst]
    · refine ⟨g, cap, cur.setIfInBounds l.length (.int .u8 (x.toNat : Int)), fz, by simp, hBg, ?_, by simpa using hfz, by simpa using hroom, hm, by simpa using hcs, ?_⟩
      · simp [World.setCell, Array.getElem?_modify, hg]
      · rw [Array.toList_setIfInBounds, List.length_append, List.length_singleton, List.take_set, List.take_succ_eq_append_getElem (by simp [hcs]; omega), ht]
        unfold u8s
        rw [List.map_append, List.set_append_right _ _ (by simp), List.length_map, Nat.sub_self]
        rfl
    · exact (Below.refl _ _).setCell (by simpa using hBg) _
  · have hcl : cap = l.length := by omega
    have hr := run_append_grow (P := Tryz.prog) w 56 ty 5 i0 (.int .u8 0) Tryz.underlying56 hi hz0 ⟨g, 0, none⟩ l.length cap (u8s l) (by simp [u8s, hz1]) (fun j u hu => by
      have hj : j < l.length := by have := (List.getElem?_eq_some_iff.1 hu).1; simpa [u8s] using this
      rw [add_lit, (h0.cell j hj).1]
      unfold u8s at hu
      rw [List.getElem?_map, List.getElem?_eq_getElem hj] at hu
      simpa using hu) a 1 c [Value.int .u8 (x.toNat : Int)] (by simp [hz1]) hnew (by omega) (by omega) (growslice_fits (by omega) (by rw [hz2]; omega))
    have hge := grownCap_ge w (l.length + 1) cap 5
    have hcm := grownCap_le_maxLen w (l.length + 1) cap 5 (by simp only [maxLen]; omega)
    generalize grownCap w (l.length + 1) cap 5 = C at *
    refine ⟨_, _, hr, ⟨w.heap.size, C, _, (0, 0), by simp, hB, (MapKept.heap_alloc w.drew _).1, Or.inr rfl, by simpa using hge, hcm, ?_, ?_⟩, ?_⟩
    · simp [size_zeroCells, u8s]
      show l.length + 1 + (C - (l.length + 1)) * 1 = C
      omega
    · simp only [Array.toList_append, List.append_assoc, List.length_append, List.length_singleton]
      rw [← List.append_assoc]
      have e : (u8s l ++ [Value.int .u8 (x.toNat : Int)]) = u8s (l ++ [x]) := by simp [u8s]
      have e2 : l.length + 1 = (u8s (l ++ [x])).length := by simp [u8s]
      rw [e, e2]
      exact List.take_left
    · exact ((Below.refl _ _).drew).alloc hB _

theorem wpList_append_byte {ops : Array Oper} {rest : List Oper} {o : Oper} {a : Act} {w : World} {Q : Exit → Act → World → Prop} (hgd : o.guard = none) (s x : Operand)
    (ho : o.op = .call { callee := .builtin .append, args := #[s, x], argTypes := #[56, 56] }) {B : Nat} {v : Value} {l : List UInt8} (hs : a.eval s = v) (h : BRow w B v l) (hB : B ≤ w.heap.size)
    (ad : Addr) (c : Nat) (hx : a.eval x = .slice (some ad) 1 c) (y : UInt8) (hy : ∀ w' : World, w'.heap = w.heap → w'.cell? (ad.add 0) = some (.int .u8 (y.toNat : Int))) (hl : l.length ≤ 1099511627776)
    (hn : ∀ v' w', BRow w' B v' (l ++ [y]) → Below B w w' → wpList Tryz.prog ops Q rest (a.put o.dst v') w') : wpList Tryz.prog ops Q (o :: rest) a w :=
  wpList_plain hgd fun _ hK => by
    obtain ⟨v', w', hr, h2, h3⟩ := brow_append h hB o.type ad c y hy hl
    unfold Oper.wp execOp
    simp only [ho, resolve, invoke, builtin, Sem.run_bind, Sem.run_pure, Result.andThen_ok, List.map_toArray, List.map_cons, List.map_nil, hs, hx, hr]
    exact hK _ _ (hn v' w' h2 h3)

/-! ### What Put makes -/

def extL (s : List UInt8) (n : Nat) : List UInt8 := s ++ List.replicate (n - s.length) 0

def stL (L : List UInt8) (a : Nat) (t : List UInt8) (i : Nat) : List UInt8 := (List.range i).foldl (fun L j => L.set (a + j) (t.getD j 0)) L

theorem stL_succ (L : List UInt8) (a : Nat) (t : List UInt8) (i : Nat) : stL L a t (i + 1) = (stL L a t i).set (a + i) (t.getD i 0) := by
  unfold stL
  rw [List.range_succ, List.foldl_append]
  rfl

theorem stL_length (L : List UInt8) (a : Nat) (t : List UInt8) : ∀ i, (stL L a t i).length = L.length
  | 0 => rfl
  | i + 1 => by rw [stL_succ, List.length_set, stL_length L a t i]

theorem stL_get (L : List UInt8) (a : Nat) (t : List UInt8) (p : Nat) (hp : p < L.length) : ∀ i, (stL L a t i).getD p 0 = if a ≤ p ∧ p < a + i then t.getD (p - a) 0 else L.getD p 0
  | 0 => by rw [if_neg (by omega)]; rfl
  | i + 1 => by
    rw [stL_succ, List.getD_eq_getElem?_getD, List.getElem?_set]
    have hl := stL_length L a t i
    by_cases h : a + i = p
    · rw [if_pos h, if_pos (by omega), if_pos (by omega), show p - a = i by omega]
      rfl
    · rw [if_neg h, ← List.getD_eq_getElem?_getD, stL_get L a t p hp i]
      by_cases h2 : a ≤ p ∧ p < a + i
      · rw [if_pos h2, if_pos (by omega)]
      · rw [if_neg h2, if_neg (by omega)]

theorem ext_full (s : List UInt8) (n k : Nat) (h : s.length + k = max s.length n) : s ++ List.replicate k 0 = extL s n := by
  unfold extL
  rw [show k = n - s.length by omega]

theorem putL_eq (s t : List UInt8) (a : Nat) (ht : t ≠ []) : stL (extL s (a + t.length)) a t t.length = putL s a t := by
  have hel : (extL s (a + t.length)).length = max s.length (a + t.length) := by unfold extL; simp; omega
  have hpl : (putL s a t).length = max s.length (a + t.length) := by unfold putL; rw [if_neg ht]; simp
  refine List.ext_getElem (by rw [stL_length, hel, hpl]) fun p h1 h2 => ?_
  rw [stL_length] at h1
  have e1 := stL_get (extL s (a + t.length)) a t p h1 t.length
  rw [List.getD_eq_getElem?_getD, List.getElem?_eq_getElem (by rw [stL_length]; exact h1), Option.getD_some] at e1
  rw [e1]
  unfold putL
  simp only [if_neg ht, List.getElem_map, List.getElem_range]
  by_cases h3 : a ≤ p ∧ p < a + t.length
  · rw [if_pos h3, if_pos h3]
  · rw [if_neg h3, if_neg h3]
    unfold extL
    rw [List.getD_eq_getElem?_getD, List.getD_eq_getElem?_getD, List.getElem?_append]
    by_cases h4 : p < s.length
    · rw [if_pos h4]
    · rw [if_neg h4, List.getElem?_eq_none (by omega : s.length ≤ p), List.getElem?_replicate]
      split <;> rfl

set_option maxHeartbeats 2000000 in
set_option maxRecDepth 100000 in
theorem put_calls' (s t : List UInt8) (a : Nat) (w : World) (hs : s.length ≤ 33554432) (ha : a ≤ 33554432) (ht : t.length ≤ 33554432) :
    Calls Tryz.prog 97 #[.string (bs s), .int .i64 a, .string (bs t)] w fun e w' => e = .returned (.string (bs (putL s a t))) ∧ Below w.heap.size w w' := by
  have hls := bs_size s
  have hlt := bs_size t
  by_cases ht0 : t = []
  · subst ht0
    have tE : (bs []).toList.isEmpty = true := by rw [Lib.toList_data, bs_data]; rfl
    have hp : putL s a [] = s := rfl
    rw [hp]
    clear hp
    go_enter Tryz.func97, Tryz.ntmps97
    go_wp2_with fail
    go_ret
    exact ⟨rfl, Below.refl _ _⟩
  · have tE : (bs t).toList.isEmpty = false := by rw [Lib.toList_data, bs_data]; cases t <;> simp_all
    have HP := Lib.hid (putL_eq s t a ht0)
    have hconv := Lib.run_convert_string_bytes (P := Tryz.prog) w 9 56 5 (bs s) Tryz.underlying9 Tryz.underlying56 Tryz.underlying5
    rw [hls] at hconv
    have hb1 : BRow (Lib.bytesWorld w 5 (bs s)) w.heap.size (.slice (some ⟨w.heap.size, 0, none⟩) s.length (grownCap w s.length 0 5)) (s ++ List.replicate 0 0) := by
      have hge := grownCap_ge w s.length 0 5
      refine ⟨w.heap.size, _, _, _, by simp, Nat.le_refl _, Lib.bytesWorld_at_new w _ _, Or.inl (Nat.le_refl _), by simpa using hge, grownCap_le_maxLen w s.length 0 5 (by simp only [maxLen]; omega), ?_, ?_⟩
      · have h2 : (bs s).data.size = s.length := hls
        simp [Lib.bytesCells, hls, h2]
        omega
      · simp only [List.replicate_zero, List.append_nil]
        unfold Lib.bytesCells
        rw [Array.toList_append, Array.toList_map, bs_data]
        exact List.take_left' (by simp)
    have hbw : Below w.heap.size w (Lib.bytesWorld w 5 (bs s)) :=
      ⟨by simp [Lib.bytesWorld, World.freeze, World.alloc, World.drew, -World.alloc_eq, -World.drew_eq], by simp [Lib.bytesWorld, World.freeze, World.alloc, World.drew, -World.alloc_eq, -World.drew_eq], by simp [Lib.bytesWorld, World.freeze, World.alloc, World.drew, -World.alloc_eq, -World.drew_eq], by rw [Lib.bytesWorld_size]; omega, fun k hk => Lib.bytesWorld_at_old w _ _ k hk⟩
    generalize Lib.bytesWorld w 5 (bs s) = W1 at *
    generalize grownCap w s.length 0 5 = C0 at *
    have HR := Lib.hid hb1
    have HB := Lib.hid hbw
    clear hb1 hbw
    have htl : 0 < t.length := by cases t <;> simp_all
    clear ht0
    obtain ⟨N, hN⟩ : ∃ N, N = max s.length (a + t.length) := ⟨_, rfl⟩
    have hN1 : s.length ≤ N := by omega
    have hN2 : a + t.length ≤ N := by omega
    have hN3 : N ≤ 67108864 := by omega
    have HN := Lib.hid hN
    clear hN
    go_enter Tryz.func97, Tryz.ntmps97
    go_wp2_with fail
    go_loopw [7] (fun v wr => ∃ (k : Nat) (g cap : Nat), s.length + k ≤ N ∧ v = .slice (some ⟨g, 0, none⟩) (s.length + k) cap ∧ Hid (BRow wr w.heap.size v (s ++ List.replicate k 0)) ∧ Hid (Below w.heap.size w wr)) (fun v _ => 67108864 - (match v with | .slice _ n _ => n | _ => 0))
    case atStart => exact ⟨0, w.heap.size, C0, by omega, rfl, HR, HB⟩
    case round =>
      clear HR HB
      obtain ⟨k, g, cap, hk, rfl, hr, hb⟩ := hrel
      obtain ⟨T, hT⟩ : ∃ T, T = s ++ List.replicate k (0 : UInt8) := ⟨_, rfl⟩
      rw [← hT] at hr
      have hTl : T.length = s.length + k := by rw [hT]; simp
      have HT := Lib.hid hT
      clear hT
      have HTL := Lib.hid hTl
      clear hTl
      by_cases hlt : s.length + k < a + t.length
      · have hd : ((s.length + k : Nat) : Int) < (a : Int) + (t.length : Int) := by omega
        have hz := hb.out.size
        go_wp2_with (at_builtin; refine wpList_append_byte rfl _ _ rfl rfl (hr.out.alloc _) (by simp; omega) ⟨wr.heap.size, 0, none⟩ 1 rfl 0 ?c1 ?c2 ?_)
        case c1 =>
          intro w' hw'
          rw [add_lit]
          unfold World.cell?
          rw [hw', (MapKept.heap_alloc wr _).1]
          rfl
        case c2 => have := HTL.out; omega
        intro v' w2 hr2 hb2
        have hcat : T ++ [0] = s ++ List.replicate (k + 1) (0 : UInt8) := by rw [HT.out, List.append_assoc, ← List.replicate_succ']
        rw [hcat] at hr2
        obtain ⟨g2, cap2, hv2, -, -, -⟩ := hr2.lt
        have hv3 : v' = .slice (some ⟨g2, 0, none⟩) (s.length + (k + 1)) cap2 := by rw [hv2]; simp
        have HR2 := Lib.hid hr2
        have HB2 : Hid (Below w.heap.size w w2) := (((hb.out).trans ((Below.refl _ _).alloc hz _)).trans hb2)
        clear hr2 hb2 hv2 hcat
        go_wp2_with fail
        go_roundw
        case rel => exact ⟨k + 1, g2, cap2, by have := HN.out; omega, hv3, HR2, HB2⟩
        case measure => rw [hv3]; simp; omega
      · have hd : ¬ ((s.length + k : Nat) : Int) < (a : Int) + (t.length : Int) := by omega
        have hkN : s.length + k = max s.length (a + t.length) := by have := HN.out; omega
        have hz := hb.out.size
        obtain ⟨L, hL⟩ : ∃ L, L = extL s (a + t.length) := ⟨_, rfl⟩
        have hLl : L.length = s.length + k := by rw [hL, ← ext_full s (a + t.length) k hkN]; simp
        have hr0 : Hid (BRow wr w.heap.size (.slice (some ⟨g, 0, none⟩) (s.length + k) cap) (stL L a t 0)) := by
          show BRow wr w.heap.size (.slice (some ⟨g, 0, none⟩) (s.length + k) cap) (stL L a t 0)
          have := hr.out
          rw [HT.out, ext_full s (a + t.length) k hkN, ← hL] at this
          exact this
        rw [← hL] at HP
        generalize s.length + k = n at *
        have hn2 : a + t.length ≤ n := by omega
        have hn3 : n ≤ 67108864 := by omega
        have HL := Lib.hid hLl
        have HBW := Lib.hid hb.out
        clear hr hb hL hLl hkN HT HTL T
        go_wp2_with fail
        go_loopw [8] (fun i wr2 => ∃ j : Nat, j ≤ t.length ∧ i = .int .i64 j ∧ Hid (BRow wr2 w.heap.size (.slice (some ⟨g, 0, none⟩) n cap) (stL L a t j)) ∧ Hid (Below w.heap.size w wr2)) (fun i _ => t.length - (intOf i).toNat)
        case atStart => exact ⟨0, by omega, rfl, hr0, HBW⟩
        case round =>
          obtain ⟨j, hj, rfl, hr, hb⟩ := hrel
          have hjl : (stL L a t j).length = n := by rw [stL_length]; exact HL.out
          have hr1 : BRow wr w.heap.size (.slice (some ⟨g, 0, none⟩) (stL L a t j).length cap) (stL L a t j) := by rw [hjl]; exact hr.out
          by_cases hlt2 : j < t.length
          · obtain ⟨x0, hc1, hc2⟩ : ∃ x0, wr.cell? ⟨g, a + j, none⟩ = some x0 ∧ wr.frozen? ⟨g, a + j, none⟩ = false := ⟨_, hr1.cell (a + j) (by omega)⟩
            obtain ⟨g', cap', hv', hg1, hg2, hcap⟩ := hr1.lt
            simp only [Value.slice.injEq, Option.some.injEq, Addr.mk.injEq] at hv'
            obtain ⟨⟨rfl, _⟩, _, rfl⟩ := hv'
            have hset := hr1.set (a + j) (t.getD j 0)
            rw [← stL_succ, hjl] at hset
            have HSET := Lib.hid hset
            have hbj : j < (bs t).size := by omega
            have hget := bs_get t j hbj
            have d2 : (j : Int) < (t.length : Int) := by omega
            have HB3 : Hid (Below w.heap.size w (wr.setCell ⟨g, a + j, none⟩ (.int .u8 ((t.getD j 0).toNat : Int)))) := hb.out.setCell (by simpa using hg1) _
            obtain ⟨y, hy⟩ : ∃ y, y = t.getD j 0 := ⟨_, rfl⟩
            rw [← hy] at hget HSET HB3
            have hs1 : ((a : Int) + (j : Int)) = ((a + j : Nat) : Int) := by omega
            have hs2 : a + j < n := by omega
            obtain ⟨q, hq⟩ : ∃ q, q = a + j := ⟨_, rfl⟩
            rw [← hq] at hs1 hs2 hc1 hc2 HSET HB3
            clear hset hy hq hr1 hjl hr
            go_wp2_with fail
            go_roundw
            case rel => exact ⟨j + 1, by omega, by go_num, HSET, HB3⟩
            case measure => simp [intOf]; omega
          · obtain rfl : j = t.length := by omega
            have hfull : stL L a t t.length = putL s a t := HP.out
            have hback := run_convert_bytes_back (P := Tryz.prog) wr 56 9 5 ⟨g, 0, none⟩ cap (stL L a t t.length) Tryz.underlying56 Tryz.underlying5 Tryz.underlying9 (fun i hi => by
              rw [add_lit]
              exact (hr1.cell i hi).1)
            rw [hjl, hfull] at hback
            have hbk : (⟨(putL s a t).toArray⟩ : ByteArray) = bs (putL s a t) := rfl
            rw [hbk] at hback
            clear hfull hbk hr1 hjl hr
            go_wp2_with fail
            go_ret
            exact ⟨rfl, hb.out⟩
end

section
open Go.RowKit

def rfc (fs : List Rf) : List Value := fs.flatMap fun x => [.int .i64 x.n, .string (bs x.now), .string (bs x.last)]

def rfv (x : Rf) : List Value := [.int .i64 x.n, .string (bs x.now), .string (bs x.last)]

theorem rfc_length (l : List Rf) : (rfc l).length = l.length * 3 := by
  induction l with
  | nil => rfl
  | cons x l ih => simp only [rfc, List.flatMap_cons, List.length_append] at ih ⊢; rw [ih]; simp; omega

theorem rfc_get : ∀ (l : List Rf) (i : Nat) (x : Rf), l[i]? = some x → ∀ j v, (rfv x)[j]? = some v → (rfc l)[3 * i + j]? = some v
  | [], i, x, h => by simp at h
  | y :: l, 0, x, h => by
    intro j v hv
    simp at h
    subst h
    show (rfv y ++ rfc l)[3 * 0 + j]? = _
    rw [List.getElem?_append_left (by have := (List.getElem?_eq_some_iff.1 hv).1; omega)]
    simpa using hv
  | y :: l, i + 1, x, h => by
    intro j v hv
    have := rfc_get l i x (by simpa using h) j v hv
    show (rfv y ++ rfc l)[3 * (i + 1) + j]? = _
    have hl : (rfv y).length = 3 := rfl
    rw [List.getElem?_append_right (by omega), hl, show 3 * (i + 1) + j - 3 = 3 * i + j by omega]
    exact this

/-- Where a reference disk lies: the slices of its files, of its sectors, and of those to keep. -/
structure RL where
  fv : Value
  qv : Value
  kv : Value

def rcell (L : RL) (r : Rk) (i : Nat) : Value :=
  if i = 0 then L.fv else if i = 1 then L.qv else if i = 2 then .int .i64 r.lost else if i = 3 then .bool r.down else if i = 4 then .int .i64 r.armed else L.kv

structure IsR (w : World) (b : Nat) (L : RL) (r : Rk) : Prop where
  cells : isCells w b 81 6 (rcell L r)
  fs : w.ownsRow 0 102 3 L.fv r.fs.length (rfc r.fs)
  qs : w.ownsRow 0 100 2 L.qv r.q.length (plCells r.q)
  ks : w.ownsRow 0 3 1 L.kv r.keep.length (r.keep.map (Value.int .i64))
  lb : r.lost ≤ 9223372036854775807
  cb : r.armed ≤ 9223372036854775807

def RFoot (b : Nat) (L : RL) (i : Nat) : Prop := i = b ∨ L.fv.ownBlock = some i ∨ L.qv.ownBlock = some i ∨ L.kv.ownBlock = some i

variable {w w' : World} {b : Nat} {L : RL} {r r' : Rk} {S : Nat → Prop}

theorem owns_kept {B : Nat} {e : TypeId} {size n : Nat} {v : Value} {xs : List Value} (h : w.ownsRow B e size v n xs) (hk : Kept S w w') (hS : ∀ i, v.ownBlock = some i → ¬ S i) : w'.ownsRow B e size v n xs := by
  obtain ⟨hl, h0 | ⟨g, cap, cur, rfl, hg, hh, rest⟩⟩ := h
  · exact ⟨hl, .inl h0⟩
  · exact ⟨hl, .inr ⟨g, cap, cur, rfl, hg, (hk.block g (Array.getElem?_eq_some_iff.1 hh).1 (hS g rfl)).trans hh, rest⟩⟩

theorem owns_lt {B : Nat} {e : TypeId} {size n : Nat} {v : Value} {xs : List Value} (h : w.ownsRow B e size v n xs) {i : Nat} (hi : v.ownBlock = some i) : i < w.heap.size := (h.lt i hi).2

/-- Rows of different types lie in different blocks. -/
theorem owns_ne_cells {B n : Nat} {e T : TypeId} {size m : Nat} {v : Value} {xs : List Value} {c : Nat → Value} (h : w.ownsRow B e size v m xs) (hc : isCells w b T n c) (hT : e ≠ T) : v.ownBlock ≠ some b := by
  intro hi
  obtain ⟨cur, h1, _⟩ := owns_block h hi
  rw [hc] at h1
  simp at h1
  exact hT h1.2.symm

theorem owns_ne_owns {B B' : Nat} {e e' : TypeId} {size size' m m' : Nat} {v v' : Value} {xs xs' : List Value} (h : w.ownsRow B e size v m xs) (h' : w.ownsRow B' e' size' v' m' xs') (hT : e ≠ e') {i : Nat} (hi : v.ownBlock = some i) : v'.ownBlock ≠ some i := by
  intro hi'
  obtain ⟨cur, h1, _⟩ := owns_block h hi
  obtain ⟨cur', h2, _⟩ := owns_block h' hi'
  rw [h1] at h2
  simp at h2
  exact hT h2.2

theorem IsR.lt (h : IsR w b L r) : b < w.heap.size := h.cells.lt

theorem IsR.foot_lt (h : IsR w b L r) : ∀ i, RFoot b L i → i < w.heap.size := by
  rintro i (rfl | hi | hi | hi)
  · exact h.lt
  · exact owns_lt h.fs hi
  · exact owns_lt h.qs hi
  · exact owns_lt h.ks hi

theorem IsR.kept (h : IsR w b L r) (hk : Kept S w w') (hS : ∀ i, RFoot b L i → ¬ S i) : IsR w' b L r :=
  ⟨h.cells.kept hk (hS _ (Or.inl rfl)), owns_kept h.fs hk (fun i hi => hS i (Or.inr (Or.inl hi))), owns_kept h.qs hk (fun i hi => hS i (Or.inr (Or.inr (Or.inl hi)))), owns_kept h.ks hk (fun i hi => hS i (Or.inr (Or.inr (Or.inr hi)))), h.lb, h.cb⟩

theorem File_ne_Disk : (102 : TypeId) ≠ 81 := by decide

theorem Sector_ne_Disk : (100 : TypeId) ≠ 81 := by decide

theorem int_ne_Disk : (3 : TypeId) ≠ 81 := by decide

theorem Sector_ne_File : (100 : TypeId) ≠ 102 := by decide

theorem Sector_ne_int : (100 : TypeId) ≠ 3 := by decide

/-- Only the disk's own cells turn. -/
theorem IsR.cell (h : IsR w b L r) {r' : Rk} (hf : r'.fs = r.fs) (hq : r'.q = r.q) (hkeep : r'.keep = r.keep) (hlb : r'.lost ≤ 9223372036854775807) (hcb : r'.armed ≤ 9223372036854775807) (hc : isCells w' b 81 6 (rcell L r'))
    (hk : Kept (fun x => x = b) w w') : IsR w' b L r' :=
  ⟨hc, by rw [hf]; exact owns_kept h.fs hk (fun i hi e => owns_ne_cells h.fs h.cells File_ne_Disk (e ▸ hi)), by rw [hq]; exact owns_kept h.qs hk (fun i hi e => owns_ne_cells h.qs h.cells Sector_ne_Disk (e ▸ hi)),
    by rw [hkeep]; exact owns_kept h.ks hk (fun i hi e => owns_ne_cells h.ks h.cells int_ne_Disk (e ▸ hi)), hlb, hcb⟩

def PostR (T : Nat → Prop) (w : World) (b : Nat) (L : RL) (r' : Rk) (w' : World) : Prop :=
  ∃ L', IsR w' b L' r' ∧ Kept T w w' ∧ ∀ i, RFoot b L' i → RFoot b L i ∨ w.heap.size ≤ i

/-- The reference disk r at block b, in no block of S. -/
def MineR (S : Nat → Prop) (w : World) (b : Nat) (r : Rk) : Prop := ∃ L, IsR w b L r ∧ (∀ i, RFoot b L i → ¬ S i) ∧ ∀ i, S i → i < w.heap.size

theorem MineR.post {T : Nat → Prop} (hf : ∀ i, RFoot b L i → ¬ S i) (hs : ∀ i, S i → i < w.heap.size) (hT : ∀ i, T i → RFoot b L i) (h : PostR T w b L r' w') : MineR S w' b r' ∧ Kept (fun i => ¬ S i) w w' := by
  obtain ⟨L', hi, hk, ho⟩ := h
  refine ⟨⟨L', hi, fun i hfi hSi => ?_, fun i hSi => Nat.lt_of_lt_of_le (hs i hSi) hk.size⟩, hk.mono (fun i hi => Or.inl (hf i (hT i hi)))⟩
  have h1 := hs i hSi
  rcases ho i hfi with h2 | h2
  · exact hf i h2 hSi
  · omega

theorem MineR.kept {T : Nat → Prop} (h : MineR S w b r) (hk : Kept T w w') (hT : ∀ i, T i → S i ∨ w.heap.size ≤ i) : MineR S w' b r := by
  obtain ⟨L, hi, hf, hs⟩ := h
  refine ⟨L, hi.kept hk (fun i hfi hTi => ?_), hf, fun i hSi => Nat.lt_of_lt_of_le (hs i hSi) hk.size⟩
  rcases hT i hTi with h1 | h1
  · exact hf i hfi h1
  · have := hi.foot_lt i hfi
    omega

theorem MineR.weak {S' : Nat → Prop} (h : MineR S w b r) (hs : ∀ i, S' i → S i) : MineR S' w b r := by
  obtain ⟨L, hi, hf, hS⟩ := h
  exact ⟨L, hi, fun i h1 h2 => hf i h1 (hs i h2), fun i h1 => hS i (hs i h1)⟩

/-- The slice of the files. -/
theorem IsR.file (h : IsR w b L r) : ∃ a cap, L.fv = .slice a r.fs.length cap ∧ ∀ k x, r.fs[k]? = some x → ∃ g, a = some ⟨g, 0, none⟩ ∧ g < w.heap.size ∧ g ≠ b ∧ ∀ j v, (rfv x)[j]? = some v → w.cell? ⟨g, k * 3 + j, none⟩ = some v := by
  have hfs := h.fs
  have hne := owns_ne_cells h.fs h.cells File_ne_Disk
  obtain ⟨hl, ⟨hv, h0⟩ | ⟨g, cap, cur, hv, hg, hh, rest⟩⟩ := h.fs
  · refine ⟨none, 0, by rw [hv, h0], fun k x hx => ?_⟩
    have := (List.getElem?_eq_some_iff.1 hx).1
    omega
  · refine ⟨some ⟨g, 0, none⟩, cap, hv, fun k x hx => ⟨g, rfl, (Array.getElem?_eq_some_iff.1 hh).1, fun e => hne (by rw [hv, e]; rfl), fun j v hj => ?_⟩⟩
    have hk := (List.getElem?_eq_some_iff.1 hx).1
    have hj3 : j < 3 := (List.getElem?_eq_some_iff.1 hj).1
    rw [hv] at hfs
    rw [hfs.cellAt _ (by omega)]
    rw [show k * 3 + j = 3 * k + j by omega]
    exact rfc_get r.fs k x hx j v hj

theorem getF_step (fs : List Rf) (f : Int) (k : Nat) (x : Rf) (hx : fs[k]? = some x) : getF (fs.drop k) f = if x.n = f then x else getF (fs.drop (k + 1)) f := by
  have hk := (List.getElem?_eq_some_iff.1 hx).1
  have he := (List.getElem?_eq_some_iff.1 hx).2
  rw [List.drop_eq_getElem_cons hk, he, getF]

theorem range_rfv {g o : Nat} {x : Rf} (h : ∀ j v, (rfv x)[j]? = some v → w.cell? ⟨g, o + j, none⟩ = some v) : w.rangeAt g o (rfv x) := h

set_option maxHeartbeats 1000000 in
set_option maxRecDepth 100000 in
theorem rget_calls (h : IsR w b L r) (hn : r.fs.length ≤ 1000000) (f : Int) :
    Calls Tryz.prog 64 #[.pointer (some ⟨b, 0, none⟩), .int .i64 f] w fun e w' => e = .returned (.agg #[.int .i64 (getF r.fs f).n, .string (bs (getF r.fs f).now), .string (bs (getF r.fs f).last)]) ∧ Below w.heap.size w w' := by
  obtain ⟨a, cap, hfv, hel⟩ := h.file
  have hlt := h.lt
  have c0 : w.cell? ⟨b, 0, none⟩ = some (.slice a r.fs.length cap) := by rw [h.cells.cell 0 (by omega), ← hfv]; rfl
  obtain ⟨fs, hfs⟩ : ∃ fs, fs = r.fs := ⟨_, rfl⟩
  rw [← hfs] at c0 hel hn ⊢
  have HEL := Lib.hid hel
  clear h hfv hel hfs
  have hG0 : Hid (getF fs f = getF (fs.drop 0) f) := rfl
  obtain ⟨G, hG⟩ : ∃ G, G = getF fs f := ⟨_, rfl⟩
  rw [← hG] at hG0 ⊢
  clear hG
  go_enter Tryz.func64, Tryz.ntmps64
  go_wp2_with fail
  go_loopw [5] (fun i wr => ∃ k : Nat, k ≤ fs.length ∧ i = .int .i64 k ∧ wr = w.alloc (.cells #[.int .i64 0, .string (bs []), .string (bs [])] 102) ∧ Hid (G = getF (fs.drop k) f)) (fun i _ => 1000001 - (intOf i).toNat)
  case atStart => exact ⟨0, by omega, rfl, rfl, hG0⟩
  case round =>
    clear hG0
    obtain ⟨k, hk, rfl, rfl, hg⟩ := hrel
    by_cases hlt2 : k < fs.length
    · obtain ⟨x, hx⟩ : ∃ x, fs[k]? = some x := ⟨_, List.getElem?_eq_getElem hlt2⟩
      obtain ⟨g, rfl, hgw, hgb, hc⟩ := HEL.out k x hx
      have hst := Lib.hid (hg.out.trans (getF_step fs f k x hx))
      have a0 := hc 0 _ rfl
      simp only [Nat.add_zero] at a0
      have HRG := Lib.hid ((World.rangeAt_alloc (range_rfv hc)) (.cells #[.int .i64 0, .string (bs []), .string (bs [])] 102))
      have d2 : (k : Int) < (fs.length : Int) := by omega
      clear hc hx hg
      by_cases hxf : x.n = f
      · have d3 : (x.n == f) = true := by simpa using hxf
        go_wp2_with (refine wpList_load_mid rfl 102 _ rfl g (k * 3) rfl [.int .i64 x.n, .string (bs x.now), .string (bs x.last)] _ HRG.out Tryz.underlying102 rfl (by kernel_rfl) ?_)
        have hgx : G = x := by have := hst.out; rwa [if_pos hxf] at this
        exact bodyPost_ret (v := .agg #[.int .i64 f, .string (bs x.now), .string (bs x.last)]) (by simp [results, Tryz.results64, go_sem]) rfl ⟨by rw [hgx, hxf], (Below.refl _ _).alloc (Nat.le_refl _) _⟩
      · have d3 : (x.n == f) = false := by simpa using hxf
        go_wp2_with fail
        go_roundw
        case rel => exact ⟨k + 1, by omega, by go_num, trivial, by have := hst.out; rwa [if_neg hxf] at this⟩
        case measure => simp [intOf]; omega
    · obtain rfl : k = fs.length := by omega
      have hge : G = ⟨f, [], []⟩ := by have := hg.out; rwa [List.drop_length] at this
      have HGE := Lib.hid hge
      clear hg hge
      go_wp2_with fail
      have hge2 := HGE.out
      subst hge2
      exact bodyPost_ret (v := .agg #[.int .i64 f, .string (bs []), .string (bs [])]) (by simp [results, Tryz.results64, go_sem, bs]) rfl ⟨rfl, (Below.refl _ _).alloc (Nat.le_refl _) _⟩
end

end Go.Proofs.YtanecondopbfhaaGreatDoor
