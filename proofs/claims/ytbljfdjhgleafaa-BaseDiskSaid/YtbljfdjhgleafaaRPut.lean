/- The reference's Put: bytes are put into a string. -/
import Derived.Test.YtbljfdjhgleafaaRk
import Derived.Lib.ConvBytes
import Derived.Laws.IdiomStrings
import Derived.Laws.AppendOwn
namespace Go.Proofs.Ytbljfdjhgleafaa
open Go.RowKit

/-! ### A row of bytes none of whose cells is frozen -/

def u8s (l : List UInt8) : List Value := l.map fun x => Value.int .u8 (x.toNat : Int)

def BRow (w : World) (B : Nat) (v : Value) (l : List UInt8) : Prop :=
  ∃ g cap cur fz, v = .slice (some ⟨g, 0, none⟩) l.length cap ∧ B ≤ g ∧ w.heap[g]? = some (.cells cur 5 fz) ∧ (cur.size ≤ fz.1 ∨ fz.2 = 0) ∧ l.length ≤ cap ∧ cap ≤ maxLen ∧ cur.size = cap ∧ cur.toList.take l.length = u8s l

theorem info_u8 : (Try.prog.info? 5).map (fun i => (i.zero, i.size, i.bytes)) = some (some (.int .u8 0), 1, 1) := by kernel_rfl

theorem brow_get {cur : Array Value} {l : List UInt8} (h : cur.toList.take l.length = u8s l) {j : Nat} (hj : j < l.length) : cur[j]? = some (.int .u8 (l[j].toNat : Int)) := by
  have h1 : (cur.toList.take l.length)[j]? = (u8s l)[j]? := by rw [h]
  rw [List.getElem?_take_of_lt hj] at h1
  unfold u8s at h1
  rw [List.getElem?_map, List.getElem?_eq_getElem hj] at h1
  simpa using h1

theorem add_lit (g j : Nat) : (⟨g, 0, none⟩ : Addr).add j = ⟨g, j, none⟩ := by
  by_cases hj0 : j = 0 <;> simp [Addr.add, hj0]

theorem BRow.cell {w : World} {B g cap : Nat} {l : List UInt8} (h : BRow w B (.slice (some ⟨g, 0, none⟩) l.length cap) l) (j : Nat) (hj : j < l.length) : w.cell? ⟨g, j, none⟩ = some (.int .u8 (l[j].toNat : Int)) ∧ w.frozen? ⟨g, j, none⟩ = false := by
  obtain ⟨g', cap', cur, fz, hv, _, hg, hfz, hlc, _, hcs, ht⟩ := h
  simp only [Value.slice.injEq, Option.some.injEq, Addr.mk.injEq] at hv
  obtain ⟨⟨rfl, _⟩, _, rfl⟩ := hv
  refine ⟨?_, ?_⟩
  · rw [cell_of_row w g j cur _ _ hg]
    exact brow_get ht hj
  · unfold World.frozen?
    rw [hg]
    obtain ⟨lo, hi⟩ := fz
    simp only [Bool.and_eq_false_iff, decide_eq_false_iff_not]
    simp only at hfz
    omega

theorem BRow.set {w : World} {B g cap : Nat} {l : List UInt8} (h : BRow w B (.slice (some ⟨g, 0, none⟩) l.length cap) l) (j : Nat) (x : UInt8) :
    BRow (w.setCell ⟨g, j, none⟩ (.int .u8 (x.toNat : Int))) B (.slice (some ⟨g, 0, none⟩) l.length cap) (l.set j x) := by
  obtain ⟨g', cap', cur, fz, hv, hB, hg, hfz, hlc, hm, hcs, ht⟩ := h
  simp only [Value.slice.injEq, Option.some.injEq, Addr.mk.injEq] at hv
  obtain ⟨⟨rfl, _⟩, _, rfl⟩ := hv
  refine ⟨g, cap, cur.setIfInBounds j (.int .u8 (x.toNat : Int)), fz, by rw [List.length_set], hB, ?_, by simpa using hfz, by rw [List.length_set]; exact hlc, hm, by simpa using hcs, ?_⟩
  · simp [World.setCell, Array.getElem?_modify, hg]
  · rw [Array.toList_setIfInBounds, List.length_set, List.take_set, ht]
    unfold u8s
    rw [List.map_set]

theorem BRow.lt {w : World} {B : Nat} {v : Value} {l : List UInt8} (h : BRow w B v l) : ∃ g cap, v = .slice (some ⟨g, 0, none⟩) l.length cap ∧ B ≤ g ∧ g < w.heap.size ∧ l.length ≤ cap := by
  obtain ⟨g, cap, cur, fz, hv, hB, hg, hfz, hlc, hm, hcs, ht⟩ := h
  exact ⟨g, cap, hv, hB, (Array.getElem?_eq_some_iff.1 hg).1, hlc⟩

theorem BRow.alloc {w : World} {B : Nat} {v : Value} {l : List UInt8} (h : BRow w B v l) (o : Obj) : BRow (w.alloc o) B v l := by
  obtain ⟨g, cap, cur, fz, hv, hB, hg, rest⟩ := h
  exact ⟨g, cap, cur, fz, hv, hB, (Below.heap_alloc _ _ _ (Array.getElem?_eq_some_iff.1 hg).1).trans hg, rest⟩

/-- One byte is appended. -/
theorem brow_append {w : World} {B : Nat} {v : Value} {l : List UInt8} (h : BRow w B v l) (hB : B ≤ w.heap.size) (ty : TypeId) (a : Addr) (c : Nat) (x : UInt8) (hx : ∀ w' : World, w'.heap = w.heap → w'.cell? (a.add 0) = some (.int .u8 (x.toNat : Int))) (hl : l.length ≤ 1099511627776) :
    ∃ v' w', (Builtin.append_ #[88, 88] ty #[v, .slice (some a) 1 c]).run Try.prog w = .ok v' w' ∧ BRow w' B v' (l ++ [x]) ∧ Below B w w' := by
  obtain ⟨i0, hi, hz0, hz1, hz2⟩ := info_parts info_u8
  have h0 := h
  obtain ⟨g, cap, cur, fz, rfl, hBg, hg, hfz, hlc, hm, hcs, ht⟩ := h
  have hgl := (Array.getElem?_eq_some_iff.1 hg).1
  have hnew : ∀ j u, [Value.int .u8 (x.toNat : Int)][j]? = some u → w.cell? (a.add j) = some u := by
    intro j u hu
    match j, hu with
    | 0, hu => simp at hu; subst hu; exact hx w rfl
  by_cases hroom : l.length + 1 ≤ cap
  · have hf := run_firstCells_some (P := Try.prog) w i0.size 1 a 1 c [Value.int .u8 (x.toNat : Int)] (by simp [hz1]) hnew
    have hcell : w.cell? ⟨g, l.length, none⟩ = some cur[l.length] := by rw [cell_of_row w g _ cur _ _ hg]; simp
    have hfro : w.frozen? ⟨g, l.length, none⟩ = false := by
      unfold World.frozen?
      rw [hg]
      obtain ⟨lo, hi'⟩ := fz
      simp only [Bool.and_eq_false_iff, decide_eq_false_iff_not]
      simp only at hfz
      omega
    refine ⟨.slice (some ⟨g, 0, none⟩) (l.length + 1) cap, w.setCell ⟨g, l.length, none⟩ (.int .u8 (x.toNat : Int)), ?_, ?_, ?_⟩
    · rw [hz1] at hf
      have hst : (store ((⟨g, l.length, none⟩ : Addr).add 0) (Value.int .u8 (x.toNat : Int))).run Try.prog w = .ok () (w.setCell ⟨g, l.length, none⟩ (Value.int .u8 (x.toNat : Int))) := by
        rw [show (⟨g, l.length, none⟩ : Addr).add 0 = ⟨g, l.length, none⟩ from rfl, run_store _ _ _ _ _ rfl, hcell, hfro]
        rfl
      simp [Builtin.append_, run_underlying Try.underlying88, sizeOf, typeInfo, hi, hz1, Builtin.lenOf, hroom, hf, add_lit, storeCells, hst]
    · refine ⟨g, cap, cur.setIfInBounds l.length (.int .u8 (x.toNat : Int)), fz, by simp, hBg, ?_, by simpa using hfz, by simpa using hroom, hm, by simpa using hcs, ?_⟩
      · simp [World.setCell, Array.getElem?_modify, hg]
      · rw [Array.toList_setIfInBounds, List.length_append, List.length_singleton, List.take_set, List.take_succ_eq_append_getElem (by simp [hcs]; omega), ht]
        unfold u8s
        rw [List.map_append, List.set_append_right _ _ (by simp), List.length_map, Nat.sub_self]
        rfl
    · exact (Below.refl _ _).setCell (by simpa using hBg) _
  · have hcl : cap = l.length := by omega
    have hr := run_append_grow (P := Try.prog) w 88 ty 5 i0 (.int .u8 0) Try.underlying88 hi hz0 ⟨g, 0, none⟩ l.length cap (u8s l) (by simp [u8s, hz1]) (fun j u hu => by
      have hj : j < l.length := by have := (List.getElem?_eq_some_iff.1 hu).1; simpa [u8s] using this
      rw [add_lit, (h0.cell j hj).1]
      unfold u8s at hu
      rw [List.getElem?_map, List.getElem?_eq_getElem hj] at hu
      simpa using hu) a 1 c [Value.int .u8 (x.toNat : Int)] (by simp [hz1]) hnew (by omega) (by omega) (growslice_fits (by omega) (by rw [hz2]; omega))
    have hge := grownCap_ge w (l.length + 1) cap 5
    have hcm := grownCap_le_maxLen w (l.length + 1) cap 5 (by simp only [maxLen]; omega)
    generalize grownCap w (l.length + 1) cap 5 = C at *
    refine ⟨_, _, hr, ⟨w.heap.size, C, _, (0, 0), by simp, hB, (MapKept.heap_alloc w.drew _).1, Or.inr rfl, by simpa using hge, hcm, ?_, ?_⟩, ?_⟩
    · simp [size_zeroCells, u8s]
      show l.length + 1 + (C - (l.length + 1)) * 1 = C
      omega
    · simp only [Array.toList_append, List.append_assoc, List.length_append, List.length_singleton]
      rw [← List.append_assoc]
      have e : (u8s l ++ [Value.int .u8 (x.toNat : Int)]) = u8s (l ++ [x]) := by simp [u8s]
      have e2 : l.length + 1 = (u8s (l ++ [x])).length := by simp [u8s]
      rw [e, e2]
      exact List.take_left
    · exact ((Below.refl _ _).drew).alloc hB _

theorem wpList_append_byte {ops : Array Oper} {rest : List Oper} {o : Oper} {a : Act} {w : World} {Q : Exit → Act → World → Prop} (hgd : o.guard = none) (s x : Operand)
    (ho : o.op = .call { callee := .builtin .append, args := #[s, x], argTypes := #[88, 88] }) {B : Nat} {v : Value} {l : List UInt8} (hs : a.eval s = v) (h : BRow w B v l) (hB : B ≤ w.heap.size)
    (ad : Addr) (c : Nat) (hx : a.eval x = .slice (some ad) 1 c) (y : UInt8) (hy : ∀ w' : World, w'.heap = w.heap → w'.cell? (ad.add 0) = some (.int .u8 (y.toNat : Int))) (hl : l.length ≤ 1099511627776)
    (hn : ∀ v' w', BRow w' B v' (l ++ [y]) → Below B w w' → wpList Try.prog ops Q rest (a.put o.dst v') w') : wpList Try.prog ops Q (o :: rest) a w :=
  wpList_plain hgd fun _ hK => by
    obtain ⟨v', w', hr, h2, h3⟩ := brow_append h hB o.type ad c y hy hl
    unfold Oper.wp execOp
    simp only [ho, resolve, invoke, builtin, Sem.run_bind, Sem.run_pure, Result.andThen_ok, List.map_toArray, List.map_cons, List.map_nil, hs, hx, hr]
    exact hK _ _ (hn v' w' h2 h3)

/-! ### What Put makes -/

def extL (s : List UInt8) (n : Nat) : List UInt8 := s ++ List.replicate (n - s.length) 0

def stL (L : List UInt8) (a : Nat) (t : List UInt8) (i : Nat) : List UInt8 := (List.range i).foldl (fun L j => L.set (a + j) (t.getD j 0)) L

theorem stL_succ (L : List UInt8) (a : Nat) (t : List UInt8) (i : Nat) : stL L a t (i + 1) = (stL L a t i).set (a + i) (t.getD i 0) := by
  unfold stL
  rw [List.range_succ, List.foldl_append]
  rfl

theorem stL_length (L : List UInt8) (a : Nat) (t : List UInt8) : ∀ i, (stL L a t i).length = L.length
  | 0 => rfl
  | i + 1 => by rw [stL_succ, List.length_set, stL_length L a t i]

theorem stL_get (L : List UInt8) (a : Nat) (t : List UInt8) (p : Nat) (hp : p < L.length) : ∀ i, (stL L a t i).getD p 0 = if a ≤ p ∧ p < a + i then t.getD (p - a) 0 else L.getD p 0
  | 0 => by rw [if_neg (by omega)]; rfl
  | i + 1 => by
    rw [stL_succ, List.getD_eq_getElem?_getD, List.getElem?_set]
    have hl := stL_length L a t i
    by_cases h : a + i = p
    · rw [if_pos h, if_pos (by omega), if_pos (by omega), show p - a = i by omega]
      rfl
    · rw [if_neg h, ← List.getD_eq_getElem?_getD, stL_get L a t p hp i]
      by_cases h2 : a ≤ p ∧ p < a + i
      · rw [if_pos h2, if_pos (by omega)]
      · rw [if_neg h2, if_neg (by omega)]

theorem ext_full (s : List UInt8) (n k : Nat) (h : s.length + k = max s.length n) : s ++ List.replicate k 0 = extL s n := by
  unfold extL
  rw [show k = n - s.length by omega]

theorem putL_eq (s t : List UInt8) (a : Nat) (ht : t ≠ []) : stL (extL s (a + t.length)) a t t.length = putL s a t := by
  have hel : (extL s (a + t.length)).length = max s.length (a + t.length) := by unfold extL; simp; omega
  have hpl : (putL s a t).length = max s.length (a + t.length) := by unfold putL; rw [if_neg ht]; simp
  refine List.ext_getElem (by rw [stL_length, hel, hpl]) fun p h1 h2 => ?_
  rw [stL_length] at h1
  have e1 := stL_get (extL s (a + t.length)) a t p h1 t.length
  rw [List.getD_eq_getElem?_getD, List.getElem?_eq_getElem (by rw [stL_length]; exact h1), Option.getD_some] at e1
  rw [e1]
  unfold putL
  simp only [if_neg ht, List.getElem_map, List.getElem_range]
  by_cases h3 : a ≤ p ∧ p < a + t.length
  · rw [if_pos h3, if_pos h3]
  · rw [if_neg h3, if_neg h3]
    unfold extL
    rw [List.getD_eq_getElem?_getD, List.getD_eq_getElem?_getD, List.getElem?_append]
    by_cases h4 : p < s.length
    · rw [if_pos h4]
    · rw [if_neg h4, List.getElem?_eq_none (by omega : s.length ≤ p), List.getElem?_replicate]
      split <;> rfl

set_option maxHeartbeats 2000000 in
set_option maxRecDepth 100000 in
theorem put_calls' (s t : List UInt8) (a : Nat) (w : World) (hs : s.length ≤ 33554432) (ha : a ≤ 33554432) (ht : t.length ≤ 33554432) :
    Calls Try.prog 68 #[.string (bs s), .int .i64 a, .string (bs t)] w fun e w' => e = .returned (.string (bs (putL s a t))) ∧ Below w.heap.size w w' := by
  have hls := bs_size s
  have hlt := bs_size t
  by_cases ht0 : t = []
  · subst ht0
    have tE : (bs []).toList.isEmpty = true := by rw [Lib.toList_data, bs_data]; rfl
    have hp : putL s a [] = s := rfl
    rw [hp]
    clear hp
    go_enter Try.func68, Try.ntmps68
    go_wp2_with fail
    go_ret
    exact ⟨rfl, Below.refl _ _⟩
  · have tE : (bs t).toList.isEmpty = false := by rw [Lib.toList_data, bs_data]; cases t <;> simp_all
    have HP := Lib.hid (putL_eq s t a ht0)
    have hconv := Lib.run_convert_string_bytes (P := Try.prog) w 9 88 5 (bs s) Try.underlying9 Try.underlying88 Try.underlying5
    rw [hls] at hconv
    have hb1 : BRow (Lib.bytesWorld w 5 (bs s)) w.heap.size (.slice (some ⟨w.heap.size, 0, none⟩) s.length (grownCap w s.length 0 5)) (s ++ List.replicate 0 0) := by
      have hge := grownCap_ge w s.length 0 5
      refine ⟨w.heap.size, _, _, _, by simp, Nat.le_refl _, Lib.bytesWorld_at_new w _ _, Or.inl (Nat.le_refl _), by simpa using hge, grownCap_le_maxLen w s.length 0 5 (by simp only [maxLen]; omega), ?_, ?_⟩
      · have h2 : (bs s).data.size = s.length := hls
        simp [Lib.bytesCells, hls, h2]
        omega
      · simp only [List.replicate_zero, List.append_nil]
        unfold Lib.bytesCells
        rw [Array.toList_append, Array.toList_map, bs_data]
        exact List.take_left' (by simp)
    have hbw : Below w.heap.size w (Lib.bytesWorld w 5 (bs s)) :=
      ⟨by simp [Lib.bytesWorld, World.freeze, World.alloc, World.drew, -World.alloc_eq, -World.drew_eq], by simp [Lib.bytesWorld, World.freeze, World.alloc, World.drew, -World.alloc_eq, -World.drew_eq], by simp [Lib.bytesWorld, World.freeze, World.alloc, World.drew, -World.alloc_eq, -World.drew_eq], by rw [Lib.bytesWorld_size]; omega, fun k hk => Lib.bytesWorld_at_old w _ _ k hk⟩
    generalize Lib.bytesWorld w 5 (bs s) = W1 at *
    generalize grownCap w s.length 0 5 = C0 at *
    have HR := Lib.hid hb1
    have HB := Lib.hid hbw
    clear hb1 hbw
    have htl : 0 < t.length := by cases t <;> simp_all
    clear ht0
    obtain ⟨N, hN⟩ : ∃ N, N = max s.length (a + t.length) := ⟨_, rfl⟩
    have hN1 : s.length ≤ N := by omega
    have hN2 : a + t.length ≤ N := by omega
    have hN3 : N ≤ 67108864 := by omega
    have HN := Lib.hid hN
    clear hN
    go_enter Try.func68, Try.ntmps68
    go_wp2_with fail
    go_loopw [7] (fun v wr => ∃ (k : Nat) (g cap : Nat), s.length + k ≤ N ∧ v = .slice (some ⟨g, 0, none⟩) (s.length + k) cap ∧ Hid (BRow wr w.heap.size v (s ++ List.replicate k 0)) ∧ Hid (Below w.heap.size w wr)) (fun v _ => 67108864 - (match v with | .slice _ n _ => n | _ => 0))
    case atStart => exact ⟨0, w.heap.size, C0, by omega, rfl, HR, HB⟩
    case round =>
      clear HR HB
      obtain ⟨k, g, cap, hk, rfl, hr, hb⟩ := hrel
      obtain ⟨T, hT⟩ : ∃ T, T = s ++ List.replicate k (0 : UInt8) := ⟨_, rfl⟩
      rw [← hT] at hr
      have hTl : T.length = s.length + k := by rw [hT]; simp
      have HT := Lib.hid hT
      clear hT
      have HTL := Lib.hid hTl
      clear hTl
      by_cases hlt : s.length + k < a + t.length
      · have hd : ((s.length + k : Nat) : Int) < (a : Int) + (t.length : Int) := by omega
        have hz := hb.out.size
        go_wp2_with (at_builtin; refine wpList_append_byte rfl _ _ rfl rfl (hr.out.alloc _) (by simp; omega) ⟨wr.heap.size, 0, none⟩ 1 rfl 0 ?c1 ?c2 ?_)
        case c1 =>
          intro w' hw'
          rw [add_lit]
          unfold World.cell?
          rw [hw', (MapKept.heap_alloc wr _).1]
          rfl
        case c2 => have := HTL.out; omega
        intro v' w2 hr2 hb2
        have hcat : T ++ [0] = s ++ List.replicate (k + 1) (0 : UInt8) := by rw [HT.out, List.append_assoc, ← List.replicate_succ']
        rw [hcat] at hr2
        obtain ⟨g2, cap2, hv2, -, -, -⟩ := hr2.lt
        have hv3 : v' = .slice (some ⟨g2, 0, none⟩) (s.length + (k + 1)) cap2 := by rw [hv2]; simp
        have HR2 := Lib.hid hr2
        have HB2 : Hid (Below w.heap.size w w2) := (((hb.out).trans ((Below.refl _ _).alloc hz _)).trans hb2)
        clear hr2 hb2 hv2 hcat
        go_wp2_with fail
        go_roundw
        case rel => exact ⟨k + 1, g2, cap2, by have := HN.out; omega, hv3, HR2, HB2⟩
        case measure => rw [hv3]; simp; omega
      · have hd : ¬ ((s.length + k : Nat) : Int) < (a : Int) + (t.length : Int) := by omega
        have hkN : s.length + k = max s.length (a + t.length) := by have := HN.out; omega
        have hz := hb.out.size
        obtain ⟨L, hL⟩ : ∃ L, L = extL s (a + t.length) := ⟨_, rfl⟩
        have hLl : L.length = s.length + k := by rw [hL, ← ext_full s (a + t.length) k hkN]; simp
        have hr0 : Hid (BRow wr w.heap.size (.slice (some ⟨g, 0, none⟩) (s.length + k) cap) (stL L a t 0)) := by
          show BRow wr w.heap.size (.slice (some ⟨g, 0, none⟩) (s.length + k) cap) (stL L a t 0)
          have := hr.out
          rw [HT.out, ext_full s (a + t.length) k hkN, ← hL] at this
          exact this
        rw [← hL] at HP
        generalize s.length + k = n at *
        have hn2 : a + t.length ≤ n := by omega
        have hn3 : n ≤ 67108864 := by omega
        have HL := Lib.hid hLl
        have HBW := Lib.hid hb.out
        clear hr hb hL hLl hkN HT HTL T
        go_wp2_with fail
        go_loopw [8] (fun i wr2 => ∃ j : Nat, j ≤ t.length ∧ i = .int .i64 j ∧ Hid (BRow wr2 w.heap.size (.slice (some ⟨g, 0, none⟩) n cap) (stL L a t j)) ∧ Hid (Below w.heap.size w wr2)) (fun i _ => t.length - (intOf i).toNat)
        case atStart => exact ⟨0, by omega, rfl, hr0, HBW⟩
        case round =>
          obtain ⟨j, hj, rfl, hr, hb⟩ := hrel
          have hjl : (stL L a t j).length = n := by rw [stL_length]; exact HL.out
          have hr1 : BRow wr w.heap.size (.slice (some ⟨g, 0, none⟩) (stL L a t j).length cap) (stL L a t j) := by rw [hjl]; exact hr.out
          by_cases hlt2 : j < t.length
          · obtain ⟨x0, hc1, hc2⟩ : ∃ x0, wr.cell? ⟨g, a + j, none⟩ = some x0 ∧ wr.frozen? ⟨g, a + j, none⟩ = false := ⟨_, hr1.cell (a + j) (by omega)⟩
            obtain ⟨g', cap', hv', hg1, hg2, hcap⟩ := hr1.lt
            simp only [Value.slice.injEq, Option.some.injEq, Addr.mk.injEq] at hv'
            obtain ⟨⟨rfl, _⟩, _, rfl⟩ := hv'
            have hset := hr1.set (a + j) (t.getD j 0)
            rw [← stL_succ, hjl] at hset
            have HSET := Lib.hid hset
            have hbj : j < (bs t).size := by omega
            have hget := bs_get t j hbj
            have d2 : (j : Int) < (t.length : Int) := by omega
            have HB3 : Hid (Below w.heap.size w (wr.setCell ⟨g, a + j, none⟩ (.int .u8 ((t.getD j 0).toNat : Int)))) := hb.out.setCell (by simpa using hg1) _
            obtain ⟨y, hy⟩ : ∃ y, y = t.getD j 0 := ⟨_, rfl⟩
            rw [← hy] at hget HSET HB3
            have hs1 : ((a : Int) + (j : Int)) = ((a + j : Nat) : Int) := by omega
            have hs2 : a + j < n := by omega
            obtain ⟨q, hq⟩ : ∃ q, q = a + j := ⟨_, rfl⟩
            rw [← hq] at hs1 hs2 hc1 hc2 HSET HB3
            clear hset hy hq hr1 hjl hr
            go_wp2_with fail
            go_roundw
            case rel => exact ⟨j + 1, by omega, by go_num, HSET, HB3⟩
            case measure => simp [intOf]; omega
          · obtain rfl : j = t.length := by omega
            have hfull : stL L a t t.length = putL s a t := HP.out
            have hback := run_convert_bytes_back (P := Try.prog) wr 88 9 5 ⟨g, 0, none⟩ cap (stL L a t t.length) Try.underlying88 Try.underlying5 Try.underlying9 (fun i hi => by
              rw [add_lit]
              exact (hr1.cell i hi).1)
            rw [hjl, hfull] at hback
            have hbk : (⟨(putL s a t).toArray⟩ : ByteArray) = bs (putL s a t) := rfl
            rw [hbk] at hback
            clear hfull hbk hr1 hjl hr
            go_wp2_with fail
            go_ret
            exact ⟨rfl, hb.out⟩

end Go.Proofs.Ytbljfdjhgleafaa
