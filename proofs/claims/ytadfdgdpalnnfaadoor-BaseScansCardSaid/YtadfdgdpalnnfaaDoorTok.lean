/- firstToken. -/
import Derived.Test.YtadfdgdpalnnfaaDoorUnq
import Derived.Test.YtadfdgdpalnnfaaDoorQuot
import Derived.Deep.MidRow
namespace Go.Proofs.YtadfdgdpalnnfaaDoor
open Go.RowKit

/-- What firstToken returns. -/
def TokV (t : Tok1) : Value := .tuple #[.agg #[.int .i64 t.kind, .string (bs t.text), .int .i64 t.n, .int .i64 0], .int .i64 t.size, .int .i64 t.err]

/-- A token's block. -/
def Tb (b : Nat) (k n p : Int) (t : ByteArray) (w : World) : Prop := w.heap[b]? = some (.cells #[.int .i64 k, .string t, .int .i64 n, .int .i64 p] 25 (0, 0))
theorem Tb.lt {b : Nat} {k n p : Int} {t : ByteArray} {w : World} (h : Tb b k n p t w) : b < w.heap.size := by
  rcases Nat.lt_or_ge b w.heap.size with h' | h'
  · exact h'
  · unfold Tb at h; simp [Array.getElem?_eq_none h'] at h
theorem Tb.next {b : Nat} {k n p : Int} {t : ByteArray} {w w' : World} (h : Tb b k n p t w) (hb : Below w.heap.size w w') : Tb b k n p t w' := by
  have hlt := h.lt
  unfold Tb at h ⊢
  rw [hb.block b hlt]; exact h
theorem Tb.c0 {b : Nat} {k n p : Int} {t : ByteArray} {w : World} (h : Tb b k n p t w) : w.cell? ⟨b, 0, none⟩ = some (.int .i64 k) := by rw [Lib.cell_of_heap h]; rfl
theorem Tb.c1 {b : Nat} {k n p : Int} {t : ByteArray} {w : World} (h : Tb b k n p t w) : w.cell? ⟨b, 1, none⟩ = some (.string t) := by rw [Lib.cell_of_heap h]; rfl
theorem Tb.c2 {b : Nat} {k n p : Int} {t : ByteArray} {w : World} (h : Tb b k n p t w) : w.cell? ⟨b, 2, none⟩ = some (.int .i64 n) := by rw [Lib.cell_of_heap h]; rfl
theorem Tb.c3 {b : Nat} {k n p : Int} {t : ByteArray} {w : World} (h : Tb b k n p t w) : w.cell? ⟨b, 3, none⟩ = some (.int .i64 p) := by rw [Lib.cell_of_heap h]; rfl
theorem Tb.f {b : Nat} {k n p : Int} {t : ByteArray} {w : World} (h : Tb b k n p t w) (j : Nat) : w.frozen? ⟨b, j, none⟩ = false := Lib.frozen_of_heap h j
theorem Tb.fresh (w : World) : Tb w.heap.size 0 0 0 { data := #[] } (w.alloc (.cells #[.int .i64 0, .string { data := #[] }, .int .i64 0, .int .i64 0] 25)) := by
  unfold Tb; exact Array.getElem?_push_size ..
theorem Tb.below (w : World) : Below w.heap.size w (w.alloc (.cells #[.int .i64 0, .string { data := #[] }, .int .i64 0, .int .i64 0] 25)) := (Below.refl _ _).alloc (Nat.le_refl _) _

theorem store_below {w w' : World} (h : Below w.heap.size w w') (u0 u1 u2 u3 : Value) : Below w.heap.size w ((((w'.setCell ⟨w.heap.size, 0, none⟩ u0).setCell ⟨w.heap.size, 1, none⟩ u1).setCell ⟨w.heap.size, 2, none⟩ u2).setCell ⟨w.heap.size, 3, none⟩ u3) :=
  (((h.setCell (p := ⟨w.heap.size, 0, none⟩) (Nat.le_refl _) u0).setCell (p := ⟨w.heap.size, 1, none⟩) (Nat.le_refl _) u1).setCell (p := ⟨w.heap.size, 2, none⟩) (Nat.le_refl _) u2).setCell (p := ⟨w.heap.size, 3, none⟩) (Nat.le_refl _) u3

set_option maxHeartbeats 1000000 in
set_option maxRecDepth 100000 in
theorem tok_letter (c : UInt8) (r : List UInt8) (hl : (c :: r).length ≤ 100000000) (hc : isLet c = true) (w : World) :
    Calls Tryd.prog 23 #[.string (bs (c :: r))] w fun e w' => e = .returned (TokV (tokF (c :: r))) ∧ Below w.heap.size w w' := by
  have h0 : 0 < (bs (c :: r)).size := by rw [bs_size]; simp
  have hg := bs_get (c :: r) 0 h0 (by simp)
  have hC := fun w => Lib.hid (cls_letter ((bs (c :: r))[0]'h0) w)
  rw [hg] at hC
  simp only [List.getElem_cons_zero] at hC hg
  rw [hc] at hC
  have hsp := spanL_le isNm (c :: r)
  have hS := fun w => Lib.hid (span_name (c :: r) (by omega) w)
  have hT : tokF (c :: r) = if isName ((c :: r).take (spanL isNm (c :: r))) = true then ⟨0, (c :: r).take (spanL isNm (c :: r)), 0, ((c :: r).take (spanL isNm (c :: r))).length, 0⟩ else bad 3 := by
    rw [tokF, if_pos hc]
  generalize spanL isNm (c :: r) = a at *
  have hN := fun w => Lib.hid (name_calls ((c :: r).take a) (by rw [List.length_take]; omega) w)
  have hsz : a ≤ (bs (c :: r)).size := by rw [bs_size]; exact hsp
  generalize isName ((c :: r).take a) = b at *
  have HT := Lib.hid hT
  have HG := Lib.hid hg
  clear hT hg
  have hx : (bs (c :: r)).extract 0 a = bs ((c :: r).take a) := bs_take _ _
  have hxs : (bs ((c :: r).take a)).size = ((c :: r).take a).length := bs_size _
  generalize (c :: r).take a = t at *
  go_enter Tryd.func23, Tryd.ntmps23
  go_wp2_with fail
  rw [HG.out]
  refine (hC _).out.mono ?_
  rintro e w1 ⟨rfl, rfl⟩
  go_wp2_with fail
  refine (hS _).out.mono ?_
  rintro e w2 ⟨rfl, hb2⟩
  go_wp2_with fail
  refine (hN _).out.mono ?_
  rintro e w3 ⟨rfl, hb3⟩
  have hT3 := ((Tb.fresh w).next hb2).next hb3
  have hb03 := (Tb.below w).trans ((hb2.mono (by simp)).trans (hb3.mono (by have := hb2.size; simp at this; omega)))
  have c0 := hT3.c0
  have c1 := hT3.c1
  have c2 := hT3.c2
  have c3 := hT3.c3
  have f0 := hT3.f 0
  have f1 := hT3.f 1
  have f2 := hT3.f 2
  have f3 := hT3.f 3
  clear hb2 hT3
  cases b
  · go_wp2
    refine bodyPost_ret (v := TokV (tokF (c :: r))) (by rw [HT.out]; simp [results, Tryd.results23, go_sem, TokV, bad, c0, c1, c2, c3, bs]) rfl ⟨rfl, store_below hb03 _ _ _ _⟩
  · go_wp2
    refine bodyPost_ret (v := TokV (tokF (c :: r))) (by rw [HT.out]; simp [results, Tryd.results23, go_sem, TokV, c0, c1, c2, c3]) rfl ⟨rfl, store_below hb03 _ _ _ _⟩

set_option maxHeartbeats 1000000 in
set_option maxRecDepth 100000 in
theorem tok_digit (c : UInt8) (r : List UInt8) (hl : (c :: r).length ≤ 100000000) (hc : isLet c = false) (hd : isDig c = true) (w : World) (hE : Env w) :
    Calls Tryd.prog 23 #[.string (bs (c :: r))] w fun e w' => e = .returned (TokV (tokF (c :: r))) ∧ Below w.heap.size w w' := by
  have h0 : 0 < (bs (c :: r)).size := by rw [bs_size]; simp
  have hg := bs_get (c :: r) 0 h0 (by simp)
  simp only [List.getElem_cons_zero] at hg
  have hC := fun w => Lib.hid (cls_letter c w)
  have hD := fun w => Lib.hid (cls_digit c w)
  rw [hc] at hC
  rw [hd] at hD
  have hsp := spanL_le isDig (c :: r)
  have hS := fun w => Lib.hid (span_digit (c :: r) (by omega) w)
  have hT : tokF (c :: r) = match numL ((c :: r).take (spanL isDig (c :: r))) with
      | some n => ⟨1, (c :: r).take (spanL isDig (c :: r)), n, ((c :: r).take (spanL isDig (c :: r))).length, 0⟩
      | none => bad 3 := by
    rw [tokF, if_neg (by simp [hc]), if_pos hd]; rfl
  generalize spanL isDig (c :: r) = a at *
  have hN := fun w hE => Lib.hid (number_calls ((c :: r).take a) (by rw [List.length_take]; omega) w hE)
  have hsz : a ≤ (bs (c :: r)).size := by rw [bs_size]; exact hsp
  generalize numL ((c :: r).take a) = b at *
  have HT := Lib.hid hT
  have HG := Lib.hid hg
  clear hT hg
  have hx : (bs (c :: r)).extract 0 a = bs ((c :: r).take a) := bs_take _ _
  have hxs : (bs ((c :: r).take a)).size = ((c :: r).take a).length := bs_size _
  have hEa := hE.next (Tb.below w)
  generalize (c :: r).take a = t at *
  go_enter Tryd.func23, Tryd.ntmps23
  go_wp2_with fail
  rw [HG.out]
  refine (hC _).out.mono ?_
  rintro e w1 ⟨rfl, rfl⟩
  go_wp2_with fail
  refine (hD _).out.mono ?_
  rintro e w1 ⟨rfl, rfl⟩
  go_wp2_with fail
  refine (hS _).out.mono ?_
  rintro e w2 ⟨rfl, hb2⟩
  have hE2 := hEa.next hb2
  go_wp2_with fail
  refine (hN _ hE2).out.mono ?_
  rintro e w3 ⟨rfl, hb3⟩
  have hT3 := ((Tb.fresh w).next hb2).next hb3
  have hb03 := (Tb.below w).trans ((hb2.mono (by simp)).trans (hb3.mono (by have := hb2.size; simp at this; omega)))
  have c0 := hT3.c0
  have c1 := hT3.c1
  have c2 := hT3.c2
  have c3 := hT3.c3
  have f0 := hT3.f 0
  have f1 := hT3.f 1
  have f2 := hT3.f 2
  have f3 := hT3.f 3
  clear hb2 hT3 hE2 hEa hE
  cases b
  · go_wp2
    refine bodyPost_ret (v := TokV (tokF (c :: r))) (by rw [HT.out]; simp [results, Tryd.results23, go_sem, TokV, bad, c0, c1, c2, c3, bs]) rfl ⟨rfl, store_below hb03 _ _ _ _⟩
  · go_wp2
    refine bodyPost_ret (v := TokV (tokF (c :: r))) (by rw [HT.out]; simp [results, Tryd.results23, go_sem, TokV, c0, c1, c2, c3]) rfl ⟨rfl, store_below hb03 _ _ _ _⟩

set_option maxHeartbeats 1000000 in
set_option maxRecDepth 100000 in
theorem tok_quote (r : List UInt8) (hl : (34 :: r).length ≤ 100000000) (w : World) :
    Calls Tryd.prog 23 #[.string (bs (34 :: r))] w fun e w' => e = .returned (TokV (tokF (34 :: r))) ∧ Below w.heap.size w w' := by
  have h0 : 0 < (bs (34 :: r)).size := by rw [bs_size]; simp
  have hg : (((bs (34 :: r))[0]'h0).toNat : Int) = 34 := by rw [bs_get (34 :: r) 0 h0 (by simp)]; rfl
  have hC := fun w => Lib.hid (cls_letter 34 w)
  have hD := fun w => Lib.hid (cls_digit 34 w)
  have hU := fun w => Lib.hid (unquote_calls (34 :: r) (by omega) w)
  have hT : tokF (34 :: r) = if (unqP (34 :: r)).2.2 = true then ⟨2, (unqP (34 :: r)).1, 0, (unqP (34 :: r)).2.1, 0⟩ else bad 2 := by
    rw [tokF, if_neg (by decide), if_neg (by decide), if_pos rfl]
    unfold unqP
    rw [List.drop_succ_cons, List.drop_zero]
    cases unqF r with
    | none => rfl
    | some x => rfl
  generalize unqP (34 :: r) = y at *
  obtain ⟨v, k, b⟩ := y
  simp only at hU hT
  have HT := Lib.hid hT
  clear hT
  go_enter Tryd.func23, Tryd.ntmps23
  go_wp2_with fail
  refine (hC _).out.mono ?_
  rintro e w1 ⟨rfl, rfl⟩
  go_wp2_with fail
  refine (hD _).out.mono ?_
  rintro e w1 ⟨rfl, rfl⟩
  go_wp2_with fail
  refine (hU _).out.mono ?_
  rintro e w3 ⟨rfl, hb3⟩
  have hT3 := (Tb.fresh w).next hb3
  have hb03 := (Tb.below w).trans (hb3.mono (by simp))
  have c0 := hT3.c0
  have c1 := hT3.c1
  have c2 := hT3.c2
  have c3 := hT3.c3
  have f0 := hT3.f 0
  have f1 := hT3.f 1
  have f2 := hT3.f 2
  have f3 := hT3.f 3
  clear hT3
  cases b
  · go_wp2
    refine bodyPost_ret (v := TokV (tokF (34 :: r))) (by rw [HT.out]; simp [results, Tryd.results23, go_sem, TokV, bad, c0, c1, c2, c3, bs]) rfl ⟨rfl, store_below hb03 _ _ _ _⟩
  · go_wp2
    refine bodyPost_ret (v := TokV (tokF (34 :: r))) (by rw [HT.out]; simp [results, Tryd.results23, go_sem, TokV, c0, c1, c2, c3]) rfl ⟨rfl, store_below hb03 _ _ _ _⟩

theorem find_first {α : Type} {p : α → Bool} : ∀ (L : List α) (k : Nat) (s : α), L[k]? = some s → (∀ j t, j < k → L[j]? = some t → p t = false) → p s = true → L.find? p = some s
  | [], k, s, h, _, _ => by simp at h
  | a :: L, 0, s, h, _, hp => by
    simp at h; subst h
    rw [List.find?_cons, hp]
  | a :: L, k + 1, s, h, hn, hp => by
    rw [List.find?_cons, hn 0 a (Nat.zero_lt_succ k) rfl]
    exact find_first L k s (by simpa using h) (fun j t hj ht => hn (j + 1) t (by omega) (by simpa using ht)) hp
theorem find_never {α : Type} {p : α → Bool} (L : List α) (h : ∀ (j : Nat) t, j < L.length → L[j]? = some t → p t = false) : L.find? p = none := by
  rw [List.find?_eq_none]
  intro x hx
  obtain ⟨j, hj, rfl⟩ := List.getElem_of_mem hx
  rw [h j _ hj (List.getElem?_eq_getElem hj)]
  simp
/-- No sign before the k-th begins the text. -/
def noSign (l : List UInt8) (k : Nat) : Prop := ∀ j t, j < k → signL[j]? = some t → Lib.hasPrefix l t = false
theorem noSign_next {l : List UInt8} {k : Nat} (h : noSign l k) {s : List UInt8} (hs : signL[k]? = some s) (hp : Lib.hasPrefix l s = false) : noSign l (k + 1) := by
  intro j t hj ht
  rcases Nat.lt_or_ge j k with h' | h'
  · exact h j t h' ht
  · obtain rfl : j = k := by omega
    rw [hs] at ht; cases ht; exact hp
theorem signF_hit {l : List UInt8} {k : Nat} (h : noSign l k) {s : List UInt8} (hs : signL[k]? = some s) (hp : Lib.hasPrefix l s = true) : signF l = some s := find_first signL k s hs h hp
theorem signF_none {l : List UInt8} (h : noSign l 19) : signF l = none := find_never signL h

theorem hasPrefix_calls (l s : List UInt8) (w : World) :
    Calls Tryd.prog 43 #[.string (bs l), .string (bs s)] w fun e w' => e = .returned (.bool (Lib.hasPrefix l s)) ∧ w' = w := by
  have h := Tryd.strings_HasPrefix (bs l) (bs s) w
  rw [bs_data, bs_data] at h
  exact h
theorem idx_sign (A : Array Value) (k : Nat) (b : ByteArray) (hk : k < 19) (h : A[k]? = some (.string b)) (w : World) : (Instr.index 58 (.agg A) (.int .i64 (k : Int))).run Tryd.prog w = .ok (.string b) w := by
  simp [Instr.index, run_underlying Tryd.underlying58, asIntOf, go_sem, part, Tryd.isAgg9, Tryd.sizeOf9, h]
  intro hn
  omega
theorem info58 : (Tryd.prog.info? 58).map (·.size) = some 19 := by kernel_rfl
theorem signs_load (w : World) (hE : Env w) : ∃ C : List Value, w.rangeAt 0 0 C ∧ C.length = 19 ∧ ∀ (i : Nat) (l : List UInt8), signL[i]? = some l → C.toArray[i]? = some (Value.string (bs l)) := by
  refine ⟨signL.map fun l => Value.string (bs l), fun j v hv => ?_, rfl, fun i l h => by simp [h]⟩
  rw [List.getElem?_map] at hv
  obtain ⟨l, hl, rfl⟩ := Option.map_eq_some_iff.1 hv
  rw [Nat.zero_add]
  exact hE.sg j l hl

set_option maxHeartbeats 1000000 in
set_option maxRecDepth 100000 in
theorem tok_sign (c : UInt8) (r : List UInt8) (hc : isLet c = false) (hd : isDig c = false) (hq : c ≠ 34) (w : World) (hE : Env w) :
    Calls Tryd.prog 23 #[.string (bs (c :: r))] w fun e w' => e = .returned (TokV (tokF (c :: r))) ∧ Below w.heap.size w w' := by
  have h0 : 0 < (bs (c :: r)).size := by rw [bs_size]; simp
  have hg := bs_get (c :: r) 0 h0 (by simp)
  simp only [List.getElem_cons_zero] at hg
  have hC := fun w => Lib.hid (cls_letter c w)
  have hD := fun w => Lib.hid (cls_digit c w)
  rw [hc] at hC
  rw [hd] at hD
  have e34 : ((c.toNat : Int) == 34) = false := ne_of_u8 hq
  have hT : tokF (c :: r) = match signF (c :: r) with
      | some s => ⟨3, s, 0, s.length, 0⟩
      | none => bad 10 := by
    rw [tokF, if_neg (by simp [hc]), if_neg (by simp [hd]), if_neg hq]; rfl
  have HT := Lib.hid hT
  have HG := Lib.hid hg
  clear hT hg hc hd
  have hEa := hE.next (Tb.below w)
  have hP := fun (s : List UInt8) (w : World) => Lib.hid (hasPrefix_calls (c :: r) s w)
  go_enter Tryd.func23, Tryd.ntmps23
  go_wp2_with fail
  rw [HG.out]
  refine (hC _).out.mono ?_
  rintro e w1 ⟨rfl, rfl⟩
  go_wp2_with fail
  refine (hD _).out.mono ?_
  rintro e w1 ⟨rfl, rfl⟩
  obtain ⟨C, hload, hClen, hC2⟩ := signs_load _ hEa
  have hC3 := Lib.hid hC2
  clear hE hEa hC2
  go_wp2_with (refine wpList_load_mid rfl 58 (.global 0) rfl 0 0 rfl C _ hload Tryd.underlying58 rfl (by rw [hClen]; exact info58) ?_)
  have hC4 := Lib.hid hClen
  clear hClen hload
  have hC2 := hC3.out
  clear hC3
  generalize C.toArray = A at *
  go_wp2_with fail
  go_loopw [68] (fun i wr => ∃ k : Nat, k ≤ 19 ∧ i = .int .i64 k ∧ wr = w.alloc (.cells #[.int .i64 0, .string { data := #[] }, .int .i64 0, .int .i64 0] 25) ∧ noSign (c :: r) k) (fun i _ => 19 - (intOf i).toNat)
  case atStart => exact ⟨0, by omega, rfl, rfl, fun j t hj => by omega⟩
  case round =>
    obtain ⟨k, hk, rfl, rfl, hno⟩ := hrel
    have HNO := Lib.hid hno
    clear hno
    by_cases hlt : k < 19
    · have hlt2 : k < signL.length := hlt
      have hck := hC2 k _ (List.getElem?_eq_getElem hlt2)
      have hsk := Lib.hid (List.getElem?_eq_getElem hlt2)
      generalize signL[k]'hlt2 = s at *
      have hp := hP s (w.alloc (.cells #[.int .i64 0, .string { data := #[] }, .int .i64 0, .int .i64 0] 25))
      have hk2 : k < signL.length := hlt2
      have hbz := Lib.hid (bs_size s)
      generalize hh : Lib.hasPrefix (c :: r) s = b at hp
      have HH := Lib.hid hh
      have hT3 := Tb.fresh w
      have c0 := hT3.c0
      have c1 := hT3.c1
      have c2 := hT3.c2
      have c3 := hT3.c3
      have f0 := hT3.f 0
      have f1 := hT3.f 1
      have f2 := hT3.f 2
      have f3 := hT3.f 3
      have hix := idx_sign A k (bs s) hlt hck
      clear hC2 hh hP hT3 hck
      go_wp2_with fail
      refine hp.out.mono ?_
      rintro e w3 ⟨rfl, rfl⟩
      cases b
      · go_wp2
        go_roundw
        case rel => exact ⟨k + 1, by omega, by go_num, trivial, noSign_next HNO.out hsk.out HH.out⟩
        case measure => simp [intOf]; omega
      · have hF := Lib.hid (signF_hit HNO.out hsk.out HH.out)
        have hx : tokF (c :: r) = ⟨3, s, 0, s.length, 0⟩ := by rw [HT.out, hF.out]
        have HX := Lib.hid hx
        clear hx
        go_wp2
        refine bodyPost_ret (v := TokV (tokF (c :: r))) (by rw [HX.out]; simp [results, Tryd.results23, go_sem, TokV, bs_size]) rfl ⟨rfl, ?_⟩
        exact (Below.refl _ _).alloc (Nat.le_refl _) _
    · obtain rfl : k = 19 := by omega
      have hx : tokF (c :: r) = bad 10 := by rw [HT.out, signF_none HNO.out]
      have HX := Lib.hid hx
      have hT3 := Tb.fresh w
      have c0 := hT3.c0
      have c1 := hT3.c1
      have c2 := hT3.c2
      have c3 := hT3.c3
      have f0 := hT3.f 0
      have f1 := hT3.f 1
      have f2 := hT3.f 2
      have f3 := hT3.f 3
      clear hC2 hx hT3
      go_wp2
      refine bodyPost_ret (v := TokV (tokF (c :: r))) (by rw [HX.out]; simp [results, Tryd.results23, go_sem, TokV, bad, bs]) rfl ⟨rfl, ?_⟩
      exact (Below.refl _ _).alloc (Nat.le_refl _) _

theorem tok_calls (c : UInt8) (r : List UInt8) (hl : (c :: r).length ≤ 100000000) (w : World) (hE : Env w) :
    Calls Tryd.prog 23 #[.string (bs (c :: r))] w fun e w' => e = .returned (TokV (tokF (c :: r))) ∧ Below w.heap.size w w' := by
  cases h1 : isLet c
  · cases h2 : isDig c
    · by_cases h3 : c = 34
      · subst h3; exact tok_quote r hl w
      · exact tok_sign c r h1 h2 h3 w hE
    · exact tok_digit c r hl h1 h2 w hE
  · exact tok_letter c r hl h1 w
end Go.Proofs.YtadfdgdpalnnfaaDoor
