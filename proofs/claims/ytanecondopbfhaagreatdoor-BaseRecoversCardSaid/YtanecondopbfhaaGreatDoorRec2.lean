/- BaseRecovers: values as rows of cells; fewValues; the lengths of their encodings. -/
import Derived.Test.YtanecondopbfhaaGreatDoorRec1
import Derived.Test.YtanecondopbfhaaGreatDoorCod2
import Derived.Deep.Upon
import Derived.Deep.Quiet
namespace Go.Proofs.YtanecondopbfhaaGreatDoor
open Go.RowKit
open Cod (Env Val ValIs ValAt IsVals encV Few isInt)

def cost (v : Val) : Nat := v.s.length + v.l.length + v.t.length + (v.t.map List.length).sum

theorem textS_one (s : List UInt8) (h : s.length ≤ 400) : (Cod.textS s).length ≤ 30 + s.length := by
  have h1 := Cod.itoa_len (s.length : Int) (Cod.isInt_len (by omega))
  unfold Cod.textS
  simp only [List.length_append, List.length_cons, List.length_nil]; omega

theorem texts_cost : ∀ (l : List (List UInt8)), (∀ x ∈ l, x.length ≤ 400) → (l.flatMap Cod.textS).length ≤ 30 * l.length + (l.map List.length).sum
  | [], _ => by simp
  | a :: l, h => by
    have h1 := textS_one a (h a (List.mem_cons_self ..))
    have h2 := texts_cost l (fun x hx => h x (List.mem_cons_of_mem _ hx))
    simp only [List.flatMap_cons, List.length_append, List.length_cons, List.map_cons, List.sum_cons]; omega

theorem encV_cost (v : Val) (hf : Few v) (hc : cost v ≤ 400) (hn : isInt v.n) (hl : ∀ x ∈ v.l, isInt x) : (encV v).length ≤ 20000 := by
  unfold encV
  have hi := Cod.numberF_int v.n hn
  have h1 : (Cod.numS (Cod.numberF v.n)).length ≤ 21 := by
    unfold Cod.numS; split
    · simp
    · exact Cod.intS_len _ hi.1
  have h2 := Cod.intS_len v.n hn
  have h3 := Cod.textS_short v.s hf.2.2.1
  have h4 := Cod.numsS_len v.l hl hf.1
  have h5 : (Cod.textsS v.t).length ≤ 20000 := by
    have h6 := Cod.itoa_len (v.t.length : Int) (Cod.isInt_len (by have := hf.2.1; omega))
    have h7 := texts_cost v.t hf.2.2.2
    unfold cost at hc
    unfold Cod.textsS
    simp only [List.length_append, List.length_cons, List.length_nil]; omega
  repeat' split
  all_goals omega

/-! ### Rows of values -/

def RowVals (w : World) : List Val → List Value → Prop
  | [], xs => xs = []
  | v :: vs, xs => ∃ a b c d e ys, xs = a :: b :: c :: d :: e :: ys ∧ ValIs v a b c d e w ∧ RowVals w vs ys

variable {w : World}

theorem rv_len : ∀ {vs : List Val} {xs : List Value}, RowVals w vs xs → xs.length = vs.length * 5
  | [], xs, h => by have h : xs = [] := h; simp [h]
  | v :: vs, xs, ⟨a, b, c, d, e, ys, hx, _, hr⟩ => by have := rv_len hr; rw [hx]; simp only [List.length_cons]; omega

theorem rv_app : ∀ {vs vs' : List Val} {xs xs' : List Value}, RowVals w vs xs → RowVals w vs' xs' → RowVals w (vs ++ vs') (xs ++ xs')
  | [], vs', xs, xs', h, h' => by have h : xs = [] := h; rw [h]; exact h'
  | v :: vs, vs', xs, xs', ⟨a, b, c, d, e, ys, hx, hv, hr⟩, h' => ⟨a, b, c, d, e, ys ++ xs', by rw [hx]; rfl, hv, rv_app hr h'⟩

theorem rv_take : ∀ {vs : List Val} {xs : List Value} (k : Nat), RowVals w vs xs → RowVals w (vs.take k) (xs.take (k * 5))
  | _, _, 0, _ => by simp [RowVals]
  | [], xs, k + 1, h => by have h : xs = [] := h; simp [h, RowVals]
  | v :: vs, xs, k + 1, ⟨a, b, c, d, e, ys, hx, hv, hr⟩ => ⟨a, b, c, d, e, ys.take (k * 5), by rw [hx, show (k + 1) * 5 = k * 5 + 1 + 1 + 1 + 1 + 1 by omega]; rfl, hv, rv_take k hr⟩

theorem val_one {v : Val} {a b c d e : Value} (h : ValIs v a b c d e w) : ∀ u ∈ [a, b, c, d, e], u.oneCell' = true := by
  obtain ⟨rfl, rfl, rfl, hd, he, _⟩ := h
  obtain ⟨ad, cd, rfl⟩ := hd.len
  obtain ⟨ae, ce, rfl⟩ := he.len
  intro u hu
  simp at hu
  rcases hu with rfl | rfl | rfl | rfl | rfl <;> rfl

theorem rv_one : ∀ {vs : List Val} {xs : List Value}, RowVals w vs xs → ∀ u ∈ xs, u.oneCell' = true
  | [], xs, h, u, hu => by have h : xs = [] := h; rw [h] at hu; simp at hu
  | v :: vs, xs, ⟨a, b, c, d, e, ys, hx, hv, hr⟩, u, hu => by
    rw [hx] at hu
    have : u ∈ [a, b, c, d, e] ++ ys := hu
    rcases List.mem_append.1 this with h1 | h1
    · exact val_one hv u h1
    · exact rv_one hr u h1

theorem rv_get : ∀ {vs : List Val} {xs : List Value} (i : Nat) (v : Val), RowVals w vs xs → vs[i]? = some v → ∃ a b c d e, ValIs v a b c d e w ∧ ∀ j y, [a, b, c, d, e][j]? = some y → xs[i * 5 + j]? = some y
  | [], xs, i, v, _, hv => by simp at hv
  | v0 :: vs, xs, 0, v, ⟨a, b, c, d, e, ys, hx, hv0, hr⟩, hv => by
    simp at hv
    subst hv
    refine ⟨a, b, c, d, e, hv0, fun j y hj => ?_⟩
    have hlt := (List.getElem?_eq_some_iff.1 hj).1
    have : xs = [a, b, c, d, e] ++ ys := hx
    rw [this, Nat.zero_mul, Nat.zero_add, List.getElem?_append_left hlt]
    exact hj
  | v0 :: vs, xs, i + 1, v, ⟨a, b, c, d, e, ys, hx, hv0, hr⟩, hv => by
    rw [List.getElem?_cons_succ] at hv
    obtain ⟨a', b', c', d', e', h1, h2⟩ := rv_get i v hr hv
    refine ⟨a', b', c', d', e', h1, fun j y hj => ?_⟩
    rw [hx, show (i + 1) * 5 + j = (i * 5 + j) + 1 + 1 + 1 + 1 + 1 by omega]
    exact h2 j y hj

theorem rv_of : ∀ {vs : List Val} (bk off : Nat), (∀ i v, vs[i]? = some v → ValAt bk (off + i * 5) v w) → ∃ xs, RowVals w vs xs ∧ ∀ j y, xs[j]? = some y → w.cell? ⟨bk, off + j, none⟩ = some y
  | [], bk, off, _ => ⟨[], rfl, by simp⟩
  | v :: vs, bk, off, h => by
    obtain ⟨xs, h1, h2⟩ := rv_of (vs := vs) bk (off + 5) (fun i u hu => by have := h (i + 1) u (by simpa using hu); rwa [show off + (i + 1) * 5 = off + 5 + i * 5 by omega] at this)
    obtain ⟨a, b, c, d, e, hv, c0, c1, c2, c3, c4⟩ := h 0 v rfl
    refine ⟨a :: b :: c :: d :: e :: xs, ⟨a, b, c, d, e, xs, rfl, hv, h1⟩, fun j y hj => ?_⟩
    match j, hj with
    | 0, hj => simp at hj; subst hj; simpa using c0
    | 1, hj => simp at hj; subst hj; simpa using c1
    | 2, hj => simp at hj; subst hj; simpa using c2
    | 3, hj => simp at hj; subst hj; simpa using c3
    | 4, hj => simp at hj; subst hj; simpa using c4
    | j + 5, hj =>
      have := h2 j y (by simpa using hj)
      rwa [show off + 5 + j = off + (j + 5) by omega] at this

/-- What may be appended: m values, in the cells ys. -/
def VSrc (w : World) (x : Value) (m : Nat) (ys : List Value) : Prop := (∃ c, x = .slice none 0 c ∧ m = 0 ∧ ys = []) ∨ ∃ ad c, x = .slice (some ad) m c ∧ ∀ j u, ys[j]? = some u → w.cell? (ad.add j) = some u

theorem vsrc {a : Option Addr} {c : Nat} {vs : List Val} (h : IsVals (.slice a vs.length c) vs w) : ∃ xs, RowVals w vs xs ∧ ∀ W k c', Below w.heap.size w W → k ≤ vs.length → VSrc W (.slice a k c') k (xs.take (k * 5)) := by
  rcases h with ⟨_, rfl⟩ | ⟨bk, off, cap, e, hb, hc⟩
  · refine ⟨[], rfl, fun W k c' _ hk => ?_⟩
    obtain rfl : k = 0 := by simpa using hk
    cases a with
    | none => exact Or.inl ⟨c', rfl, rfl, by simp⟩
    | some ad => exact Or.inr ⟨ad, c', rfl, by simp⟩
  · simp only [Value.slice.injEq] at e
    obtain ⟨xs, h1, h2⟩ := rv_of bk off hc
    refine ⟨xs, h1, fun W k c' hW hk => Or.inr ⟨⟨bk, off, none⟩, c', by rw [e.1], fun j u hu => ?_⟩⟩
    rw [Go.WideShapes.add_plain, hW.cell (p := ⟨bk, off + j, none⟩) hb]
    have hj : j < k * 5 := by
      rcases Nat.lt_or_ge j (k * 5) with h' | h'
      · exact h'
      · rw [List.getElem?_eq_none (by rw [List.length_take]; omega)] at hu; simp at hu
    rw [List.getElem?_take_of_lt hj] at hu
    exact h2 j u hu

theorem info_val : (Tryz.prog.info? 65).map (fun i => (i.zero, i.size, i.bytes)) = some (some (.agg #[.int .i64 0, .int .i64 0, .string ⟨#[]⟩, .slice none 0 0, .slice none 0 0]), 5, 80) := by kernel_rfl

theorem info_val2 : ∃ (i : TypeInfo) (z : Value), Tryz.prog.info? 65 = some i ∧ i.zero = some z ∧ i.size = 5 ∧ i.bytes = 80 ∧ z.cells.size = 5 := by
  obtain ⟨i, h1, h2, h3, h4⟩ := info_of info_val
  exact ⟨i, _, h1, h2, h3, h4, by kernel_rfl⟩

theorem run_vals {B n m : Nat} {v x : Value} {xs ys : List Value} (hv : w.ownsRow B 65 5 v n xs) (hx : VSrc w x m ys) (hl : ys.length = m * 5) (h1 : ∀ u ∈ ys, u.oneCell' = true) (hlen : n + m ≤ 1000000000) (hB : B ≤ w.heap.size) :
    ∃ v' w', (Builtin.append_ #[61, 61] 61 #[v, x]).run Tryz.prog w = .ok v' w' ∧ w'.ownsRow B 65 5 v' (n + m) (xs ++ ys) ∧ w.grownBy w' v.ownBlock ∧ (v'.ownBlock = v.ownBlock ∨ v'.ownBlock = some w.heap.size) := by
  obtain ⟨i, z, hi, hz0, hz1, hz2, hz3⟩ := info_val2
  rcases hx with ⟨c, rfl, rfl, rfl⟩ | ⟨ad, c, rfl, hc⟩
  · obtain ⟨a, cc, rfl, hcap⟩ : ∃ a cc, v = .slice a n cc ∧ n ≤ cc := by
      obtain ⟨_, ⟨rfl, h0⟩ | ⟨g, cap, cur, rfl, _, _, hc, _⟩⟩ := id hv
      · exact ⟨none, 0, by rw [h0], by omega⟩
      · exact ⟨_, _, rfl, hc⟩
    have hs : Src Tryz.prog i.size 61 (.slice none 0 c) 0 [] w := ⟨Or.inl ⟨65, by kernel_rfl⟩, fun w' => rfl, rfl, rfl, by simp, fun u hu => by simp at hu⟩
    exact ⟨_, w, run_append_nothing (P := Tryz.prog) w _ _ _ 65 i (by kernel_rfl) hi a n cc hcap _ hs, by simpa using hv, ⟨rfl, rfl, rfl, Nat.le_refl _, fun _ _ _ => rfl⟩, Or.inl rfl⟩
  · obtain ⟨v', w', g1, g2, g3, _, g5⟩ := run_append_own_at (P := Tryz.prog) w B 61 61 65 i z 5 80 (by kernel_rfl) hi hz0 hz1 hz2 hz3 (by omega) v n xs hv ad m c ys hl hc h1 (by unfold maxLen; omega) (by omega) hB
    exact ⟨v', w', g1, g2, g3, g5⟩

/-- At a list of operations, guarded or not. -/
theorem wpList_vals {ops : Array Oper} {rest : List Oper} {o : Oper} {a : Act} {Q : Exit → Act → World → Prop} (hw : Region.wanted o (yielded ops a.tmps) = true) (s x : Operand)
    (ho : o.op = .call { callee := .builtin .append, args := #[s, x], argTypes := #[61, 61] }) (hot : o.type = 61)
    {B n m : Nat} {v xv : Value} {xs ys : List Value} (hs : a.eval s = v) (hx : a.eval x = xv) (hv : w.ownsRow B 65 5 v n xs) (hxr : VSrc w xv m ys) (hl : ys.length = m * 5) (h1 : ∀ u ∈ ys, u.oneCell' = true) (hlen : n + m ≤ 1000000000) (hB : B ≤ w.heap.size)
    (h : ∀ v' w', w'.ownsRow B 65 5 v' (n + m) (xs ++ ys) → w.grownBy w' v.ownBlock → (v'.ownBlock = v.ownBlock ∨ v'.ownBlock = some w.heap.size) → wpList Tryz.prog ops Q rest (a.put o.dst v') w') :
    wpList Tryz.prog ops Q (o :: rest) a w := by
  refine wpList_step fun K hK => ?_
  rw [if_pos hw]
  obtain ⟨v', w', hr, h2, h3, h4⟩ := run_vals hv hxr hl h1 hlen hB
  unfold Oper.wp execOp
  simp only [ho, hot, resolve, invoke, builtin, Sem.run_bind, Sem.run_pure, Result.andThen_ok, List.map_toArray, List.map_cons, List.map_nil, hs, hx, hr]
  exact hK _ _ (h v' w' h2 h3 h4)

theorem vrow_none {H : Nat} (hH : w.heap.size = H) : (w.alloc (.cells #[] 65)).ownsRow H 65 5 (.slice (some ⟨H, 0, none⟩) 0 0) 0 [] := by
  subst hH
  exact ⟨rfl, .inr ⟨w.heap.size, 0, #[], rfl, Nat.le_refl _, heap_alloc_new w _, Nat.le_refl _, by unfold maxLen; omega, rfl, rfl⟩⟩

end Go.Proofs.YtanecondopbfhaaGreatDoor
