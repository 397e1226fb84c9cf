/- Decode: the numbers that have not been read yet. -/
import Derived.Test.YthnkfjjgccabeaaGreatDoorEncA
namespace Go.Proofs.YthnkfjjgccabeaaGreatDoor
open Go.RowKit

/-! ### reading numbers, as functions -/
def nextF : List Int × Bool → Int × (List Int × Bool)
  | ([], _) => (0, ([], true))
  | (x :: t, f) => (x, (t, f))
def countF (r : List Int × Bool) : Int × (List Int × Bool) :=
  if (nextF r).1 < 0 ∨ ((nextF r).2.1.length : Int) < (nextF r).1 then (0, ((nextF r).2.1, true)) else nextF r
def cutF (r : List Int × Bool) : List Int × (List Int × Bool) := ((countF r).2.1.take (countF r).1.toNat, ((countF r).2.1.drop (countF r).1.toNat, (countF r).2.2))

/-- The numbers that are left, in a block of their own. -/
def Nb (W0 : World) (b : Nat) (r : List Int × Bool) (w : World) : Prop :=
  ∃ a c, Blk w b 80 #[.slice a r.1.length c, .bool r.2] ∧ r.1.length ≤ c ∧ IsNums (.slice a r.1.length c) r.1 W0
theorem Blk.set0 {w : World} {b : Nat} {t : TypeId} {x y : Value} (h : Blk w b t #[x, y]) (u : Value) : Blk (w.setCell ⟨b, 0, none⟩ u) b t #[u, y] := by
  simpa using h.set_ 0 u
theorem Blk.set1 {w : World} {b : Nat} {t : TypeId} {x y : Value} (h : Blk w b t #[x, y]) (u : Value) : Blk (w.setCell ⟨b, 1, none⟩ u) b t #[x, u] := by
  simpa using h.set_ 1 u

theorem nums_drop {bk off n c c' k : Nat} {l : List Int} {W : World} (h : IsNums (.slice (some ⟨bk, off, none⟩) n c) l W) : IsNums (.slice (some ⟨bk, off + k, none⟩) (l.drop k).length c') (l.drop k) W := by
  rcases h with ⟨_, h0⟩ | ⟨bk', off', cap, hv, hlt, hc⟩
  · subst h0; simp only [List.drop_nil]; exact .inl ⟨⟨_, _, rfl⟩, rfl⟩
  · simp only [Value.slice.injEq, Option.some.injEq, Addr.mk.injEq, and_true] at hv
    obtain ⟨⟨rfl, rfl⟩, rfl, rfl⟩ := hv
    refine .inr ⟨bk, off + k, c', rfl, hlt, fun i x hx => ?_⟩
    rw [List.getElem?_drop] at hx
    rw [Nat.add_assoc]
    exact hc _ x hx
theorem nums_none {a : Option Addr} {c : Nat} {l : List Int} {W : World} (h : l.length = 0) : IsNums (.slice a l.length c) l W := by
  obtain rfl := List.eq_nil_of_length_eq_zero h
  exact .inl ⟨⟨_, _, rfl⟩, rfl⟩

set_option maxRecDepth 100000 in
set_option maxHeartbeats 1000000 in
theorem next_calls (W0 : World) (b : Nat) (r : List Int × Bool) (w : World) (h : Nb W0 b r w) (hb : Below W0.heap.size W0 w) (hl : r.1.length ≤ 9223372036854775807) :
    Calls Tryz.prog 33 #[.pointer (some ⟨b, 0, none⟩)] w fun e w' => e = .returned (.int .i64 (nextF r).1) ∧ Nb W0 b (nextF r).2 w' ∧ w.grownBy w' (some b) := by
  obtain ⟨a, c, hB, hc, hn⟩ := h
  obtain ⟨l, f⟩ := r
  obtain ⟨z0, z1⟩ := hB.get2
  have zf := hB.frozen
  cases l with
  | nil =>
    have HN := Lib.hid (hB.set1 (.bool true))
    have HI := Lib.hid hn
    clear hB hn
    have z0 : w.cell? ⟨b, 0, none⟩ = some (.slice a 0 c) := z0
    go_enter Tryz.func33, Tryz.ntmps33
    go_wp2
    go_ret
    exact ⟨rfl, ⟨a, c, HN.out, Nat.zero_le _, HI.out⟩, Cod.only_setCell (p := ⟨b, 1, none⟩) (Cod.only_refl _ _) (.inl rfl) _⟩
  | cons x t =>
    simp only [List.length_cons] at z0 hc hl
    obtain ⟨bk, off, rfl, hlt, y, hy, y0⟩ := hn.at 0 (by simp)
    have hyx : y = x := by rw [hy]; rfl
    subst hyx
    have y1 : w.cell? ⟨bk, off + 0, none⟩ = some (.int .i64 y) := by rw [hb.cell (p := ⟨bk, off + 0, none⟩) hlt]; exact y0
    rw [Nat.add_zero] at y1
    have HN := fun u => Lib.hid (hB.set0 u)
    have HI := Lib.hid hn
    have hne : (((t.length + 1 : Nat) : Int) == 0) = false := by simp; omega
    clear hB hn hy y0
    go_enter Tryz.func33, Tryz.ntmps33
    go_wp2
    · go_ret
      refine ⟨rfl, ⟨_, _, (HN _).out, by simp only [nextF]; omega, nums_none (by simp only [nextF]; omega)⟩, Cod.only_setCell (p := ⟨b, 0, none⟩) (Cod.only_refl _ _) (.inl rfl) _⟩
    · go_ret
      exact ⟨rfl, ⟨_, _, (HN _).out, by simp only [nextF]; omega, nums_drop (k := 1) HI.out⟩, Cod.only_setCell (p := ⟨b, 0, none⟩) (Cod.only_refl _ _) (.inl rfl) _⟩

theorem Nb.next {W0 w w' : World} {b : Nat} {r : List Int × Bool} (h : Nb W0 b r w) (hb : Below w.heap.size w w') : Nb W0 b r w' := by
  obtain ⟨a, c, h1, h2, h3⟩ := h
  exact ⟨a, c, h1.next hb, h2, h3⟩
theorem below_grown {W0 w w' : World} {b : Nat} (h : Below W0.heap.size W0 w) (hg : w.grownBy w' (some b)) (hb : W0.heap.size ≤ b) : Below W0.heap.size W0 w' :=
  h.trans ⟨hg.os, hg.tape, hg.output, hg.size, fun i hi => hg.block i (Nat.lt_of_lt_of_le hi h.size) (by simp; omega)⟩
theorem nextF_le (r : List Int × Bool) : (nextF r).2.1.length ≤ r.1.length := by
  obtain ⟨l, f⟩ := r
  cases l <;> simp [nextF]

set_option maxRecDepth 100000 in
set_option maxHeartbeats 1000000 in
theorem count_calls (W0 : World) (b : Nat) (r : List Int × Bool) (w : World) (h : Nb W0 b r w) (hb : Below W0.heap.size W0 w) (hl : r.1.length ≤ 9223372036854775807) :
    Calls Tryz.prog 32 #[.pointer (some ⟨b, 0, none⟩)] w fun e w' => e = .returned (.int .i64 (countF r).1) ∧ Nb W0 b (countF r).2 w' ∧ w.grownBy w' (some b) := by
  have c1 := Lib.hid (next_calls W0 b r w h hb hl)
  have HC : Hid (countF r = if (nextF r).1 < 0 ∨ ((nextF r).2.1.length : Int) < (nextF r).1 then (0, ((nextF r).2.1, true)) else nextF r) := rfl
  have hln := Nat.le_trans (nextF_le r) hl
  generalize nextF r = q at *
  obtain ⟨n, l, f⟩ := q
  simp only at c1 HC hln
  clear h hb hl
  go_enter Tryz.func32, Tryz.ntmps32
  go_wp2_with fail
  refine c1.out.mono ?_
  clear c1
  rintro e w1 ⟨rfl, ⟨a, c, hB, hc, hn⟩, hg⟩
  obtain ⟨z0, z1⟩ := hB.get2
  have zf := hB.frozen
  simp only at z0 z1 hc hn
  have HN := Lib.hid (hB.set1 (.bool true))
  have HB := Lib.hid hB
  have HI := Lib.hid hn
  clear hB hn
  by_cases h1 : n < 0
  · have HF : Hid (countF r = (0, (l, true))) := by show _ = _; rw [HC.out, if_pos (.inl h1)]
    clear HC
    go_wp2
    go_ret
    rw [HF.out]
    exact ⟨rfl, ⟨_, _, HN.out, hc, HI.out⟩, Cod.only_setCell (p := ⟨b, 1, none⟩) hg (.inl rfl) _⟩
  · by_cases h2 : (l.length : Int) < n
    · have HF : Hid (countF r = (0, (l, true))) := by show _ = _; rw [HC.out, if_pos (.inr h2)]
      clear HC
      go_wp2
      go_ret
      rw [HF.out]
      exact ⟨rfl, ⟨_, _, HN.out, hc, HI.out⟩, Cod.only_setCell (p := ⟨b, 1, none⟩) hg (.inl rfl) _⟩
    · have HF : Hid (countF r = (n, (l, f))) := by show _ = _; rw [HC.out, if_neg (by rintro (h | h) <;> omega)]
      clear HC
      go_wp2
      go_ret
      rw [HF.out]
      exact ⟨rfl, ⟨_, _, HB.out, hc, HI.out⟩, hg⟩

theorem nums_take {a : Option Addr} {n c c' k : Nat} {l : List Int} {W : World} (h : IsNums (.slice a n c) l W) : IsNums (.slice a (l.take k).length c') (l.take k) W := by
  rcases h with ⟨_, h0⟩ | ⟨bk, off, cap, hv, hlt, hc⟩
  · subst h0; simp only [List.take_nil]; exact .inl ⟨⟨_, _, rfl⟩, rfl⟩
  · simp only [Value.slice.injEq] at hv
    obtain ⟨rfl, rfl, rfl⟩ := hv
    refine .inr ⟨bk, off, c', rfl, hlt, fun i x hx => hc i x ?_⟩
    rw [List.getElem?_take] at hx
    split at hx
    · exact hx
    · cases hx
theorem clone_calls (a : Option Addr) (c : Nat) (l : List Int) (w : World) (h : IsNums (.slice a l.length c) l w) (hl : l.length * 8 ≤ 140737488355328) :
    Calls Tryz.prog 60 #[.slice a l.length c] w fun e w' => ∃ v, e = .returned v ∧ OInts w.heap.size v l w' ∧ Below w.heap.size w w' := by
  cases a with
  | none =>
    have h0 : l = [] := by
      rcases h with ⟨_, h0⟩ | ⟨bk, off, cap, hv, _⟩
      · exact h0
      · simp at hv
    subst h0
    exact (Tryz.slices_Clone_int_nil 0 c w).mono fun e w' ⟨h1, h2⟩ => ⟨_, h1, World.ownsRow_nil _ _ _ _, h2 ▸ Below.refl _ _⟩
  | some p =>
    by_cases h0 : l = []
    · subst h0
      exact (Tryz.slices_Clone_int_zero p c w).mono fun e w' ⟨v, h1, h2, _, h3⟩ => ⟨v, h1, h2, h3⟩
    · rcases h with ⟨_, h1⟩ | ⟨bk, off, cap, hv, hlt, hc⟩
      · exact absurd h1 h0
      · simp only [Value.slice.injEq, Option.some.injEq, true_and] at hv
        obtain ⟨rfl, rfl⟩ := hv
        refine (Tryz.slices_Clone_int bk off l.length c l w (Nat.le_refl _) hl fun j hj => ?_).mono fun e w' ⟨v, h1, h2, _, h3⟩ => ⟨v, h1, by rw [List.take_length] at h2; exact h2, h3⟩
        rw [hc j l[j] (List.getElem?_eq_getElem hj), List.getD_eq_getElem?_getD, List.getElem?_eq_getElem hj]
        rfl
theorem countF_ok (r : List Int × Bool) : 0 ≤ (countF r).1 ∧ (countF r).1 ≤ ((countF r).2.1.length : Int) := by
  unfold countF
  split
  · simp
  · omega
theorem countF_le (r : List Int × Bool) : (countF r).2.1.length ≤ r.1.length := by
  unfold countF
  split
  · exact nextF_le r
  · exact nextF_le r

theorem OInts.block {B g : Nat} {v : Value} {L : List Int} {w : World} (h : OInts B v L w) (hg : v.ownBlock = some g) : B ≤ g := by
  obtain ⟨_, ⟨rfl, h0⟩ | ⟨g', cap, cur, rfl, hgB, _⟩⟩ := id h
  · cases hg
  · simp only [Value.ownBlock] at hg
    obtain rfl := Option.some.inj hg
    exact hgB
theorem OInts.far {B : Nat} {v : Value} {L : List Int} {w : World} (h : OInts B v L w) {p : Addr} (hp : p.block < B) (u : Value) : OInts B v L (w.setCell p u) := by
  obtain ⟨hl, ⟨hv, h0⟩ | ⟨g, cap, cur, hv, hgB, hh, hc, hm, hs, ht⟩⟩ := h
  · exact ⟨hl, .inl ⟨hv, h0⟩⟩
  · exact ⟨hl, .inr ⟨g, cap, cur, hv, hgB, (Below.heap_setCell w p u g (by omega)).trans hh, hc, hm, hs, ht⟩⟩
theorem OInts.low {B B' : Nat} {v : Value} {L : List Int} {w : World} (h : OInts B v L w) (hb : B' ≤ B) : OInts B' v L w := by
  obtain ⟨hl, ⟨hv, h0⟩ | ⟨g, cap, cur, hv, hgB, hh, hc, hm, hs, ht⟩⟩ := h
  · exact ⟨hl, .inl ⟨hv, h0⟩⟩
  · exact ⟨hl, .inr ⟨g, cap, cur, hv, Nat.le_trans hb hgB, hh, hc, hm, hs, ht⟩⟩

set_option maxRecDepth 100000 in
set_option maxHeartbeats 1000000 in
theorem list_calls (W0 : World) (b : Nat) (r : List Int × Bool) (w : World) (h : Nb W0 b r w) (hb : Below W0.heap.size W0 w) (hbb : W0.heap.size ≤ b) (hl : r.1.length ≤ 1000000000) :
    Calls Tryz.prog 34 #[.pointer (some ⟨b, 0, none⟩)] w fun e w' => ∃ v, e = .returned v ∧ OInts w.heap.size v (cutF r).1 w' ∧ Nb W0 b (cutF r).2 w' ∧ w.grownBy w' (some b) := by
  have c1 := Lib.hid (count_calls W0 b r w h hb (by omega))
  have HC : Hid (cutF r = ((countF r).2.1.take (countF r).1.toNat, ((countF r).2.1.drop (countF r).1.toNat, (countF r).2.2))) := rfl
  have hln := Nat.le_trans (countF_le r) hl
  have hok := countF_ok r
  generalize countF r = q at *
  obtain ⟨n0, l, f⟩ := q
  simp only at c1 HC hln hok
  obtain ⟨n, rfl⟩ := Int.eq_ofNat_of_zero_le hok.1
  have hn := Int.ofNat_le.1 hok.2
  rw [Int.toNat_natCast] at HC
  rw [HC.out]
  clear h hok HC
  have hb0 := Lib.hid hb
  clear hb
  go_enter Tryz.func34, Tryz.ntmps34
  go_wp2_with fail
  refine c1.out.mono ?_
  clear c1
  rintro e w1 ⟨rfl, ⟨a, c, hB, hc, hI⟩, hg⟩
  obtain ⟨z0, z1⟩ := hB.get2
  simp only at z0 z1 hc hI
  have hb1 := below_grown hb0.out hg hbb
  have hlt : (l.take n).length = n := by simp; omega
  have c2 := Lib.hid (clone_calls a c (l.take n) w1 ((nums_take (k := n) hI).next hb1) (by rw [hlt]; omega))
  rw [hlt] at c2
  have HB := Lib.hid hB
  have HI := Lib.hid hI
  clear hB hI hb1 hlt
  go_wp2_with fail
  refine c2.out.mono ?_
  clear c2
  rintro e w2 ⟨v, rfl, hO, hb2⟩
  have hB2 := HB.out.next hb2
  obtain ⟨z0, z1⟩ := hB2.get2
  have zf := hB2.frozen
  have HN := fun u => Lib.hid (hB2.set0 u)
  have hbl := hB2.lt
  have hlb : w1.heap.size ≤ w2.heap.size := hb2.size
  have HG := fun u => Lib.hid (Cod.only_setCell (p := ⟨b, 0, none⟩) (Cod.only_below hg hb2) (.inl rfl) u)
  have hb1 : b < w1.heap.size := HB.out.lt
  have HO := fun u => Lib.hid ((hO.far (p := ⟨b, 0, none⟩) hb1 u).low hg.size)
  clear HB hB2 hO hb2 hg
  by_cases h0 : l = []
  · subst h0
    obtain rfl : n = 0 := by simpa using hn
    go_wp2
    all_goals
      go_ret
      refine ⟨_, rfl, (HO _).out, ⟨_, _, (HN _).out, ?_, nums_none (by simp)⟩, (HG _).out⟩
      simp
  · obtain ⟨bk, off, rfl⟩ : ∃ bk off, a = some ⟨bk, off, none⟩ := by
      rcases HI.out with ⟨_, h1⟩ | ⟨bk, off, cap, hv, _⟩
      · exact absurd h1 h0
      · simp only [Value.slice.injEq] at hv
        exact ⟨bk, off, hv.1⟩
    have hI := fun c' => Lib.hid (nums_drop (k := n) (c' := c') HI.out)
    have hdl : (l.drop n).length = l.length - n := by simp
    rw [hdl] at hI
    have HDL := Lib.hid hdl
    clear hdl
    go_wp2
    · go_ret
      refine ⟨_, rfl, (HO _).out, ⟨some ⟨bk, off, none⟩, 0, ?_, ?_, ?_⟩, (HG _).out⟩
      · show Blk _ b _ #[.slice _ (l.drop n).length _, _]
        rw [HDL.out]; exact (HN _).out
      · show (l.drop n).length ≤ 0
        rw [HDL.out]; omega
      · exact nums_none (by show (l.drop n).length = 0; rw [HDL.out]; omega)
    · go_ret
      refine ⟨_, rfl, (HO _).out, ⟨some ⟨bk, off + n, none⟩, c - n, ?_, ?_, ?_⟩, (HG _).out⟩
      · show Blk _ b _ #[.slice _ (l.drop n).length _, _]
        rw [HDL.out]; exact (HN _).out
      · show (l.drop n).length ≤ c - n
        rw [HDL.out]; omega
      · show IsNums (.slice _ (l.drop n).length _) _ _
        rw [HDL.out]; exact (hI _).out
end Go.Proofs.YthnkfjjgccabeaaGreatDoor
/- Decode: what it reads, as functions, and how it lies in memory. -/
namespace Go.Proofs.YthnkfjjgccabeaaGreatDoor
open Go.RowKit

/-! ### as functions -/
def innerF : Nat → List Int × Bool → (List Int × List (List Int)) × (List Int × Bool)
  | 0, r => (([], []), r)
  | n + 1, r => (((nextF r).1 :: (innerF n (cutF (nextF r).2).2).1.1, (cutF (nextF r).2).1 :: (innerF n (cutF (nextF r).2).2).1.2), (innerF n (cutF (nextF r).2).2).2)
def rowF (r : List Int × Bool) : (List Int × List (List Int)) × (List Int × Bool) := innerF (countF r).1.toNat (countF r).2
def outerF : Nat → List Int × Bool → (List (List Int) × List (List (List Int))) × (List Int × Bool)
  | 0, r => (([], []), r)
  | n + 1, r => (((rowF r).1.1 :: (outerF n (rowF r).2).1.1, (rowF r).1.2 :: (outerF n (rowF r).2).1.2), (outerF n (rowF r).2).2)
def tabF (r : List Int × Bool) : (List (List Int) × List (List (List Int))) × (List Int × Bool) := outerF (countF r).1.toNat (countF r).2
theorem cutF_le (r : List Int × Bool) : (cutF r).2.1.length ≤ r.1.length := by
  unfold cutF
  simp only [List.length_drop]
  have := countF_le r
  omega

/-! ### two lists side by side -/
def All2 {α : Type} (R : Value → α → Prop) : List Value → List α → Prop
  | [], [] => True
  | u :: us, x :: xs => R u x ∧ All2 R us xs
  | _, _ => False
theorem All2.len {α : Type} {R : Value → α → Prop} : ∀ {us : List Value} {xs : List α}, All2 R us xs → us.length = xs.length
  | [], [], _ => rfl
  | _ :: _, _ :: _, h => by simp [All2.len h.2]
  | [], _ :: _, h => h.elim
  | _ :: _, [], h => h.elim
theorem All2.imp {α : Type} {R R' : Value → α → Prop} (hi : ∀ u x, R u x → R' u x) : ∀ {us : List Value} {xs : List α}, All2 R us xs → All2 R' us xs
  | [], [], _ => trivial
  | _ :: _, _ :: _, h => ⟨hi _ _ h.1, All2.imp hi h.2⟩
  | [], _ :: _, h => h.elim
  | _ :: _, [], h => h.elim
theorem All2.snoc {α : Type} {R : Value → α → Prop} {u : Value} {x : α} (hu : R u x) : ∀ {us : List Value} {xs : List α}, All2 R us xs → All2 R (us ++ [u]) (xs ++ [x])
  | [], [], _ => ⟨hu, trivial⟩
  | _ :: _, _ :: _, h => ⟨h.1, All2.snoc hu h.2⟩
  | [], _ :: _, h => h.elim
  | _ :: _, [], h => h.elim
theorem All2.get {α : Type} {R : Value → α → Prop} : ∀ {us : List Value} {xs : List α} (i : Nat) (x : α), All2 R us xs → xs[i]? = some x → ∃ u, us[i]? = some u ∧ R u x
  | u :: us, y :: xs, 0, x, h, hx => by
    simp only [List.getElem?_cons_zero, Option.some.injEq] at hx
    subst hx
    exact ⟨u, rfl, h.1⟩
  | u :: us, y :: xs, i + 1, x, h, hx => by
    rw [List.getElem?_cons_succ] at hx
    obtain ⟨u', h1, h2⟩ := All2.get i x h.2 hx
    exact ⟨u', by rw [List.getElem?_cons_succ]; exact h1, h2⟩
  | [], [], _, _, _, hx => by simp at hx
  | [], _ :: _, _, _, h, _ => h.elim
  | _ :: _, [], _, _, h, _ => h.elim

/-! ### what is finished lies in a set of blocks -/
abbrev BSet := Nat → Prop
def Fz (S : BSet) (w w' : World) : Prop := w.heap.size ≤ w'.heap.size ∧ ∀ b, S b → b < w.heap.size → w'.heap[b]? = w.heap[b]?
theorem Fz.below {S : BSet} {w w' : World} (h : Below w.heap.size w w') : Fz S w w' := ⟨h.size, fun b _ hb => h.block b hb⟩
theorem Fz.grown {S : BSet} {w w' : World} {g : Option Nat} (h : w.grownBy w' g) (hn : ∀ k, S k → some k ≠ g) : Fz S w w' := ⟨h.size, fun b hs hb => h.block b hb (hn b hs)⟩
def NumsS (S : BSet) (w : World) (u : Value) (x : List Int) : Prop :=
  ((∃ a c, u = .slice a 0 c) ∧ x = []) ∨ ∃ bk off cap, u = .slice (some ⟨bk, off, none⟩) x.length cap ∧ (S bk ∧ bk < w.heap.size) ∧ ∀ i y, x[i]? = some y → w.cell? ⟨bk, off + i, none⟩ = some (.int .i64 y)
theorem NumsS.fz {S S' : BSet} {w w' : World} {u : Value} {x : List Int} (h : NumsS S w u x) (hf : Fz S w w') (hs : ∀ k, S k → S' k) : NumsS S' w' u x := by
  rcases h with h | ⟨bk, off, cap, hv, hlt, hc⟩
  · exact .inl h
  · exact .inr ⟨bk, off, cap, hv, ⟨hs _ hlt.1, Nat.lt_of_lt_of_le hlt.2 hf.1⟩, fun i y hy => by
      rw [World.cell?_of_block (a := ⟨bk, off + i, none⟩) (hf.2 bk hlt.1 hlt.2)]; exact hc i y hy⟩
theorem NumsS.into {S : BSet} {w : World} {u : Value} {x : List Int} (h : NumsS S w u x) : NumsIn 0 u x w := by
  rcases h with h | ⟨bk, off, cap, hv, hlt, hc⟩
  · exact .inl h
  · exact .inr ⟨bk, off, cap, hv, ⟨Nat.zero_le _, hlt.2⟩, fun i y hy => by rw [Nat.mul_one]; exact hc i y hy⟩
theorem NumsS.of {S : BSet} {w : World} {B : Nat} {v : Value} {L : List Int} (h : OInts B v L w) (hS : ∀ g, v.ownBlock = some g → S g) : NumsS S w v L := by
  rcases h.nums with h1 | ⟨bk, off, cap, hv, hlt, hc⟩
  · exact .inl h1
  · exact .inr ⟨bk, off, cap, hv, ⟨hS bk (by rw [hv]; rfl), hlt⟩, hc⟩
def ListsS (S : BSet) (w : World) (u : Value) (t : List (List Int)) : Prop :=
  ((∃ a c, u = .slice a 0 c) ∧ t = []) ∨ ∃ bk cap us, u = .slice (some ⟨bk, 0, none⟩) t.length cap ∧ (S bk ∧ bk < w.heap.size) ∧ (∀ i z, us[i]? = some z → w.cell? ⟨bk, i, none⟩ = some z) ∧ All2 (NumsS S w) us t
theorem ListsS.fz {S S' : BSet} {w w' : World} {u : Value} {t : List (List Int)} (h : ListsS S w u t) (hf : Fz S w w') (hs : ∀ k, S k → S' k) : ListsS S' w' u t := by
  rcases h with h | ⟨bk, cap, us, hv, hlt, hc, ha⟩
  · exact .inl h
  · exact .inr ⟨bk, cap, us, hv, ⟨hs _ hlt.1, Nat.lt_of_lt_of_le hlt.2 hf.1⟩, fun i y hy => by
      rw [World.cell?_of_block (a := ⟨bk, i, none⟩) (hf.2 bk hlt.1 hlt.2)]; exact hc i y hy, ha.imp fun _ _ h => h.fz hf hs⟩
theorem ListsS.into {S : BSet} {w : World} {u : Value} {t : List (List Int)} (h : ListsS S w u t) : IsLists 0 u t w := by
  rcases h with h | ⟨bk, cap, us, hv, hlt, hc, ha⟩
  · exact .inl h
  · refine .inr ⟨bk, 0, cap, hv, ⟨Nat.zero_le _, hlt.2⟩, fun i y hy => ?_⟩
    obtain ⟨u', h1, h2⟩ := ha.get i y hy
    exact ⟨u', by rw [Nat.mul_one, Nat.zero_add]; exact hc i u' h1, h2.into⟩

/-! ### rows of values of the call's own -/
def OV (e : TypeId) (B : Nat) (v : Value) (us : List Value) (w : World) : Prop := w.ownsRow B e 1 v us.length us
section
variable {e : TypeId} {B : Nat} {v : Value} {us : List Value} {w w' : World}
theorem OV.cells {g cap : Nat} (h : OV e B (.slice (some ⟨g, 0, none⟩) us.length cap) us w) : g < w.heap.size ∧ ∀ i z, us[i]? = some z → w.cell? ⟨g, i, none⟩ = some z := by
  obtain ⟨hl, ⟨hv, h0⟩ | ⟨g', cap', cur, hv, hgB, hh, hc, hm, hs, ht⟩⟩ := h
  · cases hv
  · simp only [Value.slice.injEq, Option.some.injEq, Addr.mk.injEq, and_true] at hv
    obtain ⟨rfl, -, rfl⟩ := hv
    refine ⟨?_, fun i z hz => ?_⟩
    · rcases Nat.lt_or_ge g w.heap.size with h' | h'
      · exact h'
      · simp [Array.getElem?_eq_none h'] at hh
    · rw [← ht] at hz
      rw [List.getElem?_take] at hz
      split at hz
      · simp [World.cell?, hh, ← hz]
      · cases hz
theorem OV.form (h : OV e B v us w) : (v = .slice none 0 0 ∧ us = []) ∨ ∃ g cap, v = .slice (some ⟨g, 0, none⟩) us.length cap := by
  obtain ⟨hl, ⟨hv, h0⟩ | ⟨g, cap, cur, hv, _⟩⟩ := h
  · exact .inl ⟨hv, List.eq_nil_of_length_eq_zero h0⟩
  · exact .inr ⟨g, cap, hv⟩
theorem OV.lists {S : BSet} {t : List (List Int)} (h : OV e B v us w) (hS : ∀ g, v.ownBlock = some g → S g) (ha : All2 (NumsS S w) us t) : ListsS S w v t := by
  rcases h.form with ⟨rfl, rfl⟩ | ⟨g, cap, rfl⟩
  · exact .inl ⟨⟨_, _, rfl⟩, by have := ha.len; exact List.eq_nil_of_length_eq_zero this.symm⟩
  · obtain ⟨h1, h2⟩ := h.cells
    exact .inr ⟨g, cap, us, by rw [ha.len], ⟨hS g rfl, h1⟩, h2, ha⟩
theorem OV.isLists {S : BSet} {t : List (List Int)} (h : OV e B v us w) (ha : All2 (NumsS S w) us t) : IsLists 0 v t w := by
  rcases h.form with ⟨rfl, rfl⟩ | ⟨g, cap, rfl⟩
  · exact .inl ⟨⟨_, _, rfl⟩, by have := ha.len; exact List.eq_nil_of_length_eq_zero this.symm⟩
  · obtain ⟨h1, h2⟩ := h.cells
    refine .inr ⟨g, 0, cap, by rw [ha.len], ⟨Nat.zero_le _, h1⟩, fun i y hy => ?_⟩
    obtain ⟨u', h3, h4⟩ := ha.get i y hy
    exact ⟨u', by rw [Nat.mul_one, Nat.zero_add]; exact h2 i u' h3, h4.into⟩
theorem OV.isTables {S : BSet} {t : List (List (List Int))} (h : OV e B v us w) (ha : All2 (ListsS S w) us t) : IsTables 0 v t w := by
  rcases h.form with ⟨rfl, rfl⟩ | ⟨g, cap, rfl⟩
  · exact .inl ⟨⟨_, _, rfl⟩, by have := ha.len; exact List.eq_nil_of_length_eq_zero this.symm⟩
  · obtain ⟨h1, h2⟩ := h.cells
    refine .inr ⟨g, 0, cap, by rw [ha.len], ⟨Nat.zero_le _, h1⟩, fun i y hy => ?_⟩
    obtain ⟨u', h3, h4⟩ := ha.get i y hy
    exact ⟨u', by rw [Nat.mul_one, Nat.zero_add]; exact h2 i u' h3, h4.into⟩
/-- The block of a row has the row's type, and lies at or above its base. -/
theorem OV.type {g : Nat} {v : Value} {us : List Value} {w : World} (h : OV e B v us w) (hg : v.ownBlock = some g) : B ≤ g ∧ g < w.heap.size ∧ ∃ cur, w.heap[g]? = some (.cells cur e (0, 0)) := by
  obtain ⟨hl, ⟨hv, h0⟩ | ⟨g', cap', cur, hv, hgB, hh, _⟩⟩ := h
  · rw [hv] at hg; cases hg
  · rw [hv] at hg
    obtain rfl : g' = g := Option.some.inj hg
    refine ⟨hgB, ?_, cur, hh⟩
    rcases Nat.lt_or_ge g' w.heap.size with h' | h'
    · exact h'
    · simp [Array.getElem?_eq_none h'] at hh
theorem OV.keep (h : OV e B v us w) (hk : ∀ g, v.ownBlock = some g → w'.heap[g]? = w.heap[g]?) : OV e B v us w' := by
  obtain ⟨hl, ⟨hv, h0⟩ | ⟨g, cap, cur, hv, hgB, hh, hc, hm, hs, ht⟩⟩ := h
  · exact ⟨hl, .inl ⟨hv, h0⟩⟩
  · exact ⟨hl, .inr ⟨g, cap, cur, hv, hgB, (hk g (by rw [hv]; rfl)).trans hh, hc, hm, hs, ht⟩⟩
theorem OV.fz (h : OV e B v us w) (hg : w.heap.size ≤ w'.heap.size ∧ ∀ k, k < w.heap.size → v.ownBlock = some k → w'.heap[k]? = w.heap[k]?) : OV e B v us w' :=
  h.keep fun g hg' => hg.2 g (h.type hg').2.1 hg'
theorem OV.below' (h : OV e B v us w) (hb : Below w.heap.size w w') : OV e B v us w' := h.keep fun g hg => hb.block g (h.type hg).2.1
theorem OV.apart {e' : TypeId} {B' : Nat} {v' : Value} {us' : List Value} (h : OV e B v us w) (h' : OV e' B' v' us' w) (hne : e ≠ e') {g : Nat} (hg : v.ownBlock = some g) : v'.ownBlock ≠ some g := by
  intro hg'
  obtain ⟨_, _, c1, h1⟩ := h.type hg
  obtain ⟨_, _, c2, h2⟩ := h'.type hg'
  rw [h1] at h2
  simp only [Option.some.injEq, Obj.cells.injEq] at h2
  exact hne h2.2.1
end
theorem OInts.ov {B : Nat} {v : Value} {L : List Int} {w : World} (h : OInts B v L w) : OV 3 B v (L.map (Value.int .i64)) w := by
  unfold OV
  rw [List.length_map]
  exact h
theorem OV.oints {B : Nat} {v : Value} {L : List Int} {w : World} (h : OV 3 B v (L.map (Value.int .i64)) w) : OInts B v L w := by
  unfold OV at h
  rw [List.length_map] at h
  exact h
theorem Blk.apart {w : World} {b : Nat} {t : TypeId} {cs : Array Value} {e : TypeId} {B : Nat} {v : Value} {us : List Value} (h : Blk w b t cs) (h' : OV e B v us w) (hne : t ≠ e) : v.ownBlock ≠ some b := by
  intro hg
  obtain ⟨_, _, c, h1⟩ := h'.type hg
  have := h
  unfold Blk at this
  rw [h1] at this
  simp only [Option.some.injEq, Obj.cells.injEq] at this
  exact hne this.2.1.symm

/-! ### the inner loop -/
structure InS (W0 W1 : World) (b : Nat) (dv av : Value) (us : List Value) (S : BSet) (D : List Int) (T : List (List Int)) (r : List Int × Bool) (w : World) : Prop where
  nb : Nb W0 b r w
  rd : OInts W1.heap.size dv D w
  ra : OV 32 W1.heap.size av us w
  a : All2 (NumsS S w) us T
  lt : ∀ k, S k → W1.heap.size ≤ k ∧ k < w.heap.size
  ne : ∀ k, S k → some k ≠ dv.ownBlock ∧ some k ≠ av.ownBlock
  gr : W1.grownBy w (some b)
section
variable {W0 W1 w w' : World} {b : Nat} {dv av : Value} {us : List Value} {S : BSet} {D : List Int} {T : List (List Int)} {r r' : List Int × Bool}
theorem grown_below {w w' w'' : World} {g : Option Nat} (h : w.grownBy w' g) (hb : Below w'.heap.size w' w'') : w.grownBy w'' g :=
  ⟨hb.os.trans h.os, hb.tape.trans h.tape, hb.output.trans h.output, Nat.le_trans h.size hb.size, fun k hk hn => (hb.block k (Nat.lt_of_lt_of_le hk h.size)).trans (h.block k hk hn)⟩
theorem grown_trans {w w' w'' : World} {g : Option Nat} (h : w.grownBy w' g) (h' : w'.grownBy w'' g) : w.grownBy w'' g :=
  ⟨h'.os.trans h.os, h'.tape.trans h.tape, h'.output.trans h.output, Nat.le_trans h.size h'.size, fun k hk hn => (h'.block k (Nat.lt_of_lt_of_le hk h.size) hn).trans (h.block k hk hn)⟩
theorem grown_own {w w' w'' : World} {g g' : Option Nat} (h : w.grownBy w' g) (h' : w'.grownBy w'' g') (hg : ∀ k, g' = some k → w.heap.size ≤ k) : w.grownBy w'' g :=
  ⟨h'.os.trans h.os, h'.tape.trans h.tape, h'.output.trans h.output, Nat.le_trans h.size h'.size, fun k hk hn => (h'.block k (Nat.lt_of_lt_of_le hk h.size) (fun e => by have := hg k e.symm; omega)).trans (h.block k hk hn)⟩
theorem InS.start (h : Nb W0 b r W1) : InS W0 W1 b (.slice none 0 0) (.slice none 0 0) [] (fun _ => False) [] [] r W1 :=
  ⟨h, World.ownsRow_nil _ _ _ _, World.ownsRow_nil _ _ _ _, trivial, fun _ h => h.elim, fun _ h => h.elim, ⟨rfl, rfl, rfl, Nat.le_refl _, fun _ _ _ => rfl⟩⟩
theorem InS.grow (h : InS W0 W1 b dv av us S D T r w) (hb : b < W1.heap.size) (hg : w.grownBy w' (some b)) (hn : Nb W0 b r' w') : InS W0 W1 b dv av us S D T r' w' := by
  have hk : ∀ k, W1.heap.size ≤ k → k < w.heap.size → w'.heap[k]? = w.heap[k]? := fun k h1 h2 => hg.block k h2 (by simp; omega)
  refine ⟨hn, (h.rd.ov.keep fun g hg' => hk g (h.rd.ov.type hg').1 (h.rd.ov.type hg').2.1).oints, h.ra.keep fun g hg' => hk g (h.ra.type hg').1 (h.ra.type hg').2.1,
    h.a.imp fun _ _ x => x.fz ⟨hg.size, fun k h1 h2 => hk k (h.lt k h1).1 h2⟩ fun _ x => x, fun k hs => ⟨(h.lt k hs).1, Nat.lt_of_lt_of_le (h.lt k hs).2 hg.size⟩, h.ne, grown_trans h.gr hg⟩
theorem InS.below (h : InS W0 W1 b dv av us S D T r w) (hb : Below w.heap.size w w') : InS W0 W1 b dv av us S D T r w' :=
  ⟨h.nb.next hb, (h.rd.ov.below' hb).oints, h.ra.below' hb, h.a.imp fun _ _ x => x.fz (Fz.below hb) fun _ x => x, fun k hs => ⟨(h.lt k hs).1, Nat.lt_of_lt_of_le (h.lt k hs).2 hb.size⟩, h.ne, grown_below h.gr hb⟩
theorem InS.own (h : InS W0 W1 b dv av us S D T r w) {v : Value} {L : List Int} {lo : Nat} (ho : OInts lo v L w) (hn : ∀ g, v.ownBlock = some g → W1.heap.size ≤ g ∧ some g ≠ dv.ownBlock ∧ some g ≠ av.ownBlock) :
    InS W0 W1 b dv av us (fun k => S k ∨ v.ownBlock = some k) D T r w :=
  ⟨h.nb, h.rd, h.ra, h.a.imp fun _ _ x => x.fz (Fz.below (Below.refl _ _)) fun _ x => .inl x,
    fun k hs => hs.elim (h.lt k) fun e => ⟨(hn k e).1, (ho.ov.type e).2.1⟩, fun k hs => hs.elim (h.ne k) fun e => (hn k e).2, h.gr⟩
theorem Nb.keep (h : Nb W0 b r w) (hk : w'.heap[b]? = w.heap[b]?) (_ : w.heap.size ≤ w'.heap.size) : Nb W0 b r w' := by
  obtain ⟨a, c, h1, h2, h3⟩ := h
  exact ⟨a, c, hk.trans h1, h2, h3⟩
theorem InS.pushD (h : InS W0 W1 b dv av us S D T r w) (hb : b < W1.heap.size) {g cap : Nat} {x : Int} {n : Nat}
    (ho : w'.ownsRow W1.heap.size 3 1 (.slice (some ⟨g, 0, none⟩) n cap) n (D.map (Value.int .i64) ++ [.int .i64 x])) (hg : w.grownBy w' dv.ownBlock) (hat : dv.ownBlock = some g ∨ g = w.heap.size) :
    InS W0 W1 b (.slice (some ⟨g, 0, none⟩) n cap) av us S (D ++ [x]) T r w' := by
  have hn : n = (D ++ [x]).length := by have := ho.1; simp at this ⊢; omega
  have hO : OInts W1.heap.size (.slice (some ⟨g, 0, none⟩) n cap) (D ++ [x]) w' := by
    show World.ownsRow _ _ _ _ _ _ _
    rw [List.map_append, ← hn]
    exact ho
  have hne : ∀ k, dv.ownBlock = some k → W1.heap.size ≤ k := fun k e => (h.rd.ov.type e).1
  have hd : ∀ k, av.ownBlock = some k → some k ≠ dv.ownBlock := fun k e e' => (h.ra.apart h.rd.ov (by decide) e) e'.symm
  refine ⟨h.nb.keep (hg.block b (Nat.lt_of_lt_of_le hb h.gr.size) fun e => by have := hne b e.symm; omega) hg.size, hO,
    h.ra.keep fun k e => hg.block k (h.ra.type e).2.1 (hd k e),
    h.a.imp fun _ _ x => x.fz (Fz.grown hg fun k hs => (h.ne k hs).1) fun _ x => x, fun k hs => ⟨(h.lt k hs).1, Nat.lt_of_lt_of_le (h.lt k hs).2 hg.size⟩, fun k hs => ⟨?_, (h.ne k hs).2⟩, grown_own h.gr hg hne⟩
  show some k ≠ some g
  intro e
  obtain rfl := Option.some.inj e
  rcases hat with e1 | e1
  · exact (h.ne k hs).1 e1.symm
  · have := (h.lt k hs).2; omega
theorem InS.pushA (h : InS W0 W1 b dv av us S D T r w) (hb : b < W1.heap.size) {g cap n : Nat} {u : Value} {L : List Int} (hu : NumsS S w u L)
    (ho : w'.ownsRow W1.heap.size 32 1 (.slice (some ⟨g, 0, none⟩) n cap) n (us ++ [u])) (hg : w.grownBy w' av.ownBlock) (hat : av.ownBlock = some g ∨ g = w.heap.size) :
    InS W0 W1 b dv (.slice (some ⟨g, 0, none⟩) n cap) (us ++ [u]) S D (T ++ [L]) r w' := by
  have hn : n = (us ++ [u]).length := by have := ho.1; simp at this ⊢; omega
  have hO : OV 32 W1.heap.size (.slice (some ⟨g, 0, none⟩) n cap) (us ++ [u]) w' := by
    show World.ownsRow _ _ _ _ _ _ _
    rw [← hn]
    exact ho
  have hne : ∀ k, av.ownBlock = some k → W1.heap.size ≤ k := fun k e => (h.ra.type e).1
  have hd : ∀ k, dv.ownBlock = some k → some k ≠ av.ownBlock := fun k e e' => (h.rd.ov.apart h.ra (by decide) e) e'.symm
  have hf : Fz S w w' := Fz.grown hg fun k hs => (h.ne k hs).2
  refine ⟨h.nb.keep (hg.block b (Nat.lt_of_lt_of_le hb h.gr.size) fun e => by have := hne b e.symm; omega) hg.size,
    (h.rd.ov.keep fun k e => hg.block k (h.rd.ov.type e).2.1 (hd k e)).oints, hO,
    (h.a.imp fun _ _ x => x.fz hf fun _ x => x).snoc (hu.fz hf fun _ x => x), fun k hs => ⟨(h.lt k hs).1, Nat.lt_of_lt_of_le (h.lt k hs).2 hg.size⟩, fun k hs => ⟨(h.ne k hs).1, ?_⟩, grown_own h.gr hg hne⟩
  show some k ≠ some g
  intro e
  obtain rfl := Option.some.inj e
  rcases hat with e1 | e1
  · exact (h.ne k hs).2 e1.symm
  · have := (h.lt k hs).2; omega
end

/-! ### the outer loop -/
structure OutS (W0 : World) (b pb : Nat) (vd va : Value) (us vs : List Value) (S : BSet) (xs : List (List Int)) (ts : List (List (List Int))) (r : List Int × Bool) (w : World) : Prop where
  nb : Nb W0 b r w
  box : Blk w pb 25 #[vd, va]
  rd : OV 32 W0.heap.size vd us w
  ra : OV 22 W0.heap.size va vs w
  d : All2 (NumsS S w) us xs
  a : All2 (ListsS S w) vs ts
  lt : ∀ k, S k → W0.heap.size ≤ k ∧ k < w.heap.size
  ne : ∀ k, S k → k ≠ b ∧ k ≠ pb ∧ some k ≠ vd.ownBlock ∧ some k ≠ va.ownBlock
  bel : Below W0.heap.size W0 w
  fl : W0.heap.size ≤ b ∧ W0.heap.size ≤ pb
section
variable {W0 W1 w w' : World} {b pb : Nat} {vd va dv av : Value} {us vs zs : List Value} {S S' : BSet} {xs : List (List Int)} {ts : List (List (List Int))} {D : List Int} {T : List (List Int)} {r r' : List Int × Bool}
theorem Nb.apart {e : TypeId} {B : Nat} {v : Value} {us : List Value} (h : Nb W0 b r w) (h' : OV e B v us w) (hne : 80 ≠ e) : v.ownBlock ≠ some b := by
  obtain ⟨a, c, h1, _⟩ := h
  exact h1.apart h' hne
theorem OutS.apart (h : OutS W0 b pb vd va us vs S xs ts r w) : pb ≠ b := by
  obtain ⟨a, c, h1, _⟩ := h.nb
  intro e
  have h2 := h.box
  unfold Blk at h1 h2
  rw [e, h1] at h2
  simp at h2
theorem OutS.start (hn : Nb W0 b r w) (hbox : Blk w pb 25 #[.slice none 0 0, .slice none 0 0]) (hbel : Below W0.heap.size W0 w) (hfl : W0.heap.size ≤ b ∧ W0.heap.size ≤ pb) :
    OutS W0 b pb (.slice none 0 0) (.slice none 0 0) [] [] (fun _ => False) [] [] r w :=
  ⟨hn, hbox, World.ownsRow_nil _ _ _ _, World.ownsRow_nil _ _ _ _, trivial, trivial, fun _ h => h.elim, fun _ h => h.elim, hbel, hfl⟩
/-- Blocks that are neither the numbers' nor new ones stay. -/
theorem OutS.grow (h : OutS W0 b pb vd va us vs S xs ts r w) (hg : w.grownBy w' (some b)) (hn : Nb W0 b r' w') : OutS W0 b pb vd va us vs S xs ts r' w' := by
  have hf : Fz S w w' := Fz.grown hg fun k hs => by simp [(h.ne k hs).1]
  have hp : w'.heap[pb]? = w.heap[pb]? := hg.block pb h.box.lt (by simp [h.apart])
  have hr : ∀ (e : TypeId) (v : Value) (l : List Value), OV e W0.heap.size v l w → 80 ≠ e → OV e W0.heap.size v l w' := fun e v l ho he =>
    ho.keep fun g hg' => hg.block g (ho.type hg').2.1 fun e' => h.nb.apart ho he (by rw [hg', e'])
  exact ⟨hn, hp.trans h.box, hr _ _ _ h.rd (by decide), hr _ _ _ h.ra (by decide), h.d.imp fun _ _ x => x.fz hf fun _ x => x, h.a.imp fun _ _ x => x.fz hf fun _ x => x,
    fun k hs => ⟨(h.lt k hs).1, Nat.lt_of_lt_of_le (h.lt k hs).2 hg.size⟩, h.ne, below_grown h.bel hg h.fl.1, h.fl⟩
theorem OutS.below (h : OutS W0 b pb vd va us vs S xs ts r w) (hb : Below w.heap.size w w') : OutS W0 b pb vd va us vs S xs ts r w' := by
  have hf : Fz S w w' := Fz.below hb
  exact ⟨h.nb.next hb, h.box.next hb, h.rd.below' hb, h.ra.below' hb, h.d.imp fun _ _ x => x.fz hf fun _ x => x, h.a.imp fun _ _ x => x.fz hf fun _ x => x,
    fun k hs => ⟨(h.lt k hs).1, Nat.lt_of_lt_of_le (h.lt k hs).2 hb.size⟩, h.ne, h.bel.trans (hb.mono h.bel.size), h.fl⟩
/-- Behind the inner loop: its two rows are finished. -/
theorem OutS.inner (h : OutS W0 b pb vd va us vs S xs ts r W1) (hi : InS W0 W1 b dv av zs S' D T r' w) :
    ∃ S2 : BSet, OutS W0 b pb vd va us vs S2 xs ts r' w ∧ NumsS S2 w dv D ∧ ListsS S2 w av T := by
  have h1 := h.grow hi.gr hi.nb
  have hd : ∀ g, dv.ownBlock = some g → W1.heap.size ≤ g ∧ g < w.heap.size := fun g hg => ⟨(hi.rd.ov.type hg).1, (hi.rd.ov.type hg).2.1⟩
  have ha : ∀ g, av.ownBlock = some g → W1.heap.size ≤ g ∧ g < w.heap.size := fun g hg => ⟨(hi.ra.type hg).1, (hi.ra.type hg).2.1⟩
  have hnew : ∀ k, (S' k ∨ dv.ownBlock = some k ∨ av.ownBlock = some k) → W1.heap.size ≤ k ∧ k < w.heap.size := fun k hk => by
    rcases hk with hk | hk | hk
    · exact hi.lt k hk
    · exact hd k hk
    · exact ha k hk
  have hs0 := h.bel.size
  have hfz : ∀ X : BSet, Fz X w w := fun X => Fz.below (Below.refl _ _)
  refine ⟨fun k => S k ∨ S' k ∨ dv.ownBlock = some k ∨ av.ownBlock = some k, ⟨h1.nb, h1.box, h1.rd, h1.ra, h1.d.imp fun _ _ x => x.fz (hfz _) fun _ x => .inl x, h1.a.imp fun _ _ x => x.fz (hfz _) fun _ x => .inl x, ?_, ?_, h1.bel, h1.fl⟩, ?_, ?_⟩
  · intro k hk
    rcases hk with hk | hk
    · exact h1.lt k hk
    · have := hnew k hk; omega
  · intro k hk
    rcases hk with hk | hk
    · exact h1.ne k hk
    · have h2 := (hnew k hk).1
      obtain ⟨a, c, hB, _⟩ := h.nb
      have h3 := hB.lt
      have h4 := h.box.lt
      refine ⟨by omega, by omega, fun e => ?_, fun e => ?_⟩
      · have := (h.rd.type e.symm).2.1; omega
      · have := (h.ra.type e.symm).2.1; omega
  · exact NumsS.of hi.rd fun g hg => .inr (.inr (.inl hg))
  · exact hi.ra.lists (fun g hg => .inr (.inr (.inr hg))) (hi.a.imp fun _ _ x => x.fz (hfz _) fun _ x => .inr (.inl x))
/-- A finished row joins the first field. -/
theorem OutS.pushD (h : OutS W0 b pb vd va us vs S xs ts r w) {g cap n : Nat} {u : Value} {L : List Int} (hu : NumsS S w u L)
    (ho : w'.ownsRow W0.heap.size 32 1 (.slice (some ⟨g, 0, none⟩) n cap) n (us ++ [u])) (hg : w.grownBy w' vd.ownBlock) (hat : vd.ownBlock = some g ∨ g = w.heap.size) :
    OutS W0 b pb (.slice (some ⟨g, 0, none⟩) n cap) va (us ++ [u]) vs S (xs ++ [L]) ts r (w'.setCell ⟨pb, 0, none⟩ (.slice (some ⟨g, 0, none⟩) n cap)) := by
  have hn : n = (us ++ [u]).length := by have := ho.1; simp at this ⊢; omega
  have hO : OV 32 W0.heap.size (.slice (some ⟨g, 0, none⟩) n cap) (us ++ [u]) w' := by
    show World.ownsRow _ _ _ _ _ _ _
    rw [← hn]
    exact ho
  have hpne : vd.ownBlock ≠ some pb := h.box.apart h.rd (by decide)
  have hB1 : Blk w' pb 25 #[vd, va] := (hg.block pb h.box.lt fun e => hpne e.symm).trans h.box
  have hpg : pb ≠ g := by
    rcases hat with e | e
    · intro e'; rw [e'] at hpne; exact hpne e
    · have := h.box.lt; omega
  have hset : ∀ k, k ≠ pb → (w'.setCell ⟨pb, 0, none⟩ (.slice (some ⟨g, 0, none⟩) n cap)).heap[k]? = w'.heap[k]? := fun k hk => Below.heap_setCell w' _ _ k (by simpa using hk)
  have hsz : (w'.setCell ⟨pb, 0, none⟩ (.slice (some ⟨g, 0, none⟩) n cap)).heap.size = w'.heap.size := by simp [World.setCell]
  have hf : Fz S w (w'.setCell ⟨pb, 0, none⟩ (.slice (some ⟨g, 0, none⟩) n cap)) := ⟨by rw [hsz]; exact hg.size, fun k hs hk => (hset k (h.ne k hs).2.1).trans (hg.block k hk (h.ne k hs).2.2.1)⟩
  have hbb : b ≠ pb := fun e => h.apart e.symm
  have hbw : b < w.heap.size := by obtain ⟨a, c, hB, _⟩ := h.nb; exact hB.lt
  have hvdb : ∀ k, vd.ownBlock = some k → W0.heap.size ≤ k := fun k e => (h.rd.type e).1
  refine ⟨h.nb.keep ((hset b hbb).trans (hg.block b hbw fun e => h.nb.apart h.rd (by decide) e.symm)) (by rw [hsz]; exact hg.size), hB1.set0 _, hO.keep fun k e => ?_, h.ra.keep fun k e => ?_, ?_, h.a.imp fun _ _ x => x.fz hf fun _ x => x, ?_, ?_, ?_, h.fl⟩
  · obtain rfl : g = k := Option.some.inj e
    exact hset g hpg.symm
  · refine (hset k fun e' => ?_).trans (hg.block k (h.ra.type e).2.1 fun e' => h.ra.apart h.rd (by decide) e e'.symm)
    subst e'
    exact h.box.apart h.ra (by decide) e
  · exact (h.d.imp fun _ _ x => x.fz hf fun _ x => x).snoc (hu.fz hf fun _ x => x)
  · exact fun k hs => ⟨(h.lt k hs).1, by rw [hsz]; exact Nat.lt_of_lt_of_le (h.lt k hs).2 hg.size⟩
  · intro k hs
    obtain ⟨h1, h2, h3, h4⟩ := h.ne k hs
    refine ⟨h1, h2, fun e => ?_, h4⟩
    have e := Option.some.inj e
    subst e
    rcases hat with e1 | e1
    · exact h3 e1.symm
    · have := (h.lt k hs).2; omega
  · refine Below.setCell (h.bel.trans ⟨hg.os, hg.tape, hg.output, hg.size, fun k hk => hg.block k (Nat.lt_of_lt_of_le hk h.bel.size) fun e => ?_⟩) h.fl.2 _
    have := hvdb k e.symm; omega
/-- A finished row joins the second field. -/
theorem OutS.pushA (h : OutS W0 b pb vd va us vs S xs ts r w) {g cap n : Nat} {u : Value} {L : List (List Int)} (hu : ListsS S w u L)
    (ho : w'.ownsRow W0.heap.size 22 1 (.slice (some ⟨g, 0, none⟩) n cap) n (vs ++ [u])) (hg : w.grownBy w' va.ownBlock) (hat : va.ownBlock = some g ∨ g = w.heap.size) :
    OutS W0 b pb vd (.slice (some ⟨g, 0, none⟩) n cap) us (vs ++ [u]) S xs (ts ++ [L]) r (w'.setCell ⟨pb, 1, none⟩ (.slice (some ⟨g, 0, none⟩) n cap)) := by
  have hn : n = (vs ++ [u]).length := by have := ho.1; simp at this ⊢; omega
  have hO : OV 22 W0.heap.size (.slice (some ⟨g, 0, none⟩) n cap) (vs ++ [u]) w' := by
    show World.ownsRow _ _ _ _ _ _ _
    rw [← hn]
    exact ho
  have hpne : va.ownBlock ≠ some pb := h.box.apart h.ra (by decide)
  have hB1 : Blk w' pb 25 #[vd, va] := (hg.block pb h.box.lt fun e => hpne e.symm).trans h.box
  have hpg : pb ≠ g := by
    rcases hat with e | e
    · intro e'; rw [e'] at hpne; exact hpne e
    · have := h.box.lt; omega
  have hset : ∀ k, k ≠ pb → (w'.setCell ⟨pb, 1, none⟩ (.slice (some ⟨g, 0, none⟩) n cap)).heap[k]? = w'.heap[k]? := fun k hk => Below.heap_setCell w' _ _ k (by simpa using hk)
  have hsz : (w'.setCell ⟨pb, 1, none⟩ (.slice (some ⟨g, 0, none⟩) n cap)).heap.size = w'.heap.size := by simp [World.setCell]
  have hf : Fz S w (w'.setCell ⟨pb, 1, none⟩ (.slice (some ⟨g, 0, none⟩) n cap)) := ⟨by rw [hsz]; exact hg.size, fun k hs hk => (hset k (h.ne k hs).2.1).trans (hg.block k hk (h.ne k hs).2.2.2)⟩
  have hbb : b ≠ pb := fun e => h.apart e.symm
  have hbw : b < w.heap.size := by obtain ⟨a, c, hB, _⟩ := h.nb; exact hB.lt
  have hvdb : ∀ k, va.ownBlock = some k → W0.heap.size ≤ k := fun k e => (h.ra.type e).1
  refine ⟨h.nb.keep ((hset b hbb).trans (hg.block b hbw fun e => h.nb.apart h.ra (by decide) e.symm)) (by rw [hsz]; exact hg.size), hB1.set1 _, h.rd.keep fun k e => ?_, hO.keep fun k e => ?_, h.d.imp fun _ _ x => x.fz hf fun _ x => x, ?_, ?_, ?_, ?_, h.fl⟩
  · refine (hset k fun e' => ?_).trans (hg.block k (h.rd.type e).2.1 fun e' => h.rd.apart h.ra (by decide) e e'.symm)
    subst e'
    exact h.box.apart h.rd (by decide) e
  · obtain rfl : g = k := Option.some.inj e
    exact hset g hpg.symm
  · exact (h.a.imp fun _ _ x => x.fz hf fun _ x => x).snoc (hu.fz hf fun _ x => x)
  · exact fun k hs => ⟨(h.lt k hs).1, by rw [hsz]; exact Nat.lt_of_lt_of_le (h.lt k hs).2 hg.size⟩
  · intro k hs
    obtain ⟨h1, h2, h3, h4⟩ := h.ne k hs
    refine ⟨h1, h2, h3, fun e => ?_⟩
    have e := Option.some.inj e
    subst e
    rcases hat with e1 | e1
    · exact h4 e1.symm
    · have := (h.lt k hs).2; omega
  · refine Below.setCell (h.bel.trans ⟨hg.os, hg.tape, hg.output, hg.size, fun k hk => hg.block k (Nat.lt_of_lt_of_le hk h.bel.size) fun e => ?_⟩) h.fl.2 _
    have := hvdb k e.symm; omega
/-- What is read in the end. -/
theorem OutS.fin (h : OutS W0 b pb vd va us vs S xs ts r w) (hk : ∀ k, W0.heap.size ≤ k → w'.heap[k]? = w.heap[k]?) (hs : w.heap.size ≤ w'.heap.size) : (ProofD.mk xs ts).Is 0 (.agg #[vd, va]) w' := by
  have hf : Fz S w w' := ⟨hs, fun k h1 _ => hk k (h.lt k h1).1⟩
  have h1 : OV 32 W0.heap.size vd us w' := h.rd.keep fun k e => hk k (h.rd.type e).1
  have h2 : OV 22 W0.heap.size va vs w' := h.ra.keep fun k e => hk k (h.ra.type e).1
  exact ⟨vd, va, rfl, h1.isLists (h.d.imp fun _ _ x => x.fz hf fun _ x => x), h2.isTables (h.a.imp fun _ _ x => x.fz hf fun _ x => x)⟩
end
end Go.Proofs.YthnkfjjgccabeaaGreatDoor
/- Decode. -/
namespace Go.Proofs.YthnkfjjgccabeaaGreatDoor
open Go.RowKit

/-! ### how long what is read is -/
theorem listF_empty {α : Type} (one : Cod.Rd → α × Cod.Rd) (r : Cod.Rd) (h : (Cod.listF one r).2.2 = true) : (Cod.listF one r).1 = [] := by
  unfold Cod.listF at h ⊢
  simp only at h ⊢
  split
  · rfl
  · rename_i hz
    rw [if_neg hz] at h
    exact absurd h hz
theorem flat_ge {α : Type} (wr : α → List UInt8) (h : ∀ a, 1 ≤ (wr a).length) : ∀ (l : List α), l.length ≤ (l.flatMap wr).length
  | [] => by simp
  | a :: l => by
    have := flat_ge wr h l
    have := h a
    simp only [List.flatMap_cons, List.length_append, List.length_cons]; omega
theorem numsF_count (r : Cod.Rd) : (Cod.numsF r).1.length ≤ r.1.length := by
  cases h : (Cod.numsF r).2.2
  · have h1 := congrArg List.length (Cod.numsF_read h).2
    have h2 := flat_ge Cod.intS (fun a => by simp [Cod.intS]) (Cod.numsF r).1
    simp only [Cod.numsS, List.length_append, List.length_cons] at h1
    omega
  · rw [show (Cod.numsF r).1 = [] from listF_empty Cod.intF r h]
    simp

/-! ### the answer -/
def decF (s : List UInt8) : Option ProofD :=
  if Cod.doneF (Cod.numsF (s, false)).2 = true then
    if (tabF ((Cod.numsF (s, false)).1, false)).2.2 = true ∨ 0 < (tabF ((Cod.numsF (s, false)).1, false)).2.1.length then none
    else some ⟨(tabF ((Cod.numsF (s, false)).1, false)).1.1, (tabF ((Cod.numsF (s, false)).1, false)).1.2⟩
  else none
def DecPost (s : List UInt8) (w : World) (e : Ending) (w' : World) : Prop := ∃ v, e = .returned (.tuple #[v, .bool (decF s).isSome]) ∧ ((decF s).getD ⟨[], []⟩).Is 0 v w' ∧ Below w.heap.size w w'
theorem DecPost.no {s : List UInt8} {w w' : World} (h : decF s = none) (hb : Below w.heap.size w w') : DecPost s w (.returned (.tuple #[.agg #[.slice none 0 0, .slice none 0 0], .bool false])) w' :=
  ⟨_, by rw [h]; rfl, by rw [h]; exact ⟨_, _, rfl, .inl ⟨⟨_, _, rfl⟩, rfl⟩, .inl ⟨⟨_, _, rfl⟩, rfl⟩⟩, hb⟩
theorem DecPost.yes {s : List UInt8} {w w' : World} {p : ProofD} {v : Value} (h : decF s = some p) (hp : p.Is 0 v w') (hb : Below w.heap.size w w') : DecPost s w (.returned (.tuple #[v, .bool true])) w' :=
  ⟨_, by rw [h]; rfl, by rw [h]; exact hp, hb⟩
theorem infoInts : (Tryz.prog.info? 32).map (fun i => (i.zero, i.size, i.bytes)) = some (some (.slice none 0 0), 1, 24) := by kernel_rfl
theorem infoLists : (Tryz.prog.info? 22).map (fun i => (i.zero, i.size, i.bytes)) = some (some (.slice none 0 0), 1, 24) := by kernel_rfl
theorem rowF_le (n : Nat) (r : List Int × Bool) : (innerF n r).2.1.length ≤ r.1.length := by
  induction n generalizing r with
  | zero => exact Nat.le_refl _
  | succ n ih => exact Nat.le_trans (ih _) (Nat.le_trans (cutF_le _) (nextF_le _))

set_option maxRecDepth 100000 in
set_option maxHeartbeats 4000000 in
theorem decode_calls (s : List UInt8) (hs : s.length ≤ 100000000) (w : World) (hE : Cod.Env w) :
    Calls Tryz.prog 8 #[.string (bs s)] w (DecPost s w) := by
  obtain ⟨iN, hiN, hN0, hN1, hN2⟩ := info_parts infoNum
  obtain ⟨iL, hiL, hL0, hL1, hL2⟩ := info_parts infoInts
  obtain ⟨iT, hiT, hT0, hT1, hT2⟩ := info_parts infoLists
  have HIN := Lib.hid (And.intro hiN (And.intro hN0 (And.intro hN1 hN2)))
  have HIL := Lib.hid (And.intro hiL (And.intro hL0 (And.intro hL1 hL2)))
  have HIT := Lib.hid (And.intro hiT (And.intro hT0 (And.intro hT1 hT2)))
  clear hiN hN0 hN1 hN2 hiL hL0 hL1 hL2 hiT hT0 hT1 hT2
  have B1 := Blk.new w 25 #[.slice none 0 0, .slice none 0 0]
  have hb1 := below_one w (.cells #[.slice none 0 0, .slice none 0 0] 25)
  have hs1 := Lib.hid (alloc_size w (.cells #[.slice none 0 0, .slice none 0 0] 25))
  have hE1 := hE.next hb1
  have c1 := Lib.hid (Cod.open_reader s (w.alloc (.cells #[.slice none 0 0, .slice none 0 0] 25)))
  rw [hs1.out] at c1
  have hcount := numsF_count (s, false)
  obtain ⟨Z, Q, hZQ⟩ : ∃ Z Q, Cod.numsF (s, false) = (Z, Q) := ⟨_, _, rfl⟩
  have HZQ := Lib.hid hZQ
  rw [hZQ] at hcount
  have hZ : Z.length ≤ 100000000 := Nat.le_trans hcount hs
  have HD : Hid (decF s = if Cod.doneF Q = true then (if (tabF (Z, false)).2.2 = true ∨ 0 < (tabF (Z, false)).2.1.length then none else some ⟨(tabF (Z, false)).1.1, (tabF (Z, false)).1.2⟩) else none) := by
    show _ = _
    unfold decF
    rw [hZQ]
  have HE := Lib.hid hE
  have hlo : 10 ≤ w.heap.size := hE.lo
  clear hcount hZQ hE
  go_enter Tryz.func8, Tryz.ntmps8
  go_wp2_with fail
  generalize w.alloc (.cells #[.slice none 0 0, .slice none 0 0] 25) = W1 at *
  refine c1.out.mono ?_
  clear c1
  rintro e w2 ⟨rfl, hR2, hb2', -⟩
  rw [← hs1.out] at hb2'
  have hb2 := hb1.trans (hb2'.mono hb1.size)
  have B2 := B1.next hb2'
  have c2 := Lib.hid (Cod.rd_Nums (w.heap.size + 1) (s, false) w2 (HE.out.next hb2) hR2 (by simp only; omega) (Cod.okRd_fresh s) (by omega))
  rw [HZQ.out] at c2
  clear B1 hb1 hb2' hE1 hR2
  go_wp2_with fail
  refine c2.out.mono ?_
  clear c2
  rintro e w3 ⟨v, rfl, ⟨hI, hcap⟩, hR3, hg3⟩
  have hI : IsNums v Z w3 := hI
  obtain ⟨a, c, rfl⟩ := hI.len
  have hcap := hcap _ _ _ rfl
  have hb3 := below_grown hb2 hg3 (by omega)
  have B3 : Blk w3 w.heap.size 25 #[.slice none 0 0, .slice none 0 0] := (hg3.block _ B2.lt (by simp)).trans B2
  have hN4 : Nb w3 w3.heap.size (Z, false) (w3.alloc (.cells #[.slice a Z.length c, .bool false] 80)) := ⟨a, c, Blk.new _ _ _, hcap, hI⟩
  have hb4' := below_one w3 (.cells #[.slice a Z.length c, .bool false] 80)
  have hs4 := Lib.hid (alloc_size w3 (.cells #[.slice a Z.length c, .bool false] 80))
  have c3 := Lib.hid (Cod.rd_Done (w.heap.size + 1) Q _ (hR3.next hb4'))
  have HI := Lib.hid hI
  clear B2 hb2 hR3 hg3 hcap hI
  go_wp2_with fail
  generalize w3.alloc (.cells #[.slice a Z.length c, .bool false] 80) = w4 at *
  refine c3.out.mono ?_
  clear c3
  rintro e w4' ⟨rfl, rfl⟩
  have hb4 := hb3.trans (hb4'.mono hb3.size)
  have B4 := B3.next hb4'
  generalize Cod.doneF Q = dn at *
  cases dn
  · have HF : Hid (decF s = none) := by show _ = _; rw [HD.out]; rfl
    obtain ⟨z0, z1⟩ := B4.get2
    have zf := B4.frozen
    have hBF := ((hb4.setCell (p := ⟨w.heap.size, 0, none⟩) (by simp) (.slice none 0 0)).setCell (p := ⟨w.heap.size, 1, none⟩) (by simp) (.slice none 0 0))
    have hRF := (B4.set0 (.slice none 0 0)).set1 (.slice none 0 0)
    go_wp2
    have f0 := hRF.cell 0
    have f1 := hRF.cell 1
    exact bodyPost_ret (v := .tuple #[.agg #[.slice none 0 0, .slice none 0 0], .bool false]) (by simp [results, Tryz.results8, go_sem, f0, f1]) rfl (DecPost.no HF.out hBF)
  · obtain ⟨X, T, RR, hXT⟩ : ∃ X T RR, tabF (Z, false) = ((X, T), RR) := ⟨_, _, _, rfl⟩
    have HF : Hid (decF s = if RR.2 = true ∨ 0 < RR.1.length then none else some ⟨X, T⟩) := by
      show _ = _; rw [HD.out, hXT, if_pos rfl]
    have B5 := Blk.new w4 25 #[.slice none 0 0, .slice none 0 0]
    have hb5' := below_one w4 (.cells #[.slice none 0 0, .slice none 0 0] 25)
    have hb35 := hb4'.trans (hb5'.mono hb4'.size)
    have hN5 := hN4.next hb5'
    have hs4' : w4.heap.size = w3.heap.size + 1 := hs4.out
    have c4 := Lib.hid (count_calls w3 w3.heap.size (Z, false) _ hN5 hb35 (by simp only; omega))
    have hcle := countF_le (Z, false)
    have hok := countF_ok (Z, false)
    have HT0 : Hid (outerF (countF (Z, false)).1.toNat (countF (Z, false)).2 = ((X, T), RR)) := hXT
    generalize countF (Z, false) = q at *
    obtain ⟨n0, r6⟩ := q
    obtain ⟨n, rfl⟩ := Int.eq_ofNat_of_zero_le hok.1
    have hn : n ≤ r6.1.length := Int.ofNat_le.1 hok.2
    simp only at hcle c4
    have HT : Hid (outerF n r6 = ((X, T), RR)) := HT0.out
    have hB3 := Lib.hid B3
    clear hok HT0 hXT HD HZQ hb4 B4 hN4 hb4' hN5
    go_wp2_with fail
    generalize w4.alloc (.cells #[.slice none 0 0, .slice none 0 0] 25) = w5 at *
    refine c4.out.mono ?_
    clear c4
    rintro e w6 ⟨rfl, hN6, hg6⟩
    have B6 : Blk w6 w4.heap.size 25 #[.slice none 0 0, .slice none 0 0] := (hg6.block _ B5.lt (by simp; omega)).trans B5
    have hO0 := OutS.start hN6 B6 (below_grown hb35 hg6 (Nat.le_refl _)) ⟨Nat.le_refl _, by omega⟩
    obtain ⟨b, hbe⟩ : ∃ b, b = w3.heap.size := ⟨_, rfl⟩
    obtain ⟨pb, hpe⟩ : ∃ pb, pb = w3.heap.size + 1 := ⟨_, rfl⟩
    rw [hs4', ← hpe, ← hbe] at hO0
    rw [← hpe, ← hbe]
    have HBE := Lib.hid hbe
    have hr6 : r6.1.length ≤ 100000000 := Nat.le_trans hcle hZ
    clear B5 hb5' hb35 hs4' hbe hpe hcle hN6 hg6 B6 B3
    have HO0 := Lib.hid hO0
    clear hO0
    go_wp2
    go_loopw [21] (fun iv wr => ∃ (k m : Nat) (vd va : Value) (us vs : List Value) (S : BSet) (xs : List (List Int)) (ts : List (List (List Int))) (r : List Int × Bool), k + m = n ∧ iv = .int .i64 (k : Int) ∧ OutS w3 b pb vd va us vs S xs ts r wr ∧ xs ++ (outerF m r).1.1 = X ∧ ts ++ (outerF m r).1.2 = T ∧ (outerF m r).2 = RR ∧ r.1.length ≤ 100000000 ∧ xs.length = k ∧ ts.length = k) (fun iv _ => n - (intOf iv).toNat)
    case atStart => exact ⟨0, n, _, _, _, _, _, _, _, r6, by omega, rfl, HO0.out, by rw [HT.out]; rfl, by rw [HT.out]; rfl, by rw [HT.out], hr6, rfl, rfl⟩
    case round =>
      clear HO0 HT
      obtain ⟨k, m, vd, va, us, vs, S, xs, ts, r, hkm, rfl, hO, hX, hT, hRR, hr, hxl, htl⟩ := hrel
      by_cases hkn : k < n
      · obtain ⟨m, rfl⟩ : ∃ m', m = m' + 1 := ⟨m - 1, by omega⟩
        have c5 := Lib.hid (count_calls w3 b r wr hO.nb hO.bel (by omega))
        have hcle := countF_le r
        have hok := countF_ok r
        obtain ⟨ID, IT, IR, hrow⟩ : ∃ ID IT IR, rowF r = ((ID, IT), IR) := ⟨_, _, _, rfl⟩
        have hX2 : xs ++ (ID :: (outerF m IR).1.1) = X := by rw [← hX]; simp only [outerF, hrow]
        have hT2 : ts ++ (IT :: (outerF m IR).1.2) = T := by rw [← hT]; simp only [outerF, hrow]
        have hRR2 : (outerF m IR).2 = RR := by rw [← hRR]; simp only [outerF, hrow]
        have hrow2 : innerF (countF r).1.toNat (countF r).2 = ((ID, IT), IR) := hrow
        generalize countF r = q at *
        obtain ⟨c0, r7⟩ := q
        obtain ⟨cn, rfl⟩ := Int.eq_ofNat_of_zero_le hok.1
        have hcn : cn ≤ r7.1.length := Int.ofNat_le.1 hok.2
        simp only at hcle c5
        have HROW : Hid (innerF cn r7 = ((ID, IT), IR)) := hrow2
        have HX2 := Lib.hid hX2
        have HT2 := Lib.hid hT2
        have HRR2 := Lib.hid hRR2
        have HO := Lib.hid hO
        have hr7 : r7.1.length ≤ 100000000 := Nat.le_trans hcle hr
        have HXL := Lib.hid (And.intro hxl htl)
        clear hX hT hRR hX2 hT2 hRR2 hrow hrow2 hok hcle hO hxl htl
        go_wp2_with fail
        refine c5.out.mono ?_
        clear c5
        rintro e w7 ⟨rfl, hN7, hg7⟩
        have HO7 := Lib.hid (HO.out.grow hg7 hN7)
        have HI0 := Lib.hid (InS.start (W0 := w3) hN7)
        have hbl : b < w7.heap.size := by
          obtain ⟨_, _, h1, _⟩ := hN7
          exact h1.lt
        have hw37 : w3.heap.size ≤ w7.heap.size := HO7.out.bel.size
        clear HO hN7 hg7
        go_wp2
        go_loopw [7, 8, 25] (fun dv av jv wz => ∃ (j p : Nat) (us' : List Value) (S' : BSet) (D : List Int) (T' : List (List Int)) (r' : List Int × Bool), j + p = cn ∧ jv = .int .i64 (j : Int) ∧ InS w3 w7 b dv av us' S' D T' r' wz ∧ D ++ (innerF p r').1.1 = ID ∧ T' ++ (innerF p r').1.2 = IT ∧ (innerF p r').2 = IR ∧ r'.1.length ≤ 100000000 ∧ D.length = j ∧ T'.length = j) (fun _ _ jv _ => cn - (intOf jv).toNat)
        case atStart => exact ⟨0, cn, _, _, _, _, r7, by omega, rfl, HI0.out, by rw [HROW.out]; rfl, by rw [HROW.out]; rfl, by rw [HROW.out], hr7, rfl, rfl⟩
        case round =>
          clear HI0 HROW
          obtain ⟨j, p, us', S', D, T', r', hjp, rfl, hI, hD, hT', hIR, hr', hDl, hTl⟩ := hrel
          by_cases hjc : j < cn
          · obtain ⟨p, rfl⟩ : ∃ p', p = p' + 1 := ⟨p - 1, by omega⟩
            have c6 := Lib.hid (next_calls w3 b r' wr hI.nb (below_grown HO7.out.bel hI.gr HO7.out.fl.1) (by omega))
            have hD2 : D ++ ((nextF r').1 :: (innerF p (cutF (nextF r').2).2).1.1) = ID := hD
            have hT2 : T' ++ ((cutF (nextF r').2).1 :: (innerF p (cutF (nextF r').2).2).1.2) = IT := hT'
            have hIR2 : (innerF p (cutF (nextF r').2).2).2 = IR := hIR
            have hle := nextF_le r'
            generalize nextF r' = q at *
            obtain ⟨d, r8⟩ := q
            simp only at hle hD2 hT2 hIR2 c6
            have hle2 := cutF_le r8
            have HD2 := Lib.hid hD2
            have HT2 := Lib.hid hT2
            have HIR2 := Lib.hid hIR2
            have HI1 := Lib.hid hI
            have hr8 : r8.1.length ≤ 100000000 := Nat.le_trans hle hr'
            have HLL := Lib.hid (And.intro hDl hTl)
            clear hD hT' hIR hD2 hT2 hIR2 hI hle hDl hTl
            go_wp2_with fail
            refine c6.out.mono ?_
            clear c6
            rintro e w8 ⟨rfl, hN8, hg8⟩
            have hI8 := HI1.out.grow hbl hg8 hN8
            have hI9 := hI8.below (below_one w8 (.cells #[.int .i64 d] 3))
            have hown9 := hI9.rd
            have HI9 := Lib.hid hI9
            have hsz9 : w7.heap.size ≤ (w8.alloc (.cells #[.int .i64 d] 3)).heap.size := hI9.gr.size
            clear HI1 hN8 hg8 hI8 hI9
            go_wp2_with (at_builtin; refine wpList_append_lies _ rfl _ _ 32 rfl w7.heap.size 3 iN (.int .i64 0) 1 8 Tryz.underlying32 HIN.out.1 HIN.out.2.1 HIN.out.2.2.1 HIN.out.2.2.2 rfl (by decide) _ _ _ rfl hown9 ⟨w8.heap.size, 0, none⟩ 1 1 [.int .i64 d] rfl rfl ?c1 ?c2 (by omega) ?c3 ?c4 hsz9 _ rfl ?_)
            case c1 =>
              intro i u hu
              match i, hu with
              | 0, hu => simp at hu; subst hu; simp [Addr.add]
            case c2 => intro u hu; simp at hu; subst hu; rfl
            case c3 => have := HLL.out.1; unfold maxLen; omega
            case c4 => have := HLL.out.1; omega
            intro g cp w10 hown10 hgr10 hat10 _
            have hI10 := HI9.out.pushD hbl hown10 hgr10 (by rw [alloc_size]; exact hat10)
            have c7 := Lib.hid (list_calls w3 b r8 w10 hI10.nb (below_grown HO7.out.bel hI10.gr HO7.out.fl.1) HO7.out.fl.1 (by omega))
            have HI10 := Lib.hid hI10
            clear hown9 HI9 hsz9 hown10 hgr10 hat10 hI10
            go_wp2_with fail
            refine c7.out.mono ?_
            clear c7
            rintro e w11 ⟨v, rfl, hOv, hN11, hg11⟩
            generalize cutF r8 = q at *
            obtain ⟨L, r9⟩ := q
            simp only at hOv hN11 hle2 HD2 HT2 HIR2
            have hI11 := HI10.out.grow hbl hg11 hN11
            have hI12 := hI11.own hOv fun gg hgg => by
              have h1 := OInts.block hOv hgg
              have h2 := HI10.out.gr.size
              refine ⟨by omega, fun e => ?_, fun e => ?_⟩
              · have := (HI10.out.rd.ov.type e.symm).2.1; omega
              · have := (HI10.out.ra.type e.symm).2.1; omega
            have hNS : NumsS (fun k => S' k ∨ v.ownBlock = some k) w11 v L := NumsS.of hOv fun gg hgg => .inr hgg
            obtain ⟨av', cv', rfl⟩ := hOv.form
            have hb12 := below_one w11 (.cells #[.slice av' L.length cv'] 32)
            have hI13 := hI12.below hb12
            have HNS := Lib.hid (hNS.fz (Fz.below hb12) fun _ x => x)
            have hown13 := hI13.ra
            have HI13 := Lib.hid hI13
            have hsz13 : w7.heap.size ≤ (w11.alloc (.cells #[.slice av' L.length cv'] 32)).heap.size := hI13.gr.size
            have HUL : Hid (us'.length = j) := by show _ = _; rw [hI13.a.len]; exact HLL.out.2
            clear HI10 hN11 hg11 hI11 hI12 hNS hOv hb12 hI13
            go_wp2_with (at_builtin; refine wpList_append_lies _ rfl _ _ 22 rfl w7.heap.size 32 iL (.slice none 0 0) 1 24 Tryz.underlying22 HIL.out.1 HIL.out.2.1 HIL.out.2.2.1 HIL.out.2.2.2 rfl (by decide) _ _ _ rfl hown13 ⟨w11.heap.size, 0, none⟩ 1 1 [.slice av' L.length cv'] rfl rfl ?d1 ?d2 (by omega) ?d3 ?d4 hsz13 _ rfl ?_)
            case d1 =>
              intro i u hu
              match i, hu with
              | 0, hu => simp at hu; subst hu; simp [Addr.add]
            case d2 => intro u hu; simp at hu; subst hu; rfl
            case d3 => have := HUL.out; unfold maxLen; omega
            case d4 => have := HUL.out; omega
            intro g2 cp2 w14 hown14 hgr14 hat14 _
            have HI14 := Lib.hid (HI13.out.pushA hbl HNS.out hown14 hgr14 (by rw [alloc_size]; exact hat14))
            clear HNS hown13 HI13 hsz13 hown14 hgr14 hat14
            go_wp2
            go_roundw
            case rel => exact ⟨j + 1, p, _, _, _, _, r9, by omega, by go_num, HI14.out, by rw [← HD2.out]; simp, by rw [← HT2.out]; simp, HIR2.out, by omega, by simp [HLL.out.1], by simp [HLL.out.2]⟩
            case measure => simp [intOf]; omega
          · obtain rfl : p = 0 := by omega
            have hD2 : D = ID := by rw [← hD]; simp [innerF]
            have hT2 : T' = IT := by rw [← hT']; simp [innerF]
            have hIR2 : r' = IR := hIR
            subst hD2
            subst hT2
            subst hIR2
            clear hD hT' hIR hDl hTl
            obtain ⟨S2, hO8, hd8, ha8⟩ := HO7.out.inner hI
            obtain ⟨ad, cd, rfl⟩ := hI.rd.form
            obtain ⟨aa, na, ca, rfl⟩ : ∃ a n c, u8 = .slice a n c := by
              rcases hI.ra.form with ⟨e, _⟩ | ⟨g, cap, e⟩
              · exact ⟨_, _, _, e⟩
              · exact ⟨_, _, _, e⟩
            have hb9 := below_one wr (.cells #[.slice ad D.length cd] 32)
            have hO9 := hO8.below hb9
            obtain ⟨z0, z1⟩ := hO8.box.get2
            have HD9 := Lib.hid (hd8.fz (Fz.below hb9) fun _ x => x)
            have HA9 := Lib.hid (ha8.fz (Fz.below hb9) fun _ x => x)
            have hown9 := hO9.rd
            have HUL : Hid (us.length = k) := by show _ = _; rw [hO9.d.len]; exact HXL.out.1
            have hsz9 : w3.heap.size ≤ (wr.alloc (.cells #[.slice ad D.length cd] 32)).heap.size := hO9.bel.size
            have HO9 := Lib.hid hO9
            clear hI hO8 hd8 ha8 hb9 hO9
            go_wp2_with (at_builtin; refine wpList_append_lies _ rfl _ _ 22 rfl w3.heap.size 32 iL (.slice none 0 0) 1 24 Tryz.underlying22 HIL.out.1 HIL.out.2.1 HIL.out.2.2.1 HIL.out.2.2.2 rfl (by decide) _ _ _ rfl hown9 ⟨wr.heap.size, 0, none⟩ 1 1 [.slice ad D.length cd] rfl rfl ?e1 ?e2 (by omega) ?e3 ?e4 hsz9 _ rfl ?_)
            case e1 =>
              intro i u hu
              match i, hu with
              | 0, hu => simp at hu; subst hu; simp [Addr.add]
            case e2 => intro u hu; simp at hu; subst hu; rfl
            case e3 => have := HUL.out; unfold maxLen; omega
            case e4 => have := HUL.out; omega
            intro g cp w10 hown10 hgr10 hat10 _
            have hO10 := HO9.out.pushD HD9.out hown10 hgr10 (by rw [alloc_size]; exact hat10)
            have hbx : Blk w10 pb 25 #[vd, va] := (hgr10.block pb HO9.out.box.lt fun e => HO9.out.box.apart HO9.out.rd (by decide) e.symm).trans HO9.out.box
            have y0 := hbx.cell 0
            have y1 := hbx.cell 1
            have yf := hbx.frozen
            have HA10 := Lib.hid (HA9.out.fz (w' := w10.setCell ⟨pb, 0, none⟩ (.slice (some ⟨g, 0, none⟩) (us.length + 1) cp)) ⟨by simpa [World.setCell] using hgr10.size, fun kk hs hk => (Below.heap_setCell w10 _ _ kk (by simpa using (HO9.out.ne kk hs).2.1)).trans (hgr10.block kk hk (HO9.out.ne kk hs).2.2.1)⟩ fun _ x => x)
            have HO10 := Lib.hid hO10
            clear z0 z1 hown9 hsz9 HO9 HD9 HA9 hown10 hgr10 hat10 hO10 hbx
            have hO10 := HO10.out
            have hbW := below_one (w10.setCell ⟨pb, 0, none⟩ (.slice (some ⟨g, 0, none⟩) (us.length + 1) cp)) (.cells #[.slice aa na ca] 22)
            have hO11 := hO10.below hbW
            have HA11 := Lib.hid (HA10.out.fz (Fz.below hbW) fun _ x => x)
            have hown11 := hO11.ra
            have HB11 := Lib.hid (Blk.new' (w := w10.setCell ⟨pb, 0, none⟩ (.slice (some ⟨g, 0, none⟩) (us.length + 1) cp)) (n := w10.heap.size) (by simp [World.setCell]) 22 #[.slice aa na ca])
            have HVL : Hid (vs.length = k) := by show _ = _; rw [hO11.a.len]; exact HXL.out.2
            have hsz11 : w3.heap.size ≤ ((w10.setCell ⟨pb, 0, none⟩ (.slice (some ⟨g, 0, none⟩) (us.length + 1) cp)).alloc (.cells #[.slice aa na ca] 22)).heap.size := hO11.bel.size
            have HO11 := Lib.hid hO11
            clear hO10 hbW hO11 HO10 HA10
            go_wp2_with (at_builtin; refine wpList_append_lies _ rfl _ _ 23 rfl w3.heap.size 22 iT (.slice none 0 0) 1 24 Tryz.underlying23 HIT.out.1 HIT.out.2.1 HIT.out.2.2.1 HIT.out.2.2.2 rfl (by decide) _ _ _ rfl hown11 ⟨w10.heap.size, 0, none⟩ 1 1 [.slice aa na ca] rfl rfl ?f1 ?f2 (by omega) ?f3 ?f4 hsz11 _ rfl ?_)
            case f1 =>
              intro i u hu
              match i, hu with
              | 0, hu => simp at hu; subst hu; simpa [Addr.add] using HB11.out.cell 0
            case f2 => intro u hu; simp at hu; subst hu; rfl
            case f3 => have := HVL.out; unfold maxLen; omega
            case f4 => have := HVL.out; omega
            intro g2 cp2 w12 hown12 hgr12 hat12 _
            have hO12 := HO11.out.pushA HA11.out hown12 hgr12 (by rw [alloc_size]; simpa [World.setCell] using hat12)
            have hbx : Blk w12 pb 25 #[.slice (some ⟨g, 0, none⟩) (us.length + 1) cp, va] := (hgr12.block pb HO11.out.box.lt fun e => HO11.out.box.apart HO11.out.ra (by decide) e.symm).trans HO11.out.box
            have x0 := hbx.cell 0
            have x1 := hbx.cell 1
            have xf := hbx.frozen
            have HO12 := Lib.hid hO12
            clear y0 y1 yf hown11 hsz11 HO11 HA11 hown12 hgr12 hat12 hO12 hbx
            go_wp2
            go_roundw
            case rel => exact ⟨k + 1, m, _, _, _, _, _, _, _, r', by omega, by go_num, HO12.out, by rw [← HX2.out]; simp, by rw [← HT2.out]; simp, HRR2.out, hr', by simp [HXL.out.1], by simp [HXL.out.2]⟩
            case measure => simp [intOf]; omega
      · obtain rfl : m = 0 := by omega
        have hX2 : xs = X := by rw [← hX]; simp [outerF]
        have hT2 : ts = T := by rw [← hT]; simp [outerF]
        have hRR2 : r = RR := hRR
        subst hX2
        subst hT2
        subst hRR2
        clear hX hT hRR hxl htl
        obtain ⟨an, cn, hBn, hcn, -⟩ := hO.nb
        obtain ⟨l, f⟩ := r
        have hBR : Blk wr w.heap.size 25 #[.slice none 0 0, .slice none 0 0] := (hO.bel.block _ hB3.out.lt).trans hB3.out
        obtain ⟨z0, z1⟩ := hBR.get2
        have zf := hBR.frozen
        obtain ⟨y0, y1⟩ := hBn.get2
        obtain ⟨x0, x1⟩ := hO.box.get2
        have hbw := hb3.trans (hO.bel.mono hb3.size)
        have HBR := Lib.hid hBR
        have hRlt : w.heap.size < w3.heap.size := hB3.out.lt
        simp only at y0 y1 hcn
        obtain ⟨ad, nd, cd, rfl⟩ : ∃ a n c, vd = .slice a n c := by
          rcases hO.rd.form with ⟨e, _⟩ | ⟨g, cap, e⟩
          · exact ⟨_, _, _, e⟩
          · exact ⟨_, _, _, e⟩
        obtain ⟨aa, na, ca, rfl⟩ : ∃ a n c, va = .slice a n c := by
          rcases hO.ra.form with ⟨e, _⟩ | ⟨g, cap, e⟩
          · exact ⟨_, _, _, e⟩
          · exact ⟨_, _, _, e⟩
        have HO := Lib.hid hO
        clear hO hBn hBR
        cases f
        · by_cases h0 : 0 < l.length
          · have HG : Hid (decF s = none) := by show _ = _; rw [HF.out]; simp only; rw [if_pos (.inr h0)]
            have hBF := ((hbw.setCell (p := ⟨w.heap.size, 0, none⟩) (by simp) (.slice none 0 0)).setCell (p := ⟨w.heap.size, 1, none⟩) (by simp) (.slice none 0 0))
            have hRF := (HBR.out.set0 (.slice none 0 0)).set1 (.slice none 0 0)
            have h0' : 0 < (l.length : Int) := by omega
            go_wp2
            have f0 := hRF.cell 0
            have f1 := hRF.cell 1
            exact bodyPost_ret (v := .tuple #[.agg #[.slice none 0 0, .slice none 0 0], .bool false]) (by simp [results, Tryz.results8, go_sem, f0, f1]) rfl (DecPost.no HG.out hBF)
          · have HG : Hid (decF s = some ⟨xs, ts⟩) := by show _ = _; rw [HF.out]; simp only; rw [if_neg (by rintro (h | h); exact absurd h (by decide); exact h0 h)]
            have hBF := ((hbw.setCell (p := ⟨w.heap.size, 0, none⟩) (by simp) (.slice ad nd cd)).setCell (p := ⟨w.heap.size, 1, none⟩) (by simp) (.slice aa na ca))
            have hRF := (HBR.out.set0 (.slice ad nd cd)).set1 (.slice aa na ca)
            have hFin := HO.out.fin (w' := (wr.setCell ⟨w.heap.size, 0, none⟩ (.slice ad nd cd)).setCell ⟨w.heap.size, 1, none⟩ (.slice aa na ca)) (fun k hk => (Below.heap_setCell _ _ _ k (by simp; omega)).trans (Below.heap_setCell _ _ _ k (by simp; omega))) (by simp [World.setCell])
            have HFin := Lib.hid hFin
            clear hFin
            obtain rfl : l = [] := List.eq_nil_of_length_eq_zero (by omega)
            go_wp2
            have f0 := hRF.cell 0
            have f1 := hRF.cell 1
            exact bodyPost_ret (v := .tuple #[.agg #[.slice ad nd cd, .slice aa na ca], .bool true]) (by simp [results, Tryz.results8, go_sem, f0, f1]) rfl (DecPost.yes HG.out HFin.out hBF)
        · have HG : Hid (decF s = none) := by show _ = _; rw [HF.out]; simp only; rw [if_pos (.inl trivial)]
          have hBF := ((hbw.setCell (p := ⟨w.heap.size, 0, none⟩) (by simp) (.slice none 0 0)).setCell (p := ⟨w.heap.size, 1, none⟩) (by simp) (.slice none 0 0))
          have hRF := (HBR.out.set0 (.slice none 0 0)).set1 (.slice none 0 0)
          go_wp2
          have f0 := hRF.cell 0
          have f1 := hRF.cell 1
          exact bodyPost_ret (v := .tuple #[.agg #[.slice none 0 0, .slice none 0 0], .bool false]) (by simp [results, Tryz.results8, go_sem, f0, f1]) rfl (DecPost.no HG.out hBF)
end Go.Proofs.YthnkfjjgccabeaaGreatDoor
