/- Own rows of numbers. -/
import Derived.Test.YthnkfjjgccabeaaGreatDoorSl
import Derived.Deep.RegionHeld3
import Derived.Deep.AppendLies
import Derived.Deep.Upon
namespace Go.Proofs.YthnkfjjgccabeaaGreatDoor
open Go.RowKit

theorem infoNum : (Tryz.prog.info? 3).map (fun i => (i.zero, i.size, i.bytes)) = some (some (.int .i64 0), 1, 8) := by kernel_rfl
def OInts (B : Nat) (v : Value) (L : List Int) (w : World) : Prop := w.ownsRow B 3 1 v L.length (L.map (Value.int .i64))
theorem OInts.cap {B : Nat} {W : World} {v : Value} {xs : List Int} (h : OInts B v xs W) : ∀ a n c, v = .slice a n c → n ≤ c := by
  intro a n c e
  obtain ⟨hl, ⟨hv, h0⟩ | ⟨g, cap, cur, hv, hgB, hh, hc, _⟩⟩ := h
  · rw [hv] at e; simp only [Value.slice.injEq] at e; omega
  · rw [hv] at e; simp only [Value.slice.injEq] at e; omega
theorem OInts.form {B : Nat} {W : World} {v : Value} {xs : List Int} (h : OInts B v xs W) : ∃ a c, v = .slice a xs.length c := by
  obtain ⟨_, ⟨rfl, h0⟩ | ⟨g, cap, cur, rfl, _⟩⟩ := id h
  · exact ⟨none, 0, by rw [h0]⟩
  · exact ⟨_, _, rfl⟩
theorem src_none (w : World) (T e : TypeId) (hT : Tryz.prog.underlying T = some (.slice e)) (a : Option Addr) (c : Nat) : Src Tryz.prog 1 T (.slice a 0 c) 0 [] w :=
  ⟨Or.inl ⟨e, hT⟩, fun w' => rfl, by cases a <;> rfl, by cases a <;> rfl, rfl, fun u hu => by simp at hu⟩
theorem run_ints {w : World} {B : Nat} {v x : Value} {A L : List Int} (hv : OInts B v A w) (hx : IsNums x L w) (hlen : A.length + L.length ≤ 1000000000) (hB : B ≤ w.heap.size) :
    ∃ v' w', (Builtin.append_ #[32, 32] 32 #[v, x]).run Tryz.prog w = .ok v' w' ∧ OInts B v' (A ++ L) w' ∧ w.grownBy w' v.ownBlock := by
  obtain ⟨i, hi, hz0, hz1, hz2⟩ := info_parts infoNum
  by_cases h0 : L = []
  · subst h0
    obtain ⟨ax, cx, rfl⟩ := hx.len
    have hcap := hv.cap
    obtain ⟨a, c, rfl⟩ := hv.form
    have hs := src_none w 32 3 Tryz.underlying32 ax cx
    rw [← hz1] at hs
    exact ⟨_, w, run_append_nothing (P := Tryz.prog) w _ _ _ 3 i Tryz.underlying32 hi a A.length c (hcap _ _ _ rfl) _ hs, by simpa using hv, ⟨rfl, rfl, rfl, Nat.le_refl _, fun _ _ _ => rfl⟩⟩
  · rcases hx with ⟨_, h⟩ | ⟨bk, off, cap, rfl, hlt, hc⟩
    · exact absurd h h0
    · obtain ⟨v', w', h1, h2, h3, _, _⟩ := run_append_own_at (P := Tryz.prog) w B 32 32 3 i _ 1 8 Tryz.underlying32 hi hz0 hz1 hz2 rfl (by omega) v A.length _ hv ⟨bk, off, none⟩ L.length cap (L.map (Value.int .i64)) (by simp)
        (fun j u hj => by
          rw [List.getElem?_map] at hj
          cases hy : L[j]? with
          | none => rw [hy] at hj; cases hj
          | some y =>
            rw [hy] at hj
            obtain rfl := Option.some.inj hj
            have e := hc j y hy
            by_cases e0 : j = 0
            · subst e0; simpa [Addr.add] using e
            · simpa [Addr.add, e0] using e)
        (fun u hu => by obtain ⟨y, _, rfl⟩ := List.mem_map.1 hu; rfl) (by unfold maxLen; omega) (by omega) hB
      refine ⟨v', w', h1, ?_, h3⟩
      show w'.ownsRow B 3 1 v' (A ++ L).length ((A ++ L).map _)
      rw [List.length_append, List.map_append]
      exact h2
/-- At the list of a plain region's operations. -/
theorem wpList_ints {ops : Array Oper} {rest : List Oper} {o : Oper} {a : Act} {Q : Exit → Act → World → Prop} {w : World} (hg : o.guard = none) (s x : Operand)
    (ho : o.op = .call { callee := .builtin .append, args := #[s, x], argTypes := #[32, 32] }) (hot : o.type = 32)
    {B : Nat} {v xv : Value} {A L : List Int} (hs : a.eval s = v) (hx : a.eval x = xv) (hv : OInts B v A w) (hxr : IsNums xv L w) (hlen : A.length + L.length ≤ 1000000000) (hB : B ≤ w.heap.size)
    (h : ∀ v' w', OInts B v' (A ++ L) w' → w.grownBy w' v.ownBlock → wpList Tryz.prog ops Q rest (a.put o.dst v') w') :
    wpList Tryz.prog ops Q (o :: rest) a w := by
  refine wpList_plain hg fun K hK => ?_
  obtain ⟨v', w', hr, h2, h3⟩ := run_ints hv hxr hlen hB
  unfold Oper.wp execOp
  simp only [ho, hot, resolve, invoke, builtin, Sem.run_bind, Sem.run_pure, Result.andThen_ok, List.map_toArray, List.map_cons, List.map_nil, hs, hx, hr]
  exact hK _ _ (h v' w' h2 h3)
theorem OInts.next {B : Nat} {v : Value} {L : List Int} {w w' : World} (h : OInts B v L w) (hb : Below w.heap.size w w') : OInts B v L w' := by
  obtain ⟨hl, ⟨hv, h0⟩ | ⟨g, cap, cur, hv, hgB, hh, hc, hm, hs, ht⟩⟩ := h
  · exact ⟨hl, .inl ⟨hv, h0⟩⟩
  · have hlt : g < w.heap.size := by
      rcases Nat.lt_or_ge g w.heap.size with h' | h'
      · exact h'
      · simp [Array.getElem?_eq_none h'] at hh
    exact ⟨hl, .inr ⟨g, cap, cur, hv, hgB, (hb.block g hlt).trans hh, hc, hm, hs, ht⟩⟩
theorem OInts.below {W w w' : World} {v : Value} {L : List Int} (h : OInts W.heap.size v L w) (hb : Below W.heap.size W w) (hg : w.grownBy w' v.ownBlock) : Below W.heap.size W w' :=
  hb.trans ⟨hg.os, hg.tape, hg.output, hg.size, fun k hk => hg.block k (Nat.lt_of_lt_of_le hk hb.size) (fun e => by
    obtain ⟨_, ⟨rfl, h0⟩ | ⟨g, cap, cur, rfl, hgB, _⟩⟩ := id h
    · cases e
    · simp only [Value.ownBlock] at e
      have := Option.some.inj e
      omega)⟩
theorem OInts.nums {B : Nat} {v : Value} {L : List Int} {w : World} (h : OInts B v L w) : IsNums v L w := Cod.owns_ints h
theorem nums_one (w : World) (x : Int) : IsNums (.slice (some ⟨w.heap.size, 0, none⟩) 1 1) [x] (w.alloc (.cells #[.int .i64 x] 3)) := by
  have B := Blk.new w 3 #[.int .i64 x]
  refine .inr ⟨_, 0, 1, rfl, B.lt, fun i y hi => ?_⟩
  match i, hi with
  | 0, hi => simp at hi; subst hi; exact B.cell 0
theorem own_one (w : World) (x : Int) : OInts w.heap.size (.slice (some ⟨w.heap.size, 0, none⟩) 1 1) [x] (w.alloc (.cells #[.int .i64 x] 3)) :=
  World.ownsRow_lit (base := w.heap.size) w #[.int .i64 x] 1 (Nat.le_refl _) (by unfold maxLen; omega) (by rfl)
end Go.Proofs.YthnkfjjgccabeaaGreatDoor
