/- BaseLasts: appending one list of strings to another, at a step of a region. -/
import Derived.Test.YtanecondopbfhaaGreatDoorLasts1
import Derived.Deep.RegionHeld3
import Derived.Deep.AppendLies
import Derived.Deep.Upon
namespace Go.Proofs.YtanecondopbfhaaGreatDoor
open Go.RowKit
open Cod (Env)

theorem src_nil (w : World) (T e : TypeId) (hT : Tryz.prog.underlying T = some (.slice e)) : Src Tryz.prog 1 T (.slice none 0 0) 0 [] w :=
  ⟨Or.inl ⟨e, hT⟩, fun w' => rfl, rfl, rfl, rfl, fun u hu => by simp at hu⟩

theorem run_texts {w : World} {B B2 : Nat} {v x : Value} {A L : List (List UInt8)} (hv : TRow B w v A) (hx : TRow B2 w x L) (hlen : A.length + L.length ≤ 1000000000) (hB : B ≤ w.heap.size) :
    ∃ v' w', (Builtin.append_ #[46, 46] 46 #[v, x]).run Tryz.prog w = .ok v' w' ∧ TRow B w' v' (A ++ L) ∧ w.grownBy w' v.ownBlock ∧ (v'.ownBlock = v.ownBlock ∨ v'.ownBlock = some w.heap.size) := by
  obtain ⟨i, hi, hz0, hz1, hz2⟩ := info_of info9
  obtain ⟨hxl, ⟨rfl, h0⟩ | ⟨g, cap, cur, rfl, hgB, hh, hc, hm, hs, ht⟩⟩ := id hx
  · have hL : L = [] := List.eq_nil_of_length_eq_zero h0
    subst hL
    have hcap := row_cap hv
    obtain ⟨a, c, rfl⟩ : ∃ a c, v = .slice a A.length c := by
      obtain ⟨_, ⟨rfl, h0⟩ | ⟨g, cap, cur, rfl, _⟩⟩ := id hv
      · exact ⟨none, 0, by rw [h0]⟩
      · exact ⟨_, _, rfl⟩
    have hs := src_nil w 46 9 (by kernel_rfl)
    rw [← hz1] at hs
    refine ⟨_, w, run_append_nothing (P := Tryz.prog) w _ _ _ 9 i (by kernel_rfl) hi a A.length c (hcap _ _ _ rfl) _ hs, by simpa using hv, ⟨rfl, rfl, rfl, Nat.le_refl _, fun _ _ _ => rfl⟩, Or.inl rfl⟩
  · have hcells := hx.cells (g := g) rfl
    obtain ⟨v', w', h1, h2, h3, _, h5⟩ := run_append_own_at (P := Tryz.prog) w B 46 46 9 i _ 1 16 (by kernel_rfl) hi hz0 hz1 hz2 rfl (by omega) v A.length _ hv ⟨g, 0, none⟩ L.length cap _ hxl hcells
      (fun u hu => by obtain ⟨y, _, rfl⟩ := List.mem_map.1 hu; rfl) (by unfold maxLen; omega) (by omega) hB
    refine ⟨v', w', h1, ?_, h3, h5⟩
    show w'.ownsRow B 9 1 v' (A ++ L).length ((A ++ L).map _)
    rw [List.length_append, List.map_append]
    exact h2

/-- At a step of a region that draws its order. -/
theorem step_texts {ops : Array Oper} {o : Oper} {a : Act} {K : Act → World → Prop} {Q : Exit → Act → World → Prop} {E : Prop} {w : World} (hgd : o.guard = none) (s x : Operand)
    (ho : o.op = .call { callee := .builtin .append, args := #[s, x], argTypes := #[46, 46] }) (hot : o.type = 46)
    {B B2 : Nat} {v xv : Value} {A L : List (List UInt8)} (hs : a.eval s = v) (hx : a.eval x = xv) (hv : TRow B w v A) (hxr : TRow B2 w xv L) (hlen : A.length + L.length ≤ 1000000000) (hB : B ≤ w.heap.size)
    (h : ∀ v' w', TRow B w' v' (A ++ L) → w.grownBy w' v.ownBlock → (v'.ownBlock = v.ownBlock ∨ v'.ownBlock = some w.heap.size) → K (a.put o.dst v') w') :
    if Region.wanted o (yielded ops a.tmps) = true then Oper.wp Tryz.prog o a w K Q else E := by
  have hw : Region.wanted o (yielded ops a.tmps) = true := by simp [Region.wanted, hgd]
  rw [if_pos hw]
  obtain ⟨v', w', hr, h2, h3, h4⟩ := run_texts hv hxr hlen hB
  unfold Oper.wp execOp
  simp only [ho, hot, resolve, invoke, builtin, Sem.run_bind, Sem.run_pure, Result.andThen_ok, List.map_toArray, List.map_cons, List.map_nil, hs, hx, hr]
  exact h v' w' h2 h3 h4

/-- At a list of operations, guarded or not. -/
theorem wpList_texts {ops : Array Oper} {rest : List Oper} {o : Oper} {a : Act} {Q : Exit → Act → World → Prop} {w : World} (hw : Region.wanted o (yielded ops a.tmps) = true) (s x : Operand)
    (ho : o.op = .call { callee := .builtin .append, args := #[s, x], argTypes := #[46, 46] }) (hot : o.type = 46)
    {B B2 : Nat} {v xv : Value} {A L : List (List UInt8)} (hs : a.eval s = v) (hx : a.eval x = xv) (hv : TRow B w v A) (hxr : TRow B2 w xv L) (hlen : A.length + L.length ≤ 1000000000) (hB : B ≤ w.heap.size)
    (h : ∀ v' w', TRow B w' v' (A ++ L) → w.grownBy w' v.ownBlock → (v'.ownBlock = v.ownBlock ∨ v'.ownBlock = some w.heap.size) → wpList Tryz.prog ops Q rest (a.put o.dst v') w') :
    wpList Tryz.prog ops Q (o :: rest) a w := by
  refine wpList_step fun K hK => ?_
  rw [if_pos hw]
  obtain ⟨v', w', hr, h2, h3, h4⟩ := run_texts hv hxr hlen hB
  unfold Oper.wp execOp
  simp only [ho, hot, resolve, invoke, builtin, Sem.run_bind, Sem.run_pure, Result.andThen_ok, List.map_toArray, List.map_cons, List.map_nil, hs, hx, hr]
  exact hK _ _ (h v' w' h2 h3 h4)

theorem row_of_one {w : World} {B H : Nat} {s : List UInt8} (hH : w.heap.size = H) (hB : B ≤ H) : TRow B (w.alloc (.cells #[.string (bs s)] 9)) (.slice (some ⟨H, 0, none⟩) 1 1) [s] := by
  subst hH
  exact ⟨rfl, .inr ⟨w.heap.size, 1, #[.string (bs s)], rfl, hB, heap_alloc_new w _, Nat.le_refl _, by unfold maxLen; omega, rfl, rfl⟩⟩

theorem row_of_none {w : World} {B H : Nat} (hH : w.heap.size = H) (hB : B ≤ H) : TRow B (w.alloc (.cells #[] 9)) (.slice (some ⟨H, 0, none⟩) 0 0) [] := by
  subst hH
  exact ⟨rfl, .inr ⟨w.heap.size, 0, #[], rfl, hB, heap_alloc_new w _, Nat.le_refl _, by unfold maxLen; omega, rfl, rfl⟩⟩

theorem row_alloc {w : World} {B : Nat} {v : Value} {L : List (List UInt8)} (h : TRow B w v L) (o : Obj) : TRow B (w.alloc o) v L :=
  row_keeps h (fun i _ hlt => Lib.alloc_old w o i hlt)

theorem own_some {i b n c : Nat} (h : some i = Value.ownBlock (.slice (some ⟨b, 0, none⟩) n c)) : i = b := Option.some.inj h

theorem kept_cell {w w' : World} {b o : Nat} (h : Kept (fun _ => False) w w') (hb : b < w.heap.size) : w'.cell? ⟨b, o, none⟩ = w.cell? ⟨b, o, none⟩ := World.cell?_of_block (h.block b hb (fun h => h))

theorem kept_drew (w : World) : Kept (fun _ => False) w w.drew := ⟨rfl, rfl, rfl, Nat.le_refl _, fun _ _ _ => rfl⟩

theorem kept_none {w8 w1 w2 : World} {v : Value} (h : Kept (fun _ => False) w8 w1) (hg : w1.grownBy w2 v.ownBlock) (hv : ∀ i, some i = v.ownBlock → w8.heap.size ≤ i) : Kept (fun _ => False) w8 w2 :=
  h.andThen (T := fun i => some i = v.ownBlock) ⟨hg.os, hg.tape, hg.output, hg.size, fun k hk hn => hg.block k hk hn⟩ (fun i hi => Or.inr (hv i hi))

/-- The end of a round in which Append was called. -/
theorem ls_end {N b k : Nat} {w : World} {av sv v' : Value} {P T : Nat → Prop} {d7 d6 : Dk} {A7 A' : List (List UInt8)} {kk jb c : Nat} {j7 j6 : Jr} {o : Obj} {W0 W8 W : World} (h5 : LJ N w b k P d7 jb j7 av sv A7 kk c o W0) (hJ : Jn P W8 b d6 jb j6) (hL : Live d6 3 j6 A' kk) (hR : d6.R ≤ 300 * (k + 1))
    (hK : Kept T W8 W) (hT : ∀ i, T i → P i) (hA : A' = A7 ∨ ∃ s, s.length ≤ 200 ∧ A' = A7 ++ [s]) (hra : TRow N W v' A') (hrs : TRow N W sv (A7.take kk)) (hv : ∀ i, some i = v'.ownBlock → P i ∨ (W8.heap.size ≤ i ∧ i < W.heap.size)) (hk : Kept (fun i => ¬ i < N) w W) :
    LS N w b (k + 1) (.pointer (some ⟨jb, 0, none⟩)) v' sv W := by
  have hkl := h5.lists.kk
  have hlen := h5.lists.len
  refine ⟨⟨_, d6, A', kk, ⟨fun i hi => Or.inl (h5.lists.lo i hi), hv, fun i hi => Or.inl (h5.lists.ps i hi), hra, ?_, ?_, ?_, hR, ?_⟩, Or.inr ⟨jb, j6, rfl, hJ.grow hK hT, hL⟩⟩, hk⟩
  · rcases hA with rfl | ⟨s, hs, rfl⟩
    · exact hrs
    · rw [List.take_append_of_le_length hkl]; exact hrs
  · rcases hA with rfl | ⟨s, hs, rfl⟩
    · omega
    · rw [List.length_append, List.length_singleton]; omega
  · rcases hA with rfl | ⟨s, hs, rfl⟩
    · exact h5.lists.small
    · intro u hu
      rcases List.mem_append.1 hu with hu | hu
      · exact h5.lists.small u hu
      · simp at hu; rw [hu]; exact hs
  · rcases hA with rfl | ⟨s, hs, rfl⟩
    · exact hkl
    · rw [List.length_append]; omega

/-- Append has answered OK: the list `before` was appended to, too. -/
theorem ls_end0 {N b k M : Nat} {w : World} {av sv v3 bv : Value} {P : Nat → Prop} {d7 d6 : Dk} {A7 : List (List UInt8)} {s : List UInt8} {kk jb c : Nat} {j7 j6 : Jr} {o o2 : Obj} {W0 W8 W3 W5 : World} (h5 : LJ N w b k P d7 jb j7 av sv A7 kk c o W0) (hJ : Jn P W8 b d6 jb j6) (hL : Live d6 3 j6 (A7 ++ [s]) kk) (hR : d6.R ≤ 300 * (k + 1)) (hs : s.length ≤ 200)
    (hra : TRow W8.heap.size W3 v3 (A7 ++ [s])) (hrs : TRow N W8 sv (A7.take kk)) (hk3 : Kept (fun _ => False) W8 W3) (hg : (W3.alloc o2).grownBy W5 bv.ownBlock) (hbP : ∀ i, some i = bv.ownBlock → P i) (hbv : ∀ i, some i = bv.ownBlock → M ≤ i ∧ i < W8.heap.size)
    (hsv : ∀ i, some i = sv.ownBlock → i < M) (hNM : N ≤ M) (hN : N ≤ w.heap.size) (hk : Kept (fun i => ¬ i < N) w W8) (n : Nat) : LS N w b (k + 1) (.pointer (some ⟨jb, 0, none⟩)) v3 sv (W5.drewN n) := by
  have hz1 := hk3.size
  have hz2 := hg.size
  have hz3 := hk.size
  have hkT : Kept (fun i => some i = bv.ownBlock) W8 W5 := ((hk3.mono (fun _ h => h.elim)).alloc o2).trans ⟨hg.os, hg.tape, hg.output, hg.size, fun k hk hn => hg.block k hk hn⟩
  simp only [World.size_alloc] at hz2
  refine (ls_end h5 hJ hL hR hkT hbP (Or.inr ⟨s, hs, rfl⟩) ?_ ?_ ?_ (hk.trans (hkT.mono (fun i hi => Or.inl (fun hn => by have := (hbv i hi).1; omega))))).drewN n
  · refine row_keeps (row_alloc (row_weak hra (by omega)) o2) (fun i hi hl => hg.block i hl (fun e => ?_))
    have h1 := (row_lt hra i hi).1
    have h2 := (hbv i e).2
    omega
  · refine row_keeps (row_alloc (row_keeps hrs (fun i hi hl => hk3.block i hl (fun h => h))) o2) (fun i hi hl => hg.block i hl (fun e => ?_))
    have h1 := hsv i hi
    have h2 := (hbv i e).1
    omega
  · intro i hi
    have h1 := row_lt hra i hi
    exact Or.inr (by omega)

/-- Append has answered something else. -/
theorem ls_end1 {N b k : Nat} {w : World} {av sv v3 : Value} {P : Nat → Prop} {d7 d6 : Dk} {A7 A' : List (List UInt8)} {kk jb c : Nat} {j7 j6 : Jr} {o : Obj} {W0 W8 W3 : World} (h5 : LJ N w b k P d7 jb j7 av sv A7 kk c o W0) (hJ : Jn P W8 b d6 jb j6) (hL : Live d6 3 j6 A' kk) (hR : d6.R ≤ 300 * (k + 1)) (hA : A' = A7 ∨ ∃ s, s.length ≤ 200 ∧ A' = A7 ++ [s])
    (hra : TRow N W3 v3 A') (hv : ∀ i, some i = v3.ownBlock → P i ∨ (W8.heap.size ≤ i ∧ i < W3.heap.size)) (hrs : TRow N W8 sv (A7.take kk)) (hk3 : Kept (fun _ => False) W8 W3) (hk : Kept (fun i => ¬ i < N) w W8) (n : Nat) : LS N w b (k + 1) (.pointer (some ⟨jb, 0, none⟩)) v3 sv (W3.drewN n) :=
  (ls_end h5 hJ hL hR hk3 (fun _ h => h.elim) hA hra (row_keeps hrs (fun i _ hl => hk3.block i hl (fun h => h))) hv (hk.trans (hk3.mono (fun _ h => h.elim)))).drewN n

end Go.Proofs.YtanecondopbfhaaGreatDoor
