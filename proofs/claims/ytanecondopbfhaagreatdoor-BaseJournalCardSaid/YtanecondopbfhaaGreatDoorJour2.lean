/- The journal's calls: Append, Sync, Len, Get, All. -/
import Derived.Test.YtanecondopbfhaaGreatDoorJour
import Derived.StillTailTactics
import Derived.Deep.AppendLies
namespace Go.Proofs.YtanecondopbfhaaGreatDoor
open Go.RowKit
open Cod (Env)

variable {w w' : World} {b jb B : Nat} {d : Dk} {S : Nat → Prop} {rv : Value} {j : Jr}

def Dk.jappend (d : Dk) (j : Jr) (s : List UInt8) : (Dk × Int) × Jr :=
  if j.broken = true then ((d, 7), j) else
  if 20000 < s.length then ((d, 3), j) else
  if 1048576 < (forms j.L).length + (formL s).length then ((d, 6), j) else
  if (d.write j.file ((forms j.L).length : Nat) (formL s)).2 ≠ 0 then (d.write j.file ((forms j.L).length : Nat) (formL s), ⟨j.file, j.L, true⟩) else
  (d.write j.file ((forms j.L).length : Nat) (formL s), ⟨j.file, j.L ++ [s], false⟩)

def Dk.jsync (d : Dk) (j : Jr) : (Dk × Int) × Jr :=
  if j.broken = true then ((d, 7), j) else (d.sync j.file, ⟨j.file, j.L, (d.sync j.file).2 != 0⟩)

section
variable (hJ : JM B S w b jb rv j)
include hJ

theorem JM.c0 : w.cell? ⟨jb, 0, none⟩ = some (.pointer (some ⟨b, 0, none⟩)) := by rw [Lib.cell_of_heap hJ.at_]; rfl
theorem JM.c1 : w.cell? ⟨jb, 1, none⟩ = some (.int .i64 (j.file : Int)) := by rw [Lib.cell_of_heap hJ.at_]; rfl
theorem JM.c2 : w.cell? ⟨jb, 2, none⟩ = some rv := by rw [Lib.cell_of_heap hJ.at_]; rfl
theorem JM.c3 : w.cell? ⟨jb, 3, none⟩ = some (.int .i64 ((forms j.L).length : Int)) := by rw [Lib.cell_of_heap hJ.at_]; rfl
theorem JM.c4 : w.cell? ⟨jb, 4, none⟩ = some (.bool j.broken) := by rw [Lib.cell_of_heap hJ.at_]; rfl
theorem JM.fz (i : Nat) : w.frozen? ⟨jb, i, none⟩ = false := Lib.frozen_of_heap hJ.at_ i
theorem JM.lt : jb < w.heap.size := by
  rcases Nat.lt_or_ge jb w.heap.size with h' | h'
  · exact h'
  · have := hJ.at_; simp [Array.getElem?_eq_none h'] at this

/-- Other blocks turn. -/
theorem JM.kept {T : Nat → Prop} {S' : Nat → Prop} (hk : Kept T w w') (hT : ∀ i, T i → ¬ (i = jb ∨ some i = rv.ownBlock)) (hS : ∀ i, S i → S' i) : JM B S' w' b jb rv j :=
  ⟨by rw [hk.block jb hJ.lt (fun ht => hT _ ht (Or.inl rfl))]; exact hJ.at_, row_keeps hJ.row (fun i hi hlt => hk.block i hlt (fun ht => hT _ ht (Or.inr hi))), hS _ hJ.own, fun i hi => hS _ (hJ.rown i hi), hJ.ne, hJ.lo, hJ.fi, hJ.ln⟩

theorem JM.notS : ∀ i, ¬ S i → ¬ (i = jb ∨ some i = rv.ownBlock) := by
  rintro i hi (rfl | h)
  · exact hi hJ.own
  · exact hi (hJ.rown i h)

/-- The mark of a broken journal. -/
theorem JM.mark (x : Bool) : JM B S (w.setCell ⟨jb, 4, none⟩ (.bool x)) b jb rv ⟨j.file, j.L, x⟩ := by
  have hk := (Kept.refl (fun i => i = jb) w).setCell (p := ⟨jb, 4, none⟩) (Or.inl rfl) (.bool x)
  refine ⟨?_, row_keeps hJ.row (fun i hi hlt => hk.block i hlt (fun ht => hJ.ne (by rw [← ht]; exact hi))), hJ.own, hJ.rown, hJ.ne, hJ.lo, hJ.fi, hJ.ln⟩
  have := hJ.at_
  simp [World.setCell, Array.getElem?_modify, this]
end

def JP (S : Nat → Prop) (B : Nat) (w : World) (b jb : Nat) (rv : Value) (x : (Dk × Int) × Jr) (r : Ending) (w' : World) : Prop :=
  r = .returned (.int .i64 x.1.2) ∧ ∃ rv' S', Mine S' w' b x.1.1 ∧ JM B S' w' b jb rv' x.2 ∧ (∀ i, S i → S' i) ∧ Kept (fun i => ¬ S i ∨ i = jb ∨ some i = rv.ownBlock) w w' ∧ ∀ i, some i = rv'.ownBlock → some i = rv.ownBlock ∨ w.heap.size ≤ i

set_option maxHeartbeats 1000000 in
set_option maxRecDepth 100000 in
theorem jsync_calls (hM : Mine S w b d) (hJ : JM B S w b jb rv j) :
    Calls Tryz.prog 17 #[.pointer (some ⟨jb, 0, none⟩)] w (JP S B w b jb rv (d.jsync j)) := by
  obtain ⟨X, hX⟩ : ∃ X, X = d.jsync j := ⟨_, rfl⟩
  rw [← hX]
  unfold Dk.jsync at hX
  have c0 := hJ.c0
  have c1 := hJ.c1
  have c4 := hJ.c4
  by_cases hb : j.broken = true
  · rw [if_pos hb] at hX
    rw [hb] at c4
    have HX := Lib.hid hX
    clear hX hb
    go_enter Tryz.func17, Tryz.ntmps17
    go_wp2
    go_ret
    rw [HX.out]
    exact ⟨rfl, rv, S, hM, hJ, fun _ h => h, Kept.refl _ _, fun i hi => Or.inl hi⟩
  · have hb2 : j.broken = false := by simpa using hb
    rw [if_neg hb] at hX
    rw [hb2] at c4
    obtain ⟨d1, e1, h1⟩ : ∃ d1 e1, d.sync j.file = (d1, e1) := ⟨_, _, rfl⟩
    rw [h1] at hX
    have HX := Lib.hid hX
    have H1 := Lib.hid h1
    clear hX h1 hb hb2
    go_enter Tryz.func17, Tryz.ntmps17
    go_wp2_with fail
    go_still_tail 8, (by kernel_rfl)
    change wpList _ _ _ _ _ w.drew
    have hkd : Kept (fun i => i = jb) w w.drew := (Kept.refl (fun i => i = jb) w).drew
    have hMd : Mine S w.drew b d := hM.kept ((Kept.refl (fun _ => False) w).drew) (fun _ h => h.elim)
    have hJd : JM B S w.drew b jb rv j := hJ.kept ((Kept.refl (fun _ => False) w).drew) (fun _ h => h.elim) (fun _ h => h)
    clear c0 c1 c4
    generalize w.drew = V at *
    go_wp2_with (go_at_call 45; refine (m_sync hMd j.file).mono ?_)
    rintro r w1 ⟨rfl, hM1, hK1⟩
    rw [H1.out] at hM1 ⊢
    simp only at hM1 ⊢
    have hJ1 := hJd.kept hK1 hJd.notS (fun _ h => h)
    have k4 := hJ1.c4
    have f4 := hJ1.fz 4
    have hM2 : Mine S (w1.setCell ⟨jb, 4, none⟩ (.bool (e1 != 0))) b d1 := hM1.kept ((Kept.refl (fun i => i = jb) w1).setCell (p := ⟨jb, 4, none⟩) (Or.inl rfl) _) (fun i hi => Or.inl (by rw [hi]; exact hJ1.own))
    have hJ2 := hJ1.mark (e1 != 0)
    have hK2 : Kept (fun i => ¬ S i ∨ i = jb ∨ some i = rv.ownBlock) w (w1.setCell ⟨jb, 4, none⟩ (.bool (e1 != 0))) :=
      ((hkd.mono (fun i hi => Or.inl (Or.inr (Or.inl hi)))).trans (hK1.mono (fun i hi => Or.inl (Or.inl hi)))).setCell (p := ⟨jb, 4, none⟩) (Or.inl (Or.inr (Or.inl rfl))) _
    have F := Lib.hid (show JP S B w b jb rv X (.returned (.int .i64 e1)) (w1.setCell ⟨jb, 4, none⟩ (.bool (e1 != 0))) by
      rw [HX.out]
      exact ⟨rfl, rv, S, hM2, hJ2, fun _ h => h, hK2, fun i hi => Or.inl hi⟩)
    clear hM2 hJ2 hK2
    go_wp2
    go_ret
    exact F.out

theorem step_kept {w3 : World} {o : Obj} (hg : (w.alloc o).grownBy w3 rv.ownBlock) (u v : Value) : Kept (fun i => i = jb ∨ some i = rv.ownBlock) w ((w3.setCell ⟨jb, 2, none⟩ u).setCell ⟨jb, 3, none⟩ v) :=
  (((((Kept.refl (fun i => i = jb ∨ some i = rv.ownBlock) w).alloc o).grown hg (fun _ hk => Or.inl (Or.inr hk.symm))).setCell (p := ⟨jb, 2, none⟩) (Or.inl (Or.inl rfl)) u)).setCell (p := ⟨jb, 3, none⟩) (Or.inl (Or.inl rfl)) v

/-- A record more. -/
theorem JM.push (hJ : JM B S w b jb rv j) {w3 : World} {o : Obj} (hg : (w.alloc o).grownBy w3 rv.ownBlock) {g n c : Nat} {s : List UInt8} (hrow : TRow B w3 (.slice (some ⟨g, 0, none⟩) n c) (j.L ++ [s])) (hgl : rv.ownBlock = some g ∨ g = w.heap.size + 1) (hn : (forms (j.L ++ [s])).length ≤ 16777216) (hb : j.broken = false) :
    JM B (fun i => S i ∨ (w.heap.size ≤ i ∧ i < ((w3.setCell ⟨jb, 2, none⟩ (.slice (some ⟨g, 0, none⟩) n c)).setCell ⟨jb, 3, none⟩ (.int .i64 ((forms (j.L ++ [s])).length : Int))).heap.size))
      ((w3.setCell ⟨jb, 2, none⟩ (.slice (some ⟨g, 0, none⟩) n c)).setCell ⟨jb, 3, none⟩ (.int .i64 ((forms (j.L ++ [s])).length : Int))) b jb (.slice (some ⟨g, 0, none⟩) n c) ⟨j.file, j.L ++ [s], false⟩ := by
  have hlt := hJ.lt
  have hne : g ≠ jb := by
    rcases hgl with h | h
    · intro e; exact hJ.ne (by rw [h, e])
    · omega
  have hat : w3.heap[jb]? = some (.cells #[.pointer (some ⟨b, 0, none⟩), .int .i64 (j.file : Int), rv, .int .i64 ((forms j.L).length : Int), .bool j.broken] 87 (0, 0)) := by
    rw [hg.block jb (by simp; omega) hJ.ne, Lib.alloc_old w _ _ hlt]
    exact hJ.at_
  have hgs : ∀ i, some i = (Value.slice (some ⟨g, 0, none⟩) n c).ownBlock → i = g := fun i hi => by simpa [Value.ownBlock] using hi
  have hk2 : Kept (fun i => i = jb) w3 ((w3.setCell ⟨jb, 2, none⟩ (.slice (some ⟨g, 0, none⟩) n c)).setCell ⟨jb, 3, none⟩ (.int .i64 ((forms (j.L ++ [s])).length : Int))) :=
    (((Kept.refl (fun i => i = jb) w3).setCell (p := ⟨jb, 2, none⟩) (Or.inl rfl) _)).setCell (p := ⟨jb, 3, none⟩) (Or.inl rfl) _
  have hgl2 := row_lt hrow g rfl
  have hr2 := row_keeps hrow (fun i hi hl => hk2.block i hl (fun e => hne (by rw [← hgs i hi, e])))
  refine ⟨?_, hr2, Or.inl hJ.own, fun i hi => ?_, fun e => hne (hgs jb e).symm, hJ.lo, hJ.fi, hn⟩
  · simp [World.setCell, Array.getElem?_modify, hat, hb]
  · have e := hgs i hi
    subst e
    rcases hgl with h | h
    · exact Or.inl (hJ.rown _ h.symm)
    · have := hk2.size
      exact Or.inr ⟨by omega, by omega⟩

set_option maxHeartbeats 2000000 in
set_option maxRecDepth 100000 in
theorem jappend_calls (hM : Mine S w b d) (hJ : JM B S w b jb rv j) (hE : Env w) (s : List UInt8) (hs : s.length ≤ 16777216) (hR : d.R + 1048578 ≤ 549755813888) :
    Calls Tryz.prog 15 #[.pointer (some ⟨jb, 0, none⟩), .string (bs s)] w (JP S B w b jb rv (d.jappend j s)) := by
  obtain ⟨X, hX⟩ : ∃ X, X = d.jappend j s := ⟨_, rfl⟩
  rw [← hX]
  unfold Dk.jappend at hX
  obtain ⟨i0, hi, hz0, hz1, hz2⟩ := info_of info9
  obtain ⟨va, vn, vc, rfl⟩ := row_slice hJ.row
  have c0 := hJ.c0
  have c1 := hJ.c1
  have c2 := hJ.c2
  have c3 := hJ.c3
  have c4 := hJ.c4
  have fl := hJ.ln
  by_cases hb : j.broken = true
  · rw [if_pos hb] at hX
    rw [hb] at c4
    have HX := Lib.hid hX
    clear hX hb
    go_enter Tryz.func15, Tryz.ntmps15
    go_wp2
    go_ret
    rw [HX.out]
    exact ⟨rfl, _, S, hM, hJ, fun _ h => h, Kept.refl _ _, fun i hi => Or.inl hi⟩
  · have hb2 : j.broken = false := by simpa using hb
    rw [if_neg hb] at hX
    rw [hb2] at c4
    have HB2 := Lib.hid hb2
    clear hb hb2
    by_cases hl : 20000 < s.length
    · rw [if_pos hl] at hX
      have hl2 : 20000 < (bs s).size := by rw [bs_size]; exact hl
      have HX := Lib.hid hX
      clear hX hl
      go_enter Tryz.func15, Tryz.ntmps15
      go_wp2
      go_ret
      rw [HX.out]
      exact ⟨rfl, _, S, hM, hJ, fun _ h => h, Kept.refl _ _, fun i hi => Or.inl hi⟩
    · rw [if_neg hl] at hX
      have hl2 : ¬ 20000 < (bs s).size := by rw [bs_size]; exact hl
      have HL := Lib.hid hl
      have HZ := Lib.hid (bs_size (formL s))
      have hfl : (formL s).length ≤ 20100 := by
        have h1 := Cod.itoa_len _ (Cod.isInt_len (n := s.length) (by omega))
        have h2 := Cod.intS_len _ (sum_isInt s hs)
        unfold formL Cod.textS Cod.numS
        rw [if_neg (by omega)]
        simp; omega
      have hzl : (bs (formL s)).size ≤ 20100 := by rw [bs_size]; exact hfl
      clear hl
      by_cases hf : 1048576 < (forms j.L).length + (formL s).length
      · rw [if_pos hf] at hX
        have hf2 : 1048576 < (forms j.L).length + (bs (formL s)).size := by rw [bs_size]; exact hf
        have HX := Lib.hid hX
        clear hX hf
        go_enter Tryz.func15, Tryz.ntmps15
        go_wp2_with (go_at_call 52; refine (form_calls s hs _ hE).mono ?_)
        rintro r w1 ⟨rfl, hb1⟩
        have hk1 := kept_below hb1 rfl
        have hJ1 := hJ.kept hk1 (fun _ h => h.elim) (fun _ h => h)
        have hM1 : Mine S w1 b d := hM.kept hk1 (fun _ h => h.elim)
        have k3 := hJ1.c3
        go_wp2
        go_ret
        rw [HX.out]
        exact ⟨rfl, _, S, hM1, hJ1, fun _ h => h, hk1.mono (fun _ h => h.elim), fun i hi => Or.inl hi⟩
      · rw [if_neg hf] at hX
        have hf2 : ¬ 1048576 < (forms j.L).length + (bs (formL s)).size := by rw [bs_size]; exact hf
        obtain ⟨d1, e1, h1⟩ : ∃ d1 e1, d.write j.file ((forms j.L).length : Nat) (formL s) = (d1, e1) := ⟨_, _, rfl⟩
        rw [h1] at hX
        simp only at hX
        have HX := Lib.hid hX
        have H1 := Lib.hid h1
        clear hX h1 hf
        go_enter Tryz.func15, Tryz.ntmps15
        go_wp2_with (go_at_call 52; refine (form_calls s hs _ hE).mono ?_)
        rintro r w1 ⟨rfl, hb1⟩
        have hk1 := kept_below hb1 rfl
        have hJ1 := hJ.kept hk1 (fun _ h => h.elim) (fun _ h => h)
        have hM1 : Mine S w1 b d := hM.kept hk1 (fun _ h => h.elim)
        clear c0 c1 c2 c3 c4
        have k0 := hJ1.c0
        have k1 := hJ1.c1
        have k3 := hJ1.c3
        go_wp2_with fail
        go_still_tail 13, (by kernel_rfl)
        change wpList _ _ _ _ _ w1.drew
        have hkd : Kept (fun _ => False) w w1.drew := hk1.drew
        have hMd : Mine S w1.drew b d := hM1.kept ((Kept.refl (fun _ => False) w1).drew) (fun _ h => h.elim)
        have hJd : JM B S w1.drew b jb (.slice va vn vc) j := hJ1.kept ((Kept.refl (fun _ => False) w1).drew) (fun _ h => h.elim) (fun _ h => h)
        clear k0 k1 k3 hM1 hJ1 hk1
        generalize w1.drew = V at *
        go_wp2_with (go_at_call 36; refine (m_write hMd j.file _ (formL s) (by omega) (by omega) (by omega)).mono ?_)
        rintro r w2 ⟨rfl, hM2, hK2⟩
        rw [show d.write (j.file : Int) ((forms j.L).length : Int) (formL s) = (d1, e1) from H1.out] at hM2 ⊢
        simp only at hM2 ⊢
        have hJ2 := hJd.kept hK2 hJd.notS (fun _ h => h)
        have hK02 : Kept (fun i => ¬ S i) w w2 := (hkd.mono (fun _ h => h.elim)).trans hK2
        clear hkd
        by_cases he1 : e1 = 0
        · subst he1
          have hX := HX.out
          rw [if_neg (by decide)] at hX
          have HX2 := Lib.hid hX
          clear hX HX
          have k2 := hJ2.c2
          have k3 := hJ2.c3
          have hlen := forms_len j.L
          have hfn : (forms (j.L ++ [s])).length = (forms j.L).length + (bs (formL s)).size := by rw [forms_append, List.length_append, HZ.out]; simp [forms]
          go_wp2_with (at_builtin; refine wpList_append_lies _ rfl _ _ 46 rfl B 9 i0 (.string ⟨#[]⟩) 1 16 Tryz.underlying46 hi hz0 hz1 hz2 rfl (by decide) _ _ _ rfl (hJ2.row.alloc _) ⟨w2.heap.size, 0, none⟩ 1 1 [.string (bs s)] rfl rfl ?c1 ?c2 (by decide) ?c3 ?c4 ?c5 (w2.heap.size + 1) (by simp) ?_)
          case c1 =>
            intro j z hj
            match j, hj with
            | 0, hj => simp at hj; subst hj; simp [Addr.add]
          case c2 => intro z hz; simp at hz; subst hz; rfl
          case c3 => unfold maxLen; omega
          case c4 => omega
          case c5 => have := hJ2.lo; have := hJ2.lt; simp; omega
          intro g cap w3 hown hgrow hlies hlt
          have hrow : TRow B w3 (.slice (some ⟨g, 0, none⟩) (j.L.length + 1) cap) (j.L ++ [s]) := by simpa [TRow] using hown
          have hn : (forms (j.L ++ [s])).length ≤ 16777216 := by omega
          have hP := hJ2.push hgrow hrow hlies hn HB2.out
          have hKP := step_kept (jb := jb) hgrow (.slice (some ⟨g, 0, none⟩) (j.L.length + 1) cap) (.int .i64 ((forms (j.L ++ [s])).length : Int))
          have hMP := hM2.grow hKP (fun i hi => hi.elim (fun e => e ▸ hJ2.own) (hJ2.rown i))
          have hfi : ((forms (j.L ++ [s])).length : Int) = ((forms j.L).length : Int) + ((bs (formL s)).size : Int) := by rw [hfn]; push_cast; rfl
          rw [hfi] at hP hKP hMP
          have hat : w3.heap[jb]? = some (.cells #[.pointer (some ⟨b, 0, none⟩), .int .i64 (j.file : Int), .slice va vn vc, .int .i64 ((forms j.L).length : Int), .bool j.broken] 87 (0, 0)) := by
            have := hJ2.lt
            rw [hgrow.block jb (by simp; omega) hJ2.ne, Lib.alloc_old w2 _ _ this]
            exact hJ2.at_
          have q3 : w3.cell? ⟨jb, 3, none⟩ = some (.int .i64 ((forms j.L).length : Int)) := by rw [Lib.cell_of_heap hat]; rfl
          have f2 : w3.frozen? ⟨jb, 2, none⟩ = false := Lib.frozen_of_heap hat 2
          have f3 : w3.frozen? ⟨jb, 3, none⟩ = false := Lib.frozen_of_heap hat 3
          have q2 : w3.cell? ⟨jb, 2, none⟩ = some (.slice va vn vc) := by rw [Lib.cell_of_heap hat]; rfl
          have F := Lib.hid (show JP S B w b jb (.slice va vn vc) X (.returned (.int .i64 0)) ((w3.setCell ⟨jb, 2, none⟩ (.slice (some ⟨g, 0, none⟩) (j.L.length + 1) cap)).setCell ⟨jb, 3, none⟩ (.int .i64 (((forms j.L).length : Int) + ((bs (formL s)).size : Int)))) by
            rw [HX2.out]
            refine ⟨rfl, _, _, hMP, hP, fun i hi => Or.inl hi, (hK02.mono (fun i hi => Or.inl (Or.inl hi))).trans (hKP.mono (fun i hi => Or.inl (Or.inr hi))), fun i hi => ?_⟩
            have e : i = g := by simpa [Value.ownBlock] using hi
            subst e
            rcases hlies with h | h
            · exact Or.inl h.symm
            · have := hK02.size
              exact Or.inr (by omega))
          clear hMP hP hKP hat hown hrow hgrow
          go_wp2
          go_ret
          exact F.out
        · have he : (e1 != 0) = true := by rw [bne_iff_ne]; exact he1
          have hX := HX.out
          rw [if_pos he1] at hX
          have k4 := hJ2.c4
          have f4 := hJ2.fz 4
          have hM3 : Mine S (w2.setCell ⟨jb, 4, none⟩ (.bool true)) b d1 := hM2.kept ((Kept.refl (fun i => i = jb) w2).setCell (p := ⟨jb, 4, none⟩) (Or.inl rfl) _) (fun i hi => Or.inl (by rw [hi]; exact hJ2.own))
          have hJ3 := hJ2.mark true
          have hK3 : Kept (fun i => ¬ S i ∨ i = jb ∨ some i = (Value.slice va vn vc).ownBlock) w (w2.setCell ⟨jb, 4, none⟩ (.bool true)) :=
            (hK02.mono (T := fun i => ¬ S i ∨ i = jb ∨ some i = (Value.slice va vn vc).ownBlock) (fun i hi => Or.inl (Or.inl hi))).setCell (p := ⟨jb, 4, none⟩) (Or.inl (Or.inr (Or.inl rfl))) (.bool true)
          have F := Lib.hid (show JP S B w b jb (.slice va vn vc) X (.returned (.int .i64 e1)) (w2.setCell ⟨jb, 4, none⟩ (.bool true)) by
            rw [hX]
            exact ⟨rfl, _, S, hM3, hJ3, fun _ h => h, hK3, fun i hi => Or.inl hi⟩)
          clear hX HX he1 hM3 hJ3 hK3
          go_wp2
          go_ret
          exact F.out

end Go.Proofs.YtanecondopbfhaaGreatDoor
