/- Reading minutes. -/
import Derived.Test.YtkfmhibdoapndaaDoorRmp
import Derived.Laws.IdiomCopy
namespace Go.Proofs.YtkfmhibdoapndaaDoor
open Go.RowKit

/-- Numbers survive what a reader does. -/
theorem nums_kept {b : Nat} {r : Cod.Rd} {v : Value} {xs : List Int} {w w' : World} (h : IsNums v xs w) (hR : Cod.Rb b r w) (hg : w.grownBy w' (some b)) : IsNums v xs w' := by
  rcases h with h | ⟨bk, off, cap, hv, hlt, hc⟩
  · exact .inl h
  · by_cases h0 : xs = []
    · subst h0; exact .inl ⟨⟨_, _, hv⟩, rfl⟩
    · have hne : bk ≠ b := by
        rintro rfl
        obtain ⟨x, l, rfl⟩ := List.exists_cons_of_ne_nil h0
        have c := hc 0 x rfl
        unfold Cod.Rb at hR
        rw [Lib.cell_of_heap hR] at c
        match off, c with
        | 0, c => simp at c
        | 1, c => simp at c
        | n + 2, c => simp at c
      exact .inr ⟨bk, off, cap, hv, Nat.lt_of_lt_of_le hlt hg.size, fun i x hx => by
        rw [World.cell?_of_block (a := ⟨bk, off + i, none⟩) (hg.block bk hlt (by simpa using hne))]
        exact hc i x hx⟩
theorem Blk.only {w w' : World} {g : Nat} {t : TypeId} {cs : Array Value} {b : Nat} (h : Blk w g t cs) (hg : w.grownBy w' (some b)) (hne : g ≠ b) : Blk w' g t cs :=
  (hg.block g h.lt (by simpa using hne)).trans h
theorem below_only {w w' W : World} {b : Nat} (h : Below w.heap.size w W) (hg : W.grownBy w' (some b)) (hb : w.heap.size ≤ b) : Below w.heap.size w w' :=
  h.trans ⟨hg.os, hg.tape, hg.output, hg.size, fun i hi => hg.block i (Nat.lt_of_lt_of_le hi h.size) (by simp; omega)⟩
theorem infoInt : (Tryd.prog.info? 3).map (·.size) = some 1 := by kernel_rfl
theorem only_setCells {a : World} {g : Nat} : ∀ (vs : List Value) (o : Nat) (w : World), a.grownBy w (some g) → a.grownBy (w.setCells g o vs) (some g)
  | [], _, _, h => h
  | v :: vs, o, _, h => only_setCells vs (o + 1) _ (Cod.only_setCell h (p := ⟨g, o, none⟩) (.inl rfl) v)
theorem run_copy3 {w : World} {L : Nat} {xv : Value} {Z : List Int} {ty : TypeId} (hB : Blk w L 3 #[.int .i64 0, .int .i64 0, .int .i64 0]) (hx : IsNums xv Z w) :
    ∃ n w', (Builtin.copy_ #[23, 23] ty #[.slice (some ⟨L, 0, none⟩) 3 3, xv]).run Tryd.prog w = .ok (goInt n) w' ∧ Blk w' L 3 #[.int .i64 (Z.getD 0 0), .int .i64 (Z.getD 1 0), .int .i64 (Z.getD 2 0)] ∧ w.grownBy w' (some L) := by
  rcases hx with ⟨⟨a, c, rfl⟩, rfl⟩ | ⟨bk, off, cap, rfl, hlt, hc⟩
  · exact ⟨0, w, run_copy_none (P := Tryd.prog) w _ _ ty 3 (some ⟨L, 0, none⟩) a 3 3 0 c Tryd.underlying23 infoInt (by rfl), hB, ⟨rfl, rfl, rfl, Nat.le_refl _, fun _ _ _ => rfl⟩⟩
  · have hr := run_copy_cells (P := Tryd.prog) w 23 23 ty 3 L 0 3 3 ⟨bk, off, none⟩ Z.length cap ((Z.take 3).map (Value.int .i64)) Tryd.underlying23 infoInt
      (by rw [List.length_map, List.length_take]; show min 3 Z.length = min Z.length 3; omega)
      (fun j u hj => by
        rw [List.getElem?_map] at hj
        cases hy : (Z.take 3)[j]? with
        | none => rw [hy] at hj; cases hj
        | some y =>
          rw [hy] at hj
          obtain rfl := Option.some.inj hj
          have hj3 : j < (Z.take 3).length := (List.getElem?_eq_some_iff.1 hy).1
          rw [List.length_take] at hj3
          rw [List.getElem?_take_of_lt (by omega)] at hy
          have e := hc j y hy
          rw [Go.WideShapes.add_plain]
          exact e)
      (fun j hj => by
        have hj3 : j < 3 := by rw [List.length_map, List.length_take] at hj; omega
        rw [Nat.zero_add, hB.cell]
        match j, hj3 with
        | 0, _ => rfl
        | 1, _ => rfl
        | 2, _ => rfl)
      (fun j _ => hB.frozen _) (fun u hu => by obtain ⟨y, _, rfl⟩ := List.mem_map.1 hu; rfl)
    refine ⟨_, _, hr, ?_, ?_⟩
    · clear hr hc
      rcases Z with _ | ⟨a, _ | ⟨b, _ | ⟨c, l⟩⟩⟩
      · exact hB
      · have := hB.set_ 0 (.int .i64 a)
        simpa [World.setCells] using this
      · have := (hB.set_ 0 (.int .i64 a)).set_ 1 (.int .i64 b)
        simpa [World.setCells] using this
      · have := ((hB.set_ 0 (.int .i64 a)).set_ 1 (.int .i64 b)).set_ 2 (.int .i64 c)
        simpa [World.setCells] using this
    · exact only_setCells _ _ _ (Cod.only_refl _ _)
/-- At the list of a plain region's operations. -/
theorem wpList_copy3 {ops : Array Oper} {rest : List Oper} {o : Oper} {a : Act} {Q : Exit → Act → World → Prop} {w : World} (hg : o.guard = none) (s x : Operand)
    (ho : o.op = .call { callee := .builtin .copy, args := #[s, x], argTypes := #[23, 23] })
    {L : Nat} {xv : Value} {Z : List Int} (hs : a.eval s = .slice (some ⟨L, 0, none⟩) 3 3) (hx : a.eval x = xv) (hB : Blk w L 3 #[.int .i64 0, .int .i64 0, .int .i64 0]) (hxr : IsNums xv Z w)
    (h : ∀ n w', Blk w' L 3 #[.int .i64 (Z.getD 0 0), .int .i64 (Z.getD 1 0), .int .i64 (Z.getD 2 0)] → w.grownBy w' (some L) → wpList Tryd.prog ops Q rest (a.put o.dst (goInt n)) w') :
    wpList Tryd.prog ops Q (o :: rest) a w := by
  refine wpList_plain hg fun K hK => ?_
  obtain ⟨n, w', hr, h2, h3⟩ := run_copy3 (ty := o.type) hB hxr
  unfold Oper.wp execOp
  simp only [ho, resolve, invoke, builtin, Sem.run_bind, Sem.run_pure, Result.andThen_ok, List.map_toArray, List.map_cons, List.map_nil, hs, hx, hr]
  exact hK _ _ (h n w' h2 h3)

/-! ### the opening that is read -/
def rmF (s : List UInt8) : OpD :=
  ⟨(Cod.numsF (s, false)).1.getD 0 0, (Cod.numsF (s, false)).1.getD 1 0, (Cod.numsF (s, false)).1.getD 2 0, (Cod.textF (Cod.numsF (s, false)).2).1,
    (Cod.numsF (Cod.textF (Cod.numsF (s, false)).2).2).1, (Cod.intF (Cod.numsF (Cod.textF (Cod.numsF (s, false)).2).2).2).1⟩
def rmB (s : List UInt8) : Bool := decide ((rmF s).min = s)
def OpD.zero : OpD := ⟨0, 0, 0, [], [], 0⟩
/-- What is read of a text. -/
def rmO (s : List UInt8) : OpD := if rmB s = true then rmF s else OpD.zero
/-- Numbers that lie in another block than the one that is written. -/
theorem nums_far {b : Nat} {v : Value} {xs : List Int} {w : World} (h : IsNums v xs w) (hn : ∀ g, v.ownBlock = some g → g ≠ b) (o : Nat) (u : Value) : IsNums v xs (w.setCell ⟨b, o, none⟩ u) := by
  rcases h with h | ⟨bk, off, cap, hv, hlt, hc⟩
  · exact .inl h
  · have hne : bk ≠ b := hn bk (by rw [hv]; rfl)
    refine .inr ⟨bk, off, cap, hv, by simpa [World.setCell] using hlt, fun i x hx => ?_⟩
    rw [World.cell?_setCell_other _ _ _ _ (fun e => hne (congrArg Addr.block e).symm)]
    exact hc i x hx
theorem nums_own {v : Value} {xs : List Int} {w : World} (h : IsNums v xs w) (h0 : xs ≠ []) : ∀ g, v.ownBlock = some g → g < w.heap.size := by
  intro g hg
  rcases h with ⟨_, h⟩ | ⟨bk, off, cap, rfl, hlt, hc⟩
  · exact absurd h h0
  · simp only [Value.ownBlock] at hg
    have := Option.some.inj hg
    omega
abbrev six (w : World) (b : Nat) (v0 v1 v2 v3 v4 v5 : Value) : World := (((((w.setCell ⟨b, 0, none⟩ v0).setCell ⟨b, 1, none⟩ v1).setCell ⟨b, 2, none⟩ v2).setCell ⟨b, 3, none⟩ v3).setCell ⟨b, 4, none⟩ v4).setCell ⟨b, 5, none⟩ v5
theorem six_blk {w : World} {b : Nat} {t : TypeId} {x0 x1 x2 x3 x4 x5 : Value} (h : Blk w b t #[x0, x1, x2, x3, x4, x5]) (v0 v1 v2 v3 v4 v5 : Value) : Blk (six w b v0 v1 v2 v3 v4 v5) b t #[v0, v1, v2, v3, v4, v5] := by
  have := (((((h.set_ 0 v0).set_ 1 v1).set_ 2 v2).set_ 3 v3).set_ 4 v4).set_ 5 v5
  simpa [six] using this
theorem six_far {w : World} {b b' : Nat} {t : TypeId} {cs : Array Value} (h : Blk w b' t cs) (hne : b' ≠ b) (v0 v1 v2 v3 v4 v5 : Value) : Blk (six w b v0 v1 v2 v3 v4 v5) b' t cs :=
  (((((h.far (p := ⟨b, 0, none⟩) hne v0).far (p := ⟨b, 1, none⟩) hne v1).far (p := ⟨b, 2, none⟩) hne v2).far (p := ⟨b, 3, none⟩) hne v3).far (p := ⟨b, 4, none⟩) hne v4).far (p := ⟨b, 5, none⟩) hne v5
theorem six_below {a w : World} {B b : Nat} (h : Below B a w) (hb : B ≤ b) (v0 v1 v2 v3 v4 v5 : Value) : Below B a (six w b v0 v1 v2 v3 v4 v5) :=
  (((((h.setCell (p := ⟨b, 0, none⟩) hb v0).setCell (p := ⟨b, 1, none⟩) hb v1).setCell (p := ⟨b, 2, none⟩) hb v2).setCell (p := ⟨b, 3, none⟩) hb v3).setCell (p := ⟨b, 4, none⟩) hb v4).setCell (p := ⟨b, 5, none⟩) hb v5
theorem six_nums {b : Nat} {v : Value} {xs : List Int} {w : World} (h : IsNums v xs w) (hn : ∀ g, v.ownBlock = some g → g ≠ b) (v0 v1 v2 v3 v4 v5 : Value) : IsNums v xs (six w b v0 v1 v2 v3 v4 v5) :=
  nums_far (nums_far (nums_far (nums_far (nums_far (nums_far h hn _ _) hn _ _) hn _ _) hn _ _) hn _ _) hn _ _
theorem six_nil {b : Nat} {v : Value} {w : World} (h : IsNums v [] w) (v0 v1 v2 v3 v4 v5 : Value) : IsNums v [] (six w b v0 v1 v2 v3 v4 v5) := by
  rcases h with h | ⟨bk, off, cap, hv, _⟩
  · exact .inl h
  · exact .inl ⟨⟨_, _, hv⟩, rfl⟩
theorem only_set6 {a w : World} {g b : Nat} {v0 v1 v2 v3 v4 v5 : Value} (h : a.grownBy w (some g)) (hb : a.heap.size ≤ b) : a.grownBy ((((((w.setCell ⟨b, 0, none⟩ v0).setCell ⟨b, 1, none⟩ v1).setCell ⟨b, 2, none⟩ v2).setCell ⟨b, 3, none⟩ v3).setCell ⟨b, 4, none⟩ v4).setCell ⟨b, 5, none⟩ v5) (some g) :=
  Cod.only_setCell (Cod.only_setCell (Cod.only_setCell (Cod.only_setCell (Cod.only_setCell (Cod.only_setCell h (.inr hb) _) (.inr hb) _) (.inr hb) _) (.inr hb) _) (.inr hb) _) (.inr hb) _
set_option maxRecDepth 100000 in
set_option maxHeartbeats 4000000 in
theorem readmin_calls (s : List UInt8) (hs : s.length ≤ 100000000) (w : World) (hE : Cod.Env w) :
    Calls Tryd.prog 11 #[.string (bs s)] w fun e w' => ∃ v, e = .returned (.tuple #[(rmO s).val v, .bool (rmB s)]) ∧ IsNums v (rmO s).jurors w' ∧ Below w.heap.size w w' := by
  obtain ⟨Z, q1, hq1⟩ : ∃ Z q, Cod.numsF (s, false) = (Z, q) := ⟨_, _, rfl⟩
  obtain ⟨T, q2, hq2⟩ : ∃ T q, Cod.textF q1 = (T, q) := ⟨_, _, rfl⟩
  obtain ⟨J, q3, hq3⟩ : ∃ J q, Cod.numsF q2 = (J, q) := ⟨_, _, rfl⟩
  obtain ⟨H, q4, hq4⟩ : ∃ H q, Cod.intF q3 = (H, q) := ⟨_, _, rfl⟩
  have hF : rmF s = ⟨Z.getD 0 0, Z.getD 1 0, Z.getD 2 0, T, J, H⟩ := by unfold rmF; rw [hq1]; simp only; rw [hq2]; simp only; rw [hq3]; simp only; rw [hq4]
  have o1 : Cod.okRd q1 := by have := Cod.numsF_ok (s, false) (Cod.okRd_fresh s); rw [hq1] at this; exact this
  have o2 : Cod.okRd q2 := by have := Cod.textF_ok o1; rw [hq2] at this; exact this
  have l1 : q1.1.length ≤ s.length := by have := Cod.numsF_len (s, false); rw [hq1] at this; exact this
  have l2 : q2.1.length ≤ s.length := by have := Cod.textF_len q1; rw [hq2] at this; simp only at this; omega
  have l3 : q3.1.length ≤ s.length := by have := Cod.numsF_len q2; rw [hq3] at this; simp only at this; omega
  have hok : OpD.ok ⟨Z.getD 0 0, Z.getD 1 0, Z.getD 2 0, T, J, H⟩ := by
    have hZ := Cod.numsF_ints (s, false)
    rw [hq1] at hZ
    have hg : ∀ i, isInt (Z.getD i 0) := fun i => by
      rw [List.getD_eq_getElem?_getD]
      cases h : Z[i]? with
      | none => unfold isInt; simp
      | some x => exact hZ x (List.mem_of_getElem? h)
    refine ⟨hg 0, hg 1, hg 2, ?_, ?_, ?_, ?_, ?_⟩
    · have := Cod.intF_int q3; rw [hq4] at this; exact this
    · have := Cod.textF_many q1; rw [hq2] at this; simp only at this ⊢; omega
    · have := Cod.numsF_many q2; rw [hq3] at this; simp only at this ⊢; omega
    · have := Cod.numsF_ints q2; rw [hq3] at this; exact this
    · have := Cod.numsF_enc q2; rw [hq3] at this; simp only at this ⊢; omega
  have B1 := Blk.new w 37 #[.int .i64 0, .int .i64 0, .int .i64 0, .string ⟨#[]⟩, .slice none 0 0, .int .i64 0]
  have hb1 := below_one w (.cells #[.int .i64 0, .int .i64 0, .int .i64 0, .string ⟨#[]⟩, .slice none 0 0, .int .i64 0] 37)
  have hs1 := Lib.hid (alloc_size w (.cells #[.int .i64 0, .int .i64 0, .int .i64 0, .string ⟨#[]⟩, .slice none 0 0, .int .i64 0] 37))
  have c1 := Lib.hid (Cod.open_reader s (w.alloc (.cells #[.int .i64 0, .int .i64 0, .int .i64 0, .string ⟨#[]⟩, .slice none 0 0, .int .i64 0] 37)))
  rw [hs1.out] at c1
  have HE := Lib.hid hE
  have hlo : 6 ≤ w.heap.size := hE.lo
  have HOK := Lib.hid hok
  have HF := Lib.hid hF
  have HQ1 := Lib.hid hq1
  have HQ2 := Lib.hid hq2
  have HQ3 := Lib.hid hq3
  have HQ4 := Lib.hid hq4
  have HO := Lib.hid (And.intro o1 o2)
  clear hq1 hq2 hq3 hq4 hok hF hE o1 o2
  go_enter Tryd.func11, Tryd.ntmps11
  go_wp2_with fail
  generalize w.alloc (.cells #[.int .i64 0, .int .i64 0, .int .i64 0, .string ⟨#[]⟩, .slice none 0 0, .int .i64 0] 37) = W1 at *
  refine c1.out.mono ?_
  clear c1
  rintro e w2 ⟨rfl, hR2, hb2', hgt2⟩
  rw [← hs1.out] at hb2'
  have hb2 := hb1.trans (hb2'.mono hb1.size)
  have B2 := B1.next hb2'
  clear B1 hb1 hb2' hs1
  have hmk : ∀ w, Sem.run Tryd.prog (Instr.makeSlice 23 (.int .i64 3) (.int .i64 3)) w = .ok (.slice (some ⟨w.heap.size, 0, none⟩) 3 3) (w.alloc (.cells #[.int .i64 0, .int .i64 0, .int .i64 0] 3)) := fun w => by
    have h := run_make_row' (P := Tryd.prog) 23 3 (.int .i64 0) 8 Tryd.underlying23 infoNum rfl .i64 .i64 3 (by omega) (by omega) w
    rw [show madeCells #[Value.int .i64 0] 3 = #[.int .i64 0, .int .i64 0, .int .i64 0] by kernel_rfl] at h
    exact h
  have B3 := Blk.new w2 3 #[.int .i64 0, .int .i64 0, .int .i64 0]
  have hb3' := below_one w2 (.cells #[.int .i64 0, .int .i64 0, .int .i64 0] 3)
  have hb3 := hb2.trans (hb3'.mono hb2.size)
  have C3 := B2.next hb3'
  have hR3 := Cod.Rb.next hR2 hb3'
  have c3 := Lib.hid (Cod.rd_Nums (w.heap.size + 1) (s, false) _ (HE.out.next hb3) hR3 (by simp only; omega) (Cod.okRd_fresh s) (by omega))
  rw [HQ1.out] at c3
  clear B2 hb2 hb3' hR2 hR3
  go_wp2_with fail
  generalize w2.alloc (.cells #[.int .i64 0, .int .i64 0, .int .i64 0] 3) = W3 at *
  refine c3.out.mono ?_
  clear c3
  rintro e w4 ⟨v, rfl, ⟨hI4, -⟩, hR4, hg4⟩
  have hne : w2.heap.size ≠ w.heap.size + 1 := by omega
  have B4 := B3.only hg4 hne
  have C4 := C3.only hg4 (by omega)
  have hb4 := below_only hb3 hg4 (by omega)
  have HI4 := Lib.hid hI4
  obtain ⟨az, cz, rfl⟩ := IsNums.len hI4
  clear B3 C3 hb3 hg4 hI4
  obtain ⟨n5, w5, hr5, B5, hg5⟩ := run_copy3 (ty := 3) B4 HI4.out
  have HR5 := Lib.hid hr5
  clear hr5
  go_wp2_with fail
  rw [HR5.out]
  clear HR5
  have C5 := C4.only hg5 (by omega)
  have hb5 := below_only hb4 hg5 (by omega)
  have hR5 : Cod.Rb (w.heap.size + 1) q1 w5 := (hg5.block _ hR4.lt (by simpa using hne.symm)).trans hR4
  clear B4 C4 hb4 hg5 hR4
  generalize Z.getD 0 0 = z0 at *
  generalize Z.getD 1 0 = z1 at *
  generalize Z.getD 2 0 = z2 at *
  go_wp2_with fail
  clear hmk HI4
  have hgt : w.heap.size + 1 < w2.heap.size := hgt2
  generalize w2.heap.size = L at *
  have HEN : Hid (∀ w', w5.grownBy w' (some (w.heap.size + 1)) → Cod.Env w' ∧ Below w.heap.size w w') := by
    show ∀ w', _
    intro w' h
    have := below_only hb5 h (by omega)
    exact ⟨HE.out.next this, this⟩
  have j1 : Hid (∀ (args' : Array Value) (w' : World), args' = #[.pointer (some ⟨w.heap.size + 1, 0, none⟩)] → Cod.Rb (w.heap.size + 1) q1 w' → w5.grownBy w' (some (w.heap.size + 1)) → Calls Tryd.prog 25 args' w' fun e w'' => e = .returned (.string (bs T)) ∧ Cod.Rb (w.heap.size + 1) q2 w'' ∧ w5.grownBy w'' (some (w.heap.size + 1)) ∧ ∀ g t cs, Blk w' g t cs → g ≠ w.heap.size + 1 → Blk w'' g t cs) := by
    show ∀ args' w', _
    intro args' w' he hR hg
    subst he
    have := Cod.rd_text (w.heap.size + 1) q1 w' (HEN.out w' hg).1 hR (by omega)
    rw [HQ2.out] at this
    exact this.mono fun _ _ ⟨a, b, c⟩ => ⟨a, b, Cod.only_trans hg c, fun _ _ _ h hn => h.only c hn⟩
  have j2 : Hid (∀ (args' : Array Value) (w' : World), args' = #[.pointer (some ⟨w.heap.size + 1, 0, none⟩)] → Cod.Rb (w.heap.size + 1) q2 w' → w5.grownBy w' (some (w.heap.size + 1)) → Calls Tryd.prog 24 args' w' fun e w'' => ∃ a c, e = .returned (.slice a J.length c) ∧ IsNums (.slice a J.length c) J w'' ∧ (∀ g, (Value.slice a J.length c).ownBlock = some g → w'.heap.size ≤ g) ∧ Cod.Rb (w.heap.size + 1) q3 w'' ∧ w5.grownBy w'' (some (w.heap.size + 1)) ∧ ∀ g t cs, Blk w' g t cs → g ≠ w.heap.size + 1 → Blk w'' g t cs) := by
    show ∀ args' w', _
    intro args' w' he hR hg
    subst he
    have := Cod.rd_Nums (w.heap.size + 1) q2 w' (HEN.out w' hg).1 hR (by omega) HO.out.2 (by omega)
    rw [HQ3.out] at this
    refine this.mono ?_
    rintro e w'' ⟨v, h1, ⟨h2, h5⟩, h3, h4⟩
    obtain ⟨a, c, rfl⟩ := IsNums.len h2
    exact ⟨a, c, h1, h2, fun g hg => h5 g hg, h3, Cod.only_trans hg h4, fun _ _ _ h hn => h.only h4 hn⟩
  have j3 : Hid (∀ (args' : Array Value) (w' : World) (v : Value), args' = #[.pointer (some ⟨w.heap.size + 1, 0, none⟩)] → Cod.Rb (w.heap.size + 1) q3 w' → w5.grownBy w' (some (w.heap.size + 1)) → IsNums v J w' → Calls Tryd.prog 26 args' w' fun e w'' => e = .returned (.int .i64 H) ∧ IsNums v J w'' ∧ w5.grownBy w'' (some (w.heap.size + 1)) ∧ ∀ g t cs, Blk w' g t cs → g ≠ w.heap.size + 1 → Blk w'' g t cs) := by
    show ∀ args' w' v, _
    intro args' w' v he hR hg hv
    subst he
    have := Cod.rd_Int (w.heap.size + 1) q3 w' (HEN.out w' hg).1 hR (by omega)
    rw [HQ4.out] at this
    exact this.mono fun _ _ ⟨a, b, c⟩ => ⟨a, nums_kept hv hR c, Cod.only_trans hg c, fun _ _ _ h hn => h.only c hn⟩
  have HBN : Hid (Blk (w5.drew.alloc (.cells #[.int .i64 0, .int .i64 0, .int .i64 0, .string ⟨#[]⟩, .slice none 0 0, .int .i64 0] 37)) w5.heap.size 37 #[.int .i64 0, .int .i64 0, .int .i64 0, .string ⟨#[]⟩, .slice none 0 0, .int .i64 0]) := Blk.new w5.drew _ _
  have HRN : Hid (Cod.Rb (w.heap.size + 1) q1 (w5.drew.alloc (.cells #[.int .i64 0, .int .i64 0, .int .i64 0, .string ⟨#[]⟩, .slice none 0 0, .int .i64 0] 37))) := Cod.Rb.next hR5 ((below_drewN (Below.refl w5.heap.size w5) 1).alloc (Nat.le_refl _) _)
  have HRD : Hid (Cod.Rb (w.heap.size + 1) q1 w5.drew) := hR5
  have HGN : Hid (w5.grownBy (w5.drew.alloc (.cells #[.int .i64 0, .int .i64 0, .int .i64 0, .string ⟨#[]⟩, .slice none 0 0, .int .i64 0] 37)) (some (w.heap.size + 1))) := Cod.only_alloc (Cod.only_drew (Cod.only_refl _ _)) _
  have HGD : Hid (w5.grownBy w5.drew (some (w.heap.size + 1))) := Cod.only_drew (Cod.only_refl _ _)
  have HK : Hid (∀ w', w5.grownBy w' (some (w.heap.size + 1)) → w'.cell? ⟨L, 0, none⟩ = some (.int .i64 z0) ∧ w'.cell? ⟨L, 1, none⟩ = some (.int .i64 z1) ∧ w'.cell? ⟨L, 2, none⟩ = some (.int .i64 z2) ∧ w5.grownBy w' (some (w.heap.size + 1))) := by
    show ∀ w', _
    intro w' h
    have := B5.only h hne
    exact ⟨this.cell 0, this.cell 1, this.cell 2, h⟩
  have HR5 := Lib.hid hR5
  have HC5 := Lib.hid C5
  have HB5 := Lib.hid hb5
  have HS5 : Hid (w.heap.size + 1 < w5.heap.size) := hR5.lt
  clear B5 C5 hR5 hb5
  -- REGION
  go_cut [6] from 14 to 30 (fun p wr => ∃ b a c, p = .pointer (some ⟨b, 0, none⟩) ∧ Blk wr b 37 #[.int .i64 z0, .int .i64 z1, .int .i64 z2, .string (bs T), .slice a J.length c, .int .i64 H] ∧ IsNums (.slice a J.length c) J wr ∧ Blk wr w.heap.size 37 #[.int .i64 0, .int .i64 0, .int .i64 0, .string ⟨#[]⟩, .slice none 0 0, .int .i64 0] ∧ Below w.heap.size w wr ∧ w.heap.size < b ∧ ∀ g, (Value.slice a J.length c).ownBlock = some g → w.heap.size < g)
  case first =>
    refine wp_region_held_drew (S := fun w' => w'.cell? ⟨L, 0, none⟩ = some (.int .i64 z0) ∧ w'.cell? ⟨L, 1, none⟩ = some (.int .i64 z1) ∧ w'.cell? ⟨L, 2, none⟩ = some (.int .i64 z2) ∧ w5.grownBy w' (some (w.heap.size + 1))) (by kernel_rfl) (HK.out _ HGD.out) (fun hS => ?_)
    refine wpAnyH_take (i := 0) (v := .slice (some ⟨L, 0, none⟩) 3 3) rfl (by kernel_rfl) (by kernel_rfl) (by kernel_rfl) (fun _ _ _ h => h) (Or.inl ⟨rfl, fun W _ => by kernel_rfl⟩) hS ?_
    refine wpAnyH_take (i := 1) (v := .pointer (some ⟨L, 0, none⟩)) rfl (by kernel_rfl) (by kernel_rfl) (by kernel_rfl) (fun _ _ _ h => h) (Or.inl ⟨rfl, fun W _ => by kernel_rfl⟩) hS ?_
    refine wpAnyH_take (i := 2) (v := .int .i64 z0) rfl (by kernel_rfl) (by kernel_rfl) (by kernel_rfl) (fun _ _ _ h => h) (Or.inl ⟨rfl, fun W hW => (by obtain ⟨z0, z1, z2, -⟩ := hW; show (execOp _ _).run _ _ = _; go_simp)⟩) hS ?_
    refine wpAnyH_take (i := 3) (v := .slice (some ⟨L, 0, none⟩) 3 3) rfl (by kernel_rfl) (by kernel_rfl) (by kernel_rfl) (fun _ _ _ h => h) (Or.inl ⟨rfl, fun W _ => by kernel_rfl⟩) hS ?_
    refine wpAnyH_take (i := 4) (v := .pointer (some ⟨L, 1, none⟩)) rfl (by kernel_rfl) (by kernel_rfl) (by kernel_rfl) (fun _ _ _ h => h) (Or.inl ⟨rfl, fun W _ => by kernel_rfl⟩) hS ?_
    refine wpAnyH_take (i := 5) (v := .int .i64 z1) rfl (by kernel_rfl) (by kernel_rfl) (by kernel_rfl) (fun _ _ _ h => h) (Or.inl ⟨rfl, fun W hW => (by obtain ⟨z0, z1, z2, -⟩ := hW; show (execOp _ _).run _ _ = _; go_simp)⟩) hS ?_
    refine wpAnyH_take (i := 6) (v := .slice (some ⟨L, 0, none⟩) 3 3) rfl (by kernel_rfl) (by kernel_rfl) (by kernel_rfl) (fun _ _ _ h => h) (Or.inl ⟨rfl, fun W _ => by kernel_rfl⟩) hS ?_
    refine wpAnyH_take (i := 7) (v := .pointer (some ⟨L, 2, none⟩)) rfl (by kernel_rfl) (by kernel_rfl) (by kernel_rfl) (fun _ _ _ h => h) (Or.inl ⟨rfl, fun W _ => by kernel_rfl⟩) hS ?_
    refine wpAnyH_take (i := 8) (v := .int .i64 z2) rfl (by kernel_rfl) (by kernel_rfl) (by kernel_rfl) (fun _ _ _ h => h) (Or.inl ⟨rfl, fun W hW => (by obtain ⟨z0, z1, z2, -⟩ := hW; show (execOp _ _).run _ _ = _; go_simp)⟩) hS ?_
    refine wpAnyH_take (i := 9) (v := .pointer (some ⟨w.heap.size + 1, 0, none⟩)) rfl (by kernel_rfl) (by kernel_rfl) (by kernel_rfl) (fun _ _ _ h => h) (Or.inl ⟨rfl, fun W _ => by kernel_rfl⟩) hS ?_
    refine wpAnyH_take (i := 11) (v := .pointer (some ⟨w.heap.size + 1, 0, none⟩)) rfl (by kernel_rfl) (by kernel_rfl) (by kernel_rfl) (fun _ _ _ h => h) (Or.inl ⟨rfl, fun W _ => by kernel_rfl⟩) hS ?_
    refine wpAnyH_take (i := 13) (v := .pointer (some ⟨w.heap.size + 1, 0, none⟩)) rfl (by kernel_rfl) (by kernel_rfl) (by kernel_rfl) (fun _ _ _ h => h) (Or.inl ⟨rfl, fun W _ => by kernel_rfl⟩) hS ?_
    refine wpAnyH_ready (rs := [10, 16]) (by kernel_rfl) (by simp) ?_
    refine AllReadyH.cons rfl (fun K hK => ?_) ?_
    · go_simp
      refine Calls.mono (j1.out _ _ rfl HRD.out HGD.out) ?_
      rintro e w6 ⟨rfl, hR6, hg6, hc6⟩
      refine hK _ _ (HK.out _ hg6) (fun hS6 => ?_)
      clear hK K hS
      have hS := hS6
      clear hS6
      refine wpAnyH_ready (rs := [12, 16]) (by kernel_rfl) (by simp) ?_
      refine AllReadyH.cons rfl (fun K hK => ?_) ?_
      · go_simp
        refine Calls.mono (j2.out _ _ rfl hR6 hg6) ?_
        rintro e w7 ⟨a7, c7, rfl, hN7, hF7, hR7, hg7, hc7⟩
        refine hK _ _ (HK.out _ hg7) (fun hS7 => ?_)
        clear hK K hS
        have hS := hS7
        clear hS7
        have hF7' : ∀ g, (Value.slice a7 J.length c7).ownBlock = some g → w.heap.size < g := fun g hg => by have := hF7 g hg; have := HS5.out; have := hg6.size; omega
        refine wpAnyH_ready (rs := [14, 16]) (by kernel_rfl) (by simp) ?_
        refine AllReadyH.cons rfl (fun K hK => ?_) ?_
        · go_simp
          refine Calls.mono (j3.out _ _ (.slice a7 J.length c7) rfl hR7 hg7 hN7) ?_
          rintro e w8 ⟨rfl, hN8, hg8, hc8⟩
          refine hK _ _ (HK.out _ hg8) (fun hS8 => ?_)
          clear hK K hS
          have hS := hS8
          clear hS8
          refine wpAnyH_take (i := 15) (v := .agg #[.int .i64 z0, .int .i64 z1, .int .i64 z2, .string (bs T), .slice a7 J.length c7, .int .i64 H]) rfl (by kernel_rfl) (by kernel_rfl) (by kernel_rfl) (fun _ _ _ h => h) (Or.inl ⟨rfl, fun W _ => by kernel_rfl⟩) hS ?_
          refine wpAnyH_ready (rs := [16]) (by kernel_rfl) (by simp) ?_
          refine AllReadyH.cons rfl (fun K hK => ?_) AllReadyH.nil
          go_simp
          refine hK _ _ (HK.out _ (Cod.only_alloc hg8 _)) (fun hSa => ?_)
          clear hK K hS
          have hS := hSa
          clear hSa
          have D8 := Blk.new w8 37 #[.int .i64 0, .int .i64 0, .int .i64 0, .string ⟨#[]⟩, .slice none 0 0, .int .i64 0]
          refine wpAnyH_ready (rs := [17]) (by kernel_rfl) (by simp) ?_
          refine AllReadyH.cons rfl (fun K hK => ?_) AllReadyH.nil
          have d0 := D8.cell 0
          have d1 := D8.cell 1
          have d2 := D8.cell 2
          have d3 := D8.cell 3
          have d4 := D8.cell 4
          have d5 := D8.cell 5
          have df := D8.frozen
          have hc8' := HC5.out.only hg8 (by omega)
          have hb8' := below_only HB5.out hg8 (by omega)
          have hFIN := And.intro (Blk.new w8 37 #[.int .i64 z0, .int .i64 z1, .int .i64 z2, .string (bs T), .slice a7 J.length c7, .int .i64 H]) (And.intro (hN8.next (below_one w8 (.cells #[.int .i64 z0, .int .i64 z1, .int .i64 z2, .string (bs T), .slice a7 J.length c7, .int .i64 H] 37))) (And.intro (hc8'.next (below_one w8 (.cells #[.int .i64 z0, .int .i64 z1, .int .i64 z2, .string (bs T), .slice a7 J.length c7, .int .i64 H] 37))) (Below.alloc_ hb8' (.cells #[.int .i64 z0, .int .i64 z1, .int .i64 z2, .string (bs T), .slice a7 J.length c7, .int .i64 H] 37))))
          have HFIN := Lib.hid hFIN
          have HLT := Lib.hid (show w.heap.size < w8.heap.size from (by have := HS5.out; have := hg6.size; have := hg7.size; have := hg8.size; omega))
          clear hFIN hc8' hb8'
          go_simp
          refine hK _ _ (HK.out _ (Cod.only_alloc hg8 _)) (fun _ => ?_)
          clear hK K hS d0 d1 d2 d3 d4 d5 df D8
          refine wpAnyH_done (by kernel_rfl) ?_ _
          go_wp2_with fail
          go_meet
          exact ⟨_, a7, c7, rfl, HFIN.out.1, HFIN.out.2.1, HFIN.out.2.2.1, HFIN.out.2.2.2, HLT.out, hF7'⟩
        refine AllReadyH.cons rfl (fun K hK => ?_) AllReadyH.nil
        go_simp
        refine hK _ _ (HK.out _ (Cod.only_alloc hg7 _)) (fun hSa => ?_)
        clear hK K hS
        have hS := hSa
        clear hSa
        refine wpAnyH_ready (rs := [14]) (by kernel_rfl) (by simp) ?_
        refine AllReadyH.cons rfl (fun K hK => ?_) AllReadyH.nil
        go_simp
        refine Calls.mono (j3.out _ _ (.slice a7 J.length c7) rfl (Cod.Rb.next hR7 (below_one _ _)) (Cod.only_alloc hg7 _) (hN7.next (below_one _ _))) ?_
        rintro e w8 ⟨rfl, hN8, hg8, hc8⟩
        refine hK _ _ (HK.out _ hg8) (fun hS8 => ?_)
        clear hK K hS
        have hS := hS8
        clear hS8
        have D8 := hc8 w7.heap.size 37 #[.int .i64 0, .int .i64 0, .int .i64 0, .string ⟨#[]⟩, .slice none 0 0, .int .i64 0] (Blk.new w7 _ _) (by have := HS5.out; have := hg6.size; have := hg7.size; omega)
        refine wpAnyH_take (i := 15) (v := .agg #[.int .i64 z0, .int .i64 z1, .int .i64 z2, .string (bs T), .slice a7 J.length c7, .int .i64 H]) rfl (by kernel_rfl) (by kernel_rfl) (by kernel_rfl) (fun _ _ _ h => h) (Or.inl ⟨rfl, fun W _ => by kernel_rfl⟩) hS ?_
        refine wpAnyH_ready (rs := [17]) (by kernel_rfl) (by simp) ?_
        refine AllReadyH.cons rfl (fun K hK => ?_) AllReadyH.nil
        have d0 := D8.cell 0
        have d1 := D8.cell 1
        have d2 := D8.cell 2
        have d3 := D8.cell 3
        have d4 := D8.cell 4
        have d5 := D8.cell 5
        have df := D8.frozen
        have hc8' := HC5.out.only hg8 (by omega)
        have hb8' := below_only HB5.out hg8 (by omega)
        have hNB : IsNums (.slice a7 J.length c7) J (six w8 (w7.heap.size) (.int .i64 z0) (.int .i64 z1) (.int .i64 z2) (.string (bs T)) (.slice a7 J.length c7) (.int .i64 H)) := by
          by_cases h0 : J = []
          · subst h0; exact six_nil hN8 _ _ _ _ _ _
          · exact six_nums hN8 (fun g hg => by have := nums_own hN7 h0 g hg; omega) _ _ _ _ _ _
        have hFIN := And.intro (six_blk D8 (.int .i64 z0) (.int .i64 z1) (.int .i64 z2) (.string (bs T)) (.slice a7 J.length c7) (.int .i64 H)) (And.intro hNB (And.intro (six_far hc8' (b := w7.heap.size) (by have := HS5.out; have := hg6.size; have := hg7.size; have := hg8.size; omega) (.int .i64 z0) (.int .i64 z1) (.int .i64 z2) (.string (bs T)) (.slice a7 J.length c7) (.int .i64 H)) (six_below hb8' (b := w7.heap.size) (by have := HS5.out; have := hg6.size; have := hg7.size; have := hg8.size; omega) (.int .i64 z0) (.int .i64 z1) (.int .i64 z2) (.string (bs T)) (.slice a7 J.length c7) (.int .i64 H))))
        have HFIN := Lib.hid hFIN
        have HLT := Lib.hid (show w.heap.size < w7.heap.size from (by have := HS5.out; have := hg6.size; have := hg7.size; have := hg8.size; omega))
        clear hFIN hc8' hb8' hNB
        go_simp
        refine hK _ _ (HK.out _ (only_set6 hg8 (by first | exact Nat.le_refl _ | exact hg6.size | exact hg7.size))) (fun _ => ?_)
        clear hK K hS d0 d1 d2 d3 d4 d5 df D8
        refine wpAnyH_done (by kernel_rfl) ?_ _
        go_wp2_with fail
        go_meet
        exact ⟨_, a7, c7, rfl, HFIN.out.1, HFIN.out.2.1, HFIN.out.2.2.1, HFIN.out.2.2.2, HLT.out, hF7'⟩
      refine AllReadyH.cons rfl (fun K hK => ?_) AllReadyH.nil
      go_simp
      refine hK _ _ (HK.out _ (Cod.only_alloc hg6 _)) (fun hSa => ?_)
      clear hK K hS
      have hS := hSa
      clear hSa
      refine wpAnyH_ready (rs := [12]) (by kernel_rfl) (by simp) ?_
      refine AllReadyH.cons rfl (fun K hK => ?_) AllReadyH.nil
      go_simp
      refine Calls.mono (j2.out _ _ rfl (Cod.Rb.next hR6 (below_one _ _)) (Cod.only_alloc hg6 _)) ?_
      rintro e w7 ⟨a7, c7, rfl, hN7, hF7, hR7, hg7, hc7⟩
      refine hK _ _ (HK.out _ hg7) (fun hS7 => ?_)
      clear hK K hS
      have hS := hS7
      clear hS7
      have D7 := hc7 w6.heap.size 37 #[.int .i64 0, .int .i64 0, .int .i64 0, .string ⟨#[]⟩, .slice none 0 0, .int .i64 0] (Blk.new w6 _ _) (by have := HS5.out; have := hg6.size; omega)
      have hF7' : ∀ g, (Value.slice a7 J.length c7).ownBlock = some g → w.heap.size < g := fun g hg => by have := hF7 g hg; have := HS5.out; have := hg6.size; rw [alloc_size] at *; omega
      refine wpAnyH_ready (rs := [14]) (by kernel_rfl) (by simp) ?_
      refine AllReadyH.cons rfl (fun K hK => ?_) AllReadyH.nil
      go_simp
      refine Calls.mono (j3.out _ _ (.slice a7 J.length c7) rfl hR7 hg7 hN7) ?_
      rintro e w8 ⟨rfl, hN8, hg8, hc8⟩
      refine hK _ _ (HK.out _ hg8) (fun hS8 => ?_)
      clear hK K hS
      have hS := hS8
      clear hS8
      have D8 := hc8 w6.heap.size 37 #[.int .i64 0, .int .i64 0, .int .i64 0, .string ⟨#[]⟩, .slice none 0 0, .int .i64 0] D7 (by have := HS5.out; have := hg6.size; have := hg7.size; omega)
      refine wpAnyH_take (i := 15) (v := .agg #[.int .i64 z0, .int .i64 z1, .int .i64 z2, .string (bs T), .slice a7 J.length c7, .int .i64 H]) rfl (by kernel_rfl) (by kernel_rfl) (by kernel_rfl) (fun _ _ _ h => h) (Or.inl ⟨rfl, fun W _ => by kernel_rfl⟩) hS ?_
      refine wpAnyH_ready (rs := [17]) (by kernel_rfl) (by simp) ?_
      refine AllReadyH.cons rfl (fun K hK => ?_) AllReadyH.nil
      have d0 := D8.cell 0
      have d1 := D8.cell 1
      have d2 := D8.cell 2
      have d3 := D8.cell 3
      have d4 := D8.cell 4
      have d5 := D8.cell 5
      have df := D8.frozen
      have hc8' := HC5.out.only hg8 (by omega)
      have hb8' := below_only HB5.out hg8 (by omega)
      have hNB : IsNums (.slice a7 J.length c7) J (six w8 (w6.heap.size) (.int .i64 z0) (.int .i64 z1) (.int .i64 z2) (.string (bs T)) (.slice a7 J.length c7) (.int .i64 H)) := by
        by_cases h0 : J = []
        · subst h0; exact six_nil hN8 _ _ _ _ _ _
        · exact six_nums hN8 (fun g hg => by have := hF7 g hg; rw [alloc_size] at this; omega) _ _ _ _ _ _
      have hFIN := And.intro (six_blk D8 (.int .i64 z0) (.int .i64 z1) (.int .i64 z2) (.string (bs T)) (.slice a7 J.length c7) (.int .i64 H)) (And.intro hNB (And.intro (six_far hc8' (b := w6.heap.size) (by have := HS5.out; have := hg6.size; have := hg7.size; have := hg8.size; omega) (.int .i64 z0) (.int .i64 z1) (.int .i64 z2) (.string (bs T)) (.slice a7 J.length c7) (.int .i64 H)) (six_below hb8' (b := w6.heap.size) (by have := HS5.out; have := hg6.size; have := hg7.size; have := hg8.size; omega) (.int .i64 z0) (.int .i64 z1) (.int .i64 z2) (.string (bs T)) (.slice a7 J.length c7) (.int .i64 H))))
      have HFIN := Lib.hid hFIN
      have HLT := Lib.hid (show w.heap.size < w6.heap.size from (by have := HS5.out; have := hg6.size; have := hg7.size; have := hg8.size; omega))
      clear hFIN hc8' hb8' hNB
      go_simp
      refine hK _ _ (HK.out _ (only_set6 hg8 (by first | exact Nat.le_refl _ | exact hg6.size | exact hg7.size))) (fun _ => ?_)
      clear hK K hS d0 d1 d2 d3 d4 d5 df D8
      refine wpAnyH_done (by kernel_rfl) ?_ _
      go_wp2_with fail
      go_meet
      exact ⟨_, a7, c7, rfl, HFIN.out.1, HFIN.out.2.1, HFIN.out.2.2.1, HFIN.out.2.2.2, HLT.out, hF7'⟩
    refine AllReadyH.cons rfl (fun K hK => ?_) AllReadyH.nil
    go_simp
    refine hK _ _ (HK.out _ HGN.out) (fun hSa => ?_)
    clear hK K hS
    have hS := hSa
    clear hSa
    refine wpAnyH_ready (rs := [10]) (by kernel_rfl) (by simp) ?_
    refine AllReadyH.cons rfl (fun K hK => ?_) AllReadyH.nil
    go_simp
    refine Calls.mono (j1.out _ _ rfl HRN.out HGN.out) ?_
    rintro e w6 ⟨rfl, hR6, hg6, hc6⟩
    refine hK _ _ (HK.out _ hg6) (fun hS6 => ?_)
    clear hK K hS
    have hS := hS6
    clear hS6
    have D6 := hc6 w5.heap.size 37 #[.int .i64 0, .int .i64 0, .int .i64 0, .string ⟨#[]⟩, .slice none 0 0, .int .i64 0] HBN.out (by have := HS5.out; omega)
    refine wpAnyH_ready (rs := [12]) (by kernel_rfl) (by simp) ?_
    refine AllReadyH.cons rfl (fun K hK => ?_) AllReadyH.nil
    go_simp
    refine Calls.mono (j2.out _ _ rfl hR6 hg6) ?_
    rintro e w7 ⟨a7, c7, rfl, hN7, hF7, hR7, hg7, hc7⟩
    refine hK _ _ (HK.out _ hg7) (fun hS7 => ?_)
    clear hK K hS
    have hS := hS7
    clear hS7
    have D7 := hc7 w5.heap.size 37 #[.int .i64 0, .int .i64 0, .int .i64 0, .string ⟨#[]⟩, .slice none 0 0, .int .i64 0] D6 (by have := HS5.out; have := hg6.size; omega)
    have hF7' : ∀ g, (Value.slice a7 J.length c7).ownBlock = some g → w.heap.size < g := fun g hg => by have := hF7 g hg; have := HS5.out; have := hg6.size; omega
    refine wpAnyH_ready (rs := [14]) (by kernel_rfl) (by simp) ?_
    refine AllReadyH.cons rfl (fun K hK => ?_) AllReadyH.nil
    go_simp
    refine Calls.mono (j3.out _ _ (.slice a7 J.length c7) rfl hR7 hg7 hN7) ?_
    rintro e w8 ⟨rfl, hN8, hg8, hc8⟩
    refine hK _ _ (HK.out _ hg8) (fun hS8 => ?_)
    clear hK K hS
    have hS := hS8
    clear hS8
    have D8 := hc8 w5.heap.size 37 #[.int .i64 0, .int .i64 0, .int .i64 0, .string ⟨#[]⟩, .slice none 0 0, .int .i64 0] D7 (by have := HS5.out; have := hg6.size; have := hg7.size; omega)
    refine wpAnyH_take (i := 15) (v := .agg #[.int .i64 z0, .int .i64 z1, .int .i64 z2, .string (bs T), .slice a7 J.length c7, .int .i64 H]) rfl (by kernel_rfl) (by kernel_rfl) (by kernel_rfl) (fun _ _ _ h => h) (Or.inl ⟨rfl, fun W _ => by kernel_rfl⟩) hS ?_
    refine wpAnyH_ready (rs := [17]) (by kernel_rfl) (by simp) ?_
    refine AllReadyH.cons rfl (fun K hK => ?_) AllReadyH.nil
    have d0 := D8.cell 0
    have d1 := D8.cell 1
    have d2 := D8.cell 2
    have d3 := D8.cell 3
    have d4 := D8.cell 4
    have d5 := D8.cell 5
    have df := D8.frozen
    have hc8' := HC5.out.only hg8 (by omega)
    have hb8' := below_only HB5.out hg8 (by omega)
    have hNB : IsNums (.slice a7 J.length c7) J (six w8 (w5.heap.size) (.int .i64 z0) (.int .i64 z1) (.int .i64 z2) (.string (bs T)) (.slice a7 J.length c7) (.int .i64 H)) := by
      by_cases h0 : J = []
      · subst h0; exact six_nil hN8 _ _ _ _ _ _
      · exact six_nums hN8 (fun g hg => by have := hF7 g hg; have := D6.lt; omega) _ _ _ _ _ _
    have hFIN := And.intro (six_blk D8 (.int .i64 z0) (.int .i64 z1) (.int .i64 z2) (.string (bs T)) (.slice a7 J.length c7) (.int .i64 H)) (And.intro hNB (And.intro (six_far hc8' (b := w5.heap.size) (by have := HS5.out; have := hg6.size; have := hg7.size; have := hg8.size; omega) (.int .i64 z0) (.int .i64 z1) (.int .i64 z2) (.string (bs T)) (.slice a7 J.length c7) (.int .i64 H)) (six_below hb8' (b := w5.heap.size) (by have := HS5.out; have := hg6.size; have := hg7.size; have := hg8.size; omega) (.int .i64 z0) (.int .i64 z1) (.int .i64 z2) (.string (bs T)) (.slice a7 J.length c7) (.int .i64 H))))
    have HFIN := Lib.hid hFIN
    have HLT := Lib.hid (show w.heap.size < w5.heap.size from (by have := HS5.out; have := hg6.size; have := hg7.size; have := hg8.size; omega))
    clear hFIN hc8' hb8' hNB
    go_simp
    refine hK _ _ (HK.out _ (only_set6 hg8 (by first | exact Nat.le_refl _ | exact hg6.size | exact hg7.size))) (fun _ => ?_)
    clear hK K hS d0 d1 d2 d3 d4 d5 df D8
    refine wpAnyH_done (by kernel_rfl) ?_ _
    go_wp2_with fail
    go_meet
    exact ⟨_, a7, c7, rfl, HFIN.out.1, HFIN.out.2.1, HFIN.out.2.2.1, HFIN.out.2.2.2, HLT.out, hF7'⟩
  case rest =>
    obtain ⟨b, a, c, rfl, D, hN, C, hb, hlt, hfr⟩ := hcut
    clear j1 j2 j3 HBN HRN HRD HGN HGD HK HR5 HC5 HB5 HS5 HEN HQ1 HQ2 HQ3 HQ4 HO
    have c5 := Lib.hid (minutes_calls _ HOK.out (.slice a J.length c) wc (HE.out.next hb) hN)
    rw [← HF.out] at c5
    have d0 := D.cell 0
    have d1 := D.cell 1
    have d2 := D.cell 2
    have d3 := D.cell 3
    have d4 := D.cell 4
    have d5 := D.cell 5
    unfold OpD.val OpD.cells at c5
    have e1 : (rmF s).ver = z0 := by rw [HF.out]
    have e2 : (rmF s).gate = z1 := by rw [HF.out]
    have e3 : (rmF s).no = z2 := by rw [HF.out]
    have e4 : (rmF s).reason = T := by rw [HF.out]
    have e5 : (rmF s).holder = H := by rw [HF.out]
    rw [e1, e2, e3, e4, e5] at c5
    have HB : Hid (rmB s = decide ((rmF s).min = s)) := rfl
    have HFV : Hid ((rmF s).val (.slice a J.length c) = .agg #[.int .i64 z0, .int .i64 z1, .int .i64 z2, .string (bs T), .slice a J.length c, .int .i64 H]) := by show _ = _; unfold OpD.val OpD.cells; rw [e1, e2, e3, e4, e5]
    have HFJ : Hid ((rmF s).jurors = J) := by show _ = _; rw [HF.out]
    have HO : Hid (rmO s = if rmB s = true then rmF s else OpD.zero) := rfl
    generalize (rmF s).min = M at *
    clear e1 e2 e3 e4 e5 hs l1 l2 l3 HF HOK
    go_wp2_with fail
    refine c5.out.mono ?_
    rintro e w9 ⟨rfl, hb9⟩
    have D9 := D.next hb9
    have C9 := C.next hb9
    have hN9 := hN.next hb9
    have hB9 := hb.trans (hb9.mono hb.size)
    clear c5 d0 d1 d2 d3 d4 d5 D C hN hb hb9
    have d0 := D9.cell 0
    have d1 := D9.cell 1
    have d2 := D9.cell 2
    have d3 := D9.cell 3
    have d4 := D9.cell 4
    have d5 := D9.cell 5
    have q0 := C9.cell 0
    have q1' := C9.cell 1
    have q2' := C9.cell 2
    have q3' := C9.cell 3
    have q4' := C9.cell 4
    have q5 := C9.cell 5
    have qf := C9.frozen
    by_cases hM : M = s
    · have hq : ((bs M).toList == (bs s).toList) = true := by rw [hM]; simp
      have HR : Hid (rmB s = true) := by show _ = _; rw [HB.out]; exact decide_eq_true hM
      have HO2 : Hid (rmO s = rmF s) := by show _ = _; rw [HO.out, HR.out]; rfl
      have hW := six_blk C9 (.int .i64 z0) (.int .i64 z1) (.int .i64 z2) (.string (bs T)) (.slice a J.length c) (.int .i64 H)
      have HBF := Lib.hid (six_below hB9 (Nat.le_refl w.heap.size) (.int .i64 z0) (.int .i64 z1) (.int .i64 z2) (.string (bs T)) (.slice a J.length c) (.int .i64 H))
      have HNF := Lib.hid (six_nums hN9 (fun g hg => Nat.ne_of_gt (hfr g hg)) (.int .i64 z0) (.int .i64 z1) (.int .i64 z2) (.string (bs T)) (.slice a J.length c) (.int .i64 H))
      unfold six at hW
      have f0 := hW.cell 0
      have f1 := hW.cell 1
      have f2 := hW.cell 2
      have f3 := hW.cell 3
      have f4 := hW.cell 4
      have f5 := hW.cell 5
      have HWW := Lib.hid (And.intro f0 (And.intro f1 (And.intro f2 (And.intro f3 (And.intro f4 f5)))))
      clear hW hM f0 f1 f2 f3 f4 f5 hfr D9 C9 hN9 hB9
      go_wp2
      obtain ⟨f0, f1, f2, f3, f4, f5⟩ := HWW.out
      exact bodyPost_ret (v := .tuple #[.agg #[.int .i64 z0, .int .i64 z1, .int .i64 z2, .string (bs T), .slice a J.length c, .int .i64 H], .bool true]) (by simp [results, Tryd.results11, go_sem, f0, f1, f2, f3, f4, f5]) rfl ⟨.slice a J.length c, by rw [HO2.out, HR.out, HFV.out], by rw [HO2.out, HFJ.out]; exact HNF.out, HBF.out⟩
    · have hq : ((bs M).toList == (bs s).toList) = false := beq_eq_false_iff_ne.2 (fun e => hM (by rw [Lib.toList_data, Lib.toList_data, bs_data, bs_data] at e; exact e))
      have HR : Hid (rmB s = false) := by show _ = _; rw [HB.out]; exact decide_eq_false hM
      have HO2 : Hid (rmO s = OpD.zero) := by show _ = _; rw [HO.out, HR.out]; rfl
      have hW := six_blk C9 (.int .i64 0) (.int .i64 0) (.int .i64 0) (.string ⟨#[]⟩) (.slice none 0 0) (.int .i64 0)
      have HBF := Lib.hid (six_below hB9 (Nat.le_refl w.heap.size) (.int .i64 0) (.int .i64 0) (.int .i64 0) (.string ⟨#[]⟩) (.slice none 0 0) (.int .i64 0))
      unfold six at hW
      have f0 := hW.cell 0
      have f1 := hW.cell 1
      have f2 := hW.cell 2
      have f3 := hW.cell 3
      have f4 := hW.cell 4
      have f5 := hW.cell 5
      have HWW := Lib.hid (And.intro f0 (And.intro f1 (And.intro f2 (And.intro f3 (And.intro f4 f5)))))
      clear hW hM f0 f1 f2 f3 f4 f5 hfr D9 C9 hN9 hB9
      go_wp2
      obtain ⟨f0, f1, f2, f3, f4, f5⟩ := HWW.out
      exact bodyPost_ret (v := .tuple #[.agg #[.int .i64 0, .int .i64 0, .int .i64 0, .string ⟨#[]⟩, .slice none 0 0, .int .i64 0], .bool false]) (by simp [results, Tryd.results11, go_sem, f0, f1, f2, f3, f4, f5]) rfl ⟨.slice none 0 0, by rw [HO2.out, HR.out]; rfl, by rw [HO2.out]; exact .inl ⟨⟨none, 0, rfl⟩, rfl⟩, HBF.out⟩
end Go.Proofs.YtkfmhibdoapndaaDoor
