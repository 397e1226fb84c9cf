/- BaseJournal: for all at most 25 operations on a journal, every call returns the same result as the reference, the lists of records are the same, and so are the bytes of the file in the end, and the sums of all records. Condition: the library's tables and errors hold what their initialisers lay (tied by the card). -/
import Derived.Test.YtanecondopbfhaaGreatDoorJlaw
import Derived.Test.YtanecondopbfhaaGreatDoorCards
import Derived.Test.YtanecondopbfhaaGreatDoorTie
import Derived.SevenTiedAt
namespace Go.Proofs.YtanecondopbfhaaGreatDoor
section
open Go.ChangeShapes Go.WideShapes Go.Deep
variable {H : Type} {enc : TypeId × Value → H} {P : Program} {w : World} {base : Nat} {spare : Nat → Bool} {held : Bool}
theorem open_slice_fields {t e : TypeId} {fs : Array Field} {fuel : Nat} {cs : List Value} {x : DataW H × List MemPlace} (ht : P.underlying t = some (.slice e)) (he : P.underlying e = some (.struct fs))
    (hone : oneCellFields P fs = true) (hC : P.cellsOf e = fs.size) (h : DataW.trod enc P w base spare held fuel t cs = some x) :
    (cs = [.slice none 0 0] ∧ x = (.nil, [])) ∨
    ∃ (a : Addr) (len cap m : Nat) (D : Nat → DataW H) (Pl : Nat → List MemPlace), cs = [.slice (some a) len cap] ∧ base ≤ a.block ∧ len ≤ cap ∧ cap ≤ maxLen ∧ m = (if spare a.block then cap else len) ∧
      x = (.slice ((List.range len).map D) ((List.range (m - len)).map fun j => D (len + j)), MemPlace.row a (m * fs.size) ++ (List.range m).flatMap Pl) ∧
      ∀ i, i < m → ∃ (ys : List (DataW H × List MemPlace)) (n : Nat), D i = .agg (ys.map (·.1)) ∧ Pl i = ys.flatMap (·.2) ∧ ys.length = fs.size ∧
        ∀ (j : Nat) (f : Field), fs[j]? = some f → ∃ (v : Value) (y : DataW H × List MemPlace), w.cell? (a.add (i * fs.size + j)) = some v ∧ ys[j]? = some y ∧ DataW.trod enc P w base spare held n f.type [v] = some y := by
  rcases open_slice ht h with h0 | ⟨a, len, cap, m, n, D, Pl, hcs, hb, hl, hm, hmm, hx, hi⟩
  · exact .inl h0
  · refine .inr ⟨a, len, cap, m, D, Pl, hcs, hb, hl, hm, hmm, by rw [hC] at hx; exact hx, fun i him => ?_⟩
    obtain ⟨cs', hc, ht'⟩ := hi i him
    rw [hC] at hc
    obtain ⟨ys, n', hn', hy, hlen, hyl, hf⟩ := DataW.trod_struct he ht'
    obtain ⟨_, hcl, hat⟩ := World.cells?_some hc
    simp only [Prod.mk.injEq] at hy
    refine ⟨ys, n', hy.1, hy.2, hyl, fun j f hj => ?_⟩
    obtain ⟨ho, hk⟩ := hone_of hone j f hj
    have hjl : j < fs.size := (Array.getElem?_eq_some_iff.1 hj).1
    have hcell := hat j hjl
    have hv : cs'[j]? = some (cs'[j]'(by omega)) := List.getElem?_eq_getElem (by omega)
    have h1 := hf j f hj
    rw [ho, hk] at h1
    have hone' : (cs'.drop j).take 1 = [cs'[j]'(by omega)] := by
      rw [List.drop_eq_getElem_cons (by omega)]
      rfl
    rw [hone'] at h1
    have hys : ys[j]? = some (ys[j]'(by omega)) := List.getElem?_eq_getElem (by omega)
    refine ⟨_, _, ?_, hys, h1.trans hys⟩
    rw [← Go.Deep.add_add, hcell, hv]
end


structure FitO (l : List Op') : Prop where
  n : ∀ t ∈ l, -9223372036854775808 ≤ t.N ∧ t.N ≤ 9223372036854775807
  s : ∀ t ∈ l, t.S.length ≤ 9223372036854775807
  k : ∀ t ∈ l, t.Keep.length ≤ 9223372036854775807
  l : l.length ≤ 9223372036854775807

section
variable {H : Type} {enc : TypeId × Value → H} {w : World}
/-- A slice of operations that came in. -/
theorem in_ops {fuel : Nat} {u : Value} {y : DataW H × List MemPlace} (h : DataW.trod enc Tryz.prog w 0 (fun _ => true) true fuel 22 [u] = some y) :
    ∃ l, IsOps w.heap.size u l w ∧ FitO l := by
  rcases open_slice_fields Tryz.underlying22 Tryz.underlying38 (by kernel_rfl) (by kernel_rfl) h with ⟨hcs, -⟩ | ⟨a, len, cap, m, D, Pl, hcs, -, hl, hm, hmm, -, hf⟩
  · simp only [List.cons.injEq, and_true] at hcs
    exact ⟨[], .inl ⟨⟨none, 0, hcs⟩, rfl⟩, by simp, by simp, by simp, by simp⟩
  · simp only [List.cons.injEq, and_true] at hcs
    unfold maxLen at hm
    have hm2 : len ≤ m := by rw [hmm]; split <;> omega
    by_cases h0 : len = 0
    · exact ⟨[], .inl ⟨⟨some a, cap, by rw [hcs, h0]⟩, rfl⟩, by simp, by simp, by simp, by simp⟩
    · obtain ⟨b, off, spot⟩ := a
      have hel : ∀ i, i < m → ∃ (t : Op') (kv : Value), (-9223372036854775808 ≤ t.N ∧ t.N ≤ 9223372036854775807) ∧ t.S.length ≤ 9223372036854775807 ∧ w.cell? ((⟨b, off, spot⟩ : Addr).add (i * 4 + 0)) = some (.int .i64 t.Kind) ∧ w.cell? ((⟨b, off, spot⟩ : Addr).add (i * 4 + 1)) = some (.string (bs t.S)) ∧
          w.cell? ((⟨b, off, spot⟩ : Addr).add (i * 4 + 2)) = some (.int .i64 t.N) ∧ w.cell? ((⟨b, off, spot⟩ : Addr).add (i * 4 + 3)) = some kv ∧ KeepAt w kv t.Keep ∧ t.Keep.length ≤ 9223372036854775807 ∧ ∀ j, inBlock kv j → j < w.heap.size := by
        intro i hi
        obtain ⟨ys, n, -, -, -, hj⟩ := hf i hi
        obtain ⟨v0, y0, c0, -, t0⟩ := hj 0 _ rfl
        obtain ⟨v1, y1, c1, -, t1⟩ := hj 1 _ rfl
        obtain ⟨v2, y2, c2, -, t2⟩ := hj 2 _ rfl
        obtain ⟨v3, y3, c3, -, t3⟩ := hj 3 _ rfl
        obtain ⟨n0, e0, -, -⟩ := DataW.trod_int Tryz.underlying3 t0
        obtain ⟨s, e1, -, hs⟩ := DataW.trod_string Tryz.underlying9 t1
        obtain ⟨n2, e2, -, w2⟩ := DataW.trod_int Tryz.underlying3 t2
        obtain ⟨xs, hk, hkb, hkl⟩ := in_keep t3
        simp only [List.cons.injEq, and_true] at e0 e1 e2
        subst e0 e1 e2
        refine ⟨⟨n0, s.data.toList, n2, xs⟩, v3, int_of_wf w2, ?_, c0, ?_, c2, c3, hk, hkl, hkb⟩
        · simp only
          rw [← Lib.size_eq]
          exact hs
        · simp only
          rw [bs_of]; exact c1
      have hspot : spot = none := by
        obtain ⟨t, kv, _, _, c0, _⟩ := hel 0 (by omega)
        simpa [Addr.add] using World.cell?_spot c0
      subst hspot
      have hadd : ∀ k, (⟨b, off, none⟩ : Addr).add k = ⟨b, off + k, none⟩ := fun k => Go.WideShapes.add_plain ..
      have hb : b < w.heap.size := by
        obtain ⟨t, kv, _, _, c0, _⟩ := hel 0 (by omega)
        rw [hadd] at c0
        exact block_lt c0
      have hex : ∀ k, k ≤ len → ∃ ts : List Op', ts.length = k ∧ (∀ t ∈ ts, (-9223372036854775808 ≤ t.N ∧ t.N ≤ 9223372036854775807) ∧ t.S.length ≤ 9223372036854775807 ∧ t.Keep.length ≤ 9223372036854775807) ∧ ∀ i t, ts[i]? = some t → ∃ kv, OpAt w.heap.size b (off + i * 4) t kv w := by
        intro k
        induction k with
        | zero => intro _; exact ⟨[], rfl, by simp, by simp⟩
        | succ k ih =>
          intro hk
          obtain ⟨ts, hl1, hl2, hl4⟩ := ih (by omega)
          obtain ⟨t, kv, hfn, hfit, c0, c1, c2, c3, hkp, hkl, hkb⟩ := hel k (by omega)
          rw [hadd] at c0 c1 c2 c3
          refine ⟨ts ++ [t], by simp [hl1], ?_, ?_⟩
          · intro x hx
            rw [List.mem_append, List.mem_singleton] at hx
            rcases hx with hx | rfl
            · exact hl2 x hx
            · exact ⟨hfn, hfit, hkl⟩
          · intro i x hx
            by_cases hi : i < ts.length
            · rw [List.getElem?_append_left hi] at hx
              exact hl4 i x hx
            · rw [List.getElem?_append_right (by omega)] at hx
              have hik : i - ts.length = 0 := by
                have := (List.getElem?_eq_some_iff.1 hx).1
                simpa using this
              rw [hik] at hx
              simp only [List.getElem?_cons_zero, Option.some.injEq] at hx
              subst hx
              have hi2 : i = k := by omega
              subst hi2
              exact ⟨kv, ⟨by simpa using c0, by simpa [Nat.add_assoc] using c1, by simpa [Nat.add_assoc] using c2, by simpa [Nat.add_assoc] using c3, hkp, hkb⟩⟩
      obtain ⟨ts, hl1, hl2, hl4⟩ := hex len (Nat.le_refl _)
      exact ⟨ts, .inr ⟨b, off, cap, by rw [hl1, hcs], hb, hb, hl4⟩, fun t ht => (hl2 t ht).1, fun t ht => (hl2 t ht).2.1, fun t ht => (hl2 t ht).2.2, by omega⟩
end

open Go.ChangeShapes Go.WideShapes Go.ChangeAt Go.WideMaps Go.WideElems Go.RowKit

set_option maxRecDepth 100000 in
theorem journal_lifted (os : Os) (started : os.Started) (H : Type) (enc : TypeId × Value → H) :
    ReturnsInHanded {} Tryz.checked os 3 .any (fun w args => (Rows.baseJournalSpec.pre enc Tryz.prog Tryz.f3 [] false w args ∧ laidMetH Tryz.prog lst w) ∧ sizedMet enc Tryz.prog Tryz.f3 (OpenSpec.ofChange Rows.baseJournalSpec) false w args)
      (Rows.baseJournalSpec.post enc Tryz.prog Tryz.f3 false true false false) := by
  refine returnsInHanded_of_change_and (C := Tryz.checked) (X := fun w _ => laidMetH Tryz.prog lst w) (fun _ _ _ hh h => h.of_heap hh) own started (by kernel_rfl) Tryz.func3
    (ChangeSpec.witness_shaped (enc := enc) (C := Tryz.checked) (os := os) (X := fun w _ => laidMetH Tryz.prog lst w) false (World.doorLaid Tryz.prog 62 os) #[.slice none 0 0] 8 rfl (World.shaped_of_RefB (by kernel_rfl) (by kernel_rfl)) (by kernel_rfl) (by kernel_rfl) (by kernel_rfl) (door_met os _)) ?_
  intro W base args ds gs before hval0 hW _ _ hL _
  have hval : ∀ (j : Nat) t v, Tryz.f3.params[j]? = some t → args[j]? = some v → Value.okWide Tryz.prog W .any base t v := hval0
  have hW' := hW
  obtain ⟨p, q, hA0, hV, rfl, hfz, hnd⟩ := hW
  have hA : DataW.TrodAll enc Tryz.prog W 0 (fun _ => true) true Tryz.f3.params.toList args.toList ds p := hA0
  rw [Tryz.params3] at hA hval
  obtain ⟨v0, d0, rfl, rfl, h0⟩ := trodAll_one hA
  obtain ⟨rfl, rfl⟩ := trodVars_none hV
  have hE := env_of hL
  have h0k := h0
  have hu0 : ∃ l, IsOps W.heap.size v0 l W ∧ FitO l := by
    obtain ⟨a, n, c, rfl⟩ := okWide_slice Tryz.underlying22 (hval 0 22 v0 rfl rfl)
    obtain ⟨fuel, hf⟩ := h0
    exact in_ops hf
  obtain ⟨l, hl, hfl⟩ := hu0
  clear hA0 hval0
  simp only [List.append_nil] at hW'
  refine (journal_any hl hfl.l hfl.s hfl.k hfl.n hE).mono fun e W' ⟨he, hb⟩ => ?_
  subst he
  have hlt0 : ∀ x ∈ p, x.block < W.heap.size := fun x hx => hW'.lt x (by simp [hx])
  exact ⟨_, rfl, post_below (pa := p) (pv := []) hW' (fun _ _ _ => trodAll_mk1 (shut_bool Tryz.underlying4 _))
    (fun sp hsp => trodAll_mk1
      (Go.WideElems.Trod_stays laidOut (by kernel_rfl) (of_decide_eq_true (by kernel_rfl)) h0k (fun x hx => hb.same (hlt0 x hx)) (fun x hx => hsp x (by simp [hx]))))
    (fun _ _ => rfl) (by simp) hb (ok_one (by kernel_rfl) rfl (okWide_bool_mk Tryz.underlying4 _))⟩

theorem journal_said : Rows.BaseJournalSaid :=
  OpenClaim.holds_of_wide 3 Tryz.f3 rfl rfl rfl rfl rfl rfl rfl ⟨rfl, rfl, rfl, rfl, rfl⟩ rfl rfl rfl rfl rfl (by kernel_rfl) Tryz.func3 (by kernel_rfl)
    (of_decide_eq_true (by kernel_rfl)) (by unfold Func.isWrapper; rw [if_neg (of_decide_eq_false (by kernel_rfl))]; exact ⟨rfl, rfl⟩)
    (fun os started H enc _ => journal_lifted os started H enc)

theorem journal_plain (f : FuncId) (fn : Func) (hf : Tryz.pinned.checked.prog.funcNamed "cloak/cloaklaw01.BaseJournal" = some f) (hfn : Tryz.pinned.checked.prog.funcs[f]? = some fn) :
    true = Tryz.pinned.checked.prog.looks [] ∧ ∀ (j : Nat) t, fn.params[j]? = some t → Tryz.pinned.checked.prog.wantsStandIn t = false := by
  obtain rfl : f = 3 := Option.some.inj ((show Tryz.prog.funcNamed "cloak/cloaklaw01.BaseJournal" = some 3 by kernel_rfl).symm.trans hf) |>.symm
  obtain rfl : fn = Tryz.f3 := (Option.some.inj (Tryz.func3.symm.trans hfn)).symm
  refine ⟨by kernel_rfl, fun j t ht => ?_⟩
  rw [Tryz.params3] at ht
  obtain rfl : t = 22 := by simpa using Array.mem_of_getElem? ht
  exact (show Tryz.prog.wantsStandIn 22 = false by kernel_rfl)

theorem journal_card : Rows.BaseJournalCardSaid :=
  Claim7.holds_tied_plain_at .later [] _ _ _ _ journal_said (fun _ h => by cases h) (by kernel_rfl) (fun _ h => by cases h) baseJournal_row_tie rfl ⟨rfl, rfl⟩ (by kernel_rfl) rfl journal_plain (by kernel_rfl)
#print axioms journal_card

end Go.Proofs.YtanecondopbfhaaGreatDoor
