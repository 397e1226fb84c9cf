/- Lists of acts and of numbers that come in; the law's last step. -/
import Derived.Test.YtbljfdjhgleafaaSynced2
import Derived.Deep.Slices
import Derived.Deep.Fields
import Derived.ChangeSame
import Derived.Lib.SmallJoins
import Derived.SliceStrings
import Derived.WideKeyArgs
import Derived.Carry
import Derived.Test.YtbljfdjhgleafaaRows
import Derived.ProofKit
import Derived.HandedShaped
import Derived.OpenShut
namespace Go.Proofs.Ytbljfdjhgleafaa
section
open Go.ChangeShapes Go.WideShapes Go.Deep
variable {H : Type} {enc : TypeId × Value → H} {P : Program} {w : World} {base : Nat} {spare : Nat → Bool} {held : Bool}
theorem open_slice_fields {t e : TypeId} {fs : Array Field} {fuel : Nat} {cs : List Value} {x : DataW H × List MemPlace} (ht : P.underlying t = some (.slice e)) (he : P.underlying e = some (.struct fs))
    (hone : oneCellFields P fs = true) (hC : P.cellsOf e = fs.size) (h : DataW.trod enc P w base spare held fuel t cs = some x) :
    (cs = [.slice none 0 0] ∧ x = (.nil, [])) ∨
    ∃ (a : Addr) (len cap m : Nat) (D : Nat → DataW H) (Pl : Nat → List MemPlace), cs = [.slice (some a) len cap] ∧ base ≤ a.block ∧ len ≤ cap ∧ cap ≤ maxLen ∧ m = (if spare a.block then cap else len) ∧
      x = (.slice ((List.range len).map D) ((List.range (m - len)).map fun j => D (len + j)), MemPlace.row a (m * fs.size) ++ (List.range m).flatMap Pl) ∧
      ∀ i, i < m → ∃ (ys : List (DataW H × List MemPlace)) (n : Nat), D i = .agg (ys.map (·.1)) ∧ Pl i = ys.flatMap (·.2) ∧ ys.length = fs.size ∧
        ∀ (j : Nat) (f : Field), fs[j]? = some f → ∃ (v : Value) (y : DataW H × List MemPlace), w.cell? (a.add (i * fs.size + j)) = some v ∧ ys[j]? = some y ∧ DataW.trod enc P w base spare held n f.type [v] = some y := by
  rcases open_slice ht h with h0 | ⟨a, len, cap, m, n, D, Pl, hcs, hb, hl, hm, hmm, hx, hi⟩
  · exact .inl h0
  · refine .inr ⟨a, len, cap, m, D, Pl, hcs, hb, hl, hm, hmm, by rw [hC] at hx; exact hx, fun i him => ?_⟩
    obtain ⟨cs', hc, ht'⟩ := hi i him
    rw [hC] at hc
    obtain ⟨ys, n', hn', hy, hlen, hyl, hf⟩ := DataW.trod_struct he ht'
    obtain ⟨_, hcl, hat⟩ := World.cells?_some hc
    simp only [Prod.mk.injEq] at hy
    refine ⟨ys, n', hy.1, hy.2, hyl, fun j f hj => ?_⟩
    obtain ⟨ho, hk⟩ := hone_of hone j f hj
    have hjl : j < fs.size := (Array.getElem?_eq_some_iff.1 hj).1
    have hcell := hat j hjl
    have hv : cs'[j]? = some (cs'[j]'(by omega)) := List.getElem?_eq_getElem (by omega)
    have h1 := hf j f hj
    rw [ho, hk] at h1
    have hone' : (cs'.drop j).take 1 = [cs'[j]'(by omega)] := by
      rw [List.drop_eq_getElem_cons (by omega)]
      rfl
    rw [hone'] at h1
    have hys : ys[j]? = some (ys[j]'(by omega)) := List.getElem?_eq_getElem (by omega)
    refine ⟨_, _, ?_, hys, h1.trans hys⟩
    rw [← Go.Deep.add_add, hcell, hv]
end

open Go.ChangeShapes Go.WideShapes Go.ChangeAt Go.WideMaps Go.WideElems Go.RowKit
/-- The law's last step: the call has made blocks, and nothing that was there has turned. -/
theorem post_below {H : Type} {enc : TypeId × Value → H} {P : Program} {f : Func} {s : ChangeSpec} {apart fresh handsOn again : Bool} {W W' : World} {args : Array Value} {v : Value} {ds gs : List (DataW H)} {before pa pv : List MemPlace}
    (hW : DataW.Whole enc P f.params.toList s.vars apart W args.toList ds gs before)
    (hres : ∀ (b : Nat) (sp : Nat → Bool) (hd : Bool), DataW.TrodAll enc P W' b sp hd f.resultTypes.toList (v.resultList f.resultTypes.size) (s.fn H (ds ++ gs)).results [])
    (hargs : ∀ sp : Nat → Bool, (∀ p ∈ before, sp p.block = true) → DataW.TrodAll enc P W' 0 sp true f.params.toList args.toList (s.fn H (ds ++ gs)).args pa)
    (hvars : ∀ sp : Nat → Bool, (∀ p ∈ before, sp p.block = true) → DataW.TrodVars enc P W' sp s.vars (s.fn H (ds ++ gs)).vars pv)
    (hps : before = pa ++ pv) (hb : Below W.heap.size W W')
    (hok : ∀ (j : Nat) (t : TypeId) (r : Value), f.resultTypes[j]? = some t → (v.resultList f.resultTypes.size)[j]? = some r → Value.okWide P W' .any 0 t r) :
    s.post enc P f apart fresh handsOn again W args v W' := by
  have hlt : ∀ p ∈ before, p.block < W.heap.size := fun p hp => hW.lt p hp
  have hold : ∀ p ∈ before, (fun b => decide (b < W.heap.size)) p.block = true := fun p hp => by simpa using hlt p hp
  refine ⟨ds, gs, before, [], pa, pv, hW, hres _ _ _, hargs _ hold, hvars _ hold, World.keptBut_mono (fun p hp => ⟨hp, ?_⟩) (hb.frame (· ∈ before)), fun _ => ?_⟩
  · rw [hps, List.mem_append] at hp
    exact Or.inr hp
  · obtain ⟨_, _, _, _, _, hz, hn⟩ := hW
    refine ⟨hok, _, _, ([] ++ pa) ++ pv, ⟨[] ++ pa, pv, trodAll_append (hargs _ (fun _ _ => rfl)) (hres _ _ _), hvars _ (fun _ _ => rfl), rfl, ?_, ?_⟩, ?_⟩
    · intro b off hp
      have hin : MemPlace.cell b off ∈ before := by rw [hps]; simpa using hp
      rw [hb.frozen (hlt _ hin)]
      exact hz b off hin
    · intro ha
      have := hn ha
      rw [hps] at this
      simpa using this
    · intro p hp _
      rw [hps]
      simpa using hp

theorem own : ownKnob Try.prog.godebug = none := by kernel_rfl

theorem int_of_wf {x : Int} (h : (Lit.int .i64 x).wf = true) : -9223372036854775808 ≤ x ∧ x ≤ 9223372036854775807 := by
  simp only [Lit.wf, Bool.and_eq_true, decide_eq_true_eq] at h
  rw [show IntKind.i64.min = -9223372036854775808 from rfl, show IntKind.i64.max = 9223372036854775807 from rfl] at h
  exact h

section
variable {H : Type} {enc : TypeId × Value → H} {w : World}

theorem block_lt {b o : Nat} {v : Value} (h : w.cell? ⟨b, o, none⟩ = some v) : b < w.heap.size := by
  rcases Nat.lt_or_ge b w.heap.size with h' | h'
  · exact h'
  · simp [World.cell?, Array.getElem?_eq_none h'] at h

/-- A slice of ints that came in. -/
theorem in_keep {fuel : Nat} {v : Value} {y : DataW H × List MemPlace} (h : DataW.trod enc Try.prog w 0 (fun _ => true) true fuel 31 [v] = some y) :
    ∃ xs, KeepAt w v xs ∧ (∀ i, inBlock v i → i < w.heap.size) ∧ xs.length ≤ 9223372036854775807 := by
  rcases open_ints Try.underlying31 Try.underlying3 (by kernel_rfl) h with ⟨hcs, -⟩ | ⟨a, len, cap, zs, hcs, -, hl, hm, hz, -, hcell, hwz⟩
  · simp only [List.cons.injEq, and_true] at hcs
    exact ⟨[], .inl ⟨⟨none, 0, hcs⟩, rfl⟩, fun i ⟨o, n, c, e⟩ => by rw [hcs] at e; simp at e, by simp⟩
  · simp only [List.cons.injEq, and_true] at hcs
    have hz2 : zs.length = cap := by simpa using hz
    unfold maxLen at hm
    have hlt : (zs.take len).length = len := by rw [List.length_take]; omega
    by_cases h0 : len = 0
    · subst h0
      exact ⟨[], .inl ⟨⟨some a, cap, hcs⟩, rfl⟩, fun i ⟨o, n, c, e⟩ => by rw [hcs] at e; simp at e, by simp⟩
    · obtain ⟨b, off, rfl, hc⟩ := ints_at hcell (by omega)
      have hb : b < w.heap.size := block_lt (hc 0 (by omega))
      refine ⟨zs.take len, .inr ⟨b, off, cap, by rw [hlt, hcs], hb, fun i x hx => ?_⟩, fun i ⟨o, n, c, e⟩ => ?_, by omega⟩
      · have hi : i < (zs.take len).length := (List.getElem?_eq_some_iff.1 hx).1
        have h1 := hc i (by omega)
        rw [List.getElem?_take_of_lt (by omega)] at hx
        rw [h1]
        simp [hx]
      · rw [hcs] at e
        simp at e
        rw [← e.1.1]
        exact hb

/-- A slice of acts that came in. -/
theorem in_acts {fuel : Nat} {u : Value} {y : DataW H × List MemPlace} (h : DataW.trod enc Try.prog w 0 (fun _ => true) true fuel 22 [u] = some y) :
    ∃ l, IsActs w.heap.size u l w ∧ FitL l := by
  rcases open_slice_fields Try.underlying22 Try.underlying33 (by kernel_rfl) (by kernel_rfl) h with ⟨hcs, -⟩ | ⟨a, len, cap, m, D, Pl, hcs, -, hl, hm, hmm, -, hf⟩
  · simp only [List.cons.injEq, and_true] at hcs
    exact ⟨[], .inl ⟨⟨none, 0, hcs⟩, rfl⟩, by simp, by simp, by simp⟩
  · simp only [List.cons.injEq, and_true] at hcs
    unfold maxLen at hm
    have hm2 : len ≤ m := by rw [hmm]; split <;> omega
    by_cases h0 : len = 0
    · exact ⟨[], .inl ⟨⟨some a, cap, by rw [hcs, h0]⟩, rfl⟩, by simp, by simp, by simp⟩
    · obtain ⟨b, off, spot⟩ := a
      have hel : ∀ i, i < m → ∃ (t : Act') (kv : Value), (-9223372036854775808 ≤ t.N ∧ t.N ≤ 9223372036854775807) ∧ t.S.length ≤ 9223372036854775807 ∧ w.cell? ((⟨b, off, spot⟩ : Addr).add (i * 5 + 0)) = some (.int .i64 t.Do) ∧ w.cell? ((⟨b, off, spot⟩ : Addr).add (i * 5 + 1)) = some (.int .i64 t.F) ∧
          w.cell? ((⟨b, off, spot⟩ : Addr).add (i * 5 + 2)) = some (.int .i64 t.N) ∧ w.cell? ((⟨b, off, spot⟩ : Addr).add (i * 5 + 3)) = some (.string (bs t.S)) ∧ w.cell? ((⟨b, off, spot⟩ : Addr).add (i * 5 + 4)) = some kv ∧ KeepAt w kv t.Keep ∧ ∀ j, inBlock kv j → j < w.heap.size := by
        intro i hi
        obtain ⟨ys, n, -, -, -, hj⟩ := hf i hi
        obtain ⟨v0, y0, c0, -, t0⟩ := hj 0 _ rfl
        obtain ⟨v1, y1, c1, -, t1⟩ := hj 1 _ rfl
        obtain ⟨v2, y2, c2, -, t2⟩ := hj 2 _ rfl
        obtain ⟨v3, y3, c3, -, t3⟩ := hj 3 _ rfl
        obtain ⟨v4, y4, c4, -, t4⟩ := hj 4 _ rfl
        obtain ⟨n0, e0, -, -⟩ := DataW.trod_int Try.underlying3 t0
        obtain ⟨n1, e1, -, -⟩ := DataW.trod_int Try.underlying3 t1
        obtain ⟨n2, e2, -, w2⟩ := DataW.trod_int Try.underlying3 t2
        obtain ⟨s, e3, -, hs⟩ := DataW.trod_string Try.underlying9 t3
        obtain ⟨xs, hk, hkb, -⟩ := in_keep t4
        simp only [List.cons.injEq, and_true] at e0 e1 e2 e3
        subst e0 e1 e2 e3
        refine ⟨⟨n0, n1, n2, s.data.toList, xs⟩, v4, int_of_wf w2, ?_, c0, c1, c2, ?_, c4, hk, hkb⟩
        · simp only
          rw [← Lib.size_eq]
          exact hs
        · simp only
          rw [bs_of]; exact c3
      have hspot : spot = none := by
        obtain ⟨t, kv, _, _, c0, _⟩ := hel 0 (by omega)
        simpa [Addr.add] using World.cell?_spot c0
      subst hspot
      have hadd : ∀ k, (⟨b, off, none⟩ : Addr).add k = ⟨b, off + k, none⟩ := fun k => Go.WideShapes.add_plain ..
      have hb : b < w.heap.size := by
        obtain ⟨t, kv, _, _, c0, _⟩ := hel 0 (by omega)
        rw [hadd] at c0
        exact block_lt c0
      have hex : ∀ k, k ≤ len → ∃ ts : List Act', ts.length = k ∧ (∀ t ∈ ts, (-9223372036854775808 ≤ t.N ∧ t.N ≤ 9223372036854775807) ∧ t.S.length ≤ 9223372036854775807) ∧ ∀ i t, ts[i]? = some t → ∃ kv, ActAt w.heap.size b (off + i * 5) t kv w := by
        intro k
        induction k with
        | zero => intro _; exact ⟨[], rfl, by simp, by simp⟩
        | succ k ih =>
          intro hk
          obtain ⟨ts, hl1, hl2, hl4⟩ := ih (by omega)
          obtain ⟨t, kv, hfn, hfit, c0, c1, c2, c3, c4, hkp, hkb⟩ := hel k (by omega)
          rw [hadd] at c0 c1 c2 c3 c4
          refine ⟨ts ++ [t], by simp [hl1], ?_, ?_⟩
          · intro x hx
            rw [List.mem_append, List.mem_singleton] at hx
            rcases hx with hx | rfl
            · exact hl2 x hx
            · exact ⟨hfn, hfit⟩
          · intro i x hx
            by_cases hi : i < ts.length
            · rw [List.getElem?_append_left hi] at hx
              exact hl4 i x hx
            · rw [List.getElem?_append_right (by omega)] at hx
              have hik : i - ts.length = 0 := by
                have := (List.getElem?_eq_some_iff.1 hx).1
                simpa using this
              rw [hik] at hx
              simp only [List.getElem?_cons_zero, Option.some.injEq] at hx
              subst hx
              have hi2 : i = k := by omega
              subst hi2
              exact ⟨kv, ⟨by simpa using c0, by simpa [Nat.add_assoc] using c1, by simpa [Nat.add_assoc] using c2, by simpa [Nat.add_assoc] using c3, by simpa [Nat.add_assoc] using c4, hkp, hkb⟩⟩
      obtain ⟨ts, hl1, hl2, hl4⟩ := hex len (Nat.le_refl _)
      exact ⟨ts, .inr ⟨b, off, cap, by rw [hl1, hcs], hb, hb, hl4⟩, fun t ht => (hl2 t ht).1, fun t ht => (hl2 t ht).2, by omega⟩
end

end Go.Proofs.Ytbljfdjhgleafaa
