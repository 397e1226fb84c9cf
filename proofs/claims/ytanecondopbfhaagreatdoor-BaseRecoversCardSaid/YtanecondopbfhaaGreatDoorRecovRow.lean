/- BaseRecovers: after a crash the records of the journal are the encodings of a prefix of the values, which contains all that were synced, and they are decoded to these values; further values that are appended and synced follow them after another crash. Condition: the library's tables and errors hold what their initialisers lay (tied by the card). -/
import Derived.Test.YtanecondopbfhaaGreatDoorRecov
import Derived.Test.YtanecondopbfhaaGreatDoorCards
import Derived.Test.YtanecondopbfhaaGreatDoorTie
import Derived.SevenTiedAt
namespace Go.Proofs.YtanecondopbfhaaGreatDoor
section
open Go.ChangeShapes Go.WideShapes Go.Deep
variable {H : Type} {enc : TypeId × Value → H} {P : Program} {w : World} {base : Nat} {spare : Nat → Bool} {held : Bool}
theorem open_slice_fields {t e : TypeId} {fs : Array Field} {fuel : Nat} {cs : List Value} {x : DataW H × List MemPlace} (ht : P.underlying t = some (.slice e)) (he : P.underlying e = some (.struct fs))
    (hone : oneCellFields P fs = true) (hC : P.cellsOf e = fs.size) (h : DataW.trod enc P w base spare held fuel t cs = some x) :
    (cs = [.slice none 0 0] ∧ x = (.nil, [])) ∨
    ∃ (a : Addr) (len cap m : Nat) (D : Nat → DataW H) (Pl : Nat → List MemPlace), cs = [.slice (some a) len cap] ∧ base ≤ a.block ∧ len ≤ cap ∧ cap ≤ maxLen ∧ m = (if spare a.block then cap else len) ∧
      x = (.slice ((List.range len).map D) ((List.range (m - len)).map fun j => D (len + j)), MemPlace.row a (m * fs.size) ++ (List.range m).flatMap Pl) ∧
      ∀ i, i < m → ∃ (ys : List (DataW H × List MemPlace)) (n : Nat), D i = .agg (ys.map (·.1)) ∧ Pl i = ys.flatMap (·.2) ∧ ys.length = fs.size ∧
        ∀ (j : Nat) (f : Field), fs[j]? = some f → ∃ (v : Value) (y : DataW H × List MemPlace), w.cell? (a.add (i * fs.size + j)) = some v ∧ ys[j]? = some y ∧ DataW.trod enc P w base spare held n f.type [v] = some y := by
  rcases open_slice ht h with h0 | ⟨a, len, cap, m, n, D, Pl, hcs, hb, hl, hm, hmm, hx, hi⟩
  · exact .inl h0
  · refine .inr ⟨a, len, cap, m, D, Pl, hcs, hb, hl, hm, hmm, by rw [hC] at hx; exact hx, fun i him => ?_⟩
    obtain ⟨cs', hc, ht'⟩ := hi i him
    rw [hC] at hc
    obtain ⟨ys, n', hn', hy, hlen, hyl, hf⟩ := DataW.trod_struct he ht'
    obtain ⟨_, hcl, hat⟩ := World.cells?_some hc
    simp only [Prod.mk.injEq] at hy
    refine ⟨ys, n', hy.1, hy.2, hyl, fun j f hj => ?_⟩
    obtain ⟨ho, hk⟩ := hone_of hone j f hj
    have hjl : j < fs.size := (Array.getElem?_eq_some_iff.1 hj).1
    have hcell := hat j hjl
    have hv : cs'[j]? = some (cs'[j]'(by omega)) := List.getElem?_eq_getElem (by omega)
    have h1 := hf j f hj
    rw [ho, hk] at h1
    have hone' : (cs'.drop j).take 1 = [cs'[j]'(by omega)] := by
      rw [List.drop_eq_getElem_cons (by omega)]
      rfl
    rw [hone'] at h1
    have hys : ys[j]? = some (ys[j]'(by omega)) := List.getElem?_eq_getElem (by omega)
    refine ⟨_, _, ?_, hys, h1.trans hys⟩
    rw [← Go.Deep.add_add, hcell, hv]
end

namespace Cod
open Go.ChangeShapes Go.WideShapes Go.ChangeAt Go.WideMaps Go.WideElems Go.RowKit
section
variable {H : Type} {enc : TypeId × Value → H} {w : World}

/-- A slice of ints that came in. -/
theorem in_ints {fuel : Nat} {v : Value} {y : DataW H × List MemPlace} (h : DataW.trod enc Tryz.prog w 0 (fun _ => true) true fuel 36 [v] = some y) :
    ∃ xs, IsInts v xs w ∧ (∀ x ∈ xs, isInt x) ∧ xs.length ≤ 9223372036854775807 := by
  rcases open_ints Tryz.underlying36 Tryz.underlying3 (by kernel_rfl) h with ⟨hcs, -⟩ | ⟨a, len, cap, zs, hcs, -, hl, hm, hz, -, hcell, hwz⟩
  · simp only [List.cons.injEq, and_true] at hcs
    exact ⟨[], .inl ⟨⟨none, 0, hcs⟩, rfl⟩, by simp, by simp⟩
  · simp only [List.cons.injEq, and_true] at hcs
    have hz2 : zs.length = cap := by simpa using hz
    unfold maxLen at hm
    have hlt : (zs.take len).length = len := by rw [List.length_take]; omega
    refine ⟨zs.take len, ?_, fun x hx => int_of_wf (hwz x (List.mem_of_mem_take hx)), by omega⟩
    by_cases h0 : len = 0
    · exact .inl ⟨⟨some a, cap, by rw [hcs, h0]⟩, by rw [h0]; rfl⟩
    · obtain ⟨b, off, rfl, hc⟩ := ints_at hcell (by omega)
      have hb : b < w.heap.size := by
        have h1 := hc 0 (by omega)
        rcases Nat.lt_or_ge b w.heap.size with h' | h'
        · exact h'
        · simp [World.cell?, Array.getElem?_eq_none h'] at h1
      refine .inr ⟨b, off, cap, by rw [hlt, hcs], hb, fun i x hx => ?_⟩
      have hi : i < (zs.take len).length := (List.getElem?_eq_some_iff.1 hx).1
      rw [hc i (by omega)]
      rw [List.getElem?_take_of_lt (by omega)] at hx
      rw [List.getD_eq_getElem?_getD, hx]; rfl
/-- A slice of strings that came in. -/
theorem in_texts {fuel : Nat} {v : Value} {y : DataW H × List MemPlace} (h : DataW.trod enc Tryz.prog w 0 (fun _ => true) true fuel 46 [v] = some y) :
    ∃ xs, IsTexts v xs w ∧ (∀ x ∈ xs, x.length ≤ 9223372036854775807) ∧ xs.length ≤ 9223372036854775807 := by
  rcases open_strings Tryz.underlying46 Tryz.underlying9 (by kernel_rfl) h with ⟨hcs, -⟩ | ⟨a, len, cap, ss, hcs, -, hl, hm, hz, -, hcell, hws⟩
  · simp only [List.cons.injEq, and_true] at hcs
    exact ⟨[], .inl ⟨⟨none, 0, hcs⟩, rfl⟩, by simp, by simp⟩
  · simp only [List.cons.injEq, and_true] at hcs
    have hz2 : ss.length = cap := by simpa using hz
    unfold maxLen at hm hws
    have hlt : ((ss.take len).map fun s => s.data.toList).length = len := by rw [List.length_map, List.length_take]; omega
    refine ⟨(ss.take len).map fun s => s.data.toList, ?_, fun x hx => ?_, by omega⟩
    · by_cases h0 : len = 0
      · exact .inl ⟨⟨some a, cap, by rw [hcs, h0]⟩, by rw [h0]; rfl⟩
      · obtain ⟨b, off, spot⟩ := a
        have hspot : spot = none := by simpa [Addr.add] using World.cell?_spot (hcell 0 (by omega))
        subst hspot
        have hc : ∀ j, j < ss.length → w.cell? ⟨b, off + j, none⟩ = some (.string (ss.getD j ByteArray.empty)) := fun j hj => by rw [← Go.WideShapes.add_plain]; exact hcell j hj
        have hb : b < w.heap.size := by
          have h1 := hc 0 (by omega)
          rcases Nat.lt_or_ge b w.heap.size with h' | h'
          · exact h'
          · simp [World.cell?, Array.getElem?_eq_none h'] at h1
        refine .inr ⟨b, off, cap, by rw [hlt, hcs], hb, fun i x hx => ?_⟩
        have hi : i < len := by
          have := (List.getElem?_eq_some_iff.1 hx).1
          omega
        rw [hc i (by omega)]
        rw [List.getElem?_map, List.getElem?_take_of_lt hi] at hx
        obtain ⟨s, hs, rfl⟩ := Option.map_eq_some_iff.1 hx
        rw [List.getD_eq_getElem?_getD, hs]
        show some (Value.string s) = some (Value.string (bs s.data.toList))
        rw [bs_of]
    · obtain ⟨s, hs, rfl⟩ := List.mem_map.1 hx
      rw [← Lib.size_eq]
      exact hws s (List.mem_of_mem_take hs)

/-- What is said of a value beside its cells. -/
def ValFit (v : Val) : Prop := v.l.length ≤ 9223372036854775807 ∧ v.t.length ≤ 9223372036854775807 ∧ (bs v.s).size ≤ 9223372036854775807
/-- Five cells that read as a value. -/
theorem in_val {n : Nat} {v0 v1 v2 v3 v4 : Value} {y0 y1 y2 y3 y4 : DataW H × List MemPlace} (h0 : DataW.trod enc Tryz.prog w 0 (fun _ => true) true n 3 [v0] = some y0) (h1 : DataW.trod enc Tryz.prog w 0 (fun _ => true) true n 3 [v1] = some y1)
    (h2 : DataW.trod enc Tryz.prog w 0 (fun _ => true) true n 9 [v2] = some y2) (h3 : DataW.trod enc Tryz.prog w 0 (fun _ => true) true n 36 [v3] = some y3) (h4 : DataW.trod enc Tryz.prog w 0 (fun _ => true) true n 46 [v4] = some y4) :
    ∃ v, ValIs v v0 v1 v2 v3 v4 w ∧ ValFit v := by
  obtain ⟨k, e0, -, wk⟩ := DataW.trod_int Tryz.underlying3 h0
  obtain ⟨i, e1, -, wi⟩ := DataW.trod_int Tryz.underlying3 h1
  obtain ⟨s, e2, -, hs⟩ := DataW.trod_string Tryz.underlying9 h2
  simp only [List.cons.injEq, and_true] at e0 e1 e2
  subst e0 e1 e2
  obtain ⟨l, hl, hli, hll⟩ := in_ints h3
  obtain ⟨t, ht, htt, htl⟩ := in_texts h4
  refine ⟨⟨k, i, s.data.toList, l, t⟩, ⟨rfl, rfl, by rw [bs_of], hl, ht, int_of_wf wk, int_of_wf wi, hli⟩, hll, htl, ?_⟩
  rw [bs_of]
  exact hs

/-- A slice of values that came in. -/
theorem in_vals {fuel : Nat} {u : Value} {y : DataW H × List MemPlace} (h : DataW.trod enc Tryz.prog w 0 (fun _ => true) true fuel 61 [u] = some y) :
    ∃ vs, IsVals u vs w ∧ (∀ v ∈ vs, ValFit v) ∧ vs.length ≤ 9223372036854775807 ∧ (∀ v ∈ vs, isInt v.n ∧ ∀ x ∈ v.l, isInt x) ∧ ∀ a n c, u = .slice a n c → n ≤ c := by
  rcases open_slice_fields Tryz.underlying61 Tryz.underlying65 (by kernel_rfl) (by kernel_rfl) h with ⟨hcs, -⟩ | ⟨a, len, cap, m, D, Pl, hcs, -, hl, hm, hmm, -, hf⟩
  · simp only [List.cons.injEq, and_true] at hcs
    exact ⟨[], .inl ⟨⟨none, 0, hcs⟩, rfl⟩, by simp, by simp, by simp, fun a n c e => by rw [hcs] at e; simp only [Value.slice.injEq] at e; omega⟩
  · simp only [List.cons.injEq, and_true] at hcs
    unfold maxLen at hm
    have hcap : ∀ a n c, u = .slice a n c → n ≤ c := fun a n c e => by rw [hcs] at e; simp only [Value.slice.injEq] at e; omega
    have hm2 : len ≤ m := by rw [hmm]; split <;> omega
    -- each element's five cells
    have hel : ∀ i, i < m → ∃ (v0 v1 v2 v3 v4 : Value) (v : Val), ValIs v v0 v1 v2 v3 v4 w ∧ ValFit v ∧ w.cell? (a.add (i * 5 + 0)) = some v0 ∧ w.cell? (a.add (i * 5 + 1)) = some v1 ∧ w.cell? (a.add (i * 5 + 2)) = some v2 ∧ w.cell? (a.add (i * 5 + 3)) = some v3 ∧ w.cell? (a.add (i * 5 + 4)) = some v4 := by
      intro i hi
      obtain ⟨ys, n, -, -, -, hj⟩ := hf i hi
      obtain ⟨v0, y0, c0, -, t0⟩ := hj 0 _ rfl
      obtain ⟨v1, y1, c1, -, t1⟩ := hj 1 _ rfl
      obtain ⟨v2, y2, c2, -, t2⟩ := hj 2 _ rfl
      obtain ⟨v3, y3, c3, -, t3⟩ := hj 3 _ rfl
      obtain ⟨v4, y4, c4, -, t4⟩ := hj 4 _ rfl
      obtain ⟨v, hv, hfit⟩ := in_val t0 t1 t2 t3 t4
      exact ⟨v0, v1, v2, v3, v4, v, hv, hfit, c0, c1, c2, c3, c4⟩
    by_cases h0 : len = 0
    · exact ⟨[], .inl ⟨⟨some a, cap, by rw [hcs, h0]⟩, rfl⟩, by simp, by simp, by simp, hcap⟩
    · obtain ⟨b, off, spot⟩ := a
      have hspot : spot = none := by
        obtain ⟨v0, _, _, _, _, _, _, _, c0, _⟩ := hel 0 (by omega)
        simpa [Addr.add] using World.cell?_spot c0
      subst hspot
      have hadd : ∀ k, (⟨b, off, none⟩ : Addr).add k = ⟨b, off + k, none⟩ := fun k => Go.WideShapes.add_plain ..
      have hb : b < w.heap.size := by
        obtain ⟨v0, _, _, _, _, _, _, _, c0, _⟩ := hel 0 (by omega)
        rw [hadd] at c0
        rcases Nat.lt_or_ge b w.heap.size with h' | h'
        · exact h'
        · simp [World.cell?, Array.getElem?_eq_none h'] at c0
      have hex : ∀ k, k ≤ len → ∃ vs : List Val, vs.length = k ∧ (∀ v ∈ vs, ValFit v) ∧ (∀ v ∈ vs, isInt v.n ∧ ∀ x ∈ v.l, isInt x) ∧ ∀ i v, vs[i]? = some v → ValAt b (off + i * 5) v w := by
        intro k
        induction k with
        | zero => intro _; exact ⟨[], rfl, by simp, by simp, by simp⟩
        | succ k ih =>
          intro hk
          obtain ⟨vs, hl1, hl2, hl3, hl4⟩ := ih (by omega)
          obtain ⟨v0, v1, v2, v3, v4, v, hv, hfit, c0, c1, c2, c3, c4⟩ := hel k (by omega)
          rw [hadd] at c0 c1 c2 c3 c4
          refine ⟨vs ++ [v], by simp [hl1], ?_, ?_, ?_⟩
          · intro x hx
            rw [List.mem_append, List.mem_singleton] at hx
            rcases hx with hx | rfl
            · exact hl2 x hx
            · exact hfit
          · intro x hx
            rw [List.mem_append, List.mem_singleton] at hx
            rcases hx with hx | rfl
            · exact hl3 x hx
            · exact ⟨hv.2.2.2.2.2.2.1, hv.2.2.2.2.2.2.2⟩
          · intro i x hx
            by_cases hi : i < vs.length
            · rw [List.getElem?_append_left hi] at hx
              exact hl4 i x hx
            · rw [List.getElem?_append_right (by omega)] at hx
              have hik : i - vs.length = 0 := by
                have := (List.getElem?_eq_some_iff.1 hx).1
                simpa using this
              rw [hik] at hx
              simp only [List.getElem?_cons_zero, Option.some.injEq] at hx
              subst hx
              have hi2 : i = k := by omega
              subst hi2
              exact ⟨v0, v1, v2, v3, v4, hv, by simpa using c0, by simpa [Nat.add_assoc] using c1, by simpa [Nat.add_assoc] using c2, by simpa [Nat.add_assoc] using c3, by simpa [Nat.add_assoc] using c4⟩
      obtain ⟨vs, hl1, hl2, hl3, hl4⟩ := hex len (Nat.le_refl _)
      exact ⟨vs, .inr ⟨b, off, cap, by rw [hl1, hcs], hb, hl4⟩, hl2, by omega, hl3, hcap⟩
end
end Cod

theorem u8_wf {x : Int} (h : (Lit.int .u8 x).wf = true) : 0 ≤ x ∧ x < 256 := by
  simp only [Lit.wf, Bool.and_eq_true, decide_eq_true_eq] at h
  rw [show IntKind.u8.min = 0 from rfl, show IntKind.u8.max = 255 from rfl] at h
  omega

open Go.ChangeShapes Go.WideShapes Go.ChangeAt Go.WideMaps Go.WideElems Go.RowKit

set_option maxRecDepth 100000 in
theorem recovers_lifted (os : Os) (started : os.Started) (H : Type) (enc : TypeId × Value → H) :
    ReturnsInHanded {} Tryz.checked os 6 .any (fun w args => (Rows.baseRecoversSpec.pre enc Tryz.prog Tryz.f6 [] false w args ∧ laidMetH Tryz.prog lst w) ∧ sizedMet enc Tryz.prog Tryz.f6 (OpenSpec.ofChange Rows.baseRecoversSpec) false w args)
      (Rows.baseRecoversSpec.post enc Tryz.prog Tryz.f6 false true false false) := by
  refine returnsInHanded_of_change_and (C := Tryz.checked) (X := fun w _ => laidMetH Tryz.prog lst w) (fun _ _ _ hh h => h.of_heap hh) own started (by kernel_rfl) Tryz.func6
    (ChangeSpec.witness_shaped (enc := enc) (C := Tryz.checked) (os := os) (X := fun w _ => laidMetH Tryz.prog lst w) false (World.doorLaid Tryz.prog 62 os) #[.slice none 0 0, .int .u8 0, .slice none 0 0, .slice none 0 0] 8 rfl (World.shaped_of_RefB (by kernel_rfl) (by kernel_rfl)) (by kernel_rfl) (by kernel_rfl) (by kernel_rfl) (door_met os _)) ?_
  intro W base args ds gs before hval0 hW _ _ hL _
  have hval : ∀ (j : Nat) t v, Tryz.f6.params[j]? = some t → args[j]? = some v → Value.okWide Tryz.prog W .any base t v := hval0
  have hW' := hW
  obtain ⟨p, q, hA0, hV, rfl, hfz, hnd⟩ := hW
  have hA : DataW.TrodAll enc Tryz.prog W 0 (fun _ => true) true Tryz.f6.params.toList args.toList ds p := hA0
  rw [Tryz.params6] at hA hval
  obtain ⟨v0, v1, v2, v3, d0, d1, d2, d3, p0, p1, p2, p3, rfl, rfl, rfl, h0, h1, h2, h3⟩ := trodAll_four hA
  obtain ⟨rfl, rfl⟩ := trodVars_none hV
  have hE := env_of hL
  have h0k := h0
  have h2k := h2
  have h3k := h3
  have hu0 : ∃ vs, Cod.IsVals v0 vs W ∧ (∀ v ∈ vs, Cod.ValFit v) ∧ vs.length ≤ 9223372036854775807 ∧ (∀ v ∈ vs, Cod.isInt v.n ∧ ∀ x ∈ v.l, Cod.isInt x) ∧ ∀ a n c, v0 = .slice a n c → n ≤ c := by
    obtain ⟨a, n, c, rfl⟩ := okWide_slice Tryz.underlying61 (hval 0 61 v0 rfl rfl)
    obtain ⟨fuel, hf⟩ := h0
    exact Cod.in_vals hf
  obtain ⟨x1, rfl, rfl, rfl, b1⟩ := open_int Tryz.underlying5 (hval 1 5 v1 rfl rfl) h1
  have hu2 : ∃ xs, KeepAt W v2 xs ∧ (∀ i, inBlock v2 i → i < W.heap.size) ∧ xs.length ≤ 9223372036854775807 := by
    obtain ⟨a, n, c, rfl⟩ := okWide_slice Tryz.underlying36 (hval 2 36 v2 rfl rfl)
    obtain ⟨fuel, hf⟩ := h2
    exact in_keep hf
  have hu3 : ∃ vs, Cod.IsVals v3 vs W ∧ (∀ v ∈ vs, Cod.ValFit v) ∧ vs.length ≤ 9223372036854775807 ∧ (∀ v ∈ vs, Cod.isInt v.n ∧ ∀ x ∈ v.l, Cod.isInt x) ∧ ∀ a n c, v3 = .slice a n c → n ≤ c := by
    obtain ⟨a, n, c, rfl⟩ := okWide_slice Tryz.underlying61 (hval 3 61 v3 rfl rfl)
    obtain ⟨fuel, hf⟩ := h3
    exact Cod.in_vals hf
  obtain ⟨l, hl, hlf, hll, hli, hlc⟩ := hu0
  obtain ⟨zs, hk, hkb, hkl⟩ := hu2
  obtain ⟨more, hm, hmf, hml, hmi, -⟩ := hu3
  have hx := u8_wf b1
  obtain ⟨sy, rfl⟩ := Int.eq_ofNat_of_zero_le hx.1
  clear hA0 hval0
  simp only [List.append_nil] at hW'
  refine (recovers_any hl hlc hm hll hml hlf hmf hli hmi (by omega) hk hkb hkl hE).mono fun e W' ⟨he, hb⟩ => ?_
  subst he
  have hlt0 : ∀ x ∈ p0, x.block < W.heap.size := fun x hx => hW'.lt x (by simp [hx])
  have hlt2 : ∀ x ∈ p2, x.block < W.heap.size := fun x hx => hW'.lt x (by simp [hx])
  have hlt3 : ∀ x ∈ p3, x.block < W.heap.size := fun x hx => hW'.lt x (by simp [hx])
  exact ⟨_, rfl, post_below (pv := []) hW' (fun _ _ _ => trodAll_mk1 (shut_bool Tryz.underlying4 _))
    (fun sp hsp => trodAll_mk4
      (Go.WideElems.Trod_stays laidOut (by kernel_rfl) (of_decide_eq_true (by kernel_rfl)) h0k (fun x hx => hb.same (hlt0 x hx)) (fun x hx => hsp x (by simp [hx])))
      (shut_int Tryz.underlying5 b1)
      (Go.WideElems.Trod_stays laidOut (by kernel_rfl) (of_decide_eq_true (by kernel_rfl)) h2k (fun x hx => hb.same (hlt2 x hx)) (fun x hx => hsp x (by simp [hx])))
      (Go.WideElems.Trod_stays laidOut (by kernel_rfl) (of_decide_eq_true (by kernel_rfl)) h3k (fun x hx => hb.same (hlt3 x hx)) (fun x hx => hsp x (by simp [hx]))))
    (fun _ _ => rfl) (by simp) hb (ok_one (by kernel_rfl) rfl (okWide_bool_mk Tryz.underlying4 _))⟩

theorem recovers_said : Rows.BaseRecoversSaid :=
  OpenClaim.holds_of_wide 6 Tryz.f6 rfl rfl rfl rfl rfl rfl rfl ⟨rfl, rfl, rfl, rfl, rfl⟩ rfl rfl rfl rfl rfl (by kernel_rfl) Tryz.func6 (by kernel_rfl)
    (of_decide_eq_true (by kernel_rfl)) (by unfold Func.isWrapper; rw [if_neg (of_decide_eq_false (by kernel_rfl))]; exact ⟨rfl, rfl⟩)
    (fun os started H enc _ => recovers_lifted os started H enc)

theorem recovers_plain (f : FuncId) (fn : Func) (hf : Tryz.pinned.checked.prog.funcNamed "cloak/cloaklaw01.BaseRecovers" = some f) (hfn : Tryz.pinned.checked.prog.funcs[f]? = some fn) :
    true = Tryz.pinned.checked.prog.looks [] ∧ ∀ (j : Nat) t, fn.params[j]? = some t → Tryz.pinned.checked.prog.wantsStandIn t = false := by
  obtain rfl : f = 6 := Option.some.inj ((show Tryz.prog.funcNamed "cloak/cloaklaw01.BaseRecovers" = some 6 by kernel_rfl).symm.trans hf) |>.symm
  obtain rfl : fn = Tryz.f6 := (Option.some.inj (Tryz.func6.symm.trans hfn)).symm
  refine ⟨by kernel_rfl, fun j t ht => ?_⟩
  rw [Tryz.params6] at ht
  have hor : t = 61 ∨ t = 5 ∨ t = 36 ∨ t = 61 := by simpa using Array.mem_of_getElem? ht
  rcases hor with rfl | rfl | rfl | rfl
  · exact (show Tryz.prog.wantsStandIn 61 = false by kernel_rfl)
  · exact (show Tryz.prog.wantsStandIn 5 = false by kernel_rfl)
  · exact (show Tryz.prog.wantsStandIn 36 = false by kernel_rfl)
  · exact (show Tryz.prog.wantsStandIn 61 = false by kernel_rfl)

theorem recovers_card : Rows.BaseRecoversCardSaid :=
  Claim7.holds_tied_plain_at .later [] _ _ _ _ recovers_said (fun _ h => by cases h) (by kernel_rfl) (fun _ h => by cases h) baseRecovers_row_tie rfl ⟨rfl, rfl⟩ (by kernel_rfl) rfl recovers_plain (by kernel_rfl)
#print axioms recovers_card

end Go.Proofs.YtanecondopbfhaaGreatDoor
