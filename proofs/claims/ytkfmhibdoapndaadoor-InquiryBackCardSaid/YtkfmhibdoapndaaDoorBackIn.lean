/- Openings and votes that came in. -/
import Derived.Test.YtkfmhibdoapndaaDoorJlay
import Derived.Test.YtkfmhibdoapndaaDoorBackL
namespace Go.Proofs.YtkfmhibdoapndaaDoor
section
open Go.ChangeShapes Go.WideShapes Go.Deep
variable {H : Type} {enc : TypeId × Value → H} {P : Program} {w : World} {base : Nat} {spare : Nat → Bool} {held : Bool}
theorem open_slice_fields {t e : TypeId} {fs : Array Field} {fuel : Nat} {cs : List Value} {x : DataW H × List MemPlace} (ht : P.underlying t = some (.slice e)) (he : P.underlying e = some (.struct fs))
    (hone : oneCellFields P fs = true) (hC : P.cellsOf e = fs.size) (h : DataW.trod enc P w base spare held fuel t cs = some x) :
    (cs = [.slice none 0 0] ∧ x = (.nil, [])) ∨
    ∃ (a : Addr) (len cap m : Nat) (D : Nat → DataW H) (Pl : Nat → List MemPlace), cs = [.slice (some a) len cap] ∧ base ≤ a.block ∧ len ≤ cap ∧ cap ≤ maxLen ∧ m = (if spare a.block then cap else len) ∧
      x = (.slice ((List.range len).map D) ((List.range (m - len)).map fun j => D (len + j)), MemPlace.row a (m * fs.size) ++ (List.range m).flatMap Pl) ∧
      ∀ i, i < m → ∃ (ys : List (DataW H × List MemPlace)) (n : Nat), D i = .agg (ys.map (·.1)) ∧ Pl i = ys.flatMap (·.2) ∧ ys.length = fs.size ∧
        ∀ (j : Nat) (f : Field), fs[j]? = some f → ∃ (v : Value) (y : DataW H × List MemPlace), w.cell? (a.add (i * fs.size + j)) = some v ∧ ys[j]? = some y ∧ DataW.trod enc P w base spare held n f.type [v] = some y := by
  rcases open_slice ht h with h0 | ⟨a, len, cap, m, n, D, Pl, hcs, hb, hl, hm, hmm, hx, hi⟩
  · exact .inl h0
  · refine .inr ⟨a, len, cap, m, D, Pl, hcs, hb, hl, hm, hmm, by rw [hC] at hx; exact hx, fun i him => ?_⟩
    obtain ⟨cs', hc, ht'⟩ := hi i him
    rw [hC] at hc
    obtain ⟨ys, n', hn', hy, hlen, hyl, hf⟩ := DataW.trod_struct he ht'
    obtain ⟨_, hcl, hat⟩ := World.cells?_some hc
    simp only [Prod.mk.injEq] at hy
    refine ⟨ys, n', hy.1, hy.2, hyl, fun j f hj => ?_⟩
    obtain ⟨ho, hk⟩ := hone_of hone j f hj
    have hjl : j < fs.size := (Array.getElem?_eq_some_iff.1 hj).1
    have hcell := hat j hjl
    have hv : cs'[j]? = some (cs'[j]'(by omega)) := List.getElem?_eq_getElem (by omega)
    have h1 := hf j f hj
    rw [ho, hk] at h1
    have hone' : (cs'.drop j).take 1 = [cs'[j]'(by omega)] := by
      rw [List.drop_eq_getElem_cons (by omega)]
      rfl
    rw [hone'] at h1
    have hys : ys[j]? = some (ys[j]'(by omega)) := List.getElem?_eq_getElem (by omega)
    refine ⟨_, _, ?_, hys, h1.trans hys⟩
    rw [← Go.Deep.add_add, hcell, hv]
end

open Go.ChangeShapes Go.WideShapes Go.ChangeAt Go.WideMaps Go.WideElems Go.RowKit Go.Deep
section
variable {H : Type} {enc : TypeId × Value → H} {w : World}
theorem cellsOp : Tryd.prog.cellsOf 37 = 6 := by kernel_rfl
theorem cellsVo : Tryd.prog.cellsOf 42 = 8 := by kernel_rfl
theorem cellsSg : Tryd.prog.cellsOf 40 = 2 := by kernel_rfl
theorem cellsPp : Tryd.prog.cellsOf 38 = 1 := by kernel_rfl
theorem bytes_of {s : ByteArray} (h : s.size ≤ maxLen) : s = bs s.data.toList ∧ s.data.toList.length ≤ 9223372036854775807 := by
  refine ⟨(bs_of s).symm, ?_⟩
  rw [← Lib.size_eq]
  exact h
theorem in_pts {fuel : Nat} {u : Value} {y : DataW H × List MemPlace} (h : DataW.trod enc Tryd.prog w 0 (fun _ => true) true fuel 38 [u] = some y) :
    ∃ l : List Pt, IsPts u l w ∧ (∀ p ∈ l, isInt p.1 ∧ isInt p.2.1 ∧ isInt p.2.2) ∧ l.length ≤ 9223372036854775807 := by
  rcases open_slice_fields Tryd.underlying38 Tryd.underlying67 (by kernel_rfl) (by kernel_rfl) h with ⟨hcs, -⟩ | ⟨a, len, cap, m, D, Pl, hcs, -, hl, hm, hmm, -, hf⟩
  · simp only [List.cons.injEq, and_true] at hcs
    exact ⟨[], .inl ⟨⟨none, 0, hcs⟩, rfl⟩, by simp, by simp⟩
  · simp only [List.cons.injEq, and_true] at hcs
    unfold maxLen at hm
    have hm2 : len ≤ m := by rw [hmm]; split <;> omega
    by_cases h0 : len = 0
    · exact ⟨[], .inl ⟨⟨some a, cap, by rw [hcs, h0]⟩, rfl⟩, by simp, by simp⟩
    · obtain ⟨b, off, spot⟩ := a
      have hel : ∀ i, ∃ p : Pt, i < m → (isInt p.1 ∧ isInt p.2.1 ∧ isInt p.2.2) ∧ w.cell? ((⟨b, off, spot⟩ : Addr).add (i * 3 + 0)) = some (.int .i64 p.1) ∧ w.cell? ((⟨b, off, spot⟩ : Addr).add (i * 3 + 1)) = some (.int .i64 p.2.1) ∧ w.cell? ((⟨b, off, spot⟩ : Addr).add (i * 3 + 2)) = some (.int .i64 p.2.2) := by
        intro i
        by_cases hi : i < m
        · obtain ⟨ys, n, -, -, -, hj⟩ := hf i hi
          obtain ⟨v0, y0, c0, -, t0⟩ := hj 0 _ rfl
          obtain ⟨v1, y1, c1, -, t1⟩ := hj 1 _ rfl
          obtain ⟨v2, y2, c2, -, t2⟩ := hj 2 _ rfl
          obtain ⟨n0, rfl, k0⟩ := in_int t0
          obtain ⟨n1, rfl, k1⟩ := in_int t1
          obtain ⟨n2, rfl, k2⟩ := in_int t2
          exact ⟨(n0, n1, n2), fun _ => ⟨⟨k0, k1, k2⟩, c0, c1, c2⟩⟩
        · exact ⟨(0, 0, 0), fun h => absurd h hi⟩
      obtain ⟨X, hX⟩ : ∃ X : Nat → Pt, ∀ i, i < m → (isInt (X i).1 ∧ isInt (X i).2.1 ∧ isInt (X i).2.2) ∧ w.cell? ((⟨b, off, spot⟩ : Addr).add (i * 3 + 0)) = some (.int .i64 (X i).1) ∧ w.cell? ((⟨b, off, spot⟩ : Addr).add (i * 3 + 1)) = some (.int .i64 (X i).2.1) ∧ w.cell? ((⟨b, off, spot⟩ : Addr).add (i * 3 + 2)) = some (.int .i64 (X i).2.2) := ⟨fun i => Classical.choose (hel i), fun i => Classical.choose_spec (hel i)⟩
      have hspot : spot = none := by
        have c0 := (hX 0 (by omega)).2.1
        simpa [Addr.add] using World.cell?_spot c0
      subst hspot
      have hadd : ∀ k, (⟨b, off, none⟩ : Addr).add k = ⟨b, off + k, none⟩ := fun k => Go.WideShapes.add_plain ..
      have hb : b < w.heap.size := by
        have c0 := (hX 0 (by omega)).2.1
        rw [hadd] at c0
        exact block_lt c0
      refine ⟨(List.range len).map X, .inr ⟨b, off, cap, by rw [hcs]; simp, ⟨Nat.zero_le _, hb⟩, fun i p hp => ?_⟩, fun p hp => ?_, by simp; omega⟩
      · obtain ⟨hi, hp⟩ := List.getElem?_eq_some_iff.1 hp
        simp only [List.length_map, List.length_range] at hi
        rw [List.getElem_map, List.getElem_range] at hp
        subst hp
        obtain ⟨-, c0, c1, c2⟩ := hX i (by omega)
        rw [hadd] at c0 c1 c2
        refine ⟨c0, ?_, ?_⟩
        · rw [Nat.add_assoc]; exact c1
        · rw [Nat.add_assoc]; exact c2
      · obtain ⟨i, hi, rfl⟩ := List.mem_map.1 hp
        exact (hX i (by have := List.mem_range.1 hi; omega)).1
set_option maxRecDepth 100000 in
/-- An opening that came in. -/
theorem in_opening {r : Reach} {b0 : Nat} {v : Value} {d : DataW H} {p : List MemPlace} (hv : Value.okWide Tryd.prog w r b0 37 v) (h : DataW.Trod enc Tryd.prog w 0 (fun _ => true) true 37 v d p) :
    ∃ (o : OpD) (vo : Value), v = o.val vo ∧ o.given ∧ IsNums vo o.jurors w := by
  obtain ⟨cs, rfl, hsz⟩ := okWide_struct Tryd.underlying37 hv
  obtain ⟨l⟩ := cs
  match l, hsz.trans cellsOp with
  | [c0, c1, c2, c3, c4, c5], _ =>
    obtain ⟨fuel, hf⟩ := h
    obtain ⟨xs, n, _, _, _, hlen, hg⟩ := DataW.trod_struct Tryd.underlying37 hf
    match xs, hlen with
    | [y0, y1, y2, y3, y4, y5], _ =>
      have g0 : DataW.trod enc Tryd.prog w 0 (fun _ => true) true n 3 (([c0, c1, c2, c3, c4, c5].drop 0).take (Tryd.prog.cellsOf 3)) = some y0 := hg 0 _ rfl
      have g1 : DataW.trod enc Tryd.prog w 0 (fun _ => true) true n 3 (([c0, c1, c2, c3, c4, c5].drop 1).take (Tryd.prog.cellsOf 3)) = some y1 := hg 1 _ rfl
      have g2 : DataW.trod enc Tryd.prog w 0 (fun _ => true) true n 3 (([c0, c1, c2, c3, c4, c5].drop 2).take (Tryd.prog.cellsOf 3)) = some y2 := hg 2 _ rfl
      have g3 : DataW.trod enc Tryd.prog w 0 (fun _ => true) true n 9 (([c0, c1, c2, c3, c4, c5].drop 3).take (Tryd.prog.cellsOf 9)) = some y3 := hg 3 _ rfl
      have g4 : DataW.trod enc Tryd.prog w 0 (fun _ => true) true n 23 (([c0, c1, c2, c3, c4, c5].drop 4).take (Tryd.prog.cellsOf 23)) = some y4 := hg 4 _ rfl
      have g5 : DataW.trod enc Tryd.prog w 0 (fun _ => true) true n 3 (([c0, c1, c2, c3, c4, c5].drop 5).take (Tryd.prog.cellsOf 3)) = some y5 := hg 5 _ rfl
      rw [cellsInt] at g0 g1 g2 g5
      rw [cellsStr] at g3
      rw [cellsIs] at g4
      obtain ⟨k0, rfl, h0⟩ := in_int g0
      obtain ⟨k1, rfl, h1⟩ := in_int g1
      obtain ⟨k2, rfl, h2⟩ := in_int g2
      obtain ⟨s3, rfl, h3⟩ := in_string g3
      obtain ⟨e3, l3⟩ := bytes_of h3
      obtain ⟨ws, j1, j2, j3, -⟩ := in_ints g4
      obtain ⟨k5, rfl, h5⟩ := in_int g5
      refine ⟨⟨k0, k1, k2, s3.data.toList, ws, k5⟩, c4, ?_, ⟨h0, h1, h2, h5, l3, j3, j2⟩, j1⟩
      unfold OpD.val OpD.cells
      simp only
      rw [← e3]
set_option maxRecDepth 100000 in
/-- A vote that came in. -/
theorem in_vote {r : Reach} {b0 : Nat} {v : Value} {d : DataW H} {p : List MemPlace} (hv : Value.okWide Tryd.prog w r b0 42 v) (h : DataW.Trod enc Tryd.prog w 0 (fun _ => true) true 42 v d p) :
    ∃ (x : VoteD) (vp : Value), v = x.val vp ∧ x.given ∧ IsPts vp x.pts w := by
  obtain ⟨cs, rfl, hsz⟩ := okWide_struct Tryd.underlying42 hv
  obtain ⟨l⟩ := cs
  match l, hsz.trans cellsVo with
  | [c0, c1, c2, c3, c4, c5, c6, c7], _ =>
    obtain ⟨fuel, hf⟩ := h
    obtain ⟨xs, n, _, _, _, hlen, hg⟩ := DataW.trod_struct Tryd.underlying42 hf
    match xs, hlen with
    | [y0, y1, y2, y3, y4, y5, y6], _ =>
      have g0 : DataW.trod enc Tryd.prog w 0 (fun _ => true) true n 3 (([c0, c1, c2, c3, c4, c5, c6, c7].drop 0).take (Tryd.prog.cellsOf 3)) = some y0 := hg 0 _ rfl
      have g1 : DataW.trod enc Tryd.prog w 0 (fun _ => true) true n 3 (([c0, c1, c2, c3, c4, c5, c6, c7].drop 1).take (Tryd.prog.cellsOf 3)) = some y1 := hg 1 _ rfl
      have g2 : DataW.trod enc Tryd.prog w 0 (fun _ => true) true n 3 (([c0, c1, c2, c3, c4, c5, c6, c7].drop 2).take (Tryd.prog.cellsOf 3)) = some y2 := hg 2 _ rfl
      have g3 : DataW.trod enc Tryd.prog w 0 (fun _ => true) true n 3 (([c0, c1, c2, c3, c4, c5, c6, c7].drop 3).take (Tryd.prog.cellsOf 3)) = some y3 := hg 3 _ rfl
      have g4 : DataW.trod enc Tryd.prog w 0 (fun _ => true) true n 9 (([c0, c1, c2, c3, c4, c5, c6, c7].drop 4).take (Tryd.prog.cellsOf 9)) = some y4 := hg 4 _ rfl
      have g5 : DataW.trod enc Tryd.prog w 0 (fun _ => true) true n 38 (([c0, c1, c2, c3, c4, c5, c6, c7].drop 5).take (Tryd.prog.cellsOf 38)) = some y5 := hg 5 _ rfl
      have g6 : DataW.trod enc Tryd.prog w 0 (fun _ => true) true n 40 (([c0, c1, c2, c3, c4, c5, c6, c7].drop 6).take (Tryd.prog.cellsOf 40)) = some y6 := hg 6 _ rfl
      rw [cellsInt] at g0 g1 g2 g3
      rw [cellsStr] at g4
      rw [cellsPp] at g5
      rw [cellsSg] at g6
      obtain ⟨zs, n', _, _, _, hlen', hg'⟩ := DataW.trod_struct Tryd.underlying40 g6
      match zs, hlen' with
      | [z0, z1], _ =>
        have s0 : DataW.trod enc Tryd.prog w 0 (fun _ => true) true n' 3 (([c6, c7].drop 0).take (Tryd.prog.cellsOf 3)) = some z0 := hg' 0 _ rfl
        have s1 : DataW.trod enc Tryd.prog w 0 (fun _ => true) true n' 3 (([c6, c7].drop 1).take (Tryd.prog.cellsOf 3)) = some z1 := hg' 1 _ rfl
        rw [cellsInt] at s0 s1
        obtain ⟨k0, rfl, h0⟩ := in_int g0
        obtain ⟨k1, rfl, h1⟩ := in_int g1
        obtain ⟨k2, rfl, h2⟩ := in_int g2
        obtain ⟨k3, rfl, h3⟩ := in_int g3
        obtain ⟨s4, rfl, h4⟩ := in_string g4
        obtain ⟨e4, l4⟩ := bytes_of h4
        obtain ⟨ps, j1, j2, j3⟩ := in_pts g5
        obtain ⟨k6, rfl, h6⟩ := in_int s0
        obtain ⟨k7, rfl, h7⟩ := in_int s1
        refine ⟨⟨k0, k1, k2, k3, s4.data.toList, ps, k6, k7⟩, c5, ?_, ⟨h0, h1, h2, h3, j2, j3, l4⟩, j1⟩
        unfold VoteD.val VoteD.cells
        simp only
        rw [← e4]
end
end Go.Proofs.YtkfmhibdoapndaaDoor
