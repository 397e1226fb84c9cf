/- Goals and proofs that come in. -/
import Derived.Test.YthnkfjjgccabeaaGreatDoorLessA
import Derived.Test.YthnkfjjgccabeaaGreatDoorFewP
import Derived.Deep.Fields
namespace Go.Proofs.YthnkfjjgccabeaaGreatDoor
open Go.ChangeShapes Go.WideShapes Go.ChangeAt Go.WideMaps Go.WideElems Go.RowKit Go.Deep
section
variable {P : Program} {H : Type} {enc : TypeId × Value → H} {w : World} {base : Nat} {spare : Nat → Bool} {held : Bool}
/-- A slice of structs that comes in, each field a cell. -/
theorem open_slice_fields {t e : TypeId} {fs : Array Field} {fuel : Nat} {cs : List Value} {x : DataW H × List MemPlace} (ht : P.underlying t = some (.slice e)) (he : P.underlying e = some (.struct fs))
    (hone : oneCellFields P fs = true) (hC : P.cellsOf e = fs.size) (h : DataW.trod enc P w base spare held fuel t cs = some x) :
    (cs = [.slice none 0 0] ∧ x = (.nil, [])) ∨
    ∃ (a : Addr) (len cap m : Nat), cs = [.slice (some a) len cap] ∧ len ≤ cap ∧ cap ≤ maxLen ∧ m = (if spare a.block then cap else len) ∧
      ∀ i, i < m → ∃ (ys : List (DataW H × List MemPlace)) (n : Nat),
        ∀ (j : Nat) (f : Field), fs[j]? = some f → ∃ (v : Value) (y : DataW H × List MemPlace), w.cell? (a.add (i * fs.size + j)) = some v ∧ ys[j]? = some y ∧ DataW.trod enc P w base spare held n f.type [v] = some y := by
  rcases open_slice ht h with h0 | ⟨a, len, cap, m, n, D, Pl, hcs, hb, hl, hm, hmm, hx, hi⟩
  · exact .inl h0
  · refine .inr ⟨a, len, cap, m, hcs, hl, hm, hmm, fun i him => ?_⟩
    obtain ⟨cs', hc, ht'⟩ := hi i him
    rw [hC] at hc
    obtain ⟨ys, n', hn', hy, hlen, hyl, hf⟩ := DataW.trod_struct he ht'
    obtain ⟨_, hcl, hat⟩ := World.cells?_some hc
    refine ⟨ys, n', fun j f hj => ?_⟩
    obtain ⟨ho, hk⟩ := hone_of hone j f hj
    have hjl : j < fs.size := (Array.getElem?_eq_some_iff.1 hj).1
    have hcell := hat j hjl
    have hv : cs'[j]? = some (cs'[j]'(by omega)) := List.getElem?_eq_getElem (by omega)
    have h1 := hf j f hj
    rw [ho, hk] at h1
    have hone' : (cs'.drop j).take 1 = [cs'[j]'(by omega)] := by
      rw [List.drop_eq_getElem_cons (by omega)]
      rfl
    rw [hone'] at h1
    have hys : ys[j]? = some (ys[j]'(by omega)) := List.getElem?_eq_getElem (by omega)
    refine ⟨_, _, ?_, hys, h1.trans hys⟩
    rw [← Go.Deep.add_add, hcell, hv]
end
section
variable {H : Type} {enc : TypeId × Value → H} {w : World}
/-- A slice's elements, made a list. -/
theorem in_gen {α : Type} (size : Nat) (one : Reads α) (ok : α → Prop) {u : Value} {a : Addr} {len cap m : Nat} (hcs : u = .slice (some a) len cap) (hl : len ≤ cap) (hm : cap ≤ maxLen) (hm2 : len ≤ m)
    (hel : ∀ i, i < m → ∃ x : α, ok x ∧ (∃ v, w.cell? (a.add (i * size)) = some v) ∧ ∀ b off, (∀ k, a.add k = ⟨b, off + k, none⟩) → one b (off + i * size) x w) :
    ∃ l : List α, IsSl 0 size one u l w ∧ (∀ x ∈ l, ok x) ∧ okL l ∧ ∀ a n c, u = .slice a n c → n ≤ c := by
  unfold maxLen at hm
  have hcap : ∀ a n c, u = .slice a n c → n ≤ c := fun a' n c e => by rw [hcs] at e; simp only [Value.slice.injEq] at e; omega
  by_cases h0 : len = 0
  · exact ⟨[], .inl ⟨⟨some a, cap, by rw [hcs, h0]⟩, rfl⟩, by simp, by simp [okL], hcap⟩
  · obtain ⟨b, off, spot⟩ := a
    obtain ⟨x0, -, ⟨v0, c0⟩, -⟩ := hel 0 (by omega)
    have hspot : spot = none := by simpa [Addr.add] using World.cell?_spot c0
    subst hspot
    have hadd : ∀ k, (⟨b, off, none⟩ : Addr).add k = ⟨b, off + k, none⟩ := fun k => Go.WideShapes.add_plain ..
    have hb : b < w.heap.size := by
      rw [hadd] at c0
      rcases Nat.lt_or_ge b w.heap.size with h' | h'
      · exact h'
      · simp [World.cell?, Array.getElem?_eq_none h'] at c0
    have key : ∀ n, n ≤ len → ∃ l : List α, l.length = n ∧ (∀ x ∈ l, ok x) ∧ ∀ i x, l[i]? = some x → one b (off + i * size) x w := by
      intro n
      induction n with
      | zero => exact fun _ => ⟨[], rfl, by simp, by simp⟩
      | succ n ih =>
        intro hn
        obtain ⟨l, h1, h2, h3⟩ := ih (by omega)
        obtain ⟨x, k1, -, k2⟩ := hel n (by omega)
        refine ⟨l ++ [x], by simp [h1], fun y hy => ?_, fun i y hy => ?_⟩
        · rcases List.mem_append.1 hy with hy | hy
          · exact h2 y hy
          · simp at hy; subst hy; exact k1
        · rw [List.getElem?_append] at hy
          split at hy
          · exact h3 i y hy
          · rename_i hi
            have h6 : i - l.length < 1 := by
              rcases Nat.lt_or_ge (i - l.length) 1 with h | h
              · exact h
              · rw [List.getElem?_eq_none (by simpa using h)] at hy; cases hy
            obtain rfl : i = n := by omega
            rw [h1, Nat.sub_self] at hy
            obtain rfl := Option.some.inj hy
            exact k2 b off hadd
    obtain ⟨l, h1, h2, h3⟩ := key len (Nat.le_refl _)
    exact ⟨l, .inr ⟨b, off, cap, by rw [hcs, h1], ⟨Nat.zero_le _, hb⟩, h3⟩, h2, by unfold okL; omega, hcap⟩
theorem in_nil {α : Type} (size : Nat) (one : Reads α) (ok : α → Prop) {u : Value} (h : [u] = [Value.slice none 0 0]) : ∃ l : List α, IsSl 0 size one u l w ∧ (∀ x ∈ l, ok x) ∧ okL l ∧ ∀ a n c, u = .slice a n c → n ≤ c := by
  simp only [List.cons.injEq, and_true] at h
  exact ⟨[], .inl ⟨⟨none, 0, h⟩, rfl⟩, by simp, by simp [okL], fun a n c e => by rw [h] at e; simp only [Value.slice.injEq] at e; omega⟩
theorem len_of {sp : Bool} {len cap m : Nat} (hl : len ≤ cap) (h : m = if sp then cap else len) : len ≤ m := by rw [h]; split <;> omega

theorem in_terms {fuel : Nat} {u : Value} {y : DataW H × List MemPlace} (h : DataW.trod enc Tryz.prog w 0 (fun _ => true) true fuel 89 [u] = some y) :
    ∃ l : List (Int × Int), IsTerms 0 u l w ∧ (∀ t ∈ l, isInt t.1 ∧ isInt t.2) ∧ okL l ∧ ∀ a n c, u = .slice a n c → n ≤ c := by
  rcases open_slice_fields Tryz.underlying89 Tryz.underlying93 (by kernel_rfl) (by kernel_rfl) h with ⟨hcs, -⟩ | ⟨a, len, cap, m, hcs, hl, hm, hmm, hf⟩
  · exact in_nil 2 TermAt _ hcs
  · simp only [List.cons.injEq, and_true] at hcs
    refine in_gen 2 TermAt (fun t => isInt t.1 ∧ isInt t.2) hcs hl hm (len_of hl hmm) fun i hi => ?_
    obtain ⟨ys, n, hj⟩ := hf i hi
    obtain ⟨v0, y0, c0, -, t0⟩ := hj 0 _ rfl
    obtain ⟨v1, y1, c1, -, t1⟩ := hj 1 _ rfl
    obtain ⟨n0, rfl, k0⟩ := in_int t0
    obtain ⟨n1, rfl, k1⟩ := in_int t1
    exact ⟨(n0, n1), ⟨k0, k1⟩, ⟨_, c0⟩, fun b off e => ⟨by rw [← e]; exact c0, by rw [Nat.add_assoc, ← e]; exact c1⟩⟩
def okEqD (e : EqD) : Prop := isInt e.target ∧ (∀ t ∈ e.terms, isInt t.1 ∧ isInt t.2) ∧ okL e.terms
theorem in_eqs {fuel : Nat} {u : Value} {y : DataW H × List MemPlace} (h : DataW.trod enc Tryz.prog w 0 (fun _ => true) true fuel 64 [u] = some y) :
    ∃ l : List EqD, IsEqs 0 u l w ∧ (∀ e ∈ l, okEqD e) ∧ okL l ∧ ∀ a n c, u = .slice a n c → n ≤ c := by
  rcases open_slice_fields Tryz.underlying64 Tryz.underlying91 (by kernel_rfl) (by kernel_rfl) h with ⟨hcs, -⟩ | ⟨a, len, cap, m, hcs, hl, hm, hmm, hf⟩
  · exact in_nil 2 (EqAt 0) _ hcs
  · simp only [List.cons.injEq, and_true] at hcs
    refine in_gen 2 (EqAt 0) okEqD hcs hl hm (len_of hl hmm) fun i hi => ?_
    obtain ⟨ys, n, hj⟩ := hf i hi
    obtain ⟨v0, y0, c0, -, t0⟩ := hj 0 _ rfl
    obtain ⟨v1, y1, c1, -, t1⟩ := hj 1 _ rfl
    obtain ⟨n0, rfl, k0⟩ := in_int t0
    obtain ⟨z, k1, k2, k3, -⟩ := in_terms t1
    exact ⟨⟨n0, z⟩, ⟨k0, k2, k3⟩, ⟨_, c0⟩, fun b off e => ⟨by rw [← e]; exact c0, v1, by rw [Nat.add_assoc, ← e]; exact c1, k1⟩⟩
def okClaimD (c : ClaimD) : Prop := isInt c.vars ∧ (∀ e ∈ c.eqs, okEqD e) ∧ okL c.eqs
theorem in_claims {fuel : Nat} {u : Value} {y : DataW H × List MemPlace} (h : DataW.trod enc Tryz.prog w 0 (fun _ => true) true fuel 53 [u] = some y) :
    ∃ l : List ClaimD, IsClaims 0 u l w ∧ (∀ e ∈ l, okClaimD e) ∧ okL l ∧ ∀ a n c, u = .slice a n c → n ≤ c := by
  rcases open_slice_fields Tryz.underlying53 Tryz.underlying66 (by kernel_rfl) (by kernel_rfl) h with ⟨hcs, -⟩ | ⟨a, len, cap, m, hcs, hl, hm, hmm, hf⟩
  · exact in_nil 2 (ClaimAt 0) _ hcs
  · simp only [List.cons.injEq, and_true] at hcs
    refine in_gen 2 (ClaimAt 0) okClaimD hcs hl hm (len_of hl hmm) fun i hi => ?_
    obtain ⟨ys, n, hj⟩ := hf i hi
    obtain ⟨v0, y0, c0, -, t0⟩ := hj 0 _ rfl
    obtain ⟨v1, y1, c1, -, t1⟩ := hj 1 _ rfl
    obtain ⟨n0, rfl, k0⟩ := in_int t0
    obtain ⟨z, k1, k2, k3, -⟩ := in_eqs t1
    exact ⟨⟨n0, z⟩, ⟨k0, k2, k3⟩, ⟨_, c0⟩, fun b off e => ⟨by rw [← e]; exact c0, v1, by rw [Nat.add_assoc, ← e]; exact c1, k1⟩⟩
def okClauseD (c : ClauseD) : Prop := isInt c.need ∧ (∀ e ∈ c.claims, okClaimD e) ∧ okL c.claims
theorem in_goal {fuel : Nat} {u : Value} {y : DataW H × List MemPlace} (h : DataW.trod enc Tryz.prog w 0 (fun _ => true) true fuel 26 [u] = some y) :
    ∃ l : List ClauseD, IsGoal 0 u l w ∧ (∀ e ∈ l, okClauseD e) ∧ okL l ∧ ∀ a n c, u = .slice a n c → n ≤ c := by
  rcases open_slice_fields Tryz.underlying26 Tryz.underlying55 (by kernel_rfl) (by kernel_rfl) h with ⟨hcs, -⟩ | ⟨a, len, cap, m, hcs, hl, hm, hmm, hf⟩
  · exact in_nil 2 (ClauseAt 0) _ hcs
  · simp only [List.cons.injEq, and_true] at hcs
    refine in_gen 2 (ClauseAt 0) okClauseD hcs hl hm (len_of hl hmm) fun i hi => ?_
    obtain ⟨ys, n, hj⟩ := hf i hi
    obtain ⟨v0, y0, c0, -, t0⟩ := hj 0 _ rfl
    obtain ⟨v1, y1, c1, -, t1⟩ := hj 1 _ rfl
    obtain ⟨n0, rfl, k0⟩ := in_int t0
    obtain ⟨z, k1, k2, k3, -⟩ := in_claims t1
    exact ⟨⟨n0, z⟩, ⟨k0, k2, k3⟩, ⟨_, c0⟩, fun b off e => ⟨by rw [← e]; exact c0, v1, by rw [Nat.add_assoc, ← e]; exact c1, k1⟩⟩
theorem cells_one {b : Addr} {cs : List Value} (h : w.cells? 0 b 1 = some cs) : ∃ v, cs = [v] ∧ w.cell? b = some v := by
  obtain ⟨_, hcl, hat⟩ := World.cells?_some h
  match cs, hcl with
  | [v], _ => exact ⟨v, rfl, by have := hat 0 (by omega); simpa [Addr.add] using this⟩
theorem cellsL1 : Tryz.prog.cellsOf 32 = 1 := by kernel_rfl
theorem cellsL2 : Tryz.prog.cellsOf 22 = 1 := by kernel_rfl
theorem cellsL3 : Tryz.prog.cellsOf 23 = 1 := by kernel_rfl
theorem in_lists {fuel : Nat} {u : Value} {y : DataW H × List MemPlace} (h : DataW.trod enc Tryz.prog w 0 (fun _ => true) true fuel 22 [u] = some y) :
    ∃ l : List (List Int), IsLists 0 u l w ∧ (∀ d ∈ l, (∀ x ∈ d, isInt x) ∧ okL d) ∧ okL l ∧ ∀ a n c, u = .slice a n c → n ≤ c := by
  rcases open_slice Tryz.underlying22 h with ⟨hcs, -⟩ | ⟨a, len, cap, m, n, D, Pl, hcs, -, hl, hm, hmm, -, hf⟩
  · exact in_nil 1 (ListAt 0) _ hcs
  · simp only [List.cons.injEq, and_true] at hcs
    refine in_gen 1 (ListAt 0) (fun d => (∀ x ∈ d, isInt x) ∧ okL d) hcs hl hm (len_of hl hmm) fun i hi => ?_
    obtain ⟨cs', hc, ht⟩ := hf i hi
    rw [cellsL1] at hc
    obtain ⟨v, rfl, hv⟩ := cells_one hc
    obtain ⟨xs, k1, k2, k3⟩ := in_ints ht
    exact ⟨xs, ⟨k2, k3⟩, ⟨v, hv⟩, fun b off e => ⟨v, by rw [← e]; exact hv, k1.into⟩⟩
theorem in_tables {fuel : Nat} {u : Value} {y : DataW H × List MemPlace} (h : DataW.trod enc Tryz.prog w 0 (fun _ => true) true fuel 23 [u] = some y) :
    ∃ l : List (List (List Int)), IsTables 0 u l w ∧ (∀ d ∈ l, (∀ b ∈ d, (∀ x ∈ b, isInt x) ∧ okL b) ∧ okL d) ∧ okL l ∧ ∀ a n c, u = .slice a n c → n ≤ c := by
  rcases open_slice Tryz.underlying23 h with ⟨hcs, -⟩ | ⟨a, len, cap, m, n, D, Pl, hcs, -, hl, hm, hmm, -, hf⟩
  · exact in_nil 1 (TableAt 0) _ hcs
  · simp only [List.cons.injEq, and_true] at hcs
    refine in_gen 1 (TableAt 0) (fun d => (∀ b ∈ d, (∀ x ∈ b, isInt x) ∧ okL b) ∧ okL d) hcs hl hm (len_of hl hmm) fun i hi => ?_
    obtain ⟨cs', hc, ht⟩ := hf i hi
    rw [cellsL2] at hc
    obtain ⟨v, rfl, hv⟩ := cells_one hc
    obtain ⟨xs, k1, k2, k3, -⟩ := in_lists ht
    exact ⟨xs, ⟨k2, k3⟩, ⟨v, hv⟩, fun b off e => ⟨v, by rw [← e]; exact hv, k1⟩⟩
theorem cellsProof : Tryz.prog.cellsOf 25 = 2 := by kernel_rfl
set_option maxRecDepth 100000 in
/-- A proof that came in. -/
theorem in_proof {r : Reach} {b0 : Nat} {v : Value} {d : DataW H} {p : List MemPlace} (hv : Value.okWide Tryz.prog w r b0 25 v) (h : DataW.Trod enc Tryz.prog w 0 (fun _ => true) true 25 v d p) :
    ∃ q : ProofD, q.Is 0 v w ∧ q.ok ∧ q.ints := by
  obtain ⟨cs, rfl, hsz⟩ := okWide_struct Tryz.underlying25 hv
  obtain ⟨l⟩ := cs
  match l, hsz.trans cellsProof with
  | [c0, c1], _ =>
    obtain ⟨fuel, hf⟩ := h
    obtain ⟨xs, n, _, _, _, hlen, hg⟩ := DataW.trod_struct Tryz.underlying25 hf
    match xs, hlen with
    | [y0, y1], _ =>
      have g0 : DataW.trod enc Tryz.prog w 0 (fun _ => true) true n 22 (([c0, c1].drop 0).take (Tryz.prog.cellsOf 22)) = some y0 := hg 0 _ rfl
      have g1 : DataW.trod enc Tryz.prog w 0 (fun _ => true) true n 23 (([c0, c1].drop 1).take (Tryz.prog.cellsOf 23)) = some y1 := hg 1 _ rfl
      rw [cellsL2] at g0
      rw [cellsL3] at g1
      obtain ⟨ds, k1, k2, k3, -⟩ := in_lists g0
      obtain ⟨az, j1, j2, j3, -⟩ := in_tables g1
      exact ⟨⟨ds, az⟩, ⟨c0, c1, rfl, k1, j1⟩, ⟨⟨k3, fun x hx => (k2 x hx).2⟩, ⟨j3, fun x hx => ⟨(j2 x hx).2, fun z hz => ((j2 x hx).1 z hz).2⟩⟩⟩, ⟨fun d hd => (k2 d hd).1, fun a ha b hb => ((j2 a ha).1 b hb).1⟩⟩
end
end Go.Proofs.YthnkfjjgccabeaaGreatDoor
