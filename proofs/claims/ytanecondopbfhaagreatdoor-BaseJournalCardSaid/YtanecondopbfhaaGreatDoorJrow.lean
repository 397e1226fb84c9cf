/- What the rows' list of variables gives the walks, a world for the witness, and arguments that come in. -/
import Derived.Test.YtanecondopbfhaaGreatDoorJsane
import Derived.Test.YtanecondopbfhaaGreatDoorRows
import Derived.ProofKit
import Derived.LaidMore
import Derived.OpenShut
import Derived.Stop.Joined
import Derived.Stop.LaidErr
import Derived.Lib.LaidTab
import Derived.Deep.Slices
import Derived.Deep.Fields
import Derived.ChangeSame
import Derived.Lib.SmallJoins
import Derived.SliceStrings
import Derived.WideKeyArgs
import Derived.Carry
import Derived.HandedShaped
namespace Go.Proofs.YtanecondopbfhaaGreatDoor
open Go.ChangeShapes Go.WideShapes Go.ChangeAt Go.WideMaps Go.WideElems Go.RowKit
open Cod (Env)

theorem own : ownKnob Tryz.prog.godebug = none := by kernel_rfl
theorem gPow : Tryz.prog.globalNamed "internal/strconv.uint64pow10" = some 0 := by kernel_rfl
theorem gPowType : (Tryz.prog.globals[0]?).map (·.type) = some 187 := by kernel_rfl
theorem gSyn : Tryz.prog.globalNamed "strconv.ErrSyntax" = some 2 := by kernel_rfl
theorem gSynType : (Tryz.prog.globals[2]?).map (·.type) = some 133 := by kernel_rfl
theorem gRan : Tryz.prog.globalNamed "strconv.ErrRange" = some 3 := by kernel_rfl
theorem gRanType : (Tryz.prog.globals[3]?).map (·.type) = some 133 := by kernel_rfl
theorem cells_pow : Tryz.prog.cellsOf 187 = 20 := by kernel_rfl
theorem cells_u64 : Tryz.prog.cellsOf 168 = 1 := by kernel_rfl
theorem cells_es : Tryz.prog.cellsOf 205 = 1 := by kernel_rfl
theorem cells_str : Tryz.prog.cellsOf 9 = 1 := by kernel_rfl
theorem star : "*" ++ "errors.errorString" = "*errors.errorString" := by decide
theorem row_es (u : TypeId) (h : Tryz.prog.typeName? 3 u = some "*errors.errorString") : u = 203 :=
  typeName_ptr_named (nm := "errors.errorString") (by rw [star]; kernel_rfl) (by kernel_rfl) (by decide) u (by rw [star]; exact h)

/-- The list of all five rows. -/
def lst : List (String × DataW Unit) := [("math/bits.deBruijn32tab", Rows.laid_math_bits_deBruijn32tab), ("math/bits.deBruijn64tab", Rows.laid_math_bits_deBruijn64tab), ("internal/strconv.uint64pow10", Rows.laid_internal_strconv_uint64pow10), ("strconv.ErrRange", Rows.laid_strconv_ErrRange), ("strconv.ErrSyntax", Rows.laid_strconv_ErrSyntax)]

theorem gBr : Tryz.prog.globalNamed "math/bits.deBruijn64tab" = some 5 := by kernel_rfl
theorem heap_of {W : World} (h : laidMet Tryz.prog lst W) : 6 ≤ W.heap.size := by
  obtain ⟨ps, ⟨g', t', cs, fuel, p, q, hg', ht', hvar, _⟩, _⟩ := h.tail
  obtain rfl := Option.some.inj (gBr.symm.trans hg')
  rcases Nat.lt_or_ge 5 W.heap.size with h' | h'
  · exact h'
  · unfold World.var? at hvar
    rw [gBr] at hvar
    simp [Array.getElem?_eq_none h'] at hvar
theorem env_of {W : World} (h : laidMetH Tryz.prog lst W) : Env W := by
  rw [MakeChecks.laidMetH_plain _ _ _ (by kernel_rfl)] at h
  have hs := heap_of h
  have h3 := h.tail.tail
  have ht : Lib.TabIs Tryz.prog W "internal/strconv.uint64pow10" .u64 Lib.pow10Tab :=
    Lib.tabIs_of_head (rest := [("strconv.ErrRange", Rows.laid_strconv_ErrRange), ("strconv.ErrSyntax", Rows.laid_strconv_ErrSyntax)]) gPow gPowType Tryz.underlying187 Tryz.underlying168 cells_u64 cells_pow h3
  have h4 := h3.tail
  obtain ⟨a1, s1, hv1, _, _, _⟩ := laid_sentinel h4 gRan gRanType Tryz.underlying133 row_es Tryz.underlying203 Tryz.underlying205 rfl rfl Tryz.underlying9 cells_es cells_str
  obtain ⟨a2, s2, hv2, _, _, _⟩ := laid_sentinel h4.tail gSyn gSynType Tryz.underlying133 row_es Tryz.underlying203 Tryz.underlying205 rfl rfl Tryz.underlying9 cells_es cells_str
  refine ⟨hs, ht, ⟨203, .pointer (some a2), ?_⟩, ⟨203, .pointer (some a1), ?_⟩⟩
  · exact World.var?_cell gSyn hv2 0
  · exact World.var?_cell gRan hv1 0

theorem door_met (os : Os) (args : Array Value) : laidMetH Tryz.prog lst ((World.doorLaid Tryz.prog 62 os).forCall (fun _ _ => 0) ⟨#[], args, []⟩).memory :=
  laidMetH_of_parts3 (fuel := 8) (laidMet_of_run' 8 (by kernel_rfl) (by kernel_rfl)) (by kernel_rfl) (by kernel_rfl)
theorem int_of_wf {x : Int} (h : (Lit.int .i64 x).wf = true) : Cod.isInt x := by
  simp only [Lit.wf, Bool.and_eq_true, decide_eq_true_eq] at h
  exact h

/-- The law's last step: the call has made blocks, and nothing that was there has turned. -/
theorem post_below {H : Type} {enc : TypeId × Value → H} {P : Program} {f : Func} {s : ChangeSpec} {apart fresh handsOn again : Bool} {W W' : World} {args : Array Value} {v : Value} {ds gs : List (DataW H)} {before pa pv : List MemPlace}
    (hW : DataW.Whole enc P f.params.toList s.vars apart W args.toList ds gs before)
    (hres : ∀ (b : Nat) (sp : Nat → Bool) (hd : Bool), DataW.TrodAll enc P W' b sp hd f.resultTypes.toList (v.resultList f.resultTypes.size) (s.fn H (ds ++ gs)).results [])
    (hargs : ∀ sp : Nat → Bool, (∀ p ∈ before, sp p.block = true) → DataW.TrodAll enc P W' 0 sp true f.params.toList args.toList (s.fn H (ds ++ gs)).args pa)
    (hvars : ∀ sp : Nat → Bool, (∀ p ∈ before, sp p.block = true) → DataW.TrodVars enc P W' sp s.vars (s.fn H (ds ++ gs)).vars pv)
    (hps : before = pa ++ pv) (hb : Below W.heap.size W W')
    (hok : ∀ (j : Nat) (t : TypeId) (r : Value), f.resultTypes[j]? = some t → (v.resultList f.resultTypes.size)[j]? = some r → Value.okWide P W' .any 0 t r) :
    s.post enc P f apart fresh handsOn again W args v W' := by
  have hlt : ∀ p ∈ before, p.block < W.heap.size := fun p hp => hW.lt p hp
  have hold : ∀ p ∈ before, (fun b => decide (b < W.heap.size)) p.block = true := fun p hp => by simpa using hlt p hp
  refine ⟨ds, gs, before, [], pa, pv, hW, hres _ _ _, hargs _ hold, hvars _ hold, World.keptBut_mono (fun p hp => ⟨hp, ?_⟩) (hb.frame (· ∈ before)), fun _ => ?_⟩
  · rw [hps, List.mem_append] at hp
    exact Or.inr hp
  · obtain ⟨_, _, _, _, _, hz, hn⟩ := hW
    refine ⟨hok, _, _, ([] ++ pa) ++ pv, ⟨[] ++ pa, pv, trodAll_append (hargs _ (fun _ _ => rfl)) (hres _ _ _), hvars _ (fun _ _ => rfl), rfl, ?_, ?_⟩, ?_⟩
    · intro b off hp
      have hin : MemPlace.cell b off ∈ before := by rw [hps]; simpa using hp
      rw [hb.frozen (hlt _ hin)]
      exact hz b off hin
    · intro ha
      have := hn ha
      rw [hps] at this
      simpa using this
    · intro p hp _
      rw [hps]
      simpa using hp

section
variable {H : Type} {enc : TypeId × Value → H} {w : World}

theorem block_lt {b o : Nat} {v : Value} (h : w.cell? ⟨b, o, none⟩ = some v) : b < w.heap.size := by
  rcases Nat.lt_or_ge b w.heap.size with h' | h'
  · exact h'
  · simp [World.cell?, Array.getElem?_eq_none h'] at h

/-- A slice of ints that came in. -/
theorem in_keep {fuel : Nat} {v : Value} {y : DataW H × List MemPlace} (h : DataW.trod enc Tryz.prog w 0 (fun _ => true) true fuel 36 [v] = some y) :
    ∃ xs, KeepAt w v xs ∧ (∀ i, inBlock v i → i < w.heap.size) ∧ xs.length ≤ 9223372036854775807 := by
  rcases open_ints Tryz.underlying36 Tryz.underlying3 (by kernel_rfl) h with ⟨hcs, -⟩ | ⟨a, len, cap, zs, hcs, -, hl, hm, hz, -, hcell, hwz⟩
  · simp only [List.cons.injEq, and_true] at hcs
    exact ⟨[], .inl ⟨⟨none, 0, hcs⟩, rfl⟩, fun i ⟨o, n, c, e⟩ => by rw [hcs] at e; simp at e, by simp⟩
  · simp only [List.cons.injEq, and_true] at hcs
    have hz2 : zs.length = cap := by simpa using hz
    unfold maxLen at hm
    have hlt : (zs.take len).length = len := by rw [List.length_take]; omega
    by_cases h0 : len = 0
    · subst h0
      exact ⟨[], .inl ⟨⟨some a, cap, hcs⟩, rfl⟩, fun i ⟨o, n, c, e⟩ => by rw [hcs] at e; simp at e, by simp⟩
    · obtain ⟨b, off, rfl, hc⟩ := ints_at hcell (by omega)
      have hb : b < w.heap.size := block_lt (hc 0 (by omega))
      refine ⟨zs.take len, .inr ⟨b, off, cap, by rw [hlt, hcs], hb, fun i x hx => ?_⟩, fun i ⟨o, n, c, e⟩ => ?_, by omega⟩
      · have hi : i < (zs.take len).length := (List.getElem?_eq_some_iff.1 hx).1
        have h1 := hc i (by omega)
        rw [List.getElem?_take_of_lt (by omega)] at hx
        rw [h1]
        simp [hx]
      · rw [hcs] at e
        simp at e
        rw [← e.1.1]
        exact hb

/-- A slice of strings that came in. -/
theorem in_texts {fuel : Nat} {v : Value} {y : DataW H × List MemPlace} (h : DataW.trod enc Tryz.prog w 0 (fun _ => true) true fuel 46 [v] = some y) :
    ∃ xs, IsTexts v xs w ∧ (∀ a n c, v = .slice a n c → n ≤ c) ∧ (∀ x ∈ xs, x.length ≤ 9223372036854775807) ∧ xs.length ≤ 9223372036854775807 := by
  rcases open_strings Tryz.underlying46 Tryz.underlying9 (by kernel_rfl) h with ⟨hcs, -⟩ | ⟨a, len, cap, ss, hcs, -, hl, hm, hz, -, hcell, hws⟩
  · simp only [List.cons.injEq, and_true] at hcs
    exact ⟨[], .inl ⟨⟨none, 0, hcs⟩, rfl⟩, fun a n c e => by rw [hcs] at e; simp only [Value.slice.injEq] at e; omega, by simp, by simp⟩
  · simp only [List.cons.injEq, and_true] at hcs
    have hz2 : ss.length = cap := by simpa using hz
    unfold maxLen at hm hws
    have hlt : ((ss.take len).map fun s => s.data.toList).length = len := by rw [List.length_map, List.length_take]; omega
    refine ⟨(ss.take len).map fun s => s.data.toList, ?_, fun a' n c e => by rw [hcs] at e; simp only [Value.slice.injEq] at e; omega, fun x hx => ?_, by omega⟩
    · by_cases h0 : len = 0
      · exact .inl ⟨⟨some a, cap, by rw [hcs, h0]⟩, by rw [h0]; rfl⟩
      · obtain ⟨b, off, spot⟩ := a
        have hspot : spot = none := by simpa [Addr.add] using World.cell?_spot (hcell 0 (by omega))
        subst hspot
        have hc : ∀ j, j < ss.length → w.cell? ⟨b, off + j, none⟩ = some (.string (ss.getD j ByteArray.empty)) := fun j hj => by rw [← Go.WideShapes.add_plain]; exact hcell j hj
        have hb : b < w.heap.size := by
          have h1 := hc 0 (by omega)
          rcases Nat.lt_or_ge b w.heap.size with h' | h'
          · exact h'
          · simp [World.cell?, Array.getElem?_eq_none h'] at h1
        refine .inr ⟨b, off, cap, by rw [hlt, hcs], hb, fun i x hx => ?_⟩
        have hi : i < len := by
          have := (List.getElem?_eq_some_iff.1 hx).1
          omega
        rw [hc i (by omega)]
        rw [List.getElem?_map, List.getElem?_take_of_lt hi] at hx
        obtain ⟨s, hs, rfl⟩ := Option.map_eq_some_iff.1 hx
        rw [List.getD_eq_getElem?_getD, hs]
        show some (Value.string s) = some (Value.string (bs s.data.toList))
        rw [bs_of]
    · obtain ⟨s, hs, rfl⟩ := List.mem_map.1 hx
      rw [← Lib.size_eq]
      exact hws s (List.mem_of_mem_take hs)

end

end Go.Proofs.YtanecondopbfhaaGreatDoor
