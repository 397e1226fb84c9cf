/- What the row's list of variables gives the walks; a world for the witness; the law's last step; tickets that came in. -/
import Derived.Test.YtmgamngdmhnffaaGreatDoorTv
import Derived.Test.YtmgamngdmhnffaaGreatDoorRows
import Derived.ProofKit
import Derived.HandedShaped
import Derived.LaidMore
import Derived.OpenShut
import Derived.Stop.Joined
import Derived.Lib.LaidTab
import Derived.Stop.LaidErr
import Derived.Shelf.Vars
import Derived.Lay
import Derived.Deep.Slices
import Derived.Deep.Fields
import Derived.ChangeSame
import Derived.Lib.SmallJoins
import Derived.WideKeyArgs
import Derived.Carry
namespace Go.Proofs.YtmgamngdmhnffaaGreatDoor
open Go.ChangeShapes Go.WideShapes Go.ChangeAt Go.WideMaps Go.WideElems Go.RowKit

theorem change_and_shaped {H : Type} {enc : TypeId × Value → H} {a : Assume} {C : Checked} {os : Os} {f : FuncId} {fn : Func} {s : ChangeSpec} {conds : List PathCond} {apart fresh handsOn again : Bool} {X : World → Array Value → Prop}
    (hX : ∀ (w w' : World) (args : Array Value), w.heap = w'.heap → X w args → X w' args)
    (own : ownKnob C.prog.godebug = none) (started : os.Started) (noInit : C.prog.inits.idxOf? f = none) (hfn : C.prog.funcs[f]? = some fn)
    (witness : ∃ (w : World) (tape : Tape) (i : Input), w.os = os ∧ (w.forCall tape i).Shaped C.prog ∧ i.vars = [] ∧ Input.okWide C.prog (w.forCall tape i) .any w.heap.size f i ∧
      ((s.pre enc C.prog fn conds apart (w.forCall tape i).memory i.args ∧ X (w.forCall tape i).memory i.args) ∧ sizedMet enc C.prog fn (OpenSpec.ofChange s) apart (w.forCall tape i).memory i.args) ∧ a.holds C.prog (lone (Frame.enter C.prog f i.args .normal) [] (w.forCall tape i)))
    (contract : ∀ (W : World) (base : Nat) (args : Array Value) (ds gs : List (DataW H)) (before : List MemPlace),
      (∀ (j : Nat) t v, fn.params[j]? = some t → args[j]? = some v → Value.okWide C.prog W .any base t v) →
      DataW.Whole enc C.prog fn.params.toList s.vars apart W args.toList ds gs before → X W args → W.ShapedOpen C.prog →
      Calls C.prog f args W fun e W' => ∃ v, e = .returned v ∧ s.post enc C.prog fn apart fresh handsOn again W args v W') :
    ReturnsInHanded a C os f .any (fun w args => (s.pre enc C.prog fn conds apart w args ∧ X w args) ∧ sizedMet enc C.prog fn (OpenSpec.ofChange s) apart w args) (s.post enc C.prog fn apart fresh handsOn again) := by
  refine returnsInHanded_of_calls own started noInit witness ?_
  intro w tape i _ hsh _ hok hpre _
  obtain ⟨_, _, _, fn', hfn', _, _, _, _, hval⟩ := hok
  have e : fn' = fn := Option.some.inj (hfn'.symm.trans hfn)
  subst e
  obtain ⟨⟨⟨ds, gs, before, hw, _⟩, hx⟩, _⟩ := hpre
  have hw' := DataW.Whole.of_heap (w' := w.forCall tape i) (by rfl) hw
  refine (contract (w.forCall tape i) w.heap.size i.args ds gs before hval hw' (hX _ _ _ (by rfl) hx) hsh).mono fun e W' ⟨v, he, hp⟩ => ?_
  subst he
  exact ChangeSpec.post_blind hp

theorem own : ownKnob Tryz.prog.godebug = none := by kernel_rfl
theorem gTz : Tryz.prog.globalNamed "math/bits.deBruijn64tab" = some 5 := by kernel_rfl
theorem gTzType : (Tryz.prog.globals[5]?).map (·.type) = some 133 := by kernel_rfl
theorem gPw10 : Tryz.prog.globalNamed "internal/strconv.uint64pow10" = some 4 := by kernel_rfl
theorem gPw10Type : (Tryz.prog.globals[4]?).map (·.type) = some 129 := by kernel_rfl
theorem gSyn : Tryz.prog.globalNamed "strconv.ErrSyntax" = some 6 := by kernel_rfl
theorem gSynType : (Tryz.prog.globals[6]?).map (·.type) = some 92 := by kernel_rfl
theorem gRan : Tryz.prog.globalNamed "strconv.ErrRange" = some 7 := by kernel_rfl
theorem gRanType : (Tryz.prog.globals[7]?).map (·.type) = some 92 := by kernel_rfl
theorem gWi : Tryz.prog.globalNamed "cloak/field.witnesses" = some 0 := by kernel_rfl
theorem gWiType : (Tryz.prog.globals[0]?).map (·.type) = some 114 := by kernel_rfl
theorem cellsTz : Tryz.prog.cellsOf 133 = 64 := by kernel_rfl
theorem cellsWi : Tryz.prog.cellsOf 114 = 12 := by kernel_rfl
theorem cellsU8 : Tryz.prog.cellsOf 5 = 1 := by kernel_rfl
theorem cellsInt : Tryz.prog.cellsOf 3 = 1 := by kernel_rfl
theorem cellsPow : Tryz.prog.cellsOf 129 = 20 := by kernel_rfl
theorem cellsU64 : Tryz.prog.cellsOf 102 = 1 := by kernel_rfl
theorem cellsEs : Tryz.prog.cellsOf 145 = 1 := by kernel_rfl
theorem cellsStr : Tryz.prog.cellsOf 9 = 1 := by kernel_rfl
theorem star : "*" ++ "errors.errorString" = "*errors.errorString" := by decide
theorem rowEs (u : TypeId) (h : Tryz.prog.typeName? 3 u = some "*errors.errorString") : u = 143 :=
  typeName_ptr_named (nm := "errors.errorString") (by rw [star]; kernel_rfl) (by kernel_rfl) (by decide) u (by rw [star]; exact h)

def lst : List (String × DataW Unit) := [("math/bits.deBruijn32tab", Rows.laid_math_bits_deBruijn32tab), ("math/bits.deBruijn64tab", Rows.laid_math_bits_deBruijn64tab), ("internal/strconv.uint64pow10", Rows.laid_internal_strconv_uint64pow10), ("strconv.ErrRange", Rows.laid_strconv_ErrRange), ("strconv.ErrSyntax", Rows.laid_strconv_ErrSyntax), ("cloak/field.witnesses", Rows.laid_cloak_field_witnesses)]
def tzZ : List Int := Lib.deBruijn64tab.map fun n : Nat => (n : Int)
def wiZ : List Int := witL.map fun n : Nat => (n : Int)
theorem dTz : (Rows.laid_math_bits_deBruijn64tab : DataW Unit) = Lib.tabData .u8 tzZ := by kernel_rfl
theorem dWi : (Rows.laid_cloak_field_witnesses : DataW Unit) = Lib.tabData .i64 wiZ := by kernel_rfl
theorem getD_map {α : Type} (f : α → Int) (L : List α) (i : Nat) (x : α) (h : L[i]? = some x) : i < (L.map f).length ∧ (L.map f).getD i 0 = f x := by
  have hl := (List.getElem?_eq_some_iff.1 h).1
  exact ⟨by simpa using hl, by simp [List.getD_eq_getElem?_getD, h]⟩
theorem lo_of {W : World} {name : String} {d : DataW Unit} {L : List (String × DataW Unit)} {g : Nat} (hg : Tryz.prog.globalNamed name = some g) (h : laidMet Tryz.prog ((name, d) :: L) W) : g < W.heap.size := by
  obtain ⟨ps, ⟨g', t', cs, fuel, p, q, hg', ht', hvar, _⟩, _⟩ := h
  obtain rfl := Option.some.inj (hg.symm.trans hg')
  rcases Nat.lt_or_ge g W.heap.size with h' | h'
  · exact h'
  · unfold World.var? at hvar
    rw [hg] at hvar
    simp [Array.getElem?_eq_none h'] at hvar
theorem env_of {W : World} (h : laidMetH Tryz.prog lst W) (_ : W.ShapedOpen Tryz.prog) : Env W ∧ Cod.Env W := by
  rw [MakeChecks.laidMetH_plain _ _ _ (by kernel_rfl)] at h
  unfold lst at h
  have h1 := h.tail
  have h2 := h1.tail
  have h3 := h2.tail
  have h4 := h3.tail
  have h5 := h4.tail
  have l1 := lo_of gTz h1
  have l3 := lo_of gRan h3
  have l4 := lo_of gSyn h4
  have l7 := lo_of gWi h5
  have l2 := lo_of gPw10 h2
  rw [dTz] at h1
  rw [dWi] at h5
  have t1 := Lib.tabIs_of_head gTz gTzType Tryz.underlying133 Tryz.underlying5 cellsU8 cellsTz h1
  have t7 := Lib.tabIs_of_head gWi gWiType Tryz.underlying114 Tryz.underlying3 cellsInt cellsWi h5
  have ht : Lib.TabIs Tryz.prog W "internal/strconv.uint64pow10" .u64 Lib.pow10Tab :=
    Lib.tabIs_of_head (rest := [("strconv.ErrRange", Rows.laid_strconv_ErrRange), ("strconv.ErrSyntax", Rows.laid_strconv_ErrSyntax), ("cloak/field.witnesses", Rows.laid_cloak_field_witnesses)]) gPw10 gPw10Type Tryz.underlying129 Tryz.underlying102 cellsU64 cellsPow h2
  obtain ⟨a1, s1, hv1, _, _, _⟩ := laid_sentinel h3 gRan gRanType Tryz.underlying92 rowEs Tryz.underlying143 Tryz.underlying145 rfl rfl Tryz.underlying9 cellsEs cellsStr
  obtain ⟨a2, s2, hv2, _, _, _⟩ := laid_sentinel h4 gSyn gSynType Tryz.underlying92 rowEs Tryz.underlying143 Tryz.underlying145 rfl rfl Tryz.underlying9 cellsEs cellsStr
  refine ⟨⟨⟨l7, l1⟩, ?_, ?_⟩, ⟨by omega, ht, ⟨143, .pointer (some a2), World.var?_cell gSyn hv2 0⟩, ⟨143, .pointer (some a1), World.var?_cell gRan hv1 0⟩⟩⟩
  · intro i p hp
    obtain ⟨h1, h2⟩ := getD_map (fun n : Nat => (n : Int)) witL i p hp
    rw [t7.cell gWi i h1]
    exact congrArg (fun x => some (Value.int .i64 x)) h2
  · intro j hj
    have hp : Lib.deBruijn64tab[j]? = some (Lib.deBruijn64tab.getD j 0) := by rw [List.getD_eq_getElem?_getD, List.getElem?_eq_getElem hj]; rfl
    obtain ⟨h1, h2⟩ := getD_map (fun n : Nat => (n : Int)) Lib.deBruijn64tab j _ hp
    rw [t1.cell gTz j h1]
    exact congrArg (fun x => some (Value.int .u8 x)) h2
theorem lay_met (os : Os) (args : Array Value) : laidMetH Tryz.prog lst ((World.laidAll Tryz.prog os lst).forCall (fun _ _ => 0) ⟨#[], args, []⟩).memory := by
  rw [MakeChecks.laidMetH_plain _ _ _ (by kernel_rfl)]
  exact laidMet_laidAll args (by kernel_rfl) (by kernel_rfl)
theorem lay_shaped (os : Os) : (World.laidAll Tryz.prog os lst).Shaped Tryz.prog := World.shaped_of_ZipB (by kernel_rfl) (by kernel_rfl)

/-- The law's last step: the call has made blocks, and nothing that was there has turned. -/
theorem post_below {H : Type} {enc : TypeId × Value → H} {P : Program} {f : Func} {s : ChangeSpec} {apart fresh handsOn again : Bool} {W W' : World} {args : Array Value} {v : Value} {ds gs : List (DataW H)} {before pa pv : List MemPlace}
    (hW : DataW.Whole enc P f.params.toList s.vars apart W args.toList ds gs before)
    (hres : ∀ (b : Nat) (sp : Nat → Bool) (hd : Bool), DataW.TrodAll enc P W' b sp hd f.resultTypes.toList (v.resultList f.resultTypes.size) (s.fn H (ds ++ gs)).results [])
    (hargs : ∀ sp : Nat → Bool, (∀ p ∈ before, sp p.block = true) → DataW.TrodAll enc P W' 0 sp true f.params.toList args.toList (s.fn H (ds ++ gs)).args pa)
    (hvars : ∀ sp : Nat → Bool, (∀ p ∈ before, sp p.block = true) → DataW.TrodVars enc P W' sp s.vars (s.fn H (ds ++ gs)).vars pv)
    (hps : before = pa ++ pv) (hb : Below W.heap.size W W')
    (hok : ∀ (j : Nat) (t : TypeId) (r : Value), f.resultTypes[j]? = some t → (v.resultList f.resultTypes.size)[j]? = some r → Value.okWide P W' .any 0 t r) :
    s.post enc P f apart fresh handsOn again W args v W' := by
  have hlt : ∀ p ∈ before, p.block < W.heap.size := fun p hp => hW.lt p hp
  have hold : ∀ p ∈ before, (fun b => decide (b < W.heap.size)) p.block = true := fun p hp => by simpa using hlt p hp
  refine ⟨ds, gs, before, [], pa, pv, hW, hres _ _ _, hargs _ hold, hvars _ hold, World.keptBut_mono (fun p hp => ⟨hp, ?_⟩) (hb.frame (· ∈ before)), fun _ => ?_⟩
  · rw [hps, List.mem_append] at hp
    exact Or.inr hp
  · obtain ⟨_, _, _, _, _, hz, hn⟩ := hW
    refine ⟨hok, _, _, ([] ++ pa) ++ pv, ⟨[] ++ pa, pv, trodAll_append (hargs _ (fun _ _ => rfl)) (hres _ _ _), hvars _ (fun _ _ => rfl), rfl, ?_, ?_⟩, ?_⟩
    · intro b off hp
      have hin : MemPlace.cell b off ∈ before := by rw [hps]; simpa using hp
      rw [hb.frozen (hlt _ hin)]
      exact hz b off hin
    · intro ha
      have := hn ha
      rw [hps] at this
      simpa using this
    · intro p hp _
      rw [hps]
      simpa using hp
open Go.Deep
theorem laidOut : laidOutB Tryz.prog = true := by kernel_rfl
theorem int_of_wf {x : Int} (h : (Lit.int .i64 x).wf = true) : isInt x := by
  simp only [Lit.wf, Bool.and_eq_true, decide_eq_true_eq] at h
  rw [show IntKind.i64.min = -9223372036854775808 from rfl, show IntKind.i64.max = 9223372036854775807 from rfl] at h
  exact h
section
variable {H : Type} {enc : TypeId × Value → H} {w : World}
/-- An int that came in. -/
theorem in_int {n : Nat} {v : Value} {y : DataW H × List MemPlace} (h : DataW.trod enc Tryz.prog w 0 (fun _ => true) true n 3 [v] = some y) : ∃ x, v = .int .i64 x ∧ isInt x := by
  obtain ⟨k, e0, -, w0⟩ := DataW.trod_int Tryz.underlying3 h
  simp only [List.cons.injEq, and_true] at e0
  exact ⟨k, e0, int_of_wf w0⟩
theorem cellsTk : Tryz.prog.cellsOf 23 = 6 := by kernel_rfl
set_option maxRecDepth 100000 in
/-- A ticket that came in. -/
theorem in_ticket {r : Reach} {b0 : Nat} {v : Value} {d : DataW H} {p : List MemPlace} (hv : Value.okWide Tryz.prog w r b0 23 v) (h : DataW.Trod enc Tryz.prog w 0 (fun _ => true) true 23 v d p) :
    ∃ t : TktD, v = t.val ∧ t.ints := by
  obtain ⟨cs, rfl, hsz⟩ := okWide_struct Tryz.underlying23 hv
  obtain ⟨l⟩ := cs
  match l, hsz.trans cellsTk with
  | [c0, c1, c2, c3, c4, c5], _ =>
    obtain ⟨fuel, hf⟩ := h
    obtain ⟨xs, n, _, _, _, hlen, hg⟩ := DataW.trod_struct Tryz.underlying23 hf
    match xs, hlen with
    | [y0, y1, y2, y3, y4, y5], _ =>
      have g0 : DataW.trod enc Tryz.prog w 0 (fun _ => true) true n 3 (([c0, c1, c2, c3, c4, c5].drop 0).take (Tryz.prog.cellsOf 3)) = some y0 := hg 0 _ rfl
      have g1 : DataW.trod enc Tryz.prog w 0 (fun _ => true) true n 3 (([c0, c1, c2, c3, c4, c5].drop 1).take (Tryz.prog.cellsOf 3)) = some y1 := hg 1 _ rfl
      have g2 : DataW.trod enc Tryz.prog w 0 (fun _ => true) true n 3 (([c0, c1, c2, c3, c4, c5].drop 2).take (Tryz.prog.cellsOf 3)) = some y2 := hg 2 _ rfl
      have g3 : DataW.trod enc Tryz.prog w 0 (fun _ => true) true n 3 (([c0, c1, c2, c3, c4, c5].drop 3).take (Tryz.prog.cellsOf 3)) = some y3 := hg 3 _ rfl
      have g4 : DataW.trod enc Tryz.prog w 0 (fun _ => true) true n 3 (([c0, c1, c2, c3, c4, c5].drop 4).take (Tryz.prog.cellsOf 3)) = some y4 := hg 4 _ rfl
      have g5 : DataW.trod enc Tryz.prog w 0 (fun _ => true) true n 3 (([c0, c1, c2, c3, c4, c5].drop 5).take (Tryz.prog.cellsOf 3)) = some y5 := hg 5 _ rfl
      rw [cellsInt] at g0 g1 g2 g3 g4 g5
      obtain ⟨k0, rfl, h0⟩ := in_int g0
      obtain ⟨k1, rfl, h1⟩ := in_int g1
      obtain ⟨k2, rfl, h2⟩ := in_int g2
      obtain ⟨k3, rfl, h3⟩ := in_int g3
      obtain ⟨k4, rfl, h4⟩ := in_int g4
      obtain ⟨k5, rfl, h5⟩ := in_int g5
      exact ⟨⟨k0, k1, k2, k3, k4, k5⟩, rfl, ⟨h0, h1, h2, h3, h4, h5⟩⟩
end
end Go.Proofs.YtmgamngdmhnffaaGreatDoor
