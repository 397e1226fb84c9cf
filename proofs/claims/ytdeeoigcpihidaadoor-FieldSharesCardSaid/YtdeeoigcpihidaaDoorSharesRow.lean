/- FieldShares: for all primes q up to 13, at most 3 different residues xs other than 0, with values, where all polynomials of one more coefficient are at most 2500, exactly one of these polynomials has each value at 0 and the given values at xs. Condition: the listed variables of the program and the library hold what their initialisers lay (tied by the card). -/
import Derived.Test.YtdeeoigcpihidaaDoorShares2
import Derived.Test.YtdeeoigcpihidaaDoorLay
import Derived.Test.YtdeeoigcpihidaaDoorCards
import Derived.Test.YtdeeoigcpihidaaDoorTie
import Derived.SevenTiedAt
namespace Go.Proofs.YtdeeoigcpihidaaDoor
open Go.ChangeShapes Go.WideShapes Go.ChangeAt Go.WideMaps Go.WideElems Go.RowKit
open Go.ChangeMaps (open_string shut_string)

theorem shares_any (q : Int) (hq : 0 ≤ q ∧ q < 256) (u v : Value) (xs ys : List Int) (W : World) (hE : Env W) (hu : IsInts u xs W) (hv : IsInts v ys W) (hxi : ∀ x ∈ xs, isInt x) (hyi : ∀ x ∈ ys, isInt x) (hlx : xs.length ≤ 9223372036854775807) (hly : ys.length ≤ 9223372036854775807) :
    Calls Tryd.prog 5 #[.int .u8 q, u, v] W (Tpost W) := by
  by_cases h : primeB (q % 14) = true ∧ xs.length ≤ 3 ∧ xs.length = ys.length ∧ pwF (q % 14) (xs.length + 1) 1 ≤ 2500
  · exact shares_in q hq u v xs ys hxi hyi W hE hu hv h.1 h.2.1 h.2.2.1 h.2.2.2
  · exact shares_out q hq u v xs ys hlx hly W hE hu hv h
set_option maxRecDepth 100000 in
theorem shares_lifted (os : Os) (started : os.Started) (H : Type) (enc : TypeId × Value → H) :
    ReturnsInHanded {} Tryd.checked os 5 .any (fun w args => (Rows.fieldSharesSpec.pre enc Tryd.prog Tryd.f5 [] false w args ∧ laidMetH Tryd.prog lst w) ∧ sizedMet enc Tryd.prog Tryd.f5 (OpenSpec.ofChange Rows.fieldSharesSpec) false w args)
      (Rows.fieldSharesSpec.post enc Tryd.prog Tryd.f5 false true false false) := by
  refine change_and_shaped (C := Tryd.checked) (X := fun w _ => laidMetH Tryd.prog lst w) (fun _ _ _ hh h => h.of_heap hh) own started (by kernel_rfl) Tryd.func5
    (ChangeSpec.witness_shaped (enc := enc) (C := Tryd.checked) (os := os) (X := fun w _ => laidMetH Tryd.prog lst w) false (World.laidAll Tryd.prog os lst) #[.int .u8 0, .slice none 0 0, .slice none 0 0] 8 rfl (lay_shaped os) (by kernel_rfl) (by kernel_rfl) (by kernel_rfl) (lay_met os _)) ?_
  intro W base args ds gs before hval0 hW hL hsh
  have hval : ∀ (j : Nat) t v, Tryd.f5.params[j]? = some t → args[j]? = some v → Value.okWide Tryd.prog W .any base t v := hval0
  have hW' := hW
  obtain ⟨p, q, hA0, hV, rfl, hfz, hnd⟩ := hW
  have hA : DataW.TrodAll enc Tryd.prog W 0 (fun _ => true) true Tryd.f5.params.toList args.toList ds p := hA0
  rw [Tryd.params5] at hA hval
  obtain ⟨v0, v1, v2, d0, d1, d2, p0, p1, p2, rfl, rfl, rfl, h0, h1, h2⟩ := trodAll_three hA
  obtain ⟨rfl, rfl⟩ := trodVars_none hV
  have h1k := h1
  have h2k := h2
  obtain ⟨x0, rfl, rfl, rfl, b0⟩ := open_int Tryd.underlying5 (hval 0 5 v0 rfl rfl) h0
  have hu0 : ∃ xs, IsInts v1 xs W ∧ (∀ x ∈ xs, isInt x) ∧ xs.length ≤ 9223372036854775807 := by
    obtain ⟨a, n, c, rfl⟩ := okWide_slice Tryd.underlying23 (hval 1 23 v1 rfl rfl)
    obtain ⟨fuel, hf⟩ := h1
    exact in_ints hf
  have hv0 : ∃ xs, IsInts v2 xs W ∧ (∀ x ∈ xs, isInt x) ∧ xs.length ≤ 9223372036854775807 := by
    obtain ⟨a, n, c, rfl⟩ := okWide_slice Tryd.underlying23 (hval 2 23 v2 rfl rfl)
    obtain ⟨fuel, hf⟩ := h2
    exact in_ints hf
  obtain ⟨xs, hu, hxi, hlx⟩ := hu0
  obtain ⟨es, hv, hei, hly⟩ := hv0
  have hE := env_of hL hsh
  clear hA0 hval0
  simp only [List.append_nil] at hW'
  refine (shares_any x0 (u8_wf b0) v1 v2 xs es W hE hu hv hxi hei hlx hly).mono fun e W' ⟨he, hb⟩ => ?_
  subst he
  have hlt1 : ∀ x ∈ p1, x.block < W.heap.size := fun x hx => hW'.lt x (by simp [hx])
  have hlt2 : ∀ x ∈ p2, x.block < W.heap.size := fun x hx => hW'.lt x (by simp [hx])
  exact ⟨_, rfl, post_below (pv := []) hW' (fun _ _ _ => trodAll_mk1 (shut_bool Tryd.underlying4 _))
    (fun sp hsp => trodAll_mk3 (shut_int Tryd.underlying5 b0)
      (Go.WideElems.Trod_stays laidOut (by kernel_rfl) (of_decide_eq_true (by kernel_rfl)) h1k (fun x hx => hb.same (hlt1 x hx)) (fun x hx => hsp x (by simp [hx]))) (Go.WideElems.Trod_stays laidOut (by kernel_rfl) (of_decide_eq_true (by kernel_rfl)) h2k (fun x hx => hb.same (hlt2 x hx)) (fun x hx => hsp x (by simp [hx]))))
    (fun _ _ => rfl) (by simp) hb (ok_one (by kernel_rfl) rfl (okWide_bool_mk Tryd.underlying4 _))⟩

theorem shares_said : Rows.FieldSharesSaid :=
  OpenClaim.holds_of_wide 5 Tryd.f5 rfl rfl rfl rfl rfl rfl rfl ⟨rfl, rfl, rfl, rfl, rfl⟩ rfl rfl rfl rfl rfl (by kernel_rfl) Tryd.func5 (by kernel_rfl)
    (of_decide_eq_true (by kernel_rfl)) (by unfold Func.isWrapper; rw [if_neg (of_decide_eq_false (by kernel_rfl))]; exact ⟨rfl, rfl⟩)
    (fun os started H enc _ => shares_lifted os started H enc)

theorem shares_plain (f : FuncId) (fn : Func) (hf : Tryd.pinned.checked.prog.funcNamed "cloak/cloaklaw02.FieldShares" = some f) (hfn : Tryd.pinned.checked.prog.funcs[f]? = some fn) :
    false = Tryd.pinned.checked.prog.looks [] ∧ ∀ (j : Nat) t, fn.params[j]? = some t → Tryd.pinned.checked.prog.wantsStandIn t = false := by
  obtain rfl : f = 5 := Option.some.inj ((show Tryd.prog.funcNamed "cloak/cloaklaw02.FieldShares" = some 5 by kernel_rfl).symm.trans hf) |>.symm
  obtain rfl : fn = Tryd.f5 := (Option.some.inj (Tryd.func5.symm.trans hfn)).symm
  refine ⟨by kernel_rfl, fun j t ht => ?_⟩
  rw [Tryd.params5] at ht
  have hor : t = 5 ∨ t = 23 ∨ t = 23 := by simpa using Array.mem_of_getElem? ht
  rcases hor with rfl | rfl | rfl
  · exact (show Tryd.prog.wantsStandIn 5 = false by kernel_rfl)
  · exact (show Tryd.prog.wantsStandIn 23 = false by kernel_rfl)
  · exact (show Tryd.prog.wantsStandIn 23 = false by kernel_rfl)

theorem shares_card : Rows.FieldSharesCardSaid :=
  Claim7.holds_tied_plain_at .later [] _ _ _ _ shares_said (fun _ h => by cases h) (by kernel_rfl) (fun _ h => by cases h) fieldShares_row_tie rfl ⟨rfl, rfl⟩ (by kernel_rfl) rfl shares_plain (by kernel_rfl)
#print axioms shares_card

end Go.Proofs.YtdeeoigcpihidaaDoor
