/- FieldSolutions: for all primes q up to 13, matrices of 1 to 4 rows and 1 to 5 columns with at most 2500 vectors, and right sides, the number of solutions, counted over all vectors, is q to the power of the number of columns less the rank, if Solve returns a solution, and 0 otherwise. Condition: the listed variables of the program and the library hold what their initialisers lay (tied by the card). -/
import Derived.Test.YtdeeoigcpihidaaDoorSols3
import Derived.Test.YtdeeoigcpihidaaDoorOpenR
import Derived.Test.YtdeeoigcpihidaaDoorCards
import Derived.Test.YtdeeoigcpihidaaDoorTie
import Derived.SevenTiedAt
namespace Go.Proofs.YtdeeoigcpihidaaDoor
open Go.ChangeShapes Go.WideShapes Go.ChangeAt Go.WideMaps Go.WideElems Go.RowKit
open Go.ChangeMaps (open_string shut_string)

theorem solutions_any (q : Int) (hq : 0 ≤ q ∧ q < 256) (u v : Value) (xss : List (List Int)) (b : List Int) (W : World) (hE : Env W) (hu : IsRows u xss W) (hv : IsInts v b W) (hri : ∀ r ∈ xss, ∀ x ∈ r, isInt x) (hrl : ∀ r ∈ xss, r.length ≤ 9223372036854775807) (hbi : ∀ x ∈ b, isInt x) (hlx : xss.length ≤ 9223372036854775807) (hlb : b.length ≤ 9223372036854775807) :
    Calls Tryd.prog 4 #[.int .u8 q, u, v] W (Tpost W) := by
  obtain ⟨p, hp⟩ : ∃ p : Nat, q % 14 = (p : Int) := ⟨(q % 14).toNat, by omega⟩
  by_cases h : 0 < xss.length ∧ xss.length ≤ 4 ∧ b.length = xss.length ∧ primeB (p : Int) = true
  · obtain ⟨h0, h4, hbl, hpr⟩ := h
    by_cases h2 : 1 ≤ widF xss ∧ widF xss ≤ 5 ∧ sameFrom (widF xss) xss = true ∧ pwF (p : Int) (widF xss) 1 ≤ 2500
    · exact sols_in q hq p hp u v xss b hri hbi W hE hu hv h0 h4 hbl hpr h2
    · exact sols_out2 q hq p hp u v xss b hrl W hE hu hv h0 h4 hbl hpr h2
  · exact sols_out1 q hq p hp u v xss b hlx hlb W hE hu hv h
set_option maxRecDepth 100000 in
theorem solutions_lifted (os : Os) (started : os.Started) (H : Type) (enc : TypeId × Value → H) :
    ReturnsInHanded {} Tryd.checked os 4 .any (fun w args => (Rows.fieldSolutionsSpec.pre enc Tryd.prog Tryd.f4 [] false w args ∧ laidMetH Tryd.prog lst w) ∧ sizedMet enc Tryd.prog Tryd.f4 (OpenSpec.ofChange Rows.fieldSolutionsSpec) false w args)
      (Rows.fieldSolutionsSpec.post enc Tryd.prog Tryd.f4 false true false false) := by
  refine change_and_shaped (C := Tryd.checked) (X := fun w _ => laidMetH Tryd.prog lst w) (fun _ _ _ hh h => h.of_heap hh) own started (by kernel_rfl) Tryd.func4
    (ChangeSpec.witness_shaped (enc := enc) (C := Tryd.checked) (os := os) (X := fun w _ => laidMetH Tryd.prog lst w) false (World.laidAll Tryd.prog os lst) #[.int .u8 0, .slice none 0 0, .slice none 0 0] 8 rfl (lay_shaped os) (by kernel_rfl) (by kernel_rfl) (by kernel_rfl) (lay_met os _)) ?_
  intro W base args ds gs before hval0 hW hL hsh
  have hval : ∀ (j : Nat) t v, Tryd.f4.params[j]? = some t → args[j]? = some v → Value.okWide Tryd.prog W .any base t v := hval0
  have hW' := hW
  obtain ⟨p, q, hA0, hV, rfl, hfz, hnd⟩ := hW
  have hA : DataW.TrodAll enc Tryd.prog W 0 (fun _ => true) true Tryd.f4.params.toList args.toList ds p := hA0
  rw [Tryd.params4] at hA hval
  obtain ⟨v0, v1, v2, d0, d1, d2, p0, p1, p2, rfl, rfl, rfl, h0, h1, h2⟩ := trodAll_three hA
  obtain ⟨rfl, rfl⟩ := trodVars_none hV
  have h1k := h1
  have h2k := h2
  obtain ⟨x0, rfl, rfl, rfl, b0⟩ := open_int Tryd.underlying5 (hval 0 5 v0 rfl rfl) h0
  have hu0 : ∃ xss, IsRows v1 xss W ∧ (∀ r ∈ xss, ∀ x ∈ r, isInt x) ∧ (∀ r ∈ xss, r.length ≤ 9223372036854775807) ∧ xss.length ≤ 9223372036854775807 := by
    obtain ⟨a, n, c, rfl⟩ := okWide_slice Tryd.underlying22 (hval 1 22 v1 rfl rfl)
    obtain ⟨fuel, hf⟩ := h1
    exact in_rows hf
  have hv0 : ∃ xs, IsInts v2 xs W ∧ (∀ x ∈ xs, isInt x) ∧ xs.length ≤ 9223372036854775807 := by
    obtain ⟨a, n, c, rfl⟩ := okWide_slice Tryd.underlying23 (hval 2 23 v2 rfl rfl)
    obtain ⟨fuel, hf⟩ := h2
    exact in_ints hf
  obtain ⟨xs, hu, hxi, hrl, hlx⟩ := hu0
  obtain ⟨es, hv, hei, hly⟩ := hv0
  have hE := env_of hL hsh
  clear hA0 hval0
  simp only [List.append_nil] at hW'
  refine (solutions_any x0 (u8_wf b0) v1 v2 xs es W hE hu hv hxi hrl hei hlx hly).mono fun e W' ⟨he, hb⟩ => ?_
  subst he
  have hlt1 : ∀ x ∈ p1, x.block < W.heap.size := fun x hx => hW'.lt x (by simp [hx])
  have hlt2 : ∀ x ∈ p2, x.block < W.heap.size := fun x hx => hW'.lt x (by simp [hx])
  exact ⟨_, rfl, post_below (pv := []) hW' (fun _ _ _ => trodAll_mk1 (shut_bool Tryd.underlying4 _))
    (fun sp hsp => trodAll_mk3 (shut_int Tryd.underlying5 b0)
      (Go.WideElems.Trod_stays laidOut (by kernel_rfl) (of_decide_eq_true (by kernel_rfl)) h1k (fun x hx => hb.same (hlt1 x hx)) (fun x hx => hsp x (by simp [hx]))) (Go.WideElems.Trod_stays laidOut (by kernel_rfl) (of_decide_eq_true (by kernel_rfl)) h2k (fun x hx => hb.same (hlt2 x hx)) (fun x hx => hsp x (by simp [hx]))))
    (fun _ _ => rfl) (by simp) hb (ok_one (by kernel_rfl) rfl (okWide_bool_mk Tryd.underlying4 _))⟩

theorem solutions_said : Rows.FieldSolutionsSaid :=
  OpenClaim.holds_of_wide 4 Tryd.f4 rfl rfl rfl rfl rfl rfl rfl ⟨rfl, rfl, rfl, rfl, rfl⟩ rfl rfl rfl rfl rfl (by kernel_rfl) Tryd.func4 (by kernel_rfl)
    (of_decide_eq_true (by kernel_rfl)) (by unfold Func.isWrapper; rw [if_neg (of_decide_eq_false (by kernel_rfl))]; exact ⟨rfl, rfl⟩)
    (fun os started H enc _ => solutions_lifted os started H enc)

theorem solutions_plain (f : FuncId) (fn : Func) (hf : Tryd.pinned.checked.prog.funcNamed "cloak/cloaklaw02.FieldSolutions" = some f) (hfn : Tryd.pinned.checked.prog.funcs[f]? = some fn) :
    false = Tryd.pinned.checked.prog.looks [] ∧ ∀ (j : Nat) t, fn.params[j]? = some t → Tryd.pinned.checked.prog.wantsStandIn t = false := by
  obtain rfl : f = 4 := Option.some.inj ((show Tryd.prog.funcNamed "cloak/cloaklaw02.FieldSolutions" = some 4 by kernel_rfl).symm.trans hf) |>.symm
  obtain rfl : fn = Tryd.f4 := (Option.some.inj (Tryd.func4.symm.trans hfn)).symm
  refine ⟨by kernel_rfl, fun j t ht => ?_⟩
  rw [Tryd.params4] at ht
  have hor : t = 5 ∨ t = 22 ∨ t = 23 := by simpa using Array.mem_of_getElem? ht
  rcases hor with rfl | rfl | rfl
  · exact (show Tryd.prog.wantsStandIn 5 = false by kernel_rfl)
  · exact (show Tryd.prog.wantsStandIn 22 = false by kernel_rfl)
  · exact (show Tryd.prog.wantsStandIn 23 = false by kernel_rfl)

theorem solutions_card : Rows.FieldSolutionsCardSaid :=
  Claim7.holds_tied_plain_at .later [] _ _ _ _ solutions_said (fun _ h => by cases h) (by kernel_rfl) (fun _ h => by cases h) fieldSolutions_row_tie rfl ⟨rfl, rfl⟩ (by kernel_rfl) rfl solutions_plain (by kernel_rfl)
#print axioms solutions_card

end Go.Proofs.YtdeeoigcpihidaaDoor
