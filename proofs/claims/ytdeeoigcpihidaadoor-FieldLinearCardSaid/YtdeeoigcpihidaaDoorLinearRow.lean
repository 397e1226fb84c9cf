/- FieldLinear: for all ints q, rows and right sides of the law's sizes, and numbers of columns, the functions of linear algebra return the same as the reference. Condition: the listed variables of the program and the library hold what their initialisers lay (tied by the card). -/
import Derived.Test.YtdeeoigcpihidaaDoorLinear
import Derived.Test.YtdeeoigcpihidaaDoorOpenR
import Derived.Test.YtdeeoigcpihidaaDoorCards
import Derived.Test.YtdeeoigcpihidaaDoorTie
import Derived.SevenTiedAt
namespace Go.Proofs.YtdeeoigcpihidaaDoor
open Go.ChangeShapes Go.WideShapes Go.ChangeAt Go.WideMaps Go.WideElems Go.RowKit
open Go.ChangeMaps (open_string shut_string)

theorem linear_any (q cols : Int) (hq : isInt q) (u v : Value) (xss : List (List Int)) (b : List Int) (W : World) (hE : Env W) (hu : IsRows u xss W) (hv : IsInts v b W) (hri : ∀ r ∈ xss, ∀ x ∈ r, isInt x) (hrl : ∀ r ∈ xss, r.length ≤ 9223372036854775807) (hbi : ∀ x ∈ b, isInt x) (hlx : xss.length ≤ 9223372036854775807) (hlb : b.length ≤ 9223372036854775807) :
    Calls Tryd.prog 3 #[.int .i64 q, u, v, .int .i64 cols] W (Tpost W) := by
  by_cases h : fewB xss = true ∧ b.length ≤ 70 ∧ ¬ (9 < cols ∧ cols < 60)
  · exact linear_in q hq u v xss b cols hlx hrl hlb hri hbi W hE hu hv h.1 h.2.1 h.2.2
  · exact linear_out q u v xss b cols hlx hrl hlb W hE hu hv h
set_option maxRecDepth 100000 in
theorem linear_lifted (os : Os) (started : os.Started) (H : Type) (enc : TypeId × Value → H) :
    ReturnsInHanded {} Tryd.checked os 3 .any (fun w args => (Rows.fieldLinearSpec.pre enc Tryd.prog Tryd.f3 [] false w args ∧ laidMetH Tryd.prog lst w) ∧ sizedMet enc Tryd.prog Tryd.f3 (OpenSpec.ofChange Rows.fieldLinearSpec) false w args)
      (Rows.fieldLinearSpec.post enc Tryd.prog Tryd.f3 false true false false) := by
  refine change_and_shaped (C := Tryd.checked) (X := fun w _ => laidMetH Tryd.prog lst w) (fun _ _ _ hh h => h.of_heap hh) own started (by kernel_rfl) Tryd.func3
    (ChangeSpec.witness_shaped (enc := enc) (C := Tryd.checked) (os := os) (X := fun w _ => laidMetH Tryd.prog lst w) false (World.laidAll Tryd.prog os lst) #[.int .i64 0, .slice none 0 0, .slice none 0 0, .int .i64 0] 8 rfl (lay_shaped os) (by kernel_rfl) (by kernel_rfl) (by kernel_rfl) (lay_met os _)) ?_
  intro W base args ds gs before hval0 hW hL hsh
  have hval : ∀ (j : Nat) t v, Tryd.f3.params[j]? = some t → args[j]? = some v → Value.okWide Tryd.prog W .any base t v := hval0
  have hW' := hW
  obtain ⟨p, q, hA0, hV, rfl, hfz, hnd⟩ := hW
  have hA : DataW.TrodAll enc Tryd.prog W 0 (fun _ => true) true Tryd.f3.params.toList args.toList ds p := hA0
  rw [Tryd.params3] at hA hval
  obtain ⟨v0, v1, v2, v3, d0, d1, d2, d3, p0, p1, p2, p3, rfl, rfl, rfl, h0, h1, h2, h3⟩ := trodAll_four hA
  obtain ⟨rfl, rfl⟩ := trodVars_none hV
  have h1k := h1
  have h2k := h2
  obtain ⟨x0, rfl, rfl, rfl, b0⟩ := open_int Tryd.underlying3 (hval 0 3 v0 rfl rfl) h0
  obtain ⟨x3, rfl, rfl, rfl, b3⟩ := open_int Tryd.underlying3 (hval 3 3 v3 rfl rfl) h3
  have hu0 : ∃ xss, IsRows v1 xss W ∧ (∀ r ∈ xss, ∀ x ∈ r, isInt x) ∧ (∀ r ∈ xss, r.length ≤ 9223372036854775807) ∧ xss.length ≤ 9223372036854775807 := by
    obtain ⟨a, n, c, rfl⟩ := okWide_slice Tryd.underlying22 (hval 1 22 v1 rfl rfl)
    obtain ⟨fuel, hf⟩ := h1
    exact in_rows hf
  have hv0 : ∃ xs, IsInts v2 xs W ∧ (∀ x ∈ xs, isInt x) ∧ xs.length ≤ 9223372036854775807 := by
    obtain ⟨a, n, c, rfl⟩ := okWide_slice Tryd.underlying23 (hval 2 23 v2 rfl rfl)
    obtain ⟨fuel, hf⟩ := h2
    exact in_ints hf
  obtain ⟨xs, hu, hxi, hrl, hlx⟩ := hu0
  obtain ⟨es, hv, hei, hly⟩ := hv0
  have hE := env_of hL hsh
  clear hA0 hval0
  simp only [List.append_nil] at hW'
  refine (linear_any x0 x3 (int_of_wf b0) v1 v2 xs es W hE hu hv hxi hrl hei hlx hly).mono fun e W' ⟨he, hb⟩ => ?_
  subst he
  have hlt1 : ∀ x ∈ p1, x.block < W.heap.size := fun x hx => hW'.lt x (by simp [hx])
  have hlt2 : ∀ x ∈ p2, x.block < W.heap.size := fun x hx => hW'.lt x (by simp [hx])
  exact ⟨_, rfl, post_below (pv := []) hW' (fun _ _ _ => trodAll_mk1 (shut_bool Tryd.underlying4 _))
    (fun sp hsp => trodAll_mk4 (shut_int Tryd.underlying3 b0)
      (Go.WideElems.Trod_stays laidOut (by kernel_rfl) (of_decide_eq_true (by kernel_rfl)) h1k (fun x hx => hb.same (hlt1 x hx)) (fun x hx => hsp x (by simp [hx]))) (Go.WideElems.Trod_stays laidOut (by kernel_rfl) (of_decide_eq_true (by kernel_rfl)) h2k (fun x hx => hb.same (hlt2 x hx)) (fun x hx => hsp x (by simp [hx]))) (shut_int Tryd.underlying3 b3))
    (fun _ _ => rfl) (by simp) hb (ok_one (by kernel_rfl) rfl (okWide_bool_mk Tryd.underlying4 _))⟩

theorem linear_said : Rows.FieldLinearSaid :=
  OpenClaim.holds_of_wide 3 Tryd.f3 rfl rfl rfl rfl rfl rfl rfl ⟨rfl, rfl, rfl, rfl, rfl⟩ rfl rfl rfl rfl rfl (by kernel_rfl) Tryd.func3 (by kernel_rfl)
    (of_decide_eq_true (by kernel_rfl)) (by unfold Func.isWrapper; rw [if_neg (of_decide_eq_false (by kernel_rfl))]; exact ⟨rfl, rfl⟩)
    (fun os started H enc _ => linear_lifted os started H enc)

theorem linear_plain (f : FuncId) (fn : Func) (hf : Tryd.pinned.checked.prog.funcNamed "cloak/cloaklaw02.FieldLinear" = some f) (hfn : Tryd.pinned.checked.prog.funcs[f]? = some fn) :
    false = Tryd.pinned.checked.prog.looks [] ∧ ∀ (j : Nat) t, fn.params[j]? = some t → Tryd.pinned.checked.prog.wantsStandIn t = false := by
  obtain rfl : f = 3 := Option.some.inj ((show Tryd.prog.funcNamed "cloak/cloaklaw02.FieldLinear" = some 3 by kernel_rfl).symm.trans hf) |>.symm
  obtain rfl : fn = Tryd.f3 := (Option.some.inj (Tryd.func3.symm.trans hfn)).symm
  refine ⟨by kernel_rfl, fun j t ht => ?_⟩
  rw [Tryd.params3] at ht
  have hor : t = 3 ∨ t = 22 ∨ t = 23 ∨ t = 3 := by simpa using Array.mem_of_getElem? ht
  rcases hor with rfl | rfl | rfl | rfl
  · exact (show Tryd.prog.wantsStandIn 3 = false by kernel_rfl)
  · exact (show Tryd.prog.wantsStandIn 22 = false by kernel_rfl)
  · exact (show Tryd.prog.wantsStandIn 23 = false by kernel_rfl)
  · exact (show Tryd.prog.wantsStandIn 3 = false by kernel_rfl)

theorem linear_card : Rows.FieldLinearCardSaid :=
  Claim7.holds_tied_plain_at .later [] _ _ _ _ linear_said (fun _ h => by cases h) (by kernel_rfl) (fun _ h => by cases h) fieldLinear_row_tie rfl ⟨rfl, rfl⟩ (by kernel_rfl) rfl linear_plain (by kernel_rfl)
#print axioms linear_card

end Go.Proofs.YtdeeoigcpihidaaDoor
