/- FieldGroups: for all groups, valid or not, ints, slices of at most 12 ints each, and strings of at most 100 bytes, the functions on groups return what the reference returns. Condition: the listed variables of the program and the library hold what their initialisers lay (tied by the card). -/
import Derived.Test.YtolmcaikjebdaaaDoorGroups
import Derived.Test.YtolmcaikjebdaaaDoorOpen
import Derived.Test.YtolmcaikjebdaaaDoorCards
import Derived.Test.YtolmcaikjebdaaaDoorTie
import Derived.SevenTiedAt
namespace Go.Proofs.YtolmcaikjebdaaaDoor
open Go.ChangeShapes Go.WideShapes Go.ChangeAt Go.WideMaps Go.WideElems Go.RowKit
open Go.ChangeMaps (open_string shut_string)

theorem groups_any (P Q G q x k : Int) (hP : isInt P) (hQ : isInt Q) (hG : isInt G) (hq : isInt q) (hx : isInt x) (hk : isInt k) (u v : Value) (xs es : List Int) (s : ByteArray) (W : World) (hE : Env W) (hu : IsInts u xs W) (hv : IsInts v es W) (hxi : ∀ x ∈ xs, isInt x) (hei : ∀ x ∈ es, isInt x) :
    Calls Tryd.prog 4 #[.agg #[.int .i64 P, .int .i64 Q, .int .i64 G], .int .i64 q, .int .i64 x, .int .i64 k, u, v, .string s] W (Tpost W) := by
  by_cases h : xs.length ≤ 12 ∧ es.length ≤ 12 ∧ s.size ≤ 100
  · obtain ⟨l, rfl⟩ : ∃ l, s = bs l := ⟨s.data.toList, (bs_of s).symm⟩
    exact groups_in P Q G q x k hP hQ hG hq hx hk u v xs es l W hE hu hv hxi hei h.1 h.2.1 (by have := h.2.2; rw [bs_size] at this; exact this)
  · obtain ⟨au, cu, rfl⟩ := hu.len
    obtain ⟨av, cv, rfl⟩ := hv.len
    exact groups_out P Q G q x k au av xs.length cu es.length cv s h W hE
set_option maxRecDepth 100000 in
theorem groups_lifted (os : Os) (started : os.Started) (H : Type) (enc : TypeId × Value → H) :
    ReturnsInHanded {} Tryd.checked os 4 .any (fun w args => (Rows.fieldGroupsSpec.pre enc Tryd.prog Tryd.f4 [] false w args ∧ laidMetH Tryd.prog lst w) ∧ sizedMet enc Tryd.prog Tryd.f4 (OpenSpec.ofChange Rows.fieldGroupsSpec) false w args)
      (Rows.fieldGroupsSpec.post enc Tryd.prog Tryd.f4 false true false false) := by
  refine change_and_shaped (C := Tryd.checked) (X := fun w _ => laidMetH Tryd.prog lst w) (fun _ _ _ hh h => h.of_heap hh) own started (by kernel_rfl) Tryd.func4
    (ChangeSpec.witness_shaped (enc := enc) (C := Tryd.checked) (os := os) (X := fun w _ => laidMetH Tryd.prog lst w) false (World.laidAll Tryd.prog os lst) #[.agg #[.int .i64 0, .int .i64 0, .int .i64 0], .int .i64 0, .int .i64 0, .int .i64 0, .slice none 0 0, .slice none 0 0, .string ⟨#[]⟩] 8 rfl (lay_shaped os) (by kernel_rfl) (by kernel_rfl) (by kernel_rfl) (lay_met os _)) ?_
  intro W base args ds gs before hval0 hW hL hsh
  have hval : ∀ (j : Nat) t v, Tryd.f4.params[j]? = some t → args[j]? = some v → Value.okWide Tryd.prog W .any base t v := hval0
  have hW' := hW
  obtain ⟨p, q, hA0, hV, rfl, hfz, hnd⟩ := hW
  have hA : DataW.TrodAll enc Tryd.prog W 0 (fun _ => true) true Tryd.f4.params.toList args.toList ds p := hA0
  rw [Tryd.params4] at hA hval
  obtain ⟨v0, v1, v2, v3, v4, v5, v6, d0, d1, d2, d3, d4, d5, d6, p0, p1, p2, p3, p4, p5, p6, rfl, rfl, rfl, h0, h1, h2, h3, h4, h5, h6⟩ := trodAll_seven hA
  obtain ⟨rfl, rfl⟩ := trodVars_none hV
  have h0k := h0
  have h4k := h4
  have h5k := h5
  obtain ⟨c0, c1, c2, y0, y1, y2, n, rfl, t0, t1, t2⟩ := open_agg3 Tryd.underlying29 (by kernel_rfl) (by kernel_rfl) (hval 0 29 v0 rfl rfl) h0
  obtain ⟨P, Q, G, rfl, rfl, rfl, hP, hQ, hG⟩ := in_group t0 t1 t2
  obtain ⟨x1, rfl, rfl, rfl, b1⟩ := open_int Tryd.underlying3 (hval 1 3 v1 rfl rfl) h1
  obtain ⟨x2, rfl, rfl, rfl, b2⟩ := open_int Tryd.underlying3 (hval 2 3 v2 rfl rfl) h2
  obtain ⟨x3, rfl, rfl, rfl, b3⟩ := open_int Tryd.underlying3 (hval 3 3 v3 rfl rfl) h3
  obtain ⟨s, rfl, rfl, rfl, hs⟩ := open_string Tryd.underlying9 (hval 6 9 v6 rfl rfl) h6
  have hu0 : ∃ xs, IsInts v4 xs W ∧ (∀ x ∈ xs, isInt x) ∧ xs.length ≤ 9223372036854775807 := by
    obtain ⟨a, n, c, rfl⟩ := okWide_slice Tryd.underlying30 (hval 4 30 v4 rfl rfl)
    obtain ⟨fuel, hf⟩ := h4
    exact in_ints hf
  have hv0 : ∃ xs, IsInts v5 xs W ∧ (∀ x ∈ xs, isInt x) ∧ xs.length ≤ 9223372036854775807 := by
    obtain ⟨a, n, c, rfl⟩ := okWide_slice Tryd.underlying30 (hval 5 30 v5 rfl rfl)
    obtain ⟨fuel, hf⟩ := h5
    exact in_ints hf
  obtain ⟨xs, hu, hxi, _⟩ := hu0
  obtain ⟨es, hv, hei, _⟩ := hv0
  have hE := env_of hL hsh
  clear hA0 hval0
  simp only [List.append_nil] at hW'
  refine (groups_any P Q G x1 x2 x3 hP hQ hG (int_of_wf b1) (int_of_wf b2) (int_of_wf b3) v4 v5 xs es s W hE hu hv hxi hei).mono fun e W' ⟨he, hb⟩ => ?_
  subst he
  have hlt0 : ∀ x ∈ p0, x.block < W.heap.size := fun x hx => hW'.lt x (by simp [hx])
  have hlt4 : ∀ x ∈ p4, x.block < W.heap.size := fun x hx => hW'.lt x (by simp [hx])
  have hlt5 : ∀ x ∈ p5, x.block < W.heap.size := fun x hx => hW'.lt x (by simp [hx])
  exact ⟨_, rfl, post_below (pa := p0 ++ ([] ++ ([] ++ ([] ++ (p4 ++ (p5 ++ [])))))) (pv := []) hW' (fun _ _ _ => trodAll_mk1 (shut_bool Tryd.underlying4 _))
    (fun sp hsp => trodAll_mk7 (Go.WideElems.Trod_stays laidOut (by kernel_rfl) (of_decide_eq_true (by kernel_rfl)) h0k (fun x hx => hb.same (hlt0 x hx)) (fun x hx => hsp x (by simp [hx]))) (shut_int Tryd.underlying3 b1) (shut_int Tryd.underlying3 b2) (shut_int Tryd.underlying3 b3)
      (Go.WideElems.Trod_stays laidOut (by kernel_rfl) (of_decide_eq_true (by kernel_rfl)) h4k (fun x hx => hb.same (hlt4 x hx)) (fun x hx => hsp x (by simp [hx]))) (Go.WideElems.Trod_stays laidOut (by kernel_rfl) (of_decide_eq_true (by kernel_rfl)) h5k (fun x hx => hb.same (hlt5 x hx)) (fun x hx => hsp x (by simp [hx]))) (shut_string Tryd.underlying9 hs))
    (fun _ _ => rfl) (by simp) hb (ok_one (by kernel_rfl) rfl (okWide_bool_mk Tryd.underlying4 _))⟩

theorem groups_said : Rows.FieldGroupsSaid :=
  OpenClaim.holds_of_wide 4 Tryd.f4 rfl rfl rfl rfl rfl rfl rfl ⟨rfl, rfl, rfl, rfl, rfl⟩ rfl rfl rfl rfl rfl (by kernel_rfl) Tryd.func4 (by kernel_rfl)
    (of_decide_eq_true (by kernel_rfl)) (by unfold Func.isWrapper; rw [if_neg (of_decide_eq_false (by kernel_rfl))]; exact ⟨rfl, rfl⟩)
    (fun os started H enc _ => groups_lifted os started H enc)

theorem groups_plain (f : FuncId) (fn : Func) (hf : Tryd.pinned.checked.prog.funcNamed "cloak/cloaklaw02.FieldGroups" = some f) (hfn : Tryd.pinned.checked.prog.funcs[f]? = some fn) :
    false = Tryd.pinned.checked.prog.looks [] ∧ ∀ (j : Nat) t, fn.params[j]? = some t → Tryd.pinned.checked.prog.wantsStandIn t = false := by
  obtain rfl : f = 4 := Option.some.inj ((show Tryd.prog.funcNamed "cloak/cloaklaw02.FieldGroups" = some 4 by kernel_rfl).symm.trans hf) |>.symm
  obtain rfl : fn = Tryd.f4 := (Option.some.inj (Tryd.func4.symm.trans hfn)).symm
  refine ⟨by kernel_rfl, fun j t ht => ?_⟩
  rw [Tryd.params4] at ht
  have hor : t = 29 ∨ t = 3 ∨ t = 3 ∨ t = 3 ∨ t = 30 ∨ t = 30 ∨ t = 9 := by simpa using Array.mem_of_getElem? ht
  rcases hor with rfl | rfl | rfl | rfl | rfl | rfl | rfl
  · exact (show Tryd.prog.wantsStandIn 29 = false by kernel_rfl)
  · exact (show Tryd.prog.wantsStandIn 3 = false by kernel_rfl)
  · exact (show Tryd.prog.wantsStandIn 3 = false by kernel_rfl)
  · exact (show Tryd.prog.wantsStandIn 3 = false by kernel_rfl)
  · exact (show Tryd.prog.wantsStandIn 30 = false by kernel_rfl)
  · exact (show Tryd.prog.wantsStandIn 30 = false by kernel_rfl)
  · exact (show Tryd.prog.wantsStandIn 9 = false by kernel_rfl)

theorem groups_card : Rows.FieldGroupsCardSaid :=
  Claim7.holds_tied_plain_at .later [] _ _ _ _ groups_said (fun _ h => by cases h) (by kernel_rfl) (fun _ h => by cases h) fieldGroups_row_tie rfl ⟨rfl, rfl⟩ (by kernel_rfl) rfl groups_plain (by kernel_rfl)
#print axioms groups_card

end Go.Proofs.YtolmcaikjebdaaaDoor
