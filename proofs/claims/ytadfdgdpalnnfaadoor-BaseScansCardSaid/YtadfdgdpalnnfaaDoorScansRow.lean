/- BaseScans: for all strings (of which at most 900 bytes are used) and lists of at most 100 tokens (of at most 100 bytes each), every function of the lexer returns the same as the reference. Condition: the library's tables and errors, and the table of signs, hold what their initialisers lay (tied by the card). -/
import Derived.Test.YtadfdgdpalnnfaaDoorRLaw
import Derived.Test.YtadfdgdpalnnfaaDoorROpen
import Derived.Test.YtadfdgdpalnnfaaDoorPost
import Derived.Test.YtadfdgdpalnnfaaDoorCards
import Derived.Test.YtadfdgdpalnnfaaDoorTie
import Derived.SevenTiedAt
namespace Go.Proofs.YtadfdgdpalnnfaaDoor
open Go.ChangeShapes Go.WideShapes Go.ChangeAt Go.WideMaps Go.WideElems Go.RowKit
open Go.ChangeMaps (open_string shut_string)

theorem scans_any (s : ByteArray) (hs : s.size ≤ maxLen) (u : Value) (ts : List Tk) (w : World) (hE : Env w) (hu : IsToks u ts w) (hn : ts.length ≤ 9223372036854775807) (ht : ∀ t ∈ ts, t.text.length ≤ 9223372036854775807) :
    Calls Tryd.prog 3 #[.string s, u] w (Spost w) := by
  unfold maxLen at hs
  have := scans_calls s.data.toList (by rw [← Lib.size_eq]; exact hs) u ts w hE hu hn ht
  rw [bs_of] at this
  exact this

set_option maxRecDepth 100000 in
theorem scans_lifted (os : Os) (started : os.Started) (H : Type) (enc : TypeId × Value → H) :
    ReturnsInHanded {} Tryd.checked os 3 .any (fun w args => (Rows.baseScansSpec.pre enc Tryd.prog Tryd.f3 [] false w args ∧ laidMetH Tryd.prog lst w) ∧ sizedMet enc Tryd.prog Tryd.f3 (OpenSpec.ofChange Rows.baseScansSpec) false w args)
      (Rows.baseScansSpec.post enc Tryd.prog Tryd.f3 false true false false) := by
  refine change_and_shaped (C := Tryd.checked) (X := fun w _ => laidMetH Tryd.prog lst w) (fun _ _ _ hh h => h.of_heap hh) own started (by kernel_rfl) Tryd.func3
    (ChangeSpec.witness_shaped (enc := enc) (C := Tryd.checked) (os := os) (X := fun w _ => laidMetH Tryd.prog lst w) false (World.laidAll Tryd.prog os lst) #[.string ⟨#[]⟩, .slice none 0 0] 8 rfl (lay_shaped os) (by kernel_rfl) (by kernel_rfl) (by kernel_rfl) (lay_met os _)) ?_
  intro W base args ds gs before hval0 hW hL hsh
  have hval : ∀ (j : Nat) t v, Tryd.f3.params[j]? = some t → args[j]? = some v → Value.okWide Tryd.prog W .any base t v := hval0
  have hW' := hW
  obtain ⟨p, q, hA0, hV, rfl, hfz, hnd⟩ := hW
  have hA : DataW.TrodAll enc Tryd.prog W 0 (fun _ => true) true Tryd.f3.params.toList args.toList ds p := hA0
  rw [Tryd.params3] at hA hval
  obtain ⟨v0, v1, d0, d1, p0, p1, rfl, rfl, rfl, h0, h1⟩ := trodAll_two hA
  obtain ⟨rfl, rfl⟩ := trodVars_none hV
  have hE := env_of hL hsh
  obtain ⟨s, rfl, rfl, rfl, hs⟩ := open_string Tryd.underlying9 (hval 0 9 v0 rfl rfl) h0
  have h1k := h1
  have hu0 : ∃ ts, IsToks v1 ts W ∧ (∀ t ∈ ts, t.text.length ≤ 9223372036854775807) ∧ ts.length ≤ 9223372036854775807 := by
    obtain ⟨a, n, c, rfl⟩ := okWide_slice Tryd.underlying22 (hval 1 22 v1 rfl rfl)
    obtain ⟨fuel, hf⟩ := h1
    exact in_toks hf
  obtain ⟨ts, hu, htt, hn⟩ := hu0
  clear hA0 hval0
  simp only [List.append_nil] at hW'
  refine (scans_any s hs v1 ts W hE hu hn htt).mono fun e W' ⟨he, hb⟩ => ?_
  subst he
  have hlt : ∀ x ∈ p1, x.block < W.heap.size := fun x hx => hW'.lt x hx
  exact ⟨_, rfl, post_below (pa := p1) (pv := []) hW' (fun _ _ _ => trodAll_mk1 (shut_bool Tryd.underlying4 _)) (fun sp hsp => trodAll_mk2 (shut_string Tryd.underlying9 hs) (Go.WideElems.Trod_stays laidOut (by kernel_rfl) (of_decide_eq_true (by kernel_rfl)) h1k (fun x hx => hb.same (hlt x hx)) (fun x hx => hsp x hx))) (fun _ _ => rfl) (by simp) hb (ok_one (by kernel_rfl) rfl (okWide_bool_mk Tryd.underlying4 _))⟩

theorem scans_said : Rows.BaseScansSaid :=
  OpenClaim.holds_of_wide 3 Tryd.f3 rfl rfl rfl rfl rfl rfl rfl ⟨rfl, rfl, rfl, rfl, rfl⟩ rfl rfl rfl rfl rfl (by kernel_rfl) Tryd.func3 (by kernel_rfl)
    (of_decide_eq_true (by kernel_rfl)) (by unfold Func.isWrapper; rw [if_neg (of_decide_eq_false (by kernel_rfl))]; exact ⟨rfl, rfl⟩)
    (fun os started H enc _ => scans_lifted os started H enc)

theorem scans_plain (f : FuncId) (fn : Func) (hf : Tryd.pinned.checked.prog.funcNamed "cloak/cloaklaw01.BaseScans" = some f) (hfn : Tryd.pinned.checked.prog.funcs[f]? = some fn) :
    true = Tryd.pinned.checked.prog.looks [] ∧ ∀ (j : Nat) t, fn.params[j]? = some t → Tryd.pinned.checked.prog.wantsStandIn t = false := by
  obtain rfl : f = 3 := Option.some.inj ((show Tryd.prog.funcNamed "cloak/cloaklaw01.BaseScans" = some 3 by kernel_rfl).symm.trans hf) |>.symm
  obtain rfl : fn = Tryd.f3 := (Option.some.inj (Tryd.func3.symm.trans hfn)).symm
  refine ⟨by kernel_rfl, fun j t ht => ?_⟩
  rw [Tryd.params3] at ht
  have h39 : t = 9 ∨ t = 22 := by simpa using Array.mem_of_getElem? ht
  rcases h39 with rfl | rfl
  · exact (show Tryd.prog.wantsStandIn 9 = false by kernel_rfl)
  · exact (show Tryd.prog.wantsStandIn 22 = false by kernel_rfl)

theorem scans_card : Rows.BaseScansCardSaid :=
  Claim7.holds_tied_plain_at .later [] _ _ _ _ scans_said (fun _ h => by cases h) (by kernel_rfl) (fun _ h => by cases h) baseScans_row_tie rfl ⟨rfl, rfl⟩ (by kernel_rfl) rfl scans_plain (by kernel_rfl)
#print axioms scans_card

end Go.Proofs.YtadfdgdpalnnfaaDoor
