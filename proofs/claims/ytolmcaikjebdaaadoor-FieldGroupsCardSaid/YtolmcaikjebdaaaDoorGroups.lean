/- The law FieldGroups. -/
import Derived.Test.YtolmcaikjebdaaaDoorExpo
import Derived.Test.YtolmcaikjebdaaaDoorRProd
import Derived.Test.YtolmcaikjebdaaaDoorBaseN
import Derived.Deep.RegionHeld3
namespace Go.Proofs.YtolmcaikjebdaaaDoor
open Go.RowKit

theorem makeV_form (q : Int) : ∃ (a b c : Int) (k : Bool), makeV q = .tuple #[.agg #[.int .i64 a, .int .i64 b, .int .i64 c], .bool k] := by
  unfold makeV
  split
  · exact ⟨_, _, _, _, rfl⟩
  · exact ⟨_, _, _, _, rfl⟩
theorem prodV_form (P Q : Int) (xs es : List Int) : ∃ (c : Int) (k : Bool), prodV P Q xs es = .tuple #[.int .i64 c, .bool k] := by
  unfold prodV
  split
  · exact ⟨_, _, rfl⟩
  · exact ⟨_, _, rfl⟩
/-- What the law keeps: the group that it was given, and the two that were made. -/
structure Lst (w0 : World) (B BA BB : Nat) (P Q G a b c : Int) (w : World) : Prop where
  g : Gst w0 B P Q G w
  ba : Blk w BA 29 #[.int .i64 a, .int .i64 b, .int .i64 c]
  bb : Blk w BB 29 #[.int .i64 a, .int .i64 b, .int .i64 c]
section
variable {w0 w w' : World} {B BA BB : Nat} {P Q G a b c : Int} (h : Lst w0 B BA BB P Q G a b c w)
include h
theorem Lst.next (hb : Below w.heap.size w w') : Lst w0 B BA BB P Q G a b c w' := ⟨h.g.next hb, h.ba.next hb, h.bb.next hb⟩
theorem Lst.cells : w.cell? ⟨B, 0, none⟩ = some (.int .i64 P) ∧ w.cell? ⟨B, 1, none⟩ = some (.int .i64 Q) ∧ w.cell? ⟨B, 2, none⟩ = some (.int .i64 G) ∧ w.cell? ⟨BA, 0, none⟩ = some (.int .i64 a) ∧ w.cell? ⟨BA, 1, none⟩ = some (.int .i64 b) ∧ w.cell? ⟨BA, 2, none⟩ = some (.int .i64 c) ∧ w.cell? ⟨BB, 0, none⟩ = some (.int .i64 a) ∧ w.cell? ⟨BB, 1, none⟩ = some (.int .i64 b) ∧ w.cell? ⟨BB, 2, none⟩ = some (.int .i64 c) ∧ Lst w0 B BA BB P Q G a b c w :=
  ⟨h.g.blk.cell 0, h.g.blk.cell 1, h.g.blk.cell 2, h.ba.cell 0, h.ba.cell 1, h.ba.cell 2, h.bb.cell 0, h.bb.cell 1, h.bb.cell 2, h⟩
theorem Lst.gcells : w.cell? ⟨B, 0, none⟩ = some (.int .i64 P) ∧ w.cell? ⟨B, 1, none⟩ = some (.int .i64 Q) ∧ w.cell? ⟨B, 2, none⟩ = some (.int .i64 G) ∧ Lst w0 B BA BB P Q G a b c w := ⟨h.g.blk.cell 0, h.g.blk.cell 1, h.g.blk.cell 2, h⟩
theorem Lst.of {Pr : Program} {f : FuncId} {args : Array Value} {v : Value} (hc : Calls Pr f args w fun e w' => e = .returned v ∧ Below w.heap.size w w') :
    Calls Pr f args w fun e w' => e = .returned v ∧ Lst w0 B BA BB P Q G a b c w' := hc.mono fun _ _ ⟨he, hb⟩ => ⟨he, h.next hb⟩
end
/-- A call as the law sees it: these arguments, this value. -/
def DoesL (w0 : World) (B BA BB : Nat) (P Q G a b c : Int) (f : FuncId) (args : Array Value) (v : Value) : Prop :=
  ∀ (args' : Array Value) (w : World), args' = args → Lst w0 B BA BB P Q G a b c w → Calls Tryd.prog f args' w fun e w' => e = .returned v ∧ Lst w0 B BA BB P Q G a b c w'
theorem doesL_of {w0 : World} {B BA BB : Nat} {P Q G a b c : Int} {f : FuncId} {args : Array Value} {v u : Value} (hv : v = u) (h : ∀ w, Env w → Calls Tryd.prog f args w fun e w' => e = .returned v ∧ Below w.heap.size w w') : DoesL w0 B BA BB P Q G a b c f args u := by
  intro args' w he hl; subst he
  rw [← hv]
  exact hl.of (h w hl.g.env)
set_option maxRecDepth 100000 in
set_option maxHeartbeats 2000000 in
theorem groups_in (P Q G q x k : Int) (hP : isInt P) (hQ : isInt Q) (hG : isInt G) (hq : isInt q) (hx : isInt x) (hk : isInt k) (u v : Value) (xs es : List Int) (l : List UInt8) (w : World) (hE : Env w) (hu : IsInts u xs w) (hv : IsInts v es w) (hxi : ∀ x ∈ xs, isInt x) (hei : ∀ x ∈ es, isInt x) (h1 : xs.length ≤ 12) (h2 : es.length ≤ 12) (h3 : l.length ≤ 100) :
    Calls Tryd.prog 4 #[.agg #[.int .i64 P, .int .i64 Q, .int .i64 G], .int .i64 q, .int .i64 x, .int .i64 k, u, v, .string (bs l)] w (Tpost w) := by
  unfold Tpost
  obtain ⟨au, cu, rfl⟩ := hu.len
  obtain ⟨av, cv, rfl⟩ := hv.len
  have hW0 : Gst w w.heap.size P Q G (w.alloc (.cells #[.int .i64 P, .int .i64 Q, .int .i64 G] 29)) := ⟨hE.next (below_one _ _), below_one _ _, Blk.new _ _ _⟩
  have d1 : decide ((12 : Int) < (xs.length : Int)) = false := decide_eq_false (by omega)
  have d2 : decide ((12 : Int) < (es.length : Int)) = false := decide_eq_false (by omega)
  have d3 : decide ((100 : Int) < ((bs l).size : Int)) = false := decide_eq_false (by rw [bs_size]; omega)
  obtain ⟨a, b, c, ok, hm⟩ := makeV_form q
  obtain ⟨pc, pk, hp⟩ := prodV_form P Q xs es
  clear hE
  go_enter Tryd.func4, Tryd.ntmps4
  go_wp2_with fail
  generalize (w.alloc (.cells #[.int .i64 P, .int .i64 Q, .int .i64 G] 29)) = W0 at *
  refine Calls.mono (hW0.of rfl (sane_calls W0 hW0.env)) ?_
  rintro e w1 ⟨rfl, hS1⟩
  clear hW0
  go_wp2_with fail
  have cm := make_calls q hq w1 hS1.env
  rw [hm] at cm
  refine Calls.mono (hS1.of rfl cm) ?_
  clear cm hS1
  rintro e w2 ⟨rfl, hS2⟩
  have hA := hS2.next (below_one w2 (.cells #[.int .i64 a, .int .i64 b, .int .i64 c] 29))
  have bA : Blk (w2.alloc (.cells #[.int .i64 a, .int .i64 b, .int .i64 c] 29)) w2.heap.size 29 #[.int .i64 a, .int .i64 b, .int .i64 c] := Blk.new _ _ _
  go_wp2_with fail
  generalize (w2.alloc (.cells #[.int .i64 a, .int .i64 b, .int .i64 c] 29)) = WA at *
  have cm := rmake_calls q hq WA
  rw [hm] at cm
  refine Calls.mono cm ?_
  rintro e w3 ⟨rfl, hb3⟩
  have hL : Lst w w.heap.size w2.heap.size w3.heap.size P Q G a b c (w3.alloc (.cells #[.int .i64 a, .int .i64 b, .int .i64 c] 29)) := ⟨(hA.next hb3).next (below_one _ _), (bA.next hb3).next (below_one _ _), Blk.new _ _ _⟩
  obtain ⟨BA, hBA⟩ : ∃ BA, BA = w2.heap.size := ⟨_, rfl⟩
  obtain ⟨BB, hBB⟩ : ∃ BB, BB = w3.heap.size := ⟨_, rfl⟩
  rw [← hBA, ← hBB] at hL
  clear cm hb3 hA bA hS2
  obtain ⟨z0, z1, z2⟩ := hL.g.cells
  go_wp2_with fail
  rw [← hBA, ← hBB]
  clear hBA hBB
  generalize (w3.alloc (.cells #[.int .i64 a, .int .i64 b, .int .i64 c] 29)) = W4 at *
  have cp := product_calls P Q G (.slice au xs.length cu) (.slice av es.length cv) xs es W4 (hu.next hL.g.bel) (hv.next hL.g.bel) hxi hei (by omega) (by omega)
  rw [hp] at cp
  refine Calls.mono (hL.of cp) ?_
  clear cp hL z0 z1 z2
  rintro e w5 ⟨rfl, hL⟩
  obtain ⟨z0, z1, z2⟩ := hL.g.cells
  go_wp2_with fail
  have cp := rproduct_calls P Q G (.slice au xs.length cu) (.slice av es.length cv) xs es w5 (hu.next hL.g.bel) (hv.next hL.g.bel) hxi hei (by omega) (by omega)
  rw [hp] at cp
  refine Calls.mono (hL.of cp) ?_
  clear cp hL z0 z1 z2
  rintro e w6 ⟨rfl, hL⟩
  obtain ⟨z0, z1, z2, a0, a1, a2, b0, b1, b2, _⟩ := hL.cells
  have D1 : Hid (DoesL w w.heap.size BA BB P Q G a b c 27 #[.agg #[.int .i64 P, .int .i64 Q, .int .i64 G]] (.bool (validB P Q G))) := doesL_of rfl (fun w hE => valid_calls P Q G hP hQ hG w hE)
  have D2 : Hid (DoesL w w.heap.size BA BB P Q G a b c 28 #[.agg #[.int .i64 P, .int .i64 Q, .int .i64 G]] (.bool (validB P Q G))) := doesL_of rfl (fun w _ => rvalidg_calls P Q G hP hQ hG w)
  have D3 : Hid (DoesL w w.heap.size BA BB P Q G a b c 29 #[.agg #[.int .i64 P, .int .i64 Q, .int .i64 G], .int .i64 x] (.bool (elemB P Q G x))) := doesL_of rfl (fun w hE => elem_calls P Q G x hP hQ hG hx w hE)
  have D4 : Hid (DoesL w w.heap.size BA BB P Q G a b c 30 #[.agg #[.int .i64 P, .int .i64 Q, .int .i64 G], .int .i64 x] (.bool (elemB P Q G x))) := doesL_of rfl (fun w _ => relem_calls P Q G x hP hQ hG hx w)
  have D5 : Hid (DoesL w w.heap.size BA BB P Q G a b c 31 #[.agg #[.int .i64 P, .int .i64 Q, .int .i64 G], .int .i64 x, .int .i64 k] (.int .i64 (gPow P Q x k))) := doesL_of rfl (fun w _ => power_calls P Q G x k hx hk w)
  have D6 : Hid (DoesL w w.heap.size BA BB P Q G a b c 32 #[.agg #[.int .i64 P, .int .i64 Q, .int .i64 G], .int .i64 x, .int .i64 k] (.int .i64 (gPow P Q x k))) := doesL_of rfl (fun w _ => rgpower_calls P Q G x k hx hk w)
  have D7 : Hid (DoesL w w.heap.size BA BB P Q G a b c 33 #[.agg #[.int .i64 P, .int .i64 Q, .int .i64 G], .int .i64 x, .int .i64 k] (.int .i64 (gTimes P Q x k))) := doesL_of rfl (fun w _ => times_calls P Q G x k hx hk w)
  have D8 : Hid (DoesL w w.heap.size BA BB P Q G a b c 34 #[.agg #[.int .i64 P, .int .i64 Q, .int .i64 G], .int .i64 x, .int .i64 k] (.int .i64 (gTimes P Q x k))) := doesL_of rfl (fun w _ => rgtimes_calls P Q G x k hx hk w)
  have D9 : Hid (DoesL w w.heap.size BA BB P Q G a b c 35 #[.agg #[.int .i64 P, .int .i64 Q, .int .i64 G], .int .i64 x, .int .i64 k] (.int .i64 (gOver P Q x k))) := doesL_of rfl (fun w _ => over_calls P Q G x k hx hk w)
  have D10 : Hid (DoesL w w.heap.size BA BB P Q G a b c 36 #[.agg #[.int .i64 P, .int .i64 Q, .int .i64 G], .int .i64 x, .int .i64 k] (.int .i64 (gOver P Q x k))) := doesL_of rfl (fun w _ => rgover_calls P Q G x k hx hk w)
  have D11 : Hid (DoesL w w.heap.size BA BB P Q G a b c 37 #[.agg #[.int .i64 P, .int .i64 Q, .int .i64 G], .string (bs l)] (.int .i64 (baseZ P Q G l))) := doesL_of rfl (fun w hE => base_calls P Q G l (by omega) hP hQ hG w hE)
  have D12 : Hid (DoesL w w.heap.size BA BB P Q G a b c 38 #[.agg #[.int .i64 P, .int .i64 Q, .int .i64 G], .string (bs l)] (.int .i64 (baseZ P Q G l))) := doesL_of rfl (fun w _ => rbase_calls P Q G l (by omega) hP hQ hG w)
  generalize validB P Q G = vg at *
  generalize elemB P Q G x = el at *
  generalize gPow P Q x k = vp at *
  generalize gTimes P Q x k = vt at *
  generalize gOver P Q x k = vo at *
  generalize baseZ P Q G l = vb at *
  have ea : (a != a) = false := by simp
  have eb : (b != b) = false := by simp
  have ec : (c != c) = false := by simp
  have ea' : (a == a) = true := by simp
  have eb' : (b == b) = true := by simp
  have ec' : (c == c) = true := by simp
  have eok : (ok != ok) = false := by simp
  have epc : (pc != pc) = false := by simp
  have epk : (pk != pk) = false := by simp
  have evg : (vg != vg) = false := by simp
  have eel : (el != el) = false := by simp
  have evp : (vp == vp) = true := by simp
  have evt : (vt == vt) = true := by simp
  have evo : (vo == vo) = true := by simp
  have evb : (vb == vb) = true := by simp
  have HS := Lib.hid hL
  clear hL hp hm hu hv hxi hei z0 z1 z2 a0 a1 a2 b0 b1 b2 hP hQ hG hq hx hk h1 h2 h3
  go_wp2_with fail
  go_region_held3 (fun w' => w'.cell? ⟨w.heap.size, 0, none⟩ = some (.int .i64 P) ∧ w'.cell? ⟨w.heap.size, 1, none⟩ = some (.int .i64 Q) ∧ w'.cell? ⟨w.heap.size, 2, none⟩ = some (.int .i64 G) ∧ w'.cell? ⟨BA, 0, none⟩ = some (.int .i64 a) ∧ w'.cell? ⟨BA, 1, none⟩ = some (.int .i64 b) ∧ w'.cell? ⟨BA, 2, none⟩ = some (.int .i64 c) ∧ w'.cell? ⟨BB, 0, none⟩ = some (.int .i64 a) ∧ w'.cell? ⟨BB, 1, none⟩ = some (.int .i64 b) ∧ w'.cell? ⟨BB, 2, none⟩ = some (.int .i64 c) ∧ Lst w w.heap.size BA BB P Q G a b c w') (first | exact Lst.cells (by assumption) | exact Lst.cells (HS.out.next (below_drewN (Below.refl _ _) 1)) | exact Lst.cells HS.out) (first
    | (go_at_call 27; refine Calls.mono (D1.out _ _ (by with_reducible rfl) (by first | assumption | exact HS.out.next (below_drewN (Below.refl _ _) 1))) ?_; rintro e w8 ⟨rfl, hS8⟩)
    | (go_at_call 28; refine Calls.mono (D2.out _ _ (by with_reducible rfl) (by first | assumption | exact HS.out.next (below_drewN (Below.refl _ _) 1))) ?_; rintro e w8 ⟨rfl, hS8⟩)
    | (go_at_call 29; refine Calls.mono (D3.out _ _ (by with_reducible rfl) (by first | assumption | exact HS.out.next (below_drewN (Below.refl _ _) 1))) ?_; rintro e w8 ⟨rfl, hS8⟩)
    | (go_at_call 30; refine Calls.mono (D4.out _ _ (by with_reducible rfl) (by first | assumption | exact HS.out.next (below_drewN (Below.refl _ _) 1))) ?_; rintro e w8 ⟨rfl, hS8⟩))
  go_wp2_with fail
  clear HS D1 D2 D3 D4
  have HS := Lib.hid hS8
  repeat clear hS8
  go_region_held3 (fun w' => w'.cell? ⟨w.heap.size, 0, none⟩ = some (.int .i64 P) ∧ w'.cell? ⟨w.heap.size, 1, none⟩ = some (.int .i64 Q) ∧ w'.cell? ⟨w.heap.size, 2, none⟩ = some (.int .i64 G) ∧ Lst w w.heap.size BA BB P Q G a b c w') (first | exact Lst.gcells (by assumption) | exact Lst.gcells (HS.out.next (below_drewN (Below.refl _ _) 1)) | exact Lst.gcells HS.out) (first
    | (go_at_call 31; refine Calls.mono (D5.out _ _ (by with_reducible rfl) (by first | assumption | exact HS.out.next (below_drewN (Below.refl _ _) 1))) ?_; rintro e w8 ⟨rfl, hS8⟩)
    | (go_at_call 32; refine Calls.mono (D6.out _ _ (by with_reducible rfl) (by first | assumption | exact HS.out.next (below_drewN (Below.refl _ _) 1))) ?_; rintro e w8 ⟨rfl, hS8⟩)
    | (go_at_call 33; refine Calls.mono (D7.out _ _ (by with_reducible rfl) (by first | assumption | exact HS.out.next (below_drewN (Below.refl _ _) 1))) ?_; rintro e w8 ⟨rfl, hS8⟩)
    | (go_at_call 34; refine Calls.mono (D8.out _ _ (by with_reducible rfl) (by first | assumption | exact HS.out.next (below_drewN (Below.refl _ _) 1))) ?_; rintro e w8 ⟨rfl, hS8⟩)
    | (go_at_call 35; refine Calls.mono (D9.out _ _ (by with_reducible rfl) (by first | assumption | exact HS.out.next (below_drewN (Below.refl _ _) 1))) ?_; rintro e w8 ⟨rfl, hS8⟩)
    | (go_at_call 36; refine Calls.mono (D10.out _ _ (by with_reducible rfl) (by first | assumption | exact HS.out.next (below_drewN (Below.refl _ _) 1))) ?_; rintro e w8 ⟨rfl, hS8⟩)
    | (go_at_call 37; refine Calls.mono (D11.out _ _ (by with_reducible rfl) (by first | assumption | exact HS.out.next (below_drewN (Below.refl _ _) 1))) ?_; rintro e w8 ⟨rfl, hS8⟩)
    | (go_at_call 38; refine Calls.mono (D12.out _ _ (by with_reducible rfl) (by first | assumption | exact HS.out.next (below_drewN (Below.refl _ _) 1))) ?_; rintro e w8 ⟨rfl, hS8⟩))
  go_wp2
  go_ret
  exact ⟨rfl, hS8.g.bel⟩
set_option maxRecDepth 100000 in
set_option maxHeartbeats 2000000 in
theorem groups_out (P Q G q x k : Int) (au av : Option Addr) (nu cu nv cv : Nat) (s : ByteArray) (h : ¬ (nu ≤ 12 ∧ nv ≤ 12 ∧ s.size ≤ 100)) (w : World) (hE : Env w) :
    Calls Tryd.prog 4 #[.agg #[.int .i64 P, .int .i64 Q, .int .i64 G], .int .i64 q, .int .i64 x, .int .i64 k, .slice au nu cu, .slice av nv cv, .string s] w (Tpost w) := by
  unfold Tpost
  have hW0 : Gst w w.heap.size P Q G (w.alloc (.cells #[.int .i64 P, .int .i64 Q, .int .i64 G] 29)) := ⟨hE.next (below_one _ _), below_one _ _, Blk.new _ _ _⟩
  clear hE
  by_cases h1 : nu ≤ 12
  · have d1 : decide ((12 : Int) < (nu : Int)) = false := decide_eq_false (by omega)
    by_cases h2 : nv ≤ 12
    · have d2 : decide ((12 : Int) < (nv : Int)) = false := decide_eq_false (by omega)
      have h3 : ¬ s.size ≤ 100 := fun h3 => h ⟨h1, h2, h3⟩
      have d3 : decide ((100 : Int) < (s.size : Int)) = true := decide_eq_true (by omega)
      clear h
      go_enter Tryd.func4, Tryd.ntmps4
      go_wp2_with fail
      generalize (w.alloc (.cells #[.int .i64 P, .int .i64 Q, .int .i64 G] 29)) = W0 at *
      refine Calls.mono (hW0.of rfl (sane_calls W0 hW0.env)) ?_
      rintro e w1 ⟨rfl, hS1⟩
      go_wp2
      go_ret
      exact ⟨rfl, hS1.bel⟩
    · have d2 : decide ((12 : Int) < (nv : Int)) = true := decide_eq_true (by omega)
      clear h
      go_enter Tryd.func4, Tryd.ntmps4
      go_wp2_with fail
      generalize (w.alloc (.cells #[.int .i64 P, .int .i64 Q, .int .i64 G] 29)) = W0 at *
      refine Calls.mono (hW0.of rfl (sane_calls W0 hW0.env)) ?_
      rintro e w1 ⟨rfl, hS1⟩
      go_wp2
      go_ret
      exact ⟨rfl, hS1.bel⟩
  · have d1 : decide ((12 : Int) < (nu : Int)) = true := decide_eq_true (by omega)
    clear h
    go_enter Tryd.func4, Tryd.ntmps4
    go_wp2_with fail
    generalize (w.alloc (.cells #[.int .i64 P, .int .i64 Q, .int .i64 G] 29)) = W0 at *
    refine Calls.mono (hW0.of rfl (sane_calls W0 hW0.env)) ?_
    rintro e w1 ⟨rfl, hS1⟩
    go_wp2
    go_ret
    exact ⟨rfl, hS1.bel⟩
end Go.Proofs.YtolmcaikjebdaaaDoor
