/- Statutes. -/
import Derived.Test.YtkfmhibdoapndaaDoorReas
namespace Go.Proofs.YtkfmhibdoapndaaDoor
open Go.RowKit

/-- A statute. -/
structure StatD where
  rs : List (List UInt8)
  qu : Int
  ws : List Int
def weighB (l : List Int) : Bool := decide (l.length ≤ 12) && (l.all wB && decide (sumW l ≤ 12))
def StatD.valid (x : StatD) : Bool := reasB x.rs && (weighB x.ws && (decide (1 ≤ x.qu) && decide (x.qu ≤ sumW x.ws)))
theorem weighB_all {l : List Int} (h : weighB l = true) : l.length ≤ 12 ∧ l.all wB = true ∧ sumW l ≤ 12 := by
  unfold weighB at h
  simpa using h

set_option maxRecDepth 100000 in
set_option maxHeartbeats 2000000 in
theorem weights_calls (v : Value) (l : List Int) (hl : l.length ≤ 9223372036854775807) (w : World) (hv : IsNums v l w) :
    Calls Tryd.prog 19 #[v] w fun e w' => e = .returned (.bool (weighB l)) ∧ Below w.heap.size w w' := by
  obtain ⟨a, cap, rfl⟩ := hv.len
  obtain ⟨V, hV⟩ : ∃ V, V = weighB l := ⟨_, rfl⟩
  rw [← hV]
  have HV := Lib.hid hV
  clear hV
  by_cases h1 : l.length ≤ 12
  · have d1 : decide ((l.length : Int) ≤ 12) = true := decide_eq_true (by omega)
    have c1 : Hid (∀ (args' : Array Value) (w' : World), args' = #[.slice a l.length cap, .func (.func 32) #[] #[]] → Below w.heap.size w w' → Calls Tryd.prog 31 args' w' fun e w'' => e = .returned (.bool (l.all wB)) ∧ Below w.heap.size w w'') := by
      show ∀ args' w', _
      intro args' w' he h
      subst he
      refine (wevery_calls _ l hl w' (hv.next h)).mono ?_
      rintro e w'' ⟨h1, h2⟩
      exact ⟨h1, h.trans (h2.mono h.size)⟩
    have c2 : Hid (l.all wB = true → ∀ (args' : Array Value) (w' : World), args' = #[.slice a l.length cap] → Below w.heap.size w w' → Calls Tryd.prog 20 args' w' fun e w'' => e = .returned (.int .i64 (sumW l)) ∧ w' = w'') := by
      show _ → ∀ args' w', _
      intro ha args' w' he h
      subst he
      exact total_calls _ l (by omega) ha w' (hv.next h)
    have HW : Hid (weighB l = (l.all wB && decide (sumW l ≤ 12))) := by show _ = _; unfold weighB; rw [decide_eq_true h1]; rfl
    generalize l.all wB = A at *
    clear h1 hl hv
    cases A
    · have HR : Hid (V = false) := by show _ = _; rw [HV.out, HW.out]; rfl
      clear c2
      go_enter Tryd.func19, Tryd.ntmps19
      go_wp2_with fail
      refine (c1.out _ _ rfl (Below.refl _ _)).mono ?_
      rintro e w1 ⟨rfl, hb1⟩
      go_wp2
      go_ret
      exact ⟨ret_b HR.out.symm, hb1⟩
    · have c3 := Lib.hid (c2.out rfl)
      clear c2
      have HR : Hid (V = decide (sumW l ≤ 12)) := by show _ = _; rw [HV.out, HW.out]; rfl
      generalize sumW l = S at *
      go_enter Tryd.func19, Tryd.ntmps19
      go_wp2_with fail
      refine (c1.out _ _ rfl (Below.refl _ _)).mono ?_
      rintro e w1 ⟨rfl, hb1⟩
      go_wp2_with fail
      refine (c3.out _ _ rfl hb1).mono ?_
      rintro e w2 ⟨rfl, rfl⟩
      go_wp2
      go_ret
      exact ⟨ret_b HR.out.symm, hb1⟩
  · have d1 : decide ((l.length : Int) ≤ 12) = false := decide_eq_false (by omega)
    have HR : Hid (V = false) := by show _ = _; rw [HV.out]; unfold weighB; rw [decide_eq_false h1]; rfl
    clear h1 hv
    go_enter Tryd.func19, Tryd.ntmps19
    go_wp2
    go_ret
    exact ⟨ret_b HR.out.symm, Below.refl _ _⟩

/-- A statute's cells; its value. -/
def statCells (vr vw : Value) (q : Int) : Array Value := #[vr, .int .i64 q, vw]
/-- What an element of a list of statutes, or a statute's own block, holds. -/
def StatAt (lo : Nat) : Reads StatD := fun bk off x w => ∃ vr vw, w.cell? ⟨bk, off, none⟩ = some vr ∧ w.cell? ⟨bk, off + 1, none⟩ = some (.int .i64 x.qu) ∧ w.cell? ⟨bk, off + 2, none⟩ = some vw ∧ IsTexts lo vr x.rs w ∧ NumsIn lo vw x.ws w
structure StatD.ok (x : StatD) : Prop where
  q : isInt x.qu
  r : x.rs.length ≤ 9223372036854775807
  s : ∀ s ∈ x.rs, s.length ≤ 4294967296
  w : x.ws.length ≤ 9223372036854775807

set_option maxRecDepth 100000 in
set_option maxHeartbeats 2000000 in
theorem valid_calls (x : StatD) (hx : x.ok) (vr vw : Value) (w : World) (hr : IsTexts 0 vr x.rs w) (hw : IsNums vw x.ws w) :
    Calls Tryd.prog 7 #[.agg #[vr, .int .i64 x.qu, vw]] w fun e w' => e = .returned (.bool x.valid) ∧ Below w.heap.size w w' := by
  obtain ⟨V, hV⟩ : ∃ V, V = x.valid := ⟨_, rfl⟩
  rw [← hV]
  have HV := Lib.hid hV
  have hb0 := below_one w (.cells #[vr, .int .i64 x.qu, vw] 25)
  have hB := Blk.new w 25 #[vr, .int .i64 x.qu, vw]
  go_enter Tryd.func7, Tryd.ntmps7
  go_wp2_with fail
  generalize w.alloc (.cells #[vr, .int .i64 x.qu, vw] 25) = W at *
  have q0 : ∀ u : Up W, u.w.cell? ⟨w.heap.size, 0, none⟩ = some vr := fun u => (hB.next u.b).cell 0
  have q1 : ∀ u : Up W, u.w.cell? ⟨w.heap.size, 1, none⟩ = some (.int .i64 x.qu) := fun u => (hB.next u.b).cell 1
  have q2 : ∀ u : Up W, u.w.cell? ⟨w.heap.size, 2, none⟩ = some vw := fun u => (hB.next u.b).cell 2
  have hr0 := hr.next hb0
  have hw0 := hw.next hb0
  have k1 : Hid (∀ (args' : Array Value) (w' : World), args' = #[vr] → Below W.heap.size W w' → Calls Tryd.prog 18 args' w' fun e w'' => e = .returned (.bool (reasB x.rs)) ∧ Below W.heap.size W w'') := by
    show ∀ args' w', _
    intro args' w' he h
    subst he
    refine (reasons_calls 0 _ x.rs hx.r hx.s w' (hr0.next h)).mono ?_
    rintro e w'' ⟨h1, h2⟩
    exact ⟨h1, h.trans (h2.mono h.size)⟩
  have k2 : Hid (∀ (args' : Array Value) (w' : World), args' = #[vw] → Below W.heap.size W w' → Calls Tryd.prog 19 args' w' fun e w'' => e = .returned (.bool (weighB x.ws)) ∧ Below W.heap.size W w'') := by
    show ∀ args' w', _
    intro args' w' he h
    subst he
    refine (weights_calls _ x.ws hx.w w' (hw0.next h)).mono ?_
    rintro e w'' ⟨h1, h2⟩
    exact ⟨h1, h.trans (h2.mono h.size)⟩
  have k3 : Hid (weighB x.ws = true → ∀ (args' : Array Value) (w' : World), args' = #[vw] → Below W.heap.size W w' → Calls Tryd.prog 20 args' w' fun e w'' => e = .returned (.int .i64 (sumW x.ws)) ∧ Below W.heap.size W w'') := by
    show _ → ∀ args' w', _
    intro ha args' w' he h
    subst he
    obtain ⟨h1, h2, h3⟩ := weighB_all ha
    refine (total_calls _ x.ws (by omega) h2 w' (hw0.next h)).mono ?_
    rintro e w'' ⟨h1, rfl⟩
    exact ⟨h1, h⟩
  have HF : Hid (x.valid = (reasB x.rs && (weighB x.ws && (decide (1 ≤ x.qu) && decide (x.qu ≤ sumW x.ws))))) := rfl
  have HB := Lib.hid hb0
  generalize reasB x.rs = A at *
  generalize weighB x.ws = B at *
  generalize sumW x.ws = S at *
  clear hV hb0 hB hr hw hx hr0 hw0
  cases A
  · have HR : Hid (V = false) := by show _ = _; rw [HV.out, HF.out]; rfl
    clear k2 k3 HF HV
    refine wp_region_up (by kernel_rfl) (by kernel_rfl) ?_
    repeat (go_big_quiet_step (exact Calls.mono (k1.out _ _ (by with_reducible rfl) (Up.b _)) fun e w' h => ⟨h.1, ⟨w', h.2⟩, rfl⟩))
    refine wpQuiet_nil ?_
    intro _ hw'
    obtain ⟨u6, rfl⟩ := hw'
    have hb4 := Lib.hid (HB.out.trans (u6.b.mono HB.out.size))
    generalize u6.w = w4 at *
    clear q0 q1 q2 k1
    go_wp2
    go_ret
    exact ⟨ret_b HR.out.symm, hb4.out⟩
  · cases B
    · have HR : Hid (V = false) := by show _ = _; rw [HV.out, HF.out]; rfl
      clear k3 HF HV
      refine wp_region_up (by kernel_rfl) (by kernel_rfl) ?_
      repeat (go_big_quiet_step (first | exact Calls.mono (k1.out _ _ (by with_reducible rfl) (Up.b _)) fun e w' h => ⟨h.1, ⟨w', h.2⟩, rfl⟩ | exact Calls.mono (k2.out _ _ (by with_reducible rfl) (Up.b _)) fun e w' h => ⟨h.1, ⟨w', h.2⟩, rfl⟩))
      refine wpQuiet_nil ?_
      intro _ hw'
      obtain ⟨u6, rfl⟩ := hw'
      have hb4 := Lib.hid (HB.out.trans (u6.b.mono HB.out.size))
      generalize u6.w = w4 at *
      clear q0 q1 q2 k1 k2
      go_wp2
      go_ret
      exact ⟨ret_b HR.out.symm, hb4.out⟩
    · have HR : Hid (V = (decide (1 ≤ x.qu) && decide (x.qu ≤ S))) := by show _ = _; rw [HV.out, HF.out]; rfl
      have k3 := Lib.hid (k3.out rfl)
      clear HF HV
      by_cases hq : 1 ≤ x.qu
      · have HR : Hid (V = decide (x.qu ≤ S)) := by show _ = _; rw [HR.out, decide_eq_true hq]; rfl
        refine wp_region_up (by kernel_rfl) (by kernel_rfl) ?_
        repeat (go_big_quiet_step (first | exact Calls.mono (k1.out _ _ (by with_reducible rfl) (Up.b _)) fun e w' h => ⟨h.1, ⟨w', h.2⟩, rfl⟩ | exact Calls.mono (k2.out _ _ (by with_reducible rfl) (Up.b _)) fun e w' h => ⟨h.1, ⟨w', h.2⟩, rfl⟩ | exact Calls.mono (k3.out _ _ (by with_reducible rfl) (Up.b _)) fun e w' h => ⟨h.1, ⟨w', h.2⟩, rfl⟩))
        refine wpQuiet_nil ?_
        intro _ hw'
        obtain ⟨u6, rfl⟩ := hw'
        have hb4 := Lib.hid (HB.out.trans (u6.b.mono HB.out.size))
        generalize u6.w = w4 at *
        clear q0 q1 q2 k1 k2 k3
        go_wp2
        go_ret
        exact ⟨ret_b HR.out.symm, hb4.out⟩
      · have HR : Hid (V = false) := by show _ = _; rw [HR.out, decide_eq_false hq]; rfl
        refine wp_region_up (by kernel_rfl) (by kernel_rfl) ?_
        repeat (go_big_quiet_step (first | exact Calls.mono (k1.out _ _ (by with_reducible rfl) (Up.b _)) fun e w' h => ⟨h.1, ⟨w', h.2⟩, rfl⟩ | exact Calls.mono (k2.out _ _ (by with_reducible rfl) (Up.b _)) fun e w' h => ⟨h.1, ⟨w', h.2⟩, rfl⟩))
        refine wpQuiet_nil ?_
        intro _ hw'
        obtain ⟨u6, rfl⟩ := hw'
        have hb4 := Lib.hid (HB.out.trans (u6.b.mono HB.out.size))
        generalize u6.w = w4 at *
        clear q0 q1 q2 k1 k2 k3
        go_wp2
        go_ret
        exact ⟨ret_b HR.out.symm, hb4.out⟩
end Go.Proofs.YtkfmhibdoapndaaDoor
