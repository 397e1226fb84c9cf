/- Propose (written by tools/mktk2.py). -/
import Derived.Test.YtmgamngdmhnffaaGreatDoorTd
namespace Go.Proofs.YtmgamngdmhnffaaGreatDoor
open Go.RowKit

theorem gProdF_int (P Q : Int) : ∀ (xs es : List Int) (r : Int), isInt r → isInt (gProdF P Q r xs es)
  | _ :: xs, _ :: es, _, _ => gProdF_int P Q xs es _ (mulZ_int _ _ _)
  | [], [], _, h => h
  | [], _ :: _, _, h => h
  | _ :: _, [], _, h => h
theorem markT_int (s : SetD) (l : List Int) : isInt (s.markT l) := by
  unfold SetD.markT SetD.prodN
  split
  · rename_i h
    exact gProdF_int _ _ _ _ _ (isInt_res h.1.1 (res_in s.P 1 h.1.1))
  · unfold isInt; omega
/-- A call of plain arguments, above any world. -/
def DoesC (f : FuncId) (args : Array Value) (v : Value) : Prop :=
  ∀ (B : World) (args' : Array Value) (w : World), args' = args → Below B.heap.size B w → Calls Tryz.prog f args' w fun e w' => e = .returned v ∧ Below B.heap.size B w'
theorem DoesC.mk {f : FuncId} {args : Array Value} {v : Value} (h : ∀ w, Calls Tryz.prog f args w fun e w' => e = .returned v ∧ Below w.heap.size w w') : DoesC f args v := by
  intro B args' w' he hb
  subst he
  exact (h w').mono fun _ _ ⟨a, b⟩ => ⟨a, hb.trans (b.mono hb.size)⟩
/-- A world in which the three cells of a block were written. -/
def set3 (w : World) (b : Nat) (v0 v1 v2 : Value) : World := ((w.setCell ⟨b, 0, none⟩ v0).setCell ⟨b, 1, none⟩ v1).setCell ⟨b, 2, none⟩ v2
theorem set3_blk {w : World} {b : Nat} {t : TypeId} {x0 x1 x2 : Value} (h : Blk w b t #[x0, x1, x2]) (v0 v1 v2 : Value) : Blk (set3 w b v0 v1 v2) b t #[v0, v1, v2] := by
  have := ((h.set_ 0 v0).set_ 1 v1).set_ 2 v2
  simpa [set3] using this
theorem set3_far {w : World} {b b' : Nat} {t : TypeId} {cs : Array Value} (h : Blk w b' t cs) (hne : b' ≠ b) (v0 v1 v2 : Value) : Blk (set3 w b v0 v1 v2) b' t cs :=
  ((h.far (p := ⟨b, 0, none⟩) hne v0).far (p := ⟨b, 1, none⟩) hne v1).far (p := ⟨b, 2, none⟩) hne v2
theorem set3_below {a w : World} {B b : Nat} (h : Below B a w) (hb : B ≤ b) (v0 v1 v2 : Value) : Below B a (set3 w b v0 v1 v2) :=
  ((h.setCell (p := ⟨b, 0, none⟩) hb v0).setCell (p := ⟨b, 1, none⟩) hb v1).setCell (p := ⟨b, 2, none⟩) hb v2

set_option maxRecDepth 100000 in
set_option maxHeartbeats 4000000 in
theorem Propose_calls (s : SetD) (hi : s.ints) (vb : Value) (v : Value) (l : List Int) (x u : Int) (hx : isInt x) (hu : isInt u) (hli : ∀ x ∈ l, isInt x) (hl : l.length ≤ 100000000) (w : World) (hE : Env w) (hb0 : IsNums vb s.bs w) (hv : IsNums v l w) :
    Calls Tryz.prog 7 #[s.val vb, .int .i64 x, v, .int .i64 u] w fun e w' => e = .returned (if (s.valid && (s.usB l && (facsB s.Q [x] && [u].all (exB s.Q)))) = true then .tuple #[.agg #[.int .i64 (s.pw (s.markT l) x), .int .i64 (s.pw s.G u), .int .i64 (s.pw (s.markT l) u)], .int .i64 0] else .tuple #[.agg #[.int .i64 0, .int .i64 0, .int .i64 0], .int .i64 1]) ∧ Below w.heap.size w w' := by
  obtain ⟨a, c, rfl⟩ := hv.len
  obtain ⟨ab, cb, rfl⟩ := hb0.len
  obtain ⟨W0, hW0⟩ : ∃ W0, W0 = ((w.alloc (.cells (s.cells (.slice ab s.bs.length cb)) 33)).alloc (.cells #[.int .i64 0, .int .i64 0, .int .i64 0] 37)) := ⟨_, rfl⟩
  have hb : Below w.heap.size w W0 := by rw [hW0]; exact (Below.alloc_ (below_one w _) _)
  have hS : SetAt s (.slice ab s.bs.length cb) w.heap.size W0 := by rw [hW0]; exact Blk.alloc' (Blk.new w _ _) _
  have hX : Blk W0 (w.heap.size + 1) 37 #[.int .i64 0, .int .i64 0, .int .i64 0] := by rw [hW0]; exact Blk.new' (by rw [alloc_size]) _ _
  have HBN := fun w' (h : Below W0.heap.size W0 w') => Lib.hid (hb0.next (hb.trans (h.mono hb.size)))
  have c1 := Lib.hid (open_calls s hi (.slice ab s.bs.length cb) W0 (hE.next hb) (hb0.next hb))
  have HK : Hid (∀ w', Below W0.heap.size W0 w' → w'.cell? ⟨w.heap.size + 1, 0, none⟩ = some (.int .i64 0) ∧ w'.cell? ⟨w.heap.size + 1, 1, none⟩ = some (.int .i64 0) ∧ w'.cell? ⟨w.heap.size + 1, 2, none⟩ = some (.int .i64 0) ∧ Below W0.heap.size W0 w') := by
    show ∀ w', _
    intro w' h
    exact ⟨(hX.next h).cell 0, (hX.next h).cell 1, (hX.next h).cell 2, h⟩
  have HS0 : Hid (W0.heap.size = w.heap.size + 1 + 1) := by show _ = _; rw [hW0, alloc_size, alloc_size]
  have HB := Lib.hid hb
  have HN := fun w' (h : Below W0.heap.size W0 w') => Lib.hid (hv.next (hb.trans (h.mono hb.size)))
  have HX := Lib.hid hX
  obtain ⟨A, hA⟩ : ∃ z, z = s.usB l := ⟨_, rfl⟩
  rw [← hA]
  have HA := Lib.hid hA
  obtain ⟨M, hM⟩ : ∃ z, z = s.markT l := ⟨_, rfl⟩
  rw [← hM]
  have HM := Lib.hid hM
  have hmi : isInt M := by rw [hM]; exact markT_int s l
  have c3 := fun w' => Lib.hid (facs_calls s (.slice ab s.bs.length cb) _ [x] (by simp) _ (nums_one w' x))
  have c4 := fun w' => Lib.hid (nums_calls s (.slice ab s.bs.length cb) _ [u] (by simp) _ (nums_one w' u))
  have k1 := Lib.hid (DoesC.mk (f := 26) (gpower_calls s (.slice ab s.bs.length cb) M x hmi hx))
  have k2 := Lib.hid (DoesC.mk (f := 26) (gpower_calls s (.slice ab s.bs.length cb) s.G u hi.G hu))
  have k3 := Lib.hid (DoesC.mk (f := 26) (gpower_calls s (.slice ab s.bs.length cb) M u hmi hu))
  obtain ⟨F, hF⟩ : ∃ z, z = facsB s.Q [x] := ⟨_, rfl⟩
  obtain ⟨N, hN⟩ : ∃ z, z = [u].all (exB s.Q) := ⟨_, rfl⟩
  simp only [← hF] at c3
  simp only [← hN] at c4
  rw [← hF, ← hN]
  generalize s.pw M x = P1 at *
  generalize s.pw s.G u = P2 at *
  generalize s.pw M u = P3 at *
  generalize hV : s.valid = V at *
  have HV := Lib.hid hV
  have h2 : V = true → 2 ≤ s.bs.length := fun e => by rw [e] at hV; exact valid_bases hV
  have h7 : V = true → s.bs.length ≤ 7 := fun e => by rw [e] at hV; exact valid_bases7 hV
  unfold SetD.val at *
  unfold SetD.cells at hW0
  obtain ⟨z0, z1, z2, z3, z4⟩ := hS.get
  obtain ⟨x0, x1, x2, -⟩ := HK.out W0 (Below.refl _ _)
  rw [hW0] at z0 z1 z2 z3 z4 x0 x1 x2 c1
  have HW0 := Lib.hid hW0
  clear hE hb0 hS hV hb hW0 hX hv hA hM hmi hF hN
  go_enter Tryz.func7, Tryz.ntmps7
  go_wp2_with fail
  refine c1.out.mono ?_
  clear c1 z0 z1 z2 z3 z4 x0 x1 x2
  rw [← HW0.out]
  rintro e w1 ⟨rfl, hB1⟩
  have hW1 := hB1.size
  have hB2 := Below.alloc_ hB1 (.cells #[.int .i64 s.P, .int .i64 s.Q, .int .i64 s.G, .slice ab s.bs.length cb, .int .i64 s.H] 59)
  have hG : GAt s (.slice ab s.bs.length cb) w1.heap.size (w1.alloc (.cells #[.int .i64 s.P, .int .i64 s.Q, .int .i64 s.G, .slice ab s.bs.length cb, .int .i64 s.H] 59)) := Blk.new w1 _ _
  clear hB1
  cases V
  · have hq := HX.out.next hB2
    have hW := set3_blk hq (.int .i64 0) (.int .i64 0) (.int .i64 0)
    have hBF := set3_below (HB.out.trans (hB2.mono HB.out.size)) (show w.heap.size ≤ w.heap.size + 1 by omega) (.int .i64 0) (.int .i64 0) (.int .i64 0)
    unfold set3 at hW hBF
    have q0 := hq.cell 0
    have q1 := hq.cell 1
    have q2 := hq.cell 2
    have qf := hq.frozen
    have f0 := hW.cell 0
    have f1 := hW.cell 1
    have f2 := hW.cell 2
    clear hq hW
    go_wp2
    refine bodyPost_ret (v := .tuple #[.agg #[.int .i64 0, .int .i64 0, .int .i64 0], .int .i64 1]) (by simp [results, Tryz.results7, go_sem, f0, f1, f2]) rfl ⟨rfl, hBF⟩
  · have c2 := Lib.hid (us_calls s hi (.slice ab s.bs.length cb) (.slice a l.length c) l hli hl (h2 rfl) (by have := h7 rfl; omega) _ (HBN _ hB2).out (HN _ hB2).out)
    have c5 := fun w' (h : Below W0.heap.size W0 w') => Lib.hid (gmark_calls s hi (.slice ab s.bs.length cb) (.slice a l.length c) l hli hl (by have := h7 rfl; omega) w' (HBN _ h).out (HN _ h).out)
    unfold SetD.val at c2 c5
    obtain ⟨z0, z1, z2, z3, z4⟩ := hG.get
    rw [← HA.out] at c2
    simp only [← HM.out] at c5
    go_wp2_with fail
    generalize (w1.alloc (.cells #[.int .i64 s.P, .int .i64 s.Q, .int .i64 s.G, .slice ab s.bs.length cb, .int .i64 s.H] 59)) = W2 at *
    have hG2 : GAt s (.slice ab s.bs.length cb) w1.heap.size W2 := hG
    refine c2.out.mono ?_
    clear c2 z0 z1 z2 z3 z4 hG
    rintro e w2 ⟨rfl, hb2⟩
    have hB3 := hB2.trans (hb2.mono hB2.size)
    have hG3 := hG2.next hb2
    clear hb2 hG2 hB2
    cases A
    · have hq := HX.out.next hB3
      have hW := set3_blk hq (.int .i64 0) (.int .i64 0) (.int .i64 0)
      have hBF := set3_below (HB.out.trans (hB3.mono HB.out.size)) (show w.heap.size ≤ w.heap.size + 1 by omega) (.int .i64 0) (.int .i64 0) (.int .i64 0)
      unfold set3 at hW hBF
      have q0 := hq.cell 0
      have q1 := hq.cell 1
      have q2 := hq.cell 2
      have qf := hq.frozen
      have f0 := hW.cell 0
      have f1 := hW.cell 1
      have f2 := hW.cell 2
      clear hq hW
      go_wp2
      refine bodyPost_ret (v := .tuple #[.agg #[.int .i64 0, .int .i64 0, .int .i64 0], .int .i64 1]) (by simp [results, Tryz.results7, go_sem, f0, f1, f2]) rfl ⟨rfl, hBF⟩
    · obtain ⟨z0, z1, z2, z3, z4⟩ := hG3.get
      have c3 := c3 w2
      go_wp2_with fail
      refine c3.out.mono ?_
      clear c3 z0 z1 z2 z3 z4
      rintro e w3 ⟨rfl, hb3⟩
      have hB3' := Below.alloc_ hB3 (.cells #[.int .i64 x] 3)
      have hB4 := hB3'.trans (hb3.mono hB3'.size)
      have hG4 := (hG3.next (below_one _ (.cells #[.int .i64 x] 3))).next hb3
      clear hb3 hB3 hG3 hB3'
      cases F
      · have hq := HX.out.next hB4
        have hW := set3_blk hq (.int .i64 0) (.int .i64 0) (.int .i64 0)
        have hBF := set3_below (HB.out.trans (hB4.mono HB.out.size)) (show w.heap.size ≤ w.heap.size + 1 by omega) (.int .i64 0) (.int .i64 0) (.int .i64 0)
        unfold set3 at hW hBF
        have q0 := hq.cell 0
        have q1 := hq.cell 1
        have q2 := hq.cell 2
        have qf := hq.frozen
        have f0 := hW.cell 0
        have f1 := hW.cell 1
        have f2 := hW.cell 2
        clear hq hW
        go_wp2
        refine bodyPost_ret (v := .tuple #[.agg #[.int .i64 0, .int .i64 0, .int .i64 0], .int .i64 1]) (by simp [results, Tryz.results7, go_sem, f0, f1, f2]) rfl ⟨rfl, hBF⟩
      · obtain ⟨z0, z1, z2, z3, z4⟩ := hG4.get
        have c4 := c4 w3
        go_wp2_with fail
        refine c4.out.mono ?_
        clear c4 z0 z1 z2 z3 z4
        rintro e w4 ⟨rfl, hb4⟩
        have hB4' := Below.alloc_ hB4 (.cells #[.int .i64 u] 3)
        have hB5 := hB4'.trans (hb4.mono hB4'.size)
        have hG5 := (hG4.next (below_one _ (.cells #[.int .i64 u] 3))).next hb4
        clear hb4 hB4 hG4 hB4'
        cases N
        · have hq := HX.out.next hB5
          have hW := set3_blk hq (.int .i64 0) (.int .i64 0) (.int .i64 0)
          have hBF := set3_below (HB.out.trans (hB5.mono HB.out.size)) (show w.heap.size ≤ w.heap.size + 1 by omega) (.int .i64 0) (.int .i64 0) (.int .i64 0)
          unfold set3 at hW hBF
          have q0 := hq.cell 0
          have q1 := hq.cell 1
          have q2 := hq.cell 2
          have qf := hq.frozen
          have f0 := hW.cell 0
          have f1 := hW.cell 1
          have f2 := hW.cell 2
          clear hq hW
          go_wp2
          refine bodyPost_ret (v := .tuple #[.agg #[.int .i64 0, .int .i64 0, .int .i64 0], .int .i64 1]) (by simp [results, Tryz.results7, go_sem, f0, f1, f2]) rfl ⟨rfl, hBF⟩
        · obtain ⟨z0, z1, z2, z3, z4⟩ := hG5.get
          have c5 := c5 w4 hB5
          go_wp2_with fail
          refine c5.out.mono ?_
          clear c5 z0 z1 z2 z3 z4
          rintro e w5 ⟨rfl, hb5⟩
          have hB6 := hB5.trans (hb5.mono hB5.size)
          have hG6 := hG5.next hb5
          clear hb5 hB5 hG5
          have hX6 := HX.out.next hB6
          have HB6 := Lib.hid (HB.out.trans (hB6.mono HB.out.size))
          have hne : w.heap.size + 1 < w1.heap.size := by have h1 := HS0.out; have h2 := hW1; omega
          have HG : Hid (∀ w', Below w5.heap.size w5 w' → w'.cell? ⟨w1.heap.size, 0, none⟩ = some (.int .i64 s.P) ∧ w'.cell? ⟨w1.heap.size, 1, none⟩ = some (.int .i64 s.Q) ∧ w'.cell? ⟨w1.heap.size, 2, none⟩ = some (.int .i64 s.G) ∧ w'.cell? ⟨w1.heap.size, 3, none⟩ = some (.slice ab s.bs.length cb) ∧ w'.cell? ⟨w1.heap.size, 4, none⟩ = some (.int .i64 s.H) ∧ Below w.heap.size w w') := by
            show ∀ w', _
            intro w' h
            obtain ⟨z0, z1, z2, z3, z4⟩ := (hG6.next h).get
            exact ⟨z0, z1, z2, z3, z4, HB6.out.trans (h.mono HB6.out.size)⟩
          have HG2 : Hid (∀ w' v0 v1 v2, Below w5.heap.size w5 w' → (set3 w' (w.heap.size + 1) v0 v1 v2).cell? ⟨w1.heap.size, 0, none⟩ = some (.int .i64 s.P) ∧ (set3 w' (w.heap.size + 1) v0 v1 v2).cell? ⟨w1.heap.size, 1, none⟩ = some (.int .i64 s.Q) ∧ (set3 w' (w.heap.size + 1) v0 v1 v2).cell? ⟨w1.heap.size, 2, none⟩ = some (.int .i64 s.G) ∧ (set3 w' (w.heap.size + 1) v0 v1 v2).cell? ⟨w1.heap.size, 3, none⟩ = some (.slice ab s.bs.length cb) ∧ (set3 w' (w.heap.size + 1) v0 v1 v2).cell? ⟨w1.heap.size, 4, none⟩ = some (.int .i64 s.H) ∧ Below w.heap.size w (set3 w' (w.heap.size + 1) v0 v1 v2)) := by
            show ∀ w' v0 v1 v2, _
            intro w' v0 v1 v2 h
            have hB : GAt s (.slice ab s.bs.length cb) w1.heap.size (set3 w' (w.heap.size + 1) v0 v1 v2) := set3_far (hG6.next h) (by omega) _ _ _
            obtain ⟨z0, z1, z2, z3, z4⟩ := hB.get
            exact ⟨z0, z1, z2, z3, z4, set3_below (HB6.out.trans (h.mono HB6.out.size)) (by omega) _ _ _⟩
          have HX6 := Lib.hid hX6
          obtain ⟨z0, z1, z2, z3, z4⟩ := hG6.get
          clear hX6 hG6
          go_wp2
          go_region_held3 (fun w' => w'.cell? ⟨w1.heap.size, 0, none⟩ = some (.int .i64 s.P) ∧ w'.cell? ⟨w1.heap.size, 1, none⟩ = some (.int .i64 s.Q) ∧ w'.cell? ⟨w1.heap.size, 2, none⟩ = some (.int .i64 s.G) ∧ w'.cell? ⟨w1.heap.size, 3, none⟩ = some (.slice ab s.bs.length cb) ∧ w'.cell? ⟨w1.heap.size, 4, none⟩ = some (.int .i64 s.H) ∧ Below w.heap.size w w')
            (first | (refine HG.out _ ?_; (first | assumption | exact below_drewN (Below.refl _ _) _ | exact Below.refl _ _)) | exact HG2.out _ _ _ _ (by assumption))
            (first
              | (go_at_call 26; refine Calls.mono (k1.out w5 _ _ (by with_reducible rfl) (by first | assumption | exact below_drewN (Below.refl _ _) _)) ?_; rintro e wl ⟨rfl, hbl⟩; have hq := HX6.out.next hbl; have q0 := hq.cell 0; have q1 := hq.cell 1; have q2 := hq.cell 2; have qf := hq.frozen)
              | (go_at_call 26; refine Calls.mono (k2.out w5 _ _ (by with_reducible rfl) (by first | assumption | exact below_drewN (Below.refl _ _) _)) ?_; rintro e wl ⟨rfl, hbl⟩; have hq := HX6.out.next hbl; have q0 := hq.cell 0; have q1 := hq.cell 1; have q2 := hq.cell 2; have qf := hq.frozen)
              | (go_at_call 26; refine Calls.mono (k3.out w5 _ _ (by with_reducible rfl) (by first | assumption | exact below_drewN (Below.refl _ _) _)) ?_; rintro e wl ⟨rfl, hbl⟩; have hq := HX6.out.next hbl; have q0 := hq.cell 0; have q1 := hq.cell 1; have q2 := hq.cell 2; have qf := hq.frozen))
          all_goals
            have hW := set3_blk hq (.int .i64 P1) (.int .i64 P2) (.int .i64 P3)
            have hBF := set3_below (HB6.out.trans (hbl.mono HB6.out.size)) (show w.heap.size ≤ w.heap.size + 1 by omega) (.int .i64 P1) (.int .i64 P2) (.int .i64 P3)
            unfold set3 at hW hBF
            have f0 := hW.cell 0
            have f1 := hW.cell 1
            have f2 := hW.cell 2
            clear hq hW
            go_wp2
            refine bodyPost_ret (v := .tuple #[.agg #[.int .i64 P1, .int .i64 P2, .int .i64 P3], .int .i64 0]) (by simp [results, Tryz.results7, go_sem, f0, f1, f2]) rfl ⟨rfl, hBF⟩

end Go.Proofs.YtmgamngdmhnffaaGreatDoor
