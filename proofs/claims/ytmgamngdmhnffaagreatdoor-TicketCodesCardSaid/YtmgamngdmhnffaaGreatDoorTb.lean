/- Spends that are accepted. -/
import Derived.Test.YtmgamngdmhnffaaGreatDoorTa
namespace Go.Proofs.YtmgamngdmhnffaaGreatDoor
open Go.RowKit

set_option maxRecDepth 100000 in
set_option maxHeartbeats 2000000 in
theorem acc_calls (s : SetD) (hi : s.ints) (vb va : Value) (t : TktD) (ht : t.ints) (d : Int) (an : List Int) (hd : isInt d) (hai : ∀ x ∈ an, isInt x) (hal : an.length ≤ 100000000) (hbl : s.bs.length ≤ 4294967296) (w : World) (hb0 : IsNums vb s.bs w) (hv : IsNums va an w) :
    Calls Tryz.prog 35 #[s.val vb, t.val, .agg #[.int .i64 d, va]] w fun e w' => e = .returned (.bool (s.accB t ⟨d, an⟩)) ∧ Below w.heap.size w w' := by
  obtain ⟨a, c, rfl⟩ := hv.len
  obtain ⟨ab, cb, rfl⟩ := hb0.len
  have HF : Hid (s.accB t ⟨d, an⟩ = (s.formB t && (facsB s.Q [d] && (decide (an.length = s.bs.length) && (an.all (exB s.Q) && decide (s.prodN an = s.tmG 1 [s.pw t.mark d, t.first])))))) := rfl
  obtain ⟨W0, hW0⟩ : ∃ W0, W0 = ((w.alloc (.cells (s.cells (.slice ab s.bs.length cb)) 59)).alloc (.cells #[.int .i64 t.mark, .int .i64 t.first, .int .i64 t.z, .int .i64 t.a, .int .i64 t.b, .int .i64 t.r] 23)).alloc (.cells #[.int .i64 d, .slice a an.length c] 42) := ⟨_, rfl⟩
  have hb : Below w.heap.size w W0 := by rw [hW0]; exact Below.alloc_ (Below.alloc_ (below_one w _) _) _
  have hS : GAt s (.slice ab s.bs.length cb) w.heap.size W0 := by rw [hW0]; exact Blk.alloc' (Blk.alloc' (Blk.new w _ _) _) _
  have hT : Blk W0 (w.heap.size + 1) 23 #[.int .i64 t.mark, .int .i64 t.first, .int .i64 t.z, .int .i64 t.a, .int .i64 t.b, .int .i64 t.r] := by rw [hW0]; exact Blk.alloc' (Blk.new' (alloc_size w _) _ _) _
  have hX : Blk W0 (w.heap.size + 1 + 1) 42 #[.int .i64 d, .slice a an.length c] := by rw [hW0]; exact Blk.new' (by rw [alloc_size, alloc_size]) _ _
  have HBN := fun w' (h : Below W0.heap.size W0 w') => Lib.hid (hb0.next (hb.trans (h.mono hb.size)))
  have HN := fun w' (h : Below W0.heap.size W0 w') => Lib.hid (hv.next (hb.trans (h.mono hb.size)))
  have c1 := Lib.hid (form_calls s hi (.slice ab s.bs.length cb) t ht W0)
  have HK : Hid (∀ w', Below W0.heap.size W0 w' → w'.cell? ⟨w.heap.size, 0, none⟩ = some (.int .i64 s.P) ∧ w'.cell? ⟨w.heap.size, 1, none⟩ = some (.int .i64 s.Q) ∧ w'.cell? ⟨w.heap.size, 2, none⟩ = some (.int .i64 s.G) ∧ w'.cell? ⟨w.heap.size, 3, none⟩ = some (.slice ab s.bs.length cb) ∧ w'.cell? ⟨w.heap.size, 4, none⟩ = some (.int .i64 s.H) ∧ w'.cell? ⟨w.heap.size + 1, 0, none⟩ = some (.int .i64 t.mark) ∧ w'.cell? ⟨w.heap.size + 1, 1, none⟩ = some (.int .i64 t.first) ∧ w'.cell? ⟨w.heap.size + 1, 2, none⟩ = some (.int .i64 t.z) ∧ w'.cell? ⟨w.heap.size + 1, 3, none⟩ = some (.int .i64 t.a) ∧ w'.cell? ⟨w.heap.size + 1, 4, none⟩ = some (.int .i64 t.b) ∧ w'.cell? ⟨w.heap.size + 1, 5, none⟩ = some (.int .i64 t.r) ∧ w'.cell? ⟨w.heap.size + 1 + 1, 0, none⟩ = some (.int .i64 d) ∧ w'.cell? ⟨w.heap.size + 1 + 1, 1, none⟩ = some (.slice a an.length c) ∧ Below W0.heap.size W0 w') := by
    show ∀ w', _
    intro w' h
    obtain ⟨z0, z1, z2, z3, z4⟩ := (hS.next h).get
    exact ⟨z0, z1, z2, z3, z4, (hT.next h).cell 0, (hT.next h).cell 1, (hT.next h).cell 2, (hT.next h).cell 3, (hT.next h).cell 4, (hT.next h).cell 5, (hX.next h).cell 0, (hX.next h).cell 1, h⟩
  have HS0 : Hid (W0.heap.size = w.heap.size + 1 + 1 + 1) := by show _ = _; rw [hW0, alloc_size, alloc_size, alloc_size]
  have HB := Lib.hid hb
  obtain ⟨z0, z1, z2, z3, z4, y0, y1, y2, y3, y4, y5, x0, x1, -⟩ := HK.out W0 (Below.refl _ _)
  have c2 := fun w' => Lib.hid (facs_calls s (.slice ab s.bs.length cb) _ [d] (by simp) _ (nums_one w' d))
  have c3 := fun w' (h : Below W0.heap.size W0 w') => Lib.hid (nums_calls s (.slice ab s.bs.length cb) (.slice a an.length c) an (by omega) w' (HN w' h).out)
  have k1 := Lib.hid (DoesE.mk (w0 := W0) (f := 41) fun w' h => gproduct_calls s hi (.slice ab s.bs.length cb) (.slice a an.length c) an hai (by omega) hbl w' (HBN w' h).out (HN w' h).out)
  have k2 := Lib.hid (DoesE.mk (w0 := W0) (f := 26) fun w' _ => gpower_calls s (.slice ab s.bs.length cb) t.mark d ht.mark hd w')
  have hpi : isInt (s.pw t.mark d) := gPow_int _ _ _ _
  have k3 : Hid (∀ (g : Nat) (w' : World), IsNums (.slice (some ⟨g, 0, none⟩) 2 2) [s.pw t.mark d, t.first] w' → Below W0.heap.size W0 w' → Calls Tryz.prog 50 #[s.val (.slice ab s.bs.length cb), .slice (some ⟨g, 0, none⟩) 2 2] w' fun e w'' => e = .returned (.int .i64 (s.tmG 1 [s.pw t.mark d, t.first])) ∧ Below W0.heap.size W0 w'') := by
    show ∀ g w', _
    intro g w' hn h
    refine (gtimes_calls s (.slice ab s.bs.length cb) _ [s.pw t.mark d, t.first] (by
      intro x hx
      simp only [List.mem_cons, List.not_mem_nil, or_false] at hx
      rcases hx with rfl | rfl
      · exact hpi
      · exact ht.first) (by simp) w' hn).mono ?_
    rintro e w'' ⟨h1, h2⟩
    exact ⟨h1, h.trans (h2.mono h.size)⟩
  have HT : Hid (∀ P M T, M = s.tmG 1 [s.pw t.mark d, t.first] → P = s.prodN an → (P == M) = T → (decide (s.prodN an = s.tmG 1 [s.pw t.mark d, t.first])) = T) := by
    show ∀ P M T, _
    rintro P M T rfl rfl rfl
    rfl
  generalize s.prodN an = PR at *
  generalize s.tmG 1 [s.pw t.mark d, t.first] = TM at *
  generalize s.pw t.mark d = PW at *
  unfold SetD.val TktD.val at *
  unfold SetD.cells at hW0
  rw [hW0] at z0 z1 z2 z3 z4 y0 y1 y2 y3 y4 y5 x0 x1 c1
  have HW0 := Lib.hid hW0
  generalize s.formB t = F at *
  clear hS hT hX hb hb0 hv hpi hW0
  go_enter Tryz.func35, Tryz.ntmps35
  go_wp2_with fail
  refine c1.out.mono ?_
  clear c1 z0 z1 z2 z3 z4 y0 y1 y2 y3 y4 y5 x0 x1
  rw [← HW0.out]
  rintro e w1 ⟨rfl, hb1⟩
  obtain ⟨z0, z1, z2, z3, z4, y0, y1, y2, y3, y4, y5, x0, x1, -⟩ := HK.out w1 hb1
  cases F
  · go_wp2
    go_ret
    exact ⟨ret_b HF.out.symm, HB.out.trans (hb1.mono HB.out.size)⟩
  · have c2 := c2 w1
    generalize facsB s.Q [d] = A at *
    go_wp2_with fail
    refine c2.out.mono ?_
    clear c2 z0 z1 z2 z3 z4 y0 y1 y2 y3 y4 y5 x0 x1
    rintro e w2 ⟨rfl, hb2⟩
    have hB2 : Below W0.heap.size W0 w2 := by
      have := Below.alloc_ hb1 (.cells #[.int .i64 d] 3)
      exact this.trans (hb2.mono this.size)
    obtain ⟨z0, z1, z2, z3, z4, y0, y1, y2, y3, y4, y5, x0, x1, -⟩ := HK.out w2 hB2
    clear hb1 hb2
    cases A
    · go_wp2
      go_ret
      exact ⟨ret_b HF.out.symm, HB.out.trans (hB2.mono HB.out.size)⟩
    · by_cases h1 : an.length = s.bs.length
      · have hbn : ((an.length : Int) != (s.bs.length : Int)) = false := by simp [h1]
        have HF2 : Hid (s.accB t ⟨d, an⟩ = (an.all (exB s.Q) && decide (PR = TM))) := by show _ = _; rw [HF.out, decide_eq_true h1]; rfl
        clear h1 HF
        have c3 := c3 w2 hB2
        generalize an.all (exB s.Q) = N at *
        go_wp2_with fail
        refine c3.out.mono ?_
        clear c3 z0 z1 z2 z3 z4 y0 y1 y2 y3 y4 y5 x0 x1
        rintro e w3 ⟨rfl, hb3⟩
        have hB3 : Below W0.heap.size W0 w3 := hB2.trans (hb3.mono hB2.size)
        clear hb3 hB2
        cases N
        · go_wp2
          go_ret
          exact ⟨ret_b HF2.out.symm, HB.out.trans (hB3.mono HB.out.size)⟩
        · obtain ⟨z0, z1, z2, z3, z4, y0, y1, y2, y3, y4, y5, x0, x1, -⟩ := HK.out w3 hB3
          go_wp2
          go_region_held3 (fun w' => w'.cell? ⟨w.heap.size, 0, none⟩ = some (.int .i64 s.P) ∧ w'.cell? ⟨w.heap.size, 1, none⟩ = some (.int .i64 s.Q) ∧ w'.cell? ⟨w.heap.size, 2, none⟩ = some (.int .i64 s.G) ∧ w'.cell? ⟨w.heap.size, 3, none⟩ = some (.slice ab s.bs.length cb) ∧ w'.cell? ⟨w.heap.size, 4, none⟩ = some (.int .i64 s.H) ∧ w'.cell? ⟨w.heap.size + 1, 0, none⟩ = some (.int .i64 t.mark) ∧ w'.cell? ⟨w.heap.size + 1, 1, none⟩ = some (.int .i64 t.first) ∧ w'.cell? ⟨w.heap.size + 1, 2, none⟩ = some (.int .i64 t.z) ∧ w'.cell? ⟨w.heap.size + 1, 3, none⟩ = some (.int .i64 t.a) ∧ w'.cell? ⟨w.heap.size + 1, 4, none⟩ = some (.int .i64 t.b) ∧ w'.cell? ⟨w.heap.size + 1, 5, none⟩ = some (.int .i64 t.r) ∧ w'.cell? ⟨w.heap.size + 1 + 1, 0, none⟩ = some (.int .i64 d) ∧ w'.cell? ⟨w.heap.size + 1 + 1, 1, none⟩ = some (.slice a an.length c) ∧ Below W0.heap.size W0 w')
            ((refine HK.out _ ?_; (first | assumption | exact Below.alloc_ (by assumption) _ | exact below_drewN hB3 _ | exact Below.alloc_ (below_drewN hB3 _) _)))
            (first
              | (go_at_call 41; refine Calls.mono (k1.out _ _ (by with_reducible rfl) (by first | assumption | exact Below.alloc_ (by assumption) _ | exact below_drewN hB3 _ | exact Below.alloc_ (below_drewN hB3 _) _)) ?_; rintro e w5 ⟨rfl, hb5, hc5⟩)
              | (go_at_call 26; refine Calls.mono (k2.out _ _ (by with_reducible rfl) (by first | assumption | exact below_drewN hB3 _)) ?_; rintro e w6 ⟨rfl, hb6, hc6⟩)
              | (go_at_call 50; refine Calls.mono (k3.out _ _ (by first | exact nums_two w6 _ _ | exact nums_two w5 _ _ | exact IsNums.next (nums_two w6 _ _) hc5) (by first | assumption | exact Below.alloc_ (by assumption) _)) ?_; rintro e w7 ⟨rfl, hb7⟩))
          all_goals
            go_wp2
            go_ret
            refine ⟨ret_b (HF2.out.trans rfl).symm, ?_⟩
            first | exact HB.out.trans (hb7.mono HB.out.size) | exact HB.out.trans (hb5.mono HB.out.size)
      · have hbn : ((an.length : Int) != (s.bs.length : Int)) = true := by simp; omega
        have HF2 : Hid (s.accB t ⟨d, an⟩ = false) := by show _ = _; rw [HF.out, decide_eq_false h1]; rfl
        clear h1 HF
        go_wp2
        go_ret
        exact ⟨ret_b HF2.out.symm, HB.out.trans (hB2.mono HB.out.size)⟩
end Go.Proofs.YtmgamngdmhnffaaGreatDoor
