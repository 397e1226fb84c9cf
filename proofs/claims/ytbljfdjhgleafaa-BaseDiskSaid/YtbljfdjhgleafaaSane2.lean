/- saneDisk returns true. -/
import Derived.Test.YtbljfdjhgleafaaSane
namespace Go.Proofs.Ytbljfdjhgleafaa
open Go.RowKit

set_option maxHeartbeats 2000000 in
set_option maxRecDepth 100000 in
theorem sane_calls (w : World) : Calls Try.prog 7 #[] w fun e w' => e = .returned (.bool true) ∧ Below w.heap.size w w' := by
  go_enter Try.func7, Try.ntmps7
  go_wp2_with fail
  refine (m_new w).mono ?_
  rintro e w1 ⟨b, rfl, h1, k1⟩
  have K1 := Lib.hid (k1.mono (T := fun i => ¬ i < w.heap.size) (fun i hi => hi.elim))
  clear k1
  have c1 := Lib.hid (m_write h1 0 0 [97, 98, 99] (by decide) ⟨by decide, by decide⟩ (by rw [r0]; decide))
  rw [e1] at c1
  clear h1
  go_wp2_with fail
  refine Calls.mono c1.out ?_
  rintro e w2 ⟨rfl, h2, k2⟩
  have K2 := Lib.hid (K1.out.trans k2)
  have c2 := Lib.hid (m_sync h2 0)
  rw [show (Dk.new.write 0 0 [97, 98, 99]).1 = sd1 from rfl, e2] at c2
  clear h2 k2 c1 K1
  go_wp2_with fail
  refine Calls.mono c2.out ?_
  rintro e w3 ⟨rfl, h3, k3⟩
  have K3 := Lib.hid (K2.out.trans k3)
  have c3 := Lib.hid (m_write h3 0 1 [88, 89] (by decide) ⟨by decide, by decide⟩ (by rw [show (sd1.sync 0).1 = sd2 from rfl, r2]; decide))
  clear h3 k3 c2 K2
  go_wp2_with fail
  refine Calls.mono c3.out ?_
  rintro e w4 ⟨rfl, h4, k4⟩
  have K4 := Lib.hid (K3.out.trans k4)
  have c4 := Lib.hid (t_copy h4)
  rw [show (((sd1.sync 0).1).write 0 1 [88, 89]).1 = sd3 from rfl] at c4
  clear h4 k4 c3 K3
  go_wp2_with fail
  refine Calls.mono c4.out ?_
  rintro e w5 ⟨g, rfl, h5, k5⟩
  have K5 := Lib.hid (K4.out.trans (k5.mono (fun i hi => hi.elim)))
  obtain ⟨S', hSS, hM, hback⟩ := h5.left
  have HB := Lib.hid hback
  have HSS := Lib.hid hSS
  have HM := Lib.hid hM
  clear h5 k5 c4 K4 hback hSS hM
  have c6 := fun o (ho : o = Obj.cells ([1].map (Value.int .i64)).toArray 3 (0, 0)) => m_crash_lit (xs := [1]) HM.out ho (by decide)
  have C6 := Lib.hid c6
  clear c6
  go_wp2_with fail
  refine Calls.mono (C6.out _ rfl) ?_
  rintro e w6 ⟨rfl, h6, k6⟩
  rw [show sd3.crash [1] = sd4 from rfl] at h6
  have K6 := Lib.hid k6
  have H6 := Lib.hid h6
  have c7 := Lib.hid (m_down h6)
  rw [e4] at c7
  have c8 := Lib.hid (m_read h6 0 0 9 (by decide) (by decide))
  rw [e4r] at c8
  obtain ⟨s8, hs8⟩ : ∃ s8, s8 = (sd4.read 0 0 9).1 := ⟨_, rfl⟩
  rw [← hs8] at c8
  clear h6 k6 C6 HM hs8
  go_wp2_with (go_at_call 13; refine c7.out.mono ?_; rintro e w7 ⟨rfl, rfl⟩)
  refine Calls.mono c8.out ?_
  rintro e w7 ⟨rfl, h7, k7⟩
  have K7 := Lib.hid (K6.out.trans k7)
  have c9 := Lib.hid (m_start h7)
  rw [show sd4.start = sd5 from rfl] at c9
  clear h7 k7 K6 c7 c8 H6
  go_wp2_with fail
  refine Calls.mono c9.out ?_
  rintro e w8 ⟨rfl, h8, k8⟩
  have K8 := Lib.hid (K7.out.trans k8)
  have c10 := Lib.hid (m_read h8 0 0 9 (by decide) (by decide))
  rw [e5r] at c10
  clear h8 k8 K7 c9
  go_wp2_with fail
  refine Calls.mono c10.out ?_
  rintro e w9 ⟨rfl, h9, k9⟩
  have HT := (HB.out w9 sd5 h9 (K8.out.trans k9)).symm.one
  have K9 := Lib.hid (K5.out.trans ((K8.out.trans k9).mono (T := fun i => ¬ i < w.heap.size) (fun i hi => Or.inl (fun h => hi (HSS.out i h)))))
  have C11 := Lib.hid (fun o (ho : o = Obj.cells ([0].map (Value.int .i64)).toArray 3 (0, 0)) => m_crash_lit (xs := [0]) HT ho (by decide))
  rw [show bs ([97, 88, 89], (0 : Int)).1 = { data := #[97, 88, 89] } from rfl]
  clear h9 k9 K8 c10 HT HB HSS K5
  go_wp2_with fail
  refine Calls.mono (C11.out _ rfl) ?_
  rintro e w10 ⟨rfl, h10, k10⟩
  have K10 := Lib.hid (K9.out.trans k10)
  have c12 := Lib.hid (m_start h10)
  clear h10 k10 K9 C11
  go_wp2_with fail
  refine Calls.mono c12.out ?_
  rintro e w11 ⟨rfl, h11, k11⟩
  have K11 := Lib.hid (K10.out.trans k11)
  have c13 := Lib.hid (m_read h11 0 1 9 (by decide) (by decide))
  rw [show (sd3.crash [0]).start = sc2 from rfl, e7r] at c13
  clear h11 k11 K10 c12
  go_wp2_with fail
  refine Calls.mono c13.out ?_
  rintro e w12 ⟨rfl, h12, k12⟩
  have K12 := Lib.hid (K11.out.trans k12)
  have c14 := Lib.hid (m_write h12 1 62 [97, 98, 99, 100] (by decide) ⟨by decide, by decide⟩ (by rw [r3]; decide))
  rw [e8] at c14
  rw [show bs ([98, 99], (0 : Int)).1 = { data := #[98, 99] } from rfl]
  clear h12 k12 K11 c13
  go_wp2_with fail
  refine Calls.mono c14.out ?_
  rintro e w13 ⟨rfl, h13, k13⟩
  have K13 := Lib.hid (K12.out.trans k13)
  have C15 := Lib.hid (fun o (ho : o = Obj.cells ([0, 1].map (Value.int .i64)).toArray 3 (0, 0)) => m_crash_lit (xs := [0, 1]) h13 ho (by decide))
  clear h13 k13 K12 c14
  go_wp2_with fail
  refine Calls.mono (C15.out _ rfl) ?_
  rintro e w14 ⟨rfl, h14, k14⟩
  have K14 := Lib.hid (K13.out.trans k14)
  have c16 := Lib.hid (m_start h14)
  clear h14 k14 K13 C15
  go_wp2_with fail
  refine Calls.mono c16.out ?_
  rintro e w15 ⟨rfl, h15, k15⟩
  have K15 := Lib.hid (K14.out.trans k15)
  have c17 := Lib.hid (m_read h15 1 60 100 (by decide) (by decide))
  rw [show ((sc2.write 1 62 [97, 98, 99, 100]).1.crash [0, 1]).start = sc5 from rfl, e9r] at c17
  clear h15 k15 K14 c16
  go_wp2_with fail
  refine Calls.mono c17.out ?_
  rintro e w16 ⟨rfl, h16, k16⟩
  have K16 := Lib.hid (K15.out.trans k16)
  have c18 := Lib.hid (m_size h16 1)
  rw [e9s] at c18
  have c19 := Lib.hid (m_write h16 16 0 [] (by decide) ⟨by decide, by decide⟩ (by rw [r5]; decide))
  rw [e10] at c19
  rw [show bs ([0, 0, 0, 0, 99, 100], (0 : Int)).1 = { data := #[0, 0, 0, 0, 99, 100] } from rfl]
  clear h16 k16 K15 c17
  go_wp2_with (go_at_call 15; refine c18.out.mono ?_; rintro e w17 ⟨rfl, rfl⟩)
  refine Calls.mono c19.out ?_
  rintro e w17 ⟨rfl, h17, k17⟩
  have K17 := Lib.hid (K16.out.trans k17)
  have c20 := Lib.hid (m_write h17 1 16777216 [97] (by decide) ⟨by decide, by decide⟩ (by rw [show (sc5.write 16 0 []).1 = sc6 from rfl, r6]; decide))
  rw [show (sc5.write 16 0 []).1 = sc6 from rfl, e11] at c20
  clear h17 k17 K16 c18 c19
  go_wp2_with fail
  refine Calls.mono c20.out ?_
  rintro e w18 ⟨rfl, h18, k18⟩
  have K18 := Lib.hid (K17.out.trans k18)
  clear h18 k18 K17 c20
  go_wp2_with fail
  go_ret
  exact ⟨rfl, K18.out.below (Nat.le_refl _) (fun k hk => Nat.not_lt.1 hk)⟩

end Go.Proofs.Ytbljfdjhgleafaa
