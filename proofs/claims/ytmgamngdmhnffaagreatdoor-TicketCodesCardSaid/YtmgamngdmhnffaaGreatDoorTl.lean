/- Guilty (written by tools/mktk2.py). -/
import Derived.Test.YtmgamngdmhnffaaGreatDoorTk
namespace Go.Proofs.YtmgamngdmhnffaaGreatDoor
open Go.RowKit

theorem guil_step {D l : List Int} {k : Nat} {d x : Int} (f : Int → Int) (hd : D[1 + k]? = some d) (hx : l[k]? = some x) : decide (D.drop (1 + k) = (l.drop k).map f) = (decide (d = f x) && decide (D.drop (1 + (k + 1)) = (l.drop (k + 1)).map f)) := by
  obtain ⟨h1, e1⟩ := List.getElem?_eq_some_iff.1 hd
  obtain ⟨h2, e2⟩ := List.getElem?_eq_some_iff.1 hx
  rw [List.drop_eq_getElem_cons h1, List.drop_eq_getElem_cons h2, e1, e2, List.map_cons, ← Nat.add_assoc]
  simp [List.cons.injEq, Bool.decide_and]
/-- Whether two spends reveal some attributes. -/
def SetD.guiltyB (s : SetD) (t : TktD) (a b : SpendD) (l : List Int) : Bool := s.valid && (s.revB t a b && (decide ((l.length : Int) = (s.bs.length : Int) - 1) && (l.all (exB s.Q) && s.guilB a b l)))
set_option maxRecDepth 100000 in
set_option maxHeartbeats 4000000 in
theorem Guilty_calls (s : SetD) (hi : s.ints) (vb : Value) (vx vy v : Value) (t : TktD) (ht : t.ints) (d1 d2 : Int) (hd1 : isInt d1) (hd2 : isInt d2) (xs ys l : List Int) (hxi : ∀ x ∈ xs, isInt x) (hyi : ∀ x ∈ ys, isInt x) (hli : ∀ x ∈ l, isInt x) (hl : xs.length ≤ 100000000) (hl2 : ys.length ≤ 100000000) (hl3 : l.length ≤ 100000000) (w : World) (hE : Env w) (hb0 : IsNums vb s.bs w) (hx : IsNums vx xs w) (hy : IsNums vy ys w) (hv : IsNums v l w) :
    Calls Tryz.prog 16 #[s.val vb, t.val, .agg #[.int .i64 d1, vx], .agg #[.int .i64 d2, vy], v] w fun e w' => e = .returned (.bool (s.guiltyB t ⟨d1, xs⟩ ⟨d2, ys⟩ l)) ∧ Below w.heap.size w w' := by
  obtain ⟨a1, c1, rfl⟩ := hx.len
  obtain ⟨a2, c2, rfl⟩ := hy.len
  obtain ⟨a3, c3, rfl⟩ := hv.len
  obtain ⟨ab, cb, rfl⟩ := hb0.len
  obtain ⟨W0, hW0⟩ : ∃ W0, W0 = ((((w.alloc (.cells (s.cells (.slice ab s.bs.length cb)) 33)).alloc (.cells #[.int .i64 t.mark, .int .i64 t.first, .int .i64 t.z, .int .i64 t.a, .int .i64 t.b, .int .i64 t.r] 23)).alloc (.cells #[.int .i64 d1, .slice a1 xs.length c1] 42)).alloc (.cells #[.int .i64 d2, .slice a2 ys.length c2] 42)) := ⟨_, rfl⟩
  have hb : Below w.heap.size w W0 := by rw [hW0]; exact (Below.alloc_ (Below.alloc_ (Below.alloc_ (below_one w _) _) _) _)
  have hS : SetAt s (.slice ab s.bs.length cb) w.heap.size W0 := by rw [hW0]; exact Blk.alloc' (Blk.alloc' (Blk.alloc' (Blk.new w _ _) _) _) _
  have hY : Blk W0 (w.heap.size + 1) 23 #[.int .i64 t.mark, .int .i64 t.first, .int .i64 t.z, .int .i64 t.a, .int .i64 t.b, .int .i64 t.r] := by rw [hW0]; exact Blk.alloc' (Blk.alloc' (Blk.new' (by rw [alloc_size]) _ _) _) _
  have hX : Blk W0 (w.heap.size + 1 + 1) 42 #[.int .i64 d1, .slice a1 xs.length c1] := by rw [hW0]; exact Blk.alloc' (Blk.new' (by rw [alloc_size, alloc_size]) _ _) _
  have hU : Blk W0 (w.heap.size + 1 + 1 + 1) 42 #[.int .i64 d2, .slice a2 ys.length c2] := by rw [hW0]; exact Blk.new' (by rw [alloc_size, alloc_size, alloc_size]) _ _
  have HBN := fun w' (h : Below W0.heap.size W0 w') => Lib.hid (hb0.next (hb.trans (h.mono hb.size)))
  have j1 := Lib.hid (open_calls s hi (.slice ab s.bs.length cb) W0 (hE.next hb) (hb0.next hb))
  have HK : Hid (∀ w', Below W0.heap.size W0 w' → w'.cell? ⟨w.heap.size + 1, 0, none⟩ = some (.int .i64 t.mark) ∧ w'.cell? ⟨w.heap.size + 1, 1, none⟩ = some (.int .i64 t.first) ∧ w'.cell? ⟨w.heap.size + 1, 2, none⟩ = some (.int .i64 t.z) ∧ w'.cell? ⟨w.heap.size + 1, 3, none⟩ = some (.int .i64 t.a) ∧ w'.cell? ⟨w.heap.size + 1, 4, none⟩ = some (.int .i64 t.b) ∧ w'.cell? ⟨w.heap.size + 1, 5, none⟩ = some (.int .i64 t.r) ∧ w'.cell? ⟨w.heap.size + 1 + 1, 0, none⟩ = some (.int .i64 d1) ∧ w'.cell? ⟨w.heap.size + 1 + 1, 1, none⟩ = some (.slice a1 xs.length c1) ∧ w'.cell? ⟨w.heap.size + 1 + 1 + 1, 0, none⟩ = some (.int .i64 d2) ∧ w'.cell? ⟨w.heap.size + 1 + 1 + 1, 1, none⟩ = some (.slice a2 ys.length c2) ∧ Below W0.heap.size W0 w') := by
    show ∀ w', _
    intro w' h
    exact ⟨(hY.next h).cell 0, (hY.next h).cell 1, (hY.next h).cell 2, (hY.next h).cell 3, (hY.next h).cell 4, (hY.next h).cell 5, (hX.next h).cell 0, (hX.next h).cell 1, (hU.next h).cell 0, (hU.next h).cell 1, h⟩
  have HS0 : Hid (W0.heap.size = w.heap.size + 1 + 1 + 1 + 1) := by show _ = _; rw [hW0, alloc_size, alloc_size, alloc_size, alloc_size]
  have HB := Lib.hid hb
  have HXN := fun w' (h : Below W0.heap.size W0 w') => Lib.hid (hx.next (hb.trans (h.mono hb.size)))
  have HYN := fun w' (h : Below W0.heap.size W0 w') => Lib.hid (hy.next (hb.trans (h.mono hb.size)))
  have HVN := fun w' (h : Below W0.heap.size W0 w') => Lib.hid (hv.next (hb.trans (h.mono hb.size)))
  have HRL : Hid (s.revB t ⟨d1, xs⟩ ⟨d2, ys⟩ = true → xs.length = s.bs.length ∧ ys.length = s.bs.length) := by
    show _ → _
    intro h
    unfold SetD.revB SetD.accB at h
    simp only [Bool.and_eq_true, decide_eq_true_eq] at h
    exact ⟨h.1.2.2.1, h.2.1.2.2.1⟩
  have HGF : Hid (s.guilB ⟨d1, xs⟩ ⟨d2, ys⟩ l = decide ((diffF s.Q xs ys).drop 1 = l.map fun x => mulG s.Q 1 [x, (diffF s.Q xs ys).getD 0 0])) := rfl
  obtain ⟨A, hA⟩ : ∃ z, z = s.revB t ⟨d1, xs⟩ ⟨d2, ys⟩ := ⟨_, rfl⟩
  have HA := Lib.hid hA
  obtain ⟨N, hN⟩ : ∃ z, z = l.all (exB s.Q) := ⟨_, rfl⟩
  have HNN := Lib.hid hN
  obtain ⟨R, hR⟩ : ∃ z, z = s.guiltyB t ⟨d1, xs⟩ ⟨d2, ys⟩ l := ⟨_, rfl⟩
  have hR' : R = (s.valid && (s.revB t ⟨d1, xs⟩ ⟨d2, ys⟩ && (decide ((l.length : Int) = (s.bs.length : Int) - 1) && (l.all (exB s.Q) && s.guilB ⟨d1, xs⟩ ⟨d2, ys⟩ l)))) := hR
  rw [← hA, ← hN] at hR'
  rw [← hA] at HRL
  rw [← hR]
  have HR := Lib.hid hR'
  unfold TktD.val at *
  generalize hV : s.valid = V at *
  have HV := Lib.hid hV
  have h2 : V = true → 2 ≤ s.bs.length := fun e => by rw [e] at hV; exact valid_bases hV
  have h7 : V = true → s.bs.length ≤ 7 := fun e => by rw [e] at hV; exact valid_bases7 hV
  unfold SetD.val at *
  unfold SetD.cells at hW0
  obtain ⟨z0, z1, z2, z3, z4⟩ := hS.get
  obtain ⟨y0, y1, y2, y3, y4, y5, x0, x1, u0, u1, -⟩ := HK.out W0 (Below.refl _ _)
  rw [hW0] at z0 z1 z2 z3 z4 y0 y1 y2 y3 y4 y5 x0 x1 u0 u1 j1
  have HW0 := Lib.hid hW0
  clear hE hb0 hS hV hb hW0 hY hX hU hx hy hA hN hR hv
  go_enter Tryz.func16, Tryz.ntmps16
  go_wp2_with fail
  refine j1.out.mono ?_
  clear j1 z0 z1 z2 z3 z4 y0 y1 y2 y3 y4 y5 x0 x1 u0 u1
  rw [← HW0.out]
  rintro e w1 ⟨rfl, hB1⟩
  have hW1 := hB1.size
  have hB2 := Below.alloc_ hB1 (.cells #[.int .i64 s.P, .int .i64 s.Q, .int .i64 s.G, .slice ab s.bs.length cb, .int .i64 s.H] 59)
  have hG : GAt s (.slice ab s.bs.length cb) w1.heap.size (w1.alloc (.cells #[.int .i64 s.P, .int .i64 s.Q, .int .i64 s.G, .slice ab s.bs.length cb, .int .i64 s.H] 59)) := Blk.new w1 _ _
  clear hB1
  cases V
  · have HF : Hid (R = false) := by show _ = _; rw [HR.out]; rfl
    go_wp2
    go_ret
    exact ⟨ret_b HF.out.symm, HB.out.trans (hB2.mono HB.out.size)⟩
  · have j2 := Lib.hid (reveal_calls s hi (.slice ab s.bs.length cb) (.slice a1 xs.length c1) (.slice a2 ys.length c2) t ht d1 d2 hd1 hd2 xs ys hxi hyi hl hl2 (h2 rfl) (by have := h7 rfl; omega) _ (HBN _ hB2).out (HXN _ hB2).out (HYN _ hB2).out)
    unfold SetD.val TktD.val at j2
    obtain ⟨z0, z1, z2, z3, z4⟩ := hG.get
    obtain ⟨y0, y1, y2, y3, y4, y5, x0, x1, u0, u1, -⟩ := HK.out _ hB2
    rw [← HA.out] at j2
    go_wp2_with fail
    generalize (w1.alloc (.cells #[.int .i64 s.P, .int .i64 s.Q, .int .i64 s.G, .slice ab s.bs.length cb, .int .i64 s.H] 59)) = W2 at *
    have hG2 : GAt s (.slice ab s.bs.length cb) w1.heap.size W2 := hG
    refine j2.out.mono ?_
    clear j2 z0 z1 z2 z3 z4 y0 y1 y2 y3 y4 y5 x0 x1 u0 u1 hG
    rintro e w2 ⟨rfl, hb2⟩
    have hB3 := hB2.trans (hb2.mono hB2.size)
    have hG3 := hG2.next hb2
    clear hb2 hG2 hB2
    cases A
    · have HF : Hid (R = false) := by show _ = _; rw [HR.out]; rfl
      go_wp2
      go_ret
      exact ⟨ret_b HF.out.symm, HB.out.trans (hB3.mono HB.out.size)⟩
    · obtain ⟨hxl, hyl⟩ := HRL.out rfl
      have hbl := h2 (by simp)
      have h7' := h7 (by simp)
      obtain ⟨z0, z1, z2, z3, z4⟩ := hG3.get
      by_cases h1 : (l.length : Int) = (s.bs.length : Int) - 1
      · rw [decide_eq_true h1] at HR
        have hbe : ((l.length : Int) != (s.bs.length : Int) - 1) = false := by simp [h1]
        have hb7 : (s.bs.length : Int) ≤ 7 := by omega
        have hb2' : (2 : Int) ≤ (s.bs.length : Int) := by omega
        have j3 := Lib.hid (nums_calls s (.slice ab s.bs.length cb) (.slice a3 l.length c3) l (by omega) w2 (HVN _ hB3).out)
        rw [← HNN.out] at j3
        unfold SetD.val at j3
        have H1 := Lib.hid h1
        have HXL := Lib.hid (And.intro hxl hyl)
        have HBL := Lib.hid hbl
        clear h1 hxl hyl hbl h7'
        go_wp2_with fail
        refine j3.out.mono ?_
        clear j3 z0 z1 z2 z3 z4
        rintro e w3 ⟨rfl, hb3⟩
        have hB4 := hB3.trans (hb3.mono hB3.size)
        have hG4 := hG3.next hb3
        clear hb3 hG3 hB3
        cases N
        · have HF : Hid (R = false) := by show _ = _; rw [HR.out]; rfl
          go_wp2
          go_ret
          exact ⟨ret_b HF.out.symm, HB.out.trans (hB4.mono HB.out.size)⟩
        · have hbl := HBL.out
          obtain ⟨hxl, hyl⟩ := HXL.out
          have h1 := H1.out
          obtain ⟨m, hm⟩ : ∃ m, xs.length = m + 1 := ⟨xs.length - 1, by omega⟩
          have hml : l.length = m := by omega
          have hmle : (m : Int) ≤ 100000000 := by omega
          have hmz : ¬ m = 0 := by omega
          have hdl : (diffF s.Q xs ys).length = m + 1 := by unfold diffF; rw [List.length_zipWith]; omega
          have j3 := Lib.hid (differences_calls s (.slice ab s.bs.length cb) (.slice a1 xs.length c1) (.slice a2 ys.length c2) d1 d2 xs ys hxi hyi hl (by omega) (by omega) w3 (HBN _ hB4).out (HXN _ hB4).out (HYN _ hB4).out)
          unfold SetD.val at j3
          obtain ⟨z0, z1, z2, z3, z4⟩ := hG4.get
          obtain ⟨y0, y1, y2, y3, y4, y5, x0, x1, u0, u1, -⟩ := HK.out _ hB4
          have HDI : Hid (∀ x ∈ diffF s.Q xs ys, isInt x) := by
            show ∀ x, _
            intro x hx
            unfold diffF at hx
            obtain ⟨i, hi, rfl⟩ := List.mem_iff_getElem.1 hx
            rw [List.getElem_zipWith]
            exact subZ_int _ _ _
          have HRD : Hid (R = decide ((diffF s.Q xs ys).drop 1 = l.map fun x => mulG s.Q 1 [x, (diffF s.Q xs ys).getD 0 0])) := by show _ = _; rw [HR.out, ← HGF.out]; rfl
          obtain ⟨D, hD⟩ : ∃ z, z = diffF s.Q xs ys := ⟨_, rfl⟩
          rw [← hD] at j3 HRD HDI hdl
          rw [hm] at j3 x1
          have hym : ys.length = m + 1 := by omega
          rw [hym] at j3 u1
          have HLM := Lib.hid hml
          have HLN := Lib.hid (HVN _ hB4).out
          have HDL := Lib.hid hdl
          have hm0 : (0 : Int) ≤ (m : Int) := Int.natCast_nonneg _
          clear hxl hyl hD hm hym hbl h1 hbe hb7 hb2' hml HR HGF hdl
          go_wp2_with fail
          refine j3.out.mono ?_
          clear j3 z0 z1 z2 z3 z4 y0 y1 y2 y3 y4 y5 x0 x1 u0 u1
          rintro e w4 ⟨g, rfl, hg, hDN, hb4⟩
          have hB5 := hB4.trans (hb4.mono hB4.size)
          have hG5 := hG4.next hb4
          have hLN := HLN.out.next hb4
          clear hb4 hG4 hB4
          have hDC : g < w4.heap.size ∧ ∀ i x, D[i]? = some x → w4.cell? ⟨g, i, none⟩ = some (.int .i64 x) := by
            rcases hDN with ⟨_, h⟩ | ⟨bk, off, cap, hv, hlt, hc⟩
            · have := HDL.out; rw [h] at this; simp at this
            · simp only [Value.slice.injEq, Option.some.injEq, Addr.mk.injEq] at hv
              obtain ⟨⟨rfl, rfl, -⟩, -, -⟩ := hv
              exact ⟨hlt, fun i x hi => by have := hc i x hi; rwa [Nat.zero_add] at this⟩
          obtain ⟨hgl, hDC⟩ := hDC
          have HGL := Lib.hid hgl
          clear hgl
          obtain ⟨d0, hd0⟩ : ∃ d, D[0]? = some d := ⟨_, List.getElem?_eq_getElem (by rw [HDL.out]; omega)⟩
          have hdi : isInt d0 := HDI.out _ (List.mem_of_getElem? hd0)
          have hg0 : D.getD 0 0 = d0 := by rw [List.getD_eq_getElem?_getD, hd0]; rfl
          rw [hg0] at HRD
          have HDC := Lib.hid hDC
          have HLN2 := Lib.hid hLN
          have HDII := Lib.hid hdi
          have HD0 := Lib.hid hd0
          have HB5 := Lib.hid hB5
          have HG5 := Lib.hid hG5
          have hm9 : m ≤ 100000000 := by omega
          have HM9 := Lib.hid hm9
          clear hDC hDN hLN hdi hd0 hg0 hg hB5 hG5 HLN hm9
          go_wp2
          go_loopw [54] (fun iv wr => ∃ k : Nat, k ≤ m ∧ iv = .int .i64 (k : Int) ∧ (Nat → decide (D.drop (1 + k) = (l.drop k).map fun x => mulG s.Q 1 [x, d0]) = R) ∧ Below w4.heap.size w4 wr) (fun iv _ => m - (intOf iv).toNat)
          case atStart => exact ⟨0, Nat.zero_le _, rfl, fun _ => by rw [HRD.out]; rfl, Below.refl _ _⟩
          case round =>
            obtain ⟨k, hk, rfl, hDk, hB⟩ := hrel
            have HBw := Lib.hid (HB.out.trans ((HB5.out.trans (hB.mono HB5.out.size)).mono HB.out.size))
            by_cases hlt : k < m
            · obtain ⟨d, hd⟩ : ∃ d, D[1 + k]? = some d := ⟨_, List.getElem?_eq_getElem (by rw [HDL.out]; omega)⟩
              obtain ⟨lb, lo, rfl, hlb, x, hx, y0⟩ := HLN2.out.at k (by rw [HLM.out]; exact hlt)
              have hxl : l[k]? = some x := by rw [hx]; exact List.getElem?_eq_getElem (by rw [HLM.out]; exact hlt)
              have hxi : isInt x := hli _ (List.mem_of_getElem? hxl)
              have hst := guil_step (fun x => mulG s.Q 1 [x, d0]) hd hxl
              have hdk := hDk 0
              rw [hst] at hdk
              have k1 : Hid (∀ (n : Nat) (w' : World), IsNums (.slice (some ⟨n, 0, none⟩) 2 2) [x, d0] w' → Below w4.heap.size w4 w' → Calls Tryz.prog 29 #[.agg #[.int .i64 s.P, .int .i64 s.Q, .int .i64 s.G, .slice ab s.bs.length cb, .int .i64 s.H], .slice (some ⟨n, 0, none⟩) 2 2] w' fun e' w'' => e' = .returned (.int .i64 (mulG s.Q 1 [x, d0])) ∧ Below w4.heap.size w4 w'') := by
                show ∀ n w', _
                intro n w' hn h
                refine (gmul_calls s (.slice ab s.bs.length cb) _ [x, d0] (by
                  intro z hz
                  simp only [List.mem_cons, List.not_mem_nil, or_false] at hz
                  rcases hz with rfl | rfl
                  · exact hxi
                  · exact HDII.out) (by simp) w' hn).mono ?_
                rintro e' w'' ⟨h1, h2⟩
                exact ⟨h1, h.trans (h2.mono h.size)⟩
              have hdk : (decide (d = mulG s.Q 1 [x, d0]) && decide (D.drop (1 + (k + 1)) = (l.drop (k + 1)).map fun x => mulG s.Q 1 [x, d0])) = R := hdk
              obtain ⟨M, hM⟩ : ∃ M, M = mulG s.Q 1 [x, d0] := ⟨_, rfl⟩
              rw [← hM] at k1 hdk
              have e0 : wr.cell? ⟨g, 1 + k, none⟩ = some (.int .i64 d) := (hB.cell (p := ⟨g, 1 + k, none⟩) HGL.out).trans (HDC.out _ d hd)
              have HGc : Hid (∀ w', Below w4.heap.size w4 w' → w'.cell? ⟨w1.heap.size, 0, none⟩ = some (.int .i64 s.P) ∧ w'.cell? ⟨w1.heap.size, 1, none⟩ = some (.int .i64 s.Q) ∧ w'.cell? ⟨w1.heap.size, 2, none⟩ = some (.int .i64 s.G) ∧ w'.cell? ⟨w1.heap.size, 3, none⟩ = some (.slice ab s.bs.length cb) ∧ w'.cell? ⟨w1.heap.size, 4, none⟩ = some (.int .i64 s.H) ∧ w'.cell? ⟨g, 0, none⟩ = some (.int .i64 d0) ∧ w'.cell? ⟨lb, lo + k, none⟩ = some (.int .i64 x) ∧ Below w4.heap.size w4 w') := by
                show ∀ w', _
                intro w' h
                obtain ⟨z0, z1, z2, z3, z4⟩ := (HG5.out.next h).get
                exact ⟨z0, z1, z2, z3, z4, (h.cell (p := ⟨g, 0, none⟩) HGL.out).trans (HDC.out 0 d0 HD0.out), (h.cell (p := ⟨lb, lo + k, none⟩) hlb).trans y0, h⟩
              obtain ⟨z0, z1, z2, z3, z4, x0, x1, -⟩ := HGc.out wr hB
              have hkm : (k : Int) < (m : Int) := by omega
              have hkl : (k : Int) < (l.length : Int) := by rw [HLM.out]; exact hkm
              have HDK := Lib.hid hdk
              have HBx := Lib.hid hB
              have HKN := Lib.hid hlt
              clear hDk hd hx hxl hxi hst hdk hM hB y0 hlb hlt
              go_wp2
              go_region_held3 (fun w' => w'.cell? ⟨w1.heap.size, 0, none⟩ = some (.int .i64 s.P) ∧ w'.cell? ⟨w1.heap.size, 1, none⟩ = some (.int .i64 s.Q) ∧ w'.cell? ⟨w1.heap.size, 2, none⟩ = some (.int .i64 s.G) ∧ w'.cell? ⟨w1.heap.size, 3, none⟩ = some (.slice ab s.bs.length cb) ∧ w'.cell? ⟨w1.heap.size, 4, none⟩ = some (.int .i64 s.H) ∧ w'.cell? ⟨g, 0, none⟩ = some (.int .i64 d0) ∧ w'.cell? ⟨lb, lo + k, none⟩ = some (.int .i64 x) ∧ Below w4.heap.size w4 w')
                ((refine HGc.out _ ?_; (first | assumption | exact Below.alloc_ (by assumption) _ | exact Below.alloc_ (below_drewN HBx.out _) _ | exact below_drewN HBx.out _ | exact HBx.out)))
                (first
                  | (go_at_call 29; refine Calls.mono (k1.out _ _ (by first | exact nums_two (wr.drewN _) _ _ | exact nums_two wr _ _) (by first | assumption | exact Below.alloc_ (below_drewN HBx.out _) _)) ?_; rintro e5 wl ⟨rfl, hbl⟩))
              all_goals
                have HBl := Lib.hid (HB.out.trans ((HB5.out.trans (hbl.mono HB5.out.size)).mono HB.out.size))
                by_cases h3 : d = M
                · have hbn : (d != M) = false := by simp [h3]
                  have hnx : Nat → decide (D.drop (1 + (k + 1)) = (l.drop (k + 1)).map fun x => mulG s.Q 1 [x, d0]) = R := fun _ => by rw [← HDK.out, decide_eq_true h3]; rfl
                  have HNX := Lib.hid hnx
                  have HBL2 := Lib.hid hbl
                  clear hnx h3 hbl
                  go_wp2
                  go_roundw
                  case rel => exact ⟨k + 1, HKN.out, by go_num, HNX.out, HBL2.out⟩
                  case measure => simp [intOf]; have := HKN.out; omega
                · have hbn : (d != M) = true := bne_iff_ne.2 h3
                  have HF : Hid (R = false) := by show _ = _; rw [← HDK.out, decide_eq_false h3]; rfl
                  clear h3
                  go_wp2
                  go_ret
                  exact ⟨ret_b HF.out.symm, HBl.out⟩
            · obtain rfl : k = m := by omega
              have HF : Hid (R = true) := by
                show _ = _
                rw [← hDk 0, List.drop_eq_nil_of_le (by rw [HDL.out]; omega), List.drop_eq_nil_of_le (by rw [HLM.out]; exact Nat.le_refl _)]
                rfl
              clear hDk
              go_wp2
              go_ret
              exact ⟨ret_b HF.out.symm, HBw.out⟩
      · rw [decide_eq_false h1] at HR
        have hbe : ((l.length : Int) != (s.bs.length : Int) - 1) = true := bne_iff_ne.2 h1
        have hb7 : (s.bs.length : Int) ≤ 7 := by omega
        have hb2' : (2 : Int) ≤ (s.bs.length : Int) := by omega
        clear h1 hxl hyl hbl h7'
        have HF : Hid (R = false) := by show _ = _; rw [HR.out]; rfl
        go_wp2
        go_ret
        exact ⟨ret_b HF.out.symm, HB.out.trans (hB3.mono HB.out.size)⟩

end Go.Proofs.YtmgamngdmhnffaaGreatDoor
