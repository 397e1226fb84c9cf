/- The points of a juror. -/
import Derived.Test.YtkfmhibdoapndaaDoorToi
namespace Go.Proofs.YtkfmhibdoapndaaDoor
open Go.RowKit

theorem nums_take {a : Option Addr} {n c k : Nat} {l : List Int} {W : World} (h : IsNums (.slice a n c) l W) (hk : k ≤ l.length) : IsNums (.slice a k c) (l.take k) W := by
  rcases h with ⟨⟨_, _, h1⟩, h0⟩ | ⟨bk', off', cap, hv, hlt, hc⟩
  · subst h0
    obtain rfl : k = 0 := by simpa using hk
    exact .inl ⟨⟨a, c, rfl⟩, rfl⟩
  · simp only [Value.slice.injEq] at hv
    obtain ⟨rfl, -, rfl⟩ := hv
    by_cases h0 : k = 0
    · subst h0; exact .inl ⟨⟨_, _, rfl⟩, rfl⟩
    · refine .inr ⟨bk', off', c, by rw [List.length_take]; congr 1; omega, hlt, fun i x hi => ?_⟩
      have hik : i < (l.take k).length := (List.getElem?_eq_some_iff.1 hi).1
      rw [List.length_take] at hik
      exact hc i x (by rw [List.getElem?_take_of_lt (by omega)] at hi; exact hi)
/-- Whether a number is an index. -/
def idxB (i n : Int) : Bool := decide (0 ≤ i) && decide (i < n)
theorem isidx_calls (i n : Int) (w : World) :
    Calls Tryd.prog 21 #[.int .i64 i, .int .i64 n] w fun e w' => e = .returned (.bool (idxB i n)) ∧ w = w' := by
  unfold idxB
  by_cases h : 0 ≤ i
  · have d : decide (0 ≤ i) = true := decide_eq_true h
    go_enter Tryd.func21, Tryd.ntmps21
    go_wp2
    go_ret
    exact ⟨ret_b (by rw [d]; simp), rfl⟩
  · have d : decide (0 ≤ i) = false := decide_eq_false h
    go_enter Tryd.func21, Tryd.ntmps21
    go_wp2
    go_ret
    exact ⟨ret_b (by simp), rfl⟩

/-- The points of a juror. -/
def StatD.seats (x : StatD) (j : Int) : List Int :=
  if x.valid = true ∧ idxB j x.ws.length = true then (List.range (x.ws.getD j.toNat 0).toNat).map fun (i : Nat) => 1 + sumW (x.ws.take j.toNat) + (i : Int) else []
theorem seats_step {f : Nat → Int} (k : Nat) : (List.range (k + 1)).map f = (List.range k).map f ++ [f k] := by
  rw [List.range_succ, List.map_append]; rfl

set_option maxRecDepth 100000 in
set_option maxHeartbeats 4000000 in
theorem seats_calls (x : StatD) (hx : x.ok) (vr vw : Value) (j : Int) (hj : isInt j) (w : World) (hr : IsTexts 0 vr x.rs w) (hw : IsNums vw x.ws w) (hcap : ∀ a n c, vw = .slice a n c → n ≤ c) :
    Calls Tryd.prog 8 #[.agg #[vr, .int .i64 x.qu, vw], .int .i64 j] w fun e w' => ∃ v, e = .returned v ∧ IsNums v (x.seats j) w' ∧ Below w.heap.size w w' := by
  obtain ⟨S, hS⟩ : ∃ S, S = x.seats j := ⟨_, rfl⟩
  rw [← hS]
  have HS := Lib.hid hS
  have hb0 := below_one w (.cells #[vr, .int .i64 x.qu, vw] 25)
  have hB := Blk.new w 25 #[vr, .int .i64 x.qu, vw]
  obtain ⟨aw, cw, rfl⟩ := hw.len
  have HCW := Lib.hid (hcap _ _ _ rfl)
  clear hcap
  go_enter Tryd.func8, Tryd.ntmps8
  go_wp2_with fail
  generalize w.alloc (.cells #[vr, .int .i64 x.qu, .slice aw x.ws.length cw] 25) = W at *
  have q : ∀ w', Below W.heap.size W w' → w'.cell? ⟨w.heap.size, 0, none⟩ = some vr ∧ w'.cell? ⟨w.heap.size, 1, none⟩ = some (.int .i64 x.qu) ∧ w'.cell? ⟨w.heap.size, 2, none⟩ = some (.slice aw x.ws.length cw) := fun w' h => ⟨(hB.next h).cell 0, (hB.next h).cell 1, (hB.next h).cell 2⟩
  have hr0 := hr.next hb0
  have hw0 := hw.next hb0
  have k1 : Hid (∀ (args' : Array Value) (w' : World), args' = #[.agg #[vr, .int .i64 x.qu, .slice aw x.ws.length cw]] → Below W.heap.size W w' → Calls Tryd.prog 7 args' w' fun e w'' => e = .returned (.bool x.valid) ∧ Below W.heap.size W w'') := by
    show ∀ args' w', _
    intro args' w' he h
    subst he
    refine (valid_calls x hx _ _ w' (hr0.next h) (hw0.next h)).mono ?_
    rintro e w'' ⟨h1, h2⟩
    exact ⟨h1, h.trans (h2.mono h.size)⟩
  have k2 : Hid (∀ (args' : Array Value) (w' : World), args' = #[.int .i64 j, .int .i64 x.ws.length] → Below W.heap.size W w' → Calls Tryd.prog 21 args' w' fun e w'' => e = .returned (.bool (idxB j x.ws.length)) ∧ Below W.heap.size W w'') := by
    show ∀ args' w', _
    intro args' w' he h
    subst he
    refine (isidx_calls j x.ws.length w').mono ?_
    rintro e w'' ⟨h1, rfl⟩
    exact ⟨h1, h⟩
  have HF : Hid (x.seats j = if x.valid = true ∧ idxB j x.ws.length = true then (List.range (x.ws.getD j.toNat 0).toNat).map fun (i : Nat) => 1 + sumW (x.ws.take j.toNat) + (i : Int) else []) := rfl
  have HB := Lib.hid hb0
  have HBK := Lib.hid hB
  have HW0 := Lib.hid hw0
  have hvalid : Hid (x.valid = true → weighB x.ws = true) := by
    show _ → _
    intro h
    unfold StatD.valid at h
    simp only [Bool.and_eq_true] at h
    exact h.2.1
  have hidx : Hid (idxB j x.ws.length = true → 0 ≤ j ∧ j < x.ws.length) := by
    show _ → _
    intro h
    unfold idxB at h
    simpa using h
  generalize x.valid = A at *
  generalize idxB j x.ws.length = I at *
  clear hS hb0 hB hr hw hx hr0 hw0
  cases A
  · have HR : Hid (S = []) := by show _ = _; rw [HS.out, HF.out]; rfl
    clear k2 HF HS
    refine (k1.out _ _ rfl (Below.refl _ _)).mono ?_
    rintro e w4 ⟨rfl, hb⟩
    have hb4 := Lib.hid (HB.out.trans (hb.mono HB.out.size))
    clear q k1 hb
    go_wp2
    go_ret
    exact ⟨_, rfl, .inl ⟨⟨none, 0, rfl⟩, HR.out⟩, hb4.out⟩
  · cases I
    · have HR : Hid (S = []) := by show _ = _; rw [HS.out, HF.out]; rfl
      clear HF HS
      refine (k1.out _ _ rfl (Below.refl _ _)).mono ?_
      rintro e w3 ⟨rfl, hb⟩
      obtain ⟨q0, q1, q2⟩ := q _ hb
      clear q k1
      go_wp2_with fail
      refine (k2.out _ _ rfl hb).mono ?_
      rintro e w4 ⟨rfl, hb⟩
      have hb4 := Lib.hid (HB.out.trans (hb.mono HB.out.size))
      clear q0 q1 q2 k2 hb
      go_wp2
      go_ret
      exact ⟨_, rfl, .inl ⟨⟨none, 0, rfl⟩, HR.out⟩, hb4.out⟩
    · obtain ⟨hw1, hw2, hw3⟩ := weighB_all (hvalid.out rfl)
      obtain ⟨hj0, hj1⟩ := hidx.out rfl
      obtain ⟨J, rfl⟩ : ∃ J : Nat, j = (J : Int) := ⟨j.toNat, by omega⟩
      have hJ : J < x.ws.length := by omega
      have HR : Hid (S = (List.range (x.ws.getD J 0).toNat).map fun (i : Nat) => 1 + sumW (x.ws.take J) + (i : Int)) := by show _ = _; rw [HS.out, HF.out]; rfl
      obtain ⟨bk, off, rfl, hbk, y, hy, y0⟩ := HW0.out.at J hJ
      have hgy : x.ws.getD J 0 = y := by rw [hy, List.getD_eq_getElem?_getD, List.getElem?_eq_getElem hJ]; rfl
      have hyb : 0 ≤ y ∧ y ≤ 12 := by
        have h := (List.all_eq_true.1 hw2) y (by rw [hy]; exact List.getElem_mem _)
        unfold wB at h
        simpa using h
      obtain ⟨Y, rfl⟩ : ∃ Y : Nat, y = (Y : Int) := ⟨y.toNat, by omega⟩
      have hY : Y ≤ 12 := by omega
      have ht := all_take wB x.ws J hw2
      have hsb := sumW_bound _ ht
      have k3 : Hid (∀ (args' : Array Value) (w' : World), args' = #[.slice (some ⟨bk, off, none⟩) J cw] → Below W.heap.size W w' → Calls Tryd.prog 20 args' w' fun e w'' => e = .returned (.int .i64 (sumW (x.ws.take J))) ∧ Below W.heap.size W w'') := by
        show ∀ args' w', _
        intro args' w' he h
        subst he
        refine (total_calls _ (x.ws.take J) (by rw [List.length_take]; omega) ht w' (nums_take (HW0.out.next h) (by omega))).mono ?_
        rintro e w'' ⟨h1, rfl⟩
        exact ⟨h1, h⟩
      have hl12 : (x.ws.take J).length ≤ 12 := by rw [List.length_take]; omega
      rw [hgy] at HR
      clear hy hgy
      have HYC : Hid (∀ w', Below W.heap.size W w' → w'.cell? ⟨bk, off + J, none⟩ = some (.int .i64 (Y : Int))) := by
        show ∀ w', _
        intro w' h
        rw [h.cell (p := ⟨bk, off + J, none⟩) hbk]; exact y0
      generalize sumW (x.ws.take J) = T at *
      obtain ⟨hT0, hT1⟩ := hsb
      have hT2 : T ≤ 144 := by omega
      have hJ12 : (J : Int) ≤ 12 := by omega
      generalize x.ws.length = n at *
      have hn12 : (n : Int) ≤ 12 := by omega
      have hJn : (J : Int) ≤ (n : Int) := by omega
      have hJn' : (J : Int) < (n : Int) := by omega
      clear HS HF hvalid hidx hw1 hw2 hw3 hj0 hyb ht hl12 hT1 hj
      refine (k1.out _ _ rfl (Below.refl _ _)).mono ?_
      rintro e w3 ⟨rfl, hb⟩
      obtain ⟨q0, q1, q2⟩ := q _ hb
      clear q k1
      go_wp2_with fail
      refine (k2.out _ _ rfl hb).mono ?_
      rintro e w4 ⟨rfl, hb⟩
      have hb4 := Lib.hid hb
      clear hb
      have z2 : w4.cell? ⟨w.heap.size, 2, none⟩ = some (.slice (some ⟨bk, off, none⟩) n cw) := (HBK.out.next hb4.out).cell 2
      have hJc : (J : Int) ≤ (cw : Int) := by have := HCW.out; omega
      clear q0 q1 q2 k2
      go_wp2_with fail
      refine (k3.out _ _ rfl hb4.out).mono ?_
      rintro e w5 ⟨rfl, hb5⟩
      have y5 := HYC.out _ hb5
      have z5 : w5.cell? ⟨w.heap.size, 2, none⟩ = some (.slice (some ⟨bk, off, none⟩) n cw) := (HBK.out.next hb5).cell 2
      have HB5 := Lib.hid (HB.out.trans (hb5.mono HB.out.size))
      have hR2 : Hid (S = (List.range Y).map fun (i : Nat) => 1 + T + (i : Int)) := by show _ = _; rw [HR.out]; simp
      clear k3 hb hb4 hb5 HYC y0 hbk z2 HBK HW0 HCW HR
      go_wp2
      go_loopw [30, 6] (fun i v wr => ∃ k : Nat, k ≤ Y ∧ i = .int .i64 k ∧ OInts w.heap.size v ((List.range k).map fun (i : Nat) => 1 + T + (i : Int)) wr ∧ Below w.heap.size w wr) (fun i _ _ => Y - (intOf i).toNat)
      case atStart => exact ⟨0, Nat.zero_le _, rfl, ⟨rfl, .inl ⟨rfl, rfl⟩⟩, HB5.out⟩
      case round =>
        obtain ⟨k, hk, rfl, hO, hb6⟩ := hrel
        by_cases hlt : k < Y
        · have hkY : (k : Int) < (Y : Int) := by omega
          have hk12 : (k : Int) ≤ 12 := by omega
          have HO := Lib.hid (hO.next (below_one wr (.cells #[.int .i64 (1 + T + (k : Int))] 3)))
          have HN := Lib.hid (nums_one wr (1 + T + (k : Int)))
          have HB6 := Lib.hid (Below.alloc_ hb6 (.cells #[.int .i64 (1 + T + (k : Int))] 3))
          clear hO hb6
          go_wp2_with (at_builtin; refine wpList_ints rfl _ _ rfl rfl rfl rfl HO.out HN.out (by simp; omega) HB6.out.size ?_)
          intro v1 w1 hO1 hgr
          have hb7 := Lib.hid (OInts.below HO.out HB6.out hgr)
          have hO2 : Hid (OInts w.heap.size v1 ((List.range (k + 1)).map fun (i : Nat) => 1 + T + (i : Int)) w1) := by
            show OInts _ _ _ _
            rw [seats_step]; exact hO1
          clear hO1 hgr HO HN HB6
          go_wp2
          go_roundw
          case rel => exact ⟨k + 1, by omega, by go_num, hO2.out, hb7.out⟩
          case measure => simp [intOf]; omega
        · obtain rfl : k = Y := by omega
          have HN := Lib.hid hO.nums
          obtain ⟨a, c, rfl⟩ := hO.form
          have HB6 := Lib.hid hb6
          clear hO hb6
          go_wp2
          go_ret
          exact ⟨_, rfl, by rw [hR2.out]; exact HN.out, HB6.out⟩
end Go.Proofs.YtkfmhibdoapndaaDoor
