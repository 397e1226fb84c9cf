/- Lists of statutes; whether they govern a task. -/
import Derived.Test.YtkfmhibdoapndaaDoorSeat
namespace Go.Proofs.YtkfmhibdoapndaaDoor
open Go.RowKit

theorem StatAt.keeps (lo : Nat) : Keeps lo (StatAt lo) := fun bk off x w w' hl hlt h hb => by
  obtain ⟨vr, vw, h1, h2, h3, h4, h5⟩ := h
  exact ⟨vr, vw, by rw [hb.cell hl hlt]; exact h1, by rw [hb.cell hl hlt]; exact h2, by rw [hb.cell hl hlt]; exact h3, h4.hi hb, h5.hi hb⟩
def IsStats (lo : Nat) (v : Value) (xs : List StatD) (w : World) : Prop := IsSl lo 3 (StatAt lo) v xs w
theorem IsStats.next {lo : Nat} {v : Value} {xs : List StatD} {w w' : World} (h : IsStats lo v xs w) (hb : Below w.heap.size w w') : IsStats lo v xs w' := IsSl.hi h (StatAt.keeps lo) (Hi.below hb)

theorem notv_calls (b : Nat) (x : StatD) (hx : x.ok) (vr vw : Value) (w : World) (h : w.cell? ⟨b, 0, none⟩ = some (.func (.func 7) #[] #[])) (hr : IsTexts 0 vr x.rs w) (hw : IsNums vw x.ws w) :
    Calls Tryd.prog 47 #[.agg #[vr, .int .i64 x.qu, vw], .pointer (some ⟨b, 0, none⟩)] w fun e w' => e = .returned (.bool (!x.valid)) ∧ Below w.heap.size w w' := by
  have hlt : b < w.heap.size := by
    rcases Nat.lt_or_ge b w.heap.size with h' | h'
    · exact h'
    · simp [World.cell?, Array.getElem?_eq_none h'] at h
  have hb0 := below_one w (.cells #[vr, .int .i64 x.qu, vw] 25)
  have hB := Blk.new w 25 #[vr, .int .i64 x.qu, vw]
  have q0 := hB.cell 0
  have q1 := hB.cell 1
  have q2 := hB.cell 2
  have c0 : (w.alloc (.cells #[vr, .int .i64 x.qu, vw] 25)).cell? ⟨b, 0, none⟩ = some (.func (.func 7) #[] #[]) := by
    rw [hb0.cell (p := ⟨b, 0, none⟩) hlt]; exact h
  have c1 := Lib.hid (valid_calls x hx vr vw _ (hr.next hb0) (hw.next hb0))
  clear hr hw hx h
  generalize x.valid = V at *
  go_enter Tryd.func47, Tryd.ntmps47
  go_wp2_with fail
  refine c1.out.mono ?_
  rintro e w1 ⟨rfl, hb1⟩
  have HB := Lib.hid (hb0.trans (hb1.mono hb0.size))
  clear c1 hb1 hb0 hB q0 q1 q2 c0
  go_wp2
  go_ret
  exact ⟨rfl, HB.out⟩
set_option maxRecDepth 100000 in
set_option maxHeartbeats 2000000 in
theorem vidx_calls (b : Nat) (v : Value) (l : List StatD) (hl : l.length ≤ 9223372036854775807) (ho : ∀ x ∈ l, x.ok) (w : World) (h : w.cell? ⟨b, 0, none⟩ = some (.func (.func 7) #[] #[])) (hv : IsStats 0 v l w) :
    Calls Tryd.prog 56 #[v, .func (.func 47) #[] #[.pointer (some ⟨b, 0, none⟩)]] w fun e w' => (∃ i : Int, e = .returned (.int .i64 i) ∧ decide (0 ≤ i) = !l.all StatD.valid) ∧ Below w.heap.size w w' := by
  have hlt : b < w.heap.size := by
    rcases Nat.lt_or_ge b w.heap.size with h' | h'
    · exact h'
    · simp [World.cell?, Array.getElem?_eq_none h'] at h
  obtain ⟨a, cap, rfl⟩ := IsSl.len hv
  have c1 := fun x hx vr vw w' (hw' : Below w.heap.size w w') => Lib.hid (notv_calls b x hx vr vw w' (by rw [hw'.cell (p := ⟨b, 0, none⟩) hlt]; exact h))
  have HV := Lib.hid hv
  have HO := Lib.hid ho
  clear h hv ho
  go_enter Tryd.func56, Tryd.ntmps56
  go_wp2
  go_loopw [8] (fun i wr => ∃ k : Nat, k ≤ l.length ∧ i = .int .i64 k ∧ (l.drop k).all StatD.valid = l.all StatD.valid ∧ Below w.heap.size w wr) (fun i _ => l.length - (intOf i).toNat)
  case atStart => exact ⟨0, Nat.zero_le _, rfl, rfl, Below.refl _ _⟩
  case round =>
    obtain ⟨k, hk, rfl, hal, hb⟩ := hrel
    by_cases hlt : k < l.length
    · obtain ⟨bk, off, rfl, _, x, hx, vr, vw, y0, y1, y2, yr, yw⟩ := IsSl.at (IsStats.next HV.out hb) k hlt
      have HA := Lib.hid ((all_drop StatD.valid l k hlt).symm.trans hal)
      rw [← hx] at HA
      have c2 := Lib.hid (((c1 x (HO.out x (by rw [hx]; exact List.getElem_mem _)) vr vw wr hb).out) yr yw.nums)
      obtain ⟨V, hVe⟩ : ∃ V, V = x.valid := ⟨_, rfl⟩
      rw [← hVe] at c2 HA
      have hkl : (k : Int) < (l.length : Int) := by omega
      have HB := Lib.hid hb
      clear hx hal hVe c1 yr yw hb
      go_wp2_with fail
      refine Calls.mono c2.out ?_
      rintro e w3 ⟨rfl, hb3⟩
      have HB3 := Lib.hid (HB.out.trans (hb3.mono HB.out.size))
      clear c2 hb3 y0 y1 y2
      cases V
      · have HN : Hid (decide ((0 : Int) ≤ (k : Int)) = !l.all StatD.valid) := by show _ = !l.all StatD.valid; rw [← HA.out]; simp
        go_wp2
        go_ret
        exact ⟨⟨_, rfl, HN.out⟩, HB3.out⟩
      · have HN : Hid ((l.drop (k + 1)).all StatD.valid = l.all StatD.valid) := by show _ = l.all StatD.valid; rw [← HA.out]; rfl
        clear HA
        go_wp2
        go_roundw
        case rel => exact ⟨k + 1, by omega, by go_num, HN.out, HB3.out⟩
        case measure => simp [intOf]; omega
    · obtain rfl : k = l.length := by omega
      have HN : Hid (decide ((0 : Int) ≤ -1) = !l.all StatD.valid) := by show _ = !l.all StatD.valid; rw [← hal, List.drop_length]; rfl
      have HB := Lib.hid hb
      clear hal hb
      go_wp2
      go_ret
      exact ⟨⟨_, rfl, HN.out⟩, HB.out⟩
set_option maxRecDepth 100000 in
theorem vany_calls (b : Nat) (v : Value) (l : List StatD) (hl : l.length ≤ 9223372036854775807) (ho : ∀ x ∈ l, x.ok) (w : World) (h : w.cell? ⟨b, 0, none⟩ = some (.func (.func 7) #[] #[])) (hv : IsStats 0 v l w) :
    Calls Tryd.prog 46 #[v, .func (.func 47) #[] #[.pointer (some ⟨b, 0, none⟩)]] w fun e w' => e = .returned (.bool (!l.all StatD.valid)) ∧ Below w.heap.size w w' := by
  have c1 := Lib.hid (vidx_calls b v l hl ho w h hv)
  clear h hv ho
  go_enter Tryd.func46, Tryd.ntmps46
  go_wp2_with fail
  refine Calls.mono c1.out ?_
  rintro e w' ⟨⟨i, rfl, hi⟩, hb⟩
  have HI := Lib.hid hi
  have HB := Lib.hid hb
  clear hi hb
  go_wp2
  go_ret
  exact ⟨ret_b HI.out, HB.out⟩
set_option maxRecDepth 100000 in
theorem vevery_calls (v : Value) (l : List StatD) (hl : l.length ≤ 9223372036854775807) (ho : ∀ x ∈ l, x.ok) (w : World) (hv : IsStats 0 v l w) :
    Calls Tryd.prog 33 #[v, .func (.func 7) #[] #[]] w fun e w' => e = .returned (.bool (l.all StatD.valid)) ∧ Below w.heap.size w w' := by
  have hb := below_one w (.cells #[.func (.func 7) #[] #[]] 32)
  have hB := Blk.new w 32 #[.func (.func 7) #[] #[]]
  have c1 := Lib.hid (vany_calls w.heap.size v l hl ho _ (hB.cell 0) (IsStats.next hv hb))
  obtain ⟨a, cap, rfl⟩ := IsSl.len hv
  obtain ⟨V, hV⟩ : ∃ V, V = l.all StatD.valid := ⟨_, rfl⟩
  rw [← hV] at c1 ⊢
  clear hV hB hv ho
  go_enter Tryd.func33, Tryd.ntmps33
  go_wp2_with fail
  refine Calls.mono c1.out ?_
  rintro e w' ⟨rfl, hb2⟩
  have HB := Lib.hid (hb.trans (hb2.mono hb.size))
  clear hb2 hb c1
  go_wp2
  go_ret
  exact ⟨ret_b (by cases V <;> rfl), HB.out⟩
def statsB (l : List StatD) : Bool := decide (l.length ≤ 16) && l.all StatD.valid
set_option maxRecDepth 100000 in
theorem stats_calls (v : Value) (l : List StatD) (hl : l.length ≤ 9223372036854775807) (ho : ∀ x ∈ l, x.ok) (w : World) (hv : IsStats 0 v l w) :
    Calls Tryd.prog 22 #[v] w fun e w' => e = .returned (.bool (statsB l)) ∧ Below w.heap.size w w' := by
  obtain ⟨a, cap, rfl⟩ := IsSl.len hv
  have c1 := Lib.hid (vevery_calls _ l hl ho w hv)
  clear hv ho
  unfold statsB
  by_cases h : l.length ≤ 16
  · have hi : (l.length : Int) ≤ 16 := by omega
    have d : decide (l.length ≤ 16) = true := decide_eq_true h
    rw [d]
    generalize l.all StatD.valid = V at *
    clear d h
    go_enter Tryd.func22, Tryd.ntmps22
    go_wp2_with fail
    refine Calls.mono c1.out ?_
    rintro e w' ⟨rfl, hb2⟩
    go_wp2
    go_ret
    exact ⟨rfl, hb2⟩
  · have hi : ¬ (l.length : Int) ≤ 16 := by omega
    have d : decide (l.length ≤ 16) = false := decide_eq_false h
    rw [d]
    clear d h
    go_enter Tryd.func22, Tryd.ntmps22
    go_wp2
    go_ret
    exact ⟨rfl, Below.refl _ _⟩
end Go.Proofs.YtkfmhibdoapndaaDoor
