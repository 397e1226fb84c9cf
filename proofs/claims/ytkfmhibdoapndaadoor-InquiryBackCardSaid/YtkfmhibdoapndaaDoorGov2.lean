/- Whether statutes govern a task. -/
import Derived.Test.YtkfmhibdoapndaaDoorGov
namespace Go.Proofs.YtkfmhibdoapndaaDoor
open Go.RowKit

/-- A task, of which only three numbers matter here. -/
structure TaskD where
  ver : Int
  c1 : Value
  c2 : Value
  c3 : Value
  c4 : Value
  c5 : Value
  qu : Int
  ju : Int
def TaskD.cells (t : TaskD) : Array Value := #[.int .i64 t.ver, t.c1, t.c2, t.c3, t.c4, t.c5, .int .i64 t.qu, .int .i64 t.ju]
def TaskD.val (t : TaskD) : Value := .agg t.cells
def govB (l : List StatD) (ver qu ju : Int) : Bool :=
  statsB l && (idxB ver l.length && (decide (qu = (l.getD ver.toNat ⟨[], 0, []⟩).qu) && decide (ju = sumW (l.getD ver.toNat ⟨[], 0, []⟩).ws)))
theorem statsB_all {l : List StatD} (h : statsB l = true) : l.length ≤ 16 ∧ ∀ x ∈ l, x.valid = true := by
  unfold statsB at h
  rw [Bool.and_eq_true, decide_eq_true_eq, List.all_eq_true] at h
  exact h
theorem valid_w {x : StatD} (h : x.valid = true) : weighB x.ws = true := by
  unfold StatD.valid at h
  simp only [Bool.and_eq_true] at h
  exact h.2.1
set_option maxRecDepth 100000 in
set_option maxHeartbeats 4000000 in
theorem governs_calls (v : Value) (l : List StatD) (hl : l.length ≤ 9223372036854775807) (ho : ∀ x ∈ l, x.ok) (t : TaskD) (w : World) (hv : IsStats 0 v l w) :
    Calls Tryd.prog 9 #[v, t.val] w fun e w' => e = .returned (.bool (govB l t.ver t.qu t.ju)) ∧ Below w.heap.size w w' := by
  obtain ⟨S, hS⟩ : ∃ S, S = govB l t.ver t.qu t.ju := ⟨_, rfl⟩
  rw [← hS]
  have HS := Lib.hid hS
  obtain ⟨ver, f1, f2, f3, f4, f5, qu, ju⟩ := t
  have hb0 := below_one w (.cells #[.int .i64 ver, f1, f2, f3, f4, f5, .int .i64 qu, .int .i64 ju] 28)
  have hB := Blk.new w 28 #[.int .i64 ver, f1, f2, f3, f4, f5, .int .i64 qu, .int .i64 ju]
  obtain ⟨a, cap, rfl⟩ := IsSl.len hv
  unfold TaskD.val TaskD.cells
  simp only at hS HS ⊢
  go_enter Tryd.func9, Tryd.ntmps9
  go_wp2_with fail
  generalize w.alloc (.cells #[.int .i64 ver, f1, f2, f3, f4, f5, .int .i64 qu, .int .i64 ju] 28) = W at *
  have k1 := Lib.hid (stats_calls _ l hl ho W (IsStats.next hv hb0))
  have HB := Lib.hid hb0
  have HBK := Lib.hid hB
  have HV := Lib.hid (IsStats.next hv hb0)
  have HF : Hid (govB l ver qu ju = (statsB l && (idxB ver l.length && (decide (qu = (l.getD ver.toNat ⟨[], 0, []⟩).qu) && decide (ju = sumW (l.getD ver.toNat ⟨[], 0, []⟩).ws))))) := rfl
  have hst : Hid (statsB l = true → l.length ≤ 16 ∧ ∀ x ∈ l, x.valid = true) := statsB_all
  generalize statsB l = A at *
  clear hS hb0 hB hv ho
  refine k1.out.mono ?_
  rintro e w1 ⟨rfl, hb1⟩
  have HB1 := Lib.hid (HB.out.trans (hb1.mono HB.out.size))
  have hB1 := HBK.out.next hb1
  have q0 := hB1.cell 0
  have q6 := hB1.cell 6
  have q7 := hB1.cell 7
  have k2 := Lib.hid (isidx_calls ver l.length w1)
  clear k1
  cases A
  · have HR : Hid (S = false) := by show _ = _; rw [HS.out, HF.out]; rfl
    clear k2 q0 q6 q7 hB1 HF HS hb1 hst
    go_wp2
    go_ret
    exact ⟨ret_b HR.out.symm, HB1.out⟩
  · obtain ⟨h16, hval⟩ := hst.out rfl
    have hidx : Hid (idxB ver l.length = true → 0 ≤ ver ∧ ver < l.length) := by
      show _ → _
      intro h
      unfold idxB at h
      simpa using h
    generalize idxB ver l.length = I at *
    go_wp2_with fail
    refine k2.out.mono ?_
    rintro e w2 ⟨rfl, rfl⟩
    clear k2
    cases I
    · have HR : Hid (S = false) := by show _ = _; rw [HS.out, HF.out]; rfl
      clear q0 q6 q7 hB1 HF HS hb1 hst hval
      go_wp2
      go_ret
      exact ⟨ret_b HR.out.symm, HB1.out⟩
    · obtain ⟨h0, h1⟩ := hidx.out rfl
      obtain ⟨J, rfl⟩ : ∃ J : Nat, ver = (J : Int) := ⟨ver.toNat, by omega⟩
      have hJ : J < l.length := by omega
      obtain ⟨bk, off, rfl, hbk, x, hx, vr, vw, y0, y1, y2, yr, yw⟩ := IsSl.at (IsStats.next HV.out hb1) J hJ
      have hgx : l.getD (J : Int).toNat ⟨[], 0, []⟩ = x := by rw [hx, Int.toNat_natCast, List.getD_eq_getElem?_getD, List.getElem?_eq_getElem hJ]; rfl
      have HR : Hid (S = (decide (qu = x.qu) && decide (ju = sumW x.ws))) := by show _ = _; rw [HS.out, HF.out, hgx]; rfl
      obtain ⟨hw1, hw2, hw3⟩ := weighB_all (valid_w (hval x (by rw [hx]; exact List.getElem_mem _)))
      have hJl : (J : Int) < (l.length : Int) := by omega
      have hl16 : (l.length : Int) ≤ 16 := by omega
      obtain ⟨ar, cr, rfl⟩ := IsSl.len yr
      obtain ⟨aw, cw, rfl⟩ := IsSl.len yw
      have hb2 := below_one w1 (.cells #[.slice ar x.rs.length cr, .int .i64 x.qu, .slice aw x.ws.length cw] 25)
      have hB2 := Blk.new w1 25 #[.slice ar x.rs.length cr, .int .i64 x.qu, .slice aw x.ws.length cw]
      have HB2 := Lib.hid (HB1.out.trans (hb2.mono HB1.out.size))
      have hB3 := hB1.next hb2
      have hyw := yw.nums.next hb2
      have hx1 : x.ws.length ≤ 400 := by omega
      clear HF HS hb1 hst hval hidx hx hgx hw1 hw3 yr yw hB1 HV HBK hbk h0 h1 hb2
      go_wp2_with fail
      generalize w1.alloc (.cells #[.slice ar x.rs.length cr, .int .i64 x.qu, .slice aw x.ws.length cw] 25) = C at *
      have q6 : ∀ u : Up C, u.w.cell? ⟨w.heap.size, 6, none⟩ = some (.int .i64 qu) := fun u => (hB3.next u.b).cell 6
      have q7 : ∀ u : Up C, u.w.cell? ⟨w.heap.size, 7, none⟩ = some (.int .i64 ju) := fun u => (hB3.next u.b).cell 7
      have q1 : ∀ u : Up C, u.w.cell? ⟨w1.heap.size, 1, none⟩ = some (.int .i64 x.qu) := fun u => (hB2.next u.b).cell 1
      have q2 : ∀ u : Up C, u.w.cell? ⟨w1.heap.size, 2, none⟩ = some (.slice aw x.ws.length cw) := fun u => (hB2.next u.b).cell 2
      have k3 : Hid (∀ (args' : Array Value) (w' : World), args' = #[.slice aw x.ws.length cw] → Below C.heap.size C w' → Calls Tryd.prog 20 args' w' fun e w'' => e = .returned (.int .i64 (sumW x.ws)) ∧ Below C.heap.size C w'') := by
        show ∀ args' w', _
        intro args' w' he h
        subst he
        refine (total_calls _ x.ws hx1 hw2 w' (hyw.next h)).mono ?_
        rintro e w'' ⟨h1, rfl⟩
        exact ⟨h1, h⟩
      generalize sumW x.ws = T at *
      clear hB2 hB3 hyw hx1 hw2 y0 y1 y2
      by_cases hq : qu = x.qu
      · have HR : Hid (S = decide (ju = T)) := by show _ = _; rw [HR.out, decide_eq_true hq]; rfl
        have hqb : (qu == x.qu) = true := beq_iff_eq.2 hq
        refine wp_region_up (by kernel_rfl) (by kernel_rfl) ?_
        repeat (go_big_quiet_step (exact Calls.mono (k3.out _ _ (by with_reducible rfl) (Up.b _)) fun e w' h => ⟨h.1, ⟨w', h.2⟩, rfl⟩))
        refine wpQuiet_nil ?_
        intro _ hw'
        obtain ⟨u6, rfl⟩ := hw'
        have hb4 := Lib.hid (HB2.out.trans (u6.b.mono HB2.out.size))
        generalize u6.w = w4 at *
        clear q1 q2 q6 q7 k3
        go_wp2
        go_ret
        exact ⟨ret_b (by rw [HR.out]; rfl), hb4.out⟩
      · have HR : Hid (S = false) := by show _ = _; rw [HR.out, decide_eq_false hq]; rfl
        have hqb : (qu == x.qu) = false := beq_eq_false_iff_ne.2 hq
        refine wp_region_up (by kernel_rfl) (by kernel_rfl) ?_
        repeat (go_big_quiet_step (fail))
        refine wpQuiet_nil ?_
        intro _ hw'
        obtain ⟨u6, rfl⟩ := hw'
        have hb4 := Lib.hid (HB2.out.trans (u6.b.mono HB2.out.size))
        generalize u6.w = w4 at *
        clear q1 q2 q6 q7 k3
        go_wp2
        go_ret
        exact ⟨ret_b HR.out.symm, hb4.out⟩
end Go.Proofs.YtkfmhibdoapndaaDoor
