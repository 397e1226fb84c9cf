/- ProofOpens. -/
import Derived.Test.YtccgjcpjgoglfaaGreatDoorOpens
namespace Go.Proofs.YtccgjcpjgoglfaaGreatDoor
open Go.RowKit

/-- A slice of bools. -/
def IsBools (v : Value) (ws : List Bool) (w : World) : Prop :=
  ((∃ a c, v = .slice a 0 c) ∧ ws = []) ∨ ∃ bk off cap, v = .slice (some ⟨bk, off, none⟩) ws.length cap ∧ bk < w.heap.size ∧ ∀ i b, ws[i]? = some b → w.cell? ⟨bk, off + i, none⟩ = some (.bool b)
theorem IsBools.next {v : Value} {ws : List Bool} {w w' : World} (h : IsBools v ws w) (hb : Below w.heap.size w w') : IsBools v ws w' := by
  rcases h with h | ⟨bk, off, cap, h1, h2, h3⟩
  · exact .inl h
  · exact .inr ⟨bk, off, cap, h1, Nat.lt_of_lt_of_le h2 hb.size, fun i b hi => by rw [hb.cell (p := ⟨bk, off + i, none⟩) h2]; exact h3 i b hi⟩
theorem IsBools.len {v : Value} {ws : List Bool} {w : World} (h : IsBools v ws w) : ∃ a cap, v = .slice a ws.length cap := by
  rcases h with ⟨⟨a, c, h1⟩, h2⟩ | ⟨bk, off, cap, h, _⟩
  · exact ⟨a, c, by rw [h1, h2]; rfl⟩
  · exact ⟨_, _, h⟩
theorem IsBools.at {a : Option Addr} {n cap : Nat} {ws : List Bool} {w : World} (h : IsBools (.slice a n cap) ws w) (k : Nat) (hk : k < ws.length) :
    ∃ bk off, a = some ⟨bk, off, none⟩ ∧ bk < w.heap.size ∧ ∃ b, b = ws[k] ∧ w.cell? ⟨bk, off + k, none⟩ = some (.bool b) := by
  rcases h with ⟨_, h2⟩ | ⟨bk, off, cap', h, hlt, hc⟩
  · rw [h2] at hk; simp at hk
  · simp only [Value.slice.injEq] at h
    exact ⟨bk, off, h.1, hlt, _, rfl, hc k _ (List.getElem?_eq_getElem hk)⟩
/-- Worlds above a world. -/
structure Up (wr : World) where
  w : World
  b : Below wr.heap.size wr w
instance Up.any (wr : World) : Nonempty (Up wr) := ⟨⟨wr, Below.refl _ _⟩⟩
theorem wp_region_up {P : Program} {id : Nat} {Q : Exit → Act → World → Prop} {a : Act} {w : World} {l : List Oper} (hm : P.follows .mixedOrders = true) (hB : Region.lexB .any l.toArray = true)
    (h : wpQuiet P l.toArray (fun w' => ∃ u : Up w, w' = u.w) (fun a' => ∀ w', (∃ u : Up w, w' = u.w) → Q .normal a' w') l a) : (Code.region id l.toArray true).wp P Q a w :=
  wp_region_quiet (C := fun w' => ∃ u : Up w, w' = u.w) hm hB ⟨⟨_, below_drewN (Below.refl _ _) 1⟩, rfl⟩ (by simpa using h)
/-- One number of a slice. -/
theorem nums_part {bk off n c c' k : Nat} {l : List Int} {W : World} (h : IsNums (.slice (some ⟨bk, off, none⟩) n c) l W) (hk : k < l.length) : IsNums (.slice (some ⟨bk, off + k, none⟩) 1 c') [l[k]] W := by
  rcases h with ⟨_, h0⟩ | ⟨bk', off', cap, hv, hlt, hc⟩
  · rw [h0] at hk; simp at hk
  · simp only [Value.slice.injEq, Option.some.injEq, Addr.mk.injEq, and_true] at hv
    obtain ⟨⟨rfl, rfl⟩, -, -⟩ := hv
    refine .inr ⟨bk, off + k, c', rfl, hlt, fun i x hx => ?_⟩
    match i, hx with
    | 0, hx =>
      simp at hx
      subst hx
      exact hc k _ (List.getElem?_eq_getElem hk)
theorem pob_ints {s : SetD} (hi : s.ints) {x : Int} (hx : isInt x) : (s.pob x).ints := by
  refine ⟨show isInt 1 by unfold isInt; omega, by simp [SetD.pob], fun e he => ?_⟩
  simp only [SetD.pob, List.mem_cons, List.not_mem_nil, or_false] at he
  subst he
  refine ⟨hx, by simp, fun t ht => ?_⟩
  simp only [List.mem_cons, List.not_mem_nil, or_false] at ht
  subst ht
  exact ⟨show isInt 0 by unfold isInt; omega, hi.H⟩
theorem rangeF_yes {s : SetD} {c : Int} {bits : List Int} (h : (s.canWeigh bits && s.el c) = true) : s.rangeF c bits = (bits.map fun x => ⟨1, s.bitC x⟩) ++ [⟨1, [s.pob (s.ov c (s.weigh bits))]⟩] := by
  unfold SetD.rangeF; rw [if_pos h]
theorem rangeF_no {s : SetD} {c : Int} {bits : List Int} (h : ¬ (s.canWeigh bits && s.el c) = true) : s.rangeF c bits = [] := by
  unfold SetD.rangeF; rw [if_neg h]
theorem pow_wrap12 (k : Nat) (h : k < 12) : IntKind.i64.wrap ((2 : Int) ^ k) = 2 ^ k ∧ (1 : Int) ≤ 2 ^ k ∧ (2 : Int) ^ k ≤ 2048 := by
  refine ⟨two_pow_wrap k (by omega), (two_pow_le k (by omega)).1, ?_⟩
  have h1 : (2 : Nat) ^ k ≤ 2 ^ 11 := Nat.pow_le_pow_right (by omega) (by omega)
  have e : (2 : Int) ^ k = ((2 ^ k : Nat) : Int) := by simp
  rw [e]
  omega

set_option maxRecDepth 100000 in
set_option maxHeartbeats 8000000 in
theorem opens_law (s : SetD) (hi : s.ints) (vb : Value) (c : Int) (hc : isInt c) (ub : Value) (bits : List Int) (hbi : ∀ x ∈ bits, isInt x) (hbl : bits.length ≤ 9223372036854775807) (uw : Value) (ws : List Bool) (hwl : ws.length ≤ 9223372036854775807)
    (uv : Value) (vals : List Int) (hvi : ∀ x ∈ vals, isInt x) (hvc : ∀ a n c, uv = .slice a n c → n ≤ c) (w : World) (hE : Envs w) (hb0 : IsNums vb s.bs w) (hub : IsNums ub bits w) (huw : IsBools uw ws w) (huv : IsNums uv vals w) :
    Calls Tryz.prog 3 #[s.val vb, .int .i64 c, ub, uw, uv] w (True_ w) := by
  obtain ⟨ab, cb, rfl⟩ := hub.len
  obtain ⟨aw, cw, rfl⟩ := huw.len
  obtain ⟨av, cv, rfl⟩ := huv.len
  have hvc := hvc _ _ _ rfl
  have hb := below_one w (.cells (s.cells vb) 26)
  have hS : SetAt s vb w.heap.size (w.alloc (.cells (s.cells vb) 26)) := Blk.new w _ _
  have c1 := Lib.hid (less_ok _ (hE.next hb))
  have HI := Lib.hid hi
  have HBI := Lib.hid hbi
  have HVI := Lib.hid hvi
  have HBN := fun w' (h : Below w.heap.size w w') => Lib.hid (hb0.next h)
  have HEN := fun w' (h : Below w.heap.size w w') => Lib.hid (hE.next h)
  have HUB := fun w' (h : Below w.heap.size w w') => Lib.hid (hub.next h)
  have HUW := fun w' (h : Below w.heap.size w w') => Lib.hid (huw.next h)
  have HUV := fun w' (h : Below w.heap.size w w') => Lib.hid (huv.next h)
  unfold SetD.val at *
  unfold SetD.cells at hS hb c1
  clear hi hbi hvi hb0 hE hub huw huv
  go_enter Tryz.func3, Tryz.ntmps3
  go_wp2_with fail
  generalize w.alloc (.cells #[.int .i64 s.P, .int .i64 s.Q, .int .i64 s.G, vb, .int .i64 s.H] 26) = W0 at *
  refine c1.out.mono ?_
  clear c1
  rintro e w1 ⟨rfl, hb1'⟩
  have hS0 : SetAt s vb w.heap.size W0 := hS
  have hS1 := hS0.next hb1'
  have hb1 := hb.trans (hb1'.mono hb.size)
  have c2 := Lib.hid (fewsetup_calls s vb w1 (HBN _ hb1).out)
  unfold SetD.val at c2
  obtain ⟨z0, z1, z2, z3, z4⟩ := hS1.get
  clear hS hS0 hb hb1'
  go_wp2_with fail
  refine c2.out.mono ?_
  clear c2 z0 z1 z2 z3 z4
  rintro e w2 ⟨rfl, hb2'⟩
  have hS2 := hS1.next hb2'
  have hb2 := hb1.trans (hb2'.mono hb1.size)
  clear hS1 hb1 hb2'
  by_cases hfew : ¬ (s.bs.length : Int) ≤ 9
  · rw [decide_eq_false hfew]
    clear hfew
    go_wp2
    go_ret
    exact ⟨rfl, hb2⟩
  rw [decide_eq_true (Decidable.not_not.1 hfew)]
  clear hfew
  by_cases h12 : (12 : Int) < (bits.length : Int)
  · go_wp2
    go_ret
    exact ⟨rfl, hb2⟩
  by_cases hws : (ws.length : Int) < (bits.length : Int)
  · go_wp2
    go_ret
    exact ⟨rfl, hb2⟩
  by_cases hvs : (vals.length : Int) ≤ (bits.length : Int)
  · go_wp2
    go_ret
    exact ⟨rfl, hb2⟩
  obtain ⟨z0, z1, z2, z3, z4⟩ := hS2.get
  have c3 := Lib.hid (range_calls s HI.out vb (.slice ab bits.length cb) c hc bits HBI.out hbl w2 (HEN _ hb2).out.f (HBN _ hb2).out (HUB _ hb2).out)
  unfold SetD.val at c3
  go_wp2_with fail
  refine c3.out.mono ?_
  clear c3 z0 z1 z2 z3 z4
  rintro e w3 ⟨u, rfl, hG0, hb3'⟩
  have hG : IsGoal 0 u (s.rangeF c bits) w3 := hG0.low (Nat.zero_le _)
  have hS3 := hS2.next hb3'
  have hb3 := hb2.trans (hb3'.mono hb2.size)
  clear hS2 hb2 hb3' hG0
  by_cases hcan : ¬ (s.canWeigh bits && s.el c) = true
  · rw [rangeF_no hcan] at hG
    obtain ⟨ag, cg, rfl⟩ : ∃ a c, u = .slice a 0 c := IsSl.len hG
    have hne : ((0 : Int) != (bits.length : Int) + 1) = true := bne_iff_ne.2 (by omega)
    clear hG hcan
    go_wp2
    go_ret
    exact ⟨rfl, hb3⟩
  have hcan := Decidable.not_not.1 hcan
  have HRY := Lib.hid (rangeF_yes hcan)
  simp only [Bool.and_eq_true] at hcan
  have HCAN := Lib.hid hcan
  obtain ⟨ag, cg, rfl⟩ : ∃ a c', u = .slice a (bits.length + 1) c' := by
    obtain ⟨a, c', h⟩ := IsSl.len hG
    refine ⟨a, c', h.trans ?_⟩
    rw [HRY.out]
    simp
  have hn12 : bits.length ≤ 12 := by omega
  have hnw : bits.length ≤ ws.length := by omega
  have hnv : bits.length < vals.length := by omega
  have hne : (((bits.length + 1 : Nat) : Int) != (bits.length : Int) + 1) = false := by simp
  obtain ⟨z0, z1, z2, z3, z4⟩ := hS3.get
  have HS3 := Lib.hid hS3
  have HG3 := Lib.hid hG
  have HB3 := Lib.hid hb3
  have hV : s.valid = true := by
    have := hcan.1
    unfold SetD.canWeigh at this
    simp only [Bool.and_eq_true] at this
    exact this.1
  have HEL : Hid (∀ x ∈ bits, s.el x = true) := by
    show ∀ x ∈ bits, _
    have := hcan.1
    unfold SetD.canWeigh at this
    simp only [Bool.and_eq_true, List.all_eq_true] at this
    exact this.2.2
  have HV := Lib.hid hV
  have HW0 : Hid (s.wF 0 (s.com 0 0) (bits.drop 0) = s.weigh bits) := by
    show _ = _
    rw [SetD.com_zero hV, List.drop_zero]; rfl
  clear hcan hS3 hG hb3 hV h12 hws hvs
  go_wp2
  go_loopw [14, 15, 17] (fun vv rv iv wr => ∃ (k : Nat) (v r : Int), k ≤ bits.length ∧ iv = .int .i64 (k : Int) ∧ vv = .int .i64 v ∧ rv = .int .i64 r ∧ isInt r ∧ 0 ≤ v ∧ v < 2 ^ k ∧ s.wF k (s.com v r) (bits.drop k) = s.weigh bits ∧ Below w3.heap.size w3 wr) (fun _ _ iv _ => bits.length - (intOf iv).toNat)
  case atStart => exact ⟨0, 0, 0, Nat.zero_le _, rfl, rfl, rfl, by unfold isInt; omega, Int.le_refl _, by decide, HW0.out, Below.refl _ _⟩
  case round =>
    clear HW0
    obtain ⟨k, v, r, hk, rfl, rfl, rfl, hr, hv0, hv2, hW, hB⟩ := hrel
    have hSr := HS3.out.next hB
    have hGr := HG3.out.hi (lo := 0) (Hi.below hB)
    have hBr := HB3.out.trans (hB.mono HB3.out.size)
    by_cases hlt : k < bits.length
    · obtain ⟨bw, ow, rfl, hbw, wk, -, y0⟩ := (HUW wr hBr).out.at k (by omega)
      obtain ⟨bv, ov, rfl, hbv, xv, hxv, y1⟩ := (HUV wr hBr).out.at k (by omega)
      have hxi : isInt xv := by rw [hxv]; exact HVI.out _ (List.getElem_mem _)
      have hpart : ∀ w', Below wr.heap.size wr w' → ∀ c', IsNums (.slice (some ⟨bv, ov + k, none⟩) 1 c') [xv] w' := fun w' h c' => by
        rw [hxv]; exact (nums_part (HUV wr hBr).out (by omega)).next h
      obtain ⟨bg, og, rfl, hbg, x, hx, -, u3, hx2, hx3⟩ := IsSl.at hGr k (by rw [HRY.out]; simp; omega)
      have hx : x = ⟨1, s.bitC bits[k]⟩ := by
        rw [hx]
        simp only [HRY.out]
        rw [List.getElem_append_left (by simpa using hlt), List.getElem_map]
      subst hx
      obtain ⟨ac, cc, rfl⟩ : ∃ a c', u3 = .slice a 2 c' := IsSl.len hx3
      have hel : s.el bits[k] = true := HEL.out _ (List.getElem_mem hlt)
      have hbi' : isInt bits[k] := HBI.out _ (List.getElem_mem hlt)
      have hWd : s.wF (k + 1) (s.tm (s.com v r) (s.pw bits[k] (2 ^ k))) (bits.drop (k + 1)) = s.weigh bits := by rw [← s.wF_drop k _ bits hlt]; exact hW
      obtain ⟨hw1, hT1, hT2⟩ := pow_wrap12 k (by omega)
      obtain ⟨T, hT⟩ : ∃ T, T = (2 : Int) ^ k := ⟨_, rfl⟩
      have hT3 : (2 : Int) ^ (k + 1) = 2 * T := by rw [hT, Int.pow_succ]; omega
      have e1 : IntKind.i64.wrap ((2 : Int) ^ k) = T := by rw [hT]; exact hw1
      rw [← hT] at hT1 hT2 hv2 hWd
      have HT := Lib.hid (And.intro hT (And.intro hT3 (And.intro hWd (And.intro hv0 hv2))))
      have E1 := Lib.hid e1
      obtain ⟨bit, hbit⟩ : ∃ b, b = bits[k] := ⟨_, rfl⟩
      rw [← hbit] at hel hbi' hx3
      have HBIT := Lib.hid hbit
      have HHEL := Lib.hid hel
      have HBIN := Lib.hid hbi'
      have HXI := Lib.hid hxi
      have HR := Lib.hid hr
      have HPART := Lib.hid hpart
      have HGR := Lib.hid (And.intro hx2 (And.intro hx3 hbg.2))
      have HSR := Lib.hid hSr
      have HBR := Lib.hid hBr
      have HB := Lib.hid hB
      have HY1 := Lib.hid y1
      have hkl : (k : Int) < (bits.length : Int) := by omega
      have hk0 : (0 : Int) ≤ (k : Int) := Int.natCast_nonneg _
      have hkv : (k : Int) + 1 ≤ (cv : Int) := by omega
      have hvb : v ≤ 4096 := by omega
      have y2 : wr.cell? ⟨bg, og + k * 2 + 1, none⟩ = some (.slice ac 2 cc) := hx2
      clear hSr hGr hBr hxv hx2 hx3 hel hbi' hxi hr hpart hW hWd hw1 hT hT3 e1 hv2 hbit hB y1
      cases wk
      · go_wp2
        obtain ⟨bcl, ocl, rfl, hcl, y, hy, hy1, u5, hy2, hy3⟩ := IsSl.at HGR.out.2.1 0 (by simp [SetD.bitC])
        have hy : y = (s.pob bit) := hy
        subst hy
        obtain ⟨ae, ce, rfl⟩ : ∃ a c', u5 = .slice a 1 c' := IsSl.len hy3
        have hy1 : wr.cell? ⟨bcl, ocl, none⟩ = some (.int .i64 1) := hy1
        have hy2 : wr.cell? ⟨bcl, ocl + 1, none⟩ = some (.slice ae 1 ce) := hy2
        have q0 : ∀ u : Up wr, u.w.cell? ⟨w.heap.size, 0, none⟩ = some (.int .i64 s.P) := fun u => (HSR.out.next u.b).get.1
        have q1 : ∀ u : Up wr, u.w.cell? ⟨w.heap.size, 1, none⟩ = some (.int .i64 s.Q) := fun u => (HSR.out.next u.b).get.2.1
        have q2 : ∀ u : Up wr, u.w.cell? ⟨w.heap.size, 2, none⟩ = some (.int .i64 s.G) := fun u => (HSR.out.next u.b).get.2.2.1
        have q3 : ∀ u : Up wr, u.w.cell? ⟨w.heap.size, 3, none⟩ = some vb := fun u => (HSR.out.next u.b).get.2.2.2.1
        have q4 : ∀ u : Up wr, u.w.cell? ⟨w.heap.size, 4, none⟩ = some (.int .i64 s.H) := fun u => (HSR.out.next u.b).get.2.2.2.2
        have q5 : ∀ u : Up wr, u.w.cell? ⟨bg, og + k * 2 + 1, none⟩ = some (.slice (some ⟨bcl, ocl, none⟩) 2 cc) := fun u => by rw [u.b.cell (p := ⟨bg, og + k * 2 + 1, none⟩) HGR.out.2.2]; exact y2
        have q6 : ∀ u : Up wr, u.w.cell? ⟨bcl, ocl, none⟩ = some (.int .i64 1) := fun u => by rw [u.b.cell (p := ⟨bcl, ocl, none⟩) hcl.2]; exact hy1
        have q7 : ∀ u : Up wr, u.w.cell? ⟨bcl, ocl + 1, none⟩ = some (.slice ae 1 ce) := fun u => by rw [u.b.cell (p := ⟨bcl, ocl + 1, none⟩) hcl.2]; exact hy2
        obtain ⟨ok, hok⟩ : ∃ ok, ok = s.HoldsF (s.pob bit) [xv] := ⟨_, rfl⟩
        have kH : Hid (∀ (args' : Array Value) (w' : World), args' = #[.agg #[.int .i64 s.P, .int .i64 s.Q, .int .i64 s.G, vb, .int .i64 s.H], .agg #[.int .i64 1, .slice ae 1 ce], .slice (some ⟨bv, ov + k, none⟩) 1 (cv - k)] → Below wr.heap.size wr w' → Calls Tryz.prog 9 args' w' fun e w'' => e = .returned (.bool ok) ∧ Below wr.heap.size wr w'') := by
          show ∀ args' w', _
          intro args' w' he h
          subst he
          have hbw' := HBR.out.trans (h.mono HBR.out.size)
          refine (Holds_calls s HI.out vb (s.pob bit) (pob_ints HI.out HBIN.out) [xv] (by intro x hx; simp only [List.mem_cons, List.not_mem_nil, or_false] at hx; subst hx; exact HXI.out) (by simp) (.slice ae 1 ce) (.slice (some ⟨bv, ov + k, none⟩) 1 (cv - k)) w' (HEN w' hbw').out.f (HBN w' hbw').out (hy3.hi (Hi.below h)) (HPART.out w' h _)).mono ?_
          rintro e w'' ⟨h1, h2⟩
          rw [← hok] at h1
          exact ⟨h1, h.trans (h2.mono h.size)⟩
        have HOK := Lib.hid hok
        clear hy1 hy2 hy3 hcl hok y2
        refine wp_region_up (by kernel_rfl) (by kernel_rfl) ?_
        repeat (go_big_quiet_step (exact Calls.mono (kH.out _ _ (by with_reducible rfl) (Up.b _)) fun e w' h => ⟨h.1, ⟨w', h.2⟩, rfl⟩))
        refine wpQuiet_nil ?_
        intro _ hw'
        obtain ⟨u6, rfl⟩ := hw'
        have hb4 : Below wr.heap.size wr u6.w := u6.b
        generalize u6.w = w4 at *
        clear q0 q1 q2 q3 q4 q5 q6 q7 kH
        have HB4 := Lib.hid (HBR.out.trans (hb4.mono HBR.out.size))
        have HB34 := Lib.hid (HB.out.trans (hb4.mono HB.out.size))
        cases ok
        · go_wp2
          go_ret
          exact ⟨rfl, HB4.out⟩
        · have hbo := SetD.bit_open false HHEL.out HOK.out.symm
          obtain ⟨hT, hT3, hWd, hv0, hv2⟩ := HT.out
          have hst := SetD.step_open HV.out v r (bif false then 1 else 0) xv k
          rw [← hbo, ← hT] at hst
          rw [← HBIT.out, hst] at hWd
          have hv' : v + (bif false then 1 else 0) * T = v := by simp
          rw [hv'] at hWd
          have HWD := Lib.hid hWd
          have HVV := Lib.hid (And.intro hT3 (And.intro hv0 hv2))
          have hTi : isInt T := by unfold isInt; omega
          have hMi := mulZ_int s.Q xv T
          have kM := Lib.hid (DoesB.ret (w0 := w4) (v := .int .i64 (mulZ s.Q xv T)) rfl (fun w' _ => mul_calls s.Q xv T HXI.out hTi w'))
          have kA := Lib.hid (DoesB.same (w0 := w4) (v := .int .i64 (addZ s.Q r (mulZ s.Q xv T))) rfl (fun w' _ => add_calls s.Q r (mulZ s.Q xv T) HR.out hMi w'))
          have HRI := Lib.hid (addZ_int s.Q r (mulZ s.Q xv T))
          generalize addZ s.Q r (mulZ s.Q xv T) = R2 at *
          generalize mulZ s.Q xv T = M at *
          have q0 : ∀ u : Up w4, u.w.cell? ⟨bv, ov + k, none⟩ = some (.int .i64 xv) := fun u => by
            have h1 := HY1.out
            have h2 : bv < wr.heap.size := hbv
            rw [u.b.cell (p := ⟨bv, ov + k, none⟩) (Nat.lt_of_lt_of_le h2 hb4.size), hb4.cell (p := ⟨bv, ov + k, none⟩) h2]
            exact h1
          have e1 := E1.out
          have hk64 : (k : Int) ≤ 64 := by omega
          clear hbo hT hT3 hWd hv2 hst hv' hTi hMi hb4
          go_wp2
          refine wp_region_up (by kernel_rfl) (by kernel_rfl) ?_
          repeat (go_big_quiet_step (first | exact Calls.mono (kM.out _ _ (by with_reducible rfl) (Up.b _)) fun e w' h => ⟨h.1, ⟨w', h.2⟩, rfl⟩ | exact Calls.mono (kA.out _ _ (by with_reducible rfl) (Up.b _)) fun e w' h => ⟨h.1, ⟨w', h.2⟩, rfl⟩))
          refine wpQuiet_nil ?_
          intro _ hw'
          obtain ⟨u6, rfl⟩ := hw'
          have hb5 : Below w4.heap.size w4 u6.w := u6.b
          generalize u6.w = w5 at *
          clear q0 kM kA e1
          go_wp2
          go_roundw
          case rel => exact ⟨k + 1, v, R2, by omega, by go_num, rfl, rfl, HRI.out, by have := HVV.out; omega, by have := HVV.out; omega, HWD.out, HB34.out.trans (hb5.mono HB34.out.size)⟩
          case measure => simp [intOf]; omega
      · go_wp2
        obtain ⟨bcl, ocl, rfl, hcl, y, hy, hy1, u5, hy2, hy3⟩ := IsSl.at HGR.out.2.1 1 (by simp [SetD.bitC])
        have hy : y = (s.pob (s.ov bit s.G)) := hy
        subst hy
        obtain ⟨ae, ce, rfl⟩ : ∃ a c', u5 = .slice a 1 c' := IsSl.len hy3
        have hy1 : wr.cell? ⟨bcl, ocl + 2, none⟩ = some (.int .i64 1) := hy1
        have hy2 : wr.cell? ⟨bcl, ocl + 2 + 1, none⟩ = some (.slice ae 1 ce) := hy2
        have q0 : ∀ u : Up wr, u.w.cell? ⟨w.heap.size, 0, none⟩ = some (.int .i64 s.P) := fun u => (HSR.out.next u.b).get.1
        have q1 : ∀ u : Up wr, u.w.cell? ⟨w.heap.size, 1, none⟩ = some (.int .i64 s.Q) := fun u => (HSR.out.next u.b).get.2.1
        have q2 : ∀ u : Up wr, u.w.cell? ⟨w.heap.size, 2, none⟩ = some (.int .i64 s.G) := fun u => (HSR.out.next u.b).get.2.2.1
        have q3 : ∀ u : Up wr, u.w.cell? ⟨w.heap.size, 3, none⟩ = some vb := fun u => (HSR.out.next u.b).get.2.2.2.1
        have q4 : ∀ u : Up wr, u.w.cell? ⟨w.heap.size, 4, none⟩ = some (.int .i64 s.H) := fun u => (HSR.out.next u.b).get.2.2.2.2
        have q5 : ∀ u : Up wr, u.w.cell? ⟨bg, og + k * 2 + 1, none⟩ = some (.slice (some ⟨bcl, ocl, none⟩) 2 cc) := fun u => by rw [u.b.cell (p := ⟨bg, og + k * 2 + 1, none⟩) HGR.out.2.2]; exact y2
        have q6 : ∀ u : Up wr, u.w.cell? ⟨bcl, ocl + 2, none⟩ = some (.int .i64 1) := fun u => by rw [u.b.cell (p := ⟨bcl, ocl + 2, none⟩) hcl.2]; exact hy1
        have q7 : ∀ u : Up wr, u.w.cell? ⟨bcl, ocl + 2 + 1, none⟩ = some (.slice ae 1 ce) := fun u => by rw [u.b.cell (p := ⟨bcl, ocl + 2 + 1, none⟩) hcl.2]; exact hy2
        obtain ⟨ok, hok⟩ : ∃ ok, ok = s.HoldsF (s.pob (s.ov bit s.G)) [xv] := ⟨_, rfl⟩
        have kH : Hid (∀ (args' : Array Value) (w' : World), args' = #[.agg #[.int .i64 s.P, .int .i64 s.Q, .int .i64 s.G, vb, .int .i64 s.H], .agg #[.int .i64 1, .slice ae 1 ce], .slice (some ⟨bv, ov + k, none⟩) 1 (cv - k)] → Below wr.heap.size wr w' → Calls Tryz.prog 9 args' w' fun e w'' => e = .returned (.bool ok) ∧ Below wr.heap.size wr w'') := by
          show ∀ args' w', _
          intro args' w' he h
          subst he
          have hbw' := HBR.out.trans (h.mono HBR.out.size)
          refine (Holds_calls s HI.out vb (s.pob (s.ov bit s.G)) (pob_ints HI.out (gOver_int _ _ _ _)) [xv] (by intro x hx; simp only [List.mem_cons, List.not_mem_nil, or_false] at hx; subst hx; exact HXI.out) (by simp) (.slice ae 1 ce) (.slice (some ⟨bv, ov + k, none⟩) 1 (cv - k)) w' (HEN w' hbw').out.f (HBN w' hbw').out (hy3.hi (Hi.below h)) (HPART.out w' h _)).mono ?_
          rintro e w'' ⟨h1, h2⟩
          rw [← hok] at h1
          exact ⟨h1, h.trans (h2.mono h.size)⟩
        have HOK := Lib.hid hok
        clear hy1 hy2 hy3 hcl hok y2
        refine wp_region_up (by kernel_rfl) (by kernel_rfl) ?_
        repeat (go_big_quiet_step (exact Calls.mono (kH.out _ _ (by with_reducible rfl) (Up.b _)) fun e w' h => ⟨h.1, ⟨w', h.2⟩, rfl⟩))
        refine wpQuiet_nil ?_
        intro _ hw'
        obtain ⟨u6, rfl⟩ := hw'
        have hb4 : Below wr.heap.size wr u6.w := u6.b
        generalize u6.w = w4 at *
        clear q0 q1 q2 q3 q4 q5 q6 q7 kH
        have HB4 := Lib.hid (HBR.out.trans (hb4.mono HBR.out.size))
        have HB34 := Lib.hid (HB.out.trans (hb4.mono HB.out.size))
        cases ok
        · go_wp2
          go_ret
          exact ⟨rfl, HB4.out⟩
        · have hbo := SetD.bit_open true HHEL.out HOK.out.symm
          obtain ⟨hT, hT3, hWd, hv0, hv2⟩ := HT.out
          have hst := SetD.step_open HV.out v r (bif true then 1 else 0) xv k
          rw [← hbo, ← hT] at hst
          rw [← HBIT.out, hst] at hWd
          have hv' : v + (bif true then 1 else 0) * T = (v + T) := by simp
          rw [hv'] at hWd
          have HWD := Lib.hid hWd
          have HVV := Lib.hid (And.intro hT3 (And.intro hv0 hv2))
          have hTi : isInt T := by unfold isInt; omega
          have hMi := mulZ_int s.Q xv T
          have kM := Lib.hid (DoesB.ret (w0 := w4) (v := .int .i64 (mulZ s.Q xv T)) rfl (fun w' _ => mul_calls s.Q xv T HXI.out hTi w'))
          have kA := Lib.hid (DoesB.same (w0 := w4) (v := .int .i64 (addZ s.Q r (mulZ s.Q xv T))) rfl (fun w' _ => add_calls s.Q r (mulZ s.Q xv T) HR.out hMi w'))
          have HRI := Lib.hid (addZ_int s.Q r (mulZ s.Q xv T))
          generalize addZ s.Q r (mulZ s.Q xv T) = R2 at *
          generalize mulZ s.Q xv T = M at *
          have q0 : ∀ u : Up w4, u.w.cell? ⟨bv, ov + k, none⟩ = some (.int .i64 xv) := fun u => by
            have h1 := HY1.out
            have h2 : bv < wr.heap.size := hbv
            rw [u.b.cell (p := ⟨bv, ov + k, none⟩) (Nat.lt_of_lt_of_le h2 hb4.size), hb4.cell (p := ⟨bv, ov + k, none⟩) h2]
            exact h1
          have e1 := E1.out
          have hk64 : (k : Int) ≤ 64 := by omega
          clear hbo hT hT3 hWd hv2 hst hv' hTi hMi hb4
          go_wp2
          refine wp_region_up (by kernel_rfl) (by kernel_rfl) ?_
          repeat (go_big_quiet_step (first | exact Calls.mono (kM.out _ _ (by with_reducible rfl) (Up.b _)) fun e w' h => ⟨h.1, ⟨w', h.2⟩, rfl⟩ | exact Calls.mono (kA.out _ _ (by with_reducible rfl) (Up.b _)) fun e w' h => ⟨h.1, ⟨w', h.2⟩, rfl⟩))
          refine wpQuiet_nil ?_
          intro _ hw'
          obtain ⟨u6, rfl⟩ := hw'
          have hb5 : Below w4.heap.size w4 u6.w := u6.b
          generalize u6.w = w5 at *
          clear q0 kM kA e1
          go_wp2
          go_roundw
          case rel => exact ⟨k + 1, (v + T), R2, by omega, by go_num, rfl, rfl, HRI.out, by have := HVV.out; omega, by have := HVV.out; omega, HWD.out, HB34.out.trans (hb5.mono HB34.out.size)⟩
          case measure => simp [intOf]; omega
    · obtain rfl : k = bits.length := by omega
      have hWW : s.com v r = s.weigh bits := by
        rw [← hW, List.drop_length]; rfl
      obtain ⟨bv, ov, rfl, hbv, xv, hxv, y1⟩ := (HUV wr hBr).out.at bits.length hnv
      have hxi : isInt xv := by rw [hxv]; exact HVI.out _ (List.getElem_mem _)
      have hpart : ∀ w', Below wr.heap.size wr w' → ∀ c', IsNums (.slice (some ⟨bv, ov + bits.length, none⟩) 1 c') [xv] w' := fun w' h c' => by
        rw [hxv]; exact (nums_part (HUV wr hBr).out hnv).next h
      obtain ⟨bg, og, rfl, hbg, x, hx, -, u3, hx2, hx3⟩ := IsSl.at hGr bits.length (by rw [HRY.out]; simp)
      have hx : x = ⟨1, [s.pob (s.ov c (s.weigh bits))]⟩ := by
        rw [hx]
        simp only [HRY.out]
        rw [List.getElem_append_right (by simp)]
        simp
      subst hx
      obtain ⟨ac, cc, rfl⟩ : ∃ a c', u3 = .slice a 1 c' := IsSl.len hx3
      have y2 : wr.cell? ⟨bg, og + bits.length * 2 + 1, none⟩ = some (.slice ac 1 cc) := hx2
      have hx3 : IsClaims 0 (.slice ac 1 cc) [s.pob (s.ov c (s.weigh bits))] wr := hx3
      obtain ⟨bcl, ocl, rfl, hcl, y, hy, hy1, u5, hy2, hy3⟩ := IsSl.at hx3 0 (by simp)
      have hy : y = s.pob (s.ov c (s.weigh bits)) := hy
      subst hy
      obtain ⟨ae, ce, rfl⟩ : ∃ a c', u5 = .slice a 1 c' := IsSl.len hy3
      have hy1 : wr.cell? ⟨bcl, ocl, none⟩ = some (.int .i64 1) := hy1
      have hy2 : wr.cell? ⟨bcl, ocl + 1, none⟩ = some (.slice ae 1 ce) := hy2
      have q0 : ∀ u : Up wr, u.w.cell? ⟨w.heap.size, 0, none⟩ = some (.int .i64 s.P) := fun u => (hSr.next u.b).get.1
      have q1 : ∀ u : Up wr, u.w.cell? ⟨w.heap.size, 1, none⟩ = some (.int .i64 s.Q) := fun u => (hSr.next u.b).get.2.1
      have q2 : ∀ u : Up wr, u.w.cell? ⟨w.heap.size, 2, none⟩ = some (.int .i64 s.G) := fun u => (hSr.next u.b).get.2.2.1
      have q3 : ∀ u : Up wr, u.w.cell? ⟨w.heap.size, 3, none⟩ = some vb := fun u => (hSr.next u.b).get.2.2.2.1
      have q4 : ∀ u : Up wr, u.w.cell? ⟨w.heap.size, 4, none⟩ = some (.int .i64 s.H) := fun u => (hSr.next u.b).get.2.2.2.2
      have q5 : ∀ u : Up wr, u.w.cell? ⟨bg, og + bits.length * 2 + 1, none⟩ = some (.slice (some ⟨bcl, ocl, none⟩) 1 cc) := fun u => by rw [u.b.cell (p := ⟨bg, og + bits.length * 2 + 1, none⟩) hbg.2]; exact y2
      have q6 : ∀ u : Up wr, u.w.cell? ⟨bcl, ocl, none⟩ = some (.int .i64 1) := fun u => by rw [u.b.cell (p := ⟨bcl, ocl, none⟩) hcl.2]; exact hy1
      have q7 : ∀ u : Up wr, u.w.cell? ⟨bcl, ocl + 1, none⟩ = some (.slice ae 1 ce) := fun u => by rw [u.b.cell (p := ⟨bcl, ocl + 1, none⟩) hcl.2]; exact hy2
      have q8 : ∀ u : Up wr, u.w.cell? ⟨bv, ov + bits.length, none⟩ = some (.int .i64 xv) := fun u => by rw [u.b.cell (p := ⟨bv, ov + bits.length, none⟩) hbv]; exact y1
      obtain ⟨ok, hok⟩ : ∃ ok, ok = s.HoldsF (s.pob (s.ov c (s.weigh bits))) [xv] := ⟨_, rfl⟩
      have hpi : (s.pob (s.ov c (s.weigh bits))).ints := pob_ints HI.out (gOver_int _ _ _ _)
      have HXI := Lib.hid hxi
      have HPART := Lib.hid hpart
      have HBR := Lib.hid hBr
      have kH : Hid (∀ (args' : Array Value) (w' : World), args' = #[.agg #[.int .i64 s.P, .int .i64 s.Q, .int .i64 s.G, vb, .int .i64 s.H], .agg #[.int .i64 1, .slice ae 1 ce], .slice (some ⟨bv, ov + bits.length, none⟩) 1 (cv - bits.length)] → Below wr.heap.size wr w' → Calls Tryz.prog 9 args' w' fun e w'' => e = .returned (.bool ok) ∧ Below wr.heap.size wr w'') := by
        show ∀ args' w', _
        intro args' w' he h
        subst he
        have hbw' := HBR.out.trans (h.mono HBR.out.size)
        refine (Holds_calls s HI.out vb (s.pob (s.ov c (s.weigh bits))) hpi [xv] (by intro x hx; simp only [List.mem_cons, List.not_mem_nil, or_false] at hx; subst hx; exact HXI.out) (by simp) (.slice ae 1 ce) (.slice (some ⟨bv, ov + bits.length, none⟩) 1 (cv - bits.length)) w' (HEN w' hbw').out.f (HBN w' hbw').out (hy3.hi (Hi.below h)) (HPART.out w' h _)).mono ?_
        rintro e w'' ⟨h1, h2⟩
        rw [← hok] at h1
        exact ⟨h1, h.trans (h2.mono h.size)⟩
      have hp2 : (2 : Int) ^ bits.length ≤ 4096 := by
        have h1 : (2 : Nat) ^ bits.length ≤ 2 ^ 12 := Nat.pow_le_pow_right (by omega) hn12
        have e : (2 : Int) ^ bits.length = ((2 ^ bits.length : Nat) : Int) := by simp
        rw [e]
        omega
      have hvI : isInt v := by unfold isInt; omega
      have hRI := addZ_int s.Q r xv
      obtain ⟨R2, hR2⟩ : ∃ x, x = addZ s.Q r xv := ⟨_, rfl⟩
      have kA := Lib.hid (DoesB.same (w0 := wr) (v := .int .i64 R2) (by rw [hR2]) (fun w' _ => add_calls s.Q r xv hr HXI.out w'))
      have hcc : (c == c) = true := by simp
      have hn1 : (bits.length : Int) + 1 ≤ (cv : Int) := by omega
      have hn0 : (0 : Int) ≤ (bits.length : Int) := Int.natCast_nonneg _
      have hn63 : (bits.length : Int) ≤ 12 := by omega
      have HOK := Lib.hid hok
      cases ok
      · have HSR := Lib.hid hSr
        clear hSr hGr hBr hxv hx2 hx3 hxi hpart hW hWW hy1 hy2 hy3 hcl hok hpi hbg hR2 hRI hr hv2 hp2 kA y1
        go_wp2
        refine wp_region_up (by kernel_rfl) (by kernel_rfl) ?_
        repeat (go_big_quiet_step (exact Calls.mono (kH.out _ _ (by with_reducible rfl) (Up.b _)) fun e w' h => ⟨h.1, ⟨w', h.2⟩, rfl⟩))
        refine wpQuiet_nil ?_
        intro _ hw'
        obtain ⟨u6, rfl⟩ := hw'
        have hb4 : Below wr.heap.size wr u6.w := u6.b
        generalize u6.w = w4 at *
        go_wp2
        go_ret
        exact ⟨rfl, HBR.out.trans (hb4.mono HBR.out.size)⟩
      · have hend : s.com v R2 = c := by
          rw [hR2]
          refine SetD.end_open HCAN.out.2 ?_
          rw [hWW]
          exact HOK.out.symm
        have kC : Hid (∀ (args' : Array Value) (w' : World), args' = #[.agg #[.int .i64 s.P, .int .i64 s.Q, .int .i64 s.G, vb, .int .i64 s.H], .int .i64 v, .int .i64 R2] → Below wr.heap.size wr w' → Calls Tryz.prog 12 args' w' fun e w'' => e = .returned (.int .i64 c) ∧ Below wr.heap.size wr w'') := by
          show ∀ args' w', _
          intro args' w' he h
          subst he
          have hbw' := HBR.out.trans (h.mono HBR.out.size)
          refine (com_calls s HI.out vb v R2 hvI (by rw [hR2]; exact hRI) w' (HEN w' hbw').out.f (HBN w' hbw').out).mono ?_
          rintro e w'' ⟨h1, h2⟩
          rw [if_pos HV.out, hend] at h1
          exact ⟨h1, h.trans (h2.mono h.size)⟩
        have HSR := Lib.hid hSr
        clear hSr hGr hBr hxv hx2 hx3 hxi hpart hW hWW hy1 hy2 hy3 hcl hok hpi hbg hR2 hRI hr hv2 hp2 y1 hend
        go_wp2
        refine wp_region_up (by kernel_rfl) (by kernel_rfl) ?_
        repeat (go_big_quiet_step (first | exact Calls.mono (kH.out _ _ (by with_reducible rfl) (Up.b _)) fun e w' h => ⟨h.1, ⟨w', h.2⟩, rfl⟩ | exact Calls.mono (kA.out _ _ (by with_reducible rfl) (Up.b _)) fun e w' h => ⟨h.1, ⟨w', h.2⟩, rfl⟩ | exact Calls.mono (kC.out _ _ (by with_reducible rfl) (Up.b _)) fun e w' h => ⟨h.1, ⟨w', h.2⟩, rfl⟩))
        refine wpQuiet_nil ?_
        intro _ hw'
        obtain ⟨u6, rfl⟩ := hw'
        have hb4 : Below wr.heap.size wr u6.w := u6.b
        generalize u6.w = w4 at *
        go_wp2
        go_ret
        exact ⟨rfl, HBR.out.trans (hb4.mono HBR.out.size)⟩
end Go.Proofs.YtccgjcpjgoglfaaGreatDoor
