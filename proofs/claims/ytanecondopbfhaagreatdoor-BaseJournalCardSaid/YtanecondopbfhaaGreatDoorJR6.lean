/- The reference's disk in this seat: Rcall2, Rdo. -/
import Derived.Test.YtanecondopbfhaaGreatDoorJR5
namespace Go.Proofs.YtanecondopbfhaaGreatDoor

section
open Go.RowKit

variable {w w' : World} {b : Nat} {L : RL} {r r' : Rk} {S : Nat → Prop} {d : Dk}

theorem may_ok {f : Int} (h : r.may f = 0) : 0 ≤ f ∧ f < 16 ∧ r.down = false := by
  unfold Rk.may at h
  split at h
  · omega
  · split at h
    · rename_i h1 h2; exact ⟨h2.1, h2.2, by simpa using h1⟩
    · omega

set_option maxHeartbeats 2000000 in
set_option maxRecDepth 100000 in
theorem rwrite_calls (h : IsR w b L r) (hr : Rep r d) (hkl : r.keep.length ≤ 1099511627776) (f a : Int) (s : List UInt8) (hs : s.length ≤ 1099511627776) :
    Calls Tryz.prog 54 #[.pointer (some ⟨b, 0, none⟩), .int .i64 f, .int .i64 a, .string (bs s)] w fun e w' => e = .returned (.int .i64 (r.write f a s).2) ∧ PostR (RFoot b L) w b L (r.write f a s).1 w' := by
  have cc := Lib.hid (rcomes_calls h hr hkl f a s hs)
  obtain ⟨d1, hd1⟩ := hr.comes f a s
  unfold Rk.write
  obtain ⟨r1, hr1⟩ : ∃ r1, r1 = r.comes f a s := ⟨_, rfl⟩
  rw [← hr1] at cc hd1 ⊢
  have HD := Lib.hid hd1
  clear h hr hkl hr1 hd1
  obtain ⟨Rr, hRr⟩ : ∃ Rr, Rr = r1.put f a s := ⟨_, rfl⟩
  rw [← hRr]
  have HRR := Lib.hid hRr
  clear hRr
  go_enter Tryz.func54, Tryz.ntmps54
  go_wp2_with fail
  refine Calls.mono cc.out ?_
  rintro e w1 ⟨rfl, L1, hi1, hk1, ho1⟩
  have cm := Lib.hid (rmay_calls hi1 f)
  have HI1 := Lib.hid hi1
  have HK1 := Lib.hid hk1
  have HO1 := Lib.hid ho1
  obtain ⟨m, hm⟩ : ∃ m, m = r1.may f := ⟨_, rfl⟩
  rw [← hm] at cm
  have HM := Lib.hid hm
  clear hi1 hk1 ho1 cc hm
  go_wp2_with fail
  refine Calls.mono cm.out ?_
  rintro e w2 ⟨rfl, rfl⟩
  by_cases h0 : m = 0
  · subst h0
    obtain ⟨hf0, hf1, -⟩ := may_ok HM.out.symm
    by_cases ha : a < 0
    · have d1 : decide (a < 0) = true := decide_eq_true ha
      have hbr : Rr = (r1, 1) := by rw [HRR.out]; unfold Rk.put; rw [← HM.out, if_neg (by simp), if_pos ha]
      have HBR := Lib.hid hbr
      clear hbr
      clear cm
      go_wp2_with fail
      go_ret
      rw [HBR.out]
      exact ⟨rfl, L1, HI1.out, HK1.out, HO1.out⟩
    · have d1 : decide (a < 0) = false := decide_eq_false ha
      have cf := Lib.hid (rfits_calls a s hs w1)
      obtain ⟨fb, hfb⟩ : ∃ fb, fb = fitsB a s := ⟨_, rfl⟩
      rw [← hfb] at cf
      have HFB := Lib.hid hfb.symm
      cases fb with
      | false =>
        have hbr : Rr = (r1, 6) := by rw [HRR.out]; unfold Rk.put; rw [← HM.out, if_neg (by simp), if_neg ha, HFB.out, if_pos rfl]
        have HBR := Lib.hid hbr
        clear hbr
        clear cm hfb
        go_wp2_with fail
        refine Calls.mono cf.out ?_
        rintro e w2 ⟨rfl, rfl⟩
        go_wp2_with fail
        go_ret
        rw [HBR.out]
        exact ⟨rfl, L1, HI1.out, HK1.out, HO1.out⟩
      | true =>
        have hfb2 := hfb.symm
        unfold fitsB at hfb2
        rw [decide_eq_true_iff] at hfb2
        have hbr : Rr = (r1.add f.toNat a.toNat s, 0) := by rw [HRR.out]; unfold Rk.put; rw [← HM.out, if_neg (by simp), if_neg ha, HFB.out, if_neg (by simp)]
        have HBR := Lib.hid hbr
        clear hbr
        have hnl : (getF r1.fs (f.toNat : Int)).now.length ≤ 16777216 := HD.out.now_len (by omega)
        have ca := Lib.hid (radd_calls HI1.out (by have := HD.out.nums.len; omega) HD.out.q_len f.toNat a.toNat s hnl (by omega) (by omega))
        have e1 : ((f.toNat : Nat) : Int) = f := by omega
        have e2 : ((a.toNat : Nat) : Int) = a := by omega
        rw [e1, e2] at ca
        clear cm hfb hfb2 hnl e1 e2
        go_wp2_with fail
        refine Calls.mono cf.out ?_
        rintro e w2 ⟨rfl, rfl⟩
        go_wp2_with fail
        refine Calls.mono ca.out ?_
        rintro e w3 ⟨rfl, hp3⟩
        have HP3 := Lib.hid hp3
        clear hp3 ca cf
        go_wp2_with fail
        go_ret
        rw [HBR.out]
        exact ⟨rfl, PostR.andThen HK1.out HO1.out HP3.out HO1.out⟩
  · have d1 : (m == 0) = false := by simpa using h0
    have d2 : (m != 0) = true := by simpa using h0
    have hbr : Rr = (r1, m) := by rw [HRR.out]; unfold Rk.put; rw [← HM.out, if_pos h0]
    have HBR := Lib.hid hbr
    clear hbr
    clear cm h0
    go_wp2_with fail
    go_ret
    rw [HBR.out]
    exact ⟨rfl, L1, HI1.out, HK1.out, HO1.out⟩

set_option maxHeartbeats 2000000 in
set_option maxRecDepth 100000 in
theorem rsync_calls (h : IsR w b L r) (hr : Rep r d) (hkl : r.keep.length ≤ 1099511627776) (f : Int) :
    Calls Tryz.prog 48 #[.pointer (some ⟨b, 0, none⟩), .int .i64 f] w fun e w' => e = .returned (.int .i64 (r.sync f).2) ∧ PostR (RFoot b L) w b L (r.sync f).1 w' := by
  have cc := Lib.hid (rcomes_calls h hr hkl 0 0 [] (by simp))
  obtain ⟨d1, hd1⟩ := hr.comes 0 0 []
  unfold Rk.sync
  obtain ⟨r1, hr1⟩ : ∃ r1, r1 = r.comes 0 0 [] := ⟨_, rfl⟩
  rw [← hr1] at cc hd1 ⊢
  have HD := Lib.hid hd1
  clear h hr hkl hr1 hd1
  obtain ⟨Rr, hRr⟩ : ∃ Rr, Rr = r1.syn f := ⟨_, rfl⟩
  rw [← hRr]
  have HRR := Lib.hid hRr
  clear hRr
  go_enter Tryz.func48, Tryz.ntmps48
  go_wp2_with fail
  refine Calls.mono cc.out ?_
  rintro e w1 ⟨rfl, L1, hi1, hk1, ho1⟩
  have cm := Lib.hid (rmay_calls hi1 f)
  have HI1 := Lib.hid hi1
  have HK1 := Lib.hid hk1
  have HO1 := Lib.hid ho1
  obtain ⟨m, hm⟩ : ∃ m, m = r1.may f := ⟨_, rfl⟩
  rw [← hm] at cm
  have HM := Lib.hid hm
  have a2 : w1.cell? ⟨b, 2, none⟩ = some (.int .i64 r1.lost) := hi1.cells.cell 2 (by omega)
  have f2 := hi1.cells.frozen 2
  have hlb := hi1.lb
  clear hi1 hk1 ho1 cc hm
  go_wp2_with fail
  refine Calls.mono cm.out ?_
  rintro e w2 ⟨rfl, rfl⟩
  by_cases h0 : m = 0
  · subst h0
    obtain ⟨hf0, hf1, -⟩ := may_ok HM.out.symm
    by_cases hl : 0 < r1.lost
    · obtain ⟨l, hl1⟩ : ∃ l, l = r1.lost - 1 := ⟨_, rfl⟩
      have hbr : Rr = ({ r1 with lost := l }, 9) := by rw [HRR.out]; unfold Rk.syn; rw [← HM.out, if_neg (by simp), if_pos hl, ← hl1]
      have HBR := Lib.hid hbr
      clear hbr
      have d1 : decide (0 < r1.lost) = true := decide_eq_true hl
      have e1 : (r1.lost : Int) - 1 = (l : Int) := by omega
      have d4 : (1 : Int) ≤ (r1.lost : Int) := by omega
      have hl2 : l ≤ 9223372036854775807 := by omega
      have HL1 := Lib.hid hl1
      clear cm hl1
      go_wp2_with fail
      go_ret
      rw [HBR.out]
      have hp := HI1.out.plain (r' := { r1 with lost := l }) rfl rfl rfl hl2 HI1.out.cb 2 (.int .i64 (l : Int)) (fun j _ => by
        by_cases e : j = 2
        · subst e; rfl
        · simp [upd, e, rcell])
      exact ⟨rfl, PostR.andThen HK1.out HO1.out hp (fun i e => Or.inl (Or.inl e))⟩
    · have d1 : decide (0 < r1.lost) = false := decide_eq_false hl
      have cg := Lib.hid (rget_calls HI1.out (by have := HD.out.nums.len; omega) f)
      obtain ⟨G, hG⟩ : ∃ G, G = getF r1.fs f := ⟨_, rfl⟩
      rw [← hG] at cg
      have hbr : Rr = (r1.settle f.toNat G.now, 0) := by rw [HRR.out]; unfold Rk.syn; rw [← HM.out, if_neg (by simp), if_neg hl, ← hG]
      have HBR := Lib.hid hbr
      clear hbr
      have hfd := fun W => field_now (.int .i64 G.n) (.string (bs G.now)) (.string (bs G.last)) W
      have cs : ∀ (W : World), Below w1.heap.size w1 W → Calls Tryz.prog 84 #[.pointer (some ⟨b, 0, none⟩), .int .i64 f, .string (bs G.now)] W fun e w' => e = .returned (.tuple #[]) ∧ PostR (fun i => i = b) W b L1 (r1.settle f.toNat G.now) w' := by
        intro W hb
        have hi := HI1.out.kept (Below.kept hb) (fun i hi => Nat.not_le.2 (HI1.out.foot_lt i hi))
        have := rsettle_calls hi (by have := HD.out.nums.len; omega) (by have := HD.out.q_len; omega) f.toNat G.now
        rwa [show ((f.toNat : Nat) : Int) = f by omega] at this
      have CS := Lib.hid cs
      clear cm hG hl cs
      go_wp2_with fail
      refine Calls.mono cg.out ?_
      rintro e w3 ⟨rfl, hb3⟩
      have cs3 := Lib.hid (CS.out w3 hb3)
      have HB3 := Lib.hid hb3
      clear hb3 CS
      go_wp2_with fail
      refine Calls.mono cs3.out ?_
      rintro e w4 ⟨rfl, hp4⟩
      have HP4 := Lib.hid hp4
      clear hp4 cs3
      go_wp2_with fail
      go_ret
      rw [HBR.out]
      refine ⟨rfl, PostR.andThen HK1.out HO1.out (PostR.andThen (T := fun i => i = b) ((Below.kept HB3.out).mono (fun _ hi => Or.inr hi)) (fun _ hi => Or.inl hi) HP4.out (fun _ hi => Or.inl hi)) (fun i e => Or.inl (Or.inl e))⟩
  · have d1 : (m == 0) = false := by simpa using h0
    have d2 : (m != 0) = true := by simpa using h0
    have hbr : Rr = (r1, m) := by rw [HRR.out]; unfold Rk.syn; rw [← HM.out, if_pos h0]
    have HBR := Lib.hid hbr
    clear hbr
    clear cm h0
    go_wp2_with fail
    go_ret
    rw [HBR.out]
    exact ⟨rfl, L1, HI1.out, HK1.out, HO1.out⟩

set_option maxHeartbeats 2000000 in
set_option maxRecDepth 100000 in
theorem rtrunc_calls (h : IsR w b L r) (hr : Rep r d) (hkl : r.keep.length ≤ 1099511627776) (f n : Int) :
    Calls Tryz.prog 51 #[.pointer (some ⟨b, 0, none⟩), .int .i64 f, .int .i64 n] w fun e w' => e = .returned (.int .i64 (r.truncate f n).2) ∧ PostR (RFoot b L) w b L (r.truncate f n).1 w' := by
  have cc := Lib.hid (rcomes_calls h hr hkl 0 0 [] (by simp))
  obtain ⟨d1, hd1⟩ := hr.comes 0 0 []
  unfold Rk.truncate
  obtain ⟨r1, hr1⟩ : ∃ r1, r1 = r.comes 0 0 [] := ⟨_, rfl⟩
  rw [← hr1] at cc hd1 ⊢
  have HD := Lib.hid hd1
  clear h hr hkl hr1 hd1
  obtain ⟨Rr, hRr⟩ : ∃ Rr, Rr = r1.tru f n := ⟨_, rfl⟩
  rw [← hRr]
  have HRR := Lib.hid hRr
  clear hRr
  go_enter Tryz.func51, Tryz.ntmps51
  go_wp2_with fail
  refine Calls.mono cc.out ?_
  rintro e w1 ⟨rfl, L1, hi1, hk1, ho1⟩
  have cm := Lib.hid (rmay_calls hi1 f)
  have HI1 := Lib.hid hi1
  have HK1 := Lib.hid hk1
  have HO1 := Lib.hid ho1
  obtain ⟨m, hm⟩ : ∃ m, m = r1.may f := ⟨_, rfl⟩
  rw [← hm] at cm
  have HM := Lib.hid hm
  clear hi1 hk1 ho1 cc hm
  go_wp2_with fail
  refine Calls.mono cm.out ?_
  rintro e w2 ⟨rfl, rfl⟩
  by_cases h0 : m = 0
  · subst h0
    obtain ⟨hf0, hf1, -⟩ := may_ok HM.out.symm
    have cg := Lib.hid (rget_calls HI1.out (by have := HD.out.nums.len; omega) f)
    have hnl : (getF r1.fs (f.toNat : Int)).now.length ≤ 16777216 := HD.out.now_len (by omega)
    rw [show ((f.toNat : Nat) : Int) = f by omega] at hnl
    obtain ⟨G, hG⟩ : ∃ G, G = getF r1.fs f := ⟨_, rfl⟩
    rw [← hG] at cg hnl
    have HG := Lib.hid hG
    have hfd := fun W => field_now (.int .i64 G.n) (.string (bs G.now)) (.string (bs G.last)) W
    have hgl := bs_size G.now
    have cs : ∀ (s : List UInt8) (W : World), Below w1.heap.size w1 W → Calls Tryz.prog 84 #[.pointer (some ⟨b, 0, none⟩), .int .i64 f, .string (bs s)] W fun e w' => e = .returned (.tuple #[]) ∧ PostR (fun i => i = b) W b L1 (r1.settle f.toNat s) w' := by
      intro s W hb
      have hi := HI1.out.kept (Below.kept hb) (fun i hi => Nat.not_le.2 (HI1.out.foot_lt i hi))
      have := rsettle_calls hi (by have := HD.out.nums.len; omega) (by have := HD.out.q_len; omega) f.toNat s
      rwa [show ((f.toNat : Nat) : Int) = f by omega] at this
    have CS := Lib.hid cs
    clear cm hG cs
    go_wp2_with fail
    refine Calls.mono cg.out ?_
    rintro e w3 ⟨rfl, hb3⟩
    have HB3 := Lib.hid hb3
    have hend : IsR w3 b L1 r1 := HI1.out.kept (Below.kept hb3) (fun i hi => Nat.not_le.2 (HI1.out.foot_lt i hi))
    have HEND := Lib.hid hend
    have hkb : Kept (fun i => i = b) w1 w3 := (Below.kept hb3).mono (fun _ hi => Or.inr hi)
    have HKB := Lib.hid hkb
    clear hend cg hkb
    by_cases hn0 : n < 0
    · have d1 : decide (n < 0) = true := decide_eq_true hn0
      have hbr : Rr = (r1, 1) := by rw [HRR.out]; unfold Rk.tru; rw [← HM.out, if_neg (by simp), if_pos (Or.inl hn0)]
      have HBR := Lib.hid hbr
      clear hbr
      clear hb3
      go_wp2_with fail
      go_ret
      rw [HBR.out]
      exact ⟨rfl, PostR.andThen HK1.out HO1.out (PostR.andThen (T := fun i => i = b) HKB.out (fun _ hi => Or.inl hi) (PostR.refl (T := fun i => i = b) HEND.out) (fun _ hi => Or.inl hi)) (fun i e => Or.inl (Or.inl e))⟩
    · have d1 : decide (n < 0) = false := decide_eq_false hn0
      by_cases hn1 : (G.now.length : Int) < n
      · have d2 : decide ((G.now.length : Int) < n) = true := decide_eq_true hn1
        have hbr : Rr = (r1, 1) := by rw [HRR.out]; unfold Rk.tru; rw [← HM.out, if_neg (by simp), ← HG.out, if_pos (Or.inr hn1)]
        have HBR := Lib.hid hbr
        clear hbr
        clear hb3
        go_wp2_with fail
        go_ret
        rw [HBR.out]
        exact ⟨rfl, PostR.andThen HK1.out HO1.out (PostR.andThen (T := fun i => i = b) HKB.out (fun _ hi => Or.inl hi) (PostR.refl (T := fun i => i = b) HEND.out) (fun _ hi => Or.inl hi)) (fun i e => Or.inl (Or.inl e))⟩
      · have d2 : decide ((G.now.length : Int) < n) = false := decide_eq_false hn1
        have hbr : Rr = (r1.settle f.toNat (G.now.take n.toNat), 0) := by rw [HRR.out]; unfold Rk.tru; rw [← HM.out, if_neg (by simp), ← HG.out, if_neg (fun hh => by omega)]
        obtain ⟨t, ht⟩ : ∃ t : Nat, n = (t : Int) := ⟨n.toNat, by omega⟩
        subst ht
        rw [Int.toNat_natCast] at hbr
        have hext := bs_cut G.now 0 t
        rw [List.drop_zero, Nat.sub_zero] at hext
        have cs3 := Lib.hid (CS.out (G.now.take t) w3 hb3)
        obtain ⟨Z, hZ⟩ : ∃ Z, Z = G.now.take t := ⟨_, rfl⟩
        rw [← hZ] at cs3 hext hbr
        have HBR := Lib.hid hbr
        clear hbr
        have htl : t ≤ G.now.length := by omega
        clear hb3 CS hZ
        go_wp2_with fail
        refine Calls.mono cs3.out ?_
        rintro e w4 ⟨rfl, hp4⟩
        have HP4 := Lib.hid hp4
        clear hp4 cs3
        go_wp2_with fail
        go_ret
        rw [HBR.out]
        refine ⟨rfl, PostR.andThen HK1.out HO1.out (PostR.andThen (T := fun i => i = b) HKB.out (fun _ hi => Or.inl hi) HP4.out (fun _ hi => Or.inl hi)) (fun i e => Or.inl (Or.inl e))⟩
  · have d1 : (m == 0) = false := by simpa using h0
    have d2 : (m != 0) = true := by simpa using h0
    have hbr : Rr = (r1, m) := by rw [HRR.out]; unfold Rk.tru; rw [← HM.out, if_pos h0]
    have HBR := Lib.hid hbr
    clear hbr
    clear cm h0
    go_wp2_with fail
    go_ret
    rw [HBR.out]
    exact ⟨rfl, L1, HI1.out, HK1.out, HO1.out⟩
end

section
open Go.RowKit

variable {w w' : World} {b : Nat} {L : RL} {r r' : Rk} {S : Nat → Prop} {d : Dk}

theorem info_int : (Tryz.prog.info? 3).map (fun i => (i.zero, i.size, i.bytes)) = some (some (.int .i64 0), 1, 8) := by kernel_rfl

theorem nil_append {base n : Nat} {v : Value} {xs : List Value} (ty : TypeId) (c : Nat) (hown : w.ownsRow base 3 1 v n xs) :
    (Builtin.append_ #[36, 36] ty #[v, .slice none 0 c]).run Tryz.prog w = .ok v w := by
  obtain ⟨i0, hi, hz0, hz1, hz2⟩ := info_parts info_int
  rcases hown.2 with ⟨rfl, rfl⟩ | ⟨g, cap, cur, rfl, _, _, hnc, _⟩
  · simp [Builtin.append_, run_underlying Tryz.underlying36, sizeOf, typeInfo, hi, Builtin.lenOf, Builtin.firstCells]
  · simp [Builtin.append_, run_underlying Tryz.underlying36, sizeOf, typeInfo, hi, Builtin.lenOf, Builtin.firstCells, hnc, storeCells]

theorem wpList_append_nothing {ops : Array Oper} {rest : List Oper} {o : Oper} {a : Act} {Q : Exit → Act → World → Prop} (hgd : o.guard = none) (s x : Operand)
    (ho : o.op = .call { callee := .builtin .append, args := #[s, x], argTypes := #[36, 36] }) {base n : Nat} {v : Value} {xs : List Value} (hs : a.eval s = v) (hown : w.ownsRow base 3 1 v n xs)
    (c : Nat) (hx : a.eval x = .slice none 0 c) (hn : wpList Tryz.prog ops Q rest (a.put o.dst v) w) : wpList Tryz.prog ops Q (o :: rest) a w :=
  wpList_plain hgd fun _ hK => by
    have hr := nil_append o.type c hown
    unfold Oper.wp execOp
    simp only [ho, resolve, invoke, builtin, Sem.run_bind, Sem.run_pure, Result.andThen_ok, List.map_toArray, List.map_cons, List.map_nil, hs, hx, hr]
    exact hK _ _ hn

set_option maxHeartbeats 2000000 in
set_option maxRecDepth 100000 in
theorem rarm_calls (h : IsR w b L r) (n : Int) (v : Value) (xs : List Int) (hv : KeepAt w v xs) (hvb : ∀ i, inBlock v i → i ≠ b) (hn : n ≤ 9223372036854775807) (hlen : xs.length ≤ 1099511627776) :
    Calls Tryz.prog 22 #[.pointer (some ⟨b, 0, none⟩), .int .i64 n, v] w fun e w' => e = .returned (.tuple #[]) ∧ PostR (fun i => i = b) w b L { r with armed := n.toNat, keep := xs } w' := by
  obtain ⟨i0, hi, hz0, hz1, hz2⟩ := info_parts info_int
  have a4 : w.cell? ⟨b, 4, none⟩ = some (.int .i64 r.armed) := h.cells.cell 4 (by omega)
  have f4 := h.cells.frozen 4
  obtain ⟨m, hm0⟩ : ∃ m, m = n.toNat := ⟨_, rfl⟩
  have hm : max n 0 = (m : Int) := by omega
  have hm9 : m ≤ 9223372036854775807 := by omega
  rw [← hm0]
  clear hm0 hn
  have hk1 : Kept (fun i => i = b) w (w.setCell ⟨b, 4, none⟩ (.int .i64 (m : Int))) := (Kept.refl (fun i => i = b) w).setCell (p := ⟨b, 4, none⟩) (Or.inl rfl) _
  have hI1 : IsR (w.setCell ⟨b, 4, none⟩ (.int .i64 (m : Int))) b L { r with armed := m } := h.cell rfl rfl rfl h.lb hm9 ((h.cells.set 4 (.int .i64 (m : Int))).eq (fun j _ => by
    by_cases e : j = 4
    · subst e; rfl
    · simp [upd, e, rcell])) hk1
  have hv1 : KeepAt (w.setCell ⟨b, 4, none⟩ (.int .i64 (m : Int))) v xs := hv.kept hk1 (fun i hi e => hvb i hi e)
  obtain ⟨W, hW⟩ : ∃ W, W = w.setCell ⟨b, 4, none⟩ (.int .i64 (m : Int)) := ⟨_, rfl⟩
  rw [← hW] at hk1 hI1 hv1
  have ho0 : (W.alloc (.cells #[] 3)).ownsRow (W.heap.size) 3 1 (.slice (some ⟨W.heap.size, 0, none⟩) 0 0) 0 [] := World.ownsRow_lit W #[] 0 (Nat.le_refl _) (by simp [maxLen]) rfl
  have hIA : IsR (W.alloc (.cells #[] 3)) b L { r with armed := m } := hI1.kept ((Kept.refl (fun _ => False) W).alloc _) (fun _ _ e => e)
  have hkA : Kept (fun i => i = b) w (W.alloc (.cells #[] 3)) := hk1.alloc _
  have hvA : KeepAt (W.alloc (.cells #[] 3)) v xs := hv1.kept ((Kept.refl (fun _ => False) W).alloc _) (fun _ _ e => e)
  obtain ⟨V, hV⟩ : ∃ V, V = W.alloc (.cells #[] 3) := ⟨_, rfl⟩
  obtain ⟨g, hg⟩ : ∃ g, g = W.heap.size := ⟨_, rfl⟩
  have hgV : g < V.heap.size := by rw [hV, hg]; simp
  have hgw : w.heap.size ≤ g := by rw [hg]; exact hk1.size
  rw [← hV, ← hg] at ho0
  rw [← hV] at hIA hkA hvA
  have HI := Lib.hid hIA
  have HK := Lib.hid hkA
  have HO := Lib.hid ho0
  have c5 := hIA.cells.cell 5 (by omega)
  have f5 := hIA.cells.frozen 5
  -- what is left when the new slice is stored
  have hfin : ∀ (U : World) (a5 : Option Addr) (n5 c5 : Nat), Kept (fun i => i = g) V U → U.ownsRow g 3 1 (.slice a5 n5 c5) xs.length (xs.map (Value.int .i64)) →
      PostR (fun i => i = b) w b L { r with armed := m, keep := xs } (U.setCell ⟨b, 5, none⟩ (.slice a5 n5 c5)) := by
    intro U a5 n5 c5 hku hou
    obtain ⟨v', hv'⟩ : ∃ v', v' = Value.slice a5 n5 c5 := ⟨_, rfl⟩
    rw [← hv'] at hou ⊢
    have hib : ∀ i, RFoot b L i → i ≠ g := fun i hi e => by have := h.foot_lt i hi; omega
    have hiU : IsR U b L { r with armed := m } := HI.out.kept hku hib
    have hks := (Kept.refl (fun i => i = b) U).setCell (p := ⟨b, 5, none⟩) (Or.inl rfl) v'
    refine ⟨{ L with kv := v' }, ⟨?_, ?_, ?_, ?_, h.lb, hm9⟩, (HK.out.andThen hku (fun i hi => Or.inr (by omega))).trans hks, ?_⟩
    · refine (hiU.cells.set 5 v').eq ?_
      intro i hi
      by_cases e : i = 5
      · subst e; rfl
      · have : i < 5 := by omega
        match i, this with
        | 0, _ => rfl
        | 1, _ => rfl
        | 2, _ => rfl
        | 3, _ => rfl
        | 4, _ => rfl
    · exact owns_kept hiU.fs hks (fun i hi e => owns_ne_cells hiU.fs hiU.cells File_ne_Disk (e ▸ hi))
    · exact owns_kept hiU.qs hks (fun i hi e => owns_ne_cells hiU.qs hiU.cells Sector_ne_Disk (e ▸ hi))
    · exact owns_kept (owns_zero hou) hks (fun i hi e => owns_ne_cells hou hiU.cells int_ne_Disk (e ▸ hi))
    · rintro i (e | e | e | e)
      · exact Or.inl (Or.inl e)
      · exact Or.inl (Or.inr (Or.inl e))
      · exact Or.inl (Or.inr (Or.inr (Or.inl e)))
      · have := (hou.lt i e).1
        exact Or.inr (by omega)
  have hgz : g = w.heap.size := by rw [hg, hW]; simp [World.setCell]
  subst hgz
  have hVl : V = (w.setCell ⟨b, 4, none⟩ (.int .i64 (m : Int))).alloc (.cells #[] 3) := by rw [hV, hW]
  have hbw := h.lt
  have hcb : ∃ u, V.cell? ⟨b, 5, none⟩ = some u := ⟨_, c5⟩
  have hOL : ((w.setCell ⟨b, 4, none⟩ (.int .i64 (m : Int))).alloc (.cells #[] 3)).ownsRow w.heap.size 3 1 (.slice (some ⟨w.heap.size, 0, none⟩) 0 0) 0 [] := by rw [← hVl]; exact HO.out
  have HOL := Lib.hid hOL
  have HVL := Lib.hid hVl
  by_cases hnil : ∃ c, v = .slice none 0 c ∧ xs = []
  · obtain ⟨c, rfl, rfl⟩ := hnil
    have hp := hfin V (some ⟨w.heap.size, 0, none⟩) 0 0 (Kept.refl _ _) HO.out
    have HP := Lib.hid hp
    clear h hv hvb hW hk1 hI1 hv1 hV hg hgV hgw hVl hkA hIA ho0 hfin hp HI HK hOL hcb hvA hbw
    go_enter Tryz.func22, Tryz.ntmps22
    go_wp2_with (at_builtin; refine wpList_append_nothing rfl _ _ rfl rfl HOL.out c rfl ?_; rw [← HVL.out])
    go_end0
    exact ⟨rfl, HP.out⟩
  · obtain ⟨ad, c, rfl, hcells⟩ : ∃ ad c, v = .slice (some ad) xs.length c ∧ ∀ j u, (xs.map (Value.int .i64))[j]? = some u → V.cell? (ad.add j) = some u := by
      rcases hvA with ⟨⟨a, c, rfl⟩, rfl⟩ | ⟨gv, off, c, rfl, hgv, hcx⟩
      · cases a with
        | none => exact absurd ⟨c, rfl, rfl⟩ hnil
        | some ad => exact ⟨ad, c, rfl, by simp⟩
      · refine ⟨⟨gv, off, none⟩, c, rfl, fun j u hu => ?_⟩
        rw [List.getElem?_map] at hu
        obtain ⟨x, hx, rfl⟩ := Option.map_eq_some_iff.1 hu
        rw [show (⟨gv, off, none⟩ : Addr).add j = ⟨gv, off + j, none⟩ from Go.WideShapes.add_plain ..]
        exact hcx j x hx
    have hcl2 : ∀ j u, (xs.map (Value.int .i64))[j]? = some u → ((w.setCell ⟨b, 4, none⟩ (.int .i64 (m : Int))).alloc (.cells #[] 3)).cell? (ad.add j) = some u := by rw [← hVl]; exact hcells
    have HCL := Lib.hid hcl2
    have HF : Hid (∀ (U : World) (a5 : Option Addr) (n5 c5 : Nat), Kept (fun i => i = w.heap.size) V U → U.ownsRow w.heap.size 3 1 (.slice a5 n5 c5) xs.length (xs.map (Value.int .i64)) →
      PostR (fun i => i = b) w b L { r with armed := m, keep := xs } (U.setCell ⟨b, 5, none⟩ (.slice a5 n5 c5))) := hfin
    have hone : ∀ u ∈ xs.map (Value.int .i64), u.oneCell' = true := by
      intro u hu
      obtain ⟨x, _, rfl⟩ := List.mem_map.1 hu
      rfl
    have HONE := Lib.hid hone
    have hbb : b < w.heap.size := hbw
    have hVz : w.heap.size < V.heap.size := hgV
    have hCells : isCells V b 81 6 (rcell L { r with armed := m }) := hIA.cells
    have HCELLS := Lib.hid hCells
    clear h hv hvb hW hk1 hI1 hv1 hV hg hgV hgw hVl hkA hIA ho0 hfin HI HK hOL hcb hvA hbw hcells hcl2 hone hCells hnil c5 f5
    go_enter Tryz.func22, Tryz.ntmps22
    go_wp2_with (at_builtin; refine wpList_append_own _ rfl _ _ 36 rfl w.heap.size 3 i0 (.int .i64 0) 1 8 Tryz.underlying36 hi hz0 hz1 hz2 rfl (by decide) _ _ _ rfl HOL.out ad xs.length c (xs.map (Value.int .i64)) rfl (by simp) HCL.out HONE.out ?c3 ?c4 ?c5 ?_)
    case c3 => unfold maxLen; omega
    case c4 => omega
    case c5 => simp [World.setCell]
    intro v' w2 hown2 hgrow hne
    rw [← HVL.out] at hgrow
    obtain ⟨a2, n2, cc2, rfl⟩ : ∃ a2 n2 cc2, v' = .slice a2 n2 cc2 := by
      obtain ⟨_, ⟨h1, _⟩ | ⟨g2, cap2, cur, h1, _⟩⟩ := hown2
      · exact ⟨_, _, _, h1⟩
      · exact ⟨_, _, _, h1⟩
    have hkU : Kept (fun i => i = w.heap.size) V w2 := (Kept.refl _ V).grown hgrow (fun i hi => Or.inl (by simpa [Value.ownBlock] using hi.symm))
    have hcU := HCELLS.out.kept hkU (by omega)
    have c5 := hcU.cell 5 (by omega)
    have f5 := hcU.frozen 5
    have HP := Lib.hid (HF.out w2 a2 n2 cc2 hkU hown2)
    clear hown2 hgrow hne hkU hcU HF
    go_wp2_with fail
    go_end0
    exact ⟨rfl, HP.out⟩

/-! ### Read -/

theorem img_read (m : Img) (f a n : Nat) (h : a + n ≤ m.sz f) : m.read f a n = ((m.text f).drop a).take n := by
  refine List.ext_getElem ?_ fun i h1 h2 => ?_
  · rw [Img.read_length, List.length_take, List.length_drop, Img.text_length]; omega
  · rw [List.getElem_take, List.getElem_drop]
    simp [Img.read, Img.text]

def Rk.read (r : Rk) (f a n : Int) : List UInt8 × Int :=
  if r.may f ≠ 0 then ([], r.may f) else
  if a < 0 ∨ n < 0 then ([], 1) else
  if a ≥ (getF r.fs f).now.length then ([], 0) else ((((getF r.fs f).now.drop a.toNat).take (min n.toNat ((getF r.fs f).now.length - a.toNat))), 0)

theorem Rep.read (h : Rep r d) (f a n : Int) : r.read f a n = d.read f a n := by
  unfold Rk.read Dk.read
  rw [h.may]
  by_cases hc : d.chk f = 0
  · obtain ⟨h1, h2, h3⟩ := Dk.chk_ok hc
    have hn := h.now f.toNat (by omega)
    rw [show ((f.toNat : Nat) : Int) = f by omega] at hn
    have e0 : ¬ d.chk f ≠ 0 := fun e => e hc
    rw [hn, Img.text_length, if_neg e0, if_neg e0]
    by_cases h4 : a < 0 ∨ n < 0
    · rw [if_pos h4, if_pos h4]
    · rw [if_neg h4, if_neg h4]
      by_cases h5 : a ≥ (d.F.sz f.toNat : Int)
      · rw [if_pos h5, if_pos h5]
      · rw [if_neg h5, if_neg h5, img_read _ _ _ _ (by omega)]
  · rw [if_pos hc, if_pos hc]

set_option maxHeartbeats 2000000 in
set_option maxRecDepth 100000 in
theorem rread_calls (h : IsR w b L r) (hr : Rep r d) (f a n : Int) (ha : -9223372036854775808 ≤ a) (ha2 : a ≤ 9223372036854775807) :
    Calls Tryz.prog 31 #[.pointer (some ⟨b, 0, none⟩), .int .i64 f, .int .i64 a, .int .i64 n] w fun e w' => e = .returned (.tuple #[.string (bs (r.read f a n).1), .int .i64 (r.read f a n).2]) ∧ Below w.heap.size w w' := by
  have cm := Lib.hid (rmay_calls h f)
  obtain ⟨m, hm⟩ : ∃ m, m = r.may f := ⟨_, rfl⟩
  rw [← hm] at cm
  obtain ⟨Rr, hRr⟩ : ∃ Rr, Rr = r.read f a n := ⟨_, rfl⟩
  rw [← hRr]
  unfold Rk.read at hRr
  rw [← hm] at hRr
  by_cases h0 : m = 0
  · subst h0
    obtain ⟨hf0, hf1, -⟩ := may_ok hm.symm
    rw [if_neg (by simp)] at hRr
    by_cases h1 : a < 0
    · have d1 : decide (a < 0) = true := decide_eq_true h1
      rw [if_pos (Or.inl h1)] at hRr
      subst hRr
      clear h hr hm
      go_enter Tryz.func31, Tryz.ntmps31
      go_wp2_with (refine Calls.mono cm.out ?_; rintro e w2 ⟨rfl, rfl⟩)
      go_ret2
      exact ⟨rfl, Below.refl _ _⟩
    · have d1 : decide (a < 0) = false := decide_eq_false h1
      by_cases h2 : n < 0
      · have d2 : decide (n < 0) = true := decide_eq_true h2
        rw [if_pos (Or.inr h2)] at hRr
        subst hRr
        clear h hr hm
        go_enter Tryz.func31, Tryz.ntmps31
        go_wp2_with (refine Calls.mono cm.out ?_; rintro e w2 ⟨rfl, rfl⟩)
        go_ret2
        exact ⟨rfl, Below.refl _ _⟩
      · have d2 : decide (n < 0) = false := decide_eq_false h2
        rw [if_neg (fun hh => by omega)] at hRr
        have cg := Lib.hid (rget_calls h (by have := hr.nums.len; omega) f)
        have hnl : (getF r.fs (f.toNat : Int)).now.length ≤ 16777216 := hr.now_len (by omega)
        rw [show ((f.toNat : Nat) : Int) = f by omega] at hnl
        obtain ⟨G, hG⟩ : ∃ G, G = getF r.fs f := ⟨_, rfl⟩
        rw [← hG] at cg hnl hRr
        have hfd := fun W => field_now (.int .i64 G.n) (.string (bs G.now)) (.string (bs G.last)) W
        have hgl := bs_size G.now
        by_cases h3 : a ≥ (G.now.length : Int)
        · have d3 : (G.now.length : Int) ≤ a := h3
          rw [if_pos h3] at hRr
          subst hRr
          clear h hr hm hG
          go_enter Tryz.func31, Tryz.ntmps31
          go_wp2_with (refine Calls.mono cm.out ?_; rintro e w2 ⟨rfl, rfl⟩)
          refine Calls.mono cg.out ?_
          rintro e w3 ⟨rfl, hb3⟩
          have HB := Lib.hid hb3
          clear hb3
          go_wp2_with fail
          go_ret2
          exact ⟨rfl, HB.out⟩
        · have d3 : ¬ (G.now.length : Int) ≤ a := h3
          rw [if_neg h3] at hRr
          obtain ⟨t, ht⟩ : ∃ t : Nat, a = (t : Int) := ⟨a.toNat, by omega⟩
          subst ht
          obtain ⟨c, hc⟩ : ∃ c : Nat, n = (c : Int) := ⟨n.toNat, by omega⟩
          subst hc
          rw [Int.toNat_natCast, Int.toNat_natCast] at hRr
          obtain ⟨q, hq⟩ : ∃ q, q = min c (G.now.length - t) := ⟨_, rfl⟩
          rw [← hq] at hRr
          have e1 : min (c : Int) ((G.now.length : Int) - (t : Int)) = (q : Int) := by omega
          have hq2 : t + q ≤ G.now.length := by omega
          obtain ⟨u, hu⟩ : ∃ u, u = t + q := ⟨_, rfl⟩
          have e2 : (t : Int) + (q : Int) = (u : Int) := by omega
          have hext := bs_cut G.now t u
          rw [show u - t = q by omega] at hext
          obtain ⟨Z, hZ⟩ : ∃ Z, Z = (G.now.drop t).take q := ⟨_, rfl⟩
          rw [← hZ] at hRr hext
          subst hRr
          have hu2 : u ≤ G.now.length := by omega
          have htu : t ≤ u := by omega
          have d4 : (t : Int) < (G.now.length : Int) := by omega
          have d5 : t < G.now.length := by omega
          clear h hr hm hG hq hu hZ hq2
          go_enter Tryz.func31, Tryz.ntmps31
          go_wp2_with (refine Calls.mono cm.out ?_; rintro e w2 ⟨rfl, rfl⟩)
          refine Calls.mono cg.out ?_
          rintro e w3 ⟨rfl, hb3⟩
          have HB := Lib.hid hb3
          clear hb3
          go_wp2_with fail
          go_ret2
          exact ⟨rfl, HB.out⟩
  · have d1 : (m == 0) = false := by simpa using h0
    have d2 : (m != 0) = true := by simpa using h0
    rw [if_pos h0] at hRr
    subst hRr
    clear h hr hm h0
    go_enter Tryz.func31, Tryz.ntmps31
    go_wp2_with (refine Calls.mono cm.out ?_; rintro e w2 ⟨rfl, rfl⟩)
    go_ret2
    exact ⟨rfl, Below.refl _ _⟩

/-! ### doRef -/
end

end Go.Proofs.YtanecondopbfhaaGreatDoor
