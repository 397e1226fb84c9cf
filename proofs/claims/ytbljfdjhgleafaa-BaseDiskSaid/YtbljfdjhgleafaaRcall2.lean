/- The reference's disk: Write, Sync, Truncate, Arm, Read. -/
import Derived.Test.YtbljfdjhgleafaaRcall
namespace Go.Proofs.Ytbljfdjhgleafaa
open Go.RowKit

variable {w w' : World} {b : Nat} {L : RL} {r r' : Rk} {S : Nat → Prop} {d : Dk}

theorem may_ok {f : Int} (h : r.may f = 0) : 0 ≤ f ∧ f < 16 ∧ r.down = false := by
  unfold Rk.may at h
  split at h
  · omega
  · split at h
    · rename_i h1 h2; exact ⟨h2.1, h2.2, by simpa using h1⟩
    · omega

set_option maxHeartbeats 2000000 in
set_option maxRecDepth 100000 in
theorem rwrite_calls (h : IsR w b L r) (hr : Rep r d) (hkl : r.keep.length ≤ 1099511627776) (f a : Int) (s : List UInt8) (hs : s.length ≤ 1099511627776) :
    Calls Try.prog 38 #[.pointer (some ⟨b, 0, none⟩), .int .i64 f, .int .i64 a, .string (bs s)] w fun e w' => e = .returned (.int .i64 (r.write f a s).2) ∧ PostR (RFoot b L) w b L (r.write f a s).1 w' := by
  have cc := Lib.hid (rcomes_calls h hr hkl f a s hs)
  obtain ⟨d1, hd1⟩ := hr.comes f a s
  unfold Rk.write
  obtain ⟨r1, hr1⟩ : ∃ r1, r1 = r.comes f a s := ⟨_, rfl⟩
  rw [← hr1] at cc hd1 ⊢
  have HD := Lib.hid hd1
  clear h hr hkl hr1 hd1
  obtain ⟨Rr, hRr⟩ : ∃ Rr, Rr = r1.put f a s := ⟨_, rfl⟩
  rw [← hRr]
  have HRR := Lib.hid hRr
  clear hRr
  go_enter Try.func38, Try.ntmps38
  go_wp2_with fail
  refine Calls.mono cc.out ?_
  rintro e w1 ⟨rfl, L1, hi1, hk1, ho1⟩
  have cm := Lib.hid (rmay_calls hi1 f)
  have HI1 := Lib.hid hi1
  have HK1 := Lib.hid hk1
  have HO1 := Lib.hid ho1
  obtain ⟨m, hm⟩ : ∃ m, m = r1.may f := ⟨_, rfl⟩
  rw [← hm] at cm
  have HM := Lib.hid hm
  clear hi1 hk1 ho1 cc hm
  go_wp2_with fail
  refine Calls.mono cm.out ?_
  rintro e w2 ⟨rfl, rfl⟩
  by_cases h0 : m = 0
  · subst h0
    obtain ⟨hf0, hf1, -⟩ := may_ok HM.out.symm
    by_cases ha : a < 0
    · have d1 : decide (a < 0) = true := decide_eq_true ha
      have hbr : Rr = (r1, 1) := by rw [HRR.out]; unfold Rk.put; rw [← HM.out, if_neg (by simp), if_pos ha]
      have HBR := Lib.hid hbr
      clear hbr
      clear cm
      go_wp2_with fail
      go_ret
      rw [HBR.out]
      exact ⟨rfl, L1, HI1.out, HK1.out, HO1.out⟩
    · have d1 : decide (a < 0) = false := decide_eq_false ha
      have cf := Lib.hid (rfits_calls a s hs w1)
      obtain ⟨fb, hfb⟩ : ∃ fb, fb = fitsB a s := ⟨_, rfl⟩
      rw [← hfb] at cf
      have HFB := Lib.hid hfb.symm
      cases fb with
      | false =>
        have hbr : Rr = (r1, 6) := by rw [HRR.out]; unfold Rk.put; rw [← HM.out, if_neg (by simp), if_neg ha, HFB.out, if_pos rfl]
        have HBR := Lib.hid hbr
        clear hbr
        clear cm hfb
        go_wp2_with fail
        refine Calls.mono cf.out ?_
        rintro e w2 ⟨rfl, rfl⟩
        go_wp2_with fail
        go_ret
        rw [HBR.out]
        exact ⟨rfl, L1, HI1.out, HK1.out, HO1.out⟩
      | true =>
        have hfb2 := hfb.symm
        unfold fitsB at hfb2
        rw [decide_eq_true_iff] at hfb2
        have hbr : Rr = (r1.add f.toNat a.toNat s, 0) := by rw [HRR.out]; unfold Rk.put; rw [← HM.out, if_neg (by simp), if_neg ha, HFB.out, if_neg (by simp)]
        have HBR := Lib.hid hbr
        clear hbr
        have hnl : (getF r1.fs (f.toNat : Int)).now.length ≤ 16777216 := HD.out.now_len (by omega)
        have ca := Lib.hid (radd_calls HI1.out (by have := HD.out.nums.len; omega) HD.out.q_len f.toNat a.toNat s hnl (by omega) (by omega))
        have e1 : ((f.toNat : Nat) : Int) = f := by omega
        have e2 : ((a.toNat : Nat) : Int) = a := by omega
        rw [e1, e2] at ca
        clear cm hfb hfb2 hnl e1 e2
        go_wp2_with fail
        refine Calls.mono cf.out ?_
        rintro e w2 ⟨rfl, rfl⟩
        go_wp2_with fail
        refine Calls.mono ca.out ?_
        rintro e w3 ⟨rfl, hp3⟩
        have HP3 := Lib.hid hp3
        clear hp3 ca cf
        go_wp2_with fail
        go_ret
        rw [HBR.out]
        exact ⟨rfl, PostR.andThen HK1.out HO1.out HP3.out HO1.out⟩
  · have d1 : (m == 0) = false := by simpa using h0
    have d2 : (m != 0) = true := by simpa using h0
    have hbr : Rr = (r1, m) := by rw [HRR.out]; unfold Rk.put; rw [← HM.out, if_pos h0]
    have HBR := Lib.hid hbr
    clear hbr
    clear cm h0
    go_wp2_with fail
    go_ret
    rw [HBR.out]
    exact ⟨rfl, L1, HI1.out, HK1.out, HO1.out⟩

set_option maxHeartbeats 2000000 in
set_option maxRecDepth 100000 in
theorem rsync_calls (h : IsR w b L r) (hr : Rep r d) (hkl : r.keep.length ≤ 1099511627776) (f : Int) :
    Calls Try.prog 32 #[.pointer (some ⟨b, 0, none⟩), .int .i64 f] w fun e w' => e = .returned (.int .i64 (r.sync f).2) ∧ PostR (RFoot b L) w b L (r.sync f).1 w' := by
  have cc := Lib.hid (rcomes_calls h hr hkl 0 0 [] (by simp))
  obtain ⟨d1, hd1⟩ := hr.comes 0 0 []
  unfold Rk.sync
  obtain ⟨r1, hr1⟩ : ∃ r1, r1 = r.comes 0 0 [] := ⟨_, rfl⟩
  rw [← hr1] at cc hd1 ⊢
  have HD := Lib.hid hd1
  clear h hr hkl hr1 hd1
  obtain ⟨Rr, hRr⟩ : ∃ Rr, Rr = r1.syn f := ⟨_, rfl⟩
  rw [← hRr]
  have HRR := Lib.hid hRr
  clear hRr
  go_enter Try.func32, Try.ntmps32
  go_wp2_with fail
  refine Calls.mono cc.out ?_
  rintro e w1 ⟨rfl, L1, hi1, hk1, ho1⟩
  have cm := Lib.hid (rmay_calls hi1 f)
  have HI1 := Lib.hid hi1
  have HK1 := Lib.hid hk1
  have HO1 := Lib.hid ho1
  obtain ⟨m, hm⟩ : ∃ m, m = r1.may f := ⟨_, rfl⟩
  rw [← hm] at cm
  have HM := Lib.hid hm
  have a2 : w1.cell? ⟨b, 2, none⟩ = some (.int .i64 r1.lost) := hi1.cells.cell 2 (by omega)
  have f2 := hi1.cells.frozen 2
  have hlb := hi1.lb
  clear hi1 hk1 ho1 cc hm
  go_wp2_with fail
  refine Calls.mono cm.out ?_
  rintro e w2 ⟨rfl, rfl⟩
  by_cases h0 : m = 0
  · subst h0
    obtain ⟨hf0, hf1, -⟩ := may_ok HM.out.symm
    by_cases hl : 0 < r1.lost
    · obtain ⟨l, hl1⟩ : ∃ l, l = r1.lost - 1 := ⟨_, rfl⟩
      have hbr : Rr = ({ r1 with lost := l }, 9) := by rw [HRR.out]; unfold Rk.syn; rw [← HM.out, if_neg (by simp), if_pos hl, ← hl1]
      have HBR := Lib.hid hbr
      clear hbr
      have d1 : decide (0 < r1.lost) = true := decide_eq_true hl
      have e1 : (r1.lost : Int) - 1 = (l : Int) := by omega
      have d4 : (1 : Int) ≤ (r1.lost : Int) := by omega
      have hl2 : l ≤ 9223372036854775807 := by omega
      have HL1 := Lib.hid hl1
      clear cm hl1
      go_wp2_with fail
      go_ret
      rw [HBR.out]
      have hp := HI1.out.plain (r' := { r1 with lost := l }) rfl rfl rfl hl2 HI1.out.cb 2 (.int .i64 (l : Int)) (fun j _ => by
        by_cases e : j = 2
        · subst e; rfl
        · simp [upd, e, rcell])
      exact ⟨rfl, PostR.andThen HK1.out HO1.out hp (fun i e => Or.inl (Or.inl e))⟩
    · have d1 : decide (0 < r1.lost) = false := decide_eq_false hl
      have cg := Lib.hid (rget_calls HI1.out (by have := HD.out.nums.len; omega) f)
      obtain ⟨G, hG⟩ : ∃ G, G = getF r1.fs f := ⟨_, rfl⟩
      rw [← hG] at cg
      have hbr : Rr = (r1.settle f.toNat G.now, 0) := by rw [HRR.out]; unfold Rk.syn; rw [← HM.out, if_neg (by simp), if_neg hl, ← hG]
      have HBR := Lib.hid hbr
      clear hbr
      have hfd := fun W => field_now (.int .i64 G.n) (.string (bs G.now)) (.string (bs G.last)) W
      have cs : ∀ (W : World), Below w1.heap.size w1 W → Calls Try.prog 53 #[.pointer (some ⟨b, 0, none⟩), .int .i64 f, .string (bs G.now)] W fun e w' => e = .returned (.tuple #[]) ∧ PostR (fun i => i = b) W b L1 (r1.settle f.toNat G.now) w' := by
        intro W hb
        have hi := HI1.out.kept (Below.kept hb) (fun i hi => Nat.not_le.2 (HI1.out.foot_lt i hi))
        have := rsettle_calls hi (by have := HD.out.nums.len; omega) (by have := HD.out.q_len; omega) f.toNat G.now
        rwa [show ((f.toNat : Nat) : Int) = f by omega] at this
      have CS := Lib.hid cs
      clear cm hG hl cs
      go_wp2_with fail
      refine Calls.mono cg.out ?_
      rintro e w3 ⟨rfl, hb3⟩
      have cs3 := Lib.hid (CS.out w3 hb3)
      have HB3 := Lib.hid hb3
      clear hb3 CS
      go_wp2_with fail
      refine Calls.mono cs3.out ?_
      rintro e w4 ⟨rfl, hp4⟩
      have HP4 := Lib.hid hp4
      clear hp4 cs3
      go_wp2_with fail
      go_ret
      rw [HBR.out]
      refine ⟨rfl, PostR.andThen HK1.out HO1.out (PostR.andThen (T := fun i => i = b) ((Below.kept HB3.out).mono (fun _ hi => Or.inr hi)) (fun _ hi => Or.inl hi) HP4.out (fun _ hi => Or.inl hi)) (fun i e => Or.inl (Or.inl e))⟩
  · have d1 : (m == 0) = false := by simpa using h0
    have d2 : (m != 0) = true := by simpa using h0
    have hbr : Rr = (r1, m) := by rw [HRR.out]; unfold Rk.syn; rw [← HM.out, if_pos h0]
    have HBR := Lib.hid hbr
    clear hbr
    clear cm h0
    go_wp2_with fail
    go_ret
    rw [HBR.out]
    exact ⟨rfl, L1, HI1.out, HK1.out, HO1.out⟩

set_option maxHeartbeats 2000000 in
set_option maxRecDepth 100000 in
theorem rtrunc_calls (h : IsR w b L r) (hr : Rep r d) (hkl : r.keep.length ≤ 1099511627776) (f n : Int) :
    Calls Try.prog 33 #[.pointer (some ⟨b, 0, none⟩), .int .i64 f, .int .i64 n] w fun e w' => e = .returned (.int .i64 (r.truncate f n).2) ∧ PostR (RFoot b L) w b L (r.truncate f n).1 w' := by
  have cc := Lib.hid (rcomes_calls h hr hkl 0 0 [] (by simp))
  obtain ⟨d1, hd1⟩ := hr.comes 0 0 []
  unfold Rk.truncate
  obtain ⟨r1, hr1⟩ : ∃ r1, r1 = r.comes 0 0 [] := ⟨_, rfl⟩
  rw [← hr1] at cc hd1 ⊢
  have HD := Lib.hid hd1
  clear h hr hkl hr1 hd1
  obtain ⟨Rr, hRr⟩ : ∃ Rr, Rr = r1.tru f n := ⟨_, rfl⟩
  rw [← hRr]
  have HRR := Lib.hid hRr
  clear hRr
  go_enter Try.func33, Try.ntmps33
  go_wp2_with fail
  refine Calls.mono cc.out ?_
  rintro e w1 ⟨rfl, L1, hi1, hk1, ho1⟩
  have cm := Lib.hid (rmay_calls hi1 f)
  have HI1 := Lib.hid hi1
  have HK1 := Lib.hid hk1
  have HO1 := Lib.hid ho1
  obtain ⟨m, hm⟩ : ∃ m, m = r1.may f := ⟨_, rfl⟩
  rw [← hm] at cm
  have HM := Lib.hid hm
  clear hi1 hk1 ho1 cc hm
  go_wp2_with fail
  refine Calls.mono cm.out ?_
  rintro e w2 ⟨rfl, rfl⟩
  by_cases h0 : m = 0
  · subst h0
    obtain ⟨hf0, hf1, -⟩ := may_ok HM.out.symm
    have cg := Lib.hid (rget_calls HI1.out (by have := HD.out.nums.len; omega) f)
    have hnl : (getF r1.fs (f.toNat : Int)).now.length ≤ 16777216 := HD.out.now_len (by omega)
    rw [show ((f.toNat : Nat) : Int) = f by omega] at hnl
    obtain ⟨G, hG⟩ : ∃ G, G = getF r1.fs f := ⟨_, rfl⟩
    rw [← hG] at cg hnl
    have HG := Lib.hid hG
    have hfd := fun W => field_now (.int .i64 G.n) (.string (bs G.now)) (.string (bs G.last)) W
    have hgl := bs_size G.now
    have cs : ∀ (s : List UInt8) (W : World), Below w1.heap.size w1 W → Calls Try.prog 53 #[.pointer (some ⟨b, 0, none⟩), .int .i64 f, .string (bs s)] W fun e w' => e = .returned (.tuple #[]) ∧ PostR (fun i => i = b) W b L1 (r1.settle f.toNat s) w' := by
      intro s W hb
      have hi := HI1.out.kept (Below.kept hb) (fun i hi => Nat.not_le.2 (HI1.out.foot_lt i hi))
      have := rsettle_calls hi (by have := HD.out.nums.len; omega) (by have := HD.out.q_len; omega) f.toNat s
      rwa [show ((f.toNat : Nat) : Int) = f by omega] at this
    have CS := Lib.hid cs
    clear cm hG cs
    go_wp2_with fail
    refine Calls.mono cg.out ?_
    rintro e w3 ⟨rfl, hb3⟩
    have HB3 := Lib.hid hb3
    have hend : IsR w3 b L1 r1 := HI1.out.kept (Below.kept hb3) (fun i hi => Nat.not_le.2 (HI1.out.foot_lt i hi))
    have HEND := Lib.hid hend
    have hkb : Kept (fun i => i = b) w1 w3 := (Below.kept hb3).mono (fun _ hi => Or.inr hi)
    have HKB := Lib.hid hkb
    clear hend cg hkb
    by_cases hn0 : n < 0
    · have d1 : decide (n < 0) = true := decide_eq_true hn0
      have hbr : Rr = (r1, 1) := by rw [HRR.out]; unfold Rk.tru; rw [← HM.out, if_neg (by simp), if_pos (Or.inl hn0)]
      have HBR := Lib.hid hbr
      clear hbr
      clear hb3
      go_wp2_with fail
      go_ret
      rw [HBR.out]
      exact ⟨rfl, PostR.andThen HK1.out HO1.out (PostR.andThen (T := fun i => i = b) HKB.out (fun _ hi => Or.inl hi) (PostR.refl (T := fun i => i = b) HEND.out) (fun _ hi => Or.inl hi)) (fun i e => Or.inl (Or.inl e))⟩
    · have d1 : decide (n < 0) = false := decide_eq_false hn0
      by_cases hn1 : (G.now.length : Int) < n
      · have d2 : decide ((G.now.length : Int) < n) = true := decide_eq_true hn1
        have hbr : Rr = (r1, 1) := by rw [HRR.out]; unfold Rk.tru; rw [← HM.out, if_neg (by simp), ← HG.out, if_pos (Or.inr hn1)]
        have HBR := Lib.hid hbr
        clear hbr
        clear hb3
        go_wp2_with fail
        go_ret
        rw [HBR.out]
        exact ⟨rfl, PostR.andThen HK1.out HO1.out (PostR.andThen (T := fun i => i = b) HKB.out (fun _ hi => Or.inl hi) (PostR.refl (T := fun i => i = b) HEND.out) (fun _ hi => Or.inl hi)) (fun i e => Or.inl (Or.inl e))⟩
      · have d2 : decide ((G.now.length : Int) < n) = false := decide_eq_false hn1
        have hbr : Rr = (r1.settle f.toNat (G.now.take n.toNat), 0) := by rw [HRR.out]; unfold Rk.tru; rw [← HM.out, if_neg (by simp), ← HG.out, if_neg (fun hh => by omega)]
        obtain ⟨t, ht⟩ : ∃ t : Nat, n = (t : Int) := ⟨n.toNat, by omega⟩
        subst ht
        rw [Int.toNat_natCast] at hbr
        have hext := bs_cut G.now 0 t
        rw [List.drop_zero, Nat.sub_zero] at hext
        have cs3 := Lib.hid (CS.out (G.now.take t) w3 hb3)
        obtain ⟨Z, hZ⟩ : ∃ Z, Z = G.now.take t := ⟨_, rfl⟩
        rw [← hZ] at cs3 hext hbr
        have HBR := Lib.hid hbr
        clear hbr
        have htl : t ≤ G.now.length := by omega
        clear hb3 CS hZ
        go_wp2_with fail
        refine Calls.mono cs3.out ?_
        rintro e w4 ⟨rfl, hp4⟩
        have HP4 := Lib.hid hp4
        clear hp4 cs3
        go_wp2_with fail
        go_ret
        rw [HBR.out]
        refine ⟨rfl, PostR.andThen HK1.out HO1.out (PostR.andThen (T := fun i => i = b) HKB.out (fun _ hi => Or.inl hi) HP4.out (fun _ hi => Or.inl hi)) (fun i e => Or.inl (Or.inl e))⟩
  · have d1 : (m == 0) = false := by simpa using h0
    have d2 : (m != 0) = true := by simpa using h0
    have hbr : Rr = (r1, m) := by rw [HRR.out]; unfold Rk.tru; rw [← HM.out, if_pos h0]
    have HBR := Lib.hid hbr
    clear hbr
    clear cm h0
    go_wp2_with fail
    go_ret
    rw [HBR.out]
    exact ⟨rfl, L1, HI1.out, HK1.out, HO1.out⟩

end Go.Proofs.Ytbljfdjhgleafaa
