/- Ballots. -/
import Derived.Test.YtkfmhibdoapndaaDoorVote2
namespace Go.Proofs.YtkfmhibdoapndaaDoor
open Go.RowKit

theorem nums_four {w : World} {g : Nat} {a b c d : Int} (h : Blk w g 3 #[.int .i64 a, .int .i64 b, .int .i64 c, .int .i64 d]) : Cod.IsInts (.slice (some ⟨g, 0, none⟩) 4 4) [a, b, c, d] w := by
  refine .inr ⟨g, 0, 4, rfl, h.lt, fun i x hi => ?_⟩
  match i, hi with
  | 0, hi => simp at hi; subst hi; exact h.cell 0
  | 1, hi => simp at hi; subst hi; exact h.cell 1
  | 2, hi => simp at hi; subst hi; exact h.cell 2
  | 3, hi => simp at hi; subst hi; exact h.cell 3
theorem nums4_len (a b c d : Int) (ha : isInt a) (hb : isInt b) (hc : isInt c) (hd : isInt d) : (Cod.numsS [a, b, c, d]).length ≤ 150 := by
  have := numsS_len [a, b, c, d] (by simp) (by intro x hx; simp only [List.mem_cons, List.not_mem_nil, or_false] at hx; rcases hx with rfl | rfl | rfl | rfl <;> assumption)
  simpa using this
set_option maxRecDepth 100000 in
set_option maxHeartbeats 8000000 in
theorem ballot_calls (x : VoteD) (hx : x.ok) (v : Value) (w : World) (hE : Cod.Env w) (hv : IsPts v x.pts w) :
    Calls Tryd.prog 15 #[x.val v] w fun e w' => e = .returned (.string (bs x.ballot)) ∧ Below w.heap.size w w' := by
  obtain ⟨juror, ver, gate, no, reason, pts, cc, ss⟩ := x
  obtain ⟨ap, cp, rfl⟩ := IsSl.len hv
  have hb := below_one w (.cells #[.int .i64 juror, .int .i64 ver, .int .i64 gate, .int .i64 no, .string (bs reason), .slice ap pts.length cp, .int .i64 cc, .int .i64 ss] 42)
  have hB := Blk.new w 42 #[.int .i64 juror, .int .i64 ver, .int .i64 gate, .int .i64 no, .string (bs reason), .slice ap pts.length cp, .int .i64 cc, .int .i64 ss]
  have HV := Lib.hid (IsPts.next hv hb)
  have HE := Lib.hid (hE.next hb)
  have hfew : pts.length ≤ 1000 := hx.few
  have HX := Lib.hid hx
  have HBAL : Hid (VoteD.ballot ⟨juror, ver, gate, no, reason, pts, cc, ss⟩ = Cod.numsS [juror, ver, gate, no] ++ (Cod.textS reason ++ Cod.numsS (flatP pts))) := rfl
  clear hv hE hx
  unfold VoteD.val VoteD.cells
  simp only
  go_enter Tryd.func15, Tryd.ntmps15
  go_wp2_with fail
  generalize w.alloc (.cells #[.int .i64 juror, .int .i64 ver, .int .i64 gate, .int .i64 no, .string (bs reason), .slice ap pts.length cp, .int .i64 cc, .int .i64 ss] 42) = W at *
  have b5 := hB.cell 5
  have HB := Lib.hid hb
  have HBK := Lib.hid hB
  have hlI : (pts.length : Int) ≤ 1000 := by omega
  clear hb hB
  go_wp2
  go_loopw [9, 3] (fun i s wr => ∃ k : Nat, k ≤ pts.length ∧ i = .int .i64 k ∧ OInts W.heap.size s (flatP (pts.take k)) wr ∧ Below W.heap.size W wr) (fun i _ _ => pts.length - (intOf i).toNat)
  case atStart => exact ⟨0, Nat.zero_le _, rfl, ⟨rfl, .inl ⟨rfl, rfl⟩⟩, Below.refl _ _⟩
  case round =>
    obtain ⟨k, hk, rfl, hO, hb6⟩ := hrel
    by_cases hlt : k < pts.length
    · obtain ⟨bk, off, rfl, _, x1, x2, x3, hx, y1, y2, y3⟩ := IsPts.at (HV.out.next hb6) k hlt
      have hkl : (k : Int) < (pts.length : Int) := by omega
      have HT := Lib.hid (flatP_take pts k hlt)
      rw [← hx] at HT
      have hfl := flatP_len (pts.take k)
      rw [List.length_take] at hfl
      have s1 := alloc_size wr (.cells #[.int .i64 x1, .int .i64 x2, .int .i64 x3] 67)
      have a1 := below_one wr (.cells #[.int .i64 x1, .int .i64 x2, .int .i64 x3] 67)
      have P1 := Blk.new wr 67 #[.int .i64 x1, .int .i64 x2, .int .i64 x3]
      have p1 := P1.cell 0
      have p2 := P1.cell 1
      have p3 := P1.cell 2
      have a2 := below_one (wr.alloc (.cells #[.int .i64 x1, .int .i64 x2, .int .i64 x3] 67)) (.cells #[.int .i64 x1, .int .i64 x2, .int .i64 x3] 3)
      have HO := Lib.hid ((hO.next a1).next a2)
      have HN := Lib.hid (nums_three (Blk.new' s1 3 #[.int .i64 x1, .int .i64 x2, .int .i64 x3]))
      have HB6 := Lib.hid (Below.alloc_ (Below.alloc_ hb6 (.cells #[.int .i64 x1, .int .i64 x2, .int .i64 x3] 67)) (.cells #[.int .i64 x1, .int .i64 x2, .int .i64 x3] 3))
      clear hO hb6 hx a1 a2 P1 s1
      go_wp2_with (at_builtin; refine wpList_ints rfl _ _ rfl rfl rfl rfl HO.out HN.out (by simp only [List.length_cons, List.length_nil]; omega) HB6.out.size ?_)
      intro v1 w1 hO1 hgr
      have hb7 := Lib.hid (OInts.below HO.out HB6.out hgr)
      have hO2 : Hid (OInts W.heap.size v1 (flatP (pts.take (k + 1))) w1) := by
        show OInts _ _ _ _
        rw [HT.out]; exact hO1
      clear hO1 hgr HO HN HB6 y1 y2 y3 p1 p2 p3
      go_wp2
      go_roundw
      case rel => exact ⟨k + 1, by omega, by go_num, hO2.out, hb7.out⟩
      case measure => simp [intOf]; omega
    · obtain rfl : k = pts.length := by omega
      rw [List.take_length] at hO
      have hN := hO.nums
      obtain ⟨aj, cj, rfl⟩ := hO.form
      obtain ⟨W0, hW0⟩ : ∃ W0, W0 = wr := ⟨_, rfl⟩
      rw [← hW0] at hN hb6 ⊢
      have hb := Lib.hid (HB.out.trans (hb6.mono HB.out.size))
      have hE0 := HE.out.next hb6
      have hB := HBK.out.next hb6
      have k1 := fun v w hE hv => Lib.hid (Cod.base_Nums v [juror, ver, gate, no] w hE hv (by intro x hx; simp only [List.mem_cons, List.not_mem_nil, or_false] at hx; rcases hx with rfl | rfl | rfl | rfl; exact HX.out.juror; exact HX.out.ver; exact HX.out.gate; exact HX.out.no) (by simp) (by have := nums4_len juror ver gate no HX.out.juror HX.out.ver HX.out.gate HX.out.no; omega))
      have hrs : reason.length ≤ 1000000000 := HX.out.short
      have hfi := flatP_ints HX.out.pts
      simp only at hfi
      have hfl : (flatP pts).length ≤ 3000 := by rw [flatP_len]; omega
      have hfe := numsS_len (flatP pts) (by omega) hfi
      have k2 := fun w hE => Lib.hid (Cod.base_Text_bs reason (by omega) w hE)
      have k3 := fun w hE hv => Lib.hid (Cod.base_Nums (.slice aj (flatP pts).length cj) (flatP pts) w hE hv hfi (by omega) (by omega))
      have l1 : (bs (Cod.numsS [juror, ver, gate, no])).size ≤ 150 := by rw [bs_size]; exact nums4_len _ _ _ _ HX.out.juror HX.out.ver HX.out.gate HX.out.no
      have l2 : (bs (Cod.textS reason)).size ≤ 1000000100 := by
        have := Cod.itoa_len (reason.length : Int) (Cod.isInt_len (by omega))
        rw [bs_size]; unfold Cod.textS; simp; omega
      have l3 : (bs (Cod.numsS (flatP pts))).size ≤ 100000 := by rw [bs_size]; omega
      generalize Cod.numsS [juror, ver, gate, no] = A at *
      generalize Cod.textS reason = T at *
      generalize Cod.numsS (flatP pts) = J at *
      have c1 : ¬ 9223372036854775807 < (bs A).size + (bs T).size := by omega
      have c2 : ¬ 9223372036854775807 < (bs A).size + (bs T).size + (bs J).size := by omega
      generalize (flatP pts).length = fl at *
      have j1 : Hid (∀ (args' : Array Value) (g : Nat) (w : World), args' = #[.slice (some ⟨g, 0, none⟩) 4 4] → Below W0.heap.size W0 w → Blk w g 3 #[.int .i64 juror, .int .i64 ver, .int .i64 gate, .int .i64 no] → Calls Tryd.prog 27 args' w fun e w' => e = .returned (.string (bs A)) ∧ Below W0.heap.size W0 w') := by
        show ∀ (args' : Array Value) (g : Nat) (w : World), _
        intro args' g w he hb hB
        subst he
        exact (k1 _ w (hE0.next hb) (nums_four hB)).out.mono fun _ _ ⟨a, b⟩ => ⟨a, hb.trans (b.mono hb.size)⟩
      have j2 : Hid (∀ (args' : Array Value) (w : World), args' = #[.string (bs reason)] → Below W0.heap.size W0 w → Calls Tryd.prog 28 args' w fun e w' => e = .returned (.string (bs T)) ∧ Below W0.heap.size W0 w') := by
        show ∀ (args' : Array Value) (w : World), _
        intro args' w he hb
        subst he
        exact (k2 w (hE0.next hb)).out.mono fun _ _ ⟨a, b⟩ => ⟨a, hb.trans (b.mono hb.size)⟩
      have j3 : Hid (∀ (args' : Array Value) (w : World), args' = #[.slice aj fl cj] → Below W0.heap.size W0 w → Calls Tryd.prog 27 args' w fun e w' => e = .returned (.string (bs J)) ∧ Below W0.heap.size W0 w') := by
        show ∀ (args' : Array Value) (w : World), _
        intro args' w he hb
        subst he
        exact (k3 w (hE0.next hb) (hN.next hb)).out.mono fun _ _ ⟨a, b⟩ => ⟨a, hb.trans (b.mono hb.size)⟩
      have HK : Hid (∀ w', Below W0.heap.size W0 w' → w'.cell? ⟨w.heap.size, 0, none⟩ = some (.int .i64 juror) ∧ w'.cell? ⟨w.heap.size, 1, none⟩ = some (.int .i64 ver) ∧ w'.cell? ⟨w.heap.size, 2, none⟩ = some (.int .i64 gate) ∧ w'.cell? ⟨w.heap.size, 3, none⟩ = some (.int .i64 no) ∧ w'.cell? ⟨w.heap.size, 4, none⟩ = some (.string (bs reason)) ∧ Below W0.heap.size W0 w') := by
        show ∀ w', Below W0.heap.size W0 w' → _
        intro w' h
        have := hB.next h
        exact ⟨this.cell 0, this.cell 1, this.cell 2, this.cell 3, this.cell 4, h⟩
      clear k1 k2 k3 hB hE0 hN hO hb6 hlt l1 l2 l3 hfi hfl hfe b5 hW0 HBK
      go_wp2_with fail
      go_region_held3 (fun w' => w'.cell? ⟨w.heap.size, 0, none⟩ = some (.int .i64 juror) ∧ w'.cell? ⟨w.heap.size, 1, none⟩ = some (.int .i64 ver) ∧ w'.cell? ⟨w.heap.size, 2, none⟩ = some (.int .i64 gate) ∧ w'.cell? ⟨w.heap.size, 3, none⟩ = some (.int .i64 no) ∧ w'.cell? ⟨w.heap.size, 4, none⟩ = some (.string (bs reason)) ∧ Below W0.heap.size W0 w')
        (first | exact HK.out _ (by assumption) | exact HK.out _ (Below.alloc_ (by assumption) _) | exact HK.out _ (below_drewN (Below.refl _ _) 1) | exact HK.out _ (Below.alloc_ (below_drewN (Below.refl W0.heap.size W0) 1) _) | exact HK.out _ (Below.refl _ _))
        (first
          | (go_at_call 27; refine Calls.mono (j1.out _ W0.heap.size _ (by with_reducible rfl) (Below.alloc_ (below_drewN (Below.refl W0.heap.size W0) 1) _) (Blk.new W0.drew _ _)) ?_; rintro e w4 ⟨rfl, hb4⟩)
          | (go_at_call 28; refine Calls.mono (j2.out _ _ (by with_reducible rfl) (by assumption)) ?_; rintro e w5 ⟨rfl, hb5⟩)
          | (go_at_call 27; refine Calls.mono (j3.out _ _ (by with_reducible rfl) (by assumption)) ?_; rintro e w6 ⟨rfl, hb6⟩))
      all_goals
        go_wp2
        go_ret
        refine ⟨?_, hb.out.trans (hb6.mono hb.out.size)⟩
        rw [HBAL.out, bs_append, bs_append, List.append_assoc]
        rfl
end Go.Proofs.YtkfmhibdoapndaaDoor
