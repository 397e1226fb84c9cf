/- Print. -/
import Derived.Test.YtadfdgdpalnnfaaDoorBuild2
import Derived.Test.YtadfdgdpalnnfaaDoorToks
namespace Go.Proofs.YtadfdgdpalnnfaaDoor
open Go.RowKit

theorem Tb.kept {b : Nat} {k n p : Int} {t : ByteArray} {w w' : World} (h : Tb b k n p t w) (hk : Kept w w') : Tb b k n p t w' := hk b _ h
theorem Bl.alloc {B : Nat} {l : List UInt8} {w : World} (h : Bl B l w) (o : Obj) : Bl B l (w.alloc o) := h.next ((Below.refl _ _).alloc (Nat.le_refl _) _)
theorem Tb.new (w : World) (k n p : Int) (t : ByteArray) : Tb w.heap.size k n p t (w.alloc (.cells #[.int .i64 k, .string t, .int .i64 n, .int .i64 p] 25)) := by
  unfold Tb; exact Array.getElem?_push_size ..

set_option maxHeartbeats 2000000 in
set_option maxRecDepth 100000 in
theorem print_calls (u : Value) (ts : List Tk) (w : World) (hE : Env w) (hu : IsToks u ts w) (hm : ts.length ≤ 100000000) (ht : ∀ t ∈ ts, t.text.length ≤ 10000000) (hp : (printL ts).length ≤ 1000000000) :
    Calls Tryd.prog 19 #[u] w fun e w' => e = .returned (.string (bs (printL ts))) ∧ Below w.heap.size w w' := by
  obtain ⟨a, cp, rfl⟩ := hu.len
  have HT := Lib.hid ht
  have hB0 := Bl.fresh w
  have hbel : Below w.heap.size w (w.alloc (.cells #[.pointer none, .slice none 0 0] 49)) := (Below.refl _ _).alloc (Nat.le_refl _) _
  clear ht
  go_enter Tryd.func19, Tryd.ntmps19
  go_wp2_with fail
  go_loopw [8] (fun i wr => ∃ (k : Nat) (acc : List UInt8), k ≤ ts.length ∧ i = .int .i64 k ∧ Bl w.heap.size acc wr ∧ Below w.heap.size w wr ∧ acc ++ prF (decide (k = 0)) (ts.drop k) = printL ts) (fun i _ => ts.length - (intOf i).toNat)
  case atStart => exact ⟨0, [], Nat.zero_le _, rfl, hB0, hbel, rfl⟩
  case round =>
    obtain ⟨k, acc, hk, rfl, hB, hb, hpr⟩ := hrel
    have hE2 := hE.below hb hE.lo
    by_cases hlt : k < ts.length
    · obtain ⟨b1, o1, rfl, hlb, hv⟩ := hu.at k hlt
      have hcq : ∀ j, wr.cell? ⟨b1, j, none⟩ = w.cell? ⟨b1, j, none⟩ := fun j => hb.cell (p := ⟨b1, j, none⟩) hlb
      have q0 := (hcq _).trans hv.1
      have q1 := (hcq _).trans hv.2.1
      have q2 := (hcq _).trans hv.2.2.1
      have q3 := (hcq _).trans hv.2.2.2
      have htk := HT.out ts[k] (List.getElem_mem _)
      have HP := Lib.hid hpr
      have hd := Lib.hid (List.drop_eq_getElem_cons hlt)
      have hlI : (k : Int) < (ts.length : Int) := by omega
      have hlen : acc.length ≤ 1000000000 := by rw [← hpr, List.length_append] at hp; omega
      have hlen2 : acc.length + 1 + (tokS ts[k]).length ≤ 1000000001 := by
        have := congrArg List.length hpr
        rw [hd.out, List.length_append] at this
        have h3 : (tokS ts[k]).length ≤ (prF (decide (k = 0)) (ts[k] :: ts.drop (k + 1))).length := by
          cases decide (k = 0)
          · simp [prF]; omega
          · simp [prF]
        omega
      clear hcq hv hpr
      generalize ts[k] = t at *
      obtain ⟨tk, tt, tn, tp⟩ := t
      simp only at q0 q1 q2 q3 htk
      have hsz := hb.size
      by_cases h0 : k = 0
      · subst h0
        simp only [Nat.zero_mul, Nat.add_zero] at q0 q1 q2 q3
        have e1 : acc ++ tokS ⟨tk, tt, tn, tp⟩ ++ prF false (ts.drop (0 + 1)) = printL ts := by rw [← HP.out, hd.out]; simp [prF]
        have H1 := Lib.hid e1
        clear e1
        by_cases h2 : tk = 2
        · subst h2
          have e2 : tokS ⟨2, tt, tn, tp⟩ = quotL tt := rfl
          rw [e2] at H1 hlen2
          have hQ := fun w hE => Lib.hid (quoted_calls tt (by omega) w hE)
          generalize quotL tt = q at *
          go_wp2_with fail
          refine (hQ _ (hE2.next ((Below.refl _ _).alloc (Nat.le_refl _) _))).out.mono ?_
          rintro e w3 ⟨rfl, hb3⟩
          have hB3 := (hB.alloc _).next hb3
          have hb03 := (hb.alloc hsz (.cells #[.int .i64 2, .string (bs tt), .int .i64 tn, .int .i64 tp] 25)).trans (hb3.mono (by simp; omega))
          go_wp2_with fail
          refine (bl_stringT w.heap.size acc q w3 hB3 (by omega) hb03.size).mono ?_
          rintro e w4 ⟨rfl, hB4, hb4, hk4⟩
          have hb04 := hb03.trans hb4
          go_wp2
          go_roundw
          case rel => exact ⟨0 + 1, acc ++ q, by omega, by go_num, hB4, hb04, H1.out⟩
          case measure => simp [intOf]; omega
        · have e2 : tokS ⟨tk, tt, tn, tp⟩ = tt := by unfold tokS; rw [if_neg h2]
          have h2b : (tk == 2) = false := beq_eq_false_iff_ne.2 h2
          rw [e2] at H1 hlen2
          go_wp2_with fail
          refine (bl_stringT w.heap.size acc tt _ (hB.alloc _) (by omega) (by simp; omega)).mono ?_
          rintro e w4 ⟨rfl, hB4, hb4, hk4⟩
          have hb04 := (hb.alloc hsz (.cells #[.int .i64 tk, .string (bs tt), .int .i64 tn, .int .i64 tp] 25)).trans hb4
          go_wp2
          go_roundw
          case rel => exact ⟨0 + 1, acc ++ tt, by omega, by go_num, hB4, hb04, H1.out⟩
          case measure => simp [intOf]; omega
      · have e1 : acc ++ [32] ++ tokS ⟨tk, tt, tn, tp⟩ ++ prF false (ts.drop (k + 1)) = printL ts := by rw [← HP.out, hd.out, decide_eq_false h0]; simp [prF]
        have H1 := Lib.hid e1
        clear e1
        have hk0 : (0 : Int) < (k : Int) := by omega
        have hdk : decide (k + 1 = 0) = false := by simp
        have HDK := Lib.hid hdk
        clear hdk
        have hw32 := fun w' (h : Bl w.heap.size acc w') (hs : w.heap.size ≤ w'.heap.size) => Lib.hid (bl_byteT w.heap.size acc 32 w' h (by omega) hs)
        by_cases h2 : tk = 2
        · subst h2
          have e2 : tokS ⟨2, tt, tn, tp⟩ = quotL tt := rfl
          rw [e2] at H1 hlen2
          have hQ := fun w hE => Lib.hid (quoted_calls tt (by omega) w hE)
          generalize quotL tt = q at *
          go_wp2_with fail
          refine (hw32 _ (hB.alloc _) (by simp; omega)).out.mono ?_
          rintro e w3 ⟨rfl, hB3, hb3, hk3⟩
          have hT3 := (Tb.new wr 2 tn tp (bs tt)).kept hk3
          have hb03 := (hb.alloc hsz (.cells #[.int .i64 2, .string (bs tt), .int .i64 tn, .int .i64 tp] 25)).trans hb3
          have c0 := hT3.c0
          have c1 := hT3.c1
          have hE3 := hE.below hb03 hE.lo
          go_wp2_with fail
          refine (hQ _ hE3).out.mono ?_
          rintro e w4 ⟨rfl, hb4⟩
          have hB4 := hB3.next hb4
          have hb04 := hb03.trans (hb4.mono hb03.size)
          go_wp2_with fail
          refine (bl_stringT w.heap.size (acc ++ [32]) q w4 hB4 (by rw [List.length_append]; simp; omega) hb04.size).mono ?_
          rintro e w5 ⟨rfl, hB5, hb5, hk5⟩
          have hb05 := hb04.trans hb5
          go_wp2
          go_roundw
          case rel => exact ⟨k + 1, acc ++ [32] ++ q, by omega, by go_num, hB5, hb05, by rw [HDK.out]; exact H1.out⟩
          case measure => simp [intOf]; omega
        · have e2 : tokS ⟨tk, tt, tn, tp⟩ = tt := by unfold tokS; rw [if_neg h2]
          have h2b : (tk == 2) = false := beq_eq_false_iff_ne.2 h2
          rw [e2] at H1 hlen2
          go_wp2_with fail
          refine (hw32 _ (hB.alloc _) (by simp; omega)).out.mono ?_
          rintro e w3 ⟨rfl, hB3, hb3, hk3⟩
          have hT3 := (Tb.new wr tk tn tp (bs tt)).kept hk3
          have hb03 := (hb.alloc hsz (.cells #[.int .i64 tk, .string (bs tt), .int .i64 tn, .int .i64 tp] 25)).trans hb3
          have c0 := hT3.c0
          have c1 := hT3.c1
          go_wp2_with fail
          refine (bl_stringT w.heap.size (acc ++ [32]) tt w3 hB3 (by rw [List.length_append]; simp; omega) hb03.size).mono ?_
          rintro e w5 ⟨rfl, hB5, hb5, hk5⟩
          have hb05 := hb03.trans hb5
          go_wp2
          go_roundw
          case rel => exact ⟨k + 1, acc ++ [32] ++ tt, by omega, by go_num, hB5, hb05, by rw [HDK.out]; exact H1.out⟩
          case measure => simp [intOf]; omega
    · have e1 : ts.drop k = [] := List.drop_eq_nil_of_le (by omega)
      have e2 : prF (decide (k = 0)) [] = [] := by cases decide (k = 0) <;> rfl
      rw [e1, e2, List.append_nil] at hpr
      subst hpr
      go_wp2_with fail
      refine (bl_end w.heap.size _ wr hB hb.size).mono ?_
      rintro e w3 ⟨rfl, hb3⟩
      go_wp2
      go_ret
      exact ⟨rfl, hb.trans hb3⟩
end Go.Proofs.YtadfdgdpalnnfaaDoor
