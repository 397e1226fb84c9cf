/- The reference's Print. -/
import Derived.Test.YtadfdgdpalnnfaaDoorREsc
import Derived.Test.YtadfdgdpalnnfaaDoorPrint
namespace Go.Proofs.YtadfdgdpalnnfaaDoor
open Go.RowKit

set_option maxHeartbeats 1000000 in
set_option maxRecDepth 100000 in
theorem rprint_calls (u : Value) (ts : List Tk) (w : World) (hu : IsToks u ts w) (hm : ts.length ≤ 100000000) (ht : ∀ t ∈ ts, t.text.length ≤ 10000000) (hp : (printL ts).length ≤ 1000000000) :
    Calls Tryd.prog 20 #[u] w fun e w' => e = .returned (.string (bs (printL ts))) ∧ w = w' := by
  obtain ⟨a, cp, rfl⟩ := hu.len
  have HT := Lib.hid ht
  have HU := Lib.hid hu
  clear ht hu
  go_enter Tryd.func20, Tryd.ntmps20
  go_wp2
  go_loopw [3, 4] (fun s i wr => ∃ (k : Nat) (acc : List UInt8), k ≤ ts.length ∧ i = .int .i64 k ∧ s = .string (bs acc) ∧ wr = w ∧ Hid (acc ++ prF (decide (k = 0)) (ts.drop k) = printL ts)) (fun _ i _ => ts.length - (intOf i).toNat)
  case atStart => exact ⟨0, [], Nat.zero_le _, rfl, rfl, rfl, rfl⟩
  case round =>
    obtain ⟨k, acc, hk, rfl, rfl, rfl, HP⟩ := hrel
    by_cases hlt : k < ts.length
    · obtain ⟨b1, o1, rfl, hlb, hv⟩ := HU.out.at k hlt
      have q0 := hv.1
      have q1 := hv.2.1
      have htk := HT.out (ts[k]'hlt) (List.getElem_mem _)
      have hd := Lib.hid (List.drop_eq_getElem_cons hlt)
      have hlI : (k : Int) < (ts.length : Int) := by omega
      have hlen : (bs acc).size ≤ 1000000000 := by
        have h := HP.out
        rw [← h, List.length_append] at hp; rw [bs_size]; omega
      clear hv
      generalize ts[k]'hlt = t at *
      obtain ⟨tk, tt, tn, tp⟩ := t
      simp only at q0 q1 htk
      have htz : (bs tt).size ≤ 10000000 := by rw [bs_size]; exact htk
      have hqz : (bs (quotL tt)).size ≤ 20000002 := by
        rw [bs_size]
        have h1 : quotL tt = 34 :: (escL tt ++ [34]) := rfl
        have h2 := esc_le2 tt
        rw [h1]; simp; omega
      by_cases h0 : k = 0
      · subst h0
        simp only [Nat.zero_mul, Nat.add_zero] at q0 q1
        have H1 : Hid (acc ++ tokS ⟨tk, tt, tn, tp⟩ ++ prF false (ts.drop (0 + 1)) = printL ts) := by show _ = _; rw [← HP.out, hd.out]; simp [prF]
        by_cases h2 : tk = 2
        · have e2 : Hid (tokS ⟨tk, tt, tn, tp⟩ = quotL tt) := by show _ = _; rw [h2]; rfl
          have h2b : (tk == 2) = true := by rw [h2]; rfl
          have hQ := fun w => Lib.hid (rescaped_calls tt (by omega) w)
          rw [e2.out] at H1
          clear h2 e2
          generalize quotL tt = q at *
          have hadd := bs_add acc q
          go_wp2_with fail
          refine (hQ _).out.mono ?_
          rintro e w3 ⟨rfl, rfl⟩
          go_wp2
          go_roundw
          case rel => exact ⟨0 + 1, acc ++ q, by omega, by go_num, rfl, trivial, H1.out⟩
          case measure => simp only [intOf]; omega
        · have e2 : Hid (tokS ⟨tk, tt, tn, tp⟩ = tt) := by show _ = _; unfold tokS; rw [if_neg h2]
          have h2b : (tk == 2) = false := beq_eq_false_iff_ne.2 h2
          rw [e2.out] at H1
          have hadd := bs_add acc tt
          clear h2 e2
          go_wp2
          go_roundw
          case rel => exact ⟨0 + 1, acc ++ tt, by omega, by go_num, rfl, trivial, H1.out⟩
          case measure => simp only [intOf]; omega
      · have H1 : Hid (acc ++ [32] ++ tokS ⟨tk, tt, tn, tp⟩ ++ prF false (ts.drop (k + 1)) = printL ts) := by show _ = _; rw [← HP.out, hd.out, decide_eq_false h0]; simp [prF]
        have hk0 : (0 : Int) < (k : Int) := by omega
        have HDK : Hid (decide (k + 1 = 0) = false) := by show _ = _; simp
        have h32 : bs acc ++ { data := #[32] } = bs (acc ++ [32]) := bs_add acc [32]
        have h32s : (bs (acc ++ [32])).size ≤ 1000000001 := by rw [bs_size] at hlen ⊢; simp; omega
        by_cases h2 : tk = 2
        · have e2 : Hid (tokS ⟨tk, tt, tn, tp⟩ = quotL tt) := by show _ = _; rw [h2]; rfl
          have h2b : (tk == 2) = true := by rw [h2]; rfl
          have hQ := fun w => Lib.hid (rescaped_calls tt (by omega) w)
          rw [e2.out] at H1
          clear h2 e2
          generalize quotL tt = q at *
          have hadd := bs_add (acc ++ [32]) q
          generalize hx : acc ++ [32] = x at *
          have HX := Lib.hid hx
          clear hx
          go_wp2_with fail
          refine (hQ _).out.mono ?_
          rintro e w3 ⟨rfl, rfl⟩
          go_wp2
          go_roundw
          case rel => exact ⟨k + 1, x ++ q, by omega, by go_num, rfl, trivial, by rw [HDK.out]; exact H1.out⟩
          case measure => simp only [intOf]; omega
        · have e2 : Hid (tokS ⟨tk, tt, tn, tp⟩ = tt) := by show _ = _; unfold tokS; rw [if_neg h2]
          have h2b : (tk == 2) = false := beq_eq_false_iff_ne.2 h2
          rw [e2.out] at H1
          have hadd := bs_add (acc ++ [32]) tt
          generalize hx : acc ++ [32] = x at *
          have HX := Lib.hid hx
          clear h2 e2 hx
          go_wp2
          go_roundw
          case rel => exact ⟨k + 1, x ++ tt, by omega, by go_num, rfl, trivial, by rw [HDK.out]; exact H1.out⟩
          case measure => simp only [intOf]; omega
    · have hlI : ¬ (k : Int) < (ts.length : Int) := by omega
      go_wp2
      go_ret
      refine ⟨?_, rfl⟩
      have h := HP.out
      rw [List.drop_eq_nil_of_le (by omega)] at h
      rw [← h]
      cases decide (k = 0) <;> simp [prF] <;> rfl
end Go.Proofs.YtadfdgdpalnnfaaDoor
