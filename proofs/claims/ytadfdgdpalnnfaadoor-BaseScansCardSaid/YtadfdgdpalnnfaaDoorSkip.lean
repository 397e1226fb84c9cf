/- skip, Name, Number, isValue. -/
import Derived.Test.YtadfdgdpalnnfaaDoorSpan
namespace Go.Proofs.YtadfdgdpalnnfaaDoor
open Go.RowKit

theorem bs_ext (l : List UInt8) (i j : Nat) : (bs l).extract i j = bs ((l.drop i).take (j - i)) := by
  rw [Lib.extract_eq, bs_data]; rfl

set_option maxHeartbeats 400000 in
set_option maxRecDepth 100000 in
theorem skip_calls (l : List UInt8) (hl : l.length ≤ 4294967296) (w : World) :
    Calls Tryd.prog 22 #[.string (bs l)] w fun e w' => e = .returned (.int .i64 (sk false l : Int)) ∧ Below w.heap.size w w' := by
  have hsm : (bs l).size ≤ 4294967296 := by rw [bs_size]; exact hl
  have hb0 := Lib.hid (sk_blank l)
  have hl0 := spanL_le isBl l
  go_enter Tryd.func22, Tryd.ntmps22
  go_wp2_with fail
  refine (span_blank l hl w).mono ?_
  rintro e w1 ⟨rfl, hbw⟩
  go_wp2_with fail
  go_loopw [3] (fun i wr => ∃ k : Nat, k ≤ l.length ∧ i = .int .i64 k ∧ Below w.heap.size w wr ∧ k + sk false (l.drop k) = sk false l ∧ (∀ c r, l.drop k = c :: r → isBl c = false)) (fun i _ => l.length - (intOf i).toNat)
  case atStart => exact ⟨spanL isBl l, hl0, rfl, hbw, hb0.out.symm, fun c r h => spanL_stop isBl l c r h⟩
  case round =>
    obtain ⟨k, hk, rfl, hb, hsp, hno⟩ := hrel
    have HS := Lib.hid hsp
    have HN := Lib.hid hno
    clear hsp hno
    by_cases hlt : k < l.length
    · have hlt2 : k < (bs l).size := by rw [bs_size]; exact hlt
      have hg := Lib.hid (bs_get l k hlt2 hlt)
      have hkI : (k : Int) < ((bs l).size : Int) := by omega
      have hd := Lib.hid (List.drop_eq_getElem_cons hlt)
      by_cases hc : l[k]'hlt = 35
      · have he : ((((bs l)[k]'hlt2).toNat : Int) == 35) = true := by rw [hg.out, hc]; rfl
        have h35 : l.drop k = 35 :: l.drop (k + 1) := by rw [hd.out, hc]
        have hA := Lib.hid (sk_hash (l.drop (k + 1)))
        have h1 := spanL_le notLf (l.drop k)
        have hp1 : 1 ≤ spanL notLf (l.drop k) := by rw [h35]; simp [spanL, notLf]
        have hA2 : sk false (l.drop k) = spanL notLf (l.drop k) + sk false (l.drop (k + spanL notLf (l.drop k))) := by
          have := hA.out
          rw [← h35] at this
          rw [List.drop_drop] at this
          exact this
        have h3 := sk_blank (l.drop (k + spanL notLf (l.drop k)))
        have h4 := spanL_le isBl (l.drop (k + spanL notLf (l.drop k)))
        have hst := spanL_stop isBl (l.drop (k + spanL notLf (l.drop k)))
        rw [List.drop_drop] at h3
        rw [List.length_drop] at h1
        have hlen1 : (l.drop k).length ≤ 4294967296 := by rw [List.length_drop]; omega
        have hlen2 : (l.drop (k + spanL notLf (l.drop k))).length ≤ 4294967296 := by rw [List.length_drop]; omega
        rw [List.length_drop] at h4
        have hS1 := fun w => Lib.hid (span_notlf (l.drop k) hlen1 w)
        generalize spanL notLf (l.drop k) = a at *
        have hS2 := fun w => Lib.hid (span_blank (l.drop (k + a)) hlen2 w)
        generalize spanL isBl (l.drop (k + a)) = b at *
        have hz : k + a + b + sk false (l.drop (k + a + b)) = sk false l := by have := HS.out; omega
        have HZ := Lib.hid hz
        have HT : Hid (∀ c r, l.drop (k + a + b) = c :: r → isBl c = false) := Lib.hid (fun c r h => hst c r (by rw [List.drop_drop]; exact h))
        clear h35 hA hA2 h3 hst hc hz hd
        go_wp2_with fail
        rw [bs_drop]
        refine (hS1 _).out.mono ?_
        rintro e w2 ⟨rfl, hb2⟩
        have hb02 := hb.trans (hb2.mono hb.size)
        have hka2 : k + a ≤ (bs l).size := by rw [bs_size]; omega
        have hkb2 : k + a + b ≤ (bs l).size := by rw [bs_size]; omega
        go_wp2_with fail
        rw [bs_drop]
        refine (hS2 _).out.mono ?_
        rintro e w3 ⟨rfl, hb3⟩
        have hb03 := hb02.trans (hb3.mono hb02.size)
        go_wp2
        go_roundw
        case rel => exact ⟨k + a + b, by omega, by go_num, hb03, HZ.out, HT.out⟩
        case measure => simp [intOf]; omega
      · have he : ((((bs l)[k]'hlt2).toNat : Int) == 35) = false := by
          rw [hg.out]
          refine beq_eq_false_iff_ne.2 (fun h => hc (UInt8.toNat_inj.1 ?_))
          have : (35 : UInt8).toNat = 35 := rfl
          omega
        have hz : sk false (l.drop k) = 0 := by rw [hd.out]; exact sk_stop (HN.out _ _ hd.out) hc
        have HZ := Lib.hid hz
        clear hz hc
        go_wp2
        go_ret
        exact ⟨ret_int (by have := HS.out; have := HZ.out; omega), hb⟩
    · have hkI : ¬ (k : Int) < ((bs l).size : Int) := by rw [bs_size]; omega
      have e : k = l.length := by omega
      have hz : sk false l = k := by have := HS.out; rw [e, List.drop_length] at this; simp [sk] at this; omega
      go_wp2
      go_ret
      exact ⟨ret_int (by omega), hb⟩
end Go.Proofs.YtadfdgdpalnnfaaDoor
