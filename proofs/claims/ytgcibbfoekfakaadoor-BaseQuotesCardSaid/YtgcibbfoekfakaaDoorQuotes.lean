/- BaseQuotes' contract. -/
import Derived.Test.YtgcibbfoekfakaaDoorTkn
import Derived.Test.YtgcibbfoekfakaaDoorJoins
namespace Go.Proofs.YtgcibbfoekfakaaDoor
open Go.RowKit

/-- Whether the first bytes are all plain, and the whole is short. -/
def plainTo (l : List UInt8) (k : Nat) : Bool := decide (l.length ≤ 400) && (l.take k).all isQt
theorem plain_start (l : List UInt8) : plainTo l 0 = decide (l.length ≤ 400) := by unfold plainTo; simp
theorem plain_step (l : List UInt8) (k : Nat) (h : k < l.length) : plainTo l (k + 1) = (plainTo l k && isQt (l[k]'h)) := by
  unfold plainTo
  rw [List.take_succ_eq_append_getElem h, List.all_append, Bool.and_assoc]; simp
theorem plain_end (l : List UInt8) : plainTo l l.length = isVal l := by
  unfold plainTo isVal
  rw [List.take_length]
  congr 1
  rw [Bool.eq_iff_iff, List.all_eq_true, decide_eq_true_iff, spanL_all]
theorem num_no_name {x : List UInt8} {m : Int} (h : numL x = some m) : isName x = false := by
  obtain ⟨_, _, _, c, r, rfl, hc⟩ := num_digits h
  have hlc := let_not_dig hc
  show (decide ((c :: r).length ≤ 20) && isLet c && decide (spanL isNm (c :: r) = (c :: r).length)) = false
  rw [hlc]; simp
theorem scan_cases (x : List UInt8) (hl : x.length ≤ 900) :
    (isName x = true ∧ numL x = none ∧ scanL x = ([⟨0, x, 0, 0⟩], 0, 0) ∧ x.length ≤ 20) ∨
    (∃ m, isName x = false ∧ numL x = some m ∧ 0 ≤ m ∧ m ≤ 1099511627776 ∧ scanL x = ([⟨1, x, m, 0⟩], 0, 0)) ∨
    (isName x = false ∧ numL x = none ∧ (scanL x).2.2 ≠ 0) ∨
    (isName x = false ∧ numL x = none ∧ (scanL x).2.2 = 0 ∧ (scanL x).1.length ≠ 1) ∨
    (isName x = false ∧ numL x = none ∧ (scanL x).2.2 = 0 ∧ ∃ t, (scanL x).1 = [t] ∧ t.text ≠ x) ∨
    (isName x = false ∧ numL x = none ∧ (scanL x).2.2 = 0 ∧ ∃ t, (scanL x).1 = [t] ∧ t.text = x ∧ t.kind ≠ 0 ∧ t.kind ≠ 1) := by
  cases hn : isName x with
  | true =>
    refine .inl ⟨rfl, ?_, scan_name x (by omega) hn, (isName_cons hn).elim fun c h => h.elim fun r h => h.2.2.2⟩
    cases hm : numL x with
    | none => rfl
    | some m => rw [num_no_name hm] at hn; cases hn
  | false =>
    refine .inr ?_
    cases hm : numL x with
    | some m =>
      obtain ⟨h1, h2, _⟩ := num_digits hm
      exact .inl ⟨m, rfl, rfl, h1, h2, scan_num x m (by omega) hm⟩
    | none =>
      refine .inr ?_
      by_cases h0 : (scanL x).2.2 = 0
      · refine .inr ?_
        by_cases h1 : (scanL x).1.length = 1
        · refine .inr ?_
          obtain ⟨t, ht⟩ := List.length_eq_one_iff.1 h1
          by_cases hx : t.text = x
          · refine .inr ⟨rfl, rfl, h0, t, ht, hx, ?_⟩
            have hg := scanL_good x t (by rw [ht]; simp)
            rcases hg with ⟨_, h, _⟩ | ⟨_, h⟩ | ⟨h, _⟩ | ⟨h, _⟩
            · rw [hx, hn] at h; cases h
            · rw [hx, hm] at h; cases h
            · rw [h]; decide
            · rw [h]; decide
          · exact .inl ⟨rfl, rfl, h0, t, ht, hx⟩
        · exact .inl ⟨rfl, rfl, h0, h1⟩
      · exact .inl ⟨rfl, rfl, h0⟩
set_option maxHeartbeats 8000000 in
set_option maxRecDepth 100000 in
theorem quotes_calls (s : List UInt8) (hs : s.length ≤ 9223372036854775807) (w : World) (hE : Env w) :
    Calls Tryd.prog 7 #[.string (bs s)] w (Tpost w) := by
  have hc1 := fun w => Lib.hid (cut_calls s hs w)
  have hlx : (s.take 900).length ≤ 900 := by rw [List.length_take]; omega
  generalize s.take 900 = x at *
  have hq := fun w hE => Lib.hid (quote_calls x (by omega) w hE)
  have hxs := bs_size x
  have hxs2 : (bs x).size ≤ 900 := by omega
  have HXS := Lib.hid hxs
  have hp0 : Hid (decide ((bs x).size ≤ 400) = plainTo x 0) := by show decide ((bs x).size ≤ 400) = plainTo x 0; rw [plain_start, hxs]
  clear hxs
  obtain ⟨v, hv⟩ : ∃ v, v = isVal x := ⟨_, rfl⟩
  obtain ⟨q, hqq⟩ : ∃ q, q = if v then quotL x else [] := ⟨_, rfl⟩
  rw [← hv, ← hqq] at hq
  have HV := Lib.hid hv
  have HQ := Lib.hid hqq
  clear hv hqq
  go_enter Tryd.func7, Tryd.ntmps7
  go_wp2_with fail
  refine (saneTokens w hE).mono ?_
  rintro e w1 ⟨rfl, hb1⟩
  have hE1 := hE.next hb1
  go_wp2_with fail
  refine (hc1 w1).out.mono ?_
  rintro e w2 ⟨rfl, rfl⟩
  go_wp2_with fail
  refine (hq w1 hE1).out.mono ?_
  rintro e w2 ⟨rfl, hb2⟩
  have hE2 := hE1.next hb2
  have hb02 := hb1.trans (hb2.mono hb1.size)
  clear hb1 hb2 hE1
  go_wp2_with fail
  go_loop [8, 7] (fun i p => ∃ k : Nat, k ≤ x.length ∧ i = .int .i64 (k : Int) ∧ p = .bool (plainTo x k)) (fun i _ => x.length - (intOf i).toNat)
  case atStart => exact ⟨0, Nat.zero_le _, rfl, congrArg Value.bool (by rw [← hp0.out]; exact decide_eq_decide.2 (by omega))⟩
  case round =>
    obtain ⟨k, hk, rfl, rfl⟩ := hrel
    by_cases hlt : k < x.length
    · have hst := plain_step x k hlt
      have hk2 : k < (bs x).size := by rw [HXS.out]; exact hlt
      have hkI : (k : Int) < ((bs x).size : Int) := by omega
      have hget := bs_get x k hk2 hlt
      generalize x[k]'hlt = c at *
      have HST := Lib.hid hst
      have HG : ∀ h, (bs x)[k]'h = c := fun _ => hget
      have hc1 : isQt c = (decide (32 ≤ c.toNat) && decide (c.toNat ≤ 126)) := by unfold isQt; simp
      have HC := Lib.hid hc1
      clear hst hget hc1 hq
      cases hb : plainTo x k with
      | false =>
        have HB := Lib.hid hb
        clear hb
        go_wp2
        go_round
        case rel => exact ⟨k + 1, by omega, by go_num, by rw [HST.out, HB.out]; rfl⟩
        case measure => simp [intOf]; omega
      | true =>
        have HB := Lib.hid hb
        clear hb
        by_cases c1 : 32 ≤ c.toNat
        · have d1 : decide ((32 : Int) ≤ (c.toNat : Int)) = true := decide_eq_true (by omega)
          have E1 : Hid (decide (32 ≤ c.toNat) = true) := decide_eq_true c1
          by_cases c2 : c.toNat ≤ 126
          · have d2 : decide ((c.toNat : Int) ≤ 126) = true := decide_eq_true (by omega)
            have E2 : Hid (decide (c.toNat ≤ 126) = true) := decide_eq_true c2
            clear c1 c2
            go_wp2
            go_round
            case rel => exact ⟨k + 1, by omega, by go_num, by rw [HST.out, HB.out, HC.out, E1.out, E2.out]; rfl⟩
            case measure => simp [intOf]; omega
          · have d2 : decide ((c.toNat : Int) ≤ 126) = false := decide_eq_false (by omega)
            have E2 : Hid (decide (c.toNat ≤ 126) = false) := decide_eq_false c2
            clear c1 c2
            go_wp2
            go_round
            case rel => exact ⟨k + 1, by omega, by go_num, by rw [HST.out, HB.out, HC.out, E1.out, E2.out]; rfl⟩
            case measure => simp [intOf]; omega
        · have d1 : decide ((32 : Int) ≤ (c.toNat : Int)) = false := decide_eq_false (by omega)
          have E1 : Hid (decide (32 ≤ c.toNat) = false) := decide_eq_false c1
          clear c1
          go_wp2
          go_round
          case rel => exact ⟨k + 1, by omega, by go_num, by rw [HST.out, HB.out, HC.out, E1.out]; rfl⟩
          case measure => simp [intOf]; omega
    · have hkx : k = x.length := by omega
      have hkI : ¬ (k : Int) < ((bs x).size : Int) := by have := HXS.out; omega
      have hpv : plainTo x k = v := by rw [hkx, plain_end, HV.out]
      rw [hpv]
      clear hkx hpv hlt hq
      have hX := fun w hE => Lib.hid (scan_any x (by omega) w hE)
      have hnm := fun w => Lib.hid (name_calls x (by omega) w)
      have hnu := fun w hE => Lib.hid (number_calls x (by omega) w hE)
      have hcs := Lib.hid (scan_cases x hlx)
      generalize scanL x = X at *
      generalize isName x = nb at *
      generalize numL x = no at *
      obtain ⟨a, i, g⟩ := X
      simp only at hX
      cases v
      case false =>
        have hq0 : q = [] := by rw [HQ.out]; rfl
        subst hq0
        have e0 : (bs []).toList.isEmpty = true := emp_nil
        have e1 : (!(bs []).toList.isEmpty) = false := by rw [e0]; rfl
        have hE3 := hE2
        have hb03 := hb02
        clear hE2 hb02 HQ HV
        go_wp2_with fail
        refine (hX _ hE3).out.mono ?_
        rintro e wa ⟨va, rfl, ha, hba⟩
        have hEa := hE3.next hba
        have hb04 := hb03.trans (hba.mono hb03.size)
        clear hX hE3 hb03
        go_wp2_with fail
        refine (hnu _ hEa).out.mono ?_
        rintro e wb ⟨rfl, hbb⟩
        have hb05 := hb04.trans (hbb.mono hb04.size)
        have ha5 := ha.next hbb
        clear ha hb04 hnu hEa
        go_wp2_with fail
        refine (hnm _).out.mono ?_
        rintro e wc ⟨rfl, hbc⟩
        have hb06 := hb05.trans (hbc.mono hb05.size)
        have ha6 := ha5.next hbc
        clear ha5 hb05 hnm
        obtain ⟨pa, ca, rfl⟩ := ha6.len
        rcases hcs.out with ⟨rfl, rfl, hX, hl20⟩ | ⟨m, rfl, rfl, hm1, hm2, hX⟩ | ⟨rfl, rfl, hg⟩ | ⟨rfl, rfl, rfl, hl⟩ | ⟨rfl, rfl, rfl, t, rfl, ht⟩ | ⟨rfl, rfl, rfl, t, rfl, ht, hk0, hk1⟩
        · simp only [Prod.mk.injEq] at hX
          obtain ⟨rfl, rfl, rfl⟩ := hX
          obtain ⟨b1, o1, rfl, hlb1, p0, p1, p2, p3⟩ := ha6.at 0 (by simp)
          simp only [List.getElem_cons_zero, Nat.zero_mul, Nat.add_zero] at p0 p1 p2 p3
          have hsz : (bs x).size ≤ 20 := by rw [HXS.out]; exact hl20
          have eT : ((bs x).toList == (bs x).toList) = true := by simp
          clear hcs ha6
          go_wp2
          go_ret
          exact ⟨rfl, hb06⟩
        · simp only [Prod.mk.injEq] at hX
          obtain ⟨rfl, rfl, rfl⟩ := hX
          obtain ⟨b1, o1, rfl, hlb1, p0, p1, p2, p3⟩ := ha6.at 0 (by simp)
          simp only [List.getElem_cons_zero, Nat.zero_mul, Nat.add_zero] at p0 p1 p2 p3
          have eT : ((bs x).toList == (bs x).toList) = true := by simp
          have em : (m == m) = true := by simp
          clear hcs ha6
          go_wp2
          go_ret
          exact ⟨rfl, hb06⟩
        · have hg2 : (g != 0) = true := bne_iff_ne.2 hg
          clear hcs ha6
          go_wp2
          go_ret
          exact ⟨rfl, hb06⟩
        · have hl2 : ((a.length : Int) != 1) = true := bne_iff_ne.2 (by omega)
          clear hcs ha6
          go_wp2
          go_ret
          exact ⟨rfl, hb06⟩
        · obtain ⟨b1, o1, rfl, hlb1, p0, p1, p2, p3⟩ := ha6.at 0 (by simp)
          simp only [List.getElem_cons_zero, Nat.zero_mul, Nat.add_zero] at p0 p1 p2 p3
          have eT : ((bs t.text).toList == (bs x).toList) = false := by rw [bs_ne_iff]; exact decide_eq_false ht
          clear hcs ha6
          go_wp2
          go_ret
          exact ⟨rfl, hb06⟩
        · obtain ⟨b1, o1, rfl, hlb1, p0, p1, p2, p3⟩ := ha6.at 0 (by simp)
          simp only [List.getElem_cons_zero, Nat.zero_mul, Nat.add_zero] at p0 p1 p2 p3
          have eT : ((bs t.text).toList == (bs x).toList) = true := by rw [bs_ne_iff]; exact decide_eq_true ht
          have e0 : (t.kind == 0) = false := beq_eq_false_iff_ne.2 hk0
          have e1 : (t.kind == 1) = false := beq_eq_false_iff_ne.2 hk1
          clear hcs ha6 ht hk0 hk1
          by_cases hp : t.pos = 0
          · have eP : (t.pos == 0) = true := beq_iff_eq.2 hp
            clear hp
            go_wp2
            go_ret
            exact ⟨rfl, hb06⟩
          · have eP : (t.pos == 0) = false := beq_eq_false_iff_ne.2 hp
            clear hp
            go_wp2
            go_ret
            exact ⟨rfl, hb06⟩
      case true =>
        have hq0 : q = quotL x := by rw [HQ.out]; rfl
        have hsc := scan_quot x HV.out.symm
        rw [← hq0] at hsc
        have hql : q.length ≤ 4000 := by
          have h1 := (esc_len x).2
          have h2 : x.length ≤ 400 := by have := HV.out.symm; unfold isVal at this; simp only [Bool.and_eq_true, decide_eq_true_eq] at this; exact this.1
          rw [hq0]; unfold quotL; simp; omega
        have hS := fun w hE => Lib.hid (scan_lit q hql hsc w hE)
        clear hq0 hsc HQ HV
        go_wp2_with fail
        refine (hS _ hE2).out.mono ?_
        rintro e w3 ⟨vq, rfl, hvq, hb3⟩
        have hE3 := hE2.next hb3
        have hb03 := hb02.trans (hb3.mono hb02.size)
        obtain ⟨pq, cq, rfl⟩ := hvq.len
        obtain ⟨bq, oq, rfl, hlbq, p0, p1, p2, p3⟩ := hvq.at 0 (by simp)
        simp only [List.getElem_cons_zero, Nat.zero_mul, Nat.add_zero] at p0 p1 p2 p3
        have hE3 := hE3
        clear hE2 hb02 hS hvq
        go_wp2_with fail
        refine (hX _ hE3).out.mono ?_
        rintro e wa ⟨va, rfl, ha, hba⟩
        have hEa := hE3.next hba
        have hb04 := hb03.trans (hba.mono hb03.size)
        clear hX hE3 hb03
        go_wp2_with fail
        refine (hnu _ hEa).out.mono ?_
        rintro e wb ⟨rfl, hbb⟩
        have hb05 := hb04.trans (hbb.mono hb04.size)
        have ha5 := ha.next hbb
        clear ha hb04 hnu hEa
        go_wp2_with fail
        refine (hnm _).out.mono ?_
        rintro e wc ⟨rfl, hbc⟩
        have hb06 := hb05.trans (hbc.mono hb05.size)
        have ha6 := ha5.next hbc
        clear ha5 hb05 hnm
        obtain ⟨pa, ca, rfl⟩ := ha6.len
        rcases hcs.out with ⟨rfl, rfl, hX, hl20⟩ | ⟨m, rfl, rfl, hm1, hm2, hX⟩ | ⟨rfl, rfl, hg⟩ | ⟨rfl, rfl, rfl, hl⟩ | ⟨rfl, rfl, rfl, t, rfl, ht⟩ | ⟨rfl, rfl, rfl, t, rfl, ht, hk0, hk1⟩
        · simp only [Prod.mk.injEq] at hX
          obtain ⟨rfl, rfl, rfl⟩ := hX
          obtain ⟨b1, o1, rfl, hlb1, p0, p1, p2, p3⟩ := ha6.at 0 (by simp)
          simp only [List.getElem_cons_zero, Nat.zero_mul, Nat.add_zero] at p0 p1 p2 p3
          have hsz : (bs x).size ≤ 20 := by rw [HXS.out]; exact hl20
          have eT : ((bs x).toList == (bs x).toList) = true := by simp
          clear hcs ha6
          go_wp2
          go_ret
          exact ⟨rfl, hb06⟩
        · simp only [Prod.mk.injEq] at hX
          obtain ⟨rfl, rfl, rfl⟩ := hX
          obtain ⟨b1, o1, rfl, hlb1, p0, p1, p2, p3⟩ := ha6.at 0 (by simp)
          simp only [List.getElem_cons_zero, Nat.zero_mul, Nat.add_zero] at p0 p1 p2 p3
          have eT : ((bs x).toList == (bs x).toList) = true := by simp
          have em : (m == m) = true := by simp
          clear hcs ha6
          go_wp2
          go_ret
          exact ⟨rfl, hb06⟩
        · have hg2 : (g != 0) = true := bne_iff_ne.2 hg
          clear hcs ha6
          go_wp2
          go_ret
          exact ⟨rfl, hb06⟩
        · have hl2 : ((a.length : Int) != 1) = true := bne_iff_ne.2 (by omega)
          clear hcs ha6
          go_wp2
          go_ret
          exact ⟨rfl, hb06⟩
        · obtain ⟨b1, o1, rfl, hlb1, p0, p1, p2, p3⟩ := ha6.at 0 (by simp)
          simp only [List.getElem_cons_zero, Nat.zero_mul, Nat.add_zero] at p0 p1 p2 p3
          have eT : ((bs t.text).toList == (bs x).toList) = false := by rw [bs_ne_iff]; exact decide_eq_false ht
          clear hcs ha6
          go_wp2
          go_ret
          exact ⟨rfl, hb06⟩
        · obtain ⟨b1, o1, rfl, hlb1, p0, p1, p2, p3⟩ := ha6.at 0 (by simp)
          simp only [List.getElem_cons_zero, Nat.zero_mul, Nat.add_zero] at p0 p1 p2 p3
          have eT : ((bs t.text).toList == (bs x).toList) = true := by rw [bs_ne_iff]; exact decide_eq_true ht
          have e0 : (t.kind == 0) = false := beq_eq_false_iff_ne.2 hk0
          have e1 : (t.kind == 1) = false := beq_eq_false_iff_ne.2 hk1
          clear hcs ha6 ht hk0 hk1
          by_cases hp : t.pos = 0
          · have eP : (t.pos == 0) = true := beq_iff_eq.2 hp
            clear hp
            go_wp2
            go_ret
            exact ⟨rfl, hb06⟩
          · have eP : (t.pos == 0) = false := beq_eq_false_iff_ne.2 hp
            clear hp
            go_wp2
            go_ret
            exact ⟨rfl, hb06⟩
theorem quotes_any (s : ByteArray) (hs : s.size ≤ maxLen) (w : World) (hE : Env w) : Calls Tryd.prog 7 #[.string s] w (Tpost w) := by
  unfold maxLen at hs
  have hl : s.data.toList.length ≤ 9223372036854775807 := by rw [← Lib.size_eq]; exact hs
  rw [← bs_of s]
  exact quotes_calls _ hl w hE
end Go.Proofs.YtgcibbfoekfakaaDoor
