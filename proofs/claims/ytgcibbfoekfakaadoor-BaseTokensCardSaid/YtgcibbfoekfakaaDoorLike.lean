/- LikeTokens, and BaseTokens' contract. -/
import Derived.Test.YtgcibbfoekfakaaDoorTkn
import Derived.Test.YtgcibbfoekfakaaDoorJoins
namespace Go.Proofs.YtgcibbfoekfakaaDoor
open Go.RowKit

/-- Two lists of tokens that are alike apart from their positions. -/
def Alike2 (a b : List Tk) : Prop := a.length = b.length ∧ ∀ (i : Nat) (t : Tk), a[i]? = some t → ∃ p : Int, b[i]? = some ⟨t.kind, t.text, t.n, p⟩
set_option maxHeartbeats 1000000 in
theorem like_calls (u v : Value) (a b : List Tk) (w : World) (hu : IsToks u a w) (hv : IsToks v b w) (hab : Alike2 a b) (hn : a.length ≤ 4294967296) :
    Calls Tryd.prog 21 #[u, v] w (Qpost (.bool true) w) := by
  obtain ⟨hl, hat⟩ := hab
  obtain ⟨pa, ca, rfl⟩ := hu.len
  obtain ⟨pb, cb, rfl⟩ := hv.len
  rw [← hl] at hv ⊢
  have hlI : ((a.length : Int) != (a.length : Int)) = false := by simp
  have HAT := Lib.hid hat
  have HL := Lib.hid hl
  clear hat hl
  go_enter Tryd.func21, Tryd.ntmps21
  go_wp2
  go_loopw [5] (fun i wr => ∃ k m : Nat, k ≤ a.length ∧ i = .int .i64 (k : Int) ∧ wr = w.drewN m) (fun i _ => a.length - (intOf i).toNat)
  case atStart => exact ⟨0, 0, Nat.zero_le _, rfl, rfl⟩
  case round =>
    obtain ⟨k, m, hk, rfl, rfl⟩ := hrel
    by_cases hlt : k < a.length
    · obtain ⟨b1, o1, rfl, hlb1, hv1⟩ := hu.at k hlt
      have hu2 : IsToks (.slice pb b.length cb) b w := by rw [← HL.out]; exact hv
      obtain ⟨b2, o2, rfl, hlb2, hv2⟩ := hu2.at k (by rw [← HL.out]; exact hlt)
      obtain ⟨p, hp⟩ := HAT.out k _ (List.getElem?_eq_getElem hlt)
      have hb2 : b[k]'(by rw [← HL.out]; exact hlt) = ⟨(a[k]'hlt).kind, (a[k]'hlt).text, (a[k]'hlt).n, p⟩ := by
        have := List.getElem?_eq_getElem (show k < b.length by rw [← HL.out]; exact hlt)
        rw [this] at hp
        exact Option.some.inj hp
      rw [hb2] at hv2
      generalize a[k]'hlt = tt at *
      obtain ⟨p0, p1, p2, p3⟩ := hv1
      obtain ⟨q0, q1, q2, q3⟩ := hv2
      simp only at q0 q1 q2 q3
      have e0 : (tt.kind != tt.kind) = false := by simp
      have e2 : (tt.n != tt.n) = false := by simp
      have e1 : ((bs tt.text).toList != (bs tt.text).toList) = false := by simp
      have hjI : (k : Int) < (a.length : Int) := by omega
      clear hb2 hp hu hv hu2
      go_wp2
      go_quiet (fail)
      go_wp2
      go_roundw
      case rel => exact ⟨k + 1, _, by omega, by go_num, rfl⟩
      case measure => simp [intOf]; omega
    · have hjI : ¬ (k : Int) < (a.length : Int) := by omega
      go_wp2
      go_ret
      exact ⟨rfl, m, rfl⟩
theorem alike_rel (k : Nat) (L : List Tk) : Alike2 L (relF k L) := ⟨(relF_len k L).symm, fun i t h => relF_get k L i t h⟩
theorem good_text {t : Tk} (_ : GoodTk t) : t.text.length ≤ (tokS t).length := by
  unfold tokS
  split
  · have := (esc_len t.text).1
    simp [quotL]; omega
  · exact Nat.le_refl _
theorem prF_mem : ∀ (b : Bool) (L : List Tk) (t : Tk), t ∈ L → (tokS t).length ≤ (prF b L).length
  | b, [], t, h => by cases h
  | true, a :: r, t, h => by
    rw [prF, List.length_append]
    rcases List.mem_cons.1 h with rfl | h
    · omega
    · have := prF_mem false r t h; omega
  | false, a :: r, t, h => by
    rw [prF, List.length_cons, List.length_append]
    rcases List.mem_cons.1 h with rfl | h
    · omega
    · have := prF_mem false r t h; omega
set_option maxHeartbeats 4000000 in
set_option maxRecDepth 100000 in
theorem tokens_calls (s : List UInt8) (hs : s.length ≤ 9223372036854775807) (w : World) (hE : Env w) :
    Calls Tryd.prog 4 #[.string (bs s)] w (Tpost w) := by
  have hc1 := fun w => Lib.hid (cut_calls s hs w)
  have hlx : (s.take 900).length ≤ 900 := by rw [List.length_take]; omega
  generalize s.take 900 = x at *
  have hX := fun w hE => Lib.hid (scan_any x (by omega) w hE)
  have hbx := (scanL_bounds x hlx).2.2
  have hgood := scanL_good x
  have hlen := scanL_len x hlx
  have hbad : (scanL x).2.2 ≠ 0 → (scanL x).1 = [] := by rw [scanL_short (by omega)]; exact scanL_bad
  generalize scanL x = X at *
  obtain ⟨a, i, g⟩ := X
  simp only at hX hbx hgood hlen hbad
  have hsp := scanL_print a hgood (by omega)
  have hPr := fun u w hE hu => Lib.hid (print_calls u a w hE hu (by omega) (fun t ht => by have := good_text (hgood t ht); have := prF_mem true a t ht; unfold printL at hlen; omega) (by omega))
  have hS2 := fun w hE => Lib.hid (scan_any (printL a) (by omega) w hE)
  rw [hsp] at hS2
  simp only at hS2
  have hrp : printL (relF 0 a) = printL a := relF_print true 0 a
  have hrl : (relF 0 a).length = a.length := relF_len 0 a
  have hP2 := fun u w hE hu => Lib.hid (print_calls u (relF 0 a) w hE hu (by omega) (fun t ht => by
    have h1 : (tokS t).length ≤ (prF true (relF 0 a)).length := prF_mem true _ t ht
    have h2 : t.text.length ≤ (tokS t).length := by
      unfold tokS
      split
      · have := (esc_len t.text).1
        simp [quotL]; omega
      · exact Nat.le_refl _
    have h3 : (prF true (relF 0 a)).length = (printL a).length := by rw [← hrp]; rfl
    omega) (by rw [hrp]; omega))
  rw [hrp] at hP2
  have hlk := fun u v w hu hv => Lib.hid (like_calls u v a (relF 0 a) w hu hv (alike_rel 0 a) (by omega))
  have hq : ((bs (printL a)).toList == (bs (printL a)).toList) = true := by simp
  have HB := Lib.hid hbad
  clear hgood hsp hbad hrp
  by_cases h0 : g = 0
  · subst h0
    go_enter Tryd.func4, Tryd.ntmps4
    go_wp2_with fail
    refine (saneTokens w hE).mono ?_
    rintro e w1 ⟨rfl, hb1⟩
    have hE1 := hE.next hb1
    go_wp2_with fail
    refine (hc1 w1).out.mono ?_
    rintro e w2 ⟨rfl, rfl⟩
    go_wp2_with fail
    refine (hX w1 hE1).out.mono ?_
    rintro e w2 ⟨va, rfl, ha, hb2⟩
    have hE2 := hE1.next hb2
    have hb02 := hb1.trans (hb2.mono hb1.size)
    clear hb1 hb2 hE1
    go_wp2_with fail
    refine (hPr va w2 hE2 ha).out.mono ?_
    rintro e w3 ⟨rfl, hb3⟩
    have hE3 := hE2.next hb3
    have hb03 := hb02.trans (hb3.mono hb02.size)
    have ha3 := ha.next hb3
    go_wp2_with fail
    refine (hS2 w3 hE3).out.mono ?_
    rintro e w4 ⟨vb, rfl, hv, hb4⟩
    have hE4 := hE3.next hb4
    have hb04 := hb03.trans (hb4.mono hb03.size)
    have ha4 := ha3.next hb4
    clear ha ha3 hb3 hb4 hE2 hE3 hb02 hb03
    go_wp2_with fail
    refine (hlk va vb w4 ha4 hv).out.mono ?_
    rintro e w5 ⟨rfl, m, hw⟩
    subst hw
    have hd5 : Below w4.heap.size w4 (w4.drewN m) := ⟨rfl, rfl, rfl, Nat.le_refl _, fun _ _ => rfl⟩
    have hE5 := hE4.next hd5
    have hv5 := hv.next hd5
    have hb05 := hb04.trans (hd5.mono hb04.size)
    go_wp2_with fail
    refine (hP2 vb _ hE5 hv5).out.mono ?_
    rintro e w6 ⟨rfl, hb6⟩
    have hb06 := hb05.trans (hb6.mono hb05.size)
    go_wp2
    go_ret
    exact ⟨rfl, hb06⟩
  · have ha0 : a = [] := HB.out h0
    subst ha0
    have hg2 : (g != 0) = true := bne_iff_ne.2 h0
    go_enter Tryd.func4, Tryd.ntmps4
    go_wp2_with fail
    refine (saneTokens w hE).mono ?_
    rintro e w1 ⟨rfl, hb1⟩
    have hE1 := hE.next hb1
    go_wp2_with fail
    refine (hc1 w1).out.mono ?_
    rintro e w2 ⟨rfl, rfl⟩
    go_wp2_with fail
    refine (hX w1 hE1).out.mono ?_
    rintro e w2 ⟨va, rfl, ha, hb2⟩
    have hb02 := hb1.trans (hb2.mono hb1.size)
    obtain ⟨pa, ca, rfl⟩ := ha.len
    go_wp2
    go_ret
    exact ⟨rfl, hb02⟩
theorem tokens_any (s : ByteArray) (hs : s.size ≤ maxLen) (w : World) (hE : Env w) : Calls Tryd.prog 4 #[.string s] w (Tpost w) := by
  unfold maxLen at hs
  have hl : s.data.toList.length ≤ 9223372036854775807 := by rw [← Lib.size_eq]; exact hs
  rw [← bs_of s]
  exact tokens_calls _ hl w hE
end Go.Proofs.YtgcibbfoekfakaaDoor
