/- BaseJoins' contract. -/
import Derived.Test.YtgcibbfoekfakaaDoorJoin3
import Derived.Test.YtgcibbfoekfakaaDoorSane
namespace Go.Proofs.YtgcibbfoekfakaaDoor
open Go.RowKit

theorem scanF_bounds (K : Nat) : ∀ (f k : Nat) (l : List UInt8) (acc : List Tk), (∀ t ∈ acc, 0 ≤ t.pos ∧ t.pos ≤ K) → k + l.length ≤ K → acc.length + l.length ≤ K →
    (∀ t ∈ (scanF f k l acc).1, 0 ≤ t.pos ∧ t.pos ≤ K) ∧ (scanF f k l acc).2.1 ≤ K ∧ (scanF f k l acc).1.length ≤ K
  | 0, k, l, acc, h1, h2, h3 => by simp only [scanF]; exact ⟨h1, by omega, by omega⟩
  | f + 1, k, l, acc, h1, h2, h3 => by
    rw [scanF]
    by_cases hl : l = []
    · rw [if_pos hl]; exact ⟨h1, by simp, by simp; omega⟩
    · rw [if_neg hl]
      simp only
      by_cases he : (tokF l).err ≠ 0
      · rw [if_pos he]; exact ⟨by simp, by simp; omega, by simp⟩
      · rw [if_neg he]
        obtain ⟨c, r, rfl⟩ := List.exists_cons_of_ne_nil hl
        have ht := tok_size c r (by simpa using he)
        have hs := sk_le false ((c :: r).drop (tokF (c :: r)).size)
        have hd : ((c :: r).drop (tokF (c :: r)).size).length = (c :: r).length - (tokF (c :: r)).size := List.length_drop
        refine scanF_bounds K f _ _ _ ?_ (by rw [List.length_drop]; omega) (by rw [List.length_drop, List.length_append]; simp only [List.length_cons, List.length_nil] at *; omega)
        intro t htm
        rcases List.mem_append.1 htm with h | h
        · exact h1 t h
        · simp at h
          subst h
          simp only
          omega
theorem scanL_bounds (l : List UInt8) (hl : l.length ≤ 900) : (∀ t ∈ (scanL l).1, 0 ≤ t.pos ∧ t.pos ≤ (900 : Nat)) ∧ (scanL l).2.1 ≤ 900 ∧ (scanL l).1.length ≤ 900 := by
  have hs := sk_le false l
  rw [scanL_short (by omega)]
  exact scanF_bounds 900 _ _ _ _ (by simp) (by rw [List.length_drop]; omega) (by rw [List.length_drop]; simp; omega)

theorem below_drewN {B : Nat} {w w' : World} (h : Below B w w') (n : Nat) : Below B w (w'.drewN n) := ⟨h.os, h.tape, h.output, h.size, h.block⟩
/-- What the law leaves. -/
def Tpost (w : World) (e : Ending) (w' : World) : Prop := e = .returned (.bool true) ∧ Below w.heap.size w w'
theorem scan_any (l : List UInt8) (hl : l.length ≤ 4000) (w : World) (hE : Env w) :
    Calls Tryd.prog 10 #[.string (bs l)] w (ScanP (scanL l).1 (scanL l).2.1 (scanL l).2.2 w) := scan_lit l hl rfl w hE

set_option maxHeartbeats 4000000 in
set_option maxRecDepth 100000 in
theorem joins_calls (s t : List UInt8) (hs : s.length ≤ 9223372036854775807) (ht : t.length ≤ 9223372036854775807) (w : World) (hE : Env w) :
    Calls Tryd.prog 5 #[.string (bs s), .string (bs t)] w (Tpost w) := by
  have hc1 := fun w => Lib.hid (cut_calls s hs w)
  have hc2 := fun w => Lib.hid (cut_calls t ht w)
  have hlx : (s.take 900).length ≤ 900 := by rw [List.length_take]; omega
  have hly : (t.take 900).length ≤ 900 := by rw [List.length_take]; omega
  generalize s.take 900 = x at *
  generalize t.take 900 = y at *
  have hadd : bs x ++ { data := #[10] } ++ bs y = bs (x ++ 10 :: y) := by
    rw [show ({ data := #[10] } : ByteArray) = bs [10] from rfl, bs_append, bs_append, List.append_assoc]; rfl
  have hxs : (bs x).size = x.length := bs_size x
  have hys : (bs y).size = y.length := bs_size y
  have hboth := scan_both x y hlx hly
  have hbx := scanL_bounds x hlx
  have hby := scanL_bounds y hly
  have hX := fun w hE => Lib.hid (scan_any x (by omega) w hE)
  have hY := fun w hE => Lib.hid (scan_any y (by omega) w hE)
  have hZ := fun w hE => Lib.hid (scan_any (x ++ 10 :: y) (by simp; omega) w hE)
  obtain ⟨Z, hZe⟩ : ∃ Z, Z = scanL (x ++ 10 :: y) := ⟨_, rfl⟩
  rw [← hZe] at hZ
  rw [hboth] at hZe
  clear hboth
  have hax : (scanL x).2.2 ≠ 0 → (scanL x).1 = [] := by rw [scanL_short (by omega)]; exact scanL_bad
  generalize scanL x = X at *
  generalize scanL y = Y at *
  obtain ⟨a, i, ex⟩ := X
  obtain ⟨b, k, ey⟩ := Y
  obtain ⟨c, n, g⟩ := Z
  simp only at hX hY hZ hbx hby hax hZe
  have HZ := hZ
  have HAX := Lib.hid hax
  have HE := Lib.hid hZe
  clear hZ hax hZe
  have hsum : (bs x).size ≤ 900 := by omega
  have hsum2 : (bs y).size ≤ 900 := by omega
  have HAD := Lib.hid hadd
  have HBX := Lib.hid hbx
  have HBY := Lib.hid hby
  clear hbx hby hadd hxs hys
  go_enter Tryd.func5, Tryd.ntmps5
  go_wp2_with fail
  refine (saneTokens w hE).mono ?_
  rintro e w1 ⟨rfl, hb1⟩
  have hE1 := hE.next hb1
  go_wp2_with fail
  refine (hc1 w1).out.mono ?_
  rintro e w2 ⟨rfl, rfl⟩
  go_wp2_with fail
  refine (hc2 w1).out.mono ?_
  rintro e w2 ⟨rfl, rfl⟩
  go_wp2_with fail
  refine (hX w1 hE1).out.mono ?_
  rintro e w2 ⟨va, rfl, ha, hb2⟩
  have hE2 := hE1.next hb2
  have hb02 := hb1.trans (hb2.mono hb1.size)
  go_wp2_with fail
  refine (hY w2 hE2).out.mono ?_
  rintro e w3 ⟨vb, rfl, hbb, hb3⟩
  have hE3 := hE2.next hb3
  have ha3 := ha.next hb3
  have hb03 := hb02.trans (hb3.mono hb02.size)
  clear ha hb1 hb2 hb3 hb02 hE1 hE2
  go_wp2_with fail
  rw [HAD.out]
  refine (HZ w3 hE3).out.mono ?_
  rintro e w4 ⟨vc, rfl, hcc, hb4⟩
  have ha4 := ha3.next hb4
  have hb4' := hbb.next hb4
  have hb04 := hb03.trans (hb4.mono hb03.size)
  clear ha3 hbb hb4 hb03 hE3 hX hY HZ hc1 hc2
  obtain ⟨pa, ca, rfl⟩ := ha4.len
  obtain ⟨pb, cb, rfl⟩ := hb4'.len
  obtain ⟨pc, cc, rfl⟩ := hcc.len
  by_cases hex : ex = 0
  · have h1 := HE.out
    rw [if_pos hex] at h1
    by_cases hey : ey = 0
    · rw [if_pos hey, if_pos hey] at h1
      simp only [Prod.mk.injEq] at h1
      obtain ⟨h1, h2, h3⟩ := h1
      subst hex hey h2 h3
      have HC := Lib.hid h1
      have hcl : c.length = a.length + b.length := by rw [h1]; simp
      have hA := HBX.out.2.2
      have hB := HBY.out.2.2
      have hclI : ((c.length : Int) != (a.length : Int) + (b.length : Int)) = false := by rw [hcl]; simp
      clear h1 HE HAX
      have hsx : ((bs x).size : Int) = (x.length : Int) := by rw [bs_size]
      have HSX := Lib.hid hsx
      clear hsx
      go_wp2_with fail
      go_loopw [17] (fun i wr => ∃ j : Nat, j ≤ c.length ∧ i = .int .i64 j ∧ Below w4.heap.size w4 wr) (fun i _ => c.length - (intOf i).toNat)
      case atStart => exact ⟨0, Nat.zero_le _, rfl, Below.refl _ _⟩
      case round =>
        obtain ⟨j, hj, rfl, hbr⟩ := hrel
        by_cases hlt : j < c.length
        · obtain ⟨b1, o1, rfl, hlb1, hv1⟩ := (hcc.next hbr).at j hlt
          by_cases hja : j < a.length
          · obtain ⟨b2, o2, rfl, hlb2, hv2⟩ := (ha4.next hbr).at j hja
            have e : c[j]'hlt = a[j]'hja := by simp only [HC.out]; rw [List.getElem_append_left hja]
            rw [e] at hv1
            generalize a[j]'hja = tt at *
            obtain ⟨p0, p1, p2, p3⟩ := hv1
            obtain ⟨q0, q1, q2, q3⟩ := hv2
            have hjI : (j : Int) < (c.length : Int) := by omega
            have hjI2 : (j : Int) < (a.length : Int) := by omega
            have hbr2 := hbr.alloc hbr.size (.cells #[.int .i64 tt.kind, .string (bs tt.text), .int .i64 tt.n, .int .i64 tt.pos] 25)
            clear e ha4 hb4' hcc
            go_wp2
            go_quiet (fail)
            go_wp2
            go_roundw
            case rel => exact ⟨j + 1, by omega, by go_num, below_drewN hbr2 _⟩
            case measure => simp [intOf]; omega
          · obtain ⟨m, rfl⟩ : ∃ m, j = a.length + m := ⟨j - a.length, by omega⟩
            have hmb : m < b.length := by omega
            obtain ⟨b2, o2, rfl, hlb2, hv2⟩ := (hb4'.next hbr).at m hmb
            have e : c[a.length + m]'hlt = shT (x.length + 1) (b[m]'hmb) := by
              simp only [HC.out]
              rw [List.getElem_append_right (by omega)]
              simp
            rw [e] at hv1
            have hpos := HBY.out.1 _ (List.getElem_mem hmb)
            generalize b[m]'hmb = tt at *
            obtain ⟨p0, p1, p2, p3⟩ := hv1
            obtain ⟨q0, q1, q2, q3⟩ := hv2
            simp only [shT] at p0 p1 p2 p3
            have hpe : tt.pos + ((x.length + 1 : Nat) : Int) = tt.pos + ((bs x).size : Int) + 1 := by have := HSX.out; omega
            rw [hpe] at p3
            obtain ⟨hp1, hp2⟩ := hpos
            have hjI : ((a.length + m : Nat) : Int) < (c.length : Int) := by omega
            have hjI2 : ¬ ((a.length + m : Nat) : Int) < (a.length : Int) := by omega
            have hjm : ((a.length + m : Nat) : Int) - (a.length : Int) = (m : Int) := by omega
            have hjm2 : (a.length : Int) + (m : Int) - (a.length : Int) = (m : Int) := by omega
            have hmI : (m : Int) < (b.length : Int) := by omega
            have hbr2 := hbr.alloc hbr.size (.cells #[.int .i64 tt.kind, .string (bs tt.text), .int .i64 tt.n, .int .i64 (tt.pos + ((bs x).size : Int) + 1)] 25)
            have hz0 : (0 : Int) ≤ (a.length : Int) + (m : Int) := by omega
            have hz1 : (a.length : Int) + (m : Int) < (a.length : Int) + (b.length : Int) := by omega
            have hz2 : ((a.length : Int) + (m : Int)).toNat = a.length + m := by omega
            clear e ha4 hb4' hcc hpe
            go_wp2
            go_quiet (fail)
            clear hz2 hjm hjm2
            go_wp2
            go_roundw
            case rel => exact ⟨a.length + m + 1, by omega, by go_num, below_drewN hbr2 _⟩
            case measure => simp [intOf]; omega
        · have hjI : ¬ (j : Int) < (c.length : Int) := by omega
          go_wp2
          go_ret
          exact ⟨rfl, hb04.trans (hbr.mono hb04.size)⟩
    · rw [if_neg hey, if_neg hey] at h1
      simp only [Prod.mk.injEq] at h1
      obtain ⟨h1, h2, h3⟩ := h1
      subst hex h1 h2 h3
      have hey2 : (g != 0) = true := bne_iff_ne.2 hey
      have hk := HBY.out.2.1
      have hks : (k : Int) + ((x.length : Int) + 1) = ((bs x).size : Int) + 1 + (k : Int) := by rw [bs_size]; omega
      clear HE HAX
      go_wp2
      go_ret
      exact ⟨ret_b (by simp), hb04⟩
  · have h1 := HE.out
    rw [if_neg hex] at h1
    simp only [Prod.mk.injEq] at h1
    obtain ⟨h1, h2, h3⟩ := h1
    have h0 : a = [] := HAX.out hex
    subst h0 h1 h2 h3
    have hex2 : (g != 0) = true := bne_iff_ne.2 hex
    clear HE HAX
    go_wp2
    go_ret
    exact ⟨ret_b (by simp), hb04⟩
end Go.Proofs.YtgcibbfoekfakaaDoor
