/- BaseAgain: if a reader reads a value at the beginning without failing, its encoding is exactly the bytes that were read. The call returns true for every string and kind. -/
import Derived.Test.YtgpeingndefacaaDoorSane
namespace Go.Proofs.YtgpeingndefacaaDoor
open Go.RowKit

def kindF (k : Int) : Int := if k.tmod 5 < 0 then k.tmod 5 + 5 else k.tmod 5
theorem kindF_range (k : Int) : kindF k = 0 ∨ kindF k = 1 ∨ kindF k = 2 ∨ kindF k = 3 ∨ kindF k = 4 := by
  unfold kindF
  have h1 := Int.tmod_lt_of_pos k (show (0 : Int) < 5 by decide)
  have h3 := Int.lt_tmod_of_pos k (show (0 : Int) < 5 by decide)
  generalize k.tmod 5 = m at *
  split <;> omega

set_option maxRecDepth 100000 in
theorem kind_calls (k : Int) (hk : isInt k) (a b c d : Value) (w : World) :
    Calls Tryd.prog 22 #[.agg #[.int .i64 k, a, b, c, d]] w fun e w' => e = .returned (.int .i64 (kindF k)) ∧ Below w.heap.size w w' := by
  have h1 := hk.1
  have h2 := hk.2
  have h3 := Int.tmod_lt_of_pos k (show (0 : Int) < 5 by decide)
  have h4 := Int.lt_tmod_of_pos k (show (0 : Int) < 5 by decide)
  have hb : Below w.heap.size w (w.alloc (.cells #[.int .i64 k, a, b, c, d] 25)) := (Below.refl _ _).alloc (Nat.le_refl _) _
  by_cases hn : k.tmod 5 < 0
  · have H := Lib.hid (show kindF k = k.tmod 5 + 5 by unfold kindF; rw [if_pos hn])
    go_enter Tryd.func22, Tryd.ntmps22
    go_wp2
    go_ret
    exact ⟨ret_int (by rw [H.out]), hb⟩
  · have H := Lib.hid (show kindF k = k.tmod 5 by unfold kindF; rw [if_neg hn])
    go_enter Tryd.func22, Tryd.ntmps22
    go_wp2
    go_ret
    exact ⟨ret_int (by rw [H.out]), hb⟩
theorem kind_is (k : Int) (hk : isInt k) (j : Int) (hj : kindF k = j) (a b c d : Value) (w : World) :
    Calls Tryd.prog 22 #[.agg #[.int .i64 k, a, b, c, d]] w fun e w' => e = .returned (.int .i64 j) ∧ Below w.heap.size w w' := by
  rw [← hj]; exact kind_calls k hk a b c d w
/-- The law's end. -/
def Tpost (w : World) (e : Ending) (w' : World) : Prop := e = .returned (.bool true) ∧ Below w.heap.size w w'

set_option maxRecDepth 100000 in
theorem again_long (s : ByteArray) (hs : 400 < s.size) (hm : s.size ≤ 9223372036854775807) (what : Int) (w : World) (hE : Env w) :
    Calls Tryd.prog 6 #[.string s, .int .i64 what] w (Tpost w) := by
  go_enter Tryd.func6, Tryd.ntmps6
  go_wp2_with fail
  refine (saneCodes w hE).mono ?_
  rintro e w1 ⟨rfl, hb1⟩
  go_wp2
  go_ret
  exact ⟨rfl, hb1⟩

theorem rd_Left_failed (b : Nat) (w : World) (h : Rb b failed w) :
    Calls Tryd.prog 35 #[.pointer (some ⟨b, 0, none⟩)] w fun e w' => e = .returned (.int .i64 0) ∧ w = w' := rd_Left b failed w h
theorem rd_Done_failed (b : Nat) (w : World) (h : Rb b failed w) :
    Calls Tryd.prog 37 #[.pointer (some ⟨b, 0, none⟩)] w fun e w' => e = .returned (.bool false) ∧ w = w' := rd_Done b failed w h
theorem rd_Done_end (b : Nat) (w : World) (h : Rb b ([], false) w) :
    Calls Tryd.prog 37 #[.pointer (some ⟨b, 0, none⟩)] w fun e w' => e = .returned (.bool true) ∧ w = w' := rd_Done b _ w h
theorem rd_Left_end (b : Nat) (w : World) (h : Rb b ([], false) w) :
    Calls Tryd.prog 35 #[.pointer (some ⟨b, 0, none⟩)] w fun e w' => e = .returned (.int .i64 0) ∧ w = w' := rd_Left b _ w h

theorem textF_val (r : Rd) : (textF r).1.length ≤ r.1.length := by
  unfold textF
  have h1 := naturalF_len 58 r
  split
  · simp
  · simp only
    split
    · simp
    · simp only [List.length_take]; omega
theorem loopF_all {α : Type} (one : Rd → α × Rd) (P : α → Prop) (L : Nat) (h : ∀ r, r.1.length ≤ L → P (one r).1) (hl : ∀ r, (one r).2.1.length ≤ r.1.length) : ∀ (n : Nat) (r : Rd), r.1.length ≤ L → ∀ x ∈ (loopF one n r).1, P x
  | 0, r, _, x, hx => by simp [loopF] at hx
  | n + 1, r, hr, x, hx => by
    simp only [loopF] at hx
    split at hx
    · simp at hx
    · simp only [List.mem_cons] at hx
      rcases hx with rfl | hx
      · exact h r hr
      · exact loopF_all one P L h hl n _ (Nat.le_trans (hl r) hr) x hx
theorem listF_all {α : Type} (one : Rd → α × Rd) (P : α → Prop) (r : Rd) (h : ∀ q, q.1.length ≤ r.1.length → P (one q).1) (hl : ∀ q, (one q).2.1.length ≤ q.1.length) : ∀ x ∈ (listF one r).1, P x := by
  intro x hx
  unfold listF at hx
  simp only at hx
  split at hx
  · simp at hx
  · exact loopF_all one P r.1.length h hl _ _ (naturalF_len 91 r) x hx
theorem numsF_int (r : Rd) : ∀ x ∈ (numsF r).1, isInt x := listF_all intF isInt r (fun q _ => intF_int q) (fun q => digitsF_len 59 q)
theorem textsF_val (r : Rd) : ∀ x ∈ (textsF r).1, x.length ≤ r.1.length := listF_all textF (fun x => x.length ≤ r.1.length) r (fun q hq => Nat.le_trans (textF_val q) hq) textF_len
theorem listF_empty {α : Type} (one : Rd → α × Rd) (r : Rd) (h : (listF one r).2.2 = true) : (listF one r).1 = [] := by
  unfold listF at h ⊢
  simp only at h ⊢
  split
  · rfl
  · rename_i hz
    rw [if_neg hz] at h
    exact absurd h hz
theorem flat_ge {α : Type} (wr : α → List UInt8) (h : ∀ a, 1 ≤ (wr a).length) : ∀ (l : List α), l.length ≤ (l.flatMap wr).length
  | [] => by simp
  | a :: l => by
    have := flat_ge wr h l
    have := h a
    simp only [List.flatMap_cons, List.length_append, List.length_cons]; omega
theorem numsF_size (r : Rd) : (numsS (numsF r).1).length ≤ r.1.length + 22 := by
  cases h : (numsF r).2.2
  · have := congrArg List.length (numsF_read h).2
    simp only [List.length_append] at this; omega
  · rw [show (numsF r).1 = [] from listF_empty intF r h]
    simp [numsS, dec0]
theorem textsF_size (r : Rd) : (textsS (textsF r).1).length ≤ r.1.length + 22 := by
  cases h : (textsF r).2.2
  · have := congrArg List.length (textsF_read h).2
    simp only [List.length_append] at this; omega
  · rw [show (textsF r).1 = [] from listF_empty textF r h]
    simp [textsS, dec0]
theorem numsF_count (r : Rd) : (numsF r).1.length ≤ r.1.length + 22 := by
  have h1 := numsF_size r
  have h2 := flat_ge intS (fun a => by simp [intS]) (numsF r).1
  simp only [numsS, List.length_append, List.length_cons] at h1; omega
theorem textsF_count (r : Rd) : (textsF r).1.length ≤ r.1.length + 22 := by
  have h1 := textsF_size r
  have h2 := flat_ge textS (fun a => by simp only [textS, List.length_append, List.length_cons]; omega) (textsF r).1
  simp only [textsS, List.length_append, List.length_cons] at h1; omega

theorem again_whole (t s : List UInt8) (hs : s = t) : ((bs t).toList == (bs s).toList) = true := by
  rw [bs_ne_iff, hs]; simp
theorem again_end (t q s : List UInt8) (m : Nat) (hm : m = t.length) (hs : s = t ++ q) : ((bs t).toList == ((bs s).extract 0 (max 0 (min (m : Int) ((bs s).size : Int))).toNat).toList) = true := by
  have hz : (bs s).size = t.length + q.length := by rw [bs_size, hs]; simp
  have e : (max 0 (min (m : Int) ((bs s).size : Int))).toNat = t.length := by omega
  rw [e, bs_take, bs_ne_iff, hs]
  simp

set_option maxHeartbeats 1000000 in
set_option maxRecDepth 100000 in
theorem again_0_failed (s : List UInt8) (hs : s.length ≤ 400) (what : Int) (hw : isInt what) (hk : kindF what = 0) (w : World) (hE : Env w) (hf : (numF (s, false)).2 = failed) :
    Calls Tryd.prog 6 #[.string (bs s), .int .i64 what] w (Tpost w) := by
  have hsz : (bs s).size ≤ 400 := by rw [bs_size]; exact hs
  have hx : isInt (numF (s, false)).1 := by have h0 := naturalF_int 59 (s, false); exact ⟨by show _ ≤ (naturalF 59 (s, false)).1; omega, h0.2⟩
  have HK := Lib.hid hk
  have HF := Lib.hid hf
  clear hk hf
  go_enter Tryd.func6, Tryd.ntmps6
  go_wp2_with fail
  refine (saneCodes w hE).mono ?_
  rintro e w1 ⟨rfl, hb1⟩
  have hE1 := hE.next hb1
  go_wp2_with fail
  refine (open_reader s w1).mono ?_
  rintro e w2 ⟨rfl, hR2, hb2, hs2⟩
  have hE2 := hE1.next hb2
  have hs1 := hb1.size
  have hlo := hE1.lo
  have hb02 := hb1.trans (hb2.mono hs1)
  clear hb1 hb2 hE1
  go_wp2_with fail
  refine (kind_is what hw 0 HK.out _ _ _ _ w2).mono ?_
  rintro e w3 ⟨rfl, hb3⟩
  have hR3 := hR2.next hb3
  have hE3 := hE2.next hb3
  have hs3 := hb3.size
  have hb03 := hb02.trans (hb3.mono hb02.size)
  clear hb02 hb3 hE2
  go_wp2_with fail
  refine (rd_Num _ (s, false) w3 hE3 hR3 (by simp only; omega)).mono ?_
  rintro e w4 ⟨rfl, hR4, hg4⟩
  rw [HF.out] at hR4
  have hb04 : Below w.heap.size w w4 := hb03.grown hg4 (by omega) (fun k hk => by simp at hk; omega)
  have hE4 := hE3.only hg4 (by omega)
  have hs4 := hg4.size
  clear hb03 hg4 hE3
  go_wp2_with fail
  refine (base_Num _ hx w4 hE4).mono ?_
  rintro e w5 ⟨rfl, hb5⟩
  have hR5 := hR4.next hb5
  have hb05 := hb04.trans (hb5.mono hb04.size)
  clear hb04 hb5 hE4
  go_wp2_with fail
  refine (rd_Left_failed _ w5 hR5).mono ?_
  rintro e w6 ⟨rfl, rfl⟩
  go_wp2_with fail
  refine (rd_Done_failed _ w5 hR5).mono ?_
  rintro e w6 ⟨rfl, rfl⟩
  go_wp2
  go_ret
  exact ⟨rfl, hb05⟩

set_option maxHeartbeats 1000000 in
set_option maxRecDepth 100000 in
theorem again_0_good (s : List UInt8) (hs : s.length ≤ 400) (what : Int) (hw : isInt what) (hk : kindF what = 0) (w : World) (hE : Env w) (q : List UInt8) (hq : q ≠ []) (hf : (numF (s, false)).2 = (q, false)) (he : s = numS (numF (s, false)).1 ++ q) :
    Calls Tryd.prog 6 #[.string (bs s), .int .i64 what] w (Tpost w) := by
  have hsz : (bs s).size ≤ 400 := by rw [bs_size]; exact hs
  have hx : isInt (numF (s, false)).1 := by have h0 := naturalF_int 59 (s, false); exact ⟨by show _ ≤ (naturalF 59 (s, false)).1; omega, h0.2⟩
  have HF := Lib.hid hf
  have HK := Lib.hid hk
  have hlen : (bs s).size = (numS (numF (s, false)).1).length + q.length := by rw [bs_size]; conv => lhs; rw [he]; simp
  have hql : 0 < q.length := by
    cases q with
    | nil => exact absurd rfl hq
    | cons _ _ => simp
  have hq0 : ((q.length : Int) == 0) = false := by simp; omega
  have HE := Lib.hid he
  have HL := Lib.hid hlen
  clear hk hf he hlen hq
  go_enter Tryd.func6, Tryd.ntmps6
  go_wp2_with fail
  refine (saneCodes w hE).mono ?_
  rintro e w1 ⟨rfl, hb1⟩
  have hE1 := hE.next hb1
  go_wp2_with fail
  refine (open_reader s w1).mono ?_
  rintro e w2 ⟨rfl, hR2, hb2, hs2⟩
  have hE2 := hE1.next hb2
  have hs1 := hb1.size
  have hlo := hE1.lo
  have hb02 := hb1.trans (hb2.mono hs1)
  clear hb1 hb2 hE1
  go_wp2_with fail
  refine (kind_is what hw 0 HK.out _ _ _ _ w2).mono ?_
  rintro e w3 ⟨rfl, hb3⟩
  have hR3 := hR2.next hb3
  have hE3 := hE2.next hb3
  have hs3 := hb3.size
  have hb03 := hb02.trans (hb3.mono hb02.size)
  clear hb02 hb3 hE2
  go_wp2_with fail
  refine (rd_Num _ (s, false) w3 hE3 hR3 (by simp only; omega)).mono ?_
  rintro e w4 ⟨rfl, hR4, hg4⟩
  rw [HF.out] at hR4
  have hb04 : Below w.heap.size w w4 := hb03.grown hg4 (by omega) (fun k hk => by simp at hk; omega)
  have hE4 := hE3.only hg4 (by omega)
  have hs4 := hg4.size
  clear hb03 hg4 hE3
  go_wp2_with fail
  refine (base_Num _ hx w4 hE4).mono ?_
  rintro e w5 ⟨rfl, hb5⟩
  have hR5 := hR4.next hb5
  have hb05 := hb04.trans (hb5.mono hb04.size)
  clear hb04 hb5 hE4
  go_wp2_with fail
  refine (rd_Left _ _ w5 hR5).mono ?_
  rintro e w6 ⟨rfl, rfl⟩
  go_wp2_with fail
  refine (rd_Left _ _ w5 hR5).mono ?_
  rintro e w6 ⟨rfl, rfl⟩
  have hL2 := HL.out
  obtain ⟨m, hm⟩ : ∃ m, m = (numS (numF (s, false)).1).length := ⟨_, rfl⟩
  rw [← hm] at hL2
  have hn : (((bs s).size : Nat) : Int) - (q.length : Int) = (m : Int) := by omega
  have hm2 : m ≤ (bs s).size := by omega
  have HM := Lib.hid hm
  clear hm hL2
  go_wp2
  go_ret
  exact ⟨ret_bool (again_end _ q s m HM.out HE.out), hb05⟩

set_option maxHeartbeats 1000000 in
set_option maxRecDepth 100000 in
theorem again_0_whole (s : List UInt8) (hs : s.length ≤ 400) (what : Int) (hw : isInt what) (hk : kindF what = 0) (w : World) (hE : Env w) (hf : (numF (s, false)).2 = ([], false)) (he : s = numS (numF (s, false)).1) :
    Calls Tryd.prog 6 #[.string (bs s), .int .i64 what] w (Tpost w) := by
  have hsz : (bs s).size ≤ 400 := by rw [bs_size]; exact hs
  have hx : isInt (numF (s, false)).1 := by have h0 := naturalF_int 59 (s, false); exact ⟨by show _ ≤ (naturalF 59 (s, false)).1; omega, h0.2⟩
  have HF := Lib.hid hf
  have HK := Lib.hid hk
  have HE := Lib.hid he
  clear hk hf he
  go_enter Tryd.func6, Tryd.ntmps6
  go_wp2_with fail
  refine (saneCodes w hE).mono ?_
  rintro e w1 ⟨rfl, hb1⟩
  have hE1 := hE.next hb1
  go_wp2_with fail
  refine (open_reader s w1).mono ?_
  rintro e w2 ⟨rfl, hR2, hb2, hs2⟩
  have hE2 := hE1.next hb2
  have hs1 := hb1.size
  have hlo := hE1.lo
  have hb02 := hb1.trans (hb2.mono hs1)
  clear hb1 hb2 hE1
  go_wp2_with fail
  refine (kind_is what hw 0 HK.out _ _ _ _ w2).mono ?_
  rintro e w3 ⟨rfl, hb3⟩
  have hR3 := hR2.next hb3
  have hE3 := hE2.next hb3
  have hs3 := hb3.size
  have hb03 := hb02.trans (hb3.mono hb02.size)
  clear hb02 hb3 hE2
  go_wp2_with fail
  refine (rd_Num _ (s, false) w3 hE3 hR3 (by simp only; omega)).mono ?_
  rintro e w4 ⟨rfl, hR4, hg4⟩
  rw [HF.out] at hR4
  have hb04 : Below w.heap.size w w4 := hb03.grown hg4 (by omega) (fun k hk => by simp at hk; omega)
  have hE4 := hE3.only hg4 (by omega)
  have hs4 := hg4.size
  clear hb03 hg4 hE3
  go_wp2_with fail
  refine (base_Num _ hx w4 hE4).mono ?_
  rintro e w5 ⟨rfl, hb5⟩
  have hR5 := hR4.next hb5
  have hb05 := hb04.trans (hb5.mono hb04.size)
  clear hb04 hb5 hE4
  go_wp2_with fail
  refine (rd_Left_end _ w5 hR5).mono ?_
  rintro e w6 ⟨rfl, rfl⟩
  go_wp2_with fail
  refine (rd_Done_end _ w5 hR5).mono ?_
  rintro e w6 ⟨rfl, rfl⟩
  go_wp2_with fail
  refine (rd_Left_end _ w5 hR5).mono ?_
  rintro e w6 ⟨rfl, rfl⟩
  go_wp2
  go_ret
  refine ⟨ret_bool ?_, hb05⟩
  exact again_whole _ s HE.out

set_option maxHeartbeats 1000000 in
set_option maxRecDepth 100000 in
theorem again_1_failed (s : List UInt8) (hs : s.length ≤ 400) (what : Int) (hw : isInt what) (hk : kindF what = 1) (w : World) (hE : Env w) (hf : (intF (s, false)).2 = failed) :
    Calls Tryd.prog 6 #[.string (bs s), .int .i64 what] w (Tpost w) := by
  have hsz : (bs s).size ≤ 400 := by rw [bs_size]; exact hs
  have hx : isInt (intF (s, false)).1 := by exact intF_int _
  have HK := Lib.hid hk
  have HF := Lib.hid hf
  clear hk hf
  go_enter Tryd.func6, Tryd.ntmps6
  go_wp2_with fail
  refine (saneCodes w hE).mono ?_
  rintro e w1 ⟨rfl, hb1⟩
  have hE1 := hE.next hb1
  go_wp2_with fail
  refine (open_reader s w1).mono ?_
  rintro e w2 ⟨rfl, hR2, hb2, hs2⟩
  have hE2 := hE1.next hb2
  have hs1 := hb1.size
  have hlo := hE1.lo
  have hb02 := hb1.trans (hb2.mono hs1)
  clear hb1 hb2 hE1
  go_wp2_with fail
  refine (kind_is what hw 1 HK.out _ _ _ _ w2).mono ?_
  rintro e w3 ⟨rfl, hb3⟩
  have hR3 := hR2.next hb3
  have hE3 := hE2.next hb3
  have hs3 := hb3.size
  have hb03 := hb02.trans (hb3.mono hb02.size)
  clear hb02 hb3 hE2
  go_wp2_with fail
  refine (rd_Int _ (s, false) w3 hE3 hR3 (by simp only; omega)).mono ?_
  rintro e w4 ⟨rfl, hR4, hg4⟩
  rw [HF.out] at hR4
  have hb04 : Below w.heap.size w w4 := hb03.grown hg4 (by omega) (fun k hk => by simp at hk; omega)
  have hE4 := hE3.only hg4 (by omega)
  have hs4 := hg4.size
  clear hb03 hg4 hE3
  go_wp2_with fail
  refine (base_Int _ hx w4 hE4).mono ?_
  rintro e w5 ⟨rfl, hb5⟩
  have hR5 := hR4.next hb5
  have hb05 := hb04.trans (hb5.mono hb04.size)
  clear hb04 hb5 hE4
  go_wp2_with fail
  refine (rd_Left_failed _ w5 hR5).mono ?_
  rintro e w6 ⟨rfl, rfl⟩
  go_wp2_with fail
  refine (rd_Done_failed _ w5 hR5).mono ?_
  rintro e w6 ⟨rfl, rfl⟩
  go_wp2
  go_ret
  exact ⟨rfl, hb05⟩

set_option maxHeartbeats 1000000 in
set_option maxRecDepth 100000 in
theorem again_1_good (s : List UInt8) (hs : s.length ≤ 400) (what : Int) (hw : isInt what) (hk : kindF what = 1) (w : World) (hE : Env w) (q : List UInt8) (hq : q ≠ []) (hf : (intF (s, false)).2 = (q, false)) (he : s = intS (intF (s, false)).1 ++ q) :
    Calls Tryd.prog 6 #[.string (bs s), .int .i64 what] w (Tpost w) := by
  have hsz : (bs s).size ≤ 400 := by rw [bs_size]; exact hs
  have hx : isInt (intF (s, false)).1 := by exact intF_int _
  have HF := Lib.hid hf
  have HK := Lib.hid hk
  have hlen : (bs s).size = (intS (intF (s, false)).1).length + q.length := by rw [bs_size]; conv => lhs; rw [he]; simp
  have hql : 0 < q.length := by
    cases q with
    | nil => exact absurd rfl hq
    | cons _ _ => simp
  have hq0 : ((q.length : Int) == 0) = false := by simp; omega
  have HE := Lib.hid he
  have HL := Lib.hid hlen
  clear hk hf he hlen hq
  go_enter Tryd.func6, Tryd.ntmps6
  go_wp2_with fail
  refine (saneCodes w hE).mono ?_
  rintro e w1 ⟨rfl, hb1⟩
  have hE1 := hE.next hb1
  go_wp2_with fail
  refine (open_reader s w1).mono ?_
  rintro e w2 ⟨rfl, hR2, hb2, hs2⟩
  have hE2 := hE1.next hb2
  have hs1 := hb1.size
  have hlo := hE1.lo
  have hb02 := hb1.trans (hb2.mono hs1)
  clear hb1 hb2 hE1
  go_wp2_with fail
  refine (kind_is what hw 1 HK.out _ _ _ _ w2).mono ?_
  rintro e w3 ⟨rfl, hb3⟩
  have hR3 := hR2.next hb3
  have hE3 := hE2.next hb3
  have hs3 := hb3.size
  have hb03 := hb02.trans (hb3.mono hb02.size)
  clear hb02 hb3 hE2
  go_wp2_with fail
  refine (rd_Int _ (s, false) w3 hE3 hR3 (by simp only; omega)).mono ?_
  rintro e w4 ⟨rfl, hR4, hg4⟩
  rw [HF.out] at hR4
  have hb04 : Below w.heap.size w w4 := hb03.grown hg4 (by omega) (fun k hk => by simp at hk; omega)
  have hE4 := hE3.only hg4 (by omega)
  have hs4 := hg4.size
  clear hb03 hg4 hE3
  go_wp2_with fail
  refine (base_Int _ hx w4 hE4).mono ?_
  rintro e w5 ⟨rfl, hb5⟩
  have hR5 := hR4.next hb5
  have hb05 := hb04.trans (hb5.mono hb04.size)
  clear hb04 hb5 hE4
  go_wp2_with fail
  refine (rd_Left _ _ w5 hR5).mono ?_
  rintro e w6 ⟨rfl, rfl⟩
  go_wp2_with fail
  refine (rd_Left _ _ w5 hR5).mono ?_
  rintro e w6 ⟨rfl, rfl⟩
  have hL2 := HL.out
  obtain ⟨m, hm⟩ : ∃ m, m = (intS (intF (s, false)).1).length := ⟨_, rfl⟩
  rw [← hm] at hL2
  have hn : (((bs s).size : Nat) : Int) - (q.length : Int) = (m : Int) := by omega
  have hm2 : m ≤ (bs s).size := by omega
  have HM := Lib.hid hm
  clear hm hL2
  go_wp2
  go_ret
  exact ⟨ret_bool (again_end _ q s m HM.out HE.out), hb05⟩

set_option maxHeartbeats 1000000 in
set_option maxRecDepth 100000 in
theorem again_1_whole (s : List UInt8) (hs : s.length ≤ 400) (what : Int) (hw : isInt what) (hk : kindF what = 1) (w : World) (hE : Env w) (hf : (intF (s, false)).2 = ([], false)) (he : s = intS (intF (s, false)).1) :
    Calls Tryd.prog 6 #[.string (bs s), .int .i64 what] w (Tpost w) := by
  have hsz : (bs s).size ≤ 400 := by rw [bs_size]; exact hs
  have hx : isInt (intF (s, false)).1 := by exact intF_int _
  have HF := Lib.hid hf
  have HK := Lib.hid hk
  have HE := Lib.hid he
  clear hk hf he
  go_enter Tryd.func6, Tryd.ntmps6
  go_wp2_with fail
  refine (saneCodes w hE).mono ?_
  rintro e w1 ⟨rfl, hb1⟩
  have hE1 := hE.next hb1
  go_wp2_with fail
  refine (open_reader s w1).mono ?_
  rintro e w2 ⟨rfl, hR2, hb2, hs2⟩
  have hE2 := hE1.next hb2
  have hs1 := hb1.size
  have hlo := hE1.lo
  have hb02 := hb1.trans (hb2.mono hs1)
  clear hb1 hb2 hE1
  go_wp2_with fail
  refine (kind_is what hw 1 HK.out _ _ _ _ w2).mono ?_
  rintro e w3 ⟨rfl, hb3⟩
  have hR3 := hR2.next hb3
  have hE3 := hE2.next hb3
  have hs3 := hb3.size
  have hb03 := hb02.trans (hb3.mono hb02.size)
  clear hb02 hb3 hE2
  go_wp2_with fail
  refine (rd_Int _ (s, false) w3 hE3 hR3 (by simp only; omega)).mono ?_
  rintro e w4 ⟨rfl, hR4, hg4⟩
  rw [HF.out] at hR4
  have hb04 : Below w.heap.size w w4 := hb03.grown hg4 (by omega) (fun k hk => by simp at hk; omega)
  have hE4 := hE3.only hg4 (by omega)
  have hs4 := hg4.size
  clear hb03 hg4 hE3
  go_wp2_with fail
  refine (base_Int _ hx w4 hE4).mono ?_
  rintro e w5 ⟨rfl, hb5⟩
  have hR5 := hR4.next hb5
  have hb05 := hb04.trans (hb5.mono hb04.size)
  clear hb04 hb5 hE4
  go_wp2_with fail
  refine (rd_Left_end _ w5 hR5).mono ?_
  rintro e w6 ⟨rfl, rfl⟩
  go_wp2_with fail
  refine (rd_Done_end _ w5 hR5).mono ?_
  rintro e w6 ⟨rfl, rfl⟩
  go_wp2_with fail
  refine (rd_Left_end _ w5 hR5).mono ?_
  rintro e w6 ⟨rfl, rfl⟩
  go_wp2
  go_ret
  refine ⟨ret_bool ?_, hb05⟩
  exact again_whole _ s HE.out

set_option maxHeartbeats 1000000 in
set_option maxRecDepth 100000 in
theorem again_2_failed (s : List UInt8) (hs : s.length ≤ 400) (what : Int) (hw : isInt what) (hk : kindF what = 2) (w : World) (hE : Env w) (hf : (textF (s, false)).2 = failed) :
    Calls Tryd.prog 6 #[.string (bs s), .int .i64 what] w (Tpost w) := by
  have hsz : (bs s).size ≤ 400 := by rw [bs_size]; exact hs
  have hx : (textF (s, false)).1.length ≤ 4294967296 := by exact Nat.le_trans (textF_val (s, false)) (by simp only; omega)
  have HK := Lib.hid hk
  have HF := Lib.hid hf
  clear hk hf
  go_enter Tryd.func6, Tryd.ntmps6
  go_wp2_with fail
  refine (saneCodes w hE).mono ?_
  rintro e w1 ⟨rfl, hb1⟩
  have hE1 := hE.next hb1
  go_wp2_with fail
  refine (open_reader s w1).mono ?_
  rintro e w2 ⟨rfl, hR2, hb2, hs2⟩
  have hE2 := hE1.next hb2
  have hs1 := hb1.size
  have hlo := hE1.lo
  have hb02 := hb1.trans (hb2.mono hs1)
  clear hb1 hb2 hE1
  go_wp2_with fail
  refine (kind_is what hw 2 HK.out _ _ _ _ w2).mono ?_
  rintro e w3 ⟨rfl, hb3⟩
  have hR3 := hR2.next hb3
  have hE3 := hE2.next hb3
  have hs3 := hb3.size
  have hb03 := hb02.trans (hb3.mono hb02.size)
  clear hb02 hb3 hE2
  go_wp2_with fail
  refine (rd_text _ (s, false) w3 hE3 hR3 (by simp only; omega)).mono ?_
  rintro e w4 ⟨rfl, hR4, hg4⟩
  rw [HF.out] at hR4
  have hb04 : Below w.heap.size w w4 := hb03.grown hg4 (by omega) (fun k hk => by simp at hk; omega)
  have hE4 := hE3.only hg4 (by omega)
  have hs4 := hg4.size
  clear hb03 hg4 hE3
  go_wp2_with fail
  refine (base_Text_bs _ hx w4 hE4).mono ?_
  rintro e w5 ⟨rfl, hb5⟩
  have hR5 := hR4.next hb5
  have hb05 := hb04.trans (hb5.mono hb04.size)
  clear hb04 hb5 hE4
  go_wp2_with fail
  refine (rd_Left_failed _ w5 hR5).mono ?_
  rintro e w6 ⟨rfl, rfl⟩
  go_wp2_with fail
  refine (rd_Done_failed _ w5 hR5).mono ?_
  rintro e w6 ⟨rfl, rfl⟩
  go_wp2
  go_ret
  exact ⟨rfl, hb05⟩

set_option maxHeartbeats 1000000 in
set_option maxRecDepth 100000 in
theorem again_2_good (s : List UInt8) (hs : s.length ≤ 400) (what : Int) (hw : isInt what) (hk : kindF what = 2) (w : World) (hE : Env w) (q : List UInt8) (hq : q ≠ []) (hf : (textF (s, false)).2 = (q, false)) (he : s = textS (textF (s, false)).1 ++ q) :
    Calls Tryd.prog 6 #[.string (bs s), .int .i64 what] w (Tpost w) := by
  have hsz : (bs s).size ≤ 400 := by rw [bs_size]; exact hs
  have hx : (textF (s, false)).1.length ≤ 4294967296 := by exact Nat.le_trans (textF_val (s, false)) (by simp only; omega)
  have HF := Lib.hid hf
  have HK := Lib.hid hk
  have hlen : (bs s).size = (textS (textF (s, false)).1).length + q.length := by rw [bs_size]; conv => lhs; rw [he]; simp
  have hql : 0 < q.length := by
    cases q with
    | nil => exact absurd rfl hq
    | cons _ _ => simp
  have hq0 : ((q.length : Int) == 0) = false := by simp; omega
  have HE := Lib.hid he
  have HL := Lib.hid hlen
  clear hk hf he hlen hq
  go_enter Tryd.func6, Tryd.ntmps6
  go_wp2_with fail
  refine (saneCodes w hE).mono ?_
  rintro e w1 ⟨rfl, hb1⟩
  have hE1 := hE.next hb1
  go_wp2_with fail
  refine (open_reader s w1).mono ?_
  rintro e w2 ⟨rfl, hR2, hb2, hs2⟩
  have hE2 := hE1.next hb2
  have hs1 := hb1.size
  have hlo := hE1.lo
  have hb02 := hb1.trans (hb2.mono hs1)
  clear hb1 hb2 hE1
  go_wp2_with fail
  refine (kind_is what hw 2 HK.out _ _ _ _ w2).mono ?_
  rintro e w3 ⟨rfl, hb3⟩
  have hR3 := hR2.next hb3
  have hE3 := hE2.next hb3
  have hs3 := hb3.size
  have hb03 := hb02.trans (hb3.mono hb02.size)
  clear hb02 hb3 hE2
  go_wp2_with fail
  refine (rd_text _ (s, false) w3 hE3 hR3 (by simp only; omega)).mono ?_
  rintro e w4 ⟨rfl, hR4, hg4⟩
  rw [HF.out] at hR4
  have hb04 : Below w.heap.size w w4 := hb03.grown hg4 (by omega) (fun k hk => by simp at hk; omega)
  have hE4 := hE3.only hg4 (by omega)
  have hs4 := hg4.size
  clear hb03 hg4 hE3
  go_wp2_with fail
  refine (base_Text_bs _ hx w4 hE4).mono ?_
  rintro e w5 ⟨rfl, hb5⟩
  have hR5 := hR4.next hb5
  have hb05 := hb04.trans (hb5.mono hb04.size)
  clear hb04 hb5 hE4
  go_wp2_with fail
  refine (rd_Left _ _ w5 hR5).mono ?_
  rintro e w6 ⟨rfl, rfl⟩
  go_wp2_with fail
  refine (rd_Left _ _ w5 hR5).mono ?_
  rintro e w6 ⟨rfl, rfl⟩
  have hL2 := HL.out
  obtain ⟨m, hm⟩ : ∃ m, m = (textS (textF (s, false)).1).length := ⟨_, rfl⟩
  rw [← hm] at hL2
  have hn : (((bs s).size : Nat) : Int) - (q.length : Int) = (m : Int) := by omega
  have hm2 : m ≤ (bs s).size := by omega
  have HM := Lib.hid hm
  clear hm hL2
  go_wp2
  go_ret
  exact ⟨ret_bool (again_end _ q s m HM.out HE.out), hb05⟩

set_option maxHeartbeats 1000000 in
set_option maxRecDepth 100000 in
theorem again_2_whole (s : List UInt8) (hs : s.length ≤ 400) (what : Int) (hw : isInt what) (hk : kindF what = 2) (w : World) (hE : Env w) (hf : (textF (s, false)).2 = ([], false)) (he : s = textS (textF (s, false)).1) :
    Calls Tryd.prog 6 #[.string (bs s), .int .i64 what] w (Tpost w) := by
  have hsz : (bs s).size ≤ 400 := by rw [bs_size]; exact hs
  have hx : (textF (s, false)).1.length ≤ 4294967296 := by exact Nat.le_trans (textF_val (s, false)) (by simp only; omega)
  have HF := Lib.hid hf
  have HK := Lib.hid hk
  have HE := Lib.hid he
  clear hk hf he
  go_enter Tryd.func6, Tryd.ntmps6
  go_wp2_with fail
  refine (saneCodes w hE).mono ?_
  rintro e w1 ⟨rfl, hb1⟩
  have hE1 := hE.next hb1
  go_wp2_with fail
  refine (open_reader s w1).mono ?_
  rintro e w2 ⟨rfl, hR2, hb2, hs2⟩
  have hE2 := hE1.next hb2
  have hs1 := hb1.size
  have hlo := hE1.lo
  have hb02 := hb1.trans (hb2.mono hs1)
  clear hb1 hb2 hE1
  go_wp2_with fail
  refine (kind_is what hw 2 HK.out _ _ _ _ w2).mono ?_
  rintro e w3 ⟨rfl, hb3⟩
  have hR3 := hR2.next hb3
  have hE3 := hE2.next hb3
  have hs3 := hb3.size
  have hb03 := hb02.trans (hb3.mono hb02.size)
  clear hb02 hb3 hE2
  go_wp2_with fail
  refine (rd_text _ (s, false) w3 hE3 hR3 (by simp only; omega)).mono ?_
  rintro e w4 ⟨rfl, hR4, hg4⟩
  rw [HF.out] at hR4
  have hb04 : Below w.heap.size w w4 := hb03.grown hg4 (by omega) (fun k hk => by simp at hk; omega)
  have hE4 := hE3.only hg4 (by omega)
  have hs4 := hg4.size
  clear hb03 hg4 hE3
  go_wp2_with fail
  refine (base_Text_bs _ hx w4 hE4).mono ?_
  rintro e w5 ⟨rfl, hb5⟩
  have hR5 := hR4.next hb5
  have hb05 := hb04.trans (hb5.mono hb04.size)
  clear hb04 hb5 hE4
  go_wp2_with fail
  refine (rd_Left_end _ w5 hR5).mono ?_
  rintro e w6 ⟨rfl, rfl⟩
  go_wp2_with fail
  refine (rd_Done_end _ w5 hR5).mono ?_
  rintro e w6 ⟨rfl, rfl⟩
  go_wp2_with fail
  refine (rd_Left_end _ w5 hR5).mono ?_
  rintro e w6 ⟨rfl, rfl⟩
  go_wp2
  go_ret
  refine ⟨ret_bool ?_, hb05⟩
  exact again_whole _ s HE.out

set_option maxHeartbeats 1000000 in
set_option maxRecDepth 100000 in
theorem again_3_failed (s : List UInt8) (hs : s.length ≤ 400) (what : Int) (hw : isInt what) (hk : kindF what = 3) (w : World) (hE : Env w) (hf : (numsF (s, false)).2 = failed) :
    Calls Tryd.prog 6 #[.string (bs s), .int .i64 what] w (Tpost w) := by
  have hsz : (bs s).size ≤ 400 := by rw [bs_size]; exact hs
  have hx : ∀ x ∈ (numsF (s, false)).1, isInt x := by exact numsF_int _
  have hx2 : (numsF (s, false)).1.length ≤ 4294967296 := Nat.le_trans (numsF_count (s, false)) (by simp only; omega)
  have hx3 : (numsS (numsF (s, false)).1).length ≤ 4294967296 := Nat.le_trans (numsF_size (s, false)) (by simp only; omega)
  have HK := Lib.hid hk
  have HF := Lib.hid hf
  clear hk hf
  go_enter Tryd.func6, Tryd.ntmps6
  go_wp2_with fail
  refine (saneCodes w hE).mono ?_
  rintro e w1 ⟨rfl, hb1⟩
  have hE1 := hE.next hb1
  go_wp2_with fail
  refine (open_reader s w1).mono ?_
  rintro e w2 ⟨rfl, hR2, hb2, hs2⟩
  have hE2 := hE1.next hb2
  have hs1 := hb1.size
  have hlo := hE1.lo
  have hb02 := hb1.trans (hb2.mono hs1)
  clear hb1 hb2 hE1
  go_wp2_with fail
  refine (kind_is what hw 3 HK.out _ _ _ _ w2).mono ?_
  rintro e w3 ⟨rfl, hb3⟩
  have hR3 := hR2.next hb3
  have hE3 := hE2.next hb3
  have hs3 := hb3.size
  have hb03 := hb02.trans (hb3.mono hb02.size)
  clear hb02 hb3 hE2
  go_wp2_with fail
  refine (rd_Nums _ (s, false) w3 hE3 hR3 (by simp only; omega) (okRd_fresh s) (by omega)).mono ?_
  rintro e w4 ⟨v, rfl, hI, hR4, hg4⟩
  rw [HF.out] at hR4
  have hb04 : Below w.heap.size w w4 := hb03.grown hg4 (by omega) (fun k hk => by simp at hk; omega)
  have hE4 := hE3.only hg4 (by omega)
  have hs4 := hg4.size
  clear hb03 hg4 hE3
  go_wp2_with fail
  refine (base_Nums v _ w4 hE4 hI hx hx2 hx3).mono ?_
  rintro e w5 ⟨rfl, hb5⟩
  have hR5 := hR4.next hb5
  have hb05 := hb04.trans (hb5.mono hb04.size)
  clear hb04 hb5 hE4
  go_wp2_with fail
  refine (rd_Left_failed _ w5 hR5).mono ?_
  rintro e w6 ⟨rfl, rfl⟩
  go_wp2_with fail
  refine (rd_Done_failed _ w5 hR5).mono ?_
  rintro e w6 ⟨rfl, rfl⟩
  go_wp2
  go_ret
  exact ⟨rfl, hb05⟩

set_option maxHeartbeats 1000000 in
set_option maxRecDepth 100000 in
theorem again_3_good (s : List UInt8) (hs : s.length ≤ 400) (what : Int) (hw : isInt what) (hk : kindF what = 3) (w : World) (hE : Env w) (q : List UInt8) (hq : q ≠ []) (hf : (numsF (s, false)).2 = (q, false)) (he : s = numsS (numsF (s, false)).1 ++ q) :
    Calls Tryd.prog 6 #[.string (bs s), .int .i64 what] w (Tpost w) := by
  have hsz : (bs s).size ≤ 400 := by rw [bs_size]; exact hs
  have hx : ∀ x ∈ (numsF (s, false)).1, isInt x := by exact numsF_int _
  have hx2 : (numsF (s, false)).1.length ≤ 4294967296 := Nat.le_trans (numsF_count (s, false)) (by simp only; omega)
  have hx3 : (numsS (numsF (s, false)).1).length ≤ 4294967296 := Nat.le_trans (numsF_size (s, false)) (by simp only; omega)
  have HF := Lib.hid hf
  have HK := Lib.hid hk
  have hlen : (bs s).size = (numsS (numsF (s, false)).1).length + q.length := by rw [bs_size]; conv => lhs; rw [he]; simp
  have hql : 0 < q.length := by
    cases q with
    | nil => exact absurd rfl hq
    | cons _ _ => simp
  have hq0 : ((q.length : Int) == 0) = false := by simp; omega
  have HE := Lib.hid he
  have HL := Lib.hid hlen
  clear hk hf he hlen hq
  go_enter Tryd.func6, Tryd.ntmps6
  go_wp2_with fail
  refine (saneCodes w hE).mono ?_
  rintro e w1 ⟨rfl, hb1⟩
  have hE1 := hE.next hb1
  go_wp2_with fail
  refine (open_reader s w1).mono ?_
  rintro e w2 ⟨rfl, hR2, hb2, hs2⟩
  have hE2 := hE1.next hb2
  have hs1 := hb1.size
  have hlo := hE1.lo
  have hb02 := hb1.trans (hb2.mono hs1)
  clear hb1 hb2 hE1
  go_wp2_with fail
  refine (kind_is what hw 3 HK.out _ _ _ _ w2).mono ?_
  rintro e w3 ⟨rfl, hb3⟩
  have hR3 := hR2.next hb3
  have hE3 := hE2.next hb3
  have hs3 := hb3.size
  have hb03 := hb02.trans (hb3.mono hb02.size)
  clear hb02 hb3 hE2
  go_wp2_with fail
  refine (rd_Nums _ (s, false) w3 hE3 hR3 (by simp only; omega) (okRd_fresh s) (by omega)).mono ?_
  rintro e w4 ⟨v, rfl, hI, hR4, hg4⟩
  rw [HF.out] at hR4
  have hb04 : Below w.heap.size w w4 := hb03.grown hg4 (by omega) (fun k hk => by simp at hk; omega)
  have hE4 := hE3.only hg4 (by omega)
  have hs4 := hg4.size
  clear hb03 hg4 hE3
  go_wp2_with fail
  refine (base_Nums v _ w4 hE4 hI hx hx2 hx3).mono ?_
  rintro e w5 ⟨rfl, hb5⟩
  have hR5 := hR4.next hb5
  have hb05 := hb04.trans (hb5.mono hb04.size)
  clear hb04 hb5 hE4
  go_wp2_with fail
  refine (rd_Left _ _ w5 hR5).mono ?_
  rintro e w6 ⟨rfl, rfl⟩
  go_wp2_with fail
  refine (rd_Left _ _ w5 hR5).mono ?_
  rintro e w6 ⟨rfl, rfl⟩
  have hL2 := HL.out
  obtain ⟨m, hm⟩ : ∃ m, m = (numsS (numsF (s, false)).1).length := ⟨_, rfl⟩
  rw [← hm] at hL2
  have hn : (((bs s).size : Nat) : Int) - (q.length : Int) = (m : Int) := by omega
  have hm2 : m ≤ (bs s).size := by omega
  have HM := Lib.hid hm
  clear hm hL2
  go_wp2
  go_ret
  exact ⟨ret_bool (again_end _ q s m HM.out HE.out), hb05⟩

set_option maxHeartbeats 1000000 in
set_option maxRecDepth 100000 in
theorem again_3_whole (s : List UInt8) (hs : s.length ≤ 400) (what : Int) (hw : isInt what) (hk : kindF what = 3) (w : World) (hE : Env w) (hf : (numsF (s, false)).2 = ([], false)) (he : s = numsS (numsF (s, false)).1) :
    Calls Tryd.prog 6 #[.string (bs s), .int .i64 what] w (Tpost w) := by
  have hsz : (bs s).size ≤ 400 := by rw [bs_size]; exact hs
  have hx : ∀ x ∈ (numsF (s, false)).1, isInt x := by exact numsF_int _
  have hx2 : (numsF (s, false)).1.length ≤ 4294967296 := Nat.le_trans (numsF_count (s, false)) (by simp only; omega)
  have hx3 : (numsS (numsF (s, false)).1).length ≤ 4294967296 := Nat.le_trans (numsF_size (s, false)) (by simp only; omega)
  have HF := Lib.hid hf
  have HK := Lib.hid hk
  have HE := Lib.hid he
  clear hk hf he
  go_enter Tryd.func6, Tryd.ntmps6
  go_wp2_with fail
  refine (saneCodes w hE).mono ?_
  rintro e w1 ⟨rfl, hb1⟩
  have hE1 := hE.next hb1
  go_wp2_with fail
  refine (open_reader s w1).mono ?_
  rintro e w2 ⟨rfl, hR2, hb2, hs2⟩
  have hE2 := hE1.next hb2
  have hs1 := hb1.size
  have hlo := hE1.lo
  have hb02 := hb1.trans (hb2.mono hs1)
  clear hb1 hb2 hE1
  go_wp2_with fail
  refine (kind_is what hw 3 HK.out _ _ _ _ w2).mono ?_
  rintro e w3 ⟨rfl, hb3⟩
  have hR3 := hR2.next hb3
  have hE3 := hE2.next hb3
  have hs3 := hb3.size
  have hb03 := hb02.trans (hb3.mono hb02.size)
  clear hb02 hb3 hE2
  go_wp2_with fail
  refine (rd_Nums _ (s, false) w3 hE3 hR3 (by simp only; omega) (okRd_fresh s) (by omega)).mono ?_
  rintro e w4 ⟨v, rfl, hI, hR4, hg4⟩
  rw [HF.out] at hR4
  have hb04 : Below w.heap.size w w4 := hb03.grown hg4 (by omega) (fun k hk => by simp at hk; omega)
  have hE4 := hE3.only hg4 (by omega)
  have hs4 := hg4.size
  clear hb03 hg4 hE3
  go_wp2_with fail
  refine (base_Nums v _ w4 hE4 hI hx hx2 hx3).mono ?_
  rintro e w5 ⟨rfl, hb5⟩
  have hR5 := hR4.next hb5
  have hb05 := hb04.trans (hb5.mono hb04.size)
  clear hb04 hb5 hE4
  go_wp2_with fail
  refine (rd_Left_end _ w5 hR5).mono ?_
  rintro e w6 ⟨rfl, rfl⟩
  go_wp2_with fail
  refine (rd_Done_end _ w5 hR5).mono ?_
  rintro e w6 ⟨rfl, rfl⟩
  go_wp2_with fail
  refine (rd_Left_end _ w5 hR5).mono ?_
  rintro e w6 ⟨rfl, rfl⟩
  go_wp2
  go_ret
  refine ⟨ret_bool ?_, hb05⟩
  exact again_whole _ s HE.out

set_option maxHeartbeats 1000000 in
set_option maxRecDepth 100000 in
theorem again_4_failed (s : List UInt8) (hs : s.length ≤ 400) (what : Int) (hw : isInt what) (hk : kindF what = 4) (w : World) (hE : Env w) (hf : (textsF (s, false)).2 = failed) :
    Calls Tryd.prog 6 #[.string (bs s), .int .i64 what] w (Tpost w) := by
  have hsz : (bs s).size ≤ 400 := by rw [bs_size]; exact hs
  have hx : ∀ x ∈ (textsF (s, false)).1, x.length ≤ 4294967296 := by exact fun x hx => Nat.le_trans (textsF_val (s, false) x hx) (by simp only; omega)
  have hx2 : (textsF (s, false)).1.length ≤ 4294967296 := Nat.le_trans (textsF_count (s, false)) (by simp only; omega)
  have hx3 : (textsS (textsF (s, false)).1).length ≤ 4294967296 := Nat.le_trans (textsF_size (s, false)) (by simp only; omega)
  have HK := Lib.hid hk
  have HF := Lib.hid hf
  clear hk hf
  go_enter Tryd.func6, Tryd.ntmps6
  go_wp2_with fail
  refine (saneCodes w hE).mono ?_
  rintro e w1 ⟨rfl, hb1⟩
  have hE1 := hE.next hb1
  go_wp2_with fail
  refine (open_reader s w1).mono ?_
  rintro e w2 ⟨rfl, hR2, hb2, hs2⟩
  have hE2 := hE1.next hb2
  have hs1 := hb1.size
  have hlo := hE1.lo
  have hb02 := hb1.trans (hb2.mono hs1)
  clear hb1 hb2 hE1
  go_wp2_with fail
  refine (kind_is what hw 4 HK.out _ _ _ _ w2).mono ?_
  rintro e w3 ⟨rfl, hb3⟩
  have hR3 := hR2.next hb3
  have hE3 := hE2.next hb3
  have hs3 := hb3.size
  have hb03 := hb02.trans (hb3.mono hb02.size)
  clear hb02 hb3 hE2
  go_wp2_with fail
  refine (rd_Texts _ (s, false) w3 hE3 hR3 (by simp only; omega) (okRd_fresh s) (by omega)).mono ?_
  rintro e w4 ⟨v, rfl, hI, hR4, hg4⟩
  rw [HF.out] at hR4
  have hb04 : Below w.heap.size w w4 := hb03.grown hg4 (by omega) (fun k hk => by simp at hk; omega)
  have hE4 := hE3.only hg4 (by omega)
  have hs4 := hg4.size
  clear hb03 hg4 hE3
  go_wp2_with fail
  refine (base_Texts v _ w4 hE4 hI hx hx2 hx3).mono ?_
  rintro e w5 ⟨rfl, hb5⟩
  have hR5 := hR4.next hb5
  have hb05 := hb04.trans (hb5.mono hb04.size)
  clear hb04 hb5 hE4
  go_wp2_with fail
  refine (rd_Left_failed _ w5 hR5).mono ?_
  rintro e w6 ⟨rfl, rfl⟩
  go_wp2_with fail
  refine (rd_Done_failed _ w5 hR5).mono ?_
  rintro e w6 ⟨rfl, rfl⟩
  go_wp2
  go_ret
  exact ⟨rfl, hb05⟩

set_option maxHeartbeats 1000000 in
set_option maxRecDepth 100000 in
theorem again_4_good (s : List UInt8) (hs : s.length ≤ 400) (what : Int) (hw : isInt what) (hk : kindF what = 4) (w : World) (hE : Env w) (q : List UInt8) (hq : q ≠ []) (hf : (textsF (s, false)).2 = (q, false)) (he : s = textsS (textsF (s, false)).1 ++ q) :
    Calls Tryd.prog 6 #[.string (bs s), .int .i64 what] w (Tpost w) := by
  have hsz : (bs s).size ≤ 400 := by rw [bs_size]; exact hs
  have hx : ∀ x ∈ (textsF (s, false)).1, x.length ≤ 4294967296 := by exact fun x hx => Nat.le_trans (textsF_val (s, false) x hx) (by simp only; omega)
  have hx2 : (textsF (s, false)).1.length ≤ 4294967296 := Nat.le_trans (textsF_count (s, false)) (by simp only; omega)
  have hx3 : (textsS (textsF (s, false)).1).length ≤ 4294967296 := Nat.le_trans (textsF_size (s, false)) (by simp only; omega)
  have HF := Lib.hid hf
  have HK := Lib.hid hk
  have hlen : (bs s).size = (textsS (textsF (s, false)).1).length + q.length := by rw [bs_size]; conv => lhs; rw [he]; simp
  have hql : 0 < q.length := by
    cases q with
    | nil => exact absurd rfl hq
    | cons _ _ => simp
  have hq0 : ((q.length : Int) == 0) = false := by simp; omega
  have HE := Lib.hid he
  have HL := Lib.hid hlen
  clear hk hf he hlen hq
  go_enter Tryd.func6, Tryd.ntmps6
  go_wp2_with fail
  refine (saneCodes w hE).mono ?_
  rintro e w1 ⟨rfl, hb1⟩
  have hE1 := hE.next hb1
  go_wp2_with fail
  refine (open_reader s w1).mono ?_
  rintro e w2 ⟨rfl, hR2, hb2, hs2⟩
  have hE2 := hE1.next hb2
  have hs1 := hb1.size
  have hlo := hE1.lo
  have hb02 := hb1.trans (hb2.mono hs1)
  clear hb1 hb2 hE1
  go_wp2_with fail
  refine (kind_is what hw 4 HK.out _ _ _ _ w2).mono ?_
  rintro e w3 ⟨rfl, hb3⟩
  have hR3 := hR2.next hb3
  have hE3 := hE2.next hb3
  have hs3 := hb3.size
  have hb03 := hb02.trans (hb3.mono hb02.size)
  clear hb02 hb3 hE2
  go_wp2_with fail
  refine (rd_Texts _ (s, false) w3 hE3 hR3 (by simp only; omega) (okRd_fresh s) (by omega)).mono ?_
  rintro e w4 ⟨v, rfl, hI, hR4, hg4⟩
  rw [HF.out] at hR4
  have hb04 : Below w.heap.size w w4 := hb03.grown hg4 (by omega) (fun k hk => by simp at hk; omega)
  have hE4 := hE3.only hg4 (by omega)
  have hs4 := hg4.size
  clear hb03 hg4 hE3
  go_wp2_with fail
  refine (base_Texts v _ w4 hE4 hI hx hx2 hx3).mono ?_
  rintro e w5 ⟨rfl, hb5⟩
  have hR5 := hR4.next hb5
  have hb05 := hb04.trans (hb5.mono hb04.size)
  clear hb04 hb5 hE4
  go_wp2_with fail
  refine (rd_Left _ _ w5 hR5).mono ?_
  rintro e w6 ⟨rfl, rfl⟩
  go_wp2_with fail
  refine (rd_Left _ _ w5 hR5).mono ?_
  rintro e w6 ⟨rfl, rfl⟩
  have hL2 := HL.out
  obtain ⟨m, hm⟩ : ∃ m, m = (textsS (textsF (s, false)).1).length := ⟨_, rfl⟩
  rw [← hm] at hL2
  have hn : (((bs s).size : Nat) : Int) - (q.length : Int) = (m : Int) := by omega
  have hm2 : m ≤ (bs s).size := by omega
  have HM := Lib.hid hm
  clear hm hL2
  go_wp2
  go_ret
  exact ⟨ret_bool (again_end _ q s m HM.out HE.out), hb05⟩

set_option maxHeartbeats 1000000 in
set_option maxRecDepth 100000 in
theorem again_4_whole (s : List UInt8) (hs : s.length ≤ 400) (what : Int) (hw : isInt what) (hk : kindF what = 4) (w : World) (hE : Env w) (hf : (textsF (s, false)).2 = ([], false)) (he : s = textsS (textsF (s, false)).1) :
    Calls Tryd.prog 6 #[.string (bs s), .int .i64 what] w (Tpost w) := by
  have hsz : (bs s).size ≤ 400 := by rw [bs_size]; exact hs
  have hx : ∀ x ∈ (textsF (s, false)).1, x.length ≤ 4294967296 := by exact fun x hx => Nat.le_trans (textsF_val (s, false) x hx) (by simp only; omega)
  have hx2 : (textsF (s, false)).1.length ≤ 4294967296 := Nat.le_trans (textsF_count (s, false)) (by simp only; omega)
  have hx3 : (textsS (textsF (s, false)).1).length ≤ 4294967296 := Nat.le_trans (textsF_size (s, false)) (by simp only; omega)
  have HF := Lib.hid hf
  have HK := Lib.hid hk
  have HE := Lib.hid he
  clear hk hf he
  go_enter Tryd.func6, Tryd.ntmps6
  go_wp2_with fail
  refine (saneCodes w hE).mono ?_
  rintro e w1 ⟨rfl, hb1⟩
  have hE1 := hE.next hb1
  go_wp2_with fail
  refine (open_reader s w1).mono ?_
  rintro e w2 ⟨rfl, hR2, hb2, hs2⟩
  have hE2 := hE1.next hb2
  have hs1 := hb1.size
  have hlo := hE1.lo
  have hb02 := hb1.trans (hb2.mono hs1)
  clear hb1 hb2 hE1
  go_wp2_with fail
  refine (kind_is what hw 4 HK.out _ _ _ _ w2).mono ?_
  rintro e w3 ⟨rfl, hb3⟩
  have hR3 := hR2.next hb3
  have hE3 := hE2.next hb3
  have hs3 := hb3.size
  have hb03 := hb02.trans (hb3.mono hb02.size)
  clear hb02 hb3 hE2
  go_wp2_with fail
  refine (rd_Texts _ (s, false) w3 hE3 hR3 (by simp only; omega) (okRd_fresh s) (by omega)).mono ?_
  rintro e w4 ⟨v, rfl, hI, hR4, hg4⟩
  rw [HF.out] at hR4
  have hb04 : Below w.heap.size w w4 := hb03.grown hg4 (by omega) (fun k hk => by simp at hk; omega)
  have hE4 := hE3.only hg4 (by omega)
  have hs4 := hg4.size
  clear hb03 hg4 hE3
  go_wp2_with fail
  refine (base_Texts v _ w4 hE4 hI hx hx2 hx3).mono ?_
  rintro e w5 ⟨rfl, hb5⟩
  have hR5 := hR4.next hb5
  have hb05 := hb04.trans (hb5.mono hb04.size)
  clear hb04 hb5 hE4
  go_wp2_with fail
  refine (rd_Left_end _ w5 hR5).mono ?_
  rintro e w6 ⟨rfl, rfl⟩
  go_wp2_with fail
  refine (rd_Done_end _ w5 hR5).mono ?_
  rintro e w6 ⟨rfl, rfl⟩
  go_wp2_with fail
  refine (rd_Left_end _ w5 hR5).mono ?_
  rintro e w6 ⟨rfl, rfl⟩
  go_wp2
  go_ret
  refine ⟨ret_bool ?_, hb05⟩
  exact again_whole _ s HE.out

/-- A reader that has read a value has failed, or stands behind the value's encoding. -/
theorem again_cases {α : Type} (x : α × Rd) (s : List UInt8) (enc : List UInt8) (ho : okRd x.2) (hr : x.2.2 = false → (false = false ∧ s = enc ++ x.2.1)) :
    x.2 = failed ∨ (x.2 = ([], false) ∧ s = enc) ∨ ∃ q, q ≠ [] ∧ x.2 = (q, false) ∧ s = enc ++ q := by
  obtain ⟨a, l, f⟩ := x
  cases f
  · right
    have := hr rfl
    cases l with
    | nil => left; exact ⟨rfl, by simpa using this⟩
    | cons c r => right; exact ⟨c :: r, by simp, rfl, by simpa using this⟩
  · left
    have := ho rfl
    simp only at this
    rw [this]; rfl
theorem loopF_ok {α : Type} (one : Rd → α × Rd) (h : ∀ r, okRd r → okRd (one r).2) : ∀ (n : Nat) (r : Rd), okRd r → okRd (loopF one n r).2
  | 0, r, hr => by simpa [loopF] using hr
  | n + 1, r, hr => by
    simp only [loopF]
    split
    · exact hr
    · exact loopF_ok one h n _ (h r hr)
theorem listF_ok {α : Type} (one : Rd → α × Rd) (h : ∀ r, okRd r → okRd (one r).2) (r : Rd) (hr : okRd r) : okRd (listF one r).2 := by
  have := closingF_ok (c := 93) (loopF_ok one h (naturalF 91 r).1.toNat (naturalF 91 r).2 (naturalF_ok hr))
  unfold listF
  simp only
  split <;> exact this

theorem again_short (s : List UInt8) (hs : s.length ≤ 400) (what : Int) (hw : isInt what) (w : World) (hE : Env w) :
    Calls Tryd.prog 6 #[.string (bs s), .int .i64 what] w (Tpost w) := by
  rcases kindF_range what with hk | hk | hk | hk | hk
  · rcases again_cases (numF (s, false)) s _ (naturalF_ok (okRd_fresh s)) numF_read with hf | ⟨hf, he⟩ | ⟨q, hq, hf, he⟩
    · exact again_0_failed s hs what hw hk w hE hf
    · exact again_0_whole s hs what hw hk w hE hf he
    · exact again_0_good s hs what hw hk w hE q hq hf he
  · rcases again_cases (intF (s, false)) s _ (digitsF_ok (okRd_fresh s)) intF_read with hf | ⟨hf, he⟩ | ⟨q, hq, hf, he⟩
    · exact again_1_failed s hs what hw hk w hE hf
    · exact again_1_whole s hs what hw hk w hE hf he
    · exact again_1_good s hs what hw hk w hE q hq hf he
  · rcases again_cases (textF (s, false)) s _ (textF_ok (okRd_fresh s)) textF_read with hf | ⟨hf, he⟩ | ⟨q, hq, hf, he⟩
    · exact again_2_failed s hs what hw hk w hE hf
    · exact again_2_whole s hs what hw hk w hE hf he
    · exact again_2_good s hs what hw hk w hE q hq hf he
  · rcases again_cases (numsF (s, false)) s _ (listF_ok intF (fun _ => digitsF_ok) _ (okRd_fresh s)) numsF_read with hf | ⟨hf, he⟩ | ⟨q, hq, hf, he⟩
    · exact again_3_failed s hs what hw hk w hE hf
    · exact again_3_whole s hs what hw hk w hE hf he
    · exact again_3_good s hs what hw hk w hE q hq hf he
  · rcases again_cases (textsF (s, false)) s _ (listF_ok textF (fun _ => textF_ok) _ (okRd_fresh s)) textsF_read with hf | ⟨hf, he⟩ | ⟨q, hq, hf, he⟩
    · exact again_4_failed s hs what hw hk w hE hf
    · exact again_4_whole s hs what hw hk w hE hf he
    · exact again_4_good s hs what hw hk w hE q hq hf he

theorem again_any (s : ByteArray) (hm : s.size ≤ maxLen) (what : Int) (hw : isInt what) (w : World) (hE : Env w) :
    Calls Tryd.prog 6 #[.string s, .int .i64 what] w (Tpost w) := by
  unfold maxLen at hm
  by_cases h : s.size ≤ 400
  · have := again_short s.data.toList (by rw [← Lib.size_eq]; exact h) what hw w hE
    rw [bs_of] at this
    exact this
  · exact again_long s (by omega) (by omega) what w hE
end Go.Proofs.YtgpeingndefacaaDoor
