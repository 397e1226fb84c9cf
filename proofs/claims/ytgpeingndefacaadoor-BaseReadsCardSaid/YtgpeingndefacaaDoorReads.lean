/- BaseReads' contract: a reader returns the same results as the reference, also after a failure. -/
import Derived.Test.YtgpeingndefacaaDoorRefRead3
import Derived.Test.YtgpeingndefacaaDoorRead5
namespace Go.Proofs.YtgpeingndefacaaDoor
open Go.RowKit

theorem Rb.only {b g : Nat} {r : Rd} {w w' : World} (h : Rb b r w) (hg : w.grownBy w' (some g)) (hne : b ≠ g) : Rb b r w' := by
  have hlt := h.lt
  unfold Rb at h ⊢
  rw [hg.block b hlt (by simpa using hne)]; exact h
theorem Qb.only {b g : Nat} {r : Rd} {w w' : World} (h : Qb b r w) (hg : w.grownBy w' (some g)) (hne : b ≠ g) : Qb b r w' := by
  have hlt := h.lt
  unfold Qb at h ⊢
  rw [hg.block b hlt (by simpa using hne)]; exact h
theorem Env.drewN {w : World} (h : Env w) (n : Nat) : Env (w.drewN n) := h.below (B := 6) ⟨rfl, rfl, rfl, Nat.le_refl _, fun _ _ => rfl⟩ (Nat.le_refl _)
theorem loopF_len {α : Type} (one : Rd → α × Rd) (h : ∀ r, (one r).2.1.length ≤ r.1.length) : ∀ (n : Nat) (r : Rd), (loopF one n r).2.1.length ≤ r.1.length
  | 0, r => by simp [loopF]
  | n + 1, r => by
    simp only [loopF]
    split
    · exact Nat.le_refl _
    · exact Nat.le_trans (loopF_len one h n _) (h r)
theorem listF_len {α : Type} (one : Rd → α × Rd) (h : ∀ r, (one r).2.1.length ≤ r.1.length) (r : Rd) : (listF one r).2.1.length ≤ r.1.length := by
  have h1 := naturalF_len 91 r
  have h2 := loopF_len one h (naturalF 91 r).1.toNat (naturalF 91 r).2
  have h3 := closingF_len 93 (loopF one (naturalF 91 r).1.toNat (naturalF 91 r).2).2
  unfold listF
  simp only
  split <;> (simp only; omega)

set_option maxHeartbeats 8000000 in
set_option maxRecDepth 100000 in
theorem reads_calls (s : List UInt8) (u : Value) (xs : List Int) (w : World) (hE : Env w) (hs : s.length ≤ 400) (hn : xs.length ≤ 20) (hu : IsInts u xs w) (hxi : ∀ x ∈ xs, isInt x) :
    Calls Tryd.prog 4 #[.string (bs s), u] w (Tpost w) := by
  obtain ⟨a, c, rfl⟩ := hu.len
  have hsz : (bs s).size ≤ 400 := by rw [bs_size]; exact hs
  go_enter Tryd.func4, Tryd.ntmps4
  go_wp2_with fail
  refine (saneCodes w hE).mono ?_
  rintro e w1 ⟨rfl, hb1⟩
  have hE1 := hE.next hb1
  go_wp2_with fail
  refine (open_reader s w1).mono ?_
  rintro e w2 ⟨rfl, hR2, hb2, hs2⟩
  have hE2 := hE1.next hb2
  have hb02 := hb1.trans (hb2.mono hb1.size)
  have hs1 := hb1.size
  have hlo := hE1.lo
  go_wp2_with fail
  refine (qopen s w2).mono ?_
  rintro e w3 ⟨rfl, hQ3, hb3, hs3⟩
  have hE3 := hE2.next hb3
  have hb03 := hb02.trans (hb3.mono hb02.size)
  have hR3 := hR2.next hb3
  have hs02 := hb02.size
  clear hb1 hb2 hb3 hE1 hE2 hR2 hb02
  obtain ⟨b, hb⟩ : ∃ b, b = w1.heap.size := ⟨_, rfl⟩
  obtain ⟨g, hg⟩ : ∃ g, g = w2.heap.size := ⟨_, rfl⟩
  rw [← hb] at hR3
  rw [← hg] at hQ3
  rw [← hb, ← hg]
  have hne : g ≠ b := by omega
  have hb6 : 6 ≤ b := by omega
  have hg6 : 6 ≤ g := by omega
  have hbW : w.heap.size ≤ b := by omega
  have hgW : w.heap.size ≤ g := by omega
  clear hb hg hs1 hs2 hs3 hs02 hlo
  go_wp2_with fail
  go_loopw [8] (fun i wr => ∃ (k : Nat) (r : Rd), k ≤ xs.length ∧ i = .int .i64 k ∧ Rb b r wr ∧ Qb g r wr ∧ Env wr ∧ Below w.heap.size w wr ∧ okRd r ∧ r.1.length ≤ 400) (fun i _ => xs.length - (intOf i).toNat)
  case atStart => exact ⟨0, (s, false), Nat.zero_le _, rfl, hR3, hQ3, hE3, hb03, okRd_fresh s, hs⟩
  case round =>
    obtain ⟨k, r, hk, rfl, hR, hQ, hEr, hbr, hok, hr4⟩ := hrel
    have hrl : r.1.length ≤ 4294967296 := by omega
    by_cases hlt : k < xs.length
    · obtain ⟨b1, o1, rfl, hlb, hc⟩ := (hu.next hbr).at k hlt
      have q := hc k _ (List.getElem?_eq_getElem hlt)
      have hkI : (k : Int) < (xs.length : Int) := by omega
      have hlate : b1 = b1 := rfl
      clear hc hlate
      rcases kindF_range xs[k] with hj | hj | hj | hj | hj
      · have HK := Lib.hid (kind_is (xs[k]) (hxi _ (List.getElem_mem hlt)) 0 hj (.int .i64 0) (.string ⟨#[]⟩) (.slice none 0 0) (.slice none 0 0) wr)
        have hnew : okRd (numF r).2 ∧ (numF r).2.1.length ≤ 400 := ⟨naturalF_ok hok, Nat.le_trans (naturalF_len 59 r) hr4⟩
        clear hj hxi
        go_wp2_with fail
        refine HK.out.mono ?_
        rintro e w3 ⟨rfl, hb3⟩
        have hR3 := hR.next hb3
        have hQ3 := hQ.next hb3
        have hE3 := hEr.next hb3
        have hb03 := hbr.trans (hb3.mono hbr.size)
        clear HK
        go_wp2_with fail
        refine (rd_Num b r w3 hE3 hR3 hrl).mono ?_
        rintro e w4 ⟨rfl, hR4, hg4⟩
        have hQ4 := hQ3.only hg4 hne
        have hE4 := hE3.only hg4 hb6
        have hb04 := below_only hb03 hg4 hbW
        go_wp2_with fail
        refine (q_Num g r w4 hQ4 hrl).mono ?_
        rintro e w5 ⟨rfl, hQ5, hg5⟩
        have hR5 := hR4.only hg5 (fun h => hne h.symm)
        have hE5 := hE4.only hg5 hg6
        have hb05 := below_only hb04 hg5 hgW
        obtain ⟨hn1, hn2⟩ := hnew
        generalize numF r = z at *
        obtain ⟨zv, zq⟩ := z
        simp only at *
        have hd1 : (doneF zq != doneF zq) = false := by simp
        go_wp2_with fail
        refine (rd_Left _ _ w5 hR5).mono ?_
        rintro e w7 ⟨rfl, rfl⟩
        go_wp2_with fail
        refine (q_Left _ _ w5 hQ5).mono ?_
        rintro e w7 ⟨rfl, rfl⟩
        go_wp2_with fail
        refine (rd_Done _ _ w5 hR5).mono ?_
        rintro e w7 ⟨rfl, rfl⟩
        go_wp2_with fail
        refine (q_Done _ _ w5 hQ5).mono ?_
        rintro e w7 ⟨rfl, rfl⟩
        go_wp2
        go_roundw
        case rel => exact ⟨k + 1, zq, by omega, by go_num, hR5, hQ5, hE5, hb05, hn1, hn2⟩
        case measure => simp [intOf]; omega
      · have HK := Lib.hid (kind_is (xs[k]) (hxi _ (List.getElem_mem hlt)) 1 hj (.int .i64 0) (.string ⟨#[]⟩) (.slice none 0 0) (.slice none 0 0) wr)
        have hnew : okRd (intF r).2 ∧ (intF r).2.1.length ≤ 400 := ⟨digitsF_ok hok, Nat.le_trans (digitsF_len 59 r) hr4⟩
        clear hj hxi
        go_wp2_with fail
        refine HK.out.mono ?_
        rintro e w3 ⟨rfl, hb3⟩
        have hR3 := hR.next hb3
        have hQ3 := hQ.next hb3
        have hE3 := hEr.next hb3
        have hb03 := hbr.trans (hb3.mono hbr.size)
        clear HK
        go_wp2_with fail
        refine (rd_Int b r w3 hE3 hR3 hrl).mono ?_
        rintro e w4 ⟨rfl, hR4, hg4⟩
        have hQ4 := hQ3.only hg4 hne
        have hE4 := hE3.only hg4 hb6
        have hb04 := below_only hb03 hg4 hbW
        go_wp2_with fail
        refine (q_Int g r w4 hQ4 hrl).mono ?_
        rintro e w5 ⟨rfl, hQ5, hg5⟩
        have hR5 := hR4.only hg5 (fun h => hne h.symm)
        have hE5 := hE4.only hg5 hg6
        have hb05 := below_only hb04 hg5 hgW
        obtain ⟨hn1, hn2⟩ := hnew
        generalize intF r = z at *
        obtain ⟨zv, zq⟩ := z
        simp only at *
        have hd1 : (doneF zq != doneF zq) = false := by simp
        go_wp2_with fail
        refine (rd_Left _ _ w5 hR5).mono ?_
        rintro e w7 ⟨rfl, rfl⟩
        go_wp2_with fail
        refine (q_Left _ _ w5 hQ5).mono ?_
        rintro e w7 ⟨rfl, rfl⟩
        go_wp2_with fail
        refine (rd_Done _ _ w5 hR5).mono ?_
        rintro e w7 ⟨rfl, rfl⟩
        go_wp2_with fail
        refine (q_Done _ _ w5 hQ5).mono ?_
        rintro e w7 ⟨rfl, rfl⟩
        go_wp2
        go_roundw
        case rel => exact ⟨k + 1, zq, by omega, by go_num, hR5, hQ5, hE5, hb05, hn1, hn2⟩
        case measure => simp [intOf]; omega
      · have HK := Lib.hid (kind_is (xs[k]) (hxi _ (List.getElem_mem hlt)) 2 hj (.int .i64 0) (.string ⟨#[]⟩) (.slice none 0 0) (.slice none 0 0) wr)
        have hnew : okRd (textF r).2 ∧ (textF r).2.1.length ≤ 400 := ⟨textF_ok hok, Nat.le_trans (textF_len r) hr4⟩
        clear hj hxi
        go_wp2_with fail
        refine HK.out.mono ?_
        rintro e w3 ⟨rfl, hb3⟩
        have hR3 := hR.next hb3
        have hQ3 := hQ.next hb3
        have hE3 := hEr.next hb3
        have hb03 := hbr.trans (hb3.mono hbr.size)
        clear HK
        go_wp2_with fail
        refine (rd_text b r w3 hE3 hR3 hrl).mono ?_
        rintro e w4 ⟨rfl, hR4, hg4⟩
        have hQ4 := hQ3.only hg4 hne
        have hE4 := hE3.only hg4 hb6
        have hb04 := below_only hb03 hg4 hbW
        go_wp2_with fail
        refine (q_text g r w4 hQ4 hrl hok).mono ?_
        rintro e w5 ⟨rfl, hQ5, hg5⟩
        have hR5 := hR4.only hg5 (fun h => hne h.symm)
        have hE5 := hE4.only hg5 hg6
        have hb05 := below_only hb04 hg5 hgW
        obtain ⟨hn1, hn2⟩ := hnew
        generalize textF r = z at *
        obtain ⟨zv, zq⟩ := z
        simp only at *
        have hd1 : (doneF zq != doneF zq) = false := by simp
        go_wp2_with fail
        refine (rd_Left _ _ w5 hR5).mono ?_
        rintro e w7 ⟨rfl, rfl⟩
        go_wp2_with fail
        refine (q_Left _ _ w5 hQ5).mono ?_
        rintro e w7 ⟨rfl, rfl⟩
        go_wp2_with fail
        refine (rd_Done _ _ w5 hR5).mono ?_
        rintro e w7 ⟨rfl, rfl⟩
        go_wp2_with fail
        refine (q_Done _ _ w5 hQ5).mono ?_
        rintro e w7 ⟨rfl, rfl⟩
        go_wp2
        go_roundw
        case rel => exact ⟨k + 1, zq, by omega, by go_num, hR5, hQ5, hE5, hb05, hn1, hn2⟩
        case measure => simp [intOf]; omega
      · have HK := Lib.hid (kind_is (xs[k]) (hxi _ (List.getElem_mem hlt)) 3 hj (.int .i64 0) (.string ⟨#[]⟩) (.slice none 0 0) (.slice none 0 0) wr)
        have hnew : okRd (numsF r).2 ∧ (numsF r).2.1.length ≤ 400 := ⟨listF_ok intF (fun _ => digitsF_ok) _ hok, Nat.le_trans (listF_len intF (fun q => digitsF_len 59 q) r) hr4⟩
        clear hj hxi
        go_wp2_with fail
        refine HK.out.mono ?_
        rintro e w3 ⟨rfl, hb3⟩
        have hR3 := hR.next hb3
        have hQ3 := hQ.next hb3
        have hE3 := hEr.next hb3
        have hb03 := hbr.trans (hb3.mono hbr.size)
        clear HK
        go_wp2_with fail
        refine (rd_NumsK b r w3 hE3 hR3 hrl hok hb6).mono ?_
        rintro e w4 ⟨v1, rfl, hI1, hR4, hg4⟩
        have hQ4 := hQ3.only hg4 hne
        have hE4 := hE3.only hg4 hb6
        have hb04 := below_only hb03 hg4 hbW
        go_wp2_with fail
        refine (q_Nums g r w4 hQ4 hrl hok).mono ?_
        rintro e w5 ⟨v2, rfl, hI2, hQ5, hg5⟩
        have hR5 := hR4.only hg5 (fun h => hne h.symm)
        have hE5 := hE4.only hg5 hg6
        have hb05 := below_only hb04 hg5 hgW
        have hcnt := numsF_count r
        have hS := Lib.hid (sameNums_eq v1 v2 _ w5 (hI1 g w5 hQ3.lt hg5) hI2 (by omega))
        go_wp2_with fail
        refine hS.out.mono ?_
        rintro e w6 ⟨rfl, n6, rfl⟩
        have hR6 := hR5.drewN n6
        have hQ6 : Qb g _ (w5.drewN n6) := hQ5
        have hE6 : Env (w5.drewN n6) := hE5.drewN n6
        have hb06 : Below w.heap.size w (w5.drewN n6) := ⟨hb05.os, hb05.tape, hb05.output, hb05.size, hb05.block⟩
        obtain ⟨hn1, hn2⟩ := hnew
        generalize numsF r = z at *
        obtain ⟨zv, zq⟩ := z
        simp only at *
        have hd1 : (doneF zq != doneF zq) = false := by simp
        go_wp2_with fail
        refine (rd_Left _ _ (w5.drewN n6) hR6).mono ?_
        rintro e w7 ⟨rfl, rfl⟩
        go_wp2_with fail
        refine (q_Left _ _ (w5.drewN n6) hQ6).mono ?_
        rintro e w7 ⟨rfl, rfl⟩
        go_wp2_with fail
        refine (rd_Done _ _ (w5.drewN n6) hR6).mono ?_
        rintro e w7 ⟨rfl, rfl⟩
        go_wp2_with fail
        refine (q_Done _ _ (w5.drewN n6) hQ6).mono ?_
        rintro e w7 ⟨rfl, rfl⟩
        go_wp2
        go_roundw
        case rel => exact ⟨k + 1, zq, by omega, by go_num, hR6, hQ6, hE6, hb06, hn1, hn2⟩
        case measure => simp [intOf]; omega
      · have HK := Lib.hid (kind_is (xs[k]) (hxi _ (List.getElem_mem hlt)) 4 hj (.int .i64 0) (.string ⟨#[]⟩) (.slice none 0 0) (.slice none 0 0) wr)
        have hnew : okRd (textsF r).2 ∧ (textsF r).2.1.length ≤ 400 := ⟨listF_ok textF (fun _ => textF_ok) _ hok, Nat.le_trans (listF_len textF textF_len r) hr4⟩
        clear hj hxi
        go_wp2_with fail
        refine HK.out.mono ?_
        rintro e w3 ⟨rfl, hb3⟩
        have hR3 := hR.next hb3
        have hQ3 := hQ.next hb3
        have hE3 := hEr.next hb3
        have hb03 := hbr.trans (hb3.mono hbr.size)
        clear HK
        go_wp2_with fail
        refine (rd_TextsK b r w3 hE3 hR3 hrl hok hb6).mono ?_
        rintro e w4 ⟨v1, rfl, hI1, hR4, hg4⟩
        have hQ4 := hQ3.only hg4 hne
        have hE4 := hE3.only hg4 hb6
        have hb04 := below_only hb03 hg4 hbW
        go_wp2_with fail
        refine (q_Texts g r w4 hQ4 hrl hok).mono ?_
        rintro e w5 ⟨v2, rfl, hI2, hQ5, hg5⟩
        have hR5 := hR4.only hg5 (fun h => hne h.symm)
        have hE5 := hE4.only hg5 hg6
        have hb05 := below_only hb04 hg5 hgW
        have hcnt := textsF_count r
        have hS := Lib.hid (sameTexts_eq v1 v2 _ w5 (hI1 g w5 hQ3.lt hg5) hI2 (by omega))
        go_wp2_with fail
        refine hS.out.mono ?_
        rintro e w6 ⟨rfl, n6, rfl⟩
        have hR6 := hR5.drewN n6
        have hQ6 : Qb g _ (w5.drewN n6) := hQ5
        have hE6 : Env (w5.drewN n6) := hE5.drewN n6
        have hb06 : Below w.heap.size w (w5.drewN n6) := ⟨hb05.os, hb05.tape, hb05.output, hb05.size, hb05.block⟩
        obtain ⟨hn1, hn2⟩ := hnew
        generalize textsF r = z at *
        obtain ⟨zv, zq⟩ := z
        simp only at *
        have hd1 : (doneF zq != doneF zq) = false := by simp
        go_wp2_with fail
        refine (rd_Left _ _ (w5.drewN n6) hR6).mono ?_
        rintro e w7 ⟨rfl, rfl⟩
        go_wp2_with fail
        refine (q_Left _ _ (w5.drewN n6) hQ6).mono ?_
        rintro e w7 ⟨rfl, rfl⟩
        go_wp2_with fail
        refine (rd_Done _ _ (w5.drewN n6) hR6).mono ?_
        rintro e w7 ⟨rfl, rfl⟩
        go_wp2_with fail
        refine (q_Done _ _ (w5.drewN n6) hQ6).mono ?_
        rintro e w7 ⟨rfl, rfl⟩
        go_wp2
        go_roundw
        case rel => exact ⟨k + 1, zq, by omega, by go_num, hR6, hQ6, hE6, hb06, hn1, hn2⟩
        case measure => simp [intOf]; omega
    · have hd1 : (doneF r == doneF r) = true := by simp
      have hd2 : (doneF ([], r.2) == doneF ([], r.2)) = true := by simp
      go_wp2_with fail
      refine (rd_Rest _ _ wr hR).mono ?_
      rintro e w4 ⟨rfl, hR4, hg4⟩
      have hQ4 := hQ.only hg4 hne
      have hb04 := below_only hbr hg4 hbW
      go_wp2_with fail
      refine (q_Tail _ _ w4 hQ4).mono ?_
      rintro e w5 ⟨rfl, hQ5, hg5⟩
      have hR5 := hR4.only hg5 (fun h => hne h.symm)
      have hb05 := below_only hb04 hg5 hgW
      go_wp2_with fail
      refine (rd_Left _ _ w5 hR5).mono ?_
      rintro e w6 ⟨rfl, rfl⟩
      go_wp2_with fail
      refine (q_Left _ _ w5 hQ5).mono ?_
      rintro e w6 ⟨rfl, rfl⟩
      go_wp2_with fail
      refine (rd_Done _ _ w5 hR5).mono ?_
      rintro e w6 ⟨rfl, rfl⟩
      go_wp2_with fail
      refine (q_Done _ _ w5 hQ5).mono ?_
      rintro e w6 ⟨rfl, rfl⟩
      go_wp2
      go_ret
      exact ⟨ret_bool (by simp), hb05⟩

set_option maxRecDepth 100000 in
theorem reads_long (s : ByteArray) (hs : 400 < s.size) (hm : s.size ≤ 9223372036854775807) (u : Value) (w : World) (hE : Env w) :
    Calls Tryd.prog 4 #[.string s, u] w (Tpost w) := by
  go_enter Tryd.func4, Tryd.ntmps4
  go_wp2_with fail
  refine (saneCodes w hE).mono ?_
  rintro e w1 ⟨rfl, hb1⟩
  go_wp2
  go_ret
  exact ⟨rfl, hb1⟩
set_option maxRecDepth 100000 in
theorem reads_many (s : ByteArray) (hs : s.size ≤ 400) (a : Option Addr) (n c : Nat) (hn : 20 < n) (hm : n ≤ 9223372036854775807) (w : World) (hE : Env w) :
    Calls Tryd.prog 4 #[.string s, .slice a n c] w (Tpost w) := by
  go_enter Tryd.func4, Tryd.ntmps4
  go_wp2_with fail
  refine (saneCodes w hE).mono ?_
  rintro e w1 ⟨rfl, hb1⟩
  go_wp2
  go_ret
  exact ⟨rfl, hb1⟩
theorem reads_any (s : ByteArray) (hm : s.size ≤ maxLen) (u : Value) (xs : List Int) (w : World) (hE : Env w) (hu : IsInts u xs w) (hn : xs.length ≤ 9223372036854775807) (hxi : ∀ x ∈ xs, isInt x) :
    Calls Tryd.prog 4 #[.string s, u] w (Tpost w) := by
  unfold maxLen at hm
  by_cases h : s.size ≤ 400
  · by_cases h2 : xs.length ≤ 20
    · have := reads_calls s.data.toList u xs w hE (by rw [← Lib.size_eq]; exact h) h2 hu hxi
      rw [bs_of] at this
      exact this
    · obtain ⟨a, c, rfl⟩ := hu.len
      exact reads_many s h a _ c (by omega) hn w hE
  · exact reads_long s (by omega) (by omega) u w hE
end Go.Proofs.YtgpeingndefacaaDoor
