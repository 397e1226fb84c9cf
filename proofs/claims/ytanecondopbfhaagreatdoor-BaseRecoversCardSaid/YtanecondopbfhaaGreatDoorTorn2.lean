/- oneLong. -/
import Derived.Test.YtanecondopbfhaaGreatDoorTorn
namespace Go.Proofs.YtanecondopbfhaaGreatDoor
open Go.RowKit

set_option maxHeartbeats 2000000 in
set_option maxRecDepth 100000 in
theorem one_calls {v : Value} {l : List (List UInt8)} {w : World} (h : IsTexts v l w) (hl : l.length ≤ 9223372036854775807) (hs : ∀ u ∈ l, u.length ≤ 9223372036854775807) :
    Calls Tryz.prog 35 #[v] w fun e w' => ∃ t, e = .returned (.bool t) ∧ (t = true → l.length ≤ 8 ∧ ∀ u ∈ l, u.length ≤ 20000) ∧ w = w' := by
  obtain ⟨a, c, rfl⟩ := h.len
  have HS := Lib.hid hs
  have HA := Lib.hid h
  clear hs h
  go_enter Tryz.func35, Tryz.ntmps35
  go_wp2_with fail
  go_loopw [3, 4] (fun m i wr => ∃ (k n : Nat), k ≤ l.length ∧ k ≤ 9 ∧ n ≤ k ∧ i = .int .i64 k ∧ m = .int .i64 n ∧ wr = w ∧ Hid (∀ u ∈ l.take k, u.length ≤ 20000)) (fun _ i _ => 10 - (intOf i).toNat)
  case atStart => exact ⟨0, 0, by omega, by omega, by omega, rfl, rfl, rfl, Lib.hid (by simp)⟩
  case round =>
    obtain ⟨k, n, hk, hk9, hn, rfl, rfl, rfl, hf⟩ := hrel
    by_cases hgo : k < l.length ∧ k ≤ 8
    · obtain ⟨hlt, h8⟩ := hgo
      obtain ⟨bk, off, rfl, hbk, hc⟩ := HA.out.at k hlt
      have e1 := hc k l[k] (List.getElem?_eq_getElem hlt)
      have hz := bs_size l[k]
      have hm := HS.out l[k] (List.getElem_mem hlt)
      have HZ := Lib.hid hz
      have hsz : (bs l[k]).size ≤ 9223372036854775807 := by omega
      have hnext : l[k].length ≤ 20000 → Hid (∀ u ∈ l.take (k + 1), u.length ≤ 20000) := fun h2 => Lib.hid (by
        rw [take_snoc l k hlt]
        intro u hu
        rcases List.mem_append.1 hu with hu | hu
        · exact hf.out u hu
        · simp at hu; rw [hu]; exact h2)
      clear hc hz hm
      by_cases hb : (bs l[k]).size ≤ 20000
      · have HN := hnext (by rw [← HZ.out]; exact hb)
        clear hnext
        by_cases hb2 : (bs l[k]).size ≤ 200
        · go_wp2_with fail
          go_roundw
          case rel => exact ⟨k + 1, n, by omega, by omega, by omega, by go_num, rfl, trivial, HN⟩
          case measure => simp [intOf]; omega
        · go_wp2_with fail
          go_roundw
          case rel => exact ⟨k + 1, n + 1, by omega, by omega, by omega, by go_num, by go_num, trivial, HN⟩
          case measure => simp [intOf]; omega
      · go_wp2_with fail
        go_ret
        exact ⟨false, rfl, by simp, rfl⟩
    · have hcase : (k = l.length ∧ k ≤ 8) ∨ 8 < k := by omega
      rcases hcase with ⟨rfl, h8⟩ | h8
      · have hall := hf.out
        rw [List.take_length] at hall
        have HF := Lib.hid hall
        clear hall hgo
        by_cases hn1 : n ≤ 1
        · go_wp2_with fail
          go_ret
          exact ⟨_, rfl, fun _ => ⟨h8, HF.out⟩, rfl⟩
        · go_wp2_with fail
          go_ret
          exact ⟨_, rfl, fun _ => ⟨h8, HF.out⟩, rfl⟩
      · clear hgo
        by_cases hlt : k < l.length
        · go_wp2_with fail
          go_ret
          exact Or.inl ⟨rfl, rfl⟩
        · go_wp2_with fail
          go_ret
          exact Or.inl ⟨rfl, rfl⟩

end Go.Proofs.YtanecondopbfhaaGreatDoor
