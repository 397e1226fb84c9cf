/- The journal's calls that change nothing: Len, Get, All; comparing lists of strings. -/
import Derived.Test.YtanecondopbfhaaGreatDoorJour2
import Derived.Deep.QuietTactic
import Derived.BigQuiet
namespace Go.Proofs.YtanecondopbfhaaGreatDoor
open Go.RowKit
open Cod (Env)

variable {w w' : World} {b jb B : Nat} {d : Dk} {S : Nat → Prop} {rv : Value} {j : Jr}

theorem IsTexts.len {v : Value} {xs : List (List UInt8)} {w : World} (h : IsTexts v xs w) : ∃ a cap, v = .slice a xs.length cap := by
  rcases h with ⟨⟨a, c, h1⟩, h2⟩ | ⟨bk, off, cap, h, _⟩
  · exact ⟨a, c, by rw [h1, h2]; rfl⟩
  · exact ⟨_, _, h⟩
theorem IsTexts.at {a : Option Addr} {n cap : Nat} {xs : List (List UInt8)} {w : World} (h : IsTexts (.slice a n cap) xs w) (k : Nat) (hk : k < xs.length) :
    ∃ bk off, a = some ⟨bk, off, none⟩ ∧ bk < w.heap.size ∧ ∀ i x, xs[i]? = some x → w.cell? ⟨bk, off + i, none⟩ = some (.string (bs x)) := by
  rcases h with ⟨h1, h2⟩ | ⟨bk, off, cap, h, hb, hc⟩
  · rw [h2] at hk; simp at hk
  · simp only [Value.slice.injEq] at h
    exact ⟨bk, off, h.1, hb, hc⟩

theorem len_bound (hJ : JM B S w b jb rv j) : j.L.length ≤ 16777216 := Nat.le_trans (forms_len _) hJ.ln

set_option maxHeartbeats 1000000 in
set_option maxRecDepth 100000 in
theorem jlen_calls (hJ : JM B S w b jb rv j) :
    Calls Tryz.prog 37 #[.pointer (some ⟨jb, 0, none⟩)] w fun r w' => r = .returned (.int .i64 (j.L.length : Int)) ∧ w = w' := by
  have hb := len_bound hJ
  have c2 := hJ.c2
  obtain ⟨a, c, rfl⟩ := (row_texts hJ.row).len
  go_enter Tryz.func37, Tryz.ntmps37
  go_wp2
  go_ret
  exact ⟨rfl, rfl⟩

set_option maxHeartbeats 1000000 in
set_option maxRecDepth 100000 in
theorem jget_calls (hJ : JM B S w b jb rv j) (i : Int) :
    Calls Tryz.prog 38 #[.pointer (some ⟨jb, 0, none⟩), .int .i64 i] w fun r w' => r = .returned (.string (bs (if i < 0 then [] else j.L.getD i.toNat []))) ∧ w = w' := by
  have hb := len_bound hJ
  have c2 := hJ.c2
  have ht := row_texts hJ.row
  obtain ⟨a, c, rfl⟩ := ht.len
  by_cases h0 : i < 0
  · rw [if_pos h0]
    go_enter Tryz.func38, Tryz.ntmps38
    go_wp2
    go_ret
    exact ⟨rfl, rfl⟩
  · obtain ⟨k, rfl⟩ := Int.eq_ofNat_of_zero_le (Int.not_lt.1 h0)
    rw [if_neg h0]
    simp only [Int.toNat_natCast]
    by_cases hk : k < j.L.length
    · obtain ⟨bk, off, rfl, hbk, hc⟩ := ht.at k hk
      have e1 := hc k j.L[k] (List.getElem?_eq_getElem hk)
      clear hc ht
      go_enter Tryz.func38, Tryz.ntmps38
      go_wp2
      go_ret
      exact ⟨rfl, rfl⟩
    · have hg : j.L.getD k [] = [] := by rw [List.getD_eq_getElem?_getD, List.getElem?_eq_none (by omega)]; rfl
      have HG := Lib.hid hg
      go_enter Tryz.func38, Tryz.ntmps38
      go_wp2
      go_ret
      exact ⟨rfl, rfl⟩

theorem strs_map (l : List (List UInt8)) : (l.map bs).map Value.string = l.map fun s => Value.string (bs s) := by simp

/-- A copy of a list of strings. -/
theorem tclone_calls (v : Value) (l : List (List UInt8)) (h : TRow B w v l) (hl : l.length ≤ 16777216) :
    Calls Tryz.prog 60 #[v] w fun r w' => ∃ v', r = .returned v' ∧ TRow w.heap.size w' v' l ∧ Below w.heap.size w w' := by
  have ht := row_texts h
  rcases h.2 with ⟨rfl, h0⟩ | ⟨g, cap, cur, rfl, hg⟩
  · refine (Tryz.slices_Clone_string_nil 0 0 w).mono ?_
    rintro r w' ⟨rfl, rfl⟩
    have hl0 : l = [] := List.length_eq_zero_iff.1 h0
    subst hl0
    exact ⟨_, rfl, ⟨by simp, .inl ⟨rfl, rfl⟩⟩, Below.refl _ _⟩
  · refine (Tryz.slices_Clone_string g 0 l.length cap (l.map bs) w (by simp) (by omega) (fun i hi => ?_)).mono ?_
    · have hi2 : i < l.length := by simpa using hi
      obtain ⟨bk, off, e, _, hc⟩ := ht.at i hi2
      simp only [Option.some.injEq, Addr.mk.injEq] at e
      rw [← e.1, ← e.2.1] at hc
      rw [hc i l[i] (List.getElem?_eq_getElem hi2), List.getD_eq_getElem?_getD, List.getElem?_eq_getElem hi]
      simp
    · rintro r w' ⟨v', rfl, ho, _, hb⟩
      rw [List.take_of_length_le (by simp), strs_map] at ho
      exact ⟨v', rfl, ho, hb⟩

set_option maxHeartbeats 1000000 in
set_option maxRecDepth 100000 in
theorem jall_calls (hJ : JM B S w b jb rv j) :
    Calls Tryz.prog 28 #[.pointer (some ⟨jb, 0, none⟩)] w fun r w' => ∃ v, r = .returned v ∧ TRow w.heap.size w' v j.L ∧ Below w.heap.size w w' := by
  have hb := len_bound hJ
  have c2 := hJ.c2
  have hC := Lib.hid (tclone_calls rv j.L hJ.row hb)
  obtain ⟨a, m, c, rfl⟩ := row_slice hJ.row
  go_enter Tryz.func28, Tryz.ntmps28
  go_wp2_with (go_at_call 60; refine hC.out.mono ?_)
  rintro r w1 ⟨v, rfl, h1, h2⟩
  go_wp2
  go_ret
  exact ⟨v, rfl, h1, h2⟩

end Go.Proofs.YtanecondopbfhaaGreatDoor
