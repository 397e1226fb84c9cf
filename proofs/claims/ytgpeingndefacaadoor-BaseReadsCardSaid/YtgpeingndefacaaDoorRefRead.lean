/- The reference's reader does what the functions on lists of bytes say. -/
import Derived.Test.YtgpeingndefacaaDoorBackInt
namespace Go.Proofs.YtgpeingndefacaaDoor
open Go.RowKit

/-- The reference reader's block. -/
def Qb (b : Nat) (r : Rd) (w : World) : Prop := w.heap[b]? = some (.cells #[.string (bs r.1), .bool r.2] 55 (0, 0))
theorem Qb.lt {b : Nat} {r : Rd} {w : World} (h : Qb b r w) : b < w.heap.size := by
  rcases Nat.lt_or_ge b w.heap.size with h' | h'
  · exact h'
  · unfold Qb at h; simp [Array.getElem?_eq_none h'] at h
theorem Qb.c0 {b : Nat} {r : Rd} {w : World} (h : Qb b r w) : w.cell? ⟨b, 0, none⟩ = some (.string (bs r.1)) := by rw [Lib.cell_of_heap h]; rfl
theorem Qb.c1 {b : Nat} {r : Rd} {w : World} (h : Qb b r w) : w.cell? ⟨b, 1, none⟩ = some (.bool r.2) := by rw [Lib.cell_of_heap h]; rfl
theorem Qb.f {b : Nat} {r : Rd} {w : World} (h : Qb b r w) (j : Nat) : w.frozen? ⟨b, j, none⟩ = false := Lib.frozen_of_heap h j
theorem Qb.next {b : Nat} {r : Rd} {w w' : World} (h : Qb b r w) (hb : Below w.heap.size w w') : Qb b r w' := by
  have hlt := h.lt
  unfold Qb at h ⊢
  rw [hb.block b hlt]; exact h
theorem Qb.set0 {b : Nat} {r : Rd} {w : World} (h : Qb b r w) (l : List UInt8) : Qb b (l, r.2) (w.setCell ⟨b, 0, none⟩ (.string (bs l))) := by
  unfold Qb at h ⊢
  simp [World.setCell, Array.getElem?_modify, h]
theorem Qb.set1 {b : Nat} {r : Rd} {w : World} (h : Qb b r w) (f : Bool) : Qb b (r.1, f) (w.setCell ⟨b, 1, none⟩ (.bool f)) := by
  unfold Qb at h ⊢
  simp [World.setCell, Array.getElem?_modify, h]
theorem Qb.fail2 {b : Nat} {r : Rd} {w : World} (h : Qb b r w) : Qb b failed ((w.setCell ⟨b, 0, none⟩ (.string { data := #[] })).setCell ⟨b, 1, none⟩ (.bool true)) := by
  have h2 := (h.set0 []).set1 true
  rw [bs_nil] at h2
  exact h2
/-- What a method of the reference reader leaves. -/
def Rpost' (b : Nat) (v : Value) (r : Rd) (w : World) (e : Ending) (w' : World) : Prop := e = .returned v ∧ Qb b r w' ∧ w.grownBy w' (some b)

set_option maxRecDepth 100000 in
theorem qopen (s : List UInt8) (w : World) :
    Calls Tryd.prog 21 #[.string (bs s)] w fun e w' => e = .returned (.pointer (some ⟨w.heap.size, 0, none⟩)) ∧ Qb w.heap.size (s, false) w' ∧ Below w.heap.size w w' ∧ w.heap.size < w'.heap.size := by
  go_enter Tryd.func21, Tryd.ntmps21
  go_wp2
  go_ret
  refine ⟨rfl, ?_, (Below.refl _ _).alloc (Nat.le_refl _) _, by simp⟩
  unfold Qb
  exact Array.getElem?_push_size ..

set_option maxRecDepth 100000 in
theorem q_fail (b : Nat) (r : Rd) (w : World) (h : Qb b r w) :
    Calls Tryd.prog 53 #[.pointer (some ⟨b, 0, none⟩)] w (Rpost' b (.int .i64 0) failed w) := by
  have c0 := h.c0
  have c1 := h.c1
  have f0 := h.f 0
  have f1 := h.f 1
  go_enter Tryd.func53, Tryd.ntmps53
  go_wp2
  go_ret
  exact ⟨rfl, h.fail2, only_fail2 _ _⟩

theorem idx_none (c : UInt8) : ∀ (l : List UInt8), (∀ x ∈ l, x ≠ c) → Lib.indexByte l c = -1
  | [], _ => rfl
  | d :: l, h => by
    have ih := idx_none c l (fun x hx => h x (List.mem_cons_of_mem _ hx))
    rw [indexByte_cons, if_neg (h d (List.mem_cons_self ..)), ih, if_pos (by omega)]
theorem idx_at {c : UInt8} {l : List UInt8} {k : Nat} (hk : k < l.length) (hc : l[k] = c) (hn : ∀ x ∈ l.take k, x ≠ c) : Lib.indexByte l c = (k : Int) := by
  have e : l = l.take k ++ c :: l.drop (k + 1) := by
    conv => lhs; rw [← List.take_append_drop k l, List.drop_eq_getElem_cons hk, hc]
  have h := indexByte_skip c (l.take k) (l.drop (k + 1)) hn
  rw [← e] at h
  rw [h, List.length_take]; omega
theorem canon_long {l : List UInt8} (h : 20 < l.length) : canon l = none := canon_none_of fun v hc => by
  have h1 := itoa_len v (canon_int hc)
  rw [canon_some hc] at h1; omega
theorem digits_far {c : UInt8} {l : List UInt8} {f : Bool} {k : Nat} (hk : 20 < k) (hn : ∀ x ∈ l.take k, x ≠ c) : digitsF c (l, f) = (0, failed) := by
  unfold digitsF
  by_cases h : Lib.indexByte l c < 0
  · rw [if_pos h]
  · rw [if_neg h]
    obtain ⟨a, b, e, hi⟩ := indexByte_hit c l (by omega)
    have ha : k ≤ a.length := by
      rcases Nat.lt_or_ge a.length k with h' | h'
      · exact absurd rfl (hn c (by
          rw [e, List.take_append]
          have : k - a.length = (k - a.length - 1) + 1 := by omega
          rw [this, List.take_succ_cons]
          simp))
      · exact h'
    rw [hi]
    simp only [Int.toNat_natCast]
    rw [e, List.take_left' rfl, canon_long (by omega)]
theorem digits_missing {c : UInt8} {l : List UInt8} {f : Bool} (hn : ∀ x ∈ l, x ≠ c) : digitsF c (l, f) = (0, failed) := by
  unfold digitsF
  rw [if_pos (by rw [idx_none c l hn]; omega)]

set_option maxHeartbeats 1000000 in
set_option maxRecDepth 100000 in
theorem q_ahead (b : Nat) (r : Rd) (c : UInt8) (w : World) (h : Qb b r w) (hr : r.1.length ≤ 4294967296) :
    Calls Tryd.prog 50 #[.pointer (some ⟨b, 0, none⟩), .int .u8 (c.toNat : Int)] w (Rpost' b (.int .i64 (digitsF c r).1) (digitsF c r).2 w) := by
  obtain ⟨l, f⟩ := r
  have c0 := h.c0
  have f0 := h.f 0
  have hsm : (bs l).size ≤ 4294967296 := by rw [bs_size]; exact hr
  obtain ⟨y, hy⟩ : ∃ y, y = digitsF c (l, f) := ⟨_, rfl⟩
  rw [← hy]
  have HY := Lib.hid hy
  clear hy
  go_enter Tryd.func50, Tryd.ntmps50
  go_wp2
  go_loopw [5] (fun i wr => ∃ k : Nat, k ≤ 21 ∧ k ≤ (bs l).size ∧ i = .int .i64 k ∧ wr = w ∧ ∀ x ∈ l.take k, x ≠ c) (fun i _ => (bs l).size - (intOf i).toNat)
  case atStart => exact ⟨0, by omega, Nat.zero_le _, rfl, rfl, by simp⟩
  case round =>
    obtain ⟨k, hk21, hk, rfl, rfl, hno⟩ := hrel
    have HNO := Lib.hid hno
    clear hno
    by_cases hlt : k < (bs l).size
    · have hkl : k < l.length := by rw [← bs_size]; exact hlt
      have hgk := Lib.hid (bs_get l k hlt hkl)
      by_cases hc : l[k] = c
      · have hne : ((((bs l)[k]'hlt).toNat : Int) != (c.toNat : Int)) = false := by rw [hgk.out, hc]; simp
        have hidx := idx_at hkl hc HNO.out
        have HB := Lib.hid (backInt (l.take k) (by simp; omega) wr)
        have hkI : (k : Int) < ((bs l).size : Int) := by omega
        have HI := Lib.hid hidx
        clear hidx hc
        have hcase : k < 21 ∨ ¬ k < 21 := by omega
        rcases hcase with h21 | h21
        · go_wp2_with fail
          rw [bs_take]
          refine HB.out.mono ?_
          rintro e w1 ⟨n, ok, rfl, hok, hb1⟩
          have h1 := h.next hb1
          cases ok
          · have hcn : canon (l.take k) = none := hok
            have hy2 : y = (0, failed) := by rw [HY.out]; unfold digitsF; rw [HI.out, if_neg (by omega), Int.toNat_natCast, hcn]
            have HY2 := Lib.hid hy2
            clear hy2 hcn hok
            go_wp2_with fail
            refine (q_fail b _ _ h1).mono ?_
            rintro e w2 ⟨rfl, h2, g2⟩
            have g02 := only_trans (only_below (only_refl wr b) hb1) g2
            go_wp2
            go_ret
            rw [HY2.out]
            exact ⟨rfl, h2, g02⟩
          · have hcn : canon (l.take k) = some n := hok
            have hy2 : y = (n, (l.drop (k + 1), f)) := by rw [HY.out]; unfold digitsF; rw [HI.out, if_neg (by omega), Int.toNat_natCast, hcn]
            have HY2 := Lib.hid hy2
            have d0 := h1.c0
            have d1 := h1.f 0
            clear hy2 hcn hok
            go_wp2
            go_ret
            rw [HY2.out, bs_drop]
            exact ⟨rfl, h1.set0 _, only_setCell (p := ⟨b, 0, none⟩) (only_below (only_refl wr b) hb1) (Or.inl rfl) _⟩
        · go_wp2_with fail
          rw [bs_take]
          refine HB.out.mono ?_
          rintro e w1 ⟨n, ok, rfl, hok, hb1⟩
          have h1 := h.next hb1
          cases ok
          · have hcn : canon (l.take k) = none := hok
            have hy2 : y = (0, failed) := by rw [HY.out]; unfold digitsF; rw [HI.out, if_neg (by omega), Int.toNat_natCast, hcn]
            have HY2 := Lib.hid hy2
            clear hy2 hcn hok
            go_wp2_with fail
            refine (q_fail b _ _ h1).mono ?_
            rintro e w2 ⟨rfl, h2, g2⟩
            have g02 := only_trans (only_below (only_refl wr b) hb1) g2
            go_wp2
            go_ret
            rw [HY2.out]
            exact ⟨rfl, h2, g02⟩
          · have hcn : canon (l.take k) = some n := hok
            have hy2 : y = (n, (l.drop (k + 1), f)) := by rw [HY.out]; unfold digitsF; rw [HI.out, if_neg (by omega), Int.toNat_natCast, hcn]
            have HY2 := Lib.hid hy2
            have d0 := h1.c0
            have d1 := h1.f 0
            clear hy2 hcn hok
            go_wp2
            go_ret
            rw [HY2.out, bs_drop]
            exact ⟨rfl, h1.set0 _, only_setCell (p := ⟨b, 0, none⟩) (only_below (only_refl wr b) hb1) (Or.inl rfl) _⟩
      · have hne : ((((bs l)[k]'hlt).toNat : Int) != (c.toNat : Int)) = true := by
          rw [hgk.out, bne_iff_ne]
          intro e
          exact hc (UInt8.toNat_inj.1 (by omega))
        have hkI : (k : Int) < ((bs l).size : Int) := by omega
        have hst := take_all (P := fun x => x ≠ c) HNO.out hkl hc
        have HST := Lib.hid hst
        clear hst hc
        by_cases h21 : k < 21
        · go_wp2
          go_roundw
          case rel => exact ⟨k + 1, by omega, by omega, by go_num, trivial, HST.out⟩
          case measure => simp [intOf]; omega
        · have hy2 : y = (0, failed) := by rw [HY.out]; exact digits_far (show 20 < k + 1 by omega) HST.out
          have HY2 := Lib.hid hy2
          clear hy2
          go_wp2_with fail
          refine (q_fail b _ _ h).mono ?_
          rintro e w2 ⟨rfl, h2, g2⟩
          go_wp2
          go_ret
          rw [HY2.out]
          exact ⟨rfl, h2, g2⟩
    · have hy2 : y = (0, failed) := by
        rw [HY.out]
        have h := HNO.out
        rw [List.take_of_length_le (by rw [bs_size] at hlt; omega)] at h
        exact digits_missing h
      have HY2 := Lib.hid hy2
      clear hy2
      go_wp2_with fail
      refine (q_fail b _ _ h).mono ?_
      rintro e w2 ⟨rfl, h2, g2⟩
      go_wp2
      go_ret
      rw [HY2.out]
      exact ⟨rfl, h2, g2⟩
end Go.Proofs.YtgpeingndefacaaDoor
