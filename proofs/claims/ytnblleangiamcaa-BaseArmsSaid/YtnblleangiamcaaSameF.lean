/- sameFiles. -/
import Derived.Test.YtnblleangiamcaaArmsP
import Derived.Deep.QuietTactic
import Derived.BigQuiet
namespace Go.Proofs.Ytnblleangiamcaa
open Go.RowKit

variable {w w' : World} {b1 b2 : Nat} {d1 d2 : Dk} {S : Nat → Prop} {B : Nat} {v : Value} {l : List Act'}

theorem t_read (h : Two S w b1 d1 b2 d2) (f a n : Int) (ha : -9223372036854775808 ≤ a) (ha2 : a ≤ 9223372036854775807) :
    Calls Try.prog 19 #[.pointer (some ⟨b1, 0, none⟩), .int .i64 f, .int .i64 a, .int .i64 n] w fun e w' => e = .returned (.tuple #[.string (bs (d1.read f a n).1), .int .i64 (d1.read f a n).2]) ∧ Two S w' b1 d1 b2 d2 ∧ Kept (fun i => ¬ S i) w w' := by
  obtain ⟨S', hSS, hM, hback⟩ := h.left
  refine (m_read hM f a n ha ha2).mono ?_
  rintro e w' ⟨rfl, h1, k1⟩
  exact ⟨rfl, hback _ _ h1 k1, k1.mono (fun i hi => Or.inl (fun hs => hi (hSS i hs)))⟩

theorem Two.kept {T : Nat → Prop} (h : Two S w b1 d1 b2 d2) (hk : Kept T w w') (hT : ∀ i, T i → S i ∨ w.heap.size ≤ i) : Two S w' b1 d1 b2 d2 := by
  obtain ⟨L1, L2, h1, h2, h3, h4, h5, h6⟩ := h
  refine ⟨L1, L2, h1.kept hk (fun i hi hti => ?_), h2.kept hk (fun i hi hti => ?_), h3, h4, h5, fun i hi => Nat.lt_of_lt_of_le (h6 i hi) hk.size⟩
  · rcases hT i hti with h7 | h7
    · exact h3 i hi h7
    · have := h1.foot_lt i hi; omega
  · rcases hT i hti with h7 | h7
    · exact h4 i hi h7
    · have := h2.foot_lt i hi; omega

theorem size_eq {d : Dk} {b : Nat} (h : Mine S w b d) (f : Int) (n : Nat) : Calls Try.prog 15 #[.pointer (some ⟨b, 0, none⟩), .int .i64 f] (w.drewN n) fun e w' => e = .returned (.int .i64 (d.size f)) ∧ w' = w.drewN n :=
  (m_size (h.kept (kept_drewN (fun _ => False) w n) (fun _ hi => hi.elim)) f).mono fun _ _ ⟨h1, h2⟩ => ⟨h1, h2.symm⟩

set_option maxHeartbeats 2000000 in
set_option maxRecDepth 100000 in
theorem same_calls (h : Two S w b1 d1 b2 d2) (ha : Alike d1 d2) (hl : IsActs B v l w) (hS : ∀ i, i < B → S i) (hlen : l.length ≤ 40) :
    Calls Try.prog 27 #[.pointer (some ⟨b1, 0, none⟩), .pointer (some ⟨b2, 0, none⟩), v] w fun e w' => e = .returned (.bool true) ∧ Two S w' b1 d1 b2 d2 ∧ Kept (fun i => ¬ S i) w w' := by
  obtain ⟨va, vc, rfl⟩ := hl.shape
  have c1 := Lib.hid (m_down h.one)
  have c2 := Lib.hid (m_down h.symm.one)
  rw [ha.1] at c1
  obtain ⟨dn, hdn⟩ : ∃ dn, dn = d2.down := ⟨_, rfl⟩
  rw [← hdn] at c1 c2
  have HA := Lib.hid ha
  have HL := Lib.hid hl
  have HS0 : Hid (Two S w b1 d1 b2 d2 ∧ Kept (fun i => ¬ S i) w w) := ⟨h, Kept.refl _ _⟩
  clear h ha hl hdn
  go_enter Try.func27, Try.ntmps27
  go_wp2_with fail
  refine Calls.mono c1.out ?_
  rintro e w1 ⟨rfl, rfl⟩
  go_wp2_with fail
  refine Calls.mono c2.out ?_
  rintro e w1 ⟨rfl, rfl⟩
  go_wp2_with fail
  go_loopw [7] (fun i wr => ∃ k : Nat, k ≤ l.length ∧ i = .int .i64 k ∧ Hid (Two S wr b1 d1 b2 d2 ∧ Kept (fun i => ¬ S i) w wr)) (fun i _ => 41 - (intOf i).toNat)
  case atStart => exact ⟨0, by omega, rfl, HS0⟩
  case round =>
    obtain ⟨k, hk, rfl, hs⟩ := hrel
    by_cases hlt : k < l.length
    · obtain ⟨a, hat0⟩ : ∃ a, l[k]? = some a := ⟨_, List.getElem?_eq_getElem hlt⟩
      have hacts := HL.out.kept hs.out.2 (fun i hi => Nat.not_lt.1 (fun h => hi (hS i h)))
      obtain ⟨g, off, rfl, kv, hat⟩ := hacts.get hat0
      have a1 := hat.c1
      have hgB : g < B ∨ True := Or.inr trivial
      have hin : IsActs B (.slice (some ⟨g, off, none⟩) l.length vc) l wr := hacts
      have c3 := Lib.hid (t_read hs.out.1 a.F 0 16777216 (by decide) (by decide))
      rw [HA.out.read] at c3
      obtain ⟨rd, hrd⟩ : ∃ rd, rd = d2.read a.F 0 16777216 := ⟨_, rfl⟩
      rw [← hrd] at c3
      obtain ⟨r1, r2⟩ := rd
      have HRD := Lib.hid hrd
      have HIN := Lib.hid hin
      have H0 := Lib.hid hat0
      clear hrd hin hacts hat hat0 hgB
      go_wp2_with fail
      refine Calls.mono c3.out ?_
      rintro e w2 ⟨rfl, h2, k2⟩
      have hin2 := HIN.out.kept k2 (fun i hi => Nat.not_lt.1 (fun h => hi (hS i h)))
      obtain ⟨g', off', eg, kv2, hat2⟩ := hin2.get H0.out
      simp only [Option.some.injEq, Addr.mk.injEq, and_true] at eg
      obtain ⟨rfl, rfl⟩ := eg
      have a2 := hat2.c1
      have c4 := Lib.hid (t_read h2.symm a.F 0 16777216 (by decide) (by decide))
      rw [← HRD.out] at c4
      have HIN2 := Lib.hid hin2
      have K2 := Lib.hid (hs.out.2.trans k2)
      clear hin2 hat2 h2 k2 c3
      go_wp2_with fail
      refine Calls.mono c4.out ?_
      rintro e w3 ⟨rfl, h3, k3⟩
      have hin3 := HIN2.out.kept k3 (fun i hi => Nat.not_lt.1 (fun h => hi (hS i h)))
      obtain ⟨g', off', eg, kv3, hat3⟩ := hin3.get H0.out
      simp only [Option.some.injEq, Addr.mk.injEq, and_true] at eg
      obtain ⟨rfl, rfl⟩ := eg
      have a3 := hat3.c1
      have a3n : ∀ n, (w3.drewN n).cell? ⟨g, off + k * 5 + 1, none⟩ = some (.int .i64 a.F) := fun n => a3
      have K3 := Lib.hid (K2.out.trans k3)
      have H3 := Lib.hid h3.symm
      have q1 := fun n => Lib.hid (size_eq h3.symm.one a.F n)
      have q2 := fun n => Lib.hid (size_eq h3.one a.F n)
      rw [HA.out.size] at q1
      obtain ⟨sz, hsz⟩ : ∃ sz, sz = d2.size a.F := ⟨_, rfl⟩
      rw [← hsz] at q1 q2
      have hlk : (k : Int) < (l.length : Int) := by omega
      have hk0 : (0 : Int) ≤ (k : Int) := by omega
      clear hin3 hat3 h3 k3 c4 hsz
      go_wp2_with fail
      go_quiet ((first
        | (go_at_call 15; with_reducible exact Calls.quiet_of_same (q1 _).out)
        | (go_at_call 15; with_reducible exact Calls.quiet_of_same (q2 _).out)))
      go_wp2_with fail
      go_roundw
      case rel => exact ⟨k + 1, by omega, by go_num, H3.out.kept (kept_drewN (fun _ => False) _ _) (fun i hi => hi.elim), K3.out.trans (kept_drewN _ _ _)⟩
      case measure => simp [intOf]; omega
    · obtain rfl : k = l.length := by omega
      go_wp2_with fail
      go_ret
      exact ⟨rfl, hs.out⟩

end Go.Proofs.Ytnblleangiamcaa
