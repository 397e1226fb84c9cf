/- Acts: do. -/
import Derived.Test.YtbljfdjhgleafaaSane2
namespace Go.Proofs.Ytbljfdjhgleafaa
open Go.RowKit

structure Act' where
  Do : Int
  F : Int
  N : Int
  S : List UInt8
  Keep : List Int

def kd (x : Int) : Int := bits BinOp.and IntKind.i64 x 7
def lo (x : Int) : Int := bits BinOp.and IntKind.i64 x 3

def Dk.act (d : Dk) (a : Act') : Dk × Int :=
  if kd a.Do = 2 then d.sync a.F else if kd a.Do = 3 then d.truncate a.F a.N else if kd a.Do = 4 then (d.lose (lo a.N), 0) else if kd a.Do = 5 then (d.arm a.N a.Keep, 0) else
  if kd a.Do = 6 then (d.crash a.Keep, 0) else if kd a.Do = 7 then (d.start, 0) else d.write a.F a.N a.S

structure FitA (a : Act') : Prop where
  n : -9223372036854775808 ≤ a.N ∧ a.N ≤ 9223372036854775807
  s : a.S.length ≤ 1099511627776
  k : a.Keep.length ≤ 1099511627776

theorem lo_le (x : Int) : lo x ≤ 9223372036854775807 := bits_hi_i64 _ _ _

variable {w w' : World} {b : Nat} {d d' : Dk} {S : Nat → Prop}

set_option maxHeartbeats 2000000 in
set_option maxRecDepth 100000 in
theorem do_calls (h : Mine S w b d) (a : Act') (kv : Value) (hf : FitA a) (hR : d.R + a.S.length + 2 ≤ 549755813888) (hv : KeepAt w kv a.Keep) (hvb : ∀ i, inBlock kv i → S i) :
    Calls Try.prog 11 #[.pointer (some ⟨b, 0, none⟩), .agg #[.int .i64 a.Do, .int .i64 a.F, .int .i64 a.N, .string (bs a.S), kv]] w fun r w' => r = .returned (.int .i64 (d.act a).2) ∧ Mine S w' b (d.act a).1 ∧ Kept (fun i => ¬ S i) w w' := by
  obtain ⟨x, f, n, s, keep⟩ := a
  obtain ⟨hn, hs, hkl⟩ := hf
  simp only at hn hs hkl hR hv ⊢
  obtain ⟨k, hk⟩ : ∃ k, bits BinOp.and IntKind.i64 x 7 = k := ⟨_, rfl⟩
  have hkd : kd x = k := hk
  obtain ⟨l, hl⟩ : ∃ l, bits BinOp.and IntKind.i64 n 3 = l := ⟨_, rfl⟩
  have hld : lo n = l := hl
  have hll : l ≤ 9223372036854775807 := hld ▸ lo_le n
  obtain ⟨hv1, hvk⟩ : KeepAt w kv keep ∧ kv.oneCell' = true := ⟨hv, kept_slice hv⟩
  have hA := fun o => h.alloc o
  have hS : ∀ i, S i → i < w.heap.size := by obtain ⟨L, _, _, hS⟩ := h; exact hS
  have hback : ∀ (d2 : Dk) (w1 w2 : World) o, w1 = w.alloc o → Mine (fun i => S i ∨ i = w.heap.size) w2 b d2 → Kept (fun i => ¬ (S i ∨ i = w.heap.size)) w1 w2 → Mine S w2 b d2 ∧ Kept (fun i => ¬ S i) w w2 := fun d2 w1 w2 o e hm hk => by
    subst e
    exact ⟨hm.weak (fun i hi => Or.inl hi), ((Kept.refl (fun i => ¬ S i) w).alloc _).trans (hk.mono (fun i hi => Or.inl (fun hs => hi (Or.inl hs))))⟩
  have hvA : ∀ o, KeepAt (w.alloc o) kv keep := fun o => hv.kept ((Kept.refl (fun _ => False) w).alloc o) (fun i _ e => e)
  have HK := Lib.hid hkd
  have HLD := Lib.hid hld
  have HA := Lib.hid hA
  have HB := Lib.hid hback
  have HVA := Lib.hid hvA
  have HVB := Lib.hid hvb
  obtain ⟨va, vl, vc, rfl⟩ : ∃ va vl vc, kv = .slice va vl vc := by
    rcases hv with ⟨⟨a, c, rfl⟩, _⟩ | ⟨g, o, c, rfl, _⟩
    · exact ⟨_, _, _, rfl⟩
    · exact ⟨_, _, _, rfl⟩
  clear hkd hld h hA hback hvA hvb hv hv1 hS hvk
  unfold Dk.act
  simp only [HK.out, HLD.out]
  by_cases e2 : k = 2
  · subst e2
    simp only [if_true]
    go_enter Try.func11, Try.ntmps11
    go_wp2_with fail
    refine (m_sync (HA.out _) f).mono ?_
    rintro r w2 ⟨rfl, hm, hk⟩
    have hfin := HB.out _ _ _ _ rfl hm hk
    go_wp2_with fail
    go_ret
    exact ⟨rfl, hfin⟩
  · rw [if_neg e2]
    by_cases e3 : k = 3
    · subst e3
      rw [if_pos rfl]
      go_enter Try.func11, Try.ntmps11
      go_wp2_with fail
      refine (m_truncate (HA.out _) f n).mono ?_
      rintro r w2 ⟨rfl, hm, hk⟩
      have hfin := HB.out _ _ _ _ rfl hm hk
      go_wp2_with fail
      go_ret
      exact ⟨rfl, hfin⟩
    · rw [if_neg e3]
      by_cases e4 : k = 4
      · subst e4
        rw [if_pos rfl]
        go_enter Try.func11, Try.ntmps11
        go_wp2_with fail
        refine (m_lose (HA.out _) l hll).mono ?_
        rintro r w2 ⟨rfl, hm, hk⟩
        have hfin := HB.out _ _ _ _ rfl hm hk
        go_wp2_with fail
        go_ret
        exact ⟨rfl, hfin⟩
      · rw [if_neg e4]
        by_cases e5 : k = 5
        · subst e5
          rw [if_pos rfl]
          go_enter Try.func11, Try.ntmps11
          go_wp2_with fail
          refine (m_arm (HA.out _) n (.slice va vl vc) keep (HVA.out _) (fun i hi => Or.inl (HVB.out i hi)) hn.2 hkl).mono ?_
          rintro r w2 ⟨rfl, hm, hk⟩
          have hfin := HB.out _ _ _ _ rfl hm hk
          go_wp2_with fail
          go_ret
          exact ⟨rfl, hfin⟩
        · rw [if_neg e5]
          by_cases e6 : k = 6
          · subst e6
            rw [if_pos rfl]
            go_enter Try.func11, Try.ntmps11
            go_wp2_with fail
            refine (m_crash (HA.out _) (.slice va vl vc) keep (HVA.out _) (fun i hi => Or.inl (HVB.out i hi)) hkl).mono ?_
            rintro r w2 ⟨rfl, hm, hk⟩
            have hfin := HB.out _ _ _ _ rfl hm hk
            go_wp2_with fail
            go_ret
            exact ⟨rfl, hfin⟩
          · rw [if_neg e6]
            by_cases e7 : k = 7
            · subst e7
              rw [if_pos rfl]
              go_enter Try.func11, Try.ntmps11
              go_wp2_with fail
              refine (m_start (HA.out _)).mono ?_
              rintro r w2 ⟨rfl, hm, hk⟩
              have hfin := HB.out _ _ _ _ rfl hm hk
              go_wp2_with fail
              go_ret
              exact ⟨rfl, hfin⟩
            · rw [if_neg e7]
              have f2 : (k == 2) = false := by simpa using e2
              have f3 : (k == 3) = false := by simpa using e3
              have f4 : (k == 4) = false := by simpa using e4
              have f5 : (k == 5) = false := by simpa using e5
              have f6 : (k == 6) = false := by simpa using e6
              have f7 : (k == 7) = false := by simpa using e7
              clear e2 e3 e4 e5 e6 e7
              go_enter Try.func11, Try.ntmps11
              go_wp2_with fail
              refine (m_write (HA.out _) f n s hs hn hR).mono ?_
              rintro r w2 ⟨rfl, hm, hk⟩
              have hfin := HB.out _ _ _ _ rfl hm hk
              go_wp2_with fail
              go_ret
              exact ⟨rfl, hfin⟩

end Go.Proofs.Ytbljfdjhgleafaa
