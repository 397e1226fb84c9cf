/- played. -/
import Derived.Test.YtbljfdjhgleafaaFew
namespace Go.Proofs.Ytbljfdjhgleafaa
open Go.RowKit

def playL (d : Dk) (l : List Act') : Dk := l.foldl (fun d a => (d.act a).1) d

theorem R_crash (d : Dk) (k : List Int) : (d.crash k).R = d.R := by
  rw [Dk.crash]
  split
  · rfl
  · exact (live_F d (lives k 0 d.q)).2.2.1

theorem R_fin (d : Dk) (e : Int) : (d.fin e).1.R = d.R := by
  rw [Dk.fin]
  split
  · rfl
  · split
    · exact R_crash _ _
    · rfl

theorem R_put (d : Dk) (f : Nat) (a : Int) (s : List UInt8) : (d.put f a s).1.R ≤ d.R + s.length + 2 := by
  rw [Dk.put]
  split
  · show d.R ≤ _; omega
  · split
    · show d.R ≤ _; omega
    · split
      · show d.R ≤ _; omega
      · exact Nat.le_refl _

theorem R_act (d : Dk) (a : Act') : (d.act a).1.R ≤ d.R + a.S.length + 2 := by
  rw [Dk.act]
  split
  · rw [Dk.sync]
    split
    · rw [R_fin, Dk.syn]
      split
      · show d.R ≤ _; omega
      · show d.R ≤ _; omega
    · rw [R_fin]; omega
  · split
    · rw [Dk.truncate]
      split
      · rw [R_fin, Dk.tru]
        split
        · show d.R ≤ _; omega
        · show d.R ≤ _; omega
      · rw [R_fin]; omega
    · split
      · show d.R ≤ _; omega
      · split
        · show d.R ≤ _; omega
        · split
          · show (d.crash a.Keep).R ≤ _
            rw [R_crash]; omega
          · split
            · show d.R ≤ _; omega
            · rw [Dk.write]
              split
              · rw [R_fin]; exact R_put _ _ _ _
              · rw [R_fin]; omega

theorem R_play (l : List Act') : ∀ (d : Dk), (∀ a ∈ l, a.S.length ≤ 300) → (playL d l).R ≤ d.R + 302 * l.length := by
  induction l with
  | nil => intro d _; exact Nat.le_add_right _ _
  | cons a l ih =>
    intro d h
    have h1 := ih (d.act a).1 (fun x hx => h x (List.mem_cons_of_mem _ hx))
    have h2 := R_act d a
    have h3 := h a (List.mem_cons_self ..)
    show (playL (d.act a).1 l).R ≤ _
    rw [List.length_cons]
    omega

theorem playL_snoc (d : Dk) (l : List Act') (k : Nat) (a : Act') (h : l[k]? = some a) : playL d (l.take (k + 1)) = ((playL d (l.take k)).act a).1 := by
  rw [List.take_add_one, h]
  simp [playL, List.foldl_append]

structure FitL (l : List Act') : Prop where
  n : ∀ a ∈ l, -9223372036854775808 ≤ a.N ∧ a.N ≤ 9223372036854775807
  s : ∀ a ∈ l, a.S.length ≤ 9223372036854775807
  len : l.length ≤ 9223372036854775807

variable {w w' : World} {B : Nat} {v : Value} {l : List Act'}

theorem FewL.fit (h : FewL l) (hf : FitL l) {a : Act'} (ha : a ∈ l) : FitA a := ⟨hf.n a ha, by have := (h.2 a ha).1; omega, by have := (h.2 a ha).2; omega⟩

def actV (a : Act') (kv : Value) : List Value := [.int .i64 a.Do, .int .i64 a.F, .int .i64 a.N, .string (bs a.S), kv]

theorem ActAt.range {g o : Nat} {a : Act'} {kv : Value} (h : ActAt B g o a kv w) : w.rangeAt g o (actV a kv) := by
  intro j v hv
  match j, hv with
  | 0, hv => simp [actV] at hv; subst hv; exact h.c0
  | 1, hv => simp [actV] at hv; subst hv; exact h.c1
  | 2, hv => simp [actV] at hv; subst hv; exact h.c2
  | 3, hv => simp [actV] at hv; subst hv; exact h.c3
  | 4, hv => simp [actV] at hv; subst hv; exact h.c4
  | n + 5, hv => simp [actV] at hv

/-- The act at a place of the list. -/
theorem IsActs.get {va : Option Addr} {vc : Nat} (h : IsActs B (.slice va l.length vc) l w) {k : Nat} {a : Act'} (ha : l[k]? = some a) : ∃ g off, va = some ⟨g, off, none⟩ ∧ ∃ kv, ActAt B g (off + k * 5) a kv w := by
  rcases h with ⟨_, rfl⟩ | ⟨g, off, cap, e, _, _, hc⟩
  · simp at ha
  · simp at e
    exact ⟨g, off, e.1, hc k a ha⟩

set_option maxHeartbeats 2000000 in
set_option maxRecDepth 100000 in
theorem played_calls (h : IsActs B v l w) (hB : B ≤ w.heap.size) (hfew : FewL l) (hfit : FitL l) :
    Calls Try.prog 21 #[v] w fun r w' => ∃ b, r = .returned (.pointer (some ⟨b, 0, none⟩)) ∧ Mine (fun i => i < B) w' b (playL Dk.new l) ∧ Kept (fun i => ¬ i < B) w w' := by
  obtain ⟨va, vc, rfl⟩ := h.shape
  have hlen := hfew.1
  have H := Lib.hid h
  have HF := Lib.hid hfew
  have HT := Lib.hid hfit
  clear h hfew hfit
  go_enter Try.func21, Try.ntmps21
  go_wp2_with fail
  refine (m_new w).mono ?_
  rintro e w1 ⟨b, rfl, h1, k1⟩
  have K1 := Lib.hid (k1.mono (T := fun i => ¬ i < B) (fun i hi => hi.elim))
  have HM := Lib.hid (h1.weak (S' := fun i => i < B) (fun i hi => Nat.lt_of_lt_of_le hi hB))
  clear h1 k1
  go_wp2_with fail
  have HS0 : Hid (Mine (fun i => i < B) w1 b (playL Dk.new (l.take 0)) ∧ Kept (fun i => ¬ i < B) w w1) := ⟨HM.out, K1.out⟩
  clear HM K1
  go_loopw [4] (fun i wr => ∃ k : Nat, k ≤ l.length ∧ i = .int .i64 k ∧ Hid (Mine (fun i => i < B) wr b (playL Dk.new (l.take k)) ∧ Kept (fun i => ¬ i < B) w wr)) (fun i _ => 41 - (intOf i).toNat)
  case atStart => exact ⟨0, by omega, rfl, HS0⟩
  case round =>
    obtain ⟨k, hk, rfl, hs⟩ := hrel
    by_cases hlt : k < l.length
    · obtain ⟨a, ha⟩ : ∃ a, l[k]? = some a := ⟨_, List.getElem?_eq_getElem hlt⟩
      have hacts := H.out.kept hs.out.2 (fun i hi => Nat.not_lt.1 hi)
      obtain ⟨g, off, rfl, kv, hat⟩ := hacts.get ha
      have hmem := List.mem_of_getElem? ha
      have hfa := HF.out.fit HT.out hmem
      have hR := R_play (l.take k) Dk.new (fun x hx => (HF.out.2 x (List.mem_of_mem_take hx)).1)
      rw [r0, List.length_take] at hR
      have hs3 := (HF.out.2 a hmem).1
      have hcd := Lib.hid (do_calls hs.out.1 a kv hfa (by omega) hat.kp hat.kb)
      have HRG := Lib.hid hat.range
      have hl5 : Hid ((actV a kv).length = 5) := rfl
      have HA := Lib.hid ha
      have d2 : (k : Int) < (l.length : Int) := by omega
      clear ha hacts hat hmem hfa hR hs3
      go_wp2_with (refine wpList_load_mid rfl 33 _ rfl g (off + k * 5) rfl (actV a kv) _ HRG.out Try.underlying33 rfl (by rw [hl5.out]; kernel_rfl) ?_)
      refine Calls.mono hcd.out ?_
      rintro e w2 ⟨rfl, hm2, hk2⟩
      have HM2 := Lib.hid hm2
      have HK2 := Lib.hid hk2
      clear hm2 hk2 hcd
      go_wp2_with fail
      go_roundw
      case rel =>
        refine ⟨k + 1, by omega, by go_num, ?_, ?_⟩
        · rw [playL_snoc _ _ _ _ HA.out]
          exact HM2.out
        · exact hs.out.2.trans HK2.out
      case measure => simp [intOf]; omega
    · obtain rfl : k = l.length := by omega
      go_wp2_with fail
      go_ret
      have := hs.out
      rw [List.take_length] at this
      exact ⟨b, rfl, this⟩

end Go.Proofs.Ytbljfdjhgleafaa
