/- BaseDisk: the law. -/
import Derived.Test.YtbljfdjhgleafaaRdo
namespace Go.Proofs.Ytbljfdjhgleafaa
open Go.RowKit

variable {w w' : World} {b rb : Nat} {d : Dk} {r : Rk} {S : Nat → Prop}

/-- A disk and a reference disk that share no block. -/
def Both (S : Nat → Prop) (w : World) (b : Nat) (d : Dk) (rb : Nat) (r : Rk) : Prop :=
  ∃ L LR, IsD w b L d ∧ IsR w rb LR r ∧ (∀ i, Foot b L i → ¬ S i) ∧ (∀ i, RFoot rb LR i → ¬ S i) ∧ (∀ i, Foot b L i → ¬ RFoot rb LR i) ∧ ∀ i, S i → i < w.heap.size

theorem Both.left (h : Both S w b d rb r) : ∃ S' : Nat → Prop, (∀ i, S i → S' i) ∧ Mine S' w b d ∧ ∀ w' d', Mine S' w' b d' → Kept (fun i => ¬ S' i) w w' → Both S w' b d' rb r := by
  obtain ⟨L, LR, h1, h2, h3, h4, h5, h6⟩ := h
  refine ⟨fun i => S i ∨ RFoot rb LR i, fun i hi => Or.inl hi, ⟨L, h1, fun i hi hj => hj.elim (h3 i hi) (h5 i hi), fun i hi => hi.elim (h6 i) (h2.foot_lt i)⟩, ?_⟩
  rintro w' d' ⟨L', i1, i2, i3⟩ hk
  exact ⟨L', LR, i1, h2.kept hk (fun i hi hn => hn (Or.inr hi)), fun i hi hs => i2 i hi (Or.inl hs), h4, fun i hi hs => i2 i hi (Or.inr hs), fun i hi => i3 i (Or.inl hi)⟩

theorem Both.right (h : Both S w b d rb r) : ∃ S' : Nat → Prop, (∀ i, S i → S' i) ∧ MineR S' w rb r ∧ ∀ w' r', MineR S' w' rb r' → Kept (fun i => ¬ S' i) w w' → Both S w' b d rb r' := by
  obtain ⟨L, LR, h1, h2, h3, h4, h5, h6⟩ := h
  refine ⟨fun i => S i ∨ Foot b L i, fun i hi => Or.inl hi, ⟨LR, h2, fun i hi hj => hj.elim (h4 i hi) (fun hf => h5 i hf hi), fun i hi => hi.elim (h6 i) (h1.foot_lt i)⟩, ?_⟩
  rintro w' r' ⟨L', i1, i2, i3⟩ hk
  exact ⟨L, L', h1.kept hk (fun i hi hn => hn (Or.inr hi)), i1, h3, fun i hi hs => i2 i hi (Or.inl hs), fun i hi hs => i2 i hs (Or.inr hi), fun i hi => i3 i (Or.inl hi)⟩

theorem Both.kept {T : Nat → Prop} (h : Both S w b d rb r) (hk : Kept T w w') (hT : ∀ i, T i → S i ∨ w.heap.size ≤ i) : Both S w' b d rb r := by
  obtain ⟨L, LR, h1, h2, h3, h4, h5, h6⟩ := h
  refine ⟨L, LR, h1.kept hk (fun i hi ht => ?_), h2.kept hk (fun i hi ht => ?_), h3, h4, h5, fun i hi => Nat.lt_of_lt_of_le (h6 i hi) hk.size⟩
  · rcases hT i ht with h | h
    · exact h3 i hi h
    · have := h1.foot_lt i hi; omega
  · rcases hT i ht with h | h
    · exact h4 i hi h
    · have := h2.foot_lt i hi; omega

theorem Both.ok (h : Both S w b d rb r) : d.Ok := by
  obtain ⟨L, LR, h1, _⟩ := h
  exact h1.ok

theorem b_do (h : Both S w b d rb r) (a : Act') (kv : Value) (hf : FitA a) (hR : d.R + a.S.length + 2 ≤ 549755813888) (hv : KeepAt w kv a.Keep) (hvb : ∀ i, inBlock kv i → S i) :
    Calls Try.prog 11 #[.pointer (some ⟨b, 0, none⟩), .agg #[.int .i64 a.Do, .int .i64 a.F, .int .i64 a.N, .string (bs a.S), kv]] w fun e w' => e = .returned (.int .i64 (d.act a).2) ∧ Both S w' b (d.act a).1 rb r ∧ Kept (fun i => ¬ S i) w w' := by
  obtain ⟨S', h1, h2, h3⟩ := h.left
  refine (do_calls h2 a kv hf hR hv (fun i hi => h1 i (hvb i hi))).mono ?_
  rintro e w' ⟨rfl, hm, hk⟩
  exact ⟨rfl, h3 _ _ hm hk, hk.mono (fun i hi => Or.inl (fun hs => hi (h1 i hs)))⟩

theorem b_ref {d' : Dk} (h : Both S w b d rb r) (hr : Rep r d') (hkl : r.keep.length ≤ 1099511627776) (a : Act') (kv : Value) (hf : FitA a) (hv : KeepAt w kv a.Keep) (hvb : ∀ i, inBlock kv i → S i) :
    Calls Try.prog 12 #[.pointer (some ⟨rb, 0, none⟩), .agg #[.int .i64 a.Do, .int .i64 a.F, .int .i64 a.N, .string (bs a.S), kv]] w fun e w' => e = .returned (.int .i64 (r.act a).2) ∧ Both S w' b d rb (r.act a).1 ∧ Kept (fun i => ¬ S i) w w' := by
  obtain ⟨S', h1, h2, h3⟩ := h.right
  refine (rdo_calls h2 hr hkl a kv hf hv (fun i hi => h1 i (hvb i hi))).mono ?_
  rintro e w' ⟨rfl, hm, hk⟩
  exact ⟨rfl, h3 _ _ hm hk, hk.mono (fun i hi => Or.inl (fun hs => hi (h1 i hs)))⟩

theorem b_down (h : Both S w b d rb r) : Calls Try.prog 13 #[.pointer (some ⟨b, 0, none⟩)] w fun e w' => e = .returned (.bool d.down) ∧ w = w' := by
  obtain ⟨S', h1, h2, h3⟩ := h.left
  exact m_down h2

theorem b_rdown (h : Both S w b d rb r) : Calls Try.prog 14 #[.pointer (some ⟨rb, 0, none⟩)] w fun e w' => e = .returned (.bool r.down) ∧ w = w' := by
  obtain ⟨L, LR, h1, h2, _⟩ := h
  exact rdown_calls h2

theorem b_size (h : Both S w b d rb r) (f : Int) : Calls Try.prog 15 #[.pointer (some ⟨b, 0, none⟩), .int .i64 f] w fun e w' => e = .returned (.int .i64 (d.size f)) ∧ w = w' := by
  obtain ⟨S', h1, h2, h3⟩ := h.left
  exact m_size h2 f

theorem rsize_eq {d : Dk} (hr : Rep r d) (f : Int) : (getF r.fs f).now.length = d.size f := by
  unfold Dk.size
  by_cases h : 0 ≤ f ∧ f < 16
  · rw [if_pos h]
    have := hr.now f.toNat (by omega)
    rw [show ((f.toNat : Nat) : Int) = f by omega] at this
    rw [this, Img.text_length]
  · rw [if_neg h, hr.nums.out h]
    rfl

theorem b_rsize (h : Both S w b d rb r) (hr : Rep r d) (f : Int) : Calls Try.prog 16 #[.pointer (some ⟨rb, 0, none⟩), .int .i64 f] w fun e w' => e = .returned (.int .i64 (d.size f)) ∧ Both S w' b d rb r ∧ Kept (fun i => ¬ S i) w w' := by
  have hB := h
  obtain ⟨L, LR, h1, h2, h3, h4, h5, h6⟩ := h
  refine (rsize_calls h2 (by have := hr.nums.len; omega) f).mono ?_
  rintro e w' ⟨rfl, hb⟩
  rw [rsize_eq hr]
  exact ⟨rfl, hB.kept (Below.kept hb) (fun i hi => Or.inr hi), (Below.kept hb).mono (fun i hi => Or.inr hi)⟩

/-- The disk is copied: the copy goes on in its place, and the elder one may be used on. -/
theorem b_copy (h : Both S w b d rb r) :
    Calls Try.prog 17 #[.pointer (some ⟨b, 0, none⟩)] w fun e w' => ∃ g, e = .returned (.pointer (some ⟨g, 0, none⟩)) ∧ (∃ S2 : Nat → Prop, (∀ i, S i → S2 i) ∧ Mine S2 w' b d ∧ ∀ w'', Kept (fun i => ¬ S2 i) w' w'' → Both S w'' g d rb r) ∧ Kept (fun _ => False) w w' := by
  obtain ⟨L, LR, h1, h2, h3, h4, h5, h6⟩ := h
  refine (copy_calls h1).mono ?_
  rintro e w' ⟨g, L', rfl, hi', hk, ho, hv⟩
  have hge : ∀ i, Foot g L' i → w.heap.size ≤ i := fun i h1 => h1.elim (ho i) (hv i)
  have h2' : IsR w' rb LR r := h2.kept hk (fun _ _ e => e)
  refine ⟨g, rfl, ⟨fun i => S i ∨ RFoot rb LR i ∨ Foot g L' i, fun i hi => Or.inl hi, ⟨L, h1.kept hk (fun _ _ e => e), ?_, ?_⟩, ?_⟩, hk⟩
  · rintro i hf (hs | hs | hs)
    · exact h3 i hf hs
    · exact h5 i hf hs
    · have := hge i hs; have := h1.foot_lt i hf; omega
  · rintro i (hs | hs | hs)
    · exact Nat.lt_of_lt_of_le (h6 i hs) hk.size
    · exact h2'.foot_lt i hs
    · exact hi'.foot_lt i hs
  · intro w'' hk2
    refine ⟨L', LR, hi'.kept hk2 (fun i hi hn => hn (Or.inr (Or.inr hi))), h2'.kept hk2 (fun i hi hn => hn (Or.inr (Or.inl hi))), ?_, h4, ?_, fun i hi => Nat.lt_of_lt_of_le (Nat.lt_of_lt_of_le (h6 i hi) hk.size) hk2.size⟩
    · intro i hf hs
      have := hge i hf; have := h6 i hs; omega
    · intro i hf hs
      have := hge i hf; have := h2.foot_lt i hs; omega

theorem act_keep (r : Rk) (a : Act') : (r.act a).1.keep = r.keep ∨ (r.act a).1.keep = a.Keep := by
  have hput : ∀ (r1 : Rk) (f n : Int) (s : List UInt8), (r1.put f n s).1.keep = r1.keep := by
    intro r1 f n s
    unfold Rk.put Rk.add
    repeat' split
    all_goals rfl
  have hsyn : ∀ (r1 : Rk) (f : Int), (r1.syn f).1.keep = r1.keep := by
    intro r1 f
    unfold Rk.syn
    repeat' split
    all_goals rfl
  have htru : ∀ (r1 : Rk) (f n : Int), (r1.tru f n).1.keep = r1.keep := by
    intro r1 f n
    unfold Rk.tru
    repeat' split
    all_goals rfl
  unfold Rk.act
  split
  · left; unfold Rk.sync; rw [hsyn, comes_keep]
  · split
    · left; unfold Rk.truncate; rw [htru, comes_keep]
    · split
      · left; rfl
      · split
        · right; rfl
        · split
          · left; unfold Rk.crash; split <;> rfl
          · split
            · left; rfl
            · left; unfold Rk.write; rw [hput, comes_keep]

theorem both_new (h : Mine S w b Dk.new) (hI : IsR w' rb ⟨.slice none 0 0, .slice none 0 0, .slice none 0 0⟩ Rk.new) (hrb : rb = w.heap.size) (hk : Kept (fun _ => False) w w') : Both S w' b Dk.new rb Rk.new := by
  obtain ⟨L, h1, h2, h3⟩ := h
  have hfr : ∀ i, RFoot rb ⟨.slice none 0 0, .slice none 0 0, .slice none 0 0⟩ i → i = w.heap.size := by
    rintro i (e | e | e | e)
    · omega
    · simp [Value.ownBlock] at e
    · simp [Value.ownBlock] at e
    · simp [Value.ownBlock] at e
  refine ⟨L, _, h1.kept hk (fun _ _ e => e), hI, h2, fun i hi hs => ?_, fun i hi hs => ?_, fun i hi => Nat.lt_of_lt_of_le (h3 i hi) hk.size⟩
  · have := hfr i hi; have := h3 i hs; omega
  · have := hfr i hs; have := h1.foot_lt i hi; omega

end Go.Proofs.Ytbljfdjhgleafaa
