/- BaseLasts: what holds ahead of each round, and what each call makes of it. -/
import Derived.Test.YtanecondopbfhaaGreatDoorOps
namespace Go.Proofs.YtanecondopbfhaaGreatDoor
open Go.RowKit
open Cod (Env)

def opV (a : Op') (kv : Value) : List Value := [.int .i64 a.Kind, .string (bs a.S), .int .i64 a.N, kv]

theorem OpAt.range {B g o : Nat} {a : Op'} {kv : Value} {w : World} (h : OpAt B g o a kv w) : w.rangeAt g o (opV a kv) := by
  intro j v hv
  match j, hv with
  | 0, hv => simp [opV] at hv; subst hv; exact h.c0
  | 1, hv => simp [opV] at hv; subst hv; exact h.c1
  | 2, hv => simp [opV] at hv; subst hv; exact h.c2
  | 3, hv => simp [opV] at hv; subst hv; exact h.c3
  | n + 4, hv => simp [opV] at hv

/-- The two lists of the law (all, sure), in memory of its own, and the disk. -/
structure Lists (N : Nat) (P : Nat → Prop) (d : Dk) (k : Nat) (av sv : Value) (A : List (List UInt8)) (kk : Nat) (W : World) : Prop where
  lo : ∀ i, i < N → P i
  pa : ∀ i, some i = av.ownBlock → P i
  ps : ∀ i, some i = sv.ownBlock → P i
  ra : TRow N W av A
  rs : TRow N W sv (A.take kk)
  len : A.length ≤ k
  small : ∀ u ∈ A, u.length ≤ 200
  R : d.R ≤ 300 * k
  kk : kk ≤ A.length

theorem Lists.kept {N k kk : Nat} {P : Nat → Prop} {d : Dk} {av sv : Value} {A : List (List UInt8)} {W W' : World} (h : Lists N P d k av sv A kk W) {d' : Dk} (hR : d'.R = d.R) (hk : Kept (fun i => ¬ P i) W W') : Lists N P d' k av sv A kk W' :=
  ⟨h.lo, h.pa, h.ps, row_keeps h.ra (fun i hi hl => hk.block i hl (fun hn => hn (h.pa i hi))), row_keeps h.rs (fun i hi hl => hk.block i hl (fun hn => hn (h.ps i hi))), h.len, h.small, by rw [hR]; exact h.R, h.kk⟩

/-- Ahead of a round: the journal is open, or there is none. -/
structure LS (N : Nat) (w : World) (b : Nat) (k : Nat) (jv av sv : Value) (W : World) : Prop where
  ex : ∃ (P : Nat → Prop) (d : Dk) (A : List (List UInt8)) (kk : Nat), Lists N P d k av sv A kk W ∧
    ((jv = .pointer none ∧ Mine P W b d ∧ Good d 3 A kk) ∨ ∃ jb j, jv = .pointer (some ⟨jb, 0, none⟩) ∧ Jn P W b d jb j ∧ Live d 3 j A kk)
  kept : Kept (fun i => ¬ i < N) w W

/-- No journal is asked: the machine is surely up (dn), no sync is lost (cl), no crash is ahead (cc). -/
structure LD (N : Nat) (w : World) (b : Nat) (k : Nat) (dn cl cc : Bool) (av sv : Value) (W : World) : Prop where
  ex : ∃ (P : Nat → Prop) (d : Dk) (A : List (List UInt8)) (kk : Nat), Lists N P d k av sv A kk W ∧ Mine P W b d ∧ Good d 3 A kk ∧ (dn = true → d.down = false) ∧ (cl = true → d.lost = 0) ∧ (cc = true → d.calls = 0)
  kept : Kept (fun i => ¬ i < N) w W

variable {N b k : Nat} {w W : World} {jv av sv : Value} {dn cl cc : Bool}

theorem LS.dead (h : LS N w b k jv av sv W) : LD N w b k false false false av sv W := by
  obtain ⟨⟨P, d, A, kk, hl, hst⟩, hk⟩ := h
  refine ⟨⟨P, d, A, kk, hl, ?_, ?_, by simp, by simp, by simp⟩, hk⟩
  · rcases hst with ⟨_, hM, _⟩ | ⟨jb, j, _, hJ, _⟩
    · exact hM
    · exact hJ.mine
  · rcases hst with ⟨_, _, hG⟩ | ⟨jb, j, _, _, hL⟩
    · exact hG
    · exact hL.good

theorem LS.alloc (h : LS N w b k jv av sv W) (o : Obj) : LS N w b k jv av sv (W.alloc o) := by
  obtain ⟨⟨P, d, A, kk, hl, hst⟩, hk⟩ := h
  have hka : Kept (fun _ => False) W (W.alloc o) := (Kept.refl (fun _ => False) W).alloc o
  refine ⟨⟨P, d, A, kk, hl.kept rfl (hka.mono (fun _ h => h.elim)), ?_⟩, hk.alloc o⟩
  rcases hst with ⟨e, hM, hG⟩ | ⟨jb, j, e, hJ, hL⟩
  · exact Or.inl ⟨e, hM.kept hka (fun _ h => h.elim), hG⟩
  · exact Or.inr ⟨jb, j, e, hJ.same hka (fun _ h => h.elim), hL⟩

theorem LS.later (h : LS N w b k jv av sv W) {k' : Nat} (hk : k ≤ k') : LS N w b k' jv av sv W := by
  obtain ⟨⟨P, d, A, kk, hl, hst⟩, hkp⟩ := h
  exact ⟨⟨P, d, A, kk, ⟨hl.lo, hl.pa, hl.ps, hl.ra, hl.rs, Nat.le_trans hl.len hk, hl.small, Nat.le_trans hl.R (Nat.mul_le_mul_left _ hk), hl.kk⟩, hst⟩, hkp⟩

theorem out_kept {P : Nat → Prop} {W' : World} (hk : Kept (fun i => ¬ i < N) w W) (hP : ∀ i, i < N → P i) (h : Kept (fun i => ¬ P i) W W') : Kept (fun i => ¬ i < N) w W' :=
  hk.trans (h.mono (fun i hi => Or.inl (fun hn => hi (hP i hn))))

theorem ls_lose (h : LS N w b k jv av sv W) (n : Int) (hn : n ≤ 9223372036854775807) :
    Calls Tryz.prog 19 #[.pointer (some ⟨b, 0, none⟩), .int .i64 n] W fun r w' => r = .returned (.tuple #[]) ∧ LS N w b k jv av sv w' := by
  obtain ⟨⟨P, d, A, kk, hl, hst⟩, hk⟩ := h
  rcases hst with ⟨e, hM, hG⟩ | ⟨jb, j, e, hJ, hL⟩
  · refine (m_lose hM n hn).mono ?_
    rintro r w' ⟨rfl, h1, h2⟩
    exact ⟨rfl, ⟨P, _, A, kk, hl.kept (d' := d.lose n) rfl h2, Or.inl ⟨e, h1, hG.with_ rfl rfl⟩⟩, out_kept hk hl.lo h2⟩
  · obtain ⟨S, hPS, hM, hb⟩ := hJ.disk
    refine (m_lose hM n hn).mono ?_
    rintro r w' ⟨rfl, h1, h2⟩
    obtain ⟨h3, h4⟩ := hb _ _ h1 h2
    exact ⟨rfl, ⟨P, _, A, kk, hl.kept (d' := d.lose n) rfl h4, Or.inr ⟨jb, j, e, h3, hL.with_ rfl rfl rfl⟩⟩, out_kept hk hl.lo h4⟩

theorem ls_arm (h : LS N w b k jv av sv W) (n : Int) (v : Value) (xs : List Int) (hv : KeepAt W v xs) (hvb : ∀ i, inBlock v i → i < N) (hn : n ≤ 9223372036854775807) (hlen : xs.length ≤ 1099511627776) :
    Calls Tryz.prog 21 #[.pointer (some ⟨b, 0, none⟩), .int .i64 n, v] W fun r w' => r = .returned (.tuple #[]) ∧ LS N w b k jv av sv w' := by
  obtain ⟨⟨P, d, A, kk, hl, hst⟩, hk⟩ := h
  rcases hst with ⟨e, hM, hG⟩ | ⟨jb, j, e, hJ, hL⟩
  · refine (m_arm hM n v xs hv (fun i hi => hl.lo i (hvb i hi)) hn hlen).mono ?_
    rintro r w' ⟨rfl, h1, h2⟩
    exact ⟨rfl, ⟨P, _, A, kk, hl.kept (d' := d.arm n xs) rfl h2, Or.inl ⟨e, h1, hG.with_ rfl rfl⟩⟩, out_kept hk hl.lo h2⟩
  · obtain ⟨S, hPS, hM, hb⟩ := hJ.disk
    refine (m_arm hM n v xs hv (fun i hi => hPS i (hl.lo i (hvb i hi))) hn hlen).mono ?_
    rintro r w' ⟨rfl, h1, h2⟩
    obtain ⟨h3, h4⟩ := hb _ _ h1 h2
    exact ⟨rfl, ⟨P, _, A, kk, hl.kept (d' := d.arm n xs) rfl h4, Or.inr ⟨jb, j, e, h3, hL.with_ rfl rfl rfl⟩⟩, out_kept hk hl.lo h4⟩

theorem ld_lose0 (h : LD N w b k dn cl cc av sv W) :
    Calls Tryz.prog 19 #[.pointer (some ⟨b, 0, none⟩), .int .i64 0] W fun r w' => r = .returned (.tuple #[]) ∧ LD N w b k dn true cc av sv w' := by
  obtain ⟨⟨P, d, A, kk, hl, hM, hG, h1, h2, h3⟩, hk⟩ := h
  refine (m_lose hM 0 (by decide)).mono ?_
  rintro r w' ⟨rfl, hm, hkk⟩
  exact ⟨rfl, ⟨P, _, A, kk, hl.kept (d' := d.lose 0) rfl hkk, hm, hG.with_ rfl rfl, h1, fun _ => rfl, h3⟩, out_kept hk hl.lo hkk⟩

theorem ld_arm0 (h : LD N w b k dn cl cc av sv W) :
    Calls Tryz.prog 21 #[.pointer (some ⟨b, 0, none⟩), .int .i64 0, .slice none 0 0] W fun r w' => r = .returned (.tuple #[]) ∧ LD N w b k dn cl true av sv w' := by
  obtain ⟨⟨P, d, A, kk, hl, hM, hG, h1, h2, h3⟩, hk⟩ := h
  refine (m_arm hM 0 (.slice none 0 0) [] (.inl ⟨⟨_, _, rfl⟩, rfl⟩) (fun i ⟨o, n, c, e⟩ => by simp at e) (by decide) (by decide)).mono ?_
  rintro r w' ⟨rfl, hm, hkk⟩
  exact ⟨rfl, ⟨P, _, A, kk, hl.kept (d' := d.arm 0 []) rfl hkk, hm, hG.with_ rfl rfl, h1, h2, fun _ => rfl⟩, out_kept hk hl.lo hkk⟩

/-- At last: the block c is left alone, too, and holds o. -/
structure LQ (N : Nat) (w : World) (b k : Nat) (cl cc : Bool) (av sv : Value) (c : Nat) (o : Obj) (W : World) : Prop where
  ex : ∃ (P : Nat → Prop) (d : Dk) (A : List (List UInt8)) (kk : Nat), Lists N P d k av sv A kk W ∧ Mine P W b d ∧ Good d 3 A kk ∧ (cl = true → d.lost = 0) ∧ (cc = true → d.calls = 0) ∧ P c
  at_ : W.heap[c]? = some o
  kept : Kept (fun i => ¬ i < N) w W

theorem LQ.dead {c : Nat} {o : Obj} (h : LQ N w b k cl cc av sv c o W) : LD N w b k false cl cc av sv W := by
  obtain ⟨⟨P, d, A, kk, hl, hM, hG, h2, h3, _⟩, _, hk⟩ := h
  exact ⟨⟨P, d, A, kk, hl, hM, hG, by simp, h2, h3⟩, hk⟩

theorem lq_of (h : LD N w b k dn cl cc av sv W) (o : Obj) : LQ N w b k cl cc av sv W.heap.size o (W.alloc o) := by
  obtain ⟨⟨P, d, A, kk, hl, hM, hG, h1, h2, h3⟩, hk⟩ := h
  have hka : Kept (fun _ => False) W (W.alloc o) := (Kept.refl (fun _ => False) W).alloc o
  have hl2 := hl.kept (d' := d) rfl (hka.mono (T := fun i => ¬ P i) (fun _ h => h.elim))
  exact ⟨⟨_, d, A, kk, ⟨fun i hi => Or.inl (hl2.lo i hi), fun i hi => Or.inl (hl2.pa i hi), fun i hi => Or.inl (hl2.ps i hi), hl2.ra, hl2.rs, hl2.len, hl2.small, hl2.R, hl2.kk⟩, hM.grow hka (fun _ h => h.elim), hG, h2, h3, Or.inr ⟨Nat.le_refl _, by simp⟩⟩, Array.getElem?_push_size .., hk.alloc o⟩

theorem lq_lose0 {c : Nat} {o : Obj} (h : LQ N w b k cl cc av sv c o W) :
    Calls Tryz.prog 19 #[.pointer (some ⟨b, 0, none⟩), .int .i64 0] W fun r w' => r = .returned (.tuple #[]) ∧ LQ N w b k true cc av sv c o w' := by
  obtain ⟨⟨P, d, A, kk, hl, hM, hG, h2, h3, hP⟩, hat, hk⟩ := h
  have hlt : c < W.heap.size := (Array.getElem?_eq_some_iff.1 hat).1
  refine (m_lose hM 0 (by decide)).mono ?_
  rintro r w' ⟨rfl, hm, hkk⟩
  exact ⟨rfl, ⟨P, _, A, kk, hl.kept (d' := d.lose 0) rfl hkk, hm, hG.with_ rfl rfl, fun _ => rfl, h3, hP⟩, (hkk.block c hlt (fun hn => hn hP)).trans hat, out_kept hk hl.lo hkk⟩

theorem lq_arm0 {c : Nat} {o : Obj} (h : LQ N w b k cl cc av sv c o W) :
    Calls Tryz.prog 21 #[.pointer (some ⟨b, 0, none⟩), .int .i64 0, .slice none 0 0] W fun r w' => r = .returned (.tuple #[]) ∧ LQ N w b k cl true av sv c o w' := by
  obtain ⟨⟨P, d, A, kk, hl, hM, hG, h2, h3, hP⟩, hat, hk⟩ := h
  have hlt : c < W.heap.size := (Array.getElem?_eq_some_iff.1 hat).1
  refine (m_arm hM 0 (.slice none 0 0) [] (.inl ⟨⟨_, _, rfl⟩, rfl⟩) (fun i ⟨o, n, c, e⟩ => by simp at e) (by decide) (by decide)).mono ?_
  rintro r w' ⟨rfl, hm, hkk⟩
  exact ⟨rfl, ⟨P, _, A, kk, hl.kept (d' := d.arm 0 []) rfl hkk, hm, hG.with_ rfl rfl, h2, fun _ => rfl, hP⟩, (hkk.block c hlt (fun hn => hn hP)).trans hat, out_kept hk hl.lo hkk⟩

theorem crash_lost (d : Dk) (keep : List Int) : (d.crash keep).lost = d.lost ∧ (d.calls = 0 → (d.crash keep).calls = 0) := by
  rw [Dk.crash]
  split
  · exact ⟨rfl, fun h => h⟩
  · exact ⟨(live_F d _).2.2.2.2.1, fun _ => rfl⟩

theorem ld_crash (h : LD N w b k dn cl cc av sv W) (v : Value) (xs : List Int) (hv : KeepAt W v xs) (hvb : ∀ i, inBlock v i → i < N) (hlen : xs.length ≤ 1099511627776) :
    Calls Tryz.prog 23 #[.pointer (some ⟨b, 0, none⟩), v] W fun r w' => r = .returned (.tuple #[]) ∧ LD N w b k false cl cc av sv w' := by
  obtain ⟨⟨P, d, A, kk, hl, hM, hG, h1, h2, h3⟩, hk⟩ := h
  refine (m_crash hM v xs hv (fun i hi => hl.lo i (hvb i hi)) hlen).mono ?_
  rintro r w' ⟨rfl, hm, hkk⟩
  exact ⟨rfl, ⟨P, _, A, kk, hl.kept (crash_R d xs) hkk, hm, hG.crash hM.ok xs, by simp, fun h => by rw [(crash_lost d xs).1]; exact h2 h, fun h => (crash_lost d xs).2 (h3 h)⟩, out_kept hk hl.lo hkk⟩

theorem ld_start (h : LD N w b k dn cl cc av sv W) :
    Calls Tryz.prog 25 #[.pointer (some ⟨b, 0, none⟩)] W fun r w' => r = .returned (.tuple #[]) ∧ LD N w b k true cl cc av sv w' := by
  obtain ⟨⟨P, d, A, kk, hl, hM, hG, h1, h2, h3⟩, hk⟩ := h
  refine (m_start hM).mono ?_
  rintro r w' ⟨rfl, hm, hkk⟩
  exact ⟨rfl, ⟨P, _, A, kk, hl.kept (d' := d.start) rfl hkk, hm, hG.with_ rfl rfl, fun _ => rfl, h2, h3⟩, out_kept hk hl.lo hkk⟩

theorem row_cap {B : Nat} {v : Value} {xs : List (List UInt8)} (h : TRow B W v xs) : ∀ a n c, v = .slice a n c → n ≤ c := by
  intro a n c e
  obtain ⟨hl, ⟨hv, h0⟩ | ⟨g, cap, cur, hv, hgB, hh, hc, _⟩⟩ := h
  · rw [hv] at e; simp only [Value.slice.injEq] at e; omega
  · rw [hv] at e; simp only [Value.slice.injEq] at e; omega

theorem LS.drewN (h : LS N w b k jv av sv W) (n : Nat) : LS N w b k jv av sv (W.drewN n) := by
  obtain ⟨⟨P, d, A, kk, hl, hst⟩, hk⟩ := h
  have hka : Kept (fun _ => False) W (W.drewN n) := (Kept.refl (fun _ => False) W).drewN n
  refine ⟨⟨P, d, A, kk, hl.kept rfl (hka.mono (fun _ h => h.elim)), ?_⟩, hk.drewN n⟩
  rcases hst with ⟨e, hM, hG⟩ | ⟨jb, j, e, hJ, hL⟩
  · exact Or.inl ⟨e, hM.kept hka (fun _ h => h.elim), hG⟩
  · exact Or.inr ⟨jb, j, e, hJ.same hka (fun _ h => h.elim), hL⟩

/-- The list of the opened journal is all that there is, and all of it is sure. -/
theorem ls_opened {P : Nat → Prop} {d : Dk} {A : List (List UInt8)} {kk m jb : Nat} {v : Value} {W1 : World} (hl : Lists N P d k av sv A kk W) (hJ : Jn P W b d jb ⟨3, A.take m, false⟩) (hL : Live d 3 ⟨3, A.take m, false⟩ (A.take m) (A.take m).length)
    (hk : Kept (fun i => ¬ i < N) w W) (hv : TRow W.heap.size W1 v (A.take m)) (hb : Below W.heap.size W W1) (hN : N ≤ w.heap.size) : LS N w b k (.pointer (some ⟨jb, 0, none⟩)) v v W1 := by
  have hkb := kept_below hb rfl
  have hz := hk.size
  have hlt := row_lt hv
  refine ⟨⟨_, d, A.take m, (A.take m).length, ⟨fun i hi => Or.inl (hl.lo i hi), fun i hi => Or.inr (hlt i hi), fun i hi => Or.inr (hlt i hi), row_weak hv (by omega), ?_, ?_, fun u hu => hl.small u (List.mem_of_mem_take hu), hl.R, Nat.le_refl _⟩, Or.inr ⟨jb, _, rfl, hJ.grow hkb (fun _ h => h.elim), hL⟩⟩, hk.trans (hkb.mono (fun _ h => h.elim))⟩
  · rw [List.take_length]; exact row_weak hv (by omega)
  · rw [List.length_take]; have := hl.len; omega

theorem ls_sync {P : Nat → Prop} {d : Dk} {A : List (List UInt8)} {kk jb : Nat} {j : Jr} (hl : Lists N P d k av sv A kk W) (hJ : Jn P W b d jb j) (hL : Live d 3 j A kk) (hk : Kept (fun i => ¬ i < N) w W) :
    Calls Tryz.prog 17 #[.pointer (some ⟨jb, 0, none⟩)] W fun r w' => (∃ e : Int, e ≠ 0 ∧ r = .returned (.int .i64 e) ∧ LS N w b k (.pointer (some ⟨jb, 0, none⟩)) av sv w') ∨
      (r = .returned (.int .i64 0) ∧ ∃ (d' : Dk) (j' : Jr), Lists N P d' k av sv A kk w' ∧ Jn P w' b d' jb j' ∧ Live d' 3 j' A A.length ∧ j'.L = A ∧ Kept (fun i => ¬ i < N) w w') := by
  refine (n_sync hJ).mono ?_
  rintro r w' ⟨rfl, h1, h2⟩
  obtain ⟨hc, hR⟩ := sync_good hJ.ok (f := 3) (by decide) hL
  rcases hc with ⟨e0, hA, hL', hjl⟩ | ⟨e0, hL', hjl⟩
  · exact Or.inr ⟨by rw [e0], _, _, hl.kept hR h2, h1, hL', by rw [hjl, hA], out_kept hk hl.lo h2⟩
  · exact Or.inl ⟨_, e0, rfl, ⟨P, _, A, kk, hl.kept hR h2, Or.inr ⟨jb, _, rfl, h1, hL'⟩⟩, out_kept hk hl.lo h2⟩

theorem ls_sure {P : Nat → Prop} {d : Dk} {A : List (List UInt8)} {kk jb : Nat} {j : Jr} {v : Value} {W1 : World} (hl : Lists N P d k av sv A kk W) (hJ : Jn P W b d jb j) (hL : Live d 3 j A A.length) (hk : Kept (fun i => ¬ i < N) w W)
    (hv : TRow W.heap.size W1 v A) (hb : Below W.heap.size W W1) (hN : N ≤ w.heap.size) : LS N w b k (.pointer (some ⟨jb, 0, none⟩)) av v W1 := by
  have hkb := kept_below hb rfl
  have hz := hk.size
  have hlt := row_lt hv
  refine ⟨⟨_, d, A, A.length, ⟨fun i hi => Or.inl (hl.lo i hi), fun i hi => Or.inl (hl.pa i hi), fun i hi => Or.inr (hlt i hi), row_keeps hl.ra (fun i _ hlt => hkb.block i hlt (fun h => h)), ?_, hl.len, hl.small, hl.R, Nat.le_refl _⟩, Or.inr ⟨jb, j, rfl, hJ.grow hkb (fun _ h => h.elim), hL⟩⟩, hk.trans (hkb.mono (fun _ h => h.elim))⟩
  rw [List.take_length]; exact row_weak hv (by omega)

theorem LS.cases (h : LS N w b k jv av sv W) : jv = .pointer none ∨ ∃ (P : Nat → Prop) (d : Dk) (A : List (List UInt8)) (kk jb : Nat) (j : Jr), jv = .pointer (some ⟨jb, 0, none⟩) ∧ Lists N P d k av sv A kk W ∧ Jn P W b d jb j ∧ Live d 3 j A kk ∧ Kept (fun i => ¬ i < N) w W := by
  obtain ⟨⟨P, d, A, kk, hl, hst⟩, hk⟩ := h
  rcases hst with ⟨e, _, _⟩ | ⟨jb, j, e, hJ, hL⟩
  · exact Or.inl e
  · exact Or.inr ⟨P, d, A, kk, jb, j, e, hl, hJ, hL, hk⟩

/-- What opening leaves: no journal, and the disk is at fault; or a journal with a part of the list that holds what is sure. -/
def LOpen (N : Nat) (w : World) (b k : Nat) (cl cc : Bool) (av sv : Value) (r : Ending) (W : World) : Prop :=
  (∃ e : Int, r = .returned (.tuple #[.pointer none, .int .i64 e]) ∧ (e = 8 ∨ e = 9) ∧ LS N w b k (.pointer none) av sv W ∧ ¬ (cl = true ∧ cc = true)) ∨
  ∃ jb, r = .returned (.tuple #[.pointer (some ⟨jb, 0, none⟩), .int .i64 0]) ∧ ∃ (P : Nat → Prop) (d : Dk) (A : List (List UInt8)) (kk m : Nat), Lists N P d k av sv A kk W ∧ kk ≤ m ∧ m ≤ A.length ∧ Jn P W b d jb ⟨3, A.take m, false⟩ ∧ Live d 3 ⟨3, A.take m, false⟩ (A.take m) (A.take m).length ∧ Kept (fun i => ¬ i < N) w W

theorem ld_open (h : LD N w b k true cl cc av sv W) (hE : Env w) (h6 : 6 ≤ N) :
    Calls Tryz.prog 11 #[.pointer (some ⟨b, 0, none⟩), .int .i64 3] W (LOpen N w b k cl cc av sv) := by
  obtain ⟨⟨P, d, A, kk, hl, hM, hG, h1, h2, h3⟩, hk⟩ := h
  have hE2 := env_kept hE hk (fun i hi hn => hn (by omega))
  have hA : ∀ u ∈ A, u.length ≤ 20000 := fun u hu => Nat.le_trans (hl.small u hu) (by decide)
  refine (n_open hM hE2 (fun i hi => hl.lo i (by omega)) 3 (by decide)).mono ?_
  intro r w' hno
  rcases open_good hM.ok (h1 rfl) (f := 3) (by decide) hG hA with ⟨d', e, ho, he, hg, hR, hn⟩ | ⟨d', m, ho, hm1, hm2, hg, hd, ht, hR⟩
  · rw [ho] at hno
    obtain ⟨rfl, hm, hkk⟩ := hno
    exact Or.inl ⟨e, rfl, he, ⟨⟨P, d', A, kk, hl.kept hR hkk, Or.inl ⟨rfl, hm, hg⟩⟩, out_kept hk hl.lo hkk⟩, fun ⟨c1, c2⟩ => hn ⟨h2 c1, h3 c2⟩⟩
  · rw [ho] at hno
    obtain ⟨jb, rfl, hJ, hkk⟩ := hno
    exact Or.inr ⟨jb, rfl, P, d', A, kk, m, hl.kept hR hkk, hm1, hm2, hJ, ⟨hg, fun u hu => hA u (List.mem_of_mem_take hu), rfl, fun _ => ⟨hd, ht, rfl⟩⟩, out_kept hk hl.lo hkk⟩

theorem forms_small : ∀ (l : List (List UInt8)), (∀ u ∈ l, u.length ≤ 200) → (forms l).length ≤ 243 * l.length
  | [], _ => by simp [forms]
  | a :: l, h => by
    have h1 := forms_small l (fun u hu => h u (List.mem_cons_of_mem _ hu))
    have h2 := h a (List.mem_cons_self ..)
    have h3 := form_len a (by omega)
    rw [forms_cons, List.length_append, List.length_cons]
    omega

/-- What was made since is left alone, too. -/
theorem Lists.up {P : Nat → Prop} {d : Dk} {A : List (List UInt8)} {kk : Nat} {W' : World} (h : Lists N P d k av sv A kk W) (hk : Kept (fun _ => False) W W') : Lists N (fun i => P i ∨ (W.heap.size ≤ i ∧ i < W'.heap.size)) d k av sv A kk W' := by
  have h2 := h.kept (d' := d) rfl (hk.mono (T := fun i => ¬ P i) (fun _ h => h.elim))
  exact ⟨fun i hi => Or.inl (h2.lo i hi), fun i hi => Or.inl (h2.pa i hi), fun i hi => Or.inl (h2.ps i hi), h2.ra, h2.rs, h2.len, h2.small, h2.R, h2.kk⟩

/-- An open journal, with a block that is left alone and holds o. -/
structure LJ (N : Nat) (w : World) (b k : Nat) (P : Nat → Prop) (d : Dk) (jb : Nat) (j : Jr) (av sv : Value) (A : List (List UInt8)) (kk c : Nat) (o : Obj) (W : World) : Prop where
  lists : Lists N P d k av sv A kk W
  jn : Jn P W b d jb j
  live : Live d 3 j A kk
  pc : P c
  at_ : W.heap[c]? = some o
  kept : Kept (fun i => ¬ i < N) w W

theorem lj_of {P : Nat → Prop} {d : Dk} {A : List (List UInt8)} {kk jb : Nat} {j : Jr} (hl : Lists N P d k av sv A kk W) (hJ : Jn P W b d jb j) (hL : Live d 3 j A kk) (hk : Kept (fun i => ¬ i < N) w W) (o : Obj) :
    LJ N w b k (fun i => P i ∨ (W.heap.size ≤ i ∧ i < (W.alloc o).heap.size)) d jb j av sv A kk W.heap.size o (W.alloc o) := by
  have hka : Kept (fun _ => False) W (W.alloc o) := (Kept.refl (fun _ => False) W).alloc o
  exact ⟨hl.up hka, hJ.grow hka (fun _ h => h.elim), hL, Or.inr ⟨Nat.le_refl _, by simp⟩, Array.getElem?_push_size .., hk.alloc o⟩

/-- The list of the journal, in memory of the law's own. -/
theorem lj_all {P : Nat → Prop} {d : Dk} {A : List (List UInt8)} {kk jb c : Nat} {j : Jr} {o : Obj} (h : LJ N w b k P d jb j av sv A kk c o W) :
    Calls Tryz.prog 28 #[.pointer (some ⟨jb, 0, none⟩)] W fun r w' => ∃ (v : Value) (P' : Nat → Prop), r = .returned v ∧ TRow W.heap.size w' v j.L ∧ (∀ i, P i → P' i) ∧ (∀ i, some i = v.ownBlock → P' i) ∧ LJ N w b k P' d jb j av sv A kk c o w' ∧ Kept (fun _ => False) W w' := by
  refine (n_all h.jn).mono ?_
  rintro r w' ⟨v, rfl, hv, hb⟩
  have hkb := kept_below hb rfl
  have hlt := row_lt hv
  have hc : c < W.heap.size := (Array.getElem?_eq_some_iff.1 h.at_).1
  exact ⟨v, _, rfl, hv, fun i hi => Or.inl hi, fun i hi => Or.inr (hlt i hi), ⟨h.lists.up hkb, h.jn.grow hkb (fun _ h => h.elim), h.live, Or.inl h.pc, (hkb.block c hc (fun h => h)).trans h.at_, h.kept.trans (hkb.mono (fun _ h => h.elim))⟩, hkb⟩

/-- What Append leaves: the list that may be there (A'), by the error. -/
theorem lj_append {P : Nat → Prop} {d : Dk} {A : List (List UInt8)} {kk jb c : Nat} {j : Jr} {o : Obj} (h : LJ N w b k P d jb j av sv A kk c o W) (hE : Env w) (h6 : 6 ≤ N) (s : List UInt8) (hs : s.length ≤ 200) (hkk : k ≤ 1000) :
    Calls Tryz.prog 15 #[.pointer (some ⟨jb, 0, none⟩), .string (bs s)] W fun r w' => ∃ (e : Int) (d' : Dk) (j' : Jr), r = .returned (.int .i64 e) ∧ Kept (fun i => ¬ P i) W w' ∧ Jn P w' b d' jb j' ∧ d'.R ≤ 300 * (k + 1) ∧ w'.heap[c]? = some o ∧ Kept (fun i => ¬ i < N) w w' ∧
      ((e = 0 ∧ Live d' 3 j' (A ++ [s]) kk ∧ j'.L = j.L ++ [s]) ∨ ((e = 8 ∨ e = 9) ∧ Live d' 3 j' (A ++ [s]) kk ∧ j'.L = j.L) ∨ (e = 7 ∧ Live d' 3 j' A kk ∧ j'.L = j.L)) := by
  have hE2 := env_kept hE h.kept (fun i hi hn => hn (by omega))
  have hR := h.lists.R
  have hfo := forms_le A (fun u hu => Nat.le_trans (h.lists.small u hu) (by decide))
  have hlen := h.lists.len
  have hfl := form_len s (by omega)
  have hfA : (forms A).length ≤ 243 * A.length := forms_small A h.lists.small
  have hc : c < W.heap.size := (Array.getElem?_eq_some_iff.1 h.at_).1
  refine (n_append h.jn hE2 s (by omega) (by omega)).mono ?_
  rintro r w' ⟨rfl, h1, h2⟩
  obtain ⟨hcs, hR2⟩ := append_good h.jn.ok (f := 3) (by decide) h.live (s := s) (by omega) (by omega)
  exact ⟨_, _, _, rfl, h2, h1, by omega, (h2.block c hc (fun hn => hn h.pc)).trans h.at_, out_kept h.kept h.lists.lo h2, hcs⟩

end Go.Proofs.YtanecondopbfhaaGreatDoor
