/- The calls of a disk that shares no block with a set of blocks. -/
import Derived.Test.YtanecondopbfhaaGreatDoorNew
namespace Go.Proofs.YtanecondopbfhaaGreatDoor
open Go.RowKit

/-- The disk d at block b, in no block of S. -/
def Mine (S : Nat → Prop) (w : World) (b : Nat) (d : Dk) : Prop := ∃ L, IsD w b L d ∧ (∀ i, Foot b L i → ¬ S i) ∧ ∀ i, S i → i < w.heap.size

variable {w w' : World} {b : Nat} {d d' : Dk} {S : Nat → Prop}

theorem Mine.post {L : Loc} (hf : ∀ i, Foot b L i → ¬ S i) (hs : ∀ i, S i → i < w.heap.size) (h : Post w b L d' w') : Mine S w' b d' ∧ Kept (fun i => ¬ S i) w w' := by
  obtain ⟨L', hi, hk, ho, hv⟩ := h
  refine ⟨⟨L', hi, fun i hfi hSi => ?_, fun i hSi => Nat.lt_of_lt_of_le (hs i hSi) hk.size⟩, hk.mono (fun i hi => Or.inl (hf i (Or.inl hi)))⟩
  have h1 := hs i hSi
  rcases hfi with hfi | hfi
  · rcases ho i hfi with h2 | h2
    · exact hf i (Or.inl h2) hSi
    · omega
  · rcases hv i hfi with h2 | h2
    · exact hf i (Or.inr h2) hSi
    · omega

/-- Other blocks turn. -/
theorem Mine.kept {T : Nat → Prop} (h : Mine S w b d) (hk : Kept T w w') (hT : ∀ i, T i → S i ∨ w.heap.size ≤ i) : Mine S w' b d := by
  obtain ⟨L, hi, hf, hs⟩ := h
  refine ⟨L, hi.kept hk (fun i hfi hTi => ?_), hf, fun i hSi => Nat.lt_of_lt_of_le (hs i hSi) hk.size⟩
  rcases hT i hTi with h1 | h1
  · exact hf i hfi h1
  · have := hi.foot_lt i hfi
    omega

theorem Mine.weak {S' : Nat → Prop} (h : Mine S w b d) (hs : ∀ i, S' i → S i) : Mine S' w b d := by
  obtain ⟨L, hi, hf, hS⟩ := h
  exact ⟨L, hi, fun i h1 h2 => hf i h1 (hs i h2), fun i h1 => hS i (hs i h1)⟩

theorem m_write (h : Mine S w b d) (f a : Int) (s : List UInt8) (hs : s.length ≤ 1099511627776) (ha : -9223372036854775808 ≤ a ∧ a ≤ 9223372036854775807) (hR : d.R + s.length + 2 ≤ 549755813888) :
    Calls Tryz.prog 36 #[.pointer (some ⟨b, 0, none⟩), .int .i64 f, .int .i64 a, .string (bs s)] w fun r w' => r = .returned (.int .i64 (d.write f a s).2) ∧ Mine S w' b (d.write f a s).1 ∧ Kept (fun i => ¬ S i) w w' := by
  obtain ⟨L, hi, hf, hS⟩ := h
  refine (dwrite_calls hi f a s hs ha hR).mono ?_
  rintro r w' ⟨rfl, hp⟩
  exact ⟨rfl, Mine.post hf hS hp⟩

theorem m_sync (h : Mine S w b d) (f : Int) :
    Calls Tryz.prog 45 #[.pointer (some ⟨b, 0, none⟩), .int .i64 f] w fun r w' => r = .returned (.int .i64 (d.sync f).2) ∧ Mine S w' b (d.sync f).1 ∧ Kept (fun i => ¬ S i) w w' := by
  obtain ⟨L, hi, hf, hS⟩ := h
  refine (dsync_calls hi f).mono ?_
  rintro r w' ⟨rfl, hp⟩
  exact ⟨rfl, Mine.post hf hS hp⟩

theorem m_truncate (h : Mine S w b d) (f n : Int) :
    Calls Tryz.prog 47 #[.pointer (some ⟨b, 0, none⟩), .int .i64 f, .int .i64 n] w fun r w' => r = .returned (.int .i64 (d.truncate f n).2) ∧ Mine S w' b (d.truncate f n).1 ∧ Kept (fun i => ¬ S i) w w' := by
  obtain ⟨L, hi, hf, hS⟩ := h
  refine (dtrunc_calls hi f n).mono ?_
  rintro r w' ⟨rfl, hp⟩
  exact ⟨rfl, Mine.post hf hS hp⟩

theorem m_lose (h : Mine S w b d) (n : Int) (hn : n ≤ 9223372036854775807) :
    Calls Tryz.prog 19 #[.pointer (some ⟨b, 0, none⟩), .int .i64 n] w fun r w' => r = .returned (.tuple #[]) ∧ Mine S w' b (d.lose n) ∧ Kept (fun i => ¬ S i) w w' := by
  obtain ⟨L, hi, hf, hS⟩ := h
  refine (lose_calls hi n hn).mono ?_
  rintro r w' ⟨rfl, hp⟩
  exact ⟨rfl, Mine.post hf hS hp⟩

theorem m_start (h : Mine S w b d) :
    Calls Tryz.prog 25 #[.pointer (some ⟨b, 0, none⟩)] w fun r w' => r = .returned (.tuple #[]) ∧ Mine S w' b d.start ∧ Kept (fun i => ¬ S i) w w' := by
  obtain ⟨L, hi, hf, hS⟩ := h
  refine (start_calls hi).mono ?_
  rintro r w' ⟨rfl, hp⟩
  exact ⟨rfl, Mine.post hf hS hp⟩

theorem m_arm (h : Mine S w b d) (n : Int) (v : Value) (xs : List Int) (hv : KeepAt w v xs) (hvb : ∀ i, inBlock v i → S i) (hn : n ≤ 9223372036854775807) (hlen : xs.length ≤ 1099511627776) :
    Calls Tryz.prog 21 #[.pointer (some ⟨b, 0, none⟩), .int .i64 n, v] w fun r w' => r = .returned (.tuple #[]) ∧ Mine S w' b (d.arm n xs) ∧ Kept (fun i => ¬ S i) w w' := by
  obtain ⟨L, hi, hf, hS⟩ := h
  refine (arm_calls hi n v xs hv (fun i hi2 e => hf b (Or.inl (Or.inl rfl)) (e ▸ hvb i hi2)) hn hlen).mono ?_
  rintro r w' ⟨rfl, hp⟩
  exact ⟨rfl, Mine.post hf hS hp⟩

theorem m_crash (h : Mine S w b d) (v : Value) (keep : List Int) (hv : KeepAt w v keep) (hvb : ∀ i, inBlock v i → S i) (hlen : keep.length ≤ 1099511627776) :
    Calls Tryz.prog 23 #[.pointer (some ⟨b, 0, none⟩), v] w fun r w' => r = .returned (.tuple #[]) ∧ Mine S w' b (d.crash keep) ∧ Kept (fun i => ¬ S i) w w' := by
  obtain ⟨L, hi, hf, hS⟩ := h
  refine (crash_calls hi v keep hv (fun i hi2 e => hf i (Or.inl e) (hvb i hi2)) hlen).mono ?_
  rintro r w' ⟨rfl, hp⟩
  exact ⟨rfl, Mine.post hf hS hp⟩

theorem m_new (w : World) : Calls Tryz.prog 9 #[] w fun r w' => ∃ b, r = .returned (.pointer (some ⟨b, 0, none⟩)) ∧ Mine (fun i => i < w.heap.size) w' b Dk.new ∧ Kept (fun _ => False) w w' := by
  refine (new_calls w).mono ?_
  rintro r w' ⟨b, L, rfl, hi, hk, ho, hv⟩
  refine ⟨b, rfl, ⟨L, hi, fun i h1 h2 => ?_, fun i h1 => Nat.lt_of_lt_of_le h1 hk.size⟩, hk⟩
  rcases h1 with h1 | h1
  · have := ho i h1; omega
  · have := hv i h1; omega

theorem m_size (h : Mine S w b d) (f : Int) : Calls Tryz.prog 30 #[.pointer (some ⟨b, 0, none⟩), .int .i64 f] w fun e w' => e = .returned (.int .i64 (d.size f)) ∧ w = w' := by
  obtain ⟨L, hi, hf, hS⟩ := h
  exact size_calls hi f

theorem m_read (h : Mine S w b d) (f a n : Int) (ha : -9223372036854775808 ≤ a) (ha2 : a ≤ 9223372036854775807) :
    Calls Tryz.prog 29 #[.pointer (some ⟨b, 0, none⟩), .int .i64 f, .int .i64 a, .int .i64 n] w fun e w' => e = .returned (.tuple #[.string (bs (d.read f a n).1), .int .i64 (d.read f a n).2]) ∧ Mine S w' b d ∧ Kept (fun i => ¬ S i) w w' := by
  have hM := h
  obtain ⟨L, hi, hf, hS⟩ := h
  refine (read_disk hi f a n ha ha2).mono ?_
  rintro r w' ⟨rfl, hb⟩
  exact ⟨rfl, hM.kept (Below.kept hb) (fun i hi => Or.inr hi), (Below.kept hb).mono (fun i hi => Or.inr hi)⟩

theorem Mine.alloc (h : Mine S w b d) (o : Obj) : Mine (fun i => S i ∨ i = w.heap.size) (w.alloc o) b d := by
  obtain ⟨L, hi, hf, hS⟩ := h
  refine ⟨L, hi.kept ((Kept.refl (fun _ => False) w).alloc o) (fun i _ e => e), fun i h1 h2 => ?_, fun i h1 => ?_⟩
  · rcases h2 with h2 | h2
    · exact hf i h1 h2
    · have := hi.foot_lt i h1; omega
  · rcases h1 with h1 | h1
    · have := hS i h1; simp; omega
    · simp; omega

/-- Two disks that share no block. -/
def Two (S : Nat → Prop) (w : World) (b1 : Nat) (d1 : Dk) (b2 : Nat) (d2 : Dk) : Prop :=
  ∃ L1 L2, IsD w b1 L1 d1 ∧ IsD w b2 L2 d2 ∧ (∀ i, Foot b1 L1 i → ¬ S i) ∧ (∀ i, Foot b2 L2 i → ¬ S i) ∧ (∀ i, Foot b1 L1 i → ¬ Foot b2 L2 i) ∧ ∀ i, S i → i < w.heap.size

variable {b1 b2 : Nat} {d1 d2 : Dk}

theorem Two.symm (h : Two S w b1 d1 b2 d2) : Two S w b2 d2 b1 d1 := by
  obtain ⟨L1, L2, h1, h2, h3, h4, h5, h6⟩ := h
  exact ⟨L2, L1, h2, h1, h4, h3, fun i hi hj => h5 i hj hi, h6⟩

theorem Two.left (h : Two S w b1 d1 b2 d2) : ∃ S' : Nat → Prop, (∀ i, S i → S' i) ∧ Mine S' w b1 d1 ∧ ∀ w' d1', Mine S' w' b1 d1' → Kept (fun i => ¬ S' i) w w' → Two S w' b1 d1' b2 d2 := by
  obtain ⟨L1, L2, h1, h2, h3, h4, h5, h6⟩ := h
  refine ⟨fun i => S i ∨ Foot b2 L2 i, fun i hi => Or.inl hi, ⟨L1, h1, fun i hi hj => hj.elim (h3 i hi) (h5 i hi), fun i hi => hi.elim (h6 i) (h2.foot_lt i)⟩, ?_⟩
  rintro w' d1' ⟨L1', i1, i2, i3⟩ hk
  exact ⟨L1', L2, i1, h2.kept hk (fun i hi hn => hn (Or.inr hi)), fun i hi hs => i2 i hi (Or.inl hs), h4, fun i hi hs => i2 i hi (Or.inr hs), fun i hi => i3 i (Or.inl hi)⟩

theorem Two.one (h : Two S w b1 d1 b2 d2) : Mine S w b1 d1 := by
  obtain ⟨L1, L2, h1, h2, h3, h4, h5, h6⟩ := h
  exact ⟨L1, h1, h3, h6⟩

theorem t_new (h : Mine S w b d) :
    Calls Tryz.prog 9 #[] w fun r w' => ∃ g, r = .returned (.pointer (some ⟨g, 0, none⟩)) ∧ Two S w' b d g Dk.new ∧ Kept (fun _ => False) w w' := by
  obtain ⟨L, hi, hf, hS⟩ := h
  refine (new_calls w).mono ?_
  rintro r w' ⟨g, L', rfl, hi', hk, ho, hv⟩
  have hge : ∀ i, Foot g L' i → w.heap.size ≤ i := fun i h1 => h1.elim (ho i) (hv i)
  refine ⟨g, rfl, ⟨L, L', hi.kept hk (fun i _ e => e), hi', hf, fun i h1 h2 => ?_, fun i h1 h2 => ?_, fun i h1 => Nat.lt_of_lt_of_le (hS i h1) hk.size⟩, hk⟩
  · have := hge i h1; have := hS i h2; omega
  · have := hge i h2; have := hi.foot_lt i h1; omega

theorem lit_keep (w : World) (xs : List Int) : KeepAt (w.alloc (.cells (xs.map (Value.int .i64)).toArray 3 (0, 0))) (.slice (some ⟨w.heap.size, 0, none⟩) xs.length xs.length) xs := by
  refine Or.inr ⟨w.heap.size, 0, xs.length, rfl, by simp, fun i x hx => ?_⟩
  have h : (w.alloc (.cells (xs.map (Value.int .i64)).toArray 3 (0, 0))).heap[w.heap.size]? = some (.cells (xs.map (Value.int .i64)).toArray 3 (0, 0)) := (MapKept.heap_alloc w _).1
  unfold World.cell?
  rw [h]
  simp [hx]

theorem m_crash_lit {xs : List Int} {o : Obj} (h : Mine S w b d) (ho : o = .cells (xs.map (Value.int .i64)).toArray 3 (0, 0)) (hlen : xs.length ≤ 1099511627776) :
    Calls Tryz.prog 23 #[.pointer (some ⟨b, 0, none⟩), .slice (some ⟨w.heap.size, 0, none⟩) xs.length xs.length] (w.alloc o) fun r w' => r = .returned (.tuple #[]) ∧ Mine S w' b (d.crash xs) ∧ Kept (fun i => ¬ S i) w w' := by
  subst ho
  refine (m_crash (h.alloc _) _ xs (lit_keep w xs) (fun i hi => ?_) hlen).mono ?_
  · obtain ⟨o, n, c, e⟩ := hi
    simp at e
    exact Or.inr e.1.1.symm
  · rintro r w' ⟨rfl, hm, hk⟩
    exact ⟨rfl, hm.weak (fun i hi => Or.inl hi), ((Kept.refl (fun i => ¬ S i) w).alloc _).trans (hk.mono (fun i hi => Or.inl (fun hs => hi (Or.inl hs))))⟩

end Go.Proofs.YtanecondopbfhaaGreatDoor
