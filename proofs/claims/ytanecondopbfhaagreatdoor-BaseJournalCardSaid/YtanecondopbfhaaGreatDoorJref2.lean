/- The reference's disk and journal in memory, in terms of the plain disk. -/
import Derived.Test.YtanecondopbfhaaGreatDoorJR6
import Derived.Test.YtanecondopbfhaaGreatDoorJref1
import Derived.Deep.RegionHeld3
namespace Go.Proofs.YtanecondopbfhaaGreatDoor
open Go.RowKit
open Cod (Env)

/-- A reference disk at block rb, in no block of S, that is as the disk d is. -/
def RM (S : Nat → Prop) (w : World) (rb : Nat) (d : Dk) : Prop := ∃ r, Rep r d ∧ r.keep.length ≤ 1099511627776 ∧ MineR S w rb r

variable {S : Nat → Prop} {w w' : World} {rb : Nat} {d : Dk}

theorem put_keep (r1 : Rk) (f n : Int) (s : List UInt8) : (r1.put f n s).1.keep = r1.keep := by
  unfold Rk.put Rk.add
  repeat' split
  all_goals rfl
theorem syn_keep (r1 : Rk) (f : Int) : (r1.syn f).1.keep = r1.keep := by
  unfold Rk.syn
  repeat' split
  all_goals rfl
theorem tru_keep (r1 : Rk) (f n : Int) : (r1.tru f n).1.keep = r1.keep := by
  unfold Rk.tru
  repeat' split
  all_goals rfl
theorem rcrash_keep (r : Rk) (keep : List Int) : (r.crash keep).keep = r.keep := by
  unfold Rk.crash
  split <;> rfl

theorem RM.weak {S' : Nat → Prop} (h : RM S w rb d) (hs : ∀ i, S' i → S i) : RM S' w rb d := by
  obtain ⟨r, h1, h2, h3⟩ := h
  exact ⟨r, h1, h2, h3.weak hs⟩

theorem RM.kept {T : Nat → Prop} (h : RM S w rb d) (hk : Kept T w w') (hT : ∀ i, i < w.heap.size → T i → S i) : RM S w' rb d := by
  obtain ⟨r, h1, h2, h3⟩ := h
  exact ⟨r, h1, h2, h3.kept (T := fun i => T i ∧ i < w.heap.size) ⟨hk.os, hk.tape, hk.output, hk.size, fun k hk' hn => hk.block k hk' (fun ht => hn ⟨ht, hk'⟩)⟩ (fun i hi => Or.inl (hT i hi.2 hi.1))⟩

theorem RM.grow {T : Nat → Prop} (h : RM S w rb d) (hk : Kept T w w') (hT : ∀ i, i < w.heap.size → T i → S i) : RM (fun i => S i ∨ (w.heap.size ≤ i ∧ i < w'.heap.size)) w' rb d := by
  obtain ⟨r, h1, h2, h3⟩ := h.kept hk hT
  obtain ⟨r0, _, _, L0, hi0, hf0, hs0⟩ := h
  obtain ⟨L, hi, hf, hs⟩ := h3
  obtain ⟨r, h1, h2, ⟨L, hi, hf, hs⟩⟩ : ∃ r, Rep r d ∧ r.keep.length ≤ 1099511627776 ∧ ∃ L, IsR w' rb L r ∧ (∀ i, RFoot rb L i → ¬ S i ∧ i < w.heap.size) ∧ ∀ i, S i → i < w'.heap.size := by
    refine ⟨r0, ‹_›, ‹_›, L0, hi0.kept (S := fun i => T i ∧ i < w.heap.size) ⟨hk.os, hk.tape, hk.output, hk.size, fun k hk' hn => hk.block k hk' (fun ht => hn ⟨ht, hk'⟩)⟩ (fun i hfi hTi => hf0 i hfi (hT i hTi.2 hTi.1)), fun i hfi => ⟨hf0 i hfi, hi0.foot_lt i hfi⟩, fun i hSi => Nat.lt_of_lt_of_le (hs0 i hSi) hk.size⟩
  refine ⟨r, h1, h2, L, hi, fun i hfi hn => ?_, fun i hi => hi.elim (hs i) (fun h => h.2)⟩
  rcases hn with hn | hn
  · exact (hf i hfi).1 hn
  · have := (hf i hfi).2; omega

theorem RM.bound (h : RM S w rb d) : ∀ i, S i → i < w.heap.size := by
  obtain ⟨r, _, _, L, _, _, hs⟩ := h
  exact hs

theorem RM.ok (h : RM S w rb d) : d.Ok := by
  obtain ⟨r, h1, _⟩ := h
  exact h1.ok

theorem rm_write (h : RM S w rb d) (f a : Int) (s : List UInt8) (hs : s.length ≤ 1099511627776) :
    Calls Tryz.prog 54 #[.pointer (some ⟨rb, 0, none⟩), .int .i64 f, .int .i64 a, .string (bs s)] w fun e w' => e = .returned (.int .i64 (d.write f a s).2) ∧ RM S w' rb (d.write f a s).1 ∧ Kept (fun i => ¬ S i) w w' := by
  obtain ⟨r, hr, hk, L, hi, hf, hS⟩ := h
  obtain ⟨h1, h2⟩ := hr.write f a s
  refine (rwrite_calls hi hr hk f a s hs).mono ?_
  rintro e w' ⟨rfl, hp⟩
  obtain ⟨g1, g2⟩ := MineR.post hf hS (fun i hi => hi) hp
  exact ⟨by rw [h2], ⟨_, h1, by unfold Rk.write; rw [put_keep, comes_keep]; exact hk, g1⟩, g2⟩

theorem rm_sync (h : RM S w rb d) (f : Int) :
    Calls Tryz.prog 48 #[.pointer (some ⟨rb, 0, none⟩), .int .i64 f] w fun e w' => e = .returned (.int .i64 (d.sync f).2) ∧ RM S w' rb (d.sync f).1 ∧ Kept (fun i => ¬ S i) w w' := by
  obtain ⟨r, hr, hk, L, hi, hf, hS⟩ := h
  obtain ⟨h1, h2⟩ := hr.sync f
  refine (rsync_calls hi hr hk f).mono ?_
  rintro e w' ⟨rfl, hp⟩
  obtain ⟨g1, g2⟩ := MineR.post hf hS (fun i hi => hi) hp
  exact ⟨by rw [h2], ⟨_, h1, by unfold Rk.sync; rw [syn_keep, comes_keep]; exact hk, g1⟩, g2⟩

theorem rm_trunc (h : RM S w rb d) (f n : Int) :
    Calls Tryz.prog 51 #[.pointer (some ⟨rb, 0, none⟩), .int .i64 f, .int .i64 n] w fun e w' => e = .returned (.int .i64 (d.truncate f n).2) ∧ RM S w' rb (d.truncate f n).1 ∧ Kept (fun i => ¬ S i) w w' := by
  obtain ⟨r, hr, hk, L, hi, hf, hS⟩ := h
  obtain ⟨h1, h2⟩ := hr.truncate f n
  refine (rtrunc_calls hi hr hk f n).mono ?_
  rintro e w' ⟨rfl, hp⟩
  obtain ⟨g1, g2⟩ := MineR.post hf hS (fun i hi => hi) hp
  exact ⟨by rw [h2], ⟨_, h1, by unfold Rk.truncate; rw [tru_keep, comes_keep]; exact hk, g1⟩, g2⟩

theorem rm_read (h : RM S w rb d) (f a n : Int) (ha : -9223372036854775808 ≤ a) (ha2 : a ≤ 9223372036854775807) :
    Calls Tryz.prog 31 #[.pointer (some ⟨rb, 0, none⟩), .int .i64 f, .int .i64 a, .int .i64 n] w fun e w' => e = .returned (.tuple #[.string (bs (d.read f a n).1), .int .i64 (d.read f a n).2]) ∧ RM S w' rb d ∧ Kept (fun _ => False) w w' := by
  have h0 := h
  obtain ⟨r, hr, hk, L, hi, hf, hS⟩ := h
  refine (rread_calls hi hr f a n ha ha2).mono ?_
  rintro e w' ⟨rfl, hb⟩
  have hkb := kept_below hb rfl
  exact ⟨by rw [hr.read], h0.kept hkb (fun _ _ h => h.elim), hkb⟩

theorem rsize_eq {r : Rk} {d : Dk} (hr : Rep r d) (f : Int) : (getF r.fs f).now.length = d.size f := by
  unfold Dk.size
  by_cases h : 0 ≤ f ∧ f < 16
  · rw [if_pos h]
    have := hr.now f.toNat (by omega)
    rw [show ((f.toNat : Nat) : Int) = f by omega] at this
    rw [this, Img.text_length]
  · rw [if_neg h, hr.nums.out h]
    rfl

theorem rm_size (h : RM S w rb d) (f : Int) :
    Calls Tryz.prog 32 #[.pointer (some ⟨rb, 0, none⟩), .int .i64 f] w fun e w' => e = .returned (.int .i64 (d.size f)) ∧ RM S w' rb d ∧ Kept (fun _ => False) w w' := by
  have h0 := h
  obtain ⟨r, hr, hk, L, hi, hf, hS⟩ := h
  refine (rsize_calls hi (by have := hr.nums.len; omega) f).mono ?_
  rintro e w' ⟨rfl, hb⟩
  have hkb := kept_below hb rfl
  exact ⟨by rw [← rsize_eq hr], h0.kept hkb (fun _ _ h => h.elim), hkb⟩

theorem rm_lose (h : RM S w rb d) (n : Int) (hn : n ≤ 9223372036854775807) :
    Calls Tryz.prog 20 #[.pointer (some ⟨rb, 0, none⟩), .int .i64 n] w fun e w' => e = .returned (.tuple #[]) ∧ RM S w' rb (d.lose n) ∧ Kept (fun i => ¬ S i) w w' := by
  obtain ⟨r, hr, hk, L, hi, hf, hS⟩ := h
  refine (rlose_calls hi n hn).mono ?_
  rintro e w' ⟨rfl, hp⟩
  obtain ⟨g1, g2⟩ := MineR.post hf hS (fun i hi => Or.inl hi) hp
  exact ⟨rfl, ⟨{ r with lost := n.toNat }, ⟨hr.now, hr.last, hr.q, rfl, hr.down, hr.armed, hr.keep, hr.nums, hr.ok.with_ rfl rfl rfl⟩, hk, g1⟩, g2⟩

theorem rm_start (h : RM S w rb d) :
    Calls Tryz.prog 26 #[.pointer (some ⟨rb, 0, none⟩)] w fun e w' => e = .returned (.tuple #[]) ∧ RM S w' rb d.start ∧ Kept (fun i => ¬ S i) w w' := by
  obtain ⟨r, hr, hk, L, hi, hf, hS⟩ := h
  refine (rstart_calls hi).mono ?_
  rintro e w' ⟨rfl, hp⟩
  obtain ⟨g1, g2⟩ := MineR.post hf hS (fun i hi => Or.inl hi) hp
  exact ⟨rfl, ⟨{ r with down := false }, ⟨hr.now, hr.last, hr.q, hr.lost, rfl, hr.armed, hr.keep, hr.nums, hr.ok.with_ rfl rfl rfl⟩, hk, g1⟩, g2⟩

theorem rm_arm (h : RM S w rb d) (n : Int) (v : Value) (xs : List Int) (hv : KeepAt w v xs) (hvb : ∀ i, inBlock v i → S i) (hn : n ≤ 9223372036854775807) (hlen : xs.length ≤ 1099511627776) :
    Calls Tryz.prog 22 #[.pointer (some ⟨rb, 0, none⟩), .int .i64 n, v] w fun e w' => e = .returned (.tuple #[]) ∧ RM S w' rb (d.arm n xs) ∧ Kept (fun i => ¬ S i) w w' := by
  obtain ⟨r, hr, hk, L, hi, hf, hS⟩ := h
  refine (rarm_calls hi n v xs hv (fun i hi e => hf rb (Or.inl rfl) (e ▸ hvb i hi)) hn hlen).mono ?_
  rintro e w' ⟨rfl, hp⟩
  obtain ⟨g1, g2⟩ := MineR.post hf hS (fun i hi => Or.inl hi) hp
  exact ⟨rfl, ⟨{ r with armed := n.toNat, keep := xs }, ⟨hr.now, hr.last, hr.q, hr.lost, hr.down, rfl, fun _ => rfl, hr.nums, hr.ok.with_ rfl rfl rfl⟩, hlen, g1⟩, g2⟩

theorem rm_crash (h : RM S w rb d) (v : Value) (xs : List Int) (hv : KeepAt w v xs) (hvb : ∀ i, inBlock v i → S i) (hlen : xs.length ≤ 1099511627776) :
    Calls Tryz.prog 24 #[.pointer (some ⟨rb, 0, none⟩), v] w fun e w' => e = .returned (.tuple #[]) ∧ RM S w' rb (d.crash xs) ∧ Kept (fun i => ¬ S i) w w' := by
  obtain ⟨r, hr, hk, L, hi, hf, hS⟩ := h
  refine (rcrash_calls hi hr v xs hv (fun i hi e => hf rb (Or.inl rfl) (e ▸ hvb i hi)) hlen).mono ?_
  rintro e w' ⟨rfl, hp⟩
  obtain ⟨g1, g2⟩ := MineR.post hf hS (fun i hi => Or.inl hi) hp
  exact ⟨rfl, ⟨_, hr.crash xs, by rw [rcrash_keep]; exact hk, g1⟩, g2⟩

end Go.Proofs.YtanecondopbfhaaGreatDoor
