/- BaseJournal: the program's disk and journal, and the reference's, in memory that they do not share. -/
import Derived.Test.YtanecondopbfhaaGreatDoorJref4
import Derived.Test.YtanecondopbfhaaGreatDoorJrow
namespace Go.Proofs.YtanecondopbfhaaGreatDoor
open Go.RowKit
open Cod (Env)

section
theorem keep_shape {w : World} {v : Value} {xs : List Int} (h : KeepAt w v xs) : ∃ a c, v = .slice a xs.length c := by
  rcases h with ⟨⟨a, c, h1⟩, h2⟩ | ⟨g, off, cap, h, _⟩
  · exact ⟨a, c, by rw [h1, h2]; rfl⟩
  · exact ⟨_, _, h⟩

structure Op' where
  Kind : Int
  S : List UInt8
  N : Int
  Keep : List Int

structure OpAt (B g o : Nat) (a : Op') (kv : Value) (w : World) : Prop where
  c0 : w.cell? ⟨g, o, none⟩ = some (.int .i64 a.Kind)
  c1 : w.cell? ⟨g, o + 1, none⟩ = some (.string (bs a.S))
  c2 : w.cell? ⟨g, o + 2, none⟩ = some (.int .i64 a.N)
  c3 : w.cell? ⟨g, o + 3, none⟩ = some kv
  kp : KeepAt w kv a.Keep
  kb : ∀ i, inBlock kv i → i < B

def IsOps (B : Nat) (v : Value) (l : List Op') (w : World) : Prop :=
  ((∃ a c, v = .slice a 0 c) ∧ l = []) ∨ ∃ g off cap, v = .slice (some ⟨g, off, none⟩) l.length cap ∧ g < B ∧ g < w.heap.size ∧ ∀ i a, l[i]? = some a → ∃ kv, OpAt B g (off + i * 4) a kv w

variable {w w' : World} {B : Nat} {v : Value} {l : List Op'}

theorem IsOps.kept {T : Nat → Prop} (h : IsOps B v l w) (hk : Kept T w w') (hT : ∀ i, T i → B ≤ i) : IsOps B v l w' := by
  rcases h with h | ⟨g, off, cap, hv, hg, hw, hc⟩
  · exact Or.inl h
  · refine Or.inr ⟨g, off, cap, hv, hg, Nat.lt_of_lt_of_le hw hk.size, fun i a ha => ?_⟩
    obtain ⟨kv, h⟩ := hc i a ha
    have e : ∀ o, w'.cell? ⟨g, o, none⟩ = w.cell? ⟨g, o, none⟩ := fun o => World.cell?_of_block (hk.block g hw (fun ht => by have := hT g ht; omega))
    exact ⟨kv, ⟨(e _).trans h.c0, (e _).trans h.c1, (e _).trans h.c2, (e _).trans h.c3, h.kp.kept hk (fun i hi ht => by have := hT i ht; have := h.kb i hi; omega), h.kb⟩⟩

theorem IsOps.shape (h : IsOps B v l w) : ∃ a c, v = .slice a l.length c := by
  rcases h with ⟨⟨a, c, rfl⟩, rfl⟩ | ⟨g, off, cap, rfl, _⟩
  · exact ⟨_, _, rfl⟩
  · exact ⟨_, _, rfl⟩

theorem IsOps.get {va : Option Addr} {vc : Nat} (h : IsOps B (.slice va l.length vc) l w) {k : Nat} {a : Op'} (ha : l[k]? = some a) : ∃ g off, va = some ⟨g, off, none⟩ ∧ g < B ∧ g < w.heap.size ∧ ∃ kv, OpAt B g (off + k * 4) a kv w := by
  rcases h with ⟨_, rfl⟩ | ⟨g, off, cap, e, h1, h2, hc⟩
  · simp at ha
  · simp at e
    exact ⟨g, off, e.1, h1, h2, hc k a ha⟩

def FewOpL (l : List Op') : Prop := l.length ≤ 25 ∧ ∀ a ∈ l, a.S.length ≤ 200 ∧ a.Keep.length ≤ 50

def FewOpP (l : List Op') (w : World) (r : Ending) (w' : World) : Prop := ∃ t : Bool, r = .returned (.bool t) ∧ (t = true → FewOpL l) ∧ w = w'

set_option maxHeartbeats 2000000 in
set_option maxRecDepth 100000 in
theorem fewop_calls (h : IsOps B v l w) (hb : l.length ≤ 9223372036854775807) (hfit : ∀ a ∈ l, a.S.length ≤ 9223372036854775807) (hkf : ∀ a ∈ l, a.Keep.length ≤ 9223372036854775807) :
    Calls Tryz.prog 8 #[v] w (FewOpP l w) := by
  obtain ⟨va, vc, rfl⟩ := h.shape
  have H := Lib.hid h
  have HF := Lib.hid hfit
  have HKF := Lib.hid hkf
  clear h hfit hkf
  go_enter Tryz.func8, Tryz.ntmps8
  go_wp2_with fail
  go_loopw [3] (fun i wr => ∃ k : Nat, k ≤ l.length ∧ i = .int .i64 k ∧ wr = w ∧ ∀ a ∈ l.take k, a.S.length ≤ 200 ∧ a.Keep.length ≤ 50) (fun i _ => l.length - (intOf i).toNat)
  case atStart => exact ⟨0, by omega, rfl, rfl, by simp⟩
  case round =>
    obtain ⟨k, hk, rfl, rfl, hall⟩ := hrel
    by_cases hlt : k < l.length
    · obtain ⟨a, ha⟩ : ∃ a, l[k]? = some a := ⟨_, List.getElem?_eq_getElem hlt⟩
      obtain ⟨g, off, rfl, _, _, kv, hat⟩ := H.out.get ha
      have a1 := hat.c1
      have a3 := hat.c3
      have hbl := bs_size a.S
      have hal := HF.out a (List.mem_of_getElem? ha)
      have hkl := HKF.out a (List.mem_of_getElem? ha)
      obtain ⟨ka, kc, rfl⟩ := keep_shape hat.kp
      have HA := Lib.hid ha
      have HALL := Lib.hid hall
      clear hat ha hall
      have d2 : (k : Int) < (l.length : Int) := by omega
      go_wp2_with fail
      all_goals first
        | (go_ret; exact ⟨false, rfl, fun h => by simp at h, rfl⟩)
        | (go_roundw
           case rel =>
             refine ⟨k + 1, by omega, by go_num, trivial, ?_⟩
             intro x hx
             rw [List.take_add_one, HA.out, List.mem_append] at hx
             rcases hx with hx | hx
             · exact HALL.out x hx
             · simp at hx
               subst hx
               omega
           case measure => simp [intOf]; omega)
    · obtain rfl : k = l.length := by omega
      have hall2 := hall
      rw [List.take_length] at hall2
      have HALL := Lib.hid hall2
      clear hall hall2
      go_wp2_with fail
      go_ret
      exact ⟨_, rfl, fun h => ⟨by have := of_decide_eq_true h; omega, HALL.out⟩, rfl⟩

def opV (a : Op') (kv : Value) : List Value := [.int .i64 a.Kind, .string (bs a.S), .int .i64 a.N, kv]

theorem OpAt.range {B g o : Nat} {a : Op'} {kv : Value} {w : World} (h : OpAt B g o a kv w) : w.rangeAt g o (opV a kv) := by
  intro j v hv
  match j, hv with
  | 0, hv => simp [opV] at hv; subst hv; exact h.c0
  | 1, hv => simp [opV] at hv; subst hv; exact h.c1
  | 2, hv => simp [opV] at hv; subst hv; exact h.c2
  | 3, hv => simp [opV] at hv; subst hv; exact h.c3
  | n + 4, hv => simp [opV] at hv
end

structure Gr (B : (Nat → Prop) → World → Prop) : Prop where
  grow : ∀ (P T : Nat → Prop) (w w' : World), B P w → Kept T w w' → (∀ i, i < w.heap.size → T i → P i) → B (fun i => P i ∨ (w.heap.size ≤ i ∧ i < w'.heap.size)) w'
  weak : ∀ (P Q : Nat → Prop) (w : World), B P w → (∀ i, Q i → P i) → B Q w

theorem kept_cap {T : Nat → Prop} {w w' : World} (hk : Kept T w w') : Kept (fun i => T i ∧ i < w.heap.size) w w' := ⟨hk.os, hk.tape, hk.output, hk.size, fun k hk' hn => hk.block k hk' (fun ht => hn ⟨ht, hk'⟩)⟩

theorem gr_mine (b : Nat) (d : Dk) : Gr (fun P w => Mine P w b d) :=
  ⟨fun _ _ _ _ h hk hT => h.grow (kept_cap hk) (fun i hi => hT i hi.2 hi.1), fun _ _ _ h hq => h.weak hq⟩
theorem gr_jn (b : Nat) (d : Dk) (jb : Nat) (j : Jr) : Gr (fun P w => Jn P w b d jb j) :=
  ⟨fun _ _ _ _ h hk hT => h.grow (kept_cap hk) (fun i hi => hT i hi.2 hi.1), fun _ _ _ h hq => h.weak hq⟩
theorem gr_rm (rb : Nat) (d : Dk) : Gr (fun P w => RM P w rb d) := ⟨fun _ _ _ _ h hk hT => h.grow hk hT, fun _ _ _ h hq => h.weak hq⟩
theorem gr_rn (rb : Nat) (d : Dk) (rj : Nat) (j : Jr) : Gr (fun P w => Rn P w rb d rj j) := ⟨fun _ _ _ _ h hk hT => h.grow hk hT, fun _ _ _ h hq => h.weak hq⟩

/-- The two sides: what is the reference's lies in F; nothing of either lies in S. -/
structure Sep (S : Nat → Prop) (w : World) (Bp Rp : (Nat → Prop) → World → Prop) : Prop where
  ex : ∃ F : Nat → Prop, (∀ i, S i → ¬ F i) ∧ (∀ i, S i → i < w.heap.size) ∧ (∀ i, F i → i < w.heap.size) ∧ Bp (fun i => S i ∨ F i) w ∧ Rp (fun i => i < w.heap.size ∧ ¬ F i) w
  gb : Gr Bp
  gr : Gr Rp

variable {S : Nat → Prop} {w w' : World} {Bp Rp Bp' Rp' : (Nat → Prop) → World → Prop}

theorem Sep.base (h : Sep S w Bp Rp) : ∃ P : Nat → Prop, (∀ i, S i → P i) ∧ Bp P w ∧ ∀ w' Bp', Gr Bp' → Bp' P w' → Kept (fun i => ¬ P i) w w' → Sep S w' Bp' Rp ∧ Kept (fun i => ¬ S i) w w' := by
  obtain ⟨⟨F, h1, h2, h3, hB, hR⟩, gb, gr⟩ := h
  refine ⟨_, fun i hi => Or.inl hi, hB, fun w' Bp' g' hB' hk => ⟨⟨⟨F, h1, fun i hi => Nat.lt_of_lt_of_le (h2 i hi) hk.size, fun i hi => Nat.lt_of_lt_of_le (h3 i hi) hk.size, hB', ?_⟩, g', gr⟩, hk.mono (fun i hi => Or.inl (fun hs => hi (Or.inl hs)))⟩⟩
  refine gr.weak _ _ _ (gr.grow _ _ _ _ hR hk (fun i hl hn => ⟨hl, fun hf => hn (Or.inr hf)⟩)) (fun i hi => ?_)
  by_cases hl : i < w.heap.size
  · exact Or.inl ⟨hl, hi.2⟩
  · exact Or.inr ⟨by omega, hi.1⟩

theorem Sep.ref (h : Sep S w Bp Rp) : ∃ Q : Nat → Prop, (∀ i, S i → Q i) ∧ Rp Q w ∧ ∀ w' Rp', Gr Rp' → Rp' Q w' → Kept (fun i => ¬ Q i) w w' → Sep S w' Bp Rp' ∧ Kept (fun i => ¬ S i) w w' := by
  obtain ⟨⟨F, h1, h2, h3, hB, hR⟩, gb, gr⟩ := h
  refine ⟨_, fun i hi => ⟨h2 i hi, h1 i hi⟩, hR, fun w' Rp' g' hR' hk => ⟨⟨⟨fun i => F i ∨ (w.heap.size ≤ i ∧ i < w'.heap.size), fun i hi hf => hf.elim (h1 i hi) (fun h => by have := h2 i hi; omega), fun i hi => Nat.lt_of_lt_of_le (h2 i hi) hk.size, fun i hi => hi.elim (fun h => Nat.lt_of_lt_of_le (h3 i h) hk.size) (fun h => h.2), ?_, ?_⟩, gb, g'⟩, hk.mono (fun i hi => Or.inl (fun hs => hi ⟨h2 i hs, h1 i hs⟩))⟩⟩
  · refine gb.weak _ _ _ (gb.grow _ _ _ _ hB hk (fun i hl hn => Or.inr (Classical.byContradiction fun hf => hn ⟨hl, hf⟩))) (fun i hi => ?_)
    rcases hi with hi | hi | hi
    · exact Or.inl (Or.inl hi)
    · exact Or.inl (Or.inr hi)
    · exact Or.inr hi
  · refine g'.weak _ _ _ hR' (fun i hi => ?_)
    by_cases hl : i < w.heap.size
    · exact ⟨hl, fun hf => hi.2 (Or.inl hf)⟩
    · exact absurd (Or.inr ⟨by omega, hi.1⟩) hi.2

theorem Sep.bound (h : Sep S w Bp Rp) : ∀ i, S i → i < w.heap.size := by
  obtain ⟨⟨F, h1, h2, _⟩, _⟩ := h
  exact h2

theorem Sep.kept (h : Sep S w Bp Rp) (hk : Kept (fun _ => False) w w') : Sep S w' Bp Rp := by
  have hg := h.gb
  obtain ⟨P, hP, hB, back⟩ := h.base
  exact (back w' Bp hg (hg.weak _ _ _ (hg.grow _ _ _ _ hB hk (fun _ _ h => h.elim)) (fun i hi => Or.inl hi)) (hk.mono (fun _ h => h.elim))).1

theorem Sep.weak {S' : Nat → Prop} (h : Sep S w Bp Rp) (hs : ∀ i, S' i → S i) : Sep S' w Bp Rp := by
  obtain ⟨⟨F, h1, h2, h3, hB, hR⟩, gb, gr⟩ := h
  exact ⟨⟨F, fun i hi => h1 i (hs i hi), fun i hi => h2 i (hs i hi), h3, gb.weak _ _ _ hB (fun i hi => hi.imp (hs i) id), hR⟩, gb, gr⟩

/-- A block that was made since is left alone by both. -/
theorem Sep.alloc (h : Sep S w Bp Rp) (o : Obj) : Sep (fun i => S i ∨ i = w.heap.size) (w.alloc o) Bp Rp := by
  obtain ⟨⟨F, h1, h2, h3, hB, hR⟩, gb, gr⟩ := h
  have hk : Kept (fun _ => False) w (w.alloc o) := (Kept.refl (fun _ => False) w).alloc o
  have hz : (w.alloc o).heap.size = w.heap.size + 1 := by simp
  refine ⟨⟨F, fun i hi hf => hi.elim (fun h => h1 i h hf) (fun e => by have := h3 i hf; omega), fun i hi => hi.elim (fun h => by have := h2 i h; omega) (fun e => by omega), fun i hi => by have := h3 i hi; omega, ?_, ?_⟩, gb, gr⟩
  · refine gb.weak _ _ _ (gb.grow _ _ _ _ hB hk (fun _ _ h => h.elim)) (fun i hi => ?_)
    rcases hi with (hi | hi) | hi
    · exact Or.inl (Or.inl hi)
    · exact Or.inr ⟨by omega, by omega⟩
    · exact Or.inl (Or.inr hi)
  · refine gr.weak _ _ _ (gr.grow _ _ _ _ hR hk (fun _ _ h => h.elim)) (fun i hi => ?_)
    by_cases hl : i < w.heap.size
    · exact Or.inl ⟨hl, hi.2⟩
    · exact Or.inr ⟨by omega, hi.1⟩

/-! ### how many cells the disk has touched -/

theorem jcrash_R (d : Dk) (keep : List Int) : (d.crash keep).R = d.R := by
  rw [Dk.crash]
  split
  · rfl
  · exact (live_F d _).2.2.1
theorem jfin_R (d : Dk) (e : Int) : (d.fin e).1.R = d.R := by
  unfold Dk.fin
  split
  · rfl
  · split
    · exact jcrash_R _ _
    · rfl
theorem jsyn_R (d : Dk) (f : Int) : (d.sync f).1.R = d.R := by
  unfold Dk.sync
  split
  · rw [jfin_R]
    unfold Dk.syn
    split <;> rfl
  · exact jfin_R _ _
theorem jtru_R (d : Dk) (f n : Int) : (d.truncate f n).1.R = d.R := by
  unfold Dk.truncate
  split
  · rw [jfin_R]
    unfold Dk.tru
    split <;> rfl
  · exact jfin_R _ _
theorem jwrite_R (d : Dk) (f a : Int) (s : List UInt8) : (d.write f a s).1.R ≤ d.R + s.length + 2 := by
  unfold Dk.write
  split
  · rw [jfin_R]
    unfold Dk.put
    repeat' split
    all_goals first | exact Nat.le_refl _ | (show d.R ≤ _; omega)
  · rw [jfin_R]; omega
theorem jopen_R (d : Dk) (f : Nat) : (d.jopen f).1.1.R = d.R := by
  unfold Dk.jopen Dk.jcut
  repeat' split
  all_goals first | exact jsyn_R _ _ | (rw [jtru_R]; exact jsyn_R _ _)
theorem jappend_R (d : Dk) (j : Jr) (s : List UInt8) : (d.jappend j s).1.1.R ≤ d.R + (formL s).length + 2 := by
  unfold Dk.jappend
  repeat' split
  all_goals first | exact jwrite_R _ _ _ _ | (show d.R ≤ _; omega)
theorem jsync_R (d : Dk) (j : Jr) : (d.jsync j).1.1.R = d.R := by
  unfold Dk.jsync
  split
  · rfl
  · exact jsyn_R _ _

theorem forms_mem : ∀ {l : List (List UInt8)} {u : List UInt8}, u ∈ l → u.length ≤ (forms l).length
  | a :: l, u, h => by
    rw [forms_cons, List.length_append]
    rcases List.mem_cons.1 h with rfl | h
    · have : u.length ≤ (formL u).length := by
        unfold formL Cod.textS
        simp only [List.length_append, List.length_cons, List.length_nil]; omega
      omega
    · have := forms_mem h; omega

/-! ### calls on both sides -/
variable {b rb jb rj : Nat} {d d' : Dk} {j j' : Jr}

abbrev MB (b : Nat) (d : Dk) : (Nat → Prop) → World → Prop := fun P w => Mine P w b d
abbrev JB (b : Nat) (d : Dk) (jb : Nat) (j : Jr) : (Nat → Prop) → World → Prop := fun P w => Jn P w b d jb j
abbrev MR (rb : Nat) (d : Dk) : (Nat → Prop) → World → Prop := fun P w => RM P w rb d
abbrev JR (rb : Nat) (d : Dk) (rj : Nat) (j : Jr) : (Nat → Prop) → World → Prop := fun P w => Rn P w rb d rj j

theorem Sep.closeB (h : Sep S w (JB b d jb j) Rp) : Sep S w (MB b d) Rp := by
  obtain ⟨⟨F, h1, h2, h3, hB, hR⟩, gb, gr⟩ := h
  exact ⟨⟨F, h1, h2, h3, Jn.mine hB, hR⟩, gr_mine b d, gr⟩
theorem Sep.closeR (h : Sep S w Bp (JR rb d rj j)) : Sep S w Bp (MR rb d) := by
  obtain ⟨⟨F, h1, h2, h3, hB, hR⟩, gb, gr⟩ := h
  exact ⟨⟨F, h1, h2, h3, hB, Rn.rm hR⟩, gb, gr_rm rb d⟩

/-- A call of the program's disk, whatever is open. -/
theorem sep_mb {f : FuncId} {args : Array Value} {r0 : Value} (h : Sep S w (MB b d) Rp) (hc : ∀ P : Nat → Prop, (∀ i, S i → P i) → Mine P w b d → Calls Tryz.prog f args w fun r w' => r = .returned r0 ∧ Mine P w' b d' ∧ Kept (fun i => ¬ P i) w w') :
    Calls Tryz.prog f args w fun r w' => r = .returned r0 ∧ Sep S w' (MB b d') Rp ∧ Kept (fun i => ¬ S i) w w' := by
  obtain ⟨P, hP, hB, back⟩ := h.base
  refine (hc P hP hB).mono ?_
  rintro r w' ⟨rfl, h1, h2⟩
  exact ⟨rfl, back w' (MB b d') (gr_mine b d') h1 h2⟩
theorem sep_jb {f : FuncId} {args : Array Value} {r0 : Value} (h : Sep S w (JB b d jb j) Rp) (hc : ∀ P : Nat → Prop, (∀ i, S i → P i) → Mine P w b d → Calls Tryz.prog f args w fun r w' => r = .returned r0 ∧ Mine P w' b d' ∧ Kept (fun i => ¬ P i) w w') :
    Calls Tryz.prog f args w fun r w' => r = .returned r0 ∧ Sep S w' (JB b d' jb j) Rp ∧ Kept (fun i => ¬ S i) w w' := by
  obtain ⟨P, hP, hB, back⟩ := h.base
  obtain ⟨Q, hQ, hM, bk2⟩ := Jn.disk hB
  refine (hc Q (fun i hi => hQ i (hP i hi)) hM).mono ?_
  rintro r w' ⟨rfl, h1, h2⟩
  obtain ⟨h3, h4⟩ := bk2 w' d' h1 h2
  exact ⟨rfl, back w' (JB b d' jb j) (gr_jn b d' jb j) h3 h4⟩
theorem sep_mr {f : FuncId} {args : Array Value} {r0 : Value} (h : Sep S w Bp (MR rb d)) (hc : ∀ P : Nat → Prop, (∀ i, S i → P i) → RM P w rb d → Calls Tryz.prog f args w fun r w' => r = .returned r0 ∧ RM P w' rb d' ∧ Kept (fun i => ¬ P i) w w') :
    Calls Tryz.prog f args w fun r w' => r = .returned r0 ∧ Sep S w' Bp (MR rb d') ∧ Kept (fun i => ¬ S i) w w' := by
  obtain ⟨P, hP, hB, back⟩ := h.ref
  refine (hc P hP hB).mono ?_
  rintro r w' ⟨rfl, h1, h2⟩
  exact ⟨rfl, back w' (MR rb d') (gr_rm rb d') h1 h2⟩
theorem sep_jr {f : FuncId} {args : Array Value} {r0 : Value} (h : Sep S w Bp (JR rb d rj j)) (hc : ∀ P : Nat → Prop, (∀ i, S i → P i) → RM P w rb d → Calls Tryz.prog f args w fun r w' => r = .returned r0 ∧ RM P w' rb d' ∧ Kept (fun i => ¬ P i) w w') :
    Calls Tryz.prog f args w fun r w' => r = .returned r0 ∧ Sep S w' Bp (JR rb d' rj j) ∧ Kept (fun i => ¬ S i) w w' := by
  obtain ⟨P, hP, hB, back⟩ := h.ref
  obtain ⟨Q, hQ, hM, bk2⟩ := Rn.disk hB
  refine (hc Q (fun i hi => hQ i (hP i hi)) hM).mono ?_
  rintro r w' ⟨rfl, h1, h2⟩
  obtain ⟨h3, h4⟩ := bk2 w' d' h1 h2
  exact ⟨rfl, back w' (JR rb d' rj j) (gr_rn rb d' rj j) h3 h4⟩

theorem sep_append (h : Sep S w (JB b d jb j) Rp) (hE : Env w) (s : List UInt8) (hs : s.length ≤ 16777216) (hR : d.R + 1048578 ≤ 549755813888) :
    Calls Tryz.prog 15 #[.pointer (some ⟨jb, 0, none⟩), .string (bs s)] w fun r w' => r = .returned (.int .i64 (d.jappend j s).1.2) ∧ Sep S w' (JB b (d.jappend j s).1.1 jb (d.jappend j s).2) Rp ∧ Kept (fun i => ¬ S i) w w' := by
  obtain ⟨P, hP, hB, back⟩ := h.base
  refine (n_append hB hE s hs hR).mono ?_
  rintro r w' ⟨rfl, h1, h2⟩
  exact ⟨rfl, back w' _ (gr_jn ..) h1 h2⟩
theorem sep_sync (h : Sep S w (JB b d jb j) Rp) :
    Calls Tryz.prog 17 #[.pointer (some ⟨jb, 0, none⟩)] w fun r w' => r = .returned (.int .i64 (d.jsync j).1.2) ∧ Sep S w' (JB b (d.jsync j).1.1 jb (d.jsync j).2) Rp ∧ Kept (fun i => ¬ S i) w w' := by
  obtain ⟨P, hP, hB, back⟩ := h.base
  refine (n_sync hB).mono ?_
  rintro r w' ⟨rfl, h1, h2⟩
  exact ⟨rfl, back w' _ (gr_jn ..) h1 h2⟩
theorem sep_rappend (h : Sep S w Bp (JR rb d rj j)) (s : List UInt8) (hs : s.length ≤ 16777216) (hln : (forms j.L).length ≤ 16777216) :
    Calls Tryz.prog 16 #[.pointer (some ⟨rj, 0, none⟩), .string (bs s)] w fun r w' => r = .returned (.int .i64 (d.jappend j s).1.2) ∧ Sep S w' Bp (JR rb (d.jappend j s).1.1 rj (d.jappend j s).2) ∧ Kept (fun i => ¬ S i) w w' := by
  obtain ⟨P, hP, hB, back⟩ := h.ref
  refine (rn_append hB s hs (fun u hu => Nat.le_trans (forms_mem hu) hln) hln).mono ?_
  rintro r w' ⟨rfl, h1, h2⟩
  exact ⟨rfl, back w' _ (gr_rn ..) h1 h2⟩
theorem sep_rsync (h : Sep S w Bp (JR rb d rj j)) :
    Calls Tryz.prog 18 #[.pointer (some ⟨rj, 0, none⟩)] w fun r w' => r = .returned (.int .i64 (d.jsync j).1.2) ∧ Sep S w' Bp (JR rb (d.jsync j).1.1 rj (d.jsync j).2) ∧ Kept (fun i => ¬ S i) w w' := by
  obtain ⟨P, hP, hB, back⟩ := h.ref
  refine (rn_sync hB).mono ?_
  rintro r w' ⟨rfl, h1, h2⟩
  exact ⟨rfl, back w' _ (gr_rn ..) h1 h2⟩

theorem sep_open (h : Sep S w (MB b d) Rp) (hE : Env w) (h6 : ∀ i, i < 6 → S i) :
    Calls Tryz.prog 11 #[.pointer (some ⟨b, 0, none⟩), .int .i64 3] w fun r w' => Kept (fun i => ¬ S i) w w' ∧ (((d.jopen 3).2 = none ∧ r = .returned (.tuple #[.pointer none, .int .i64 (d.jopen 3).1.2]) ∧ Sep S w' (MB b (d.jopen 3).1.1) Rp) ∨
      ∃ jb j, (d.jopen 3).2 = some j ∧ r = .returned (.tuple #[.pointer (some ⟨jb, 0, none⟩), .int .i64 0]) ∧ Sep S w' (JB b (d.jopen 3).1.1 jb j) Rp) := by
  obtain ⟨P, hP, hB, back⟩ := h.base
  refine (n_open hB hE (fun i hi => hP i (h6 i hi)) 3 (by decide)).mono ?_
  intro r w' hno
  unfold NO at hno
  cases hx : (d.jopen 3).2 with
  | none =>
    rw [hx] at hno
    obtain ⟨rfl, h1, h2⟩ := hno
    obtain ⟨h3, h4⟩ := back w' (MB b (d.jopen 3).1.1) (gr_mine ..) h1 h2
    exact ⟨h4, Or.inl ⟨rfl, rfl, h3⟩⟩
  | some j =>
    rw [hx] at hno
    obtain ⟨jb, rfl, h1, h2⟩ := hno
    obtain ⟨h3, h4⟩ := back w' (JB b (d.jopen 3).1.1 jb j) (gr_jn ..) h1 h2
    exact ⟨h4, Or.inr ⟨jb, j, rfl, rfl, h3⟩⟩
theorem sep_ropen (h : Sep S w Bp (MR rb d)) :
    Calls Tryz.prog 12 #[.pointer (some ⟨rb, 0, none⟩), .int .i64 3] w fun r w' => Kept (fun i => ¬ S i) w w' ∧ (((d.jopen 3).2 = none ∧ r = .returned (.tuple #[.pointer none, .int .i64 (d.jopen 3).1.2]) ∧ Sep S w' Bp (MR rb (d.jopen 3).1.1)) ∨
      ∃ rj j, (d.jopen 3).2 = some j ∧ r = .returned (.tuple #[.pointer (some ⟨rj, 0, none⟩), .int .i64 0]) ∧ Sep S w' Bp (JR rb (d.jopen 3).1.1 rj j)) := by
  obtain ⟨P, hP, hB, back⟩ := h.ref
  refine (rm_open hB 3 (by decide)).mono ?_
  intro r w' hno
  unfold RO at hno
  cases hx : (d.jopen 3).2 with
  | none =>
    rw [hx] at hno
    obtain ⟨rfl, h1, h2⟩ := hno
    obtain ⟨h3, h4⟩ := back w' (MR rb (d.jopen 3).1.1) (gr_rm ..) h1 h2
    exact ⟨h4, Or.inl ⟨rfl, rfl, h3⟩⟩
  | some j =>
    rw [hx] at hno
    obtain ⟨rj, rfl, h1, h2⟩ := hno
    obtain ⟨h3, h4⟩ := back w' (JR rb (d.jopen 3).1.1 rj j) (gr_rn ..) h1 h2
    exact ⟨h4, Or.inr ⟨rj, j, rfl, rfl, h3⟩⟩

end Go.Proofs.YtanecondopbfhaaGreatDoor
