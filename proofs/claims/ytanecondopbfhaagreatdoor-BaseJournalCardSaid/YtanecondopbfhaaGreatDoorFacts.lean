/- What crashes leave of a file: facts about the disk as plain functions. -/
import Derived.Test.YtanecondopbfhaaGreatDoorOk
namespace Go.Proofs.YtanecondopbfhaaGreatDoor

/-- What a crash leaves. -/
def Dk.left (d : Dk) (keep : List Int) : Img := ((lives keep 0 d.q).foldl Dk.live d).D

theorem crash_F {d : Dk} (hd : d.down = false) (keep : List Int) : (d.crash keep).F = d.left keep := by
  rw [Dk.crash, if_neg (by simp [hd])]; rfl

theorem left_B (d : Dk) (keep : List Int) (f p : Nat) : (d.left keep).B f p = if (f, p / 64) ∈ lives keep 0 d.q then d.F.B f p else d.D.B f p := live_B f p _ d

theorem left_all {d : Dk} (h : d.Ok) (f : Nat) : (d.left [1]).sz f = d.F.sz f ∧ ∀ p, (d.left [1]).B f p = d.F.B f p := by
  constructor
  · obtain ⟨h1, h2, h3, h4⟩ := live_sz f (lives [1] 0 d.q) d
    have h2' := h2 (h.le f)
    show ((lives [1] 0 d.q).foldl Dk.live d).D.sz f = _
    by_cases e : d.D.sz f < d.F.sz f
    · have := h3 ((d.F.sz f - 1) / 64) (by rw [lives_all]; exact h.top f e)
      omega
    · have := h.le f; omega
  · intro p
    rw [left_B, lives_all]
    split
    · rfl
    · rename_i hc; rw [h.np f p hc]

theorem left_none (d : Dk) : d.left [] = d.D := by
  show ((lives [] 0 d.q).foldl Dk.live d).D = _
  rw [lives_none]; rfl

theorem left_sz {d : Dk} (h : d.Ok) (keep : List Int) (f : Nat) : d.D.sz f ≤ (d.left keep).sz f ∧ (d.left keep).sz f ≤ d.F.sz f := by
  obtain ⟨h1, h2, h3, h4⟩ := live_sz f (lives keep 0 d.q) d
  exact ⟨h1, h2 (h.le f)⟩

/-- Each sector that is left is new or old. -/
theorem left_sector (d : Dk) (keep : List Int) (f n : Nat) : (∀ p, p / 64 = n → (d.left keep).B f p = d.F.B f p) ∨ (∀ p, p / 64 = n → (d.left keep).B f p = d.D.B f p) := by
  by_cases h : (f, n) ∈ lives keep 0 d.q
  · exact Or.inl fun p hp => by rw [left_B, hp, if_pos h]
  · exact Or.inr fun p hp => by rw [left_B, hp, if_neg h]

/-! ### a file that is durable -/

/-- The file f has the text t, and all of it is durable. -/
structure Dk.Still (d : Dk) (f : Nat) (t : List UInt8) : Prop where
  text : d.F.text f = t
  same : ∀ p, d.F.B f p = d.D.B f p
  size : d.F.sz f = d.D.sz f
  none : ∀ n, (f, n) ∉ d.q

theorem text_eq {a b : Img} {f g : Nat} (hs : a.sz f = b.sz g) (hB : ∀ p, p < b.sz g → a.B f p = b.B g p) : a.text f = b.text g := by
  unfold Img.text Img.read
  rw [hs]
  refine List.map_congr_left ?_
  intro i hi
  rw [List.mem_range] at hi
  rw [Nat.zero_add]
  exact hB i hi

theorem Dk.Still.with_ {d e : Dk} {f : Nat} {t : List UInt8} (h : d.Still f t) (hF : e.F = d.F) (hD : e.D = d.D) (hq : e.q = d.q) : e.Still f t :=
  ⟨by rw [hF]; exact h.text, by rw [hF, hD]; exact h.same, by rw [hF, hD]; exact h.size, by rw [hq]; exact h.none⟩

theorem Dk.Still.crash {d : Dk} {f : Nat} {t : List UInt8} (h : d.Still f t) (hk : d.Ok) (keep : List Int) : (d.crash keep).Still f t := by
  rw [Dk.crash]
  split
  · exact h
  · have hz := left_sz hk keep f
    have e : ∀ p, (d.left keep).B f p = d.F.B f p := by
      intro p
      rw [left_B]
      split
      · rfl
      · exact (h.same p).symm
    have hs : (d.left keep).sz f = d.F.sz f := by have := h.size; omega
    refine ⟨?_, fun _ => rfl, rfl, by simp⟩
    rw [← h.text]
    exact text_eq hs (fun p _ => e p)

theorem Dk.Still.fin {d : Dk} {f : Nat} {t : List UInt8} (h : d.Still f t) (hk : d.Ok) (e : Int) : (d.fin e).1.Still f t := by
  rw [Dk.fin]
  split
  · exact h
  · split
    · exact Dk.Still.crash (d := { d with calls := 0 }) (h.with_ rfl rfl rfl) (hk.with_ rfl rfl rfl) _
    · exact h.with_ rfl rfl rfl

theorem Dk.Still.add {d : Dk} {f g : Nat} {t : List UInt8} (h : d.Still f t) (hne : f ≠ g) (a : Nat) (s : List UInt8) : (d.add g a s).Still f t := by
  have eB : ∀ p, (d.add g a s).F.B f p = d.F.B f p := by
    intro p
    show (if f = g ∧ a ≤ p ∧ p < a + s.length then s.getD (p - a) 0 else d.F.B f p) = _
    rw [if_neg (fun hh => hne hh.1)]
  have eS : (d.add g a s).F.sz f = d.F.sz f := by
    show (if f = g then max (d.F.sz f) (a + s.length) else d.F.sz f) = _
    rw [if_neg hne]
  refine ⟨?_, ?_, ?_, ?_⟩
  · rw [← h.text]; exact text_eq eS (fun p _ => eB p)
  · intro p; rw [eB]; exact h.same p
  · rw [eS]; exact h.size
  · intro n hm
    have hm' : (f, n) ∈ pend g (a / 64) (touch a s.length) d.q := hm
    rw [pend_mem] at hm'
    rcases hm' with hm' | hm'
    · exact h.none n hm'
    · exact hne hm'.1

theorem Dk.Still.settle {d : Dk} {f g : Nat} {t : List UInt8} (h : d.Still f t) (hne : f ≠ g) : (d.settle g).Still f t := by
  have eB : ∀ p, (d.settle g).D.B f p = d.D.B f p := by
    intro p
    show (if f = g ∧ (g, p / 64) ∈ d.q then d.F.B f p else d.D.B f p) = _
    rw [if_neg (fun hh => hne hh.1)]
  have eS : (d.settle g).D.sz f = d.D.sz f := by
    show (if f = g then d.F.sz f else d.D.sz f) = _
    rw [if_neg hne]
  refine ⟨h.text, ?_, ?_, ?_⟩
  · intro p; rw [eB]; exact h.same p
  · rw [eS]; exact h.size
  · intro n hm
    exact h.none n (List.mem_filter.1 hm).1

theorem Dk.Still.trim {d : Dk} {f g : Nat} {t : List UInt8} (h : d.Still f t) (hne : f ≠ g) (n : Nat) : (d.trim g n).Still f t := by
  have h' := h.settle hne
  have eB : ∀ p, (d.trim g n).F.B f p = d.F.B f p := by
    intro p
    show (if f = g ∧ n ≤ p then 0 else d.F.B f p) = _
    rw [if_neg (fun hh => hne hh.1)]
  have eS : (d.trim g n).F.sz f = d.F.sz f := by
    show (if f = g then n else d.F.sz f) = _
    rw [if_neg hne]
  have oB : ∀ p, (d.trim g n).D.B f p = (d.settle g).D.B f p := by
    intro p
    show (if f = g ∧ n ≤ p then 0 else (d.settle g).D.B f p) = _
    rw [if_neg (fun hh => hne hh.1)]
  have oS : (d.trim g n).D.sz f = (d.settle g).D.sz f := by
    show (if f = g then n else (d.settle g).D.sz f) = _
    rw [if_neg hne]
  refine ⟨?_, ?_, ?_, h'.none⟩
  · rw [← h.text]; exact text_eq eS (fun p _ => eB p)
  · intro p; rw [eB, oB]; exact h'.same p
  · rw [eS, oS]; exact h'.size

theorem Dk.Still.write {d : Dk} {f : Nat} {t : List UInt8} (h : d.Still f t) (hk : d.Ok) {g : Int} (hne : g ≠ f) (a : Int) (s : List UInt8) : (d.write g a s).1.Still f t := by
  rw [Dk.write]
  split
  · rename_i hc
    have hg := Dk.chk_ok hc
    refine Dk.Still.fin ?_ (hk.put (by omega) a s) _
    rw [Dk.put]
    split
    · exact h
    · split
      · exact h
      · split
        · exact h
        · exact h.add (by omega) _ _
  · exact h.fin hk _

theorem Dk.Ok.syn {d : Dk} (h : d.Ok) (f : Nat) : (d.syn f).1.Ok := by
  rw [Dk.syn]
  split
  · exact h.with_ rfl rfl rfl
  · exact (h.settle _).1

theorem Dk.Ok.tru {d : Dk} (h : d.Ok) (f : Nat) (n : Int) : (d.tru f n).1.Ok := by
  rw [Dk.tru]
  split
  · exact h
  · exact Dk.Ok.trim h (by omega)

theorem Dk.Still.sync {d : Dk} {f : Nat} {t : List UInt8} (h : d.Still f t) (hk : d.Ok) {g : Int} (hne : g ≠ f) : (d.sync g).1.Still f t := by
  rw [Dk.sync]
  split
  · rename_i hc
    have hg := Dk.chk_ok hc.1
    refine Dk.Still.fin ?_ (hk.syn _) _
    rw [Dk.syn]
    split
    · exact h.with_ rfl rfl rfl
    · exact h.settle (by omega)
  · exact h.fin hk _

theorem Dk.Still.truncate {d : Dk} {f : Nat} {t : List UInt8} (h : d.Still f t) (hk : d.Ok) {g : Int} (hne : g ≠ f) (n : Int) : (d.truncate g n).1.Still f t := by
  rw [Dk.truncate]
  split
  · rename_i hc
    have hg := Dk.chk_ok hc.1
    refine Dk.Still.fin ?_ (hk.tru _ n) _
    rw [Dk.tru]
    split
    · exact h
    · exact h.trim (by omega) _
  · exact h.fin hk _

theorem n80 : ¬ (8 : Int) = 0 := by decide
theorem n90 : ¬ (9 : Int) = 0 := by decide

/-- What was synced is durable. -/
theorem Dk.sync_still {d : Dk} (hk : d.Ok) {f : Int} (h : (d.sync f).2 = 0) : 0 ≤ f ∧ f < 16 ∧ d.down = false ∧ (d.sync f).1.Still f.toNat (d.F.text f.toNat) ∧ (d.sync f).1.down = false := by
  have nz : ∀ e : Int, (d.fin e).2 = 0 → e = 0 := by
    intro e he
    rw [Dk.fin] at he
    split at he
    · exact he
    · split at he
      · exact absurd he n80
      · exact he
  rw [Dk.sync] at h
  split at h
  · rename_i hc
    have hg := Dk.chk_ok hc.1
    rw [Dk.sync, if_pos hc]
    rw [Dk.syn] at h ⊢
    by_cases hl : 0 < d.lost
    · rw [if_pos hl] at h
      rw [Dk.fin] at h
      split at h
      · exact absurd h n90
      · split at h
        · exact absurd h n80
        · exact absurd h n90
    · rw [if_neg hl] at h ⊢
      obtain ⟨h1, h2, h3⟩ := hk.settle f.toNat
      have st : (d.settle f.toNat).Still f.toNat (d.F.text f.toNat) := ⟨rfl, fun p => (h2 p).symm, h3.symm, fun n hm => by
        have := (List.mem_filter.1 hm).2
        simp at this⟩
      refine ⟨hg.1, hg.2.1, hg.2.2, st.fin h1 _, ?_⟩
      rw [Dk.fin] at h ⊢
      have ec : (d.settle f.toNat).calls = d.calls := rfl
      have ed : (d.settle f.toNat).down = d.down := rfl
      by_cases h5 : (d.settle f.toNat).down = true ∨ (d.settle f.toNat).calls = 0
      · rw [if_pos h5]; show (d.settle f.toNat).down = false; rw [ed]; exact hg.2.2
      · rw [if_neg h5] at h ⊢
        by_cases h6 : (d.settle f.toNat).calls = 1
        · rw [if_pos h6] at h; exact absurd h n80
        · rw [if_neg h6]; exact hg.2.2
  · rename_i hc
    have h0 := nz _ h
    have h1 : d.calls = 1 := Classical.byContradiction fun hn => hc ⟨h0, hn⟩
    have hg := Dk.chk_ok h0
    rw [Dk.fin, if_neg (by rw [h1, hg.2.2]; simp), if_pos h1] at h
    exact absurd h n80

end Go.Proofs.YtanecondopbfhaaGreatDoor
