/- What always holds of the simulated disk is kept by all its calls. -/
import Derived.Test.YtanecondopbfhaaGreatDoorPure
namespace Go.Proofs.YtanecondopbfhaaGreatDoor

theorem Dk.Ok.with_ {d e : Dk} (h : d.Ok) (hF : e.F = d.F) (hD : e.D = d.D) (hq : e.q = d.q) : e.Ok := by
  refine ⟨?_, ?_, ?_, ?_, ?_, ?_, ?_, ?_⟩ <;> (try rw [hF]) <;> (try rw [hD]) <;> (try rw [hq])
  · exact h.zF
  · exact h.zD
  · exact h.le
  · exact h.np
  · exact h.pq
  · exact h.top
  · exact h.nd
  · exact h.mx

theorem Dk.Ok.add {d : Dk} (h : d.Ok) {f a : Nat} {s : List UInt8} (hf : f < 16) (hs : s ≠ []) (hm : a + s.length ≤ 16777216) : (d.add f a s).Ok := by
  have hl : 0 < s.length := by cases s with | nil => exact absurd rfl hs | cons => simp
  have eB : ∀ g p, (d.add f a s).F.B g p = if g = f ∧ a ≤ p ∧ p < a + s.length then s.getD (p - a) 0 else d.F.B g p := fun _ _ => rfl
  have eS : ∀ g, (d.add f a s).F.sz g = if g = f then max (d.F.sz g) (a + s.length) else d.F.sz g := fun _ => rfl
  have eD : (d.add f a s).D = d.D := rfl
  have eq : (d.add f a s).q = pend f (a / 64) (touch a s.length) d.q := rfl
  have le : ∀ g, d.F.sz g ≤ (d.add f a s).F.sz g := fun g => by rw [eS]; split <;> omega
  refine ⟨?_, ?_, ?_, ?_, ?_, ?_, ?_, ?_⟩
  · intro g p hp
    rw [eS] at hp
    rw [eB]
    by_cases hg : g = f
    · rw [if_pos hg] at hp
      rw [if_neg (by omega)]
      exact h.zF g p (by omega)
    · rw [if_neg hg] at hp
      rw [if_neg (by omega)]
      exact h.zF g p hp
  · rw [eD]; exact h.zD
  · intro g; rw [eD]; exact Nat.le_trans (h.le g) (le g)
  · intro g p hp
    rw [eq, pend_mem] at hp
    rw [eB, eD]
    by_cases hc : g = f ∧ a ≤ p ∧ p < a + s.length
    · exact absurd (Or.inr ⟨hc.1, by simp only; omega, by simp only [touch]; omega⟩) hp
    · rw [if_neg hc]
      exact h.np g p (fun hm => hp (Or.inl hm))
  · intro x hx
    rw [eq, pend_mem] at hx
    rcases hx with hx | ⟨h1, h2, h3⟩
    · have := h.pq x hx
      exact ⟨this.1, Nat.lt_of_lt_of_le this.2 (le _)⟩
    · rw [h1]
      refine ⟨hf, ?_⟩
      rw [eS, if_pos rfl]
      simp only [touch] at h3
      omega
  · intro g hg
    rw [eq, pend_mem]
    rw [eD] at hg
    by_cases e : g = f
    · subst e
      rw [eS, if_pos rfl] at hg ⊢
      by_cases hc : d.F.sz g < a + s.length
      · refine Or.inr ⟨rfl, ?_, ?_⟩
        · simp only; omega
        · simp only [touch]; omega
      · have e2 : max (d.F.sz g) (a + s.length) = d.F.sz g := by omega
        rw [e2] at hg ⊢
        exact Or.inl (h.top g hg)
    · rw [eS, if_neg e] at hg ⊢
      exact Or.inl (h.top g hg)
  · rw [eq]; exact pend_nodup _ _ _ _ h.nd
  · intro g
    rw [eS]
    have := h.mx g
    split <;> omega

theorem Dk.Ok.settle {d : Dk} (h : d.Ok) (f : Nat) : (d.settle f).Ok ∧ (∀ p, (d.settle f).D.B f p = d.F.B f p) ∧ (d.settle f).D.sz f = d.F.sz f := by
  have eB : ∀ p, (d.settle f).D.B f p = d.F.B f p := by
    intro p
    show (if f = f ∧ (f, p / 64) ∈ d.q then d.F.B f p else d.D.B f p) = _
    by_cases hc : (f, p / 64) ∈ d.q
    · rw [if_pos ⟨rfl, hc⟩]
    · rw [if_neg (fun hh => hc hh.2), h.np f p hc]
  have eS : (d.settle f).D.sz f = d.F.sz f := by
    show (if f = f then d.F.sz f else d.D.sz f) = _
    rw [if_pos rfl]
  have oB : ∀ g p, g ≠ f → (d.settle f).D.B g p = d.D.B g p := by
    intro g p hg
    show (if g = f ∧ (f, p / 64) ∈ d.q then d.F.B g p else d.D.B g p) = _
    rw [if_neg (fun hh => hg hh.1)]
  have oS : ∀ g, g ≠ f → (d.settle f).D.sz g = d.D.sz g := by
    intro g hg
    show (if g = f then d.F.sz g else d.D.sz g) = _
    rw [if_neg hg]
  have mq : ∀ x, x ∈ (d.settle f).q ↔ x ∈ d.q ∧ x.1 ≠ f := by
    intro x
    show x ∈ d.q.filter (fun x => x.1 != f) ↔ _
    simp
  have eF : (d.settle f).F = d.F := rfl
  refine ⟨⟨?_, ?_, ?_, ?_, ?_, ?_, ?_, ?_⟩, eB, eS⟩
  · rw [eF]; exact h.zF
  · intro g p hp
    by_cases e : g = f
    · subst e; rw [eB]; rw [eS] at hp; exact h.zF g p hp
    · rw [oB g p e]; rw [oS g e] at hp; exact h.zD g p hp
  · intro g
    rw [eF]
    by_cases e : g = f
    · subst e; rw [eS]; exact Nat.le_refl _
    · rw [oS g e]; exact h.le g
  · intro g p hp
    rw [eF]
    by_cases e : g = f
    · subst e; rw [eB]
    · rw [oB g p e]; exact h.np g p (fun hm => hp ((mq _).2 ⟨hm, e⟩))
  · intro x hx
    rw [eF]; exact h.pq x ((mq x).1 hx).1
  · intro g hg
    rw [eF] at hg ⊢
    by_cases e : g = f
    · subst e; rw [eS] at hg; omega
    · rw [oS g e] at hg; exact (mq _).2 ⟨h.top g hg, e⟩
  · exact h.nd.filter _
  · rw [eF]; exact h.mx

theorem Dk.Ok.trim {d : Dk} (h : d.Ok) {f n : Nat} (hn : n ≤ d.F.sz f) : (d.trim f n).Ok := by
  obtain ⟨h1, hB, hS⟩ := h.settle f
  have eFB : ∀ g p, (d.trim f n).F.B g p = if g = f ∧ n ≤ p then 0 else d.F.B g p := fun _ _ => rfl
  have eFS : ∀ g, (d.trim f n).F.sz g = if g = f then n else d.F.sz g := fun _ => rfl
  have eDB : ∀ g p, (d.trim f n).D.B g p = if g = f ∧ n ≤ p then 0 else (d.settle f).D.B g p := fun _ _ => rfl
  have eDS : ∀ g, (d.trim f n).D.sz g = if g = f then n else (d.settle f).D.sz g := fun _ => rfl
  have mq : ∀ x, x ∈ (d.settle f).q ↔ x ∈ d.q ∧ x.1 ≠ f := by
    intro x
    show x ∈ d.q.filter (fun x => x.1 != f) ↔ _
    simp
  have eq : (d.trim f n).q = (d.settle f).q := rfl
  refine ⟨?_, ?_, ?_, ?_, ?_, ?_, ?_, ?_⟩
  · intro g p hp
    rw [eFS] at hp
    rw [eFB]
    split
    · rfl
    · rename_i hc
      by_cases e : g = f
      · rw [if_pos e] at hp; exact absurd ⟨e, hp⟩ hc
      · rw [if_neg e] at hp; exact h.zF g p hp
  · intro g p hp
    rw [eDS] at hp
    rw [eDB]
    split
    · rfl
    · rename_i hc
      by_cases e : g = f
      · rw [if_pos e] at hp; exact absurd ⟨e, hp⟩ hc
      · rw [if_neg e] at hp; exact h1.zD g p hp
  · intro g
    rw [eDS, eFS]
    split
    · exact Nat.le_refl _
    · exact h1.le g
  · intro g p hp
    rw [eFB, eDB]
    split
    · rfl
    · exact h1.np g p hp
  · intro x hx
    rw [eq] at hx
    have := h1.pq x hx
    rw [eFS, if_neg ((mq x).1 hx).2]
    exact this
  · intro g hg
    rw [eDS, eFS] at hg
    by_cases e : g = f
    · rw [if_pos e, if_pos e] at hg; omega
    · rw [if_neg e, if_neg e] at hg
      rw [eFS, if_neg e, eq]
      exact h1.top g hg
  · exact h1.nd
  · intro g
    rw [eFS]
    split
    · rename_i e; subst e; exact Nat.le_trans hn (h.mx _)
    · exact h.mx g

theorem Dk.Ok.crash {d : Dk} (h : d.Ok) (keep : List Int) : (d.crash keep).Ok := by
  rw [Dk.crash]
  split
  · exact h
  · have hs := lives_sub keep d.q 0
    obtain ⟨e1, e2, _⟩ := live_F d (lives keep 0 d.q)
    have zD : ∀ g p, ((lives keep 0 d.q).foldl Dk.live d).D.sz g ≤ p → ((lives keep 0 d.q).foldl Dk.live d).D.B g p = 0 := by
      intro g p hp
      obtain ⟨h1, h2, h3, h4⟩ := live_sz g (lives keep 0 d.q) d
      rw [live_B]
      by_cases hc : (g, p / 64) ∈ lives keep 0 d.q
      · rw [if_pos hc]
        have := h3 _ hc
        exact h.zF g p (by omega)
      · rw [if_neg hc]; exact h.zD g p (by omega)
    refine ⟨zD, zD, fun _ => Nat.le_refl _, fun _ _ _ => rfl, by simp, fun g hg => absurd hg (Nat.lt_irrefl _), by simp, ?_⟩
    intro g
    exact Nat.le_trans ((live_sz g (lives keep 0 d.q) d).2.1 (h.le g)) (h.mx g)

theorem Dk.Ok.fin {d : Dk} (h : d.Ok) (e : Int) : (d.fin e).1.Ok := by
  rw [Dk.fin]
  split
  · exact h
  · split
    · exact Dk.Ok.crash (d := { d with calls := 0 }) (h.with_ rfl rfl rfl) _
    · exact h.with_ rfl rfl rfl

theorem Dk.chk_ok {d : Dk} {f : Int} (h : d.chk f = 0) : 0 ≤ f ∧ f < 16 ∧ d.down = false := by
  rw [Dk.chk] at h
  split at h
  · exact absurd h (by decide)
  · rename_i hd
    split at h
    · rename_i hf
      exact ⟨hf.1, hf.2, by simpa using hd⟩
    · exact absurd h (by decide)

theorem Dk.Ok.put {d : Dk} (h : d.Ok) {f : Nat} (hf : f < 16) (a : Int) (s : List UInt8) : (d.put f a s).1.Ok := by
  rw [Dk.put]
  split
  · exact h
  · split
    · exact h
    · split
      · exact h
      · rename_i h1 h2 h3
        exact Dk.Ok.add h hf h3 (by omega)

theorem Dk.Ok.write {d : Dk} (h : d.Ok) (f a : Int) (s : List UInt8) : (d.write f a s).1.Ok := by
  rw [Dk.write]
  split
  · rename_i hc
    have := Dk.chk_ok hc
    exact Dk.Ok.fin (Dk.Ok.put h (by omega) a s) _
  · exact h.fin _

theorem Dk.Ok.sync {d : Dk} (h : d.Ok) (f : Int) : (d.sync f).1.Ok := by
  rw [Dk.sync]
  split
  · refine Dk.Ok.fin ?_ _
    rw [Dk.syn]
    split
    · exact h.with_ rfl rfl rfl
    · exact (h.settle _).1
  · exact h.fin _

theorem Dk.Ok.truncate {d : Dk} (h : d.Ok) (f n : Int) : (d.truncate f n).1.Ok := by
  rw [Dk.truncate]
  split
  · refine Dk.Ok.fin ?_ _
    rw [Dk.tru]
    split
    · exact h
    · exact Dk.Ok.trim h (by omega)
  · exact h.fin _

theorem Dk.Ok.lose {d : Dk} (h : d.Ok) (n : Int) : (d.lose n).Ok := h.with_ rfl rfl rfl
theorem Dk.Ok.arm {d : Dk} (h : d.Ok) (n : Int) (k : List Int) : (d.arm n k).Ok := h.with_ rfl rfl rfl
theorem Dk.Ok.start {d : Dk} (h : d.Ok) : d.start.Ok := h.with_ rfl rfl rfl

end Go.Proofs.YtanecondopbfhaaGreatDoor
