/- A journal on a disk that fails: appending and syncing in plain terms. -/
import Derived.Test.YtanecondopbfhaaGreatDoorGood2
namespace Go.Proofs.YtanecondopbfhaaGreatDoor

/-- An open journal, what its file holds (A), and how much of that is sure. -/
structure Live (d : Dk) (f : Nat) (j : Jr) (A : List (List UInt8)) (k : Nat) : Prop where
  good : Good d f A k
  small : ∀ u ∈ A, u.length ≤ 20000
  file : j.file = f
  ok : j.broken = false → d.down = false ∧ d.F.text f = forms j.L ∧ A = j.L

theorem Live.with_ {d e : Dk} {f : Nat} {j : Jr} {A : List (List UInt8)} {k : Nat} (h : Live d f j A k) (hF : e.F = d.F) (hD : e.D = d.D) (hd : e.down = d.down) : Live e f j A k :=
  ⟨h.good.with_ hF hD, h.small, h.file, fun hb => by rw [hd, hF]; exact h.ok hb⟩

theorem append_good {d : Dk} (hk : d.Ok) {f : Nat} (hf : f < 16) {j : Jr} {A : List (List UInt8)} {k : Nat} (h : Live d f j A k) {s : List UInt8} (hs : s.length ≤ 20000) (hl : (forms A).length + (formL s).length ≤ 1048576) :
    (((d.jappend j s).1.2 = 0 ∧ Live (d.jappend j s).1.1 f (d.jappend j s).2 (A ++ [s]) k ∧ (d.jappend j s).2.L = j.L ++ [s]) ∨
      (((d.jappend j s).1.2 = 8 ∨ (d.jappend j s).1.2 = 9) ∧ Live (d.jappend j s).1.1 f (d.jappend j s).2 (A ++ [s]) k ∧ (d.jappend j s).2.L = j.L) ∨
      ((d.jappend j s).1.2 = 7 ∧ Live (d.jappend j s).1.1 f (d.jappend j s).2 A k ∧ (d.jappend j s).2.L = j.L)) ∧ (d.jappend j s).1.1.R ≤ d.R + (formL s).length + 2 := by
  have hsm : ∀ u ∈ A ++ [s], u.length ≤ 20000 := by
    intro u hu
    rcases List.mem_append.1 hu with hu | hu
    · exact h.small u hu
    · simp at hu; rw [hu]; exact hs
  by_cases hb : j.broken = true
  · have e : d.jappend j s = ((d, 7), j) := by unfold Dk.jappend; rw [if_pos hb]
    rw [e]
    exact ⟨Or.inr (Or.inr ⟨rfl, h, rfl⟩), by show d.R ≤ _; omega⟩
  · have hb2 : j.broken = false := by simpa using hb
    obtain ⟨hd, ht, hA⟩ := h.ok hb2
    subst hA
    have hfi := h.file
    have hw : d.write j.file ((forms j.L).length : Nat) (formL s) = (d.add f (forms j.L).length (formL s)).fin 0 := by
      rw [hfi]
      unfold Dk.write
      rw [if_pos (calm_chk hd hf)]
      unfold Dk.put
      simp only [Int.toNat_natCast]
      rw [if_neg (by omega), if_neg (by omega), if_neg (formL_ne s)]
    have hga := h.good.add hk ht s
    have hoa : (d.add f (forms j.L).length (formL s)).Ok := hk.add hf (formL_ne s) (by omega)
    have e : d.jappend j s = if (d.write j.file ((forms j.L).length : Nat) (formL s)).2 ≠ 0 then (d.write j.file ((forms j.L).length : Nat) (formL s), ⟨j.file, j.L, true⟩) else (d.write j.file ((forms j.L).length : Nat) (formL s), ⟨j.file, j.L ++ [s], false⟩) := by
      unfold Dk.jappend
      rw [if_neg hb, if_neg (by omega), if_neg (by omega)]
    rw [hw] at e
    by_cases h1 : d.calls = 1
    · have h8 := fin_one (d := d.add f (forms j.L).length (formL s)) hd h1 0
      rw [if_pos (by rw [h8]; decide)] at e
      rw [e]
      exact ⟨Or.inr (Or.inl ⟨Or.inl h8, ⟨hga.fin hoa _, hsm, hfi, fun hh => absurd hh (by simp)⟩, rfl⟩), Nat.le_of_eq (fin_R _ _)⟩
    · obtain ⟨c, hc, -⟩ := fin_ok (d := d.add f (forms j.L).length (formL s)) hd h1 0
      rw [hc, if_neg (by simp)] at e
      rw [e]
      refine ⟨Or.inl ⟨rfl, ⟨hga.with_ rfl rfl, hsm, hfi, fun _ => ⟨hd, ?_, rfl⟩⟩, rfl⟩, Nat.le_refl _⟩
      have hz : d.F.sz f = (forms j.L).length := by rw [← ht, Img.text_length]
      show (d.F.put f (forms j.L).length (formL s)).text f = _
      rw [← hz, text_put_end, ht, forms_snoc]

theorem sync_R (d : Dk) (f : Int) : (d.sync f).1.R = d.R := by
  unfold Dk.sync
  split
  · rw [fin_R]
    unfold Dk.syn
    split <;> rfl
  · exact fin_R _ _

theorem sync_good {d : Dk} (hk : d.Ok) {f : Nat} (hf : f < 16) {j : Jr} {A : List (List UInt8)} {k : Nat} (h : Live d f j A k) :
    (((d.jsync j).1.2 = 0 ∧ A = j.L ∧ Live (d.jsync j).1.1 f (d.jsync j).2 A A.length ∧ (d.jsync j).2.L = j.L) ∨
      ((d.jsync j).1.2 ≠ 0 ∧ Live (d.jsync j).1.1 f (d.jsync j).2 A k ∧ (d.jsync j).2.L = j.L)) ∧ (d.jsync j).1.1.R = d.R := by
  by_cases hb : j.broken = true
  · have e : d.jsync j = ((d, 7), j) := by unfold Dk.jsync; rw [if_pos hb]
    rw [e]
    exact ⟨Or.inr ⟨show (7 : Int) ≠ 0 by decide, h, rfl⟩, rfl⟩
  · have hb2 : j.broken = false := by simpa using hb
    obtain ⟨hd, ht, hA⟩ := h.ok hb2
    have hfi := h.file
    have e : d.jsync j = (d.sync f, ⟨f, j.L, (d.sync f).2 != 0⟩) := by unfold Dk.jsync; rw [if_neg hb, hfi]
    rw [e]
    refine ⟨?_, sync_R _ _⟩
    rcases sync_cases hk hd hf h.good with ⟨he, hg, -⟩ | ⟨c, hs, -⟩
    · refine Or.inr ⟨?_, ⟨hg, h.small, rfl, fun hh => ?_⟩, rfl⟩
      · show (d.sync f).2 ≠ 0
        rcases he with e | e <;> rw [e] <;> decide
      · rcases he with e | e <;> (simp only at hh; rw [e] at hh; exact absurd hh (by decide))
    · obtain ⟨st, ok1⟩ := settle_still hk f c
      rw [hs]
      rw [ht, ← hA] at st
      exact Or.inl ⟨rfl, hA, ⟨good_all ok1 st, h.small, rfl, fun _ => ⟨hd, by rw [← hA]; exact st.text, hA⟩⟩, rfl⟩

/-- Behind a crash, or while the machine is down. -/
structure Dead (d : Dk) (f : Nat) (A : List (List UInt8)) (k : Nat) : Prop where
  good : Good d f A k
  small : ∀ u ∈ A, u.length ≤ 20000

theorem good_new (f : Nat) : Good Dk.new f [] 0 :=
  ⟨Nat.le_refl _, fun _ => Or.inr rfl, fun _ => Or.inr rfl, Nat.le_refl _, fun p hp => absurd hp (by simp [forms]), fun p hp => absurd hp (by simp [forms]), Nat.le_refl _⟩

end Go.Proofs.YtanecondopbfhaaGreatDoor
