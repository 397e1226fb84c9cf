/- A calm disk: nothing goes wrong; what a journal on it does. -/
import Derived.Test.YtanecondopbfhaaGreatDoorJour3
namespace Go.Proofs.YtanecondopbfhaaGreatDoor

structure Dk.Calm (d : Dk) : Prop where
  down : d.down = false
  lost : d.lost = 0
  calls : d.calls = 0

theorem text_take {m : Img} {f n : Nat} (hn : n ≤ m.sz f) : (m.cut f n).text f = (m.text f).take n := by
  unfold Img.text Img.read
  have hs : (m.cut f n).sz f = n := if_pos rfl
  rw [hs, ← List.map_take, List.take_range, Nat.min_eq_left hn]
  refine List.map_congr_left fun i hi => ?_
  rw [List.mem_range] at hi
  exact if_neg (fun h => by omega)

theorem text_cut_other {m : Img} {f g n : Nat} (hg : g ≠ f) : (m.cut f n).text g = m.text g := by
  refine text_eq (if_neg hg) (fun p _ => ?_)
  exact if_neg (fun h => hg h.1)

theorem text_put_other {m : Img} {f g a : Nat} {t : List UInt8} (hg : g ≠ f) : (m.put f a t).text g = m.text g := by
  refine text_eq (if_neg hg) (fun p _ => ?_)
  exact if_neg (fun h => hg h.1)

theorem text_put_end {m : Img} {f : Nat} {t : List UInt8} : (m.put f (m.sz f) t).text f = m.text f ++ t := by
  unfold Img.text Img.read
  have hs : (m.put f (m.sz f) t).sz f = m.sz f + t.length := by
    show (if f = f then max (m.sz f) (m.sz f + t.length) else m.sz f) = _
    rw [if_pos rfl]; omega
  rw [hs, List.range_add, List.map_append, List.map_map]
  congr 1
  · refine List.map_congr_left fun i hi => ?_
    rw [List.mem_range] at hi
    exact if_neg (fun h => by omega)
  · refine List.ext_getElem (by simp) fun i h1 h2 => ?_
    rw [List.getElem_map, List.getElem_range]
    show (if f = f ∧ m.sz f ≤ 0 + (m.sz f + i) ∧ 0 + (m.sz f + i) < m.sz f + t.length then t.getD (0 + (m.sz f + i) - m.sz f) 0 else _) = _
    rw [if_pos ⟨rfl, by omega, by omega⟩, show 0 + (m.sz f + i) - m.sz f = i by omega, List.getD_eq_getElem?_getD, List.getElem?_eq_getElem h2]
    rfl

theorem calm_fin {d : Dk} (hc : d.calls = 0) (e : Int) : d.fin e = (d, e) := by
  unfold Dk.fin
  rw [if_pos (Or.inr hc)]

theorem calm_chk {d : Dk} (hc : d.down = false) {f : Nat} (hf : f < 16) : d.chk (f : Int) = 0 := by
  unfold Dk.chk
  rw [if_neg (by rw [hc]; simp), if_pos ⟨by omega, by omega⟩]

theorem calm_sync {d : Dk} (hc : d.Calm) {f : Nat} (hf : f < 16) : d.sync (f : Int) = (d.settle f, 0) := by
  unfold Dk.sync
  rw [if_pos ⟨calm_chk hc.down hf, by rw [hc.calls]; simp⟩]
  unfold Dk.syn
  rw [if_neg (by rw [hc.lost]; simp)]
  exact calm_fin (d := d.settle f) hc.calls 0

theorem calm_trunc {d : Dk} (hc : d.Calm) {f n : Nat} (hf : f < 16) (hn : n ≤ d.F.sz f) : d.truncate (f : Int) (n : Int) = (d.trim f n, 0) := by
  unfold Dk.truncate
  rw [if_pos ⟨calm_chk hc.down hf, by rw [hc.calls]; simp⟩]
  unfold Dk.tru
  simp only [Int.toNat_natCast]
  rw [if_neg (by omega)]
  exact calm_fin (d := d.trim f n) hc.calls 0

theorem calm_write {d : Dk} (hc : d.Calm) {f a : Nat} {s : List UInt8} (hf : f < 16) (hs : s ≠ []) (hl : a + s.length ≤ 16777216) : d.write (f : Int) (a : Int) s = (d.add f a s, 0) := by
  unfold Dk.write
  rw [if_pos (calm_chk hc.down hf)]
  unfold Dk.put
  simp only [Int.toNat_natCast]
  rw [if_neg (by omega), if_neg (by omega), if_neg hs]
  exact calm_fin (d := d.add f a s) hc.calls 0

theorem calm_read {d : Dk} (hc : d.Calm) {f n : Nat} (hf : f < 16) (hn : d.F.sz f ≤ n) : d.read (f : Int) 0 (n : Int) = (d.F.text f, 0) := by
  unfold Dk.read
  rw [if_neg (by rw [calm_chk hc.down hf]; simp), if_neg (by omega)]
  by_cases h0 : (0 : Int) ≥ d.F.sz (f : Int).toNat
  · have : d.F.sz f = 0 := by simp at h0; omega
    rw [if_pos h0]
    unfold Img.text Img.read
    rw [this]; rfl
  · rw [if_neg h0]
    simp only [Int.toNat_natCast, Int.toNat_zero, Nat.sub_zero]
    rw [Nat.min_eq_right hn]
    rfl

/-- A journal is opened. -/
theorem calm_open {d : Dk} (hk : d.Ok) (hc : d.Calm) {f : Nat} (hf : f < 16) :
    ∃ d', d.jopen f = ((d', 0), some ⟨f, recs (d.F.text f), false⟩) ∧ d'.Calm ∧ d'.F.text f = forms (recs (d.F.text f)) ∧ (∀ g, g ≠ f → d'.F.text g = d.F.text g) ∧ d'.R = d.R ∧ d'.Still f (forms (recs (d.F.text f))) := by
  have hs := hk.settle f
  have hc1 : (d.settle f).Calm := ⟨hc.down, hc.lost, hc.calls⟩
  have ha : (d.settle f).all f = (d.F.text f, 0) := all_eq hc1.down hf
  have st : (d.settle f).Still f (d.F.text f) := ⟨rfl, fun p => (hs.2.1 p).symm, hs.2.2.symm, fun n hm => by
    have := (List.mem_filter.1 hm).2
    simp at this⟩
  have hsh := (recs_shape (d.F.text f)).1
  have hrl := recs_len (d.F.text f)
  unfold Dk.jopen
  rw [calm_sync hc hf, if_neg (by simp)]
  simp only
  rw [ha, if_neg (by simp)]
  simp only
  unfold Dk.jcut
  by_cases hcut : (forms (recs (d.F.text f))).length < (d.F.text f).length
  · have hn : (forms (recs (d.F.text f))).length ≤ (d.settle f).F.sz f := by
      rw [Img.text_length] at hcut
      exact Nat.le_of_lt hcut
    rw [if_pos hcut, calm_trunc hc1 hf hn, if_neg (by simp)]
    have ht : ((d.settle f).trim f (forms (recs (d.F.text f))).length).F.text f = forms (recs (d.F.text f)) := by
      show ((d.settle f).F.cut f _).text f = _
      rw [text_take hn]
      show (d.F.text f).take _ = _
      exact (congrArg (List.take (forms (recs (d.F.text f))).length) hsh).trans List.take_left
    refine ⟨_, rfl, ⟨hc.down, hc.lost, hc.calls⟩, ht, fun g hg => text_cut_other hg, rfl, ⟨ht, ?_, ?_, ?_⟩⟩
    · intro p
      obtain ⟨_, hB, _⟩ := hs.1.settle f
      show (if f = f ∧ _ ≤ p then (0 : UInt8) else (d.settle f).F.B f p) = (if f = f ∧ _ ≤ p then (0 : UInt8) else ((d.settle f).settle f).D.B f p)
      rw [hB]
    · show (if f = f then _ else _) = (if f = f then _ else _)
      rw [if_pos rfl, if_pos rfl]
    · intro n hm
      have := (List.mem_filter.1 hm).2
      simp at this
  · have he : forms (recs (d.F.text f)) = d.F.text f := by
      have h1 := congrArg List.length hsh
      rw [List.length_append] at h1
      have h2 : (recsR (d.F.text f)).2.1 = [] := List.length_eq_zero_iff.1 (by omega)
      rw [h2, List.append_nil] at hsh
      exact hsh.symm
    rw [if_neg hcut, if_neg (by simp)]
    exact ⟨_, rfl, hc1, he.symm, fun g _ => rfl, rfl, by rw [he]; exact st⟩

theorem formL_ne (s : List UInt8) : formL s ≠ [] := fun e => by have := form_pos s; rw [e] at this; simp at this

theorem forms_snoc (L : List (List UInt8)) (s : List UInt8) : forms (L ++ [s]) = forms L ++ formL s := by rw [forms_append]; simp [forms]

/-- A record is appended. -/
theorem calm_append {d : Dk} (hc : d.Calm) {f : Nat} {L : List (List UInt8)} {s : List UInt8} (hf : f < 16) (ht : d.F.text f = forms L) (hs : s.length ≤ 20000) (hl : (forms L).length + (formL s).length ≤ 1048576) :
    ∃ d', d.jappend ⟨f, L, false⟩ s = ((d', 0), ⟨f, L ++ [s], false⟩) ∧ d'.Calm ∧ d'.F.text f = forms (L ++ [s]) ∧ (∀ g, g ≠ f → d'.F.text g = d.F.text g) ∧ d'.R = d.R + (formL s).length + 2 ∧ d'.D = d.D := by
  have hz : d.F.sz f = (forms L).length := by rw [← ht, Img.text_length]
  unfold Dk.jappend
  simp only
  rw [if_neg (by simp), if_neg (by omega), if_neg (by omega), calm_write hc hf (formL_ne s) (by omega), if_neg (by simp)]
  refine ⟨_, rfl, ⟨hc.down, hc.lost, hc.calls⟩, ?_, fun g hg => text_put_other hg, rfl, rfl⟩
  show (d.F.put f (forms L).length (formL s)).text f = _
  rw [← hz, text_put_end, ht, forms_snoc]

theorem form_len (s : List UInt8) (hs : s.length ≤ 20000) : (formL s).length ≤ s.length + 43 := by
  have h1 := Cod.itoa_len _ (Cod.isInt_len (n := s.length) (by omega))
  have h2 := Cod.intS_len _ (sum_isInt s (by omega))
  unfold formL Cod.textS Cod.numS
  rw [if_neg (by omega)]
  simp; omega

end Go.Proofs.YtanecondopbfhaaGreatDoor
