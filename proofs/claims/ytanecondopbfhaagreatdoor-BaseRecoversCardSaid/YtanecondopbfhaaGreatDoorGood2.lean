/- A journal on a disk that fails: opening, appending, syncing in plain terms. -/
import Derived.Test.YtanecondopbfhaaGreatDoorGood
namespace Go.Proofs.YtanecondopbfhaaGreatDoor

theorem fin_ok {d : Dk} (hd : d.down = false) (hc : d.calls ≠ 1) (e : Int) : ∃ c, d.fin e = ({ d with calls := c }, e) ∧ (d.calls = 0 → c = 0) := by
  unfold Dk.fin
  by_cases h0 : d.calls = 0
  · rw [if_pos (Or.inr h0)]
    exact ⟨d.calls, rfl, fun h => h⟩
  · rw [if_neg (by rw [hd]; simp [h0]), if_neg hc]
    exact ⟨d.calls - 1, rfl, fun h => absurd h h0⟩

theorem fin_one {d : Dk} (hd : d.down = false) (hc : d.calls = 1) (e : Int) : (d.fin e).2 = 8 := by
  unfold Dk.fin
  rw [if_neg (by rw [hd, hc]; simp), if_pos hc]

theorem crash_R (d : Dk) (keep : List Int) : (d.crash keep).R = d.R := by
  rw [Dk.crash]
  split
  · rfl
  · exact (live_F d _).2.2.1

theorem fin_R (d : Dk) (e : Int) : (d.fin e).1.R = d.R := by
  unfold Dk.fin
  split
  · rfl
  · split
    · exact crash_R _ _
    · rfl

/-- A sync: it fails, or all is durable. -/
theorem sync_cases {d : Dk} (hk : d.Ok) (hd : d.down = false) {f : Nat} (hf : f < 16) {A : List (List UInt8)} {k : Nat} (h : Good d f A k) :
    (((d.sync f).2 = 8 ∨ (d.sync f).2 = 9) ∧ Good (d.sync f).1 f A k ∧ ¬ (d.lost = 0 ∧ d.calls = 0)) ∨ ∃ c, d.sync f = ({ d.settle f with calls := c }, 0) ∧ (d.calls = 0 → c = 0) := by
  have hc := calm_chk hd hf
  by_cases h1 : d.calls = 1
  · have e : d.sync f = d.fin (d.chk f) := by unfold Dk.sync; rw [if_neg (fun hh => hh.2 h1)]
    rw [e]
    exact Or.inl ⟨Or.inl (fin_one hd h1 _), h.fin hk _, fun hh => by omega⟩
  · have e : d.sync f = (d.syn f).1.fin (d.syn f).2 := by unfold Dk.sync; rw [if_pos ⟨hc, h1⟩]; rfl
    by_cases hl : 0 < d.lost
    · have e2 : d.syn f = ({ d with lost := d.lost - 1 }, 9) := by unfold Dk.syn; rw [if_pos hl]
      rw [e2] at e
      obtain ⟨c, hc2, -⟩ := fin_ok (d := { d with lost := d.lost - 1 }) hd h1 9
      rw [e, hc2]
      exact Or.inl ⟨Or.inr rfl, h.with_ rfl rfl, fun hh => by omega⟩
    · have e2 : d.syn f = (d.settle f, 0) := by unfold Dk.syn; rw [if_neg hl]
      rw [e2] at e
      obtain ⟨c, hc2, hc3⟩ := fin_ok (d := d.settle f) hd h1 0
      exact Or.inr ⟨c, e.trans hc2, hc3⟩

theorem settle_still {d : Dk} (hk : d.Ok) (f : Nat) (c : Nat) : ({ d.settle f with calls := c } : Dk).Still f (d.F.text f) ∧ ({ d.settle f with calls := c } : Dk).Ok := by
  have hs := hk.settle f
  refine ⟨⟨rfl, fun p => (hs.2.1 p).symm, hs.2.2.symm, fun n hm => ?_⟩, hs.1.with_ rfl rfl rfl⟩
  have := (List.mem_filter.1 hm).2
  simp at this

theorem trim_still {d : Dk} (hk : d.Ok) {f n : Nat} (hn : n ≤ d.F.sz f) (c : Nat) : ({ d.trim f n with calls := c } : Dk).Still f ((d.F.text f).take n) ∧ ({ d.trim f n with calls := c } : Dk).Ok := by
  refine ⟨⟨text_take hn, fun p => ?_, ?_, fun k hm => ?_⟩, (hk.trim hn).with_ rfl rfl rfl⟩
  · obtain ⟨_, hB, _⟩ := hk.settle f
    show (if f = f ∧ n ≤ p then (0 : UInt8) else d.F.B f p) = (if f = f ∧ n ≤ p then (0 : UInt8) else (d.settle f).D.B f p)
    rw [hB]
  · show (if f = f then _ else _) = (if f = f then _ else _)
    rw [if_pos rfl, if_pos rfl]
  · have := (List.mem_filter.1 hm).2
    simp at this

/-- A journal is opened. -/
theorem open_good {d : Dk} (hk : d.Ok) (hd : d.down = false) {f : Nat} (hf : f < 16) {A : List (List UInt8)} {k : Nat} (h : Good d f A k) (hA : ∀ u ∈ A, u.length ≤ 20000) :
    (∃ d' e, d.jopen f = ((d', e), none) ∧ (e = 8 ∨ e = 9) ∧ Good d' f A k ∧ d'.R = d.R ∧ ¬ (d.lost = 0 ∧ d.calls = 0)) ∨
    ∃ d' m, d.jopen f = ((d', 0), some ⟨f, A.take m, false⟩) ∧ k ≤ m ∧ m ≤ A.length ∧ Good d' f (A.take m) (A.take m).length ∧ d'.down = false ∧ d'.F.text f = forms (A.take m) ∧ d'.R = d.R := by
  rcases sync_cases hk hd hf h with ⟨he, hg, hn⟩ | ⟨c, hs, hc0⟩
  · refine Or.inl ⟨(d.sync f).1, (d.sync f).2, ?_, he, hg, ?_, hn⟩
    · unfold Dk.jopen
      rw [if_pos (by rcases he with e | e <;> rw [e] <;> decide)]
    · unfold Dk.sync
      split
      · rw [fin_R]
        unfold Dk.syn
        split <;> rfl
      · exact fin_R _ _
  · obtain ⟨st, ok1⟩ := settle_still hk f c
    obtain ⟨d1, hd1⟩ : ∃ d1 : Dk, d1 = { d.settle f with calls := c } := ⟨_, rfl⟩
    rw [← hd1] at hs st ok1
    have hdn : d1.down = false := by rw [hd1]; exact hd
    have hR1 : d1.R = d.R := by rw [hd1]; rfl
    have hF1 : d1.F = d.F := by rw [hd1]; rfl
    have hg1 : Good d1 f A k := by rw [hd1]; exact (h.settle hk).with_ rfl rfl
    have hcl : d1.calls = c := by rw [hd1]
    have hlo : d1.lost = d.lost := by rw [hd1]; rfl
    obtain ⟨m, hm1, hm2, hrec⟩ := h.read hk hA
    have ha : d1.all f = (d.F.text f, 0) := by rw [all_eq hdn hf, hF1]
    have hsh := (recs_shape (d.F.text f)).1
    rw [hrec] at hsh
    have hjo : d.jopen f = if (d1.jcut f (d.F.text f)).2 ≠ 0 then (d1.jcut f (d.F.text f), none) else (d1.jcut f (d.F.text f), some ⟨f, A.take m, false⟩) := by
      unfold Dk.jopen
      rw [hs, if_neg (by simp)]
      simp only
      rw [ha, if_neg (by simp)]
      simp only
      rw [hrec]
    unfold Dk.jcut at hjo
    rw [hrec] at hjo
    by_cases hcut : (forms (A.take m)).length < (d.F.text f).length
    · rw [if_pos hcut] at hjo
      have hnz : (forms (A.take m)).length ≤ d1.F.sz f := by
        rw [hF1]
        rw [Img.text_length] at hcut
        exact Nat.le_of_lt hcut
      have hck := calm_chk hdn hf
      by_cases h1 : d1.calls = 1
      · have e : d1.truncate f ((forms (A.take m)).length : Nat) = d1.fin (d1.chk f) := by unfold Dk.truncate; rw [if_neg (fun hh => hh.2 h1)]
        rw [e, if_pos (by rw [fin_one hdn h1]; decide)] at hjo
        refine Or.inl ⟨_, _, hjo, Or.inl (fin_one hdn h1 _), hg1.fin ok1 _, (fin_R _ _).trans hR1, fun hh => ?_⟩
        rw [hcl, hc0 hh.2] at h1
        omega
      · have e : d1.truncate f ((forms (A.take m)).length : Nat) = (d1.trim f (forms (A.take m)).length).fin 0 := by
          unfold Dk.truncate
          rw [if_pos ⟨hck, h1⟩]
          unfold Dk.tru
          simp only [Int.toNat_natCast]
          rw [if_neg (by omega)]
        obtain ⟨c2, hc2, -⟩ := fin_ok (d := d1.trim f (forms (A.take m)).length) hdn h1 0
        rw [e, hc2, if_neg (by simp)] at hjo
        obtain ⟨st2, ok2⟩ := trim_still ok1 hnz c2
        have htx : (d1.F.text f).take (forms (A.take m)).length = forms (A.take m) := by
          rw [hF1]
          exact (congrArg (List.take (forms (A.take m)).length) hsh).trans List.take_left
        rw [htx] at st2
        exact Or.inr ⟨_, m, hjo, hm1, hm2, good_all ok2 st2, hdn, st2.text, hR1⟩
    · have he : d.F.text f = forms (A.take m) := by
        have h1 := congrArg List.length hsh
        rw [List.length_append] at h1
        have h2 : (recsR (d.F.text f)).2.1 = [] := List.length_eq_zero_iff.1 (by omega)
        rw [h2, List.append_nil] at hsh
        exact hsh
      rw [if_neg hcut, if_neg (by simp)] at hjo
      rw [he] at st
      exact Or.inr ⟨d1, m, hjo, hm1, hm2, good_all ok1 st, hdn, by rw [hF1, he], hR1⟩

end Go.Proofs.YtanecondopbfhaaGreatDoor
