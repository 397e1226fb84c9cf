/- BaseArms: a disk with a scheduled crash, and one without. -/
import Derived.Test.YtnblleangiamcaaAfter
namespace Go.Proofs.Ytnblleangiamcaa
open Go.RowKit

/-- Before the crash: m calls of n are done. -/
def Ph1 (n : Nat) (keep : List Int) (m : Nat) (d c : Dk) : Prop := m < n ∧ d = { c with calls := n - m, keep := keep } ∧ c.calls = 0 ∧ c.down = false
/-- Behind the crash. -/
def Ph2 (n m : Nat) (d c : Dk) : Prop := n ≤ m ∧ d.down = true ∧ c.down = true ∧ d.F = c.F ∧ d.R = c.R

variable {n m : Nat} {keep : List Int} {d c : Dk} {a : Act'}

theorem Ph1.start (n : Nat) (keep : List Int) (hn : 0 < n) : Ph1 n keep 0 (Dk.new.arm n keep) Dk.new := ⟨hn, by unfold Dk.arm; rw [Int.toNat_natCast]; rfl, rfl, rfl⟩

theorem fin_more {c : Dk} {x : Nat} {k : List Int} (e : Int) (hd : c.down = false) (hx : 2 ≤ x) : ({ c with calls := x, keep := k } : Dk).fin e = ({ c with calls := x - 1, keep := k }, e) := by
  unfold Dk.fin
  rw [if_neg (by simp [hd]; omega), if_neg (by simp; omega)]

theorem fin_none {c : Dk} (e : Int) (hc : c.calls = 0) : c.fin e = (c, e) := by
  unfold Dk.fin
  rw [if_pos (Or.inr hc)]

theorem fin_last {c : Dk} {k : List Int} (e : Int) (hd : c.down = false) : ({ c with calls := 1, keep := k } : Dk).fin e = (({ c with calls := 0, keep := k } : Dk).crash k, 8) := by
  unfold Dk.fin
  rw [if_neg (by simp [hd]), if_pos rfl]

theorem chk_with {c : Dk} {x : Nat} {k : List Int} (f : Int) : ({ c with calls := x, keep := k } : Dk).chk f = c.chk f := rfl

theorem put_with {c : Dk} {x : Nat} {k : List Int} (f : Nat) (p : Int) (s : List UInt8) : ({ c with calls := x, keep := k } : Dk).put f p s = ({ (c.put f p s).1 with calls := x, keep := k }, (c.put f p s).2) := by
  unfold Dk.put
  split
  · rfl
  · split
    · rfl
    · split
      · rfl
      · rfl

theorem syn_with {c : Dk} {x : Nat} {k : List Int} (f : Nat) : ({ c with calls := x, keep := k } : Dk).syn f = ({ (c.syn f).1 with calls := x, keep := k }, (c.syn f).2) := by
  unfold Dk.syn
  show (if 0 < c.lost then _ else _) = _
  split
  · rfl
  · rfl

theorem tru_with {c : Dk} {x : Nat} {k : List Int} (f : Nat) (p : Int) : ({ c with calls := x, keep := k } : Dk).tru f p = ({ (c.tru f p).1 with calls := x, keep := k }, (c.tru f p).2) := by
  unfold Dk.tru
  show (if p < 0 ∨ p > c.F.sz f then _ else _) = _
  split
  · rfl
  · rfl

theorem put_still (c : Dk) (f : Nat) (p : Int) (s : List UInt8) : (c.put f p s).1.calls = c.calls ∧ (c.put f p s).1.down = c.down := by
  unfold Dk.put
  split
  · exact ⟨rfl, rfl⟩
  · split
    · exact ⟨rfl, rfl⟩
    · split
      · exact ⟨rfl, rfl⟩
      · exact ⟨rfl, rfl⟩

theorem syn_still (c : Dk) (f : Nat) : (c.syn f).1.calls = c.calls ∧ (c.syn f).1.down = c.down := by
  unfold Dk.syn
  split
  · exact ⟨rfl, rfl⟩
  · exact ⟨rfl, rfl⟩

theorem tru_still (c : Dk) (f : Nat) (p : Int) : (c.tru f p).1.calls = c.calls ∧ (c.tru f p).1.down = c.down := by
  unfold Dk.tru
  split
  · exact ⟨rfl, rfl⟩
  · exact ⟨rfl, rfl⟩

/-- One more call. -/
theorem Ph1.more (h : Ph1 n keep m d c) (hk : kd a.Do < 4) (hm : m + 1 < n) : (d.act a).2 = (c.act a).2 ∧ Ph1 n keep (m + 1) (d.act a).1 (c.act a).1 := by
  obtain ⟨h1, rfl, hc, hd⟩ := h
  have e1 : n - (m + 1) = n - m - 1 := by omega
  unfold Dk.act
  by_cases k2 : kd a.Do = 2
  · rw [if_pos k2, if_pos k2]
    unfold Dk.sync
    rw [chk_with]
    by_cases hch : c.chk a.F = 0
    · rw [if_pos ⟨hch, by show n - m ≠ 1; omega⟩, if_pos ⟨hch, by rw [hc]; decide⟩, syn_with, fin_more _ (by rw [(syn_still _ _).2]; exact hd) (by omega), fin_none _ (by rw [(syn_still _ _).1]; exact hc)]
      exact ⟨rfl, hm, by rw [e1], by rw [(syn_still _ _).1]; exact hc, by rw [(syn_still _ _).2]; exact hd⟩
    · rw [if_neg (fun h => hch h.1), if_neg (fun h => hch h.1), fin_more _ hd (by omega), fin_none _ hc]
      exact ⟨rfl, hm, by rw [e1], hc, hd⟩
  · rw [if_neg k2, if_neg k2]
    by_cases k3 : kd a.Do = 3
    · rw [if_pos k3, if_pos k3]
      unfold Dk.truncate
      rw [chk_with]
      by_cases hch : c.chk a.F = 0
      · rw [if_pos ⟨hch, by show n - m ≠ 1; omega⟩, if_pos ⟨hch, by rw [hc]; decide⟩, tru_with, fin_more _ (by rw [(tru_still _ _ _).2]; exact hd) (by omega), fin_none _ (by rw [(tru_still _ _ _).1]; exact hc)]
        exact ⟨rfl, hm, by rw [e1], by rw [(tru_still _ _ _).1]; exact hc, by rw [(tru_still _ _ _).2]; exact hd⟩
      · rw [if_neg (fun h => hch h.1), if_neg (fun h => hch h.1), fin_more _ hd (by omega), fin_none _ hc]
        exact ⟨rfl, hm, by rw [e1], hc, hd⟩
    · rw [if_neg k3, if_neg k3, if_neg (by omega), if_neg (by omega), if_neg (by omega), if_neg (by omega), if_neg (by omega), if_neg (by omega), if_neg (by omega), if_neg (by omega)]
      unfold Dk.write
      rw [chk_with]
      by_cases hch : c.chk a.F = 0
      · rw [if_pos hch, if_pos hch, put_with, fin_more _ (by rw [(put_still _ _ _ _).2]; exact hd) (by omega), fin_none _ (by rw [(put_still _ _ _ _).1]; exact hc)]
        exact ⟨rfl, hm, by rw [e1], by rw [(put_still _ _ _ _).1]; exact hc, by rw [(put_still _ _ _ _).2]; exact hd⟩
      · rw [if_neg hch, if_neg hch, fin_more _ hd (by omega), fin_none _ hc]
        exact ⟨rfl, hm, by rw [e1], hc, hd⟩

theorem Ph1.lose (h : Ph1 n keep m d c) (hk : kd a.Do = 4) : (d.act a).2 = (c.act a).2 ∧ Ph1 n keep m (d.act a).1 (c.act a).1 := by
  obtain ⟨h1, rfl, hc, hd⟩ := h
  unfold Dk.act
  rw [if_neg (by omega), if_neg (by omega), if_pos hk, if_neg (by omega), if_neg (by omega), if_pos hk]
  exact ⟨rfl, h1, rfl, hc, hd⟩

theorem crash_with {c : Dk} {x : Nat} {k : List Int} (hd : c.down = false) (keep : List Int) : (({ c with calls := x, keep := k } : Dk).crash keep).down = true ∧ (c.crash keep).down = true ∧ (({ c with calls := x, keep := k } : Dk).crash keep).F = (c.crash keep).F := by
  refine ⟨?_, ?_, ?_⟩
  · unfold Dk.crash; rw [if_neg (by simp [hd])]
  · unfold Dk.crash; rw [if_neg (by simp [hd])]
  · rw [crash_F hd, crash_F (d := { c with calls := x, keep := k }) hd]
    have : ∀ (l : List (Nat × Nat)) (c : Dk), (l.foldl Dk.live { c with calls := x, keep := k }).D = (l.foldl Dk.live c).D := by
      intro l
      induction l with
      | nil => intro c; rfl
      | cons y l ih => intro c; exact ih (c.live y)
    exact this _ c

/-- The crash, at a Write. -/
theorem Ph1.fallW (h : Ph1 n keep m d c) (hk : kd a.Do < 2) (hm : m + 1 = n) : (d.act a).2 = 8 ∧ Ph2 n (m + 1) (d.act a).1 ((c.act a).1.crash keep) := by
  obtain ⟨h1, rfl, hc, hd⟩ := h
  have e1 : n - m = 1 := by omega
  unfold Dk.act
  rw [if_neg (by omega), if_neg (by omega), if_neg (by omega), if_neg (by omega), if_neg (by omega), if_neg (by omega), if_neg (by omega), if_neg (by omega), if_neg (by omega), if_neg (by omega), if_neg (by omega), if_neg (by omega), e1]
  unfold Dk.write
  rw [chk_with]
  by_cases hch : c.chk a.F = 0
  · have hd2 : (c.put a.F.toNat a.N a.S).1.down = false := by rw [(put_still _ _ _ _).2]; exact hd
    rw [if_pos hch, if_pos hch, put_with, fin_last _ hd2, fin_none _ (by rw [(put_still _ _ _ _).1]; exact hc)]
    obtain ⟨q1, q2, q3⟩ := crash_with (x := 0) (k := keep) hd2 keep
    exact ⟨rfl, by omega, q1, q2, q3, by rw [R_crash, R_crash]⟩
  · rw [if_neg hch, if_neg hch, fin_last _ hd, fin_none _ hc]
    obtain ⟨q1, q2, q3⟩ := crash_with (x := 0) (k := keep) hd keep
    exact ⟨rfl, by omega, q1, q2, q3, by rw [R_crash, R_crash]⟩

/-- The crash, at a Sync or Truncate. -/
theorem Ph1.fallS (h : Ph1 n keep m d c) (hk : kd a.Do = 2 ∨ kd a.Do = 3) (hm : m + 1 = n) : (d.act a).2 = 8 ∧ Ph2 n (m + 1) (d.act a).1 (c.crash keep) := by
  obtain ⟨h1, rfl, hc, hd⟩ := h
  have e1 : n - m = 1 := by omega
  obtain ⟨q1, q2, q3⟩ := crash_with (x := 0) (k := keep) hd keep
  unfold Dk.act
  rw [e1]
  rcases hk with hk | hk
  · rw [if_pos hk]
    unfold Dk.sync
    rw [if_neg (fun h => h.2 rfl), fin_last _ hd]
    exact ⟨rfl, by omega, q1, q2, q3, by rw [R_crash, R_crash]⟩
  · rw [if_neg (by omega), if_pos hk]
    unfold Dk.truncate
    rw [if_neg (fun h => h.2 rfl), fin_last _ hd]
    exact ⟨rfl, by omega, q1, q2, q3, by rw [R_crash, R_crash]⟩

theorem Ph2.more (h : Ph2 n m d c) (hk : kd a.Do < 4) : (d.act a).2 = 8 ∧ Ph2 n (m + 1) (d.act a).1 c := by
  obtain ⟨h1, hd, hc, hF, hR⟩ := h
  have hch : ∀ f, d.chk f = 8 := fun f => by unfold Dk.chk; rw [if_pos hd]
  have hfin : ∀ e, d.fin e = (d, e) := fun e => by unfold Dk.fin; rw [if_pos (Or.inl hd)]
  have hr : d.act a = (d, 8) := by
    unfold Dk.act Dk.sync Dk.truncate Dk.write
    rw [hch, hfin]
    have hx : ¬ ((8 : Int) = 0 ∧ d.calls ≠ 1) := fun h => n80 h.1
    rw [if_neg hx, if_neg hx, if_neg n80, if_neg (show ¬ kd a.Do = 4 by omega), if_neg (show ¬ kd a.Do = 5 by omega), if_neg (show ¬ kd a.Do = 6 by omega), if_neg (show ¬ kd a.Do = 7 by omega)]
    split
    · rfl
    · split <;> rfl
  rw [hr]
  exact ⟨rfl, by omega, hd, hc, hF, hR⟩

theorem Ph2.lose (h : Ph2 n m d c) (hk : kd a.Do = 4) : Ph2 n m (d.act a).1 c := by
  obtain ⟨h1, hd, hc, hF, hR⟩ := h
  unfold Dk.act
  rw [if_neg (by omega), if_neg (by omega), if_pos hk]
  exact ⟨h1, hd, hc, hF, hR⟩

/-- What sameFiles asks. -/
def Alike (d c : Dk) : Prop := d.down = c.down ∧ d.F = c.F

theorem Ph1.alike (h : Ph1 n keep m d c) : Alike d c := by
  obtain ⟨h1, rfl, hc, hd⟩ := h
  exact ⟨rfl, rfl⟩
theorem Ph2.alike (h : Ph2 n m d c) : Alike d c := ⟨h.2.1.trans h.2.2.1.symm, h.2.2.2.1⟩
theorem Alike.start (h : Alike d c) : Alike d.start c.start := ⟨rfl, h.2⟩
theorem Alike.read (h : Alike d c) (f p s : Int) : d.read f p s = c.read f p s := by
  unfold Dk.read Dk.chk
  rw [h.1, h.2]
theorem Alike.size (h : Alike d c) (f : Int) : d.size f = c.size f := by
  unfold Dk.size
  rw [h.2]
theorem Ph1.R (h : Ph1 n keep m d c) : d.R = c.R := by
  obtain ⟨h1, rfl, hc, hd⟩ := h
  rfl

end Go.Proofs.Ytnblleangiamcaa
