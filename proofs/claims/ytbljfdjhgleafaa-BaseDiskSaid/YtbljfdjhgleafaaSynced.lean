/- BaseSynced: what stays of a synced file. -/
import Derived.Test.YtbljfdjhgleafaaPlay
namespace Go.Proofs.Ytbljfdjhgleafaa
open Go.RowKit

theorem read_all {d : Dk} (hk : d.Ok) (hd : d.down = false) {f : Int} (hf : 0 ≤ f ∧ f < 16) : d.read f 0 16777216 = (d.F.text f.toNat, 0) := by
  have hc : d.chk f = 0 := by rw [Dk.chk, hd, if_neg (by simp), if_pos hf]
  have hm := hk.mx f.toNat
  rw [Dk.read, hc, if_neg (by simp), if_neg (by omega)]
  by_cases h0 : d.F.sz f.toNat = 0
  · rw [if_pos (by omega)]
    have : d.F.text f.toNat = [] := List.eq_nil_of_length_eq_zero (by rw [Img.text_length]; exact h0)
    rw [this]
  · rw [if_neg (by omega)]
    have e : min (16777216 : Int).toNat (d.F.sz f.toNat - (0 : Int).toNat) = d.F.sz f.toNat := by
      show min 16777216 (d.F.sz f.toNat - 0) = _
      omega
    rw [e]
    rfl

theorem Dk.Ok.act {d : Dk} (h : d.Ok) (a : Act') : (d.act a).1.Ok := by
  rw [Dk.act]
  split
  · exact h.sync _
  · split
    · exact h.truncate _ _
    · split
      · exact h.lose _
      · split
        · exact h.arm _ _
        · split
          · exact h.crash _
          · split
            · exact h.start
            · exact h.write _ _ _

/-- The acts that may not turn file f. -/
def spares (f : Int) (a : Act') : Bool := (decide (kd a.Do < 4) && decide (a.F ≠ f)) || decide (kd a.Do = 4)

def moreL (f : Int) (d : Dk) (l : List Act') : Dk := l.foldl (fun d a => if spares f a then (d.act a).1 else d) d

theorem Dk.Still.act {d : Dk} {f : Int} {t : List UInt8} (h : d.Still f.toNat t) (hk : d.Ok) (hf : 0 ≤ f) {a : Act'} (hs : spares f a = true) : (d.act a).1.Still f.toNat t := by
  have hh : (kd a.Do < 4 ∧ a.F ≠ f) ∨ kd a.Do = 4 := by simpa [spares] using hs
  have hne : kd a.Do < 4 → a.F ≠ (f.toNat : Int) := fun h4 => by
    rcases hh with hh | hh
    · have := hh.2; omega
    · omega
  rw [Dk.act]
  split
  · exact h.sync hk (hne (by omega))
  · split
    · exact h.truncate hk (hne (by omega)) _
    · split
      · exact h.with_ rfl rfl rfl
      · rw [if_neg (by omega), if_neg (by omega), if_neg (by omega)]
        exact h.write hk (hne (by omega)) _ _

theorem more_still (f : Int) (t : List UInt8) (hf : 0 ≤ f) (l : List Act') : ∀ (d : Dk), d.Ok → d.Still f.toNat t → (moreL f d l).Still f.toNat t ∧ (moreL f d l).Ok := by
  induction l with
  | nil => intro d hk h; exact ⟨h, hk⟩
  | cons a l ih =>
    intro d hk h
    show (moreL f (if spares f a then (d.act a).1 else d) l).Still f.toNat t ∧ _
    by_cases hs : spares f a = true
    · have e : moreL f d (a :: l) = moreL f (d.act a).1 l := by show moreL f (if spares f a then (d.act a).1 else d) l = _; rw [if_pos hs]
      rw [if_pos hs, e]
      exact ih _ (hk.act a) (h.act hk hf hs)
    · have e : moreL f d (a :: l) = moreL f d l := by show moreL f (if spares f a then (d.act a).1 else d) l = _; rw [if_neg hs]
      rw [if_neg hs, e]
      exact ih _ hk h

theorem more_R (f : Int) (l : List Act') : ∀ (d : Dk), (∀ a ∈ l, a.S.length ≤ 300) → (moreL f d l).R ≤ d.R + 302 * l.length := by
  induction l with
  | nil => intro d _; exact Nat.le_add_right _ _
  | cons a l ih =>
    intro d h
    have h1 := ih (if spares f a then (d.act a).1 else d) (fun x hx => h x (List.mem_cons_of_mem _ hx))
    have h3 := h a (List.mem_cons_self ..)
    have h2 : (if spares f a then (d.act a).1 else d).R ≤ d.R + a.S.length + 2 := by
      split
      · exact R_act d a
      · omega
    show (moreL f (if spares f a then (d.act a).1 else d) l).R ≤ _
    rw [List.length_cons]
    omega

theorem more_snoc (f : Int) (d : Dk) (l : List Act') (k : Nat) (a : Act') (h : l[k]? = some a) : moreL f d (l.take (k + 1)) = if spares f a then ((moreL f d (l.take k)).act a).1 else moreL f d (l.take k) := by
  rw [List.take_add_one, h]
  simp [moreL, List.foldl_append]

/-- What the law compares. -/
theorem synced_pure {d : Dk} (hk : d.Ok) (f : Int) (h0 : (d.sync f).2 = 0) (more : List Act') (keep : List Int) :
    ∃ t, d.read f 0 16777216 = (t, 0) ∧ (d.sync f).1.read f 0 16777216 = (t, 0) ∧ (((moreL f (d.sync f).1 more).crash keep).start).read f 0 16777216 = (t, 0) := by
  obtain ⟨f1, f2, hd, hst, hd1⟩ := Dk.sync_still hk h0
  have hk1 := hk.sync f
  obtain ⟨hs2, hk2⟩ := more_still f _ f1 more _ hk1 hst
  have hs3 := (hs2.crash hk2 keep).with_ (e := ((moreL f (d.sync f).1 more).crash keep).start) rfl rfl rfl
  refine ⟨d.F.text f.toNat, read_all hk hd ⟨f1, f2⟩, ?_, ?_⟩
  · rw [read_all hk1 hd1 ⟨f1, f2⟩, hst.text]
  · rw [read_all (hk2.crash keep).start rfl ⟨f1, f2⟩, hs3.text]

end Go.Proofs.Ytbljfdjhgleafaa
