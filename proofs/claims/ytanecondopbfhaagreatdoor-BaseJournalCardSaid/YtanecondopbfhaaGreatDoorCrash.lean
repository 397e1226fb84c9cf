/- A crash. -/
import Derived.Test.YtanecondopbfhaaGreatDoorSync2
namespace Go.Proofs.YtanecondopbfhaaGreatDoor
open Go.RowKit

variable {w w' : World} {b : Nat} {L : Loc} {d : Dk}

theorem isCells.sets {T : TypeId} {n : Nat} : ∀ (vs : List Value) (o : Nat) (c : Nat → Value) (w : World), isCells w b T n c → isCells (w.setCells b o vs) b T n (fun i => if o ≤ i ∧ i < o + vs.length then vs.getD (i - o) undef else c i)
  | [], o, c, w, h => h.eq (fun i _ => if_neg (fun hh => by have := hh.1; have := hh.2; simp at this; omega))
  | v :: r, o, c, w, h => by
    refine (isCells.sets r (o + 1) _ _ (h.set o v)).eq (fun i _ => ?_)
    unfold upd
    by_cases h1 : o + 1 ≤ i ∧ i < o + 1 + r.length
    · rw [if_pos h1, if_pos (by simp only [List.length_cons]; omega), show i - o = (i - (o + 1)) + 1 by omega]
      simp
    · rw [if_neg h1]
      by_cases h2 : i = o
      · subst h2
        rw [if_pos rfl, if_pos (by simp)]
        simp
      · rw [if_neg h2, if_neg (by simp only [List.length_cons]; omega)]

theorem isCells.there {T : TypeId} {n : Nat} {c : Nat → Value} (h : isCells w b T n c) (o k : Nat) (hk : o + k ≤ n) : w.there b o k := fun j hj =>
  ⟨by rw [h.cell _ (by omega)]; rfl, h.frozen _⟩

theorem lives_snoc (keep : List Int) (x : Nat × Nat) : ∀ (l : List (Nat × Nat)) (i : Nat), lives keep i (l ++ [x]) = lives keep i l ++ (if odd keep (i + l.length) then [x] else [])
  | [], i => by simp [lives]
  | y :: l, i => by
    simp only [List.cons_append, lives]
    rw [lives_snoc keep x l (i + 1), show i + 1 + l.length = i + (y :: l).length by simp; omega]
    split <;> rfl

/-- The disk when the first k pending sectors have been seen. -/
def Dk.upTo (d : Dk) (keep : List Int) (k : Nat) : Dk := (lives keep 0 (d.q.take k)).foldl Dk.live d

theorem upTo_succ (d : Dk) (keep : List Int) (k : Nat) (x : Nat × Nat) (hx : d.q[k]? = some x) : d.upTo keep (k + 1) = if odd keep k then (d.upTo keep k).live x else d.upTo keep k := by
  have hk := (List.getElem?_eq_some_iff.1 hx).1
  have e : d.q.take (k + 1) = d.q.take k ++ [x] := by
    rw [List.take_add_one, hx]; rfl
  unfold Dk.upTo
  rw [e, lives_snoc, Nat.zero_add, List.length_take, Nat.min_eq_left (Nat.le_of_lt hk), List.foldl_append]
  split <;> rfl

theorem live_down : ∀ (l : List (Nat × Nat)) (d : Dk), l.foldl Dk.live { d with down := true } = { l.foldl Dk.live d with down := true }
  | [], _ => rfl
  | x :: l, d => by
    rw [List.foldl_cons, List.foldl_cons]
    exact live_down l (d.live x)

theorem upTo_all (d : Dk) (keep : List Int) : d.upTo keep d.q.length = (lives keep 0 d.q).foldl Dk.live d := by
  unfold Dk.upTo
  rw [List.take_length]

/-- What is left when the machine has gone down, but for what was scheduled. -/
def Dk.fallen (d : Dk) (keep : List Int) : Dk := let e := (lives keep 0 d.q).foldl Dk.live { d with down := true }; { e with F := e.D, q := [] }

theorem fallen_arm {d : Dk} (hd : d.down = false) (keep : List Int) : (d.fallen keep).arm 0 [] = d.crash keep := by
  rw [Dk.crash, if_neg (by simp [hd]), Dk.fallen, live_down]
  rfl

theorem fallen_ok {d : Dk} (hd : d.down = false) (h : d.Ok) (keep : List Int) : (d.fallen keep).Ok := by
  have h1 := h.crash keep
  rw [← fallen_arm hd] at h1
  exact h1.with_ rfl rfl rfl

/-- The worlds of the loop. -/
structure CrS (w : World) (b : Nat) (L : Loc) (d : Dk) (W : World) : Prop where
  cells : isCells W b 77 55 (dcell L d)
  secF : SecAt W L.mF 4194304 d.F.B
  secD : SecAt W L.mD 4194304 d.D.B
  kept : Kept (fun x => x = b ∨ x = L.mD) w W

theorem live_cells (L : Loc) (d : Dk) (x : Nat × Nat) (hx : x.1 < 16) (i : Nat) : dcell L (d.live x) i = upd (dcell L d) (18 + x.1) (.int .i64 ((max (d.D.sz x.1) (min (64 * (x.2 + 1)) (d.F.sz x.1)) : Nat) : Int)) i := by
  unfold upd
  by_cases h1 : i = 18 + x.1
  · rw [if_pos h1, h1, dcell_D _ _ _ hx]
    show Value.int .i64 ((if x.1 = x.1 then _ else _ : Nat) : Int) = _
    rw [if_pos rfl]
  · rw [if_neg h1]
    unfold dcell
    have e1 : 17 < i → i < 34 → (d.live x).D.sz (i - 18) = d.D.sz (i - 18) := fun _ _ => by
      show (if i - 18 = x.1 then _ else _) = _
      rw [if_neg (by omega)]
    by_cases h3 : i = 0
    · simp [h3]
    · by_cases h4 : i < 17
      · simp [h3, h4, Dk.live]
      · by_cases h5 : i = 17
        · simp [h5]
        · by_cases h6 : i < 34
          · simp only [h3, h4, h5, h6, if_true, if_false]
            rw [e1 (by omega) h6]
          · simp only [h3, h4, h5, h6, if_false]
            rfl

theorem tmod_odd (x : Int) : (x.tmod 2 != 0) = decide (x % 2 ≠ 0) := by
  have h1 := Int.tmod_add_mul_tdiv x 2
  have h4 := Int.tmod_two_eq x
  by_cases h : x % 2 = 0
  · have : x.tmod 2 = 0 := by rcases h4 with h4 | h4 | h4 <;> omega
    simp [h, this]
  · have : x.tmod 2 ≠ 0 := by rcases h4 with h4 | h4 | h4 <;> omega
    simp [h, this]

end Go.Proofs.YtanecondopbfhaaGreatDoor
