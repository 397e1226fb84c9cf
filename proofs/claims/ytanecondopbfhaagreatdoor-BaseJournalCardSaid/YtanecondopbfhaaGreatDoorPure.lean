/- The simulated disk as plain functions: images of files, pending sectors, crashes; and what always holds of them. -/
namespace Go.Proofs.YtanecondopbfhaaGreatDoor

/-- The content of all files: the byte of a file at a position (0 behind its end), and its length. -/
structure Img where
  B : Nat → Nat → UInt8
  sz : Nat → Nat

def Img.none : Img := ⟨fun _ _ => 0, fun _ => 0⟩

/-- The bytes from a on, n of them. -/
def Img.read (m : Img) (f a n : Nat) : List UInt8 := (List.range n).map fun i => m.B f (a + i)

def Img.text (m : Img) (f : Nat) : List UInt8 := m.read f 0 (m.sz f)

def Img.put (m : Img) (f a : Nat) (s : List UInt8) : Img :=
  ⟨fun g p => if g = f ∧ a ≤ p ∧ p < a + s.length then s.getD (p - a) 0 else m.B g p, fun g => if g = f then max (m.sz g) (a + s.length) else m.sz g⟩

def Img.cut (m : Img) (f n : Nat) : Img :=
  ⟨fun g p => if g = f ∧ n ≤ p then 0 else m.B g p, fun g => if g = f then n else m.sz g⟩

/-- The disk: the files, their durable parts, the pending sectors in their order, a bound for what is counted (R), whether it is down, lost syncs, calls up to the crash, the sectors that then survive. -/
structure Dk where
  F : Img
  D : Img
  q : List (Nat × Nat)
  R : Nat
  down : Bool
  lost : Nat
  calls : Nat
  keep : List Int

def Dk.new : Dk := ⟨Img.none, Img.none, [], 0, false, 0, 0, []⟩

/-- One sector becomes durable. -/
def Dk.live (d : Dk) (x : Nat × Nat) : Dk :=
  { d with D := ⟨fun g p => if g = x.1 ∧ p / 64 = x.2 then d.F.B g p else d.D.B g p, fun g => if g = x.1 then max (d.D.sz g) (min (64 * (x.2 + 1)) (d.F.sz g)) else d.D.sz g⟩ }

def odd (keep : List Int) (i : Nat) : Bool := decide (keep ≠ []) && decide ((keep.getD (i % keep.length) 0) % 2 ≠ 0)

/-- The sectors of a list that survive. -/
def lives (keep : List Int) : Nat → List (Nat × Nat) → List (Nat × Nat)
  | _, [] => []
  | i, x :: l => if odd keep i then x :: lives keep (i + 1) l else lives keep (i + 1) l

def Dk.crash (d : Dk) (keep : List Int) : Dk :=
  if d.down then d else
    let e := (lives keep 0 d.q).foldl Dk.live d
    { e with F := e.D, q := [], down := true, calls := 0, keep := [] }

/-- A file becomes durable. -/
def Dk.settle (d : Dk) (f : Nat) : Dk :=
  { d with D := ⟨fun g p => if g = f ∧ (f, p / 64) ∈ d.q then d.F.B g p else d.D.B g p, fun g => if g = f then d.F.sz g else d.D.sz g⟩, q := d.q.filter fun x => x.1 != f }

/-- Sectors from n on, m of them, become pending. -/
def pend (f : Nat) : Nat → Nat → List (Nat × Nat) → List (Nat × Nat)
  | _, 0, q => q
  | n, m + 1, q => pend f (n + 1) m (if (f, n) ∈ q then q else q ++ [(f, n)])

/-- How many sectors the bytes from a on touch, n of them. -/
def touch (a n : Nat) : Nat := (a + n + 63) / 64 - a / 64

def Dk.chk (d : Dk) (f : Int) : Int := if d.down then 8 else if 0 ≤ f ∧ f < 16 then 0 else 1

/-- A call is counted. -/
def Dk.fin (d : Dk) (e : Int) : Dk × Int :=
  if d.down = true ∨ d.calls = 0 then (d, e) else
  if d.calls = 1 then ({ d with calls := 0 }.crash d.keep, 8) else ({ d with calls := d.calls - 1 }, e)

def Dk.add (d : Dk) (f a : Nat) (s : List UInt8) : Dk :=
  { d with F := d.F.put f a s, q := pend f (a / 64) (touch a s.length) d.q, R := d.R + s.length + 2 }

def Dk.put (d : Dk) (f : Nat) (a : Int) (s : List UInt8) : Dk × Int :=
  if a < 0 then (d, 1) else
  if a > 16777216 - (s.length : Int) then (d, 6) else
  if s = [] then (d, 0) else (d.add f a.toNat s, 0)

def Dk.write (d : Dk) (f a : Int) (s : List UInt8) : Dk × Int :=
  if d.chk f = 0 then (d.put f.toNat a s).1.fin (d.put f.toNat a s).2 else d.fin (d.chk f)

def Dk.syn (d : Dk) (f : Nat) : Dk × Int := if 0 < d.lost then ({ d with lost := d.lost - 1 }, 9) else (d.settle f, 0)

def Dk.sync (d : Dk) (f : Int) : Dk × Int :=
  if d.chk f = 0 ∧ d.calls ≠ 1 then (d.syn f.toNat).1.fin (d.syn f.toNat).2 else d.fin (d.chk f)

def Dk.trim (d : Dk) (f : Nat) (n : Nat) : Dk := { d.settle f with F := d.F.cut f n, D := (d.settle f).D.cut f n }

def Dk.tru (d : Dk) (f : Nat) (n : Int) : Dk × Int := if n < 0 ∨ n > d.F.sz f then (d, 1) else (d.trim f n.toNat, 0)

def Dk.truncate (d : Dk) (f n : Int) : Dk × Int :=
  if d.chk f = 0 ∧ d.calls ≠ 1 then (d.tru f.toNat n).1.fin (d.tru f.toNat n).2 else d.fin (d.chk f)

def Dk.size (d : Dk) (f : Int) : Nat := if 0 ≤ f ∧ f < 16 then d.F.sz f.toNat else 0

def Dk.read (d : Dk) (f a n : Int) : List UInt8 × Int :=
  if d.chk f ≠ 0 then ([], d.chk f) else
  if a < 0 ∨ n < 0 then ([], 1) else
  if a ≥ d.F.sz f.toNat then ([], 0) else (d.F.read f.toNat a.toNat (min n.toNat (d.F.sz f.toNat - a.toNat)), 0)

def Dk.lose (d : Dk) (n : Int) : Dk := { d with lost := n.toNat }
def Dk.arm (d : Dk) (n : Int) (keep : List Int) : Dk := { d with calls := n.toNat, keep := keep }
def Dk.start (d : Dk) : Dk := { d with down := false }

/-- WHAT ALWAYS HOLDS. -/
structure Dk.Ok (d : Dk) : Prop where
  zF : ∀ f p, d.F.sz f ≤ p → d.F.B f p = 0
  zD : ∀ f p, d.D.sz f ≤ p → d.D.B f p = 0
  le : ∀ f, d.D.sz f ≤ d.F.sz f
  np : ∀ f p, (f, p / 64) ∉ d.q → d.F.B f p = d.D.B f p
  pq : ∀ x ∈ d.q, x.1 < 16 ∧ 64 * x.2 < d.F.sz x.1
  top : ∀ f, d.D.sz f < d.F.sz f → (f, (d.F.sz f - 1) / 64) ∈ d.q
  nd : d.q.Nodup
  mx : ∀ f, d.F.sz f ≤ 16777216

theorem Img.text_length (m : Img) (f : Nat) : (m.text f).length = m.sz f := by simp [Img.text, Img.read]
theorem Img.read_length (m : Img) (f a n : Nat) : (m.read f a n).length = n := by simp [Img.read]

theorem Dk.new_ok : Dk.new.Ok := by
  refine ⟨?_, ?_, ?_, ?_, ?_, ?_, ?_, ?_⟩ <;> intros <;> simp_all [Dk.new, Img.none]

/-! ### pending sectors -/

theorem pend_mem (f : Nat) (x : Nat × Nat) : ∀ (m n : Nat) (q : List (Nat × Nat)), x ∈ pend f n m q ↔ x ∈ q ∨ (x.1 = f ∧ n ≤ x.2 ∧ x.2 < n + m)
  | 0, n, q => by simp [pend]; omega
  | m + 1, n, q => by
    rw [pend, pend_mem f x m (n + 1)]
    obtain ⟨g, k⟩ := x
    by_cases h : (f, n) ∈ q
    · rw [if_pos h]
      constructor
      · rintro (h1 | ⟨h1, h2, h3⟩)
        · exact Or.inl h1
        · exact Or.inr ⟨h1, by omega, by omega⟩
      · rintro (h1 | ⟨h1, h2, h3⟩)
        · exact Or.inl h1
        · simp only at h1 h2 h3
          subst h1
          by_cases e : k = n
          · subst e; exact Or.inl h
          · exact Or.inr ⟨rfl, by simp only; omega, by simp only; omega⟩
    · rw [if_neg h]
      constructor
      · rintro (h1 | ⟨h1, h2, h3⟩)
        · rcases List.mem_append.1 h1 with h1 | h1
          · exact Or.inl h1
          · simp at h1; exact Or.inr ⟨h1.1, by simp only; omega, by simp only; omega⟩
        · exact Or.inr ⟨h1, by omega, by omega⟩
      · rintro (h1 | ⟨h1, h2, h3⟩)
        · exact Or.inl (List.mem_append_left _ h1)
        · simp only at h1 h2 h3
          subst h1
          by_cases e : k = n
          · subst e; exact Or.inl (by simp)
          · exact Or.inr ⟨rfl, by simp only; omega, by simp only; omega⟩

theorem pend_nodup (f : Nat) : ∀ (m n : Nat) (q : List (Nat × Nat)), q.Nodup → (pend f n m q).Nodup
  | 0, _, _, h => h
  | m + 1, n, q, h => by
    rw [pend]
    refine pend_nodup f m (n + 1) _ ?_
    by_cases hm : (f, n) ∈ q
    · rw [if_pos hm]; exact h
    · rw [if_neg hm, List.nodup_append]
      refine ⟨h, by simp, ?_⟩
      intro a ha b hb
      simp at hb
      subst hb
      intro e
      exact hm (e ▸ ha)

theorem pend_length (f : Nat) : ∀ (m n : Nat) (q : List (Nat × Nat)), (pend f n m q).length ≤ q.length + m
  | 0, _, _ => by simp [pend]
  | m + 1, n, q => by
    rw [pend]
    have := pend_length f m (n + 1) (if (f, n) ∈ q then q else q ++ [(f, n)])
    by_cases hm : (f, n) ∈ q
    · rw [if_pos hm] at this ⊢; omega
    · rw [if_neg hm] at this ⊢; simp at this; omega

/-! ### survivors -/

theorem lives_sub (keep : List Int) : ∀ (l : List (Nat × Nat)) (i : Nat), ∀ x ∈ lives keep i l, x ∈ l
  | [], _, x, h => by simp [lives] at h
  | y :: l, i, x, h => by
    rw [lives] at h
    split at h
    · rcases List.mem_cons.1 h with rfl | h
      · simp
      · exact List.mem_cons_of_mem _ (lives_sub keep l _ x h)
    · exact List.mem_cons_of_mem _ (lives_sub keep l _ x h)

theorem lives_none : ∀ (l : List (Nat × Nat)) (i : Nat), lives [] i l = []
  | [], _ => rfl
  | x :: l, i => by simp [lives, odd, lives_none l]

theorem lives_all : ∀ (l : List (Nat × Nat)) (i : Nat), lives [1] i l = l
  | [], _ => rfl
  | x :: l, i => by
    have : odd [1] i = true := by simp [odd, Nat.mod_one]
    rw [lives, if_pos this, lives_all l]

theorem live_F (d : Dk) : ∀ l : List (Nat × Nat), (l.foldl Dk.live d).F = d.F ∧ (l.foldl Dk.live d).q = d.q ∧ (l.foldl Dk.live d).R = d.R ∧ (l.foldl Dk.live d).down = d.down ∧ (l.foldl Dk.live d).lost = d.lost ∧ (l.foldl Dk.live d).calls = d.calls ∧ (l.foldl Dk.live d).keep = d.keep := by
  intro l
  induction l generalizing d with
  | nil => exact ⟨rfl, rfl, rfl, rfl, rfl, rfl, rfl⟩
  | cons x l ih => exact ih (d.live x)

theorem live_B (f p : Nat) : ∀ (l : List (Nat × Nat)) (d : Dk), (l.foldl Dk.live d).D.B f p = if (f, p / 64) ∈ l then d.F.B f p else d.D.B f p
  | [], d => by simp
  | (g, n) :: l, d => by
    rw [List.foldl_cons, live_B f p l]
    show (if (f, p / 64) ∈ l then d.F.B f p else if f = g ∧ p / 64 = n then d.F.B f p else d.D.B f p) = _
    by_cases h : (f, p / 64) ∈ l
    · simp [h]
    · by_cases h2 : f = g ∧ p / 64 = n
      · obtain ⟨rfl, rfl⟩ := h2; simp
      · rw [if_neg h, if_neg h2, if_neg]
        simp only [List.mem_cons, Prod.mk.injEq, not_or]
        exact ⟨h2, h⟩

/-- How long the durable part of a file is behind the survivors. -/
theorem live_sz (f : Nat) : ∀ (l : List (Nat × Nat)) (d : Dk), d.D.sz f ≤ (l.foldl Dk.live d).D.sz f ∧ (d.D.sz f ≤ d.F.sz f → (l.foldl Dk.live d).D.sz f ≤ d.F.sz f) ∧
    (∀ n, (f, n) ∈ l → min (64 * (n + 1)) (d.F.sz f) ≤ (l.foldl Dk.live d).D.sz f) ∧ ((l.foldl Dk.live d).D.sz f = d.D.sz f ∨ ∃ n, (f, n) ∈ l ∧ (l.foldl Dk.live d).D.sz f = min (64 * (n + 1)) (d.F.sz f))
  | [], d => ⟨Nat.le_refl _, fun h => h, by simp, Or.inl rfl⟩
  | (g, n) :: l, d => by
    rw [List.foldl_cons]
    obtain ⟨h1, h2, h3, h4⟩ := live_sz f l (d.live (g, n))
    have e : (d.live (g, n)).D.sz f = if f = g then max (d.D.sz f) (min (64 * (n + 1)) (d.F.sz f)) else d.D.sz f := rfl
    have eF : (d.live (g, n)).F.sz f = d.F.sz f := rfl
    rw [eF] at h2 h3 h4
    by_cases hg : f = g
    · subst hg
      rw [if_pos rfl] at e
      refine ⟨by omega, fun h => h2 (by omega), ?_, ?_⟩
      · intro k hk
        rcases List.mem_cons.1 hk with hk | hk
        · simp at hk; subst hk; omega
        · exact h3 k hk
      · rcases h4 with h4 | ⟨k, hk, h4⟩
        · by_cases hm : d.D.sz f ≤ min (64 * (n + 1)) (d.F.sz f)
          · exact Or.inr ⟨n, by simp, by omega⟩
          · exact Or.inl (by omega)
        · exact Or.inr ⟨k, List.mem_cons_of_mem _ hk, h4⟩
    · rw [if_neg hg] at e
      refine ⟨by omega, fun h => h2 (by omega), ?_, ?_⟩
      · intro k hk
        rcases List.mem_cons.1 hk with hk | hk
        · simp at hk; exact absurd hk.1 hg
        · exact h3 k hk
      · rcases h4 with h4 | ⟨k, hk, h4⟩
        · exact Or.inl (by omega)
        · exact Or.inr ⟨k, List.mem_cons_of_mem _ hk, h4⟩

end Go.Proofs.YtanecondopbfhaaGreatDoor
