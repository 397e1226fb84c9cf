/- The encodings of texts and numbers, and their reader, in the seat of proof. -/
import Derived.Test.YthnkfjjgccabeaaGreatDoorNumb
import Derived.Test.YthnkfjjgccabeaaGreatDoorShelf
import Derived.Deep.LoopGhost
import Derived.Lib.AppendIntMem
import Derived.Lib.AtoiAll
import Derived.Lib.Bytealg
import Derived.Lib.ItoaNum
import Derived.Lib.SmallJoins
import Derived.Outline
import Derived.WalkKit
namespace Go.Proofs.YthnkfjjgccabeaaGreatDoor.Cod
open Go.RowKit Go.Lib
theorem bs_drop (l : List UInt8) (i : Nat) : (bs l).extract i (bs l).size = bs (l.drop i) := by
  rw [Lib.extract_eq, bs_data, bs_size, ← List.length_drop, List.take_length]; rfl

/-! ### digits -/

def isDig (c : UInt8) : Bool := decide (48 ≤ c.toNat ∧ c.toNat ≤ 57)

theorem dig_toNat (k : Nat) (h : k < 10) : (UInt8.ofNat (48 + k)).toNat = 48 + k := by
  simp [UInt8.toNat_ofNat']; omega

theorem decDigits_small {u : Nat} (h : u < 10) : decDigits u = [UInt8.ofNat (48 + u)] := by rw [decDigits, dif_pos h]

theorem decDigits_big {u : Nat} (h : ¬ u < 10) : decDigits u = decDigits (u / 10) ++ [UInt8.ofNat (48 + u % 10)] := by rw [decDigits, dif_neg h]

theorem decDigits_isDig (u : Nat) : ∀ c ∈ decDigits u, isDig c = true := by
  induction u using Nat.strongRecOn with
  | _ u ih =>
    intro c hc
    by_cases h : u < 10
    · rw [decDigits_small h] at hc
      simp only [List.mem_singleton] at hc
      subst hc
      simp only [isDig, decide_eq_true_eq, dig_toNat u h]; omega
    · rw [decDigits_big h, List.mem_append] at hc
      rcases hc with hc | hc
      · exact ih (u / 10) (by omega) c hc
      · simp only [List.mem_singleton] at hc
        subst hc
        have := dig_toNat (u % 10) (by omega)
        simp only [isDig, decide_eq_true_eq, this]; omega

theorem decDigits_ne (u : Nat) : decDigits u ≠ [] := by
  by_cases h : u < 10
  · rw [decDigits_small h]; simp
  · rw [decDigits_big h]; simp

theorem decDigits_head (u : Nat) : ∃ c r, decDigits u = c :: r ∧ isDig c = true := by
  cases h : decDigits u with
  | nil => exact absurd h (decDigits_ne u)
  | cons c r => exact ⟨c, r, rfl, decDigits_isDig u c (by rw [h]; simp)⟩

theorem parse_append : ∀ (l m : List UInt8) (acc u : Nat), parseUint10 acc l = .ok u → parseUint10 acc (l ++ m) = parseUint10 u m
  | [], m, acc, u, h => by
    simp only [parseUint10, NumEnd.ok.injEq] at h
    subst h; rfl
  | c :: r, m, acc, u, h => by
    simp only [parseUint10] at h
    simp only [List.cons_append, parseUint10]
    split at h
    · rename_i hc
      rw [if_pos hc]
      split at h
      · cases h
      · rename_i h1
        rw [if_neg h1]
        split at h
        · cases h
        · rename_i h2
          rw [if_neg h2]
          exact parse_append r m _ u h
    · cases h

theorem parse_decDigits (u : Nat) : u < 18446744073709551616 → parseUint10 0 (decDigits u) = .ok u := by
  induction u using Nat.strongRecOn with
  | _ u ih =>
    intro hu
    by_cases h : u < 10
    · rw [decDigits_small h]
      have e := dig_toNat u h
      simp only [parseUint10, e]
      rw [if_pos (by omega), if_neg (by omega), if_neg (by omega)]
      simp
    · rw [decDigits_big h, parse_append _ _ 0 (u / 10) (ih (u / 10) (by omega) (by omega))]
      have e := dig_toNat (u % 10) (by omega)
      simp only [parseUint10, e]
      rw [if_pos (by omega), if_neg (by omega), if_neg (by omega)]
      simp only [NumEnd.ok.injEq]
      omega

/-- An int's decimal numeral is parsed to this int. -/
theorem atoiAll_itoa (n : Int) (h0 : -9223372036854775808 ≤ n) (h1 : n ≤ 9223372036854775807) : atoiAll (itoa n) = .ok n := by
  unfold itoa
  by_cases hn : n < 0
  · rw [if_pos hn]
    have hp := parse_decDigits n.natAbs (by omega)
    unfold atoiAll
    simp only
    rw [if_pos (by right; decide)]
    unfold parseMag
    rw [if_neg (decDigits_ne _), hp]
    simp only
    have e : (45 : UInt8).toNat = 45 := by decide
    rw [if_neg (by simp [e]), if_neg (by omega), if_pos e]
    simp only [NumEnd.ok.injEq]
    omega
  · rw [if_neg hn]
    obtain ⟨c, r, hc, hd⟩ := decDigits_head n.toNat
    have hp := parse_decDigits n.toNat (by omega)
    rw [hc] at hp ⊢
    simp only [isDig, decide_eq_true_eq] at hd
    unfold atoiAll
    simp only
    rw [if_neg (by omega)]
    unfold parseMag
    rw [if_neg (by simp), hp]
    simp only
    rw [if_neg (by omega), if_neg (by omega), if_neg (by omega)]
    simp only [NumEnd.ok.injEq]
    omega

theorem itoa_inj (a b : Int) (ha0 : -9223372036854775808 ≤ a) (ha1 : a ≤ 9223372036854775807) (hb0 : -9223372036854775808 ≤ b) (hb1 : b ≤ 9223372036854775807) (h : itoa a = itoa b) : a = b := by
  have x := atoiAll_itoa a ha0 ha1
  rw [h, atoiAll_itoa b hb0 hb1] at x
  simpa using x.symm

/-- What base.canonical answers. -/
def canon (l : List UInt8) : Option Int :=
  match atoiAll l with
  | .ok v => if itoa v = l then some v else none
  | _ => none

def isInt (n : Int) : Prop := -9223372036854775808 ≤ n ∧ n ≤ 9223372036854775807

theorem canon_itoa (n : Int) (h : isInt n) : canon (itoa n) = some n := by
  unfold canon; rw [atoiAll_itoa n h.1 h.2]; simp

theorem canon_some {l : List UInt8} {n : Int} (h : canon l = some n) : itoa n = l := by
  unfold canon at h
  split at h
  · split at h
    · rename_i he
      simp only [Option.some.injEq] at h
      subst h; exact he
    · cases h
  · cases h

theorem atoiAll_int {l : List UInt8} {n : Int} (h : atoiAll l = .ok n) : isInt n := by
  unfold atoiAll at h
  cases l with
  | nil => simp at h
  | cons c r =>
    simp only at h
    unfold isInt
    split at h
    · cases h
    · cases h
    · rename_i u hm
      split at h
      · cases h
      · split at h
        · cases h
        · split at h
          · simp only [NumEnd.ok.injEq] at h; omega
          · simp only [NumEnd.ok.injEq] at h; omega

theorem canon_int {l : List UInt8} {n : Int} (h : canon l = some n) : isInt n := by
  unfold canon at h
  split at h
  · rename_i v hm
    split at h
    · simp only [Option.some.injEq] at h
      subst h; exact atoiAll_int hm
    · cases h
  · cases h

/-! ### the encodings -/

def intS (n : Int) : List UInt8 := itoa n ++ [59]

def numS (n : Int) : List UInt8 := if n < 0 then [] else intS n

def textS (s : List UInt8) : List UInt8 := itoa (s.length : Int) ++ 58 :: (s ++ [44])

def numsS (l : List Int) : List UInt8 := itoa (l.length : Int) ++ 91 :: (l.flatMap intS ++ [93])

def textsS (l : List (List UInt8)) : List UInt8 := itoa (l.length : Int) ++ 91 :: (l.flatMap textS ++ [93])

/-! ### indexByte -/

theorem indexByte_cons (c d : UInt8) (l : List UInt8) : indexByte (d :: l) c = if d = c then 0 else if indexByte l c < 0 then -1 else indexByte l c + 1 := by
  have hg := indexByte_ge l c
  show (if (d == c) = true then (0 : Int) else if (indexByte l c == -1) = true then -1 else indexByte l c + 1) = _
  generalize indexByte l c = z at *
  by_cases h : d = c
  · simp [h]
  · have h2 : (d == c) = false := by simp [h]
    rw [h2, if_neg h]
    by_cases h3 : z = -1
    · simp [h3]
    · have h4 : (z == -1) = false := by simp [h3]
      rw [h4, if_neg (show ¬ z < 0 by omega)]; simp

/-- The byte is not among the first ones. -/
theorem indexByte_skip (c : UInt8) : ∀ (l m : List UInt8), (∀ x ∈ l, x ≠ c) → indexByte (l ++ c :: m) c = (l.length : Int)
  | [], m, _ => by simp [indexByte_cons]
  | d :: l, m, h => by
    have ih := indexByte_skip c l m (fun x hx => h x (List.mem_cons_of_mem _ hx))
    rw [List.cons_append, indexByte_cons, if_neg (h d (List.mem_cons_self ..)), ih, if_neg (by omega)]
    simp

/-- What a hit says. -/
theorem indexByte_hit (c : UInt8) : ∀ (l : List UInt8), 0 ≤ indexByte l c → ∃ a b, l = a ++ c :: b ∧ indexByte l c = (a.length : Int)
  | [], h => by simp [indexByte] at h
  | d :: l, h => by
    rw [indexByte_cons] at h ⊢
    by_cases hd : d = c
    · subst hd; exact ⟨[], l, rfl, by simp⟩
    · rw [if_neg hd] at h ⊢
      by_cases h3 : indexByte l c < 0
      · rw [if_pos h3] at h; omega
      · rw [if_neg h3] at h ⊢
        obtain ⟨a, b, e, hi⟩ := indexByte_hit c l (by omega)
        exact ⟨d :: a, b, by rw [e]; rfl, by rw [hi]; simp⟩

theorem indexByte_lt (c : UInt8) (l : List UInt8) : indexByte l c < (l.length : Int) ∨ l = [] := by
  by_cases h : 0 ≤ indexByte l c
  · obtain ⟨a, b, e, hi⟩ := indexByte_hit c l h
    left; rw [hi, e]; simp; omega
  · cases l with
    | nil => right; rfl
    | cons => left; simp; omega

/-! ### the reader -/

/-- What is left, and whether the reader has failed. -/
abbrev Rd := List UInt8 × Bool

def failed : Rd := ([], true)

def digitsF (c : UInt8) (r : Rd) : Int × Rd :=
  if indexByte r.1 c < 0 then (0, failed)
  else match canon (r.1.take (indexByte r.1 c).toNat) with
    | some n => (n, (r.1.drop ((indexByte r.1 c).toNat + 1), r.2))
    | none => (0, failed)

def naturalF (c : UInt8) (r : Rd) : Int × Rd := if (digitsF c r).1 < 0 then (0, failed) else digitsF c r

def closingF (c : UInt8) (r : Rd) : Rd := match r.1 with
  | [] => failed
  | d :: t => if d = c then (t, r.2) else failed

def textF (r : Rd) : List UInt8 × Rd :=
  if ((naturalF 58 r).2.1.length : Int) < (naturalF 58 r).1 then ([], failed)
  else
    let q := closingF 44 ((naturalF 58 r).2.1.drop (naturalF 58 r).1.toNat, (naturalF 58 r).2.2)
    if q.2 = true then ([], q) else ((naturalF 58 r).2.1.take (naturalF 58 r).1.toNat, q)

/-- The loop of readList: at most n elements are read, none behind a failure. -/
def loopF {α : Type} (one : Rd → α × Rd) : Nat → Rd → List α × Rd
  | 0, r => ([], r)
  | n + 1, r => if r.2 = true then ([], r) else ((one r).1 :: (loopF one n (one r).2).1, (loopF one n (one r).2).2)

def listF {α : Type} (one : Rd → α × Rd) (r : Rd) : List α × Rd :=
  let q := loopF one (naturalF 91 r).1.toNat (naturalF 91 r).2
  let z := closingF 93 q.2
  if z.2 = true then ([], z) else (q.1, z)

def intF (r : Rd) : Int × Rd := digitsF 59 r

def numF (r : Rd) : Int × Rd := naturalF 59 r

def numsF (r : Rd) : List Int × Rd := listF intF r

def textsF (r : Rd) : List (List UInt8) × Rd := listF textF r

/-- A failed reader has nothing left. -/
def okRd (r : Rd) : Prop := r.2 = true → r.1 = []

theorem okRd_failed : okRd failed := fun _ => rfl

theorem okRd_fresh (s : List UInt8) : okRd (s, false) := fun h => by cases h

theorem digitsF_ok {c : UInt8} {r : Rd} (h : okRd r) : okRd (digitsF c r).2 := by
  unfold digitsF
  split
  · exact okRd_failed
  · split
    · intro hf; simp only at hf; have := h hf; simp [this]
    · exact okRd_failed

theorem naturalF_ok {c : UInt8} {r : Rd} (h : okRd r) : okRd (naturalF c r).2 := by
  unfold naturalF
  split
  · exact okRd_failed
  · exact digitsF_ok h

theorem closingF_ok {c : UInt8} {r : Rd} (h : okRd r) : okRd (closingF c r) := by
  unfold closingF
  split
  · exact okRd_failed
  · rename_i d t e
    split
    · intro hf; have := h hf; rw [e] at this; cases this
    · exact okRd_failed

theorem textF_ok {r : Rd} (h : okRd r) : okRd (textF r).2 := by
  unfold textF
  split
  · exact okRd_failed
  · have hn : okRd (naturalF 58 r).2 := naturalF_ok h
    have : okRd (closingF 44 ((naturalF 58 r).2.1.drop (naturalF 58 r).1.toNat, (naturalF 58 r).2.2)) := closingF_ok (fun hf => by have := hn hf; simp [this])
    simp only
    split <;> exact this

/-- A reader that has failed fails again. -/
theorem indexByte_nil (c : UInt8) : indexByte [] c = -1 := rfl

theorem digitsF_failed (c : UInt8) : digitsF c failed = (0, failed) := by simp [digitsF, failed, indexByte_nil]

theorem naturalF_failed (c : UInt8) : naturalF c failed = (0, failed) := by simp [naturalF, digitsF_failed]

theorem closingF_failed (c : UInt8) : closingF c failed = failed := rfl

theorem textF_failed : textF failed = ([], failed) := by unfold textF; rw [naturalF_failed]; rfl

theorem loopF_failed {α : Type} (one : Rd → α × Rd) (n : Nat) : loopF one n failed = ([], failed) := by cases n <;> simp [loopF, failed]

theorem listF_failed {α : Type} (one : Rd → α × Rd) : listF one failed = ([], failed) := by unfold listF; rw [naturalF_failed]; rfl

/-- Reading never lengthens what is left. -/
theorem digitsF_len (c : UInt8) (r : Rd) : (digitsF c r).2.1.length ≤ r.1.length := by
  unfold digitsF
  split
  · simp [failed]
  · split
    · simp
    · simp [failed]

theorem naturalF_len (c : UInt8) (r : Rd) : (naturalF c r).2.1.length ≤ r.1.length := by
  unfold naturalF
  split
  · simp [failed]
  · exact digitsF_len c r

theorem closingF_len (c : UInt8) (r : Rd) : (closingF c r).1.length ≤ r.1.length := by
  unfold closingF
  split
  · simp [failed]
  · rename_i d t e
    split
    · rw [e]; simp
    · simp [failed]

theorem textF_len (r : Rd) : (textF r).2.1.length ≤ r.1.length := by
  unfold textF
  have h1 := naturalF_len 58 r
  split
  · simp [failed]
  · have h2 := closingF_len 44 ((naturalF 58 r).2.1.drop (naturalF 58 r).1.toNat, (naturalF 58 r).2.2)
    simp only [List.length_drop] at h2
    simp only
    split <;> (simp only; omega)

theorem intF_int (r : Rd) : isInt (intF r).1 := by
  unfold intF digitsF isInt
  split
  · simp
  · split
    · rename_i n hn; exact canon_int hn
    · simp

theorem digitsF_int (c : UInt8) (r : Rd) : isInt (digitsF c r).1 := by
  unfold digitsF isInt
  split
  · simp
  · split
    · rename_i n hn; exact canon_int hn
    · simp

theorem naturalF_int (c : UInt8) (r : Rd) : 0 ≤ (naturalF c r).1 ∧ (naturalF c r).1 ≤ 9223372036854775807 := by
  unfold naturalF
  have := digitsF_int c r
  split
  · simp
  · exact ⟨by omega, this.2⟩

/-! ### reading inverts writing -/

/-- A byte that is in no numeral. -/
def noNum (c : UInt8) : Prop := c ≠ 45 ∧ isDig c = false

theorem itoa_no (n : Int) (c : UInt8) (h : noNum c) : ∀ x ∈ itoa n, x ≠ c := by
  intro x hx e
  subst e
  unfold itoa at hx
  split at hx
  · simp only [List.mem_cons] at hx
    rcases hx with hx | hx
    · exact h.1 hx
    · exact absurd ((decDigits_isDig _ _ hx).symm.trans h.2) (by decide)
  · exact absurd ((decDigits_isDig _ _ hx).symm.trans h.2) (by decide)

theorem digitsF_write (n : Int) (c : UInt8) (m : List UInt8) (f : Bool) (hn : isInt n) (hc : noNum c) : digitsF c (itoa n ++ c :: m, f) = (n, (m, f)) := by
  unfold digitsF
  rw [indexByte_skip c (itoa n) m (itoa_no n c hc), if_neg (by omega)]
  simp only [Int.toNat_natCast, List.take_left', canon_itoa n hn]
  simp

theorem naturalF_write (n : Int) (c : UInt8) (m : List UInt8) (f : Bool) (hn : isInt n) (h0 : 0 ≤ n) (hc : noNum c) : naturalF c (itoa n ++ c :: m, f) = (n, (m, f)) := by
  unfold naturalF
  rw [digitsF_write n c m f hn hc, if_neg (by simp only; omega)]

theorem noNum58 : noNum 58 := by unfold noNum; decide

theorem noNum59 : noNum 59 := by unfold noNum; decide

theorem noNum91 : noNum 91 := by unfold noNum; decide

theorem intF_write (n : Int) (m : List UInt8) (f : Bool) (hn : isInt n) : intF (intS n ++ m, f) = (n, (m, f)) := by
  unfold intF intS
  rw [List.append_assoc]
  exact digitsF_write n 59 m f hn noNum59

theorem numF_write (n : Int) (m : List UInt8) (f : Bool) (hn : isInt n) (h0 : 0 ≤ n) : numF (numS n ++ m, f) = (n, (m, f)) := by
  unfold numF numS intS
  rw [if_neg (by omega), List.append_assoc]
  exact naturalF_write n 59 m f hn h0 noNum59

theorem textF_write (s m : List UInt8) (hs : s.length ≤ 9223372036854775807) : textF (textS s ++ m, false) = (s, (m, false)) := by
  unfold textF textS
  have hi : isInt (s.length : Int) := by unfold isInt; omega
  rw [List.append_assoc, List.cons_append, naturalF_write (s.length : Int) 58 ((s ++ [44]) ++ m) false hi (by omega) noNum58]
  rw [if_neg (by simp only [List.length_append]; omega)]
  simp [closingF]

theorem loopF_write {α : Type} (one : Rd → α × Rd) (wr : α → List UInt8) (ok : α → Prop) (h : ∀ a m, ok a → one (wr a ++ m, false) = (a, (m, false))) :
    ∀ (l : List α) (m : List UInt8), (∀ a ∈ l, ok a) → loopF one l.length (l.flatMap wr ++ m, false) = (l, (m, false))
  | [], m, _ => by simp [loopF]
  | a :: l, m, hl => by
    have ih := loopF_write one wr ok h l m (fun x hx => hl x (List.mem_cons_of_mem _ hx))
    have h1 := h a (l.flatMap wr ++ m) (hl a (List.mem_cons_self ..))
    simp only [List.length_cons, loopF, List.flatMap_cons, List.append_assoc, h1, ih]
    simp

theorem listF_write {α : Type} (one : Rd → α × Rd) (wr : α → List UInt8) (ok : α → Prop) (h : ∀ a m, ok a → one (wr a ++ m, false) = (a, (m, false)))
    (l : List α) (m : List UInt8) (hl : ∀ a ∈ l, ok a) (hn : l.length ≤ 9223372036854775807) :
    listF one (itoa (l.length : Int) ++ 91 :: (l.flatMap wr ++ [93]) ++ m, false) = (l, (m, false)) := by
  unfold listF
  have hi : isInt (l.length : Int) := by unfold isInt; omega
  rw [List.append_assoc, List.cons_append, naturalF_write (l.length : Int) 91 ((l.flatMap wr ++ [93]) ++ m) false hi (by omega) noNum91]
  simp only [Int.toNat_natCast, List.append_assoc]
  rw [loopF_write one wr ok h l ([93] ++ m) hl]
  simp [closingF]

theorem numsF_write (l : List Int) (m : List UInt8) (hl : ∀ a ∈ l, isInt a) (hn : l.length ≤ 9223372036854775807) : numsF (numsS l ++ m, false) = (l, (m, false)) :=
  listF_write intF intS isInt (fun a m h => intF_write a m false h) l m hl hn

theorem textsF_write (l : List (List UInt8)) (m : List UInt8) (hl : ∀ a ∈ l, a.length ≤ 9223372036854775807) (hn : l.length ≤ 9223372036854775807) : textsF (textsS l ++ m, false) = (l, (m, false)) :=
  listF_write textF textS (fun a => a.length ≤ 9223372036854775807) (fun a m h => textF_write a m h) l m hl hn

/-! ### what was read has exactly the bytes that were read as its encoding -/

theorem digitsF_read {c : UInt8} {r : Rd} (h : (digitsF c r).2.2 = false) : r.2 = false ∧ r.1 = itoa (digitsF c r).1 ++ c :: (digitsF c r).2.1 := by
  unfold digitsF at h ⊢
  by_cases h1 : indexByte r.1 c < 0
  · rw [if_pos h1] at h; cases h
  · rw [if_neg h1] at h ⊢
    obtain ⟨a, b, e, hi⟩ := indexByte_hit c r.1 (by omega)
    rw [hi] at h ⊢
    simp only [Int.toNat_natCast] at h ⊢
    rw [e] at h ⊢
    rw [List.take_left' rfl] at h ⊢
    cases hcn : canon a with
    | none => rw [hcn] at h; cases h
    | some n =>
      rw [hcn] at h
      simp only at h ⊢
      refine ⟨h, ?_⟩
      rw [canon_some hcn]
      simp

theorem naturalF_read {c : UInt8} {r : Rd} (h : (naturalF c r).2.2 = false) : r.2 = false ∧ r.1 = itoa (naturalF c r).1 ++ c :: (naturalF c r).2.1 := by
  unfold naturalF at h ⊢
  split at h
  · cases h
  · rename_i hn
    rw [if_neg hn]; exact digitsF_read h

theorem intF_read {r : Rd} (h : (intF r).2.2 = false) : r.2 = false ∧ r.1 = intS (intF r).1 ++ (intF r).2.1 := by
  have := digitsF_read h
  refine ⟨this.1, ?_⟩
  rw [this.2]
  simp [intF, intS]

theorem numF_read {r : Rd} (h : (numF r).2.2 = false) : r.2 = false ∧ r.1 = numS (numF r).1 ++ (numF r).2.1 := by
  have := naturalF_read h
  refine ⟨this.1, ?_⟩
  have h0 := naturalF_int 59 r
  rw [this.2]
  show itoa (naturalF 59 r).1 ++ 59 :: (naturalF 59 r).2.1 = numS (naturalF 59 r).1 ++ (naturalF 59 r).2.1
  unfold numS intS
  rw [if_neg (by omega)]
  simp

theorem closingF_read {c : UInt8} {r : Rd} (h : (closingF c r).2 = false) : r.2 = false ∧ r.1 = c :: (closingF c r).1 := by
  unfold closingF at h ⊢
  split at h
  · cases h
  · rename_i d t e
    split at h
    · rename_i hd
      subst hd
      rw [e]; simp only [if_pos]; exact ⟨h, trivial⟩
    · cases h

theorem textF_read {r : Rd} (h : (textF r).2.2 = false) : r.2 = false ∧ r.1 = textS (textF r).1 ++ (textF r).2.1 := by
  unfold textF at h ⊢
  split at h
  · cases h
  · rename_i hn
    rw [if_neg hn]
    simp only at h ⊢
    split at h
    · rename_i hq; rw [hq] at h; cases h
    · rename_i hq
      rw [if_neg hq]
      have h1 := closingF_read h
      simp only at h1
      have h2 := naturalF_read h1.1
      refine ⟨h2.1, ?_⟩
      have h0 := naturalF_int 58 r
      generalize naturalF 58 r = z at *
      obtain ⟨n, rest, f⟩ := z
      simp only at *
      obtain ⟨k, rfl⟩ := Int.eq_ofNat_of_zero_le h0.1
      simp only [Int.toNat_natCast] at *
      have hk : k ≤ rest.length := by omega
      rw [h2.2]
      unfold textS
      rw [List.length_take, Nat.min_eq_left hk]
      have h3 := h1.2
      have e : rest = rest.take k ++ 44 :: (closingF 44 (rest.drop k, f)).1 := by
        rw [← h3, List.take_append_drop]
      conv => lhs; rw [e]
      simp

theorem loopF_read {α : Type} (one : Rd → α × Rd) (wr : α → List UInt8) (h : ∀ r, (one r).2.2 = false → r.2 = false ∧ r.1 = wr (one r).1 ++ (one r).2.1) :
    ∀ (n : Nat) (r : Rd), (loopF one n r).2.2 = false → r.2 = false ∧ (loopF one n r).1.length = n ∧ r.1 = (loopF one n r).1.flatMap wr ++ (loopF one n r).2.1
  | 0, r, hf => by simp only [loopF] at hf ⊢; simp [hf]
  | n + 1, r, hf => by
    simp only [loopF] at hf ⊢
    split at hf
    · rename_i hr; simp only at hf; rw [hf] at hr; cases hr
    · rename_i hr
      rw [if_neg hr]
      simp only at hf ⊢
      obtain ⟨h1, h2, h3⟩ := loopF_read one wr h n _ hf
      have h4 := h r h1
      refine ⟨h4.1, by simp [h2], ?_⟩
      rw [h4.2]
      conv => lhs; rw [h3]
      simp

theorem listF_read {α : Type} (one : Rd → α × Rd) (wr : α → List UInt8) (h : ∀ r, (one r).2.2 = false → r.2 = false ∧ r.1 = wr (one r).1 ++ (one r).2.1)
    {r : Rd} (hf : (listF one r).2.2 = false) : r.2 = false ∧ r.1 = itoa ((listF one r).1.length : Int) ++ 91 :: ((listF one r).1.flatMap wr ++ [93]) ++ (listF one r).2.1 := by
  unfold listF at hf ⊢
  simp only at hf ⊢
  split at hf
  · rename_i hz; simp only at hf; rw [hf] at hz; cases hz
  · rename_i hz
    rw [if_neg hz]
    simp only at hf ⊢
    have h1 := closingF_read hf
    have h2 := loopF_read one wr h _ _ h1.1
    have h3 := naturalF_read h2.1
    have h0 := naturalF_int 91 r
    refine ⟨h3.1, ?_⟩
    rw [h3.2, h2.2.1]
    conv => lhs; rw [h2.2.2, h1.2]
    rw [Int.toNat_of_nonneg h0.1]
    simp

theorem numsF_read {r : Rd} (h : (numsF r).2.2 = false) : r.2 = false ∧ r.1 = numsS (numsF r).1 ++ (numsF r).2.1 :=
  listF_read intF intS (fun _ => intF_read) h

theorem textsF_read {r : Rd} (h : (textsF r).2.2 = false) : r.2 = false ∧ r.1 = textsS (textsF r).1 ++ (textsF r).2.1 :=
  listF_read textF textS (fun _ => textF_read) h

/-- What the world holds of the library's variables. -/
structure Env (w : World) : Prop where
  lo : 10 ≤ w.heap.size
  tab : Lib.TabIs Tryz.prog w "internal/strconv.uint64pow10" .u64 Lib.pow10Tab
  eS : ∃ te pe, w.cell? ⟨8, 0, none⟩ = some (.iface te pe)
  eR : ∃ te pe, w.cell? ⟨9, 0, none⟩ = some (.iface te pe)

theorem Env.below {w w' : World} (h : Env w) {B : Nat} (hb : Below B w w') (hB : 10 ≤ B) : Env w' where
  lo := Nat.le_trans h.lo hb.size
  tab := var?_below (g := 6) hb (by kernel_rfl) (by omega) h.tab
  eS := by rw [hb.cell (p := ⟨8, 0, none⟩) (by simp only; omega)]; exact h.eS
  eR := by rw [hb.cell (p := ⟨9, 0, none⟩) (by simp only; omega)]; exact h.eR

theorem Env.next {w w' : World} (h : Env w) (hb : Below w.heap.size w w') : Env w' := h.below hb h.lo

theorem bs_append (a b : List UInt8) : bs a ++ bs b = bs (a ++ b) := by
  unfold bs; rw [ByteArray.ext_iff]; simp

theorem itoa_calls (n : Int) (hn : isInt n) (w : World) (hE : Env w) :
    Calls Tryz.prog 77 #[.int .i64 n] w fun e w' => e = .returned (.string (bs (Lib.itoa n))) ∧ Below w.heap.size w w' := by
  refine (Tryz.strconv_Itoa n hn.1 hn.2 w hE.tab).mono ?_
  rintro e w' ⟨rfl, k, os, rfl⟩
  exact ⟨rfl, Lib.below_grow _ _ (Nat.le_refl _) _ _⟩

theorem ret_str {a b : ByteArray} (h : a = b) : Ending.returned (.string a) = .returned (.string b) := by rw [h]

theorem nDigits_le : ∀ (k u : Nat), u < 10 ^ (k + 1) → Lib.nDigits u ≤ k + 1
  | 0, u, h => by rw [Lib.nDigits_small (by simpa using h)]; omega
  | k + 1, u, h => by
    by_cases h1 : u < 10
    · rw [Lib.nDigits_small h1]; omega
    · rw [Lib.nDigits_big h1]
      have := nDigits_le k (u / 10) (by rw [Nat.pow_succ] at h; omega)
      omega

theorem itoa_len (n : Int) (hn : isInt n) : (Lib.itoa n).length ≤ 20 := by
  have h1 := hn.1
  have h2 := hn.2
  unfold Lib.itoa
  split
  · rw [List.length_cons, Lib.decDigits_length]
    have := nDigits_le 18 n.natAbs (by simp; omega)
    omega
  · rw [Lib.decDigits_length]
    have := nDigits_le 18 n.toNat (by simp; omega)
    omega

theorem itoa_size (n : Int) (hn : isInt n) : (bs (Lib.itoa n)).size ≤ 20 := by rw [bs_size]; exact itoa_len n hn

theorem intS_len (n : Int) (hn : isInt n) : (intS n).length ≤ 21 := by unfold intS; have := itoa_len n hn; simp; omega

theorem isInt_len {n : Nat} (h : n ≤ 4294967296) : isInt (n : Int) := by unfold isInt; omega

set_option maxRecDepth 100000 in
theorem base_Int (n : Int) (hn : isInt n) (w : World) (hE : Env w) :
    Calls Tryz.prog 57 #[.int .i64 n] w fun e w' => e = .returned (.string (bs (intS n))) ∧ Below w.heap.size w w' := by
  have hs := itoa_size n hn
  go_enter Tryz.func57, Tryz.ntmps57
  go_wp2_with (go_at_call 77; refine (itoa_calls n hn _ hE).mono ?_)
  rintro e w1 ⟨rfl, hb⟩
  go_wp2
  go_ret
  exact ⟨by rw [show (ByteArray.mk #[59]) = bs [59] from rfl, bs_append]; rfl, hb⟩

set_option maxRecDepth 100000 in
theorem base_Text (s : ByteArray) (hs : s.size ≤ 4294967296) (w : World) (hE : Env w) :
    Calls Tryz.prog 71 #[.string s] w fun e w' => e = .returned (.string (bs (textS s.data.toList))) ∧ Below w.heap.size w w' := by
  have hz := itoa_size (s.size : Int) (isInt_len hs)
  go_enter Tryz.func71, Tryz.ntmps71
  go_wp2_with (go_at_call 77; refine (itoa_calls _ (isInt_len hs) _ hE).mono ?_)
  rintro e w1 ⟨rfl, hb⟩
  go_wp2
  go_ret
  refine ⟨?_, hb⟩
  have e1 : bs (Lib.itoa (s.size : Int)) ++ ⟨#[58]⟩ ++ s ++ ⟨#[44]⟩ = bs (textS s.data.toList) := by
    rw [show (ByteArray.mk #[58]) = bs [58] from rfl, show (ByteArray.mk #[44]) = bs [44] from rfl, ← bs_of s, bs_append, bs_append, bs_append, bs_data, bs_size]
    unfold textS; simp
  exact ret_str e1

/-! ### lists -/

theorem textS_len (s : List UInt8) (hs : s.length ≤ 4294967296) : (textS s).length ≤ 4294967330 := by
  have := itoa_len (s.length : Int) (isInt_len hs)
  unfold textS; simp; omega

theorem base_Text_bs (s : List UInt8) (hs : s.length ≤ 4294967296) (w : World) (hE : Env w) :
    Calls Tryz.prog 71 #[.string (bs s)] w fun e w' => e = .returned (.string (bs (textS s))) ∧ Below w.heap.size w w' := by
  have := base_Text (bs s) (by rw [bs_size]; exact hs) w hE
  rw [bs_data] at this
  exact this

/-! ### only one block turns -/

theorem only_refl (w : World) (b : Nat) : w.grownBy w (some b) := ⟨rfl, rfl, rfl, Nat.le_refl _, fun _ _ _ => rfl⟩

theorem only_trans {a b c : World} {g : Nat} (h : a.grownBy b (some g)) (k : b.grownBy c (some g)) : a.grownBy c (some g) :=
  ⟨k.os.trans h.os, k.tape.trans h.tape, k.output.trans h.output, Nat.le_trans h.size k.size, fun i hi hn => (k.block i (Nat.lt_of_lt_of_le hi h.size) hn).trans (h.block i hi hn)⟩

theorem only_drew {a w : World} {row : Option Nat} (h : a.grownBy w row) : a.grownBy w.drew row := ⟨h.os, h.tape, h.output, h.size, h.block⟩

theorem only_alloc {a w : World} {row : Option Nat} (h : a.grownBy w row) (o : Obj) : a.grownBy (w.alloc o) row :=
  ⟨h.os, h.tape, h.output, Nat.le_trans h.size (by simp), fun i hi hne => (Below.heap_alloc w o i (Nat.lt_of_lt_of_le hi h.size)).trans (h.block i hi hne)⟩

theorem only_setCell {a w : World} {g : Nat} (h : a.grownBy w (some g)) {p : Addr} (hp : p.block = g ∨ a.heap.size ≤ p.block) (u : Value) : a.grownBy (w.setCell p u) (some g) :=
  ⟨h.os, h.tape, h.output, by simpa [World.setCell] using h.size, fun i hi hne => (Below.heap_setCell w p u i (by
    rintro rfl
    rcases hp with hp | hp
    · exact hne (by rw [hp])
    · omega)).trans (h.block i hi hne)⟩

theorem only_below {a w w' : World} {g : Nat} (h : a.grownBy w (some g)) (hb : Below w.heap.size w w') : a.grownBy w' (some g) :=
  ⟨hb.os.trans h.os, hb.tape.trans h.tape, hb.output.trans h.output, Nat.le_trans h.size hb.size, fun i hi hn => (hb.block i (Nat.lt_of_lt_of_le hi h.size)).trans (h.block i hi hn)⟩

theorem Env.only {w w' : World} (h : Env w) {g : Nat} (hb : w.grownBy w' (some g)) (hg : 10 ≤ g) : Env w' := by
  have hb2 : Below 10 w w' := ⟨hb.os, hb.tape, hb.output, hb.size, fun i hi => hb.block i (by have := h.lo; omega) (by simp; omega)⟩
  exact h.below hb2 (Nat.le_refl _)

/-- The reader's block. -/
def Rb (b : Nat) (r : Rd) (w : World) : Prop := w.heap[b]? = some (.cells #[.string (bs r.1), .bool r.2] 110 (0, 0))

theorem Rb.lt {b : Nat} {r : Rd} {w : World} (h : Rb b r w) : b < w.heap.size := by
  rcases Nat.lt_or_ge b w.heap.size with h' | h'
  · exact h'
  · unfold Rb at h; simp [Array.getElem?_eq_none h'] at h

theorem Rb.c0 {b : Nat} {r : Rd} {w : World} (h : Rb b r w) : w.cell? ⟨b, 0, none⟩ = some (.string (bs r.1)) := by rw [Lib.cell_of_heap h]; rfl

theorem Rb.c1 {b : Nat} {r : Rd} {w : World} (h : Rb b r w) : w.cell? ⟨b, 1, none⟩ = some (.bool r.2) := by rw [Lib.cell_of_heap h]; rfl

theorem Rb.f {b : Nat} {r : Rd} {w : World} (h : Rb b r w) (j : Nat) : w.frozen? ⟨b, j, none⟩ = false := Lib.frozen_of_heap h j

theorem Rb.next {b : Nat} {r : Rd} {w w' : World} (h : Rb b r w) (hb : Below w.heap.size w w') : Rb b r w' := by
  have hlt := h.lt
  unfold Rb at h ⊢
  rw [hb.block b hlt]; exact h

theorem Rb.set0 {b : Nat} {r : Rd} {w : World} (h : Rb b r w) (l : List UInt8) : Rb b (l, r.2) (w.setCell ⟨b, 0, none⟩ (.string (bs l))) := by
  unfold Rb at h ⊢
  simp [World.setCell, Array.getElem?_modify, h]

theorem Rb.set1 {b : Nat} {r : Rd} {w : World} (h : Rb b r w) (f : Bool) : Rb b (r.1, f) (w.setCell ⟨b, 1, none⟩ (.bool f)) := by
  unfold Rb at h ⊢
  simp [World.setCell, Array.getElem?_modify, h]

theorem bs_nil : bs [] = { data := #[] } := rfl

theorem Rb.fail2 {b : Nat} {r : Rd} {w : World} (h : Rb b r w) : Rb b failed ((w.setCell ⟨b, 0, none⟩ (.string { data := #[] })).setCell ⟨b, 1, none⟩ (.bool true)) := by
  have h2 := (h.set0 []).set1 true
  rw [bs_nil] at h2
  exact h2

theorem only_fail2 (b : Nat) (w : World) : w.grownBy ((w.setCell ⟨b, 0, none⟩ (.string { data := #[] })).setCell ⟨b, 1, none⟩ (.bool true)) (some b) := by
  have h1 := only_setCell (p := ⟨b, 0, none⟩) (only_refl w b) (Or.inl rfl) (Value.string { data := #[] })
  exact only_setCell (p := ⟨b, 1, none⟩) h1 (Or.inl rfl) (Value.bool true)

theorem bs_take (l : List UInt8) (i : Nat) : (bs l).extract 0 i = bs (l.take i) := by
  rw [Lib.extract_eq, bs_data]; rfl

set_option maxRecDepth 100000 in
theorem open_reader (s : List UInt8) (w : World) :
    Calls Tryz.prog 29 #[.string (bs s)] w fun e w' => e = .returned (.pointer (some ⟨w.heap.size, 0, none⟩)) ∧ Rb w.heap.size (s, false) w' ∧ Below w.heap.size w w' ∧ w.heap.size < w'.heap.size := by
  go_enter Tryz.func29, Tryz.ntmps29
  go_wp2
  go_ret
  refine ⟨rfl, ?_, (Below.refl _ _).alloc (Nat.le_refl _) _, by simp⟩
  unfold Rb
  exact Array.getElem?_push_size ..

set_option maxRecDepth 100000 in
theorem rd_fail (b : Nat) (r : Rd) (w : World) (h : Rb b r w) :
    Calls Tryz.prog 93 #[.pointer (some ⟨b, 0, none⟩)] w fun e w' => e = .returned (.tuple #[]) ∧ Rb b failed w' ∧ w.grownBy w' (some b) := by
  have c0 := h.c0
  have c1 := h.c1
  have f0 := h.f 0
  have f1 := h.f 1
  go_enter Tryz.func93, Tryz.ntmps93
  go_wp2
  go_end0
  exact ⟨rfl, h.fail2, only_fail2 _ _⟩

theorem ib_any (l : List UInt8) (c : UInt8) (w : World) :
    Calls Tryz.prog 94 #[.string (bs l), .int .u8 (c.toNat : Int)] w fun e w' => e = .returned (.int .i64 (Lib.indexByte l c)) ∧ w = w' := by
  refine (Tryz.strings_IndexByte (bs l) (c.toNat : Int) w).mono ?_
  rintro e w' ⟨rfl, rfl⟩
  refine ⟨?_, rfl⟩
  rw [bs_data]; simp

theorem bs_ne_iff (a b : List UInt8) : ((bs a).toList == (bs b).toList) = decide (a = b) := by
  rw [Lib.toList_data, Lib.toList_data, bs_data, bs_data]
  by_cases h : a = b
  · simp [h]
  · simp [h]

theorem ret_pair {a b : Int} {x y : Bool} (h : a = b) (k : x = y) : Ending.returned (.tuple #[.int .i64 a, .bool x]) = .returned (.tuple #[.int .i64 b, .bool y]) := by rw [h, k]

set_option maxHeartbeats 400000 in
set_option maxRecDepth 100000 in
theorem canonical_ok (l : List UInt8) (hl : l.length ≤ 4294967296) (v : Int) (h : Lib.atoiAll l = .ok v) (w : World) (hE : Env w) :
    Calls Tryz.prog 95 #[.string (bs l)] w fun e w' => e = .returned (.tuple #[.int .i64 ((canon l).getD 0), .bool (canon l).isSome]) ∧ Below w.heap.size w w' := by
  have hv := atoiAll_int h
  have hcan : canon l = if Lib.itoa v = l then some v else none := by unfold canon; rw [h]
  have hq : ((bs (Lib.itoa v)).toList == (bs l).toList) = decide (Lib.itoa v = l) := bs_ne_iff _ _
  by_cases he : Lib.itoa v = l
  · rw [if_pos he] at hcan
    rw [decide_eq_true he] at hq
    have H := Lib.hid hcan
    clear hcan he
    go_enter Tryz.func95, Tryz.ntmps95
    go_wp2_with fail
    refine (Any.strconv_Atoi_ok Tryz.laysC172 (bs l) (by rw [bs_size]; omega) v (by rw [bs_data]; exact h) w).mono ?_
    rintro e w1 ⟨rfl, hw⟩
    have hb1 : Below w.heap.size w w1 := by
      rcases hw with rfl | ⟨t, rfl⟩
      · exact Below.refl _ _
      · exact Lib.bytesWorld_below _ _ _
    clear hw h
    go_wp2_with fail
    refine (itoa_calls v hv _ (hE.next hb1)).mono ?_
    rintro e w2 ⟨rfl, hb2⟩
    have hb02 := hb1.trans (hb2.mono hb1.size)
    go_wp2
    go_ret2
    exact ⟨ret_pair (by rw [H.out]; rfl) (by rw [H.out]; rfl), hb02⟩
  · rw [if_neg he] at hcan
    rw [decide_eq_false he] at hq
    have H := Lib.hid hcan
    clear hcan he
    go_enter Tryz.func95, Tryz.ntmps95
    go_wp2_with fail
    refine (Any.strconv_Atoi_ok Tryz.laysC172 (bs l) (by rw [bs_size]; omega) v (by rw [bs_data]; exact h) w).mono ?_
    rintro e w1 ⟨rfl, hw⟩
    have hb1 : Below w.heap.size w w1 := by
      rcases hw with rfl | ⟨t, rfl⟩
      · exact Below.refl _ _
      · exact Lib.bytesWorld_below _ _ _
    clear hw h
    go_wp2_with fail
    refine (itoa_calls v hv _ (hE.next hb1)).mono ?_
    rintro e w2 ⟨rfl, hb2⟩
    have hb02 := hb1.trans (hb2.mono hb1.size)
    go_wp2
    go_ret2
    exact ⟨ret_pair (by rw [H.out]; rfl) (by rw [H.out]; rfl), hb02⟩

set_option maxHeartbeats 400000 in
set_option maxRecDepth 100000 in
theorem canonical_err (l : List UInt8) (v : Int) (hcan : canon l = none) (w : World)
    (hA : Calls Tryz.prog 104 #[.string (bs l)] w fun e w' => (∃ N, e = .returned (.tuple #[.int .i64 v, .iface 172 (.pointer (some ⟨N, 0, none⟩))])) ∧ Below w.heap.size w w') :
    Calls Tryz.prog 95 #[.string (bs l)] w fun e w' => e = .returned (.tuple #[.int .i64 ((canon l).getD 0), .bool (canon l).isSome]) ∧ Below w.heap.size w w' := by
  have H := Lib.hid hcan
  have HA := Lib.hid hA
  clear hcan hA
  go_enter Tryz.func95, Tryz.ntmps95
  go_wp2_with fail
  refine HA.out.mono ?_
  rintro e w1 ⟨⟨N, rfl⟩, hb1⟩
  go_wp2
  go_ret2
  exact ⟨ret_pair (by rw [H.out]; rfl) (by rw [H.out]; rfl), hb1⟩

theorem canonical (l : List UInt8) (hl : l.length ≤ 4294967296) (w : World) (hE : Env w) :
    Calls Tryz.prog 95 #[.string (bs l)] w fun e w' => e = .returned (.tuple #[.int .i64 ((canon l).getD 0), .bool (canon l).isSome]) ∧ Below w.heap.size w w' := by
  have hS := hE.eS
  have hR := hE.eR
  have hz : (bs l).size ≤ 281474976710656 := by rw [bs_size]; omega
  cases h : Lib.atoiAll l
  case ok v => exact canonical_ok l hl v h w hE
  · refine canonical_err l 0 (by unfold canon; rw [h]) w ?_
    obtain ⟨te, pe, hc⟩ := hS
    refine (Any.strconv_Atoi_syntax Tryz.laysC172 (bs l) hz (by rw [bs_data]; exact h) (.iface te pe) w hc (Or.inr ⟨te, pe, rfl⟩)).mono ?_
    rintro e w' ⟨N, rfl, _, _, hb⟩
    exact ⟨⟨N, rfl⟩, hb⟩
  · refine canonical_err l (Lib.atoiSat l) (by unfold canon; rw [h]) w ?_
    obtain ⟨te, pe, hc⟩ := hR
    refine (Any.strconv_Atoi_range Tryz.laysC172 (bs l) hz (by rw [bs_data]; exact h) (.iface te pe) w hc (Or.inr ⟨te, pe, rfl⟩)).mono ?_
    rintro e w' ⟨N, rfl, _, _, hb⟩
    refine ⟨⟨N, ?_⟩, hb⟩
    rw [bs_data]
    rfl

theorem ret_int {a b : Int} (h : a = b) : Ending.returned (.int .i64 a) = .returned (.int .i64 b) := by rw [h]

theorem ib_hit (l : List UInt8) (c : UInt8) (i : Nat) (h : Lib.indexByte l c = (i : Int)) (w : World) :
    Calls Tryz.prog 94 #[.string (bs l), .int .u8 (c.toNat : Int)] w fun e w' => e = .returned (.int .i64 (i : Int)) ∧ w = w' := by
  have := ib_any l c w
  rw [h] at this
  exact this

theorem ib_miss (l : List UInt8) (c : UInt8) (h : Lib.indexByte l c = -1) (w : World) :
    Calls Tryz.prog 94 #[.string (bs l), .int .u8 (c.toNat : Int)] w fun e w' => e = .returned (.int .i64 (-1)) ∧ w = w' := by
  have := ib_any l c w
  rw [h] at this
  exact this

/-- What a method of the reader leaves. -/
def Rpost (b : Nat) (v : Value) (r : Rd) (w : World) (e : Ending) (w' : World) : Prop := e = .returned v ∧ Rb b r w' ∧ w.grownBy w' (some b)

set_option maxHeartbeats 400000 in
set_option maxRecDepth 100000 in
theorem rd_digits_miss (b : Nat) (r : Rd) (c : UInt8) (w : World) (h : Rb b r w) (hi : Lib.indexByte r.1 c = -1) :
    Calls Tryz.prog 82 #[.pointer (some ⟨b, 0, none⟩), .int .u8 (c.toNat : Int)] w (Rpost b (.int .i64 (digitsF c r).1) (digitsF c r).2 w) := by
  have e1 : digitsF c r = (0, failed) := by unfold digitsF; rw [if_pos (by omega)]
  have H := Lib.hid e1
  have HI := Lib.hid hi
  clear e1 hi
  have c0 := h.c0
  rw [H.out]
  go_enter Tryz.func82, Tryz.ntmps82
  go_wp2_with fail
  refine (ib_miss r.1 c HI.out _).mono ?_
  rintro e w1 ⟨rfl, rfl⟩
  go_wp2_with fail
  refine (rd_fail b r _ h).mono ?_
  rintro e w1 ⟨rfl, h1, g1⟩
  go_wp2
  go_ret
  exact ⟨rfl, h1, g1⟩

set_option maxHeartbeats 400000 in
set_option maxRecDepth 100000 in
theorem rd_digits_bad (b : Nat) (r : Rd) (c : UInt8) (i : Nat) (w : World) (hE : Env w) (h : Rb b r w) (hi : Lib.indexByte r.1 c = (i : Int)) (hil : i < r.1.length) (hr : r.1.length ≤ 4294967296) (hcan : canon (r.1.take i) = none) :
    Calls Tryz.prog 82 #[.pointer (some ⟨b, 0, none⟩), .int .u8 (c.toNat : Int)] w (Rpost b (.int .i64 (digitsF c r).1) (digitsF c r).2 w) := by
  have e1 : digitsF c r = (0, failed) := by unfold digitsF; rw [hi, if_neg (by omega), Int.toNat_natCast, hcan]
  have H := Lib.hid e1
  have HI := Lib.hid hi
  have HC := Lib.hid hcan
  have hsz : i ≤ (bs r.1).size := by rw [bs_size]; omega
  have hsm : (bs r.1).size ≤ 4294967296 := by rw [bs_size]; exact hr
  clear e1 hi hcan
  have c0 := h.c0
  rw [H.out]
  go_enter Tryz.func82, Tryz.ntmps82
  go_wp2_with fail
  refine (ib_hit r.1 c i HI.out _).mono ?_
  rintro e w1 ⟨rfl, rfl⟩
  go_wp2_with fail
  rw [bs_take]
  refine (canonical (r.1.take i) (by simp; omega) _ hE).mono ?_
  rw [HC.out]
  rintro e w1 ⟨rfl, hb1⟩
  have h1 := h.next hb1
  go_wp2_with fail
  refine (rd_fail b r _ h1).mono ?_
  rintro e w2 ⟨rfl, h2, g2⟩
  have g02 := only_trans (only_below (only_refl w b) hb1) g2
  go_wp2
  go_ret
  exact ⟨rfl, h2, g02⟩

set_option maxHeartbeats 400000 in
set_option maxRecDepth 100000 in
theorem rd_digits_good (b : Nat) (r : Rd) (c : UInt8) (i : Nat) (n : Int) (w : World) (hE : Env w) (h : Rb b r w) (hi : Lib.indexByte r.1 c = (i : Int)) (hil : i < r.1.length) (hr : r.1.length ≤ 4294967296) (hcan : canon (r.1.take i) = some n) :
    Calls Tryz.prog 82 #[.pointer (some ⟨b, 0, none⟩), .int .u8 (c.toNat : Int)] w (Rpost b (.int .i64 (digitsF c r).1) (digitsF c r).2 w) := by
  have e1 : digitsF c r = (n, (r.1.drop (i + 1), r.2)) := by unfold digitsF; rw [hi, if_neg (by omega), Int.toNat_natCast, hcan]
  have H := Lib.hid e1
  have HI := Lib.hid hi
  have HC := Lib.hid hcan
  have hsz : i < (bs r.1).size := by rw [bs_size]; omega
  have hsm : (bs r.1).size ≤ 4294967296 := by rw [bs_size]; exact hr
  clear e1 hi hcan
  have c0 := h.c0
  rw [H.out]
  go_enter Tryz.func82, Tryz.ntmps82
  go_wp2_with fail
  refine (ib_hit r.1 c i HI.out _).mono ?_
  rintro e w1 ⟨rfl, rfl⟩
  go_wp2_with fail
  rw [bs_take]
  refine (canonical (r.1.take i) (by simp; omega) _ hE).mono ?_
  rw [HC.out]
  rintro e w1 ⟨rfl, hb1⟩
  have h1 := h.next hb1
  have d0 := h1.c0
  have f0 := h1.f 0
  go_wp2
  go_ret
  rw [bs_drop]
  exact ⟨rfl, h1.set0 _, only_setCell (p := ⟨b, 0, none⟩) (only_below (only_refl w b) hb1) (Or.inl rfl) _⟩

theorem rd_digits (b : Nat) (r : Rd) (c : UInt8) (w : World) (hE : Env w) (h : Rb b r w) (hr : r.1.length ≤ 4294967296) :
    Calls Tryz.prog 82 #[.pointer (some ⟨b, 0, none⟩), .int .u8 (c.toNat : Int)] w (Rpost b (.int .i64 (digitsF c r).1) (digitsF c r).2 w) := by
  by_cases hi : Lib.indexByte r.1 c = -1
  · exact rd_digits_miss b r c w h hi
  · have h0 : 0 ≤ Lib.indexByte r.1 c := by have := Lib.indexByte_ge r.1 c; omega
    obtain ⟨a, m, e, hi2⟩ := indexByte_hit c r.1 h0
    have hil : a.length < r.1.length := by rw [e]; simp
    cases hcan : canon (r.1.take a.length) with
    | none => exact rd_digits_bad b r c a.length w hE h hi2 hil hr hcan
    | some n => exact rd_digits_good b r c a.length n w hE h hi2 hil hr hcan

set_option maxHeartbeats 400000 in
set_option maxRecDepth 100000 in
theorem rd_natural (b : Nat) (r : Rd) (c : UInt8) (w : World) (hE : Env w) (h : Rb b r w) (hr : r.1.length ≤ 4294967296) :
    Calls Tryz.prog 80 #[.pointer (some ⟨b, 0, none⟩), .int .u8 (c.toNat : Int)] w (Rpost b (.int .i64 (naturalF c r).1) (naturalF c r).2 w) := by
  have hd := rd_digits b r c w hE h hr
  by_cases hn : (digitsF c r).1 < 0
  · have e1 : naturalF c r = (0, failed) := by unfold naturalF; rw [if_pos hn]
    rw [e1]
    clear e1
    generalize digitsF c r = z at *
    obtain ⟨n, q⟩ := z
    have HD := Lib.hid hd
    clear hd
    simp only at hn
    go_enter Tryz.func80, Tryz.ntmps80
    go_wp2_with fail
    refine HD.out.mono ?_
    rintro e w1 ⟨rfl, h1, g1⟩
    go_wp2_with fail
    refine (rd_fail b q _ h1).mono ?_
    rintro e w2 ⟨rfl, h2, g2⟩
    have g02 := only_trans g1 g2
    go_wp2
    go_ret
    exact ⟨rfl, h2, g02⟩
  · have e1 : naturalF c r = digitsF c r := by unfold naturalF; rw [if_neg hn]
    rw [e1]
    clear e1
    generalize digitsF c r = z at *
    obtain ⟨n, q⟩ := z
    have HD := Lib.hid hd
    clear hd
    simp only at hn
    go_enter Tryz.func80, Tryz.ntmps80
    go_wp2_with fail
    refine HD.out.mono ?_
    rintro e w1 ⟨rfl, h1, g1⟩
    go_wp2
    go_ret
    exact ⟨rfl, h1, g1⟩

theorem bs_get0 (d : UInt8) (t : List UInt8) (h : 0 < (bs (d :: t)).size) : (bs (d :: t))[0]'h = d := rfl

set_option maxHeartbeats 400000 in
set_option maxRecDepth 100000 in
theorem rd_closing (b : Nat) (r : Rd) (c : UInt8) (w : World) (h : Rb b r w) :
    Calls Tryz.prog 81 #[.pointer (some ⟨b, 0, none⟩), .int .u8 (c.toNat : Int)] w (Rpost b (.tuple #[]) (closingF c r) w) := by
  obtain ⟨l, f⟩ := r
  cases l with
  | nil =>
    have c0 := h.c0
    have hem : (bs []).toList.isEmpty = true := by rw [Lib.toList_data, bs_data]; rfl
    show Calls _ _ _ _ (Rpost b _ failed w)
    go_enter Tryz.func81, Tryz.ntmps81
    go_wp2_with fail
    refine (rd_fail b _ _ h).mono ?_
    rintro e w2 ⟨rfl, h2, g2⟩
    go_wp2
    exact bodyPost_ret (results_none rfl _ _ _) rfl ⟨rfl, h2, g2⟩
  | cons d t =>
    have c0 := h.c0
    have f0 := h.f 0
    have hem : (bs (d :: t)).toList.isEmpty = false := by rw [Lib.toList_data, bs_data]; rfl
    have hsz : 0 < (bs (d :: t)).size := by rw [bs_size]; simp
    by_cases hd : d = c
    · have e1 : closingF c (d :: t, f) = (t, f) := by unfold closingF; simp [hd]
      have hne : ((((bs (d :: t))[0]'hsz).toNat : Int) != (c.toNat : Int)) = false := by rw [bs_get0, hd]; simp
      rw [e1]
      clear e1 hd
      go_enter Tryz.func81, Tryz.ntmps81
      go_wp2
      go_end0
      rw [bs_drop]
      exact ⟨rfl, h.set0 _, only_setCell (p := ⟨b, 0, none⟩) (only_refl w b) (Or.inl rfl) _⟩
    · have e1 : closingF c (d :: t, f) = failed := by unfold closingF; simp [hd]
      have hne : ((((bs (d :: t))[0]'hsz).toNat : Int) != (c.toNat : Int)) = true := by
        rw [bs_get0, bne_iff_ne]
        intro e
        exact hd (UInt8.toNat_inj.1 (by omega))
      rw [e1]
      clear e1 hd
      go_enter Tryz.func81, Tryz.ntmps81
      go_wp2_with fail
      refine (rd_fail b _ _ h).mono ?_
      rintro e w2 ⟨rfl, h2, g2⟩
      go_wp2
      exact bodyPost_ret (results_none rfl _ _ _) rfl ⟨rfl, h2, g2⟩

set_option maxRecDepth 100000 in
theorem rd_Int (b : Nat) (r : Rd) (w : World) (hE : Env w) (h : Rb b r w) (hr : r.1.length ≤ 4294967296) :
    Calls Tryz.prog 59 #[.pointer (some ⟨b, 0, none⟩)] w (Rpost b (.int .i64 (intF r).1) (intF r).2 w) := by
  have hd := rd_digits b r 59 w hE h hr
  show Calls _ _ _ _ (Rpost b (.int .i64 (digitsF 59 r).1) (digitsF 59 r).2 w)
  have HD := Lib.hid hd
  clear hd
  go_enter Tryz.func59, Tryz.ntmps59
  go_wp2_with fail
  refine HD.out.mono ?_
  rintro e w1 ⟨rfl, h1, g1⟩
  go_wp2
  go_ret
  exact ⟨rfl, h1, g1⟩

/-- What Done answers. -/
def doneF (r : Rd) : Bool := !r.2 && r.1.isEmpty

theorem ret_bool {a b : Bool} (h : a = b) : Ending.returned (.bool a) = .returned (.bool b) := by rw [h]

set_option maxRecDepth 100000 in
theorem rd_Done (b : Nat) (r : Rd) (w : World) (h : Rb b r w) :
    Calls Tryz.prog 31 #[.pointer (some ⟨b, 0, none⟩)] w fun e w' => e = .returned (.bool (doneF r)) ∧ w = w' := by
  obtain ⟨l, f⟩ := r
  have c0 := h.c0
  have c1 := h.c1
  cases l with
  | nil =>
    have hem : (bs []).toList.isEmpty = true := by rw [Lib.toList_data, bs_data]; rfl
    cases f
    · go_enter Tryz.func31, Tryz.ntmps31
      go_wp2
      go_ret
      exact ⟨rfl, rfl⟩
    · go_enter Tryz.func31, Tryz.ntmps31
      go_wp2
      go_ret
      exact ⟨rfl, rfl⟩
  | cons d t =>
    have hem : (bs (d :: t)).toList.isEmpty = false := by rw [Lib.toList_data, bs_data]; rfl
    cases f
    · go_enter Tryz.func31, Tryz.ntmps31
      go_wp2
      go_ret
      exact ⟨rfl, rfl⟩
    · go_enter Tryz.func31, Tryz.ntmps31
      go_wp2
      go_ret
      exact ⟨rfl, rfl⟩

/-! ### lists -/

theorem digitsF_short {c : UInt8} {r : Rd} (h : (digitsF c r).2.2 = false) : (digitsF c r).2.1.length + 1 ≤ r.1.length := by
  have := congrArg List.length (digitsF_read h).2
  simp at this; omega

theorem intF_short {r : Rd} (h : (intF r).2.2 = false) : (intF r).2.1.length + 1 ≤ r.1.length := digitsF_short h

theorem textF_short {r : Rd} (h : (textF r).2.2 = false) : (textF r).2.1.length + 1 ≤ r.1.length := by
  have := congrArg List.length (textF_read h).2
  simp [textS] at this; omega

end Go.Proofs.YthnkfjjgccabeaaGreatDoor.Cod
