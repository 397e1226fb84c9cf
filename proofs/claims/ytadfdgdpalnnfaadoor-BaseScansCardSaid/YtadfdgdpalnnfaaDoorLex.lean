/- The lexer as functions on lists of bytes. -/
import Derived.Test.YtadfdgdpalnnfaaDoorBase
namespace Go.Proofs.YtadfdgdpalnnfaaDoor

def isBl (c : UInt8) : Bool := decide (c.toNat = 9 ∨ c.toNat = 10 ∨ c.toNat = 32)
def isLet (c : UInt8) : Bool := decide ((97 ≤ c.toNat ∧ c.toNat ≤ 122) ∨ (65 ≤ c.toNat ∧ c.toNat ≤ 90))
def isNm (c : UInt8) : Bool := isLet c || isDig c || decide (c.toNat = 95)
def isQt (c : UInt8) : Bool := decide (32 ≤ c.toNat ∧ c.toNat ≤ 126)
def notLf (c : UInt8) : Bool := decide (c.toNat ≠ 10)

/-- How many bytes at the beginning are in a class. -/
def spanL (p : UInt8 → Bool) : List UInt8 → Nat
  | [] => 0
  | c :: l => if p c = true then spanL p l + 1 else 0
theorem spanL_le (p : UInt8 → Bool) : ∀ l, spanL p l ≤ l.length
  | [] => Nat.le_refl _
  | c :: l => by
    unfold spanL
    have := spanL_le p l
    split <;> simp <;> omega
theorem spanL_all (p : UInt8 → Bool) : ∀ l, spanL p l = l.length ↔ ∀ x ∈ l, p x = true
  | [] => by simp [spanL]
  | c :: l => by
    have ih := spanL_all p l
    have hl := spanL_le p l
    unfold spanL
    by_cases h : p c = true
    · rw [if_pos h]; simp [h, ← ih]
    · rw [if_neg h]; simp [h]
theorem spanL_mem (p : UInt8 → Bool) : ∀ l : List UInt8, ∀ x ∈ l.take (spanL p l), p x = true
  | [], x, hx => by simp at hx
  | c :: l, x, hx => by
    unfold spanL at hx
    by_cases h : p c = true
    · rw [if_pos h, List.take_succ_cons] at hx
      rcases List.mem_cons.1 hx with rfl | hx
      · exact h
      · exact spanL_mem p l x hx
    · rw [if_neg h] at hx; simp at hx
/-- What stands behind the span is not in the class. -/
theorem spanL_stop (p : UInt8 → Bool) : ∀ (l : List UInt8) (c : UInt8) (r : List UInt8), l.drop (spanL p l) = c :: r → p c = false
  | [], c, r, h => by simp at h
  | d :: l, c, r, h => by
    unfold spanL at h
    by_cases hd : p d = true
    · rw [if_pos hd, List.drop_succ_cons] at h
      exact spanL_stop p l c r h
    · rw [if_neg hd] at h
      simp at h
      rw [← h.1]; simpa using hd

/-- How many bytes of blanks and comments there are; the flag: inside a comment. -/
def sk : Bool → List UInt8 → Nat
  | _, [] => 0
  | true, c :: l => sk (notLf c) l + 1
  | false, c :: l => if isBl c = true then sk false l + 1 else if c = 35 then sk true l + 1 else 0
theorem sk_le : ∀ b l, sk b l ≤ l.length
  | b, [] => by cases b <;> simp [sk]
  | true, c :: l => by have := sk_le (notLf c) l; simp only [sk, List.length_cons]; omega
  | false, c :: l => by
    have h1 := sk_le false l
    have h2 := sk_le true l
    simp only [sk, List.length_cons]
    split
    · omega
    · split <;> omega
theorem sk_blank : ∀ l : List UInt8, sk false l = spanL isBl l + sk false (l.drop (spanL isBl l))
  | [] => by simp [sk, spanL]
  | c :: l => by
    have ih := sk_blank l
    by_cases h : isBl c = true
    · have e : spanL isBl (c :: l) = spanL isBl l + 1 := by simp [spanL, h]
      rw [e, List.drop_succ_cons]
      have : sk false (c :: l) = sk false l + 1 := by simp [sk, h]
      omega
    · have e : spanL isBl (c :: l) = 0 := by simp [spanL, h]
      rw [e]; simp
theorem sk_comment : ∀ l : List UInt8, sk true l = spanL notLf l + sk false (l.drop (spanL notLf l))
  | [] => by simp [sk, spanL]
  | c :: l => by
    have ih := sk_comment l
    by_cases h : notLf c = true
    · have e : spanL notLf (c :: l) = spanL notLf l + 1 := by simp [spanL, h]
      rw [e, List.drop_succ_cons]
      have : sk true (c :: l) = sk true l + 1 := by simp [sk, h]
      omega
    · have e : spanL notLf (c :: l) = 0 := by simp [spanL, h]
      have hb : isBl c = true := by unfold notLf at h; unfold isBl; simp at h ⊢; omega
      rw [e]
      simp [sk, h, hb]
theorem sk_stop {c : UInt8} {l : List UInt8} (h1 : isBl c = false) (h2 : c ≠ 35) : sk false (c :: l) = 0 := by simp [sk, h1, h2]
theorem sk_hash (l : List UInt8) : sk false (35 :: l) = spanL notLf (35 :: l) + sk false ((35 :: l).drop (spanL notLf (35 :: l))) := by
  have e : sk false (35 :: l) = sk true (35 :: l) := by simp [sk, isBl, notLf]
  rw [e, sk_comment]

/-- The value of a quoted string behind its first quote, and how many bytes it has there; the flag: behind a backslash. -/
def unqG : Bool → List UInt8 → Option (List UInt8 × Nat)
  | _, [] => none
  | false, c :: l => if c = 34 then some ([], 1) else if c = 92 then (unqG true l).map fun x => (x.1, x.2 + 1) else (unqG false l).map fun x => (c :: x.1, x.2 + 1)
  | true, d :: l => if d = 34 ∨ d = 92 then (unqG false l).map fun x => (d :: x.1, x.2 + 1) else none
def unqF (l : List UInt8) : Option (List UInt8 × Nat) := unqG false l

/-- Whether a string can be quoted. -/
def isVal (l : List UInt8) : Bool := decide (l.length ≤ 400) && decide (spanL isQt l = l.length)
/-- Whether a string is a name. -/
def isName : List UInt8 → Bool
  | [] => false
  | c :: l => decide ((c :: l).length ≤ 20) && isLet c && decide (spanL isNm (c :: l) = (c :: l).length)
/-- The value of a number. -/
def numL (l : List UInt8) : Option Int := match canon l with
  | none => none
  | some n => if n < 0 ∨ 1099511627776 < n then none else some n
/-- The first sign of the table that stands at the beginning. -/
def signF (l : List UInt8) : Option (List UInt8) := signL.find? fun s => Lib.hasPrefix l s

/-- The first token, or an error: kind, text, number, bytes, error. -/
structure Tok1 where
  kind : Int
  text : List UInt8
  n : Int
  size : Nat
  err : Int
def bad (e : Int) : Tok1 := ⟨0, [], 0, 0, e⟩
def tokF : List UInt8 → Tok1
  | [] => bad 10
  | c :: l =>
    if isLet c = true then
      let t := (c :: l).take (spanL isNm (c :: l))
      if isName t = true then ⟨0, t, 0, t.length, 0⟩ else bad 3
    else if isDig c = true then
      let t := (c :: l).take (spanL isDig (c :: l))
      match numL t with
      | some n => ⟨1, t, n, t.length, 0⟩
      | none => bad 3
    else if c = 34 then
      match unqF l with
      | some (v, k) => if isVal v = true then ⟨2, v, 0, k + 1, 0⟩ else bad 2
      | none => bad 2
    else match signF (c :: l) with
      | some s => ⟨3, s, 0, s.length, 0⟩
      | none => bad 10

/-- A token in its place. -/
structure Tk where
  kind : Int
  text : List UInt8
  n : Int
  pos : Int
/-- The tokens from an offset on: the flag is the error, 0 if there is none; then its offset. -/
def scanF : Nat → Nat → List UInt8 → List Tk → List Tk × Nat × Int
  | 0, _, _, acc => (acc, 0, 0)
  | k + 1, at', l, acc =>
    if l = [] then (acc, 0, 0)
    else
      let t := tokF l
      if t.err ≠ 0 then ([], at', t.err)
      else
        let r := l.drop t.size
        scanF k (at' + t.size + sk false r) (r.drop (sk false r)) (acc ++ [⟨t.kind, t.text, t.n, at'⟩])
def scanL (l : List UInt8) : List Tk × Nat × Int :=
  if 4000 < l.length then ([], 0, 6) else scanF (l.length + 1) (sk false l) (l.drop (sk false l)) []
end Go.Proofs.YtadfdgdpalnnfaaDoor
