/- Votes; points; ballots. -/
import Derived.Test.YtkfmhibdoapndaaDoorSane
namespace Go.Proofs.YtkfmhibdoapndaaDoor
open Go.RowKit

abbrev Pt := Int × Int × Int
def PtAt : Reads Pt := fun bk off p w => w.cell? ⟨bk, off, none⟩ = some (.int .i64 p.1) ∧ w.cell? ⟨bk, off + 1, none⟩ = some (.int .i64 p.2.1) ∧ w.cell? ⟨bk, off + 2, none⟩ = some (.int .i64 p.2.2)
theorem PtAt.keeps (lo : Nat) : Keeps lo PtAt := fun bk off x w w' hl hlt h hb => by
  obtain ⟨h1, h2, h3⟩ := h
  exact ⟨by rw [hb.cell hl hlt]; exact h1, by rw [hb.cell hl hlt]; exact h2, by rw [hb.cell hl hlt]; exact h3⟩
def IsPts (v : Value) (xs : List Pt) (w : World) : Prop := IsSl 0 3 PtAt v xs w
theorem IsPts.next {v : Value} {xs : List Pt} {w w' : World} (h : IsPts v xs w) (hb : Below w.heap.size w w') : IsPts v xs w' := IsSl.hi h (PtAt.keeps 0) (Hi.below hb)
/-- A vote. -/
structure VoteD where
  juror : Int
  ver : Int
  gate : Int
  no : Int
  reason : List UInt8
  pts : List Pt
  c : Int
  s : Int
def VoteD.cells (x : VoteD) (v : Value) : Array Value := #[.int .i64 x.juror, .int .i64 x.ver, .int .i64 x.gate, .int .i64 x.no, .string (bs x.reason), v, .int .i64 x.c, .int .i64 x.s]
def VoteD.val (x : VoteD) (v : Value) : Value := .agg (x.cells v)
def flatP (l : List Pt) : List Int := l.flatMap fun p => [p.1, p.2.1, p.2.2]
def VoteD.ballot (x : VoteD) : List UInt8 := Cod.numsS [x.juror, x.ver, x.gate, x.no] ++ (Cod.textS x.reason ++ Cod.numsS (flatP x.pts))
structure VoteD.ok (x : VoteD) : Prop where
  juror : isInt x.juror
  ver : isInt x.ver
  gate : isInt x.gate
  no : isInt x.no
  pts : ∀ p ∈ x.pts, isInt p.1 ∧ isInt p.2.1 ∧ isInt p.2.2
  few : x.pts.length ≤ 1000
  short : x.reason.length ≤ 1000000000
def VoteD.few (x : VoteD) : Bool := decide (x.pts.length ≤ 14) && decide (x.reason.length ≤ 30)
def VoteD.like (a b : VoteD) : Bool := decide (a.juror = b.juror) && (decide (a.ver = b.ver) && (decide (a.gate = b.gate) && (decide (a.no = b.no) && (decide (a.reason = b.reason) && decide (a.pts = b.pts)))))

theorem flatP_inj : ∀ (a b : List Pt), flatP a = flatP b → a = b
  | [], [], _ => rfl
  | [], _ :: _, h => by simp [flatP] at h
  | _ :: _, [], h => by simp [flatP] at h
  | p :: a, q :: b, h => by
    obtain ⟨p1, p2, p3⟩ := p
    obtain ⟨q1, q2, q3⟩ := q
    simp only [flatP, List.flatMap_cons, List.cons_append, List.nil_append, List.cons.injEq] at h
    obtain ⟨rfl, rfl, rfl, h⟩ := h
    rw [flatP_inj a b h]
theorem flatP_ints {l : List Pt} (h : ∀ p ∈ l, isInt p.1 ∧ isInt p.2.1 ∧ isInt p.2.2) : ∀ x ∈ flatP l, isInt x := by
  intro x hx
  obtain ⟨p, hp, hx⟩ := List.mem_flatMap.1 hx
  obtain ⟨h1, h2, h3⟩ := h p hp
  simp only [List.mem_cons, List.not_mem_nil, or_false] at hx
  rcases hx with rfl | rfl | rfl
  · exact h1
  · exact h2
  · exact h3
theorem flatP_len : ∀ (l : List Pt), (flatP l).length = 3 * l.length
  | [] => rfl
  | p :: l => by
    have := flatP_len l
    simp only [flatP, List.flatMap_cons, List.length_append, List.length_cons, List.length_nil] at *
    omega
theorem flatP_take (l : List Pt) (k : Nat) (h : k < l.length) : flatP (l.take (k + 1)) = flatP (l.take k) ++ [l[k].1, l[k].2.1, l[k].2.2] := by
  unfold flatP
  rw [List.take_succ_eq_append_getElem h, List.flatMap_append]
  simp
theorem numsS_len (l : List Int) (h0 : l.length ≤ 4294967296) (h : ∀ x ∈ l, isInt x) : (Cod.numsS l).length ≤ 25 * l.length + 50 := by
  have h1 : ∀ (l : List Int), (∀ x ∈ l, isInt x) → (l.flatMap Cod.intS).length ≤ 25 * l.length := by
    intro l
    induction l with
    | nil => intro _; simp
    | cons a l ih =>
      intro h
      have h1 := ih fun x hx => h x (List.mem_cons_of_mem _ hx)
      have h2 := Cod.intS_len a (h a (List.mem_cons_self ..))
      simp only [List.flatMap_cons, List.length_append, List.length_cons]
      omega
  have h2 := h1 l h
  unfold Cod.numsS
  have := Cod.itoa_len (l.length : Int) (Cod.isInt_len h0)
  simp only [List.length_append, List.length_cons, List.length_nil]
  omega
theorem ballot_inj {a b : VoteD} (ha : a.ok) (hb : b.ok) (h : a.ballot = b.ballot) : a.like b = true := by
  have hn : ∀ x ∈ [a.juror, a.ver, a.gate, a.no], isInt x := by
    intro x hx
    simp only [List.mem_cons, List.not_mem_nil, or_false] at hx
    rcases hx with rfl | rfl | rfl | rfl
    · exact ha.juror
    · exact ha.ver
    · exact ha.gate
    · exact ha.no
  have hm : ∀ x ∈ [b.juror, b.ver, b.gate, b.no], isInt x := by
    intro x hx
    simp only [List.mem_cons, List.not_mem_nil, or_false] at hx
    rcases hx with rfl | rfl | rfl | rfl
    · exact hb.juror
    · exact hb.ver
    · exact hb.gate
    · exact hb.no
  unfold VoteD.ballot at h
  have e1 := Cod.numsF_write [a.juror, a.ver, a.gate, a.no] (Cod.textS a.reason ++ Cod.numsS (flatP a.pts)) hn (by simp)
  have e2 := Cod.numsF_write [b.juror, b.ver, b.gate, b.no] (Cod.textS b.reason ++ Cod.numsS (flatP b.pts)) hm (by simp)
  rw [h, e2] at e1
  simp only [Prod.mk.injEq, List.cons.injEq, and_true] at e1
  obtain ⟨⟨h1, h2, h3, h4⟩, h5⟩ := e1
  have e3 := Cod.textF_write a.reason (Cod.numsS (flatP a.pts)) (by have := ha.short; omega)
  have e4 := Cod.textF_write b.reason (Cod.numsS (flatP b.pts)) (by have := hb.short; omega)
  rw [← h5, e4] at e3
  simp only [Prod.mk.injEq, and_true] at e3
  obtain ⟨h6, h7⟩ := e3
  have e5 := Cod.numsF_write (flatP a.pts) [] (flatP_ints ha.pts) (by rw [flatP_len]; have := ha.few; omega)
  have e6 := Cod.numsF_write (flatP b.pts) [] (flatP_ints hb.pts) (by rw [flatP_len]; have := hb.few; omega)
  rw [← h7, e6] at e5
  simp only [Prod.mk.injEq, and_true] at e5
  have h8 := flatP_inj _ _ e5
  unfold VoteD.like
  simp only [Bool.and_eq_true, decide_eq_true_eq]
  exact ⟨h1.symm, h2.symm, h3.symm, h4.symm, h6.symm, h8.symm⟩
theorem ballot_like {a b : VoteD} (h : a.like b = true) : a.ballot = b.ballot := by
  unfold VoteD.like at h
  simp only [Bool.and_eq_true, decide_eq_true_eq] at h
  obtain ⟨h1, h2, h3, h4, h5, h6⟩ := h
  unfold VoteD.ballot
  rw [h1, h2, h3, h4, h5, h6]
end Go.Proofs.YtkfmhibdoapndaaDoor
