/- Tickets, in plain numbers. -/
import Derived.Test.YtmgamngdmhnffaaGreatDoorTprod
namespace Go.Proofs.YtmgamngdmhnffaaGreatDoor
open Go.RowKit

structure TktD where
  mark : Int
  first : Int
  z : Int
  a : Int
  b : Int
  r : Int
structure BlindD where
  s : Int
  u : Int
  v : Int
  ys : List Int
structure SpendD where
  dare : Int
  ans : List Int
def mulG (q : Int) : Int → List Int → Int
  | r, x :: l => mulG q (mulZ q r x) l
  | r, [] => r
def SetD.tmG (s : SetD) : Int → List Int → Int
  | r, x :: l => s.tmG (s.tm r x) l
  | r, [] => r
def facsB (q : Int) (l : List Int) : Bool := l.all (fun x => decide (x ≠ 0)) && l.all (exB q)
def SetD.propB (s : SetD) (l : List Int) : Bool := l.all (fun x => decide (x ≠ 1)) && l.all s.el
/-- The product of the bases to the power of as many exponents. -/
def SetD.prodN (s : SetD) (es : List Int) : Int := if (isMod s.P ∧ isMod s.Q) ∧ s.bs.length = es.length then gProdF s.P s.Q (1 % s.P) s.bs es else 0
def SetD.markT (s : SetD) (l : List Int) : Int := s.prodN (1 :: l)
def SetD.attrB (s : SetD) (l : List Int) : Bool := decide ((l.length : Int) = (s.bs.length : Int) - 1) && (l.all (exB s.Q) && decide (l.getD 0 0 ≠ 0))
def SetD.usB (s : SetD) (l : List Int) : Bool := s.attrB l && decide (s.markT l ≠ 1)
def SetD.ansB (s : SetD) (x r y c f : Int) : Bool := decide (s.pw x r = s.tmG 1 [s.pw y c, f])
def SetD.formB (s : SetD) (t : TktD) : Bool := [t.mark, t.first, t.z, t.a, t.b].all s.el && (decide (t.mark ≠ 1) && [t.r].all (exB s.Q))
def SetD.blindB (s : SetD) (b : BlindD) : Bool := facsB s.Q [b.s, b.u] && ([b.v].all (exB s.Q) && (decide (b.ys.length = s.bs.length) && b.ys.all (exB s.Q)))
def SetD.shiftF (s : SetD) (ys : List Int) (f : Int) (attrs : List Int) : List Int := List.zipWith (fun y e => addZ s.Q y (mulG s.Q 1 [f, e])) ys (1 :: attrs)
def SetD.accB (s : SetD) (t : TktD) (x : SpendD) : Bool := s.formB t && (facsB s.Q [x.dare] && (decide (x.ans.length = s.bs.length) && (x.ans.all (exB s.Q) && decide (s.prodN x.ans = s.tmG 1 [s.pw t.mark x.dare, t.first]))))
def diffF (q : Int) (a b : List Int) : List Int := List.zipWith (subZ q) a b
def SetD.revB (s : SetD) (t : TktD) (a b : SpendD) : Bool := s.accB t a && (s.accB t b && (decide (a.dare ≠ b.dare) && decide (a.ans.getD 0 0 ≠ b.ans.getD 0 0)))
def SetD.traceF (s : SetD) (a b : SpendD) : List Int := ((diffF s.Q a.ans b.ans).drop 1).map fun d => mulG s.Q 1 [d, powZ s.Q ((diffF s.Q a.ans b.ans).getD 0 0) (-1)]
def SetD.guilB (s : SetD) (a b : SpendD) (l : List Int) : Bool := decide ((diffF s.Q a.ans b.ans).drop 1 = l.map fun x => mulG s.Q 1 [x, (diffF s.Q a.ans b.ans).getD 0 0])

/-! ### the example -/
def tkS : SetD := ⟨23, 11, 4, [4, 16, 18], 3⟩
def tkB : BlindD := ⟨4, 1, 0, [1, 2, 3]⟩
def tkT : TktD := ⟨8, 18, 9, 16, 13, 0⟩
def tkX : SpendD := ⟨2, [9, 9, 4]⟩
def tkY : SpendD := ⟨5, [10, 3, 0]⟩
def tkZ : SpendD := ⟨3, [9, 9, 4]⟩
theorem tk_valid : tkS.valid = true := by decide +kernel
theorem tk_us : tkS.usB [5, 7] = true := by decide +kernel
theorem tk_us0 : tkS.usB [5, 0] = false := by decide +kernel
theorem tk_mark : tkS.markT [5, 7] = 6 := by decide +kernel
theorem tk_attr : tkS.attrB [5, 7] = true := by decide +kernel
theorem tk_blind : tkS.blindB tkB = true := by decide +kernel
theorem tk_x : tkS.shiftF tkB.ys (mulG 11 1 [2, 4]) [5, 7] = [9, 9, 4] := by decide +kernel
theorem tk_y : tkS.shiftF tkB.ys (mulG 11 1 [5, 4]) [5, 7] = [10, 3, 0] := by decide +kernel
theorem tk_accx : tkS.accB tkT tkX = true := by decide +kernel
theorem tk_accy : tkS.accB tkT tkY = true := by decide +kernel
theorem tk_accz : tkS.accB tkT tkZ = false := by decide +kernel
theorem tk_rev : tkS.revB tkT tkX tkY = true := by decide +kernel
theorem tk_rev0 : tkS.revB tkT tkX tkX = false := by decide +kernel
theorem tk_trace : tkS.traceF tkX tkY = [5, 7] := by decide +kernel
theorem tk_guil : tkS.guilB tkX tkY [5, 7] = true := by decide +kernel
theorem tk_pub : tkS.pw 4 3 = 18 := by decide +kernel
theorem tk_z : tkS.pw 6 3 = 9 := by decide +kernel
theorem tk_a : tkS.pw 4 2 = 16 := by decide +kernel
theorem tk_b : tkS.pw 6 2 = 13 := by decide +kernel
theorem tk_grant : addZ 11 (mulG 11 1 [6, 3]) 2 = 9 := by decide +kernel
theorem tk_text : Cod.numsS [8, 18, 9, 16, 13, 0] = [54, 91, 56, 59, 49, 56, 59, 57, 59, 49, 54, 59, 49, 51, 59, 48, 59, 93] := by decide +kernel

/-! ### encodings -/
def tdecF (t : List UInt8) : Option (List Int) := if Cod.doneF (Cod.numsF (t, false)).2 = true ∧ (Cod.numsF (t, false)).1.length = 6 then some (Cod.numsF (t, false)).1 else none
theorem tdecF_back (l : List Int) (hl : l.length = 6) (hi : ∀ a ∈ l, Cod.isInt a) : tdecF (Cod.numsS l) = some l := by
  have h := Cod.numsF_write l [] hi (by omega)
  rw [List.append_nil] at h
  unfold tdecF
  rw [h]
  simp [Cod.doneF, hl]
theorem tdecF_is {t : List UInt8} {l : List Int} (h : tdecF t = some l) : Cod.numsS l = t ∧ l.length = 6 := by
  unfold tdecF at h
  split at h
  · rename_i h1
    obtain rfl := Option.some.inj h
    obtain ⟨h2, h3⟩ := h1
    unfold Cod.doneF at h2
    simp only [Bool.and_eq_true, Bool.not_eq_true', List.isEmpty_iff] at h2
    obtain ⟨-, h4⟩ := Cod.numsF_read h2.1
    rw [h2.2, List.append_nil] at h4
    exact ⟨h4.symm, h3⟩
  · cases h
end Go.Proofs.YtmgamngdmhnffaaGreatDoor
