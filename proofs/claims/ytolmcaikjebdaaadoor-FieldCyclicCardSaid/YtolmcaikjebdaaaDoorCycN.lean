/- Small groups: squares, elements, powers (computed). -/
import Derived.Test.YtolmcaikjebdaaaDoorCyc
namespace Go.Proofs.YtolmcaikjebdaaaDoor

/-- The squares modulo P, as the bits of a number. -/
def sqF (P : Nat) : Nat → Nat → Nat → Nat
  | 0, _, b => b
  | f + 1, x, b => sqF P f (x + 1) (b ||| 1 <<< (x * x % P))
/-- The numbers from x on that are squares. -/
def elF (P S : Nat) : Nat → Nat → List Nat
  | 0, _ => []
  | f + 1, x => if decide (x < P) && S.testBit x then x :: elF P S f (x + 1) else elF P S f (x + 1)
/-- The powers of x from the k-th on are squares that were not met. -/
def chF (P S x : Nat) : Nat → Nat → Nat → Bool
  | 0, _, _ => true
  | f + 1, k, b => decide (1 ≤ x ^ k % P) && (S.testBit (x ^ k % P) && (!b.testBit (x ^ k % P) && chF P S x f (k + 1) (b ||| 1 <<< (x ^ k % P))))
def cycS (q : Nat) : Nat := sqF (2 * q + 1) (2 * q) 1 0
def cycE (q : Nat) : List Nat := elF (2 * q + 1) (cycS q) (2 * q + 2) 0
def cycB (q : Nat) : Bool :=
  (List.range (2 * q + 2)).all (fun x => (decide (1 ≤ x) && (decide (x < 2 * q + 1) && decide (x ^ q % (2 * q + 1) = 1))) == (decide (x < 2 * q + 1) && (cycS q).testBit x)) &&
  (decide ((cycE q).length = q) && ((cycE q).head? == some 1 && (cycE q).all (fun x => x == 1 || chF (2 * q + 1) (cycS q) x q 0 0)))
theorem cyc_all : (List.range 201).all (fun q => !validB (2 * (q : Int) + 1) (q : Int) 4 || cycB q) = true := by decide +kernel
end Go.Proofs.YtolmcaikjebdaaaDoor
