/- The documented examples of the lexer. -/
import Derived.Test.YtadfdgdpalnnfaaDoorSame
namespace Go.Proofs.YtadfdgdpalnnfaaDoor
open Go.RowKit

theorem dec2 : Lib.itoa 2 = [50] := by simp [Lib.itoa, Lib.decDigits]
theorem dec7 : Lib.itoa 7 = [55] := by simp [Lib.itoa, Lib.decDigits]
theorem dec12 : Lib.itoa 12 = [49, 50] := by simp [Lib.itoa, Lib.decDigits]
theorem num_2 : numL [50] = some 2 := by
  have h : Lib.atoiAll [50] = .ok 2 := by decide
  have h2 : canon [50] = some 2 := by unfold canon; rw [h]; simp [dec2]
  unfold numL; rw [h2]; rfl
theorem num_12 : numL [49, 50] = some 12 := by
  have h : Lib.atoiAll [49, 50] = .ok 12 := by decide
  have h2 : canon [49, 50] = some 12 := by unfold canon; rw [h]; simp [dec12]
  unfold numL; rw [h2]; rfl
theorem num_012 : numL [48, 49, 50] = none := by
  have h : Lib.atoiAll [48, 49, 50] = .ok 12 := by decide
  have h2 : canon [48, 49, 50] = none := by unfold canon; rw [h]; simp [dec12]
  unfold numL; rw [h2]
theorem num_007 : numL [48, 48, 55] = none := by
  have h : Lib.atoiAll [48, 48, 55] = .ok 7 := by decide
  have h2 : canon [48, 48, 55] = none := by unfold canon; rw [h]; simp [dec7]
  unfold numL; rw [h2]

theorem ex1 : scanL [97, 49, 32, 61, 32, 34, 120, 92, 34, 121, 34, 59, 32, 35, 32, 122] = ([⟨0, [97, 49], 0, 0⟩, ⟨3, [61], 0, 3⟩, ⟨2, [120, 34, 121], 0, 5⟩, ⟨3, [59], 0, 11⟩], 0, 0) := by kernel_rfl
theorem ex3 : scanL [97, 32, 33, 32, 98] = ([], 2, 10) := by kernel_rfl
theorem ex4 : scanL [34, 97, 98] = ([], 0, 2) := by kernel_rfl
theorem tok_007 : tokF [48, 48, 55] = bad 3 := by
  rw [tokF, if_neg (by decide), if_pos (by decide)]
  show (match numL [48, 48, 55] with | some n => _ | none => bad 3) = bad 3
  rw [num_007]
theorem ex2 : scanL [120, 32, 48, 48, 55] = ([], 2, 3) := by
  have e1 : scanL [120, 32, 48, 48, 55] = scanF 6 0 [120, 32, 48, 48, 55] [] := by kernel_rfl
  have e2 : scanF 5 (0 + (tokF [120, 32, 48, 48, 55]).size + sk false ([120, 32, 48, 48, 55].drop (tokF [120, 32, 48, 48, 55]).size)) (([120, 32, 48, 48, 55].drop (tokF [120, 32, 48, 48, 55]).size).drop (sk false ([120, 32, 48, 48, 55].drop (tokF [120, 32, 48, 48, 55]).size))) ([] ++ [⟨(tokF [120, 32, 48, 48, 55]).kind, (tokF [120, 32, 48, 48, 55]).text, (tokF [120, 32, 48, 48, 55]).n, ((0 : Nat) : Int)⟩]) = scanF 5 2 [48, 48, 55] [⟨0, [120], 0, 0⟩] := by kernel_rfl
  rw [e1, scan_good (by decide) (by decide) (by kernel_rfl)]
  refine Eq.trans e2 ?_
  rw [scan_bad (by decide) (by decide) (by rw [tok_007]; decide), tok_007]
  rfl
theorem name_a1 : isName [97, 95, 49] = true := by kernel_rfl
theorem name_1a : isName [49, 97] = false := by kernel_rfl
end Go.Proofs.YtadfdgdpalnnfaaDoor
