/- What Scan returns for two texts with a line feed between them. -/
import Derived.Test.YtgcibbfoekfakaaDoorJoin2
namespace Go.Proofs.YtgcibbfoekfakaaDoor

theorem scanL_bad {f k : Nat} {l : List UInt8} {acc : List Tk} : (scanF f k l acc).2.2 ≠ 0 → (scanF f k l acc).1 = [] := by
  induction f generalizing k l acc with
  | zero => intro h; simp [scanF] at h
  | succ f ih =>
    intro h
    rw [scanF] at h ⊢
    by_cases hl : l = []
    · rw [if_pos hl] at h; exact absurd rfl h
    · rw [if_neg hl] at h ⊢
      simp only at h ⊢
      by_cases he : (tokF l).err ≠ 0
      · rw [if_pos he]
      · rw [if_neg he] at h ⊢; exact ih h
theorem scan_both (x y : List UInt8) (hx : x.length ≤ 900) (hy : y.length ≤ 900) : scanL (x ++ 10 :: y) =
    if (scanL x).2.2 = 0 then
      ((if (scanL y).2.2 = 0 then (scanL x).1 ++ (scanL y).1.map (shT (x.length + 1)) else []), (if (scanL y).2.2 = 0 then 0 else (scanL y).2.1 + (x.length + 1)), (scanL y).2.2)
    else scanL x := by
  have hlen : (x ++ 10 :: y).length = x.length + y.length + 1 := by simp; omega
  rw [scanL_short (l := x) (by omega), scanL_short (l := y) (by omega), scanL_short (l := x ++ 10 :: y) (by omega)]
  have h := scan_join y ((x ++ 10 :: y).length + 1) 0 x [] (by omega)
  have hs := sk_le false x
  have hf := scanF_fuel ((x ++ 10 :: y).length + 1) (x.length + 1) (0 + sk false x) (x.drop (sk false x)) [] (by rw [List.length_drop]; omega) (by rw [List.length_drop]; omega)
  rw [hf] at h
  have hr := scanF_rest ((x ++ 10 :: y).length + 1) (0 + x.length + 1) y (scanF (x.length + 1) (0 + sk false x) (x.drop (sk false x)) []).1 (by omega)
  rw [hr] at h
  simp only [Nat.zero_add] at h
  have hg : scanG (x ++ 10 :: y) = scanF ((x ++ 10 :: y).length + 1) (sk false (x ++ 10 :: y)) ((x ++ 10 :: y).drop (sk false (x ++ 10 :: y))) [] := rfl
  have hgx : scanG x = scanF (x.length + 1) (sk false x) (x.drop (sk false x)) [] := rfl
  rw [hg, h, ← hgx]
  by_cases h0 : (scanG x).2.2 = 0
  · rw [if_pos h0, if_pos h0]
    unfold shR
    by_cases h1 : (scanG y).2.2 = 0
    · simp [h1]
    · have h2 : (scanG y).1 = [] := scanL_bad h1
      simp [h1, h2]
  · rw [if_neg h0, if_neg h0]
end Go.Proofs.YtgcibbfoekfakaaDoor
