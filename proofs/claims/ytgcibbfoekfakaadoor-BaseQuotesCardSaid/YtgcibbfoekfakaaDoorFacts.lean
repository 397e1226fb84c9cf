/- Facts about scanning: offsets, what stands before, fuel. -/
import Derived.Test.YtgcibbfoekfakaaDoorScan
namespace Go.Proofs.YtgcibbfoekfakaaDoor

/-- A token that stands d bytes further. -/
def shT (d : Nat) (t : Tk) : Tk := ⟨t.kind, t.text, t.n, t.pos + d⟩
/-- A result d bytes further. -/
def shR (d : Nat) (r : List Tk × Nat × Int) : List Tk × Nat × Int := (r.1.map (shT d), if r.2.2 = 0 then 0 else r.2.1 + d, r.2.2)

theorem scanF_shift (d : Nat) : ∀ (f k : Nat) (l : List UInt8) (acc : List Tk), scanF f (k + d) l (acc.map (shT d)) = shR d (scanF f k l acc)
  | 0, k, l, acc => by simp [scanF, shR]
  | f + 1, k, l, acc => by
    rw [scanF, scanF]
    by_cases hl : l = []
    · rw [if_pos hl, if_pos hl]; simp [shR]
    · rw [if_neg hl, if_neg hl]
      simp only
      by_cases he : (tokF l).err ≠ 0
      · rw [if_pos he, if_pos he]; simp [shR, he]
      · rw [if_neg he, if_neg he]
        rw [← scanF_shift d f]
        congr 1
        · omega
        · simp [shT]

/-- Tokens that stand before. -/
theorem scanF_acc (pre : List Tk) : ∀ (f k : Nat) (l : List UInt8) (acc : List Tk), scanF f k l (pre ++ acc) = ((if (scanF f k l acc).2.2 = 0 then pre else []) ++ (scanF f k l acc).1, (scanF f k l acc).2)
  | 0, k, l, acc => by simp [scanF]
  | f + 1, k, l, acc => by
    rw [scanF, scanF]
    by_cases hl : l = []
    · rw [if_pos hl, if_pos hl]; simp
    · rw [if_neg hl, if_neg hl]
      simp only
      by_cases he : (tokF l).err ≠ 0
      · rw [if_pos he, if_pos he]; simp [he]
      · rw [if_neg he, if_neg he, List.append_assoc, scanF_acc pre f]

theorem tok_rest {l : List UInt8} (hl : l ≠ []) (he : (tokF l).err = 0) : ((l.drop (tokF l).size).drop (sk false (l.drop (tokF l).size))).length < l.length := by
  obtain ⟨c, r, rfl⟩ := List.exists_cons_of_ne_nil hl
  have := tok_size c r he
  rw [List.length_drop, List.length_drop]
  omega
/-- Enough fuel is enough. -/
theorem scanF_fuel : ∀ (f g k : Nat) (l : List UInt8) (acc : List Tk), l.length < f → l.length < g → scanF f k l acc = scanF g k l acc
  | 0, g, k, l, acc, h, _ => by omega
  | f + 1, 0, k, l, acc, _, h => by omega
  | f + 1, g + 1, k, l, acc, h1, h2 => by
    rw [scanF, scanF]
    by_cases hl : l = []
    · rw [if_pos hl, if_pos hl]
    · rw [if_neg hl, if_neg hl]
      simp only
      by_cases he : (tokF l).err ≠ 0
      · rw [if_pos he, if_pos he]
      · rw [if_neg he, if_neg he]
        have := tok_rest hl (by simpa using he)
        exact scanF_fuel f g _ _ _ (by omega) (by omega)

/-- Scanning from the first token on, whatever the length. -/
def scanG (l : List UInt8) : List Tk × Nat × Int := scanF (l.length + 1) (sk false l) (l.drop (sk false l)) []
theorem scanL_short {l : List UInt8} (h : l.length ≤ 4000) : scanL l = scanG l := by unfold scanL scanG; rw [if_neg (by omega)]
/-- What scanning does with the rest behind a token. -/
theorem scanF_rest (f k : Nat) (l : List UInt8) (acc : List Tk) (h : l.length < f) : scanF f (k + sk false l) (l.drop (sk false l)) acc =
    ((if (scanG l).2.2 = 0 then acc else []) ++ (shR k (scanG l)).1, (shR k (scanG l)).2) := by
  have h1 := scanF_acc acc f (k + sk false l) (l.drop (sk false l)) []
  have h2 := scanF_shift k f (sk false l) (l.drop (sk false l)) []
  have h3 := scanF_fuel f (l.length + 1) (sk false l) (l.drop (sk false l)) [] (by rw [List.length_drop]; omega) (by rw [List.length_drop]; omega)
  rw [List.append_nil] at h1
  rw [List.map_nil, Nat.add_comm (sk false l) k, h3] at h2
  rw [h1, h2]
  rfl
end Go.Proofs.YtgcibbfoekfakaaDoor
