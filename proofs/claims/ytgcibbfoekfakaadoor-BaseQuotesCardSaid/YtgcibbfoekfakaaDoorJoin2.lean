/- Scanning two texts with a line feed between them. -/
import Derived.Test.YtgcibbfoekfakaaDoorJoin
namespace Go.Proofs.YtgcibbfoekfakaaDoor

theorem scan_join (y : List UInt8) : ∀ (f k : Nat) (l : List UInt8) (acc : List Tk), l.length + y.length + 1 < f →
    scanF f (k + sk false (l ++ 10 :: y)) ((l ++ 10 :: y).drop (sk false (l ++ 10 :: y))) acc =
      if (scanF f (k + sk false l) (l.drop (sk false l)) acc).2.2 = 0 then scanF f (k + l.length + 1 + sk false y) (y.drop (sk false y)) (scanF f (k + sk false l) (l.drop (sk false l)) acc).1
      else scanF f (k + sk false l) (l.drop (sk false l)) acc
  | 0, k, l, acc, h => by omega
  | f + 1, k, l, acc, h => by
    have hs := sk_le false l
    by_cases he : sk false l = l.length
    · rw [sk_join, if_pos he, he, List.drop_length, scan_end (by omega), if_pos rfl]
      have e1 : (l ++ 10 :: y).drop (l.length + (sk false y + 1)) = y.drop (sk false y) := by
        rw [List.drop_append, List.drop_eq_nil_of_le (by omega), List.nil_append]
        have : l.length + (sk false y + 1) - l.length = sk false y + 1 := by omega
        rw [this, List.drop_succ_cons]
      rw [e1]
      congr 1
      omega
    · rw [sk_join, if_neg he]
      have e1 : (l ++ 10 :: y).drop (sk false l) = l.drop (sk false l) ++ 10 :: y := by
        rw [List.drop_append]
        have : sk false l - l.length = 0 := by omega
        rw [this, List.drop_zero]
      rw [e1]
      have hd : (l.drop (sk false l)).length = l.length - sk false l := List.length_drop
      generalize sk false l = s at *
      obtain ⟨c, r, hc⟩ := List.exists_cons_of_ne_nil (show l.drop s ≠ [] by intro e; rw [e] at hd; simp at hd; omega)
      rw [hc] at hd ⊢
      have ht := tok_size c r
      have hj := tok_join c r y
      have hne1 : (c :: r) ++ 10 :: y ≠ [] := by simp
      rw [scanF, scanF, if_neg hne1, if_neg (List.cons_ne_nil c r)]
      simp only [List.cons_append, hj]
      by_cases hb : (tokF (c :: r)).err ≠ 0
      · rw [if_pos hb, if_pos hb]
        exact (if_neg hb).symm
      · rw [if_neg hb, if_neg hb]
        obtain ⟨h1, h2⟩ := ht (by simpa using hb)
        generalize tokF (c :: r) = t at *
        have e2 : (c :: (r ++ 10 :: y)).drop t.size = (c :: r).drop t.size ++ 10 :: y := by
          show ((c :: r) ++ 10 :: y).drop t.size = _
          rw [List.drop_append]
          have : t.size - (c :: r).length = 0 := by omega
          rw [this, List.drop_zero]
        rw [e2]
        have hl2 : ((c :: r).drop t.size).length = (c :: r).length - t.size := List.length_drop
        have ih := scan_join y f (k + s + t.size) ((c :: r).drop t.size) (acc ++ [⟨t.kind, t.text, t.n, ((k + s : Nat) : Int)⟩]) (by omega)
        rw [ih]
        have e3 : k + s + t.size + ((c :: r).drop t.size).length + 1 + sk false y = k + l.length + 1 + sk false y := by omega
        rw [e3]
        by_cases hz : (scanF f (k + s + t.size + sk false ((c :: r).drop t.size)) (((c :: r).drop t.size).drop (sk false ((c :: r).drop t.size))) (acc ++ [⟨t.kind, t.text, t.n, ((k + s : Nat) : Int)⟩])).2.2 = 0
        · rw [if_pos hz, if_pos hz]
          have hy := sk_le false y
          exact scanF_fuel _ _ _ _ _ (by rw [List.length_drop]; omega) (by rw [List.length_drop]; omega)
        · rw [if_neg hz, if_neg hz]
end Go.Proofs.YtgcibbfoekfakaaDoor
