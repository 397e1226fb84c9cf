/- The reference's disk in plain terms: what Put makes of a file's text. -/
import Derived.Test.YtbljfdjhgleafaaAfter
namespace Go.Proofs.Ytbljfdjhgleafaa
open Go.RowKit

/-- Put on lists. -/
def putL (s : List UInt8) (a : Nat) (t : List UInt8) : List UInt8 :=
  if t = [] then s else (List.range (max s.length (a + t.length))).map fun i => if a ≤ i ∧ i < a + t.length then t.getD (i - a) 0 else s.getD i 0

theorem text_zero {m : Img} {f : Nat} (hz : ∀ p, m.sz f ≤ p → m.B f p = 0) (i : Nat) : (m.text f).getD i 0 = m.B f i := by
  rw [text_get]
  by_cases h : i < m.sz f
  · rw [if_pos h]
  · rw [if_neg h, hz i (by omega)]

theorem put_text {m : Img} {f a : Nat} {t : List UInt8} (hz : ∀ p, m.sz f ≤ p → m.B f p = 0) (ht : t ≠ []) : (m.put f a t).text f = putL (m.text f) a t := by
  rw [putL, if_neg ht, Img.text_length]
  unfold Img.text Img.read
  have hs : (m.put f a t).sz f = max (m.sz f) (a + t.length) := if_pos rfl
  rw [hs]
  refine List.map_congr_left fun i _ => ?_
  rw [Nat.zero_add, show (List.map (fun i => m.B f (0 + i)) (List.range (m.sz f))) = m.text f from rfl, text_zero hz]
  show (if f = f ∧ a ≤ i ∧ i < a + t.length then t.getD (i - a) 0 else m.B f i) = _
  by_cases h : a ≤ i ∧ i < a + t.length
  · rw [if_pos ⟨rfl, h⟩, if_pos h]
  · rw [if_neg (fun hh => h hh.2), if_neg h]

theorem put_text_other {m : Img} {f g a : Nat} {t : List UInt8} (hg : g ≠ f) : (m.put f a t).text g = m.text g := by
  refine text_eq (if_neg hg) (fun p _ => ?_)
  exact if_neg (fun h => hg h.1)

theorem cut_text {m : Img} {f n : Nat} (hn : n ≤ m.sz f) : (m.cut f n).text f = (m.text f).take n := by
  unfold Img.text Img.read
  have hs : (m.cut f n).sz f = n := if_pos rfl
  rw [hs, ← List.map_take, List.take_range, Nat.min_eq_left hn]
  refine List.map_congr_left fun i hi => ?_
  rw [List.mem_range] at hi
  show (if f = f ∧ n ≤ 0 + i then 0 else m.B f (0 + i)) = _
  rw [if_neg (by omega)]

theorem cut_text_other {m : Img} {f g n : Nat} (hg : g ≠ f) : (m.cut f n).text g = m.text g := by
  refine text_eq (if_neg hg) (fun p _ => ?_)
  exact if_neg (fun h => hg h.1)

/-- The piece of a file that a sector holds. -/
def sectorL (t : List UInt8) (n : Nat) : List UInt8 := (t.drop (64 * n)).take 64

theorem live_text {d : Dk} {x : Nat × Nat} (zF : ∀ p, d.F.sz x.1 ≤ p → d.F.B x.1 p = 0) (zD : ∀ p, d.D.sz x.1 ≤ p → d.D.B x.1 p = 0) (hle : d.D.sz x.1 ≤ d.F.sz x.1) (hx : 64 * x.2 < d.F.sz x.1) :
    (d.live x).D.text x.1 = putL (d.D.text x.1) (64 * x.2) (sectorL (d.F.text x.1) x.2) := by
  have hl : (sectorL (d.F.text x.1) x.2).length = min 64 (d.F.sz x.1 - 64 * x.2) := by simp [sectorL, Img.text_length]
  have hne : sectorL (d.F.text x.1) x.2 ≠ [] := fun e => by rw [e] at hl; simp at hl; omega
  rw [putL, if_neg hne, Img.text_length, hl]
  have hs : (d.live x).D.sz x.1 = max (d.D.sz x.1) (min (64 * (x.2 + 1)) (d.F.sz x.1)) := if_pos rfl
  unfold Img.text Img.read
  rw [hs, show max (d.D.sz x.1) (min (64 * (x.2 + 1)) (d.F.sz x.1)) = max (d.D.sz x.1) (64 * x.2 + min 64 (d.F.sz x.1 - 64 * x.2)) by omega]
  refine List.map_congr_left fun i hi => ?_
  rw [List.mem_range] at hi
  rw [Nat.zero_add, show (List.map (fun i => d.D.B x.1 (0 + i)) (List.range (d.D.sz x.1))) = d.D.text x.1 from rfl, text_zero zD, show (List.map (fun i => d.F.B x.1 (0 + i)) (List.range (d.F.sz x.1))) = d.F.text x.1 from rfl]
  show (if x.1 = x.1 ∧ i / 64 = x.2 then d.F.B x.1 i else d.D.B x.1 i) = _
  by_cases h : 64 * x.2 ≤ i ∧ i < 64 * x.2 + min 64 (d.F.sz x.1 - 64 * x.2)
  · rw [if_pos ⟨rfl, by omega⟩, if_pos h, ← text_zero zF, sectorL, List.getD_eq_getElem?_getD, List.getD_eq_getElem?_getD, List.getElem?_take_of_lt (by omega), List.getElem?_drop, show 64 * x.2 + (i - 64 * x.2) = i by omega]
  · rw [if_neg h]
    by_cases h2 : i / 64 = x.2
    · rw [if_pos ⟨rfl, h2⟩, zF i (by omega), zD i (by omega)]
    · rw [if_neg (fun hh => h2 hh.2)]

theorem live_text_other {d : Dk} {x : Nat × Nat} {g : Nat} (hg : g ≠ x.1) : (d.live x).D.text g = d.D.text g := by
  refine text_eq (if_neg hg) (fun p _ => ?_)
  exact if_neg (fun h => hg h.1)

end Go.Proofs.Ytbljfdjhgleafaa
