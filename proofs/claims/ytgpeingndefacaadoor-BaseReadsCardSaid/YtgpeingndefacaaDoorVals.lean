/- Values as they lie in memory; fewValues, write and equal. -/
import Derived.Test.YtgpeingndefacaaDoorSame
import Derived.Test.YtgpeingndefacaaDoorAgain
namespace Go.Proofs.YtgpeingndefacaaDoor
open Go.RowKit

/-- A value of the statements. -/
structure Val where
  k : Int
  n : Int
  s : List UInt8
  l : List Int
  t : List (List UInt8)

/-- The five cells of a value. -/
def ValIs (v : Val) (a b c d e : Value) (w : World) : Prop := a = .int .i64 v.k ∧ b = .int .i64 v.n ∧ c = .string (bs v.s) ∧ IsInts d v.l w ∧ IsTexts e v.t w ∧ isInt v.k ∧ isInt v.n ∧ ∀ x ∈ v.l, isInt x
theorem ValIs.next {v : Val} {a b c d e : Value} {w w' : World} (h : ValIs v a b c d e w) (hb : Below w.heap.size w w') : ValIs v a b c d e w' :=
  ⟨h.1, h.2.1, h.2.2.1, h.2.2.2.1.next hb, h.2.2.2.2.1.next hb, h.2.2.2.2.2⟩
/-- A value at an address. -/
def ValAt (bk off : Nat) (v : Val) (w : World) : Prop := ∃ a b c d e, ValIs v a b c d e w ∧ w.cell? ⟨bk, off, none⟩ = some a ∧ w.cell? ⟨bk, off + 1, none⟩ = some b ∧ w.cell? ⟨bk, off + 2, none⟩ = some c ∧ w.cell? ⟨bk, off + 3, none⟩ = some d ∧ w.cell? ⟨bk, off + 4, none⟩ = some e
/-- A slice of values. -/
def IsVals (u : Value) (vs : List Val) (w : World) : Prop :=
  ((∃ a c, u = .slice a 0 c) ∧ vs = []) ∨ ∃ bk off cap, u = .slice (some ⟨bk, off, none⟩) vs.length cap ∧ bk < w.heap.size ∧ ∀ i v, vs[i]? = some v → ValAt bk (off + i * 5) v w
theorem ValAt.next {bk off : Nat} {v : Val} {w w' : World} (h : ValAt bk off v w) (hb : Below w.heap.size w w') (hlt : bk < w.heap.size) : ValAt bk off v w' := by
  obtain ⟨a, b, c, d, e, hv, h0, h1, h2, h3, h4⟩ := h
  have hc : ∀ j, w'.cell? ⟨bk, j, none⟩ = w.cell? ⟨bk, j, none⟩ := fun j => hb.cell (p := ⟨bk, j, none⟩) hlt
  exact ⟨a, b, c, d, e, hv.next hb, by rw [hc]; exact h0, by rw [hc]; exact h1, by rw [hc]; exact h2, by rw [hc]; exact h3, by rw [hc]; exact h4⟩
theorem IsVals.next {u : Value} {vs : List Val} {w w' : World} (h : IsVals u vs w) (hb : Below w.heap.size w w') : IsVals u vs w' := by
  rcases h with h | ⟨bk, off, cap, hu, hlt, hc⟩
  · exact .inl h
  · exact .inr ⟨bk, off, cap, hu, Nat.lt_of_lt_of_le hlt hb.size, fun i v hv => (hc i v hv).next hb hlt⟩
theorem IsVals.len {u : Value} {vs : List Val} {w : World} (h : IsVals u vs w) : ∃ a cap, u = .slice a vs.length cap := by
  rcases h with ⟨⟨a, c, h1⟩, h2⟩ | ⟨bk, off, cap, h, _⟩
  · exact ⟨a, c, by rw [h1, h2]; rfl⟩
  · exact ⟨_, _, h⟩
theorem IsVals.at {a : Option Addr} {n cap : Nat} {vs : List Val} {w : World} (h : IsVals (.slice a n cap) vs w) (k : Nat) (hk : k < vs.length) :
    ∃ bk off, a = some ⟨bk, off, none⟩ ∧ bk < w.heap.size ∧ ValAt bk (off + k * 5) vs[k] w := by
  rcases h with ⟨h1, h2⟩ | ⟨bk, off, cap, h, hb, hc⟩
  · rw [h2] at hk; simp at hk
  · simp only [Value.slice.injEq] at h
    exact ⟨bk, off, h.1, hb, hc k _ (List.getElem?_eq_getElem hk)⟩

theorem take_all {α : Type} {P : α → Prop} {l : List α} {k : Nat} (h : ∀ x ∈ l.take k, P x) (hk : k < l.length) (hx : P l[k]) : ∀ x ∈ l.take (k + 1), P x := by
  intro x hm
  rw [List.take_succ_eq_append_getElem hk, List.mem_append] at hm
  rcases hm with hm | hm
  · exact h x hm
  · simp only [List.mem_singleton] at hm
    rw [hm]; exact hx

/-- What the check of the sizes ensures. -/
def Few (v : Val) : Prop := v.l.length ≤ 400 ∧ v.t.length ≤ 400 ∧ v.s.length ≤ 400 ∧ ∀ x ∈ v.t, x.length ≤ 400
/-- What fewValues leaves: if it says so, the values are few and small. -/
def FewPost (vs : List Val) (w : World) (e : Ending) (w' : World) : Prop := ∃ b : Bool, e = .returned (.bool b) ∧ (b = true → vs.length ≤ 20 ∧ ∀ v ∈ vs, Few v) ∧ ∃ n, w' = w.drewN n
theorem few_no {vs : List Val} {w : World} (n : Nat) : FewPost vs w (.returned (.bool false)) (w.drewN n) := ⟨false, rfl, by simp, n, rfl⟩

set_option maxHeartbeats 2000000 in
set_option maxRecDepth 100000 in
theorem fewValues (u : Value) (vs : List Val) (w : World) (hu : IsVals u vs w) (hm : vs.length ≤ 9223372036854775807) (hml : ∀ v ∈ vs, v.l.length ≤ 9223372036854775807 ∧ v.t.length ≤ 9223372036854775807 ∧ (bs v.s).size ≤ 9223372036854775807) :
    Calls Tryd.prog 9 #[u] w (FewPost vs w) := by
  obtain ⟨a, c, rfl⟩ := hu.len
  by_cases h20 : vs.length ≤ 20
  · go_enter Tryd.func9, Tryd.ntmps9
    go_wp2
    go_loopw [3, 4] (fun n i wr => ∃ (k : Nat) (x : Int), k ≤ vs.length ∧ n = .int .i64 x ∧ i = .int .i64 k ∧ (∀ v ∈ vs.take k, Few v) ∧ ∃ d, wr = w.drewN d) (fun _ i _ => vs.length - (intOf i).toNat)
    case atStart => exact ⟨0, 0, Nat.zero_le _, rfl, rfl, by simp, 0, rfl⟩
    case round =>
      obtain ⟨k, x, hk, rfl, rfl, hF, d, rfl⟩ := hrel
      have HF := Lib.hid hF
      clear hF
      by_cases hlt : k < vs.length
      · obtain ⟨b1, o1, rfl, hb1, va, vb, vc, vd, ve, hv, h0, h1, h2, h3, h4⟩ := hu.at k hlt
        obtain ⟨rfl, rfl, rfl, hd, he, _, _, _⟩ := hv
        obtain ⟨ad, cd, rfl⟩ := hd.len
        obtain ⟨ae, ce, rfl⟩ := he.len
        have hq := hml vs[k] (List.getElem_mem _)
        obtain ⟨hq1, hq2, hq3⟩ := hq
        by_cases g1 : vs[k].l.length ≤ 400
        · by_cases g2 : vs[k].t.length ≤ 400
          · by_cases g3 : (bs vs[k].s).size ≤ 400
            · go_wp2
              go_quiet (fail)
              go_wp2
              go_loopw [3, 5] (fun n j wr2 => ∃ (j' : Nat) (y : Int), j' ≤ vs[k].t.length ∧ n = .int .i64 y ∧ j = .int .i64 j' ∧ (∀ z ∈ vs[k].t.take j', z.length ≤ 400) ∧ ∃ d, wr2 = w.drewN d) (fun _ j _ => vs[k].t.length - (intOf j).toNat)
              case atStart => exact ⟨0, _, Nat.zero_le _, rfl, rfl, by simp, _, World.drewN_drewN _ _ _⟩
              case round =>
                obtain ⟨j, y, hj, rfl, rfl, hT, d2, rfl⟩ := hrel
                have HT := Lib.hid hT
                clear hT
                by_cases hjl : j < vs[k].t.length
                · obtain ⟨b2, o2, rfl, hb2, hc2⟩ := he.at j hjl
                  have e1 := hc2 j (vs[k].t[j]) (List.getElem?_eq_getElem hjl)
                  clear hc2
                  have hjI : (j : Int) < (vs[k].t.length : Int) := by omega
                  by_cases g4 : (bs (vs[k].t[j])).size ≤ 400
                  · go_wp2
                    go_roundw
                    case rel => exact ⟨j + 1, _, by omega, rfl, by go_num, take_all HT.out hjl (by rw [← bs_size]; exact g4), d2, rfl⟩
                    case measure => simp [intOf]; omega
                  · go_wp2
                    go_ret
                    exact few_no d2
                · go_wp2
                  go_roundw
                  case rel => exact ⟨k + 1, _, by omega, rfl, by go_num, take_all HF.out hlt ⟨g1, g2, by rw [← bs_size]; exact g3, by have h := HT.out; rwa [List.take_of_length_le (by omega)] at h⟩, d2, rfl⟩
                  case measure => simp [intOf]; omega
            · go_wp2
              go_ret
              exact few_no d
          · go_wp2
            go_ret
            exact few_no d
        · go_wp2
          go_ret
          exact few_no d
      · go_wp2
        go_ret
        exact ⟨_, rfl, fun _ => ⟨h20, by have h := HF.out; rwa [List.take_of_length_le (by omega)] at h⟩, d, rfl⟩
  · go_enter Tryd.func9, Tryd.ntmps9
    go_wp2
    go_ret
    exact few_no 0
end Go.Proofs.YtgpeingndefacaaDoor
