/- BaseRecovers: fewValues. -/
import Derived.Test.YtanecondopbfhaaGreatDoorRec2
namespace Go.Proofs.YtanecondopbfhaaGreatDoor
open Go.RowKit
open Cod (Env Val ValIs ValAt IsVals encV Few isInt)

theorem take_all {α : Type} {P : α → Prop} {l : List α} {k : Nat} (h : ∀ x ∈ l.take k, P x) (hk : k < l.length) (hx : P l[k]) : ∀ x ∈ l.take (k + 1), P x := by
  intro x hm
  rw [List.take_succ_eq_append_getElem hk, List.mem_append] at hm
  rcases hm with hm | hm
  · exact h x hm
  · simp only [List.mem_singleton] at hm
    rw [hm]; exact hx

def Few2 (v : Val) : Prop := Few v ∧ cost v ≤ 400

/-- What fewValues leaves: if it says so, the values are few and small. -/
def FewPost2 (vs : List Val) (w : World) (e : Ending) (w' : World) : Prop := ∃ b : Bool, e = .returned (.bool b) ∧ (b = true → vs.length ≤ 20 ∧ ∀ v ∈ vs, Few2 v) ∧ ∃ n, w' = w.drewN n

theorem few2_no {vs : List Val} {w : World} (n : Nat) : FewPost2 vs w (.returned (.bool false)) (w.drewN n) := ⟨false, rfl, by simp, n, rfl⟩

theorem sum_take (l : List (List UInt8)) (j : Nat) (hj : j < l.length) : ((l.take (j + 1)).map List.length).sum = ((l.take j).map List.length).sum + l[j].length := by
  rw [List.take_succ_eq_append_getElem hj, List.map_append, List.sum_append]; simp

set_option maxHeartbeats 4000000 in
set_option maxRecDepth 100000 in
theorem fewv_calls (u : Value) (vs : List Val) (w : World) (hu : IsVals u vs w) (hm : vs.length ≤ 9223372036854775807) (hml : ∀ v ∈ vs, v.l.length ≤ 9223372036854775807 ∧ v.t.length ≤ 9223372036854775807 ∧ (bs v.s).size ≤ 9223372036854775807) :
    Calls Tryz.prog 39 #[u] w (FewPost2 vs w) := by
  obtain ⟨a, c, rfl⟩ := hu.len
  by_cases h20 : vs.length ≤ 20
  · go_enter Tryz.func39, Tryz.ntmps39
    go_wp2
    go_loopw [3, 4] (fun n i wr => ∃ (k x : Nat), k ≤ vs.length ∧ n = .int .i64 (x : Int) ∧ i = .int .i64 k ∧ x ≤ 161200 * k ∧ (∀ v ∈ vs.take k, Few v ∧ cost v ≤ x) ∧ ∃ d, wr = w.drewN d) (fun _ i _ => vs.length - (intOf i).toNat)
    case atStart => exact ⟨0, 0, Nat.zero_le _, rfl, rfl, by omega, by simp, 0, rfl⟩
    case round =>
      obtain ⟨k, x, hk, rfl, rfl, hxb, hF, d, rfl⟩ := hrel
      have HF := Lib.hid hF
      clear hF
      by_cases hlt : k < vs.length
      · obtain ⟨b1, o1, rfl, hb1, va, vb, vc, vd, ve, hv, h0, h1, h2, h3, h4⟩ := hu.at k hlt
        obtain ⟨rfl, rfl, rfl, hd, he, _, _, _⟩ := hv
        obtain ⟨ad, cd, rfl⟩ := hd.len
        obtain ⟨ae, ce, rfl⟩ := he.len
        have hq := hml vs[k] (List.getElem_mem _)
        obtain ⟨hq1, hq2, hq3⟩ := hq
        by_cases g1 : vs[k].l.length ≤ 400
        · by_cases g2 : vs[k].t.length ≤ 400
          · by_cases g3 : (bs vs[k].s).size ≤ 400
            · have hw1 : IntKind.i64.wrap ((x : Int) + ((bs vs[k].s).size : Int)) = (x : Int) + ((bs vs[k].s).size : Int) := by rw [IntKind.wrap_i64]; omega
              have hw2 : IntKind.i64.wrap ((x : Int) + ((bs vs[k].s).size : Int) + (vs[k].l.length : Int)) = (x : Int) + ((bs vs[k].s).size : Int) + (vs[k].l.length : Int) := by rw [IntKind.wrap_i64]; omega
              have hw3 : IntKind.i64.wrap ((x : Int) + ((bs vs[k].s).size : Int) + (vs[k].l.length : Int) + (vs[k].t.length : Int)) = (x : Int) + ((bs vs[k].s).size : Int) + (vs[k].l.length : Int) + (vs[k].t.length : Int) := by rw [IntKind.wrap_i64]; omega
              go_wp2
              go_quiet (fail)
              go_wp2
              go_loopw [3, 5] (fun n j wr2 => ∃ (j' y : Nat), j' ≤ vs[k].t.length ∧ n = .int .i64 (y : Int) ∧ j = .int .i64 j' ∧ x + vs[k].s.length + vs[k].l.length + vs[k].t.length + ((vs[k].t.take j').map List.length).sum ≤ y ∧ y ≤ 161200 * k + 1200 + 400 * j' ∧ (∀ z ∈ vs[k].t.take j', z.length ≤ 400) ∧ ∃ d, wr2 = w.drewN d) (fun _ j _ => vs[k].t.length - (intOf j).toNat)
              case atStart => exact ⟨0, x + (bs vs[k].s).size + vs[k].l.length + vs[k].t.length, Nat.zero_le _, by first | rfl | go_num | (congr 1; omega) | (simp; omega), rfl, by rw [bs_size]; simp, by omega, by simp, _, World.drewN_drewN _ _ _⟩
              case round =>
                obtain ⟨j, y, hj, rfl, rfl, hsum, hyb, hT, d2, rfl⟩ := hrel
                have HT := Lib.hid hT
                have HSUM := Lib.hid hsum
                clear hT hsum
                by_cases hjl : j < vs[k].t.length
                · obtain ⟨b2, o2, rfl, hb2, hc2⟩ := he.at j hjl
                  have e1 := hc2 j (vs[k].t[j]) (List.getElem?_eq_getElem hjl)
                  clear hc2
                  have hjI : (j : Int) < (vs[k].t.length : Int) := by omega
                  by_cases g4 : (bs (vs[k].t[j])).size ≤ 400
                  · go_wp2
                    go_roundw
                    case rel =>
                      have e2 := sum_take _ j hjl
                      have e3 := HSUM.out
                      have e4 := bs_size (vs[k].t[j])
                      refine ⟨j + 1, y + (bs (vs[k].t[j])).size, by omega, by go_num, by go_num, by omega, by omega, take_all HT.out hjl (by rw [← bs_size]; exact g4), d2, rfl⟩
                    case measure => simp [intOf]; omega
                  · go_wp2
                    go_ret
                    exact few2_no d2
                · go_wp2
                  go_roundw
                  case rel =>
                    have h5 := HT.out
                    have h6 := HSUM.out
                    rw [List.take_of_length_le (by omega)] at h5 h6
                    have hs := bs_size vs[k].s
                    refine ⟨k + 1, y, by omega, rfl, by go_num, by omega, take_all (P := fun v => Few v ∧ cost v ≤ y) (fun v hv => ⟨(HF.out v hv).1, by have := (HF.out v hv).2; omega⟩) hlt ⟨⟨g1, g2, by omega, h5⟩, by unfold cost; omega⟩, d2, rfl⟩
                  case measure => simp [intOf]; omega
            · go_wp2
              go_ret
              exact few2_no d
          · go_wp2
            go_ret
            exact few2_no d
        · go_wp2
          go_ret
          exact few2_no d
      · obtain rfl : k = vs.length := by omega
        have h := HF.out
        rw [List.take_length] at h
        by_cases h400 : x ≤ 400
        · have h4 : (x : Int) ≤ 400 := by omega
          go_wp2
          go_ret
          exact ⟨_, rfl, fun _ => ⟨h20, fun v hv => ⟨(h v hv).1, by have := (h v hv).2; omega⟩⟩, d, rfl⟩
        · have h4 : ¬ (x : Int) ≤ 400 := by omega
          have h5 : decide ((x : Int) ≤ 400) = false := decide_eq_false h4
          go_wp2
          go_ret
          exact ⟨_, rfl, fun hb => by simp at hb, d, rfl⟩
  · go_enter Tryz.func39, Tryz.ntmps39
    go_wp2
    go_ret
    exact few2_no 0

end Go.Proofs.YtanecondopbfhaaGreatDoor
