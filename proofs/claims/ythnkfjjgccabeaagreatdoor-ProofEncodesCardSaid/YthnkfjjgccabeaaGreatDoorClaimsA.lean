/- The claims of a goal of one clause, as they come. -/
import Derived.RangeFuncNested
import Derived.RangeFuncBound
import Derived.RangeFuncCalls
import Derived.RangeFuncLeaves
import Derived.Shelf.Abstract
import Derived.Shelf.RegionOpen
import Derived.WalkKit
import Derived.OwnWalkIn
import Derived.TacticsInMore
import Derived.LoopNIn
import Derived.LoopIn
import Derived.Maps.AppendAt
import Derived.Test.YthnkfjjgccabeaaGreatDoorOin
import Derived.Test.YthnkfjjgccabeaaGreatDoorGoalP
namespace Go.Proofs.YthnkfjjgccabeaaGreatDoor
open Go.RowKit Go.Shelf
attribute [local go_sem] Oper.semAt_some

/-- What comes: where a claim stands, the claim, its equations. -/
structure PC (w0 : World) where
  i : Int
  k : Int
  c : ClaimD
  a : Option Addr
  cap : Nat
  is : IsEqs 0 (.slice a c.eqs.length cap) c.eqs w0
  sz : (claimG c).length ≤ 10000
def PC.encs {w0 : World} (x : PC w0) : Array Value := #[.agg #[.int .i64 x.i, .int .i64 x.k], .agg #[.int .i64 x.c.vars, .slice x.a x.c.eqs.length x.cap]]
theorem take_snoc {α : Type} (l : List α) (k : Nat) (h : k < l.length) : l.take (k + 1) = l.take k ++ [l[k]] := by
  rw [List.take_add_one, List.getElem?_eq_getElem h]; rfl

/-- The claims of a clause, in memory. -/
def Has {w0 : World} (bc oc : Nat) (xs : List (PC w0)) (W : World) : Prop := ∀ k (x : PC w0), xs[k]? = some x →
  W.cell? ⟨bc, oc + k * 2, none⟩ = some (.int .i64 x.c.vars) ∧ W.cell? ⟨bc, oc + k * 2 + 1, none⟩ = some (.slice x.a x.c.eqs.length x.cap) ∧ x.i = 0 ∧ x.k = (k : Int)
theorem Has.below {w0 W W' : World} {bc oc n₀ : Nat} {xs : List (PC w0)} (h : Has bc oc xs W) (hb : Below n₀ W W') (hbc : bc < n₀) : Has bc oc xs W' := fun k x hx => by
  obtain ⟨h1, h2, h3, h4⟩ := h k x hx
  exact ⟨by rw [hb.cell (p := ⟨bc, oc + k * 2, none⟩) hbc]; exact h1, by rw [hb.cell (p := ⟨bc, oc + k * 2 + 1, none⟩) hbc]; exact h2, h3, h4⟩

set_option maxRecDepth 100000 in
set_option maxHeartbeats 4000000 in
theorem claims1_in (F : Fence) (n : Nat) (hf : F.fn 61) (hro : F.round = none) (hn : 1 ≤ n) (l Bs n₀ bk off cap bc oc vc : Nat) (need : Int) (va : Option Addr) (w0 : World) (xs : List (PC w0)) (hreach : xs.length ≤ 1000000000)
    (J Jx : List (PC w0) → World → Prop) (hb : bk < n₀) (hbc : bc < n₀) (hva : 0 < xs.length → va = some ⟨bc, oc, none⟩) (W : World) (hn₀ : n₀ ≤ W.heap.size) (hJ : AbidesFrom W.heap.size J)
    (hY : ∀ pre x W, J pre W → pre.length < xs.length → YieldAt F (n - 1) Tryz.prog l x.encs W fun e W' =>
      (e = .returned (.bool true) ∧ J (pre ++ [x]) W' ∧ Below n₀ W W') ∨ (e = .returned (.bool false) ∧ Jx (pre ++ [x]) W'))
    (hBs : W.cell? ⟨Bs, 0, none⟩ = some (.slice (some ⟨bk, off, none⟩) 1 cap)) (hc0 : W.cell? ⟨bk, off, none⟩ = some (.int .i64 need)) (hc1 : W.cell? ⟨bk, off + 1, none⟩ = some (.slice va xs.length vc))
    (hcs : Has bc oc xs W) (h0 : J [] W) :
    CallsIn F n Tryz.prog 61 #[.func (.yield l) #[] #[], .pointer (some ⟨Bs, 0, none⟩)] W fun e W' => (∃ v, e = .returned v) ∧
      ((∃ ys, ys = xs ∧ J ys W') ∨ (∃ pre, pre <+: xs ∧ Jx pre W')) := by
  refine callsIn_of_wp Tryz.func61 rfl hf ?_ hro
  simp only [Tryz.ntmps61, List.size_toArray, List.length_cons, List.length_nil, Nat.reduceAdd, Nat.reduceSub, Array.replicate_succ, Array.replicate_zero, List.push_toArray, List.append_toArray, List.nil_append, List.cons_append]
  have HCS := Lib.hid hcs
  have HVA := Lib.hid hva
  have HJ := Lib.hid hJ
  have HY := Lib.hid hY
  clear hcs hva hJ hY
  gi_wp2
  gi_loopw [9] (fun i wr => ∃ k : Nat, k ≤ 1 ∧ i = .int .i64 k ∧ J (if k = 0 then [] else xs) wr ∧ Below n₀ W wr) (fun i _ => 1 - (intOf i).toNat)
  case atStart => exact ⟨0, Nat.zero_le _, rfl, h0, Below.refl _ _⟩
  case round =>
    obtain ⟨k, hk, rfl, hJs, hnx⟩ := hrel
    obtain ⟨w1, hw1⟩ : ∃ w1, w1 = wr := ⟨_, rfl⟩
    subst hw1
    by_cases hlt : k = 0
    · subst hlt
      have hJs' : J [] w1 := hJs
      have z0 : w1.cell? ⟨bk, off, none⟩ = some (.int .i64 need) := (hnx.cell (p := ⟨bk, off, none⟩) hb).trans hc0
      have z1 : w1.cell? ⟨bk, off + 1, none⟩ = some (.slice va xs.length vc) := (hnx.cell (p := ⟨bk, off + 1, none⟩) hb).trans hc1
      have HNX := Lib.hid hnx
      have hsz := Nat.le_trans hn₀ hnx.size
      have hb2 : Below n₀ w1 (w1.alloc (.cells #[.int .i64 need, .slice va xs.length vc] 55)) := (Below.refl _ _).alloc hsz _
      have hJ2 : J [] (w1.alloc (.cells #[.int .i64 need, .slice va xs.length vc] 55)) := HJ.out _ _ _ _ hJs' (World.grownBy_alloc _ _ none) (fun _ e => by cases e)
      clear hJs hJs' hnx hc0 hc1
      rw [show ((0 : Nat) : Int) = 0 from rfl]
      gi_wp2
      gi_loopw [17] (fun i wr => ∃ k : Nat, k ≤ xs.length ∧ i = .int .i64 k ∧ J (xs.take k) wr ∧ Below n₀ w1 wr) (fun i _ => xs.length - (intOf i).toNat)
      case atStart => exact ⟨0, Nat.zero_le _, rfl, by simpa using hJ2, hb2⟩
      case round =>
        obtain ⟨k, hk, rfl, hJs, hnx⟩ := hrel
        by_cases hlt : k < xs.length
        · obtain rfl := HVA.out (by omega)
          obtain ⟨x, hx⟩ : ∃ x, x = xs[k] := ⟨_, rfl⟩
          obtain ⟨y0, y1, e1, e2⟩ := ((HCS.out.below HNX.out hbc).below hnx hbc) k x (by rw [hx]; exact List.getElem?_eq_getElem hlt)
          have hJ3 : J (xs.take k) (wr.alloc (.cells #[.int .i64 x.c.vars, .slice x.a x.c.eqs.length x.cap] 66)) := HJ.out _ _ _ _ hJs (World.grownBy_alloc _ _ none) (fun _ e => by cases e)
          obtain ⟨fn, tmps, assign, body, hy, hR⟩ := HY.out _ x _ hJ3 (by rw [List.length_take]; omega)
          unfold PC.encs at hy
          rw [e1, e2] at hy
          have HS : Hid (xs.take k ++ [x] = xs.take (k + 1)) := by show _ = _; rw [hx]; exact (take_snoc xs k hlt).symm
          have HB := Lib.hid hnx
          have hsz2 := Nat.le_trans hsz hnx.size
          have HB2 := Lib.hid (hnx.alloc hsz2 (.cells #[.int .i64 x.c.vars, .slice x.a x.c.eqs.length x.cap] 66))
          clear e1 e2 hx hJs hJ3 hnx
          gi_wp2
          refine hR.mono ?_
          clear hR hy y0 y1
          rintro e W3 (⟨rfl, hJ3, hk3⟩ | ⟨rfl, hJx3⟩)
          · rw [HS.out] at hJ3
            gi_wp2
            go_roundw
            case rel => exact ⟨k + 1, by omega, by go_num, hJ3, HB2.out.trans hk3⟩
            case measure => simp [intOf]; omega
          · rw [HS.out] at hJx3
            gi_wp2
            refine bodyPost_ret (results_none rfl _ _ _) rfl ?_
            exact ⟨⟨_, rfl⟩, .inr ⟨_, List.take_prefix _ _, hJx3⟩⟩
        · obtain rfl : k = xs.length := by omega
          rw [List.take_length] at hJs
          have HB2 := Lib.hid (HNX.out.trans hnx)
          clear hnx
          gi_wp2
          go_roundw
          case rel => exact ⟨1, Nat.le_refl _, by go_num, hJs, HB2.out⟩
          case measure => simp [intOf]
    · obtain rfl : k = 1 := by omega
      have hJ2 : J xs w1 := hJs
      clear hJs
      gi_wp2
      go_end0
      exact ⟨⟨_, rfl⟩, .inl ⟨_, rfl, hJ2⟩⟩

set_option maxHeartbeats 1000000 in
theorem claims_in (F : Fence) (n : Nat) (hf : F.fn 37) (hro : F.round = none) (a : Option Addr) (len cap : Nat) (w : World) :
    CallsIn F n Tryz.prog 37 #[.slice a len cap] w fun e w' => e = .returned (.func (.func 61) #[] #[.pointer (some ⟨w.heap.size, 0, none⟩)]) ∧ w' = w.alloc (.cells #[.slice a len cap] 26) := by
  refine callsIn_of_wp Tryz.func37 rfl hf ?_ hro
  simp only [Tryz.ntmps37, List.size_toArray, List.length_cons, List.length_nil, Nat.reduceAdd, Nat.reduceSub, Array.replicate_succ, Array.replicate_zero, List.push_toArray, List.append_toArray, List.nil_append, List.cons_append]
  gi_wp2
  go_ret
  exact ⟨rfl, rfl⟩

theorem claims_stops (F : Fence) (n : Nat) (hf : F.fn 61) (hro : F.round = none) (hn : 1 ≤ n) (Bs n₀ bk off cap bc oc vc : Nat) (need : Int) (va : Option Addr) (w0 : World) (xs : List (PC w0)) (hreach : xs.length ≤ 1000000000)
    (hb : bk < n₀) (hbc : bc < n₀) (hva : 0 < xs.length → va = some ⟨bc, oc, none⟩) (w : World) (hBs' : Bs < w.heap.size) (hn₀ : n₀ ≤ w.heap.size)
    (hBs : w.cell? ⟨Bs, 0, none⟩ = some (.slice (some ⟨bk, off, none⟩) 1 cap)) (hc0 : w.cell? ⟨bk, off, none⟩ = some (.int .i64 need)) (hc1 : w.cell? ⟨bk, off + 1, none⟩ = some (.slice va xs.length vc))
    (hcs : Has bc oc xs w) :
    SeqStopsK F n Tryz.prog 61 #[.pointer (some ⟨Bs, 0, none⟩)] (PC.encs (w0 := w0)) (Below n₀) (fun ys => ys = xs) (fun pre => pre <+: xs) xs.length w := fun l J Jx W hW hJ _ hY h0 =>
  claims1_in F n hf hro hn l Bs n₀ bk off cap bc oc vc need va w0 xs hreach J Jx hb hbc hva W (Nat.le_trans hn₀ hW.size) hJ hY
    ((hW.cell (p := ⟨Bs, 0, none⟩) hBs').trans hBs) (((hW.mono hn₀).cell (p := ⟨bk, off, none⟩) hb).trans hc0) (((hW.mono hn₀).cell (p := ⟨bk, off + 1, none⟩) hb).trans hc1) (hcs.below (hW.mono hn₀) hbc) h0

/-- The claims of a clause that lies in memory. -/
theorem claims_list {w0 : World} (h0 : 0 < w0.heap.size) {va : Option Addr} {vc : Nat} {cs : List ClaimD} (h : IsClaims 0 (.slice va cs.length vc) cs w0) (hsz : ∀ c ∈ cs, (claimG c).length ≤ 10000) :
    ∃ (xs : List (PC w0)) (bc oc : Nat), xs.map PC.c = cs ∧ bc < w0.heap.size ∧ (0 < xs.length → va = some ⟨bc, oc, none⟩) ∧ Has bc oc xs w0 := by
  rcases h with ⟨_, rfl⟩ | ⟨bk, off, cap, hv, hlt, hc⟩
  · exact ⟨[], 0, 0, rfl, h0, (fun h => by simp at h), (fun k x hx => by simp at hx)⟩
  · simp only [Value.slice.injEq] at hv
    have key : ∀ n, n ≤ cs.length → ∃ xs : List (PC w0), xs.map PC.c = cs.take n ∧ Has bk off xs w0 := by
      intro n
      induction n with
      | zero => exact fun _ => ⟨[], by simp, fun k x hx => by simp at hx⟩
      | succ n ih =>
        intro hn
        obtain ⟨xs, h1, h2⟩ := ih (by omega)
        obtain ⟨h3, u, h4, h5⟩ := hc n _ (List.getElem?_eq_getElem (show n < cs.length by omega))
        obtain ⟨a, c, rfl⟩ := IsSl.len h5
        have hxl : xs.length = n := by have := congrArg List.length h1; simp at this; omega
        refine ⟨xs ++ [⟨0, (n : Int), cs[n], a, c, h5, hsz _ (List.getElem_mem _)⟩], by rw [List.map_append, h1, take_snoc cs n (by omega)]; rfl, fun k x hx => ?_⟩
        rw [List.getElem?_append] at hx
        split at hx
        · exact h2 k x hx
        · rename_i hk
          obtain rfl : k = n := by
            have h6 : k - xs.length < 1 := by
              rcases Nat.lt_or_ge (k - xs.length) 1 with h | h
              · exact h
              · rw [List.getElem?_eq_none (by simpa using h)] at hx; cases hx
            omega
          rw [hxl, Nat.sub_self] at hx
          obtain rfl := Option.some.inj hx
          exact ⟨h3, h4, rfl, rfl⟩
    obtain ⟨xs, h1, h2⟩ := key cs.length (Nat.le_refl _)
    exact ⟨xs, bk, off, by rw [h1, List.take_length], hlt.2, fun _ => hv.1, h2⟩
end Go.Proofs.YthnkfjjgccabeaaGreatDoor
