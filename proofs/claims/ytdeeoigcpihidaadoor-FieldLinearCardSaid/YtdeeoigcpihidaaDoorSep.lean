/- Different residues; a zero is added to a polynomial. -/
import Derived.Test.YtdeeoigcpihidaaDoorAt
import Derived.Maps.OwnSet
import Derived.Maps.OwnOps
namespace Go.Proofs.YtdeeoigcpihidaaDoor
open Go.RowKit Go.Maps Go.WideMaps

def keysL (q : Int) (xs : List Int) : List Lit := xs.map fun x => .int .i64 (x % q)
def SnL (q : Int) (xs : List Int) (k : Nat) : DataW Unit := setOf (.lit (.bool true)) (keysL q (xs.take k))
theorem SnL_succ (q : Int) (xs : List Int) (k : Nat) (hk : k < xs.length) : SnL q xs (k + 1) = (SnL q xs k).put (.int .i64 (xs[k] % q)) (.lit (.bool true)) := by
  unfold SnL keysL
  rw [List.take_add_one, List.map_append, List.getElem?_eq_getElem hk, ← setOf_snoc]; rfl
theorem SnL_zero (q : Int) (xs : List Int) : SnL q xs 0 = .map [] := by simp [SnL, keysL, setOf]
theorem lawInt : Keyed Tryd.prog 3 := int_keyed Tryd.underlying3
/-- Whether the residues are different, as a set counts them. -/
def sepB (q : Int) (xs : List Int) : Bool := (Maps.size (SnL q xs xs.length) : Int) == (xs.length : Int)
set_option maxRecDepth 100000 in
set_option maxHeartbeats 1000000 in
theorem separate_calls (q : Int) (hqi : isInt q) (hp : primeB q = true) (v : Value) (xs : List Int) (hi : ∀ x ∈ xs, isInt x) (hl : xs.length ≤ 64) (w : World) (hE : Env w) (h : IsInts v xs w) :
    Calls Tryd.prog 41 #[.int .i64 q, v] w fun e w' => e = .returned (.bool (sepB q xs)) ∧ Below w.heap.size w w' := by
  have hmm := @run_makeMap Tryd.prog
  have c1 := Lib.hid (prime_calls q hqi w hE)
  rw [hp] at c1
  have hq := primeB_mod hp
  have c2 := fun x (hx : isInt x) w => Lib.hid (residue_calls q x hq hx.1 hx.2 w)
  obtain ⟨a, cap, rfl⟩ := h.len
  have hl64 : ¬ (64 : Int) < (xs.length : Int) := by omega
  have hwf : ∀ x : Int, (Lit.int .i64 (x % q)).wf = true := fun x => by
    have h1 := res_in q x hq
    have h2 := hq.2
    exact WalkArith.wf_i64 ⟨by omega, by omega⟩
  clear hp hqi hE
  go_enter Tryd.func41, Tryd.ntmps41
  go_wp2_with fail
  refine Calls.mono c1.out ?_
  clear c1
  rintro e w' ⟨rfl, m, rfl⟩
  have HB0 := Lib.hid (below_drewN (Below.refl w.heap.size w) m)
  have hIW := h.next (below_drewN (Below.refl w.heap.size w) m)
  obtain ⟨W, hW⟩ : ∃ W, W = w.drewN m := ⟨_, rfl⟩
  rw [← hW]
  rw [← hW] at hIW HB0
  have hsz : W.heap.size = w.heap.size := by rw [hW]; rfl
  have HS := Lib.hid hsz
  clear hW h hsz
  go_wp2
  go_loopw [19] (fun i wr => ∃ k : Nat, k ≤ xs.length ∧ i = .int .i64 k ∧ wr.ownsMap Tryd.prog 3 (plainElem Tryd.prog 4) W.heap.size k (SnL q xs k) ∧ Below W.heap.size W wr) (fun i _ => xs.length - (intOf i).toNat)
  case atStart => exact ⟨0, Nat.zero_le _, rfl, by rw [SnL_zero]; exact World.ownsMap_made _ _ _ _, (Below.refl _ _).alloc (Nat.le_refl _) _⟩
  case round =>
    clear hmm
    obtain ⟨k, hk, rfl, hown, hnx⟩ := hrel
    by_cases hlt : k < xs.length
    · obtain ⟨bk, off, rfl, _, z0⟩ := (hIW.next hnx).at k hlt
      have hst := SnL_succ q xs k hlt
      have hxi := hi _ (List.getElem_mem hlt)
      generalize xs[k] = x at *
      have c3 := c2 x hxi
      have hwx := hwf x
      obtain ⟨V, hV⟩ : ∃ V, V = x % q := ⟨_, rfl⟩
      rw [← hV] at c3 hst hwx
      have HST := Lib.hid hst
      have HNX := Lib.hid hnx
      have hkl : (k : Int) < (xs.length : Int) := by omega
      clear hV hst c2 hwf hxi hi hIW hnx
      go_wp2_with fail
      refine Calls.mono (c3 _).out ?_
      rintro e w3 ⟨rfl, rfl⟩
      go_wp2_with (first
        | (at_mapUpdate; refine wpList_mapUpdate_own _ rfl _ _ _ 69 rfl 3 4 lawInt Tryd.underlying69 (plainElem Tryd.prog 4) W.heap.size k _ rfl hown (by unfold maxLen; omega) _ _ _ rfl rfl (keyOf_int_mk Tryd.underlying3 hwx) _ [] (plainElem_bool Tryd.underlying4 true) ?_; intro w1 hown1 hgrow1)
        | go_in)
      go_roundw
      case rel => exact ⟨k + 1, by omega, by go_num, HST.out.symm ▸ hown1, HNX.out.grown hgrow1 HNX.out.size (fun j hj => by cases hj; exact Nat.le_refl _)⟩
      case measure => simp [intOf]; omega
    · obtain rfl : k = xs.length := by omega
      have HNX := Lib.hid hnx
      clear hnx
      go_wp2_with (first
        | (at_len; (refine wpList_len_own _ rfl _ 69 rfl 3 4 Tryd.underlying69 _ W.heap.size xs.length _ rfl hown ?_))
        | go_in)
      go_ret
      exact ⟨rfl, HB0.out.trans (HNX.out.mono (by rw [HS.out]; exact Nat.le_refl _))⟩
end Go.Proofs.YtdeeoigcpihidaaDoor
