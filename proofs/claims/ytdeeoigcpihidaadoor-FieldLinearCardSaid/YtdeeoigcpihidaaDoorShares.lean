/- FieldShares: of all polynomials with a value at 0 exactly one has the given values. -/
import Derived.Test.YtdeeoigcpihidaaDoorDig
namespace Go.Proofs.YtdeeoigcpihidaaDoor
open Go.RowKit

/-- A law's post: true, and nothing that was there has turned. -/
def Tpost (w : World) (e : Ending) (w' : World) : Prop := e = .returned (.bool true) ∧ Below w.heap.size w w'
def SepL (p : Nat) (l : List Int) : Prop := (∀ x ∈ l, x % (p : Int) ≠ 0) ∧ l.Pairwise fun x y => (y - x) % (p : Int) ≠ 0
def AwayL (p : Nat) (x : Int) (l : List Int) : Prop := ∀ y ∈ l, (x - y) % (p : Int) ≠ 0
theorem take_snoc' {α : Type} (l : List α) (i : Nat) (h : i < l.length) : l.take (i + 1) = l.take i ++ [l[i]] := by
  rw [List.take_add_one, List.getElem?_eq_getElem h]; rfl
theorem SepL.next {p : Nat} {l : List Int} {i : Nat} (hi : i < l.length) (h : SepL p (l.take i)) (h0 : l[i] % (p : Int) ≠ 0) (ha : AwayL p l[i] (l.take i)) : SepL p (l.take (i + 1)) := by
  rw [take_snoc' l i hi]
  refine ⟨fun x hx => ?_, ?_⟩
  · rcases List.mem_append.1 hx with hx | hx
    · exact h.1 x hx
    · rw [List.mem_singleton.1 hx]; exact h0
  · rw [List.pairwise_append]
    refine ⟨h.2, List.pairwise_singleton _ _, fun a ha' b hb => ?_⟩
    rw [List.mem_singleton.1 hb]; exact ha a ha'
theorem AwayL.next {p : Nat} {l : List Int} {x : Int} {k : Nat} (hk : k < l.length) (h : AwayL p x (l.take k)) (h0 : (x - l[k]) % (p : Int) ≠ 0) : AwayL p x (l.take (k + 1)) := by
  rw [take_snoc' l k hk]
  intro y hy
  rcases List.mem_append.1 hy with hy | hy
  · exact h y hy
  · rw [List.mem_singleton.1 hy]; exact h0
theorem atF_ev {q : Int} (hq : isMod q) (x : Int) : ∀ cs : List Int, atF q cs x = ev cs x % q
  | [] => by unfold atF ev; simp
  | c :: cs => by
    rw [atF, ev, atF_ev hq x cs]
    unfold addZ mulZ
    rw [if_pos hq, if_pos hq, Int.add_emod, Int.emod_emod_of_dvd _ (Int.dvd_refl q), mul_emod_l, ← Int.add_emod]
theorem fitsB_next (p : Int) (c : List Int) : ∀ (k : Nat) (xs ys : List Int) (h1 : k < xs.length) (h2 : k < ys.length), fitsB p c (xs.take (k + 1)) (ys.take (k + 1)) = (fitsB p c (xs.take k) (ys.take k) && decide (ev c xs[k] % p = ys[k] % p))
  | _, [], _, h1, _ => by simp at h1
  | _, _ :: _, [], _, h2 => by simp at h2
  | 0, x :: xs, y :: ys, _, _ => by simp [fitsB]
  | k + 1, x :: xs, y :: ys, h1, h2 => by
    have := fitsB_next p c k xs ys (by simpa using h1) (by simpa using h2)
    simp only [List.take_succ_cons, fitsB, this, List.getElem_cons_succ, Bool.and_assoc]
def fitP (p : Nat) (xs ys : List Int) (s m : Nat) : Bool := decide (m % p = s) && fitsB (p : Int) (digL p (xs.length + 1) m) xs ys
def metF (p : Nat) (xs ys : List Int) (n s : Nat) : Int := (cntB (fitP p xs ys s) n : Int)
theorem metF_le (p : Nat) (xs ys : List Int) (n s : Nat) : 0 ≤ metF p xs ys n s ∧ metF p xs ys n s ≤ n := by
  have := cntB_le (fitP p xs ys s) n
  unfold metF; omega
theorem metF_no {p : Nat} {xs ys : List Int} {n : Nat} (h : fitsB (p : Int) (digL p (xs.length + 1) n) xs ys = false) (s : Nat) : metF p xs ys n s = metF p xs ys (n + 1) s := by
  unfold metF; rw [cntB]; unfold fitP; rw [h]; simp
theorem metF_yes {p : Nat} {xs ys : List Int} {n : Nat} (h : fitsB (p : Int) (digL p (xs.length + 1) n) xs ys = true) (s : Nat) : (if s = n % p then metF p xs ys n (n % p) + 1 else metF p xs ys n s) = metF p xs ys (n + 1) s := by
  unfold metF; rw [cntB]; unfold fitP; rw [h]
  by_cases e : s = n % p
  · subst e; simp
  · rw [if_neg e]; simp [show ¬ n % p = s from fun e2 => e e2.symm]
theorem ne_of_addZ {p : Nat} (hp : isMod (p : Int)) {x : Int} : addZ (p : Int) x 0 = x % (p : Int) := by
  unfold addZ; rw [if_pos hp, Int.add_zero]
set_option maxRecDepth 100000 in
set_option maxHeartbeats 2000000 in
theorem shares_out (q : Int) (hq : 0 ≤ q ∧ q < 256) (vx vy : Value) (xs ys : List Int) (hlx : xs.length ≤ 9223372036854775807) (_ : ys.length ≤ 9223372036854775807) (W : World) (hE : Env W) (hx : IsInts vx xs W) (hy : IsInts vy ys W)
    (hno : ¬ (primeB (q % 14) = true ∧ xs.length ≤ 3 ∧ xs.length = ys.length ∧ pwF (q % 14) (xs.length + 1) 1 ≤ 2500)) :
    Calls Tryd.prog 5 #[.int .u8 q, vx, vy] W (Tpost W) := by
  obtain ⟨ax, cx, rfl⟩ := hx.len
  obtain ⟨ay, cy, rfl⟩ := hy.len
  have c1 := Lib.hid (sane_calls W hE)
  obtain ⟨p, hp⟩ : ∃ p : Nat, q % 14 = (p : Int) := ⟨(q % 14).toNat, by omega⟩
  have hp14 : p < 14 := by omega
  have hpi : isInt (p : Int) := by unfold isInt; omega
  rw [hp] at hno
  have hq0 := hq.1
  have hq1 := hq.2
  have HPQ := Lib.hid hp
  cases hpr : primeB (p : Int) with
  | false =>
    clear hno hp
    go_enter Tryd.func5, Tryd.ntmps5
    go_wp2_with fail
    refine c1.out.mono ?_
    rintro e w1 ⟨rfl, hB1⟩
    have c2 := Lib.hid (prime_calls (p : Int) hpi w1 (hE.next hB1))
    rw [hpr] at c2
    have HB1 := Lib.hid hB1
    have hp := HPQ.out
    clear hB1 hpr hE c1
    go_wp2_with fail
    refine Calls.mono c2.out ?_
    rintro e w2 ⟨rfl, m, rfl⟩
    clear c2 hp
    go_wp2
    go_ret
    exact ⟨rfl, below_drewN HB1.out m⟩
  | true =>
    by_cases h3 : xs.length ≤ 3
    · by_cases hl : xs.length = ys.length
      · have hpw : ¬ pwF (p : Int) (xs.length + 1) 1 ≤ 2500 := fun h => hno ⟨hpr, h3, hl, h⟩
        have hpl := pwF_le p hp14 (xs.length + 1) (by omega)
        have c3 := fun w => Lib.hid (power_calls p (xs.length + 1) hp14 (by omega) w)
        obtain ⟨P, hP⟩ : ∃ P, P = pwF (p : Int) (xs.length + 1) 1 := ⟨_, rfl⟩
        rw [← hP] at hpw hpl c3
        have hpw2 : (2500 : Int) < P := by omega
        have hneq : ((xs.length : Int) != (ys.length : Int)) = false := by rw [hl]; simp
        have h31 : ¬ (3 : Int) < (xs.length : Int) := by omega
        have hcast : ((xs.length + 1 : Nat) : Int) = (xs.length : Int) + 1 := by omega
        rw [hcast] at c3
        clear hno hP hcast hp hpw hl
        go_enter Tryd.func5, Tryd.ntmps5
        go_wp2_with fail
        refine c1.out.mono ?_
        rintro e w1 ⟨rfl, hB1⟩
        have c2 := Lib.hid (prime_calls (p : Int) hpi w1 (hE.next hB1))
        rw [hpr] at c2
        have HB1 := Lib.hid hB1
        have hp := HPQ.out
        clear hB1 hpr hE c1
        go_wp2_with fail
        refine Calls.mono c2.out ?_
        rintro e w2 ⟨rfl, m, rfl⟩
        go_wp2_with fail
        refine Calls.mono (c3 _).out ?_
        rintro e w2 ⟨rfl, rfl⟩
        clear c2 c3 hp
        go_wp2
        go_ret
        exact ⟨rfl, below_drewN HB1.out m⟩
      · have hneq : ((xs.length : Int) != (ys.length : Int)) = true := bne_iff_ne.2 (by omega)
        have hneq2 : ¬ (xs.length : Int) = (ys.length : Int) := by omega
        have h31 : ¬ (3 : Int) < (xs.length : Int) := by omega
        clear hno hp hl
        go_enter Tryd.func5, Tryd.ntmps5
        go_wp2_with fail
        refine c1.out.mono ?_
        rintro e w1 ⟨rfl, hB1⟩
        have c2 := Lib.hid (prime_calls (p : Int) hpi w1 (hE.next hB1))
        rw [hpr] at c2
        have HB1 := Lib.hid hB1
        have hp := HPQ.out
        clear hB1 hpr hE c1
        go_wp2_with fail
        refine Calls.mono c2.out ?_
        rintro e w2 ⟨rfl, m, rfl⟩
        clear c2 hp
        go_wp2
        go_ret
        exact ⟨rfl, below_drewN HB1.out m⟩
    · have h31 : (3 : Int) < (xs.length : Int) := by omega
      clear hno hp
      go_enter Tryd.func5, Tryd.ntmps5
      go_wp2_with fail
      refine c1.out.mono ?_
      rintro e w1 ⟨rfl, hB1⟩
      have c2 := Lib.hid (prime_calls (p : Int) hpi w1 (hE.next hB1))
      rw [hpr] at c2
      have HB1 := Lib.hid hB1
      have hp := HPQ.out
      clear hB1 hpr hE c1
      go_wp2_with fail
      refine Calls.mono c2.out ?_
      rintro e w2 ⟨rfl, m, rfl⟩
      clear c2 hp
      go_wp2
      go_ret
      exact ⟨rfl, below_drewN HB1.out m⟩
end Go.Proofs.YtdeeoigcpihidaaDoor
