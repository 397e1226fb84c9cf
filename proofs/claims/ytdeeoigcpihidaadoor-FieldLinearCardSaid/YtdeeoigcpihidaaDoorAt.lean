/- Rank, At; the reference's comparisons. -/
import Derived.Test.YtdeeoigcpihidaaDoorKer3
import Derived.Deep.QuietTactic
namespace Go.Proofs.YtdeeoigcpihidaaDoor
open Go.RowKit

theorem kernel_calls (q : Int) (hqi : isInt q) (v : Value) (xss : List (List Int)) (cols : Int) (hn : xss.length ≤ 9223372036854775807) (hr : ∀ r ∈ xss, r.length ≤ 9223372036854775807)
    (hi : ∀ r ∈ xss, ∀ x ∈ r, isInt x) (w : World) (hE : Env w) (h : IsRows v xss w) :
    Calls Tryd.prog 10 #[.int .i64 q, v, .int .i64 cols] w (KerP q xss cols w) := by
  by_cases hk : kerOk q xss cols
  · exact kernel_good q hqi v xss cols hn hr hi w hE h hk
  · exact kernel_bad q hqi v xss cols hn hr w hE h hk
/-- The rank. -/
def rankZ (q : Int) (xss : List (List Int)) : Int := if matB xss = true ∧ primeB q = true then ((redF q xss.length (widF xss) 0 [] (resM q xss)).1.length : Int) else -1
set_option maxHeartbeats 1000000 in
theorem rank_calls (q : Int) (hqi : isInt q) (v : Value) (xss : List (List Int)) (hn : xss.length ≤ 9223372036854775807) (hr : ∀ r ∈ xss, r.length ≤ 9223372036854775807)
    (hi : ∀ r ∈ xss, ∀ x ∈ r, isInt x) (w : World) (hE : Env w) (h : IsRows v xss w) :
    Calls Tryd.prog 14 #[.int .i64 q, v] w fun e w' => e = .returned (.int .i64 (rankZ q xss)) ∧ Below w.heap.size w w' := by
  have c1 := Lib.hid (width_calls v xss w h hn hr)
  obtain ⟨a, cap, rfl⟩ := h.len
  by_cases hm : matB xss = true
  · rw [show widV xss = .tuple #[.int .i64 (widF xss : Int), .bool true] by unfold widV; rw [if_pos hm]] at c1
    have c2 := Lib.hid (prime_calls q hqi w hE)
    cases hp : primeB q with
    | false =>
      rw [hp] at c2
      have HV : Hid (rankZ q xss = -1) := by show _ = _; unfold rankZ; rw [if_neg (by rw [hp]; simp)]
      clear hm hp h hn hr hi hE
      go_enter Tryd.func14, Tryd.ntmps14
      go_wp2_with fail
      refine c1.out.mono ?_
      rintro e w' ⟨rfl, rfl⟩
      go_wp2_with fail
      refine Calls.mono c2.out ?_
      rintro e w' ⟨rfl, m, rfl⟩
      go_wp2
      go_ret
      exact ⟨ret_i HV.out.symm, below_drewN (Below.refl _ _) m⟩
    | true =>
      rw [hp] at c2
      have hq := primeB_mod hp
      obtain ⟨hn64, hc64, hrc⟩ := matB_rows hm
      obtain ⟨P, hP⟩ : ∃ P, P = redF q xss.length (widF xss) 0 [] (resM q xss) := ⟨_, rfl⟩
      have HV : Hid (rankZ q xss = (P.1.length : Int)) := by show _ = _; unfold rankZ; rw [if_pos ⟨hm, hp⟩, hP]
      have c3 := fun m => Lib.hid (residues_calls q hq (.slice a xss.length cap) xss (widF xss) hrc (by omega) (by omega) hi _ (h.next (below_drewN (Below.refl w.heap.size w) m)))
      have c6 := fun H R K w' hm => Lib.hid (reduce_calls q hq w.heap.size H xss.length (widF xss) (widF xss) xss.length (by omega) (by omega) (Nat.le_refl _) (Nat.le_refl _) R K (resM q xss) (resM_all hq xss xss.length (widF xss)) w' hm)
      rw [← hP] at c6
      obtain ⟨c, hc⟩ : ∃ c, c = widF xss := ⟨_, rfl⟩
      obtain ⟨n, hnn⟩ : ∃ n, n = xss.length := ⟨_, rfl⟩
      rw [← hc, ← hnn] at c3 c6
      rw [← hc, ← hnn] at hP
      rw [← hc] at c1 hc64
      rw [← hnn] at c1 hn64
      rw [← hnn]
      clear hc hnn hm hp h hn hr hi hE hP hrc hq
      go_enter Tryd.func14, Tryd.ntmps14
      go_wp2_with fail
      refine c1.out.mono ?_
      rintro e w' ⟨rfl, rfl⟩
      go_wp2_with fail
      refine Calls.mono c2.out ?_
      rintro e w' ⟨rfl, m, rfl⟩
      go_wp2_with fail
      refine Calls.mono (c3 m).out ?_
      rintro e w1 ⟨H, R, rfl, hM1, hB1⟩
      have HB0 : Hid (Below w.heap.size w w1) := (below_drewN (Below.refl _ _) m).trans hB1
      have c7 := c6 H R _ w1 hM1
      clear c1 c2 c3 c6 hM1 hB1
      go_wp2_with fail
      refine Calls.mono c7.out ?_
      clear c7
      rintro e w2 ⟨pv, rfl, R', K', hRed, hln⟩
      obtain ⟨ap, cpp, rfl⟩ := own_len hRed.own
      have HBW : Hid (Below w.heap.size w w2) := HB0.out.trans hRed.bel
      clear hRed
      go_wp2
      go_ret
      exact ⟨ret_i HV.out.symm, HBW.out⟩
  · rw [show widV xss = .tuple #[.int .i64 0, .bool false] by unfold widV; rw [if_neg hm]] at c1
    have HV : Hid (rankZ q xss = -1) := by show _ = _; unfold rankZ; rw [if_neg (fun e => hm e.1)]
    clear hm h hn hr hi hE
    go_enter Tryd.func14, Tryd.ntmps14
    go_wp2_with fail
    refine c1.out.mono ?_
    rintro e w' ⟨rfl, rfl⟩
    go_wp2
    go_ret
    exact ⟨ret_i HV.out.symm, Below.refl _ _⟩
theorem addZ_int (n a b : Int) : isInt (addZ n a b) := by
  by_cases hn : isMod n
  · unfold addZ; rw [if_pos hn]; exact isInt_res hn (res_in n _ hn)
  · unfold addZ isInt; rw [if_neg hn]; omega
theorem subZ_int (n a b : Int) : isInt (subZ n a b) := by
  by_cases hn : isMod n
  · unfold subZ; rw [if_pos hn]; exact isInt_res hn (res_in n _ hn)
  · unfold subZ isInt; rw [if_neg hn]; omega
theorem mulZ_int (n a b : Int) : isInt (mulZ n a b) := by
  by_cases hn : isMod n
  · unfold mulZ; rw [if_pos hn]; exact isInt_res hn (res_in n _ hn)
  · unfold mulZ isInt; rw [if_neg hn]; omega
/-- The value of a polynomial. -/
def atF (q : Int) : List Int → Int → Int
  | [], _ => 0
  | c :: cs, x => addZ q (mulZ q (atF q cs x) x) c
theorem atF_int (q : Int) (cs : List Int) (x : Int) : isInt (atF q cs x) := by
  cases cs with
  | nil => unfold atF isInt; omega
  | cons c cs => exact addZ_int _ _ _
theorem atF_not {q : Int} (h : ¬ isMod q) (cs : List Int) (x : Int) : atF q cs x = 0 := by
  cases cs with
  | nil => rfl
  | cons c cs => unfold atF addZ; rw [if_neg h]
theorem atF_drop (q : Int) (cs : List Int) (x : Int) (k : Nat) (h : k < cs.length) : atF q (cs.drop k) x = addZ q (mulZ q (atF q (cs.drop (k + 1)) x) x) cs[k] := by
  rw [List.drop_eq_getElem_cons h, atF]
theorem quiet_ret {P : Program} {f : FuncId} {args : Array Value} {w : World} {n : Nat} {v u : Value} (hv : v = u) (h : Calls P f args (w.drewN n) (Ret v (w.drewN n))) :
    Calls P f args (w.drewN n) fun e w'' => e = .returned u ∧ ∃ m, w'' = w.drewN m := by subst hv; exact Calls.quiet_of h
theorem quiet_same {P : Program} {f : FuncId} {args : Array Value} {w : World} {n : Nat} {v u : Value} (hv : v = u) (h : Calls P f args (w.drewN n) fun e w' => e = .returned v ∧ w.drewN n = w') :
    Calls P f args (w.drewN n) fun e w'' => e = .returned u ∧ ∃ m, w'' = w.drewN m := by subst hv; exact h.mono fun _ _ ⟨he, hm⟩ => ⟨he, n, hm.symm⟩
def Drawn (w w' : World) : Prop := ∃ m, w' = w.drewN m
theorem Drawn.refl (w : World) : Drawn w w := ⟨0, rfl⟩
theorem Drawn.more {w w' : World} (h : Drawn w w') (n : Nat) : Drawn w (w'.drewN n) := by
  obtain ⟨m, rfl⟩ := h; exact ⟨m + n, World.drewN_drewN _ _ _⟩
theorem Drawn.below {w w' : World} (h : Drawn w w') : Below w.heap.size w w' := by
  obtain ⟨m, rfl⟩ := h; exact below_drewN (Below.refl _ _) m
set_option maxHeartbeats 1000000 in
theorem at_calls (q : Int) (v : Value) (cs : List Int) (x : Int) (hx : isInt x) (hi : ∀ c ∈ cs, isInt c) (hn : cs.length ≤ 9223372036854775807) (w : World) (h : IsInts v cs w) :
    Calls Tryd.prog 24 #[.int .i64 q, v, .int .i64 x] w (Ret (.int .i64 (atF q cs x)) w) := by
  obtain ⟨a, cap, rfl⟩ := h.len
  by_cases hq : isMod q
  · have c1 := Lib.hid (ismod_yes q hq w)
    have HV : Nat → Hid (atF q (cs.drop 0) x = atF q cs x) := fun _ => by show _ = _; rw [List.drop_zero]
    have hD : atF q (cs.drop cs.length) x = 0 := by rw [List.drop_length]; rfl
    clear hq
    go_enter Tryd.func24, Tryd.ntmps24
    go_wp2_with fail
    refine c1.out.mono ?_
    rintro e w' ⟨rfl, rfl⟩
    clear c1
    go_wp2
    go_loopw [7, 8] (fun r i wr => ∃ k : Nat, k ≤ cs.length ∧ i = .int .i64 ((k : Int) - 1) ∧ r = .int .i64 (atF q (cs.drop k) x) ∧ Drawn w wr) (fun _ i _ => (intOf i + 1).toNat)
    case atStart => exact ⟨cs.length, Nat.le_refl _, rfl, by rw [hD], Drawn.refl w⟩
    case round =>
      clear hD
      obtain ⟨k, hk, rfl, rfl, hW⟩ := hrel
      by_cases hlt : 0 < k
      · obtain ⟨i, rfl⟩ : ∃ i, k = i + 1 := ⟨k - 1, by omega⟩
        have hil : i < cs.length := by omega
        obtain ⟨bk, off, rfl, _, z0⟩ := (h.next hW.below).at i hil
        have hst := atF_drop q cs x i hil
        have hci := hi _ (List.getElem_mem hil)
        have hai := atF_int q (cs.drop (i + 1)) x
        generalize cs[i] = y at *
        obtain ⟨A, hA⟩ : ∃ A, A = atF q (cs.drop (i + 1)) x := ⟨_, rfl⟩
        rw [← hA] at hst hai
        rw [← hA]
        have c2 := fun n => Lib.hid (quiet_ret rfl (mul_calls q A x hai hx (wr.drewN n)))
        have hMi := mulZ_int q A x
        obtain ⟨M, hM⟩ : ∃ M, M = mulZ q A x := ⟨_, rfl⟩
        rw [← hM] at c2 hMi hst
        have c3 := fun n => Lib.hid (quiet_same rfl (add_calls q M y hMi hci (wr.drewN n)))
        obtain ⟨V, hV⟩ : ∃ V, V = addZ q M y := ⟨_, rfl⟩
        rw [← hV] at c3 hst
        have HST := Lib.hid hst
        have HW := Lib.hid hW
        have hii : (((i + 1 : Nat) : Int) - 1) = (i : Int) := by omega
        rw [hii]
        have hw1 : (i : Int) < (cs.length : Int) := by omega
        clear hV hM hA hst h hci hai hMi hi hii hW
        go_wp2
        go_quiet ((first
          | (go_at_call 39; exact (c2 _).out)
          | (go_at_call 22; exact (c3 _).out)))
        all_goals
          go_wp2
          go_roundw
          case rel => exact ⟨i, Nat.le_of_lt hil, rfl, congrArg (Value.int .i64) HST.out.symm, HW.out.more _⟩
          case measure => simp [intOf]
      · obtain rfl : k = 0 := by omega
        have HV2 := HV 0
        have HW := Lib.hid hW
        clear HV hW
        go_wp2
        go_ret
        exact ⟨ret_i HV2.out, HW.out⟩
  · have c1 := Lib.hid (ismod_no q hq w)
    have HV : Hid (atF q cs x = 0) := atF_not hq cs x
    clear hq
    go_enter Tryd.func24, Tryd.ntmps24
    go_wp2_with fail
    refine c1.out.mono ?_
    rintro e w' ⟨rfl, rfl⟩
    go_wp2
    go_ret
    exact ⟨ret_i HV.out.symm, 0, rfl⟩
end Go.Proofs.YtdeeoigcpihidaaDoor
