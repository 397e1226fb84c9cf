/- Subtracting a row; the first row with an element other than 0. -/
import Derived.Test.YtdeeoigcpihidaaDoorMat
import Derived.Deep.RegionWith
import Derived.BigQuiet
import Derived.BigRegion
namespace Go.Proofs.YtdeeoigcpihidaaDoor
open Go.RowKit

/-- The element less a product. -/
def lessZ (q a b f : Int) : Int := (a - mulZ q b f) % q
theorem lessZ_inR {q : Int} (hq : isMod q) (a b f : Int) : inR q (lessZ q a b f) := res_in q _ hq
theorem lessZ_zero {q : Int} (hq : isMod q) (a b : Int) (ha : inR q a) : lessZ q a b 0 = a := by
  unfold lessZ mulZ
  rw [if_pos hq, Int.mul_zero, Int.zero_emod, Int.sub_zero, Int.emod_eq_of_lt ha.1 ha.2]
set_option maxHeartbeats 1000000 in
theorem subtract_calls (q f : Int) (hq : isMod q) (hf : inR q f) (b b' c K K' : Nat) (hbb : b ≠ b') (hc : c ≤ 4294967296) (g g' : Nat → Int) (hg : ∀ j, j < c → inR q (g j)) (hg' : ∀ j, j < c → inR q (g' j))
    (w : World) (h : RowAt b c g w) (h' : RowAt b' c g' w) :
    Calls Tryd.prog 47 #[.int .i64 q, .slice (some ⟨b, 0, none⟩) c K, .slice (some ⟨b', 0, none⟩) c K', .int .i64 f] w fun e w' => e = .returned (.tuple #[]) ∧ RowAt b c (fun j => lessZ q (g j) (g' j) f) w' ∧ Upd b w w' := by
  by_cases hf0 : f = 0
  · subst hf0
    have hR : RowAt b c (fun j => lessZ q (g j) (g' j) 0) w := h.congr fun j hj => (lessZ_zero hq (g j) (g' j) (hg j hj)).symm
    clear h h' hg hg' hf hq
    go_enter Tryd.func47, Tryd.ntmps47
    go_wp2
    refine bodyPost_ret (results_none rfl _ _ _) rfl ?_
    exact ⟨rfl, hR, Upd.refl _ _⟩
  · have hne : (f == 0) = false := by simpa using hf0
    have hR0 : RowAt b c (fun j => if j < 0 then lessZ q (g j) (g' j) f else g j) w := h
    have c1 := fun k (hk : k < c) w => Lib.hid (multiply_calls q (g' k) f hq (hg' k hk) hf w)
    have hM := fun k => mulZ_inR hq (g' k) f
    have hq2 : q < 2305843009213693952 := hq.2
    have c3 := fun a (ha : isInt a) w => Lib.hid (residue_calls q a hq ha.1 ha.2 w)
    have hgi := fun j (hj : j < c) => Lib.hid (hg j hj)
    have hf1 := hf0
    clear h hg hg' hq hf hf0
    go_enter Tryd.func47, Tryd.ntmps47
    go_wp2
    go_loopw [14] (fun i wr => ∃ k : Nat, k ≤ c ∧ i = .int .i64 (k : Int) ∧ RowAt b c (fun j => if j < k then lessZ q (g j) (g' j) f else g j) wr ∧ Upd b w wr) (fun i _ => c - (intOf i).toNat)
    case atStart => exact ⟨0, Nat.zero_le _, rfl, hR0, Upd.refl _ _⟩
    case round =>
      clear hR0
      obtain ⟨k, hk, rfl, hR, hU⟩ := hrel
      by_cases hlt : k < c
      · have z0 : wr.cell? ⟨b, k, none⟩ = some (.int .i64 (g k)) := by rw [hR.at' k hlt, if_neg (Nat.lt_irrefl k)]
        have y0 : wr.cell? ⟨b', k, none⟩ = some (.int .i64 (g' k)) := (h'.upd hU hbb.symm).at' k hlt
        have z1 : ∀ m j, (wr.drewN m).frozen? ⟨b, j, none⟩ = false := fun m j => hR.fz j
        have z2 : ∀ m, (wr.drewN m).cell? ⟨b, k, none⟩ = some (.int .i64 (g k)) := fun m => z0
        have c2 := c1 k hlt
        have hG := (hgi k hlt).out
        have hMk := hM k
        obtain ⟨P, hP⟩ : ∃ P, P = mulZ q (g' k) f := ⟨_, rfl⟩
        rw [← hP] at c2 hMk
        obtain ⟨G, hGe⟩ : ∃ G, G = g k := ⟨_, rfl⟩
        obtain ⟨G', hGe'⟩ : ∃ G', G' = g' k := ⟨_, rfl⟩
        rw [← hGe] at z0 z2 hG
        rw [← hGe'] at y0 c2
        have hb1 := hG.1
        have hb2 := hG.2
        have hb3 := hMk.1
        have hb4 := hMk.2
        have hwrap : IntKind.i64.wrap (G - P) = G - P := by simp only [IntKind.wrap, IntKind.bits, IntKind.signed]; simp; omega
        obtain ⟨D, hD⟩ : ∃ D, D = G - P := ⟨_, rfl⟩
        have hDi : isInt D := by unfold isInt; omega
        have c4 := c3 D hDi
        obtain ⟨V, hV⟩ : ∃ V, V = D % q := ⟨_, rfl⟩
        rw [← hV] at c4
        have HV : Hid (V = lessZ q (g k) (g' k) f) := by
          show V = _
          unfold lessZ; rw [hV, hD, hP, hGe]
        rw [← hD] at hwrap
        have hD2 := hD.symm
        have HR := Lib.hid hR
        have HU := Lib.hid hU
        clear hV hR c1 c3 hD hP hGe hGe' hgi hM hG hMk hU
        have z3 := z1 0 k
        have z4 := z2 0
        go_wp2
        go_region_with (first
          | (go_at_call 58; have h9 := (c2 wr.drew).out; clear c2; refine Calls.mono h9 ?_; rintro e w2 ⟨rfl, m, rfl⟩)
          | (go_at_call 29; refine Calls.mono (c4 _).out ?_; rintro e w3 ⟨rfl, rfl⟩; have x1 := z1 (m + 1) k; have x2 := z2 (m + 1)))
        all_goals
          go_wp2
          go_roundw
          case rel =>
            refine ⟨k + 1, by omega, by go_num, ?_, (HU.out.drewN _).setCell k _⟩
            have h1 := (HR.out.drewN (1 + m)).set k hlt V
            refine h1.congr fun j hj => ?_
            show (if j = k then V else if j < k then lessZ q (g j) (g' j) f else g j) = _
            by_cases e1 : j = k
            · subst e1; rw [if_pos rfl, if_pos (by omega), HV.out]
            · rw [if_neg e1]
              by_cases e2 : j < k
              · rw [if_pos e2, if_pos (by omega)]
              · rw [if_neg e2, if_neg (by omega)]
          case measure => simp [intOf]; omega
      · obtain rfl : k = c := by omega
        clear c1 c3
        go_wp2
        go_end0
        exact ⟨rfl, hR.congr fun j hj => by rw [if_pos hj], hU⟩

/-- The first number from k on, of so many, that has a property. -/
def firstF (p : Nat → Bool) : Nat → Nat → Option Nat
  | 0, _ => none
  | n + 1, k => if p k then some k else firstF p n (k + 1)
theorem firstF_some {p : Nat → Bool} : ∀ (n k i : Nat), firstF p n k = some i → k ≤ i ∧ i < k + n ∧ p i = true ∧ ∀ j, k ≤ j → j < i → p j = false := by
  intro n
  induction n with
  | zero => intro k i h; simp [firstF] at h
  | succ n ih =>
    intro k i h
    rw [firstF] at h
    by_cases hp : p k = true
    · rw [if_pos hp] at h
      obtain rfl := Option.some.inj h
      exact ⟨Nat.le_refl _, by omega, hp, fun j h1 h2 => by omega⟩
    · rw [if_neg hp] at h
      obtain ⟨h1, h2, h3, h4⟩ := ih (k + 1) i h
      refine ⟨by omega, by omega, h3, fun j h5 h6 => ?_⟩
      by_cases e : j = k
      · subst e; simpa using hp
      · exact h4 j (by omega) h6
theorem firstF_none {p : Nat → Bool} : ∀ (n k : Nat), firstF p n k = none → ∀ j, k ≤ j → j < k + n → p j = false := by
  intro n
  induction n with
  | zero => intro k _ j h1 h2; omega
  | succ n ih =>
    intro k h j h1 h2
    rw [firstF] at h
    by_cases hp : p k = true
    · rw [if_pos hp] at h; cases h
    · rw [if_neg hp] at h
      by_cases e : j = k
      · subst e; simpa using hp
      · exact ih (k + 1) h j (by omega) (by omega)
def optI : Option Nat → Int
  | none => -1
  | some i => (i : Int)
theorem closure_calls (b c K B j : Nat) (hj : j < c) (x : Int) (w : World) (hB : w.cell? ⟨B, 0, none⟩ = some (.int .i64 (j : Int))) (hx : w.cell? ⟨b, j, none⟩ = some (.int .i64 x)) (_ : c ≤ 4294967296) :
    Calls Tryd.prog 45 #[.slice (some ⟨b, 0, none⟩) c K, .pointer (some ⟨B, 0, none⟩)] w fun e w' => e = .returned (.bool (x != 0)) ∧ w = w' := by
  have hj2 : (j : Int) < (c : Int) := by omega
  go_enter Tryd.func45, Tryd.ntmps45
  go_wp2
  go_ret
  exact ⟨rfl, rfl⟩
set_option maxHeartbeats 1000000 in
theorem indexfunc_calls (H o n cap B j c : Nat) (hj : j < c) (hc : c ≤ 4294967296) (hn : n ≤ 4294967296) (R K : Nat → Nat) (M : Nat → Nat → Int) (w : World)
    (hB : w.cell? ⟨B, 0, none⟩ = some (.int .i64 (j : Int))) (hH : ∀ i, i < n → w.cell? ⟨H, o + i, none⟩ = some (.slice (some ⟨R i, 0, none⟩) c (K i))) (hM : ∀ i, i < n → w.cell? ⟨R i, j, none⟩ = some (.int .i64 (M i j))) :
    Calls Tryd.prog 44 #[.slice (some ⟨H, o, none⟩) n cap, .func (.func 45) #[] #[.pointer (some ⟨B, 0, none⟩)]] w fun e w' => e = .returned (.int .i64 (optI (firstF (fun i => M i j != 0) n 0))) ∧ w = w' := by
  obtain ⟨X, hX⟩ : ∃ X, X = firstF (fun i => M i j != 0) n 0 := ⟨_, rfl⟩
  rw [← hX]
  have HX : Nat → firstF (fun i => M i j != 0) (n - 0) 0 = X := fun _ => hX.symm
  have c1 := fun i (hi : i < n) => Lib.hid (closure_calls (R i) c (K i) B j hj (M i j) w hB (hM i hi) hc)
  clear hX hM hB
  go_enter Tryd.func44, Tryd.ntmps44
  go_wp2
  go_loopw [8] (fun i wr => ∃ k : Nat, k ≤ n ∧ i = .int .i64 (k : Int) ∧ (Nat → firstF (fun i => M i j != 0) (n - k) k = X) ∧ wr = w) (fun i _ => n - (intOf i).toNat)
  case atStart => exact ⟨0, Nat.zero_le _, rfl, HX, rfl⟩
  case round =>
    clear HX
    obtain ⟨k, hk, rfl, HX, rfl⟩ := hrel
    by_cases hlt : k < n
    · have z0 := hH k hlt
      have c2 := c1 k hlt
      have hstep : Nat → (if (M k j != 0) = true then some k else firstF (fun i => M i j != 0) (n - (k + 1)) (k + 1)) = X := fun _ => by
        rw [← HX 0, show n - k = (n - (k + 1)) + 1 by omega, firstF]
      generalize hx : (M k j != 0) = x at c2 hstep
      clear hx hH c1 HX
      go_wp2_with fail
      refine Calls.mono c2.out ?_
      rintro e w' ⟨rfl, rfl⟩
      cases x with
      | true =>
        have hX : Hid (some k = X) := hstep 0
        clear hstep
        go_wp2
        go_ret
        exact ⟨ret_i (by rw [← hX.out]; rfl), rfl⟩
      | false =>
        have HX : Nat → firstF (fun i => M i j != 0) (n - (k + 1)) (k + 1) = X := fun _ => hstep 0
        clear hstep
        go_wp2
        go_roundw
        case rel => exact ⟨k + 1, by omega, by go_num, HX, by trivial⟩
        case measure => simp [intOf]; omega
    · obtain rfl : k = n := by omega
      have hX : Hid (none = X) := by
        have := HX 0
        rw [Nat.sub_self, firstF] at this
        exact this
      clear HX c1 hH
      go_wp2
      go_ret
      exact ⟨ret_i (by rw [← hX.out]; rfl), rfl⟩
end Go.Proofs.YtdeeoigcpihidaaDoor
