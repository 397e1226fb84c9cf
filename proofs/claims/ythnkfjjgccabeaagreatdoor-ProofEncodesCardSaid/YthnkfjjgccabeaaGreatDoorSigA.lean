/- Rest. -/
import Derived.Test.YthnkfjjgccabeaaGreatDoorRange
namespace Go.Proofs.YthnkfjjgccabeaaGreatDoor
open Go.RowKit

/-- The sum of numbers times the powers of two, from an exponent on. -/
def sumF (q : Int) : Nat → Int → List Int → Int
  | k, r, x :: xs => sumF q (k + 1) (addZ q r (mulZ q x (2 ^ k))) xs
  | _, r, [] => r
def SetD.restF (s : SetD) (r : Int) (l : List Int) : Int := if s.valid = true ∧ l.length ≤ 60 then subZ s.Q r (sumF s.Q 0 0 l) else 0
theorem sumF_drop (q : Int) (k : Nat) (r : Int) (l : List Int) (h : k < l.length) : sumF q k r (l.drop k) = sumF q (k + 1) (addZ q r (mulZ q l[k] (2 ^ k))) (l.drop (k + 1)) := by
  rw [List.drop_eq_getElem_cons h]; rfl

set_option maxRecDepth 100000 in
set_option maxHeartbeats 2000000 in
theorem rest_calls (s : SetD) (hi : s.ints) (vb v : Value) (r : Int) (hr : isInt r) (l : List Int) (hli : ∀ x ∈ l, isInt x) (hll : l.length ≤ 9223372036854775807) (w : World) (hE : Env w) (hb0 : IsNums vb s.bs w) (hv : IsNums v l w) :
    Calls Tryz.prog 18 #[s.val vb, .int .i64 r, v] w fun e w' => e = .returned (.int .i64 (s.restF r l)) ∧ Below w.heap.size w w' := by
  obtain ⟨a, cap, rfl⟩ := hv.len
  have hb := below_one w (.cells (s.cells vb) 34)
  have hS : SetAt s vb w.heap.size (w.alloc (.cells (s.cells vb) 34)) := Blk.new w _ _
  have c1 := Lib.hid (vset_calls s hi vb _ (hE.next hb) (hb0.next hb))
  have HF : Hid (s.restF r l = if s.valid = true ∧ l.length ≤ 60 then subZ s.Q r (sumF s.Q 0 0 l) else 0) := rfl
  have HLI := Lib.hid hli
  obtain ⟨V, hV⟩ : ∃ v, v = s.valid := ⟨_, rfl⟩
  rw [← hV] at c1 HF
  have hQi := hi.Q
  unfold SetD.val at *
  unfold SetD.cells at hS hb c1
  clear hV hE hb0 hli hi
  by_cases h60 : l.length ≤ 60
  · have d60 : decide ((60 : Int) < (l.length : Int)) = false := decide_eq_false (by omega)
    go_enter Tryz.func18, Tryz.ntmps18
    obtain ⟨z0, z1, z2, z3, z4⟩ := hS.get
    go_wp2_with fail
    generalize w.alloc (.cells #[.int .i64 s.P, .int .i64 s.Q, .int .i64 s.G, vb, .int .i64 s.H] 34) = W0 at *
    have hS0 : SetAt s vb w.heap.size W0 := hS
    refine Calls.mono c1.out ?_
    clear c1 hS z0 z1 z2 z3 z4
    rintro e w1 ⟨rfl, hb1⟩
    have hS1 := hS0.next hb1
    have hbb := hb.trans (hb1.mono hb.size)
    clear hS0 hb hb1
    obtain ⟨z0, z1, z2, z3, z4⟩ := hS1.get
    cases V
    · have HR : Hid (s.restF r l = 0) := by show s.restF r l = 0; rw [HF.out, if_neg (by simp)]
      go_wp2
      go_ret
      exact ⟨ret_i HR.out.symm, hbb⟩
    · have HR : Hid (s.restF r l = subZ s.Q r (sumF s.Q 0 0 l)) := by show s.restF r l = _; rw [HF.out, if_pos ⟨rfl, h60⟩]
      clear HF
      go_wp2
      obtain ⟨T0, hT0⟩ : ∃ T, T = sumF s.Q 0 0 l := ⟨_, rfl⟩
      rw [← hT0] at HR
      have HT0 := Lib.hid hT0
      clear hT0 z0 z1 z2 z3 z4 hS1
      go_loopw [8, 24] (fun t i wr => ∃ (k : Nat) (S : Int), k ≤ l.length ∧ i = .int .i64 (k : Int) ∧ t = .int .i64 S ∧ isInt S ∧ sumF s.Q k S (l.drop k) = T0 ∧ Below w.heap.size w wr) (fun _ i _ => l.length - (intOf i).toNat)
      case atStart => exact ⟨0, 0, Nat.zero_le _, rfl, rfl, by unfold isInt; omega, HT0.out.symm, hbb⟩
      case round =>
        clear hbb HT0
        obtain ⟨k, S, hk, rfl, rfl, hSi, hsum, hbr⟩ := hrel
        by_cases hlt : k < l.length
        · obtain ⟨bk, off, rfl, _, x, hx, y0⟩ := (hv.next hbr).at k hlt
          have hxi := HLI.out _ (List.getElem_mem hlt)
          have HW := Lib.hid ((sumF_drop s.Q k S l hlt).symm.trans hsum)
          rw [← hx] at hxi HW
          clear hx hsum
          have hkl : (k : Int) < (l.length : Int) := by omega
          have HB := Lib.hid hbr
          have hTi : isInt ((2 : Int) ^ k) := by have := two_pow_le k (by omega); unfold isInt; omega
          have hw1 := two_pow_wrap k (by omega)
          obtain ⟨T, hT⟩ : ∃ T, T = (2 : Int) ^ k := ⟨_, rfl⟩
          have HT := Lib.hid hT
          rw [← hT] at hTi HW
          have e1 : IntKind.i64.wrap ((2 : Int) ^ k) = T := by rw [hT]; exact hw1
          have hXi := mulZ_int s.Q x T
          have hYi := addZ_int s.Q S (mulZ s.Q x T)
          have k1 := fun w => Lib.hid (mul_calls s.Q x T hxi hTi w)
          have k2 := fun w => Lib.hid (add_calls s.Q S (mulZ s.Q x T) hSi hXi w)
          generalize addZ s.Q S (mulZ s.Q x T) = Y at *
          generalize mulZ s.Q x T = X at *
          have hk0 : (0 : Int) ≤ (k : Int) := Int.natCast_nonneg _
          have hk64 : (k : Int) ≤ 64 := by omega
          clear hbr hSi hxi hTi hw1 hT hXi HR
          go_wp2_with fail
          refine Calls.mono (k1 _).out ?_
          rintro e w3 ⟨rfl, m, rfl⟩
          clear e1 k1
          go_wp2_with fail
          refine Calls.mono (k2 _).out ?_
          rintro e w4 ⟨rfl, rfl⟩
          go_wp2
          go_roundw
          case rel => exact ⟨k + 1, Y, by omega, by go_num, rfl, hYi, HW.out, below_drewN HB.out _⟩
          case measure => simp [intOf]; omega
        · obtain rfl : k = l.length := by omega
          have HS : Hid (T0 = S) := by show T0 = S; rw [← hsum, List.drop_length]; rfl
          have c3 := fun w => Lib.hid (sub_calls s.Q r S hr hSi w)
          clear hsum
          go_wp2_with fail
          refine Calls.mono (c3 _).out ?_
          rintro e w3 ⟨rfl, rfl⟩
          go_wp2
          go_ret
          exact ⟨ret_i (by rw [HR.out, HS.out]), hbr⟩
  · have d60 : decide ((60 : Int) < (l.length : Int)) = true := decide_eq_true (by omega)
    have HR : Hid (s.restF r l = 0) := by show s.restF r l = 0; rw [HF.out, if_neg (fun h => h60 h.2)]
    clear HF
    go_enter Tryz.func18, Tryz.ntmps18
    obtain ⟨z0, z1, z2, z3, z4⟩ := hS.get
    go_wp2_with fail
    generalize w.alloc (.cells #[.int .i64 s.P, .int .i64 s.Q, .int .i64 s.G, vb, .int .i64 s.H] 34) = W0 at *
    refine Calls.mono c1.out ?_
    clear c1 hS z0 z1 z2 z3 z4
    rintro e w1 ⟨rfl, hb1⟩
    have hbb := hb.trans (hb1.mono hb.size)
    clear hb hb1
    cases V
    · go_wp2
      go_ret
      exact ⟨ret_i HR.out.symm, hbb⟩
    · go_wp2
      go_ret
      exact ⟨ret_i HR.out.symm, hbb⟩
end Go.Proofs.YthnkfjjgccabeaaGreatDoor
/- The challenge of a signature. -/
namespace Go.Proofs.YthnkfjjgccabeaaGreatDoor
open Go.RowKit

/-- What the world holds of the library's and the program's variables. -/
structure Envs (w : World) : Prop where
  f : Env w
  c : Cod.Env w
theorem Envs.next {w w' : World} (h : Envs w) (hb : Below w.heap.size w w') : Envs w' := ⟨h.f.next hb, h.c.next hb⟩
theorem Envs.at {w w0 w' : World} (h : Envs w) (hb : Below w.heap.size w w0) (hb' : Below w0.heap.size w0 w') : Envs w' := (h.next hb).next hb'
/-- A call behind a world, with what it keeps of the world at which it begins. -/
def DoesE (w0 : World) (f : FuncId) (args : Array Value) (v : Value) : Prop :=
  ∀ (args' : Array Value) (w : World), args' = args → Below w0.heap.size w0 w → Calls Tryz.prog f args' w fun e w' => e = .returned v ∧ Below w0.heap.size w0 w' ∧ Below w.heap.size w w'
theorem DoesE.mk {w0 : World} {f : FuncId} {args : Array Value} {v : Value} (h : ∀ w, Below w0.heap.size w0 w → Calls Tryz.prog f args w fun e w' => e = .returned v ∧ Below w.heap.size w w') : DoesE w0 f args v := by
  intro args' w he hb
  subst he
  exact (h w hb).mono fun _ _ ⟨a, b⟩ => ⟨a, hb.trans (b.mono hb.size), b⟩
theorem nums_blk {w : World} {g : Nat} {t : TypeId} {a b : Int} (h : Blk w g t #[.int .i64 a, .int .i64 b]) : Cod.IsInts (.slice (some ⟨g, 0, none⟩) 2 2) [a, b] w := by
  refine .inr ⟨g, 0, 2, rfl, h.lt, fun i x hi => ?_⟩
  match i, hi with
  | 0, hi => simp at hi; subst hi; exact h.cell 0
  | 1, hi => simp at hi; subst hi; exact h.cell 1
theorem nums2_len (a b : Int) (ha : isInt a) (hb : isInt b) : (Cod.numsS [a, b]).length ≤ 100 := by
  have h1 := Cod.intS_len a ha
  have h2 := Cod.intS_len b hb
  have h3 := Cod.itoa_len 2 (by unfold Cod.isInt; omega)
  unfold Cod.numsS
  simp
  omega

set_option maxRecDepth 100000 in
set_option maxHeartbeats 2000000 in
theorem dare_calls (s : SetD) (msg : List UInt8) (hm : msg.length ≤ 100000000) (pub a : Int) (hp : isInt pub) (ha : isInt a) (w : World) (hE : Envs w) :
    Calls Tryz.prog 51 #[.agg #[.int .i64 s.P, .int .i64 s.Q, .int .i64 s.G], .string (bs msg), .int .i64 pub, .int .i64 a] w fun e w' => e = .returned (.int .i64 (s.dareOf msg pub a)) ∧ Below w.heap.size w w' := by
  have hb := below_one w (.cells #[.int .i64 s.P, .int .i64 s.Q, .int .i64 s.G] 31)
  have hB : Blk (w.alloc (.cells #[.int .i64 s.P, .int .i64 s.Q, .int .i64 s.G] 31)) w.heap.size 31 #[.int .i64 s.P, .int .i64 s.Q, .int .i64 s.G] := Blk.new w _ _
  have HD : Hid (s.dareOf msg pub a = numZ (Cod.textS msg ++ Cod.numsS [pub, a]) s.Q) := rfl
  have hTl : (Cod.textS msg).length ≤ 100000100 := by
    have := Cod.itoa_len (msg.length : Int) (Cod.isInt_len (by omega))
    unfold Cod.textS; simp; omega
  have hNl := nums2_len pub a hp ha
  have hE0 := hE.next hb
  have k1 := fun w hE => Lib.hid (Cod.base_Text_bs msg (by omega) w hE)
  have k2 := fun v w hE hv => Lib.hid (Cod.base_Nums v [pub, a] w hE hv (by intro x hx; simp at hx; rcases hx with rfl | rfl <;> assumption) (by simp) (by omega))
  obtain ⟨T, hT⟩ : ∃ T, T = Cod.textS msg := ⟨_, rfl⟩
  obtain ⟨N, hN⟩ : ∃ N, N = Cod.numsS [pub, a] := ⟨_, rfl⟩
  rw [← hT] at HD k1 hTl
  rw [← hN] at HD k2 hNl
  have hTs : (bs T).size ≤ 100000100 := by rw [bs_size]; exact hTl
  have hNs : (bs N).size ≤ 100 := by rw [bs_size]; exact hNl
  have hcat : ¬ 9223372036854775807 < (bs T).size + (bs N).size := by omega
  have k3 := fun w hE => Lib.hid (number_calls (T ++ N) s.Q (by rw [List.length_append]; omega) w hE)
  rw [← bs_append] at k3
  clear hT hN
  go_enter Tryz.func51, Tryz.ntmps51
  go_wp2_with fail
  generalize (w.alloc (.cells #[.int .i64 s.P, .int .i64 s.Q, .int .i64 s.G] 31)) = W0 at *
  have j1 := Lib.hid (DoesE.mk (w0 := W0) (f := 71) (fun w h => (k1 w (hE0.next h).c).out))
  have j2 : Hid (∀ (args' : Array Value) (g : Nat) (w : World), args' = #[.slice (some ⟨g, 0, none⟩) 2 2] → Below W0.heap.size W0 w → Blk w g 3 #[.int .i64 pub, .int .i64 a] → Calls Tryz.prog 28 args' w fun e w' => e = .returned (.string (bs N)) ∧ Below W0.heap.size W0 w' ∧ Below w.heap.size w w') := by
    show ∀ (args' : Array Value) (g : Nat) (w : World), _
    intro args' g w he hb hB
    subst he
    exact (k2 _ w (hE0.next hb).c (nums_blk hB)).out.mono fun _ _ ⟨a, b⟩ => ⟨a, hb.trans (b.mono hb.size), b⟩
  have j3 := Lib.hid (DoesE.mk (w0 := W0) (f := 70) (fun w h => (k3 w (hE0.next h).f).out))
  have HK : Hid (∀ w', Below W0.heap.size W0 w' → w'.cell? ⟨w.heap.size, 1, none⟩ = some (.int .i64 s.Q) ∧ Below W0.heap.size W0 w') := by
    show ∀ w', Below W0.heap.size W0 w' → _
    intro w' h
    exact ⟨(hB.next h).cell 1, h⟩
  clear k1 k2 k3 hB hE hE0
  go_region_held3 (fun w' => w'.cell? ⟨w.heap.size, 1, none⟩ = some (.int .i64 s.Q) ∧ Below W0.heap.size W0 w')
    (first | exact HK.out _ (by assumption) | exact HK.out _ (Below.alloc_ (by assumption) _) | exact HK.out _ (below_drewN (Below.refl _ _) 1) | exact HK.out _ (Below.alloc_ (below_drewN (Below.refl W0.heap.size W0) 1) _) | exact HK.out _ (Below.refl _ _))
    (first
      | (go_at_call 71; refine Calls.mono (j1.out _ _ (by with_reducible rfl) (by first | assumption | exact Below.alloc_ (by assumption) _ | exact below_drewN (Below.refl W0.heap.size W0) 1 | exact Below.alloc_ (below_drewN (Below.refl W0.heap.size W0) 1) _)) ?_; rintro e w3 ⟨rfl, hb3, hc3⟩)
      | (go_at_call 28; refine Calls.mono (j2.out _ w3.heap.size _ (by with_reducible rfl) (by first | assumption | exact Below.alloc_ (by assumption) _ | exact below_drewN (Below.refl W0.heap.size W0) 1 | exact Below.alloc_ (below_drewN (Below.refl W0.heap.size W0) 1) _) (Blk.new w3 _ _)) ?_; rintro e w4 ⟨rfl, hb4, hc4⟩)
      | (go_at_call 28; refine Calls.mono (j2.out _ W0.heap.size _ (by with_reducible rfl) (by first | assumption | exact Below.alloc_ (by assumption) _ | exact below_drewN (Below.refl W0.heap.size W0) 1 | exact Below.alloc_ (below_drewN (Below.refl W0.heap.size W0) 1) _) (by first | exact Blk.new W0.drew _ _ | exact Blk.next (Blk.new W0.drew 3 #[.int .i64 pub, .int .i64 a]) hc3)) ?_; rintro e w4 ⟨rfl, hb4, hc4⟩)
      | (go_at_call 70; refine Calls.mono (j3.out _ _ (by with_reducible rfl) (by first | assumption)) ?_; rintro e w5 ⟨rfl, hb5, hc5⟩))
  all_goals
    go_wp2
    go_ret
    exact ⟨ret_i HD.out.symm, hb.trans (hb5.mono hb.size)⟩
end Go.Proofs.YthnkfjjgccabeaaGreatDoor
/- Sign. -/
namespace Go.Proofs.YthnkfjjgccabeaaGreatDoor
open Go.RowKit

def SetD.sigV (s : SetD) (x k : Int) (msg : List UInt8) : Value := if s.canSign x k = true then .tuple #[.agg #[.int .i64 (s.sigC x k msg), .int .i64 (s.sigS x k msg)], .bool true] else .tuple #[.agg #[.int .i64 0, .int .i64 0], .bool false]
theorem numF_int (n : Int) : ∀ (l : List UInt8) (r : Int), isInt r → isInt (numF n r l)
  | [], _, h => h
  | _ :: l, _, _ => numF_int n l _ (addZ_int _ _ _)
theorem numZ_int (l : List UInt8) (n : Int) : isInt (numZ l n) := by
  unfold numZ
  split
  · exact numF_int _ _ _ (by unfold isInt; omega)
  · unfold isInt; omega
theorem only_cells2 {a w : World} {g o1 o2 : Nat} {u v : Value} (h : a.grownBy w (some g)) : a.grownBy ((w.setCell ⟨g, o1, none⟩ u).setCell ⟨g, o2, none⟩ v) (some g) :=
  Cod.only_setCell (g := g) (p := ⟨g, o2, none⟩) (Cod.only_setCell (g := g) (p := ⟨g, o1, none⟩) h (.inl rfl) u) (.inl rfl) v

set_option maxRecDepth 100000 in
set_option maxHeartbeats 4000000 in
theorem sign_calls (s : SetD) (hi : s.ints) (vb : Value) (x k : Int) (hx : isInt x) (hk : isInt k) (msg : List UInt8) (hm : msg.length ≤ 100000000) (w : World) (hE : Envs w) (hb0 : IsNums vb s.bs w) :
    Calls Tryz.prog 19 #[s.val vb, .int .i64 x, .int .i64 k, .string (bs msg)] w fun e w' => e = .returned (s.sigV x k msg) ∧ Below w.heap.size w w' := by
  have HV : Hid (s.sigV x k msg = if s.canSign x k = true then .tuple #[.agg #[.int .i64 (s.sigC x k msg), .int .i64 (s.sigS x k msg)], .bool true] else .tuple #[.agg #[.int .i64 0, .int .i64 0], .bool false]) := rfl
  have HC : Hid (s.canSign x k = (s.valid && (exB s.Q x && exB s.Q k))) := rfl
  have hb := below_one w (.cells (s.cells vb) 34)
  have hS : SetAt s vb w.heap.size (w.alloc (.cells (s.cells vb) 34)) := Blk.new w _ _
  have hbA := Below.alloc_ (Below.alloc_ hb (.cells #[.int .i64 0, .int .i64 0] 60)) (.cells #[.int .i64 s.P, .int .i64 s.Q, .int .i64 s.G] 31)
  have hSA := (hS.next (below_one _ (.cells #[.int .i64 0, .int .i64 0] 60))).next (below_one _ (.cells #[.int .i64 s.P, .int .i64 s.Q, .int .i64 s.G] 31))
  have e0 := alloc_size w (.cells (s.cells vb) 34)
  have e1 := alloc_size (w.alloc (.cells (s.cells vb) 34)) (.cells #[.int .i64 0, .int .i64 0] 60)
  rw [e0] at e1
  have hG := (Blk.new' e0 60 #[.int .i64 0, .int .i64 0]).alloc' (.cells #[.int .i64 s.P, .int .i64 s.Q, .int .i64 s.G] 31)
  have hP := Blk.new' e1 31 #[.int .i64 s.P, .int .i64 s.Q, .int .i64 s.G]
  have c1 := fun w hE h => Lib.hid (vset_calls s hi vb w hE h)
  have c2 := fun w => Lib.hid (isexp_calls s.Q x w)
  have c3 := fun w => Lib.hid (isexp_calls s.Q k w)
  have HE := Lib.hid (And.intro hE hb0)
  obtain ⟨V, hV⟩ : ∃ v, v = s.valid := ⟨_, rfl⟩
  obtain ⟨bx, hbx⟩ : ∃ v, v = exB s.Q x := ⟨_, rfl⟩
  obtain ⟨bk, hbk⟩ : ∃ v, v = exB s.Q k := ⟨_, rfl⟩
  rw [← hV] at c1 HC
  rw [← hbx] at c2 HC
  rw [← hbk] at c3 HC
  have hAi := gPow_int s.P s.Q s.G x
  have hBi := gPow_int s.P s.Q s.G k
  have hDi : isInt (s.dareOf msg (gPow s.P s.Q s.G x) (gPow s.P s.Q s.G k)) := numZ_int _ _
  have hMi := mulZ_int s.Q (s.dareOf msg (gPow s.P s.Q s.G x) (gPow s.P s.Q s.G k)) x
  have HCC : Hid (s.sigC x k msg = s.dareOf msg (gPow s.P s.Q s.G x) (gPow s.P s.Q s.G k)) := rfl
  have HSS : Hid (s.sigS x k msg = addZ s.Q k (mulZ s.Q (s.dareOf msg (gPow s.P s.Q s.G x) (gPow s.P s.Q s.G k)) x)) := rfl
  have k1 := fun w0 => Lib.hid (DoesE.mk (w0 := w0) (fun w _ => power_calls s.P s.Q s.G s.G x hi.G hx w))
  have k2 := fun w0 => Lib.hid (DoesE.mk (w0 := w0) (fun w _ => power_calls s.P s.Q s.G s.G k hi.G hk w))
  have k3 := fun w0 (hw0 : Envs w0) => Lib.hid (DoesE.mk (w0 := w0) (fun w h => dare_calls s msg hm _ _ hAi hBi w (hw0.next h)))
  have k4 := fun w => Lib.hid (mul_calls s.Q _ x hDi hx w)
  have k5 := fun w => Lib.hid (add_calls s.Q k _ hk hMi w)
  unfold SetD.val at *
  unfold SetD.cells at hSA hbA hG hP
  clear hV hbx hbk hE hb0 hi hS hb e0 e1
  go_enter Tryz.func19, Tryz.ntmps19
  have z := (show SetAt s vb w.heap.size _ from hSA).get
  obtain ⟨z0, z1, z2, z3, z4⟩ := z
  go_wp2_with fail
  generalize (((w.alloc (.cells #[.int .i64 s.P, .int .i64 s.Q, .int .i64 s.G, vb, .int .i64 s.H] 34)).alloc (.cells #[.int .i64 0, .int .i64 0] 60)).alloc (.cells #[.int .i64 s.P, .int .i64 s.Q, .int .i64 s.G] 31)) = W0 at *
  refine Calls.mono (c1 W0 (HE.out.1.next hbA).f (HE.out.2.next hbA)).out ?_
  clear c1 z0 z1 z2 z3 z4 hSA
  rintro e w1 ⟨rfl, hb1⟩
  have hbb := hbA.trans (hb1.mono hbA.size)
  have hG1 := hG.next hb1
  have hP1 := hP.next hb1
  have HE1 := Lib.hid (HE.out.1.next hbb)
  clear hbA hb1 hG hP
  have z0 := hP1.cell 0
  have z1 := hP1.cell 1
  have z2 := hP1.cell 2
  have g0 := hG1.cell 0
  have g1 := hG1.cell 1
  have g2 := hG1.frozen
  cases V
  · have HR : Hid (s.sigV x k msg = .tuple #[.agg #[.int .i64 0, .int .i64 0], .bool false]) := by show s.sigV x k msg = _; rw [HV.out, HC.out]; rfl
    go_wp2
    refine bodyPost_ret (v := .tuple #[.agg #[.int .i64 0, .int .i64 0], .bool false]) (by simp [results, Tryz.results19, go_sem, g0, g1]) rfl ⟨ret_of HR.out.symm, ?_⟩
    exact (hbb.setCell (p := ⟨w.heap.size + 1, 0, none⟩) (by simp) _).setCell (p := ⟨w.heap.size + 1, 1, none⟩) (by simp) _
  · go_wp2_with fail
    refine Calls.mono (c2 w1).out ?_
    clear c2
    rintro e w2 ⟨rfl, rfl⟩
    cases bx
    · have HR : Hid (s.sigV x k msg = .tuple #[.agg #[.int .i64 0, .int .i64 0], .bool false]) := by show s.sigV x k msg = _; rw [HV.out, HC.out]; rfl
      go_wp2
      refine bodyPost_ret (v := .tuple #[.agg #[.int .i64 0, .int .i64 0], .bool false]) (by simp [results, Tryz.results19, go_sem, g0, g1]) rfl ⟨ret_of HR.out.symm, ?_⟩
      exact (hbb.setCell (p := ⟨w.heap.size + 1, 0, none⟩) (by simp) _).setCell (p := ⟨w.heap.size + 1, 1, none⟩) (by simp) _
    · go_wp2_with fail
      refine Calls.mono (c3 w1).out ?_
      clear c3
      rintro e w2 ⟨rfl, rfl⟩
      cases bk
      · have HR : Hid (s.sigV x k msg = .tuple #[.agg #[.int .i64 0, .int .i64 0], .bool false]) := by show s.sigV x k msg = _; rw [HV.out, HC.out]; rfl
        go_wp2
        refine bodyPost_ret (v := .tuple #[.agg #[.int .i64 0, .int .i64 0], .bool false]) (by simp [results, Tryz.results19, go_sem, g0, g1]) rfl ⟨ret_of HR.out.symm, ?_⟩
        exact (hbb.setCell (p := ⟨w.heap.size + 1, 0, none⟩) (by simp) _).setCell (p := ⟨w.heap.size + 1, 1, none⟩) (by simp) _
      · have HR : Hid (s.sigV x k msg = .tuple #[.agg #[.int .i64 (s.sigC x k msg), .int .i64 (s.sigS x k msg)], .bool true]) := by show s.sigV x k msg = _; rw [HV.out, HC.out]; rfl
        clear HV HC
        have j1 := k1 w1
        have j2 := k2 w1
        have j3 := k3 w1 HE1.out
        clear k1 k2 k3
        generalize s.dareOf msg (gPow s.P s.Q s.G x) (gPow s.P s.Q s.G k) = D at *
        generalize gPow s.P s.Q s.G x = X at *
        generalize gPow s.P s.Q s.G k = Y at *
        generalize addZ s.Q k (mulZ s.Q D x) = S at *
        generalize mulZ s.Q D x = M at *
        have HK : Hid (∀ w', Below w1.heap.size w1 w' → w'.cell? ⟨w.heap.size + 1 + 1, 0, none⟩ = some (.int .i64 s.P) ∧ w'.cell? ⟨w.heap.size + 1 + 1, 1, none⟩ = some (.int .i64 s.Q) ∧ w'.cell? ⟨w.heap.size + 1 + 1, 2, none⟩ = some (.int .i64 s.G) ∧ Below w1.heap.size w1 w') := by
          show ∀ w', Below w1.heap.size w1 w' → _
          intro w' h
          have hB := hP1.next h
          exact ⟨hB.cell 0, hB.cell 1, hB.cell 2, h⟩
        have HG1 := Lib.hid hG1
        have HP1 := Lib.hid hP1
        have HB := Lib.hid hbb
        clear hG1 hP1 hbb z0 z1 z2 g0 g1 g2 hAi hBi hDi hMi
        go_wp2
        go_region_held3 (fun w' => w'.cell? ⟨w.heap.size + 1 + 1, 0, none⟩ = some (.int .i64 s.P) ∧ w'.cell? ⟨w.heap.size + 1 + 1, 1, none⟩ = some (.int .i64 s.Q) ∧ w'.cell? ⟨w.heap.size + 1 + 1, 2, none⟩ = some (.int .i64 s.G) ∧ Below w1.heap.size w1 w')
          (first | exact HK.out _ (by assumption) | exact HK.out _ (below_drewN (Below.refl _ _) 1) | exact HK.out _ (Below.refl _ _))
          (first
            | (go_at_call 42; refine Calls.mono (j1.out _ _ (by with_reducible rfl) (by first | assumption | exact below_drewN (Below.refl w1.heap.size w1) 1)) ?_; rintro e w3 ⟨rfl, hb3, hc3⟩)
            | (go_at_call 42; refine Calls.mono (j2.out _ _ (by with_reducible rfl) (by first | assumption | exact below_drewN (Below.refl w1.heap.size w1) 1)) ?_; rintro e w4 ⟨rfl, hb4, hc4⟩)
            | (go_at_call 51; refine Calls.mono (j3.out _ _ (by with_reducible rfl) (by assumption)) ?_; rintro e w5 ⟨rfl, hb5, hc5⟩))
        all_goals
          have hP5 := HP1.out.next hb5
          have hG5 := HG1.out.next hb5
          have HB5 := Lib.hid (HB.out.trans (hb5.mono HB.out.size))
          clear hb3 hb4 hc3 hc4 hc5 j1 j2 j3
          have HK5 : Hid (∀ w', w5.grownBy w' (some (w.heap.size + 1)) → w'.cell? ⟨w.heap.size + 1 + 1, 1, none⟩ = some (.int .i64 s.Q) ∧ w5.grownBy w' (some (w.heap.size + 1))) := by
            show ∀ w', w5.grownBy w' (some (w.heap.size + 1)) → _
            intro w' h
            have hB : Blk w' (w.heap.size + 1 + 1) 31 #[.int .i64 s.P, .int .i64 s.Q, .int .i64 s.G] := by
              show w'.heap[w.heap.size + 1 + 1]? = _
              rw [h.block _ hP5.lt (by simp)]; exact hP5
            exact ⟨hB.cell 1, h⟩
          have HG5 := Lib.hid hG5
          have g0 : ∀ m, (w5.drewN m).cell? ⟨w.heap.size + 1, 0, none⟩ = some (.int .i64 0) := fun m => hG5.cell 0
          have g1 : ∀ m, (w5.drewN m).cell? ⟨w.heap.size + 1, 1, none⟩ = some (.int .i64 0) := fun m => hG5.cell 1
          have g2 : ∀ m j, (w5.drewN m).frozen? ⟨w.heap.size + 1, j, none⟩ = false := fun m j => hG5.frozen j
          clear hP5 hG5 hb5
          go_wp2
          go_region_held3 (fun w' => w'.cell? ⟨w.heap.size + 1 + 1, 1, none⟩ = some (.int .i64 s.Q) ∧ w5.grownBy w' (some (w.heap.size + 1)))
            (first | exact HK5.out _ (by assumption) | exact HK5.out _ (only_drewN (Cod.only_refl _ _) _) | exact HK5.out _ (only_cells2 (by assumption)) | exact HK5.out _ (only_cells2 (only_drewN (Cod.only_refl _ _) _)))
            (first
              | (go_at_call 49; refine Calls.mono (k4 _).out ?_; rintro e w6 ⟨rfl, m, rfl⟩)
              | (go_at_call 48; refine Calls.mono (k5 _).out ?_; rintro e w7 ⟨rfl, rfl⟩))
          all_goals
            have hF : Blk (((w5.drewN (1 + m)).setCell ⟨w.heap.size + 1, 0, none⟩ (.int .i64 D)).setCell ⟨w.heap.size + 1, 1, none⟩ (.int .i64 S)) (w.heap.size + 1) 60 #[.int .i64 D, .int .i64 S] := ((HG5.out.drewN (1 + m)).set_ 0 _).set_ 1 _
            have hBF : Below w.heap.size w (((w5.drewN (1 + m)).setCell ⟨w.heap.size + 1, 0, none⟩ (.int .i64 D)).setCell ⟨w.heap.size + 1, 1, none⟩ (.int .i64 S)) := ((below_drewN HB5.out (1 + m)).setCell (p := ⟨w.heap.size + 1, 0, none⟩) (by simp) _).setCell (p := ⟨w.heap.size + 1, 1, none⟩) (by simp) _
            generalize (((w5.drewN (1 + m)).setCell ⟨w.heap.size + 1, 0, none⟩ (.int .i64 D)).setCell ⟨w.heap.size + 1, 1, none⟩ (.int .i64 S)) = WF at *
            clear g0 g1 g2
            have f0 := hF.cell 0
            have f1 := hF.cell 1
            go_wp2
            refine bodyPost_ret (v := .tuple #[.agg #[.int .i64 D, .int .i64 S], .bool true]) (by simp [results, Tryz.results19, go_sem, f0, f1]) rfl ⟨?_, hBF⟩
            rw [HR.out, HCC.out, HSS.out]
end Go.Proofs.YthnkfjjgccabeaaGreatDoor
/- Signed. -/
namespace Go.Proofs.YthnkfjjgccabeaaGreatDoor
open Go.RowKit

set_option maxRecDepth 100000 in
set_option maxHeartbeats 4000000 in
theorem signed_calls (s : SetD) (hi : s.ints) (vb : Value) (pub c t : Int) (hp : isInt pub) (hc : isInt c) (ht : isInt t) (msg : List UInt8) (hm : msg.length ≤ 100000000) (w : World) (hE : Envs w) (hb0 : IsNums vb s.bs w) :
    Calls Tryz.prog 21 #[s.val vb, .int .i64 pub, .string (bs msg), .agg #[.int .i64 c, .int .i64 t]] w fun e w' => e = .returned (.bool (s.signed pub msg c t)) ∧ Below w.heap.size w w' := by
  have HC : Hid (s.signed pub msg c t = (s.valid && (subB s.P s.Q pub && (exB s.Q c && (exB s.Q t && decide (c = s.dareOf msg pub (s.sigA pub c t))))))) := rfl
  have hb := below_one w (.cells (s.cells vb) 34)
  have hS : SetAt s vb w.heap.size (w.alloc (.cells (s.cells vb) 34)) := Blk.new w _ _
  have hbA := Below.alloc_ (Below.alloc_ hb (.cells #[.int .i64 c, .int .i64 t] 60)) (.cells #[.int .i64 s.P, .int .i64 s.Q, .int .i64 s.G] 31)
  have hSA := (hS.next (below_one _ (.cells #[.int .i64 c, .int .i64 t] 60))).next (below_one _ (.cells #[.int .i64 s.P, .int .i64 s.Q, .int .i64 s.G] 31))
  have e0 := alloc_size w (.cells (s.cells vb) 34)
  have e1 := alloc_size (w.alloc (.cells (s.cells vb) 34)) (.cells #[.int .i64 c, .int .i64 t] 60)
  rw [e0] at e1
  have hG := (Blk.new' e0 60 #[.int .i64 c, .int .i64 t]).alloc' (.cells #[.int .i64 s.P, .int .i64 s.Q, .int .i64 s.G] 31)
  have hP := Blk.new' e1 31 #[.int .i64 s.P, .int .i64 s.Q, .int .i64 s.G]
  have c1 := fun w hE h => Lib.hid (vset_calls s hi vb w hE h)
  have c2 := fun w => Lib.hid (isel_calls s.P s.Q s.G pub hi.Q hp w)
  have c3 := fun w => Lib.hid (isexp_calls s.Q c w)
  have c4 := fun w => Lib.hid (isexp_calls s.Q t w)
  have HE := Lib.hid (And.intro hE hb0)
  obtain ⟨V, hV⟩ : ∃ v, v = s.valid := ⟨_, rfl⟩
  obtain ⟨bp, hbp⟩ : ∃ v, v = subB s.P s.Q pub := ⟨_, rfl⟩
  obtain ⟨bc, hbc⟩ : ∃ v, v = exB s.Q c := ⟨_, rfl⟩
  obtain ⟨bt, hbt⟩ : ∃ v, v = exB s.Q t := ⟨_, rfl⟩
  rw [← hV] at c1 HC
  rw [← hbp] at c2 HC
  rw [← hbc] at c3 HC
  rw [← hbt] at c4 HC
  have hAi := gPow_int s.P s.Q s.G t
  have hBi := gPow_int s.P s.Q pub c
  have hOi := gOver_int s.P s.Q (gPow s.P s.Q s.G t) (gPow s.P s.Q pub c)
  have HCC : Hid (s.sigA pub c t = gOver s.P s.Q (gPow s.P s.Q s.G t) (gPow s.P s.Q pub c)) := rfl
  have k1 := fun w0 => Lib.hid (DoesE.mk (w0 := w0) (fun w _ => power_calls s.P s.Q s.G s.G t hi.G ht w))
  have k2 := fun w0 => Lib.hid (DoesE.mk (w0 := w0) (fun w _ => power_calls s.P s.Q s.G pub c hp hc w))
  have k3 := fun w0 => Lib.hid (DoesE.mk (w0 := w0) (fun w _ => over_calls s.P s.Q s.G _ _ hAi hBi w))
  have k4 := fun w0 (hw0 : Envs w0) => Lib.hid (DoesE.mk (w0 := w0) (fun w h => dare_calls s msg hm pub _ hp hOi w (hw0.next h)))
  rw [HCC.out] at HC
  unfold SetD.val at *
  unfold SetD.cells at hSA hbA hG hP
  clear hV hbp hbc hbt hE hb0 hi hS hb e0 e1 HCC
  go_enter Tryz.func21, Tryz.ntmps21
  have z := (show SetAt s vb w.heap.size _ from hSA).get
  obtain ⟨z0, z1, z2, z3, z4⟩ := z
  go_wp2_with fail
  generalize (((w.alloc (.cells #[.int .i64 s.P, .int .i64 s.Q, .int .i64 s.G, vb, .int .i64 s.H] 34)).alloc (.cells #[.int .i64 c, .int .i64 t] 60)).alloc (.cells #[.int .i64 s.P, .int .i64 s.Q, .int .i64 s.G] 31)) = W0 at *
  refine Calls.mono (c1 W0 (HE.out.1.next hbA).f (HE.out.2.next hbA)).out ?_
  clear c1 z0 z1 z2 z3 z4 hSA
  rintro e w1 ⟨rfl, hb1⟩
  have hbb := hbA.trans (hb1.mono hbA.size)
  have hG1 := hG.next hb1
  have hP1 := hP.next hb1
  clear hbA hb1 hG hP
  have z0 := hP1.cell 0
  have z1 := hP1.cell 1
  have z2 := hP1.cell 2
  cases V
  · have HR : Hid (s.signed pub msg c t = false) := by show s.signed pub msg c t = _; rw [HC.out]; rfl
    go_wp2
    go_ret
    exact ⟨ret_b HR.out.symm, hbb⟩
  · go_wp2_with fail
    refine Calls.mono (c2 w1).out ?_
    clear c2 z0 z1 z2
    rintro e w2 ⟨rfl, hb2⟩
    have hb3 := hbb.trans (hb2.mono hbb.size)
    have hG2 := hG1.next hb2
    have hP2 := hP1.next hb2
    have HE2 := Lib.hid (HE.out.1.next hb3)
    clear hG1 hP1 hbb hb2
    have z0 := hP2.cell 0
    have z1 := hP2.cell 1
    have z2 := hP2.cell 2
    have g0 := hG2.cell 0
    have g1 := hG2.cell 1
    cases bp
    · have HR : Hid (s.signed pub msg c t = false) := by show s.signed pub msg c t = _; rw [HC.out]; rfl
      go_wp2
      go_ret
      exact ⟨ret_b HR.out.symm, hb3⟩
    · go_wp2_with fail
      refine Calls.mono (c3 w2).out ?_
      clear c3
      rintro e w4 ⟨rfl, rfl⟩
      cases bc
      · have HR : Hid (s.signed pub msg c t = false) := by show s.signed pub msg c t = _; rw [HC.out]; rfl
        go_wp2
        go_ret
        exact ⟨ret_b HR.out.symm, hb3⟩
      · go_wp2_with fail
        refine Calls.mono (c4 w2).out ?_
        clear c4
        rintro e w4 ⟨rfl, rfl⟩
        cases bt
        · have HR : Hid (s.signed pub msg c t = false) := by show s.signed pub msg c t = _; rw [HC.out]; rfl
          go_wp2
          go_ret
          exact ⟨ret_b HR.out.symm, hb3⟩
        · have j1 := k1 w2
          have j2 := k2 w2
          have j3 := k3 w2
          have hDi : isInt (s.dareOf msg pub (gOver s.P s.Q (gPow s.P s.Q s.G t) (gPow s.P s.Q pub c))) := numZ_int _ _
          have k5 := fun w0 (hw0 : Envs w0) => k4 w0 hw0
          have HR : Hid (s.signed pub msg c t = decide (c = s.dareOf msg pub (gOver s.P s.Q (gPow s.P s.Q s.G t) (gPow s.P s.Q pub c)))) := by show s.signed pub msg c t = _; rw [HC.out]; rfl
          clear k1 k2 k3 k4 HC
          generalize s.dareOf msg pub (gOver s.P s.Q (gPow s.P s.Q s.G t) (gPow s.P s.Q pub c)) = D at *
          generalize gOver s.P s.Q (gPow s.P s.Q s.G t) (gPow s.P s.Q pub c) = O at *
          generalize gPow s.P s.Q s.G t = X at *
          generalize gPow s.P s.Q pub c = Y at *
          have HK : Hid (∀ w', Below w2.heap.size w2 w' → w'.cell? ⟨w.heap.size + 1 + 1, 0, none⟩ = some (.int .i64 s.P) ∧ w'.cell? ⟨w.heap.size + 1 + 1, 1, none⟩ = some (.int .i64 s.Q) ∧ w'.cell? ⟨w.heap.size + 1 + 1, 2, none⟩ = some (.int .i64 s.G) ∧ w'.cell? ⟨w.heap.size + 1, 0, none⟩ = some (.int .i64 c) ∧ w'.cell? ⟨w.heap.size + 1, 1, none⟩ = some (.int .i64 t) ∧ Below w2.heap.size w2 w') := by
            show ∀ w', Below w2.heap.size w2 w' → _
            intro w' h
            have hB := hP2.next h
            have hD := hG2.next h
            exact ⟨hB.cell 0, hB.cell 1, hB.cell 2, hD.cell 0, hD.cell 1, h⟩
          have HB := Lib.hid hb3
          clear hG2 hP2 hb3 z0 z1 z2 g0 g1 hAi hBi hDi hOi
          go_wp2
          go_region_held3 (fun w' => w'.cell? ⟨w.heap.size + 1 + 1, 0, none⟩ = some (.int .i64 s.P) ∧ w'.cell? ⟨w.heap.size + 1 + 1, 1, none⟩ = some (.int .i64 s.Q) ∧ w'.cell? ⟨w.heap.size + 1 + 1, 2, none⟩ = some (.int .i64 s.G) ∧ w'.cell? ⟨w.heap.size + 1, 0, none⟩ = some (.int .i64 c) ∧ w'.cell? ⟨w.heap.size + 1, 1, none⟩ = some (.int .i64 t) ∧ Below w2.heap.size w2 w')
            (first | exact HK.out _ (by assumption) | exact HK.out _ (below_drewN (Below.refl _ _) 1) | exact HK.out _ (Below.refl _ _))
            (first
              | (go_at_call 42; refine Calls.mono (j1.out _ _ (by with_reducible rfl) (by first | assumption | exact below_drewN (Below.refl w2.heap.size w2) 1)) ?_; rintro e w3 ⟨rfl, hb3, hc3⟩)
              | (go_at_call 42; refine Calls.mono (j2.out _ _ (by with_reducible rfl) (by first | assumption | exact below_drewN (Below.refl w2.heap.size w2) 1)) ?_; rintro e w4 ⟨rfl, hb4, hc4⟩)
              | (go_at_call 46; refine Calls.mono (j3.out _ _ (by with_reducible rfl) (by assumption)) ?_; rintro e w5 ⟨rfl, hb5, hc5⟩))
          all_goals
            clear hb3 hb4 hc3 hc4 hc5 j1 j2 j3
            have j4 := k5 w5 (HE2.out.next hb5)
            have HK5 : Hid (∀ w', Below w5.heap.size w5 w' → w'.cell? ⟨w.heap.size + 1 + 1, 0, none⟩ = some (.int .i64 s.P) ∧ w'.cell? ⟨w.heap.size + 1 + 1, 1, none⟩ = some (.int .i64 s.Q) ∧ w'.cell? ⟨w.heap.size + 1 + 1, 2, none⟩ = some (.int .i64 s.G) ∧ w'.cell? ⟨w.heap.size + 1, 0, none⟩ = some (.int .i64 c) ∧ Below w5.heap.size w5 w') := by
              show ∀ w', Below w5.heap.size w5 w' → _
              intro w' h
              obtain ⟨a, b, d, e, _, _⟩ := HK.out w' (hb5.trans (h.mono hb5.size))
              exact ⟨a, b, d, e, h⟩
            have HB5 := Lib.hid (HB.out.trans (hb5.mono HB.out.size))
            clear hb5 HK HB k5
            go_wp2
            go_region_held3 (fun w' => w'.cell? ⟨w.heap.size + 1 + 1, 0, none⟩ = some (.int .i64 s.P) ∧ w'.cell? ⟨w.heap.size + 1 + 1, 1, none⟩ = some (.int .i64 s.Q) ∧ w'.cell? ⟨w.heap.size + 1 + 1, 2, none⟩ = some (.int .i64 s.G) ∧ w'.cell? ⟨w.heap.size + 1, 0, none⟩ = some (.int .i64 c) ∧ Below w5.heap.size w5 w')
              (first | exact HK5.out _ (by assumption) | exact HK5.out _ (below_drewN (Below.refl _ _) 1) | exact HK5.out _ (Below.refl _ _))
              (first
                | (go_at_call 51; refine Calls.mono (j4.out _ _ (by with_reducible rfl) (by exact below_drewN (Below.refl w5.heap.size w5) 1)) ?_; rintro e w6 ⟨rfl, hb6, hc6⟩))
            all_goals
              go_wp2
              go_ret
              refine ⟨ret_b ?_, HB5.out.trans (hb6.mono HB5.out.size)⟩
              rw [HR.out]
              by_cases hcd : c = D <;> simp [hcd]
end Go.Proofs.YthnkfjjgccabeaaGreatDoor
