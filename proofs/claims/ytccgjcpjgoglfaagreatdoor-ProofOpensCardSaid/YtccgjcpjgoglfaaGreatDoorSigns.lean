/- ProofSigns, for a sanity function that holds. -/
import Derived.Test.YtccgjcpjgoglfaaGreatDoorSameA
namespace Go.Proofs.YtccgjcpjgoglfaaGreatDoor
open Go.RowKit

/-- The sanity function returns true. -/
def LessOk : Prop := ∀ w : World, Envs w → Calls Tryz.prog 6 #[] w fun e w' => e = .returned (.bool true) ∧ Below w.heap.size w w'
def True_ (w : World) (e : Ending) (w' : World) : Prop := e = .returned (.bool true) ∧ Below w.heap.size w w'

/-- A call behind a world: these arguments, this value; what it leaves. -/
def DoesN (w0 : World) (f : FuncId) (args : Array Value) (v : Value) : Prop :=
  ∀ (args' : Array Value) (w : World), args' = args → Below w0.heap.size w0 w → Calls Tryz.prog f args' w fun e w' => e = .returned v ∧ Below w0.heap.size w0 w' ∧ Below w.heap.size w w'
theorem DoesN.mk {w0 : World} {f : FuncId} {args : Array Value} {v : Value} (h : ∀ w, Below w0.heap.size w0 w → Calls Tryz.prog f args w fun e w' => e = .returned v ∧ Below w.heap.size w w') : DoesN w0 f args v := by
  intro args' w he hb
  subst he
  exact (h w hb).mono fun _ _ ⟨a, b⟩ => ⟨a, hb.trans (b.mono hb.size), b⟩

set_option maxRecDepth 100000 in
set_option maxHeartbeats 4000000 in
theorem signs_law (HL : LessOk) (s : SetD) (hi : s.ints) (vb : Value) (x k c t : Int) (hx : isInt x) (hk : isInt k) (hc : isInt c) (ht : isInt t) (msg : List UInt8) (hm : msg.length ≤ 9223372036854775807) (w : World) (hE : Envs w) (hb0 : IsNums vb s.bs w) :
    Calls Tryz.prog 4 #[s.val vb, .int .i64 x, .int .i64 k, .string (bs msg), .agg #[.int .i64 c, .int .i64 t]] w (True_ w) := by
  obtain ⟨W0, hW0⟩ : ∃ W0, W0 = w.alloc (.cells (s.cells vb) 26) := ⟨_, rfl⟩
  have hb := below_one w (.cells (s.cells vb) 26)
  have hS : SetAt s vb w.heap.size (w.alloc (.cells (s.cells vb) 26)) := Blk.new w _ _
  have hs0 := alloc_size w (.cells (s.cells vb) 26)
  rw [← hW0] at hb hS hs0
  have hb1' := below_one W0 (.cells #[.int .i64 c, .int .i64 t] 43)
  have hG1 := Blk.new' hs0 43 #[.int .i64 c, .int .i64 t]
  have hS1 := hS.next hb1'
  have hb1 := hb.trans (hb1'.mono hb.size)
  have hE1 := hE.next hb1
  have c1 := Lib.hid (HL _ hE1)
  rw [hW0] at c1 hS1 hG1 hb1 hE1
  unfold SetD.val at *
  unfold SetD.cells at hS1 hG1 hb1 c1 hE1
  have hsz := bs_size msg
  have HI := Lib.hid hi
  have HBN := fun w' (h : Below w.heap.size w w') => Lib.hid (hb0.next h)
  have HEN := fun w' (h : Below w.heap.size w w') => Lib.hid (hE.next h)
  clear hb hS hs0 hb1' hW0 hE1 hi hb0 hE
  go_enter Tryz.func4, Tryz.ntmps4
  go_wp2_with fail
  generalize (w.alloc (.cells #[.int .i64 s.P, .int .i64 s.Q, .int .i64 s.G, vb, .int .i64 s.H] 26)).alloc (.cells #[.int .i64 c, .int .i64 t] 43) = W1 at *
  refine c1.out.mono ?_
  clear c1
  rintro e w2 ⟨rfl, hb2'⟩
  have hS2 := hS1.next hb2'
  have hG2 := hG1.next hb2'
  have hb2 := hb1.trans (hb2'.mono hb1.size)
  have c2 := Lib.hid (fewsetup_calls s vb w2 (HBN _ hb2).out)
  unfold SetD.val at c2
  obtain ⟨z0, z1, z2, z3, z4⟩ := hS2.get
  clear hS1 hG1 hb1 hb2'
  go_wp2_with fail
  refine c2.out.mono ?_
  clear c2 z0 z1 z2 z3 z4
  rintro e w3 ⟨rfl, hb3'⟩
  have hS3 := hS2.next hb3'
  have hG3 := hG2.next hb3'
  have hb3 := hb2.trans (hb3'.mono hb2.size)
  clear hS2 hG2 hb2 hb3'
  by_cases hfew : ¬ (s.bs.length : Int) ≤ 9
  · rw [decide_eq_false hfew]
    clear hfew
    go_wp2
    go_ret
    exact ⟨rfl, hb3⟩
  rw [decide_eq_true (Decidable.not_not.1 hfew)]
  clear hfew
  by_cases hm2 : (200 : Int) < (msg.length : Int)
  · go_wp2
    go_ret
    exact ⟨rfl, hb3⟩
  have hm3 : msg.length ≤ 100000000 := by omega
  obtain ⟨z0, z1, z2, z3, z4⟩ := hS3.get
  have c3 := Lib.hid (sign_calls s HI.out vb x k hx hk msg hm3 w3 (HEN _ hb3).out (HBN _ hb3).out)
  unfold SetD.val SetD.sigV at c3
  by_cases hcan : ¬ s.canSign x k = true
  · rw [if_neg hcan] at c3
    clear hcan
    go_wp2_with fail
    refine c3.out.mono ?_
    clear c3 z0 z1 z2 z3 z4
    rintro e w4 ⟨rfl, hb4⟩
    have hb5 := Below.alloc_ (hb3.trans (hb4.mono hb3.size)) (.cells #[.int .i64 0, .int .i64 0] 43)
    go_wp2
    go_ret
    exact ⟨rfl, hb5⟩
  have hcan := Decidable.not_not.1 hcan
  rw [if_pos hcan] at c3
  have HSO := Lib.hid (SetD.sign_ok (msg := msg) hcan)
  have hxq : Hid (0 ≤ x ∧ x < s.Q) := by
    show 0 ≤ x ∧ x < s.Q
    unfold SetD.canSign at hcan
    simp only [Bool.and_eq_true] at hcan
    exact exB_iff.1 hcan.2.1
  have hCi : isInt (s.sigC x k msg) := numZ_int _ _
  have hSi : isInt (s.sigS x k msg) := addZ_int _ _ _
  obtain ⟨C, hC⟩ : ∃ C, C = s.sigC x k msg := ⟨_, rfl⟩
  obtain ⟨T, hT⟩ : ∃ T, T = s.sigS x k msg := ⟨_, rfl⟩
  rw [← hC, ← hT] at c3 HSO
  rw [← hC] at hCi
  rw [← hT] at hSi
  have HCT := Lib.hid (And.intro hC hT)
  clear hcan hC hT
  go_wp2_with fail
  refine c3.out.mono ?_
  clear c3 z0 z1 z2 z3 z4
  rintro e w4 ⟨rfl, hb4'⟩
  have hS4 := hS3.next hb4'
  have hG4 := hG3.next hb4'
  have hb4 := hb3.trans (hb4'.mono hb3.size)
  have hA5 := Blk.new w4 43 #[.int .i64 C, .int .i64 T]
  have hb5' := below_one w4 (.cells #[.int .i64 C, .int .i64 T] 43)
  have hS5 := hS4.next hb5'
  have hG5 := hG4.next hb5'
  have hb5 := hb4.trans (hb5'.mono hb4.size)
  clear hS3 hG3 hb3 hb4' hS4 hG4 hb5' hb4
  obtain ⟨z0, z1, z2, z3, z4⟩ := hS5.get
  have c4 := fun w => Lib.hid (power_calls s.P s.Q s.G s.G x HI.out.G hx w)
  go_wp2_with fail
  refine (c4 _).out.mono ?_
  clear c4 z0 z1 z2 z3 z4
  rintro e w6 ⟨rfl, hb6'⟩
  have hS6 := hS5.next hb6'
  have hG6 := hG5.next hb6'
  have hA6 := hA5.next hb6'
  have hb6 := hb5.trans (hb6'.mono hb5.size)
  clear hS5 hG5 hA5 hb5 hb6'
  obtain ⟨X, hX⟩ : ∃ X, X = gPow s.P s.Q s.G x := ⟨_, rfl⟩
  have hXi : isInt X := by rw [hX]; exact gPow_int _ _ _ _
  have HX : Hid (s.pw s.G x = X) := by show _ = _; rw [hX]; rfl
  rw [HX.out] at HSO
  rw [← hX]
  have HK : Hid (∀ w', Below w6.heap.size w6 w' → w'.cell? ⟨w.heap.size, 0, none⟩ = some (.int .i64 s.P) ∧ w'.cell? ⟨w.heap.size, 1, none⟩ = some (.int .i64 s.Q) ∧ w'.cell? ⟨w.heap.size, 2, none⟩ = some (.int .i64 s.G) ∧ w'.cell? ⟨w.heap.size, 3, none⟩ = some vb ∧ w'.cell? ⟨w.heap.size, 4, none⟩ = some (.int .i64 s.H) ∧ w'.cell? ⟨w4.heap.size, 0, none⟩ = some (.int .i64 C) ∧ w'.cell? ⟨w4.heap.size, 1, none⟩ = some (.int .i64 T) ∧ Below w6.heap.size w6 w') := by
    show ∀ w', _
    intro w' h
    obtain ⟨z0, z1, z2, z3, z4⟩ := (hS6.next h).get
    obtain ⟨y0, y1⟩ := (hA6.next h).get2
    exact ⟨z0, z1, z2, z3, z4, y0, y1, h⟩
  have HB6 := fun w' (h : Below w6.heap.size w6 w') => Lib.hid (hb6.trans (h.mono hb6.size))
  have j1 := Lib.hid (DoesB.mk (w0 := w6) (v := .bool true) (by rw [HSO.out.1]) (fun w' h => signed_calls s HI.out vb X C T hXi hCi hSi msg hm3 w' (HEN w' (HB6 w' h).out).out (HBN w' (HB6 w' h).out).out))
  have HKK : Hid (subZ s.Q T (mulZ s.Q C x) = k) := HSO.out.2
  have HKK0 : Hid (s.sigK x C T = k) := HSO.out.2
  have hMi := mulZ_int s.Q C x
  have j2 := Lib.hid (DoesB.ret (w0 := w6) (v := .int .i64 (mulZ s.Q C x)) rfl (fun w' _ => mul_calls s.Q C x hCi hx w'))
  have j3 := Lib.hid (DoesB.same (w0 := w6) (v := .int .i64 k) (int_eq HKK.out) (fun w' _ => sub_calls s.Q T (mulZ s.Q C x) hSi hMi w'))
  generalize mulZ s.Q C x = M at *
  have HS6 := Lib.hid hS6
  have HG6 := Lib.hid hG6
  have HA6 := Lib.hid hA6
  have hkk : (k != k) = false := by simp
  unfold SetD.val at j1
  clear hS6 hG6 hA6 hX hMi hb6
  go_wp2
  go_region_held3 (fun w' => w'.cell? ⟨w.heap.size, 0, none⟩ = some (.int .i64 s.P) ∧ w'.cell? ⟨w.heap.size, 1, none⟩ = some (.int .i64 s.Q) ∧ w'.cell? ⟨w.heap.size, 2, none⟩ = some (.int .i64 s.G) ∧ w'.cell? ⟨w.heap.size, 3, none⟩ = some vb ∧ w'.cell? ⟨w.heap.size, 4, none⟩ = some (.int .i64 s.H) ∧ w'.cell? ⟨w4.heap.size, 0, none⟩ = some (.int .i64 C) ∧ w'.cell? ⟨w4.heap.size, 1, none⟩ = some (.int .i64 T) ∧ Below w6.heap.size w6 w')
    (first | exact HK.out _ (by assumption) | exact HK.out _ (below_drewN (Below.refl w6.heap.size w6) 1) | exact HK.out _ (Below.refl w6.heap.size w6))
    (first
      | (go_at_call 15; refine Calls.mono (j1.out _ _ (by with_reducible rfl) (by first | assumption | exact below_drewN (Below.refl w6.heap.size w6) 1)) ?_; rintro e w7 ⟨rfl, hb7⟩)
      | (go_at_call 11; refine Calls.mono (j2.out _ _ (by with_reducible rfl) (by first | assumption | exact below_drewN (Below.refl w6.heap.size w6) 1)) ?_; rintro e w8 ⟨rfl, hb8⟩)
      | (go_at_call 16; refine Calls.mono (j3.out _ _ (by with_reducible rfl) (by first | assumption | exact below_drewN (Below.refl w6.heap.size w6) 1)) ?_; rintro e w9 ⟨rfl, hb9⟩))
  have hS9 := HS6.out.next hb9
  have hG9 := HG6.out.next hb9
  have hA9 := HA6.out.next hb9
  have hb9' := (HB6 _ hb9).out
  obtain ⟨z0, z1, z2, z3, z4⟩ := hS9.get
  obtain ⟨g0, g1⟩ := hG9.get2
  have c5 := Lib.hid (signed_calls s HI.out vb X c t hXi hc ht msg hm3 w9 (HEN _ hb9').out (HBN _ hb9').out)
  unfold SetD.val at c5
  have HSI := Lib.hid (fun h : s.signed (s.pw s.G x) msg c t = true => SetD.signed_is hxq.out h)
  rw [HX.out] at HSI
  clear hb7 hb8 hb9 j1 j2 j3 HS6 HG6 HA6 HB6 HK
  go_wp2_with fail
  refine c5.out.mono ?_
  clear c5 z0 z1 z2 z3 z4 g0 g1
  rintro e w10 ⟨rfl, hb10'⟩
  have hS10 := hS9.next hb10'
  have hG10 := hG9.next hb10'
  have hA10 := hA9.next hb10'
  have hb10 := hb9'.trans (hb10'.mono hb9'.size)
  clear hS9 hG9 hA9 hb9' hb10'
  cases hsg : s.signed X msg c t
  · clear hsg
    go_wp2
    go_ret
    exact ⟨rfl, hb10⟩
  obtain ⟨h1, h2, h3⟩ := HSI.out hsg
  have c6 := fun w' (h : Below w.heap.size w w') => Lib.hid (sign_calls s HI.out vb x (s.sigK x c t) hx (subZ_int _ _ _) msg hm3 w' (HEN w' h).out (HBN w' h).out)
  unfold SetD.val SetD.sigV at c6
  rw [if_pos h1, h2, h3] at c6
  have HKB : Hid (s.sigK x c t = subZ s.Q t (mulZ s.Q c x)) := rfl
  obtain ⟨K2, hK2⟩ : ∃ K2, K2 = s.sigK x c t := ⟨_, rfl⟩
  rw [← hK2] at c6 HKB
  have HEQ : Hid ((decide (C = c) && decide (T = t)) = decide (K2 = k)) := by
    show _ = _
    rw [Bool.eq_iff_iff]
    simp only [Bool.and_eq_true, decide_eq_true_eq]
    constructor
    · rintro ⟨rfl, rfl⟩
      rw [hK2]; exact HKK0.out
    · intro e
      rw [hK2] at e
      rw [e] at h2 h3
      exact ⟨HCT.out.1.trans h2, HCT.out.2.trans h3⟩
  clear hsg h1 h2 h3 hK2
  have HB10 := fun w' (h : Below w10.heap.size w10 w') => Lib.hid (hb10.trans (h.mono hb10.size))
  have j1 := Lib.hid (DoesN.mk (w0 := w10) (v := .tuple #[.agg #[.int .i64 c, .int .i64 t], .bool true]) (fun w' h => (c6 w' (HB10 w' h).out).out))
  have hMi := mulZ_int s.Q c x
  have j2 := fun w' => Lib.hid (mul_calls s.Q c x hc hx w')
  have j3 := fun w' => Lib.hid (sub_calls s.Q t (mulZ s.Q c x) ht hMi w')
  rw [← HKB.out] at j3
  generalize mulZ s.Q c x = M2 at *
  have HK : Hid (∀ w', Below w10.heap.size w10 w' → w'.cell? ⟨w.heap.size, 0, none⟩ = some (.int .i64 s.P) ∧ w'.cell? ⟨w.heap.size, 1, none⟩ = some (.int .i64 s.Q) ∧ w'.cell? ⟨w.heap.size, 2, none⟩ = some (.int .i64 s.G) ∧ w'.cell? ⟨w.heap.size, 3, none⟩ = some vb ∧ w'.cell? ⟨w.heap.size, 4, none⟩ = some (.int .i64 s.H) ∧ w'.cell? ⟨w.heap.size + 1, 0, none⟩ = some (.int .i64 c) ∧ w'.cell? ⟨w.heap.size + 1, 1, none⟩ = some (.int .i64 t) ∧ Below w10.heap.size w10 w') := by
    show ∀ w', _
    intro w' h
    obtain ⟨z0, z1, z2, z3, z4⟩ := (hS10.next h).get
    obtain ⟨y0, y1⟩ := (hG10.next h).get2
    exact ⟨z0, z1, z2, z3, z4, y0, y1, h⟩
  have HS10 := Lib.hid hS10
  have HG10 := Lib.hid hG10
  have HA10 := Lib.hid hA10
  clear hS10 hG10 hA10 hMi hb10 c6 HSI
  go_wp2
  go_region_held3 (fun w' => w'.cell? ⟨w.heap.size, 0, none⟩ = some (.int .i64 s.P) ∧ w'.cell? ⟨w.heap.size, 1, none⟩ = some (.int .i64 s.Q) ∧ w'.cell? ⟨w.heap.size, 2, none⟩ = some (.int .i64 s.G) ∧ w'.cell? ⟨w.heap.size, 3, none⟩ = some vb ∧ w'.cell? ⟨w.heap.size, 4, none⟩ = some (.int .i64 s.H) ∧ w'.cell? ⟨w.heap.size + 1, 0, none⟩ = some (.int .i64 c) ∧ w'.cell? ⟨w.heap.size + 1, 1, none⟩ = some (.int .i64 t) ∧ Below w10.heap.size w10 w')
    ((refine HK.out _ ?_; (first | assumption | exact below_drewN (Below.refl w10.heap.size w10) _ | exact Below.alloc_ (below_drewN (Below.refl w10.heap.size w10) _) _ | exact below_drewN (Below.alloc_ (below_drewN (Below.refl w10.heap.size w10) _) _) _ | exact Below.alloc_ (Below.refl w10.heap.size w10) _ | exact below_drewN (Below.alloc_ (Below.refl w10.heap.size w10) _) _ | exact Below.alloc_ (by assumption) _ | exact Below.setCell (Below.setCell (by assumption) (by simp) _) (by simp) _)))
    (first
      | (go_at_call 13; refine Calls.mono (j1.out _ _ (by with_reducible rfl) (by (first | assumption | exact below_drewN (Below.refl w10.heap.size w10) _ | exact Below.alloc_ (below_drewN (Below.refl w10.heap.size w10) _) _ | exact below_drewN (Below.alloc_ (below_drewN (Below.refl w10.heap.size w10) _) _) _ | exact Below.alloc_ (Below.refl w10.heap.size w10) _ | exact below_drewN (Below.alloc_ (Below.refl w10.heap.size w10) _) _))) ?_; rintro e w13 ⟨rfl, hb13, hc13⟩; first | (have hq' := Blk.next (Blk.new _ 43 #[.int .i64 0, .int .i64 0]) hc13; have hq : Blk w13 w10.heap.size 43 #[.int .i64 0, .int .i64 0] := hq'; clear hq'; have q0 : w13.cell? ⟨w10.heap.size, 0, none⟩ = some (.int .i64 0) := hq.cell 0; have q1 : w13.cell? ⟨w10.heap.size, 1, none⟩ = some (.int .i64 0) := hq.cell 1; have qf : ∀ i, w13.frozen? ⟨w10.heap.size, i, none⟩ = false := hq.frozen) | (have hq' := Blk.next (Blk.drewN (Blk.new _ 43 #[.int .i64 0, .int .i64 0]) _) hc13; have hq : Blk w13 w10.heap.size 43 #[.int .i64 0, .int .i64 0] := hq'; clear hq'; have q0 : w13.cell? ⟨w10.heap.size, 0, none⟩ = some (.int .i64 0) := hq.cell 0; have q1 : w13.cell? ⟨w10.heap.size, 1, none⟩ = some (.int .i64 0) := hq.cell 1; have qf : ∀ i, w13.frozen? ⟨w10.heap.size, i, none⟩ = false := hq.frozen) | skip)
      | (go_at_call 11; refine Calls.mono (j2 _).out ?_; rintro e w11 ⟨rfl, n11, rfl⟩)
      | (go_at_call 16; refine Calls.mono (j3 _).out ?_; rintro e w12 ⟨rfl, rfl⟩))
  all_goals
    first
      | (have hBF : Blk ((w13.setCell ⟨w10.heap.size, 0, none⟩ (.int .i64 c)).setCell ⟨w10.heap.size, 1, none⟩ (.int .i64 t)) w10.heap.size 43 #[.int .i64 c, .int .i64 t] := (hq.set_ 0 _).set_ 1 _
         have hbF : Below w10.heap.size w10 ((w13.setCell ⟨w10.heap.size, 0, none⟩ (.int .i64 c)).setCell ⟨w10.heap.size, 1, none⟩ (.int .i64 t)) := Below.setCell (Below.setCell hb13 (by simp) _) (by simp) _
         refine (show Exit.then _ _ _ _ ((w13.setCell ⟨w10.heap.size, 0, none⟩ (.int .i64 c)).setCell ⟨w10.heap.size, 1, none⟩ (.int .i64 t)) from ?_)
         generalize ((w13.setCell ⟨w10.heap.size, 0, none⟩ (.int .i64 c)).setCell ⟨w10.heap.size, 1, none⟩ (.int .i64 t)) = WF at *
         clear q0 q1 qf hq
         obtain ⟨b16, hb16⟩ : ∃ b, b = w10.heap.size := ⟨_, rfl⟩
         rw [← hb16] at hBF ⊢
         clear hb16)
      | (have hBF : Blk (w13.alloc (.cells #[.int .i64 c, .int .i64 t] 43)) w13.heap.size 43 #[.int .i64 c, .int .i64 t] := Blk.new _ _ _
         have hbF : Below w10.heap.size w10 (w13.alloc (.cells #[.int .i64 c, .int .i64 t] 43)) := Below.alloc_ hb13 _
         generalize (w13.alloc (.cells #[.int .i64 c, .int .i64 t] 43)) = WF at *
         generalize w13.heap.size = b16 at *)
    clear j1 hb13 hc13
    have hGF := HG10.out.next hbF
    have hAF := HA10.out.next hbF
    have hbW := Lib.hid (HB10 WF hbF).out
    have HKF : Hid (∀ w', Below WF.heap.size WF w' → w'.cell? ⟨w.heap.size + 1, 0, none⟩ = some (.int .i64 c) ∧ w'.cell? ⟨w.heap.size + 1, 1, none⟩ = some (.int .i64 t) ∧ w'.cell? ⟨w4.heap.size, 0, none⟩ = some (.int .i64 C) ∧ w'.cell? ⟨w4.heap.size, 1, none⟩ = some (.int .i64 T) ∧ w'.cell? ⟨b16, 0, none⟩ = some (.int .i64 c) ∧ w'.cell? ⟨b16, 1, none⟩ = some (.int .i64 t) ∧ Below WF.heap.size WF w') := by
      show ∀ w', _
      intro w' h
      obtain ⟨y0, y1⟩ := (hGF.next h).get2
      obtain ⟨y2, y3⟩ := (hAF.next h).get2
      obtain ⟨y4, y5⟩ := (hBF.next h).get2
      exact ⟨y0, y1, y2, y3, y4, y5, h⟩
    have k1 := Lib.hid (DoesB.mk (w0 := WF) (v := .bool true) (by simp) (fun w' _ => samesig_calls c t c t w'))
    have k2 := Lib.hid (DoesB.mk (w0 := WF) (v := .bool (decide (K2 = k))) (by rw [HEQ.out]) (fun w' _ => samesig_calls C T c t w'))
    have hkk2 : (K2 == k) = decide (K2 = k) := rfl
    have hdd : (decide (K2 = k) == decide (K2 = k)) = true := by simp
    generalize decide (K2 = k) = DD at *
    clear hGF hAF hBF hbF
    go_wp2
    go_region_held3 (fun w' => w'.cell? ⟨w.heap.size + 1, 0, none⟩ = some (.int .i64 c) ∧ w'.cell? ⟨w.heap.size + 1, 1, none⟩ = some (.int .i64 t) ∧ w'.cell? ⟨w4.heap.size, 0, none⟩ = some (.int .i64 C) ∧ w'.cell? ⟨w4.heap.size, 1, none⟩ = some (.int .i64 T) ∧ w'.cell? ⟨b16, 0, none⟩ = some (.int .i64 c) ∧ w'.cell? ⟨b16, 1, none⟩ = some (.int .i64 t) ∧ Below WF.heap.size WF w')
      ((refine HKF.out _ ?_; (first | assumption | exact below_drewN (Below.refl WF.heap.size WF) _ | exact below_drewN (by assumption) _ | exact Below.refl WF.heap.size WF)))
      (first
        | (go_at_call 17; refine Calls.mono (k1.out _ _ (by with_reducible rfl) (by (first | assumption | exact below_drewN (Below.refl WF.heap.size WF) _ | exact below_drewN (by assumption) _ | exact Below.refl WF.heap.size WF))) ?_; rintro e wa ⟨rfl, hba⟩)
        | (go_at_call 17; refine Calls.mono (k2.out _ _ (by with_reducible rfl) (by (first | assumption | exact below_drewN (Below.refl WF.heap.size WF) _ | exact below_drewN (by assumption) _ | exact Below.refl WF.heap.size WF))) ?_; rintro e wb ⟨rfl, hbb⟩)
        | (go_at_call 11; refine Calls.mono (j2 _).out ?_; rintro e wc ⟨rfl, nc, rfl⟩)
        | (go_at_call 16; refine Calls.mono (j3 _).out ?_; rintro e wd ⟨rfl, rfl⟩))
    all_goals
      go_wp2
      go_ret
      refine ⟨?_, hbW.out.trans (Below.mono (by first | assumption | exact below_drewN (by assumption) _) hbW.out.size)⟩
      cases DD <;> rfl
end Go.Proofs.YtccgjcpjgoglfaaGreatDoor
