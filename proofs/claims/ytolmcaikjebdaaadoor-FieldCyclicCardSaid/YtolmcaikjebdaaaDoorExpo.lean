/- The law FieldExponents. -/
import Derived.Test.YtolmcaikjebdaaaDoorTells
import Derived.Test.YtolmcaikjebdaaaDoorProd
import Derived.Test.YtolmcaikjebdaaaDoorCyc
import Derived.Deep.RegionHeld3
namespace Go.Proofs.YtolmcaikjebdaaaDoor
open Go.RowKit

/-- What the law's calls keep: the library's variables, what was there, the group's block. -/
structure Gst (w0 : World) (B : Nat) (P Q G : Int) (w : World) : Prop where
  env : Env w
  bel : Below w0.heap.size w0 w
  blk : Blk w B 29 #[.int .i64 P, .int .i64 Q, .int .i64 G]
section
variable {w0 w w' : World} {B : Nat} {P Q G : Int} (h : Gst w0 B P Q G w)
include h
theorem Gst.next (hb : Below w.heap.size w w') : Gst w0 B P Q G w' := ⟨h.env.next hb, h.bel.trans (hb.mono h.bel.size), h.blk.next hb⟩
theorem Gst.drewN (n : Nat) : Gst w0 B P Q G (w.drewN n) := ⟨h.env.drewN n, below_drewN h.bel n, h.blk⟩
theorem Gst.cells : w.cell? ⟨B, 0, none⟩ = some (.int .i64 P) ∧ w.cell? ⟨B, 1, none⟩ = some (.int .i64 Q) ∧ w.cell? ⟨B, 2, none⟩ = some (.int .i64 G) := ⟨h.blk.cell 0, h.blk.cell 1, h.blk.cell 2⟩
theorem Gst.of {Pr : Program} {f : FuncId} {args : Array Value} {v u : Value} (hv : v = u) (hc : Calls Pr f args w fun e w' => e = .returned v ∧ Below w.heap.size w w') :
    Calls Pr f args w fun e w' => e = .returned u ∧ Gst w0 B P Q G w' := hc.mono fun _ _ ⟨he, hb⟩ => ⟨by rw [he, hv], h.next hb⟩
theorem Gst.ofRet {Pr : Program} {f : FuncId} {args : Array Value} {v u : Value} (hv : v = u) (hc : Calls Pr f args w (Ret v w)) :
    Calls Pr f args w fun e w' => e = .returned u ∧ Gst w0 B P Q G w' := hc.mono fun _ _ ⟨he, n, hn⟩ => ⟨by rw [he, hv], by rw [hn]; exact h.drewN n⟩
theorem Gst.ofSame {Pr : Program} {f : FuncId} {args : Array Value} {v u : Value} (hv : v = u) (hc : Calls Pr f args w fun e w' => e = .returned v ∧ w = w') :
    Calls Pr f args w fun e w' => e = .returned u ∧ Gst w0 B P Q G w' := hc.mono fun _ _ ⟨he, hn⟩ => ⟨by rw [he, hv], hn ▸ h⟩
end

set_option maxRecDepth 100000 in
set_option maxHeartbeats 2000000 in
theorem expo_no (q i j k m : Int) (hq : isInt q) (hv : validB (mkP q) q 4 = false) (w : World) (hE : Env w) :
    Calls Tryd.prog 9 #[.int .i64 q, .int .i64 i, .int .i64 j, .int .i64 k, .int .i64 m] w (Tpost w) := by
  unfold Tpost
  have c1 := Lib.hid (sane_calls w hE)
  have c2 := fun w hE => Lib.hid (make_calls q hq w hE)
  rw [show makeV q = .tuple #[.agg #[.int .i64 0, .int .i64 0, .int .i64 0], .bool false] by unfold makeV; rw [if_neg (by rw [hv]; simp)]] at c2
  have hEn := fun w' (h : Below w.heap.size w w') => Lib.hid (hE.next h)
  clear hE hq hv
  go_enter Tryd.func9, Tryd.ntmps9
  go_wp2_with fail
  refine c1.out.mono ?_
  rintro e w1 ⟨rfl, hB⟩
  go_wp2_with fail
  refine Calls.mono (c2 w1 (hEn w1 hB).out).out ?_
  rintro e w2 ⟨rfl, hB2⟩
  go_wp2
  go_ret
  exact ⟨rfl, (hB.trans (hB2.mono hB.size)).alloc (hB.trans (hB2.mono hB.size)).size _⟩

theorem Gst.three {w0 w : World} {B : Nat} {P Q G : Int} (h : Gst w0 B P Q G w) : w.cell? ⟨B, 0, none⟩ = some (.int .i64 P) ∧ w.cell? ⟨B, 1, none⟩ = some (.int .i64 Q) ∧ w.cell? ⟨B, 2, none⟩ = some (.int .i64 G) ∧ Gst w0 B P Q G w := ⟨h.blk.cell 0, h.blk.cell 1, h.blk.cell 2, h⟩
/-- A call as the law sees it: these arguments, this value. -/
def Does (w0 : World) (B : Nat) (P Q G : Int) (f : FuncId) (args : Array Value) (v : Value) : Prop :=
  ∀ (args' : Array Value) (w : World), args' = args → Gst w0 B P Q G w → Calls Tryd.prog f args' w fun e w' => e = .returned v ∧ Gst w0 B P Q G w'
section
variable {w0 : World} {B : Nat} {P Q G : Int}
theorem does_power {x k v : Int} (hx : isInt x) (hk : isInt k) (hv : gPow P Q x k = v) : Does w0 B P Q G 31 #[.agg #[.int .i64 P, .int .i64 Q, .int .i64 G], .int .i64 x, .int .i64 k] (.int .i64 v) := by
  intro args' w he h; subst he; exact h.of (int_eq hv) (power_calls P Q G x k hx hk w)
theorem does_times {x k v : Int} (hx : isInt x) (hk : isInt k) (hv : gTimes P Q x k = v) : Does w0 B P Q G 33 #[.agg #[.int .i64 P, .int .i64 Q, .int .i64 G], .int .i64 x, .int .i64 k] (.int .i64 v) := by
  intro args' w he h; subst he; exact h.of (int_eq hv) (times_calls P Q G x k hx hk w)
theorem does_over {x k v : Int} (hx : isInt x) (hk : isInt k) (hv : gOver P Q x k = v) : Does w0 B P Q G 35 #[.agg #[.int .i64 P, .int .i64 Q, .int .i64 G], .int .i64 x, .int .i64 k] (.int .i64 v) := by
  intro args' w he h; subst he; exact h.of (int_eq hv) (over_calls P Q G x k hx hk w)
theorem does_elem {x : Int} {b : Bool} (hP : isInt P) (hQ : isInt Q) (hG : isInt G) (hx : isInt x) (hv : elemB P Q G x = b) : Does w0 B P Q G 29 #[.agg #[.int .i64 P, .int .i64 Q, .int .i64 G], .int .i64 x] (.bool b) := by
  intro args' w he h; subst he; exact h.of (by rw [hv]) (elem_calls P Q G x hP hQ hG hx w h.env)
theorem does_add {n a b v : Int} (ha : isInt a) (hb : isInt b) (hv : addZ n a b = v) : Does w0 B P Q G 15 #[.int .i64 n, .int .i64 a, .int .i64 b] (.int .i64 v) := by
  intro args' w he h; subst he; exact h.ofSame (int_eq hv) (add_calls n a b ha hb w)
theorem does_mul {n a b v : Int} (ha : isInt a) (hb : isInt b) (hv : mulZ n a b = v) : Does w0 B P Q G 19 #[.int .i64 n, .int .i64 a, .int .i64 b] (.int .i64 v) := by
  intro args' w he h; subst he; exact h.ofRet (int_eq hv) (mul_calls n a b ha hb w)
end

theorem does_prod2 {w0 w : World} {B : Nat} {P Q G x y k m v : Int} (hx : isInt x) (hy : isInt y) (hk : isInt k) (hm : isInt m) (hv : prodV P Q [x, y] [k, m] = .tuple #[.int .i64 v, .bool true]) (h : Gst w0 B P Q G w) :
    Calls Tryd.prog 25 #[.agg #[.int .i64 P, .int .i64 Q, .int .i64 G], .slice (some ⟨w.heap.size, 0, none⟩) 2 2, .slice (some ⟨w.heap.size + 1, 0, none⟩) 2 2]
      ((w.alloc (.cells #[.int .i64 x, .int .i64 y] 3)).alloc (.cells #[.int .i64 k, .int .i64 m] 3)) fun e w' => e = .returned (.tuple #[.int .i64 v, .bool true]) ∧ Gst w0 B P Q G w' := by
  rw [← hv]
  have h1 : Blk (w.alloc (.cells #[.int .i64 x, .int .i64 y] 3)) w.heap.size 3 #[.int .i64 x, .int .i64 y] := Blk.new w _ _
  have h1' := h1.alloc (.cells #[.int .i64 k, .int .i64 m] 3)
  have h2 : Blk ((w.alloc (.cells #[.int .i64 x, .int .i64 y] 3)).alloc (.cells #[.int .i64 k, .int .i64 m] 3)) (w.heap.size + 1) 3 #[.int .i64 k, .int .i64 m] := by
    have h3 := Blk.new (w.alloc (.cells #[.int .i64 x, .int .i64 y] 3)) 3 #[.int .i64 k, .int .i64 m]
    have e : (w.alloc (.cells #[.int .i64 x, .int .i64 y] 3)).heap.size = w.heap.size + 1 := by simp
    rw [e] at h3; exact h3
  have hW : Below w.heap.size w ((w.alloc (.cells #[.int .i64 x, .int .i64 y] 3)).alloc (.cells #[.int .i64 k, .int .i64 m] 3)) := ((Below.refl _ _).alloc (Nat.le_refl _) _).alloc (by simp) _
  have hg := h.next hW
  generalize ((w.alloc (.cells #[.int .i64 x, .int .i64 y] 3)).alloc (.cells #[.int .i64 k, .int .i64 m] 3)) = W at *
  have hi1 : IsInts (.slice (some ⟨w.heap.size, 0, none⟩) 2 2) [x, y] W := .inr ⟨_, 0, 2, rfl, h1'.lt, fun i z hz => by
    rw [Nat.zero_add, h1'.cell]
    match i, hz with
    | 0, hz => simp at hz; subst hz; rfl
    | 1, hz => simp at hz; subst hz; rfl⟩
  have hi2 : IsInts (.slice (some ⟨w.heap.size + 1, 0, none⟩) 2 2) [k, m] W := .inr ⟨_, 0, 2, rfl, h2.lt, fun i z hz => by
    rw [Nat.zero_add, h2.cell]
    match i, hz with
    | 0, hz => simp at hz; subst hz; rfl
    | 1, hz => simp at hz; subst hz; rfl⟩
  exact hg.of rfl (product_calls P Q G _ _ [x, y] [k, m] W hi1 hi2 (by simp [hx, hy]) (by simp [hk, hm]) (by simp) (by simp))

set_option maxRecDepth 100000 in
set_option maxHeartbeats 2000000 in
theorem expo_yes (q i j k m : Int) (hq : isInt q) (hi : isInt i) (hj : isInt j) (hk : isInt k) (hm : isInt m) (hv : validB (mkP q) q 4 = true) (w : World) (hE : Env w) :
    Calls Tryd.prog 9 #[.int .i64 q, .int .i64 i, .int .i64 j, .int .i64 k, .int .i64 m] w (Tpost w) := by
  unfold Tpost
  have c1 := Lib.hid (sane_calls w hE)
  have c2 := fun w hE => Lib.hid (make_calls q hq w hE)
  rw [show makeV q = .tuple #[.agg #[.int .i64 (mkP q), .int .i64 q, .int .i64 4], .bool true] by unfold makeV; rw [if_pos hv]] at c2
  have hEn := fun w' (h : Below w.heap.size w w') => Lib.hid (hE.next h)
  clear hE
  obtain ⟨hc, q5, hP, hq2, _, hGP⟩ := Cyc.of_valid hv
  have hPi : isInt (mkP q) := by unfold isInt; omega
  generalize mkP q = P at *
  have g1 := hc.gen (by omega) hGP
  go_enter Tryd.func9, Tryd.ntmps9
  go_wp2_with fail
  refine c1.out.mono ?_
  rintro e w1 ⟨rfl, hB⟩
  go_wp2_with fail
  refine Calls.mono (c2 w1 (hEn w1 hB).out).out ?_
  rintro e w2 ⟨rfl, hB2⟩
  have hS : Gst w w2.heap.size P q 4 (w2.alloc (.cells #[.int .i64 P, .int .i64 q, .int .i64 4] 29)) := by
    have h1 := hB.trans (hB2.mono hB.size)
    exact ⟨((hEn w1 hB).out.next hB2).next (below_one _ _), h1.trans ((below_one w2 _).mono h1.size), Blk.new _ _ _⟩
  clear hB hB2 c1 c2 hEn
  obtain ⟨z0, z1, z2⟩ := hS.cells
  have iE : ∀ e, isInt (gE P q 4 e) := fun e => isInt_res hc.p (hc.in' e)
  have iR : ∀ e, isInt (e % q) := fun e => isInt_res hc.q (res_in q e hc.q)
  have aR : ∀ a b, addZ q a b = (a + b) % q := fun a b => addZ_is hc.q a b
  have mR : ∀ a b, mulZ q a b = (a * b) % q := fun a b => mulZ_is hc.q a b
  have elT : ∀ e, elemB P q 4 (gE P q 4 e) = true := fun e => by unfold elemB; rw [hv, hc.sub e]; rfl
  have cR : ∀ a b, gE P q 4 (a * (b % q)) = gE P q 4 (a * b) := fun a b => gE_cong (by rw [Int.mul_emod, Int.emod_emod_of_dvd _ (Int.dvd_refl q), ← Int.mul_emod])
  obtain ⟨B, hBe⟩ : ∃ B, B = w2.heap.size := ⟨_, rfl⟩
  rw [← hBe] at hS z0 z1 z2
  have i4' : isInt 4 := by unfold isInt; omega
  have D1 := Lib.hid (does_power (w0 := w) (B := B) (G := 4) i4' hi (show gPow P q 4 i = gE P q 4 i by have := hc.gpow 1 i; rw [g1, Int.one_mul] at this; exact this))
  have D2 := Lib.hid (does_power (w0 := w) (B := B) (G := 4) i4' hj (show gPow P q 4 j = gE P q 4 j by have := hc.gpow 1 j; rw [g1, Int.one_mul] at this; exact this))
  have D3 := Lib.hid (does_power (w0 := w) (B := B) (G := 4) (iE i) hk (hc.gpow i k))
  have D4 := Lib.hid (does_power (w0 := w) (B := B) (G := 4) (iE i) hm (hc.gpow i m))
  have D5 := Lib.hid (does_times (w0 := w) (B := B) (G := 4) (iE i) (iE j) (hc.gtimes i j))
  have D6 := Lib.hid (does_over (w0 := w) (B := B) (G := 4) (iE i) (iE j) (hc.gover i j))
  have hqi := hq
  have D7 := Lib.hid (does_elem (w0 := w) (B := B) hPi hq i4' (iE i) (elT i))
  have D8 := Lib.hid (does_elem (w0 := w) (B := B) hPi hq i4' (iE (i + j)) (elT (i + j)))
  have D9 := Lib.hid (does_elem (w0 := w) (B := B) hPi hq i4' (iE (i - j)) (elT (i - j)))
  have D10 := Lib.hid (does_elem (w0 := w) (B := B) hPi hq i4' (iE (i * k)) (elT (i * k)))
  have D11 := Lib.hid (does_times (w0 := w) (B := B) (G := 4) (iE (i - j)) (iE j) ((hc.gtimes (i - j) j).trans (by rw [Int.sub_add_cancel])))
  have D12 := Lib.hid (does_over (w0 := w) (B := B) (G := 4) (iE (i + j)) (iE j) ((hc.gover (i + j) j).trans (by rw [Int.add_sub_cancel])))
  have D13 := Lib.hid (does_add (w0 := w) (B := B) (P := P) (Q := q) (G := 4) (n := q) hk (by unfold isInt; omega) ((aR k 0).trans (by rw [Int.add_zero])))
  have D14 := Lib.hid (does_power (w0 := w) (B := B) (G := 4) (iE i) (iR k) ((hc.gpow i (k % q)).trans (cR i k)))
  have D15 := Lib.hid (does_add (w0 := w) (B := B) (P := P) (Q := q) (G := 4) (n := q) hk hm (aR k m))
  have D16 := Lib.hid (does_power (w0 := w) (B := B) (G := 4) (iE i) (iR (k + m)) ((hc.gpow i ((k + m) % q)).trans (cR i (k + m))))
  have D17 := Lib.hid (does_times (w0 := w) (B := B) (G := 4) (iE (i * k)) (iE (i * m)) ((hc.gtimes (i * k) (i * m)).trans (by rw [← Int.mul_add])))
  have D18 := Lib.hid (does_power (w0 := w) (B := B) (G := 4) (iE (i * k)) hm ((hc.gpow (i * k) m).trans (by rw [Int.mul_assoc])))
  have D19 := Lib.hid (does_mul (w0 := w) (B := B) (P := P) (Q := q) (G := 4) (n := q) hk hm (mR k m))
  have D20 := Lib.hid (does_power (w0 := w) (B := B) (G := 4) (iE i) (iR (k * m)) ((hc.gpow i (k * m % q)).trans (cR i (k * m))))
  have D21 := Lib.hid (does_power (w0 := w) (B := B) (G := 4) (iE (i + j)) hk (hc.gpow (i + j) k))
  have D22 := Lib.hid (does_power (w0 := w) (B := B) (G := 4) (iE j) hk (hc.gpow j k))
  have D23 := Lib.hid (does_times (w0 := w) (B := B) (G := 4) (iE (i * k)) (iE (j * k)) ((hc.gtimes (i * k) (j * k)).trans (by rw [← Int.add_mul])))
  have D24 := Lib.hid (does_power (w0 := w) (B := B) (G := 4) (iE j) hm (hc.gpow j m))
  have D25 := Lib.hid (does_times (w0 := w) (B := B) (G := 4) (iE (i * k)) (iE (j * m)) (hc.gtimes (i * k) (j * m)))
  have D26 := Lib.hid (does_add (w0 := w) (B := B) (P := P) (Q := q) (G := 4) (n := q) hi hj (aR i j))
  have D27 := Lib.hid (does_power (w0 := w) (B := B) (G := 4) i4' (iR (i + j)) (show gPow P q 4 ((i + j) % q) = gE P q 4 (i + j) by have := hc.gpow 1 ((i + j) % q); rw [g1, Int.one_mul] at this; rw [this]; have h2 := cR 1 (i + j); rw [Int.one_mul, Int.one_mul] at h2; exact h2))
  have D28 : Hid (prodV P q [gE P q 4 i, gE P q 4 j] [k, m] = .tuple #[.int .i64 (gE P q 4 (i * k + j * m)), .bool true]) := by
    show prodV P q [gE P q 4 i, gE P q 4 j] [k, m] = _
    unfold prodV
    rw [if_pos ⟨⟨hc.p, hc.q⟩, rfl⟩, prodF, prodF, prodF_nil, hc.gpow, hc.gpow, hc.one', mulZ_is hc.p, mulZ_is hc.p, Int.one_mul, mul_emod_l, hc.add]
  have HI := Lib.hid (And.intro (iE i) (And.intro (iE j) (And.intro hk hm)))
  generalize gE P q 4 i = x at *
  generalize gE P q 4 j = y at *
  generalize gE P q 4 (i * k) = xk at *
  generalize gE P q 4 (i * m) = xm at *
  generalize gE P q 4 (i + j) = p at *
  generalize gE P q 4 (i - j) = d at *
  generalize gE P q 4 (i * (k + m)) = u at *
  generalize gE P q 4 (i * (k * m)) = v at *
  generalize gE P q 4 ((i + j) * k) = z at *
  generalize gE P q 4 (j * k) = yk at *
  generalize gE P q 4 (j * m) = ym at *
  generalize gE P q 4 (i * k + j * m) = both at *
  generalize k % q = kr at *
  generalize (k + m) % q = sr at *
  generalize k * m % q = tr at *
  generalize (i + j) % q = ir at *
  clear iE iR aR mR elT cR hc g1 hP hv hGP hPi hq hqi hq2 q5 hi hj hk hm i4'
  have e1 : (x != x) = false := by simp
  have e2 : (xk != xk) = false := by simp
  have e3 : (u != u) = false := by simp
  have e4 : (v != v) = false := by simp
  have e5 : (z != z) = false := by simp
  have e6 : (both == both) = true := by simp
  have e7 : (p == p) = true := by simp
  go_wp2_with fail
  generalize (w2.alloc (.cells #[.int .i64 P, .int .i64 q, .int .i64 4] 29)) = W3 at *
  rw [← hBe]
  clear hBe
  refine Calls.mono (D1.out _ _ (by with_reducible rfl) hS) ?_
  clear hS z0 z1 z2
  rintro e w3 ⟨rfl, hS⟩
  obtain ⟨z0, z1, z2⟩ := hS.cells
  go_wp2_with fail
  refine Calls.mono (D2.out _ _ (by with_reducible rfl) hS) ?_
  clear hS z0 z1 z2
  rintro e w3 ⟨rfl, hS⟩
  obtain ⟨z0, z1, z2⟩ := hS.cells
  go_wp2_with fail
  refine Calls.mono (D3.out _ _ (by with_reducible rfl) hS) ?_
  clear hS z0 z1 z2
  rintro e w3 ⟨rfl, hS⟩
  obtain ⟨z0, z1, z2⟩ := hS.cells
  go_wp2_with fail
  refine Calls.mono (D4.out _ _ (by with_reducible rfl) hS) ?_
  clear hS z0 z1 z2
  rintro e w3 ⟨rfl, hS⟩
  obtain ⟨z0, z1, z2⟩ := hS.cells
  go_wp2_with fail
  refine Calls.mono (D5.out _ _ (by with_reducible rfl) hS) ?_
  clear hS z0 z1 z2
  rintro e w3 ⟨rfl, hS⟩
  obtain ⟨z0, z1, z2⟩ := hS.cells
  go_wp2_with fail
  refine Calls.mono (D6.out _ _ (by with_reducible rfl) hS) ?_
  clear hS z0 z1 z2
  rintro e w3 ⟨rfl, hS⟩
  obtain ⟨z0, z1, z2⟩ := hS.cells
  go_wp2_with fail
  have HS := Lib.hid hS
  clear hS z0 z1 z2
  go_region_held3 (fun w' => w'.cell? ⟨B, 0, none⟩ = some (.int .i64 P) ∧ w'.cell? ⟨B, 1, none⟩ = some (.int .i64 q) ∧ w'.cell? ⟨B, 2, none⟩ = some (.int .i64 4) ∧ Gst w B P q 4 w') (first | exact Gst.three (by assumption) | exact Gst.three (Gst.drewN HS.out 1) | exact Gst.three HS.out) (first
    | (go_at_call 29; refine Calls.mono (D7.out _ _ (by with_reducible rfl) (by first | assumption | exact Gst.drewN HS.out 1)) ?_; rintro e w4 ⟨rfl, hS4⟩)
    | (go_at_call 29; refine Calls.mono (D8.out _ _ (by with_reducible rfl) (by first | assumption | exact Gst.drewN HS.out 1)) ?_; rintro e w4 ⟨rfl, hS4⟩)
    | (go_at_call 29; refine Calls.mono (D9.out _ _ (by with_reducible rfl) (by first | assumption | exact Gst.drewN HS.out 1)) ?_; rintro e w4 ⟨rfl, hS4⟩)
    | (go_at_call 29; refine Calls.mono (D10.out _ _ (by with_reducible rfl) (by first | assumption | exact Gst.drewN HS.out 1)) ?_; rintro e w4 ⟨rfl, hS4⟩)
    | (go_at_call 33; refine Calls.mono (D11.out _ _ (by with_reducible rfl) (by first | assumption | exact Gst.drewN HS.out 1)) ?_; rintro e w4 ⟨rfl, hS4⟩)
    | (go_at_call 35; refine Calls.mono (D12.out _ _ (by with_reducible rfl) (by first | assumption | exact Gst.drewN HS.out 1)) ?_; rintro e w4 ⟨rfl, hS4⟩)
    | (go_at_call 15; refine Calls.mono (D13.out _ _ (by with_reducible rfl) (by first | assumption | exact Gst.drewN HS.out 1)) ?_; rintro e w4 ⟨rfl, hS4⟩)
    | (go_at_call 31; refine Calls.mono (D14.out _ _ (by with_reducible rfl) (by first | assumption | exact Gst.drewN HS.out 1)) ?_; rintro e w4 ⟨rfl, hS4⟩))
  go_wp2_with fail
  clear HS
  have HS := Lib.hid hS4
  clear D7 D8 D9 D10 D11 D12 D13 D14
  repeat clear hS4
  go_region_held3 (fun w' => w'.cell? ⟨B, 0, none⟩ = some (.int .i64 P) ∧ w'.cell? ⟨B, 1, none⟩ = some (.int .i64 q) ∧ w'.cell? ⟨B, 2, none⟩ = some (.int .i64 4) ∧ Gst w B P q 4 w') (first | exact Gst.three (by assumption) | exact Gst.three (Gst.drewN HS.out 1) | exact Gst.three HS.out) (first
    | (go_at_call 15; refine Calls.mono (D15.out _ _ (by with_reducible rfl) (by first | assumption | exact Gst.drewN HS.out 1)) ?_; rintro e w4 ⟨rfl, hS4⟩)
    | (go_at_call 31; refine Calls.mono (D16.out _ _ (by with_reducible rfl) (by first | assumption | exact Gst.drewN HS.out 1)) ?_; rintro e w4 ⟨rfl, hS4⟩)
    | (go_at_call 33; refine Calls.mono (D17.out _ _ (by with_reducible rfl) (by first | assumption | exact Gst.drewN HS.out 1)) ?_; rintro e w4 ⟨rfl, hS4⟩)
    | (go_at_call 31; refine Calls.mono (D18.out _ _ (by with_reducible rfl) (by first | assumption | exact Gst.drewN HS.out 1)) ?_; rintro e w4 ⟨rfl, hS4⟩)
    | (go_at_call 19; refine Calls.mono (D19.out _ _ (by with_reducible rfl) (by first | assumption | exact Gst.drewN HS.out 1)) ?_; rintro e w4 ⟨rfl, hS4⟩)
    | (go_at_call 31; refine Calls.mono (D20.out _ _ (by with_reducible rfl) (by first | assumption | exact Gst.drewN HS.out 1)) ?_; rintro e w4 ⟨rfl, hS4⟩)
    | (go_at_call 31; refine Calls.mono (D21.out _ _ (by with_reducible rfl) (by first | assumption | exact Gst.drewN HS.out 1)) ?_; rintro e w4 ⟨rfl, hS4⟩)
    | (go_at_call 31; refine Calls.mono (D22.out _ _ (by with_reducible rfl) (by first | assumption | exact Gst.drewN HS.out 1)) ?_; rintro e w4 ⟨rfl, hS4⟩)
    | (go_at_call 33; refine Calls.mono (D23.out _ _ (by with_reducible rfl) (by first | assumption | exact Gst.drewN HS.out 1)) ?_; rintro e w4 ⟨rfl, hS4⟩))
  go_wp2_with fail
  refine Calls.mono (does_prod2 HI.out.1 HI.out.2.1 HI.out.2.2.1 HI.out.2.2.2 D28.out hS4) ?_
  clear HS D15 D16 D17 D18 D19 D20 D21 D22 D23
  repeat clear hS4
  rintro e w5 ⟨rfl, hS5⟩
  have HS := Lib.hid hS5
  clear hS5
  go_wp2_with fail
  go_region_held3 (fun w' => w'.cell? ⟨B, 0, none⟩ = some (.int .i64 P) ∧ w'.cell? ⟨B, 1, none⟩ = some (.int .i64 q) ∧ w'.cell? ⟨B, 2, none⟩ = some (.int .i64 4) ∧ Gst w B P q 4 w') (first | exact Gst.three (by assumption) | exact Gst.three (Gst.drewN HS.out 1) | exact Gst.three HS.out) (first
    | (go_at_call 31; refine Calls.mono (D24.out _ _ (by with_reducible rfl) (by first | assumption | exact Gst.drewN HS.out 1)) ?_; rintro e w4 ⟨rfl, hS4⟩)
    | (go_at_call 33; refine Calls.mono (D25.out _ _ (by with_reducible rfl) (by first | assumption | exact Gst.drewN HS.out 1)) ?_; rintro e w4 ⟨rfl, hS4⟩)
    | (go_at_call 15; refine Calls.mono (D26.out _ _ (by with_reducible rfl) (by first | assumption | exact Gst.drewN HS.out 1)) ?_; rintro e w4 ⟨rfl, hS4⟩)
    | (go_at_call 31; refine Calls.mono (D27.out _ _ (by with_reducible rfl) (by first | assumption | exact Gst.drewN HS.out 1)) ?_; rintro e w4 ⟨rfl, hS4⟩))
  go_wp2
  go_ret
  exact ⟨rfl, hS4.bel⟩
theorem expo_any (q : Int) (hq : isInt q) (i : Int) (hi : isInt i) (j : Int) (hj : isInt j) (k : Int) (hk : isInt k) (m : Int) (hm : isInt m) (w : World) (hE : Env w) :
    Calls Tryd.prog 9 #[.int .i64 q, .int .i64 i, .int .i64 j, .int .i64 k, .int .i64 m] w (Tpost w) := by
  cases hv : validB (mkP q) q 4 with
  | false => exact expo_no q i j k m hq hv w hE
  | true => exact expo_yes q i j k m hq hi hj hk hm hv w hE
end Go.Proofs.YtolmcaikjebdaaaDoor
