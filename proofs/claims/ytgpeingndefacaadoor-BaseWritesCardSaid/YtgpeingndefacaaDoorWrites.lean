/- BaseWrites' contract: the writers return the encodings that the reference returns. -/
import Derived.Test.YtgpeingndefacaaDoorRef
namespace Go.Proofs.YtgpeingndefacaaDoor
open Go.RowKit

/-- What stays as the region goes on: from the world w0 on only new blocks. -/
def KS (w w0 w' : World) : Prop := Env w' ∧ Below w0.heap.size w0 w' ∧ Below w.heap.size w w'
theorem KS.next {w w0 w1 w2 : World} (h : KS w w0 w1) (hb : Below w1.heap.size w1 w2) : KS w w0 w2 :=
  ⟨h.1.next hb, h.2.1.trans (hb.mono h.2.1.size), h.2.2.trans (hb.mono h.2.2.size)⟩
theorem KS.drew {w w0 w1 : World} (h : KS w w0 w1) : KS w w0 w1.drew := ⟨h.1.drew, h.2.1.drew, h.2.2.drew⟩
theorem KS.cell {w w0 w1 : World} (h : KS w w0 w1) {b j : Nat} {x : Value} (hb : b < w0.heap.size) (hc : w0.cell? ⟨b, j, none⟩ = some x) : w1.cell? ⟨b, j, none⟩ = some x := by
  rw [h.2.1.cell (p := ⟨b, j, none⟩) hb]; exact hc

theorem KS.two {w w0 w1 : World} {b i j : Nat} {x y : Value} (hb : b < w0.heap.size) (hx : w0.cell? ⟨b, i, none⟩ = some x) (hy : w0.cell? ⟨b, j, none⟩ = some y) (h : KS w w0 w1) : w1.cell? ⟨b, i, none⟩ = some x ∧ w1.cell? ⟨b, j, none⟩ = some y ∧ KS w w0 w1 :=
  ⟨h.cell hb hx, h.cell hb hy, h⟩
theorem kcall {w w0 W : World} {f : FuncId} {args : Array Value} {v : Value} (h : KS w w0 W) (hc : Calls Tryd.prog f args W fun e w' => e = .returned v ∧ Below W.heap.size W w') :
    Calls Tryd.prog f args W fun e w' => e = .returned v ∧ KS w w0 w' := hc.mono fun _ _ ⟨he, hb⟩ => ⟨he, h.next hb⟩

set_option maxHeartbeats 4000000 in
set_option maxRecDepth 100000 in
theorem writes_calls (v : Val) (a b c d e : Value) (w : World) (hE : Env w) (hv : ValIs v a b c d e w) (hfit : v.l.length ≤ 9223372036854775807 ∧ v.t.length ≤ 9223372036854775807 ∧ (bs v.s).size ≤ 9223372036854775807) :
    Calls Tryd.prog 3 #[.agg #[a, b, c, d, e]] w (Tpost w) := by
  have hb0 : Below w.heap.size w (w.alloc (.cells #[a, b, c, d, e] 25)) := (Below.refl _ _).alloc (Nat.le_refl _) _
  have hE0 := hE.next hb0
  have hv0 := hv.next hb0
  obtain ⟨rfl, rfl, rfl, hd, he, hk, hn, hli⟩ := hv
  go_enter Tryd.func3, Tryd.ntmps3
  go_wp2_with fail
  refine (saneCodes _ hE0).mono ?_
  rintro e1 w1 ⟨rfl, hb1⟩
  have hb01 := hb0.trans (hb1.mono (by simp))
  have hE1 := hE0.next hb1
  have hv1 := hv0.next hb1
  have hsz1 : w.heap.size < w1.heap.size := by have := hb1.size; simp at this; omega
  have hc : ∀ j x, (w.alloc (.cells #[.int .i64 v.k, .int .i64 v.n, .string (bs v.s), d, e] 25)).cell? ⟨w.heap.size, j, none⟩ = some x → w1.cell? ⟨w.heap.size, j, none⟩ = some x := fun j x h => by
    rw [hb1.cell (p := ⟨w.heap.size, j, none⟩) (by simp)]; exact h
  have c0 : w1.cell? ⟨w.heap.size, 0, none⟩ = some (.int .i64 v.k) := hc 0 _ (by rw [World.cell?_alloc_at _ _ _ _ rfl]; rfl)
  have c1 : w1.cell? ⟨w.heap.size, 1, none⟩ = some (.int .i64 v.n) := hc 1 _ (by rw [World.cell?_alloc_at _ _ _ _ rfl]; rfl)
  have c2 : w1.cell? ⟨w.heap.size, 2, none⟩ = some (.string (bs v.s)) := hc 2 _ (by rw [World.cell?_alloc_at _ _ _ _ rfl]; rfl)
  have c3 : w1.cell? ⟨w.heap.size, 3, none⟩ = some d := hc 3 _ (by rw [World.cell?_alloc_at _ _ _ _ rfl]; rfl)
  have c4 : w1.cell? ⟨w.heap.size, 4, none⟩ = some e := hc 4 _ (by rw [World.cell?_alloc_at _ _ _ _ rfl]; rfl)
  clear hc hb1 hb0 hv0 hE0
  have hbA : Below w1.heap.size w1 (w1.alloc (.cells #[.int .i64 v.k, .int .i64 v.n, .string (bs v.s), d, e] 25)) := (Below.refl _ _).alloc (Nat.le_refl _) _
  have hvA := hv1.next hbA
  have hIV : IsVals (.slice (some ⟨w1.heap.size, 0, none⟩) 1 1) [v] (w1.alloc (.cells #[.int .i64 v.k, .int .i64 v.n, .string (bs v.s), d, e] 25)) := by
    refine .inr ⟨w1.heap.size, 0, 1, rfl, by simp, fun i x hx => ?_⟩
    match i, hx with
    | 0, hx =>
      simp at hx
      subst hx
      exact ⟨_, _, _, _, _, hvA, by rw [World.cell?_alloc_at _ _ _ _ rfl]; rfl, by rw [World.cell?_alloc_at _ _ _ _ rfl]; rfl, by rw [World.cell?_alloc_at _ _ _ _ rfl]; rfl, by rw [World.cell?_alloc_at _ _ _ _ rfl]; rfl, by rw [World.cell?_alloc_at _ _ _ _ rfl]; rfl⟩
  have HF := Lib.hid (fewValues _ [v] _ hIV (by simp) (fun x hx => by simp at hx; subst hx; exact hfit))
  obtain ⟨w2, hw2⟩ : ∃ w2, w2 = w1.alloc (.cells #[.int .i64 v.k, .int .i64 v.n, .string (bs v.s), d, e] 25) := ⟨_, rfl⟩
  have hb02 : Below w.heap.size w w2 := by rw [hw2]; exact hb01.trans (hbA.mono hb01.size)
  have hc : ∀ j, w2.cell? ⟨w.heap.size, j, none⟩ = w1.cell? ⟨w.heap.size, j, none⟩ := fun j => by
    rw [hw2, hbA.cell (p := ⟨w.heap.size, j, none⟩) hsz1]
  have k1 := (hc 1).trans c1
  have k2 := (hc 2).trans c2
  have k3 := (hc 3).trans c3
  have k4 := (hc 4).trans c4
  have hsz2 : w.heap.size < w2.heap.size := by rw [hw2]; simp; omega
  have hE2 : Env w2 := by rw [hw2]; exact hE1.next hbA
  have HW2 := Lib.hid hw2
  clear hc hbA hvA hIV hv1 hE1 hw2
  go_wp2_with fail
  refine HF.out.mono ?_
  rw [← HW2.out]
  rintro e1 w3 ⟨bb, rfl, hbt, n, rfl⟩
  clear c0 c1 c2 c3 c4 hb01 hsz1 HF HW2
  obtain ⟨w3, hw3⟩ : ∃ w3, w3 = w2.drewN n := ⟨_, rfl⟩
  rw [← hw3]
  have hb03 : Below w.heap.size w w3 := by rw [hw3]; exact ⟨hb02.os, hb02.tape, hb02.output, hb02.size, hb02.block⟩
  have q1 : w3.cell? ⟨w.heap.size, 1, none⟩ = some (.int .i64 v.n) := by rw [hw3]; exact k1
  have q2 : w3.cell? ⟨w.heap.size, 2, none⟩ = some (.string (bs v.s)) := by rw [hw3]; exact k2
  have q3 : w3.cell? ⟨w.heap.size, 3, none⟩ = some d := by rw [hw3]; exact k3
  have q4 : w3.cell? ⟨w.heap.size, 4, none⟩ = some e := by rw [hw3]; exact k4
  have hsz3 : w.heap.size < w3.heap.size := by rw [hw3]; exact hsz2
  have hE3 : Env w3 := hE.next hb03
  clear hw3 k1 k2 k3 k4 hsz2 hE2 hb02
  cases bb
  · clear hbt
    go_wp2
    go_ret
    exact ⟨rfl, hb03⟩
  · obtain ⟨-, hfew⟩ := hbt rfl
    have hf := hfew v (by simp)
    obtain ⟨f1, f2, f3, f4⟩ := hf
    have hs4 : (bs v.s).size ≤ 4294967296 := by rw [bs_size]; omega
    clear hbt hfew
    have hK : KS w w3 w3.drew := ⟨hE3.drew, (Below.refl _ _).drew, hb03.drew⟩
    have HK := Lib.hid hK
    clear hK
    go_wp2_with fail
    go_region_held3 (fun w' => w'.cell? ⟨w.heap.size, 1, none⟩ = some (.int .i64 v.n) ∧ w'.cell? ⟨w.heap.size, 2, none⟩ = some (.string (bs v.s)) ∧ KS w w3 w') (first | exact KS.two hsz3 q1 q2 HK.out | exact KS.two hsz3 q1 q2 (by assumption)) (first | (go_at_call 10; refine (kcall (by assumption) (base_Num v.n hn _ (by assumption : KS w w3 _).1)).mono ?_; rintro e1 w4 ⟨rfl, hk4⟩) | (go_at_call 11; refine (kcall (by assumption) (ref_Num v.n hn _)).mono ?_; rintro e1 w4 ⟨rfl, hk4⟩) | (go_at_call 12; refine (kcall (by assumption) (base_Int v.n hn _ (by assumption : KS w w3 _).1)).mono ?_; rintro e1 w4 ⟨rfl, hk4⟩) | (go_at_call 13; refine (kcall (by assumption) (ref_Int v.n hn _)).mono ?_; rintro e1 w4 ⟨rfl, hk4⟩) | (go_at_call 14; refine (kcall (by assumption) (base_Text_bs v.s (by omega) _ (by assumption : KS w w3 _).1)).mono ?_; rintro e1 w4 ⟨rfl, hk4⟩) | (go_at_call 15; refine (kcall (by assumption) (ref_Text_bs v.s (by omega) _)).mono ?_; rintro e1 w4 ⟨rfl, hk4⟩))
    have HK2 := Lib.hid (KS.drew hk4)
    have hn1 := numsS_len v.l hli f1
    have hn2 := textsS_len v.t f4 f2
    have hft : ∀ x ∈ v.t, x.length ≤ 4294967296 := fun x hx => by have := f4 x hx; omega
    go_wp2_with fail
    go_region_held3 (fun w' => w'.cell? ⟨w.heap.size, 3, none⟩ = some (d) ∧ w'.cell? ⟨w.heap.size, 4, none⟩ = some (e) ∧ KS w w3 w') (first | exact KS.two hsz3 q3 q4 HK2.out | exact KS.two hsz3 q3 q4 (by assumption)) (first | (go_at_call 16; refine (kcall (by assumption) (base_Nums d v.l _ (by assumption : KS w w3 _).1 (hd.next (by assumption : KS w w3 _).2.2) hli (by omega) (by omega))).mono ?_; rintro e1 w5 ⟨rfl, hk5⟩) | (go_at_call 17; refine (kcall (by assumption) (ref_Nums d v.l _ (hd.next (by assumption : KS w w3 _).2.2) hli f1)).mono ?_; rintro e1 w5 ⟨rfl, hk5⟩) | (go_at_call 18; refine (kcall (by assumption) (base_Texts e v.t _ (by assumption : KS w w3 _).1 (he.next (by assumption : KS w w3 _).2.2) hft (by omega) (by omega))).mono ?_; rintro e1 w5 ⟨rfl, hk5⟩) | (go_at_call 19; refine (kcall (by assumption) (ref_Texts e v.t _ (he.next (by assumption : KS w w3 _).2.2) f4 f2)).mono ?_; rintro e1 w5 ⟨rfl, hk5⟩))
    go_wp2
    go_ret
    exact ⟨rfl, hk5.2.2⟩
end Go.Proofs.YtgpeingndefacaaDoor
