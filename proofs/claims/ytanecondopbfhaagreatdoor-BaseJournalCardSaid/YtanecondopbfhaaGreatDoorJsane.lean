/- saneJournal returns true. -/
import Derived.Test.YtanecondopbfhaaGreatDoorJn
namespace Go.Proofs.YtanecondopbfhaaGreatDoor
open Go.RowKit
open Cod (Env)

variable {w w' : World} {b jb : Nat} {d d' : Dk} {P : Nat → Prop} {j : Jr}

def t4 : List UInt8 := [50, 58, 97, 98, 44, 50, 57, 51, 59, 49, 58, 97, 44, 57, 56, 59]

theorem recs_nil : recs [] = [] := by decide +kernel
theorem recs_t4 : recs t4 = [[97, 98]] := by decide +kernel
theorem forms_t3 : forms [[97, 98], []] = [50, 58, 97, 98, 44, 50, 57, 51, 59, 48, 58, 44, 48, 59] := by decide +kernel
theorem new_text (f : Nat) : Dk.new.F.text f = [] := rfl
theorem new_calm : Dk.new.Calm := ⟨rfl, rfl, rfl⟩

theorem n_read (h : Jn P w b d jb j) (f a n : Int) (ha : -9223372036854775808 ≤ a) (ha2 : a ≤ 9223372036854775807) :
    Calls Tryz.prog 29 #[.pointer (some ⟨b, 0, none⟩), .int .i64 f, .int .i64 a, .int .i64 n] w fun e w' => e = .returned (.tuple #[.string (bs (d.read f a n).1), .int .i64 (d.read f a n).2]) ∧ Jn P w' b d jb j ∧ Kept (fun i => ¬ P i) w w' := by
  obtain ⟨S, _, hM, hb⟩ := h.disk
  refine (m_read hM f a n ha ha2).mono ?_
  rintro r w' ⟨rfl, h1, h2⟩
  exact ⟨rfl, hb _ _ h1 h2⟩

theorem n_write (h : Jn P w b d jb j) (f a : Int) (s : List UInt8) (hs : s.length ≤ 1099511627776) (ha : -9223372036854775808 ≤ a ∧ a ≤ 9223372036854775807) (hR : d.R + s.length + 2 ≤ 549755813888) :
    Calls Tryz.prog 36 #[.pointer (some ⟨b, 0, none⟩), .int .i64 f, .int .i64 a, .string (bs s)] w fun r w' => r = .returned (.int .i64 (d.write f a s).2) ∧ Jn P w' b (d.write f a s).1 jb j ∧ Kept (fun i => ¬ P i) w w' := by
  obtain ⟨S, _, hM, hb⟩ := h.disk
  refine (m_write hM f a s hs ha hR).mono ?_
  rintro r w' ⟨rfl, h1, h2⟩
  exact ⟨rfl, hb _ _ h1 h2⟩

theorem n_size (h : Jn P w b d jb j) (f : Int) : Calls Tryz.prog 30 #[.pointer (some ⟨b, 0, none⟩), .int .i64 f] w fun e w' => e = .returned (.int .i64 (d.size f)) ∧ w = w' := m_size h.mine f

theorem size_eq {d : Dk} {f : Nat} (hf : f < 16) : d.size (f : Int) = (d.F.text f).length := by
  unfold Dk.size
  rw [if_pos ⟨by omega, by omega⟩, Img.text_length]; simp

theorem sane_sum0 (w : World) : Calls Tryz.prog 13 #[.string { data := #[] }] w fun e w' => e = .returned (.int .i64 0) ∧ w = w' := sum_calls [] (by decide) w

theorem sane_sum1 (w : World) : Calls Tryz.prog 13 #[.string { data := #[97] }] w fun e w' => e = .returned (.int .i64 97) ∧ w = w' := by
  have := sum_calls [97] (by decide) w
  rw [show ((sumL [97] : Nat) : Int) = 97 by decide +kernel] at this
  exact this

theorem sane_sum2 (w : World) : Calls Tryz.prog 13 #[.string { data := #[97, 98] }] w fun e w' => e = .returned (.int .i64 293) ∧ w = w' := by
  have := sum_calls [97, 98] (by decide) w
  rw [show ((sumL [97, 98] : Nat) : Int) = 293 by decide +kernel] at this
  exact this

theorem Kept.drewN {S : Nat → Prop} {a w : World} (h : Kept S a w) (n : Nat) : Kept S a (w.drewN n) := ⟨h.os, h.tape, h.output, h.size, h.block⟩

theorem lit_texts (w : World) (s : List UInt8) : IsTexts (.slice (some ⟨w.heap.size, 0, none⟩) 1 1) [s] (w.alloc (.cells #[.string (bs s)] 9)) := by
  refine .inr ⟨w.heap.size, 0, 1, rfl, by simp, fun i x hx => ?_⟩
  match i, hx with
  | 0, hx =>
    simp at hx
    subst hx
    have h : (w.alloc (.cells #[.string (bs s)] 9)).heap[w.heap.size]? = some (.cells #[.string (bs s)] 9) := Array.getElem?_push_size ..
    rw [Lib.cell_of_heap h]; rfl

theorem texts_alloc {v : Value} {xs : List (List UInt8)} {w : World} (h : IsTexts v xs w) (o : Obj) : IsTexts v xs (w.alloc o) := by
  rcases h with h | ⟨bk, off, cap, h, hb, hc⟩
  · exact .inl h
  · refine .inr ⟨bk, off, cap, h, by simp; omega, fun i x hx => ?_⟩
    rw [← hc i x hx]
    unfold World.cell?
    rw [Lib.alloc_old w o bk hb]

set_option maxHeartbeats 2000000 in
set_option maxRecDepth 100000 in
theorem jsane_calls (w : World) (hE : Env w) : Calls Tryz.prog 7 #[] w fun e w' => e = .returned (.bool true) ∧ Below w.heap.size w w' := by
  have hlo := hE.lo
  go_enter Tryz.func7, Tryz.ntmps7
  go_wp2_with fail
  refine (m_new w).mono ?_
  rintro e w1 ⟨b, rfl, h1, k1⟩
  have hE1 := env_kept hE k1 (fun _ _ h => h)
  have K1 := Lib.hid (k1.mono (T := fun i => ¬ i < w.heap.size) (fun i hi => hi.elim))
  obtain ⟨d1, o1, hc1, ht1, hg1, hR1, -⟩ := calm_open h1.ok new_calm (f := 3) (by decide)
  have c1 := n_open h1 hE1 (fun i hi => by omega) 3 (by decide)
  rw [o1] at c1
  rw [new_text, recs_nil] at c1 ht1
  have C1 := Lib.hid c1
  clear c1 o1 h1 k1
  go_wp2_with fail
  refine C1.out.mono ?_
  rintro e w2 ⟨jb, rfl, h2, k2⟩
  have hE2 := env_kept hE1 k2 (fun i hi hn => hn (by omega))
  have K2 := Lib.hid (K1.out.trans k2)
  have hRn : Dk.new.R = 0 := rfl
  obtain ⟨d2, o2, hc2, ht2, hg2, hR2, -⟩ := calm_append hc1 (f := 3) (L := []) (s := [97, 98]) (by decide) ht1 (by decide) (by decide +kernel)
  have c2 := n_append h2 hE2 [97, 98] (by decide) (show d1.R + 1048578 ≤ 549755813888 by omega)
  rw [o2] at c2
  have C2 := Lib.hid c2
  clear c2 o2 h2 k2 C1 K1
  go_wp2_with fail
  refine C2.out.mono ?_
  rintro e w3 ⟨rfl, h3, k3⟩
  have hE3 := env_kept hE2 k3 (fun i hi hn => hn (by omega))
  have K3 := Lib.hid (K2.out.trans k3)
  have hfl : (formL [97, 98]).length = 9 := by decide +kernel
  obtain ⟨d3, o3, hc3, ht3, hg3, hR3, -⟩ := calm_append hc2 (f := 3) (L := [] ++ [[97, 98]]) (s := []) (by decide) ht2 (by decide) (by decide +kernel)
  have c3 := n_append h3 hE3 [] (by decide) (show d2.R + 1048578 ≤ 549755813888 by omega)
  rw [o3] at c3
  have C3 := Lib.hid c3
  clear c3 o3 h3 k3 C2 K2
  go_wp2_with fail
  refine C3.out.mono ?_
  rintro e w4 ⟨rfl, h4, k4⟩
  have hE4 := env_kept hE3 k4 (fun i hi hn => hn (by omega))
  have K4 := Lib.hid (K3.out.trans k4)
  have ht3b : d3.F.text 3 = [50, 58, 97, 98, 44, 50, 57, 51, 59, 48, 58, 44, 48, 59] := ht3.trans forms_t3
  have hsz3 : d3.F.sz 3 = 14 := by rw [← Img.text_length, ht3b]; rfl
  have c4 := n_read h4 3 0 99 (by decide) (by decide)
  rw [show d3.read 3 0 99 = (d3.F.text 3, 0) from calm_read hc3 (f := 3) (n := 99) (by decide) (by omega), ht3b] at c4
  have C4 := Lib.hid c4
  clear c4 h4 k4 C3 K3
  go_wp2_with fail
  refine C4.out.mono ?_
  rintro e w5 ⟨rfl, h5, k5⟩
  have hE5 := env_kept hE4 k5 (fun i hi hn => hn (by omega))
  have K5 := Lib.hid (K4.out.trans k5)
  have ht34 : d3.F.text 4 = [] := by rw [hg3 4 (by decide), hg2 4 (by decide), hg1 4 (by decide), new_text]
  have hsz4 : d3.F.sz 4 = 0 := by rw [← Img.text_length, ht34]; rfl
  have hfl2 : (formL []).length = 5 := by decide +kernel
  have hw4 : d3.write 4 0 t4 = (d3.add 4 0 t4, 0) := calm_write hc3 (f := 4) (a := 0) (by decide) (by decide) (by decide)
  have ht5 : (d3.add 4 0 t4).F.text 4 = t4 := by
    have := text_put_end (m := d3.F) (f := 4) (t := t4)
    rw [hsz4, ht34] at this
    exact this
  have hc5 : (d3.add 4 0 t4).Calm := ⟨hc3.down, hc3.lost, hc3.calls⟩
  have c5 := n_write h5 4 0 t4 (by decide) (by decide) (by rw [show t4.length = 16 from rfl]; omega)
  rw [hw4] at c5
  have C5 := Lib.hid c5
  clear c5 h5 k5 C4 K4
  rw [show bs (([50, 58, 97, 98, 44, 50, 57, 51, 59, 48, 58, 44, 48, 59] : List UInt8), (0 : Int)).1 = { data := #[50, 58, 97, 98, 44, 50, 57, 51, 59, 48, 58, 44, 48, 59] } from rfl]
  go_wp2_with fail
  refine C5.out.mono ?_
  rintro e w6 ⟨rfl, h6, k6⟩
  have hE6 := env_kept hE5 k6 (fun i hi hn => hn (by omega))
  have K6 := Lib.hid (K5.out.trans k6)
  obtain ⟨S, rv, hP, hM, hJ⟩ := h6
  obtain ⟨d6, o6, hc6, ht6, hg6, hR6, -⟩ := calm_open hM.ok hc5 (f := 4) (by decide)
  have c6 := n_open hM hE6 (fun i hi => (hP i (by omega)).1) 4 (by decide)
  rw [ht5, recs_t4] at o6 ht6
  rw [o6] at c6
  have C6 := Lib.hid c6
  have HP := Lib.hid hP
  have HJ := Lib.hid hJ
  clear c6 k6 C5 K5 hP hJ hM o6
  go_wp2_with fail
  refine C6.out.mono ?_
  rintro e w7 ⟨kb, rfl, h7, k7⟩
  have hE7 := env_kept hE6 k7 (fun i hi hn => hn (HP.out i (by omega)).1)
  have hJ7 := HJ.out.kept k7 HJ.out.notS (fun _ h => h)
  have K7 := Lib.hid (K6.out.trans (k7.mono (T := fun i => ¬ i < w.heap.size) (fun i hi => Or.inl (fun h => hi (HP.out i h).1))))
  have a1 := Lib.hid (sane_sum0 w7)
  have a2 := Lib.hid (sane_sum1 w7)
  have a3 := Lib.hid (sane_sum2 w7)
  have a4 := Lib.hid (show Calls Tryz.prog 37 #[.pointer (some ⟨jb, 0, none⟩)] w7 fun r w' => r = .returned (.int .i64 2) ∧ w7 = w' from jlen_calls hJ7)
  have a5 := Lib.hid (show Calls Tryz.prog 38 #[.pointer (some ⟨jb, 0, none⟩), .int .i64 0] w7 fun r w' => r = .returned (.string { data := #[97, 98] }) ∧ w7 = w' from jget_calls hJ7 0)
  have a6 := Lib.hid (n_all h7)
  have a7 := Lib.hid (fun (v u : Value) (W : World) (hv : IsTexts v [[97, 98]] W) (hu : IsTexts u [[97, 98]] W) => tsame_eq v u [[97, 98]] W hv hu (by decide))
  have a8 := Lib.hid (size_eq (d := d6) (f := 4) (by decide))
  go_wp2_with fail
  refine a1.out.mono ?_
  rintro e w8 ⟨rfl, rfl⟩
  go_wp2_with fail
  refine a2.out.mono ?_
  rintro e w8 ⟨rfl, rfl⟩
  go_wp2_with fail
  refine a3.out.mono ?_
  rintro e w8 ⟨rfl, rfl⟩
  go_wp2_with fail
  refine a4.out.mono ?_
  rintro e w8 ⟨rfl, rfl⟩
  go_wp2_with fail
  refine a5.out.mono ?_
  rintro e w8 ⟨rfl, rfl⟩
  go_wp2_with fail
  refine a6.out.mono ?_
  rintro e w8 ⟨v, rfl, hv, hb8⟩
  have hv9 := row_texts hv
  have k8 := kept_below hb8 rfl
  have hM9 := h7.mine.kept (k8.alloc (.cells #[.string { data := #[97, 98] }] 9)) (fun _ h => h.elim)
  have ht9 := lit_texts w8 [97, 98]
  have hu9 := (texts_alloc hv9 (.cells #[.string { data := #[97, 98] }] 9))
  have C8 := Lib.hid (a7.out _ _ _ hu9 ht9)
  have K8 := Lib.hid (K7.out.trans ((k8.alloc (.cells #[.string { data := #[97, 98] }] 9)).mono (T := fun i => ¬ i < w.heap.size) (fun _ h => h.elim)))
  clear hv hv9 hb8 k8 ht9 hu9 a7 K7 a6
  go_wp2_with fail
  refine C8.out.mono ?_
  rintro e w9 ⟨rfl, n, rfl⟩
  have hM10 : Mine S _ b d6 := hM9.kept ((Kept.refl (fun _ => False) _).drewN n) (fun _ h => h.elim)
  have c9 := m_size hM10 4
  rw [show d6.size 4 = 9 from (a8.out).trans (by rw [ht6]; decide +kernel)] at c9
  have C9 := Lib.hid c9
  have K9 := Lib.hid (K8.out.drewN n)
  clear c9 K8 hM9 hM10
  go_wp2_with fail
  refine C9.out.mono ?_
  rintro e w10 ⟨rfl, rfl⟩
  go_wp2
  go_ret
  exact ⟨rfl, K9.out.below (Nat.le_refl _) (fun k hk => Nat.not_lt.1 hk)⟩

end Go.Proofs.YtanecondopbfhaaGreatDoor
