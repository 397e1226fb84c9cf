/- The reference's journal: opening, appending, syncing. -/
import Derived.Test.YtanecondopbfhaaGreatDoorJref2
import Derived.Deep.AppendLies
import Derived.Deep.Upon
import Derived.StillTailTactics
namespace Go.Proofs.YtanecondopbfhaaGreatDoor
open Go.RowKit
open Cod (Env)

variable {P S : Nat → Prop} {w w' : World} {rb rj : Nat} {d : Dk} {j : Jr}

theorem row_cap {B : Nat} {W : World} {v : Value} {xs : List (List UInt8)} (h : TRow B W v xs) : ∀ a n c, v = .slice a n c → n ≤ c := by
  intro a n c e
  obtain ⟨hl, ⟨hv, h0⟩ | ⟨g, cap, cur, hv, hgB, hh, hc, _⟩⟩ := h
  · rw [hv] at e; simp only [Value.slice.injEq] at e; omega
  · rw [hv] at e; simp only [Value.slice.injEq] at e; omega

theorem src_nil (w : World) (T e : TypeId) (hT : Tryz.prog.underlying T = some (.slice e)) : Src Tryz.prog 1 T (.slice none 0 0) 0 [] w :=
  ⟨Or.inl ⟨e, hT⟩, fun w' => rfl, rfl, rfl, rfl, fun u hu => by simp at hu⟩

theorem run_texts {w : World} {B B2 : Nat} {v x : Value} {A L : List (List UInt8)} (hv : TRow B w v A) (hx : TRow B2 w x L) (hlen : A.length + L.length ≤ 1000000000) (hB : B ≤ w.heap.size) :
    ∃ v' w', (Builtin.append_ #[46, 46] 46 #[v, x]).run Tryz.prog w = .ok v' w' ∧ TRow B w' v' (A ++ L) ∧ w.grownBy w' v.ownBlock ∧ (v'.ownBlock = v.ownBlock ∨ v'.ownBlock = some w.heap.size) := by
  obtain ⟨i, hi, hz0, hz1, hz2⟩ := info_of info9
  obtain ⟨hxl, ⟨rfl, h0⟩ | ⟨g, cap, cur, rfl, hgB, hh, hc, hm, hs, ht⟩⟩ := id hx
  · have hL : L = [] := List.eq_nil_of_length_eq_zero h0
    subst hL
    have hcap := row_cap hv
    obtain ⟨a, c, rfl⟩ : ∃ a c, v = .slice a A.length c := by
      obtain ⟨_, ⟨rfl, h0⟩ | ⟨g, cap, cur, rfl, _⟩⟩ := id hv
      · exact ⟨none, 0, by rw [h0]⟩
      · exact ⟨_, _, rfl⟩
    have hs := src_nil w 46 9 (by kernel_rfl)
    rw [← hz1] at hs
    refine ⟨_, w, run_append_nothing (P := Tryz.prog) w _ _ _ 9 i (by kernel_rfl) hi a A.length c (hcap _ _ _ rfl) _ hs, by simpa using hv, ⟨rfl, rfl, rfl, Nat.le_refl _, fun _ _ _ => rfl⟩, Or.inl rfl⟩
  · have hcells := hx.cells (g := g) rfl
    obtain ⟨v', w', h1, h2, h3, _, h5⟩ := run_append_own_at (P := Tryz.prog) w B 46 46 9 i _ 1 16 (by kernel_rfl) hi hz0 hz1 hz2 rfl (by omega) v A.length _ hv ⟨g, 0, none⟩ L.length cap _ hxl hcells
      (fun u hu => by obtain ⟨y, _, rfl⟩ := List.mem_map.1 hu; rfl) (by unfold maxLen; omega) (by omega) hB
    refine ⟨v', w', h1, ?_, h3, h5⟩
    show w'.ownsRow B 9 1 v' (A ++ L).length ((A ++ L).map _)
    rw [List.length_append, List.map_append]
    exact h2

/-- At a list of operations, guarded or not. -/
theorem wpList_texts {ops : Array Oper} {rest : List Oper} {o : Oper} {a : Act} {Q : Exit → Act → World → Prop} {w : World} (hw : Region.wanted o (yielded ops a.tmps) = true) (s x : Operand)
    (ho : o.op = .call { callee := .builtin .append, args := #[s, x], argTypes := #[46, 46] }) (hot : o.type = 46)
    {B B2 : Nat} {v xv : Value} {A L : List (List UInt8)} (hs : a.eval s = v) (hx : a.eval x = xv) (hv : TRow B w v A) (hxr : TRow B2 w xv L) (hlen : A.length + L.length ≤ 1000000000) (hB : B ≤ w.heap.size)
    (h : ∀ v' w', TRow B w' v' (A ++ L) → w.grownBy w' v.ownBlock → (v'.ownBlock = v.ownBlock ∨ v'.ownBlock = some w.heap.size) → wpList Tryz.prog ops Q rest (a.put o.dst v') w') :
    wpList Tryz.prog ops Q (o :: rest) a w := by
  refine wpList_step fun K hK => ?_
  rw [if_pos hw]
  obtain ⟨v', w', hr, h2, h3, h4⟩ := run_texts hv hxr hlen hB
  unfold Oper.wp execOp
  simp only [ho, hot, resolve, invoke, builtin, Sem.run_bind, Sem.run_pure, Result.andThen_ok, List.map_toArray, List.map_cons, List.map_nil, hs, hx, hr]
  exact hK _ _ (h v' w' h2 h3 h4)

theorem row_of_one {w : World} {B H : Nat} {s : List UInt8} (hH : w.heap.size = H) (hB : B ≤ H) : TRow B (w.alloc (.cells #[.string (bs s)] 9)) (.slice (some ⟨H, 0, none⟩) 1 1) [s] := by
  subst hH
  exact ⟨rfl, .inr ⟨w.heap.size, 1, #[.string (bs s)], rfl, hB, heap_alloc_new w _, Nat.le_refl _, by unfold maxLen; omega, rfl, rfl⟩⟩

theorem row_of_none {w : World} {B H : Nat} (hH : w.heap.size = H) (hB : B ≤ H) : TRow B (w.alloc (.cells #[] 9)) (.slice (some ⟨H, 0, none⟩) 0 0) [] := by
  subst hH
  exact ⟨rfl, .inr ⟨w.heap.size, 0, #[], rfl, hB, heap_alloc_new w _, Nat.le_refl _, by unfold maxLen; omega, rfl, rfl⟩⟩

theorem row_alloc {w : World} {B : Nat} {v : Value} {L : List (List UInt8)} (h : TRow B w v L) (o : Obj) : TRow B (w.alloc o) v L :=
  row_keeps h (fun i _ hlt => Lib.alloc_old w o i hlt)

theorem own_some {i b n c : Nat} (h : some i = Value.ownBlock (.slice (some ⟨b, 0, none⟩) n c)) : i = b := Option.some.inj h

/-- The journal j of the reference at block rj, on a reference disk that is as d is; in no block of P. -/
def Rn (P : Nat → Prop) (w : World) (rb : Nat) (d : Dk) (rj : Nat) (j : Jr) : Prop :=
  ∃ (S : Nat → Prop) (rv : Value), (∀ i, P i → S i ∧ i ≠ rj ∧ some i ≠ rv.ownBlock) ∧ RM S w rb d ∧ S rj ∧ (∀ i, some i = rv.ownBlock → S i ∧ i ≠ rj) ∧
    w.heap[rj]? = some (.cells #[.pointer (some ⟨rb, 0, none⟩), .int .i64 (j.file : Int), rv, .bool j.broken] 49 (0, 0)) ∧ TRow 0 w rv j.L

theorem Rn.rm (h : Rn P w rb d rj j) : RM P w rb d := by
  obtain ⟨S, rv, hP, hM, _⟩ := h
  exact hM.weak (fun i hi => (hP i hi).1)

theorem Rn.weak {Q : Nat → Prop} (h : Rn P w rb d rj j) (hQ : ∀ i, Q i → P i) : Rn Q w rb d rj j := by
  obtain ⟨S, rv, hP, r⟩ := h
  exact ⟨S, rv, fun i hi => hP i (hQ i hi), r⟩

theorem Rn.bound (h : Rn P w rb d rj j) : ∀ i, P i → i < w.heap.size := fun i hi => h.rm.bound i hi

theorem Rn.grow {T : Nat → Prop} (h : Rn P w rb d rj j) (hk : Kept T w w') (hT : ∀ i, i < w.heap.size → T i → P i) : Rn (fun i => P i ∨ (w.heap.size ≤ i ∧ i < w'.heap.size)) w' rb d rj j := by
  obtain ⟨S, rv, hP, hM, hj, hrv, hat, hrow⟩ := h
  have hlt : rj < w.heap.size := (Array.getElem?_eq_some_iff.1 hat).1
  have hrl := row_lt hrow
  refine ⟨_, rv, fun i hi => ?_, hM.grow hk (fun i hl hi => (hP i (hT i hl hi)).1), Or.inl hj, fun i hi => ⟨Or.inl (hrv i hi).1, (hrv i hi).2⟩, (hk.block rj hlt (fun ht => (hP rj (hT rj hlt ht)).2.1 rfl)).trans hat, row_keeps hrow (fun i hi hl => hk.block i hl (fun ht => (hP i (hT i hl ht)).2.2 hi))⟩
  rcases hi with hi | hi
  · exact ⟨Or.inl (hP i hi).1, (hP i hi).2⟩
  · exact ⟨Or.inr hi, by omega, fun e => by have := (hrl i e).2; omega⟩

/-- A call of the reference's disk. -/
theorem Rn.disk (h : Rn P w rb d rj j) : ∃ S : Nat → Prop, (∀ i, P i → S i) ∧ RM S w rb d ∧ ∀ w' d', RM S w' rb d' → Kept (fun i => ¬ S i) w w' → Rn P w' rb d' rj j ∧ Kept (fun i => ¬ P i) w w' := by
  obtain ⟨S, rv, hP, hM, hj, hrv, hat, hrow⟩ := h
  have hlt : rj < w.heap.size := (Array.getElem?_eq_some_iff.1 hat).1
  exact ⟨S, fun i hi => (hP i hi).1, hM, fun w' d' hM' hk => ⟨⟨S, rv, hP, hM', hj, hrv, (hk.block rj hlt (fun hn => hn hj)).trans hat, row_keeps hrow (fun i hi hl => hk.block i hl (fun hn => hn (hrv i hi).1))⟩, hk.mono (fun i hi => Or.inl (fun hp => hi (hP i hp).1))⟩⟩

theorem at_set3 {o0 o1 o2 o3 v : Value} {T : TypeId} (h : w.heap[rj]? = some (.cells #[o0, o1, o2, o3] T (0, 0))) : (w.setCell ⟨rj, 3, none⟩ v).heap[rj]? = some (.cells #[o0, o1, o2, v] T (0, 0)) := by
  simp [World.setCell, Array.getElem?_modify, h]

theorem at_set2 {o0 o1 o2 o3 v : Value} {T : TypeId} (h : w.heap[rj]? = some (.cells #[o0, o1, o2, o3] T (0, 0))) : (w.setCell ⟨rj, 2, none⟩ v).heap[rj]? = some (.cells #[o0, o1, v, o3] T (0, 0)) := by
  simp [World.setCell, Array.getElem?_modify, h]

def RP (P : Nat → Prop) (w : World) (rb rj : Nat) (x : (Dk × Int) × Jr) (r : Ending) (w' : World) : Prop :=
  r = .returned (.int .i64 x.1.2) ∧ Rn P w' rb x.1.1 rj x.2 ∧ Kept (fun i => ¬ P i) w w'

set_option maxHeartbeats 1000000 in
set_option maxRecDepth 100000 in
theorem rn_sync (h : Rn P w rb d rj j) :
    Calls Tryz.prog 18 #[.pointer (some ⟨rj, 0, none⟩)] w (RP P w rb rj (d.jsync j)) := by
  have h0 := h
  obtain ⟨S, rv, hP, hM, hj, hrv, hat, hrow⟩ := h
  have c0 : w.cell? ⟨rj, 0, none⟩ = some (.pointer (some ⟨rb, 0, none⟩)) := by rw [Lib.cell_of_heap hat]; rfl
  have c1 : w.cell? ⟨rj, 1, none⟩ = some (.int .i64 (j.file : Int)) := by rw [Lib.cell_of_heap hat]; rfl
  have c3 : w.cell? ⟨rj, 3, none⟩ = some (.bool j.broken) := by rw [Lib.cell_of_heap hat]; rfl
  unfold Dk.jsync
  by_cases hb : j.broken = true
  · rw [if_pos hb]
    rw [hb] at c3
    have H0 := Lib.hid h0
    clear h0 hP hM hj hrv hat hrow hb c0 c1
    go_enter Tryz.func18, Tryz.ntmps18
    go_wp2_with fail
    go_ret
    exact ⟨rfl, H0.out, Kept.refl _ _⟩
  · rw [if_neg hb]
    have hb2 : j.broken = false := by simpa using hb
    rw [hb2] at c3
    clear hb h0
    have HC := Lib.hid (fun W (hM : RM S W rb d) => rm_sync hM (j.file : Int))
    have HM := Lib.hid hM
    have HP := Lib.hid hP
    have HRV := Lib.hid hrv
    have HAT := Lib.hid hat
    have HROW := Lib.hid hrow
    have HJ := Lib.hid hj
    clear hM hP hrv hat hrow hj
    go_enter Tryz.func18, Tryz.ntmps18
    go_wp2_with fail
    go_still_tail 8, (by kernel_rfl)
    change wpList _ _ _ _ _ w.drew
    have hkd : Kept (fun _ => False) w w.drew := (Kept.refl (fun _ => False) w).drew
    have hMd : RM S w.drew rb d := HM.out.kept hkd (fun _ _ h => h.elim)
    have hzd : w.drew.heap.size = w.heap.size := rfl
    have HKD := Lib.hid hkd
    have HMD := Lib.hid hMd
    clear c0 c1 c3 hkd hMd HM
    generalize w.drew = V at *
    go_wp2_with fail
    refine (HC.out V HMD.out).mono ?_
    rintro r w1 ⟨rfl, hM1, hK1⟩
    have hlt : rj < w.heap.size := (Array.getElem?_eq_some_iff.1 HAT.out).1
    have hat1 := (hK1.block rj (by omega) (fun hn => hn HJ.out)).trans ((HKD.out.block rj hlt (fun h => h)).trans HAT.out)
    have k3 : w1.cell? ⟨rj, 3, none⟩ = some (.bool j.broken) := by rw [Lib.cell_of_heap hat1]; rfl
    have f3 : w1.frozen? ⟨rj, 3, none⟩ = false := Lib.frozen_of_heap hat1 3
    obtain ⟨d1, e1, h1⟩ : ∃ d1 e1, d.sync j.file = (d1, e1) := ⟨_, _, rfl⟩
    have H1 := Lib.hid h1
    rw [h1] at hM1 ⊢
    simp only at hM1 ⊢
    have hks : Kept (fun i => i = rj) w1 (w1.setCell ⟨rj, 3, none⟩ (.bool (e1 != 0))) := (Kept.refl (fun i => i = rj) w1).setCell (p := ⟨rj, 3, none⟩) (Or.inl rfl) _
    have HF : Hid (RP P w rb rj ((d1, e1), ⟨j.file, j.L, e1 != 0⟩) (.returned (.int .i64 e1)) (w1.setCell ⟨rj, 3, none⟩ (.bool (e1 != 0)))) := by
      refine ⟨rfl, ⟨S, rv, HP.out, hM1.kept hks (fun i _ hi => hi ▸ HJ.out), HJ.out, HRV.out, at_set3 hat1, ?_⟩, ?_⟩
      · refine row_keeps (row_keeps (row_keeps HROW.out (fun i hi hl => HKD.out.block i hl (fun h => h))) (fun i hi hl => hK1.block i hl (fun hn => hn (HRV.out i hi).1))) (fun i hi hl => hks.block i hl (fun hn => (HRV.out i hi).2 hn))
      · exact ((HKD.out.mono (fun _ h => h.elim)).trans (hK1.mono (fun i hi => Or.inl (fun hp => hi (HP.out i hp).1)))).trans (hks.mono (fun i hi => Or.inl (fun hp => (HP.out i hp).2.1 hi)))
    clear hks hM1 hK1 hat1 h1 HC HMD HKD HP HRV HAT HROW
    go_wp2_with fail
    go_ret
    rw [H1.out]
    exact HF.out

theorem kept_none' {w8 w1 w2 : World} {v : Value} (h : Kept (fun _ => False) w8 w1) (hg : w1.grownBy w2 v.ownBlock) (hv : ∀ i, some i = v.ownBlock → w8.heap.size ≤ i) : Kept (fun _ => False) w8 w2 :=
  h.andThen (T := fun i => some i = v.ownBlock) ⟨hg.os, hg.tape, hg.output, hg.size, fun k hk hn => hg.block k hk hn⟩ (fun i hi => Or.inr (hv i hi))

set_option maxHeartbeats 2000000 in
set_option maxRecDepth 100000 in
theorem rn_append (h : Rn P w rb d rj j) (s : List UInt8) (hs : s.length ≤ 16777216) (hsm : ∀ u ∈ j.L, u.length ≤ 16777216) (hln : (forms j.L).length ≤ 16777216) :
    Calls Tryz.prog 16 #[.pointer (some ⟨rj, 0, none⟩), .string (bs s)] w (RP P w rb rj (d.jappend j s)) := by
  have h0 := h
  obtain ⟨S, rv, hP, hM, hj, hrv, hat, hrow⟩ := h
  obtain ⟨X, hX⟩ : ∃ X, X = d.jappend j s := ⟨_, rfl⟩
  rw [← hX]
  unfold Dk.jappend at hX
  have c0 : w.cell? ⟨rj, 0, none⟩ = some (.pointer (some ⟨rb, 0, none⟩)) := by rw [Lib.cell_of_heap hat]; rfl
  have c1 : w.cell? ⟨rj, 1, none⟩ = some (.int .i64 (j.file : Int)) := by rw [Lib.cell_of_heap hat]; rfl
  have c2 : w.cell? ⟨rj, 2, none⟩ = some rv := by rw [Lib.cell_of_heap hat]; rfl
  have c3 : w.cell? ⟨rj, 3, none⟩ = some (.bool j.broken) := by rw [Lib.cell_of_heap hat]; rfl
  have hlt : rj < w.heap.size := (Array.getElem?_eq_some_iff.1 hat).1
  have hflen := forms_len j.L
  obtain ⟨rva, rvn, rvc, hre⟩ := row_slice hrow
  subst hre
  by_cases hb : j.broken = true
  · rw [if_pos hb] at hX
    rw [hb] at c3
    have HX := Lib.hid hX
    have H0 := Lib.hid h0
    clear h0 hX hP hM hj hrv hat hrow hb c0 c1 c2
    go_enter Tryz.func16, Tryz.ntmps16
    go_wp2_with fail
    go_ret
    rw [HX.out]
    exact ⟨rfl, H0.out, Kept.refl _ _⟩
  · have hb2 : j.broken = false := by simpa using hb
    rw [if_neg hb] at hX
    rw [hb2] at c3
    clear hb
    by_cases hl : 20000 < s.length
    · rw [if_pos hl] at hX
      have hl2 : 20000 < (bs s).size := by rw [bs_size]; exact hl
      have HX := Lib.hid hX
      have H0 := Lib.hid h0
      clear h0 hX hP hM hj hrv hat hrow c0 c1 c2 hl hb2
      go_enter Tryz.func16, Tryz.ntmps16
      go_wp2_with fail
      go_ret
      rw [HX.out]
      exact ⟨rfl, H0.out, Kept.refl _ _⟩
    · rw [if_neg hl] at hX
      have hl2 : ¬ 20000 < (bs s).size := by rw [bs_size]; exact hl
      have hfl := form_len s (by omega)
      have hzl : (bs (formL s)).size ≤ 20043 := by rw [bs_size]; omega
      have hzf : (bs (forms j.L)).size ≤ 16777216 := by rw [bs_size]; exact hln
      have HZ1 := Lib.hid (bs_size (formL s))
      have HZ2 := Lib.hid (bs_size (forms j.L))
      have HF := Lib.hid (rforms_calls _ j.L w (row_texts hrow) hsm hln)
      have HM := Lib.hid hM
      have HP := Lib.hid hP
      have HRV := Lib.hid hrv
      have HAT := Lib.hid hat
      have HROW := Lib.hid hrow
      have HJ := Lib.hid hj
      have HB2 := Lib.hid hb2
      have H0 := Lib.hid h0
      have HX0 := Lib.hid hX
      clear h0 hl hM hP hrv hat hrow hj hb2 hX
      go_enter Tryz.func16, Tryz.ntmps16
      go_wp2_with fail
      refine HF.out.mono ?_
      rintro r w1 ⟨rfl, hb1⟩
      have HK1 := Lib.hid (kept_below hb1 rfl)
      clear HF hb1
      go_wp2_with fail
      refine (rform_calls s hs w1).mono ?_
      rintro r w2 ⟨rfl, hb2⟩
      have HK2 := Lib.hid (HK1.out.trans (kept_below hb2 rfl))
      clear HK1 hb2
      by_cases hf : 1048576 < (forms j.L).length + (formL s).length
      · have hX := HX0.out
        rw [if_pos hf] at hX
        have hf2 : 1048576 < (bs (forms j.L)).size + (bs (formL s)).size := by rw [bs_size, bs_size]; exact hf
        have hf3 : (1048576 : Int) < ((bs (forms j.L)).size : Int) + ((bs (formL s)).size : Int) := by omega
        have HX := Lib.hid hX
        clear hX hf HX0
        go_wp2_with fail
        go_ret
        rw [HX.out]
        exact ⟨rfl, (H0.out.grow HK2.out (fun _ _ h => h.elim)).weak (fun i hi => Or.inl hi), HK2.out.mono (fun _ h => h.elim)⟩
      · have hX := HX0.out
        rw [if_neg hf] at hX
        have hf2 : ¬ 1048576 < (bs (forms j.L)).size + (bs (formL s)).size := by rw [bs_size, bs_size]; exact hf
        have hf3 : ((bs (forms j.L)).size : Int) + ((bs (formL s)).size : Int) ≤ (1048576 : Int) := by omega
        have k0 : w2.cell? ⟨rj, 0, none⟩ = some (.pointer (some ⟨rb, 0, none⟩)) := (World.cell?_of_block (HK2.out.block rj hlt (fun h => h))).trans c0
        have k1 : w2.cell? ⟨rj, 1, none⟩ = some (.int .i64 (j.file : Int)) := (World.cell?_of_block (HK2.out.block rj hlt (fun h => h))).trans c1
        have hM2 : RM S w2 rb d := HM.out.kept HK2.out (fun _ _ h => h.elim)
        have HM2 := Lib.hid hM2
        have hlt2 : rj < w2.heap.size := Nat.lt_of_lt_of_le hlt HK2.out.size
        have HC := Lib.hid (fun W (hM : RM S W rb d) => rm_write hM (j.file : Int) ((forms j.L).length : Int) (formL s) (by omega))
        obtain ⟨d1, e1, h1⟩ : ∃ d1 e1, d.write j.file ((forms j.L).length : Nat) (formL s) = (d1, e1) := ⟨_, _, rfl⟩
        rw [h1] at hX
        simp only at hX
        rw [h1] at HC
        simp only at HC
        rw [← bs_size (forms j.L)] at HC
        have HX := Lib.hid hX
        clear hX h1 hf HX0 hM2 c0 c1 c2 c3 hflen hln
        go_wp2_with fail
        go_region_held3 (fun w' => w'.cell? ⟨rj, 0, none⟩ = some (.pointer (some ⟨rb, 0, none⟩)) ∧ w'.cell? ⟨rj, 1, none⟩ = some (.int .i64 (j.file : Int)))
          (first | exact ⟨((World.cell?_of_block (hk4.block rj hlt3 (fun h => h HJ.out))).trans (World.cell?_of_block (hk3.block rj hlt2 (fun h => h)))).trans k0, ((World.cell?_of_block (hk4.block rj hlt3 (fun h => h HJ.out))).trans (World.cell?_of_block (hk3.block rj hlt2 (fun h => h)))).trans k1⟩ | exact ⟨(World.cell?_of_block (hk3.block rj hlt2 (fun h => h))).trans k0, (World.cell?_of_block (hk3.block rj hlt2 (fun h => h))).trans k1⟩ | go_keep)
          (first
            | (go_at_call 54
               have hk3' := hk3
               refine (HC.out _ (HM2.out.kept (T := fun _ => False) (by first | exact hk3 | exact hk3.drew) (fun _ _ h => h.elim))).mono ?_
               rintro e w4 ⟨rfl, hM4, hk4⟩)
            | (go_at_call 53
               refine (rform_calls s hs _).mono ?_
               rintro e w3 ⟨rfl, hb3⟩
               have hk3 : Kept (fun _ => False) w2 w3 := by first | exact kept_below hb3 rfl | exact ((Kept.refl (fun _ => False) w2).drew).trans (kept_below hb3 rfl)
               have hlt3 : rj < w3.heap.size := Nat.lt_of_lt_of_le hlt2 hk3.size))
        have hltw3 := hk4.size
        have hLlen : j.L.length ≤ 1048576 := by have := forms_len j.L; have := HZ2.out; omega
        have hat4 : w4.heap[rj]? = _ := (hk4.block rj hlt3 (fun hn => hn HJ.out)).trans ((hk3.block rj hlt2 (fun h => h)).trans ((HK2.out.block rj hlt (fun h => h)).trans HAT.out))
        have hrow4 : TRow 0 w4 (.slice rva rvn rvc) j.L := row_keeps (row_keeps (row_keeps HROW.out (fun i hi hl => HK2.out.block i hl (fun h => h))) (fun i hi hl => hk3.block i hl (fun h => h))) (fun i hi hl => hk4.block i hl (fun hn => hn (HRV.out i hi).1))
        have hlt4 : rj < w4.heap.size := Nat.lt_of_lt_of_le hlt3 hk4.size
        have HKT : Hid (Kept (fun i => ¬ P i) w w4) := ((HK2.out.mono (fun _ h => h.elim)).trans (hk3.mono (fun _ h => h.elim))).trans (hk4.mono (fun i hi => Or.inl (fun hp => hi (HP.out i hp).1)))
        have HAT4 := Lib.hid hat4
        have HROW4 := Lib.hid hrow4
        have HM4 := Lib.hid hM4
        clear hk3 hb3 hk4 hM4 hat4 hrow4 HK2 HM2 HC
        by_cases he : e1 = 0
        · subst he
          have hX := HX.out
          rw [if_neg (by simp)] at hX
          have HX2 := Lib.hid hX
          have k2 : w4.cell? ⟨rj, 2, none⟩ = some (.slice rva rvn rvc) := by rw [Lib.cell_of_heap HAT4.out]; rfl
          clear hX HX
          go_wp2_with (first
            | (have hr3' := hr3
               refine wpList_texts (by kernel_rfl) _ _ (by rfl) (by rfl) (B := w4.heap.size) (B2 := w4.heap.size) (A := [] ++ j.L) (L := [s]) (by rfl) (by rfl) (row_alloc hr3 _) (row_of_one (by rfl) (by have := hk5.size; omega)) (by simp; omega) (by have := hk5.size; simp; omega) ?_
               intro v4 w6 hr4 hg4 ho4
               have hk6 : Kept (fun _ => False) w4 w6 := kept_none' (hk5.alloc _) hg4 (fun i hi => (row_lt hr3 i hi).1)
               have hat6 := (hk6.block rj hlt4 (fun h => h)).trans HAT4.out
               have k6 : w6.cell? ⟨rj, 2, none⟩ = some (.slice rva rvn rvc) := by rw [Lib.cell_of_heap hat6]; rfl
               have f6 : w6.frozen? ⟨rj, 2, none⟩ = false := Lib.frozen_of_heap hat6 2
               obtain ⟨va4, vn4, vc4, hv4⟩ := row_slice hr4
               subst hv4)
            | (refine wpList_texts (by kernel_rfl) _ _ (by rfl) (by rfl) (B := w4.heap.size) (B2 := 0) (A := []) (L := j.L) (by rfl) (by rfl) (row_of_none (by rfl) (Nat.le_refl _)) (row_alloc HROW4.out _) (by simp; omega) (by simp) ?_
               intro v3 w5 hr3 hg3 ho3
               have hk5 : Kept (fun _ => False) w4 w5 := kept_none' ((Kept.refl _ w4).alloc _) hg3 (fun i hi => by have := own_some hi; omega)))
          go_ret
          rw [HX2.out]
          have hz6 := hk6.size
          have hM6 := HM4.out.grow hk6 (fun _ _ h => h.elim)
          have hks : Kept (fun i => i = rj) w6 (w6.setCell ⟨rj, 2, none⟩ (.slice va4 vn4 vc4)) := (Kept.refl (fun i => i = rj) w6).setCell (p := ⟨rj, 2, none⟩) (Or.inl rfl) _
          have hzs : (w6.setCell ⟨rj, 2, none⟩ (.slice va4 vn4 vc4)).heap.size = w6.heap.size := by simp [World.setCell]
          have hrl := row_lt hr4
          have hPb := H0.out.bound
          have hsz := HKT.out.size
          have hat6 := (hk6.block rj hlt4 (fun h => h)).trans HAT4.out
          rw [HB2.out] at hat6
          refine ⟨rfl, ⟨_, .slice va4 vn4 vc4, fun i hi => ⟨Or.inl (HP.out i hi).1, (HP.out i hi).2.1, fun e => by have h1 := (hrl i e).1; have h2 := hPb i hi; omega⟩, hM6.kept hks (fun i _ hi => Or.inl (hi ▸ HJ.out)), Or.inl HJ.out, fun i hi => ⟨Or.inr (hrl i hi), fun e => by have h1 := (hrl i hi).1; omega⟩, at_set2 hat6, ?_⟩, ?_⟩
          · have h4 : TRow 0 w6 (.slice va4 vn4 vc4) (j.L ++ [s]) := row_weak hr4 (Nat.zero_le _)
            exact row_keeps h4 (fun i hi hl => hks.block i hl (fun e => by have h1 := (hrl i hi).1; omega))
          · exact (HKT.out.trans (hk6.mono (fun _ h => h.elim))).trans (hks.mono (fun i hi => Or.inl (fun hp => (HP.out i hp).2.1 hi)))
        · have hX := HX.out
          rw [if_pos he] at hX
          have HX2 := Lib.hid hX
          have k3 : w4.cell? ⟨rj, 3, none⟩ = some (.bool j.broken) := by rw [Lib.cell_of_heap HAT4.out]; rfl
          have f3 : w4.frozen? ⟨rj, 3, none⟩ = false := Lib.frozen_of_heap HAT4.out 3
          have hks : Kept (fun i => i = rj) w4 (w4.setCell ⟨rj, 3, none⟩ (.bool true)) := (Kept.refl (fun i => i = rj) w4).setCell (p := ⟨rj, 3, none⟩) (Or.inl rfl) _
          have HF : Hid (RP P w rb rj ((d1, e1), ⟨j.file, j.L, true⟩) (.returned (.int .i64 e1)) (w4.setCell ⟨rj, 3, none⟩ (.bool true))) := by
            refine ⟨rfl, ⟨S, _, HP.out, HM4.out.kept hks (fun i _ hi => hi ▸ HJ.out), HJ.out, HRV.out, at_set3 HAT4.out, ?_⟩, ?_⟩
            · exact row_keeps HROW4.out (fun i hi hl => hks.block i hl (fun hn => (HRV.out i hi).2 hn))
            · exact HKT.out.trans (hks.mono (fun i hi => Or.inl (fun hp => (HP.out i hp).2.1 hi)))
          have hbe : (e1 != 0) = true := by simpa using he
          clear hX HX he hks
          go_wp2_with fail
          go_ret
          rw [HX2.out]
          exact HF.out

end Go.Proofs.YtanecondopbfhaaGreatDoor
