/- write, Write. -/
import Derived.Test.YtanecondopbfhaaGreatDoorTrunc2
namespace Go.Proofs.YtanecondopbfhaaGreatDoor
open Go.RowKit

variable {w w' : World} {b : Nat} {L : Loc} {d : Dk}

theorem pend_snoc (f : Nat) : ∀ (m n : Nat) (q : List (Nat × Nat)), pend f n (m + 1) q = if (f, n + m) ∈ pend f n m q then pend f n m q else pend f n m q ++ [(f, n + m)]
  | 0, n, q => rfl
  | m + 1, n, q => by
    rw [pend, pend_snoc f m (n + 1), pend, show n + 1 + m = n + (m + 1) by omega]

/-- The disk when the bytes are put, and k sectors of them are pending. -/
def Dk.pre (d : Dk) (f a : Nat) (s : List UInt8) (k : Nat) : Dk := { d with F := d.F.put f a s, q := pend f (a / 64) k d.q }

structure WrS (w : World) (b : Nat) (L : Loc) (d : Dk) (f a : Nat) (s : List UInt8) (k rank : Nat) (rk : Nat × Nat → Nat) (W : World) : Prop where
  cells : isCells W b 77 55 (dcell { L with rank := rank, rk := rk } (d.pre f a s k))
  rnk : RankAt W (L.pm f) 262144 (fun n => if (f, n) ∈ pend f (a / 64) k d.q then some (rk (f, n)) else none)
  old : ∀ x ∈ d.q, rk x = L.rk x
  inc : (pend f (a / 64) k d.q).Pairwise (fun x y => rk x < rk y)
  top : ∀ x ∈ pend f (a / 64) k d.q, rk x < rank
  rb : rank ≤ L.rank + k
  kept : Kept (fun i => i = b ∨ i = L.pm f) w W

set_option maxHeartbeats 1000000 in
set_option maxRecDepth 100000 in
theorem write_calls (h : IsD w b L d) (f : Nat) (hf : f < 16) (a : Int) (s : List UInt8) (hs : s.length ≤ 1099511627776) (ha : -9223372036854775808 ≤ a ∧ a ≤ 9223372036854775807) (hR : d.R + s.length + 2 ≤ 549755813888) :
    Calls Tryz.prog 65 #[.pointer (some ⟨b, 0, none⟩), .int .i64 f, .int .i64 a, .string (bs s)] w fun r w' => r = .returned (.int .i64 (d.put f a s).2) ∧ Post w b L (d.put f a s).1 w' := by
  have b1 : (0 : Int) ≤ (f : Int) := by omega
  have b2 : (f : Int) < 16 := by omega
  have hlen := bs_size s
  rw [Dk.put]
  by_cases h0 : a < 0
  · rw [if_pos h0]
    have H := Lib.hid h
    clear h
    go_enter Tryz.func65, Tryz.ntmps65
    go_wp2_with fail
    go_ret
    exact ⟨rfl, Post.same H.out (Kept.refl _ _)⟩
  · rw [if_neg h0]
    have w1 : IntKind.i64.wrap (16777216 - (s.length : Int)) = 16777216 - (s.length : Int) := IntWalk.i64_in _ (by omega)
    by_cases h1 : a > 16777216 - (s.length : Int)
    · rw [if_pos h1]
      have h1' : 16777216 - (s.length : Int) < a := h1
      have H := Lib.hid h
      clear h
      go_enter Tryz.func65, Tryz.ntmps65
      go_wp2_with fail
      go_ret
      exact ⟨rfl, Post.same H.out (Kept.refl _ _)⟩
    · rw [if_neg h1]
      have h1' : ¬ 16777216 - (s.length : Int) < a := h1
      clear h1
      by_cases hs0 : s = []
      · rw [if_pos hs0]
        subst hs0
        have tE : (bs []).toList.isEmpty = true := by rw [Lib.toList_data, bs_data]; rfl
        have H := Lib.hid h
        clear h
        go_enter Tryz.func65, Tryz.ntmps65
        go_wp2_with fail
        go_ret
        exact ⟨rfl, Post.same H.out (Kept.refl _ _)⟩
      · rw [if_neg hs0]
        have tE : (bs s).toList.isEmpty = false := by
          rw [Lib.toList_data, bs_data]
          cases s with
          | nil => exact absurd rfl hs0
          | cons => rfl
        have hsl : 0 < s.length := List.length_pos_iff.2 hs0
        obtain ⟨a, rfl⟩ : ∃ n : Nat, a = (n : Int) := ⟨a.toNat, by omega⟩
        rw [Int.toNat_natCast]
        have hal : a + s.length ≤ 16777216 := by omega
        have hcp := Lib.hid (put_calls b 0 55 L.mF 4194304 f a 77 (dcell L d) (d.F.sz f) d.F.B s w h.cells (by omega) rfl (by rw [show 0 + 1 + f = 1 + f by omega, dcell_F _ _ f hf]) h.secF hf hal (by omega))
        have hrb : L.rank ≤ 549755813888 := Nat.le_trans h.rR h.Rb
        have hrR := h.rR
        obtain ⟨q0, hq0⟩ : ∃ q0, q0 = a / 64 := ⟨_, rfl⟩
        have e64 : (a : Int) / 64 = (q0 : Int) := by omega
        have H := Lib.hid h
        have HS0 := Lib.hid hs0
        obtain ⟨T, hT⟩ : ∃ T, T = touch a s.length := ⟨_, rfl⟩
        have hT1 : T ≤ s.length + 2 := by rw [hT, touch]; omega
        have hT2 : ∀ k, k < T ↔ (q0 + k) * 64 < a + s.length := by intro k; rw [hT, touch]; omega
        have hTq : q0 + T ≤ 262144 := by rw [hT, touch]; omega
        have HT := Lib.hid hT
        have HT2 := Lib.hid hT2
        have hq1 : q0 * 64 ≤ a := by omega
        have HQ0 := Lib.hid hq0
        clear h h0 hs0 hT hT2 hq0
        go_enter Tryz.func65, Tryz.ntmps65
        go_wp2_with fail
        refine Calls.mono hcp.out ?_
        rintro r w1 ⟨rfl, hc1, hF1, hk1⟩
        have HF1 := Lib.hid hF1
        have HK1 := Lib.hid hk1
        have HS : Hid (WrS w1 b L d f a s 0 L.rank L.rk w1) := by
          refine ⟨hc1.eq (fun i hi => ?_), ((H.out.rnk f hf).kept hk1 (by rintro (e | e); exact rank_ne H.out f hf e; exact H.out.pF f hf e)), fun x _ => rfl, H.out.inc, H.out.top, Nat.le_refl _, Kept.refl _ _⟩
          unfold upd
          by_cases h1 : i = 0 + 1 + f
          · rw [if_pos h1, h1, show 0 + 1 + f = 1 + f by omega, dcell_F _ _ f hf]
            show Value.int .i64 ((if f = f then _ else _ : Nat) : Int) = _
            rw [if_pos rfl]
          · rw [if_neg h1]
            unfold dcell
            have e1 : ∀ g, g ≠ f → (d.pre f a s 0).F.sz g = d.F.sz g := fun g hg => if_neg hg
            by_cases c0 : i = 0
            · rw [if_pos c0, if_pos c0]
            · rw [if_neg c0, if_neg c0]
              by_cases c1 : i < 17
              · rw [if_pos c1, if_pos c1, e1 _ (by omega)]
              · rw [if_neg c1, if_neg c1]
                rfl
        clear hc1 hF1 hk1 hcp tE
        go_wp2_with fail
        go_loopw [9] (fun v wr => ∃ (k rank : Nat) (rk : Nat × Nat → Nat), k ≤ T ∧ v = .int .i64 (q0 + k : Nat) ∧ WrS w1 b L d f a s k rank rk wr) (fun v _ => 16777217 - (intOf v).toNat)
        case atStart => exact ⟨0, _, _, Nat.zero_le _, rfl, HS.out⟩
        case round =>
          obtain ⟨k, rank, rk, hk, rfl, hw⟩ := hrel
          obtain ⟨n, hn⟩ : ∃ n, n = q0 + k := ⟨_, rfl⟩
          rw [← hn]
          have HN := Lib.hid hn
          have hnb : n ≤ 262144 := by omega
          have m1 : IntKind.i64.wrap ((n : Int) * 64) = (n : Int) * 64 := IntWalk.i64_in _ (by omega)
          have m2 : IntKind.i64.wrap ((a : Int) + (s.length : Int)) = (a : Int) + (s.length : Int) := IntWalk.i64_in _ (by omega)
          have HW := Lib.hid hw
          have a1 : wr.cell? ⟨b, 34 + f, none⟩ = some (.map (some (L.pm f))) := by rw [hw.cells.cell _ (by omega), dcell_P _ _ f hf]
          clear hw hn
          by_cases hlt : k < T
          · have d1 : ((n : Int) * 64 < (a : Int) + (s.length : Int)) := by have := (HT2.out k).1 hlt; rw [← HN.out] at this; omega
            obtain ⟨c, hlook⟩ := HW.out.rnk.look_ok n (by omega)
            have hsn := pend_snoc f k (a / 64) d.q
            rw [← HQ0.out, ← HN.out, HQ0.out] at hsn
            by_cases hin : (f, n) ∈ pend f (a / 64) k d.q
            · rw [if_pos hin] at hlook hsn
              have HSN := Lib.hid hsn
              clear hsn
              go_wp2_with fail
              go_roundw
              case rel =>
                refine ⟨k + 1, rank, rk, by omega, by rw [HN.out]; go_num, ?_⟩
                have hw := HW.out
                have e : d.pre f a s (k + 1) = d.pre f a s k := by unfold Dk.pre; rw [HSN.out]
                exact ⟨by rw [e]; exact hw.cells, by rw [HSN.out]; exact hw.rnk, hw.old, by rw [HSN.out]; exact hw.inc, by rw [HSN.out]; exact hw.top, by have := hw.rb; omega, hw.kept⟩
              case measure => simp [intOf]; omega
            · rw [if_neg hin] at hlook hsn
              have HSN := Lib.hid hsn
              have HIN := Lib.hid hin
              have hrk := HW.out.rb
              have a2 : wr.cell? ⟨b, 50, none⟩ = some (.int .i64 rank) := HW.out.cells.cell 50 (by omega)
              have a3 := HW.out.cells.frozen 50
              have hrd : RankAt wr.drew (L.pm f) 262144 (fun n => if (f, n) ∈ pend f (a / 64) k d.q then some (rk (f, n)) else none) := HW.out.rnk.same rfl
              obtain ⟨w2, hrun, hr2, ht2⟩ := hrd.store n rank (by omega) (by omega) (by decide)
              have hpb : L.pm f ≠ b := rank_ne H.out f hf
              have hk2 : Kept (fun i => i = L.pm f) wr w2 := ((Kept.refl _ wr).drew).trans (mapTurned_kept (w := wr.drew) ht2)
              have hc2 := HW.out.cells.kept hk2 (fun e => hpb e.symm)
              have HC2 := Lib.hid hc2
              have HK2 := Lib.hid hk2
              have HR2 := Lib.hid hr2
              have a4 : w2.cell? ⟨b, 50, none⟩ = some (.int .i64 rank) := hc2.cell 50 (by omega)
              have a5 : w2.frozen? ⟨b, 50, none⟩ = false := hc2.frozen 50
              have m3 : IntKind.i64.wrap ((rank : Int) + 1) = (rank : Int) + 1 := IntWalk.i64_in _ (by omega)
              clear hsn hin hrd hr2 ht2 hk2 hc2
              go_wp2_with fail
              go_still_tail 11, (by kernel_rfl)
              go_wp2_with fail
              go_roundw
              case rel =>
                refine ⟨k + 1, rank + 1, fun x => if x = (f, n) then rank else rk x, by omega, by rw [HN.out]; go_num, ?_⟩
                have hw := HW.out
                have hin : (f, n) ∉ pend f (a / 64) k d.q := HIN.out
                have hne : ∀ x ∈ pend f (a / 64) k d.q, x ≠ (f, n) := fun x hx e => hin (e ▸ hx)
                have hdq : ∀ x ∈ d.q, x ∈ pend f (a / 64) k d.q := fun x hx => (pend_mem f x k _ _).2 (Or.inl hx)
                refine ⟨?_, ?_, ?_, ?_, ?_, by have := hw.rb; omega, ?_⟩
                · refine (HC2.out.set 50 (.int .i64 ((rank + 1 : Nat) : Int))).eq (fun i _ => ?_)
                  unfold upd
                  by_cases e : i = 50
                  · subst e; rfl
                  · rw [if_neg e]
                    unfold dcell
                    simp only [e, if_false]
                    rfl
                · refine (HR2.out.same (Below.heap_setCell _ _ _ _ hpb)).shrink.eq (fun j => ?_)
                  rw [HSN.out]
                  by_cases e : j = n
                  · subst e
                    simp
                  · by_cases e2 : (f, j) ∈ pend f (a / 64) k d.q
                    · simp [e, e2]
                    · simp [e, e2]
                · intro x hx
                  show (if x = (f, n) then rank else rk x) = _
                  rw [if_neg (hne x (hdq x hx))]
                  exact hw.old x hx
                · rw [HSN.out, List.pairwise_append]
                  refine ⟨hw.inc.imp_of_mem (fun {x y} hx hy hxy => ?_), by simp, fun x hx y hy => ?_⟩
                  · rw [if_neg (hne x hx), if_neg (hne y hy)]; exact hxy
                  · rw [List.mem_singleton] at hy
                    rw [hy, if_neg (hne x hx), if_pos rfl]
                    exact hw.top x hx
                · intro x hx
                  rw [HSN.out, List.mem_append] at hx
                  rcases hx with hx | hx
                  · rw [if_neg (hne x hx)]; have := hw.top x hx; omega
                  · rw [List.mem_singleton] at hx
                    rw [if_pos hx]; omega
                · exact (hw.kept.trans (HK2.out.mono (fun i hi => Or.inl (Or.inr hi)))).setCell (p := ⟨b, 50, none⟩) (Or.inl (Or.inl rfl)) _
              case measure => simp [intOf]; omega
          · have d1 : ¬ ((n : Int) * 64 < (a : Int) + (s.length : Int)) := by have := mt (HT2.out k).2 hlt; rw [← HN.out] at this; omega
            obtain rfl : k = T := by omega
            go_wp2_with fail
            go_ret
            have hw := HW.out
            have h := H.out
            have hkk : Kept (fun i => i = b ∨ i = L.mF ∨ i = L.pm f) w wr := by
              refine (HK1.out.mono (fun i hi => Or.inl ?_)).trans (hw.kept.mono (fun i hi => Or.inl ?_))
              · rcases hi with e | e
                · exact Or.inl e
                · exact Or.inr (Or.inl e)
              · rcases hi with e | e
                · exact Or.inl e
                · exact Or.inr (Or.inr e)
            have hFb : L.mF ≠ b := map_ne_cells h.secF h.cells
            have hDb : L.mD ≠ b := map_ne_cells h.secD h.cells
            have hown : ∀ i, i = b ∨ i = L.mF ∨ i = L.pm f → Own b L i := by
              rintro i (e | e | e)
              · exact Or.inl e
              · exact Or.inr (Or.inl e)
              · exact Or.inr (Or.inr (Or.inr ⟨f, hf, e⟩))
            have hdq : ∀ g, g ≠ f → ∀ k, (g, k) ∈ pend f (a / 64) (touch a s.length) d.q ↔ (g, k) ∈ d.q := fun g hg k => by
              rw [pend_mem]
              constructor
              · rintro (h | ⟨e, _⟩)
                · exact h
                · exact absurd e hg
              · exact Or.inl
            have hT := HT.out
            subst hT
            refine ⟨rfl, { L with rank := rank, rk := rk }, ⟨hw.cells, ?_, ?_, ?_, ?_, ?_, h.FD, h.pF, h.pD, h.pp, hw.inc, hw.top, ?_, hR, h.lb, h.cb, h.kl, h.ok.add hf HS0.out hal⟩, hkk.mono (fun i hi => Or.inl (hown i hi)), fun i hi => Or.inl hi, fun i hi => Or.inl hi⟩
            · exact (HF1.out.kept hw.kept (by rintro (e | e); exact hFb e; exact h.pF f hf e.symm)).shrink
            · exact h.secD.kept hkk (by rintro (e | e | e); exact hDb e; exact h.FD e.symm; exact h.pD f hf e.symm)
            · intro g hg
              by_cases e : g = f
              · subst e; exact hw.rnk
              · refine ((h.rnk g hg).kept hkk (by rintro (e1 | e1 | e1); exact rank_ne h g hg e1; exact h.pF g hg e1; exact e (h.pp g f hg hf e1))).eq (fun k => ?_)
                show (if (g, k) ∈ pend f (a / 64) (touch a s.length) d.q then some (rk (g, k)) else none) = _
                by_cases h2 : (g, k) ∈ d.q
                · rw [if_pos ((hdq g e k).2 h2), if_pos h2, hw.old _ h2]
                · rw [if_neg (fun hh => h2 ((hdq g e k).1 hh)), if_neg h2]
            · exact h.kp.kept hkk (fun i hi hh => h.kb i hi (hown i hh))
            · exact h.kb
            · have h1 := hw.rb
              have h2 := h.rR
              show rank ≤ d.R + s.length + 2
              omega

end Go.Proofs.YtanecondopbfhaaGreatDoor
