/- truncate, Truncate. -/
import Derived.Test.YtanecondopbfhaaGreatDoorFin
namespace Go.Proofs.YtanecondopbfhaaGreatDoor
open Go.RowKit

variable {w w' : World} {b : Nat} {L : Loc} {d : Dk}

theorem IsD.trim {w1 w2 w3 : World} {f n : Nat} {N1 N2 : Nat} (hk0 : d.Ok) (h : IsD w1 b L (d.settle f)) (hf : f < 16) (hn : n ≤ d.F.sz f)
    (hc3 : isCells w3 b 77 55 (upd (upd (dcell L (d.settle f)) (0 + 1 + f) (.int .i64 n)) (17 + 1 + f) (.int .i64 n)))
    (hF : SecAt w2 L.mF N1 (fun g p => if g = f ∧ n ≤ p then 0 else (d.settle f).F.B g p)) (hD : SecAt w3 L.mD N2 (fun g p => if g = f ∧ n ≤ p then 0 else (d.settle f).D.B g p))
    (hk2 : Kept (fun k => k = b ∨ k = L.mF) w1 w2) (hk3 : Kept (fun k => k = b ∨ k = L.mD) w2 w3) : IsD w3 b L (d.trim f n) ∧ Kept (Own b L) w1 w3 := by
  have hkk : Kept (fun k => k = b ∨ k = L.mF ∨ k = L.mD) w1 w3 := by
    refine (hk2.mono (fun i hi => Or.inl ?_)).trans (hk3.mono (fun i hi => Or.inl ?_))
    · rcases hi with e | e
      · exact Or.inl e
      · exact Or.inr (Or.inl e)
    · rcases hi with e | e
      · exact Or.inl e
      · exact Or.inr (Or.inr e)
  have hFb : L.mF ≠ b := map_ne_cells h.secF h.cells
  refine ⟨{
    cells := hc3.eq (fun i hi => ?_)
    secF := ((hF.kept hk3 (by rintro (e | e); exact hFb e; exact h.FD e)).shrink).eq (fun g p _ => rfl)
    secD := hD.shrink.eq (fun g p _ => rfl)
    rnk := fun g hg => (h.rnk g hg).kept hkk (by rintro (e | e | e); exact rank_ne h g hg e; exact h.pF g hg e; exact h.pD g hg e)
    kp := h.kp.kept hkk (fun i hi e => h.kb i hi (by rcases e with e | e | e; exact Or.inl e; exact Or.inr (Or.inl e); exact Or.inr (Or.inr (Or.inl e))))
    kb := h.kb
    FD := h.FD
    pF := h.pF
    pD := h.pD
    pp := h.pp
    inc := h.inc
    top := h.top
    rR := h.rR
    Rb := h.Rb
    lb := h.lb
    cb := h.cb
    kl := h.kl
    ok := hk0.trim hn }, hkk.mono (fun i hi => Or.inl (by rcases hi with e | e | e; exact Or.inl e; exact Or.inr (Or.inl e); exact Or.inr (Or.inr (Or.inl e))))⟩
  by_cases h1 : i = 17 + 1 + f
  · rw [h1, show 17 + 1 + f = 18 + f by omega, dcell_D _ _ f hf]
    simp [upd, Dk.trim, Img.cut]
  · by_cases h2 : i = 0 + 1 + f
    · rw [h2, show 0 + 1 + f = 1 + f by omega, dcell_F _ _ f hf]
      simp [upd, Dk.trim, Img.cut]
    · unfold upd
      rw [if_neg h1, if_neg h2]
      unfold dcell
      have e1 : ∀ g, g ≠ f → (d.trim f n).F.sz g = (d.settle f).F.sz g := fun g hg => by
        show (if g = f then n else d.F.sz g) = d.F.sz g
        rw [if_neg hg]
      have e2 : ∀ g, g ≠ f → (d.trim f n).D.sz g = (d.settle f).D.sz g := fun g hg => by
        show (if g = f then n else (d.settle f).D.sz g) = _
        rw [if_neg hg]
      by_cases c0 : i = 0
      · rw [if_pos c0, if_pos c0]
      · rw [if_neg c0, if_neg c0]
        by_cases c1 : i < 17
        · rw [if_pos c1, if_pos c1, e1 _ (by omega)]
        · rw [if_neg c1, if_neg c1]
          by_cases c2 : i = 17
          · rw [if_pos c2, if_pos c2]
          · rw [if_neg c2, if_neg c2]
            by_cases c3 : i < 34
            · rw [if_pos c3, if_pos c3, e2 _ (by omega)]
            · rw [if_neg c3, if_neg c3]
              rfl

set_option maxHeartbeats 1000000 in
set_option maxRecDepth 100000 in
theorem trunc_calls (h : IsD w b L d) (f : Nat) (hf : f < 16) (n : Int) :
    Calls Tryz.prog 82 #[.pointer (some ⟨b, 0, none⟩), .int .i64 f, .int .i64 n] w fun r w' => r = .returned (.int .i64 (d.tru f n).2) ∧ Post w b L (d.tru f n).1 w' := by
  have a1 : w.cell? ⟨b, 1 + f, none⟩ = some (.int .i64 (d.F.sz f)) := by rw [h.cells.cell _ (by omega), dcell_F _ _ f hf]
  have b1 : (0 : Int) ≤ (f : Int) := by omega
  have b2 : (f : Int) < 16 := by omega
  have hmx := h.ok.mx f
  rw [Dk.tru]
  by_cases hc : n < 0 ∨ n > d.F.sz f
  · rw [if_pos hc]
    have H := Lib.hid h
    clear h
    by_cases h0 : n < 0
    · clear hc
      go_enter Tryz.func82, Tryz.ntmps82
      go_wp2_with fail
      go_ret
      exact ⟨rfl, Post.same H.out (Kept.refl _ _)⟩
    · have h1 : (d.F.sz f : Int) < n := by omega
      have h0' : ¬ n < 0 := h0
      clear hc
      go_enter Tryz.func82, Tryz.ntmps82
      go_wp2_with fail
      go_ret
      exact ⟨rfl, Post.same H.out (Kept.refl _ _)⟩
  · rw [if_neg hc]
    obtain ⟨m, rfl⟩ : ∃ m : Nat, n = (m : Int) := ⟨n.toNat, by omega⟩
    have hm : m ≤ d.F.sz f := by omega
    have c1 : ¬ ((m : Int) < 0) := by omega
    have c2 : ¬ ((d.F.sz f : Int) < (m : Int)) := by omega
    rw [Int.toNat_natCast]
    have hcs := Lib.hid (settle_calls h f hf)
    obtain ⟨sz, hsz⟩ : ∃ sz, sz = d.F.sz f := ⟨_, rfl⟩
    rw [← hsz] at a1 c2 hm hmx
    have H := Lib.hid h
    have HSZ := Lib.hid hsz
    clear h hc hsz
    go_enter Tryz.func82, Tryz.ntmps82
    go_wp2_with (go_at_call 111; refine hcs.out.mono ?_; rintro r w1 ⟨rfl, L1, hi1, hk1, ho1, hv1⟩)
    have hmx2 := hi1.ok.mx f
    have hsf : sz = (d.settle f).F.sz f := HSZ.out
    have hsd : (d.settle f).D.sz f = sz := by rw [HSZ.out]; exact (H.out.ok.settle f).2.2
    have hc1 := Lib.hid (cut_calls b 0 55 L1.mF 4194304 f m 77 (dcell L1 (d.settle f)) sz (d.settle f).F.B w1 hi1.cells (by omega) rfl (by rw [show 0 + 1 + f = 1 + f by omega, dcell_F _ _ f hf, hsf]) hi1.secF hf hm hmx (by rw [hsf]; exact hi1.ok.zF f) (by omega))
    have HI1 := Lib.hid hi1
    have HK1 := Lib.hid hk1
    have HO1 := Lib.hid ho1
    have HV1 := Lib.hid hv1
    have HSD := Lib.hid hsd
    clear hi1 hk1 ho1 hv1 hsf hsd hcs hmx2
    go_wp2_with fail
    refine Calls.mono hc1.out ?_
    rintro r w2 ⟨rfl, hcc2, hF2, hk2⟩
    have hc2 := Lib.hid (cut_calls b 17 55 L1.mD 4194304 f m 77 _ sz (d.settle f).D.B w2 hcc2 (by omega) (show upd _ _ _ 17 = _ by unfold upd; rw [if_neg (by omega)]; rfl) (show upd _ _ _ (17 + 1 + f) = _ by unfold upd; rw [if_neg (by omega), show 17 + 1 + f = 18 + f by omega, dcell_D _ _ f hf, HSD.out])
      (HI1.out.secD.kept hk2 (by rintro (e | e); exact map_ne_cells HI1.out.secD HI1.out.cells e; exact HI1.out.FD e.symm)) hf hm hmx (by rw [← HSD.out]; exact HI1.out.ok.zD f) (by omega))
    have HF2 := Lib.hid hF2
    have HK2 := Lib.hid hk2
    clear hcc2 hF2 hk2 hc1
    go_wp2_with fail
    refine Calls.mono hc2.out ?_
    rintro r w3 ⟨rfl, hc3, hD3, hk3⟩
    go_wp2_with fail
    go_ret
    obtain ⟨h1, h2⟩ := HI1.out.trim H.out.ok hf (HSZ.out ▸ hm) hc3 HF2.out hD3 HK2.out hk3
    exact ⟨rfl, L1, h1, HK1.out.andThen h2 HO1.out, HO1.out, HV1.out⟩

end Go.Proofs.YtanecondopbfhaaGreatDoor
