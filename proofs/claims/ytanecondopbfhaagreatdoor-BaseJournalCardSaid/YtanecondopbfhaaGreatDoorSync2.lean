/- sync and truncate. -/
import Derived.Test.YtanecondopbfhaaGreatDoorSync
namespace Go.Proofs.YtanecondopbfhaaGreatDoor
open Go.RowKit

variable {w w' : World} {b : Nat} {L : Loc} {d : Dk}

theorem IsD.kv_lt (h : IsD w b L d) : ∀ i, inBlock L.kv i → i < w.heap.size := fun i hi => h.foot_lt i (Or.inr hi)

theorem rank_ne (h : IsD w b L d) (f : Nat) (hf : f < 16) : L.pm f ≠ b := fun e => by
  obtain ⟨D, ⟨es, cl, h1, _⟩, _⟩ := h.rnk f hf
  rw [e, h.cells] at h1
  simp at h1

/-- One file's map of ranks is replaced by an empty one. -/
def Loc.swap (L : Loc) (f p : Nat) : Loc := { L with pm := fun i => if i = f then p else L.pm i }

set_option maxHeartbeats 1000000 in
theorem settle_calls (h : IsD w b L d) (f : Nat) (hf : f < 16) :
    Calls Tryz.prog 111 #[.pointer (some ⟨b, 0, none⟩), .int .i64 f] w fun e w' => e = .returned (.tuple #[]) ∧ Post w b L (d.settle f) w' := by
  refine (settle_low b L.mF L.mD (L.pm f) 4194304 4194304 262144 f (d.F.sz f) (d.D.sz f) (dcell L d) d.F.B d.D.B _ w h.cells rfl rfl (dcell_F L d f hf) (dcell_D L d f hf) (dcell_P L d f hf) h.secF h.secD (h.rnk f hf) h.FD (h.pD f hf) hf).mono ?_
  rintro e w' ⟨rfl, p, hp, hc, hF, hD, hP, hk⟩
  have hbl := h.lt
  have hown := h.foot
  have hne : ∀ g, g < 16 → L.pm g ≠ p := fun g hg e => by have := (h.rnk g hg).lt; omega
  have hpF : p ≠ L.mF := fun e => by have := h.secF.lt; omega
  have hpD : p ≠ L.mD := fun e => by have := h.secD.lt; omega
  refine ⟨rfl, L.swap f p, ⟨hc.eq ?_, hF, hD.eq ?_, ?_, ?_, ?_, h.FD, ?_, ?_, ?_, ?_, ?_, h.rR, h.Rb, h.lb, h.cb, h.kl, (h.ok.settle f).1⟩, hk.mono (fun i hi => Or.inl (by rcases hi with rfl | rfl; exact Or.inl rfl; exact Or.inr (Or.inr (Or.inl rfl)))), ?_, fun i hi => Or.inl hi⟩
  · intro i hi
    by_cases h1 : i = 34 + f
    · subst h1
      rw [dcell_P _ _ f hf]
      simp [upd, Loc.swap]
    · rw [show upd (upd (dcell L d) (18 + f) (.int .i64 (d.F.sz f : Int))) (34 + f) (.map (some p)) i = upd (dcell L d) (18 + f) (.int .i64 (d.F.sz f : Int)) i from if_neg h1]
      by_cases h2 : i = 18 + f
      · subst h2
        rw [dcell_D _ _ f hf]
        simp [upd, Dk.settle]
      · rw [show upd (dcell L d) (18 + f) (.int .i64 (d.F.sz f : Int)) i = dcell L d i from if_neg h2]
        unfold dcell
        have e1 : i ≠ 0 → 17 < i → i < 34 → (d.settle f).D.sz (i - 18) = d.D.sz (i - 18) := fun _ _ _ => by
          show (if i - 18 = f then _ else _) = _
          rw [if_neg (by omega)]
        have e2 : 34 ≤ i → i < 50 → (L.swap f p).pm (i - 34) = L.pm (i - 34) := fun _ _ => by
          show (if i - 34 = f then _ else _) = _
          rw [if_neg (by omega)]
        by_cases h3 : i = 0
        · simp [h3, Loc.swap]
        · by_cases h4 : i < 17
          · simp [h3, h4, Dk.settle]
          · by_cases h5 : i = 17
            · simp [h5, Loc.swap]
            · by_cases h6 : i < 34
              · simp only [h3, h4, h5, h6, if_true, if_false]
                rw [e1 h3 (by omega) h6]
              · by_cases h7 : i < 50
                · simp only [h3, h4, h5, h6, h7, if_true, if_false]
                  rw [e2 (by omega) h7]
                · simp only [h3, h4, h5, h6, h7, if_false]
                  rfl
  · intro x q _
    show (if x = f ∧ (f, q / 64) ∈ d.q then d.F.B x q else d.D.B x q) = _
    by_cases h1 : (f, q / 64) ∈ d.q
    · simp [h1]
    · simp [h1]
  · intro i hi
    by_cases h1 : i = f
    · subst h1
      rw [show (L.swap i p).pm i = p from if_pos rfl]
      refine (hP.mono (by omega)).eq (fun k => ?_)
      rw [if_neg]
      show ¬ (i, k) ∈ d.q.filter (fun x => x.1 != i)
      simp
    · rw [show (L.swap f p).pm i = L.pm i from if_neg h1]
      refine ((h.rnk i hi).kept hk (fun e => by rcases e with e | e; exact rank_ne h i hi e; exact h.pD i hi e)).eq (fun k => ?_)
      have e : (i, k) ∈ (d.settle f).q ↔ (i, k) ∈ d.q := by
        show (i, k) ∈ d.q.filter (fun x => x.1 != f) ↔ _
        simp [h1]
      simp only [e]
      rfl
  · exact h.kp.kept hk (fun i hi e => h.kb i hi (by rcases e with rfl | rfl; exact Or.inl rfl; exact Or.inr (Or.inr (Or.inl rfl))))
  · intro i hi ho
    have h1 := h.kv_lt i hi
    rcases ho with ho | ho | ho | ⟨g, hg, ho⟩
    · exact h.kb i hi (Or.inl ho)
    · exact h.kb i hi (Or.inr (Or.inl ho))
    · exact h.kb i hi (Or.inr (Or.inr (Or.inl ho)))
    · have ho' : i = if g = f then p else L.pm g := ho
      by_cases h2 : g = f
      · rw [if_pos h2] at ho'; omega
      · rw [if_neg h2] at ho'; exact h.kb i hi (Or.inr (Or.inr (Or.inr ⟨g, hg, ho'⟩)))
  · intro g hg
    show (if g = f then p else L.pm g) ≠ L.mF
    split
    · exact hpF
    · exact h.pF g hg
  · intro g hg
    show (if g = f then p else L.pm g) ≠ L.mD
    split
    · exact hpD
    · exact h.pD g hg
  · intro x y hx hy hxy
    have hxy' : (if x = f then p else L.pm x) = (if y = f then p else L.pm y) := hxy
    by_cases h1 : x = f
    · by_cases h2 : y = f
      · rw [h1, h2]
      · rw [if_pos h1, if_neg h2] at hxy'; exact absurd hxy'.symm (hne y hy)
    · by_cases h2 : y = f
      · rw [if_neg h1, if_pos h2] at hxy'; exact absurd hxy' (hne x hx)
      · rw [if_neg h1, if_neg h2] at hxy'; exact h.pp x y hx hy hxy'
  · exact h.inc.filter _
  · intro x hx
    exact h.top x (List.mem_filter.1 hx).1
  · rintro i (ho | ho | ho | ⟨g, hg, ho⟩)
    · exact Or.inl (Or.inl ho)
    · exact Or.inl (Or.inr (Or.inl ho))
    · exact Or.inl (Or.inr (Or.inr (Or.inl ho)))
    · have ho' : i = if g = f then p else L.pm g := ho
      by_cases h2 : g = f
      · rw [if_pos h2] at ho'; exact Or.inr (by omega)
      · rw [if_neg h2] at ho'; exact Or.inl (Or.inr (Or.inr (Or.inr ⟨g, hg, ho'⟩)))

/-- A second call behind a first one. -/
theorem Post.trans {w1 w2 : World} {L1 : Loc} {d2 : Dk} (hk : Kept (Own b L) w w1) (ho : ∀ i, Own b L1 i → Own b L i ∨ w.heap.size ≤ i) (hv : ∀ i, inBlock L1.kv i → inBlock L.kv i ∨ w.heap.size ≤ i) (h2 : Post w1 b L1 d2 w2) : Post w b L d2 w2 := by
  obtain ⟨L2, hi, hk2, ho2, hv2⟩ := h2
  refine ⟨L2, hi, hk.andThen hk2 ho, fun i hi => ?_, fun i hi => ?_⟩
  · rcases ho2 i hi with h | h
    · exact ho i h
    · exact Or.inr (Nat.le_trans hk.size h)
  · rcases hv2 i hi with h | h
    · exact hv i h
    · exact Or.inr (Nat.le_trans hk.size h)

set_option maxRecDepth 100000 in
theorem sync_calls (h : IsD w b L d) (f : Nat) (hf : f < 16) :
    Calls Tryz.prog 80 #[.pointer (some ⟨b, 0, none⟩), .int .i64 f] w fun e w' => e = .returned (.int .i64 (d.syn f).2) ∧ Post w b L (d.syn f).1 w' := by
  have a1 : w.cell? ⟨b, 52, none⟩ = some (.int .i64 d.lost) := h.cells.cell 52 (by omega)
  have a2 := h.cells.frozen 52
  have hlb := h.lb
  by_cases hl : 0 < d.lost
  · rw [Dk.syn, if_pos hl]
    obtain ⟨m, hm⟩ : ∃ m, m = d.lost - 1 := ⟨_, rfl⟩
    have e1 : (d.lost : Int) - 1 = (m : Int) := by omega
    have e2 : decide ((0 : Int) < (d.lost : Int)) = true := decide_eq_true (by omega)
    have H := Lib.hid h
    have HM := Lib.hid hm
    clear h hm
    go_enter Tryz.func80, Tryz.ntmps80
    go_wp2_with fail
    go_ret
    have hk := (Kept.refl (fun x => x = b) w).setCell (p := ⟨b, 52, none⟩) (Or.inl rfl) (.int .i64 (m : Int))
    refine ⟨rfl, Post.same (H.out.scal rfl rfl rfl rfl rfl (by show d.lost - 1 ≤ _; omega) H.out.cb ((H.out.cells.set 52 (.int .i64 (m : Int))).eq ?_) hk) (hk.mono own_b)⟩
    intro i _
    by_cases e : i = 52
    · subst e
      show Value.int .i64 ((d.lost - 1 : Nat) : Int) = .int .i64 (m : Int)
      rw [HM.out]
    · simp [upd, e, dcell]
  · rw [Dk.syn, if_neg hl]
    have e2 : decide ((0 : Int) < (d.lost : Int)) = false := decide_eq_false (by omega)
    have hcon := Lib.hid (settle_calls h f hf)
    clear h
    go_enter Tryz.func80, Tryz.ntmps80
    go_wp2_with (go_at_call 111; refine hcon.out.mono ?_; rintro e w' ⟨rfl, hp⟩)
    go_ret
    exact ⟨rfl, hp⟩

end Go.Proofs.YtanecondopbfhaaGreatDoor
