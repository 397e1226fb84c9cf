/- The journal's calls: OpenJournal. -/
import Derived.Test.YtanecondopbfhaaGreatDoorJbase
namespace Go.Proofs.YtanecondopbfhaaGreatDoor
open Go.RowKit
open Cod (Env)

/-- A journal. -/
structure Jr where
  file : Nat
  L : List (List UInt8)
  broken : Bool

def Dk.jcut (d : Dk) (f : Nat) (s : List UInt8) : Dk × Int := if (forms (recs s)).length < s.length then d.truncate f (forms (recs s)).length else (d, 0)

def Dk.all (d : Dk) (f : Nat) : List UInt8 × Int := d.read f 0 (d.size f)

def Dk.jopen (d : Dk) (f : Nat) : (Dk × Int) × Option Jr :=
  if (d.sync f).2 ≠ 0 then (d.sync f, none) else
  if ((d.sync f).1.all f).2 ≠ 0 then (((d.sync f).1, ((d.sync f).1.all f).2), none) else
  if ((d.sync f).1.jcut f ((d.sync f).1.all f).1).2 ≠ 0 then ((d.sync f).1.jcut f ((d.sync f).1.all f).1, none) else
  ((d.sync f).1.jcut f ((d.sync f).1.all f).1, some ⟨f, recs ((d.sync f).1.all f).1, false⟩)

theorem all_eq {d : Dk} (hd : d.down = false) {f : Nat} (hf : f < 16) : d.all f = (d.F.text f, 0) := by
  unfold Dk.all Dk.read
  have hc : d.chk (f : Int) = 0 := by
    unfold Dk.chk
    rw [if_neg (by rw [hd]; simp), if_pos ⟨by omega, by omega⟩]
  have hs : d.size (f : Int) = d.F.sz f := by
    unfold Dk.size
    rw [if_pos ⟨by omega, by omega⟩]; simp
  rw [if_neg (by rw [hc]; simp), if_neg (by omega), hs]
  by_cases h0 : (0 : Int) ≥ d.F.sz (f : Int).toNat
  · have : d.F.sz f = 0 := by simp at h0; omega
    rw [if_pos h0]
    unfold Img.text Img.read
    rw [this]; rfl
  · rw [if_neg h0]
    simp [Img.text]

theorem all_len (d : Dk) (hk : d.Ok) {f : Nat} (hf : f < 16) : (d.all f).1.length ≤ 16777216 := by
  by_cases hd : d.down = true
  · have hc : d.chk (f : Int) = 8 := by unfold Dk.chk; rw [if_pos hd]
    unfold Dk.all Dk.read
    rw [if_pos (by rw [hc]; decide)]
    simp
  · rw [all_eq (by simpa using hd) hf]
    show (d.F.text f).length ≤ _
    rw [Img.text_length]; exact hk.mx f

/-! ### a journal in memory -/

structure JM (B : Nat) (S : Nat → Prop) (w : World) (b jb : Nat) (rv : Value) (j : Jr) : Prop where
  at_ : w.heap[jb]? = some (.cells #[.pointer (some ⟨b, 0, none⟩), .int .i64 (j.file : Int), rv, .int .i64 ((forms j.L).length : Int), .bool j.broken] 87 (0, 0))
  row : TRow B w rv j.L
  own : S jb
  rown : ∀ i, some i = rv.ownBlock → S i
  ne : some jb ≠ rv.ownBlock
  lo : B ≤ jb
  fi : j.file < 16
  ln : (forms j.L).length ≤ 16777216

variable {w w' : World} {b : Nat} {d : Dk} {S : Nat → Prop}

theorem Mine.ok (h : Mine S w b d) : d.Ok := by
  obtain ⟨L, hi, _⟩ := h
  exact hi.ok

theorem env_kept {T : Nat → Prop} (hE : Env w) (hk : Kept T w w') (hT : ∀ i, i < 6 → ¬ T i) : Env w' :=
  hE.below (B := 6) ⟨hk.os, hk.tape, hk.output, hk.size, fun i hi => hk.block i (by have := hE.lo; omega) (hT i hi)⟩ (Nat.le_refl _)

theorem kept_below {B : Nat} (hb : Below B w w') (hB : B = w.heap.size) : Kept (fun _ => False) w w' := by
  subst hB
  exact ⟨hb.os, hb.tape, hb.output, hb.size, fun i hi _ => hb.block i hi⟩

theorem Mine.grow {T : Nat → Prop} (h : Mine S w b d) (hk : Kept T w w') (hT : ∀ i, T i → S i) : Mine (fun i => S i ∨ (w.heap.size ≤ i ∧ i < w'.heap.size)) w' b d := by
  obtain ⟨L, hi, hf, hs⟩ := h
  refine ⟨L, hi.kept hk (fun i hfi hTi => hf i hfi (hT i hTi)), fun i hfi hSi => ?_, fun i hSi => ?_⟩
  · rcases hSi with h1 | ⟨h1, h2⟩
    · exact hf i hfi h1
    · have := hi.foot_lt i hfi; omega
  · rcases hSi with h1 | h1
    · exact Nat.lt_of_lt_of_le (hs i h1) hk.size
    · exact h1.2

def JO (S : Nat → Prop) (w : World) (b : Nat) (x : (Dk × Int) × Option Jr) (r : Ending) (w' : World) : Prop :=
  match x.2 with
  | none => r = .returned (.tuple #[.pointer none, .int .i64 x.1.2]) ∧ Mine S w' b x.1.1 ∧ Kept (fun i => ¬ S i) w w'
  | some j => ∃ jb rv S', r = .returned (.tuple #[.pointer (some ⟨jb, 0, none⟩), .int .i64 0]) ∧ Mine S' w' b x.1.1 ∧ JM w.heap.size S' w' b jb rv j ∧ Kept (fun i => ¬ S i) w w' ∧ ∀ i, S i → S' i

theorem row_slice {B : Nat} {e : TypeId} {size n : Nat} {v : Value} {xs : List Value} (h : w.ownsRow B e size v n xs) : ∃ a m c, v = .slice a m c := by
  obtain ⟨hl, ⟨hv, h0⟩ | ⟨g, cap, cur, hv, _⟩⟩ := h
  · exact ⟨_, _, _, hv⟩
  · exact ⟨_, _, _, hv⟩

theorem open_end {S3 : Nat → Prop} {v : Value} {L : List (List UInt8)} {f : Nat} (hM : Mine S3 w' b d) (hrow : TRow w.heap.size w' v L) (hv : ∀ i, some i = v.ownBlock → S3 i) (hS : ∀ i, S i → S3 i) (hK : Kept (fun i => ¬ S i) w w') (hf : f < 16) (hn : (forms L).length ≤ 16777216) :
    JO S w b ((d, 0), some ⟨f, L, false⟩) (.returned (.tuple #[.pointer (some ⟨w'.heap.size, 0, none⟩), .int .i64 0])) (w'.alloc (.cells #[.pointer (some ⟨b, 0, none⟩), .int .i64 (f : Int), v, .int .i64 ((forms L).length : Int), .bool false] 87 (0, 0))) := by
  have hl := row_lt hrow
  refine ⟨w'.heap.size, v, _, rfl, hM.alloc _, ⟨Array.getElem?_push_size .., hrow.alloc _, Or.inr rfl, fun i hi => Or.inl (hv i hi), fun e => ?_, hK.size, hf, hn⟩, hK.alloc _, fun i hi => Or.inl (hS i hi)⟩
  have := (hl _ e).2
  omega

set_option maxHeartbeats 2000000 in
set_option maxRecDepth 100000 in
theorem open_calls (h : Mine S w b d) (hE : Env w) (h6 : ∀ i, i < 6 → S i) (f : Nat) (hf : f < 16) :
    Calls Tryz.prog 11 #[.pointer (some ⟨b, 0, none⟩), .int .i64 (f : Int)] w (JO S w b (d.jopen f)) := by
  obtain ⟨X, hX⟩ : ∃ X, X = d.jopen f := ⟨_, rfl⟩
  rw [← hX]
  obtain ⟨d1, e1, h1⟩ : ∃ d1 e1, d.sync f = (d1, e1) := ⟨_, _, rfl⟩
  unfold Dk.jopen at hX
  rw [h1] at hX
  simp only at hX
  go_enter Tryz.func11, Tryz.ntmps11
  have HX := Lib.hid hX
  have H1 := Lib.hid h1
  clear hX h1
  go_wp2_with (go_at_call 45; refine (m_sync h f).mono ?_)
  rintro r w1 ⟨rfl, hM1, hK1⟩
  rw [H1.out] at hM1 ⊢
  simp only at hM1 ⊢
  have hE1 := env_kept hE hK1 (fun i hi hn => hn (h6 i hi))
  have hok1 := hM1.ok
  by_cases he1 : e1 = 0
  · subst he1
    obtain ⟨s, e2, h2⟩ : ∃ s e2, d1.all f = (s, e2) := ⟨_, _, rfl⟩
    have hsl := all_len d1 hok1 hf
    rw [h2] at hsl
    have HL := Lib.hid hsl
    have hX := HX.out
    rw [h2] at hX
    simp only at hX
    have HX2 := Lib.hid hX
    have H2 := Lib.hid h2
    have hszz : d1.size (f : Int) ≤ 16777216 := by
      unfold Dk.size
      split
      · exact hok1.mx _
      · omega
    clear hX HX h2 hsl
    go_wp2_with (go_at_call 30; refine (m_size hM1 f).mono ?_; rintro r w1' ⟨rfl, rfl⟩)
    refine (m_read hM1 f 0 (d1.size f) (by decide) (by decide)).mono ?_
    rintro r w2 ⟨rfl, hM2, hK2⟩
    rw [show d1.read (f : Int) 0 (d1.size f) = (s, e2) from H2.out]
    simp only
    have hE2 := env_kept hE1 hK2 (fun i hi hn => hn (h6 i hi))
    have hK02 := hK1.trans hK2
    by_cases he2 : e2 = 0
    · subst he2
      have hX := HX2.out
      rw [if_neg (by decide), if_neg (by decide)] at hX
      obtain ⟨d3, e3, h3⟩ : ∃ d3 e3, d1.jcut f s = (d3, e3) := ⟨_, _, rfl⟩
      rw [h3] at hX
      simp only at hX
      unfold Dk.jcut at h3
      have HX := Lib.hid hX
      have HZ := Lib.hid (bs_size s)
      have hrl := (recs_len s).2
      clear hX HX2
      go_wp2_with (go_at_call 46; refine (readrec_calls s HL.out _ hE2).mono ?_)
      rintro r w3 ⟨v, rfl, hrow, hb3⟩
      obtain ⟨va, vn, vc, rfl⟩ := row_slice hrow
      have hk3 := kept_below hb3 rfl
      have hM3 := hM2.grow hk3 (fun i hi => hi.elim)
      have hK03 : Kept (fun i => ¬ S i) w w3 := hK02.trans (hk3.mono (fun i hi => hi.elim))
      have hrl2 := row_lt hrow
      by_cases hcut : (forms (recs s)).length < s.length
      · rw [if_pos hcut] at h3
        have H3 := Lib.hid h3
        have hcut2 : (forms (recs s)).length < (bs s).size := by rw [bs_size]; exact hcut
        clear h3 hcut
        go_wp2_with (go_at_call 47; refine (m_truncate hM3 f _).mono ?_)
        rintro r w4 ⟨rfl, hM4, hK4⟩
        rw [show d1.truncate (f : Int) ((forms (recs s)).length : Int) = (d3, e3) from H3.out] at hM4 ⊢
        simp only at hM4 ⊢
        have hrow4 := row_keeps hrow (fun i hi hlt => hK4.block i hlt (fun hn => hn (Or.inr ⟨(hrl2 i hi).1, hlt⟩)))
        by_cases he3 : e3 = 0
        · subst he3
          have F := Lib.hid (open_end hM4 (row_weak hrow4 hK02.size) (fun i hi => Or.inr (hrl2 i hi)) (fun i hi => Or.inl hi) (hK03.trans (hK4.mono (fun i hi => Or.inl (fun hn => hi (Or.inl hn))))) hf (by have := HL.out; omega : (forms (recs s)).length ≤ 16777216))
          go_wp2
          refine bodyPost_ret (results_tmp2 rfl _ _ _) rfl ?_
          rw [HX.out, if_neg (by decide)]
          exact F.out
        · have he : (e3 != 0) = true := by rw [bne_iff_ne]; exact he3
          have hX := HX.out
          rw [if_pos he3] at hX
          have HX3 := Lib.hid hX
          clear hX HX he3
          go_wp2
          refine bodyPost_ret (results_tmp2 rfl _ _ _) rfl ?_
          rw [HX3.out]
          exact ⟨rfl, hM4.weak (fun i hi => Or.inl hi), hK03.trans (hK4.mono (fun i hi => Or.inl (fun hn => hi (Or.inl hn))))⟩
      · rw [if_neg hcut] at h3
        have H3 := Lib.hid h3
        have hcut2 : ¬ (forms (recs s)).length < (bs s).size := by rw [bs_size]; exact hcut
        have F := Lib.hid (open_end hM3 (row_weak hrow hK02.size) (fun i hi => Or.inr (hrl2 i hi)) (fun i hi => Or.inl hi) hK03 hf (by have := HL.out; omega : (forms (recs s)).length ≤ 16777216))
        clear h3 hcut
        go_wp2
        refine bodyPost_ret (results_tmp2 rfl _ _ _) rfl ?_
        have h3 := H3.out
        simp only [Prod.mk.injEq] at h3
        obtain ⟨rfl, rfl⟩ := h3
        rw [HX.out, if_neg (by decide)]
        exact F.out
    · have he : (e2 != 0) = true := by rw [bne_iff_ne]; exact he2
      have hX := HX2.out
      rw [if_neg (by decide), if_pos he2] at hX
      have HX3 := Lib.hid hX
      clear hX HX2 he2
      go_wp2
      refine bodyPost_ret (results_tmp2 rfl _ _ _) rfl ?_
      rw [HX3.out]
      exact ⟨rfl, hM2, hK02⟩
  · have he : (e1 != 0) = true := by rw [bne_iff_ne]; exact he1
    have hX := HX.out
    rw [if_pos he1] at hX
    have HX2 := Lib.hid hX
    clear hX HX he1
    go_wp2
    refine bodyPost_ret (results_tmp2 rfl _ _ _) rfl ?_
    rw [HX2.out]
    exact ⟨rfl, hM1, hK1⟩

end Go.Proofs.YtanecondopbfhaaGreatDoor
