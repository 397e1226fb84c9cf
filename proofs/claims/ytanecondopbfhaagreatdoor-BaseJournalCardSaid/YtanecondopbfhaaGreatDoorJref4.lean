/- The reference's journal: OpenJournal. -/
import Derived.Test.YtanecondopbfhaaGreatDoorJref3
namespace Go.Proofs.YtanecondopbfhaaGreatDoor
open Go.RowKit
open Cod (Env)

variable {P S : Nat → Prop} {w w' : World} {rb : Nat} {d : Dk}

def RO (S : Nat → Prop) (w : World) (rb : Nat) (x : (Dk × Int) × Option Jr) (r : Ending) (w' : World) : Prop :=
  match x.2 with
  | none => r = .returned (.tuple #[.pointer none, .int .i64 x.1.2]) ∧ RM S w' rb x.1.1 ∧ Kept (fun i => ¬ S i) w w'
  | some j => ∃ rj, r = .returned (.tuple #[.pointer (some ⟨rj, 0, none⟩), .int .i64 0]) ∧ Rn S w' rb x.1.1 rj j ∧ Kept (fun i => ¬ S i) w w'

/-- The end: the journal's block and row were made since V. -/
theorem ro_end {V W : World} {v : Value} {L : List (List UInt8)} {f rj : Nat} (hM : RM (fun i => S i ∨ (V.heap.size ≤ i ∧ i ≤ rj)) W rb d) (hVr : V.heap.size ≤ rj) (hS : ∀ i, S i → i < V.heap.size) (hrow : TRow V.heap.size W v L) (hv : ∀ i, some i = v.ownBlock → i < rj)
    (hat : W.heap[rj]? = some (.cells #[.pointer (some ⟨rb, 0, none⟩), .int .i64 (f : Int), v, .bool false] 49 (0, 0))) (hK : Kept (fun i => ¬ S i) w W) : RO S w rb ((d, 0), some ⟨f, L, false⟩) (.returned (.tuple #[.pointer (some ⟨rj, 0, none⟩), .int .i64 0])) W := by
  have hrl := row_lt hrow
  exact ⟨rj, rfl, ⟨_, v, fun i hi => ⟨Or.inl hi, by have := hS i hi; omega, fun e => by have h1 := (hrl i e).1; have h2 := hS i hi; omega⟩, hM, Or.inr ⟨hVr, Nat.le_refl _⟩, fun i hi => ⟨Or.inr ⟨(hrl i hi).1, Nat.le_of_lt (hv i hi)⟩, Nat.ne_of_lt (hv i hi)⟩, hat, row_weak hrow (Nat.zero_le _)⟩, hK⟩

set_option maxHeartbeats 2000000 in
set_option maxRecDepth 100000 in
theorem rm_open (h : RM S w rb d) (f : Nat) (hf : f < 16) :
    Calls Tryz.prog 12 #[.pointer (some ⟨rb, 0, none⟩), .int .i64 (f : Int)] w (RO S w rb (d.jopen f)) := by
  obtain ⟨X, hX⟩ : ∃ X, X = d.jopen f := ⟨_, rfl⟩
  rw [← hX]
  obtain ⟨d1, e1, h1⟩ : ∃ d1 e1, d.sync f = (d1, e1) := ⟨_, _, rfl⟩
  unfold Dk.jopen at hX
  rw [h1] at hX
  simp only at hX
  have hSb := h.bound
  have HSB := Lib.hid hSb
  clear hSb
  have HX := Lib.hid hX
  have H1 := Lib.hid h1
  have HS := Lib.hid (rm_sync h (f : Int))
  have H := Lib.hid h
  clear hX h1 h
  have q1 : ¬ (f : Int) < 0 := by omega
  have q2 : ¬ (15 : Int) < (f : Int) := by omega
  go_enter Tryz.func12, Tryz.ntmps12
  go_wp2_with fail
  refine HS.out.mono ?_
  rintro r w1 ⟨rfl, hM1, hK1⟩
  rw [H1.out] at hM1 ⊢
  simp only at hM1 ⊢
  have hok1 := hM1.ok
  by_cases he1 : e1 = 0
  · subst he1
    obtain ⟨s, e2, h2⟩ : ∃ s e2, d1.all f = (s, e2) := ⟨_, _, rfl⟩
    have hsl := all_len d1 hok1 hf
    rw [h2] at hsl
    have HL := Lib.hid hsl
    have hX := HX.out
    rw [h2, if_neg (by simp)] at hX
    simp only at hX
    have HX2 := Lib.hid hX
    have H2 := Lib.hid h2
    have hszz : d1.size (f : Int) ≤ 16777216 := by
      unfold Dk.size
      split
      · exact hok1.mx _
      · omega
    have HM1 := Lib.hid hM1
    have HK1 := Lib.hid hK1
    clear hX HX h2 hsl hM1 hK1
    go_wp2_with fail
    refine (rm_size HM1.out f).mono ?_
    rintro r w1' ⟨rfl, hM1', hK1'⟩
    have HM1' := Lib.hid hM1'
    have HK1' := Lib.hid (HK1.out.trans (hK1'.mono (fun _ h => h.elim)))
    clear hM1' hK1' HM1 HK1
    go_wp2_with fail
    refine (rm_read HM1'.out f 0 (d1.size f) (by decide) (by decide)).mono ?_
    rintro r w2 ⟨rfl, hM2, hK2⟩
    rw [show d1.read (f : Int) 0 (d1.size f) = (s, e2) from H2.out]
    simp only
    have HM2 := Lib.hid hM2
    have HK2 := Lib.hid (HK1'.out.trans (hK2.mono (fun _ h => h.elim)))
    clear hM2 hK2 HM1' HK1'
    by_cases he2 : e2 = 0
    · subst he2
      have hX := HX2.out
      rw [if_neg (by simp)] at hX
      obtain ⟨d3, e3, h3⟩ : ∃ d3 e3, d1.jcut f s = (d3, e3) := ⟨_, _, rfl⟩
      rw [h3] at hX
      simp only at hX
      unfold Dk.jcut at h3
      have HX := Lib.hid hX
      have hZ := bs_size s
      have HZ := Lib.hid hZ
      have hrl := (recs_len s).2
      have hshape := recs_shape s
      have hs16 := HL.out
      have hflen : (forms (recs s)).length ≤ 16777216 := by
        have h9 := congrArg List.length hshape.1
        rw [List.length_append] at h9
        omega
      have hrsm : ∀ u ∈ recs s, u.length ≤ 16777216 := fun u hu => by have := hshape.2 u hu; omega
      have hzf := bs_size (forms (recs s))
      have hs32 : (bs s).size ≤ 16777216 := by rw [bs_size]; exact hs16
      have hf32 : (bs (forms (recs s))).size ≤ 16777216 := by rw [bs_size]; exact hflen
      have HZF := Lib.hid hzf
      have HRS := Lib.hid hrsm
      clear hX HX2 hshape hZ hzf hrsm
      go_wp2_with fail
      refine (rrecords_calls s hs16 w2).mono ?_
      rintro r w3 ⟨v, rfl, hrow, hb3⟩
      obtain ⟨va, vn, vc, hve⟩ := row_slice hrow
      subst hve
      have hk3 := kept_below hb3 rfl
      have hrl2 := row_lt hrow
      have hz23 := hk3.size
      have hk4 : ∀ o, Kept (fun _ => False) w2 (w3.alloc o) := fun o => hk3.alloc o
      have HF := Lib.hid (fun o => rforms_calls (.slice va vn vc) (recs s) (w3.alloc o) (row_texts (row_alloc hrow o)) HRS.out hflen)
      have HROW := Lib.hid hrow
      have HK4 := Lib.hid hk4
      have HRL := Lib.hid hrl2
      clear hrow hb3 hk3 hk4 hrl2
      go_wp2_with fail
      refine (HF.out _).mono ?_
      rintro r w5 ⟨rfl, hb5⟩
      obtain ⟨o, ho⟩ : ∃ o, o = Obj.cells #[.pointer (some ⟨rb, 0, none⟩), .int .i64 (f : Int), .slice va vn vc, .bool false] 49 (0, 0) := ⟨_, rfl⟩
      have hk5 : Kept (fun _ => False) w2 w5 := (HK4.out _).trans (kept_below hb5 rfl)
      have hat5 : w5.heap[w3.heap.size]? = some (.cells #[.pointer (some ⟨rb, 0, none⟩), .int .i64 (f : Int), .slice va vn vc, .bool false] 49 (0, 0)) := (hb5.block w3.heap.size (by simp)).trans (heap_alloc_new w3 _)
      have hz5 := hb5.size
      simp only [World.size_alloc] at hz5
      have hrow5 : TRow w2.heap.size w5 (.slice va vn vc) (recs s) := row_keeps (row_alloc HROW.out _) (fun i hi hl => hb5.block i hl)
      have hM5 : RM (fun i => S i ∨ (w2.heap.size ≤ i ∧ i ≤ w3.heap.size)) w5 rb d1 := (HM2.out.grow hk5 (fun _ _ h => h.elim)).weak (fun i hi => hi.elim Or.inl (fun h => Or.inr ⟨h.1, by omega⟩))
      have HM5 := Lib.hid hM5
      have HAT5 := Lib.hid hat5
      have HROW5 := Lib.hid hrow5
      have HK5 : Hid (Kept (fun i => ¬ S i) w w5) := HK2.out.trans (hk5.mono (fun _ h => h.elim))
      have hsz2 := HK2.out.size
      have HSL : Hid (∀ i, S i → i < w2.heap.size) := fun i hi => Nat.lt_of_lt_of_le (HSB.out i hi) hsz2
      clear hb5 hk5 hat5 hrow5 hM5 HF HK4 HROW HM2 ho o
      by_cases hcut : (forms (recs s)).length < s.length
      · rw [if_pos hcut] at h3
        have H3 := Lib.hid h3
        have hcut2 : (bs (forms (recs s))).size < (bs s).size := by rw [bs_size, bs_size]; exact hcut
        have hcut3 : ((bs (forms (recs s))).size : Int) < ((bs s).size : Int) := by omega
        have HT := Lib.hid (rm_trunc HM5.out f ((bs (forms (recs s))).size : Int))
        clear h3 hcut
        go_wp2_with fail
        refine HT.out.mono ?_
        rintro r w6 ⟨rfl, hM6, hK6⟩
        rw [HZF.out] at hM6 ⊢
        rw [show d1.truncate (f : Int) ((forms (recs s)).length : Int) = (d3, e3) from H3.out] at hM6 ⊢
        simp only at hM6 ⊢
        by_cases he3 : e3 = 0
        · subst he3
          have F : Hid (RO S w rb ((d3, 0), some ⟨f, recs s, false⟩) (.returned (.tuple #[.pointer (some ⟨w3.heap.size, 0, none⟩), .int .i64 0])) w6) := ro_end hM6 hz23 HSL.out (row_keeps HROW5.out (fun i hi hl => hK6.block i hl (fun hn => hn (Or.inr ⟨(HRL.out i hi).1, Nat.le_of_lt (HRL.out i hi).2⟩)))) (fun i hi => (HRL.out i hi).2)
            ((hK6.block _ (Array.getElem?_eq_some_iff.1 HAT5.out).1 (fun hn => hn (Or.inr ⟨hz23, Nat.le_refl _⟩))).trans HAT5.out) (HK5.out.trans (hK6.mono (fun i hi => Or.inl (fun hn => hi (Or.inl hn)))))
          clear hM6 hK6 HT HM5 HAT5 HROW5 HK5
          go_wp2_with fail
          refine bodyPost_ret (results_tmp2 rfl _ _ _) rfl ?_
          rw [HX.out, if_neg (by decide)]
          exact F.out
        · have hX := HX.out
          rw [if_pos he3] at hX
          have HX3 := Lib.hid hX
          have F : Hid (RO S w rb ((d3, e3), none) (.returned (.tuple #[.pointer none, .int .i64 e3])) w6) := ⟨rfl, hM6.weak (fun i hi => Or.inl hi), HK5.out.trans (hK6.mono (fun i hi => Or.inl (fun hn => hi (Or.inl hn))))⟩
          clear hX HX hM6 hK6 HT HM5 HAT5 HROW5 HK5
          go_wp2_with fail
          refine bodyPost_ret (results_tmp2 rfl _ _ _) rfl ?_
          rw [HX3.out]
          exact F.out
      · rw [if_neg hcut] at h3
        have H3 := Lib.hid h3
        have hcut2 : ¬ (bs (forms (recs s))).size < (bs s).size := by rw [bs_size, bs_size]; exact hcut
        have hcut3 : ((bs s).size : Int) ≤ ((bs (forms (recs s))).size : Int) := by omega
        have F : Hid (RO S w rb ((d1, 0), some ⟨f, recs s, false⟩) (.returned (.tuple #[.pointer (some ⟨w3.heap.size, 0, none⟩), .int .i64 0])) w5) := ro_end HM5.out hz23 HSL.out HROW5.out (fun i hi => (HRL.out i hi).2) HAT5.out HK5.out
        clear h3 hcut HM5 HAT5 HROW5 HK5
        go_wp2_with fail
        refine bodyPost_ret (results_tmp2 rfl _ _ _) rfl ?_
        have h3 := H3.out
        simp only [Prod.mk.injEq] at h3
        obtain ⟨rfl, rfl⟩ := h3
        rw [HX.out, if_neg (by decide)]
        exact F.out
    · have hX := HX2.out
      rw [if_pos he2] at hX
      have HX3 := Lib.hid hX
      have F : Hid (RO S w rb ((d1, e2), none) (.returned (.tuple #[.pointer none, .int .i64 e2])) w2) := ⟨rfl, HM2.out, HK2.out⟩
      clear hX HX2 HM2 HK2
      go_wp2_with fail
      refine bodyPost_ret (results_tmp2 rfl _ _ _) rfl ?_
      rw [HX3.out]
      exact F.out
  · have hX := HX.out
    rw [if_pos he1] at hX
    have HX2 := Lib.hid hX
    have F : Hid (RO S w rb ((d1, e1), none) (.returned (.tuple #[.pointer none, .int .i64 e1])) w1) := ⟨rfl, hM1, hK1⟩
    clear hX HX hM1 hK1
    go_wp2_with fail
    refine bodyPost_ret (results_tmp2 rfl _ _ _) rfl ?_
    rw [HX2.out]
    exact F.out

end Go.Proofs.YtanecondopbfhaaGreatDoor
