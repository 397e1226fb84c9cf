/- BaseRecovers: a journal on a disk on which nothing goes wrong but crashes. -/
import Derived.Test.YtanecondopbfhaaGreatDoorJrow
import Derived.Test.YtanecondopbfhaaGreatDoorGood3
namespace Go.Proofs.YtanecondopbfhaaGreatDoor
open Go.RowKit
open Cod (Env)

/-- An open journal with the records A, of which k are sure; a row v of values is left alone, too. -/
structure RV (N : Nat) (w : World) (b jb : Nat) (v : Value) (n : Nat) (xs : List Value) (A : List (List UInt8)) (k c : Nat) (W : World) : Prop where
  ex : ∃ (P : Nat → Prop) (d : Dk), (∀ i, i < N → P i) ∧ (∀ i, some i = v.ownBlock → P i) ∧ W.ownsRow N 65 5 v n xs ∧ Jn P W b d jb ⟨2, A, false⟩ ∧ Live d 2 ⟨2, A, false⟩ A k ∧ d.Calm ∧ d.R ≤ 20100 * c
  kept : Kept (fun i => ¬ i < N) w W

/-- No journal is asked. -/
structure RD (N : Nat) (w : World) (b : Nat) (v : Value) (n : Nat) (xs : List Value) (A : List (List UInt8)) (k c : Nat) (up : Bool) (W : World) : Prop where
  ex : ∃ (P : Nat → Prop) (d : Dk), (∀ i, i < N → P i) ∧ (∀ i, some i = v.ownBlock → P i) ∧ W.ownsRow N 65 5 v n xs ∧ Mine P W b d ∧ Good d 2 A k ∧ (∀ u ∈ A, u.length ≤ 20000) ∧ d.lost = 0 ∧ d.calls = 0 ∧ (up = true → d.down = false) ∧ d.R ≤ 20100 * c
  kept : Kept (fun i => ¬ i < N) w W

variable {N b jb n k c : Nat} {w W W' : World} {v : Value} {xs : List Value} {A : List (List UInt8)} {up : Bool}

theorem forms_20000 : ∀ (l : List (List UInt8)), (∀ u ∈ l, u.length ≤ 20000) → (forms l).length ≤ 20043 * l.length
  | [], _ => by simp [forms]
  | a :: l, h => by
    have h1 := forms_20000 l (fun u hu => h u (List.mem_cons_of_mem _ hu))
    have h2 := h a (List.mem_cons_self ..)
    have h3 := form_len a h2
    rw [forms_cons, List.length_append, List.length_cons]
    omega

theorem vrow_kept {P : Nat → Prop} (h : W.ownsRow N 65 5 v n xs) (hp : ∀ i, some i = v.ownBlock → P i) (hk : Kept (fun i => ¬ P i) W W') : W'.ownsRow N 65 5 v n xs :=
  row_keeps h (fun i hi hl => hk.block i hl (fun hn => hn (hp i hi)))

theorem out_kept' {P : Nat → Prop} (hk : Kept (fun i => ¬ i < N) w W) (hP : ∀ i, i < N → P i) (h : Kept (fun i => ¬ P i) W W') : Kept (fun i => ¬ i < N) w W' :=
  hk.trans (h.mono (fun i hi => Or.inl (fun hn => hi (hP i hn))))

theorem RV.next (h : RV N w b jb v n xs A k c W) (hk : Kept (fun _ => False) W W') : RV N w b jb v n xs A k c W' := by
  obtain ⟨⟨P, d, h1, h2, h3, h4, h5⟩, h6⟩ := h
  exact ⟨⟨P, d, h1, h2, row_keeps h3 (fun i _ hl => hk.block i hl (fun h => h)), h4.same hk (fun _ h => h.elim), h5⟩, h6.trans (hk.mono (fun _ h => h.elim))⟩

/-- The row is exchanged for a new one. -/
theorem RV.row {v2 : Value} {n2 : Nat} {ys : List Value} (h : RV N w b jb v n xs A k c W) (hk : Kept (fun _ => False) W W') (hr : W'.ownsRow W.heap.size 65 5 v2 n2 ys) (hN : N ≤ w.heap.size) : RV N w b jb v2 n2 ys A k c W' := by
  obtain ⟨⟨P, d, h1, h2, h3, h4, h5⟩, h6⟩ := h
  have hz := h6.size
  exact ⟨⟨_, d, fun i hi => Or.inl (h1 i hi), fun i hi => Or.inr (row_lt hr i hi), row_weak hr (by omega), h4.grow hk (fun _ h => h.elim), h5⟩, h6.trans (hk.mono (fun _ h => h.elim))⟩

theorem rs_append (h : RV N w b jb v n xs A k c W) (hE : Env w) (h6 : 6 ≤ N) (s : List UInt8) (hs : s.length ≤ 20000) (hA : A.length ≤ 50) (hc : c ≤ 1000) :
    Calls Tryz.prog 15 #[.pointer (some ⟨jb, 0, none⟩), .string (bs s)] W fun r w' => r = .returned (.int .i64 0) ∧ RV N w b jb v n xs (A ++ [s]) k (c + 1) w' := by
  obtain ⟨⟨P, d, h1, h2, h3, h4, h5, hcm, hR⟩, hk⟩ := h
  have hE2 := env_kept hE hk (fun i hi hn => hn (by omega))
  have hfo := forms_20000 A h5.small
  have hfl := form_len s hs
  obtain ⟨hd, ht, -⟩ := h5.ok rfl
  refine (n_append h4 hE2 s (by omega) (by omega)).mono ?_
  rintro r w' ⟨rfl, g1, g2⟩
  obtain ⟨d', e, hcm', -, -, hR', -⟩ := calm_append hcm (f := 2) (L := A) (s := s) (by decide) ht hs (by omega)
  obtain ⟨hcs, -⟩ := append_good h4.ok (f := 2) (by decide) h5 (s := s) hs (by omega)
  rw [e] at hcs g1
  rw [e]
  have hL : Live d' 2 ⟨2, A ++ [s], false⟩ (A ++ [s]) k := by
    rcases hcs with ⟨-, hL, -⟩ | ⟨h8, -⟩ | ⟨h7, -⟩
    · exact hL
    · exact absurd h8 (by simp)
    · exact absurd h7 (by simp)
  exact ⟨rfl, ⟨P, d', h1, h2, vrow_kept h3 h2 g2, g1, hL, hcm', by omega⟩, out_kept' hk h1 g2⟩

theorem rs_sync (h : RV N w b jb v n xs A k c W) :
    Calls Tryz.prog 17 #[.pointer (some ⟨jb, 0, none⟩)] W fun r w' => r = .returned (.int .i64 0) ∧ RV N w b jb v n xs A A.length c w' := by
  obtain ⟨⟨P, d, h1, h2, h3, h4, h5, hcm, hR⟩, hk⟩ := h
  refine (n_sync h4).mono ?_
  rintro r w' ⟨rfl, g1, g2⟩
  have e : d.jsync ⟨2, A, false⟩ = ((d.settle 2, 0), ⟨2, A, false⟩) := by
    unfold Dk.jsync
    rw [if_neg (by simp)]
    have := calm_sync hcm (f := 2) (by decide)
    simp only
    rw [this]
    rfl
  obtain ⟨hcs, -⟩ := sync_good h4.ok (f := 2) (by decide) h5
  rw [e] at hcs g1
  rw [e]
  have hL : Live (d.settle 2) 2 ⟨2, A, false⟩ A A.length := by
    rcases hcs with ⟨-, -, hL, -⟩ | ⟨h8, -⟩
    · exact hL
    · exact absurd rfl h8
  exact ⟨rfl, ⟨P, d.settle 2, h1, h2, vrow_kept h3 h2 g2, g1, hL, ⟨hcm.down, hcm.lost, hcm.calls⟩, hR⟩, out_kept' hk h1 g2⟩

theorem rs_crash (h : RV N w b jb v n xs A k c W) (u : Value) (keep : List Int) (hv : KeepAt W u keep) (hvb : ∀ i, inBlock u i → i < N) (hlen : keep.length ≤ 1099511627776) :
    Calls Tryz.prog 23 #[.pointer (some ⟨b, 0, none⟩), u] W fun r w' => r = .returned (.tuple #[]) ∧ RD N w b v n xs A k c false w' := by
  obtain ⟨⟨P, d, h1, h2, h3, h4, h5, hcm, hR⟩, hk⟩ := h
  refine (m_crash h4.mine u keep hv (fun i hi => h1 i (hvb i hi)) hlen).mono ?_
  rintro r w' ⟨rfl, hm, g2⟩
  have hl : (d.crash keep).lost = d.lost ∧ (d.calls = 0 → (d.crash keep).calls = 0) := by
    rw [Dk.crash]
    split
    · exact ⟨rfl, fun h => h⟩
    · exact ⟨(live_F d _).2.2.2.2.1, fun _ => rfl⟩
  exact ⟨rfl, ⟨P, _, h1, h2, vrow_kept h3 h2 g2, hm, h5.good.crash h4.ok keep, h5.small, hl.1.trans hcm.lost, hl.2 hcm.calls, by simp, by rw [crash_R]; exact hR⟩, out_kept' hk h1 g2⟩

theorem rd_start (h : RD N w b v n xs A k c up W) :
    Calls Tryz.prog 25 #[.pointer (some ⟨b, 0, none⟩)] W fun r w' => r = .returned (.tuple #[]) ∧ RD N w b v n xs A k c true w' := by
  obtain ⟨⟨P, d, h1, h2, h3, h4, h5, h6, h7, h8, -, hR⟩, hk⟩ := h
  refine (m_start h4).mono ?_
  rintro r w' ⟨rfl, hm, g2⟩
  exact ⟨rfl, ⟨P, _, h1, h2, vrow_kept h3 h2 g2, hm, h5.with_ rfl rfl, h6, h7, h8, fun _ => rfl, hR⟩, out_kept' hk h1 g2⟩

theorem rd_open (h : RD N w b v n xs A k c true W) (hE : Env w) (h6N : 6 ≤ N) :
    Calls Tryz.prog 11 #[.pointer (some ⟨b, 0, none⟩), .int .i64 2] W fun r w' => ∃ jb m, r = .returned (.tuple #[.pointer (some ⟨jb, 0, none⟩), .int .i64 0]) ∧ k ≤ m ∧ m ≤ A.length ∧ RV N w b jb v n xs (A.take m) (A.take m).length c w' := by
  obtain ⟨⟨P, d, h1, h2, h3, h4, h5, h6, h7, h8, h9, hR⟩, hk⟩ := h
  have hE2 := env_kept hE hk (fun i hi hn => hn (by omega))
  obtain ⟨m, hm1, hm2, hrec⟩ := h5.read h4.ok h6
  obtain ⟨d', e, hcm, ht, -, hR', hst⟩ := calm_open h4.ok ⟨h9 rfl, h7, h8⟩ (f := 2) (by decide)
  rw [hrec] at e ht hst
  refine (n_open h4 hE2 (fun i hi => h1 i (by omega)) 2 (by decide)).mono ?_
  intro r w' hno
  rw [e] at hno
  obtain ⟨jb, rfl, hJ, hkk⟩ := hno
  have hJ : Jn P w' b d' jb ⟨2, A.take m, false⟩ := hJ
  exact ⟨jb, m, rfl, hm1, hm2, ⟨P, d', h1, h2, vrow_kept h3 h2 hkk, hJ, ⟨good_all hJ.ok hst, fun u hu => h6 u (List.mem_of_mem_take hu), rfl, fun _ => ⟨hcm.down, ht, rfl⟩⟩, hcm, by rw [hR']; exact hR⟩, out_kept' hk h1 hkk⟩

theorem rs_len (h : RV N w b jb v n xs A k c W) : Calls Tryz.prog 37 #[.pointer (some ⟨jb, 0, none⟩)] W fun r w' => r = .returned (.int .i64 (A.length : Int)) ∧ W = w' := by
  obtain ⟨⟨P, d, h1, h2, h3, h4, h5⟩, hk⟩ := h
  exact n_len h4

theorem rs_get (h : RV N w b jb v n xs A k c W) (i : Nat) (s : List UInt8) (hs : A[i]? = some s) : Calls Tryz.prog 38 #[.pointer (some ⟨jb, 0, none⟩), .int .i64 (i : Int)] W fun r w' => r = .returned (.string (bs s)) ∧ W = w' := by
  obtain ⟨⟨P, d, h1, h2, h3, h4, h5⟩, hk⟩ := h
  have h := n_get h4 (i : Int)
  rw [if_neg (by omega), Int.toNat_natCast, List.getD_eq_getElem?_getD, show (⟨2, A, false⟩ : Jr).L = A from rfl, hs] at h
  exact h

theorem RV.later {c' : Nat} (h : RV N w b jb v n xs A k c W) (hc : c ≤ c') : RV N w b jb v n xs A k c' W := by
  obtain ⟨⟨P, d, h1, h2, h3, h4, h5, h6, hR⟩, hk⟩ := h
  exact ⟨⟨P, d, h1, h2, h3, h4, h5, h6, by omega⟩, hk⟩

theorem RV.le (h : RV N w b jb v n xs A k c W) : k ≤ A.length := by
  obtain ⟨⟨P, d, h1, h2, h3, h4, h5, h6, hR⟩, hk⟩ := h
  exact h5.good.kA

end Go.Proofs.YtanecondopbfhaaGreatDoor
