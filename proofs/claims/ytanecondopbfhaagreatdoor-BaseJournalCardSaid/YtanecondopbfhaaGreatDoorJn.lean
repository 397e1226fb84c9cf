/- A disk and a journal on it that leave a set of blocks alone. -/
import Derived.Test.YtanecondopbfhaaGreatDoorJcalm
namespace Go.Proofs.YtanecondopbfhaaGreatDoor
open Go.RowKit
open Cod (Env)

/-- A disk and a journal on it, in no block of P. -/
def Jn (P : Nat → Prop) (w : World) (b : Nat) (d : Dk) (jb : Nat) (j : Jr) : Prop :=
  ∃ S rv, (∀ i, P i → S i ∧ i ≠ jb ∧ some i ≠ rv.ownBlock) ∧ Mine S w b d ∧ JM 0 S w b jb rv j

variable {w w' : World} {b jb : Nat} {d d' : Dk} {P : Nat → Prop} {j : Jr}

theorem JM.weakB {B : Nat} {S : Nat → Prop} {rv : Value} (h : JM B S w b jb rv j) : JM 0 S w b jb rv j :=
  ⟨h.at_, row_weak h.row (Nat.zero_le _), h.own, h.rown, h.ne, Nat.zero_le _, h.fi, h.ln⟩

theorem Jn.bound (h : Jn P w b d jb j) : ∀ i, P i → i < w.heap.size := by
  obtain ⟨S, rv, hP, ⟨L, _, _, hs⟩, _⟩ := h
  exact fun i hi => hs i (hP i hi).1

theorem Jn.ok (h : Jn P w b d jb j) : d.Ok := by
  obtain ⟨S, rv, hP, hM, _⟩ := h
  exact hM.ok

theorem Jn.mine (h : Jn P w b d jb j) : Mine P w b d := by
  obtain ⟨S, rv, hP, hM, _⟩ := h
  exact hM.weak (fun i hi => (hP i hi).1)

theorem Jn.weak {Q : Nat → Prop} (h : Jn P w b d jb j) (hQ : ∀ i, Q i → P i) : Jn Q w b d jb j := by
  obtain ⟨S, rv, hP, hM, hJ⟩ := h
  exact ⟨S, rv, fun i hi => hP i (hQ i hi), hM, hJ⟩

/-- What was made since is left alone, too. -/
theorem Jn.grow {T : Nat → Prop} (h : Jn P w b d jb j) (hk : Kept T w w') (hT : ∀ i, T i → P i) : Jn (fun i => P i ∨ (w.heap.size ≤ i ∧ i < w'.heap.size)) w' b d jb j := by
  obtain ⟨S, rv, hP, hM, hJ⟩ := h
  refine ⟨_, rv, fun i hi => ?_, hM.grow hk (fun i hi => (hP i (hT i hi)).1), hJ.kept hk (fun i hi => ?_) (fun i hi => Or.inl hi)⟩
  · rcases hi with hi | hi
    · exact ⟨Or.inl (hP i hi).1, (hP i hi).2⟩
    · have h1 := hJ.lt
      refine ⟨Or.inr hi, by omega, fun e => ?_⟩
      have := (row_lt hJ.row i e).2
      omega
  · have := hP i (hT i hi)
    rintro (h1 | h1)
    · exact this.2.1 h1
    · exact this.2.2 h1

/-- A call of the disk. -/
theorem Jn.disk (h : Jn P w b d jb j) : ∃ S : Nat → Prop, (∀ i, P i → S i) ∧ Mine S w b d ∧ ∀ w' d', Mine S w' b d' → Kept (fun i => ¬ S i) w w' → Jn P w' b d' jb j ∧ Kept (fun i => ¬ P i) w w' := by
  obtain ⟨S, rv, hP, hM, hJ⟩ := h
  exact ⟨S, fun i hi => (hP i hi).1, hM, fun w' d' hM' hk => ⟨⟨S, rv, hP, hM', hJ.kept hk hJ.notS (fun _ h => h)⟩, hk.mono (fun i hi => Or.inl (fun hp => hi (hP i hp).1))⟩⟩

/-- What OpenJournal leaves. -/
def NO (P : Nat → Prop) (w : World) (b : Nat) (x : (Dk × Int) × Option Jr) (r : Ending) (w' : World) : Prop :=
  match x.2 with
  | none => r = .returned (.tuple #[.pointer none, .int .i64 x.1.2]) ∧ Mine P w' b x.1.1 ∧ Kept (fun i => ¬ P i) w w'
  | some j => ∃ jb, r = .returned (.tuple #[.pointer (some ⟨jb, 0, none⟩), .int .i64 0]) ∧ Jn P w' b x.1.1 jb j ∧ Kept (fun i => ¬ P i) w w'

theorem n_open (h : Mine P w b d) (hE : Env w) (h6 : ∀ i, i < 6 → P i) (f : Nat) (hf : f < 16) :
    Calls Tryz.prog 11 #[.pointer (some ⟨b, 0, none⟩), .int .i64 (f : Int)] w (NO P w b (d.jopen f)) := by
  refine (open_calls h hE h6 f hf).mono ?_
  intro r w' hj
  obtain ⟨L, _, _, hs⟩ := h
  unfold JO at hj
  unfold NO
  cases hx : (d.jopen f).2 with
  | none => rw [hx] at hj; exact hj
  | some j =>
    rw [hx] at hj
    obtain ⟨jb, rv, S', rfl, hM, hJ, hK, hS⟩ := hj
    refine ⟨jb, rfl, ⟨S', rv, fun i hi => ⟨hS i hi, ?_, fun e => ?_⟩, hM, hJ.weakB⟩, hK⟩
    · have := hs i hi; have := hJ.lo; omega
    · have := hs i hi; have := (row_lt hJ.row i e).1; omega

def NP (P : Nat → Prop) (w : World) (b jb : Nat) (x : (Dk × Int) × Jr) (r : Ending) (w' : World) : Prop :=
  r = .returned (.int .i64 x.1.2) ∧ Jn P w' b x.1.1 jb x.2 ∧ Kept (fun i => ¬ P i) w w'

theorem np_of {S : Nat → Prop} {rv : Value} (hP : ∀ i, P i → S i ∧ i ≠ jb ∧ some i ≠ rv.ownBlock) (hS : ∀ i, S i → i < w.heap.size) {x : (Dk × Int) × Jr} {r : Ending} (h : JP S 0 w b jb rv x r w') : NP P w b jb x r w' := by
  obtain ⟨rfl, rv', S', hM, hJ, hSS, hK, hr⟩ := h
  refine ⟨rfl, ⟨S', rv', fun i hi => ⟨hSS i (hP i hi).1, (hP i hi).2.1, fun e => ?_⟩, hM, hJ⟩, hK.mono (fun i hi => Or.inl (fun hp => ?_))⟩
  · rcases hr i e with h1 | h1
    · exact (hP i hi).2.2 h1
    · have := hS i (hP i hi).1; omega
  · rcases hi with h1 | h1 | h1
    · exact h1 (hP i hp).1
    · exact (hP i hp).2.1 h1
    · exact (hP i hp).2.2 h1

theorem n_append (h : Jn P w b d jb j) (hE : Env w) (s : List UInt8) (hs : s.length ≤ 16777216) (hR : d.R + 1048578 ≤ 549755813888) :
    Calls Tryz.prog 15 #[.pointer (some ⟨jb, 0, none⟩), .string (bs s)] w (NP P w b jb (d.jappend j s)) := by
  obtain ⟨S, rv, hP, hM, hJ⟩ := h
  refine (jappend_calls hM hJ hE s hs hR).mono ?_
  intro r w' hj
  obtain ⟨L, _, _, hs⟩ := hM
  exact np_of hP hs hj

theorem n_sync (h : Jn P w b d jb j) :
    Calls Tryz.prog 17 #[.pointer (some ⟨jb, 0, none⟩)] w (NP P w b jb (d.jsync j)) := by
  obtain ⟨S, rv, hP, hM, hJ⟩ := h
  refine (jsync_calls hM hJ).mono ?_
  intro r w' hj
  obtain ⟨L, _, _, hs⟩ := hM
  exact np_of hP hs hj

theorem n_len (h : Jn P w b d jb j) :
    Calls Tryz.prog 37 #[.pointer (some ⟨jb, 0, none⟩)] w fun r w' => r = .returned (.int .i64 (j.L.length : Int)) ∧ w = w' := by
  obtain ⟨S, rv, hP, hM, hJ⟩ := h
  exact jlen_calls hJ

theorem n_get (h : Jn P w b d jb j) (i : Int) :
    Calls Tryz.prog 38 #[.pointer (some ⟨jb, 0, none⟩), .int .i64 i] w fun r w' => r = .returned (.string (bs (if i < 0 then [] else j.L.getD i.toNat []))) ∧ w = w' := by
  obtain ⟨S, rv, hP, hM, hJ⟩ := h
  exact jget_calls hJ i

theorem n_all (h : Jn P w b d jb j) :
    Calls Tryz.prog 28 #[.pointer (some ⟨jb, 0, none⟩)] w fun r w' => ∃ v, r = .returned v ∧ TRow w.heap.size w' v j.L ∧ Below w.heap.size w w' := by
  obtain ⟨S, rv, hP, hM, hJ⟩ := h
  exact jall_calls hJ

theorem Jn.len_le (h : Jn P w b d jb j) : j.L.length ≤ 16777216 ∧ (forms j.L).length ≤ 16777216 := by
  obtain ⟨S, rv, hP, hM, hJ⟩ := h
  exact ⟨len_bound hJ, hJ.ln⟩

set_option maxHeartbeats 1000000 in
set_option maxRecDepth 100000 in
theorem tsame_eq (u v : Value) (xs : List (List UInt8)) (w : World) (hu : IsTexts u xs w) (hv : IsTexts v xs w) (hn : xs.length ≤ 4294967297) :
    Calls Tryz.prog 27 #[u, v] w fun e w' => e = .returned (.bool true) ∧ ∃ n, w' = w.drewN n := by
  obtain ⟨a, c, rfl⟩ := hu.len
  obtain ⟨b, d, rfl⟩ := hv.len
  have hb : ((xs.length : Int) != (xs.length : Int)) = false := by simp
  go_enter Tryz.func27, Tryz.ntmps27
  go_wp2
  go_loopw [5] (fun i wr => ∃ k : Nat, k ≤ xs.length ∧ i = .int .i64 k ∧ ∃ n, wr = w.drewN n) (fun i _ => xs.length - (intOf i).toNat)
  case atStart => exact ⟨0, Nat.zero_le _, rfl, 0, rfl⟩
  case round =>
    obtain ⟨k, hk, rfl, n, rfl⟩ := hrel
    by_cases hlt : k < xs.length
    · obtain ⟨b1, o1, rfl, hb1, hc1⟩ := hu.at k hlt
      obtain ⟨b2, o2, rfl, hb2, hc2⟩ := hv.at k hlt
      have e1 := hc1 k xs[k] (List.getElem?_eq_getElem hlt)
      have e2 := hc2 k xs[k] (List.getElem?_eq_getElem hlt)
      clear hc1 hc2 hu hv
      have hlI : (k : Int) < (xs.length : Int) := by omega
      have hx : ((bs xs[k]).toList == (bs xs[k]).toList) = true := by simp
      go_wp2
      go_quiet (fail)
      go_wp2
      go_roundw
      case rel => exact ⟨k + 1, by omega, by go_num, _, rfl⟩
      case measure => simp [intOf]; omega
    · go_wp2
      go_ret
      exact ⟨rfl, n, rfl⟩

end Go.Proofs.YtanecondopbfhaaGreatDoor
