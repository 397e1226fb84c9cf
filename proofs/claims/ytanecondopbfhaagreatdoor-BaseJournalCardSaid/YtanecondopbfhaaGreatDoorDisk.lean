/- The disk in memory; its calls that only read or set one field. -/
import Derived.Test.YtanecondopbfhaaGreatDoorSett
import Derived.Test.YtanecondopbfhaaGreatDoorFacts
namespace Go.Proofs.YtanecondopbfhaaGreatDoor
open Go.RowKit

/-- Where a disk lies: the blocks of its maps, the slice of the sectors to keep, the rank to give next, the ranks. -/
structure Loc where
  mF : Nat
  mD : Nat
  pm : Nat → Nat
  kv : Value
  rank : Nat
  rk : Nat × Nat → Nat

def dcell (L : Loc) (d : Dk) (i : Nat) : Value :=
  if i = 0 then .map (some L.mF) else if i < 17 then .int .i64 (d.F.sz (i - 1)) else if i = 17 then .map (some L.mD) else if i < 34 then .int .i64 (d.D.sz (i - 18)) else
  if i < 50 then .map (some (L.pm (i - 34))) else if i = 50 then .int .i64 L.rank else if i = 51 then .bool d.down else if i = 52 then .int .i64 d.lost else if i = 53 then .int .i64 d.calls else L.kv

/-- A slice that reads as a list of ints. -/
def KeepAt (w : World) (v : Value) (xs : List Int) : Prop :=
  ((∃ a c, v = .slice a 0 c) ∧ xs = []) ∨ ∃ g off cap, v = .slice (some ⟨g, off, none⟩) xs.length cap ∧ g < w.heap.size ∧ ∀ i x, xs[i]? = some x → w.cell? ⟨g, off + i, none⟩ = some (.int .i64 x)

/-- The block that a slice lies in, if it is not empty. -/
def inBlock (v : Value) (i : Nat) : Prop := ∃ o n c, v = .slice (some ⟨i, o, none⟩) (n + 1) c

theorem KeepAt.kept {w w' : World} {v : Value} {xs : List Int} {S : Nat → Prop} (h : KeepAt w v xs) (hk : Kept S w w') (hS : ∀ i, inBlock v i → ¬ S i) : KeepAt w' v xs := by
  rcases h with h | ⟨g, off, cap, hv, hg, hc⟩
  · exact Or.inl h
  · cases xs with
    | nil => exact Or.inl ⟨⟨_, _, hv⟩, rfl⟩
    | cons y ys =>
      refine Or.inr ⟨g, off, cap, hv, Nat.lt_of_lt_of_le hg hk.size, fun i x hx => ?_⟩
      rw [World.cell?_of_block (w := w) (hk.block g hg (hS g ⟨_, _, _, hv⟩))]
      exact hc i x hx

/-- The blocks that a disk's calls write. -/
def Own (b : Nat) (L : Loc) (i : Nat) : Prop := i = b ∨ i = L.mF ∨ i = L.mD ∨ ∃ f, f < 16 ∧ i = L.pm f
def Foot (b : Nat) (L : Loc) (i : Nat) : Prop := Own b L i ∨ inBlock L.kv i

structure IsD (w : World) (b : Nat) (L : Loc) (d : Dk) : Prop where
  cells : isCells w b 77 55 (dcell L d)
  secF : SecAt w L.mF 4194304 d.F.B
  secD : SecAt w L.mD 4194304 d.D.B
  rnk : ∀ f, f < 16 → RankAt w (L.pm f) 262144 (fun n => if (f, n) ∈ d.q then some (L.rk (f, n)) else none)
  kp : KeepAt w L.kv d.keep
  kb : ∀ i, inBlock L.kv i → ¬ Own b L i
  FD : L.mF ≠ L.mD
  pF : ∀ f, f < 16 → L.pm f ≠ L.mF
  pD : ∀ f, f < 16 → L.pm f ≠ L.mD
  pp : ∀ f g, f < 16 → g < 16 → L.pm f = L.pm g → f = g
  inc : d.q.Pairwise (fun x y => L.rk x < L.rk y)
  top : ∀ x ∈ d.q, L.rk x < L.rank
  rR : L.rank ≤ d.R
  Rb : d.R ≤ 549755813888
  lb : d.lost ≤ 9223372036854775807
  cb : d.calls ≤ 9223372036854775807
  kl : d.keep.length ≤ 1099511627776
  ok : d.Ok

variable {w w' : World} {b : Nat} {L : Loc} {d : Dk}

theorem IsD.lt (h : IsD w b L d) : b < w.heap.size := h.cells.lt

theorem IsD.foot (h : IsD w b L d) : ∀ i, Own b L i → i < w.heap.size := by
  rintro i (rfl | rfl | rfl | ⟨f, hf, rfl⟩)
  · exact h.cells.lt
  · exact h.secF.lt
  · exact h.secD.lt
  · exact (h.rnk f hf).lt

theorem IsD.foot_lt (h : IsD w b L d) : ∀ i, Foot b L i → i < w.heap.size := by
  rintro i (hi | ⟨o, n, c, hi⟩)
  · exact h.foot i hi
  · rcases h.kp with ⟨⟨a, c', hv⟩, _⟩ | ⟨g, off, cap, hv, hg, _⟩
    · rw [hv] at hi; simp at hi
    · rw [hv] at hi
      simp at hi
      rw [← hi.1.1]
      exact hg

theorem IsD.kept {S : Nat → Prop} (h : IsD w b L d) (hk : Kept S w w') (hS : ∀ i, Foot b L i → ¬ S i) : IsD w' b L d :=
  { h with
    cells := h.cells.kept hk (hS _ (Or.inl (Or.inl rfl)))
    secF := h.secF.kept hk (hS _ (Or.inl (Or.inr (Or.inl rfl))))
    secD := h.secD.kept hk (hS _ (Or.inl (Or.inr (Or.inr (Or.inl rfl)))))
    rnk := fun f hf => (h.rnk f hf).kept hk (hS _ (Or.inl (Or.inr (Or.inr (Or.inr ⟨f, hf, rfl⟩)))))
    kp := h.kp.kept hk (fun i hi => hS i (Or.inr hi)) }

/-- What a call leaves: the disk, perhaps in other blocks; only its own blocks have turned. -/
def Post (w : World) (b : Nat) (L : Loc) (d' : Dk) (w' : World) : Prop :=
  ∃ L', IsD w' b L' d' ∧ Kept (Own b L) w w' ∧ (∀ i, Own b L' i → Own b L i ∨ w.heap.size ≤ i) ∧ ∀ i, inBlock L'.kv i → inBlock L.kv i ∨ w.heap.size ≤ i

theorem Post.same {d' : Dk} (h' : IsD w' b L d') (hk : Kept (Own b L) w w') : Post w b L d' w' := ⟨L, h', hk, fun _ hi => Or.inl hi, fun _ hi => Or.inl hi⟩

theorem dcell_0 (L : Loc) (d : Dk) : dcell L d 0 = .map (some L.mF) := rfl
theorem dcell_17 (L : Loc) (d : Dk) : dcell L d 17 = .map (some L.mD) := rfl
theorem dcell_F (L : Loc) (d : Dk) (f : Nat) (hf : f < 16) : dcell L d (1 + f) = .int .i64 (d.F.sz f) := by
  unfold dcell
  rw [if_neg (by omega), if_pos (by omega), show 1 + f - 1 = f by omega]
theorem dcell_D (L : Loc) (d : Dk) (f : Nat) (hf : f < 16) : dcell L d (18 + f) = .int .i64 (d.D.sz f) := by
  unfold dcell
  rw [if_neg (by omega), if_neg (by omega), if_neg (by omega), if_pos (by omega), show 18 + f - 18 = f by omega]
theorem dcell_P (L : Loc) (d : Dk) (f : Nat) (hf : f < 16) : dcell L d (34 + f) = .map (some (L.pm f)) := by
  unfold dcell
  rw [if_neg (by omega), if_neg (by omega), if_neg (by omega), if_neg (by omega), if_pos (by omega), show 34 + f - 34 = f by omega]

/-- A field that is neither an image nor the pending sectors is set. -/
theorem IsD.scal (h : IsD w b L d) {d' : Dk} (hF : d'.F = d.F) (hD : d'.D = d.D) (hq : d'.q = d.q) (hR : d'.R = d.R) (hkeep : d'.keep = d.keep) (hlb : d'.lost ≤ 9223372036854775807) (hcb : d'.calls ≤ 9223372036854775807)
    (hc : isCells w' b 77 55 (dcell L d')) (hk : Kept (fun x => x = b) w w') : IsD w' b L d' where
  cells := hc
  secF := by rw [hF]; exact h.secF.kept hk (map_ne_cells h.secF h.cells)
  secD := by rw [hD]; exact h.secD.kept hk (map_ne_cells h.secD h.cells)
  rnk := fun f hf => by
    rw [hq]
    exact (h.rnk f hf).kept hk (fun e => by
      obtain ⟨D, ⟨es, cl, h1, _⟩, _⟩ := h.rnk f hf
      rw [e, h.cells] at h1
      simp at h1)
  kp := by rw [hkeep]; exact h.kp.kept hk (fun i hi e => h.kb i hi (Or.inl e))
  kb := h.kb
  FD := h.FD
  pF := h.pF
  pD := h.pD
  pp := h.pp
  inc := by rw [hq]; exact h.inc
  top := by rw [hq]; exact h.top
  rR := by rw [hR]; exact h.rR
  Rb := by rw [hR]; exact h.Rb
  lb := hlb
  cb := hcb
  kl := by rw [hkeep]; exact h.kl
  ok := h.ok.with_ hF hD hq

theorem own_b : ∀ i, i = b → Own b L i ∨ w.heap.size ≤ i := fun _ e => Or.inl (Or.inl e)

set_option maxRecDepth 100000 in
theorem start_calls (h : IsD w b L d) : Calls Tryz.prog 25 #[.pointer (some ⟨b, 0, none⟩)] w fun e w' => e = .returned (.tuple #[]) ∧ Post w b L d.start w' := by
  have a : w.cell? ⟨b, 51, none⟩ = some (.bool d.down) := h.cells.cell 51 (by omega)
  have f := h.cells.frozen 51
  have H := Lib.hid h
  clear h
  go_enter Tryz.func25, Tryz.ntmps25
  go_wp2_with fail
  go_end0
  have hk := (Kept.refl (fun x => x = b) w).setCell (p := ⟨b, 51, none⟩) (Or.inl rfl) (.bool false)
  refine ⟨rfl, Post.same (H.out.scal (d' := d.start) rfl rfl rfl rfl rfl H.out.lb H.out.cb ((H.out.cells.set 51 (.bool false)).eq ?_) hk) (hk.mono own_b)⟩
  intro i _
  by_cases e : i = 51
  · subst e; rfl
  · simp [upd, e, dcell, Dk.start]

set_option maxRecDepth 100000 in
theorem lose_calls (h : IsD w b L d) (n : Int) (hn : n ≤ 9223372036854775807) : Calls Tryz.prog 19 #[.pointer (some ⟨b, 0, none⟩), .int .i64 n] w fun e w' => e = .returned (.tuple #[]) ∧ Post w b L (d.lose n) w' := by
  have a : w.cell? ⟨b, 52, none⟩ = some (.int .i64 d.lost) := h.cells.cell 52 (by omega)
  have f := h.cells.frozen 52
  have H := Lib.hid h
  clear h
  have hm : max n 0 = ((d.lose n).lost : Int) := by show max n 0 = ((n.toNat : Nat) : Int); omega
  go_enter Tryz.func19, Tryz.ntmps19
  go_wp2_with fail
  go_end0
  have hk := (Kept.refl (fun x => x = b) w).setCell (p := ⟨b, 52, none⟩) (Or.inl rfl) (.int .i64 ((d.lose n).lost : Int))
  refine ⟨rfl, Post.same (H.out.scal (d' := d.lose n) rfl rfl rfl rfl rfl (by show n.toNat ≤ _; omega) H.out.cb ((H.out.cells.set 52 (.int .i64 ((d.lose n).lost : Int))).eq ?_) hk) (hk.mono own_b)⟩
  intro i _
  by_cases e : i = 52
  · subst e; rfl
  · simp [upd, e, dcell, Dk.lose]

set_option maxRecDepth 100000 in
theorem check_calls (h : IsD w b L d) (f : Int) : Calls Tryz.prog 61 #[.pointer (some ⟨b, 0, none⟩), .int .i64 f] w fun e w' => e = .returned (.int .i64 (d.chk f)) ∧ w = w' := by
  have a : w.cell? ⟨b, 51, none⟩ = some (.bool d.down) := h.cells.cell 51 (by omega)
  obtain ⟨r, hr⟩ : ∃ r, r = d.chk f := ⟨_, rfl⟩
  rw [← hr]
  rw [Dk.chk] at hr
  cases hd : d.down with
  | true =>
    rw [hd] at a hr
    rw [if_pos rfl] at hr
    subst hr
    clear h hd
    go_enter Tryz.func61, Tryz.ntmps61
    go_wp2_with fail
    go_ret
    exact ⟨rfl, rfl⟩
  | false =>
    rw [hd] at a hr
    rw [if_neg (by simp)] at hr
    clear h hd
    by_cases h1 : f < 0
    · rw [if_neg (by omega)] at hr
      subst hr
      have d1 : decide (f < 0) = true := decide_eq_true h1
      go_enter Tryz.func61, Tryz.ntmps61
      go_wp2_with fail
      go_ret
      exact ⟨rfl, rfl⟩
    · have d1 : decide (f < 0) = false := decide_eq_false h1
      by_cases h2 : 16 ≤ f
      · rw [if_neg (by omega)] at hr
        subst hr
        have d2 : decide (16 ≤ f) = true := decide_eq_true h2
        go_enter Tryz.func61, Tryz.ntmps61
        go_wp2_with fail
        go_ret
        exact ⟨rfl, rfl⟩
      · rw [if_pos (by omega)] at hr
        subst hr
        have d2 : decide (16 ≤ f) = false := decide_eq_false h2
        go_enter Tryz.func61, Tryz.ntmps61
        go_wp2_with fail
        go_ret
        exact ⟨rfl, rfl⟩

end Go.Proofs.YtanecondopbfhaaGreatDoor
