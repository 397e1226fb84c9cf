/- The reference's disk in memory; get. -/
import Derived.Test.YtbljfdjhgleafaaRPut
namespace Go.Proofs.Ytbljfdjhgleafaa
open Go.RowKit

def rfc (fs : List Rf) : List Value := fs.flatMap fun x => [.int .i64 x.n, .string (bs x.now), .string (bs x.last)]
def rfv (x : Rf) : List Value := [.int .i64 x.n, .string (bs x.now), .string (bs x.last)]

theorem rfc_length (l : List Rf) : (rfc l).length = l.length * 3 := by
  induction l with
  | nil => rfl
  | cons x l ih => simp only [rfc, List.flatMap_cons, List.length_append] at ih ⊢; rw [ih]; simp; omega

theorem rfc_get : ∀ (l : List Rf) (i : Nat) (x : Rf), l[i]? = some x → ∀ j v, (rfv x)[j]? = some v → (rfc l)[3 * i + j]? = some v
  | [], i, x, h => by simp at h
  | y :: l, 0, x, h => by
    intro j v hv
    simp at h
    subst h
    show (rfv y ++ rfc l)[3 * 0 + j]? = _
    rw [List.getElem?_append_left (by have := (List.getElem?_eq_some_iff.1 hv).1; omega)]
    simpa using hv
  | y :: l, i + 1, x, h => by
    intro j v hv
    have := rfc_get l i x (by simpa using h) j v hv
    show (rfv y ++ rfc l)[3 * (i + 1) + j]? = _
    have hl : (rfv y).length = 3 := rfl
    rw [List.getElem?_append_right (by omega), hl, show 3 * (i + 1) + j - 3 = 3 * i + j by omega]
    exact this

/-- Where a reference disk lies: the slices of its files, of its sectors, and of those to keep. -/
structure RL where
  fv : Value
  qv : Value
  kv : Value

def rcell (L : RL) (r : Rk) (i : Nat) : Value :=
  if i = 0 then L.fv else if i = 1 then L.qv else if i = 2 then .int .i64 r.lost else if i = 3 then .bool r.down else if i = 4 then .int .i64 r.armed else L.kv

structure IsR (w : World) (b : Nat) (L : RL) (r : Rk) : Prop where
  cells : isCells w b 61 6 (rcell L r)
  fs : w.ownsRow 0 65 3 L.fv r.fs.length (rfc r.fs)
  qs : w.ownsRow 0 81 2 L.qv r.q.length (plCells r.q)
  ks : w.ownsRow 0 3 1 L.kv r.keep.length (r.keep.map (Value.int .i64))
  lb : r.lost ≤ 9223372036854775807
  cb : r.armed ≤ 9223372036854775807

def RFoot (b : Nat) (L : RL) (i : Nat) : Prop := i = b ∨ L.fv.ownBlock = some i ∨ L.qv.ownBlock = some i ∨ L.kv.ownBlock = some i

variable {w w' : World} {b : Nat} {L : RL} {r r' : Rk} {S : Nat → Prop}

theorem owns_kept {B : Nat} {e : TypeId} {size n : Nat} {v : Value} {xs : List Value} (h : w.ownsRow B e size v n xs) (hk : Kept S w w') (hS : ∀ i, v.ownBlock = some i → ¬ S i) : w'.ownsRow B e size v n xs := by
  obtain ⟨hl, h0 | ⟨g, cap, cur, rfl, hg, hh, rest⟩⟩ := h
  · exact ⟨hl, .inl h0⟩
  · exact ⟨hl, .inr ⟨g, cap, cur, rfl, hg, (hk.block g (Array.getElem?_eq_some_iff.1 hh).1 (hS g rfl)).trans hh, rest⟩⟩

theorem owns_lt {B : Nat} {e : TypeId} {size n : Nat} {v : Value} {xs : List Value} (h : w.ownsRow B e size v n xs) {i : Nat} (hi : v.ownBlock = some i) : i < w.heap.size := (h.lt i hi).2

/-- Rows of different types lie in different blocks. -/
theorem owns_ne_cells {B n : Nat} {e T : TypeId} {size m : Nat} {v : Value} {xs : List Value} {c : Nat → Value} (h : w.ownsRow B e size v m xs) (hc : isCells w b T n c) (hT : e ≠ T) : v.ownBlock ≠ some b := by
  intro hi
  obtain ⟨cur, h1, _⟩ := owns_block h hi
  rw [hc] at h1
  simp at h1
  exact hT h1.2.symm

theorem owns_ne_owns {B B' : Nat} {e e' : TypeId} {size size' m m' : Nat} {v v' : Value} {xs xs' : List Value} (h : w.ownsRow B e size v m xs) (h' : w.ownsRow B' e' size' v' m' xs') (hT : e ≠ e') {i : Nat} (hi : v.ownBlock = some i) : v'.ownBlock ≠ some i := by
  intro hi'
  obtain ⟨cur, h1, _⟩ := owns_block h hi
  obtain ⟨cur', h2, _⟩ := owns_block h' hi'
  rw [h1] at h2
  simp at h2
  exact hT h2.2

theorem IsR.lt (h : IsR w b L r) : b < w.heap.size := h.cells.lt

theorem IsR.foot_lt (h : IsR w b L r) : ∀ i, RFoot b L i → i < w.heap.size := by
  rintro i (rfl | hi | hi | hi)
  · exact h.lt
  · exact owns_lt h.fs hi
  · exact owns_lt h.qs hi
  · exact owns_lt h.ks hi

theorem IsR.kept (h : IsR w b L r) (hk : Kept S w w') (hS : ∀ i, RFoot b L i → ¬ S i) : IsR w' b L r :=
  ⟨h.cells.kept hk (hS _ (Or.inl rfl)), owns_kept h.fs hk (fun i hi => hS i (Or.inr (Or.inl hi))), owns_kept h.qs hk (fun i hi => hS i (Or.inr (Or.inr (Or.inl hi)))), owns_kept h.ks hk (fun i hi => hS i (Or.inr (Or.inr (Or.inr hi)))), h.lb, h.cb⟩

theorem File_ne_Disk : (65 : TypeId) ≠ 61 := by decide
theorem Sector_ne_Disk : (81 : TypeId) ≠ 61 := by decide
theorem int_ne_Disk : (3 : TypeId) ≠ 61 := by decide
theorem Sector_ne_File : (81 : TypeId) ≠ 65 := by decide
theorem Sector_ne_int : (81 : TypeId) ≠ 3 := by decide

/-- Only the disk's own cells turn. -/
theorem IsR.cell (h : IsR w b L r) {r' : Rk} (hf : r'.fs = r.fs) (hq : r'.q = r.q) (hkeep : r'.keep = r.keep) (hlb : r'.lost ≤ 9223372036854775807) (hcb : r'.armed ≤ 9223372036854775807) (hc : isCells w' b 61 6 (rcell L r'))
    (hk : Kept (fun x => x = b) w w') : IsR w' b L r' :=
  ⟨hc, by rw [hf]; exact owns_kept h.fs hk (fun i hi e => owns_ne_cells h.fs h.cells File_ne_Disk (e ▸ hi)), by rw [hq]; exact owns_kept h.qs hk (fun i hi e => owns_ne_cells h.qs h.cells Sector_ne_Disk (e ▸ hi)),
    by rw [hkeep]; exact owns_kept h.ks hk (fun i hi e => owns_ne_cells h.ks h.cells int_ne_Disk (e ▸ hi)), hlb, hcb⟩

def PostR (T : Nat → Prop) (w : World) (b : Nat) (L : RL) (r' : Rk) (w' : World) : Prop :=
  ∃ L', IsR w' b L' r' ∧ Kept T w w' ∧ ∀ i, RFoot b L' i → RFoot b L i ∨ w.heap.size ≤ i

/-- The reference disk r at block b, in no block of S. -/
def MineR (S : Nat → Prop) (w : World) (b : Nat) (r : Rk) : Prop := ∃ L, IsR w b L r ∧ (∀ i, RFoot b L i → ¬ S i) ∧ ∀ i, S i → i < w.heap.size

theorem MineR.post {T : Nat → Prop} (hf : ∀ i, RFoot b L i → ¬ S i) (hs : ∀ i, S i → i < w.heap.size) (hT : ∀ i, T i → RFoot b L i) (h : PostR T w b L r' w') : MineR S w' b r' ∧ Kept (fun i => ¬ S i) w w' := by
  obtain ⟨L', hi, hk, ho⟩ := h
  refine ⟨⟨L', hi, fun i hfi hSi => ?_, fun i hSi => Nat.lt_of_lt_of_le (hs i hSi) hk.size⟩, hk.mono (fun i hi => Or.inl (hf i (hT i hi)))⟩
  have h1 := hs i hSi
  rcases ho i hfi with h2 | h2
  · exact hf i h2 hSi
  · omega

theorem MineR.kept {T : Nat → Prop} (h : MineR S w b r) (hk : Kept T w w') (hT : ∀ i, T i → S i ∨ w.heap.size ≤ i) : MineR S w' b r := by
  obtain ⟨L, hi, hf, hs⟩ := h
  refine ⟨L, hi.kept hk (fun i hfi hTi => ?_), hf, fun i hSi => Nat.lt_of_lt_of_le (hs i hSi) hk.size⟩
  rcases hT i hTi with h1 | h1
  · exact hf i hfi h1
  · have := hi.foot_lt i hfi
    omega

theorem MineR.weak {S' : Nat → Prop} (h : MineR S w b r) (hs : ∀ i, S' i → S i) : MineR S' w b r := by
  obtain ⟨L, hi, hf, hS⟩ := h
  exact ⟨L, hi, fun i h1 h2 => hf i h1 (hs i h2), fun i h1 => hS i (hs i h1)⟩

/-- The slice of the files. -/
theorem IsR.file (h : IsR w b L r) : ∃ a cap, L.fv = .slice a r.fs.length cap ∧ ∀ k x, r.fs[k]? = some x → ∃ g, a = some ⟨g, 0, none⟩ ∧ g < w.heap.size ∧ g ≠ b ∧ ∀ j v, (rfv x)[j]? = some v → w.cell? ⟨g, k * 3 + j, none⟩ = some v := by
  have hfs := h.fs
  have hne := owns_ne_cells h.fs h.cells File_ne_Disk
  obtain ⟨hl, ⟨hv, h0⟩ | ⟨g, cap, cur, hv, hg, hh, rest⟩⟩ := h.fs
  · refine ⟨none, 0, by rw [hv, h0], fun k x hx => ?_⟩
    have := (List.getElem?_eq_some_iff.1 hx).1
    omega
  · refine ⟨some ⟨g, 0, none⟩, cap, hv, fun k x hx => ⟨g, rfl, (Array.getElem?_eq_some_iff.1 hh).1, fun e => hne (by rw [hv, e]; rfl), fun j v hj => ?_⟩⟩
    have hk := (List.getElem?_eq_some_iff.1 hx).1
    have hj3 : j < 3 := (List.getElem?_eq_some_iff.1 hj).1
    rw [hv] at hfs
    rw [hfs.cellAt _ (by omega)]
    rw [show k * 3 + j = 3 * k + j by omega]
    exact rfc_get r.fs k x hx j v hj

theorem getF_step (fs : List Rf) (f : Int) (k : Nat) (x : Rf) (hx : fs[k]? = some x) : getF (fs.drop k) f = if x.n = f then x else getF (fs.drop (k + 1)) f := by
  have hk := (List.getElem?_eq_some_iff.1 hx).1
  have he := (List.getElem?_eq_some_iff.1 hx).2
  rw [List.drop_eq_getElem_cons hk, he, getF]

theorem range_rfv {g o : Nat} {x : Rf} (h : ∀ j v, (rfv x)[j]? = some v → w.cell? ⟨g, o + j, none⟩ = some v) : w.rangeAt g o (rfv x) := h

set_option maxHeartbeats 1000000 in
set_option maxRecDepth 100000 in
theorem rget_calls (h : IsR w b L r) (hn : r.fs.length ≤ 1000000) (f : Int) :
    Calls Try.prog 39 #[.pointer (some ⟨b, 0, none⟩), .int .i64 f] w fun e w' => e = .returned (.agg #[.int .i64 (getF r.fs f).n, .string (bs (getF r.fs f).now), .string (bs (getF r.fs f).last)]) ∧ Below w.heap.size w w' := by
  obtain ⟨a, cap, hfv, hel⟩ := h.file
  have hlt := h.lt
  have c0 : w.cell? ⟨b, 0, none⟩ = some (.slice a r.fs.length cap) := by rw [h.cells.cell 0 (by omega), ← hfv]; rfl
  obtain ⟨fs, hfs⟩ : ∃ fs, fs = r.fs := ⟨_, rfl⟩
  rw [← hfs] at c0 hel hn ⊢
  have HEL := Lib.hid hel
  clear h hfv hel hfs
  have hG0 : Hid (getF fs f = getF (fs.drop 0) f) := rfl
  obtain ⟨G, hG⟩ : ∃ G, G = getF fs f := ⟨_, rfl⟩
  rw [← hG] at hG0 ⊢
  clear hG
  go_enter Try.func39, Try.ntmps39
  go_wp2_with fail
  go_loopw [5] (fun i wr => ∃ k : Nat, k ≤ fs.length ∧ i = .int .i64 k ∧ wr = w.alloc (.cells #[.int .i64 0, .string (bs []), .string (bs [])] 65) ∧ Hid (G = getF (fs.drop k) f)) (fun i _ => 1000001 - (intOf i).toNat)
  case atStart => exact ⟨0, by omega, rfl, rfl, hG0⟩
  case round =>
    clear hG0
    obtain ⟨k, hk, rfl, rfl, hg⟩ := hrel
    by_cases hlt2 : k < fs.length
    · obtain ⟨x, hx⟩ : ∃ x, fs[k]? = some x := ⟨_, List.getElem?_eq_getElem hlt2⟩
      obtain ⟨g, rfl, hgw, hgb, hc⟩ := HEL.out k x hx
      have hst := Lib.hid (hg.out.trans (getF_step fs f k x hx))
      have a0 := hc 0 _ rfl
      simp only [Nat.add_zero] at a0
      have HRG := Lib.hid ((World.rangeAt_alloc (range_rfv hc)) (.cells #[.int .i64 0, .string (bs []), .string (bs [])] 65))
      have d2 : (k : Int) < (fs.length : Int) := by omega
      clear hc hx hg
      by_cases hxf : x.n = f
      · have d3 : (x.n == f) = true := by simpa using hxf
        go_wp2_with (refine wpList_load_mid rfl 65 _ rfl g (k * 3) rfl [.int .i64 x.n, .string (bs x.now), .string (bs x.last)] _ HRG.out Try.underlying65 rfl (by kernel_rfl) ?_)
        have hgx : G = x := by have := hst.out; rwa [if_pos hxf] at this
        exact bodyPost_ret (v := .agg #[.int .i64 f, .string (bs x.now), .string (bs x.last)]) (by simp [results, Try.results39, go_sem]) rfl ⟨by rw [hgx, hxf], (Below.refl _ _).alloc (Nat.le_refl _) _⟩
      · have d3 : (x.n == f) = false := by simpa using hxf
        go_wp2_with fail
        go_roundw
        case rel => exact ⟨k + 1, by omega, by go_num, trivial, by have := hst.out; rwa [if_neg hxf] at this⟩
        case measure => simp [intOf]; omega
    · obtain rfl : k = fs.length := by omega
      have hge : G = ⟨f, [], []⟩ := by have := hg.out; rwa [List.drop_length] at this
      have HGE := Lib.hid hge
      clear hg hge
      go_wp2_with fail
      have hge2 := HGE.out
      subst hge2
      exact bodyPost_ret (v := .agg #[.int .i64 f, .string (bs []), .string (bs [])]) (by simp [results, Try.results39, go_sem, bs]) rfl ⟨rfl, (Below.refl _ _).alloc (Nat.le_refl _) _⟩

end Go.Proofs.Ytbljfdjhgleafaa
