/- Blocks of cells known as functions; maps of sectors and of ranks in memory. -/
import Derived.Test.YtanecondopbfhaaGreatDoorPure
import Derived.Test.YtanecondopbfhaaGreatDoorProg
import Derived.WalkKit
import Derived.Maps.OwnSet
import Derived.Maps.OwnOps
import Derived.Maps.RangeWalk
import Derived.DeepKeys5
import Derived.Lib.Hide
namespace Go.Proofs.YtanecondopbfhaaGreatDoor
open Go.RowKit Go.Maps

/-! ### What a call leaves alone -/

/-- Of the blocks that were there only those of S may have turned; the streams are as they were. -/
structure Kept (S : Nat → Prop) (w w' : World) : Prop where
  os : w'.os = w.os
  tape : w'.tape = w.tape
  output : w'.output = w.output
  size : w.heap.size ≤ w'.heap.size
  block : ∀ k, k < w.heap.size → ¬ S k → w'.heap[k]? = w.heap[k]?

theorem Kept.refl (S : Nat → Prop) (w : World) : Kept S w w := ⟨rfl, rfl, rfl, Nat.le_refl _, fun _ _ _ => rfl⟩

theorem Kept.trans {S : Nat → Prop} {a b c : World} (h : Kept S a b) (k : Kept S b c) : Kept S a c :=
  ⟨k.os.trans h.os, k.tape.trans h.tape, k.output.trans h.output, Nat.le_trans h.size k.size, fun i hi hS => (k.block i (Nat.lt_of_lt_of_le hi h.size) hS).trans (h.block i hi hS)⟩

/-- Behind a first step the second one may also turn what the first one has made. -/
theorem Kept.andThen {S T : Nat → Prop} {a b c : World} (h : Kept S a b) (k : Kept T b c) (hT : ∀ i, T i → S i ∨ a.heap.size ≤ i) : Kept S a c :=
  ⟨k.os.trans h.os, k.tape.trans h.tape, k.output.trans h.output, Nat.le_trans h.size k.size, fun i hi hS =>
    (k.block i (Nat.lt_of_lt_of_le hi h.size) (fun hti => (hT i hti).elim hS (fun hge => absurd hi (Nat.not_lt.2 hge)))).trans (h.block i hi hS)⟩

theorem Kept.mono {S T : Nat → Prop} {w w' : World} (h : Kept S w w') (hT : ∀ i, S i → T i ∨ w.heap.size ≤ i) : Kept T w w' :=
  ⟨h.os, h.tape, h.output, h.size, fun k hk hn => h.block k hk (fun hs => (hT k hs).elim hn (fun hge => absurd hk (Nat.not_lt.2 hge)))⟩

theorem Kept.drew {S : Nat → Prop} {a w : World} (h : Kept S a w) : Kept S a w.drew := ⟨h.os, h.tape, h.output, h.size, h.block⟩

theorem Kept.alloc {S : Nat → Prop} {a w : World} (h : Kept S a w) (o : Obj) : Kept S a (w.alloc o) :=
  h.trans ⟨rfl, rfl, rfl, by simp, fun k hk _ => Below.heap_alloc _ _ _ hk⟩

theorem Kept.setCell {S : Nat → Prop} {a w : World} (h : Kept S a w) {p : Addr} (hp : S p.block ∨ a.heap.size ≤ p.block) (u : Value) : Kept S a (w.setCell p u) :=
  ⟨h.os, h.tape, h.output, by simp [World.setCell]; exact h.size, fun k hk hn => by
    rw [Below.heap_setCell _ _ _ _ (fun e => by
      rcases hp with hp | hp
      · exact hn (e ▸ hp)
      · omega)]
    exact h.block k hk hn⟩

theorem Kept.grown {S : Nat → Prop} {a w w' : World} {row : Option Nat} (h : Kept S a w) (hg : w.grownBy w' row) (hr : ∀ k, row = some k → S k ∨ a.heap.size ≤ k) : Kept S a w' :=
  h.andThen (T := fun k => row = some k) ⟨hg.os, hg.tape, hg.output, hg.size, fun k hk hn => hg.block k hk (fun e => hn e.symm)⟩ hr

theorem Below.kept {B : Nat} {w w' : World} (h : Below B w w') : Kept (fun k => B ≤ k) w w' :=
  ⟨h.os, h.tape, h.output, h.size, fun k _ hn => h.block k (Nat.lt_of_not_le hn)⟩

theorem Kept.below {S : Nat → Prop} {w w' : World} (h : Kept S w w') {B : Nat} (hB : B ≤ w.heap.size) (hS : ∀ k, S k → B ≤ k) : Below B w w' :=
  ⟨h.os, h.tape, h.output, h.size, fun k hk => h.block k (Nat.lt_of_lt_of_le hk hB) (fun hs => absurd (hS k hs) (Nat.not_le.2 hk))⟩

/-! ### Blocks of cells as functions -/

/-- Block b has n cells of type T, c i at i. -/
def isCells (w : World) (b : Nat) (T : TypeId) (n : Nat) (c : Nat → Value) : Prop := w.heap[b]? = some (.cells ((List.range n).map c).toArray T (0, 0))

def upd (c : Nat → Value) (i : Nat) (v : Value) : Nat → Value := fun j => if j = i then v else c j

variable {w : World} {b n : Nat} {T : TypeId} {c : Nat → Value}

theorem isCells.lt (h : isCells w b T n c) : b < w.heap.size := (Array.getElem?_eq_some_iff.1 h).1

theorem isCells.cell (h : isCells w b T n c) (i : Nat) (hi : i < n) : w.cell? ⟨b, i, none⟩ = some (c i) := by
  unfold isCells at h
  unfold World.cell?
  simp [h, hi]

theorem isCells.frozen (h : isCells w b T n c) (i : Nat) : w.frozen? ⟨b, i, none⟩ = false := by
  unfold isCells at h
  unfold World.frozen?
  simp [h]

theorem isCells.same {w' : World} (h : isCells w b T n c) (hb : w'.heap[b]? = w.heap[b]?) : isCells w' b T n c := hb.trans h

theorem isCells.kept {w' : World} {S : Nat → Prop} (h : isCells w b T n c) (hk : Kept S w w') (hS : ¬ S b) : isCells w' b T n c := h.same (hk.block b h.lt hS)

theorem isCells.eq {c' : Nat → Value} (h : isCells w b T n c) (he : ∀ i, i < n → c' i = c i) : isCells w b T n c' := by
  unfold isCells at h ⊢
  rw [h]
  congr 3
  refine List.map_congr_left ?_
  intro i hi
  exact (he i (List.mem_range.1 hi)).symm

theorem isCells.set (h : isCells w b T n c) (i : Nat) (v : Value) : isCells (w.setCell ⟨b, i, none⟩ v) b T n (upd c i v) := by
  unfold isCells at h ⊢
  simp only [World.setCell, Array.getElem?_modify, if_true, h, Option.map_some]
  congr 2
  apply Array.ext
  · simp
  · intro j h1 h2
    simp only [List.getElem_toArray, List.getElem_map, List.getElem_range, upd]
    by_cases e : i = j
    · subst e; simp
    · simp [e, Ne.symm e]

theorem isCells.alloc (h : isCells w b T n c) (o : Obj) : isCells (w.alloc o) b T n c := h.same (Below.heap_alloc _ _ _ h.lt)

theorem isCells.made (w : World) (T : TypeId) (n : Nat) (c : Nat → Value) (l : Array Value) (hl : l = ((List.range n).map c).toArray) : isCells (w.alloc (.cells l T)) w.heap.size T n c := by
  subst hl
  exact (MapKept.heap_alloc w _).1

/-! ### Sectors as values -/

def secV (l : List UInt8) : Value := .agg (l.map fun x => Value.int .u8 x.toNat).toArray

def decV : List Value → Option (List UInt8)
  | [] => some []
  | .int .u8 x :: r => if 0 ≤ x ∧ x < 256 then (decV r).map (UInt8.ofNat x.toNat :: ·) else none
  | _ :: _ => none

theorem decV_enc : ∀ l : List UInt8, decV (l.map fun x => Value.int .u8 x.toNat) = some l
  | [] => rfl
  | x :: l => by
    have := x.toNat_lt
    simp only [List.map_cons, decV, decV_enc l]
    rw [if_pos ⟨by omega, by omega⟩]
    simp

theorem decV_inv : ∀ (r : List Value) (l : List UInt8), decV r = some l → r = l.map fun x => Value.int .u8 x.toNat
  | [], l, h => by simp [decV] at h; subst h; rfl
  | .int .u8 x :: r, l, h => by
    simp only [decV] at h
    split at h
    · rename_i hx
      obtain ⟨t, ht, rfl⟩ := Option.map_eq_some_iff.1 h
      have := decV_inv r t ht
      subst this
      simp only [List.map_cons, List.cons.injEq, and_true, Value.int.injEq, true_and]
      rw [UInt8.toNat_ofNat']
      omega
    · exact absurd h (by simp)

def secR : Value → Option (DataW Unit × List MemPlace)
  | .agg cs => match decV cs.toList with
    | some l => if l.length = 64 then some (.lit (.string l), []) else none
    | none => none
  | _ => none

theorem secR_mk {l : List UInt8} (h : l.length = 64) : secR (secV l) = some (.lit (.string l), []) := by
  simp [secR, secV, decV_enc, h]

theorem secR_inv {v : Value} {l : List UInt8} {ps : List MemPlace} (h : secR v = some (.lit (.string l), ps)) : v = secV l ∧ l.length = 64 := by
  unfold secR at h
  split at h
  · rename_i cs
    split at h
    · rename_i t ht
      split at h
      · rename_i hl
        simp at h
        obtain ⟨rfl, _⟩ := h
        refine ⟨?_, hl⟩
        have := decV_inv _ _ ht
        unfold secV
        rw [← this]
      · exact absurd h (by simp)
    · exact absurd h (by simp)
  · exact absurd h (by simp)

def zeros : List UInt8 := List.replicate 64 0

/-- The bytes of sector k of the file f. -/
def sec (B : Nat → Nat → UInt8) (f k : Nat) : List UInt8 := (List.range 64).map fun i => B f (64 * k + i)

theorem sec_length (B : Nat → Nat → UInt8) (f k : Nat) : (sec B f k).length = 64 := by simp [sec]

/-! ### Places as keys -/

def pk (f k : Int) : Value := .agg #[.int .i64 f, .int .i64 k]
def klit (f k : Int) : Lit := .string (keyBytes [.int .i64 f, .int .i64 k])

theorem laidOut : laidOutB Tryz.prog = true := by kernel_rfl
theorem rowPlace : (95 : TypeId) < Tryz.prog.types.size := of_decide_eq_true (by kernel_rfl)
theorem keyedPlace : Keyed Tryz.prog 95 := Keyed.of_law (deep_law_laid laidOut (m := 2) (by omega) rowPlace (by kernel_rfl) (by rw [Tryz.underlying95]))
theorem keyedInt : Keyed Tryz.prog 3 := int_keyed Tryz.underlying3
theorem cellsPlace : Tryz.prog.cellsOf 95 = 2 := by kernel_rfl
theorem keyTypePlace : Tryz.prog.keyType 95 = true := by kernel_rfl

end Go.Proofs.YtanecondopbfhaaGreatDoor
