/- Rows of ints in memory, what scaling and subtracting do to one. -/
import Derived.Test.YtdeeoigcpihidaaDoorRow
import Derived.Deep.Draws
namespace Go.Proofs.YtdeeoigcpihidaaDoor
open Go.RowKit

theorem below_one (w : World) (o : Obj) : Below w.heap.size w (w.alloc o) := (Below.refl _ _).alloc (Nat.le_refl _) o
/-- Only one block may have changed. -/
structure Upd (b : Nat) (w w' : World) : Prop where
  os : w'.os = w.os
  tape : w'.tape = w.tape
  output : w'.output = w.output
  size : w'.heap.size = w.heap.size
  block : ∀ k, k ≠ b → w'.heap[k]? = w.heap[k]?
theorem Upd.refl (b : Nat) (w : World) : Upd b w w := ⟨rfl, rfl, rfl, rfl, fun _ _ => rfl⟩
theorem Upd.trans {b : Nat} {w w' w'' : World} (h : Upd b w w') (k : Upd b w' w'') : Upd b w w'' :=
  ⟨k.os.trans h.os, k.tape.trans h.tape, k.output.trans h.output, k.size.trans h.size, fun i hi => (k.block i hi).trans (h.block i hi)⟩
theorem Upd.setCell {b : Nat} {w w' : World} (h : Upd b w w') (i : Nat) (v : Value) : Upd b w (w'.setCell ⟨b, i, none⟩ v) :=
  h.trans ⟨rfl, rfl, rfl, by simp [World.setCell], fun k hk => Below.heap_setCell w' ⟨b, i, none⟩ v k hk⟩
theorem Upd.drewN {b : Nat} {w w' : World} (h : Upd b w w') (n : Nat) : Upd b w (w'.drewN n) := ⟨h.os, h.tape, h.output, h.size, h.block⟩
theorem Upd.below {b B : Nat} {w w' : World} (h : Upd b w w') (hB : B ≤ b) : Below B w w' := ⟨h.os, h.tape, h.output, Nat.le_of_eq h.size.symm, fun k hk => h.block k (by omega)⟩
/-- A row of ints that may be written. -/
structure RowAt (b c : Nat) (f : Nat → Int) (w : World) : Prop where
  lt : b < w.heap.size
  at' : ∀ j, j < c → w.cell? ⟨b, j, none⟩ = some (.int .i64 (f j))
  fz : ∀ j, w.frozen? ⟨b, j, none⟩ = false
theorem RowAt.of {b c : Nat} {f : Nat → Int} {w w' : World} (h : RowAt b c f w) (e : w'.heap[b]? = w.heap[b]?) (hs : w.heap.size ≤ w'.heap.size) : RowAt b c f w' :=
  ⟨Nat.lt_of_lt_of_le h.lt hs, fun j hj => by rw [World.cell?_of_block (a := ⟨b, j, none⟩) e]; exact h.at' j hj, fun j => by rw [World.frozen?_of_block (a := ⟨b, j, none⟩) e]; exact h.fz j⟩
theorem RowAt.upd {b b' c : Nat} {f : Nat → Int} {w w' : World} (h : RowAt b c f w) (hu : Upd b' w w') (hne : b ≠ b') : RowAt b c f w' := h.of (hu.block b hne) (Nat.le_of_eq hu.size.symm)
theorem RowAt.next {b c : Nat} {f : Nat → Int} {w w' : World} (h : RowAt b c f w) (hb : Below w.heap.size w w') : RowAt b c f w' := h.of (hb.block b h.lt) hb.size
theorem RowAt.congr {b c : Nat} {f g : Nat → Int} {w : World} (h : RowAt b c f w) (e : ∀ j, j < c → f j = g j) : RowAt b c g w := ⟨h.lt, fun j hj => by rw [← e j hj]; exact h.at' j hj, h.fz⟩
theorem RowAt.set {b c : Nat} {f : Nat → Int} {w : World} (h : RowAt b c f w) (i : Nat) (hi : i < c) (x : Int) : RowAt b c (fun j => if j = i then x else f j) (w.setCell ⟨b, i, none⟩ (.int .i64 x)) := by
  refine ⟨by simpa [World.setCell] using h.lt, fun j hj => ?_, fun j => ?_⟩
  · by_cases hij : j = i
    · subst hij
      rw [World.cell?_setCell_same _ _ _ (h.at' j hj), if_pos rfl]
    · have hne : (⟨b, i, none⟩ : Addr) ≠ ⟨b, j, none⟩ := fun e => hij (congrArg Addr.off e).symm
      rw [World.cell?_setCell_other _ _ _ _ hne, h.at' j hj, if_neg hij]
  · rw [World.frozen?_setCell]; exact h.fz j
theorem RowAt.drewN {b c : Nat} {f : Nat → Int} {w : World} (h : RowAt b c f w) (n : Nat) : RowAt b c f (w.drewN n) := ⟨h.lt, h.at', h.fz⟩
/-- A residue. -/
def inR (q x : Int) : Prop := 0 ≤ x ∧ x < q
theorem inR.int {q x : Int} (h : inR q x) (hq : isMod q) : isInt x := by
  unfold inR at h; unfold isMod at hq; unfold isInt; omega
theorem mulZ_inR {q : Int} (hq : isMod q) (a b : Int) : inR q (mulZ q a b) := by
  unfold mulZ; rw [if_pos hq]; exact res_in q _ hq
theorem multiply_calls (q a f : Int) (hq : isMod q) (ha : inR q a) (hf : inR q f) (w : World) :
    Calls Tryd.prog 58 #[.int .i64 q, .int .i64 a, .int .i64 f] w (Ret (.int .i64 (mulZ q a f)) w) := by
  obtain ⟨h1, h2⟩ := hq
  obtain ⟨h3, h4⟩ := ha
  obtain ⟨h5, h6⟩ := hf
  have h := mult_calls q.toNat a.toNat f.toNat (by omega) (by omega) (by omega) w
  rw [show ((q.toNat : Nat) : Int) = q by omega, show ((a.toNat : Nat) : Int) = a by omega, show ((f.toNat : Nat) : Int) = f by omega] at h
  rw [show mulZ q a f = ((a.toNat * f.toNat % q.toNat : Nat) : Int) by
    unfold mulZ; rw [if_pos ⟨h1, h2⟩, Int.natCast_emod, Int.natCast_mul, show ((q.toNat : Nat) : Int) = q by omega, show ((a.toNat : Nat) : Int) = a by omega, show ((f.toNat : Nat) : Int) = f by omega]]
  exact h
set_option maxHeartbeats 1000000 in
theorem scale_calls (q f : Int) (hq : isMod q) (hf : inR q f) (b c K : Nat) (hc : c ≤ 4294967296) (g : Nat → Int) (hg : ∀ j, j < c → inR q (g j)) (w : World) (h : RowAt b c g w) :
    Calls Tryd.prog 46 #[.int .i64 q, .slice (some ⟨b, 0, none⟩) c K, .int .i64 f] w fun e w' => e = .returned (.tuple #[]) ∧ RowAt b c (fun j => mulZ q (g j) f) w' ∧ Upd b w w' := by
  have hR0 : RowAt b c (fun j => if j < 0 then mulZ q (g j) f else g j) w := h
  have c1 := fun k (hk : k < c) w => Lib.hid (multiply_calls q (g k) f hq (hg k hk) hf w)
  clear h hg hq hf
  go_enter Tryd.func46, Tryd.ntmps46
  go_wp2
  go_loopw [10] (fun i wr => ∃ k : Nat, k ≤ c ∧ i = .int .i64 (k : Int) ∧ RowAt b c (fun j => if j < k then mulZ q (g j) f else g j) wr ∧ Upd b w wr) (fun i _ => c - (intOf i).toNat)
  case atStart => exact ⟨0, Nat.zero_le _, rfl, hR0, Upd.refl _ _⟩
  case round =>
    clear hR0
    obtain ⟨k, hk, rfl, hR, hU⟩ := hrel
    by_cases hlt : k < c
    · have z0 : wr.cell? ⟨b, k, none⟩ = some (.int .i64 (g k)) := by rw [hR.at' k hlt, if_neg (Nat.lt_irrefl k)]
      have z1 : ∀ m j, (wr.drewN m).frozen? ⟨b, j, none⟩ = false := fun m j => hR.fz j
      have z2 : ∀ m, (wr.drewN m).cell? ⟨b, k, none⟩ = some (.int .i64 (g k)) := fun m => z0
      have c2 := c1 k hlt wr
      obtain ⟨V, hV⟩ : ∃ V, V = mulZ q (g k) f := ⟨_, rfl⟩
      rw [← hV] at c2
      have HR := Lib.hid hR
      have HV := Lib.hid hV
      clear hV hR c1
      go_wp2_with fail
      refine Calls.mono c2.out ?_
      rintro e w' ⟨rfl, m, rfl⟩
      have y1 := z1 m k
      have y2 := z2 m
      clear z1 z2
      go_wp2
      go_roundw
      case rel =>
        refine ⟨k + 1, by omega, by go_num, ?_, (hU.drewN m).setCell k _⟩
        have h1 := (HR.out.drewN m).set k hlt V
        refine h1.congr fun j hj => ?_
        show (if j = k then V else if j < k then mulZ q (g j) f else g j) = _
        by_cases e1 : j = k
        · subst e1; rw [if_pos rfl, if_pos (by omega), HV.out]
        · rw [if_neg e1]
          by_cases e2 : j < k
          · rw [if_pos e2, if_pos (by omega)]
          · rw [if_neg e2, if_neg (by omega)]
      case measure => simp [intOf]; omega
    · obtain rfl : k = c := by omega
      clear c1
      go_wp2
      go_end0
      exact ⟨rfl, hR.congr fun j hj => by rw [if_pos hj], hU⟩
end Go.Proofs.YtdeeoigcpihidaaDoor
