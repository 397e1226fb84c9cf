/- A map of sectors, a map of ranks: what they hold, as functions. -/
import Derived.Test.YtanecondopbfhaaGreatDoorMem
namespace Go.Proofs.YtanecondopbfhaaGreatDoor
open Go.RowKit Go.Maps

theorem key_pk {f k : Int} (hf : (Lit.int .i64 f).wf = true) (hk : (Lit.int .i64 k).wf = true) : keyOf Tryz.prog 95 (pk f k) = some (klit f k) := by
  have h1 : (pk f k).formed Tryz.prog 95 = true := by simp [Value.formed, pk, Tryz.underlying95, cellsPlace]
  have h2 : ∀ n, Tryz.prog.keyLits (n + 2) 95 (pk f k).cells.toList = some [.int .i64 f, .int .i64 k] := by
    intro n
    have c3 : Tryz.prog.cellsOf 3 = 1 := by kernel_rfl
    simp only [Program.keyLits, Tryz.underlying95, pk, Value.cells, cellsPlace]
    simp [c3, hf, hk]
  obtain ⟨m, hm⟩ : ∃ m, Tryz.prog.types.size + 1 = m + 2 := ⟨Tryz.prog.types.size - 1, by have h : (95 : Nat) < Tryz.prog.types.size := rowPlace; omega⟩
  simp only [keyOf, Tryz.underlying95, keyTypePlace, h1, hm, h2]
  rfl

theorem klit_inj {f k g j : Int} (hf : (Lit.int .i64 f).wf = true) (hk : (Lit.int .i64 k).wf = true) (hg : (Lit.int .i64 g).wf = true) (hj : (Lit.int .i64 j).wf = true) (h : klit f k = klit g j) : f = g ∧ k = j := by
  have := keyedPlace.inj (key_pk hf hk) (h ▸ key_pk hg hj)
  simp [pk] at this
  exact this

theorem wf_nat {n : Nat} (h : n ≤ 1099511627776) : (Lit.int .i64 (n : Int)).wf = true := WalkArith.wf_i64 (by omega)

/-- The map in block b holds the sectors of the bytes B. -/
def SecAt (w : World) (b n : Nat) (B : Nat → Nat → UInt8) : Prop :=
  ∃ D : DataW Unit, w.ownsMap Tryz.prog 95 secR b n D ∧ (∀ f k : Nat, f < 16 → k ≤ 1099511627776 → D.atKey (klit f k) (.lit (.string zeros)) = .lit (.string (sec B f k))) ∧ ∀ kl, Maps.has D kl = true → ∃ f k : Nat, kl = klit f k ∧ f < 16 ∧ k < 262144

theorem zeroSec (w : World) : (zeroValue 125).run Tryz.prog w = .ok (secV zeros) w := by kernel_rfl

theorem secR_zero : secR (secV zeros) = some (.lit (.string zeros), []) := secR_mk (by simp [zeros])

variable {w w' : World} {b n : Nat} {B : Nat → Nat → UInt8}

theorem SecAt.lt (h : SecAt w b n B) : b < w.heap.size := by obtain ⟨D, h, _⟩ := h; exact h.lt

theorem ownsMap_same {H : Type} {P : Program} {k : TypeId} {R : Value → Option (DataW H × List MemPlace)} {D : DataW H} (h : w.ownsMap P k R b n D) (hb : w'.heap[b]? = w.heap[b]?) : w'.ownsMap P k R b n D := by
  obtain ⟨es, clock, h1, h2⟩ := h
  exact ⟨es, clock, hb.trans h1, h2⟩

theorem SecAt.same (h : SecAt w b n B) (hb : w'.heap[b]? = w.heap[b]?) : SecAt w' b n B := by
  obtain ⟨D, h1, h2⟩ := h
  exact ⟨D, ownsMap_same h1 hb, h2⟩

theorem SecAt.kept {S : Nat → Prop} (h : SecAt w b n B) (hk : Kept S w w') (hS : ¬ S b) : SecAt w' b n B := h.same (hk.block b h.lt hS)

theorem SecAt.mono (h : SecAt w b n B) {m : Nat} (hm : n ≤ m) : SecAt w b m B := by
  obtain ⟨D, h1, h2⟩ := h
  exact ⟨D, h1.mono hm, h2⟩

theorem SecAt.eq {B' : Nat → Nat → UInt8} (h : SecAt w b n B) (he : ∀ f p, f < 16 → B' f p = B f p) : SecAt w b n B' := by
  obtain ⟨D, h1, h2, h3⟩ := h
  refine ⟨D, h1, fun f k hf hk => ?_, h3⟩
  rw [h2 f k hf hk]
  congr 2
  unfold sec
  exact List.map_congr_left fun i _ => (he f _ hf).symm

theorem SecAt.made (w : World) : SecAt (w.alloc (.map #[] 0)) w.heap.size 0 (fun _ _ => 0) :=
  ⟨.map [], World.ownsMap_made _ _ _ _, fun f k _ _ => by
    show (DataW.lit (.string zeros) : DataW Unit) = _
    congr 2, fun kl h => by simp [Maps.has] at h⟩

theorem SecAt.look (h : SecAt w b n B) (f k : Nat) (hf : f < 16) (hk : k ≤ 1099511627776) :
    (Instr.lookup 70 (.map (some b)) (pk f k) false).run Tryz.prog w = .ok (secV (sec B f k)) w := by
  obtain ⟨D, h1, h2, _⟩ := h
  obtain ⟨v, ps, hr, hv⟩ := h1.lookup keyedPlace Tryz.underlying70 (zeroSec w) secR_zero (key_pk (f := (f : Int)) (k := (k : Int)) (wf_nat (by omega)) (wf_nat hk))
  rw [h2 f k hf hk] at hv
  rw [hr, (secR_inv hv).1]

theorem SecAt.look_ok (h : SecAt w b n B) (f k : Nat) (hf : f < 16) (hk : k ≤ 1099511627776) :
    ∃ ok : Bool, (Instr.lookup 70 (.map (some b)) (pk f k) true).run Tryz.prog w = .ok (.tuple #[secV (sec B f k), .bool ok]) w ∧ (ok = false → sec B f k = zeros) := by
  obtain ⟨D, h1, h2, _⟩ := h
  have hkey := key_pk (f := (f : Int)) (k := (k : Int)) (wf_nat (by omega)) (wf_nat hk)
  obtain ⟨v, ps, hr, hv⟩ := h1.look_ok keyedPlace Tryz.underlying70 (zeroSec w) secR_zero hkey
  rw [h2 f k hf hk] at hv
  refine ⟨Maps.has D (klit f k), by rw [hr, (secR_inv hv).1], fun h0 => ?_⟩
  have := Maps.atKey_of_not_has h0 (.lit (.string zeros))
  rw [h2 f k hf hk] at this
  simpa using this

/-- Sector k of the file f is replaced. -/
def setSec (B : Nat → Nat → UInt8) (f k : Nat) (l : List UInt8) : Nat → Nat → UInt8 := fun g p => if g = f ∧ p / 64 = k then l.getD (p % 64) 0 else B g p

theorem sec_set_same (B : Nat → Nat → UInt8) (f k : Nat) (l : List UInt8) (hl : l.length = 64) : sec (setSec B f k l) f k = l := by
  apply List.ext_getElem
  · simp [sec, hl]
  · intro i h1 h2
    simp only [sec, List.getElem_map, List.getElem_range, setSec]
    have hi : i < 64 := by omega
    rw [if_pos ⟨trivial, by omega⟩, show (64 * k + i) % 64 = i by omega, List.getD_eq_getElem?_getD, List.getElem?_eq_getElem h2]
    rfl

theorem sec_set_other (B : Nat → Nat → UInt8) (f k : Nat) (l : List UInt8) (g j : Nat) (h : ¬ (g = f ∧ j = k)) : sec (setSec B f k l) g j = sec B g j := by
  unfold sec
  refine List.map_congr_left fun i hi => ?_
  rw [List.mem_range] at hi
  unfold setSec
  rw [if_neg (fun hh => h ⟨hh.1, by omega⟩)]

theorem SecAt.store (h : SecAt w b n B) (f k : Nat) (hf : f < 16) (hk2 : k < 262144) (hn : n < maxLen) (l : List UInt8) (hl : l.length = 64) :
    ∃ w', (Instr.mapUpdate 70 (.map (some b)) (pk f k) (secV l)).run Tryz.prog w = .ok () w' ∧ SecAt w' b (n + 1) (setSec B f k l) ∧ w.mapTurned w' b := by
  have hk : k ≤ 1099511627776 := by omega
  obtain ⟨D, h1, h2, h3⟩ := h
  have hkey := key_pk (f := (f : Int)) (k := (k : Int)) (wf_nat (by omega)) (wf_nat hk)
  obtain ⟨w', hr, ho, ht⟩ := h1.store keyedPlace Tryz.underlying70 hn hkey (secR_mk hl)
  refine ⟨w', hr, ⟨_, ho, fun g j hg hj => ?_, fun kl hkl => ?_⟩, ht⟩
  · by_cases e : g = f ∧ j = k
    · obtain ⟨rfl, rfl⟩ := e
      rw [Maps.atKey_put_same h1.isMap (keyedPlace.key hkey), sec_set_same _ _ _ _ hl]
    · rw [Maps.atKey_put_other, h2 g j hg hj, sec_set_other _ _ _ _ _ _ e]
      intro hh
      have := klit_inj (wf_nat (by omega)) (wf_nat hj) (wf_nat (by omega)) (wf_nat hk) hh
      exact e ⟨by omega, by omega⟩
  · by_cases e : kl = klit f k
    · exact ⟨f, k, e, hf, hk2⟩
    · rw [Maps.has_put_other e] at hkl
      exact h3 kl hkl

theorem SecAt.drop (h : SecAt w b n B) (f k : Nat) (hf : f < 16) (hk : k ≤ 1099511627776) (ty : TypeId) :
    ∃ w', (Builtin.delete_ #[70, 95] ty #[.map (some b), pk f k]).run Tryz.prog w = .ok (.tuple #[]) w' ∧ SecAt w' b n (setSec B f k zeros) ∧ w.mapTurned w' b := by
  obtain ⟨D, h1, h2, h3⟩ := h
  have hkey := key_pk (f := (f : Int)) (k := (k : Int)) (wf_nat (by omega)) (wf_nat hk)
  obtain ⟨w', hr, ho, ht⟩ := h1.drop keyedPlace Tryz.underlying70 hkey ty
  refine ⟨w', hr, ⟨_, ho, fun g j hg hj => ?_, fun kl hkl => ?_⟩, ht⟩
  · by_cases e : g = f ∧ j = k
    · obtain ⟨rfl, rfl⟩ := e
      rw [Maps.atKey_del_same, sec_set_same _ _ _ _ (by simp [zeros])]
    · rw [Maps.atKey_del_other, h2 g j hg hj, sec_set_other _ _ _ _ _ _ e]
      intro hh
      have := klit_inj (wf_nat (by omega)) (wf_nat hj) (wf_nat (by omega)) (wf_nat hk) hh
      exact e ⟨by omega, by omega⟩
  · by_cases e : kl = klit f k
    · rw [e, Maps.has_del_same] at hkl; exact absurd hkl (by simp)
    · rw [Maps.has_del_other e] at hkl
      exact h3 kl hkl

/-! ### how many entries -/

theorem len_le_of_subset {α : Type} : ∀ (l1 l2 : List α), l1.Nodup → (∀ x ∈ l1, x ∈ l2) → l1.length ≤ l2.length
  | [], _, _, _ => by simp
  | x :: l, l2, hn, hs => by
    haveI : DecidableEq α := fun a b => Classical.propDecidable (a = b)
    obtain ⟨h1, h2⟩ := List.nodup_cons.1 hn
    have hx := hs x (by simp)
    have ih := len_le_of_subset l (l2.erase x) h2 (fun y hy => by
      refine (List.mem_erase_of_ne ?_).2 (hs y (List.mem_cons_of_mem _ hy))
      intro e
      exact h1 (e ▸ hy))
    have := List.length_erase_of_mem hx
    have := List.length_pos_of_mem hx
    simp only [List.length_cons]
    omega

theorem length_read_es {H : Type} {P : Program} {k : TypeId} {R : Value → Option (DataW H × List MemPlace)} {D : DataW H} (es : Array MapEntry) (h4 : D = .map ((es.toList.map (Go.WideElems.rg P k R)).foldr DataW.insert [])) {es0 : List (Lit × DataW H)} (h0 : D = .map es0) : es.size = es0.length := by
  rw [h4] at h0
  have h5 := DataW.map.inj h0
  rw [← h5, length_sorted]
  simp

theorem ownsMap_shrink {H : Type} {P : Program} {k : TypeId} {R : Value → Option (DataW H × List MemPlace)} {D : DataW H} (K : Keyed P k) (h : w.ownsMap P k R b n D) (l : List Lit) (hl : ∀ kl, Maps.has D kl = true → kl ∈ l) : w.ownsMap P k R b l.length D := by
  obtain ⟨es0, hD0, hap, hkl⟩ := h.entries K
  obtain ⟨es, clock, h1, h2, h3, h4⟩ := h
  refine ⟨es, clock, h1, h2, ?_, h4⟩
  have e1 := length_read_es es h4 hD0
  rw [e1]
  have hnd : (es0.map (·.1)).Nodup := by
    rw [List.nodup_iff_pairwise_ne, List.pairwise_map]
    exact hap
  have := len_le_of_subset (es0.map (·.1)) l hnd (fun kl hkl' => by
    obtain ⟨p, hp, rfl⟩ := List.mem_map.1 hkl'
    refine hl _ ?_
    rw [hD0]
    show es0.any _ = true
    rw [List.any_eq_true]
    exact ⟨p, hp, WideAt.sameKey_self (hkl p hp)⟩)
  simpa using this

theorem SecAt.shrink (h : SecAt w b n B) : SecAt w b 4194304 B := by
  obtain ⟨D, h1, h2, h3⟩ := h
  have := ownsMap_shrink keyedPlace h1 ((List.range 16).flatMap fun (f : Nat) => (List.range 262144).map fun (k : Nat) => klit f k) (fun kl hkl => by
    obtain ⟨f, k, rfl, hf, hk⟩ := h3 kl hkl
    rw [List.mem_flatMap]
    exact ⟨f, List.mem_range.2 hf, List.mem_map.2 ⟨k, List.mem_range.2 hk, rfl⟩⟩)
  refine ⟨D, this.mono ?_, h2, h3⟩
  rw [List.length_flatMap]
  simp only [List.length_map, List.length_range]
  decide

theorem mapTurned_kept (h : w.mapTurned w' b) : Kept (fun k => k = b) w w' := by
  have hg := h.grown
  exact ⟨hg.os, hg.tape, hg.output, hg.size, fun k hk hn => hg.block k hk (fun e => hn (by simpa using e))⟩

/-! ### ranks -/

/-- The map in block b holds for each number its rank, if it has one. -/
def RankAt (w : World) (b n : Nat) (g : Nat → Option Nat) : Prop :=
  ∃ D : DataW Unit, w.ownsMap Tryz.prog 3 (plainElem Tryz.prog 3) b n D ∧ (∀ kl, Maps.has D kl = true → ∃ k r : Nat, kl = .int .i64 k ∧ k < 262144 ∧ g k = some r) ∧
    (∀ k : Nat, k ≤ 1099511627776 → (g k = none → Maps.has D (.int .i64 k) = false) ∧ ∀ r, g k = some r → Maps.has D (.int .i64 k) = true ∧ ∀ z, D.atKey (.int .i64 k) z = .lit (.int .i64 r)) ∧
    ∀ k : Nat, 262144 ≤ k → g k = none

variable {g : Nat → Option Nat}

theorem RankAt.lt (h : RankAt w b n g) : b < w.heap.size := by obtain ⟨D, h, _⟩ := h; exact h.lt
theorem RankAt.same (h : RankAt w b n g) (hb : w'.heap[b]? = w.heap[b]?) : RankAt w' b n g := by
  obtain ⟨D, h1, h2⟩ := h
  exact ⟨D, ownsMap_same h1 hb, h2⟩
theorem RankAt.kept {S : Nat → Prop} (h : RankAt w b n g) (hk : Kept S w w') (hS : ¬ S b) : RankAt w' b n g := h.same (hk.block b h.lt hS)
theorem RankAt.mono (h : RankAt w b n g) {m : Nat} (hm : n ≤ m) : RankAt w b m g := by
  obtain ⟨D, h1, h2⟩ := h
  exact ⟨D, h1.mono hm, h2⟩
theorem RankAt.eq {g' : Nat → Option Nat} (h : RankAt w b n g) (he : ∀ k, g' k = g k) : RankAt w b n g' := by
  have : g' = g := funext he
  rw [this]; exact h

theorem RankAt.made (w : World) : RankAt (w.alloc (.map #[] 0)) w.heap.size 0 (fun _ => none) :=
  ⟨.map [], World.ownsMap_made _ _ _ _, fun kl h => by simp [Maps.has] at h, fun k _ => ⟨fun _ => by simp [Maps.has], fun r h => by simp at h⟩, fun _ _ => rfl⟩

theorem zeroInt (w : World) : (zeroValue 3).run Tryz.prog w = .ok (.int .i64 0) w := by kernel_rfl

theorem RankAt.look_ok (h : RankAt w b n g) (k : Nat) (hk : k ≤ 1099511627776) :
    ∃ c : Int, (Instr.lookup 74 (.map (some b)) (.int .i64 k) true).run Tryz.prog w = .ok (.tuple #[.int .i64 c, .bool (g k).isSome]) w := by
  obtain ⟨D, h1, h2, h3, h4⟩ := h
  have hkey := keyOf_int_mk Tryz.underlying3 (wf_nat hk)
  obtain ⟨v, ps, hr, hv⟩ := h1.look_ok keyedInt Tryz.underlying74 (zeroInt w) (plainElem_int Tryz.underlying3 (by decide)) hkey
  obtain ⟨c, rfl, hc, hwc⟩ := plainElem_int_inv Tryz.underlying3 hv
  have e : Maps.has D (.int .i64 k) = (g k).isSome := by
    cases hg : g k with
    | none => exact (h3 k hk).1 hg
    | some r => exact ((h3 k hk).2 r hg).1
  exact ⟨c, by rw [hr, e]⟩

theorem RankAt.look (h : RankAt w b n g) (k r : Nat) (hk : k ≤ 1099511627776) (hg : g k = some r) :
    (Instr.lookup 74 (.map (some b)) (.int .i64 k) false).run Tryz.prog w = .ok (.int .i64 r) w := by
  obtain ⟨D, h1, h2, h3, h4⟩ := h
  have hkey := keyOf_int_mk Tryz.underlying3 (wf_nat hk)
  obtain ⟨c, hr, hat, _⟩ := h1.lookup_int keyedInt Tryz.underlying74 Tryz.underlying3 (zeroInt w) hkey
  rw [((h3 k hk).2 r hg).2] at hat
  simp at hat
  rw [hr, hat]

theorem RankAt.store (h : RankAt w b n g) (k r : Nat) (hk2 : k < 262144) (hr : r ≤ 1099511627776) (hn : n < maxLen) :
    ∃ w', (Instr.mapUpdate 74 (.map (some b)) (.int .i64 k) (.int .i64 r)).run Tryz.prog w = .ok () w' ∧ RankAt w' b (n + 1) (fun j => if j = k then some r else g j) ∧ w.mapTurned w' b := by
  have hk : k ≤ 1099511627776 := by omega
  obtain ⟨D, h1, h2, h3, h4⟩ := h
  have hkey := keyOf_int_mk Tryz.underlying3 (wf_nat hk)
  obtain ⟨w', hrun, ho, ht⟩ := h1.store keyedInt Tryz.underlying74 hn hkey (plainElem_int Tryz.underlying3 (wf_nat hr))
  have hKL := keyedInt.key hkey
  refine ⟨w', hrun, ⟨_, ho, ?_, ?_, fun j hj => (if_neg (by omega)).trans (h4 j hj)⟩, ht⟩
  · intro kl hkl
    by_cases e : kl = .int .i64 k
    · exact ⟨k, r, e, hk2, by simp⟩
    · rw [Maps.has_put_other e] at hkl
      obtain ⟨j, s, rfl, hj, hs⟩ := h2 kl hkl
      refine ⟨j, s, rfl, hj, ?_⟩
      show (if j = k then some r else g j) = some s
      rw [if_neg (fun e2 => e (by rw [e2]))]
      exact hs
  · intro j hj
    by_cases e : j = k
    · subst e
      refine ⟨fun h0 => by simp at h0, fun s hs => ?_⟩
      simp at hs
      subst hs
      exact ⟨Maps.has_put_same h1.isMap hKL _, fun z => Maps.atKey_put_same h1.isMap hKL _ z⟩
    · have e' : Lit.int .i64 (j : Int) ≠ .int .i64 (k : Int) := by simp; omega
      simp only [if_neg e]
      refine ⟨fun h0 => ?_, fun s hs => ?_⟩
      · rw [Maps.has_put_other e']; exact (h3 j hj).1 h0
      · rw [Maps.has_put_other e']
        exact ⟨((h3 j hj).2 s hs).1, fun z => by rw [Maps.atKey_put_other e']; exact ((h3 j hj).2 s hs).2 z⟩

theorem RankAt.shrink (h : RankAt w b n g) : RankAt w b 262144 g := by
  obtain ⟨D, h1, h2, h3, h4⟩ := h
  have := ownsMap_shrink keyedInt h1 ((List.range 262144).map fun (k : Nat) => Lit.int .i64 k) (fun kl hkl => by
    obtain ⟨k, r, rfl, hk, _⟩ := h2 kl hkl
    exact List.mem_map.2 ⟨k, List.mem_range.2 hk, rfl⟩)
  exact ⟨D, this.mono (by simp), h2, h3, h4⟩

end Go.Proofs.YtanecondopbfhaaGreatDoor
