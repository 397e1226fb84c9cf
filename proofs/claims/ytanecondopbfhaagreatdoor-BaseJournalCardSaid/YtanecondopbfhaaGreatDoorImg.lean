/- Images by value: their clone. -/
import Derived.Test.YtanecondopbfhaaGreatDoorBuild
import Derived.Deep.RegionHeld3
import Derived.BigRegion
import Derived.RegionTactic
import Derived.Laws.Rows
namespace Go.Proofs.YtanecondopbfhaaGreatDoor
open Go.RowKit

/-- The cells of an image: the map's block, the lengths. -/
def imgc (m : Nat) (sz : Nat → Nat) : Nat → Value
  | 0 => .map (some m)
  | i + 1 => .int .i64 (sz i)
def imgl (m : Nat) (sz : Nat → Nat) : List Value := (List.range 17).map (imgc m sz)
def imgV (m : Nat) (sz : Nat → Nat) : Value := .agg (imgl m sz).toArray
def szl (sz : Nat → Nat) : List Value := (List.range 16).map fun i => .int .i64 (sz i)

theorem imgl_eq (m : Nat) (sz : Nat → Nat) : imgl m sz = .map (some m) :: szl sz := by simp [imgl, szl, imgc, List.range_succ_eq_map]

theorem load_sizes (W : World) (b o : Nat) (sz : Nat → Nat) (hc : W.rangeAt b o (szl sz)) :
    (loadVar 71 ⟨b, o, none⟩).run Tryz.prog W = .ok (.agg (szl sz).toArray) W :=
  run_loadVar_mid W b o 71 (szl sz) _ hc Tryz.underlying71 rfl (by rw [show (szl sz).length = 16 by simp [szl]]; kernel_rfl)

theorem build_img (m : Nat) (sz : Nat → Nat) (W : World) : (Instr.build 73 #[(0, .map (some m)), (1, .agg (szl sz).toArray)]).run Tryz.prog W = .ok (.agg (imgl m sz).toArray) W := by kernel_rfl

theorem rangeAt_sizes {W : World} {b m : Nat} {sz : Nat → Nat} {T : TypeId} (h : W.heap[b]? = some (.cells (imgl m sz).toArray T (0, 0))) : W.rangeAt b 1 (szl sz) := by
  intro j v hv
  rw [cell_of_row W b (1 + j) _ _ _ h, imgl_eq]
  simp [Nat.add_comm 1 j, hv]

theorem imgl_one (k : Nat) (sz : Nat → Nat) : ∀ v ∈ imgl k sz, v.oneCell' = true := by
  intro v hv
  obtain ⟨i, _, rfl⟩ := List.mem_map.1 hv
  cases i <;> rfl

theorem there_img {W : World} {b : Nat} {C : Array Value} {T : TypeId} (h : W.heap[b]? = some (.cells C T (0, 0))) (hC : C.size = 17 := by rfl) : W.there b 0 17 := by
  intro j hj
  rw [Nat.zero_add, cell_of_row _ _ _ _ _ _ h, frozen_of_row _ _ _ _ _ h]
  exact ⟨by simp [hC, hj], rfl⟩

theorem heap_setCells_other (b : Nat) : ∀ (vs : List Value) (o : Nat) (w : World) (k : Nat), k ≠ b → (w.setCells b o vs).heap[k]? = w.heap[k]?
  | [], _, _, _, _ => rfl
  | _ :: r, o, _, k, h => (heap_setCells_other b r (o + 1) _ k h).trans (Below.heap_setCell _ _ _ _ h)

theorem size_setCells (b : Nat) : ∀ (vs : List Value) (o : Nat) (w : World), (w.setCells b o vs).heap.size = w.heap.size
  | [], _, _ => rfl
  | _ :: r, o, _ => (size_setCells b r (o + 1) _).trans (by simp [World.setCell])

theorem Kept.setCells {S : Nat → Prop} {a w : World} (h : Kept S a w) {b : Nat} (hb : S b ∨ a.heap.size ≤ b) : ∀ (vs : List Value) (o : Nat), Kept S a (w.setCells b o vs) := by
  intro vs
  induction vs generalizing w with
  | nil => intro o; exact h
  | cons v r ih => intro o; exact ih (h.setCell (p := ⟨b, o, none⟩) hb v) (o + 1)

theorem results_cell_mid {fn : Func} {p : Tmp} {ty : TypeId} (h : fn.results = #[.cell p ty]) (tmps : Array Value) (w : World) (g : Nat) (cs : List Value) (d : TypeDesc)
    (hp : tmps.getD p undef = .pointer (some ⟨g, 0, none⟩)) (hc : w.rangeAt g 0 cs)
    (hu : Tryz.prog.underlying ty = some d) (hd : d.isRow = true) (hi : (Tryz.prog.info? ty).map (·.size) = some cs.length) :
    (results fn tmps).run Tryz.prog w = .ok (.agg cs.toArray) w := by
  have hp' : tmps[p]?.getD undef = .pointer (some ⟨g, 0, none⟩) := by simpa using hp
  simp [results, h, hp', asAddr, run_loadVar_mid w g 0 ty cs d hc hu hd hi]

/-- The worlds of the clone's last region. -/
structure ClS (w : World) (m n : Nat) (sz : Nat → Nat) (B : Nat → Nat → UInt8) (W : World) : Prop where
  a : W.heap[w.heap.size]? = some (.cells (imgl m sz).toArray 73 (0, 0))
  b : W.there (w.heap.size + 1) 0 17
  z : w.heap.size + 2 ≤ W.heap.size
  s : SecAt W m n B
  m : m < w.heap.size
  k : Kept (fun _ => False) w W

variable {w W : World} {m n : Nat} {sz : Nat → Nat} {B : Nat → Nat → UInt8}

theorem ClS.drew (h : ClS w m n sz B W) : ClS w m n sz B W.drew := ⟨h.a, by simpa using h.b, h.z, h.s, h.m, h.k.drew⟩

theorem ClS.set (h : ClS w m n sz B W) (vs : List Value) : ClS w m n sz B (W.setCells (w.heap.size + 1) 0 vs) :=
  ⟨(heap_setCells_other _ _ _ _ _ (by omega)).trans h.a, World.there_setCells h.b _ _ _, by rw [size_setCells]; exact h.z, h.s.same (heap_setCells_other _ _ _ _ _ (by have := h.m; omega)), h.m, h.k.setCells (Or.inr (by omega)) _ _⟩

theorem clone_ClS (w : World) (m n : Nat) (sz : Nat → Nat) (B : Nat → Nat → UInt8) (W : World) (h : ClS w m n sz B W) :
    Calls Tryz.prog 96 #[.map (some m)] W fun e W' => ∃ m', e = .returned (.map (some m')) ∧ w.heap.size + 2 ≤ m' ∧ SecAt W' m' n B ∧ ClS w m n sz B W' := by
  refine (clone_sec_at m n B W h.s).mono ?_
  rintro e W' ⟨rfl, hs, o, rfl⟩
  have hz := h.z
  exact ⟨_, rfl, hz, hs, ⟨(Below.heap_alloc _ _ _ (by omega)).trans h.a, World.there_alloc h.b o, by simp; omega, h.s.same (Below.heap_alloc _ _ _ h.s.lt), h.m, h.k.alloc _⟩⟩

set_option maxHeartbeats 1000000 in
set_option maxRecDepth 100000 in
theorem clone_calls (m n : Nat) (sz : Nat → Nat) (B : Nat → Nat → UInt8) (w : World) (h : SecAt w m n B) :
    Calls Tryz.prog 58 #[imgV m sz] w fun e w' => ∃ m', e = .returned (imgV m' sz) ∧ SecAt w' m' n B ∧ w.heap.size ≤ m' ∧ Kept (fun _ => False) w w' := by
  unfold imgV
  go_enter Tryz.func58, Tryz.ntmps58
  go_wp2
  obtain ⟨W2, hW2⟩ : ∃ W2, W2 = (w.alloc (.cells (imgl m sz).toArray 73)).alloc (.cells #[.map none, .int .i64 0, .int .i64 0, .int .i64 0, .int .i64 0, .int .i64 0, .int .i64 0, .int .i64 0, .int .i64 0, .int .i64 0, .int .i64 0, .int .i64 0, .int .i64 0, .int .i64 0, .int .i64 0, .int .i64 0, .int .i64 0] 73) := ⟨_, rfl⟩
  rw [← hW2]
  have HS : Hid (ClS w m n sz B W2) := by
    rw [hW2]
    exact ⟨heap_alloc2_old _ _ _, there_img (heap_alloc2_new _ _ _), by simp, (h.same (Below.heap_alloc _ _ _ h.lt)).same (Below.heap_alloc _ _ _ (by have := h.lt; simp; omega)), h.lt, ((Kept.refl _ _).alloc _).alloc _⟩
  clear hW2 h
  refine wp_region_held_drew (S := ClS w m n sz B) (by kernel_rfl) (ClS.drew HS.out) (fun hS0 => ?_)
  refine wpAnyH_take (i := 0) (v := .pointer (some ⟨w.heap.size, 0, none⟩)) rfl (by kernel_rfl) (by kernel_rfl) (by kernel_rfl) (fun _ _ _ h => h) ?y0 hS0 ?_
  case y0 => exact Or.inl ⟨rfl, fun W hW => by kernel_rfl⟩
  refine wpAnyH_take (i := 1) (v := .map (some m)) rfl (by kernel_rfl) (by kernel_rfl) (by kernel_rfl) (fun _ _ _ h => h) ?y1 hS0 ?_
  case y1 =>
    refine Or.inl ⟨rfl, fun W hW => ?_⟩
    have g0 : W.cell? ⟨w.heap.size, 0, none⟩ = some (.map (some m)) := by rw [cell_of_row _ _ _ _ _ _ hW.a, imgl_eq]; rfl
    show (execOp _ _).run _ _ = _
    go_simp
  refine wpAnyH_take (i := 3) (v := .pointer (some ⟨w.heap.size, 1, none⟩)) rfl (by kernel_rfl) (by kernel_rfl) (by kernel_rfl) (fun _ _ _ h => h) ?y3 hS0 ?_
  case y3 => exact Or.inl ⟨rfl, fun W hW => by kernel_rfl⟩
  refine wpAnyH_take (i := 4) (v := .agg (szl sz).toArray) rfl (by kernel_rfl) (by kernel_rfl) (by kernel_rfl) (fun _ _ _ h => h) ?y4 hS0 ?_
  case y4 =>
    exact yieldsIf_load_mid rfl 71 _ rfl w.heap.size 1 rfl (szl sz) _ (fun W hW => rangeAt_sizes hW.a) Tryz.underlying71 rfl (by rw [show (szl sz).length = 16 by simp [szl]]; kernel_rfl)
  refine wpAnyH_ready (rs := [2]) (by kernel_rfl) (by simp) ?_
  refine AllReadyH.cons rfl (fun K hK => ?_) AllReadyH.nil
  go_simp
  refine Calls.mono (clone_ClS w m n sz B _ hS0) ?_
  rintro e w1 ⟨m', rfl, hm', hs', hS4⟩
  go_simp
  refine hK.out _ _ hS4 (fun hS5 => ?_)
  clear hK K
  refine wpAnyH_take (i := 5) (v := .agg (imgl m' sz).toArray) rfl (by kernel_rfl) (by kernel_rfl) (by kernel_rfl) (fun _ _ _ h => h) ?y5 hS5 ?_
  case y5 => exact Or.inl ⟨rfl, fun W hW => by kernel_rfl⟩
  refine wpAnyH_ready (rs := [6]) (by kernel_rfl) (by simp) ?_
  refine AllReadyH.cons rfl (fun K hK => ?_) AllReadyH.nil
  rw [if_pos (by rfl)]
  refine wp_store_mid 73 _ _ rfl (w.heap.size + 1) 0 (imgl m' sz).toArray rfl rfl ?t1 ?t2 (all_oneCell_toArray (imgl_one m' sz)) ?_
  case t1 => exact (show (imgl m' sz).toArray.size = 17 by simp [imgl]) ▸ hS5.b
  case t2 => rw [show (imgl m' sz).toArray.size = 17 by simp [imgl]]; kernel_rfl
  refine hK.out _ _ (hS5.set _) (fun hS6 => ?_)
  clear hK K
  refine wpAnyH_done (by kernel_rfl) ?_ _
  have hR : (w1.setCells (w.heap.size + 1) 0 (imgl m' sz)).rangeAt (w.heap.size + 1) 0 (imgl m' sz) := World.rangeAt_setCells_same _ _ _ _ ((show (imgl m' sz).length = 17 by simp [imgl]) ▸ hS5.b)
  have hs6 := hs'.same (heap_setCells_other (w.heap.size + 1) (imgl m' sz) 0 w1 m' (by omega))
  have HR := Lib.hid hR
  clear hR hS0 hS4
  go_wp2
  exact bodyPost_ret (v := .agg (imgl m' sz).toArray) (results_cell_mid Tryz.results58 _ _ (w.heap.size + 1) _ _ rfl HR.out Tryz.underlying73 rfl (by rw [show (imgl m' sz).length = 17 by simp [imgl]]; kernel_rfl)) rfl ⟨m', rfl, hs6, by omega, hS6.k⟩

end Go.Proofs.YtanecondopbfhaaGreatDoor
