/- Reading bytes out of an image. -/
import Derived.Test.YtanecondopbfhaaGreatDoorImg
import Derived.LoopTactic
namespace Go.Proofs.YtanecondopbfhaaGreatDoor
open Go.RowKit

theorem owns_next {w w' : World} {B : Nat} {e : TypeId} {size : Nat} {v : Value} {n : Nat} {xs : List Value} (h : w.ownsRow B e size v n xs) (hb : Below w.heap.size w w') : w'.ownsRow B e size v n xs := by
  obtain ⟨hl, h0 | ⟨g, cap, cur, hv, hg, hh, r⟩⟩ := h
  · exact ⟨hl, .inl h0⟩
  · have hlt : g < w.heap.size := by
      rcases Nat.lt_or_ge g w.heap.size with h' | h'
      · exact h'
      · simp [Array.getElem?_eq_none h'] at hh
    exact ⟨hl, .inr ⟨g, cap, cur, hv, hg, by rw [hb.block g hlt]; exact hh, r⟩⟩
theorem builderAt_next {w w' : World} {B b : Nat} {p : Value} {l : List Value} (h : Lib.BuilderAt 131 5 B b p l w) (hb : Below w.heap.size w w') : Lib.BuilderAt 131 5 B b p l w' := by
  have hlt := h.lt
  obtain ⟨hB, v, hh, ho, hn⟩ := h
  exact ⟨hB, v, by rw [hb.block b hlt]; exact hh, owns_next ho hb, hn⟩
theorem builder_next {w w' : World} {B b : Nat} {l : List Value} (h : Lib.IsBuilder 131 5 B b l w) (hb : Below w.heap.size w w') : Lib.IsBuilder 131 5 B b l w' :=
  h.imp (builderAt_next · hb) (builderAt_next · hb)

theorem there_any {W : World} {b n : Nat} {C : Array Value} {T : TypeId} (h : W.heap[b]? = some (.cells C T (0, 0))) (hC : C.size = n) : W.there b 0 n := by
  intro j hj
  rw [Nat.zero_add, cell_of_row _ _ _ _ _ _ h, frozen_of_row _ _ _ _ _ h]
  exact ⟨by simp [hC, hj], rfl⟩

theorem slice_lh (b l h : Nat) (h1 : l ≤ h) (h2 : h ≤ 64) (hl : l < 64) (W : World) :
    (Instr.sliceAt 125 (.pointer (some ⟨b, 0, none⟩)) (some (.int .i64 (l : Int))) (some (.int .i64 (h : Int))) none).run Tryz.prog W = .ok (.slice (some ⟨b, l, none⟩) (h - l) (64 - l)) W := by
  have hlen : Tryz.prog.arrayLen 125 = 64 := by kernel_rfl
  have hel : Tryz.prog.elem 125 = 5 := by kernel_rfl
  rw [run_sliceAt_array_lh W 125 ⟨b, 0, none⟩ (by rw [hlen, hel]; exact Tryz.underlying125) .i64 .i64 l h (by omega) (by omega) (by rw [hlen]; omega), hel, Tryz.sizeOf5]
  simp only [Result.andThen, slicedAt, hlen, Int.toNat_natCast]
  rw [if_neg (by omega), Addr.add_mid]
  simp

theorem below_setCells {B : Nat} {a w : World} (h : Below B a w) {b : Nat} (hb : B ≤ b) : ∀ (vs : List Value) (o : Nat), Below B a (w.setCells b o vs) := by
  intro vs
  induction vs generalizing w with
  | nil => intro o; exact h
  | cons v r ih => intro o; exact ih (h.setCell (p := ⟨b, o, none⟩) hb v) (o + 1)

theorem range_more (g : Nat → UInt8) (k r : Nat) : (List.range (k + r)).map g = (List.range k).map g ++ (List.range r).map fun i => g (k + i) := by
  rw [List.range_add, List.map_append, List.map_map]; rfl

/-- The worlds of the reading loop: p is reached. -/
structure RdS (w : World) (m : Nat) (sz : Nat → Nat) (B : Nat → Nat → UInt8) (f a p : Nat) (W : World) : Prop where
  img : W.heap[w.heap.size]? = some (.cells (imgl m sz).toArray 73 (0, 0))
  bl : Lib.IsBuilder 131 5 (w.heap.size + 1) (w.heap.size + 1) (Lib.byteCells ((List.range (p - a)).map fun i => B f (a + i))) W
  bel : Below w.heap.size w W

theorem secV_cells {W : World} {b : Nat} (B : Nat → Nat → UInt8) (f k : Nat) (hr : W.rangeAt b 0 ((sec B f k).map fun x => Value.int .u8 x.toNat)) (j : Nat) (hj : j < 64) :
    W.cell? ⟨b, j, none⟩ = some (.int .u8 (B f (64 * k + j)).toNat) := by
  have := hr j (.int .u8 (B f (64 * k + j)).toNat) (by simp [sec, hj])
  rwa [Nat.zero_add] at this

theorem sec_arr_len (B : Nat → Nat → UInt8) (f k : Nat) : ((sec B f k).map fun x => Value.int .u8 x.toNat).length = 64 := by simp [sec]

set_option maxHeartbeats 1000000 in
set_option maxRecDepth 100000 in
theorem read_calls (m n : Nat) (sz : Nat → Nat) (B : Nat → Nat → UInt8) (f a e : Nat) (w : World) (h : SecAt w m n B) (hf : f < 16) (hae : a ≤ e) (he : e ≤ 1099511627776) :
    Calls Tryz.prog 62 #[imgV m sz, .int .i64 f, .int .i64 a, .int .i64 e] w fun en w' => en = .returned (.string ⟨((List.range (e - a)).map fun i => B f (a + i)).toArray⟩) ∧ Below w.heap.size w w' := by
  unfold imgV
  have H := Lib.hid h
  clear h
  go_enter Tryz.func62, Tryz.ntmps62
  go_wp2
  have HR : Hid (RdS w m sz B f a a ((w.alloc (.cells (imgl m sz).toArray 73)).alloc (.cells #[.pointer none, .slice none 0 0] 131))) := by
    refine ⟨heap_alloc2_old _ _ _, ?_, ((Below.refl _ _).alloc (Nat.le_refl _) _).alloc (by simp) _⟩
    rw [Nat.sub_self]
    have := Lib.fresh_isBuilder 131 5 (w.alloc (.cells (imgl m sz).toArray 73))
    simpa [Lib.byteCells] using this
  go_loopw [2] (fun x wr => ∃ p : Nat, a ≤ p ∧ p ≤ e ∧ x = .int .i64 p ∧ RdS w m sz B f a p wr) (fun x _ => e - (intOf x).toNat)
  case atStart => exact ⟨a, Nat.le_refl _, hae, rfl, HR.out⟩
  case round =>
    obtain ⟨p, hp, hpe, rfl, hrd⟩ := hrel
    have hS : SecAt wr m n B := H.out.same (hrd.bel.block m H.out.lt)
    have hz := hrd.bel.size
    by_cases hlt : p < e
    · obtain ⟨q, hq⟩ : ∃ q, q = p % 64 := ⟨_, rfl⟩
      obtain ⟨t, ht⟩ : ∃ t, t = min 64 (q + e - p) := ⟨_, rfl⟩
      have hmin : min (64 : Int) ((q : Int) + (e : Int) - (p : Int)) = (t : Int) := by omega
      have hqp : (p : Int) % 64 = (q : Int) := by omega
      have hq1 : q < t := by omega
      have hq2 : t ≤ 64 := by omega
      have hq3 : p + (t - q) ≤ e := by omega
      have hq4 : 64 * (p / 64) + q = p := by omega
      have hsl := slice_lh wr.heap.size q t (by omega) hq2 (by omega)
      have g0 : wr.cell? ⟨w.heap.size, 0, none⟩ = some (.map (some m)) := by rw [cell_of_row _ _ _ _ _ _ hrd.img, imgl_eq]; rfl
      have hlook := hS.look f (p / 64) hf (by omega)
      have hkey : pk f ((p / 64 : Nat) : Int) = .agg #[.int .i64 f, .int .i64 ((p : Int) / 64)] := rfl
      obtain ⟨A, hA⟩ : ∃ A, A = ((sec B f (p / 64)).map fun x => Value.int .u8 x.toNat) := ⟨_, rfl⟩
      have hA1 : A.toArray.size = 64 := by rw [hA]; simp [sec]
      have hA2 : A.toArray.all (·.oneCell') = true := all_oneCell_toArray (fun v hv => by
        rw [hA] at hv
        obtain ⟨x, _, rfl⟩ := List.mem_map.1 hv
        rfl)
      have hA3 : (Tryz.prog.info? 125).map (·.size) = some A.toArray.size := by rw [hA1]; kernel_rfl
      rw [hkey, show secV (sec B f (p / 64)) = .agg A.toArray by rw [hA]; rfl] at hlook
      have HA := Lib.hid hA
      have HA1 := Lib.hid hA1
      have HA2 := Lib.hid hA2
      have HA3 := Lib.hid hA3
      have HQ := Lib.hid hq
      have HQ4 := Lib.hid hq4
      clear hA hA1 hA2 hA3 hkey hq hq4 ht
      go_wp2_with (refine wpList_store_mid rfl 125 _ _ rfl wr.heap.size 0 A.toArray rfl rfl ?s1 HA3.out HA2.out ?_)
      case s1 => exact there_any (MapKept.heap_alloc wr _).1 (HA1.out.symm ▸ rfl)
      have hWW : ∀ C : Array Value, C.size = 64 → ((wr.alloc (.cells C 125)).setCells wr.heap.size 0 A).rangeAt wr.heap.size 0 A ∧ Below wr.heap.size wr ((wr.alloc (.cells C 125)).setCells wr.heap.size 0 A) := fun C hC =>
        ⟨World.rangeAt_setCells_same _ _ _ _ (there_any (MapKept.heap_alloc wr _).1 (by rw [hC]; simpa using HA1.out.symm)), below_setCells ((Below.refl _ _).alloc (Nat.le_refl _) _) (Nat.le_refl _) _ _⟩
      have hAl : A.length = 64 := by simpa using HA1.out
      have hwin : Lib.byteCells ((List.range (p - a)).map fun i => B f (a + i)) ++ (A.drop q).take (t - q) = Lib.byteCells ((List.range (p + (t - q) - a)).map fun i => B f (a + i)) := by
        rw [show p + (t - q) - a = (p - a) + (t - q) by omega, range_more (fun i => B f (a + i))]
        simp only [Lib.byteCells, List.map_append, List.map_map]
        congr 1
        rw [HA.out]
        apply List.ext_getElem
        · simp [sec]; omega
        · intro i h1 h2
          simp only [List.getElem_take, List.getElem_drop, List.getElem_map, sec, List.getElem_range, Function.comp]
          have := HQ4.out
          rw [show 64 * (p / 64) + (q + i) = a + (p - a + i) by omega]
      have hbl1 : w.heap.size + 1 < wr.heap.size := hrd.bl.elim (·.lt) (·.lt)
      have hbl : w.heap.size < wr.heap.size := by omega
      have HWIN := Lib.hid hwin
      have HWW := Lib.hid hWW
      clear hwin hWW
      refine Calls.mono (writeBytes (w.heap.size + 1) (w.heap.size + 1) wr.heap.size q (t - q) (64 - q) _ ((A.drop q).take (t - q)) _ (builder_next hrd.bl (HWW.out _ rfl).2) ?w1 ?w2 ?w3 ?w4 ?w5 ?w6) ?_
      case w1 => simp [Lib.byteCells]; omega
      case w2 => exact Nat.le_trans (Nat.succ_le_of_lt hbl) (HWW.out _ (by rfl)).2.size
      case w3 => omega
      case w4 => simp; omega
      case w5 => intro v hv; exact (Array.all_eq_true_iff_forall_mem.1 HA2.out) v (by simpa using List.mem_of_mem_drop (List.mem_of_mem_take hv))
      case w6 =>
        intro j u hu
        rw [← Nat.zero_add (q + j)]
        refine (HWW.out _ (by rfl)).1 (q + j) u ?_
        rw [List.getElem?_take] at hu
        split at hu
        · rwa [List.getElem?_drop] at hu
        · exact absurd hu (by simp)
      rintro en w4 ⟨rfl, hb4, hbl4⟩
      go_wp2
      go_roundw
      case rel =>
        refine ⟨p + (t - q), by omega, hq3, by go_num, ⟨?_, ?_, ?_⟩⟩
        · exact (hbl4.block _ (by omega)).trans (((HWW.out _ (by rfl)).2.block _ hbl).trans hrd.img)
        · exact .inr (HWIN.out ▸ hb4)
        · exact (hrd.bel.trans ((HWW.out _ (by rfl)).2.mono hz)).trans (hbl4.mono (Nat.le_succ _))
      case measure => simp [intOf]; omega
    · obtain rfl : p = e := by omega
      have hbl1 : w.heap.size + 1 < wr.heap.size := hrd.bl.elim (·.lt) (·.lt)
      have hcon := Lib.hid (Tryz.Builder_String_any (w.heap.size + 1) (w.heap.size + 1) _ wr hrd.bl (by omega))
      go_wp2_with (go_at_call 100; refine hcon.out.mono ?_; rintro en w4 ⟨rfl, hb4⟩)
      go_ret
      exact ⟨rfl, hrd.bel.trans (hb4.mono (Nat.le_succ _))⟩

end Go.Proofs.YtanecondopbfhaaGreatDoor
