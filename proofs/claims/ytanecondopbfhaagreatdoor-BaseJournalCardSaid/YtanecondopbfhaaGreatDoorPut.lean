/- Putting bytes into an image. -/
import Derived.Test.YtanecondopbfhaaGreatDoorRead
import Derived.StillTailTactics
import Derived.IntWalk
import Derived.Lib.LazyBuf
namespace Go.Proofs.YtanecondopbfhaaGreatDoor
open Go.RowKit

/-- The string of a list of bytes. -/
def bs (l : List UInt8) : ByteArray := ⟨l.toArray⟩
theorem bs_data (l : List UInt8) : (bs l).data.toList = l := by simp [bs]
theorem bs_size (l : List UInt8) : (bs l).size = l.length := by simp [bs, ByteArray.size]
theorem bs_of (s : ByteArray) : bs s.data.toList = s := Lib.mk_data s
theorem bs_drop (l : List UInt8) (i : Nat) : (bs l).extract i (bs l).size = bs (l.drop i) := by
  rw [Lib.extract_eq, bs_data, bs_size, ← List.length_drop, List.take_length]; rfl

def byteV (l : List UInt8) : List Value := l.map fun x => Value.int .u8 (x.toNat : Int)

/-- 'copy(d, s)', s a string: as many bytes as fit. -/
theorem run_copy_str {P : Program} (w : World) (dT sT ty elem : TypeId) (b o dLen dCap k : Nat) (t : ByteArray) (hk : k = min t.size dLen)
    (hu : P.underlying dT = some (.slice elem)) (hz : ∀ w, (Go.sizeOf elem).run P w = .ok 1 w) (ht : w.there b o k) :
    (Builtin.copy_ #[dT, sT] ty #[.slice (some ⟨b, o, none⟩) dLen dCap, .string t]).run P w = .ok (goInt k) (w.setCells b o (byteV (t.data.toList.take k))) := by
  have hs : t.data.toList.length = t.size := (Lib.size_eq t).symm
  have hl : (byteV (t.data.toList.take k)).length = k := by rw [byteV, List.length_map, List.length_take, hs]; omega
  have hmin : Nat.min t.size dLen = k := hk.symm
  have hst := run_storeCells_cells (P := P) b o (byteV (t.data.toList.take k)) 0 w (by rw [hl]; exact fun j hj => by simpa using (ht j hj).1) (by rw [hl]; exact fun j hj => by simpa using (ht j hj).2) (by
    intro v hv
    obtain ⟨x, _, rfl⟩ := List.mem_map.1 hv
    rfl)
  simp [Builtin.copy_, run_underlying hu, Builtin.lenOf, Builtin.firstCells, hz, hmin]
  rw [← List.map_take]
  rw [Nat.add_zero] at hst
  unfold byteV at hst ⊢
  rw [hst]
  rfl

theorem wpList_copy_str {P : Program} {ops : Array Oper} {rest : List Oper} {o : Oper} {a : Act} {w : World} {Q : Exit → Act → World → Prop} (hgd : o.guard = none) (d x : Operand) (dT sT : TypeId)
    (hop : o.op = Op.call { callee := Callee.builtin Builtin.copy, args := #[d, x], argTypes := #[dT, sT] }) (elem : TypeId) (hu : P.underlying dT = some (.slice elem)) (hz : ∀ w, (Go.sizeOf elem).run P w = .ok 1 w)
    (b off dLen dCap k : Nat) (hd : a.eval d = .slice (some ⟨b, off, none⟩) dLen dCap) (t : ByteArray) (hx : a.eval x = .string t) (hk : k = min t.size dLen) (ht : w.there b off k)
    (h : wpList P ops Q rest (a.put o.dst (goInt k)) (w.setCells b off (byteV (t.data.toList.take k)))) : wpList P ops Q (o :: rest) a w := by
  refine wpList_plain hgd fun K' hK' => ?_
  have hrun := run_copy_str (P := P) w dT sT o.type elem b off dLen dCap k t hk hu hz ht
  unfold Oper.wp
  simp [execOp, hop, resolve, invoke, builtin, hd, hx, hrun, Result.andThen]
  exact hK' _ _ h

/-- The bytes when k of those of l have been put. -/
def putB (B : Nat → Nat → UInt8) (f a : Nat) (l : List UInt8) (k : Nat) : Nat → Nat → UInt8 := fun g p => if g = f ∧ a ≤ p ∧ p < a + k then l.getD (p - a) 0 else B g p

/-- The worlds of the loop. -/
structure PtS (w : World) (b : Nat) (T : TypeId) (N : Nat) (c : Nat → Value) (m n : Nat) (B : Nat → Nat → UInt8) (f a : Nat) (l : List UInt8) (k : Nat) (W : World) : Prop where
  cells : isCells W b T N c
  sec : SecAt W m (n + k) (putB B f a l k)
  kept : Kept (fun x => x = b ∨ x = m) w W

theorem ex_world {F : World → Prop} {X : World} (h : F X) : ∃ W, X = W ∧ F W := ⟨X, rfl, h⟩

/-- A variable of two cells, a place; what else a round reads. -/
structure PvS (b : Nat) (T : TypeId) (N : Nat) (c : Nat → Value) (m n : Nat) (B : Nat → Nat → UInt8) (P : Nat) (f q : Nat) (W : World) : Prop where
  cells : isCells W b T N c
  sec : SecAt W m n B
  pv : W.rangeAt P 0 [.int .i64 (f : Int), .int .i64 (q : Int)]
  lt : P < W.heap.size
  bP : b < P
  mP : m < P

theorem rangeAt_same {w w' : World} {b o : Nat} {cs : List Value} (h : w.rangeAt b o cs) (hb : w'.heap[b]? = w.heap[b]?) : w'.rangeAt b o cs := by
  intro j v hv
  rw [World.cell?_of_block (w := w) (a := ⟨b, o + j, none⟩) hb]
  exact h j v hv

section
variable {b : Nat} {T : TypeId} {N : Nat} {c : Nat → Value} {m n : Nat} {B : Nat → Nat → UInt8} {P f q : Nat} {W W' : World}

theorem PvS.drew (h : PvS b T N c m n B P f q W) : PvS b T N c m n B P f q W.drew := ⟨h.cells, h.sec, by simpa using h.pv, h.lt, h.bP, h.mP⟩

theorem PvS.far (h : PvS b T N c m n B P f q W) (hb : ∀ k, k ≤ P → W'.heap[k]? = W.heap[k]?) (hz : W.heap.size ≤ W'.heap.size) : PvS b T N c m n B P f q W' :=
  ⟨h.cells.same (hb _ (Nat.le_of_lt h.bP)), h.sec.same (hb _ (Nat.le_of_lt h.mP)), rangeAt_same h.pv (hb _ (Nat.le_refl _)), Nat.lt_of_lt_of_le h.lt hz, h.bP, h.mP⟩

theorem PvS.alloc (h : PvS b T N c m n B P f q W) (o : Obj) : PvS b T N c m n B P f q (W.alloc o) :=
  h.far (fun k hk => Below.heap_alloc _ _ _ (Nat.lt_of_le_of_lt hk h.lt)) (by simp)

theorem PvS.set (h : PvS b T N c m n B P f q W) {C : Nat} (hC : P < C) (o : Nat) (vs : List Value) : PvS b T N c m n B P f q (W.setCells C o vs) :=
  h.far (fun k hk => heap_setCells_other _ _ _ _ _ (by omega)) (by rw [size_setCells]; exact Nat.le_refl _)
end

theorem cell_map {W : World} {b o N m : Nat} {T : TypeId} {c : Nat → Value} (h : isCells W b T N c) (ho : o + 17 ≤ N) (c0 : c o = .map (some m)) : W.cell? ⟨b, o, none⟩ = some (.map (some m)) := by
  rw [h.cell _ (by omega), c0]

theorem byteV_length (l : List UInt8) : (byteV l).length = l.length := by simp [byteV]

/-- A sector of which some bytes are replaced. -/
theorem splice_sec {W : World} {C : Nat} {B1 B2 : Nat → Nat → UInt8} {f t q j : Nat} {S : List UInt8} (h : W.rangeAt C 0 (byteV (sec B1 f t))) (ht : W.there C q j) (hS : S.length = j)
    (hB : ∀ i, i < 64 → B2 f (64 * t + i) = if q ≤ i ∧ i < q + j then S.getD (i - q) 0 else B1 f (64 * t + i)) : (W.setCells C q (byteV S)).rangeAt C 0 (byteV (sec B2 f t)) := by
  intro i v hv
  have hi : i < 64 := by
    have := (List.getElem?_eq_some_iff.1 hv).1
    rw [byteV_length, sec_length] at this
    exact this
  have hv' : v = .int .u8 (B2 f (64 * t + i)).toNat := by
    simp [byteV, sec, hi] at hv
    exact hv.symm
  rw [hv', hB i hi, Nat.zero_add]
  by_cases hc : q ≤ i ∧ i < q + j
  · rw [if_pos hc]
    have := World.rangeAt_setCells_same W C q (byteV S) (by rw [byteV_length, hS]; exact ht) (i - q) (.int .u8 (S.getD (i - q) 0).toNat) (by
      have h1 : i - q < S.length := by omega
      simp [byteV, h1])
    rwa [show q + (i - q) = i by omega] at this
  · rw [if_neg hc, World.cell?_setCells_out]
    · have := h i (.int .u8 (B1 f (64 * t + i)).toNat) (by simp [byteV, sec, hi])
      rwa [Nat.zero_add] at this
    · intro _ _
      rw [byteV_length, hS]
      show i < q ∨ q + j ≤ i
      omega

/-- What the last region of a round reads. -/
structure PwS (b : Nat) (T : TypeId) (N : Nat) (c : Nat → Value) (P C : Nat) (f q : Nat) (A : List Value) (W : World) : Prop where
  cells : isCells W b T N c
  pv : W.rangeAt P 0 [.int .i64 (f : Int), .int .i64 (q : Int)]
  cv : W.rangeAt C 0 A

theorem slice_l (b l : Nat) (hl : l < 64) (W : World) :
    (Instr.sliceAt 125 (.pointer (some ⟨b, 0, none⟩)) (some (.int .i64 (l : Int))) none none).run Tryz.prog W = .ok (.slice (some ⟨b, l, none⟩) (64 - l) (64 - l)) W := by
  have hlen : Tryz.prog.arrayLen 125 = 64 := by kernel_rfl
  have hel : Tryz.prog.elem 125 = 5 := by kernel_rfl
  rw [run_sliceAt_array_l W 125 ⟨b, 0, none⟩ (by rw [hlen, hel]; exact Tryz.underlying125) .i64 l (by omega) (by rw [hlen]; omega), hel, Tryz.sizeOf5]
  simp only [Result.andThen, slicedAt, hlen, Int.toNat_natCast]
  rw [if_neg (by omega), Addr.add_mid]
  simp

set_option maxHeartbeats 1000000 in
set_option maxRecDepth 100000 in
theorem put_calls (b o N m n f a : Nat) (T : TypeId) (c : Nat → Value) (sz : Nat) (B : Nat → Nat → UInt8) (l : List UInt8) (w : World) (hc : isCells w b T N c) (ho : o + 17 ≤ N) (c0 : c o = .map (some m)) (c1 : c (o + 1 + f) = .int .i64 sz)
    (h : SecAt w m n B) (hf : f < 16) (ha : a + l.length ≤ 16777216) (hn : n + l.length < 1099511627776) :
    Calls Tryz.prog 101 #[.pointer (some ⟨b, o, none⟩), .int .i64 f, .int .i64 a, .string (bs l)] w fun e w' => e = .returned (.tuple #[]) ∧
      isCells w' b T N (upd c (o + 1 + f) (.int .i64 (max sz (a + l.length) : Nat))) ∧ SecAt w' m (n + l.length) (putB B f a l l.length) ∧ Kept (fun k => k = b ∨ k = m) w w' := by
  have g1 : w.cell? ⟨b, o + 1 + f, none⟩ = some (.int .i64 sz) := by rw [hc.cell _ (by omega), c1]
  have g2 : w.frozen? ⟨b, o + 1 + f, none⟩ = false := hc.frozen _
  have b1 : (0 : Int) ≤ (f : Int) := by omega
  have b2 : (f : Int) < 16 := by omega
  have hlen := bs_size l
  obtain ⟨M, hM⟩ : ∃ M, M = max sz (a + l.length) := ⟨_, rfl⟩
  have hw1 : IntKind.i64.wrap ((a : Int) + ((bs l).size : Int)) = (a : Int) + (l.length : Int) := by rw [hlen, IntWalk.i64_in _ (by omega)]
  have hmax : max (sz : Int) ((a : Int) + (l.length : Int)) = (M : Int) := by omega
  obtain ⟨c', hc'⟩ : ∃ c', c' = upd c (o + 1 + f) (.int .i64 M) := ⟨_, rfl⟩
  rw [← hM, ← hc']
  have C0 : Hid (c' o = .map (some m)) := by rw [hc', upd, if_neg (by omega)]; exact c0
  have HC' := Lib.hid hc'
  have HC := Lib.hid hc
  have HLEN := Lib.hid hlen
  have HS := Lib.hid h
  have HM := Lib.hid hM
  clear hc hlen h hM hc'
  go_enter Tryz.func101, Tryz.ntmps101
  go_wp2_with fail
  go_still_tail 16, (by kernel_rfl)
  change wpList _ _ _ _ _ w.drew
  go_wp2
  have HP : Hid (PtS w b T N c' m n B f a l 0 (w.setCell ⟨b, o + 1 + f, none⟩ (.int .i64 M)).drew) := by
    refine ⟨HC'.out ▸ HC.out.set _ _, ?_, (Kept.refl _ _).setCell (p := ⟨b, o + 1 + f, none⟩) (Or.inl (Or.inl rfl)) _ |>.drew⟩
    have hne : m ≠ b := by
      intro e
      obtain ⟨D, ⟨es, cl, h1, _⟩, _⟩ := HS.out
      rw [e, HC.out] at h1
      simp at h1
    refine (HS.out.same (w' := (w.setCell ⟨b, o + 1 + f, none⟩ (.int .i64 M)).drew) (Below.heap_setCell _ _ _ _ hne)).eq ?_
    intro g p _
    unfold putB
    rw [if_neg (by omega)]
  clear hw1 hmax g1 g2 c0 c1
  go_loopw [2, 3] (fun x y wr => ∃ k p : Nat, k ≤ l.length ∧ p = a + k ∧ x = .int .i64 p ∧ y = .string (bs (l.drop k)) ∧ PtS w b T N c' m n B f a l k wr) (fun x _ _ => a + l.length - (intOf x).toNat)
  case atStart => exact ⟨0, a, Nat.zero_le _, rfl, rfl, rfl, HP.out⟩
  case round =>
    obtain ⟨k, p, hk, hpk, rfl, rfl, hp⟩ := hrel
    have HPK := Lib.hid hpk
    have hple : p ≤ 1099511627776 := by omega
    by_cases hlt : k < l.length
    · have hne1 : (!(bs (l.drop k)).toList.isEmpty) = true := by
        rw [Lib.toList_data, bs_data]
        simp
        omega
      obtain ⟨q, hq⟩ : ∃ q, q = p % 64 := ⟨_, rfl⟩
      obtain ⟨t, ht⟩ : ∃ t, t = p / 64 := ⟨_, rfl⟩
      obtain ⟨j, hj⟩ : ∃ j, j = min (l.length - k) (64 - q) := ⟨_, rfl⟩
      have hqp : (p : Int) % 64 = (q : Int) := by omega
      have htp : (p : Int) / 64 = (t : Int) := by omega
      have hj1 : 1 ≤ j := by omega
      have hj2 : k + j ≤ l.length := by omega
      have hj3 : q + j ≤ 64 := by omega
      have hq1 : q < 64 := by omega
      have HQ := Lib.hid hq
      have HT := Lib.hid ht
      have HJ := Lib.hid hj
      have ht2 : t ≤ 1099511627776 := by omega
      have ht3 : t < 262144 := by omega
      clear hpk hq ht hj
      go_wp2_with fail
      have hV : Hid (PvS b T N c' m (n + k) (putB B f a l k) wr.heap.size f t (wr.alloc (.cells #[.int .i64 f, .int .i64 t] 95))) := by
        refine ⟨hp.cells.alloc _, hp.sec.same (Below.heap_alloc _ _ _ hp.sec.lt), ?_, by simp, hp.cells.lt, hp.sec.lt⟩
        have := World.rangeAt_of_block (MapKept.heap_alloc wr (.cells #[.int .i64 f, .int .i64 t] 95)).1 0 2
        simpa using this
      obtain ⟨A, hA⟩ : ∃ A, A = byteV (sec (putB B f a l k) f t) := ⟨_, rfl⟩
      have hA1 : A.toArray.size = 64 := by rw [hA]; simp [byteV, sec]
      have hA2 : A.toArray.all (·.oneCell') = true := all_oneCell_toArray (fun v hv => by
        rw [hA] at hv
        obtain ⟨x, _, rfl⟩ := List.mem_map.1 hv
        rfl)
      have hA3 : (Tryz.prog.info? 125).map (·.size) = some A.toArray.size := by rw [hA1]; kernel_rfl
      have hA4 : secV (sec (putB B f a l k) f t) = .agg A.toArray := by rw [hA]; rfl
      have HA := Lib.hid hA
      have HA1 := Lib.hid hA1
      have HA2 := Lib.hid hA2
      have HA3 := Lib.hid hA3
      have HA4 := Lib.hid hA4
      clear hA hA1 hA2 hA3 hA4
      refine wp_region_held_drew (S := PvS b T N c' m (n + k) (putB B f a l k) wr.heap.size f t) (by kernel_rfl) hV.out.drew (fun hS0 => ?_)
      refine wpAnyH_take (i := 0) (v := .pointer (some ⟨b, o, none⟩)) rfl (by kernel_rfl) (by kernel_rfl) (by kernel_rfl) (fun _ _ _ h => h) ?y0 hS0 ?_
      case y0 => exact Or.inl ⟨rfl, fun W _ => by kernel_rfl⟩
      refine wpAnyH_take (i := 1) (v := .pointer (some ⟨b, o, none⟩)) rfl (by kernel_rfl) (by kernel_rfl) (by kernel_rfl) (fun _ _ _ h => h) ?y1 hS0 ?_
      case y1 => exact Or.inl ⟨rfl, fun W _ => by kernel_rfl⟩
      refine wpAnyH_take (i := 2) (v := .pointer (some ⟨b, o, none⟩)) rfl (by kernel_rfl) (by kernel_rfl) (by kernel_rfl) (fun _ _ _ h => h) ?y2 hS0 ?_
      case y2 => exact Or.inl ⟨rfl, fun W _ => by kernel_rfl⟩
      refine wpAnyH_take (i := 3) (v := .map (some m)) rfl (by kernel_rfl) (by kernel_rfl) (by kernel_rfl) (fun _ _ _ h => h) ?y3 hS0 ?_
      case y3 =>
        refine Or.inl ⟨rfl, fun W hW => ?_⟩
        have g0 := cell_map hW.cells ho C0.out
        show (execOp _ _).run _ _ = _
        go_simp
      refine wpAnyH_take (i := 4) (v := .agg #[.int .i64 f, .int .i64 t]) rfl (by kernel_rfl) (by kernel_rfl) (by kernel_rfl) (fun _ _ _ h => h) ?y4 hS0 ?_
      case y4 =>
        exact yieldsIf_load_mid rfl 95 _ rfl wr.heap.size 0 rfl [.int .i64 f, .int .i64 t] _ (fun W hW => hW.pv) Tryz.underlying95 rfl (by kernel_rfl)
      refine wpAnyH_take (i := 5) (v := .agg A.toArray) rfl (by kernel_rfl) (by kernel_rfl) (by kernel_rfl) (fun _ _ _ h => h) ?y5 hS0 ?_
      case y5 =>
        refine Or.inl ⟨rfl, fun W hW => ?_⟩
        have g0 := hW.sec.look f t hf ht2
        rw [HA4.out] at g0
        unfold pk at g0
        show (execOp _ _).run _ _ = _
        go_simp
      refine wpAnyH_ready (rs := [6]) (by kernel_rfl) (by simp) ?_
      refine AllReadyH.cons rfl (fun K hK => ?_) AllReadyH.nil
      go_simp
      refine hK.out _ _ (hS0.alloc _) (fun hS1 => ?_)
      clear hK K
      obtain ⟨Y, e, hY⟩ := ex_world (F := PvS b T N c' m (n + k) (putB B f a l k) wr.heap.size f t) hS1
      have hYt : Y.there (wr.heap.size + 1) 0 64 := by rw [← e]; exact there_any (heap_alloc2_new wr _ _) (by rfl)
      have hYz : Y.heap.size = wr.heap.size + 2 := by rw [← e]; simp
      have hYk : Kept (fun x => x = b ∨ x = m) w Y := by rw [← e]; exact (hp.kept.alloc _).drew.alloc _
      rw [e]
      clear e hS1
      refine wpAnyH_ready (rs := [7]) (by kernel_rfl) (by simp) ?_
      refine AllReadyH.cons rfl (fun K hK => ?_) AllReadyH.nil
      rw [if_pos (by rfl)]
      refine wp_store_mid 125 _ _ rfl (wr.heap.size + 1) 0 A.toArray rfl rfl ?t1 HA3.out HA2.out ?_
      case t1 => exact HA1.out.symm ▸ hYt
      refine hK.out _ _ (hY.set (by omega) _ _) (fun hS2 => ?_)
      clear hK K
      refine wpAnyH_done (by kernel_rfl) ?_ _
      obtain ⟨W2, e, hW2⟩ := ex_world (F := PvS b T N c' m (n + k) (putB B f a l k) wr.heap.size f t) hS2
      have F1 : Hid (W2.rangeAt (wr.heap.size + 1) 0 A) := by rw [← e]; exact World.rangeAt_setCells_same _ _ _ _ (by have := HA1.out; simp at this; rw [this]; exact hYt)
      have F3 : W2.there (wr.heap.size + 1) 0 64 := by rw [← e]; exact World.there_setCells hYt _ _ _
      have F4 : Kept (fun x => x = b ∨ x = m) w W2 := by rw [← e]; exact hYk.setCells (Or.inr (by have := hp.kept.size; omega)) _ _
      have F5 : W2.heap.size = wr.heap.size + 2 := by rw [← e, size_setCells]; exact hYz
      rw [e]
      clear e hS2 hYt hYz hYk hY hS0
      have hsl := slice_l (wr.heap.size + 1) q hq1
      have hd1 : (bs (l.drop k)).data.toList = l.drop k := bs_data _
      have hd2 : (bs (l.drop k)).size = l.length - k := by rw [bs_size, List.length_drop]
      have HD1 := Lib.hid hd1
      have HD2 := Lib.hid hd2
      have F3' : Hid (W2.there (wr.heap.size + 1) q j) := by
        intro i hi
        have := F3 (q + i) (by omega)
        rwa [Nat.zero_add] at this
      clear hd1 hd2 F3
      go_wp2_with (refine wpList_copy_str rfl (.tmp 41) (.tmp 42) 56 9 rfl 5 Tryz.underlying56 Tryz.sizeOf5 (wr.heap.size + 1) q (64 - q) (64 - q) j rfl (bs (l.drop k)) rfl ?k1 F3'.out ?_)
      case k1 => have := HJ.out; have := HD2.out; omega
      have hW3 := hW2.set (C := wr.heap.size + 1) (by omega) q (byteV ((bs (l.drop k)).data.toList.take j))
      obtain ⟨W3, e, hV3⟩ := ex_world (F := PvS b T N c' m (n + k) (putB B f a l k) wr.heap.size f t) hW3
      have hSl : ((l.drop k).take j).length = j := by rw [List.length_take, List.length_drop]; omega
      have G1 : Hid (W3.rangeAt (wr.heap.size + 1) 0 (byteV (sec (putB B f a l (k + j)) f t))) := by
        rw [← e, HD1.out]
        refine splice_sec (HA.out ▸ F1.out) F3'.out hSl ?_
        intro i hi
        have h1 := HPK.out
        have h2 := HQ.out
        have h3 := HT.out
        unfold putB
        by_cases hc : q ≤ i ∧ i < q + j
        · rw [if_pos hc, if_pos ⟨rfl, by omega, by omega⟩]
          have h4 : i - q < ((l.drop k).take j).length := by omega
          rw [List.getD_eq_getElem?_getD, List.getD_eq_getElem?_getD, List.getElem?_take, if_pos (by omega), List.getElem?_drop, show k + (i - q) = 64 * t + i - a by omega]
        · rw [if_neg hc]
          by_cases h5 : a ≤ 64 * t + i ∧ 64 * t + i < a + k
          · rw [if_pos ⟨rfl, by omega, by omega⟩, if_pos ⟨rfl, by omega, by omega⟩]
          · rw [if_neg (by omega), if_neg (by omega)]
      have G4 : Kept (fun x => x = b ∨ x = m) w W3 := by rw [← e]; exact F4.setCells (Or.inr (by have := hp.kept.size; omega)) _ _
      have G5 : W3.heap.size = wr.heap.size + 2 := by rw [← e, size_setCells]; exact F5
      rw [e]
      clear e hW3 hW2 F1 F3' F4 F5 HA HA1 HA2 HA3 HA4 hsl
      obtain ⟨A, hA⟩ : ∃ A, A = byteV (sec (putB B f a l (k + j)) f t) := ⟨_, rfl⟩
      have hAl : A.length = 64 := by rw [hA]; simp [byteV, sec]
      obtain ⟨w', hrun, hs', htn⟩ := hV3.drew.sec.store f t hf ht3 (by unfold maxLen; omega) (sec (putB B f a l (k + j)) f t) (sec_length _ _ _)
      rw [← hA] at G1
      rw [show secV (sec (putB B f a l (k + j)) f t) = .agg A.toArray by rw [hA]; rfl] at hrun
      unfold pk at hrun
      have hmb : m ≠ b := by
        intro e
        obtain ⟨D, ⟨es, cl, h1, _⟩, _⟩ := HS.out
        rw [e, HC.out] at h1
        simp at h1
      have hK' := mapTurned_kept htn
      have hS0 : PwS b T N c' wr.heap.size (wr.heap.size + 1) f t A W3.drew := ⟨hV3.cells, by simpa using hV3.pv, by simpa using G1.out⟩
      have hm1 := hV3.mP
      have hS9 : PwS b T N c' wr.heap.size (wr.heap.size + 1) f t A w' :=
        ⟨hS0.cells.kept hK' (fun h => hmb h.symm), rangeAt_same hS0.pv (hK'.block _ (by show _ < W3.heap.size; omega) (by omega)), rangeAt_same hS0.cv (hK'.block _ (by show _ < W3.heap.size; omega) (by omega))⟩
      have hfin : Hid (PtS w b T N c' m n B f a l (k + j) w') := by
        refine ⟨hS9.cells, (SecAt.mono hs' (by omega)).eq ?_, G4.drew.andThen hK' (fun i hi => Or.inl (Or.inr hi))⟩
        intro g x _
        have h1 := HPK.out
        have h2 := HQ.out
        have h3 := HT.out
        unfold setSec
        by_cases hc : g = f ∧ x / 64 = t
        · rw [if_pos hc]
          have h4 : x % 64 < 64 := Nat.mod_lt _ (by decide)
          rw [List.getD_eq_getElem?_getD]
          simp only [sec, List.getElem?_map, List.getElem?_range h4, Option.map_some, Option.getD_some]
          rw [show 64 * t + x % 64 = x by omega, hc.1]
        · rw [if_neg hc]
          unfold putB
          by_cases h5 : g = f ∧ a ≤ x ∧ x < a + k
          · rw [if_pos ⟨h5.1, by omega, by omega⟩, if_pos h5]
          · rw [if_neg (by omega), if_neg h5]
      have HRUN := Lib.hid hrun
      clear hs' htn hK' hA G1 G4 hV3 hrun
      refine wp_region_held_drew (S := PwS b T N c' wr.heap.size (wr.heap.size + 1) f t A) (by kernel_rfl) hS0 (fun hS0 => ?_)
      refine wpAnyH_take (i := 0) (v := .pointer (some ⟨b, o, none⟩)) rfl (by kernel_rfl) (by kernel_rfl) (by kernel_rfl) (fun _ _ _ h => h) ?z0 hS0 ?_
      case z0 => exact Or.inl ⟨rfl, fun W _ => by kernel_rfl⟩
      refine wpAnyH_take (i := 1) (v := .pointer (some ⟨b, o, none⟩)) rfl (by kernel_rfl) (by kernel_rfl) (by kernel_rfl) (fun _ _ _ h => h) ?z1 hS0 ?_
      case z1 => exact Or.inl ⟨rfl, fun W _ => by kernel_rfl⟩
      refine wpAnyH_take (i := 2) (v := .pointer (some ⟨b, o, none⟩)) rfl (by kernel_rfl) (by kernel_rfl) (by kernel_rfl) (fun _ _ _ h => h) ?z2 hS0 ?_
      case z2 => exact Or.inl ⟨rfl, fun W _ => by kernel_rfl⟩
      refine wpAnyH_take (i := 3) (v := .map (some m)) rfl (by kernel_rfl) (by kernel_rfl) (by kernel_rfl) (fun _ _ _ h => h) ?z3 hS0 ?_
      case z3 =>
        refine Or.inl ⟨rfl, fun W hW => ?_⟩
        have g0 := cell_map hW.cells ho C0.out
        show (execOp _ _).run _ _ = _
        go_simp
      refine wpAnyH_take (i := 4) (v := .agg #[.int .i64 f, .int .i64 t]) rfl (by kernel_rfl) (by kernel_rfl) (by kernel_rfl) (fun _ _ _ h => h) ?z4 hS0 ?_
      case z4 =>
        exact yieldsIf_load_mid rfl 95 _ rfl wr.heap.size 0 rfl [.int .i64 f, .int .i64 t] _ (fun W hW => hW.pv) Tryz.underlying95 rfl (by kernel_rfl)
      refine wpAnyH_take (i := 5) (v := .agg A.toArray) rfl (by kernel_rfl) (by kernel_rfl) (by kernel_rfl) (fun _ _ _ h => h) ?z5 hS0 ?_
      case z5 =>
        exact yieldsIf_load_mid rfl 125 _ rfl (wr.heap.size + 1) 0 rfl A _ (fun W hW => hW.cv) Tryz.underlying125 rfl (by rw [hAl]; kernel_rfl)
      refine wpAnyH_ready (rs := [6]) (by kernel_rfl) (by simp) ?_
      refine AllReadyH.cons rfl (fun K hK => ?_) AllReadyH.nil
      have hrun := HRUN.out
      go_simp
      refine hK.out _ _ hS9 (fun _ => ?_)
      clear hK K hrun HRUN
      refine wpAnyH_done (by kernel_rfl) ?_ _
      have hbd : (j : Int) ≤ ((bs (l.drop k)).size : Int) := by have := HD2.out; omega
      go_wp2
      go_roundw
      case rel => exact ⟨k + j, p + j, hj2, by have := HPK.out; omega, by go_num, by rw [bs_drop, List.drop_drop], hfin.out⟩
      case measure => have := HPK.out; simp [intOf]; omega
    · obtain rfl : k = l.length := by omega
      have hne1 : (!(bs []).toList.isEmpty) = false := by
        rw [Lib.toList_data, bs_data]
        rfl
      rw [List.drop_length]
      go_wp2
      go_end0
      exact ⟨rfl, hp.cells, hp.sec, hp.kept⟩

end Go.Proofs.YtanecondopbfhaaGreatDoor
