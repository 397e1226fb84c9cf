/- Cutting a file of an image. -/
import Derived.Test.YtanecondopbfhaaGreatDoorPut
namespace Go.Proofs.YtanecondopbfhaaGreatDoor
open Go.RowKit

theorem zeroCells_bytes (n : Nat) : (Builtin.zeroCells #[.int .u8 0] n).toList = byteV (List.replicate n 0) := by
  apply List.ext_getElem
  · simp [Builtin.zeroCells, byteV]
  · intro i h1 h2
    simp [Builtin.zeroCells, byteV, Nat.mod_one]

/-- 'clear(s)', s some bytes. -/
theorem run_clear_bytes (w : World) (ty : TypeId) (b o n cap : Nat) (hn : 0 < n) (ht : w.there b o n) :
    (Builtin.clear_ #[56] ty #[.slice (some ⟨b, o, none⟩) n cap]).run Tryz.prog w = .ok (.tuple #[]) (w.setCells b o (byteV (List.replicate n 0))) := by
  have hl : (byteV (List.replicate n 0)).length = n := by rw [byteV_length, List.length_replicate]
  have hst := run_storeCells_cells (P := Tryz.prog) b o (byteV (List.replicate n 0)) 0 w (by rw [hl]; exact fun j hj => by simpa using (ht j hj).1) (by rw [hl]; exact fun j hj => by simpa using (ht j hj).2) (by
    intro v hv
    obtain ⟨x, _, rfl⟩ := List.mem_map.1 hv
    rfl)
  rw [Nat.add_zero] at hst
  obtain ⟨k, rfl⟩ : ∃ k, n = k + 1 := ⟨n - 1, by omega⟩
  simp only [Builtin.clear_, List.getElem?_toArray, List.getElem?_cons_zero, Sem.run_bind, run_underlying Tryz.underlying56, Result.andThen, Tryz.zeroValue5, Value.cells, zeroCells_bytes, hst]
  rfl

theorem wpList_clear_bytes {ops : Array Oper} {rest : List Oper} {o : Oper} {a : Act} {w : World} {Q : Exit → Act → World → Prop} (hgd : o.guard = none) (x : Operand)
    (hop : o.op = Op.call { callee := Callee.builtin Builtin.clear, args := #[x], argTypes := #[56] }) (b off n cap : Nat) (hx : a.eval x = .slice (some ⟨b, off, none⟩) n cap) (hn : 0 < n) (ht : w.there b off n)
    (h : wpList Tryz.prog ops Q rest (a.put o.dst (.tuple #[])) (w.setCells b off (byteV (List.replicate n 0)))) : wpList Tryz.prog ops Q (o :: rest) a w := by
  refine wpList_plain hgd fun K' hK' => ?_
  have hrun := run_clear_bytes w o.type b off n cap hn ht
  unfold Oper.wp
  simp [execOp, hop, resolve, invoke, builtin, hx, hrun, Result.andThen]
  exact hK' _ _ h

/-- The bytes when the sectors before x have been cut. -/
def cutB (B : Nat → Nat → UInt8) (f s x : Nat) : Nat → Nat → UInt8 := fun g p => if g = f ∧ s ≤ p ∧ p / 64 < x then 0 else B g p

/-- The worlds of the loop. -/
structure CtS (w : World) (b : Nat) (T : TypeId) (N : Nat) (c : Nat → Value) (m n : Nat) (B : Nat → Nat → UInt8) (f s x : Nat) (W : World) : Prop where
  cells : isCells W b T N c
  sec : SecAt W m n (cutB B f s x)
  kept : Kept (fun x => x = b ∨ x = m) w W

theorem wp_delete {o : Oper} {a : Act} {w w' : World} {K : Act → World → Prop} {Q : Exit → Act → World → Prop} (m x : Operand) (t k : TypeId) (hop : o.op = Op.call { callee := Callee.builtin Builtin.delete, args := #[m, x], argTypes := #[t, k] })
    (mv kv : Value) (hm : a.eval m = mv) (hx : a.eval x = kv) (hrun : (Builtin.delete_ #[t, k] o.type #[mv, kv]).run Tryz.prog w = .ok (.tuple #[]) w') (h : K (a.put o.dst (.tuple #[])) w') : Oper.wp Tryz.prog o a w K Q := by
  unfold Oper.wp
  simp [execOp, hop, resolve, invoke, builtin, hm, hx, hrun, Result.andThen]
  exact h

/-- The worlds of a round's region with a lookup. -/
def PoS (b : Nat) (T : TypeId) (N : Nat) (c : Nat → Value) (m n : Nat) (B : Nat → Nat → UInt8) (P f q : Nat) (D : DataW Unit) (W : World) : Prop := PvS b T N c m n B P f q W ∧ W.ownsMap Tryz.prog 95 secR m n D

theorem PoS.alloc {b : Nat} {T : TypeId} {N : Nat} {c : Nat → Value} {m n : Nat} {B : Nat → Nat → UInt8} {P f q : Nat} {D : DataW Unit} {W : World} (h : PoS b T N c m n B P f q D W) (o : Obj) : PoS b T N c m n B P f q D (W.alloc o) :=
  ⟨h.1.alloc o, ownsMap_same h.2 (Below.heap_alloc _ _ _ h.1.sec.lt)⟩

theorem PoS.set {b : Nat} {T : TypeId} {N : Nat} {c : Nat → Value} {m n : Nat} {B : Nat → Nat → UInt8} {P f q : Nat} {D : DataW Unit} {W : World} (h : PoS b T N c m n B P f q D W) {C : Nat} (hC : P < C) (o : Nat) (vs : List Value) : PoS b T N c m n B P f q D (W.setCells C o vs) :=
  ⟨h.1.set hC o vs, ownsMap_same h.2 (heap_setCells_other _ _ _ _ _ (by have := h.1.mP; omega))⟩

/-- A lookup with ok, at a map that is known as a datum. -/
theorem look_okD {W : World} {b n : Nat} {B : Nat → Nat → UInt8} {D : DataW Unit} (hD : W.ownsMap Tryz.prog 95 secR b n D) (hat : ∀ f k : Nat, f < 16 → k ≤ 1099511627776 → D.atKey (klit f k) (.lit (.string zeros)) = .lit (.string (sec B f k))) (f k : Nat) (hf : f < 16) (hk : k ≤ 1099511627776) :
    (Instr.lookup 70 (.map (some b)) (pk f k) true).run Tryz.prog W = .ok (.tuple #[secV (sec B f k), .bool (Maps.has D (klit f k))]) W := by
  have hkey := key_pk (f := (f : Int)) (k := (k : Int)) (wf_nat (by omega)) (wf_nat hk)
  obtain ⟨v, ps, hr, hv⟩ := hD.look_ok keyedPlace Tryz.underlying70 (zeroSec W) secR_zero hkey
  rw [hat f k hf hk] at hv
  rw [hr, (secR_inv hv).1]

theorem sec_getD (B : Nat → Nat → UInt8) (f k i : Nat) (hi : i < 64) : (sec B f k).getD i 0 = B f (64 * k + i) := by
  rw [List.getD_eq_getElem?_getD]
  simp [sec, List.getElem?_map, List.getElem?_range hi]

theorem zeros_getD (i : Nat) : zeros.getD i 0 = 0 := by
  rw [List.getD_eq_getElem?_getD, zeros, List.getElem?_replicate]
  split <;> rfl

theorem map_ne_cells {w : World} {b m n N : Nat} {T : TypeId} {c : Nat → Value} {B : Nat → Nat → UInt8} (hS : SecAt w m n B) (hC : isCells w b T N c) : m ≠ b := by
  intro e
  obtain ⟨D, ⟨es, cl, h1, _⟩, _⟩ := hS
  rw [e, hC] at h1
  simp at h1

set_option maxHeartbeats 2000000 in
set_option maxRecDepth 100000 in
theorem cut_calls (b o N m n f s : Nat) (T : TypeId) (c : Nat → Value) (sz : Nat) (B : Nat → Nat → UInt8) (w : World) (hc : isCells w b T N c) (ho : o + 17 ≤ N) (c0 : c o = .map (some m)) (c1 : c (o + 1 + f) = .int .i64 sz)
    (h : SecAt w m n B) (hf : f < 16) (hs : s ≤ sz) (hsz : sz ≤ 16777216) (hz : ∀ p, sz ≤ p → B f p = 0) (hn : n < 1000000000000) :
    Calls Tryz.prog 112 #[.pointer (some ⟨b, o, none⟩), .int .i64 f, .int .i64 s] w fun e w' => e = .returned (.tuple #[]) ∧
      isCells w' b T N (upd c (o + 1 + f) (.int .i64 s)) ∧ SecAt w' m (n + 1) (fun g p => if g = f ∧ s ≤ p then 0 else B g p) ∧ Kept (fun k => k = b ∨ k = m) w w' := by
  have b1 : (0 : Int) ≤ (f : Int) := by omega
  have b2 : (f : Int) < 16 := by omega
  have hmb := map_ne_cells h hc
  have C0 := Lib.hid c0
  have C1 := Lib.hid c1
  obtain ⟨t0, ht0⟩ : ∃ t0, t0 = s / 64 := ⟨_, rfl⟩
  have hst : (s : Int) / 64 = (t0 : Int) := by omega
  have HT0 := Lib.hid ht0
  have HP : Hid (CtS w b T N c m n B f s t0 w) := by
    refine ⟨hc, h.eq ?_, Kept.refl _ _⟩
    intro g p _
    unfold cutB
    rw [if_neg (by omega)]
  have HZ := Lib.hid hz
  clear hc h c0 c1 ht0 hz
  go_enter Tryz.func112, Tryz.ntmps112
  go_wp2_with fail
  go_loopw [6] (fun y wr => ∃ x n' : Nat, t0 ≤ x ∧ x ≤ sz / 64 + 1 ∧ n' ≤ n + 1 ∧ (x = t0 → n' = n) ∧ y = .int .i64 x ∧ CtS w b T N c m n' B f s x wr) (fun y _ => sz / 64 + 1 - (intOf y).toNat)
  case atStart => exact ⟨t0, n, Nat.le_refl _, by have := HT0.out; omega, by omega, fun _ => rfl, rfl, HP.out⟩
  case round =>
    obtain ⟨x, n', hx0, hx1, hn1, hn2, rfl, hp⟩ := hrel
    have g1 : wr.cell? ⟨b, o + 1 + f, none⟩ = some (.int .i64 sz) := by rw [hp.cells.cell _ (by omega), C1.out]
    have g2 : wr.frozen? ⟨b, o + 1 + f, none⟩ = false := hp.cells.frozen _
    have HN2 := Lib.hid hn2
    clear hn2
    by_cases hlt : x * 64 < sz
    · have d1 : decide ((x : Int) * 64 < (sz : Int)) = true := decide_eq_true (by omega)
      obtain ⟨v, hv⟩ : ∃ v : Int, v = (s : Int) - (x : Int) * 64 := ⟨_, rfl⟩
      have hv' : (s : Int) - (x : Int) * 64 = v := hv.symm
      have hv1 : -1000000000000 ≤ v := by omega
      have hv2 : v ≤ 1000000000000 := by omega
      have HV := Lib.hid hv
      have hx2 : x ≤ 1099511627776 := by omega
      clear hv
      go_wp2_with fail
      have hV : Hid (PvS b T N c m n' (cutB B f s x) wr.heap.size f x (wr.alloc (.cells #[.int .i64 f, .int .i64 x] 95))) := by
        refine ⟨hp.cells.alloc _, hp.sec.same (Below.heap_alloc _ _ _ hp.sec.lt), ?_, by simp, hp.cells.lt, hp.sec.lt⟩
        have := World.rangeAt_of_block (MapKept.heap_alloc wr (.cells #[.int .i64 f, .int .i64 x] 95)).1 0 2
        simpa using this
      obtain ⟨D, hD, hat, _⟩ := hV.out.sec
      obtain ⟨ok, hok⟩ : ∃ ok, ok = Maps.has D (klit f x) := ⟨_, rfl⟩
      have hnone : ok = false → sec (cutB B f s x) f x = zeros := by
        intro h0
        have := Maps.atKey_of_not_has (hok ▸ h0) (.lit (.string zeros))
        rw [hat f x hf hx2] at this
        simpa using this
      obtain ⟨A, hA⟩ : ∃ A, A = byteV (sec (cutB B f s x) f x) := ⟨_, rfl⟩
      have hA1 : A.toArray.size = 64 := by rw [hA]; simp [byteV, sec]
      have hA2 : A.toArray.all (·.oneCell') = true := all_oneCell_toArray (fun v hv => by
        rw [hA] at hv
        obtain ⟨x, _, rfl⟩ := List.mem_map.1 hv
        rfl)
      have hA3 : (Tryz.prog.info? 125).map (·.size) = some A.toArray.size := by rw [hA1]; kernel_rfl
      have hA4 : secV (sec (cutB B f s x) f x) = .agg A.toArray := by rw [hA]; rfl
      have HA := Lib.hid hA
      have HA1 := Lib.hid hA1
      have HA2 := Lib.hid hA2
      have HA3 := Lib.hid hA3
      have HA4 := Lib.hid hA4
      have HOK := Lib.hid hok
      have HNONE := Lib.hid hnone
      have HAT := Lib.hid hat
      clear hA hA1 hA2 hA3 hA4 hok hnone hat
      refine wp_region_held_drew (S := PoS b T N c m n' (cutB B f s x) wr.heap.size f x D) (by kernel_rfl) ⟨hV.out.drew, hD⟩ (fun hS0 => ?_)
      refine wpAnyH_take (i := 0) (v := .pointer (some ⟨b, o, none⟩)) rfl (by kernel_rfl) (by kernel_rfl) (by kernel_rfl) (fun _ _ _ h => h) ?y0 hS0 ?_
      case y0 => exact Or.inl ⟨rfl, fun W _ => by kernel_rfl⟩
      refine wpAnyH_take (i := 1) (v := .pointer (some ⟨b, o, none⟩)) rfl (by kernel_rfl) (by kernel_rfl) (by kernel_rfl) (fun _ _ _ h => h) ?y1 hS0 ?_
      case y1 => exact Or.inl ⟨rfl, fun W _ => by kernel_rfl⟩
      refine wpAnyH_take (i := 2) (v := .pointer (some ⟨b, o, none⟩)) rfl (by kernel_rfl) (by kernel_rfl) (by kernel_rfl) (fun _ _ _ h => h) ?y2 hS0 ?_
      case y2 => exact Or.inl ⟨rfl, fun W _ => by kernel_rfl⟩
      refine wpAnyH_take (i := 3) (v := .map (some m)) rfl (by kernel_rfl) (by kernel_rfl) (by kernel_rfl) (fun _ _ _ h => h) ?y3 hS0 ?_
      case y3 =>
        refine Or.inl ⟨rfl, fun W hW => ?_⟩
        have g0 := cell_map hW.1.cells ho C0.out
        show (execOp _ _).run _ _ = _
        go_simp
      refine wpAnyH_take (i := 4) (v := .agg #[.int .i64 f, .int .i64 x]) rfl (by kernel_rfl) (by kernel_rfl) (by kernel_rfl) (fun _ _ _ h => h) ?y4 hS0 ?_
      case y4 =>
        exact yieldsIf_load_mid rfl 95 _ rfl wr.heap.size 0 rfl [.int .i64 f, .int .i64 x] _ (fun W hW => hW.1.pv) Tryz.underlying95 rfl (by kernel_rfl)
      refine wpAnyH_take (i := 5) (v := .tuple #[.agg A.toArray, .bool ok]) rfl (by kernel_rfl) (by kernel_rfl) (by kernel_rfl) (fun _ _ _ h => h) ?y5 hS0 ?_
      case y5 =>
        refine Or.inl ⟨rfl, fun W hW => ?_⟩
        have g0 := look_okD hW.2 HAT.out f x hf hx2
        rw [HA4.out, ← HOK.out] at g0
        unfold pk at g0
        show (execOp _ _).run _ _ = _
        go_simp
      refine wpAnyH_take (i := 6) (v := .tuple #[.agg A.toArray, .bool ok]) rfl (by kernel_rfl) (by kernel_rfl) (by kernel_rfl) (fun _ _ _ h => h) ?y6 hS0 ?_
      case y6 => exact Or.inl ⟨rfl, fun W _ => by kernel_rfl⟩
      refine wpAnyH_take (i := 7) (v := .agg A.toArray) rfl (by kernel_rfl) (by kernel_rfl) (by kernel_rfl) (fun _ _ _ h => h) ?y7 hS0 ?_
      case y7 => exact Or.inl ⟨rfl, fun W _ => by kernel_rfl⟩
      refine wpAnyH_take (i := 8) (v := .bool ok) rfl (by kernel_rfl) (by kernel_rfl) (by kernel_rfl) (fun _ _ _ h => h) ?y8 hS0 ?_
      case y8 => exact Or.inl ⟨rfl, fun W _ => by kernel_rfl⟩
      refine wpAnyH_ready (rs := [9]) (by kernel_rfl) (by simp) ?_
      refine AllReadyH.cons rfl (fun K hK => ?_) AllReadyH.nil
      go_simp
      refine hK.out _ _ (hS0.alloc _) (fun hS1 => ?_)
      clear hK K
      obtain ⟨Y, e, hY⟩ := ex_world (F := PoS b T N c m n' (cutB B f s x) wr.heap.size f x D) hS1
      have hYt : Y.there (wr.heap.size + 1) 0 64 := by rw [← e]; exact there_any (heap_alloc2_new wr _ _) (by rfl)
      have hYz : Y.heap.size = wr.heap.size + 2 := by rw [← e]; simp
      have hYk : Kept (fun x => x = b ∨ x = m) w Y := by rw [← e]; exact (hp.kept.alloc _).drew.alloc _
      rw [e]
      clear e hS1
      refine wpAnyH_ready (rs := [10]) (by kernel_rfl) (by simp) ?_
      refine AllReadyH.cons rfl (fun K hK => ?_) AllReadyH.nil
      rw [if_pos (by rfl)]
      refine wp_store_mid 125 _ _ rfl (wr.heap.size + 1) 0 A.toArray rfl rfl ?t1 HA3.out HA2.out ?_
      case t1 => exact HA1.out.symm ▸ hYt
      refine hK.out _ _ (hY.set (by omega) _ _) (fun hS2 => ?_)
      clear hK K
      refine wpAnyH_take (i := 11) (v := .bool ok) rfl (by kernel_rfl) (by kernel_rfl) (by kernel_rfl) (fun _ _ _ h => h) ?y11 hS2 ?_
      case y11 => exact Or.inl ⟨rfl, fun W _ => by kernel_rfl⟩
      refine wpAnyH_done (by kernel_rfl) ?_ _
      obtain ⟨W2, e, hW2⟩ := ex_world (F := PoS b T N c m n' (cutB B f s x) wr.heap.size f x D) hS2
      have F1 : Hid (W2.rangeAt (wr.heap.size + 1) 0 A) := by rw [← e]; exact World.rangeAt_setCells_same _ _ _ _ (by have := HA1.out; simp at this; rw [this]; exact hYt)
      have F3 : W2.there (wr.heap.size + 1) 0 64 := by rw [← e]; exact World.there_setCells hYt _ _ _
      have F4 : Kept (fun x => x = b ∨ x = m) w W2 := by rw [← e]; exact hYk.setCells (Or.inr (by have := hp.kept.size; omega)) _ _
      have F5 : W2.heap.size = wr.heap.size + 2 := by rw [← e, size_setCells]; exact hYz
      rw [e]
      clear e hS2 hYt hYz hYk hY hS0 hV
      have hm1 := hW2.1.mP
      have HW2 := Lib.hid hW2
      have G1 : Hid (PwS b T N c wr.heap.size (wr.heap.size + 1) f x A W2) := ⟨hW2.1.cells, hW2.1.pv, F1.out⟩
      have G2 : Hid (W2.there (wr.heap.size + 1) 0 64) := F3
      have G5 : Hid (W2.heap.size = wr.heap.size + 2) := F5
      clear hW2 F1 F3 F5
      by_cases hA : v ≤ 0
      · have d2 : decide (v ≤ 0) = true := decide_eq_true hA
        go_wp2_with fail
        obtain ⟨w', hrun, hs', htn⟩ := (show SecAt W2.drew m n' (cutB B f s x) from HW2.out.1.sec).drop f x hf hx2 0
        unfold pk at hrun
        have hK' := mapTurned_kept htn
        have hS0 : PwS b T N c wr.heap.size (wr.heap.size + 1) f x A W2.drew := ⟨G1.out.cells, by simpa using G1.out.pv, by simpa using G1.out.cv⟩
        have hS9 : PwS b T N c wr.heap.size (wr.heap.size + 1) f x A w' :=
          ⟨hS0.cells.kept hK' (fun h => hmb h.symm), rangeAt_same hS0.pv (hK'.block _ (by show _ < W2.heap.size; have := G5.out; omega) (by omega)), rangeAt_same hS0.cv (hK'.block _ (by show _ < W2.heap.size; have := G5.out; omega) (by omega))⟩
        have hfin : Hid (CtS w b T N c m n' B f s (x + 1) w') := by
          refine ⟨hS9.cells, hs'.eq ?_, F4.drew.andThen hK' (fun i hi => Or.inl (Or.inr hi))⟩
          intro g y _
          have h1 := HV.out
          unfold setSec cutB
          by_cases hc : g = f ∧ y / 64 = x
          · rw [if_pos hc, if_pos ⟨hc.1, by omega, by omega⟩, zeros_getD]
          · rw [if_neg hc]
            by_cases h5 : g = f ∧ s ≤ y ∧ y / 64 < x
            · rw [if_pos ⟨h5.1, h5.2.1, by omega⟩, if_pos h5]
            · rw [if_neg (fun hh => by by_cases h6 : y / 64 = x; exact hc ⟨hh.1, h6⟩; exact h5 ⟨hh.1, hh.2.1, by omega⟩), if_neg h5]
        have HRUN := Lib.hid hrun
        clear hs' htn hK' hrun
        refine wp_region_held_drew (S := PwS b T N c wr.heap.size (wr.heap.size + 1) f x A) (by kernel_rfl) hS0 (fun hS0 => ?_)
        refine wpAnyH_take (i := 0) (v := .pointer (some ⟨b, o, none⟩)) rfl (by kernel_rfl) (by kernel_rfl) (by kernel_rfl) (fun _ _ _ h => h) ?d0 hS0 ?_
        case d0 => exact Or.inl ⟨rfl, fun W _ => by kernel_rfl⟩
        refine wpAnyH_take (i := 1) (v := .pointer (some ⟨b, o, none⟩)) rfl (by kernel_rfl) (by kernel_rfl) (by kernel_rfl) (fun _ _ _ h => h) ?d1 hS0 ?_
        case d1 => exact Or.inl ⟨rfl, fun W _ => by kernel_rfl⟩
        refine wpAnyH_take (i := 2) (v := .pointer (some ⟨b, o, none⟩)) rfl (by kernel_rfl) (by kernel_rfl) (by kernel_rfl) (fun _ _ _ h => h) ?d22 hS0 ?_
        case d22 => exact Or.inl ⟨rfl, fun W _ => by kernel_rfl⟩
        refine wpAnyH_take (i := 3) (v := .map (some m)) rfl (by kernel_rfl) (by kernel_rfl) (by kernel_rfl) (fun _ _ _ h => h) ?d3 hS0 ?_
        case d3 =>
          refine Or.inl ⟨rfl, fun W hW => ?_⟩
          have g0 := cell_map hW.cells ho C0.out
          show (execOp _ _).run _ _ = _
          go_simp
        refine wpAnyH_take (i := 4) (v := .agg #[.int .i64 f, .int .i64 x]) rfl (by kernel_rfl) (by kernel_rfl) (by kernel_rfl) (fun _ _ _ h => h) ?d4 hS0 ?_
        case d4 =>
          exact yieldsIf_load_mid rfl 95 _ rfl wr.heap.size 0 rfl [.int .i64 f, .int .i64 x] _ (fun W hW => hW.pv) Tryz.underlying95 rfl (by kernel_rfl)
        refine wpAnyH_ready (rs := [5]) (by kernel_rfl) (by simp) ?_
        refine AllReadyH.cons rfl (fun K hK => ?_) AllReadyH.nil
        rw [if_pos (by rfl)]
        refine wp_delete _ _ 70 95 rfl _ _ rfl rfl HRUN.out ?_
        refine hK.out _ _ hS9 (fun _ => ?_)
        clear hK K HRUN
        refine wpAnyH_done (by kernel_rfl) ?_ _
        go_wp2
        go_roundw
        case rel => exact ⟨x + 1, n', by omega, by omega, hn1, by omega, by go_num, hfin.out⟩
        case measure => simp [intOf]; omega
      · obtain ⟨kp, hkp⟩ : ∃ kp : Nat, v = kp := ⟨v.toNat, by omega⟩
        subst hkp
        have d2 : decide ((kp : Int) ≤ 0) = false := decide_eq_false hA
        have hxt : Hid (x = t0) := by
          have h1 := HV.out
          have h2 := HT0.out
          show x = t0
          omega
        have hk1 : kp < 64 := by
          have h1 := HV.out
          have h2 := HT0.out
          have h3 := hxt.out
          omega
        cases ok with
        | false =>
          go_wp2_with fail
          have hfin : Hid (CtS w b T N c m n' B f s (x + 1) W2) := by
            refine ⟨G1.out.cells, HW2.out.1.sec.eq ?_, F4⟩
            intro g y _
            have h1 := HNONE.out rfl
            unfold cutB
            by_cases h6 : g = f ∧ y / 64 = x
            · have h7 := sec_getD (cutB B f s x) f x (y % 64) (Nat.mod_lt _ (by decide))
              rw [h1, zeros_getD, show 64 * x + y % 64 = y by omega] at h7
              unfold cutB at h7
              rw [if_neg (by omega)] at h7
              rw [show (if g = f ∧ s ≤ y ∧ y / 64 < x then (0 : UInt8) else B g y) = B g y from if_neg (by omega), h6.1]
              split
              · exact h7
              · rfl
            · by_cases h5 : g = f ∧ s ≤ y ∧ y / 64 < x
              · rw [if_pos ⟨h5.1, h5.2.1, by omega⟩, if_pos h5]
              · rw [if_neg (fun hh => by by_cases h8 : y / 64 = x; exact h6 ⟨hh.1, h8⟩; exact h5 ⟨hh.1, hh.2.1, by omega⟩), if_neg h5]
          go_roundw
          case rel => exact ⟨x + 1, n', by omega, by omega, hn1, by omega, by go_num, hfin.out⟩
          case measure => simp [intOf]; omega
        | true =>
          have hsl := slice_l (wr.heap.size + 1) kp hk1
          have hth : Hid (W2.there (wr.heap.size + 1) kp (64 - kp)) := by
            intro i hi
            have := G2.out (kp + i) (by omega)
            rwa [Nat.zero_add] at this
          go_wp2_with (refine wpList_clear_bytes rfl (.tmp 51) rfl (wr.heap.size + 1) kp (64 - kp) (64 - kp) rfl (by omega) hth.out ?_)
          have hW3 := HW2.out.set (C := wr.heap.size + 1) (by omega) kp (byteV (List.replicate (64 - kp) 0))
          obtain ⟨W3, e, hV3⟩ := ex_world (F := PoS b T N c m n' (cutB B f s x) wr.heap.size f x D) hW3
          have K1 : Hid (W3.rangeAt (wr.heap.size + 1) 0 (byteV (sec (cutB B f s (x + 1)) f x))) := by
            rw [← e]
            refine splice_sec (HA.out ▸ G1.out.cv) hth.out (by simp) ?_
            intro i hi
            have h1 := HV.out
            unfold cutB
            by_cases hc : kp ≤ i ∧ i < kp + (64 - kp)
            · rw [if_pos hc, if_pos ⟨rfl, by omega, by omega⟩, List.getD_eq_getElem?_getD, List.getElem?_replicate]
              split <;> rfl
            · rw [if_neg hc, if_neg (by omega), if_neg (by omega)]
          have K4 : Kept (fun x => x = b ∨ x = m) w W3 := by rw [← e]; exact F4.setCells (Or.inr (by have := hp.kept.size; omega)) _ _
          have K5 : W3.heap.size = wr.heap.size + 2 := by rw [← e, size_setCells]; exact G5.out
          rw [e]
          clear e hW3 HW2 G1 G2 hth F4 G5 HA HA1 HA2 HA3 HA4 hsl
          obtain ⟨A2, hA⟩ : ∃ A, A = byteV (sec (cutB B f s (x + 1)) f x) := ⟨_, rfl⟩
          have hAl : A2.length = 64 := by rw [hA]; simp [byteV, sec]
          obtain ⟨w', hrun, hs', htn⟩ := (show SecAt W3.drew m n' (cutB B f s x) from hV3.1.sec).store f x hf (by omega) (by unfold maxLen; omega) (sec (cutB B f s (x + 1)) f x) (sec_length _ _ _)
          rw [← hA] at K1
          rw [show secV (sec (cutB B f s (x + 1)) f x) = .agg A2.toArray by rw [hA]; rfl] at hrun
          unfold pk at hrun
          have hK' := mapTurned_kept htn
          have hS0 : PwS b T N c wr.heap.size (wr.heap.size + 1) f x A2 W3.drew := ⟨hV3.1.cells, by simpa using hV3.1.pv, by simpa using K1.out⟩
          have hS9 : PwS b T N c wr.heap.size (wr.heap.size + 1) f x A2 w' :=
            ⟨hS0.cells.kept hK' (fun h => hmb h.symm), rangeAt_same hS0.pv (hK'.block _ (by show _ < W3.heap.size; omega) (by omega)), rangeAt_same hS0.cv (hK'.block _ (by show _ < W3.heap.size; omega) (by omega))⟩
          have hfin : Hid (CtS w b T N c m (n' + 1) B f s (x + 1) w') := by
            refine ⟨hS9.cells, hs'.eq ?_, K4.drew.andThen hK' (fun i hi => Or.inl (Or.inr hi))⟩
            intro g y _
            unfold setSec
            by_cases hc : g = f ∧ y / 64 = x
            · rw [if_pos hc, sec_getD _ _ _ _ (Nat.mod_lt _ (by decide)), show 64 * x + y % 64 = y by omega, hc.1]
            · rw [if_neg hc]
              unfold cutB
              by_cases h5 : g = f ∧ s ≤ y ∧ y / 64 < x
              · rw [if_pos ⟨h5.1, h5.2.1, by omega⟩, if_pos h5]
              · rw [if_neg (fun hh => by by_cases h8 : y / 64 = x; exact hc ⟨hh.1, h8⟩; exact h5 ⟨hh.1, hh.2.1, by omega⟩), if_neg h5]
          have HRUN := Lib.hid hrun
          clear hs' htn hK' hA K1 K4 hV3 hrun
          refine wp_region_held_drew (S := PwS b T N c wr.heap.size (wr.heap.size + 1) f x A2) (by kernel_rfl) hS0 (fun hS0 => ?_)
          refine wpAnyH_take (i := 0) (v := .pointer (some ⟨b, o, none⟩)) rfl (by kernel_rfl) (by kernel_rfl) (by kernel_rfl) (fun _ _ _ h => h) ?u0 hS0 ?_
          case u0 => exact Or.inl ⟨rfl, fun W _ => by kernel_rfl⟩
          refine wpAnyH_take (i := 1) (v := .pointer (some ⟨b, o, none⟩)) rfl (by kernel_rfl) (by kernel_rfl) (by kernel_rfl) (fun _ _ _ h => h) ?u1 hS0 ?_
          case u1 => exact Or.inl ⟨rfl, fun W _ => by kernel_rfl⟩
          refine wpAnyH_take (i := 2) (v := .pointer (some ⟨b, o, none⟩)) rfl (by kernel_rfl) (by kernel_rfl) (by kernel_rfl) (fun _ _ _ h => h) ?u2 hS0 ?_
          case u2 => exact Or.inl ⟨rfl, fun W _ => by kernel_rfl⟩
          refine wpAnyH_take (i := 3) (v := .map (some m)) rfl (by kernel_rfl) (by kernel_rfl) (by kernel_rfl) (fun _ _ _ h => h) ?u3 hS0 ?_
          case u3 =>
            refine Or.inl ⟨rfl, fun W hW => ?_⟩
            have g0 := cell_map hW.cells ho C0.out
            show (execOp _ _).run _ _ = _
            go_simp
          refine wpAnyH_take (i := 4) (v := .agg #[.int .i64 f, .int .i64 x]) rfl (by kernel_rfl) (by kernel_rfl) (by kernel_rfl) (fun _ _ _ h => h) ?u4 hS0 ?_
          case u4 =>
            exact yieldsIf_load_mid rfl 95 _ rfl wr.heap.size 0 rfl [.int .i64 f, .int .i64 x] _ (fun W hW => hW.pv) Tryz.underlying95 rfl (by kernel_rfl)
          refine wpAnyH_take (i := 5) (v := .agg A2.toArray) rfl (by kernel_rfl) (by kernel_rfl) (by kernel_rfl) (fun _ _ _ h => h) ?u5 hS0 ?_
          case u5 =>
            exact yieldsIf_load_mid rfl 125 _ rfl (wr.heap.size + 1) 0 rfl A2 _ (fun W hW => hW.cv) Tryz.underlying125 rfl (by rw [hAl]; kernel_rfl)
          refine wpAnyH_ready (rs := [6]) (by kernel_rfl) (by simp) ?_
          refine AllReadyH.cons rfl (fun K hK => ?_) AllReadyH.nil
          have hrun := HRUN.out
          go_simp
          refine hK.out _ _ hS9 (fun _ => ?_)
          clear hK K hrun HRUN
          refine wpAnyH_done (by kernel_rfl) ?_ _
          go_wp2
          go_roundw
          case rel => exact ⟨x + 1, n' + 1, by omega, by omega, by have := HN2.out hxt.out; omega, by omega, by go_num, hfin.out⟩
          case measure => simp [intOf]; omega
    · have d1 : decide ((x : Int) * 64 < (sz : Int)) = false := decide_eq_false (by omega)
      go_wp2_with fail
      go_end0
      refine ⟨rfl, hp.cells.set _ _, ((hp.sec.same (Below.heap_setCell _ _ _ _ hmb)).mono hn1).eq ?_, hp.kept.setCell (p := ⟨b, o + 1 + f, none⟩) (Or.inl (Or.inl rfl)) _⟩
      intro g y _
      unfold cutB
      by_cases h5 : g = f ∧ s ≤ y
      · rw [if_pos h5]
        split
        · rfl
        · rename_i h6
          rw [h5.1, HZ.out y (by omega)]
      · rw [if_neg h5, if_neg (fun hh => h5 ⟨hh.1, hh.2.1⟩)]

end Go.Proofs.YtanecondopbfhaaGreatDoor
