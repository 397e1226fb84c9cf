/- The reference's disk: Arm, Read, doRef. -/
import Derived.Test.YtbljfdjhgleafaaRcall2
namespace Go.Proofs.Ytbljfdjhgleafaa
open Go.RowKit

variable {w w' : World} {b : Nat} {L : RL} {r r' : Rk} {S : Nat → Prop} {d : Dk}

theorem info_int : (Try.prog.info? 3).map (fun i => (i.zero, i.size, i.bytes)) = some (some (.int .i64 0), 1, 8) := by kernel_rfl

theorem nil_append {base n : Nat} {v : Value} {xs : List Value} (ty : TypeId) (c : Nat) (hown : w.ownsRow base 3 1 v n xs) :
    (Builtin.append_ #[31, 31] ty #[v, .slice none 0 c]).run Try.prog w = .ok v w := by
  obtain ⟨i0, hi, hz0, hz1, hz2⟩ := info_parts info_int
  rcases hown.2 with ⟨rfl, rfl⟩ | ⟨g, cap, cur, rfl, _, _, hnc, _⟩
  · simp [Builtin.append_, run_underlying Try.underlying31, sizeOf, typeInfo, hi, Builtin.lenOf, Builtin.firstCells]
  · simp [Builtin.append_, run_underlying Try.underlying31, sizeOf, typeInfo, hi, Builtin.lenOf, Builtin.firstCells, hnc, storeCells]

theorem wpList_append_nothing {ops : Array Oper} {rest : List Oper} {o : Oper} {a : Act} {Q : Exit → Act → World → Prop} (hgd : o.guard = none) (s x : Operand)
    (ho : o.op = .call { callee := .builtin .append, args := #[s, x], argTypes := #[31, 31] }) {base n : Nat} {v : Value} {xs : List Value} (hs : a.eval s = v) (hown : w.ownsRow base 3 1 v n xs)
    (c : Nat) (hx : a.eval x = .slice none 0 c) (hn : wpList Try.prog ops Q rest (a.put o.dst v) w) : wpList Try.prog ops Q (o :: rest) a w :=
  wpList_plain hgd fun _ hK => by
    have hr := nil_append o.type c hown
    unfold Oper.wp execOp
    simp only [ho, resolve, invoke, builtin, Sem.run_bind, Sem.run_pure, Result.andThen_ok, List.map_toArray, List.map_cons, List.map_nil, hs, hx, hr]
    exact hK _ _ hn

set_option maxHeartbeats 2000000 in
set_option maxRecDepth 100000 in
theorem rarm_calls (h : IsR w b L r) (n : Int) (v : Value) (xs : List Int) (hv : KeepAt w v xs) (hvb : ∀ i, inBlock v i → i ≠ b) (hn : n ≤ 9223372036854775807) (hlen : xs.length ≤ 1099511627776) :
    Calls Try.prog 35 #[.pointer (some ⟨b, 0, none⟩), .int .i64 n, v] w fun e w' => e = .returned (.tuple #[]) ∧ PostR (fun i => i = b) w b L { r with armed := n.toNat, keep := xs } w' := by
  obtain ⟨i0, hi, hz0, hz1, hz2⟩ := info_parts info_int
  have a4 : w.cell? ⟨b, 4, none⟩ = some (.int .i64 r.armed) := h.cells.cell 4 (by omega)
  have f4 := h.cells.frozen 4
  obtain ⟨m, hm0⟩ : ∃ m, m = n.toNat := ⟨_, rfl⟩
  have hm : max n 0 = (m : Int) := by omega
  have hm9 : m ≤ 9223372036854775807 := by omega
  rw [← hm0]
  clear hm0 hn
  have hk1 : Kept (fun i => i = b) w (w.setCell ⟨b, 4, none⟩ (.int .i64 (m : Int))) := (Kept.refl (fun i => i = b) w).setCell (p := ⟨b, 4, none⟩) (Or.inl rfl) _
  have hI1 : IsR (w.setCell ⟨b, 4, none⟩ (.int .i64 (m : Int))) b L { r with armed := m } := h.cell rfl rfl rfl h.lb hm9 ((h.cells.set 4 (.int .i64 (m : Int))).eq (fun j _ => by
    by_cases e : j = 4
    · subst e; rfl
    · simp [upd, e, rcell])) hk1
  have hv1 : KeepAt (w.setCell ⟨b, 4, none⟩ (.int .i64 (m : Int))) v xs := hv.kept hk1 (fun i hi e => hvb i hi e)
  obtain ⟨W, hW⟩ : ∃ W, W = w.setCell ⟨b, 4, none⟩ (.int .i64 (m : Int)) := ⟨_, rfl⟩
  rw [← hW] at hk1 hI1 hv1
  have ho0 : (W.alloc (.cells #[] 3)).ownsRow (W.heap.size) 3 1 (.slice (some ⟨W.heap.size, 0, none⟩) 0 0) 0 [] := World.ownsRow_lit W #[] 0 (Nat.le_refl _) (by simp [maxLen]) rfl
  have hIA : IsR (W.alloc (.cells #[] 3)) b L { r with armed := m } := hI1.kept ((Kept.refl (fun _ => False) W).alloc _) (fun _ _ e => e)
  have hkA : Kept (fun i => i = b) w (W.alloc (.cells #[] 3)) := hk1.alloc _
  have hvA : KeepAt (W.alloc (.cells #[] 3)) v xs := hv1.kept ((Kept.refl (fun _ => False) W).alloc _) (fun _ _ e => e)
  obtain ⟨V, hV⟩ : ∃ V, V = W.alloc (.cells #[] 3) := ⟨_, rfl⟩
  obtain ⟨g, hg⟩ : ∃ g, g = W.heap.size := ⟨_, rfl⟩
  have hgV : g < V.heap.size := by rw [hV, hg]; simp
  have hgw : w.heap.size ≤ g := by rw [hg]; exact hk1.size
  rw [← hV, ← hg] at ho0
  rw [← hV] at hIA hkA hvA
  have HI := Lib.hid hIA
  have HK := Lib.hid hkA
  have HO := Lib.hid ho0
  have c5 := hIA.cells.cell 5 (by omega)
  have f5 := hIA.cells.frozen 5
  -- what is left when the new slice is stored
  have hfin : ∀ (U : World) (a5 : Option Addr) (n5 c5 : Nat), Kept (fun i => i = g) V U → U.ownsRow g 3 1 (.slice a5 n5 c5) xs.length (xs.map (Value.int .i64)) →
      PostR (fun i => i = b) w b L { r with armed := m, keep := xs } (U.setCell ⟨b, 5, none⟩ (.slice a5 n5 c5)) := by
    intro U a5 n5 c5 hku hou
    obtain ⟨v', hv'⟩ : ∃ v', v' = Value.slice a5 n5 c5 := ⟨_, rfl⟩
    rw [← hv'] at hou ⊢
    have hib : ∀ i, RFoot b L i → i ≠ g := fun i hi e => by have := h.foot_lt i hi; omega
    have hiU : IsR U b L { r with armed := m } := HI.out.kept hku hib
    have hks := (Kept.refl (fun i => i = b) U).setCell (p := ⟨b, 5, none⟩) (Or.inl rfl) v'
    refine ⟨{ L with kv := v' }, ⟨?_, ?_, ?_, ?_, h.lb, hm9⟩, (HK.out.andThen hku (fun i hi => Or.inr (by omega))).trans hks, ?_⟩
    · refine (hiU.cells.set 5 v').eq ?_
      intro i hi
      by_cases e : i = 5
      · subst e; rfl
      · have : i < 5 := by omega
        match i, this with
        | 0, _ => rfl
        | 1, _ => rfl
        | 2, _ => rfl
        | 3, _ => rfl
        | 4, _ => rfl
    · exact owns_kept hiU.fs hks (fun i hi e => owns_ne_cells hiU.fs hiU.cells File_ne_Disk (e ▸ hi))
    · exact owns_kept hiU.qs hks (fun i hi e => owns_ne_cells hiU.qs hiU.cells Sector_ne_Disk (e ▸ hi))
    · exact owns_kept (owns_zero hou) hks (fun i hi e => owns_ne_cells hou hiU.cells int_ne_Disk (e ▸ hi))
    · rintro i (e | e | e | e)
      · exact Or.inl (Or.inl e)
      · exact Or.inl (Or.inr (Or.inl e))
      · exact Or.inl (Or.inr (Or.inr (Or.inl e)))
      · have := (hou.lt i e).1
        exact Or.inr (by omega)
  have hgz : g = w.heap.size := by rw [hg, hW]; simp [World.setCell]
  subst hgz
  have hVl : V = (w.setCell ⟨b, 4, none⟩ (.int .i64 (m : Int))).alloc (.cells #[] 3) := by rw [hV, hW]
  have hbw := h.lt
  have hcb : ∃ u, V.cell? ⟨b, 5, none⟩ = some u := ⟨_, c5⟩
  have hOL : ((w.setCell ⟨b, 4, none⟩ (.int .i64 (m : Int))).alloc (.cells #[] 3)).ownsRow w.heap.size 3 1 (.slice (some ⟨w.heap.size, 0, none⟩) 0 0) 0 [] := by rw [← hVl]; exact HO.out
  have HOL := Lib.hid hOL
  have HVL := Lib.hid hVl
  by_cases hnil : ∃ c, v = .slice none 0 c ∧ xs = []
  · obtain ⟨c, rfl, rfl⟩ := hnil
    have hp := hfin V (some ⟨w.heap.size, 0, none⟩) 0 0 (Kept.refl _ _) HO.out
    have HP := Lib.hid hp
    clear h hv hvb hW hk1 hI1 hv1 hV hg hgV hgw hVl hkA hIA ho0 hfin hp HI HK hOL hcb hvA hbw
    go_enter Try.func35, Try.ntmps35
    go_wp2_with (at_builtin; refine wpList_append_nothing rfl _ _ rfl rfl HOL.out c rfl ?_; rw [← HVL.out])
    go_end0
    exact ⟨rfl, HP.out⟩
  · obtain ⟨ad, c, rfl, hcells⟩ : ∃ ad c, v = .slice (some ad) xs.length c ∧ ∀ j u, (xs.map (Value.int .i64))[j]? = some u → V.cell? (ad.add j) = some u := by
      rcases hvA with ⟨⟨a, c, rfl⟩, rfl⟩ | ⟨gv, off, c, rfl, hgv, hcx⟩
      · cases a with
        | none => exact absurd ⟨c, rfl, rfl⟩ hnil
        | some ad => exact ⟨ad, c, rfl, by simp⟩
      · refine ⟨⟨gv, off, none⟩, c, rfl, fun j u hu => ?_⟩
        rw [List.getElem?_map] at hu
        obtain ⟨x, hx, rfl⟩ := Option.map_eq_some_iff.1 hu
        rw [show (⟨gv, off, none⟩ : Addr).add j = ⟨gv, off + j, none⟩ from Go.WideShapes.add_plain ..]
        exact hcx j x hx
    have hcl2 : ∀ j u, (xs.map (Value.int .i64))[j]? = some u → ((w.setCell ⟨b, 4, none⟩ (.int .i64 (m : Int))).alloc (.cells #[] 3)).cell? (ad.add j) = some u := by rw [← hVl]; exact hcells
    have HCL := Lib.hid hcl2
    have HF : Hid (∀ (U : World) (a5 : Option Addr) (n5 c5 : Nat), Kept (fun i => i = w.heap.size) V U → U.ownsRow w.heap.size 3 1 (.slice a5 n5 c5) xs.length (xs.map (Value.int .i64)) →
      PostR (fun i => i = b) w b L { r with armed := m, keep := xs } (U.setCell ⟨b, 5, none⟩ (.slice a5 n5 c5))) := hfin
    have hone : ∀ u ∈ xs.map (Value.int .i64), u.oneCell' = true := by
      intro u hu
      obtain ⟨x, _, rfl⟩ := List.mem_map.1 hu
      rfl
    have HONE := Lib.hid hone
    have hbb : b < w.heap.size := hbw
    have hVz : w.heap.size < V.heap.size := hgV
    have hCells : isCells V b 61 6 (rcell L { r with armed := m }) := hIA.cells
    have HCELLS := Lib.hid hCells
    clear h hv hvb hW hk1 hI1 hv1 hV hg hgV hgw hVl hkA hIA ho0 hfin HI HK hOL hcb hvA hbw hcells hcl2 hone hCells hnil c5 f5
    go_enter Try.func35, Try.ntmps35
    go_wp2_with (at_builtin; refine wpList_append_own _ rfl _ _ 31 rfl w.heap.size 3 i0 (.int .i64 0) 1 8 Try.underlying31 hi hz0 hz1 hz2 rfl (by decide) _ _ _ rfl HOL.out ad xs.length c (xs.map (Value.int .i64)) rfl (by simp) HCL.out HONE.out ?c3 ?c4 ?c5 ?_)
    case c3 => unfold maxLen; omega
    case c4 => omega
    case c5 => simp [World.setCell]
    intro v' w2 hown2 hgrow hne
    rw [← HVL.out] at hgrow
    obtain ⟨a2, n2, cc2, rfl⟩ : ∃ a2 n2 cc2, v' = .slice a2 n2 cc2 := by
      obtain ⟨_, ⟨h1, _⟩ | ⟨g2, cap2, cur, h1, _⟩⟩ := hown2
      · exact ⟨_, _, _, h1⟩
      · exact ⟨_, _, _, h1⟩
    have hkU : Kept (fun i => i = w.heap.size) V w2 := (Kept.refl _ V).grown hgrow (fun i hi => Or.inl (by simpa [Value.ownBlock] using hi.symm))
    have hcU := HCELLS.out.kept hkU (by omega)
    have c5 := hcU.cell 5 (by omega)
    have f5 := hcU.frozen 5
    have HP := Lib.hid (HF.out w2 a2 n2 cc2 hkU hown2)
    clear hown2 hgrow hne hkU hcU HF
    go_wp2_with fail
    go_end0
    exact ⟨rfl, HP.out⟩

/-! ### Read -/

theorem img_read (m : Img) (f a n : Nat) (h : a + n ≤ m.sz f) : m.read f a n = ((m.text f).drop a).take n := by
  refine List.ext_getElem ?_ fun i h1 h2 => ?_
  · rw [Img.read_length, List.length_take, List.length_drop, Img.text_length]; omega
  · rw [List.getElem_take, List.getElem_drop]
    simp [Img.read, Img.text]

def Rk.read (r : Rk) (f a n : Int) : List UInt8 × Int :=
  if r.may f ≠ 0 then ([], r.may f) else
  if a < 0 ∨ n < 0 then ([], 1) else
  if a ≥ (getF r.fs f).now.length then ([], 0) else ((((getF r.fs f).now.drop a.toNat).take (min n.toNat ((getF r.fs f).now.length - a.toNat))), 0)

theorem Rep.read (h : Rep r d) (f a n : Int) : r.read f a n = d.read f a n := by
  unfold Rk.read Dk.read
  rw [h.may]
  by_cases hc : d.chk f = 0
  · obtain ⟨h1, h2, h3⟩ := Dk.chk_ok hc
    have hn := h.now f.toNat (by omega)
    rw [show ((f.toNat : Nat) : Int) = f by omega] at hn
    have e0 : ¬ d.chk f ≠ 0 := fun e => e hc
    rw [hn, Img.text_length, if_neg e0, if_neg e0]
    by_cases h4 : a < 0 ∨ n < 0
    · rw [if_pos h4, if_pos h4]
    · rw [if_neg h4, if_neg h4]
      by_cases h5 : a ≥ (d.F.sz f.toNat : Int)
      · rw [if_pos h5, if_pos h5]
      · rw [if_neg h5, if_neg h5, img_read _ _ _ _ (by omega)]
  · rw [if_pos hc, if_pos hc]

set_option maxHeartbeats 2000000 in
set_option maxRecDepth 100000 in
theorem rread_calls (h : IsR w b L r) (hr : Rep r d) (f a n : Int) (ha : -9223372036854775808 ≤ a) (ha2 : a ≤ 9223372036854775807) :
    Calls Try.prog 20 #[.pointer (some ⟨b, 0, none⟩), .int .i64 f, .int .i64 a, .int .i64 n] w fun e w' => e = .returned (.tuple #[.string (bs (r.read f a n).1), .int .i64 (r.read f a n).2]) ∧ Below w.heap.size w w' := by
  have cm := Lib.hid (rmay_calls h f)
  obtain ⟨m, hm⟩ : ∃ m, m = r.may f := ⟨_, rfl⟩
  rw [← hm] at cm
  obtain ⟨Rr, hRr⟩ : ∃ Rr, Rr = r.read f a n := ⟨_, rfl⟩
  rw [← hRr]
  unfold Rk.read at hRr
  rw [← hm] at hRr
  by_cases h0 : m = 0
  · subst h0
    obtain ⟨hf0, hf1, -⟩ := may_ok hm.symm
    rw [if_neg (by simp)] at hRr
    by_cases h1 : a < 0
    · have d1 : decide (a < 0) = true := decide_eq_true h1
      rw [if_pos (Or.inl h1)] at hRr
      subst hRr
      clear h hr hm
      go_enter Try.func20, Try.ntmps20
      go_wp2_with (refine Calls.mono cm.out ?_; rintro e w2 ⟨rfl, rfl⟩)
      go_ret2
      exact ⟨rfl, Below.refl _ _⟩
    · have d1 : decide (a < 0) = false := decide_eq_false h1
      by_cases h2 : n < 0
      · have d2 : decide (n < 0) = true := decide_eq_true h2
        rw [if_pos (Or.inr h2)] at hRr
        subst hRr
        clear h hr hm
        go_enter Try.func20, Try.ntmps20
        go_wp2_with (refine Calls.mono cm.out ?_; rintro e w2 ⟨rfl, rfl⟩)
        go_ret2
        exact ⟨rfl, Below.refl _ _⟩
      · have d2 : decide (n < 0) = false := decide_eq_false h2
        rw [if_neg (fun hh => by omega)] at hRr
        have cg := Lib.hid (rget_calls h (by have := hr.nums.len; omega) f)
        have hnl : (getF r.fs (f.toNat : Int)).now.length ≤ 16777216 := hr.now_len (by omega)
        rw [show ((f.toNat : Nat) : Int) = f by omega] at hnl
        obtain ⟨G, hG⟩ : ∃ G, G = getF r.fs f := ⟨_, rfl⟩
        rw [← hG] at cg hnl hRr
        have hfd := fun W => field_now (.int .i64 G.n) (.string (bs G.now)) (.string (bs G.last)) W
        have hgl := bs_size G.now
        by_cases h3 : a ≥ (G.now.length : Int)
        · have d3 : (G.now.length : Int) ≤ a := h3
          rw [if_pos h3] at hRr
          subst hRr
          clear h hr hm hG
          go_enter Try.func20, Try.ntmps20
          go_wp2_with (refine Calls.mono cm.out ?_; rintro e w2 ⟨rfl, rfl⟩)
          refine Calls.mono cg.out ?_
          rintro e w3 ⟨rfl, hb3⟩
          have HB := Lib.hid hb3
          clear hb3
          go_wp2_with fail
          go_ret2
          exact ⟨rfl, HB.out⟩
        · have d3 : ¬ (G.now.length : Int) ≤ a := h3
          rw [if_neg h3] at hRr
          obtain ⟨t, ht⟩ : ∃ t : Nat, a = (t : Int) := ⟨a.toNat, by omega⟩
          subst ht
          obtain ⟨c, hc⟩ : ∃ c : Nat, n = (c : Int) := ⟨n.toNat, by omega⟩
          subst hc
          rw [Int.toNat_natCast, Int.toNat_natCast] at hRr
          obtain ⟨q, hq⟩ : ∃ q, q = min c (G.now.length - t) := ⟨_, rfl⟩
          rw [← hq] at hRr
          have e1 : min (c : Int) ((G.now.length : Int) - (t : Int)) = (q : Int) := by omega
          have hq2 : t + q ≤ G.now.length := by omega
          obtain ⟨u, hu⟩ : ∃ u, u = t + q := ⟨_, rfl⟩
          have e2 : (t : Int) + (q : Int) = (u : Int) := by omega
          have hext := bs_cut G.now t u
          rw [show u - t = q by omega] at hext
          obtain ⟨Z, hZ⟩ : ∃ Z, Z = (G.now.drop t).take q := ⟨_, rfl⟩
          rw [← hZ] at hRr hext
          subst hRr
          have hu2 : u ≤ G.now.length := by omega
          have htu : t ≤ u := by omega
          have d4 : (t : Int) < (G.now.length : Int) := by omega
          have d5 : t < G.now.length := by omega
          clear h hr hm hG hq hu hZ hq2
          go_enter Try.func20, Try.ntmps20
          go_wp2_with (refine Calls.mono cm.out ?_; rintro e w2 ⟨rfl, rfl⟩)
          refine Calls.mono cg.out ?_
          rintro e w3 ⟨rfl, hb3⟩
          have HB := Lib.hid hb3
          clear hb3
          go_wp2_with fail
          go_ret2
          exact ⟨rfl, HB.out⟩
  · have d1 : (m == 0) = false := by simpa using h0
    have d2 : (m != 0) = true := by simpa using h0
    rw [if_pos h0] at hRr
    subst hRr
    clear h hr hm h0
    go_enter Try.func20, Try.ntmps20
    go_wp2_with (refine Calls.mono cm.out ?_; rintro e w2 ⟨rfl, rfl⟩)
    go_ret2
    exact ⟨rfl, Below.refl _ _⟩

/-! ### doRef -/

set_option maxHeartbeats 2000000 in
set_option maxRecDepth 100000 in
theorem rdo_calls (h : MineR S w b r) (hr : Rep r d) (hkl : r.keep.length ≤ 1099511627776) (a : Act') (kv : Value) (hf : FitA a) (hv : KeepAt w kv a.Keep) (hvb : ∀ i, inBlock kv i → S i) :
    Calls Try.prog 12 #[.pointer (some ⟨b, 0, none⟩), .agg #[.int .i64 a.Do, .int .i64 a.F, .int .i64 a.N, .string (bs a.S), kv]] w fun e w' => e = .returned (.int .i64 (r.act a).2) ∧ MineR S w' b (r.act a).1 ∧ Kept (fun i => ¬ S i) w w' := by
  obtain ⟨x, f, n, s, keep⟩ := a
  obtain ⟨hn, hs, hkl2⟩ := hf
  simp only at hn hs hkl2 hv ⊢
  obtain ⟨k, hk⟩ : ∃ k, bits BinOp.and IntKind.i64 x 7 = k := ⟨_, rfl⟩
  have hkd : kd x = k := hk
  obtain ⟨l, hl⟩ : ∃ l, bits BinOp.and IntKind.i64 n 3 = l := ⟨_, rfl⟩
  have hld : lo n = l := hl
  have hll : l ≤ 9223372036854775807 := hld ▸ lo_le n
  have hvk : kv.oneCell' = true := kept_slice hv
  obtain ⟨L, hi, hf1, hf2⟩ := h
  have hA : ∀ o, IsR (w.alloc o) b L r := fun o => hi.kept ((Kept.refl (fun _ => False) w).alloc o) (fun _ _ e => e)
  have hback : ∀ (r2 : Rk) (w1 w2 : World) o, w1 = w.alloc o → PostR (RFoot b L) w1 b L r2 w2 → MineR S w2 b r2 ∧ Kept (fun i => ¬ S i) w w2 := fun r2 w1 w2 o e hp => by
    subst e
    obtain ⟨L2, h1, h2, h3⟩ := hp
    have hkw := ((Kept.refl (RFoot b L) w).alloc o).trans h2
    exact MineR.post hf1 hf2 (fun _ hi => hi) ⟨L2, h1, hkw, fun i hi => (h3 i hi).imp id (fun hge => by simp at hge; omega)⟩
  have hvA : ∀ o, KeepAt (w.alloc o) kv keep := fun o => hv.kept ((Kept.refl (fun _ => False) w).alloc o) (fun i _ e => e)
  have hvb2 : ∀ i, inBlock kv i → i ≠ b := fun i hi e => hf1 b (Or.inl rfl) (e ▸ hvb i hi)
  have HK := Lib.hid hkd
  have HLD := Lib.hid hld
  have HA := Lib.hid hA
  have HB := Lib.hid hback
  have HVA := Lib.hid hvA
  have HVB := Lib.hid hvb2
  have HR := Lib.hid hr
  obtain ⟨va, vl, vc, rfl⟩ : ∃ va vl vc, kv = .slice va vl vc := by
    rcases hv with ⟨⟨a, c, rfl⟩, _⟩ | ⟨g, o, c, rfl, _⟩
    · exact ⟨_, _, _, rfl⟩
    · exact ⟨_, _, _, rfl⟩
  clear hkd hld hi hf1 hf2 hA hback hvA hvb hvb2 hv hvk hr
  unfold Rk.act
  simp only [HK.out, HLD.out]
  by_cases e2 : k = 2
  · subst e2
    simp only [if_true]
    go_enter Try.func12, Try.ntmps12
    go_wp2_with fail
    refine (rsync_calls (HA.out _) HR.out hkl f).mono ?_
    rintro e w2 ⟨rfl, hp⟩
    have hfin := HB.out _ _ _ _ rfl hp
    go_wp2_with fail
    go_ret
    exact ⟨rfl, hfin⟩
  · rw [if_neg e2]
    by_cases e3 : k = 3
    · subst e3
      rw [if_pos rfl]
      go_enter Try.func12, Try.ntmps12
      go_wp2_with fail
      refine (rtrunc_calls (HA.out _) HR.out hkl f n).mono ?_
      rintro e w2 ⟨rfl, hp⟩
      have hfin := HB.out _ _ _ _ rfl hp
      go_wp2_with fail
      go_ret
      exact ⟨rfl, hfin⟩
    · rw [if_neg e3]
      by_cases e4 : k = 4
      · subst e4
        rw [if_pos rfl]
        go_enter Try.func12, Try.ntmps12
        go_wp2_with fail
        refine (rlose_calls (HA.out _) l hll).mono ?_
        rintro e w2 ⟨rfl, hp⟩
        have hfin := HB.out _ _ _ _ rfl (hp.weak foot_own)
        go_wp2_with fail
        go_ret
        exact ⟨rfl, hfin⟩
      · rw [if_neg e4]
        by_cases e5 : k = 5
        · subst e5
          rw [if_pos rfl]
          go_enter Try.func12, Try.ntmps12
          go_wp2_with fail
          refine (rarm_calls (HA.out _) n (.slice va vl vc) keep (HVA.out _) HVB.out hn.2 hkl2).mono ?_
          rintro e w2 ⟨rfl, hp⟩
          have hfin := HB.out _ _ _ _ rfl (hp.weak foot_own)
          go_wp2_with fail
          go_ret
          exact ⟨rfl, hfin⟩
        · rw [if_neg e5]
          by_cases e6 : k = 6
          · subst e6
            rw [if_pos rfl]
            go_enter Try.func12, Try.ntmps12
            go_wp2_with fail
            refine (rcrash_calls (HA.out _) HR.out (.slice va vl vc) keep (HVA.out _) HVB.out hkl2).mono ?_
            rintro e w2 ⟨rfl, hp⟩
            have hfin := HB.out _ _ _ _ rfl (hp.weak foot_own)
            go_wp2_with fail
            go_ret
            exact ⟨rfl, hfin⟩
          · rw [if_neg e6]
            by_cases e7 : k = 7
            · subst e7
              rw [if_pos rfl]
              go_enter Try.func12, Try.ntmps12
              go_wp2_with fail
              refine (rstart_calls (HA.out _)).mono ?_
              rintro e w2 ⟨rfl, hp⟩
              have hfin := HB.out _ _ _ _ rfl (hp.weak foot_own)
              go_wp2_with fail
              go_ret
              exact ⟨rfl, hfin⟩
            · rw [if_neg e7]
              have f2 : (k == 2) = false := by simpa using e2
              have f3 : (k == 3) = false := by simpa using e3
              have f4 : (k == 4) = false := by simpa using e4
              have f5 : (k == 5) = false := by simpa using e5
              have f6 : (k == 6) = false := by simpa using e6
              have f7 : (k == 7) = false := by simpa using e7
              clear e2 e3 e4 e5 e6 e7
              go_enter Try.func12, Try.ntmps12
              go_wp2_with fail
              refine (rwrite_calls (HA.out _) HR.out hkl f n s hs).mono ?_
              rintro e w2 ⟨rfl, hp⟩
              have hfin := HB.out _ _ _ _ rfl hp
              go_wp2_with fail
              go_ret
              exact ⟨rfl, hfin⟩

end Go.Proofs.Ytbljfdjhgleafaa
