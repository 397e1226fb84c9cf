/- The text of a goal. -/
import Derived.Test.YthnkfjjgccabeaaGreatDoorClaimsA
import Derived.Test.YthnkfjjgccabeaaGreatDoorGoalP
namespace Go.Proofs.YthnkfjjgccabeaaGreatDoor
open Go.RowKit Go.Shelf
attribute [local go_sem] Oper.semAt_some

/-- At the list of a region's operations within a fence. -/
theorem wpListIn_ints {F : Fence} {n : Nat} {ops : Array Oper} {rest : List Oper} {o : Oper} {a : Act} {Q : Exit → Act → World → Prop} {w : World} (hg : o.guard = none) (s x : Operand)
    (ho : o.op = .call { callee := .builtin .append, args := #[s, x], argTypes := #[32, 32] }) (hot : o.type = 32)
    {B : Nat} {v xv : Value} {A L : List Int} (hs : a.eval s = v) (hx : a.eval x = xv) (hv : OInts B v A w) (hxr : IsNums xv L w) (hlen : A.length + L.length ≤ 1000000000) (hB : B ≤ w.heap.size)
    (h : ∀ v' w', OInts B v' (A ++ L) w' → w.grownBy w' v.ownBlock → wpListIn F n Tryz.prog ops Q rest (a.put o.dst v') w') :
    wpListIn F n Tryz.prog ops Q (o :: rest) a w := by
  refine wpListIn_plain hg fun K hK' => ?_
  obtain ⟨v', w', hr, h2, h3⟩ := run_ints hv hxr hlen hB
  unfold Oper.wpIn
  refine ⟨by simp [Oper.about, ho, resolve, Target.leads, Sem.run_pure], ?_⟩
  rw [Oper.semAt_plain F _ _ (by rw [ho]; intro c hc'; cases hc')]
  simp [execOp, ho, hot, resolve, invoke, builtin, hs, hx, hr, Result.andThen]
  exact hK' _ _ (h v' w' h2 h3)
theorem OInts.alloc {B : Nat} {v : Value} {L : List Int} {w : World} (h : OInts B v L w) (o : Obj) : OInts B v L (w.alloc o) := World.ownsRow.alloc h o

/-- What has been written, in a box; what lay keeps. -/
structure GO (lo Bx : Nat) (A0 : World) (v : Value) (L : List Int) (W : World) : Prop where
  box : Boxed W Bx 32 v
  row : OInts lo v L W
  bel : Below lo A0 W
  keep : KeepsOthers A0 W
theorem GO.start {lo Bx : Nat} {A0 : World} {v : Value} {L : List Int} (h1 : Boxed A0 Bx 32 v) (h2 : OInts lo v L A0) : GO lo Bx A0 v L A0 := ⟨h1, h2, Below.refl _ _, KeepsOthers.refl _⟩
theorem GO.alloc {lo Bx : Nat} {A0 W : World} {v : Value} {L : List Int} (h : GO lo Bx A0 v L W) (hl : lo ≤ A0.heap.size) (o : Obj) : GO lo Bx A0 v L (W.alloc o) :=
  ⟨h.box.alloc o, h.row.alloc o, h.bel.alloc (Nat.le_trans hl h.bel.size) o, h.keep.trans (KeepsOthers.alloc W o)⟩
theorem GO.app {lo Bx : Nat} {A0 W w1 : World} {v v' : Value} {L M : List Int} {tmp : Obj} (h : GO lo Bx A0 v L W) (hl : lo ≤ A0.heap.size) (hB : lo ≤ Bx) (hown : OInts lo v' M w1) (hgr : (W.alloc tmp).grownBy w1 v.ownBlock) :
    Boxed w1 Bx 32 v ∧ GO lo Bx A0 v' M (w1.setCell ⟨Bx, 0, none⟩ v') := by
  obtain ⟨h1, h2, h3, h4, h5⟩ := h.box.appended (t := 32) (e := 3) (by decide) h.row (Nat.le_trans hl h.bel.size) hB hown hgr
  exact ⟨h1, h2, h3, h.bel.trans h5, h.keep.trans h4⟩
/-- Another block: not the box, not of numbers. -/
theorem GO.other {lo Bx : Nat} {A0 W w1 : World} {v v' : Value} {L : List Int} {tmp : Obj} (h : GO lo Bx A0 v L W) (hgr : (W.alloc tmp).grownBy w1 v.ownBlock) {g : Nat} {t : TypeId} {cs : Array Value} (hb : Blk W g t cs) (ht : t ≠ 3) (hne : g ≠ Bx) :
    Blk (w1.setCell ⟨Bx, 0, none⟩ v') g t cs := by
  refine Blk.far ?_ hne v'
  refine (hgr.block g (Nat.lt_of_lt_of_le hb.lt ((Below.refl W.heap.size W).alloc (Nat.le_refl _) tmp).size) (fun e => ?_)).trans (hb.alloc tmp)
  obtain ⟨_, ⟨rfl, _⟩ | ⟨g', cap, cur, rfl, _, hh, _⟩⟩ := id h.row
  · cases e
  · simp only [Value.ownBlock] at e
    obtain rfl := Option.some.inj e
    have hb' : W.heap[g]? = some (.cells cs t (0, 0)) := hb
    rw [hh] at hb'
    simp only [Option.some.injEq, Obj.cells.injEq] at hb'
    exact ht hb'.2.1.symm

/-- The marks of the loops that are over. -/
def Marks (lo : Nat) (Ds : List Nat) (W : World) : Prop := Ds.Nodup ∧ ∀ D ∈ Ds, lo ≤ D ∧ W.heap[D]? = some (.deferred (some []))
theorem Marks.keep {lo : Nat} {Ds : List Nat} {W W' : World} (h : Marks lo Ds W) (hk : KeepsOthers W W') : Marks lo Ds W' := ⟨h.1, fun D hD => ⟨(h.2 D hD).1, hk.same D _ (h.2 D hD).2 rfl⟩⟩
def markD (D : Nat) : Deferred := { target := .collected D, args := #[] }
theorem leaves_marks {n : Nat} {fn : Func} {tmps : Array Value} {w : World} {v : Value} (hres : ∀ W, (results fn tmps).run Tryz.prog W = .ok v W) : ∀ (Ds : List Nat) (W : World), Below w.heap.size w W → Marks w.heap.size Ds W →
    LeavesInM Fence.wide n Tryz.prog fn tmps (fun e W' => e = .returned v ∧ Below w.heap.size w W') (Ds.map markD) .returning W
  | [], W, hb, _ => ⟨v, hres W, rfl, hb⟩
  | D :: Ds, W, hb, hm => by
    obtain ⟨h1, h2⟩ := hm.2 D (by simp)
    have hn := List.nodup_cons.1 hm.1
    refine ⟨by simp, .inl ⟨D, _, rfl, run_takeDeferred h2, leaves_marks hres Ds _ (hb.trans (belowK_b (w := w) (Nat.le_refl _) W D _ _ h1 h2 rfl rfl)) ⟨hn.2, fun D' hD' => ?_⟩⟩⟩
    obtain ⟨h3, h4⟩ := hm.2 D' (by simp [hD'])
    exact ⟨h3, (World.putObj_heap_other (by rintro rfl; exact hn.1 hD')).trans h4⟩
theorem Marks.push {lo D : Nat} {Ds : List Nat} {W W' : World} (h : Marks lo Ds W) (hk : ∀ D ∈ Ds, W'.heap[D]? = W.heap[D]?) (hl : lo ≤ D) (hD : W'.heap[D]? = some (.deferred (some []))) (hn : D ∉ Ds) : Marks lo (D :: Ds) W' :=
  ⟨List.nodup_cons.2 ⟨hn, h.1⟩, fun d hd => by
    rcases List.mem_cons.1 hd with rfl | hd
    · exact ⟨hl, hD⟩
    · exact ⟨(h.2 d hd).1, (hk d hd).trans (h.2 d hd).2⟩⟩

-- TEXT
def preG (l : List ClauseD) (k : Nat) : List Int := (l.length : Int) :: (l.take k).flatMap clauseG
theorem preG_le (l : List ClauseD) (k : Nat) : (preG l k).length ≤ (goalG l).length := by
  have h : goalG l = preG l k ++ (l.drop k).flatMap clauseG := by
    unfold goalG listG preG
    rw [List.cons_append, ← List.flatMap_append, List.take_append_drop]
  rw [h, List.length_append]
  omega
theorem length_le_goal (l : List ClauseD) : l.length ≤ (goalG l).length := by
  have h : ∀ l : List ClauseD, l.length ≤ (l.flatMap clauseG).length := by
    intro l
    induction l with
    | nil => simp
    | cons x l ih => simp only [List.flatMap_cons, List.length_append, List.length_cons, clauseG]; omega
  have := h l
  unfold goalG listG
  rw [List.length_cons]
  omega
theorem flat_len {α : Type} (f : α → List Int) : ∀ (l : List α) (x : α), x ∈ l → (f x).length ≤ (l.flatMap f).length
  | y :: l, x, h => by
    simp only [List.flatMap_cons, List.length_append]
    rcases List.mem_cons.1 h with rfl | h
    · omega
    · have := flat_len f l x h; omega
theorem claim_le (l : List ClauseD) {k : Nat} (h : k < l.length) {c : ClaimD} (hc : c ∈ l[k].claims) : (claimG c).length ≤ (goalG l).length := by
  have h1 := flat_len claimG l[k].claims c hc
  have h2 := flat_len clauseG l l[k] (List.getElem_mem _)
  simp only [goalG, clauseG, listG, List.length_cons] at h2 ⊢
  omega
/-- What claims give. -/
def Lp {w0 : World} (A : List Int) (pre : List (PC w0)) : List Int := A ++ pre.flatMap fun x => claimG x.c
theorem Lp_len {w0 : World} (A : List Int) (pre : List (PC w0)) : (Lp A pre).length ≤ A.length + pre.length * 10000 := by
  unfold Lp
  rw [List.length_append]
  have : ∀ pre : List (PC w0), (pre.flatMap fun x => claimG x.c).length ≤ pre.length * 10000 := by
    intro pre
    induction pre with
    | nil => simp
    | cons x l ih =>
      have := x.sz
      simp only [List.flatMap_cons, List.length_append, List.length_cons]
      omega
  have := this pre
  omega
theorem Lp_snoc {w0 : World} (A : List Int) (pre : List (PC w0)) (x : PC w0) : Lp A (pre ++ [x]) = Lp A pre ++ claimG x.c := by
  unfold Lp
  rw [List.flatMap_append]
  simp
theorem Marks.below {lo : Nat} {Ds : List Nat} {W W' : World} (h : Marks lo Ds W) (hb : Below W.heap.size W W') : Marks lo Ds W' := ⟨h.1, fun D hD => ⟨(h.2 D hD).1, (hb.block D (Array.getElem?_eq_some_iff.1 (h.2 D hD).2).1).trans (h.2 D hD).2⟩⟩
theorem meas_lt {n k : Nat} {u v : Value} (hu : u = .int .i64 ((k : Int) + 1)) (hv : v = .int .i64 (k : Int)) (h : k < n) : n - (intOf u).toNat < n - (intOf v).toNat := by
  subst hu hv
  simp [intOf]
  omega
theorem marks_own {β : Type} {B lo : Nat} {Ds : List Nat} (hD : ∀ D ∈ Ds, D < B) : OwnFrom B (fun (_ : β) W => Marks lo Ds W) := fun _ A B' row hs hg hr => ⟨hs.1, fun D hd => by
  have h2 := (hs.2 D hd).2
  refine ⟨(hs.2 D hd).1, (hg.block D (Array.getElem?_eq_some_iff.1 h2).1 (fun e => ?_)).trans h2⟩
  have h3 := (hr D e.symm).1
  have := hD D hd
  omega⟩
theorem blk_own {β : Type} {B g : Nat} {t : TypeId} {cs : Array Value} : OwnFrom B (fun (_ : β) W => Blk W g t cs) := fun _ A B' row hs hg hr => by
  have hs' : A.heap[g]? = some (.cells cs t (0, 0)) := hs
  refine (hg.block g hs.lt (fun e => ?_)).trans hs
  obtain ⟨_, o, ho, hc⟩ := hr g e.symm
  rw [hs'] at ho
  cases ho
  cases hc
theorem flat_take {α : Type} (f : α → List Int) (l : List α) (j : Nat) : ((l.take j).flatMap f).length ≤ (l.flatMap f).length := by
  have h : l.flatMap f = (l.take j).flatMap f ++ (l.drop j).flatMap f := by rw [← List.flatMap_append, List.take_append_drop]
  rw [h, List.length_append]
  omega
theorem eq_snoc (L : List Int) (eqs : List EqD) (j : Nat) (h : j < eqs.length) : L ++ (eqs.take j).flatMap eqG ++ [eqs[j].target, (eqs[j].terms.length : Int)] ++ eqs[j].terms.flatMap termG = L ++ (eqs.take (j + 1)).flatMap eqG := by
  rw [take_snoc eqs j h, List.flatMap_append]
  simp [eqG, listG]
theorem eq_len (eqs : List EqD) (j : Nat) (h : j < eqs.length) : ((eqs.take j).flatMap eqG).length + 2 + (eqs[j].terms.flatMap termG).length ≤ (eqs.flatMap eqG).length := by
  have h1 := congrArg List.length (eq_snoc [] eqs j h)
  have h2 := flat_take eqG eqs (j + 1)
  simp only [List.nil_append, List.length_append, List.length_cons, List.length_nil] at h1
  omega
theorem term_snoc (L : List Int) (ts : List (Int × Int)) (m : Nat) (h : m < ts.length) : L ++ (ts.take m).flatMap termG ++ [ts[m].1, ts[m].2] = L ++ (ts.take (m + 1)).flatMap termG := by
  rw [take_snoc ts m h, List.flatMap_append]
  simp [termG]
theorem preG_snoc (l : List ClauseD) (k : Nat) (h : k < l.length) : preG l (k + 1) = preG l k ++ ([l[k].need, (l[k].claims.length : Int)] ++ l[k].claims.flatMap claimG) := by
  unfold preG
  rw [take_snoc l k h]
  rw [List.flatMap_append]
  simp [clauseG, listG]
theorem OInts.form3 {B : Nat} {W : World} {v : Value} {xs : List Int} (h : OInts B v xs W) : ∃ a n c, v = .slice a n c := by
  obtain ⟨a, c, h⟩ := h.form
  exact ⟨a, _, c, h⟩
theorem nums2 {w : World} {g : Nat} {a b : Int} (h : Blk w g 3 #[.int .i64 a, .int .i64 b]) : IsNums (.slice (some ⟨g, 0, none⟩) 2 2) [a, b] w := by
  refine .inr ⟨_, 0, 2, rfl, h.lt, fun i y hi => ?_⟩
  match i, hi with
  | 0, hi => simp at hi; subst hi; exact h.cell 0
  | 1, hi => simp at hi; subst hi; exact h.cell 1
set_option maxRecDepth 100000 in
set_option maxHeartbeats 4000000 in
theorem text_calls (v : Value) (l : List ClauseD) (hin : ∀ x ∈ goalG l, Cod.isInt x) (hlen : (goalG l).length ≤ 10000) (hlen2 : (Cod.numsS (goalG l)).length ≤ 4294967296) (hcap : ∀ a n c, v = .slice a n c → n ≤ c) (w : World) (hE : Cod.Env w) (hv : IsGoal 0 v l w) :
    Calls Tryz.prog 10 #[v] w fun e w' => e = .returned (.string (bs (Cod.numsS (goalG l)))) ∧ Below w.heap.size w w' := by
  obtain ⟨a, cap, rfl⟩ := IsSl.len hv
  have hc := hcap _ _ _ rfl
  have HV := Lib.hid hv
  have HE := Lib.hid hE
  have HIN := Lib.hid hin
  have HLEN := Lib.hid hlen
  have HLEN2 := Lib.hid hlen2
  have ho := own_one w (l.length : Int)
  have W1H := Lib.hid (World.size_alloc w (.cells #[.int .i64 (l.length : Int)] 3))
  have bx := Boxed.new (w.alloc (.cells #[.int .i64 (l.length : Int)] 3)) 32 (.slice (some ⟨w.heap.size, 0, none⟩) 1 1)
  have hb0 : Below w.heap.size w ((w.alloc (.cells #[.int .i64 (l.length : Int)] 3)).alloc (.cells #[.slice (some ⟨w.heap.size, 0, none⟩) 1 1] 32)) := ((Below.refl _ w).alloc (Nat.le_refl _) _).alloc (by simp) _
  rw [W1H.out] at bx
  have HBX := Lib.hid bx
  have HO := Lib.hid (ho.alloc (.cells #[.slice (some ⟨w.heap.size, 0, none⟩) 1 1] 32))
  have HB0 := Lib.hid hb0
  have hlpos : 0 < w.heap.size := by have := hE.lo; omega
  clear hcap hv hE hin hlen hlen2 ho bx hb0
  refine (callsIn_wide (n := 6)).1 ?_
  refine callsIn_of_wp_marks Tryz.func10 rfl trivial ?_ rfl
  simp only [Tryz.ntmps10, List.size_toArray, List.length_cons, List.length_nil, Nat.reduceAdd, Nat.reduceSub, Array.replicate_succ, Array.replicate_zero, List.push_toArray, List.append_toArray, List.nil_append, List.cons_append]
  gi_wp2
  refine wpIn_loop (fun a' wr => ∃ (k : Nat) (Ds : List Nat) (v : Value) (u17 : Value) (DD : List Deferred) (u4 u5 u6 u7 u8 u9 u10 u11 u18 u19 u20 u21 u22 u23 u24 u25 u26 u27 u28 u29 u30 u31 u32 u33 u34 u35 u36 u37 u38 u39 u40 u41 u42 u43 u44 u45 u46 u47 u48 u49 u50 u51 u52 u53 u54 u55 u56 u57 u58 u59 u60 u61 u62 u63 u64 u65 u66 u67 u68 u69 u70 u71 u72 u73 u74 u75 u76 u77 : Value), (u17 = .int .i64 (k : Int) ∧ DD = Ds.map markD ∧ k ≤ l.length ∧ Boxed wr (w.heap.size + 1) 32 v ∧ OInts w.heap.size v (preG l k) wr ∧ Below w.heap.size w wr ∧ Marks w.heap.size Ds wr) ∧
    a' = { tmps := (.slice (a) l.length cap :: undef :: .string ⟨#[]⟩ :: .pointer (some ⟨w.heap.size + 1, 0, none⟩) :: u4 :: u5 :: u6 :: u7 :: u8 :: u9 :: u10 :: u11 :: .slice (a) l.length cap :: .int .i64 (l.length : Int) :: .slice (some ⟨w.heap.size, 0, none⟩) 1 1 :: .slice (a) l.length cap :: .int .i64 (l.length : Int) :: u17 :: u18 :: u19 :: u20 :: u21 :: u22 :: u23 :: u24 :: u25 :: u26 :: u27 :: u28 :: u29 :: u30 :: u31 :: u32 :: u33 :: u34 :: u35 :: u36 :: u37 :: u38 :: u39 :: u40 :: u41 :: u42 :: u43 :: u44 :: u45 :: u46 :: u47 :: u48 :: u49 :: u50 :: u51 :: u52 :: u53 :: u54 :: u55 :: u56 :: u57 :: u58 :: u59 :: u60 :: u61 :: u62 :: u63 :: u64 :: u65 :: u66 :: u67 :: u68 :: u69 :: u70 :: u71 :: u72 :: u73 :: u74 :: u75 :: u76 :: u77 :: undef :: undef :: []).toArray, defers := DD }) (fun a' _ => l.length - (intOf (a'.tmps.getD 17 undef)).toNat) ?start ?round
  case start => exact ⟨0, [], _, _, _, _, _, _, _, _, _, _, _, _, _, _, _, _, _, _, _, _, _, _, _, _, _, _, _, _, _, _, _, _, _, _, _, _, _, _, _, _, _, _, _, _, _, _, _, _, _, _, _, _, _, _, _, _, _, _, _, _, _, _, _, _, _, _, _, _, _, _, _, ⟨rfl, rfl, Nat.zero_le _, HBX.out, HO.out, HB0.out, List.nodup_nil, fun D hD => by cases hD⟩, rfl⟩
  case round =>
    intro a' wr hI
    obtain ⟨k, hI⟩ := hI
    obtain ⟨Ds, hI⟩ := hI
    obtain ⟨v, hI⟩ := hI
    obtain ⟨u17, hI⟩ := hI
    obtain ⟨DD, hI⟩ := hI
    obtain ⟨u4, hI⟩ := hI
    obtain ⟨u5, hI⟩ := hI
    obtain ⟨u6, hI⟩ := hI
    obtain ⟨u7, hI⟩ := hI
    obtain ⟨u8, hI⟩ := hI
    obtain ⟨u9, hI⟩ := hI
    obtain ⟨u10, hI⟩ := hI
    obtain ⟨u11, hI⟩ := hI
    obtain ⟨u18, hI⟩ := hI
    obtain ⟨u19, hI⟩ := hI
    obtain ⟨u20, hI⟩ := hI
    obtain ⟨u21, hI⟩ := hI
    obtain ⟨u22, hI⟩ := hI
    obtain ⟨u23, hI⟩ := hI
    obtain ⟨u24, hI⟩ := hI
    obtain ⟨u25, hI⟩ := hI
    obtain ⟨u26, hI⟩ := hI
    obtain ⟨u27, hI⟩ := hI
    obtain ⟨u28, hI⟩ := hI
    obtain ⟨u29, hI⟩ := hI
    obtain ⟨u30, hI⟩ := hI
    obtain ⟨u31, hI⟩ := hI
    obtain ⟨u32, hI⟩ := hI
    obtain ⟨u33, hI⟩ := hI
    obtain ⟨u34, hI⟩ := hI
    obtain ⟨u35, hI⟩ := hI
    obtain ⟨u36, hI⟩ := hI
    obtain ⟨u37, hI⟩ := hI
    obtain ⟨u38, hI⟩ := hI
    obtain ⟨u39, hI⟩ := hI
    obtain ⟨u40, hI⟩ := hI
    obtain ⟨u41, hI⟩ := hI
    obtain ⟨u42, hI⟩ := hI
    obtain ⟨u43, hI⟩ := hI
    obtain ⟨u44, hI⟩ := hI
    obtain ⟨u45, hI⟩ := hI
    obtain ⟨u46, hI⟩ := hI
    obtain ⟨u47, hI⟩ := hI
    obtain ⟨u48, hI⟩ := hI
    obtain ⟨u49, hI⟩ := hI
    obtain ⟨u50, hI⟩ := hI
    obtain ⟨u51, hI⟩ := hI
    obtain ⟨u52, hI⟩ := hI
    obtain ⟨u53, hI⟩ := hI
    obtain ⟨u54, hI⟩ := hI
    obtain ⟨u55, hI⟩ := hI
    obtain ⟨u56, hI⟩ := hI
    obtain ⟨u57, hI⟩ := hI
    obtain ⟨u58, hI⟩ := hI
    obtain ⟨u59, hI⟩ := hI
    obtain ⟨u60, hI⟩ := hI
    obtain ⟨u61, hI⟩ := hI
    obtain ⟨u62, hI⟩ := hI
    obtain ⟨u63, hI⟩ := hI
    obtain ⟨u64, hI⟩ := hI
    obtain ⟨u65, hI⟩ := hI
    obtain ⟨u66, hI⟩ := hI
    obtain ⟨u67, hI⟩ := hI
    obtain ⟨u68, hI⟩ := hI
    obtain ⟨u69, hI⟩ := hI
    obtain ⟨u70, hI⟩ := hI
    obtain ⟨u71, hI⟩ := hI
    obtain ⟨u72, hI⟩ := hI
    obtain ⟨u73, hI⟩ := hI
    obtain ⟨u74, hI⟩ := hI
    obtain ⟨u75, hI⟩ := hI
    obtain ⟨u76, hI⟩ := hI
    obtain ⟨u77, hI⟩ := hI
    obtain ⟨⟨rfl, rfl, hk, hbx, hrow, hB, hM⟩, rfl⟩ := hI
    clear HBX HO HB0
    by_cases hlt : k < l.length
    · obtain ⟨bk, off, rfl, hbk, x, hx, y0, vc, y1, yc⟩ := IsSl.at HV.out k hlt
      obtain ⟨ac, cc, rfl⟩ := IsSl.len yc
      obtain ⟨xs, bc, oc, hxs, hbc, hva, hhas⟩ := claims_list hlpos yc (fun c hc => Nat.le_trans (claim_le l hlt (by rw [← hx]; exact hc)) HLEN.out)
      have z0 : wr.cell? ⟨bk, off + k * 2, none⟩ = some (.int .i64 x.need) := (hB.cell (p := ⟨bk, off + k * 2, none⟩) hbk.2).trans y0
      have z1 : wr.cell? ⟨bk, off + k * 2 + 1, none⟩ = some (.slice ac x.claims.length cc) := (hB.cell (p := ⟨bk, off + k * 2 + 1, none⟩) hbk.2).trans y1
      obtain ⟨av, nv, cv, rfl⟩ := hrow.form3
      have hs0 := hB.size
      obtain ⟨W2, hW2⟩ : ∃ W2, W2 = wr.alloc (.cells #[.int .i64 x.need, .slice ac x.claims.length cc] 55) := ⟨_, rfl⟩
      have G2 := (GO.start (lo := w.heap.size) hbx hrow).alloc hs0 (.cells #[.int .i64 x.need, .slice ac x.claims.length cc] 55)
      have cB2 := G2.box.cell
      have S2 := World.size_alloc wr (.cells #[.int .i64 x.need, .slice ac x.claims.length cc] 55)
      have N3 := nums2 (Blk.new (wr.alloc (.cells #[.int .i64 x.need, .slice ac x.claims.length cc] 55)) 3 #[.int .i64 x.need, .int .i64 (x.claims.length : Int)])
      rw [S2] at N3
      have hl1 : (preG l k).length + [x.need, (x.claims.length : Int)].length ≤ 1000000000 := by have := preG_le l k; have := HLEN.out; simp; omega
      have hs3 : w.heap.size ≤ ((wr.alloc (.cells #[.int .i64 x.need, .slice ac x.claims.length cc] 55)).alloc (.cells #[.int .i64 x.need, .int .i64 (x.claims.length : Int)] 3)).heap.size := by simp; omega
      have R3 := Lib.hid (G2.row.alloc (.cells #[.int .i64 x.need, .int .i64 (x.claims.length : Int)] 3))
      have HG2 := Lib.hid G2
      have HN3 := Lib.hid N3
      have HM := Lib.hid hM
      have HB := Lib.hid hB
      have HX := Lib.hid hx
      have HXS := Lib.hid hxs
      have HHAS := Lib.hid hhas
      have HVA := Lib.hid hva
      have HYC := Lib.hid yc
      have H01 := Lib.hid (And.intro y0 y1)
      have HS3 := Lib.hid hs3
      have HL1 := Lib.hid hl1
      clear G2 N3 hM hB hx hxs hhas hva yc y0 y1 hbx hrow hs3 hl1 hW2 S2 W2
      gi_wp2_with (gi_at_builtin; refine wpListIn_ints rfl _ _ rfl rfl rfl rfl R3.out HN3.out HL1.out HS3.out ?_)
      intro v2 w1 hO2 hgr
      obtain ⟨a2, n2, c2, rfl⟩ := hO2.form3
      obtain ⟨hv1, G3⟩ := HG2.out.app hs0 (by omega) hO2 hgr
      have f1 := hv1.frozen
      have d1 := hv1.cell
      have HG3 := Lib.hid G3
      have hk2 : k + 1 ≤ cap := by omega
      have hk3 : ((k : Int) + 1) ≤ (cap : Int) := by omega
      have hw : wrap64 ((k : Int) + 1) = (k : Int) + 1 := by have := HLEN.out; have := length_le_goal l; unfold wrap64; omega
      have hk5 : ¬ cap = k := by omega
      clear HG2 R3 HN3 HL1 HS3 hO2 hgr hv1 G3 cB2
      gi_wp2
      refine ⟨trivial, (claims_in Fence.wide _ trivial rfl _ _ _ _).mono ?_⟩
      rintro e w4 ⟨rfl, hw4⟩
      have HW4 := Lib.hid hw4
      clear hw4
      gi_wp2
      have G3 := HG3.out
      have hw4 := HW4.out
      have G4 := G3.alloc hs0 (.cells #[.slice (some ⟨bk, off + k * 2, none⟩) 1 (cap - k)] 26)
      have B4 := Blk.new (w1.setCell ⟨w.heap.size + 1, 0, none⟩ (.slice a2 n2 c2)) 26 #[.slice (some ⟨bk, off + k * 2, none⟩) 1 (cap - k)]
      rw [← hw4] at G4 B4
      have hsz1 : (w1.setCell ⟨w.heap.size + 1, 0, none⟩ (.slice a2 n2 c2)).heap.size = w1.heap.size := by simp
      rw [hsz1] at B4
      have hB4 := HB.out.trans G4.bel
      have hM4 := HM.out.keep G4.keep
      have hD4 : ∀ D ∈ Ds, D < w4.heap.size := fun D hD => (Array.getElem?_eq_some_iff.1 (hM4.2 D hD).2).1
      have hxl : xs.length = x.claims.length := by rw [← HXS.out, List.length_map]
      have hNl : x.claims.length ≤ 10000 := by
        have h1 := HLEN.out
        have h2 := flat_len clauseG l l[k] (List.getElem_mem _)
        have h3 : ∀ cs : List ClaimD, cs.length ≤ (cs.flatMap claimG).length := by
          intro cs
          induction cs with
          | nil => simp
          | cons y cs ih => simp only [List.flatMap_cons, List.length_append, List.length_cons, claimG]; omega
        have h4 := h3 x.claims
        have h5 := HX.out
        subst h5
        simp only [goalG, clauseG, listG, List.length_cons] at h1 h2 h4
        omega
      have hA1 : (preG l k ++ [x.need, (x.claims.length : Int)]).length ≤ 10002 := by have := preG_le l k; have := HLEN.out; simp; omega
      obtain ⟨A1, hA⟩ : ∃ A1, A1 = preG l k ++ [x.need, (x.claims.length : Int)] := ⟨_, rfl⟩
      rw [← hA] at hA1 G4
      have HA := Lib.hid hA
      have hR4 : w4.ownsRow w.heap.size 3 1 (.slice a2 n2 c2) (Lp A1 ([] : List (PC w))).length ((Lp A1 ([] : List (PC w))).map (Value.int .i64)) := by
        have e : Lp A1 ([] : List (PC w)) = A1 := by simp [Lp]
        rw [e]
        exact G4.row
      have c0 : w4.cell? ⟨bk, off + k * 2, none⟩ = some (.int .i64 x.need) := (hB4.cell (p := ⟨bk, off + k * 2, none⟩) hbk.2).trans H01.out.1
      have c1 : w4.cell? ⟨bk, off + k * 2 + 1, none⟩ = some (.slice ac xs.length cc) := by rw [hxl]; exact (hB4.cell (p := ⟨bk, off + k * 2 + 1, none⟩) hbk.2).trans H01.out.2
      clear hw4 G3 HG3 HW4 hA hsz1 f1 d1 z0 z1
      refine wpIn_rangeFunc_ownH rfl (by omega) (gf := 61) (lb := #[.pointer (some ⟨w1.heap.size, 0, none⟩)]) rfl trivial (enters_of Tryz.func61 (by kernel_rfl) rfl)
        (claims_stops Fence.wide (6 - 1) trivial rfl (by omega) w1.heap.size w.heap.size bk (off + k * 2) (cap - k) bc oc cc x.need ac w xs (by omega) hbk.2 hbc HVA.out w4 B4.lt hB4.size (B4.cell 0) c0 c1 (HHAS.out.below hB4 hbc))
        belowK_t (belowK_b hB4.size) (Below.refl _ _) (fun _ => rfl)
        (fun pre W => (∃ v, Boxed W (w.heap.size + 1) 32 v ∧ W.ownsRow w.heap.size 3 1 v (Lp A1 pre).length ((Lp A1 pre).map (Value.int .i64)) ∧ True) ∧ (Below w.heap.size w W ∧ Marks w.heap.size Ds W))
        (fun _ _ _ => False)
        (OwnFrom.and (Own.from (holdsRow_own w.heap.size (w.heap.size + 1) 32 3 1 (fun pre => (Lp A1 pre).length) (fun pre => (Lp A1 pre).map (Value.int .i64)) (fun _ _ => True)) _) (OwnFrom.and (ownFrom_below (Nat.le_refl _) hB4.size) (marks_own hD4)))
        (fun _ _ _ _ _ hs _ _ => hs)
        ⟨⟨_, G4.box, hR4, trivial⟩, hB4, hM4⟩
        (fun x' a' W => ∃ Bc, w.heap.size + 1 < Bc ∧ Blk W Bc 66 #[.int .i64 x'.c.vars, .slice x'.a x'.c.eqs.length x'.cap] ∧
          a' = { tmps := (.slice (some ⟨bk, off, none⟩) l.length cap :: undef :: .string ⟨#[]⟩ :: .pointer (some ⟨w.heap.size + 1, 0, none⟩) :: .int .i64 (k : Int) :: .pointer (some ⟨wr.heap.size, 0, none⟩) :: u6 :: .pointer (some ⟨Bc, 0, none⟩) :: u8 :: u9 :: u10 :: u11 :: .slice (some ⟨bk, off, none⟩) l.length cap :: .int .i64 (l.length : Int) :: .slice (some ⟨w.heap.size, 0, none⟩) 1 1 :: .slice (some ⟨bk, off, none⟩) l.length cap :: .int .i64 (l.length : Int) :: .int .i64 (k : Int) :: .bool true :: .int .i64 (k : Int) :: .pointer (some ⟨bk, off + k * 2, none⟩) :: .agg #[.int .i64 x.need, .slice ac x.claims.length cc] :: .slice av nv cv :: .pointer (some ⟨wr.heap.size, 0, none⟩) :: .int .i64 x.need :: .pointer (some ⟨wr.heap.size, 1, none⟩) :: .slice ac x.claims.length cc :: .int .i64 (x.claims.length : Int) :: .slice (some ⟨wr.heap.size + 1, 0, none⟩) 2 2 :: .slice a2 n2 c2 :: .slice (some ⟨bk, off, none⟩) l.length cap :: .int .i64 (k : Int) :: .int .i64 (k : Int) :: .int .i64 ((k : Int) + 1) :: .slice (some ⟨bk, off + k * 2, none⟩) 1 (cap - k) :: .func (.func 61) #[] #[.pointer (some ⟨w1.heap.size, 0, none⟩)] :: .agg #[.int .i64 x'.i, .int .i64 x'.k] :: .agg #[.int .i64 x'.c.vars, .slice x'.a x'.c.eqs.length x'.cap] :: u38 :: u39 :: u40 :: u41 :: u42 :: u43 :: u44 :: u45 :: u46 :: u47 :: u48 :: u49 :: u50 :: u51 :: u52 :: u53 :: u54 :: u55 :: u56 :: u57 :: u58 :: u59 :: u60 :: u61 :: u62 :: u63 :: u64 :: u65 :: u66 :: u67 :: u68 :: u69 :: u70 :: u71 :: u72 :: u73 :: u74 :: u75 :: u76 :: u77 :: undef :: undef :: []).toArray, defers := [] })
        (fun x' a' _ A B' row hs hg hr => by obtain ⟨Bc, h1, h2, h3⟩ := hs; exact ⟨Bc, h1, blk_own (β := Unit) () A B' row h2 hg hr, h3⟩)
        ?assign ?body ?done ?stop
      case stop =>
        rintro D c pre W _ _ h _
        exact h.elim
      case assign =>
        rintro lp pre x' W K ⟨⟨v', hv', hr', _⟩, hB', hM'⟩ hK
        unfold PC.encs
        gi_wp2
        exact hK _ _ ((KeepsOthers.alloc _ _).from _) ((Below.refl _ W).alloc hB'.size _) ⟨⟨v', hv'.alloc _, hr'.alloc _, trivial⟩, hB'.alloc hB'.size _, hM'.keep (KeepsOthers.alloc _ _)⟩ ⟨W.heap.size, hv'.lt, Blk.new W _ _, rfl⟩
      case body =>
        rintro lp pre x' a' W _ _ ⟨⟨v', hv', hr0', _⟩, hB', hM'⟩ ⟨Bc, hBc, bC, rfl⟩ hpl
        obtain ⟨xi, xk, xc, xa, xcap, xis, xsz⟩ := x'
        dsimp only at bC ⊢
        have hr' : OInts w.heap.size v' (Lp A1 pre) W := hr0'
        have hLp := Lp_len A1 pre
        have hLp2 : (Lp A1 pre).length ≤ 200000000 := by omega
        have HSN := Lib.hid (Lp_snoc A1 pre ⟨xi, xk, xc, xa, xcap, xis, xsz⟩)
        obtain ⟨av', nv', cv', rfl⟩ := hr'.form3
        have hsW := hB'.size
        have G0 := GO.start (lo := w.heap.size) hv' hr'
        have cB := hv'.cell
        have b0 := bC.cell 0
        have b1 := bC.cell 1
        have HN0 := Lib.hid (nums2 (Blk.new W 3 #[.int .i64 xc.vars, .int .i64 (xc.eqs.length : Int)]))
        have R0 := Lib.hid (hr'.alloc (.cells #[.int .i64 xc.vars, .int .i64 (xc.eqs.length : Int)] 3))
        have HL0 := Lib.hid (show (Lp A1 pre).length + [xc.vars, (xc.eqs.length : Int)].length ≤ 1000000000 by simp; omega)
        have HS0 := Lib.hid (show w.heap.size ≤ (W.alloc (.cells #[.int .i64 xc.vars, .int .i64 (xc.eqs.length : Int)] 3)).heap.size by simp; omega)
        have HG0 := Lib.hid G0
        have HBC := Lib.hid bC
        have HB' := Lib.hid hB'
        have HM' := Lib.hid hM'
        have HLP := Lib.hid hLp2
        have HSZ := Lib.hid xsz
        have hel : xc.eqs.length ≤ 10000 := by
          have h3 : ∀ cs : List EqD, cs.length ≤ (cs.flatMap eqG).length := by
            intro cs
            induction cs with
            | nil => simp
            | cons y cs ih => simp only [List.flatMap_cons, List.length_append, List.length_cons, eqG]; omega
          have h4 := h3 xc.eqs
          simp only [claimG, listG, List.length_cons] at xsz
          omega
        clear hr0' hr' hv' G0 bC hB' hM' hLp hLp2 G4 B4 hB4 hM4 hD4 c0 c1
        gi_wp2_with (gi_at_builtin; refine wpListIn_ints rfl _ _ rfl rfl rfl rfl R0.out HN0.out HL0.out HS0.out ?_)
        intro v2 w2 hO2 hgr
        obtain ⟨a3, n3, c3, rfl⟩ := hO2.form3
        obtain ⟨hv2, G1⟩ := HG0.out.app hsW (by omega) hO2 hgr
        have C1 := HG0.out.other (v' := .slice a3 n3 c3) hgr HBC.out (by decide) (by omega)
        have e1 := C1.cell 1
        have f2 := hv2.frozen
        have d2 := hv2.cell
        have HG1 := Lib.hid G1
        clear hO2 hgr G1 C1 R0 HN0 HL0 HS0 HG0 hv2 cB b0 b1
        gi_wp2
        gi_loopw [49] (fun i wr => ∃ (j : Nat) (v : Value), j ≤ xc.eqs.length ∧ i = .int .i64 (j : Int) ∧ GO w.heap.size (w.heap.size + 1) W v (Lp A1 pre ++ [xc.vars, (xc.eqs.length : Int)] ++ (xc.eqs.take j).flatMap eqG) wr) (fun i _ => xc.eqs.length - (intOf i).toNat)
        case atStart => exact ⟨0, _, Nat.zero_le _, rfl, by simpa using HG1.out⟩
        case round =>
          obtain ⟨j, v4, hj, rfl, G2⟩ := hrel
          obtain ⟨w5, hw5⟩ : ∃ w5, w5 = wr := ⟨_, rfl⟩
          subst hw5
          clear HG1 e1 f2 d2
          by_cases hjlt : j < xc.eqs.length
          · obtain ⟨be, oe, rfl, hbe, y, hy, q0, vt, q1, qt⟩ := IsSl.at xis j hjlt
            obtain ⟨a6, c6, rfl⟩ := IsSl.len qt
            have hb5 := HB'.out.trans G2.bel
            have p0 : w5.cell? ⟨be, oe + j * 2, none⟩ = some (.int .i64 y.target) := (hb5.cell (p := ⟨be, oe + j * 2, none⟩) hbe.2).trans q0
            have p1 : w5.cell? ⟨be, oe + j * 2 + 1, none⟩ = some (.slice a6 y.terms.length c6) := (hb5.cell (p := ⟨be, oe + j * 2 + 1, none⟩) hbe.2).trans q1
            have hE := eq_len xc.eqs j hjlt
            have hES := eq_snoc (Lp A1 pre ++ [xc.vars, (xc.eqs.length : Int)]) xc.eqs j hjlt
            rw [← hy] at hE hES
            have hbig : (xc.eqs.flatMap eqG).length ≤ 10000 := by have := HSZ.out; simp only [claimG, listG, List.length_cons] at this; omega
            have hEj : (Lp A1 pre ++ [xc.vars, (xc.eqs.length : Int)] ++ (xc.eqs.take j).flatMap eqG).length + 2 + (y.terms.flatMap termG).length ≤ 200020000 := by
              have := HLP.out
              simp only [List.length_append, List.length_cons, List.length_nil]
              omega
            have htl : y.terms.length ≤ 10000 := by
              have h3 : ∀ cs : List (Int × Int), cs.length ≤ (cs.flatMap termG).length := by
                intro cs
                induction cs with
                | nil => simp
                | cons y cs ih => simp only [List.flatMap_cons, List.length_append, List.length_cons, termG]; omega
              have := h3 y.terms
              omega
            obtain ⟨E, hEE⟩ : ∃ E, E = Lp A1 pre ++ [xc.vars, (xc.eqs.length : Int)] ++ (xc.eqs.take j).flatMap eqG := ⟨_, rfl⟩
            rw [← hEE] at G2 hEj hES
            have HES := Lib.hid hES
            have HEJ := Lib.hid hEj
            obtain ⟨a5, n5, c5, rfl⟩ := G2.row.form3
            have hs5 := Nat.le_trans hsW G2.bel.size
            have hlt5 := G2.box.lt
            have G3 := G2.alloc hsW (.cells #[.int .i64 y.target, .slice a6 y.terms.length c6] 91)
            have bQ := Blk.new w5 91 #[.int .i64 y.target, .slice a6 y.terms.length c6]
            have cB3 := G3.box.cell
            have N3 := nums2 (Blk.new (w5.alloc (.cells #[.int .i64 y.target, .slice a6 y.terms.length c6] 91)) 3 #[.int .i64 y.target, .int .i64 (y.terms.length : Int)])
            rw [World.size_alloc] at N3
            have HN3 := Lib.hid N3
            have R3 := Lib.hid (G3.row.alloc (.cells #[.int .i64 y.target, .int .i64 (y.terms.length : Int)] 3))
            have HL3 := Lib.hid (show E.length + [y.target, (y.terms.length : Int)].length ≤ 1000000000 by simp; omega)
            have HS3 := Lib.hid (show w.heap.size ≤ ((w5.alloc (.cells #[.int .i64 y.target, .slice a6 y.terms.length c6] 91)).alloc (.cells #[.int .i64 y.target, .int .i64 (y.terms.length : Int)] 3)).heap.size by simp; omega)
            have HG3 := Lib.hid G3
            have HBQ := Lib.hid bQ
            have HQT := Lib.hid qt
            clear hEE hES hE hEj hbig G2 G3 N3 bQ qt q0 q1 hb5 hy
            gi_wp2_with (gi_at_builtin; refine wpListIn_ints rfl _ _ rfl rfl rfl rfl R3.out HN3.out HL3.out HS3.out ?_)
            intro v6 w6 hO6 hgr6
            obtain ⟨a7, n7, c7, rfl⟩ := hO6.form3
            obtain ⟨hv6, G4⟩ := HG3.out.app hsW (by omega) hO6 hgr6
            have Q4 := HG3.out.other (v' := .slice a7 n7 c7) hgr6 HBQ.out (by decide) (by omega)
            have r1 := Q4.cell 1
            have f6 := hv6.frozen
            have d6 := hv6.cell
            have HG4 := Lib.hid G4
            clear hO6 hgr6 G4 Q4 R3 HN3 HL3 HS3 HG3 hv6 cB3 p0 p1 HBQ
            gi_wp2
            gi_loopw [64] (fun i wr => ∃ (m : Nat) (v : Value), m ≤ y.terms.length ∧ i = .int .i64 (m : Int) ∧ GO w.heap.size (w.heap.size + 1) W v (E ++ [y.target, (y.terms.length : Int)] ++ (y.terms.take m).flatMap termG) wr) (fun i _ => y.terms.length - (intOf i).toNat)
            case atStart => exact ⟨0, _, Nat.zero_le _, rfl, by simpa using HG4.out⟩
            case round =>
              obtain ⟨m, v7, hm, rfl, G5⟩ := hrel
              obtain ⟨w7, hw7⟩ : ∃ w7, w7 = wr := ⟨_, rfl⟩
              subst hw7
              clear HG4 r1 f6 d6
              by_cases hmlt : m < y.terms.length
              · obtain ⟨bt, ot, rfl, hbt, z, hz, s0, s1⟩ := IsSl.at HQT.out m hmlt
                have hb7 := HB'.out.trans G5.bel
                have t0 : w7.cell? ⟨bt, ot + m * 2, none⟩ = some (.int .i64 z.1) := (hb7.cell (p := ⟨bt, ot + m * 2, none⟩) hbt.2).trans s0
                have t1 : w7.cell? ⟨bt, ot + m * 2 + 1, none⟩ = some (.int .i64 z.2) := (hb7.cell (p := ⟨bt, ot + m * 2 + 1, none⟩) hbt.2).trans s1
                have hTS := term_snoc (E ++ [y.target, (y.terms.length : Int)]) y.terms m hmlt
                rw [← hz] at hTS
                have hT1 := flat_take termG y.terms m
                have hTj : (E ++ [y.target, (y.terms.length : Int)] ++ (y.terms.take m).flatMap termG).length ≤ 200020000 := by
                  have := HEJ.out
                  simp only [List.length_append, List.length_cons, List.length_nil]
                  omega
                obtain ⟨T, hT⟩ : ∃ T, T = E ++ [y.target, (y.terms.length : Int)] ++ (y.terms.take m).flatMap termG := ⟨_, rfl⟩
                rw [← hT] at G5 hTj hTS
                have HTS := Lib.hid hTS
                obtain ⟨a8, n8, c8, rfl⟩ := G5.row.form3
                have hs7 := Nat.le_trans hsW G5.bel.size
                have hlt7 := G5.box.lt
                have G6 := G5.alloc hsW (.cells #[.int .i64 z.1, .int .i64 z.2] 93)
                have cB6 := G6.box.cell
                have N6 := nums2 (Blk.new (w7.alloc (.cells #[.int .i64 z.1, .int .i64 z.2] 93)) 3 #[.int .i64 z.1, .int .i64 z.2])
                rw [World.size_alloc] at N6
                have HN6 := Lib.hid N6
                have R6 := Lib.hid (G6.row.alloc (.cells #[.int .i64 z.1, .int .i64 z.2] 3))
                have HL6 := Lib.hid (show T.length + [z.1, z.2].length ≤ 1000000000 by simp; omega)
                have HS6 := Lib.hid (show w.heap.size ≤ ((w7.alloc (.cells #[.int .i64 z.1, .int .i64 z.2] 93)).alloc (.cells #[.int .i64 z.1, .int .i64 z.2] 3)).heap.size by simp; omega)
                have HG6 := Lib.hid G6
                clear hT hTS hTj hT1 G5 G6 N6 s0 s1 hb7 hz
                gi_wp2_with (gi_at_builtin; refine wpListIn_ints rfl _ _ rfl rfl rfl rfl R6.out HN6.out HL6.out HS6.out ?_)
                intro v9 w9 hO9 hgr9
                obtain ⟨a9, n9, c9, rfl⟩ := hO9.form3
                obtain ⟨hv9, G9⟩ := HG6.out.app hsW (by omega) hO9 hgr9
                have f9 := hv9.frozen
                have d9 := hv9.cell
                rw [HTS.out] at G9
                have HG9 := Lib.hid G9
                clear hO9 hgr9 G9 R6 HN6 HL6 HS6 HG6 hv9 cB6 t0 t1
                gi_wp2
                go_roundw
                case rel => exact ⟨m + 1, _, by omega, by go_num, HG9.out⟩
                case measure => simp [intOf]; omega
              · obtain rfl : m = y.terms.length := by omega
                rw [List.take_length, HES.out] at G5
                have HG5 := Lib.hid G5
                clear G5
                gi_wp2
                go_roundw
                case rel => exact ⟨j + 1, _, by omega, by go_num, HG5.out⟩
                case measure => simp [intOf]; omega
          · obtain rfl : j = xc.eqs.length := by omega
            have hfin : Lp A1 pre ++ [xc.vars, (xc.eqs.length : Int)] ++ (xc.eqs.take xc.eqs.length).flatMap eqG = Lp A1 (pre ++ [⟨xi, xk, xc, xa, xcap, xis, xsz⟩]) := by
              rw [HSN.out, List.take_length]
              simp [claimG, listG]
            rw [hfin] at G2
            have HG2 := Lib.hid G2
            clear G2 hfin
            gi_wp2
            exact ⟨HG2.out.keep.from _, HG2.out.bel, ⟨⟨_, HG2.out.box, HG2.out.row, trivial⟩, HB'.out.trans HG2.out.bel, HM'.out.keep HG2.out.keep⟩⟩
      case done =>
        rintro D ys W hD rfl ⟨⟨v', hv', hr', _⟩, hB', hM'⟩ hK
        have hfl : (ys.flatMap fun x => claimG x.c) = x.claims.flatMap claimG := by rw [← HXS.out, List.flatMap_map]
        have hfin : Lp A1 ys = preG l (k + 1) := by
          unfold Lp
          rw [hfl, preG_snoc l k hlt, ← HX.out, HA.out, List.append_assoc]
        rw [hfin] at hr'
        have hO : OInts w.heap.size v' (preG l (k + 1)) W := hr'
        have hnD : D ∉ Ds := fun h => by have := hD4 D h; omega
        have HMP := Lib.hid (hM'.push (D := D) (W' := W) (fun _ _ => rfl) (Nat.le_trans hB4.size hD) hK hnD)
        have HFI := Lib.hid (And.intro hv' (And.intro hO hB'))
        clear hr' hO hM' hv' hB' hK hfin hfl hnD G4 B4 hB4 hM4 hD4 c0 c1 hA1 hR4
        gi_wp2
        refine ⟨⟨k + 1, D :: Ds, v', _, _, _, _, _, _, _, _, _, _, _, _, _, _, _, _, _, _, _, _, _, _, _, _, _, _, _, _, _, _, _, _, _, _, _, _, _, _, _, _, _, _, _, _, _, _, _, _, _, _, _, _, _, _, _, _, _, _, _, _, _, _, _, _, _, _, _, _, _, _, ⟨by go_num, rfl, by omega, HFI.out.1, HFI.out.2.1, HFI.out.2.2, HMP.out⟩, rfl⟩, ?_⟩
        refine meas_lt (k := k) ?_ ?_ hlt
        · simpa using hw
        · simp
    · obtain rfl : k = l.length := by omega
      have hp : preG l l.length = goalG l := by unfold preG goalG listG; rw [List.take_length]
      rw [hp] at hrow
      obtain ⟨av, nv, cv, rfl⟩ := hrow.form3
      have cB := hbx.cell
      have hll := HLEN.out
      have k1 := Lib.hid (Cod.base_Nums _ (goalG l) wr (HE.out.below hB HE.out.lo) hrow.nums HIN.out (by omega) HLEN2.out)
      have HBM := Lib.hid (And.intro hB hM)
      clear hrow hbx hB hM hp hll
      gi_wp2
      refine ⟨trivial, (callsIn_wide.2 k1.out).mono ?_⟩
      clear k1
      rintro e w4 ⟨rfl, hb4⟩
      have HB4 := Lib.hid hb4
      clear hb4
      gi_wp2
      exact leaves_marks (fn := Tryz.f10) (fun W => results_tmp rfl _ _ _) Ds w4 (HBM.out.1.trans (HB4.out.mono HBM.out.1.size)) (HBM.out.2.below HB4.out)

end Go.Proofs.YthnkfjjgccabeaaGreatDoor
