/- The reference's matrices in memory: rows that are never written, a header that is. -/
import Derived.Test.YtdeeoigcpihidaaDoorVec
import Derived.Test.YtdeeoigcpihidaaDoorRef3
namespace Go.Proofs.YtdeeoigcpihidaaDoor
open Go.RowKit

/-- A slice value that reads as c numbers, in another block than H. -/
def RowS (H c : Nat) (f : Nat → Int) (v : Value) (w : World) : Prop :=
  ∃ b off cap, v = .slice (some ⟨b, off, none⟩) c cap ∧ b ≠ H ∧ b < w.heap.size ∧ ∀ j, j < c → w.cell? ⟨b, off + j, none⟩ = some (.int .i64 (f j))
theorem RowS.keep {H c : Nat} {f : Nat → Int} {v : Value} {w w' : World} (h : RowS H c f v w) (hk : ∀ b, b < w.heap.size → b ≠ H → w'.heap[b]? = w.heap[b]?) (hs : w.heap.size ≤ w'.heap.size) : RowS H c f v w' := by
  obtain ⟨b, off, cap, h1, h2, h3, h4⟩ := h
  exact ⟨b, off, cap, h1, h2, by omega, fun j hj => by rw [World.cell?_of_block (a := ⟨b, off + j, none⟩) (hk b h3 h2)]; exact h4 j hj⟩
theorem RowS.next {H c : Nat} {f : Nat → Int} {v : Value} {w w' : World} (h : RowS H c f v w) (hb : Below w.heap.size w w') : RowS H c f v w' := h.keep (fun b hb' _ => hb.block b hb') hb.size
theorem RowS.ints {H c : Nat} {f : Nat → Int} {v : Value} {w : World} (h : RowS H c f v w) : IsInts v ((List.range c).map f) w := by
  obtain ⟨b, off, cap, h1, _, h3, h4⟩ := h
  refine .inr ⟨b, off, cap, by simpa using h1, h3, fun i x hx => ?_⟩
  obtain ⟨hi, hx⟩ := List.getElem?_eq_some_iff.1 hx
  simp only [List.length_map, List.length_range] at hi
  rw [h4 i hi, ← hx]; simp
theorem RowS.of {H c : Nat} {f : Nat → Int} {v : Value} {L : List Int} {w : World} (h : IsInts v L w) (hc : L.length = c) (h1 : 1 ≤ c) (hne : ∀ g, v.ownBlock = some g → g ≠ H) (hf : ∀ j (hj : j < L.length), L[j] = f j) : RowS H c f v w := by
  rcases h with ⟨_, h2⟩ | ⟨b, off, cap, h2, h3, h4⟩
  · rw [h2] at hc; simp at hc; omega
  · subst h2
    refine ⟨b, off, cap, by rw [hc], hne b rfl, h3, fun j hj => ?_⟩
    rw [h4 j (L[j]'(by omega)) (List.getElem?_eq_getElem _), hf j (by omega)]
structure RMat (H n c : Nat) (M : Nat → Nat → Int) (w : World) : Prop where
  hlt : H < w.heap.size
  hfz : ∀ i, w.frozen? ⟨H, i, none⟩ = false
  row : ∀ i, i < n → ∃ v, w.cell? ⟨H, i, none⟩ = some v ∧ RowS H c (M i) v w
section
variable {H n c : Nat} {M M' : Nat → Nat → Int} {w w' : World}
theorem RMat.next (h : RMat H n c M w) (hb : Below w.heap.size w w') : RMat H n c M w' where
  hlt := Nat.lt_of_lt_of_le h.hlt hb.size
  hfz := fun i => by rw [hb.frozen (p := ⟨H, i, none⟩) h.hlt]; exact h.hfz i
  row := fun i hi => by
    obtain ⟨v, h1, h2⟩ := h.row i hi
    exact ⟨v, by rw [hb.cell (p := ⟨H, i, none⟩) h.hlt]; exact h1, h2.next hb⟩
theorem RMat.congr (h : RMat H n c M w) (e : ∀ i, i < n → ∀ j, j < c → M i j = M' i j) : RMat H n c M' w := ⟨h.hlt, h.hfz, fun i hi => by
  obtain ⟨v, h1, b, off, cap, h2, h3, h4, h5⟩ := h.row i hi
  exact ⟨v, h1, b, off, cap, h2, h3, h4, fun j hj => by rw [h5 j hj, e i hi j hj]⟩⟩
theorem RMat.set (h : RMat H n c M w) {f : Nat → Int} {v : Value} (k : Nat) (hk : k < n) (hv : RowS H c f v w) : RMat H n c (fun i => if i = k then f else M i) (w.setCell ⟨H, k, none⟩ v) := by
  have hb : ∀ b, b < w.heap.size → b ≠ H → (w.setCell ⟨H, k, none⟩ v).heap[b]? = w.heap[b]? := fun b _ hne => Below.heap_setCell w ⟨H, k, none⟩ v b hne
  have hs : w.heap.size ≤ (w.setCell ⟨H, k, none⟩ v).heap.size := by simp [World.setCell]
  refine ⟨Nat.lt_of_lt_of_le h.hlt hs, fun i => by rw [World.frozen?_setCell]; exact h.hfz i, fun i hi => ?_⟩
  by_cases e : i = k
  · subst e
    obtain ⟨u, h1, _⟩ := h.row i hi
    exact ⟨v, World.cell?_setCell_same _ _ _ h1, by rw [if_pos rfl]; exact hv.keep hb hs⟩
  · obtain ⟨u, h1, h2⟩ := h.row i hi
    have hne : (⟨H, k, none⟩ : Addr) ≠ ⟨H, i, none⟩ := fun e2 => e (congrArg Addr.off e2).symm
    exact ⟨u, by rw [World.cell?_setCell_other _ _ _ _ hne]; exact h1, by rw [if_neg e]; exact h2.keep hb hs⟩
end
set_option maxHeartbeats 1000000 in
theorem rwidth_calls (v : Value) (xss : List (List Int)) (w : World) (h : IsRows v xss w) :
    Calls Tryd.prog 34 #[v] w fun e w' => e = .returned (.int .i64 (widF xss : Int)) ∧ w = w' := by
  obtain ⟨a, cap, rfl⟩ := h.len
  by_cases h0 : xss.length = 0
  · have hV : Hid ((widF xss : Int) = 0) := by
      have : xss = [] := List.eq_nil_of_length_eq_zero h0
      subst this; exact rfl
    rw [h0]
    clear h h0
    go_enter Tryd.func34, Tryd.ntmps34
    go_wp2
    go_ret
    exact ⟨ret_i hV.out.symm, rfl⟩
  · obtain ⟨bk, off, b, cp, rfl, hlt, hc0, hi0⟩ := h.at 0 (by omega)
    have hw : widF xss = xss[0].length := by
      cases xss with
      | nil => simp at h0
      | cons r l => rfl
    rw [← hw, Nat.add_zero] at hc0
    have hn0 : (0 : Int) < (xss.length : Int) := by omega
    have hz : ((xss.length : Int) == 0) = false := beq_eq_false_iff_ne.2 (by omega)
    have h00 : ¬ (xss.length : Int) = 0 := by omega
    clear hi0 hw h0
    go_enter Tryd.func34, Tryd.ntmps34
    go_wp2
    go_ret
    exact ⟨rfl, rfl⟩
/-- Rows from a place on are of a width. -/
def wideB (c : Nat) (l : List (List Int)) : Bool := l.all fun r => decide (r.length ≤ 64) && (r.length == c)
theorem wideB_drop (c : Nat) (l : List (List Int)) (k : Nat) (h : k < l.length) : wideB c (l.drop k) = ((decide (l[k].length ≤ 64) && (l[k].length == c)) && wideB c (l.drop (k + 1))) := by
  rw [List.drop_eq_getElem_cons h]; rfl
theorem matB_wide (xss : List (List Int)) : matB xss = (decide (xss.length ≤ 64) && wideB (widF xss) xss) := by
  cases xss with
  | nil => rfl
  | cons r l =>
    rw [Bool.eq_iff_iff]
    unfold matB wideB
    simp only [widF, List.isEmpty_cons, Bool.false_or, List.all_cons, beq_self_eq_true, Bool.and_true, Bool.true_and, Bool.and_eq_true, decide_eq_true_eq, List.all_eq_true, beq_iff_eq]
    constructor
    · rintro ⟨⟨h1, h2⟩, h3⟩
      exact ⟨h1, of_decide_eq_true h2, fun x hx => ⟨by rw [h3 x hx]; exact of_decide_eq_true h2, h3 x hx⟩⟩
    · rintro ⟨h1, h2, h3⟩
      exact ⟨⟨h1, decide_eq_true h2⟩, fun x hx => (h3 x hx).2⟩
set_option maxHeartbeats 1000000 in
theorem rmatrix_calls (v : Value) (xss : List (List Int)) (w : World) (h : IsRows v xss w) (hn : xss.length ≤ 9223372036854775807) (hr : ∀ r ∈ xss, r.length ≤ 9223372036854775807) :
    Calls Tryd.prog 33 #[v] w (Ret (.bool (matB xss)) w) := by
  obtain ⟨a, cap, rfl⟩ := h.len
  have hmw := matB_wide xss
  by_cases h64 : (64 : Int) < (xss.length : Int)
  · have HV : Hid (matB xss = false) := by show _ = _; rw [hmw, decide_eq_false (by omega)]; rfl
    clear hmw h hr
    go_enter Tryd.func33, Tryd.ntmps33
    go_wp2
    go_ret
    exact ⟨ret_b HV.out.symm, 0, rfl⟩
  · rw [decide_eq_true (show xss.length ≤ 64 by omega), Bool.true_and] at hmw
    obtain ⟨c, hc⟩ : ∃ c, c = widF xss := ⟨_, rfl⟩
    rw [← hc] at hmw
    have hw : ∀ h0 : 0 < xss.length, xss[0].length = c := fun h0 => by
      rw [hc]
      cases xss with
      | nil => simp at h0
      | cons r l => rfl
    have HW := Lib.hid hw
    obtain ⟨F, hF⟩ : ∃ F, F = matB xss := ⟨_, rfl⟩
    rw [← hF] at hmw
    rw [← hF]
    have HF : Nat → wideB c (xss.drop 0) = F := fun _ => by rw [List.drop_zero]; exact hmw.symm
    clear hmw hF hw hc
    have HH := Lib.hid h
    clear h
    go_enter Tryd.func33, Tryd.ntmps33
    go_wp2
    go_loopw [3] (fun iv wr => ∃ k : Nat, k ≤ xss.length ∧ iv = .int .i64 (k : Int) ∧ (Nat → wideB c (xss.drop k) = F) ∧ Drawn w wr) (fun iv _ => xss.length - (intOf iv).toNat)
    case atStart => exact ⟨0, Nat.zero_le _, rfl, HF, Drawn.refl _⟩
    case round =>
      clear HF
      obtain ⟨k, hk, rfl, HF, hD⟩ := hrel
      by_cases hlt : k < xss.length
      · obtain ⟨bk, off, b, cp, rfl, _, z0, _⟩ := (HH.out.next hD.below).at k hlt
        obtain ⟨bk', off', b', cp', e1, _, z1, _⟩ := (HH.out.next hD.below).at 0 (by omega)
        simp only [Option.some.injEq, Addr.mk.injEq] at e1
        obtain ⟨rfl, rfl, -⟩ := e1
        rw [HW.out (by omega), Nat.add_zero] at z1
        have hst : Nat → ((decide (xss[k].length ≤ 64) && (xss[k].length == c)) && wideB c (xss.drop (k + 1))) = F := fun _ => by rw [← wideB_drop c xss k hlt]; exact HF 0
        have hrk := hr _ (List.getElem_mem hlt)
        generalize xss[k].length = l at *
        have hk1 : (k : Int) < (xss.length : Int) := by omega
        have hn0 : (0 : Int) < (xss.length : Int) := by omega
        have HD := Lib.hid hD
        clear HF hD hr
        by_cases hl64 : (64 : Int) < (l : Int)
        · have HX : Hid (F = false) := by show _ = _; have := hst 0; rw [decide_eq_false (by omega)] at this; exact this.symm
          have hdl : decide ((64 : Int) < (l : Int)) = true := by simpa using hl64
          clear hst
          go_wp2
          go_quiet (fail)
          go_wp2
          go_ret
          exact ⟨ret_b HX.out.symm, HD.out.more _⟩
        · have hdl : decide ((64 : Int) < (l : Int)) = false := by simpa using hl64
          have hn00 : 0 < xss.length := by omega
          by_cases hlc : l = c
          · subst hlc
            have HF2 : Nat → wideB l (xss.drop (k + 1)) = F := fun _ => by have := hst 0; rwa [decide_eq_true (show l ≤ 64 by omega), show (l == l) = true by simp, Bool.true_and, Bool.true_and] at this
            have hbn : ((l : Int) != (l : Int)) = false := by simp
            clear hst
            go_wp2
            go_quiet (fail)
            go_wp2
            go_roundw
            case rel => exact ⟨k + 1, by omega, by go_num, HF2, HD.out.more _⟩
            case measure => simp [intOf]; omega
          · have HX : Hid (F = false) := by show _ = _; have := hst 0; rw [show (l == c) = false from beq_eq_false_iff_ne.2 hlc, Bool.and_false, Bool.false_and] at this; exact this.symm
            have hbn : ((l : Int) != (c : Int)) = true := bne_iff_ne.2 (by omega)
            have hbn2 : ¬ (l : Int) = (c : Int) := by omega
            clear hst
            go_wp2
            go_quiet (fail)
            go_wp2
            go_ret
            exact ⟨ret_b HX.out.symm, HD.out.more _⟩
      · obtain rfl : k = xss.length := by omega
        have HX : Hid (F = true) := by show _ = _; have := HF 0; rw [List.drop_length] at this; rw [← this]; rfl
        have HD := Lib.hid hD
        clear HF hD
        go_wp2
        go_ret
        exact ⟨ret_b HX.out.symm, HD.out⟩
/-- What appends leave of other blocks. -/
theorem fresh_of {w : World} {T : Nat} {v : Value} {L : List Int} (h : w.ownsRow T 3 1 v L.length (zcs L)) : ∀ g, v.ownBlock = some g → T ≤ g := fun g hg => (h.lt g hg).1
def lessG (q k : Int) (f g : Nat → Int) : Nat → Int := fun j => subZ q (f j) (mulZ q k (g j))
theorem lessG_is {q k : Int} (hq : isMod q) (f g : Nat → Int) (j : Nat) : lessG q k f g j = lessZ q (f j) (g j) k := by
  unfold lessG lessZ subZ mulZ
  rw [if_pos hq, if_pos hq, if_pos hq, Int.mul_comm k]
theorem range_snoc (f : Nat → Int) (k : Nat) : (List.range (k + 1)).map f = (List.range k).map f ++ [f k] := by
  rw [List.range_succ, List.map_append]; rfl
set_option maxHeartbeats 1000000 in
theorem less_calls (q k : Int) (hki : isInt k) (u v : Value) (c : Nat) (hc : c ≤ 1000) (f g : Nat → Int) (hf : ∀ j, isInt (f j)) (hg : ∀ j, isInt (g j)) (w : World) (hu : IsInts u ((List.range c).map f) w) (hv : IsInts v ((List.range c).map g) w) :
    Calls Tryd.prog 53 #[.int .i64 q, u, v, .int .i64 k] w fun e w' => ∃ v', e = .returned v' ∧ IsInts v' ((List.range c).map (lessG q k f g)) w' ∧ (∀ b, v'.ownBlock = some b → w.heap.size ≤ b) ∧ Below w.heap.size w w' := by
  obtain ⟨a, cap, rfl⟩ := hu.len
  obtain ⟨av, capv, rfl⟩ := hv.len
  have hl1 : ((List.range c).map f).length = c := by simp
  have hl2 : ((List.range c).map g).length = c := by simp
  rw [hl1, hl2]
  have HU := Lib.hid hu
  have HV := Lib.hid hv
  rw [hl1] at HU
  rw [hl2] at HV
  clear hu hv hl1 hl2
  go_enter Tryd.func53, Tryd.ntmps53
  go_wp2
  have hO0 := own_lit0 w
  have hB0 : Below w.heap.size w (w.alloc (.cells #[] 3)) := below_one _ _
  obtain ⟨i0, hi0, hz0, hz1, hz2⟩ := info_parts infoInt
  go_loopw [9, 10] (fun v i wr => ∃ (j : Nat) (L : List Int), j ≤ c ∧ i = .int .i64 (j : Int) ∧ L = (List.range j).map (lessG q k f g) ∧ wr.ownsRow w.heap.size 3 1 v L.length (zcs L) ∧ Below w.heap.size w wr) (fun _ i _ => c - (intOf i).toNat)
  case atStart => exact ⟨0, [], Nat.zero_le _, rfl, rfl, hO0, hB0⟩
  case round =>
    clear hO0 hB0
    obtain ⟨j, L, hj, rfl, hL, hO, hB⟩ := hrel
    by_cases hlt : j < c
    · obtain ⟨bk, off, rfl, _, z0⟩ := (HU.out.next hB).at j (by simpa using hlt)
      obtain ⟨bk', off', rfl, _, z1⟩ := (HV.out.next hB).at j (by simpa using hlt)
      simp only [List.getElem_map, List.getElem_range] at z0 z1
      have hst := range_snoc (lessG q k f g) j
      rw [← hL] at hst
      have hfj := hf j
      have hgj := hg j
      have hlg : lessG q k f g j = subZ q (f j) (mulZ q k (g j)) := rfl
      rw [hlg] at hst
      generalize f j = x at *
      generalize g j = y at *
      have q1 := fun w => Lib.hid (rmul_calls q k y hki hgj w)
      have hmi := mulZ_int q k y
      generalize mulZ q k y = M at *
      have q2 := fun w => Lib.hid (rsub_calls q x M hfj hmi w)
      generalize subZ q x M = r at *
      have hll : L.length ≤ 1000 := by rw [hL]; simp; omega
      have hjc : (j : Int) < (c : Int) := by omega
      have HO := Lib.hid hO
      have HB := Lib.hid hB
      have HST := Lib.hid hst
      have HBS := Lib.hid hB.size
      clear hO hB hL hst hf hg hlg hfj hgj hmi
      go_wp2
      go_region_law (first
        | (refine step_append_lies _ rfl _ _ 23 rfl w.heap.size 3 i0 (.int .i64 0) 1 8 Tryd.underlying23 hi0 hz0 hz1 hz2 rfl (by decide) _ _ _ (by rfl) (own_keep HO.out (fun b hb => Below.heap_alloc wr _ b hb)) ⟨wr.heap.size, 0, none⟩ 1 1 [.int .i64 r] rfl rfl (news_one wr r) (by intro u hu; simp at hu; subst hu; rfl) (by omega) (by unfold maxLen; omega) (by omega) (by have := HBS.out; simp; omega) _ rfl ?_; intro gg cp' w9 hown hgr hgo _)
        | (go_simp; go_at_call 52; refine Calls.mono (q1 _).out ?_; rintro e w3 ⟨rfl, n1, rfl⟩)
        | (go_simp; go_at_call 37; refine Calls.mono (q2 _).out ?_; rintro e w3 ⟨rfl, n2, rfl⟩))
      all_goals
        have HN := Lib.hid (by refine own_more ?_ ?_ hown hgr; (exact (own_keep HO.out fun _ _ => rfl)); (exact below_drewN HB.out _) : _ ∧ _)
        clear hown hgr hgo z0 z1 q1 q2
        go_wp2
        go_roundw
        case rel => exact ⟨j + 1, L ++ [r], by omega, by go_num, HST.out.symm, HN.out.1, HN.out.2⟩
        case measure => simp [intOf]; omega
    · obtain rfl : j = c := by omega
      subst hL
      have HO := Lib.hid hO
      have HB := Lib.hid hB
      clear hO hB
      go_wp2
      go_ret
      exact ⟨_, rfl, ints_own HO.out, fresh_of HO.out, HB.out⟩
end Go.Proofs.YtdeeoigcpihidaaDoor
