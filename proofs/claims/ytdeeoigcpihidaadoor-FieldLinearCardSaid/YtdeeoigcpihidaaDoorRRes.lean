/- The reference's residues of a matrix with a further column. -/
import Derived.Test.YtdeeoigcpihidaaDoorRM
namespace Go.Proofs.YtdeeoigcpihidaaDoor
open Go.RowKit

theorem RowS.re {H g c : Nat} {f : Nat → Int} {v : Value} {w : World} (h : RowS H c f v w) (hg : g = H ∨ w.heap.size ≤ g) : RowS g c f v w := by
  obtain ⟨b, off, cap, h1, h2, h3, h4⟩ := h
  exact ⟨b, off, cap, h1, by omega, h3, h4⟩
def RowsP (H c : Nat) (M : Nat → Nat → Int) (k : Nat) (vs : Nat → Value) (w : World) : Prop := ∀ s, s < k → RowS H c (M s) (vs s) w
theorem RowsP.keep {H c k : Nat} {M : Nat → Nat → Int} {vs : Nat → Value} {w w' : World} (h : RowsP H c M k vs w) (hk : ∀ b, b < w.heap.size → b ≠ H → w'.heap[b]? = w.heap[b]?) (hs : w.heap.size ≤ w'.heap.size) : RowsP H c M k vs w' := fun s hs' => (h s hs').keep hk hs
theorem RowsP.more {H g c k : Nat} {M : Nat → Nat → Int} {vs : Nat → Value} {v : Value} {w w' : World} (h : RowsP H c M k vs w) (hv : RowS H c (M k) v w) (hg : g = H ∨ w.heap.size ≤ g) (hk : ∀ b, b < w.heap.size → b ≠ H → w'.heap[b]? = w.heap[b]?) (hs : w.heap.size ≤ w'.heap.size) :
    RowsP g c M (k + 1) (fun s => if s = k then v else vs s) w' := fun s hs' => by
  by_cases e : s = k
  · subst e
    show RowS g c (M s) (if s = s then v else vs s) w'
    rw [if_pos rfl]
    obtain ⟨b, off, cap, h1, h2, h3, h4⟩ := hv
    exact ⟨b, off, cap, h1, by omega, by omega, fun j hj => by rw [World.cell?_of_block (a := ⟨b, off + j, none⟩) (hk b h3 h2)]; exact h4 j hj⟩
  · show RowS g c (M s) (if s = k then v else vs s) w'
    rw [if_neg e]
    obtain ⟨b, off, cap, h1, h2, h3, h4⟩ := h s (by omega)
    exact ⟨b, off, cap, h1, by omega, by omega, fun j hj => by rw [World.cell?_of_block (a := ⟨b, off + j, none⟩) (hk b h3 h2)]; exact h4 j hj⟩
theorem RowsP.mat {T H c n cap : Nat} {M : Nat → Nat → Int} {vs : Nat → Value} {w : World} (h : RowsP H c M n vs w) (ho : w.ownsRow T 23 1 (.slice (some ⟨H, 0, none⟩) n cap) n ((List.range n).map vs)) : RMat H n c M w := by
  obtain ⟨_, ⟨h1, _⟩ | ⟨g, cp, cur, hv, _, hh, _, _, _, ht⟩⟩ := ho
  · simp at h1
  · simp only [Value.slice.injEq, Option.some.injEq, Addr.mk.injEq] at hv
    obtain ⟨⟨rfl, _, _⟩, _, rfl⟩ := hv
    refine ⟨(Array.getElem?_eq_some_iff.1 hh).1, fun j => by simp [World.frozen?, hh], fun i hi => ⟨vs i, ?_, h i hi⟩⟩
    rw [cell_of_row w H i cur _ (0, 0) hh]
    have h1 : ((List.range n).map vs)[i]? = some (vs i) := by simp [hi]
    rw [← ht, List.getElem?_take] at h1
    split at h1
    · simpa using h1
    · cases h1
theorem vals_snoc (vs : Nat → Value) (v : Value) (k : Nat) : ((List.range (k + 1)).map fun s => if s = k then v else vs s) = (List.range k).map vs ++ [v] := by
  rw [List.range_succ, List.map_append, List.map_cons, List.map_nil, if_pos rfl]
  congr 1
  exact List.map_congr_left fun s hs => by rw [if_neg (by have := List.mem_range.1 hs; omega)]
theorem news_val (w : World) (u0 : Value) (t : TypeId) : ∀ (j' : Nat) (u : Value), ([u0] : List Value)[j']? = some u → (w.alloc (.cells #[u0] t)).cell? ((⟨w.heap.size, 0, none⟩ : Addr).add j') = some u := by
  intro j' u hj'
  match j', hj' with
  | 0, hj' => simp at hj'; subst hj'; simp [Addr.add]
theorem augM_low {q : Int} {xss : List (List Int)} {b : List Int} {c i j : Nat} (h : j < c) : augM q xss b c i j = resM q xss i j := by unfold augM; rw [if_neg (by omega)]
set_option maxRecDepth 100000 in
set_option maxHeartbeats 2000000 in
theorem rresid_calls (q : Int) (hq : isMod q) (v bv : Value) (xss : List (List Int)) (b : List Int) (c : Nat) (hxc : ∀ r ∈ xss, r.length = c) (hn : xss.length ≤ 1000) (hc : c ≤ 1000) (hbl : b.length = xss.length) (hi : ∀ r ∈ xss, ∀ x ∈ r, isInt x) (hbi : ∀ x ∈ b, isInt x) (w : World) (h : IsRows v xss w) (hb : IsInts bv b w) :
    Calls Tryd.prog 36 #[.int .i64 q, v, bv] w fun e w' => ∃ H cap, e = .returned (.slice (some ⟨H, 0, none⟩) xss.length cap) ∧ w.heap.size ≤ H ∧ RMat H xss.length (c + 1) (augM q xss b c) w' ∧ Below w.heap.size w w' := by
  obtain ⟨a, cap, rfl⟩ := h.len
  obtain ⟨ab, capb, rfl⟩ := hb.len
  obtain ⟨n, hn'⟩ : ∃ n, n = xss.length := ⟨_, rfl⟩
  rw [hbl, ← hn']
  rw [hbl, ← hn'] at hb
  rw [← hn'] at h hn
  have HN := Lib.hid hn'
  have HBL := Lib.hid hbl
  have HH := Lib.hid h
  have HBV := Lib.hid hb
  have HXC := Lib.hid hxc
  have HI := Lib.hid hi
  have HBI := Lib.hid hbi
  have c1 := fun x (hx : isInt x) w => Lib.hid (rres_calls q x hq hx.1 hx.2 w)
  clear hn' hbl h hb hxc hi hbi
  go_enter Tryd.func36, Tryd.ntmps36
  go_wp2
  have hO0 : (w.alloc (.cells #[] 23)).ownsRow w.heap.size 23 1 (.slice (some ⟨w.heap.size, 0, none⟩) 0 0) 0 ((List.range 0).map fun _ => Value.slice none 0 0) := World.ownsRow_lit (base := w.heap.size) w #[] 0 (Nat.le_refl _) (by unfold maxLen; omega) (by rfl)
  have hB0 : Below w.heap.size w (w.alloc (.cells #[] 23)) := below_one _ _
  have hP0 : RowsP w.heap.size (c + 1) (augM q xss b c) 0 (fun _ => Value.slice none 0 0) (w.alloc (.cells #[] 23)) := fun s hs => by omega
  obtain ⟨i0, hi0, hz0, hz1, hz2⟩ := info_parts infoInt
  obtain ⟨i1, hi1, hy0, hy1, hy2⟩ := info_parts infoRow
  go_loopw [7, 8] (fun ov iv wr => ∃ (k H cp : Nat) (vs : Nat → Value), k ≤ n ∧ iv = .int .i64 (k : Int) ∧ ov = .slice (some ⟨H, 0, none⟩) k cp ∧ wr.ownsRow w.heap.size 23 1 (.slice (some ⟨H, 0, none⟩) k cp) k ((List.range k).map vs) ∧ RowsP H (c + 1) (augM q xss b c) k vs wr ∧ Below w.heap.size w wr) (fun _ iv _ => n - (intOf iv).toNat)
  case atStart => exact ⟨0, _, _, _, Nat.zero_le _, rfl, rfl, hO0, hP0, hB0⟩
  case round =>
    clear hO0 hB0 hP0
    obtain ⟨k, H, cp, vs, hk, rfl, rfl, hO, hP, hB⟩ := hrel
    have hHT : w.heap.size ≤ H ∧ H < wr.heap.size := hO.lt H rfl
    by_cases hlt : k < n
    · have hkx : k < xss.length := by rw [← HN.out]; exact hlt
      have hkb : k < b.length := by rw [HBL.out]; exact hkx
      have hrk := HXC.out _ (List.getElem_mem hkx)
      have hrm := fun j hj => resM_at q xss k j hkx hj
      have hrows : ∀ w', Below w.heap.size w w' → _ := fun w' (hbw : Below w.heap.size w w') => (HH.out.next hbw)
      have hix := HI.out _ (List.getElem_mem hkx)
      have HO := Lib.hid hO
      have HP := Lib.hid hP
      have HB := Lib.hid hB
      have hkn : (k : Int) < (n : Int) := by omega
      obtain ⟨W0, rfl⟩ : ∃ x, x = wr := ⟨wr, rfl⟩
      have hl0 := own_lit0 W0
      have hlb : Below W0.heap.size W0 (W0.alloc (.cells #[] 3)) := below_one _ _
      obtain ⟨row, hrow⟩ : ∃ row, row = xss[k] := ⟨_, rfl⟩
      rw [← hrow] at hrk hrm hix
      have HROW := Lib.hid hrow
      have HRM := Lib.hid hrm
      have HIX := Lib.hid hix
      have HRK := Lib.hid hrk
      clear hO hP hB hrows hrow hrm hix hrk
      go_wp2
      go_loopw [9, 10] (fun rv jv wr' => ∃ (j : Nat) (L : List Int), j ≤ c ∧ jv = .int .i64 (j : Int) ∧ L = (List.range j).map (resM q xss k) ∧ wr'.ownsRow W0.heap.size 3 1 rv L.length (zcs L) ∧ Below W0.heap.size W0 wr') (fun _ jv _ => c - (intOf jv).toNat)
      case atStart => exact ⟨0, [], Nat.zero_le _, rfl, rfl, hl0, hlb⟩
      case round =>
        clear hl0 hlb
        obtain ⟨j, L, hj, rfl, hL, hO2, hB2⟩ := hrel
        have hbw : Below w.heap.size w wr := HB.out.trans (hB2.mono HB.out.size)
        obtain ⟨bk, off, br, cpr, rfl, _, z0, hi2⟩ := (HH.out.next hbw).at k hkx
        rw [← HROW.out, HRK.out] at z0 hi2
        by_cases hjl : j < c
        · have hjr : j < row.length := by rw [HRK.out]; exact hjl
          rw [← HRK.out] at hi2
          obtain ⟨b1, o1, rfl, _, z1⟩ := hi2.at j hjr
          have hst := range_snoc (resM q xss k) j
          rw [← hL] at hst
          have hrj := HRM.out j hjr
          have hxj := HIX.out _ (List.getElem_mem hjr)
          rw [hrj] at hst
          generalize row[j] = x at *
          have c2 := c1 x hxj
          obtain ⟨r, hr⟩ : ∃ r, r = x % q := ⟨_, rfl⟩
          rw [← hr] at c2 hst
          have hll : L.length ≤ 1000 := by rw [hL]; simp; omega
          have HO2 := Lib.hid hO2
          have HB2 := Lib.hid hB2
          have HST := Lib.hid hst
          have HBS := Lib.hid hB2.size
          have hjc : (j : Int) < (c : Int) := by omega
          clear hO2 hB2 hL hst hr hbw hi2 hrj hxj c1
          go_wp2_with fail
          refine Calls.mono (c2 _).out ?_
          rintro e w3 ⟨rfl, rfl⟩
          go_wp2_with (at_builtin; refine wpList_append_own _ rfl _ _ 23 rfl W0.heap.size 3 i0 (.int .i64 0) 1 8 Tryd.underlying23 hi0 hz0 hz1 hz2 rfl (by decide) _ _ _ rfl (HO2.out.alloc _) ⟨wr.heap.size, 0, none⟩ 1 1 [.int .i64 r] rfl rfl (news_one wr r) (by intro u hu; simp at hu; subst hu; rfl) (by unfold maxLen; omega) (by omega) (by have := HBS.out; simp; omega) ?_)
          intro v' w' hown hgr _
          have HNN := Lib.hid (own_more HO2.out HB2.out hown hgr)
          clear hown hgr HO2 HB2
          go_wp2
          go_roundw
          case rel => exact ⟨j + 1, L ++ [r], by omega, by go_num, HST.out.symm, HNN.out.1, HNN.out.2⟩
          case measure => simp [intOf]; omega
        · obtain rfl : j = c := by omega
          have h2 : IsInts (.slice ab b.length capb) b wr := by rw [HBL.out, ← HN.out]; exact HBV.out.next hbw
          obtain ⟨bk', off', rfl, _, z1⟩ := h2.at k hkb
          have hyk := HBI.out _ (List.getElem_mem hkb)
          have hau : augM q xss b j k j = b[k] % q := by unfold augM; rw [if_pos rfl, List.getD_eq_getElem?_getD, List.getElem?_eq_getElem hkb]; rfl
          generalize b[k] = y at *
          have c2 := c1 y hyk
          obtain ⟨r, hr⟩ : ∃ r, r = y % q := ⟨_, rfl⟩
          rw [← hr] at c2 hau
          have hLr : L ++ [r] = (List.range (j + 1)).map (augM q xss b j k) := by
            rw [range_snoc, hau, hL]
            congr 1
            exact List.map_congr_left fun t ht => (augM_low (List.mem_range.1 ht)).symm
          have hll : L.length ≤ 1000 := by rw [hL]; simp; omega
          have HO2 := Lib.hid hO2
          have HB2 := Lib.hid hB2
          have HLR := Lib.hid hLr
          have HLL : Hid (L.length = j) := by show _ = _; rw [hL]; simp
          have HBS := Lib.hid hB2.size
          have HBW := Lib.hid hbw
          have HHT := Lib.hid hHT
          clear hO2 hB2 hL hLr hr hbw hi2 hau h2 hyk c1
          go_wp2_with fail
          refine Calls.mono (c2 _).out ?_
          rintro e w3 ⟨rfl, rfl⟩
          go_wp2_with (at_builtin; refine wpList_append_own _ rfl _ _ 23 rfl W0.heap.size 3 i0 (.int .i64 0) 1 8 Tryd.underlying23 hi0 hz0 hz1 hz2 rfl (by decide) _ _ _ rfl (HO2.out.alloc _) ⟨wr.heap.size, 0, none⟩ 1 1 [.int .i64 r] rfl rfl (news_one wr r) (by intro u hu; simp at hu; subst hu; rfl) (by unfold maxLen; omega) (by omega) (by have := HBS.out; simp; omega) ?_)
          intro v1 w1 hown hgr _
          obtain ⟨hN1, hN2⟩ := own_more HO2.out HB2.out hown hgr
          have hfr := fresh_of hN1
          have hints := ints_own hN1
          rw [HLR.out] at hints
          have hl1 : (L ++ [r]).length = j + 1 := by rw [List.length_append, HLL.out]; rfl
          obtain ⟨va, vc, rfl⟩ := own_len hown
          have hRow : RowS H (j + 1) (augM q xss b j k) (.slice va (L.length + 1) vc) w1 := by
            refine RowS.of hints (by simp) (by omega) (fun g hg e => ?_) (fun t ht => by simp)
            have := hfr g hg
            have := HHT.out.2
            omega
          have HRW := Lib.hid hRow
          have HN2 := Lib.hid hN2
          have HO3 := Lib.hid (own_keep HO.out hN2.block)
          have HP3 : Hid (RowsP H (j + 1) (augM q xss b j) k vs w1) := HP.out.keep (fun g hg _ => hN2.block g hg) hN2.size
          have HB3 : Hid (Below w.heap.size w w1) := HB.out.trans (hN2.mono HB.out.size)
          clear hown hgr HO2 HB2 hN1 hN2 hfr hints hl1 hRow HO HP z0 z1 HBW
          go_wp2_with (at_builtin; refine wpList_append_lies _ rfl _ _ 22 rfl w.heap.size 23 i1 (.slice none 0 0) 1 24 Tryd.underlying22 hi1 hy0 hy1 hy2 rfl (by decide) _ _ _ rfl (HO3.out.alloc _) ⟨w1.heap.size, 0, none⟩ 1 1 [.slice va (L.length + 1) vc] rfl rfl (news_val w1 _ _) (by intro u hu; simp at hu; subst hu; rfl) (by omega) (by unfold maxLen; omega) (by omega) (by have := HB3.out.size; simp; omega) _ rfl ?_)
          intro g cp' w2 hown hgr hgo _
          have hgo2 : g = H ∨ w1.heap.size ≤ g := by
            rcases hgo with e | e
            · exact .inl (Option.some.inj e).symm
            · right; omega
          have hkp : ∀ b, b < w1.heap.size → b ≠ H → w2.heap[b]? = w1.heap[b]? := fun b hb hne => (hgr.block b (by simp; omega) (fun e => hne (Option.some.inj e))).trans (Below.heap_alloc w1 _ b hb)
          have hsz2 : w1.heap.size ≤ w2.heap.size := by have := hgr.size; simp at this; omega
          have HP4 : Hid (RowsP g (j + 1) (augM q xss b j) (k + 1) _ w2) := HP3.out.more HRW.out hgo2 hkp hsz2
          have HO4 : Hid (w2.ownsRow w.heap.size 23 1 (.slice (some ⟨g, 0, none⟩) (k + 1) cp') (k + 1) ((List.range (k + 1)).map fun s => if s = k then .slice va (L.length + 1) vc else vs s)) := by
            show World.ownsRow _ _ _ _ _ _ _
            rw [vals_snoc]; exact hown
          have HB4 : Hid (Below w.heap.size w w2) := by
            have h1 : Below w.heap.size w (w1.alloc (.cells #[.slice va (L.length + 1) vc] 23)) := HB3.out.trans ((below_one w1 _).mono HB3.out.size)
            exact h1.trans ⟨hgr.os, hgr.tape, hgr.output, hgr.size, fun b hb => hgr.block b (by have := HB3.out.size; simp; omega) (fun e => by have e2 : b = H := Option.some.inj e; have := HHT.out.1; omega)⟩
          clear hown hgr hgo hgo2 hkp hsz2 HP3 HO3 HB3
          go_wp2
          go_roundw
          case rel => exact ⟨k + 1, g, cp', _, by omega, by go_num, rfl, HO4.out, HP4.out, HB4.out⟩
          case measure => simp [intOf]; omega
    · obtain rfl : k = n := by omega
      have HO := Lib.hid hO
      have HP := Lib.hid hP
      have HB := Lib.hid hB
      clear hO hP hB
      go_wp2
      go_ret
      exact ⟨H, cp, rfl, hHT.1, HP.out.mat HO.out, HB.out⟩
end Go.Proofs.YtdeeoigcpihidaaDoor
