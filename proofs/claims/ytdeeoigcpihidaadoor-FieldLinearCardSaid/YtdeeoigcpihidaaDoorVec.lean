/- The law's vectors: residues, products, shapes. -/
import Derived.Test.YtdeeoigcpihidaaDoorDig
namespace Go.Proofs.YtdeeoigcpihidaaDoor
open Go.RowKit

def redL (q : Int) (l : List Int) : List Int := l.map fun x => addZ q x 0
def dotK (q : Int) (r v : List Int) : Nat → Int
  | 0 => 0
  | j + 1 => addZ q (dotK q r v j) (mulZ q (r.getD j 0) (v.getD j 0))
def dotF (q : Int) (r v : List Int) : Int := dotK q r v (min r.length v.length)
def prL (q : Int) (xss : List (List Int)) (v : List Int) : List Int := xss.map fun r => dotF q r v
theorem dotK_int (q : Int) (r v : List Int) (j : Nat) : isInt (dotK q r v j) := by
  cases j with
  | zero => unfold dotK isInt; omega
  | succ j => exact addZ_int _ _ _
theorem redL_snoc (q : Int) (l : List Int) (i : Nat) (h : i < l.length) : redL q (l.take (i + 1)) = redL q (l.take i) ++ [addZ q l[i] 0] := by
  unfold redL; rw [List.take_add_one, List.getElem?_eq_getElem h, List.map_append]; rfl
theorem prL_snoc (q : Int) (l : List (List Int)) (v : List Int) (i : Nat) (h : i < l.length) : prL q (l.take (i + 1)) v = prL q (l.take i) v ++ [dotF q l[i] v] := by
  unfold prL; rw [List.take_add_one, List.getElem?_eq_getElem h, List.map_append]; rfl
theorem own_lit0 (w : World) : (w.alloc (.cells #[] 3)).ownsRow w.heap.size 3 1 (.slice (some ⟨w.heap.size, 0, none⟩) 0 0) 0 (zcs []) := World.ownsRow_lit (base := w.heap.size) w #[] 0 (Nat.le_refl _) (by unfold maxLen; omega) (by rfl)
/-- What an appended int leaves. -/
theorem own_more {W wr w' : World} {v v' : Value} {L : List Int} {r : Int} (hO : wr.ownsRow W.heap.size 3 1 v L.length (zcs L)) (hB : Below W.heap.size W wr)
    (hown : w'.ownsRow W.heap.size 3 1 v' (L.length + 1) (zcs L ++ [.int .i64 r])) (hgr : (wr.alloc (.cells #[.int .i64 r] 3)).grownBy w' v.ownBlock) :
    w'.ownsRow W.heap.size 3 1 v' (L ++ [r]).length (zcs (L ++ [r])) ∧ Below W.heap.size W w' := by
  refine ⟨?_, ?_⟩
  · rw [show (L ++ [r]).length = L.length + 1 by simp, show zcs (L ++ [r]) = zcs L ++ [.int .i64 r] by simp [zcs]]; exact hown
  · have h1 : Below W.heap.size W (wr.alloc (.cells #[.int .i64 r] 3)) := hB.trans ((below_one wr _).mono hB.size)
    exact h1.trans ⟨hgr.os, hgr.tape, hgr.output, hgr.size, fun k hk => hgr.block k (by have := hB.size; simp; omega) (fun e => by have := (hO.lt k e.symm).1; omega)⟩
theorem news_one (w : World) (r : Int) : ∀ (j' : Nat) (u : Value), ([Value.int .i64 r] : List Value)[j']? = some u → (w.alloc (.cells #[.int .i64 r] 3)).cell? ((⟨w.heap.size, 0, none⟩ : Addr).add j') = some u := by
  intro j' u hj'
  match j', hj' with
  | 0, hj' => simp at hj'; subst hj'; simp [Addr.add]
set_option maxHeartbeats 1000000 in
theorem reduced_calls (q : Int) (bv : Value) (b : List Int) (hb : b.length ≤ 1000) (hi : ∀ x ∈ b, isInt x) (w : World) (h : IsInts bv b w) :
    Calls Tryd.prog 19 #[.int .i64 q, bv] w fun e w' => ∃ v, e = .returned v ∧ IsInts v (redL q b) w' ∧ Below w.heap.size w w' := by
  obtain ⟨a, cap, rfl⟩ := h.len
  go_enter Tryd.func19, Tryd.ntmps19
  go_wp2
  have hO0 := own_lit0 w
  have hB0 : Below w.heap.size w (w.alloc (.cells #[] 3)) := below_one _ _
  obtain ⟨i0, hi0, hz0, hz1, hz2⟩ := info_parts infoInt
  go_loopw [5, 6] (fun v i wr => ∃ (k : Nat) (L : List Int), k ≤ b.length ∧ i = .int .i64 (k : Int) ∧ L = redL q (b.take k) ∧ wr.ownsRow w.heap.size 3 1 v L.length (zcs L) ∧ Below w.heap.size w wr) (fun _ i _ => b.length - (intOf i).toNat)
  case atStart => exact ⟨0, [], Nat.zero_le _, rfl, by simp [redL], hO0, hB0⟩
  case round =>
    clear hO0 hB0
    obtain ⟨k, L, hk, rfl, hL, hO, hB⟩ := hrel
    by_cases hlt : k < b.length
    · obtain ⟨bk, off, rfl, _, z0⟩ := (h.next hB).at k hlt
      have hst := redL_snoc q b k hlt
      have hxi := hi _ (List.getElem_mem hlt)
      generalize b[k] = x at *
      have c1 := fun w => Lib.hid (add_calls q x 0 hxi (by unfold isInt; omega) w)
      generalize addZ q x 0 = r at *
      rw [← hL] at hst
      have hll : L.length ≤ 1000 := by rw [hL]; unfold redL; simp; omega
      have hkc : (k : Int) < (b.length : Int) := by omega
      have HO := Lib.hid hO
      have HB := Lib.hid hB
      have HST := Lib.hid hst
      have HBS := Lib.hid hB.size
      clear hO hB hL hst h hi hxi
      go_wp2_with fail
      refine Calls.mono (c1 _).out ?_
      rintro e w3 ⟨rfl, rfl⟩
      go_wp2_with (at_builtin; refine wpList_append_own _ rfl _ _ 23 rfl w.heap.size 3 i0 (.int .i64 0) 1 8 Tryd.underlying23 hi0 hz0 hz1 hz2 rfl (by decide) _ _ _ rfl (HO.out.alloc _) ⟨wr.heap.size, 0, none⟩ 1 1 [.int .i64 r] rfl rfl (news_one wr r) ?c2 ?c3 ?c4 ?c5 ?_)
      case c2 => intro u hu; simp at hu; subst hu; rfl
      case c3 => unfold maxLen; omega
      case c4 => omega
      case c5 => have := HBS.out; simp; omega
      intro v' w' hown hgr _
      have HN := Lib.hid (own_more HO.out HB.out hown hgr)
      clear hown hgr HO HB
      go_wp2
      go_roundw
      case rel => exact ⟨k + 1, L ++ [r], by omega, by go_num, HST.out.symm, HN.out.1, HN.out.2⟩
      case measure => simp [intOf]; omega
    · obtain rfl : k = b.length := by omega
      rw [List.take_length] at hL
      subst hL
      have HO := Lib.hid hO
      have HB := Lib.hid hB
      clear hO hB
      go_wp2
      go_ret
      exact ⟨_, rfl, ints_own HO.out, HB.out⟩
set_option maxRecDepth 100000 in
set_option maxHeartbeats 2000000 in
theorem product_calls (q : Int) (rv vv : Value) (xss : List (List Int)) (vs : List Int) (hn : xss.length ≤ 1000) (hr : ∀ r ∈ xss, r.length ≤ 1000) (hv : vs.length ≤ 1000) (hi : ∀ r ∈ xss, ∀ x ∈ r, isInt x) (hvi : ∀ x ∈ vs, isInt x) (w : World) (h : IsRows rv xss w) (hvs : IsInts vv vs w) :
    Calls Tryd.prog 20 #[.int .i64 q, rv, vv] w fun e w' => ∃ v, e = .returned v ∧ IsInts v (prL q xss vs) w' ∧ Below w.heap.size w w' := by
  obtain ⟨a, cap, rfl⟩ := h.len
  obtain ⟨av, capv, rfl⟩ := hvs.len
  go_enter Tryd.func20, Tryd.ntmps20
  go_wp2
  have hO0 := own_lit0 w
  have hB0 : Below w.heap.size w (w.alloc (.cells #[] 3)) := below_one _ _
  obtain ⟨i0, hi0, hz0, hz1, hz2⟩ := info_parts infoInt
  go_loopw [7, 8] (fun v i wr => ∃ (k : Nat) (L : List Int), k ≤ xss.length ∧ i = .int .i64 (k : Int) ∧ L = prL q (xss.take k) vs ∧ wr.ownsRow w.heap.size 3 1 v L.length (zcs L) ∧ Below w.heap.size w wr) (fun _ i _ => xss.length - (intOf i).toNat)
  case atStart => exact ⟨0, [], Nat.zero_le _, rfl, by simp [prL], hO0, hB0⟩
  case round =>
    clear hO0 hB0
    obtain ⟨k, L, hk, rfl, hL, hO, hB⟩ := hrel
    by_cases hlt : k < xss.length
    · have hst := prL_snoc q xss vs k hlt
      have hxi := hi _ (List.getElem_mem hlt)
      have hrl := hr _ (List.getElem_mem hlt)
      have hrows := fun w' (hb : Below w.heap.size w w') => (h.next hb).at k hlt
      generalize xss[k] = row at *
      rw [← hL] at hst
      have hll : L.length ≤ 1000 := by rw [hL]; unfold prL; simp; omega
      have hkc : (k : Int) < (xss.length : Int) := by omega
      have HO := Lib.hid hO
      have HB := Lib.hid hB
      have HST := Lib.hid hst
      have HBS := Lib.hid hB.size
      have HROWS := Lib.hid hrows
      have HV := Lib.hid hvs
      clear hO hB hL hst h hi hrows hvs hr
      go_wp2
      go_loopw [9, 10] (fun sv jv wr' => ∃ j : Nat, j ≤ min row.length vs.length ∧ jv = .int .i64 (j : Int) ∧ sv = .int .i64 (dotK q row vs j) ∧ Drawn wr wr') (fun _ jv _ => min row.length vs.length - (intOf jv).toNat)
      case atStart => exact ⟨0, Nat.zero_le _, rfl, rfl, Drawn.refl _⟩
      case round =>
        obtain ⟨j, hj, rfl, rfl, hD⟩ := hrel
        have hbw : Below w.heap.size w wr := HB.out.trans (hD.below.mono HBS.out)
        obtain ⟨bk, off, b, cp, rfl, _, z0, hi2⟩ := HROWS.out wr hbw
        by_cases hjl : j < min row.length vs.length
        · have hj1 : j < row.length := by omega
          have hj2 : j < vs.length := by omega
          obtain ⟨b1, o1, rfl, _, z1⟩ := hi2.at j hj1
          obtain ⟨b2, o2, rfl, _, z2⟩ := (HV.out.next hbw).at j hj2
          have hxj := hxi _ (List.getElem_mem hj1)
          have hyj := hvi _ (List.getElem_mem hj2)
          have hdk : dotK q row vs (j + 1) = addZ q (dotK q row vs j) (mulZ q row[j] vs[j]) := by
            rw [dotK]; simp [List.getD_eq_getElem?_getD, hj1, hj2]
          have hd0 := dotK_int q row vs j
          generalize row[j] = x at *
          generalize vs[j] = y at *
          generalize dotK q row vs j = S at *
          have q1 := fun n => Lib.hid (quiet_ret rfl (mul_calls q x y hxj hyj (wr.drewN n)))
          have hmi := mulZ_int q x y
          generalize mulZ q x y = M at *
          have q2 := fun n => Lib.hid (quiet_same rfl (add_calls q S M hd0 hmi (wr.drewN n)))
          generalize addZ q S M = V at *
          have HDK := Lib.hid hdk
          have HD := Lib.hid hD
          have hj3 : (j : Int) < (row.length : Int) := by omega
          have hj4 : (j : Int) < (vs.length : Int) := by omega
          clear hD hbw hi2 hdk hxi hvi hxj hyj hd0 hmi
          go_wp2
          go_quiet ((first
            | (go_at_call 39; exact (q1 _).out)
            | (go_at_call 22; exact (q2 _).out)))
          go_wp2
          go_roundw
          case rel => exact ⟨j + 1, by omega, by go_num, congrArg (Value.int .i64) HDK.out.symm, HD.out.more _⟩
          case measure => simp [intOf]; omega
        · have hje : j = min row.length vs.length := by omega
          have hdf : dotK q row vs j = dotF q row vs := by rw [hje]; rfl
          rw [hdf]
          have HDI := Lib.hid (dotK_int q row vs j)
          rw [hdf] at HDI
          generalize dotF q row vs = r at *
          have hO2 : wr.ownsRow w.heap.size 3 1 _ L.length (zcs L) := own_keep HO.out fun g _ => by obtain ⟨m, rfl⟩ := hD; rfl
          have HO2 := Lib.hid hO2
          have HBW := Lib.hid hbw
          have HBS2 := Lib.hid hbw.size
          have hcase : ¬ ((j : Int) < (row.length : Int)) ∨ ((j : Int) < (row.length : Int) ∧ ¬ (j : Int) < (vs.length : Int)) := by omega
          clear hD hbw hi2 hdf hxi hvi hO2 hje hjl hj HO HB HBS
          rcases hcase with hc | ⟨hc, hc2⟩
          all_goals
            go_wp2_with (at_builtin; refine wpList_append_own _ rfl _ _ 23 rfl w.heap.size 3 i0 (.int .i64 0) 1 8 Tryd.underlying23 hi0 hz0 hz1 hz2 rfl (by decide) _ _ _ rfl (HO2.out.alloc _) ⟨wr.heap.size, 0, none⟩ 1 1 [.int .i64 r] rfl rfl (news_one wr r) (by intro u hu; simp at hu; subst hu; rfl) (by unfold maxLen; omega) (by omega) (by have := HBS2.out; simp; omega) ?_)
            intro v' w' hown hgr _
            have HN := Lib.hid (own_more HO2.out HBW.out hown hgr)
            clear hown hgr HO2 HBW
            go_wp2
            go_roundw
            case rel => exact ⟨k + 1, L ++ [r], by omega, by go_num, HST.out.symm, HN.out.1, HN.out.2⟩
            case measure => simp [intOf]; omega
    · obtain rfl : k = xss.length := by omega
      rw [List.take_length] at hL
      subst hL
      have HO := Lib.hid hO
      have HB := Lib.hid hB
      clear hO hB h hvs
      go_wp2
      go_ret
      exact ⟨_, rfl, ints_own HO.out, HB.out⟩
end Go.Proofs.YtdeeoigcpihidaaDoor
