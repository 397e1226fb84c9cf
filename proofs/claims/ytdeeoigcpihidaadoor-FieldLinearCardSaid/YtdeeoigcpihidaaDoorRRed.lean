/- The reference's reduced row echelon form. -/
import Derived.Test.YtdeeoigcpihidaaDoorRRes
import Derived.Test.YtdeeoigcpihidaaDoorReduce
namespace Go.Proofs.YtdeeoigcpihidaaDoor
open Go.RowKit

/-- What a round keeps. -/
structure RS (W : World) (B H n C : Nat) (M : Nat → Nat → Int) (pv : Value) (piv : List Nat) (w : World) : Prop where
  mat : RMat H n C M w
  own : w.ownsRow W.heap.size 3 1 pv piv.length (ics piv)
  bel : Below B W w
  hlt : B ≤ H ∧ H < W.heap.size
  sep : ∀ i, i < n → ∀ v, w.cell? ⟨H, i, none⟩ = some v → ∀ g, pv.ownBlock = some g → v.ownBlock ≠ some g
section
variable {W : World} {B H n C : Nat} {M M' : Nat → Nat → Int} {pv : Value} {piv : List Nat} {w w' : World}
theorem RS.le (h : RS W B H n C M pv piv w) : W.heap.size ≤ w.heap.size := h.bel.size
theorem RS.next (h : RS W B H n C M pv piv w) (hb : Below w.heap.size w w') : RS W B H n C M pv piv w' :=
  ⟨h.mat.next hb, own_keep h.own hb.block, h.bel.trans (hb.mono (by have := h.le; have := h.hlt; omega)), h.hlt, fun i hi v hv => h.sep i hi v (by rw [hb.cell (p := ⟨H, i, none⟩) h.mat.hlt] at hv; exact hv)⟩
theorem RS.set (h : RS W B H n C M pv piv w) {f : Nat → Int} {v : Value} (k : Nat) (hk : k < n) (hv : RowS H C f v w) (hsv : ∀ g, pv.ownBlock = some g → v.ownBlock ≠ some g) : RS W B H n C (fun i => if i = k then f else M i) pv piv (w.setCell ⟨H, k, none⟩ v) :=
  ⟨h.mat.set k hk hv, own_upd h.own ((Upd.refl H w).setCell k v) h.hlt.2, h.bel.setCell (p := ⟨H, k, none⟩) h.hlt.1 v, h.hlt, fun i hi u hu => by
    by_cases e : i = k
    · subst e
      obtain ⟨u0, h1, _⟩ := h.mat.row i hi
      rw [World.cell?_setCell_same _ _ _ h1] at hu
      obtain rfl := Option.some.inj hu
      exact hsv
    · have hne : (⟨H, k, none⟩ : Addr) ≠ ⟨H, i, none⟩ := fun e2 => e (congrArg Addr.off e2).symm
      rw [World.cell?_setCell_other _ _ _ _ hne] at hu
      exact h.sep i hi u hu⟩
theorem RS.congr (h : RS W B H n C M pv piv w) (e : ∀ i, i < n → ∀ j, j < C → M i j = M' i j) : RS W B H n C M' pv piv w := ⟨h.mat.congr e, h.own, h.bel, h.hlt, h.sep⟩
/-- A value made later lies apart. -/
theorem RS.apart (h : RS W B H n C M pv piv w) {v : Value} {T : Nat} (hT : w.heap.size ≤ T) (hv : ∀ g, v.ownBlock = some g → T ≤ g) : ∀ g, pv.ownBlock = some g → v.ownBlock ≠ some g := fun g hg e => by
  have h1 := h.own.lt g hg
  have h2 := hv g e
  omega
theorem RS.grown {pv' : Value} {piv' : List Nat} (h : RS W B H n C M pv piv w) (hg : w.grownBy w' pv.ownBlock) (ho : w'.ownsRow W.heap.size 3 1 pv' piv'.length (ics piv')) (hgo : ∀ g, pv'.ownBlock = some g → pv.ownBlock = some g ∨ w.heap.size ≤ g) : RS W B H n C M pv' piv' w' := by
  have hH : w'.heap[H]? = w.heap[H]? := hg.block H h.mat.hlt fun e => by have := (h.own.lt H e.symm).1; have := h.hlt; omega
  have hc : ∀ i, w'.cell? ⟨H, i, none⟩ = w.cell? ⟨H, i, none⟩ := fun i => World.cell?_of_block (a := ⟨H, i, none⟩) hH
  have hbl : ∀ i, i < n → ∀ v, w.cell? ⟨H, i, none⟩ = some v → ∀ b, v.ownBlock = some b → some b ≠ pv.ownBlock := fun i hi v hv b hb e => h.sep i hi v hv b e.symm hb
  refine ⟨⟨Nat.lt_of_lt_of_le h.mat.hlt hg.size, fun i => by rw [World.frozen?_of_block (a := ⟨H, i, none⟩) hH]; exact h.mat.hfz i, fun i hi => ?_⟩, ho, ?_, h.hlt, fun i hi v hv g hg2 e => ?_⟩
  · obtain ⟨v, h1, b, off, cap, rfl, h3, h4, h5⟩ := h.mat.row i hi
    refine ⟨_, by rw [hc]; exact h1, b, off, cap, rfl, h3, Nat.lt_of_lt_of_le h4 hg.size, fun j hj => ?_⟩
    rw [World.cell?_of_block (a := ⟨b, off + j, none⟩) (hg.block b h4 (hbl i hi _ h1 b rfl))]
    exact h5 j hj
  · refine h.bel.trans ⟨hg.os, hg.tape, hg.output, hg.size, fun k hk => hg.block k (by have := h.le; have := h.hlt; omega) fun e => by have := (h.own.lt k e.symm).1; have := h.hlt; omega⟩
  · rw [hc] at hv
    obtain ⟨v', h1, b, off, cap, rfl, _, h4, _⟩ := h.mat.row i hi
    obtain rfl := Option.some.inj (h1.symm.trans hv)
    obtain rfl : b = g := Option.some.inj e
    rcases hgo b hg2 with h6 | h6
    · exact h.sep i hi _ hv b h6 rfl
    · omega
end
theorem RowS.set {H c : Nat} {f : Nat → Int} {v : Value} {w : World} (h : RowS H c f v w) (k : Nat) (u : Value) : RowS H c f v (w.setCell ⟨H, k, none⟩ u) :=
  h.keep (fun b _ hne => Below.heap_setCell w ⟨H, k, none⟩ u b hne) (by simp [World.setCell])
theorem firstF_from (p : Nat → Bool) (r : Nat) : ∀ m s, firstF p m (r + s) = (firstF (fun t => p (r + t)) m s).map (r + ·)
  | 0, _ => rfl
  | m + 1, s => by
    rw [firstF, firstF]
    split
    · rfl
    · rw [show r + s + 1 = r + (s + 1) by omega, firstF_from p r m (s + 1)]
def atI (r : Nat) : Option Nat → Int
  | none => -1
  | some i => ((r + i : Nat) : Int)
theorem optI_map (r : Nat) (X : Option Nat) : optI (X.map (r + ·)) = atI r X := by cases X <;> rfl
theorem inv_is {q a : Int} (hq : isMod q) : ∃ B, InvV q a = .tuple #[.int .i64 (powZ q a (-1)), .bool B] := by
  unfold InvV powZ
  rw [if_pos hq, if_pos hq, if_neg (by omega)]
  cases h : invZ q a with
  | none => exact ⟨false, rfl⟩
  | some y =>
    refine ⟨true, ?_⟩
    have h1 := (invZ_some h).1
    show Value.tuple #[.int .i64 (y : Int), .bool true] = .tuple #[.int .i64 ((y : Int) ^ 1 % q), .bool true]
    rw [Int.pow_one, Int.emod_eq_of_lt (by omega) h1]
/-- The matrix behind the two stores. -/
theorem scale_swap (q : Int) (r s j : Nat) (M : Nat → Nat → Int) (i c : Nat) : (if i = r then (fun c => mulZ q (M s c) (powZ q (M s j) (-1))) else (if i = s then M r else M i)) c = scaleF q r j (swapF r s M) i c := by
  unfold scaleF swapF
  by_cases e : i = r
  · subst e; simp
  · rw [if_neg e, if_neg e, if_neg e]
set_option maxRecDepth 100000 in
set_option maxHeartbeats 4000000 in
theorem rreduced_calls (q : Int) (hq : isMod q) (B H n C cols cap : Nat) (hn : n ≤ 1000) (hC : 1 ≤ C ∧ C ≤ 1000) (hcols : cols ≤ C) (hBH : B ≤ H) (M : Nat → Nat → Int) (hM : allR q n C M) (w : World) (hm : RMat H n C M w) (hBw : B ≤ w.heap.size) :
    Calls Tryd.prog 35 #[.int .i64 q, .slice (some ⟨H, 0, none⟩) n cap, .int .i64 (cols : Int)] w fun e w' => ∃ pv, e = .returned (.tuple #[.slice (some ⟨H, 0, none⟩) n cap, pv]) ∧ RS w B H n C (redF q n cols 0 [] M).2 pv (redF q n cols 0 [] M).1 w' ∧ (redF q n cols 0 [] M).1.length ≤ n := by
  obtain ⟨F, hF⟩ : ∃ F, F = redF q n cols 0 [] M := ⟨_, rfl⟩
  rw [← hF]
  have HF : Nat → redF q n (cols - 0) 0 [] M = F := fun _ => hF.symm
  have hmH := hm.hlt
  have c1 := fun a (ha : isInt a) w => Lib.hid (rinv_calls q a ha w)
  have c2 := fun a b (ha : isInt a) (hb : isInt b) w => Lib.hid (rmul_calls q a b ha hb w)
  clear hF
  go_enter Tryd.func35, Tryd.ntmps35
  go_wp2
  have hO0 : (w.alloc (.cells #[] 3)).ownsRow w.heap.size 3 1 (.slice (some ⟨w.heap.size, 0, none⟩) 0 0) 0 (ics []) := World.ownsRow_lit (base := w.heap.size) w #[] 0 (Nat.le_refl _) (by unfold maxLen; omega) (by rfl)
  have hS0 : RS w B H n C M (.slice (some ⟨w.heap.size, 0, none⟩) 0 0) [] (w.alloc (.cells #[] 3)) := ⟨hm.next (below_one _ _), hO0, (below_one _ _).mono hBw, ⟨hBH, hmH⟩, fun i hi v hv g hg e => by
    rw [(below_one w _).cell (p := ⟨H, i, none⟩) hmH] at hv
    obtain ⟨v', h1, b, off, cap, rfl, _, h4, _⟩ := hm.row i hi
    obtain rfl := Option.some.inj (h1.symm.trans hv)
    obtain rfl : b = g := Option.some.inj e
    obtain rfl : w.heap.size = b := Option.some.inj hg
    exact Nat.lt_irrefl _ h4⟩
  obtain ⟨i0, hi0, hz0, hz1, hz2⟩ := info_parts infoInt
  clear hO0 hm
  go_loopw [8, 9] (fun v jv wr => ∃ (j : Nat) (piv : List Nat) (M : Nat → Nat → Int), j ≤ cols ∧ jv = .int .i64 (j : Int) ∧ allR q n C M ∧ RS w B H n C M v piv wr ∧ (Nat → redF q n (cols - j) j piv M = F) ∧ piv.length ≤ n ∧ piv.length ≤ j) (fun _ jv _ => cols - (intOf jv).toNat)
  case atStart => exact ⟨0, [], M, Nat.zero_le _, rfl, hM, hS0, HF, Nat.zero_le _, Nat.zero_le _⟩
  case round =>
    clear hS0 HF hM
    obtain ⟨j, piv, M, hj, rfl, hM, hS, HF, hpn, hpj⟩ := hrel
    by_cases hlt : j < cols
    · obtain ⟨ap, cpp, rfl⟩ := own_len hS.own
      obtain ⟨r, hr⟩ : ∃ r, r = piv.length := ⟨_, rfl⟩
      rw [← hr]
      rw [← hr] at hpn hpj
      have hnext : ∀ X, firstF (fun i => M (r + i) j != 0) (n - r) 0 = X → Hid ((X = none → redF q n (cols - (j + 1)) (j + 1) piv M = F) ∧ (∀ i, X = some i → redF q n (cols - (j + 1)) (j + 1) (piv ++ [j]) (stepM q n r j i M) = F)) := fun X hX => by
        show _ ∧ _
        have h0 := HF 0
        rw [show cols - j = (cols - (j + 1)) + 1 by omega] at h0
        rw [hr] at hX ⊢
        refine ⟨fun h => ?_, fun i h => ?_⟩
        · rw [← h0, redF_none (hX.trans h)]
        · rw [← h0, redF_some (hX.trans h)]
      have HS := Lib.hid hS
      have HMr := Lib.hid hM
      have HR := Lib.hid hr
      have HNX := Lib.hid hnext
      have hA0 : Value.int .i64 (-1) = .int .i64 (optI (firstF (fun t => M t j != 0) (n - n) n)) := by rw [Nat.sub_self]; rfl
      have HA0 := Lib.hid hA0
      clear hr hnext hS hM HF hA0
      go_wp2
      go_loopw [11, 12] (fun av iv wr' => ∃ i : Nat, r ≤ i ∧ i ≤ n ∧ iv = .int .i64 ((i : Int) - 1) ∧ av = .int .i64 (optI (firstF (fun t => M t j != 0) (n - i) i)) ∧ wr' = wr) (fun _ iv _ => (intOf iv + 1).toNat)
      case atStart => exact ⟨n, hpn, Nat.le_refl _, rfl, HA0.out, rfl⟩
      case round =>
        clear HA0
        obtain ⟨i, hri, hin, rfl, rfl, rfl⟩ := hrel
        by_cases hil : r < i
        · obtain ⟨t, rfl⟩ : ∃ t, i = t + 1 := ⟨i - 1, by omega⟩
          obtain ⟨vt, z0, bt, ot, ct, rfl, _, _, hcells⟩ := HS.out.mat.row t (by omega)
          have z1 := hcells j (by omega)
          have hst : firstF (fun t => M t j != 0) (n - t) t = if (M t j != 0) = true then some t else firstF (fun t => M t j != 0) (n - (t + 1)) (t + 1) := by
            rw [show n - t = (n - (t + 1)) + 1 by omega, firstF]
          have hit : (((t + 1 : Nat) : Int) - 1) = (t : Int) := by omega
          have h1 : (r : Int) ≤ (t : Int) := by omega
          have h2 : (t : Int) < (n : Int) := by omega
          have h3 : (j : Int) < (C : Int) := by omega
          rw [hit]
          generalize firstF (fun t => M t j != 0) (n - (t + 1)) (t + 1) = Y at *
          generalize hX : M t j = X at *
          have HX := Lib.hid hX
          clear hX hcells hit
          cases hb : X != 0 with
          | true =>
            rw [hb, if_pos rfl] at hst
            have HST := Lib.hid hst
            clear hst
            go_wp2
            go_roundw
            case rel => exact ⟨t, by omega, by omega, rfl, by rw [HST.out]; rfl, by trivial⟩
            case measure => simp [intOf]
          | false =>
            rw [hb, if_neg (by simp)] at hst
            have HST := Lib.hid hst
            clear hst
            go_wp2
            go_roundw
            case rel => exact ⟨t, by omega, by omega, rfl, by rw [HST.out], by trivial⟩
            case measure => simp [intOf]
        · obtain rfl : i = r := by omega
          have hfr := firstF_from (fun t => M t j != 0) i (n - i) 0
          rw [Nat.add_zero] at hfr
          rw [hfr]
          obtain ⟨X, hX⟩ : ∃ X, X = firstF (fun t => M (i + t) j != 0) (n - i) 0 := ⟨_, rfl⟩
          have hnx := HNX.out X hX.symm
          rw [← hX, optI_map]
          have HXX := Lib.hid hX
          clear hfr HNX hX
          cases X with
          | none =>
            have HN := Lib.hid (hnx.out.1 rfl)
            rw [show atI i none = -1 from rfl]
            clear hnx
            go_wp2
            go_roundw
            case rel => exact ⟨j + 1, piv, M, by omega, by go_num, HMr.out, by rw [HR.out]; exact HS.out, fun _ => HN.out, by rw [← HR.out]; exact hin, by rw [← HR.out]; omega⟩
            case measure => simp [intOf]; omega
          | some t =>
            have HN := Lib.hid (hnx.out.2 t rfl)
            obtain ⟨_, ht, _, _⟩ := firstF_some _ _ _ HXX.out.symm
            obtain ⟨s, hs⟩ : ∃ s, s = i + t := ⟨_, rfl⟩
            rw [show atI i (some t) = (s : Int) by rw [hs]; rfl]
            have hsn : s < n := by omega
            have hin2 : i < n := by omega
            have hstep : Hid (stepM q n i j t M = clearF q i j n (scaleF q i j (swapF i s M))) := by
              show _ = _
              rw [hs]; rfl
            clear hnx HXX hs ht
            obtain ⟨vs, y1, hvs⟩ := HS.out.mat.row s hsn
            obtain ⟨vr, y2, hvr⟩ := HS.out.mat.row i hin2
            obtain ⟨br, orr, crr, hvre, _⟩ := id hvr
            subst hvre
            have y3 := HS.out.mat.hfz s
            have hset := HS.out.set s hsn hvr (HS.out.sep i hin2 _ y2)
            have hvs2 := hvs.set s (.slice (some ⟨br, orr, none⟩) C crr)
            obtain ⟨bs, os, cs, rfl, hbs1, _, hcells⟩ := id hvs2
            have hjC : j < C := by omega
            have z1 := hcells j hjC
            have hai := (HMr.out s hsn j hjC).int hq
            have d1 := fun w => (c1 (M s j) hai w).out
            obtain ⟨BB, hinv⟩ := inv_is (q := q) (a := M s j) hq
            rw [hinv] at d1
            obtain ⟨u, hu⟩ : ∃ u, u = powZ q (M s j) (-1) := ⟨_, rfl⟩
            have hui : isInt u := by rw [hu]; exact powZ_int _ _ _
            rw [← hu] at d1
            have HSET := Lib.hid hset
            have HVS := Lib.hid hvs2
            have HU := Lib.hid hu
            obtain ⟨a0, ha0⟩ : ∃ a0, a0 = M s j := ⟨_, rfl⟩
            rw [← ha0] at z1 d1
            have D1 := fun w => Lib.hid (d1 w)
            have hs0 : ¬ (s : Int) < 0 := by omega
            have hs1 : (s : Int) < (n : Int) := by omega
            have hi1 : (i : Int) < (n : Int) := by omega
            have hj1 : (j : Int) < (C : Int) := by omega
            clear ha0 hset hvs2 hu d1 hinv hcells hvs hvr hai
            go_wp2_with fail
            refine Calls.mono (D1 _).out ?_
            rintro e w2 ⟨rfl, m, rfl⟩
            clear D1 c1
            obtain ⟨W2, hW2⟩ : ∃ W2, W2 = (wr.setCell ⟨H, s, none⟩ (.slice (some ⟨br, orr, none⟩) C crr)).drewN m := ⟨_, rfl⟩
            have HS2 : Hid (RS w B H n C (fun k => if k = s then M i else M k) (.slice ap piv.length cpp) piv W2) := by
              rw [hW2]; exact HSET.out.next (below_drewN (Below.refl _ _) m)
            have HVS2 : Hid (RowS H C (M s) (.slice (some ⟨bs, os, none⟩) C cs) W2) := by
              rw [hW2]; exact HVS.out.next (below_drewN (Below.refl _ _) m)
            rw [← hW2]
            clear hW2 HSET HVS y1 y2 y3 z1
            have hl0 := own_lit0 W2
            have hlb : Below W2.heap.size W2 (W2.alloc (.cells #[] 3)) := below_one _ _
            go_wp2
            go_loopw [16, 17] (fun rv nv wr' => ∃ (k : Nat) (L : List Int), k ≤ C ∧ nv = .int .i64 (k : Int) ∧ L = (List.range k).map (fun c => mulZ q (M s c) u) ∧ wr'.ownsRow W2.heap.size 3 1 rv L.length (zcs L) ∧ Below W2.heap.size W2 wr') (fun _ nv _ => C - (intOf nv).toNat)
            case atStart => exact ⟨0, [], Nat.zero_le _, rfl, rfl, hl0, hlb⟩
            case round =>
              clear hl0 hlb
              obtain ⟨k, L, hk, rfl, hL, hO, hB⟩ := hrel
              by_cases hkl : k < C
              · obtain ⟨b1, o1, c1', e1, _, _, hc1⟩ := HVS2.out.next hB
                simp only [Value.slice.injEq, Option.some.injEq, Addr.mk.injEq, true_and, and_true] at e1
                obtain ⟨⟨rfl, rfl⟩, rfl⟩ := e1
                have z1 := hc1 k hkl
                have hst := range_snoc (fun c => mulZ q (M s c) u) k
                rw [← hL] at hst
                have hmi := (HMr.out s hsn k hkl).int hq
                generalize M s k = x at *
                have d2 := c2 x u hmi hui
                obtain ⟨y, hy⟩ : ∃ y, y = mulZ q x u := ⟨_, rfl⟩
                rw [← hy] at d2 hst
                have hll : L.length ≤ 1000 := by rw [hL]; simp; omega
                have HO := Lib.hid hO
                have HB := Lib.hid hB
                have HST := Lib.hid hst
                have HBS := Lib.hid hB.size
                have hkc : (k : Int) < (C : Int) := by omega
                clear hO hB hL hst hy hc1 hmi c2
                go_wp2_with fail
                refine Calls.mono (d2 _).out ?_
                rintro e w3 ⟨rfl, n1, rfl⟩
                go_wp2_with (at_builtin; refine wpList_append_own _ rfl _ _ 23 rfl W2.heap.size 3 i0 (.int .i64 0) 1 8 Tryd.underlying23 hi0 hz0 hz1 hz2 rfl (by decide) _ _ _ rfl (own_keep HO.out (fun b hb => Below.heap_alloc wr _ b hb)) ⟨wr.heap.size, 0, none⟩ 1 1 [.int .i64 y] rfl rfl (news_one wr y) (by intro u hu; simp at hu; subst hu; rfl) (by unfold maxLen; omega) (by omega) (by have := HBS.out; simp; omega) ?_)
                intro v' w' hown hgr _
                have HNN := Lib.hid (by refine own_more ?_ ?_ hown hgr; (exact (own_keep HO.out fun _ _ => rfl)); (exact below_drewN HB.out _) : _ ∧ _)
                clear hown hgr HO HB
                go_wp2
                go_roundw
                case rel => exact ⟨k + 1, L ++ [y], by omega, by go_num, HST.out.symm, HNN.out.1, HNN.out.2⟩
                case measure => simp [intOf]; omega
              · obtain rfl : k = C := by omega
                have hLC : L.length = k := by rw [hL]; simp
                have hints := ints_own hO
                have hfr := fresh_of hO
                rw [hL] at hints
                obtain ⟨ra, rc, rfl⟩ := own_len hO
                rw [hLC]
                rw [hLC] at hints hfr
                have hS3 := HS2.out.next hB
                have hH2 : H < W2.heap.size := HS2.out.mat.hlt
                have hRow : RowS H k (fun c => mulZ q (M s c) u) (.slice ra k rc) wr := RowS.of hints (by simp) hC.1 (fun g hg e => by have := hfr g hg; omega) (fun t ht => by simp)
                obtain ⟨w0v, y1, _⟩ := hS3.mat.row i hin2
                have y2 := hS3.mat.hfz i
                have hS4 := hS3.set i hin2 hRow (HS2.out.apart (Nat.le_refl _) hfr)
                have hS5 : RS w B H n k (scaleF q i j (swapF i s M)) (.slice ap piv.length cpp) piv (wr.setCell ⟨H, i, none⟩ (.slice ra k rc)) := hS4.congr fun x _ c _ => by rw [HU.out]; exact scale_swap q i s j M x c
                have hM2 : allR q n k (scaleF q i j (swapF i s M)) := (HMr.out.swap i s hin2 hsn).scale hq i j
                have hRow2 : RowS H k (scaleF q i j (swapF i s M) i) (.slice ra k rc) (wr.setCell ⟨H, i, none⟩ (.slice ra k rc)) := by
                  have h1 := hRow.set i (.slice ra k rc)
                  obtain ⟨b1, o1, c1, e1, e2, e3, e4⟩ := h1
                  refine ⟨b1, o1, c1, e1, e2, e3, fun t ht => ?_⟩
                  rw [e4 t ht, HU.out, ← scale_swap q i s j M i t, if_pos rfl]
                have HS5 := Lib.hid hS5
                have HR2 := Lib.hid hRow2
                have HM2 := Lib.hid hM2
                clear hL hLC hints hfr hS3 hRow hS4 hS5 hM2 hRow2 hO hB HS2 HVS2 c2
                go_wp2
                generalize (World.setCell wr ⟨H, i, none⟩ (.slice ra k rc)) = W3 at *
                generalize scaleF q i j (swapF i s M) = M2 at *
                clear y1 y2
                have hc0 : RS w B H n k (clearF q i j 0 M2) (.slice ap piv.length cpp) piv W3 := by rw [clearF_zero]; exact HS5.out
                go_loopw [18] (fun xv wr' => ∃ x : Nat, x ≤ n ∧ xv = .int .i64 (x : Int) ∧ RS w B H n k (clearF q i j x M2) (.slice ap piv.length cpp) piv wr' ∧ RowS H k (M2 i) (.slice ra k rc) wr') (fun xv _ => n - (intOf xv).toNat)
                case atStart => exact ⟨0, Nat.zero_le _, rfl, hc0, HR2.out⟩
                case round =>
                  clear hc0
                  obtain ⟨x, hx, rfl, hS6, hR6⟩ := hrel
                  by_cases hxl : x < n
                  · have hx1 : (x : Int) < (n : Int) := by omega
                    by_cases hxi : x = i
                    · subst hxi
                      have hne : ((x : Int) != (x : Int)) = false := by simp
                      have HS6 : Hid (RS w B H n k (clearF q x j (x + 1) M2) (.slice ap piv.length cpp) piv wr) := by
                        show RS _ _ _ _ _ _ _ _ _
                        rw [clearF_skip]; exact hS6
                      have HR6 := Lib.hid hR6
                      clear hS6 hR6
                      go_wp2
                      go_roundw
                      case rel => exact ⟨x + 1, by omega, by go_num, HS6.out, HR6.out⟩
                      case measure => simp [intOf]; omega
                    · have hne : ((x : Int) != (i : Int)) = true := bne_iff_ne.2 (by omega)
                      have hne2 : ¬ (x : Int) = (i : Int) := by omega
                      obtain ⟨vx, z0, hvx⟩ := hS6.mat.row x hxl
                      have hMx := HM2.out.clear hq i j x
                      have hnx : Hid (clearF q i j (x + 1) M2 = fun y => if y = x then (fun c => lessZ q (clearF q i j x M2 x c) (clearF q i j x M2 i c) (clearF q i j x M2 x j)) else clearF q i j x M2 y) := clearF_next q i j x M2 hxi
                      have hci : clearF q i j x M2 i = M2 i := by unfold clearF; rw [if_pos (.inl rfl)]
                      have hfx : clearF q i j x M2 x = M2 x := by unfold clearF; rw [if_pos (.inr (Nat.le_refl _))]
                      rw [hfx] at hvx
                      obtain ⟨bx, ox, cx, rfl, hbx, _, hxc⟩ := id hvx
                      have z1 := hxc j (by omega)
                      have hjk : j < k := by omega
                      have z2 : ∀ m, (wr.drewN m).frozen? ⟨H, x, none⟩ = false := fun m => hS6.mat.hfz x
                      have z3 := z2 1
                      have hxin : ∀ y, isInt (if y < k then M2 x y else 0) := fun y => by
                        by_cases e : y < k
                        · rw [if_pos e]; exact (HM2.out x hxl y e).int hq
                        · rw [if_neg e]; unfold isInt; omega
                      have hiin : ∀ y, isInt (if y < k then M2 i y else 0) := fun y => by
                        by_cases e : y < k
                        · rw [if_pos e]; exact (HM2.out i hin2 y e).int hq
                        · rw [if_neg e]; unfold isInt; omega
                      have hrg : ∀ f : Nat → Int, (List.range k).map (fun y => if y < k then f y else 0) = (List.range k).map f := fun f => List.map_congr_left fun y hy => by rw [if_pos (List.mem_range.1 hy)]
                      have d1 := fun m => less_calls q (M2 x j) ((HM2.out x hxl j hjk).int hq) (.slice (some ⟨bx, ox, none⟩) k cx) (.slice ra k rc) k hC.2 _ _ hxin hiin (wr.drewN m) (by rw [hrg]; exact (hvx.next (below_drewN (Below.refl _ _) m)).ints) (by rw [hrg]; exact (hR6.next (below_drewN (Below.refl _ _) m)).ints)
                      have hlg : (List.range k).map (lessG q (M2 x j) (fun y => if y < k then M2 x y else 0) (fun y => if y < k then M2 i y else 0)) = (List.range k).map (fun c => lessZ q (M2 x c) (M2 i c) (M2 x j)) := List.map_congr_left fun y hy => by
                        rw [lessG_is hq, if_pos (List.mem_range.1 hy), if_pos (List.mem_range.1 hy)]
                      rw [hlg] at d1
                      rw [hci, hfx] at hnx
                      have D1 := fun m => Lib.hid (d1 m)
                      have HS6 := Lib.hid hS6
                      have HR6 := Lib.hid hR6
                      have HVX := Lib.hid hvx
                      have hjki : (j : Int) < (k : Int) := by omega
                      generalize M2 x j = f at *
                      clear hS6 hR6 hvx hxc d1 hlg hrg hiin hxin hci hfx hMx
                      go_wp2
                      go_region_with (first
                        | (go_at_call 53; have h9 := (D1 1).out; refine Calls.mono h9 ?_; rintro e w3 ⟨v', rfl, hv1, hv2, hv3⟩; obtain ⟨va, vc, hve⟩ := hv1.len; rw [List.length_map, List.length_range] at hve; subst hve; have x1 : w3.frozen? ⟨H, x, none⟩ = false := (hv3.frozen (p := ⟨H, x, none⟩) HS6.out.mat.hlt).trans z3; have x2 := (hv3.cell (p := ⟨H, x, none⟩) HS6.out.mat.hlt).trans z0))
                      all_goals
                        have hb3 : Below wr.heap.size wr w3 := (below_drewN (Below.refl _ _) 1).trans hv3
                        have hS7 := HS6.out.next hb3
                        have hR7 := HR6.out.next hb3
                        have hRv : RowS H k (fun c => lessZ q (M2 x c) (M2 i c) f) _ w3 := RowS.of hv1 (by simp) hC.1 (fun g hg e => by have h1 := hv2 g hg; have h2 := HS6.out.mat.hlt; have h3 : (wr.drewN 1).heap.size = wr.heap.size := rfl; omega) (fun t ht => by simp)
                        have hS8 := Lib.hid (hS7.set x hxl hRv (HS6.out.apart (T := wr.heap.size) (Nat.le_refl _) hv2))
                        have HR7 := Lib.hid hR7
                        clear hb3 hS7 hR7 hv1 hv2 hv3 hRv x1 x2 z0 z1 z2 z3 D1 HVX
                        go_wp2
                        go_roundw
                        case rel => exact ⟨x + 1, by omega, by go_num, by rw [hnx.out]; exact hS8.out, HR7.out.set x _⟩
                        case measure => simp [intOf]; omega
                  · obtain rfl : x = n := by omega
                    have HS6 := Lib.hid hS6
                    have hown := hS6.own
                    rw [← HR.out] at hown
                    have HBS := Lib.hid hS6.le
                    clear hS6 hR6
                    go_wp2_with (at_builtin; refine wpList_append_lies _ rfl _ _ 23 rfl w.heap.size 3 i0 (.int .i64 0) 1 8 Tryd.underlying23 hi0 hz0 hz1 hz2 rfl (by decide) _ _ _ rfl (hown.alloc _) ⟨wr.heap.size, 0, none⟩ 1 1 [.int .i64 (j : Int)] rfl rfl (news_one wr (j : Int)) (by intro u hu; simp at hu; subst hu; rfl) (by omega) (by unfold maxLen; omega) (by omega) (by have := HBS.out; simp; omega) _ rfl ?_)
                    intro g cp' w9 hown9 hgr hgo _
                    have HS9 : Hid (RS w B H x k (clearF q i j x M2) (.slice (some ⟨g, 0, none⟩) (i + 1) cp') (piv ++ [j]) w9) := by
                      have hgr2 : (wr.alloc (.cells #[.int .i64 (j : Int)] 3)).grownBy w9 (Value.slice ap piv.length cpp).ownBlock := by rw [← HR.out]; exact hgr
                      refine (HS6.out.next (below_one wr (.cells #[.int .i64 (j : Int)] 3))).grown hgr2 ?_ (fun g' hg' => ?_)
                      · rw [ics_app, List.length_append, ← HR.out]; exact hown9
                      · obtain rfl : g = g' := Option.some.inj hg'
                        rcases hgo with e | e
                        · exact .inl (by rw [← HR.out]; exact e)
                        · right; simp; omega
                    have HLN : Hid ((piv ++ [j]).length = i + 1) := by show _ = _; rw [List.length_append, ← HR.out]; rfl
                    clear hown9 hgr hgo hown HS6
                    go_wp2
                    go_roundw
                    case rel =>
                      refine ⟨j + 1, piv ++ [j], clearF q i j x M2, by omega, by go_num, HM2.out.clear hq i j x, HS9.out, fun _ => ?_, by rw [HLN.out]; omega, by rw [HLN.out]; omega⟩
                      rw [← hstep.out]; exact HN.out
                    case measure => simp [intOf]; omega
    · obtain rfl : j = cols := by omega
      have HF2 := Lib.hid (HF 0)
      have HS := Lib.hid hS
      clear HF hS c1 c2
      go_wp2
      go_ret2
      have h1 := HF2.out
      rw [Nat.sub_self, redF] at h1
      subst h1
      exact ⟨_, rfl, HS.out, hpn⟩
end Go.Proofs.YtdeeoigcpihidaaDoor
