/- Encode: its parts. -/
import Derived.Test.YthnkfjjgccabeaaGreatDoorSameA
import Derived.Deep.RegionHeld3
import Derived.Deep.AppendLies
import Derived.Deep.Upon
namespace Go.Proofs.YthnkfjjgccabeaaGreatDoor
open Go.RowKit

theorem nums_two (w : World) (x y : Int) : IsNums (.slice (some ⟨w.heap.size, 0, none⟩) 2 2) [x, y] (w.alloc (.cells #[.int .i64 x, .int .i64 y] 3)) := nums_blk (Blk.new w 3 #[.int .i64 x, .int .i64 y])
/-! ### the numbers of a proof -/
def shapeB : List (List Int) → List (List (List Int)) → Bool
  | [], [] => true
  | d :: ds, a :: l => decide (d.length = a.length) && shapeB ds l
  | _, _ => false
def encD : List Int → List (List Int) → List Int
  | d :: ds, a :: l => d :: (a.length : Int) :: (a ++ encD ds l)
  | _, _ => []
def encP : List (List Int) → List (List (List Int)) → List Int
  | ds :: dss, l :: ls => (ds.length : Int) :: (encD ds l ++ encP dss ls)
  | _, _ => []
def ProofD.encF (p : ProofD) : List Int := (p.dares.length : Int) :: encP p.dares p.answers
def ProofD.shape (p : ProofD) : Bool := shapeB p.dares p.answers
theorem shapeB_drop (a : List (List Int)) (b : List (List (List Int))) (k : Nat) (h1 : k < a.length) (h2 : k < b.length) :
    shapeB (a.drop k) (b.drop k) = (decide (a[k].length = b[k].length) && shapeB (a.drop (k + 1)) (b.drop (k + 1))) := by
  rw [List.drop_eq_getElem_cons h1, List.drop_eq_getElem_cons h2]; rfl
theorem shapeB_len : ∀ (a : List (List Int)) (b : List (List (List Int))), shapeB a b = true → a.length = b.length
  | [], [], _ => rfl
  | _ :: a, _ :: b, h => by
    simp only [shapeB, Bool.and_eq_true] at h
    simp [shapeB_len a b h.2]
theorem shapeB_at : ∀ (a : List (List Int)) (b : List (List (List Int))) (k : Nat) (h1 : k < a.length) (h2 : k < b.length), shapeB a b = true → a[k].length = b[k].length
  | _ :: _, _ :: _, 0, _, _, h => by
    simp only [shapeB, Bool.and_eq_true, decide_eq_true_eq] at h
    exact h.1
  | _ :: a, _ :: b, k + 1, h1, h2, h => by
    simp only [shapeB, Bool.and_eq_true] at h
    exact shapeB_at a b k (by simpa using h1) (by simpa using h2) h.2
theorem encD_drop (a : List Int) (b : List (List Int)) (k : Nat) (h1 : k < a.length) (h2 : k < b.length) :
    encD (a.drop k) (b.drop k) = a[k] :: (b[k].length : Int) :: (b[k] ++ encD (a.drop (k + 1)) (b.drop (k + 1))) := by
  rw [List.drop_eq_getElem_cons h1, List.drop_eq_getElem_cons h2]; rfl
theorem encP_drop (a : List (List Int)) (b : List (List (List Int))) (k : Nat) (h1 : k < a.length) (h2 : k < b.length) :
    encP (a.drop k) (b.drop k) = (a[k].length : Int) :: (encD a[k] b[k] ++ encP (a.drop (k + 1)) (b.drop (k + 1))) := by
  rw [List.drop_eq_getElem_cons h1, List.drop_eq_getElem_cons h2]; rfl

set_option maxHeartbeats 1000000 in
theorem enc1_calls (a b : Option Addr) (n m c d : Nat) (w : World) :
    Calls Tryz.prog 27 #[.slice a n c, .slice b m d] w fun e w' => e = .returned (.bool (decide (n = m))) ∧ w = w' := by
  have HR : Hid (decide (n = m) = ((n : Int) == (m : Int))) := by show _ = _; rw [Bool.eq_iff_iff]; simp; omega
  go_enter Tryz.func27, Tryz.ntmps27
  go_wp2
  go_ret
  exact ⟨ret_b HR.out.symm, rfl⟩

set_option maxRecDepth 100000 in
set_option maxHeartbeats 1000000 in
theorem equalfunc_calls (va vb : Value) (a : List (List Int)) (b : List (List (List Int))) (hla : a.length ≤ 9223372036854775807) (w : World) (ha : IsLists 0 va a w) (hb : IsTables 0 vb b w) :
    Calls Tryz.prog 26 #[va, vb, .func (.func 27) #[] #[]] w fun e w' => e = .returned (.bool (shapeB a b)) ∧ w = w' := by
  obtain ⟨aa, ca, rfl⟩ := ha.len
  obtain ⟨ab, cb, rfl⟩ := hb.len
  by_cases hl : a.length = b.length
  · obtain ⟨n, hn⟩ : ∃ n, n = a.length := ⟨_, rfl⟩
    have hbl : b.length = n := by omega
    obtain ⟨D, hD⟩ : ∃ D, D = shapeB a b := ⟨_, rfl⟩
    have hD0 : Nat → shapeB (a.drop 0) (b.drop 0) = D := fun _ => by rw [List.drop_zero, List.drop_zero]; exact hD.symm
    rw [← hn] at hla
    rw [← hn, hbl, ← hD]
    have HA := Lib.hid ha
    have HB := Lib.hid hb
    have HN := Lib.hid hn
    have HBL := Lib.hid hbl
    have hne : ((n : Int) != (n : Int)) = false := by simp
    clear hl hbl hn hD ha hb
    go_enter Tryz.func26, Tryz.ntmps26
    go_wp2
    go_loopw [17] (fun iv wr => ∃ k : Nat, k ≤ n ∧ iv = .int .i64 (k : Int) ∧ (Nat → shapeB (a.drop k) (b.drop k) = D) ∧ w = wr) (fun iv _ => n - (intOf iv).toNat)
    case atStart => exact ⟨0, Nat.zero_le _, rfl, hD0, rfl⟩
    case round =>
      clear hD0
      obtain ⟨k, hk, rfl, hDk, rfl⟩ := hrel
      by_cases hlt : k < n
      · have h1 : k < a.length := by rw [← HN.out]; exact hlt
        have h2 : k < b.length := by rw [HBL.out]; exact hlt
        obtain ⟨bk, o1, rfl, _, x, hx, u1, z0, g0⟩ := HA.out.at k h1
        obtain ⟨bk', o2, rfl, _, y, hy, u2, z1, g1⟩ := HB.out.at k h2
        have hst : Nat → (decide (x.length = y.length) && shapeB (a.drop (k + 1)) (b.drop (k + 1))) = D := fun _ => by rw [hx, hy, ← shapeB_drop a b k h1 h2]; exact hDk 0
        obtain ⟨a1, c1, rfl⟩ := g0.len
        obtain ⟨a2, c2, rfl⟩ := g1.len
        rw [Nat.mul_one] at z0 z1
        have d1 := Lib.hid (enc1_calls a1 a2 x.length y.length c1 c2 w)
        have hkn : (k : Int) < (n : Int) := by omega
        clear hDk hx hy g0 g1
        go_wp2_with fail
        refine d1.out.mono ?_
        clear d1
        rintro e w2 ⟨rfl, rfl⟩
        by_cases hxy : x.length = y.length
        · have hDk : Nat → shapeB (a.drop (k + 1)) (b.drop (k + 1)) = D := fun _ => by have := hst 0; simpa [hxy] using this
          rw [decide_eq_true hxy]
          clear hst hxy
          go_wp2
          go_roundw
          case rel => exact ⟨k + 1, by omega, by go_num, hDk, trivial⟩
          case measure => simp [intOf]; omega
        · have hDf : Hid (D = false) := by show _ = _; have := hst 0; simpa [hxy] using this.symm
          rw [decide_eq_false hxy]
          clear hst hxy
          go_wp2
          go_ret
          exact ⟨ret_b hDf.out.symm, rfl⟩
      · obtain rfl : k = n := by omega
        have hDt : Hid (D = true) := by
          show _ = _
          rw [← hDk 0, HN.out, List.drop_length, ← HN.out, ← HBL.out, List.drop_length]; rfl
        clear hDk
        go_wp2
        go_ret
        exact ⟨ret_b hDt.out.symm, rfl⟩
  · have HV : Hid (shapeB a b = false) := by
      show _ = _
      cases h : shapeB a b with
      | false => rfl
      | true => exact absurd (shapeB_len a b h) hl
    have hne : ((a.length : Int) != (b.length : Int)) = true := bne_iff_ne.2 (by omega)
    have hne2 : ¬ (a.length : Int) = (b.length : Int) := by omega
    clear hl ha hb
    go_enter Tryz.func26, Tryz.ntmps26
    go_wp2
    go_ret
    exact ⟨ret_b HV.out.symm, rfl⟩

end Go.Proofs.YthnkfjjgccabeaaGreatDoor
/- Encode. -/
namespace Go.Proofs.YthnkfjjgccabeaaGreatDoor
open Go.RowKit

theorem OInts.small {L M F : List Int} (h : L ++ M = F) (hF : F.length ≤ 100000000) : L.length ≤ 100000000 ∧ M.length ≤ 100000000 := by
  have := congrArg List.length h
  simp at this
  omega

set_option maxRecDepth 100000 in
set_option maxHeartbeats 4000000 in
theorem encode_calls (p : ProofD) (vp : Value) (hok : p.ok) (hsz : p.encF.length ≤ 100000000) (hin : ∀ x ∈ p.encF, isInt x) (hlen : (Cod.numsS p.encF).length ≤ 4294967296) (w : World) (hE : Cod.Env w) (hp : p.Is 0 vp w) :
    Calls Tryz.prog 7 #[vp] w fun e w' => e = .returned (if p.shape = true then .tuple #[.string (bs (Cod.numsS p.encF)), .bool true] else .tuple #[.string ⟨#[]⟩, .bool false]) ∧ Below w.heap.size w w' := by
  obtain ⟨vd, va, rfl, d1, a1⟩ := hp
  obtain ⟨ad, cd, rfl⟩ := d1.len
  obtain ⟨aa, ca, rfl⟩ := a1.len
  obtain ⟨dss, ass⟩ := p
  obtain ⟨⟨hl1, hl2⟩, ⟨hl3, hl4⟩⟩ := hok
  have HSH : Hid ((ProofD.mk dss ass).shape = shapeB dss ass) := rfl
  obtain ⟨F, hF⟩ : ∃ F, F = (ProofD.mk dss ass).encF := ⟨_, rfl⟩
  have HF0 : Hid ([(dss.length : Int)] ++ encP (dss.drop 0) (ass.drop 0) = F) := by show _ = _; rw [hF, List.drop_zero, List.drop_zero]; rfl
  rw [← hF] at hsz hin hlen ⊢
  simp only at d1 a1 hl1 hl2 hl3 hl4
  have hl63 : dss.length ≤ 9223372036854775807 := hl1
  clear hF
  have hb := below_one w (.cells #[.slice ad dss.length cd, .slice aa ass.length ca] 25)
  have B1 := Blk.new w 25 #[.slice ad dss.length cd, .slice aa ass.length ca]
  have c1 := Lib.hid (equalfunc_calls _ _ dss ass hl1 _ (d1.hi (Hi.below hb)) (a1.hi (Hi.below hb)))
  obtain ⟨S, hS⟩ : ∃ S, S = shapeB dss ass := ⟨_, rfl⟩
  have HS := Lib.hid hS
  rw [← hS] at c1 HSH
  rw [HSH.out]
  obtain ⟨z0, z1⟩ := B1.get2
  clear hS HSH
  go_enter Tryz.func7, Tryz.ntmps7
  go_wp2_with fail
  have d2 := d1.hi (lo := 0) (Hi.below hb)
  have a2 := a1.hi (lo := 0) (Hi.below hb)
  generalize w.alloc (.cells #[.slice ad dss.length cd, .slice aa ass.length ca] 25) = W0 at *
  refine c1.out.mono ?_
  clear c1 d1 a1
  rintro e w1 ⟨rfl, rfl⟩
  cases S
  · go_wp2
    go_ret2
    exact ⟨rfl, hb⟩
  · have hnm := Lib.hid (shapeB_len dss ass HS.out.symm)
    have hO1 := own_one W0 (dss.length : Int)
    have hB1 := below_one W0 (.cells #[.int .i64 (dss.length : Int)] 3)
    have y0 := hB1.cell (p := ⟨w.heap.size, 0, none⟩) B1.lt
    have y1 := hB1.cell (p := ⟨w.heap.size, 1, none⟩) B1.lt
    rw [z0] at y0
    rw [z1] at y1
    have HB1 : Hid (∀ w', Below W0.heap.size W0 w' → w'.cell? ⟨w.heap.size, 0, none⟩ = some (.slice ad dss.length cd) ∧ w'.cell? ⟨w.heap.size, 1, none⟩ = some (.slice aa ass.length ca)) := by
      show ∀ w', _
      intro w' h
      exact (B1.next h).get2
    generalize hbe : w.heap.size = b at *
    have HBE := Lib.hid hbe
    clear hbe
    go_wp2
    generalize W0.alloc (.cells #[.int .i64 (dss.length : Int)] 3) = W1 at *
    clear z0 z1 y0 y1 B1
    go_loopw [4, 22] (fun v i wr => ∃ (k : Nat) (L : List Int), k ≤ dss.length ∧ i = .int .i64 (k : Int) ∧ OInts W0.heap.size v L wr ∧ L ++ encP (dss.drop k) (ass.drop k) = F ∧ Below W0.heap.size W0 wr) (fun _ i _ => dss.length - (intOf i).toNat)
    case atStart => exact ⟨0, _, Nat.zero_le _, rfl, hO1, HF0.out, hB1⟩
    case round =>
      clear hO1 hB1 HF0
      obtain ⟨k, L, hk, rfl, hO, hLF, hB⟩ := hrel
      by_cases hlt : k < dss.length
      · have hlt2 : k < ass.length := by have := hnm.out; omega
        obtain ⟨bk, o1, rfl, r1, ds, hds, u1, y0, g0⟩ := d2.at k hlt
        obtain ⟨bk2, o2, rfl, r2, ls, hls, u2, y1, g1⟩ := a2.at k hlt2
        have hst := hLF
        rw [encP_drop dss ass k hlt hlt2, ← hds, ← hls] at hst
        have HEQ : Hid (ds.length = ls.length) := by show _ = _; rw [hds, hls]; exact shapeB_at dss ass k hlt hlt2 HS.out.symm
        have hdl : ds.length ≤ 9223372036854775807 := by rw [hds]; exact hl2 _ (List.getElem_mem hlt)
        rw [Nat.mul_one] at y0 y1
        obtain ⟨p1, q1, rfl⟩ := g0.len
        obtain ⟨p2, q2, rfl⟩ := g1.len
        obtain ⟨R, hR⟩ : ∃ R, R = encP (dss.drop (k + 1)) (ass.drop (k + 1)) := ⟨_, rfl⟩
        rw [← hR] at hst
        have HR := Lib.hid hR
        have HY : Hid (∀ w', Below W0.heap.size W0 w' → w'.cell? ⟨b, 0, none⟩ = some (.slice (some ⟨bk, o1, none⟩) dss.length cd) ∧ w'.cell? ⟨b, 1, none⟩ = some (.slice (some ⟨bk2, o2, none⟩) ass.length ca) ∧ w'.cell? ⟨bk, o1 + k, none⟩ = some (.slice p1 ds.length q1) ∧ w'.cell? ⟨bk2, o2 + k, none⟩ = some (.slice p2 ls.length q2)) := by
          show ∀ w', _
          intro w' h
          refine ⟨(HB1.out w' h).1, (HB1.out w' h).2, ?_, ?_⟩
          · rw [h.cell (p := ⟨bk, o1 + k, none⟩) r1.2]; exact y0
          · rw [h.cell (p := ⟨bk2, o2 + k, none⟩) r2.2]; exact y1
        obtain ⟨x0, x1, x2, x3⟩ := HY.out wr hB
        have hkl : (k : Int) < (dss.length : Int) := by omega
        have hkl2 : (k : Int) < (ass.length : Int) := by omega
        have hl := OInts.small hst hsz
        have hN := nums_one wr (ds.length : Int)
        have hO' := Lib.hid (hO.next (below_one wr (.cells #[.int .i64 (ds.length : Int)] 3)))
        have hB' := Lib.hid (hB.trans ((below_one wr (.cells #[.int .i64 (ds.length : Int)] 3)).mono hB.size))
        have HN := Lib.hid hN
        have HST := Lib.hid hst
        clear y0 y1 hds hls hO hB hLF hR hN hst
        go_wp2_with (at_builtin; refine wpList_ints rfl _ _ rfl rfl rfl rfl hO'.out HN.out (by simp; omega) hB'.out.size ?_)
        intro v1 w1 hO1 hgr
        have hB1 := OInts.below hO'.out hB'.out hgr
        obtain ⟨x0, x1, x2, x3⟩ := HY.out w1 hB1
        have HST1 : Hid (L ++ [(ds.length : Int)] ++ (encD (ds.drop 0) (ls.drop 0) ++ R) = F) := by
          show _ = _
          rw [← HST.out, List.drop_zero, List.drop_zero]; simp
        clear hO' hB' HN HST hgr hl
        go_wp2
        clear x0 x1 x2 x3
        go_loopw [4, 34] (fun v i wz => ∃ (j : Nat) (M : List Int), j ≤ ds.length ∧ i = .int .i64 (j : Int) ∧ OInts W0.heap.size v M wz ∧ M ++ (encD (ds.drop j) (ls.drop j) ++ R) = F ∧ Below W0.heap.size W0 wz) (fun _ i _ => ds.length - (intOf i).toNat)
        case atStart => exact ⟨0, _, Nat.zero_le _, rfl, hO1, HST1.out, hB1⟩
        case round =>
          clear hO1 hB1 HST1
          obtain ⟨j, M, hj, rfl, hO, hMF, hB⟩ := hrel
          by_cases hjl : j < ds.length
          · have hjl2 : j < ls.length := by have := HEQ.out; omega
            obtain ⟨bd, od, e1, r3, x, hx, y2⟩ := g0.at j hjl
            obtain ⟨ba, oa, e2, r4, l, hl, u3, y3, g3⟩ := g1.at j hjl2
            subst e1
            subst e2
            have hst := hMF
            rw [encD_drop ds ls j hjl hjl2, ← hx, ← hl] at hst
            rw [Nat.mul_one] at y2 y3
            obtain ⟨p3, q3, rfl⟩ := g3.len
            have G3 := g3.nums
            obtain ⟨D, hD⟩ : ∃ D, D = encD (ds.drop (j + 1)) (ls.drop (j + 1)) ++ R := ⟨_, rfl⟩
            have hst2 : M ++ ([x, (l.length : Int)] ++ (l ++ D)) = F := by rw [← hst, hD]; simp
            have HD := Lib.hid hD
            obtain ⟨x0, x1, x2, x3⟩ := HY.out wr hB
            have x4 : wr.cell? ⟨bd, od + j, none⟩ = some (.int .i64 x) := by rw [hB.cell (p := ⟨bd, od + j, none⟩) r3.2]; exact y2
            have x5 : wr.cell? ⟨ba, oa + j, none⟩ = some (.slice p3 l.length q3) := by rw [hB.cell (p := ⟨ba, oa + j, none⟩) r4.2]; exact y3
            have HX5 : Hid (∀ w', Below W0.heap.size W0 w' → w'.cell? ⟨ba, oa + j, none⟩ = some (.slice p3 l.length q3)) := by
              show ∀ w', _
              intro w' h
              rw [h.cell (p := ⟨ba, oa + j, none⟩) r4.2]; exact y3
            have hjc : (j : Int) < (ds.length : Int) := by omega
            have hjc2 : (j : Int) < (ls.length : Int) := by omega
            have hl1 := OInts.small hst2 hsz
            have hN := Lib.hid (nums_two wr x (l.length : Int))
            have hO' := Lib.hid (hO.next (below_one wr (.cells #[.int .i64 x, .int .i64 (l.length : Int)] 3)))
            have hB' := Lib.hid (hB.trans ((below_one wr (.cells #[.int .i64 x, .int .i64 (l.length : Int)] 3)).mono hB.size))
            -- the first append's world knows what is read
            have HST := Lib.hid hst2
            clear hx hl hst hst2 hMF y2 y3 hD hO hB
            go_wp2_with (at_builtin; refine wpList_ints rfl _ _ rfl rfl rfl rfl hO'.out hN.out (by simp; omega) hB'.out.size ?_)
            intro v2 w2 hO2 hgr2
            have hB2 := OInts.below hO'.out hB'.out hgr2
            obtain ⟨x0, x1, x2, x3⟩ := HY.out w2 hB2
            have x5 := HX5.out w2 hB2
            have HST2 : Hid ((M ++ [x, (l.length : Int)]) ++ (l ++ D) = F) := by show _ = _; rw [← HST.out]; simp
            have hl2 := OInts.small HST2.out hsz
            have hN2 := Lib.hid (G3.next hB2)
            have hO2' := Lib.hid hO2
            have hB2' := Lib.hid hB2
            have hl3 : (M ++ [x, (l.length : Int)]).length + l.length ≤ 1000000000 := by have := hl2.2; simp at this; omega
            clear hO' hB' HST hgr2 hl1 hl2 hN hO2 hB2
            go_wp2_with (at_builtin; refine wpList_ints rfl _ _ rfl rfl rfl rfl hO2'.out hN2.out hl3 hB2'.out.size ?_)
            intro v3 w3 hO3 hgr3
            have hB3 := OInts.below hO2'.out hB2'.out hgr3
            have HST3 : Hid ((M ++ [x, (l.length : Int)] ++ l) ++ (encD (ds.drop (j + 1)) (ls.drop (j + 1)) ++ R) = F) := by show _ = _; rw [← HST2.out, HD.out]; simp
            clear hO2' hB2' hN2 HST2 hgr3 HX5 x0 x1 x2 x3 x5
            go_wp2
            go_roundw
            case rel => exact ⟨j + 1, _, by omega, by go_num, hO3, by simpa using HST3.out, hB3⟩
            case measure => simp [intOf]; omega
          · obtain rfl : j = ds.length := by omega
            have HST2 : Hid (M ++ encP (dss.drop (k + 1)) (ass.drop (k + 1)) = F) := by
              show _ = _
              rw [← hMF, HR.out, List.drop_length]
              rfl
            clear hMF
            go_wp2
            go_roundw
            case rel => exact ⟨k + 1, M, by omega, by go_num, hO, HST2.out, hB⟩
            case measure => simp [intOf]; omega
      · obtain rfl : k = dss.length := by omega
        have hbe := HBE.out
        subst hbe
        have hLF2 : L = F := by
          rw [← hLF, List.drop_length]
          simp [encP]
        subst hLF2
        have hBw := hb.trans (hB.mono hb.size)
        have c2 := Lib.hid (Cod.base_Nums _ L wr (hE.next hBw) hO.nums hin (by omega) hlen)
        obtain ⟨va, vc, rfl⟩ := hO.form
        clear hLF hO hB
        go_wp2_with fail
        refine c2.out.mono ?_
        clear c2
        rintro e w5 ⟨rfl, hb5⟩
        go_wp2
        go_ret2
        exact ⟨rfl, hBw.trans (hb5.mono hBw.size)⟩
end Go.Proofs.YthnkfjjgccabeaaGreatDoor
