/- ProofEncodes: the law. -/
import Derived.Test.YthnkfjjgccabeaaGreatDoorGoalIn
import Derived.Test.YthnkfjjgccabeaaGreatDoorSameG
import Derived.Test.YthnkfjjgccabeaaGreatDoorTextA
namespace Go.Proofs.YthnkfjjgccabeaaGreatDoor
open Go.RowKit

theorem numsS_inj {a b : List Int} (ha : ∀ x ∈ a, Cod.isInt x) (hb : ∀ x ∈ b, Cod.isInt x) (la : a.length ≤ 9223372036854775807) (lb : b.length ≤ 9223372036854775807) (h : Cod.numsS a = Cod.numsS b) : a = b := by
  have h1 := Cod.numsF_write a [] ha la
  have h2 := Cod.numsF_write b [] hb lb
  rw [h] at h1
  rw [h1] at h2
  exact congrArg Prod.fst h2
theorem flat_ints {α : Type} (f : α → List Int) (l : List α) (h : ∀ x ∈ l, ∀ y ∈ f x, isInt y) : ∀ y ∈ l.flatMap f, isInt y := fun y hy => by
  obtain ⟨x, hx, hy⟩ := List.mem_flatMap.1 hy
  exact h x hx y hy
theorem flat_le {α : Type} (f : α → List Int) (n : Nat) : ∀ (l : List α), (∀ x ∈ l, (f x).length ≤ n) → (l.flatMap f).length ≤ l.length * n
  | [], _ => by simp
  | x :: l, h => by
    have h1 := h x (by simp)
    have h2 := flat_le f n l fun y hy => h y (by simp [hy])
    simp only [List.flatMap_cons, List.length_append, List.length_cons]
    rw [Nat.add_mul]
    omega
theorem goalG_few (l : List ClauseD) (hf : fewG l) (hi : ∀ x ∈ l, okClauseD x) : (∀ x ∈ goalG l, isInt x) ∧ (goalG l).length ≤ 10000 := by
  have small : ∀ n : Nat, n ≤ 10 → isInt (n : Int) := fun n h => by unfold isInt; omega
  have he : ∀ c : ClaimD, fewC c → okClaimD c → (∀ x ∈ claimG c, isInt x) ∧ (claimG c).length ≤ 58 := by
    intro c hc hk
    have h1 : ∀ e ∈ c.eqs, (∀ x ∈ eqG e, isInt x) ∧ (eqG e).length ≤ 14 := by
      intro e hm
      obtain ⟨k1, k2, k3⟩ := hk.2.1 e hm
      have k4 := hc.2 e hm
      have k5 := flat_le termG 2 e.terms fun _ _ => Nat.le_refl _
      refine ⟨fun x hx => ?_, by simp only [eqG, listG, List.length_cons]; omega⟩
      simp only [eqG, listG, List.mem_cons] at hx
      rcases hx with rfl | rfl | hx
      · exact k1
      · exact small _ (by omega)
      · refine flat_ints termG e.terms (fun t ht y hy => ?_) x hx
        simp only [termG, List.mem_cons, List.not_mem_nil, or_false] at hy
        rcases hy with rfl | rfl
        · exact (k2 t ht).1
        · exact (k2 t ht).2
    have h2 := flat_le eqG 14 c.eqs fun e hm => (h1 e hm).2
    have h3 := hc.1
    refine ⟨fun x hx => ?_, by simp only [claimG, listG, List.length_cons]; omega⟩
    simp only [claimG, listG, List.mem_cons] at hx
    rcases hx with rfl | rfl | hx
    · exact hk.1
    · exact small _ (by omega)
    · exact flat_ints eqG c.eqs (fun e hm => (h1 e hm).1) x hx
  have hcl : ∀ x ∈ l, (∀ y ∈ clauseG x, isInt y) ∧ (clauseG x).length ≤ 292 := by
    intro x hx
    obtain ⟨k1, k2, k3⟩ := hi x hx
    obtain ⟨j1, j2⟩ := hf.2 x hx
    have h2 := flat_le claimG 58 x.claims fun c hm => (he c (j2 c hm) (k2 c hm)).2
    refine ⟨fun y hy => ?_, by simp only [clauseG, listG, List.length_cons]; omega⟩
    simp only [clauseG, listG, List.mem_cons] at hy
    rcases hy with rfl | rfl | hy
    · exact k1
    · exact small _ (by omega)
    · exact flat_ints claimG x.claims (fun c hm => (he c (j2 c hm) (k2 c hm)).1) y hy
  have h2 := flat_le clauseG 292 l fun x hx => (hcl x hx).2
  have h3 := hf.1
  refine ⟨fun x hx => ?_, by simp only [goalG, listG, List.length_cons]; omega⟩
  simp only [goalG, listG, List.mem_cons] at hx
  rcases hx with rfl | hx
  · exact small _ (by omega)
  · exact flat_ints clauseG l (fun x hx => (hcl x hx).1) x hx
/-- The answer of Decode. -/
def decD (t : List UInt8) : ProofD := (decF t).getD ⟨[], []⟩
theorem decD_ok (t : List UInt8) (ht : t.length ≤ 400) : (decD t).ok ∧ (decD t).encF.length ≤ 400 ∧ (∀ x ∈ (decD t).encF, isInt x) ∧ (decD t).shape = true := by
  unfold decD
  cases h : decF t with
  | none =>
    refine ⟨⟨⟨by simp [okL], by simp⟩, ⟨by simp [okL], by simp⟩⟩, by simp [ProofD.encF, encP], fun x hx => ?_, rfl⟩
    simp [ProofD.encF, encP] at hx
    subst hx
    unfold isInt
    omega
  | some p =>
    obtain ⟨h1, h2, h3, h4⟩ := decF_is h
    exact ⟨ok_of_shape p h1 (by omega), by simp only [Option.getD_some]; omega, h3, h1⟩
theorem ProofD.Is.hi {lo : Nat} {p : ProofD} {v : Value} {w w' : World} (h : p.Is lo v w) (hb : Hi lo w w') : p.Is lo v w' := by
  obtain ⟨vd, va, e, h1, h2⟩ := h
  exact ⟨vd, va, e, h1.hi hb, h2.hi hb⟩
theorem ProofD.Is.form {lo : Nat} {p : ProofD} {v : Value} {w : World} (h : p.Is lo v w) : ∃ a b c d, v = .agg #[.slice a p.dares.length b, .slice c p.answers.length d] := by
  obtain ⟨vd, va, rfl, h1, h2⟩ := h
  obtain ⟨a, b, rfl⟩ := h1.len
  obtain ⟨c, d, rfl⟩ := h2.len
  exact ⟨a, b, c, d, rfl⟩
theorem few_of {l : List ClauseD} (hi : ∀ x ∈ l, okClauseD x) : ∀ x ∈ l, okL x.claims ∧ ∀ c ∈ x.claims, okL c.eqs ∧ ∀ e ∈ c.eqs, okL e.terms := fun x hx =>
  ⟨(hi x hx).2.2, fun c hc => ⟨((hi x hx).2.1 c hc).2.2, fun e he => (((hi x hx).2.1 c hc).2.1 e he).2.2⟩⟩

set_option maxRecDepth 100000 in
set_option maxHeartbeats 8000000 in
theorem encodes_law (p : ProofD) (vp : Value) (hok : p.ok) (hpi : p.ints) (t : List UInt8) (ht : t.length ≤ 9223372036854775807) (a b : List ClauseD) (va vb : Value) (la : okL a) (lb : okL b) (ka : ∀ x ∈ a, okClauseD x) (kb : ∀ x ∈ b, okClauseD x)
    (ca : ∀ x n c, va = .slice x n c → n ≤ c) (cb : ∀ x n c, vb = .slice x n c → n ≤ c) (w : World) (hE : Envs w) (ip : p.Is 0 vp w) (ia : IsGoal 0 va a w) (ib : IsGoal 0 vb b w) :
    Calls Tryz.prog 3 #[vp, .string (bs t), va, vb] w (True_ w) := by
  obtain ⟨ad, cd, an, cn, rfl⟩ := ip.form
  obtain ⟨ga, gc, rfl⟩ := IsSl.len ia
  obtain ⟨ha, hc, rfl⟩ := IsSl.len ib
  have HP := fun x (h : Below w.heap.size w x) => Lib.hid (ip.hi (Hi.below h))
  have HA := fun x (h : Below w.heap.size w x) => Lib.hid (IsGoal.hi ia (Hi.below h))
  have HB := fun x (h : Below w.heap.size w x) => Lib.hid (IsGoal.hi ib (Hi.below h))
  have HE := fun x (h : Below w.heap.size w x) => Lib.hid (hE.next h)
  have HOK := Lib.hid (And.intro hok hpi)
  have HKA := Lib.hid (And.intro la ka)
  have HKB := Lib.hid (And.intro lb kb)
  have HCA := Lib.hid ca
  have HCB := Lib.hid cb
  have hb0 := below_one w (.cells #[.slice ad p.dares.length cd, .slice an p.answers.length cn] 25)
  have B0 := Blk.new w 25 #[.slice ad p.dares.length cd, .slice an p.answers.length cn]
  obtain ⟨W0, hW0⟩ : ∃ W0, W0 = w.alloc (.cells #[.slice ad p.dares.length cd, .slice an p.answers.length cn] 25) := ⟨_, rfl⟩
  rw [← hW0] at hb0 B0
  have c0 := Lib.hid (less_ok W0 (HE W0 hb0).out)
  have H0 := Lib.hid hb0
  have HB0 := Lib.hid B0
  rw [hW0] at c0
  have HW0 := Lib.hid hW0
  have hsz : (bs t).size = t.length := bs_size t
  clear hok hpi la lb ka kb ca cb hE ip ia ib hb0 B0 hW0
  go_enter Tryz.func3, Tryz.ntmps3
  go_wp2_with fail
  refine c0.out.mono ?_
  clear c0
  rw [← HW0.out]
  rintro e w1 ⟨rfl, h1⟩
  have H1 := Lib.hid (H0.out.trans (h1.mono H0.out.size))
  have HB1 := Lib.hid (HB0.out.next h1)
  have z0 := HB1.out.cell 0
  have z1 := HB1.out.cell 1
  have c1 := Lib.hid (fewproof_calls p _ HOK.out.1 w1 (HP w1 H1.out).out)
  clear h1 H0 HB0 HW0
  go_wp2_with fail
  refine c1.out.mono ?_
  clear c1 z0 z1
  rintro e w2 ⟨b1, rfl, f1, h2⟩
  have H2 := Lib.hid (H1.out.trans (h2.mono H1.out.size))
  have HB2 := Lib.hid (HB1.out.next h2)
  have F1 := Lib.hid f1
  clear h2 H1 HB1 f1
  cases b1 with
  | false =>
    go_wp2
    go_ret
    exact ⟨rfl, H2.out⟩
  | true =>
    by_cases h400 : 400 < t.length
    · have hli : (400 : Int) < (t.length : Int) := by omega
      clear h400
      go_wp2
      go_ret
      exact ⟨rfl, H2.out⟩
    · have hli : ¬ (400 : Int) < (t.length : Int) := by omega
      have HT := Lib.hid h400
      have c2 := Lib.hid (few_calls a _ HKA.out.1 (few_of HKA.out.2) w2 (HA w2 H2.out).out)
      clear h400
      go_wp2_with fail
      refine c2.out.mono ?_
      clear c2
      rintro e w3 ⟨b2, rfl, f2, h3⟩
      have H3 := Lib.hid (H2.out.trans (h3.mono H2.out.size))
      have HB3 := Lib.hid (HB2.out.next h3)
      have F2 := Lib.hid f2
      clear h3 H2 HB2 f2
      cases b2 with
      | false =>
        go_wp2
        go_ret
        exact ⟨rfl, H3.out⟩
      | true =>
        have c3 := Lib.hid (few_calls b _ HKB.out.1 (few_of HKB.out.2) w3 (HB w3 H3.out).out)
        go_wp2_with fail
        refine c3.out.mono ?_
        clear c3
        rintro e w4 ⟨b3, rfl, f3, h4⟩
        have H4 := Lib.hid (H3.out.trans (h4.mono H3.out.size))
        have HB4 := Lib.hid (HB3.out.next h4)
        have F3 := Lib.hid f3
        clear h4 H3 HB3 f3
        cases b3 with
        | false =>
          go_wp2
          go_ret
          exact ⟨rfl, H4.out⟩
        | true =>
          -- REST
          have fp := F1.out trivial
          have FA := Lib.hid (goalG_few a (F2.out trivial) HKA.out.2)
          have FB := Lib.hid (goalG_few b (by first | exact F3.out trivial | exact F3.out rfl) HKB.out.2)
          have HFA := Lib.hid (F2.out trivial)
          have HFB : Hid (fewG b) := by first | exact F3.out trivial | exact F3.out rfl
          have hlen := encF_few p fp
          have hint := encF_ints p fp HOK.out.2
          have hnl := numsS_len p.encF hint (by omega)
          have c4 := encode_calls p _ HOK.out.1 (by omega) hint (by omega) w4 (HE w4 H4.out).out.c (HP w4 H4.out).out
          obtain ⟨X, ok, k4, hX1, hX2, hX3⟩ : ∃ (X : List UInt8) (ok : Bool), Calls Tryz.prog 7 #[.agg #[.slice ad p.dares.length cd, .slice an p.answers.length cn]] w4 (fun e w' => e = .returned (.tuple #[.string (bs X), .bool ok]) ∧ Below w4.heap.size w4 w') ∧ (ok = true → decF X = some p) ∧ (ok = false → X = []) ∧ X.length ≤ 100000 := by
            by_cases hs : p.shape = true
            · rw [if_pos hs] at c4
              exact ⟨_, true, c4, fun _ => decF_back p hs hint (by omega), (fun h => by cases h), by omega⟩
            · rw [if_neg hs] at c4
              refine ⟨[], false, ?_, (fun h => by cases h), fun _ => rfl, by simp⟩
              rw [Cod.bs_nil]
              exact c4
          have K4 := Lib.hid k4
          have z0 := HB4.out.cell 0
          have z1 := HB4.out.cell 1
          clear c4 k4 hnl hint hlen fp F1 F2 F3
          go_wp2_with fail
          refine K4.out.mono ?_
          clear K4 z0 z1
          rintro e w5 ⟨rfl, h5⟩
          have H5 := Lib.hid (H4.out.trans (h5.mono H4.out.size))
          have HB5 := Lib.hid (HB4.out.next h5)
          have c5 := Lib.hid (decode_calls X (by omega) w5 (HE w5 H5.out).out.c)
          clear h5 H4 HB4
          go_wp2_with fail
          refine c5.out.mono ?_
          clear c5
          rintro e w6 ⟨vq, rfl, iq, h6⟩
          obtain ⟨qa, qb, qc, qd, rfl⟩ := iq.form
          have HIS : Hid (ok = true → (decF X).isSome = true ∧ decD X = p) := by show _ → _; intro h; have h' := hX1 h; unfold decD; rw [h']; exact ⟨rfl, rfl⟩
          have HX2 := Lib.hid hX2
          have iq' : (decD X).Is 0 (.agg #[.slice qa (decD X).dares.length qb, .slice qc (decD X).answers.length qd]) w6 := iq
          have hal := below_one w6 (.cells #[.slice qa (decD X).dares.length qb, .slice qc (decD X).answers.length qd] 25)
          have BQ := Blk.new w6 25 #[.slice qa (decD X).dares.length qb, .slice qc (decD X).answers.length qd]
          obtain ⟨W6, hW6⟩ : ∃ W6, W6 = w6.alloc (.cells #[.slice qa (decD X).dares.length qb, .slice qc (decD X).answers.length qd] 25) := ⟨_, rfl⟩
          rw [← hW6] at hal BQ
          have h6' := H5.out.trans (h6.mono H5.out.size)
          have H6 := Lib.hid (h6'.trans (hal.mono h6'.size))
          have HB6 := Lib.hid ((HB5.out.next h6).next hal)
          have HBQ := Lib.hid BQ
          have HIQ := Lib.hid (iq'.hi (Hi.below hal))
          have HW6 := Lib.hid hW6
          have DD : Hid ((decF X).getD ⟨[], []⟩ = decD X) := rfl
          rw [DD.out]
          clear h6 h6' hal BQ iq iq' hX1 hX2 H5 HB5 hW6
          have z0 := HB6.out.cell 0
          have z1 := HB6.out.cell 1
          have q0 := HBQ.out.cell 0
          have q1 := HBQ.out.cell 1
          rw [HW6.out] at z0 z1 q0 q1
          generalize (decF X).isSome = is at *
          cases ok with
          | false =>
            obtain rfl := HX2.out rfl
            rw [Cod.bs_nil]
            clear hX3 HIS
            obtain ⟨y1, y2, y3, y4⟩ := decD_ok t (by have := HT.out; omega)
            have hnl := numsS_len (decD t).encF y3 (by omega)
            have c8 := Lib.hid (decode_calls t (by have := HT.out; omega) W6 (HE W6 H6.out).out.c)
            have HY := Lib.hid (And.intro y1 (And.intro y2 (And.intro y3 (And.intro y4 hnl))))
            rw [HW6.out] at c8
            clear y1 y2 y3 y4 hnl
            go_wp2_with fail
            refine c8.out.mono ?_
            clear c8
            rw [← HW6.out]
            rintro e w8 ⟨vy, rfl, iy, h8⟩
            obtain ⟨ya, yb, yc, yd, rfl⟩ := iy.form
            have iy' : (decD t).Is 0 (.agg #[.slice ya (decD t).dares.length yb, .slice yc (decD t).answers.length yd]) w8 := iy
            have hal := below_one w8 (.cells #[.slice ya (decD t).dares.length yb, .slice yc (decD t).answers.length yd] 25)
            have BY := Blk.new w8 25 #[.slice ya (decD t).dares.length yb, .slice yc (decD t).answers.length yd]
            obtain ⟨W8, hW8⟩ : ∃ W8, W8 = w8.alloc (.cells #[.slice ya (decD t).dares.length yb, .slice yc (decD t).answers.length yd] 25) := ⟨_, rfl⟩
            rw [← hW8] at hal BY
            have h8' := H6.out.trans (h8.mono H6.out.size)
            have H8 := Lib.hid (h8'.trans (hal.mono h8'.size))
            have c9 := encode_calls (decD t) _ HY.out.1 (by have := HY.out.2.1; omega) HY.out.2.2.1 (by have := HY.out.2.2.2.2; have := HY.out.2.1; omega) W8 (HE W8 H8.out).out.c (iy'.hi (Hi.below hal))
            rw [if_pos HY.out.2.2.2.1] at c9
            have p0 := BY.cell 0
            have p1 := BY.cell 1
            have HW8 := Lib.hid hW8
            rw [hW8] at p0 p1
            have DT : Hid ((decF t).getD ⟨[], []⟩ = decD t) := rfl
            rw [DT.out]
            have HCAN : Hid ((decF t).isSome = true → Cod.numsS (decD t).encF = t) := by
              show _ → _
              intro h
              obtain ⟨y, hy⟩ := Option.isSome_iff_exists.1 h
              unfold decD
              rw [hy]
              exact (decF_is hy).2.1
            generalize (decF t).isSome = can at *
            cases can with
            | false =>
              have C9 := Lib.hid c9
              rw [hW8] at C9
              clear c9 hW8 hal BY h8 h8' iy iy' HCAN
              go_wp2_with fail
              refine C9.out.mono ?_
              clear C9 p0 p1
              rw [← HW8.out]
              rintro e w10 ⟨rfl, h10⟩
              have H10 := Lib.hid (H8.out.trans (h10.mono H8.out.size))
              have na := numsS_len (goalG a) FA.out.1 (by have := FA.out.2; omega)
              have nb := numsS_len (goalG b) FB.out.1 (by have := FB.out.2; omega)
              have c11 := Lib.hid (text_calls _ a FA.out.1 FA.out.2 (by have := FA.out.2; omega) HCA.out w10 (HE w10 H10.out).out.c (HA w10 H10.out).out)
              have hnb : (Cod.numsS (goalG b)).length ≤ 4294967296 := by have := FB.out.2; omega
              have HNB := Lib.hid hnb
              clear h10 na nb hnb
              go_wp2_with fail
              refine c11.out.mono ?_
              clear c11
              rintro e w11 ⟨rfl, h11⟩
              have H11 := Lib.hid (H10.out.trans (h11.mono H10.out.size))
              have c12 := Lib.hid (text_calls _ b FB.out.1 FB.out.2 HNB.out HCB.out w11 (HE w11 H11.out).out.c (HB w11 H11.out).out)
              clear h11
              go_wp2_with fail
              refine c12.out.mono ?_
              clear c12
              rintro e w12 ⟨rfl, h12⟩
              have H12 := Lib.hid (H11.out.trans (h12.mono H11.out.size))
              have c13 := Lib.hid (samegoal_calls _ _ a b HFA.out HFB.out w12 (HA w12 H12.out).out (HB w12 H12.out).out)
              clear h12
              by_cases hab : a = b
              · have hs : ((bs (Cod.numsS (goalG a))).toList == (bs (Cod.numsS (goalG b))).toList) = true := by rw [Cod.bs_ne_iff, hab]; exact decide_eq_true rfl
                have HAB := Lib.hid hab
                clear hab
                go_wp2_with fail
                refine c13.out.mono ?_
                clear c13
                rintro e w13 ⟨B, rfl, hB, h13⟩
                obtain rfl : B = true := hB.2 HAB.out
                have H13 := Lib.hid (H12.out.trans (h13.mono H12.out.size))
                clear hB h13
                go_wp2
                go_ret
                exact ⟨rfl, H13.out⟩
              · have hs : ((bs (Cod.numsS (goalG a))).toList == (bs (Cod.numsS (goalG b))).toList) = false := by
                  rw [Cod.bs_ne_iff]
                  exact decide_eq_false fun e => hab (goalG_inj (numsS_inj FA.out.1 FB.out.1 (by have := FA.out.2; omega) (by have := FB.out.2; omega) e))
                have HAB := Lib.hid hab
                clear hab
                go_wp2_with fail
                refine c13.out.mono ?_
                clear c13
                rintro e w13 ⟨B, rfl, hB, h13⟩
                obtain rfl : B = false := by cases B with
                  | false => rfl
                  | true => exact absurd (hB.1 rfl) HAB.out
                have H13 := Lib.hid (H12.out.trans (h13.mono H12.out.size))
                clear hB h13
                go_wp2
                go_ret
                exact ⟨rfl, H13.out⟩
            | true =>
              rw [HCAN.out rfl] at c9
              have C9 := Lib.hid c9
              rw [hW8] at C9
              clear c9 hW8 hal BY h8 h8' iy iy' HCAN
              go_wp2_with fail
              refine C9.out.mono ?_
              clear C9 p0 p1
              rw [← HW8.out]
              rintro e w10 ⟨rfl, h10⟩
              have H10 := Lib.hid (H8.out.trans (h10.mono H8.out.size))
              have na := numsS_len (goalG a) FA.out.1 (by have := FA.out.2; omega)
              have nb := numsS_len (goalG b) FB.out.1 (by have := FB.out.2; omega)
              have c11 := Lib.hid (text_calls _ a FA.out.1 FA.out.2 (by have := FA.out.2; omega) HCA.out w10 (HE w10 H10.out).out.c (HA w10 H10.out).out)
              have hnb : (Cod.numsS (goalG b)).length ≤ 4294967296 := by have := FB.out.2; omega
              have HNB := Lib.hid hnb
              clear h10 na nb hnb
              go_wp2_with fail
              refine c11.out.mono ?_
              clear c11
              rintro e w11 ⟨rfl, h11⟩
              have H11 := Lib.hid (H10.out.trans (h11.mono H10.out.size))
              have c12 := Lib.hid (text_calls _ b FB.out.1 FB.out.2 HNB.out HCB.out w11 (HE w11 H11.out).out.c (HB w11 H11.out).out)
              clear h11
              go_wp2_with fail
              refine c12.out.mono ?_
              clear c12
              rintro e w12 ⟨rfl, h12⟩
              have H12 := Lib.hid (H11.out.trans (h12.mono H11.out.size))
              have c13 := Lib.hid (samegoal_calls _ _ a b HFA.out HFB.out w12 (HA w12 H12.out).out (HB w12 H12.out).out)
              clear h12
              by_cases hab : a = b
              · have hs : ((bs (Cod.numsS (goalG a))).toList == (bs (Cod.numsS (goalG b))).toList) = true := by rw [Cod.bs_ne_iff, hab]; exact decide_eq_true rfl
                have HAB := Lib.hid hab
                clear hab
                go_wp2_with fail
                refine c13.out.mono ?_
                clear c13
                rintro e w13 ⟨B, rfl, hB, h13⟩
                obtain rfl : B = true := hB.2 HAB.out
                have H13 := Lib.hid (H12.out.trans (h13.mono H12.out.size))
                clear hB h13
                go_wp2
                go_ret
                exact ⟨rfl, H13.out⟩
              · have hs : ((bs (Cod.numsS (goalG a))).toList == (bs (Cod.numsS (goalG b))).toList) = false := by
                  rw [Cod.bs_ne_iff]
                  exact decide_eq_false fun e => hab (goalG_inj (numsS_inj FA.out.1 FB.out.1 (by have := FA.out.2; omega) (by have := FB.out.2; omega) e))
                have HAB := Lib.hid hab
                clear hab
                go_wp2_with fail
                refine c13.out.mono ?_
                clear c13
                rintro e w13 ⟨B, rfl, hB, h13⟩
                obtain rfl : B = false := by cases B with
                  | false => rfl
                  | true => exact absurd (hB.1 rfl) HAB.out
                have H13 := Lib.hid (H12.out.trans (h13.mono H12.out.size))
                clear hB h13
                go_wp2
                go_ret
                exact ⟨rfl, H13.out⟩
          | true =>
            obtain ⟨rfl, hqp⟩ := HIS.out rfl
            have c7 := Lib.hid (sameproof_calls p (decD X) _ _ HOK.out.1 (by rw [hqp]; exact HOK.out.1) W6 (HP W6 H6.out).out HIQ.out)
            rw [decide_eq_true hqp.symm] at c7
            rw [HW6.out] at c7
            clear HIS HX2 hqp
            go_wp2_with fail
            refine c7.out.mono ?_
            clear c7 z0 z1 q0 q1
            rw [← HW6.out]
            rintro e w7 ⟨rfl, hd7⟩
            have H7 := Lib.hid (H6.out.trans (hd7.mono H6.out.size))
            clear hd7
            obtain ⟨y1, y2, y3, y4⟩ := decD_ok t (by have := HT.out; omega)
            have hnl := numsS_len (decD t).encF y3 (by omega)
            have c8 := Lib.hid (decode_calls t (by have := HT.out; omega) w7 (HE w7 H7.out).out.c)
            have HY := Lib.hid (And.intro y1 (And.intro y2 (And.intro y3 (And.intro y4 hnl))))
            skip
            clear y1 y2 y3 y4 hnl
            go_wp2_with fail
            refine c8.out.mono ?_
            clear c8
            skip
            rintro e w8 ⟨vy, rfl, iy, h8⟩
            obtain ⟨ya, yb, yc, yd, rfl⟩ := iy.form
            have iy' : (decD t).Is 0 (.agg #[.slice ya (decD t).dares.length yb, .slice yc (decD t).answers.length yd]) w8 := iy
            have hal := below_one w8 (.cells #[.slice ya (decD t).dares.length yb, .slice yc (decD t).answers.length yd] 25)
            have BY := Blk.new w8 25 #[.slice ya (decD t).dares.length yb, .slice yc (decD t).answers.length yd]
            obtain ⟨W8, hW8⟩ : ∃ W8, W8 = w8.alloc (.cells #[.slice ya (decD t).dares.length yb, .slice yc (decD t).answers.length yd] 25) := ⟨_, rfl⟩
            rw [← hW8] at hal BY
            have h8' := H7.out.trans (h8.mono H7.out.size)
            have H8 := Lib.hid (h8'.trans (hal.mono h8'.size))
            have c9 := encode_calls (decD t) _ HY.out.1 (by have := HY.out.2.1; omega) HY.out.2.2.1 (by have := HY.out.2.2.2.2; have := HY.out.2.1; omega) W8 (HE W8 H8.out).out.c (iy'.hi (Hi.below hal))
            rw [if_pos HY.out.2.2.2.1] at c9
            have p0 := BY.cell 0
            have p1 := BY.cell 1
            have HW8 := Lib.hid hW8
            rw [hW8] at p0 p1
            have DT : Hid ((decF t).getD ⟨[], []⟩ = decD t) := rfl
            rw [DT.out]
            have HCAN : Hid ((decF t).isSome = true → Cod.numsS (decD t).encF = t) := by
              show _ → _
              intro h
              obtain ⟨y, hy⟩ := Option.isSome_iff_exists.1 h
              unfold decD
              rw [hy]
              exact (decF_is hy).2.1
            generalize (decF t).isSome = can at *
            cases can with
            | false =>
              have C9 := Lib.hid c9
              rw [hW8] at C9
              clear c9 hW8 hal BY h8 h8' iy iy' HCAN
              go_wp2_with fail
              refine C9.out.mono ?_
              clear C9 p0 p1
              rw [← HW8.out]
              rintro e w10 ⟨rfl, h10⟩
              have H10 := Lib.hid (H8.out.trans (h10.mono H8.out.size))
              have na := numsS_len (goalG a) FA.out.1 (by have := FA.out.2; omega)
              have nb := numsS_len (goalG b) FB.out.1 (by have := FB.out.2; omega)
              have c11 := Lib.hid (text_calls _ a FA.out.1 FA.out.2 (by have := FA.out.2; omega) HCA.out w10 (HE w10 H10.out).out.c (HA w10 H10.out).out)
              have hnb : (Cod.numsS (goalG b)).length ≤ 4294967296 := by have := FB.out.2; omega
              have HNB := Lib.hid hnb
              clear h10 na nb hnb
              go_wp2_with fail
              refine c11.out.mono ?_
              clear c11
              rintro e w11 ⟨rfl, h11⟩
              have H11 := Lib.hid (H10.out.trans (h11.mono H10.out.size))
              have c12 := Lib.hid (text_calls _ b FB.out.1 FB.out.2 HNB.out HCB.out w11 (HE w11 H11.out).out.c (HB w11 H11.out).out)
              clear h11
              go_wp2_with fail
              refine c12.out.mono ?_
              clear c12
              rintro e w12 ⟨rfl, h12⟩
              have H12 := Lib.hid (H11.out.trans (h12.mono H11.out.size))
              have c13 := Lib.hid (samegoal_calls _ _ a b HFA.out HFB.out w12 (HA w12 H12.out).out (HB w12 H12.out).out)
              clear h12
              by_cases hab : a = b
              · have hs : ((bs (Cod.numsS (goalG a))).toList == (bs (Cod.numsS (goalG b))).toList) = true := by rw [Cod.bs_ne_iff, hab]; exact decide_eq_true rfl
                have HAB := Lib.hid hab
                clear hab
                go_wp2_with fail
                refine c13.out.mono ?_
                clear c13
                rintro e w13 ⟨B, rfl, hB, h13⟩
                obtain rfl : B = true := hB.2 HAB.out
                have H13 := Lib.hid (H12.out.trans (h13.mono H12.out.size))
                clear hB h13
                go_wp2
                go_ret
                exact ⟨rfl, H13.out⟩
              · have hs : ((bs (Cod.numsS (goalG a))).toList == (bs (Cod.numsS (goalG b))).toList) = false := by
                  rw [Cod.bs_ne_iff]
                  exact decide_eq_false fun e => hab (goalG_inj (numsS_inj FA.out.1 FB.out.1 (by have := FA.out.2; omega) (by have := FB.out.2; omega) e))
                have HAB := Lib.hid hab
                clear hab
                go_wp2_with fail
                refine c13.out.mono ?_
                clear c13
                rintro e w13 ⟨B, rfl, hB, h13⟩
                obtain rfl : B = false := by cases B with
                  | false => rfl
                  | true => exact absurd (hB.1 rfl) HAB.out
                have H13 := Lib.hid (H12.out.trans (h13.mono H12.out.size))
                clear hB h13
                go_wp2
                go_ret
                exact ⟨rfl, H13.out⟩
            | true =>
              rw [HCAN.out rfl] at c9
              have C9 := Lib.hid c9
              rw [hW8] at C9
              clear c9 hW8 hal BY h8 h8' iy iy' HCAN
              go_wp2_with fail
              refine C9.out.mono ?_
              clear C9 p0 p1
              rw [← HW8.out]
              rintro e w10 ⟨rfl, h10⟩
              have H10 := Lib.hid (H8.out.trans (h10.mono H8.out.size))
              have na := numsS_len (goalG a) FA.out.1 (by have := FA.out.2; omega)
              have nb := numsS_len (goalG b) FB.out.1 (by have := FB.out.2; omega)
              have c11 := Lib.hid (text_calls _ a FA.out.1 FA.out.2 (by have := FA.out.2; omega) HCA.out w10 (HE w10 H10.out).out.c (HA w10 H10.out).out)
              have hnb : (Cod.numsS (goalG b)).length ≤ 4294967296 := by have := FB.out.2; omega
              have HNB := Lib.hid hnb
              clear h10 na nb hnb
              go_wp2_with fail
              refine c11.out.mono ?_
              clear c11
              rintro e w11 ⟨rfl, h11⟩
              have H11 := Lib.hid (H10.out.trans (h11.mono H10.out.size))
              have c12 := Lib.hid (text_calls _ b FB.out.1 FB.out.2 HNB.out HCB.out w11 (HE w11 H11.out).out.c (HB w11 H11.out).out)
              clear h11
              go_wp2_with fail
              refine c12.out.mono ?_
              clear c12
              rintro e w12 ⟨rfl, h12⟩
              have H12 := Lib.hid (H11.out.trans (h12.mono H11.out.size))
              have c13 := Lib.hid (samegoal_calls _ _ a b HFA.out HFB.out w12 (HA w12 H12.out).out (HB w12 H12.out).out)
              clear h12
              by_cases hab : a = b
              · have hs : ((bs (Cod.numsS (goalG a))).toList == (bs (Cod.numsS (goalG b))).toList) = true := by rw [Cod.bs_ne_iff, hab]; exact decide_eq_true rfl
                have HAB := Lib.hid hab
                clear hab
                go_wp2_with fail
                refine c13.out.mono ?_
                clear c13
                rintro e w13 ⟨B, rfl, hB, h13⟩
                obtain rfl : B = true := hB.2 HAB.out
                have H13 := Lib.hid (H12.out.trans (h13.mono H12.out.size))
                clear hB h13
                go_wp2
                go_ret
                exact ⟨rfl, H13.out⟩
              · have hs : ((bs (Cod.numsS (goalG a))).toList == (bs (Cod.numsS (goalG b))).toList) = false := by
                  rw [Cod.bs_ne_iff]
                  exact decide_eq_false fun e => hab (goalG_inj (numsS_inj FA.out.1 FB.out.1 (by have := FA.out.2; omega) (by have := FB.out.2; omega) e))
                have HAB := Lib.hid hab
                clear hab
                go_wp2_with fail
                refine c13.out.mono ?_
                clear c13
                rintro e w13 ⟨B, rfl, hB, h13⟩
                obtain rfl : B = false := by cases B with
                  | false => rfl
                  | true => exact absurd (hB.1 rfl) HAB.out
                have H13 := Lib.hid (H12.out.trans (h13.mono H12.out.size))
                clear hB h13
                go_wp2
                go_ret
                exact ⟨rfl, H13.out⟩
end Go.Proofs.YthnkfjjgccabeaaGreatDoor
