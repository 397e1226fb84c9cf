/- The comparison of two goals. -/
import Derived.Test.YthnkfjjgccabeaaGreatDoorFewP
import Derived.BigQuiet
namespace Go.Proofs.YthnkfjjgccabeaaGreatDoor
open Go.RowKit

def SameP (p : Prop) (w : World) (e : Ending) (w' : World) : Prop := ∃ B : Bool, e = .returned (.bool B) ∧ (B = true ↔ p) ∧ Below w.heap.size w w'
theorem SameP.no {p : Prop} {w w' : World} (h : ¬ p) (hb : Below w.heap.size w w') : SameP p w (.returned (.bool false)) w' := ⟨false, rfl, ⟨(fun e => by cases e), fun e => absurd e h⟩, hb⟩
theorem SameP.yes {p : Prop} {w w' : World} (h : p) (hb : Below w.heap.size w w') : SameP p w (.returned (.bool true)) w' := ⟨true, rfl, ⟨fun _ => h, fun _ => rfl⟩, hb⟩
/-- They agree so far. -/
def Upto {α : Type} (a b : List α) (k : Nat) : Prop := ∀ i (h1 : i < a.length) (h2 : i < b.length), i < k → a[i] = b[i]
theorem Upto.zero {α : Type} (a b : List α) : Upto a b 0 := fun _ _ _ h => absurd h (Nat.not_lt_zero _)
theorem Upto.succ {α : Type} {a b : List α} {k : Nat} (h : Upto a b k) (h1 : k < a.length) (h2 : k < b.length) (e : a[k] = b[k]) : Upto a b (k + 1) := fun i h3 h4 h5 => by
  by_cases e' : i = k
  · subst e'; exact e
  · exact h i h3 h4 (by omega)
theorem Upto.all {α : Type} {a b : List α} (hl : a.length = b.length) (h : Upto a b a.length) : a = b := List.ext_getElem hl fun i h1 h2 => h i h1 h2 h1
theorem eqD_ext {a b : EqD} (h1 : a.target = b.target) (h2 : a.terms = b.terms) : a = b := by cases a; cases b; simp_all
theorem claimD_ext {a b : ClaimD} (h1 : a.vars = b.vars) (h2 : a.eqs = b.eqs) : a = b := by cases a; cases b; simp_all
theorem clauseD_ext {a b : ClauseD} (h1 : a.need = b.need) (h2 : a.claims = b.claims) : a = b := by cases a; cases b; simp_all
theorem nat_bne {n m : Nat} (h : n = m) : ((n : Int) != (m : Int)) = false := by subst h; simp
theorem nat_bne' {n m : Nat} (h : ¬ n = m) : ((n : Int) != (m : Int)) = true := bne_iff_ne.2 (by omega)
theorem int_bne {n m : Int} (h : n = m) : (n != m) = false := by subst h; simp

set_option maxRecDepth 100000 in
set_option maxHeartbeats 8000000 in
theorem samegoal_calls (va vb : Value) (a b : List ClauseD) (hfa : fewG a) (hfb : fewG b) (w : World) (ha : IsGoal 0 va a w) (hb : IsGoal 0 vb b w) :
    Calls Tryz.prog 11 #[va, vb] w (SameP (a = b) w) := by
  obtain ⟨aa, ca, rfl⟩ := IsSl.len ha
  obtain ⟨ab, cb, rfl⟩ := IsSl.len hb
  by_cases hl : a.length = b.length
  · have hll : a.length ≤ 5 := hfa.1
    have hne := nat_bne hl
    have HA := Lib.hid ha
    have HB := Lib.hid hb
    have HL := Lib.hid hl
    have HFA := Lib.hid hfa.2
    have HFB := Lib.hid hfb.2
    clear hl ha hb hfa hfb
    go_enter Tryz.func11, Tryz.ntmps11
    go_wp2
    go_loopw [5] (fun iv wr => ∃ k : Nat, k ≤ a.length ∧ iv = .int .i64 (k : Int) ∧ Upto a b k ∧ Below w.heap.size w wr) (fun iv _ => a.length - (intOf iv).toNat)
    case atStart => exact ⟨0, Nat.zero_le _, rfl, Upto.zero a b, Below.refl _ _⟩
    case round =>
      obtain ⟨k, hk, rfl, hup, hW⟩ := hrel
      obtain ⟨W1, hW1⟩ : ∃ W1, W1 = wr := ⟨_, rfl⟩
      subst hW1
      have HUP := Lib.hid hup
      have HW := Lib.hid hW
      clear hup hW
      by_cases hlt : k < a.length
      · have h2 : k < b.length := by rw [← HL.out]; exact hlt
        have hkn : (k : Int) < (a.length : Int) := by omega
        have hkb : (k : Int) < (b.length : Int) := by omega
        obtain ⟨bk, o1, rfl, hbk, x, hx, y0, u, y1, yu⟩ := IsSl.at HA.out k hlt
        obtain ⟨bk', o2, rfl, hbk', x', hx', z0, u', z1, zu⟩ := IsSl.at HB.out k h2
        obtain ⟨au, cu, rfl⟩ := IsSl.len yu
        obtain ⟨av, cv, rfl⟩ := IsSl.len zu
        have HE1 : Hid (a = b → x = x') := by show _ → _; intro e; subst e; rw [hx, hx']
        have HUPN : Hid (x = x' → Upto a b (k + 1)) := by show _ → _; intro e; exact HUP.out.succ hlt h2 (by rw [← hx, ← hx']; exact e)
        have hca := HFA.out x (by rw [hx]; exact List.getElem_mem _)
        have hcb := HFB.out x' (by rw [hx']; exact List.getElem_mem _)
        have hl5 := hca.1
        have hl5' := hcb.1
        have HCA := Lib.hid hca.2
        have HCB := Lib.hid hcb.2
        have HYU := Lib.hid yu
        have HZU := Lib.hid zu
        have HC := Lib.hid (And.intro y1 z1)
        have HBK := Lib.hid (And.intro hbk.2 hbk'.2)
        have s0 : W1.cell? ⟨bk, o1 + k * 2, none⟩ = some (.int .i64 x.need) := (HW.out.cell (p := ⟨bk, o1 + k * 2, none⟩) hbk.2).trans y0
        have s1 : W1.cell? ⟨bk, o1 + k * 2 + 1, none⟩ = some (.slice au x.claims.length cu) := (HW.out.cell (p := ⟨bk, o1 + k * 2 + 1, none⟩) hbk.2).trans y1
        have t0 : W1.cell? ⟨bk', o2 + k * 2, none⟩ = some (.int .i64 x'.need) := (HW.out.cell (p := ⟨bk', o2 + k * 2, none⟩) hbk'.2).trans z0
        have t1 : W1.cell? ⟨bk', o2 + k * 2 + 1, none⟩ = some (.slice av x'.claims.length cv) := (HW.out.cell (p := ⟨bk', o2 + k * 2 + 1, none⟩) hbk'.2).trans z1
        have HK := Lib.hid (And.intro hlt h2)
        clear hx hx' y0 y1 z0 z1 yu zu hca hcb hlt h2
        by_cases e1 : x.need = x'.need
        · have b1 := int_bne e1
          have HE1' := Lib.hid e1
          clear e1
          by_cases e2 : x.claims.length = x'.claims.length
          · have b2 := nat_bne e2
            have HE2 := Lib.hid e2
            clear e2
            go_wp2
            go_quiet (fail)
            go_wp2
            have HD1 := Lib.hid (fun n => below_drewN HW.out n)
            clear s0 s1 t0 t1 b1 b2
            go_loopw [6] (fun iv wr => ∃ j : Nat, j ≤ x.claims.length ∧ iv = .int .i64 (j : Int) ∧ Upto x.claims x'.claims j ∧ Below w.heap.size w wr) (fun iv _ => x.claims.length - (intOf iv).toNat)
            case atStart => exact ⟨0, Nat.zero_le _, rfl, Upto.zero _ _, HD1.out _⟩
            case round =>
              obtain ⟨j, hj, rfl, hup, hW2⟩ := hrel
              obtain ⟨W2, hWe⟩ : ∃ W2, W2 = wr := ⟨_, rfl⟩
              subst hWe
              have HUP2 := Lib.hid hup
              have HW2 := Lib.hid hW2
              clear hup hW2
              have s1 : W2.cell? ⟨bk, o1 + k * 2 + 1, none⟩ = some (.slice au x.claims.length cu) := (HW2.out.cell (p := ⟨bk, o1 + k * 2 + 1, none⟩) HBK.out.1).trans HC.out.1
              have t1 : W2.cell? ⟨bk', o2 + k * 2 + 1, none⟩ = some (.slice av x'.claims.length cv) := (HW2.out.cell (p := ⟨bk', o2 + k * 2 + 1, none⟩) HBK.out.2).trans HC.out.2
              by_cases hjlt : j < x.claims.length
              · have hj2 : j < x'.claims.length := by rw [← HE2.out]; exact hjlt
                have hjn : (j : Int) < (x.claims.length : Int) := by omega
                have hjb : (j : Int) < (x'.claims.length : Int) := by omega
                obtain ⟨bc, oc, rfl, hbc, c, hc, p0, ue, p1, pe⟩ := IsSl.at HYU.out j hjlt
                obtain ⟨bd, od, rfl, hbd, d, hd, q0, uf, q1, qe⟩ := IsSl.at HZU.out j hj2
                obtain ⟨ae, ce, rfl⟩ := IsSl.len pe
                obtain ⟨af, cf, rfl⟩ := IsSl.len qe
                have hcc := HCA.out c (by rw [hc]; exact List.getElem_mem _)
                have hcd := HCB.out d (by rw [hd]; exact List.getElem_mem _)
                have hl6 := hcc.1
                have hl6' := hcd.1
                have HCC := Lib.hid hcc.2
                have HCD := Lib.hid hcd.2
                have HE3 : Hid (a = b → c = d) := by show _ → _; intro e; have := HE1.out e; subst this; rw [hc, hd]
                have HUPN2 : Hid (c = d → Upto x.claims x'.claims (j + 1)) := by show _ → _; intro e; exact HUP2.out.succ hjlt hj2 (by rw [← hc, ← hd]; exact e)
                have m0 : W2.cell? ⟨bc, oc + j * 2, none⟩ = some (.int .i64 c.vars) := (HW2.out.cell (p := ⟨bc, oc + j * 2, none⟩) hbc.2).trans p0
                have m1 : W2.cell? ⟨bc, oc + j * 2 + 1, none⟩ = some (.slice ae c.eqs.length ce) := (HW2.out.cell (p := ⟨bc, oc + j * 2 + 1, none⟩) hbc.2).trans p1
                have lt2 : bd < W2.heap.size := Nat.lt_of_lt_of_le hbd.2 HW2.out.size
                have lt3 : bk' < W2.heap.size := Nat.lt_of_lt_of_le HBK.out.2 HW2.out.size
                have m2 : W2.cell? ⟨bd, od + j * 2, none⟩ = some (.int .i64 d.vars) := (HW2.out.cell (p := ⟨bd, od + j * 2, none⟩) hbd.2).trans q0
                have m3 : W2.cell? ⟨bd, od + j * 2 + 1, none⟩ = some (.slice af d.eqs.length cf) := (HW2.out.cell (p := ⟨bd, od + j * 2 + 1, none⟩) hbd.2).trans q1
                obtain ⟨W3, hW3⟩ : ∃ W3, W3 = (W2.alloc (.cells #[.int .i64 c.vars, .slice ae c.eqs.length ce] 66)).alloc (.cells #[.int .i64 d.vars, .slice af d.eqs.length cf] 66) := ⟨_, rfl⟩
                have hal := below_one W2 (.cells #[.int .i64 c.vars, .slice ae c.eqs.length ce] 66)
                have hal2 := below_one (W2.alloc (.cells #[.int .i64 c.vars, .slice ae c.eqs.length ce] 66)) (.cells #[.int .i64 d.vars, .slice af d.eqs.length cf] 66)
                have n2 := (hal.cell (p := ⟨bd, od + j * 2, none⟩) lt2).trans m2
                have n3 := (hal.cell (p := ⟨bd, od + j * 2 + 1, none⟩) lt2).trans m3
                have n1 := (hal.cell (p := ⟨bk', o2 + k * 2 + 1, none⟩) lt3).trans t1
                have BX := (Blk.new W2 66 #[.int .i64 c.vars, .slice ae c.eqs.length ce]).next hal2
                have BY := Blk.new (W2.alloc (.cells #[.int .i64 c.vars, .slice ae c.eqs.length ce] 66)) 66 #[.int .i64 d.vars, .slice af d.eqs.length cf]
                have hBW3 := (HW2.out.trans (hal.mono HW2.out.size)).trans (hal2.mono (HW2.out.trans (hal.mono HW2.out.size)).size)
                rw [← hW3] at BX BY hBW3
                rw [World.size_alloc] at BY
                have HBX := Lib.hid BX
                have HBY := Lib.hid BY
                have HBW3 := Lib.hid hBW3
                have HPE := Lib.hid pe
                have HQE := Lib.hid qe
                have x0 := BX.cell 0
                have x1 := BX.cell 1
                have w0 := BY.cell 0
                have w1 := BY.cell 1
                have HW3 := Lib.hid hW3
                rw [hW3] at x0 x1 w0 w1
                have HJ := Lib.hid (And.intro hjlt hj2)
                clear hc hd p0 p1 q0 q1 pe qe hcc hcd hal hal2 BX BY hBW3 m2 m3 hW3 hjlt hj2
                by_cases e3 : c.vars = d.vars
                · have b3 := int_bne e3
                  have HE3' := Lib.hid e3
                  clear e3
                  by_cases e4 : c.eqs.length = d.eqs.length
                  · have b4 := nat_bne e4
                    have HE4 := Lib.hid e4
                    clear e4
                    go_wp2
                    rw [← HW3.out]
                    clear x0 x1 w0 w1 n1 n2 n3 m0 m1 s1 t1 b3 b4
                    go_loopw [9] (fun iv wr => ∃ q : Nat, q ≤ c.eqs.length ∧ iv = .int .i64 (q : Int) ∧ Upto c.eqs d.eqs q ∧ Below W3.heap.size W3 wr) (fun iv _ => c.eqs.length - (intOf iv).toNat)
                    case atStart => exact ⟨0, Nat.zero_le _, rfl, Upto.zero _ _, Below.refl _ _⟩
                    case round =>
                      obtain ⟨q, hq, rfl, hup, hW4⟩ := hrel
                      obtain ⟨W4, hWe⟩ : ∃ W4, W4 = wr := ⟨_, rfl⟩
                      subst hWe
                      have hBW4 := HBW3.out.trans (hW4.mono HBW3.out.size)
                      have HUP3 := Lib.hid hup
                      have HW4 := Lib.hid hW4
                      have HB4 := Lib.hid hBW4
                      have x1 := (HBX.out.next hW4).cell 1
                      have w1 := (HBY.out.next hW4).cell 1
                      clear hup hW4
                      by_cases hqlt : q < c.eqs.length
                      · have hq2 : q < d.eqs.length := by rw [← HE4.out]; exact hqlt
                        have hqn : (q : Int) < (c.eqs.length : Int) := by omega
                        have hqb : (q : Int) < (d.eqs.length : Int) := by omega
                        obtain ⟨be, oe, rfl, hbe, e, he, r0, ut, r1, rt⟩ := IsSl.at HPE.out q hqlt
                        obtain ⟨bf, of', rfl, hbf, f, hf, v0, uu, v1, vt⟩ := IsSl.at HQE.out q hq2
                        obtain ⟨at1, ct1, rfl⟩ := IsSl.len rt
                        obtain ⟨at2, ct2, rfl⟩ := IsSl.len vt
                        have hl7 := HCC.out e (by rw [he]; exact List.getElem_mem _)
                        have hl7' := HCD.out f (by rw [hf]; exact List.getElem_mem _)
                        have HE5 : Hid (a = b → e = f) := by show _ → _; intro h; have := HE3.out h; subst this; rw [he, hf]
                        have HUPN3 : Hid (e = f → Upto c.eqs d.eqs (q + 1)) := by show _ → _; intro h; exact HUP3.out.succ hqlt hq2 (by rw [← he, ← hf]; exact h)
                        have g0 : W4.cell? ⟨be, oe + q * 2, none⟩ = some (.int .i64 e.target) := (hBW4.cell (p := ⟨be, oe + q * 2, none⟩) hbe.2).trans r0
                        have g1 : W4.cell? ⟨be, oe + q * 2 + 1, none⟩ = some (.slice at1 e.terms.length ct1) := (hBW4.cell (p := ⟨be, oe + q * 2 + 1, none⟩) hbe.2).trans r1
                        have g2 : W4.cell? ⟨bf, of' + q * 2, none⟩ = some (.int .i64 f.target) := (hBW4.cell (p := ⟨bf, of' + q * 2, none⟩) hbf.2).trans v0
                        have g3 : W4.cell? ⟨bf, of' + q * 2 + 1, none⟩ = some (.slice at2 f.terms.length ct2) := (hBW4.cell (p := ⟨bf, of' + q * 2 + 1, none⟩) hbf.2).trans v1
                        have HR := Lib.hid (And.intro r1 v1)
                        have HBE := Lib.hid (And.intro hbe.2 hbf.2)
                        have HRT := Lib.hid rt
                        have HVT := Lib.hid vt
                        have HQ := Lib.hid (And.intro hqlt hq2)
                        clear he hf r0 r1 v0 v1 rt vt hqlt hq2 hBW4
                        by_cases e5 : e.target = f.target
                        · have b5 := int_bne e5
                          have HE5' := Lib.hid e5
                          clear e5
                          by_cases e6 : e.terms.length = f.terms.length
                          · have b6 := nat_bne e6
                            have HE6 := Lib.hid e6
                            clear e6
                            go_wp2
                            go_quiet (fail)
                            go_wp2
                            clear g0 g1 g2 g3 x1 w1 b5 b6
                            go_loopw [10] (fun iv wr => ∃ m : Nat, m ≤ e.terms.length ∧ iv = .int .i64 (m : Int) ∧ Upto e.terms f.terms m ∧ Below W4.heap.size W4 wr) (fun iv _ => e.terms.length - (intOf iv).toNat)
                            case atStart => exact ⟨0, Nat.zero_le _, rfl, Upto.zero _ _, below_drewN (Below.refl _ _) _⟩
                            case round =>
                              obtain ⟨m, hm, rfl, hup, hW5⟩ := hrel
                              obtain ⟨W5, hWe⟩ : ∃ W5, W5 = wr := ⟨_, rfl⟩
                              subst hWe
                              have hBW5 := HB4.out.trans (hW5.mono HB4.out.size)
                              have HUP4 := Lib.hid hup
                              have HW5 := Lib.hid hW5
                              have HB5 := Lib.hid hBW5
                              have x1 := ((HBX.out.next HW4.out).next hW5).cell 1
                              have w1 := ((HBY.out.next HW4.out).next hW5).cell 1
                              have g1 : W5.cell? ⟨be, oe + q * 2 + 1, none⟩ = some (.slice at1 e.terms.length ct1) := (hBW5.cell (p := ⟨be, oe + q * 2 + 1, none⟩) HBE.out.1).trans HR.out.1
                              have g3 : W5.cell? ⟨bf, of' + q * 2 + 1, none⟩ = some (.slice at2 f.terms.length ct2) := (hBW5.cell (p := ⟨bf, of' + q * 2 + 1, none⟩) HBE.out.2).trans HR.out.2
                              clear hup hW5
                              by_cases hmlt : m < e.terms.length
                              · have hm2 : m < f.terms.length := by rw [← HE6.out]; exact hmlt
                                have hmn : (m : Int) < (e.terms.length : Int) := by omega
                                have hmb : (m : Int) < (f.terms.length : Int) := by omega
                                obtain ⟨bt, ot, rfl, hbt, t, ht, k0, k1⟩ := IsSl.at HRT.out m hmlt
                                obtain ⟨bu, ou, rfl, hbu, r, hr, l0, l1⟩ := IsSl.at HVT.out m hm2
                                have HE7 : Hid (a = b → t = r) := by show _ → _; intro h; have := HE5.out h; subst this; rw [ht, hr]
                                have HUPN4 : Hid (t = r → Upto e.terms f.terms (m + 1)) := by show _ → _; intro h; exact HUP4.out.succ hmlt hm2 (by rw [← ht, ← hr]; exact h)
                                have i0 : W5.cell? ⟨bt, ot + m * 2, none⟩ = some (.int .i64 t.1) := (hBW5.cell (p := ⟨bt, ot + m * 2, none⟩) hbt.2).trans k0
                                have i1 : W5.cell? ⟨bt, ot + m * 2 + 1, none⟩ = some (.int .i64 t.2) := (hBW5.cell (p := ⟨bt, ot + m * 2 + 1, none⟩) hbt.2).trans k1
                                have i2 : W5.cell? ⟨bu, ou + m * 2, none⟩ = some (.int .i64 r.1) := (hBW5.cell (p := ⟨bu, ou + m * 2, none⟩) hbu.2).trans l0
                                have i3 : W5.cell? ⟨bu, ou + m * 2 + 1, none⟩ = some (.int .i64 r.2) := (hBW5.cell (p := ⟨bu, ou + m * 2 + 1, none⟩) hbu.2).trans l1
                                have HM := Lib.hid (show m + 1 ≤ e.terms.length from hmlt)
                                clear ht hr k0 k1 l0 l1 hmlt hm2 hBW5
                                by_cases e7 : t.1 = r.1
                                · have b7 := int_bne e7
                                  by_cases e8 : t.2 = r.2
                                  · have b8 := int_bne e8
                                    have HN : Hid (Upto e.terms f.terms (m + 1)) := HUPN4.out (Prod.ext e7 e8)
                                    clear e7 e8
                                    go_wp2
                                    go_quiet (fail)
                                    go_wp2
                                    go_roundw
                                    case rel => exact ⟨m + 1, HM.out, by go_num, HN.out, below_drewN HW5.out _⟩
                                    case measure => have := HM.out; simp [intOf]; omega
                                  · have b8 : (t.2 != r.2) = true := bne_iff_ne.2 e8
                                    have HF : Hid (¬ a = b) := by show ¬ _; intro h; exact e8 (by rw [HE7.out h])
                                    clear e7 e8
                                    go_wp2
                                    go_quiet (fail)
                                    go_wp2
                                    go_ret
                                    exact SameP.no HF.out (below_drewN HB5.out _)
                                · have b7 : (t.1 != r.1) = true := bne_iff_ne.2 e7
                                  have HF : Hid (¬ a = b) := by show ¬ _; intro h; exact e7 (by rw [HE7.out h])
                                  clear e7
                                  go_wp2
                                  go_quiet (fail)
                                  go_wp2
                                  go_ret
                                  exact SameP.no HF.out (below_drewN HB5.out _)
                              · obtain rfl : m = e.terms.length := by omega
                                have HN : Hid (Upto c.eqs d.eqs (q + 1)) := HUPN3.out (eqD_ext HE5'.out (Upto.all HE6.out HUP4.out))
                                have HKL := Lib.hid (show q + 1 ≤ c.eqs.length from HQ.out.1)
                                have HBF := Lib.hid (HW4.out.trans (HW5.out.mono HW4.out.size))
                                clear hmlt hBW5
                                go_wp2
                                go_roundw
                                case rel => exact ⟨q + 1, HKL.out, by go_num, HN.out, HBF.out⟩
                                case measure => have := HKL.out; simp [intOf]; omega
                          · have b6 := nat_bne' e6
                            have HF : Hid (¬ a = b) := by show ¬ _; intro h; exact e6 (by rw [HE5.out h])
                            clear e6
                            go_wp2
                            go_quiet (fail)
                            go_wp2
                            go_ret
                            exact SameP.no HF.out (below_drewN HB4.out _)
                        · have b5 : (e.target != f.target) = true := bne_iff_ne.2 e5
                          have HF : Hid (¬ a = b) := by show ¬ _; intro h; exact e5 (by rw [HE5.out h])
                          clear e5
                          go_wp2
                          go_quiet (fail)
                          go_wp2
                          go_ret
                          exact SameP.no HF.out (below_drewN HB4.out _)
                      · obtain rfl : q = c.eqs.length := by omega
                        have HN : Hid (Upto x.claims x'.claims (j + 1)) := HUPN2.out (claimD_ext HE3'.out (Upto.all HE4.out HUP3.out))
                        have HKL := Lib.hid (show j + 1 ≤ x.claims.length from HJ.out.1)
                        clear hqlt hBW4
                        go_wp2
                        go_roundw
                        case rel => exact ⟨j + 1, HKL.out, by go_num, HN.out, HB4.out⟩
                        case measure => have := HKL.out; simp [intOf]; omega
                  · have b4 := nat_bne' e4
                    have HF : Hid (¬ a = b) := by show ¬ _; intro e; exact e4 (by rw [HE3.out e])
                    clear e4
                    go_wp2
                    go_ret
                    rw [← HW3.out]
                    exact SameP.no HF.out HBW3.out
                · have b3 : (c.vars != d.vars) = true := bne_iff_ne.2 e3
                  have HF : Hid (¬ a = b) := by show ¬ _; intro e; exact e3 (by rw [HE3.out e])
                  clear e3
                  go_wp2
                  go_ret
                  rw [← HW3.out]
                  exact SameP.no HF.out HBW3.out
              · obtain rfl : j = x.claims.length := by omega
                have HN : Hid (Upto a b (k + 1)) := HUPN.out (clauseD_ext HE1'.out (Upto.all HE2.out HUP2.out))
                have HKL := Lib.hid (show k + 1 ≤ a.length from HK.out.1)
                clear hjlt
                go_wp2
                go_roundw
                case rel => exact ⟨k + 1, HKL.out, by go_num, HN.out, HW2.out⟩
                case measure => have := HKL.out; simp [intOf]; omega
          · have b2 := nat_bne' e2
            have HF : Hid (¬ a = b) := by show ¬ _; intro e; exact e2 (by rw [HE1.out e])
            clear e2
            go_wp2
            go_quiet (fail)
            go_wp2
            go_ret
            exact SameP.no HF.out (below_drewN HW.out _)
        · have b1 : (x.need != x'.need) = true := bne_iff_ne.2 e1
          have HF : Hid (¬ a = b) := by show ¬ _; intro e; exact e1 (by rw [HE1.out e])
          clear e1
          go_wp2
          go_quiet (fail)
          go_wp2
          go_ret
          exact SameP.no HF.out (below_drewN HW.out _)
      · obtain rfl : k = a.length := by omega
        have HF : Hid (a = b) := by show _ = _; exact Upto.all HL.out HUP.out
        clear hlt
        go_wp2
        go_ret
        exact SameP.yes HF.out HW.out
  · have HF : Hid (¬ a = b) := by show ¬ _; intro e; exact hl (by rw [e])
    have hne := nat_bne' hl
    clear hl ha hb hfa hfb
    go_enter Tryz.func11, Tryz.ntmps11
    go_wp2
    go_ret
    exact SameP.no HF.out (Below.refl _ _)
end Go.Proofs.YthnkfjjgccabeaaGreatDoor
