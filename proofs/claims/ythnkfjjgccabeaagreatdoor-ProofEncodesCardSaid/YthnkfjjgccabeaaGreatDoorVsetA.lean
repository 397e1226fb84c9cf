/- Which setups are valid. -/
import Derived.Test.YthnkfjjgccabeaaGreatDoorSl
import Derived.Deep.RegionHeld3
import Derived.Deep.QuietTactic
import Derived.BigQuiet
namespace Go.Proofs.YthnkfjjgccabeaaGreatDoor
open Go.RowKit

/-- A setup, passed by value, and its block. -/
def SetD.val (s : SetD) (vb : Value) : Value := .agg #[.int .i64 s.P, .int .i64 s.Q, .int .i64 s.G, vb, .int .i64 s.H]
def SetD.cells (s : SetD) (vb : Value) : Array Value := #[.int .i64 s.P, .int .i64 s.Q, .int .i64 s.G, vb, .int .i64 s.H]
/-- All numbers of a setup are ints. -/
structure SetD.ints (s : SetD) : Prop where
  P : isInt s.P
  Q : isInt s.Q
  G : isInt s.G
  H : isInt s.H
  bs : ∀ x ∈ s.bs, isInt x
  len : s.bs.length ≤ 9223372036854775807

set_option maxHeartbeats 1000000 in
theorem isel_calls (P Q G x : Int) (hQ : isInt Q) (hx : isInt x) (w : World) :
    Calls Tryz.prog 40 #[.agg #[.int .i64 P, .int .i64 Q, .int .i64 G], .int .i64 x] w fun e w' => e = .returned (.bool (subB P Q x)) ∧ Below w.heap.size w w' := by
  have hb := below_one w (.cells #[.int .i64 P, .int .i64 Q, .int .i64 G] 31)
  have cp := fun w => Lib.hid (pow_calls P x Q hx hQ w)
  by_cases h1 : 1 ≤ x
  · have d1 : decide (1 ≤ x) = true := decide_eq_true h1
    by_cases h2 : x < P
    · have d2 : decide (x < P) = true := decide_eq_true h2
      have HR : Hid (subB P Q x = decide (powZ P x Q = 1)) := by show subB P Q x = _; unfold subB; rw [d1, d2]; simp
      generalize powZ P x Q = v at *
      go_enter Tryz.func40, Tryz.ntmps40
      go_wp2_with fail
      generalize (w.alloc (.cells #[.int .i64 P, .int .i64 Q, .int .i64 G] 31)) = W0 at *
      have h9 := (cp W0).out
      clear cp
      refine Calls.mono h9 ?_
      rintro e w' ⟨rfl, m, rfl⟩
      go_wp2
      go_ret
      refine ⟨ret_b ?_, below_drewN hb _⟩
      rw [HR.out]
      by_cases hv : v = 1 <;> simp [hv]
    · have d2 : decide (x < P) = false := decide_eq_false h2
      have HR : Hid (subB P Q x = false) := by show subB P Q x = _; unfold subB; rw [d1, d2]; simp
      go_enter Tryz.func40, Tryz.ntmps40
      go_wp2
      go_ret
      exact ⟨ret_b HR.out.symm, hb⟩
  · have d1 : decide (1 ≤ x) = false := decide_eq_false h1
    have HR : Hid (subB P Q x = false) := by show subB P Q x = _; unfold subB; rw [d1]; simp
    go_enter Tryz.func40, Tryz.ntmps40
    go_wp2
    go_ret
    exact ⟨ret_b HR.out.symm, hb⟩

theorem isexp_calls (q x : Int) (w : World) : Calls Tryz.prog 43 #[.int .i64 q, .int .i64 x] w fun e w' => e = .returned (.bool (exB q x)) ∧ w = w' := by
  by_cases h1 : 0 ≤ x
  · have d1 : decide (0 ≤ x) = true := decide_eq_true h1
    have HR : Hid (exB q x = decide (x < q)) := by show exB q x = _; unfold exB; rw [d1]; rfl
    go_enter Tryz.func43, Tryz.ntmps43
    go_wp2
    go_ret
    exact ⟨ret_b HR.out.symm, rfl⟩
  · have d1 : decide (0 ≤ x) = false := decide_eq_false h1
    have HR : Hid (exB q x = false) := by show exB q x = _; unfold exB; rw [d1]; rfl
    go_enter Tryz.func43, Tryz.ntmps43
    go_wp2
    go_ret
    exact ⟨ret_b HR.out.symm, rfl⟩

theorem arebases_calls (a : Option Addr) (n c : Nat) (w : World) : Calls Tryz.prog 64 #[.slice a n c] w fun e w' => e = .returned (.bool (lenB 2 7 n)) ∧ w = w' := by
  by_cases h1 : (2 : Int) ≤ (n : Int)
  · have d1 : decide ((2 : Int) ≤ (n : Int)) = true := decide_eq_true h1
    have HR : Hid (lenB 2 7 n = decide ((n : Int) ≤ 7)) := by show lenB 2 7 n = _; unfold lenB; rw [d1]; rfl
    go_enter Tryz.func64, Tryz.ntmps64
    go_wp2
    go_ret
    exact ⟨ret_b HR.out.symm, rfl⟩
  · have d1 : decide ((2 : Int) ≤ (n : Int)) = false := decide_eq_false h1
    have HR : Hid (lenB 2 7 n = false) := by show lenB 2 7 n = _; unfold lenB; rw [d1]; rfl
    go_enter Tryz.func64, Tryz.ntmps64
    go_wp2
    go_ret
    exact ⟨ret_b HR.out.symm, rfl⟩
theorem arebits_calls (a : Option Addr) (n c : Nat) (w : World) : Calls Tryz.prog 39 #[.slice a n c] w fun e w' => e = .returned (.bool (lenB 1 60 n)) ∧ w = w' := by
  by_cases h1 : (1 : Int) ≤ (n : Int)
  · have d1 : decide ((1 : Int) ≤ (n : Int)) = true := decide_eq_true h1
    have HR : Hid (lenB 1 60 n = decide ((n : Int) ≤ 60)) := by show lenB 1 60 n = _; unfold lenB; rw [d1]; rfl
    go_enter Tryz.func39, Tryz.ntmps39
    go_wp2
    go_ret
    exact ⟨ret_b HR.out.symm, rfl⟩
  · have d1 : decide ((1 : Int) ≤ (n : Int)) = false := decide_eq_false h1
    have HR : Hid (lenB 1 60 n = false) := by show lenB 1 60 n = _; unfold lenB; rw [d1]; rfl
    go_enter Tryz.func39, Tryz.ntmps39
    go_wp2
    go_ret
    exact ⟨ret_b HR.out.symm, rfl⟩

/-- A setup in its block. -/
def SetAt (s : SetD) (vb : Value) (b : Nat) (w : World) : Prop := Blk w b 34 (s.cells vb)
theorem SetAt.next {s : SetD} {vb : Value} {b : Nat} {w w' : World} (h : SetAt s vb b w) (hb : Below w.heap.size w w') : SetAt s vb b w' := Blk.next h hb
theorem SetAt.get {s : SetD} {vb : Value} {b : Nat} {w : World} (h : SetAt s vb b w) :
    w.cell? ⟨b, 0, none⟩ = some (.int .i64 s.P) ∧ w.cell? ⟨b, 1, none⟩ = some (.int .i64 s.Q) ∧ w.cell? ⟨b, 2, none⟩ = some (.int .i64 s.G) ∧ w.cell? ⟨b, 3, none⟩ = some vb ∧ w.cell? ⟨b, 4, none⟩ = some (.int .i64 s.H) :=
  ⟨Blk.cell h 0, Blk.cell h 1, Blk.cell h 2, Blk.cell h 3, Blk.cell h 4⟩
set_option maxHeartbeats 1000000 in
theorem isbase_calls (s : SetD) (vb : Value) (b : Nat) (hi : s.ints) (x : Int) (hx : isInt x) (w : World) (h : SetAt s vb b w) :
    Calls Tryz.prog 62 #[.int .i64 x, .pointer (some ⟨b, 0, none⟩)] w fun e w' => e = .returned (.bool (s.base x)) ∧ Below w.heap.size w w' := by
  have c1 := Lib.hid (isel_calls s.P s.Q s.G x hi.Q hx w)
  obtain ⟨z0, z1, z2, -, -⟩ := h.get
  by_cases h1 : x = 1
  · have d1 : (x != 1) = false := by simp [h1]
    have HR : Hid (s.base x = false) := by show s.base x = _; unfold SetD.base; rw [h1]; rfl
    clear h1 c1
    go_enter Tryz.func62, Tryz.ntmps62
    go_wp2
    go_ret
    exact ⟨ret_b HR.out.symm, Below.refl _ _⟩
  · have d1 : (x != 1) = true := by simp [h1]
    have HR : Hid (s.base x = subB s.P s.Q x) := by show s.base x = _; unfold SetD.base SetD.el; rw [decide_eq_true h1]; rfl
    clear h1
    go_enter Tryz.func62, Tryz.ntmps62
    go_wp2_with fail
    refine Calls.mono c1.out ?_
    rintro e w' ⟨rfl, hb⟩
    go_wp2
    go_ret
    exact ⟨ret_b HR.out.symm, hb⟩
end Go.Proofs.YthnkfjjgccabeaaGreatDoor
/- ValidSetup. -/
namespace Go.Proofs.YthnkfjjgccabeaaGreatDoor
open Go.RowKit

theorem all_drop {α : Type} (p : α → Bool) (l : List α) (k : Nat) (h : k < l.length) : (l.drop k).all p = (p l[k] && (l.drop (k + 1)).all p) := by
  rw [List.drop_eq_getElem_cons h, List.all_cons]
theorem and_of {a b c : Bool} (ha : a = true) (h : b = c) : (a && b) = c := by rw [ha, h]; rfl
theorem ff_of {a b : Bool} (ha : a = false) : (a && b) = false := by rw [ha]; rfl
set_option maxRecDepth 100000 in
set_option maxHeartbeats 2000000 in
theorem vset_calls (s : SetD) (hi : s.ints) (vb : Value) (w : World) (hE : Env w) (hv : IsNums vb s.bs w) :
    Calls Tryz.prog 38 #[s.val vb] w fun e w' => e = .returned (.bool s.valid) ∧ Below w.heap.size w w' := by
  obtain ⟨a, cap, rfl⟩ := hv.len
  have hb := below_one w (.cells (s.cells (.slice a s.bs.length cap)) 34)
  have hS : SetAt s (.slice a s.bs.length cap) w.heap.size (w.alloc (.cells (s.cells (.slice a s.bs.length cap)) 34)) := Blk.new w _ _
  have c1 := fun w hE => Lib.hid (valid_calls s.P s.Q s.G hi.P hi.Q hi.G w hE)
  have c2 := fun w => Lib.hid (arebases_calls a s.bs.length cap w)
  have c3 := fun x hx w h => Lib.hid (isbase_calls s (.slice a s.bs.length cap) w.heap.size hi x hx w h)
  have c3' := fun (x : Int) (hx : isInt x) (w' : World) (h : SetAt s (.slice a s.bs.length cap) w.heap.size w') => Lib.hid (isbase_calls s (.slice a s.bs.length cap) w.heap.size hi x hx w' h)
  clear c3
  have HR : Hid (s.valid = (validB s.P s.Q s.G && (lenB 2 7 s.bs.length && (s.base s.H && s.bs.all s.base)))) := rfl
  have hE0 := hE.next hb
  have hIH := hi.H
  have hIB := Lib.hid hi.bs
  have hLn := hi.len
  obtain ⟨vg, hvg⟩ : ∃ v, v = validB s.P s.Q s.G := ⟨_, rfl⟩
  obtain ⟨ab, hab⟩ : ∃ v, v = lenB 2 7 s.bs.length := ⟨_, rfl⟩
  rw [← hvg] at HR c1
  rw [← hab] at HR c2
  clear hvg hab hE hi
  unfold SetD.val
  go_enter Tryz.func38, Tryz.ntmps38
  go_wp2_with fail
  unfold SetD.cells at hS hb hE0
  generalize (w.alloc (.cells #[.int .i64 s.P, .int .i64 s.Q, .int .i64 s.G, .slice a s.bs.length cap, .int .i64 s.H] 34)) = W0 at *
  have hS0 : SetAt s (.slice a s.bs.length cap) w.heap.size W0 := hS
  clear hS
  have h9 := (c1 W0 hE0).out
  clear c1 hE0
  refine Calls.mono h9 ?_
  rintro e w1 ⟨rfl, hb1⟩
  have hS1 := hS0.next hb1
  have hbb := hb.trans (hb1.mono hb.size)
  clear hb hb1 hS0 h9
  obtain ⟨z0, z1, z2, z3, z4⟩ := hS1.get
  cases vg
  · have HF : Hid (s.valid = false) := by show s.valid = _; rw [HR.out]; rfl
    go_wp2
    go_ret
    exact ⟨ret_b HF.out.symm, hbb⟩
  · go_wp2_with fail
    refine Calls.mono (c2 w1).out ?_
    clear c2
    rintro e w2 ⟨rfl, rfl⟩
    cases ab
    · have HF : Hid (s.valid = false) := by show s.valid = _; rw [HR.out]; rfl
      go_wp2
      go_ret
      exact ⟨ret_b HF.out.symm, hbb⟩
    · go_wp2_with fail
      have c4 := c3' s.H hIH w1 hS1
      obtain ⟨bh, hbh⟩ : ∃ v, v = s.base s.H := ⟨_, rfl⟩
      rw [← hbh] at HR c4
      clear hbh
      refine Calls.mono c4.out ?_
      clear c4
      rintro e w3 ⟨rfl, hb3⟩
      have hS3 := hS1.next hb3
      have hb4 := hbb.trans (hb3.mono hbb.size)
      clear hbb hb3 hS1 z0 z1 z2 z3 z4
      obtain ⟨z0, z1, z2, z3, z4⟩ := hS3.get
      cases bh
      · have HF : Hid (s.valid = false) := by show s.valid = _; rw [HR.out]; rfl
        go_wp2
        go_ret
        exact ⟨ret_b HF.out.symm, hb4⟩
      · have HV : Hid (s.valid = s.bs.all s.base) := by show s.valid = _; rw [HR.out]; rfl
        clear HR
        go_wp2
        go_loopw [27] (fun i wr => ∃ k : Nat, k ≤ s.bs.length ∧ i = .int .i64 k ∧ (s.bs.drop k).all s.base = s.valid ∧ SetAt s (.slice a s.bs.length cap) w.heap.size wr ∧ Below w.heap.size w wr) (fun i _ => s.bs.length - (intOf i).toNat)
        case atStart => exact ⟨0, Nat.zero_le _, rfl, HV.out.symm, hS3, hb4⟩
        case round =>
          clear hS3 hb4 z0 z1 z2 z3 z4 HV
          obtain ⟨k, hk, rfl, hal, hSr, hbr⟩ := hrel
          by_cases hlt : k < s.bs.length
          · obtain ⟨bk, off, rfl, _, x, hx, z0⟩ := (hv.next hbr).at k hlt
            have hxi := hIB.out _ (List.getElem_mem hlt)
            have HA := Lib.hid ((all_drop s.base s.bs k hlt).symm.trans hal)
            clear hal
            rw [← hx] at hxi HA
            clear hx
            have c4 := c3' x hxi wr hSr
            obtain ⟨bx, hbx⟩ : ∃ v, v = s.base x := ⟨_, rfl⟩
            rw [← hbx] at HA c4
            have hkl : (k : Int) < (s.bs.length : Int) := by omega
            have HS := Lib.hid hSr
            have HB := Lib.hid hbr
            clear hbx c3' hSr hbr
            go_wp2_with fail
            refine Calls.mono c4.out ?_
            clear c4
            rintro e w3 ⟨rfl, hb3⟩
            cases bx
            · have HF : Hid (s.valid = false) := by show s.valid = _; rw [← HA.out]; rfl
              go_wp2
              go_ret
              exact ⟨ret_b HF.out.symm, HB.out.trans (hb3.mono HB.out.size)⟩
            · have HA2 : Hid ((s.bs.drop (k + 1)).all s.base = s.valid) := by show _ = s.valid; rw [← HA.out]; rfl
              clear HA
              go_wp2
              go_roundw
              case rel => exact ⟨k + 1, by omega, by go_num, HA2.out, HS.out.next hb3, HB.out.trans (hb3.mono HB.out.size)⟩
              case measure => simp [intOf]; omega
          · obtain rfl : k = s.bs.length := by omega
            have HF : Hid (s.valid = true) := by show s.valid = _; rw [← hal, List.drop_length]; rfl
            clear hal
            go_wp2
            go_ret
            exact ⟨ret_b HF.out.symm, hbr⟩
end Go.Proofs.YthnkfjjgccabeaaGreatDoor
/- Commitments. -/
namespace Go.Proofs.YthnkfjjgccabeaaGreatDoor
open Go.RowKit

/-- A call as it is met behind a world: these arguments, this value, nothing that was there has turned. -/
def DoesB (w0 : World) (f : FuncId) (args : Array Value) (v : Value) : Prop :=
  ∀ (args' : Array Value) (w : World), args' = args → Below w0.heap.size w0 w → Calls Tryz.prog f args' w fun e w' => e = .returned v ∧ Below w0.heap.size w0 w'
theorem DoesB.mk {w0 : World} {f : FuncId} {args : Array Value} {u v : Value} (hv : u = v) (h : ∀ w, Below w0.heap.size w0 w → Calls Tryz.prog f args w fun e w' => e = .returned u ∧ Below w.heap.size w w') : DoesB w0 f args v := by
  intro args' w he hb
  subst he
  exact (h w hb).mono fun _ _ ⟨a, b⟩ => ⟨by rw [a, hv], hb.trans (b.mono hb.size)⟩
theorem DoesB.same {w0 : World} {f : FuncId} {args : Array Value} {u v : Value} (hv : u = v) (h : ∀ w, Below w0.heap.size w0 w → Calls Tryz.prog f args w fun e w' => e = .returned u ∧ w = w') : DoesB w0 f args v := by
  intro args' w he hb
  subst he
  exact (h w hb).mono fun _ _ ⟨a, b⟩ => ⟨by rw [a, hv], b ▸ hb⟩
theorem DoesB.ret {w0 : World} {f : FuncId} {args : Array Value} {u v : Value} (hv : u = v) (h : ∀ w, Below w0.heap.size w0 w → Calls Tryz.prog f args w (Ret u w)) : DoesB w0 f args v := by
  intro args' w he hb
  subst he
  exact (h w hb).mono fun _ _ ⟨a, n, b⟩ => ⟨by rw [a, hv], b ▸ below_drewN hb n⟩
theorem int_eq {a b : Int} (h : a = b) : Value.int .i64 a = Value.int .i64 b := by rw [h]
theorem gPow_int (P Q x k : Int) : isInt (gPow P Q x k) := by
  unfold gPow
  split
  · exact powZ_int _ _ _
  · unfold isInt; omega
theorem mulZ_int (n a b : Int) : isInt (mulZ n a b) := by
  by_cases hn : isMod n
  · exact isInt_res hn (mulZ_in hn a b)
  · unfold mulZ isInt; rw [if_neg hn]; omega
theorem addZ_int (n a b : Int) : isInt (addZ n a b) := by
  by_cases hn : isMod n
  · exact isInt_res hn (addZ_in hn a b)
  · unfold addZ isInt; rw [if_neg hn]; omega
theorem subZ_int (n a b : Int) : isInt (subZ n a b) := by
  by_cases hn : isMod n
  · exact isInt_res hn (by rw [subZ_eq hn]; exact res_in n _ hn)
  · unfold subZ isInt; rw [if_neg hn]; omega
theorem gTimes_int (P Q a b : Int) : isInt (gTimes P Q a b) := by
  unfold gTimes
  split
  · exact mulZ_int _ _ _
  · unfold isInt; omega
theorem gOver_int (P Q a b : Int) : isInt (gOver P Q a b) := by
  unfold gOver
  split
  · exact mulZ_int _ _ _
  · unfold isInt; omega
theorem SetD.com_int (s : SetD) (v r : Int) : isInt (s.com v r) := gTimes_int _ _ _ _

set_option maxRecDepth 100000 in
set_option maxHeartbeats 2000000 in
theorem commit_calls (s : SetD) (hi : s.ints) (vb : Value) (v r : Int) (hv : isInt v) (hr : isInt r) (w : World) :
    Calls Tryz.prog 44 #[s.val vb, .int .i64 v, .int .i64 r] w fun e w' => e = .returned (.int .i64 (s.com v r)) ∧ Below w.heap.size w w' := by
  have hb := below_one w (.cells (s.cells vb) 34)
  have hS : SetAt s vb w.heap.size (w.alloc (.cells (s.cells vb) 34)) := Blk.new w _ _
  unfold SetD.val
  unfold SetD.cells at hS hb
  have hT := gTimes_int s.P s.Q (gPow s.P s.Q s.G v) (gPow s.P s.Q s.H r)
  have hX := gPow_int s.P s.Q s.G v
  have hY := gPow_int s.P s.Q s.H r
  have HC : Hid (gTimes s.P s.Q (gPow s.P s.Q s.G v) (gPow s.P s.Q s.H r) = s.com v r) := rfl
  have k1 := fun w0 => Lib.hid (DoesB.mk (w0 := w0) (v := .int .i64 (gPow s.P s.Q s.G v)) rfl (fun w _ => power_calls s.P s.Q s.G s.G v hi.G hv w))
  have k2 := fun w0 => Lib.hid (DoesB.mk (w0 := w0) (v := .int .i64 (gPow s.P s.Q s.H r)) rfl (fun w _ => power_calls s.P s.Q s.G s.H r hi.H hr w))
  have k3 := fun w0 => Lib.hid (DoesB.mk (w0 := w0) (v := .int .i64 (gTimes s.P s.Q (gPow s.P s.Q s.G v) (gPow s.P s.Q s.H r))) rfl (fun w _ => times_calls s.P s.Q s.G _ _ hX hY w))
  generalize gTimes s.P s.Q (gPow s.P s.Q s.G v) (gPow s.P s.Q s.H r) = T at *
  generalize gPow s.P s.Q s.G v = X at *
  generalize gPow s.P s.Q s.H r = Y at *
  clear hT hX hY hv hr hi
  go_enter Tryz.func44, Tryz.ntmps44
  go_wp2_with fail
  generalize (w.alloc (.cells #[.int .i64 s.P, .int .i64 s.Q, .int .i64 s.G, vb, .int .i64 s.H] 34)) = W0 at *
  have hS0 : SetAt s vb w.heap.size W0 := hS
  have HK : Hid (∀ w', Below W0.heap.size W0 w' → w'.cell? ⟨w.heap.size, 0, none⟩ = some (.int .i64 s.P) ∧ w'.cell? ⟨w.heap.size, 1, none⟩ = some (.int .i64 s.Q) ∧ w'.cell? ⟨w.heap.size, 2, none⟩ = some (.int .i64 s.G) ∧ w'.cell? ⟨w.heap.size, 4, none⟩ = some (.int .i64 s.H) ∧ Below W0.heap.size W0 w') := by
    show ∀ w', Below W0.heap.size W0 w' → _
    intro w' h
    obtain ⟨z0, z1, z2, _, z4⟩ := (hS0.next h).get
    exact ⟨z0, z1, z2, z4, h⟩
  clear hS hS0
  have j1 := k1 W0
  have j2 := k2 W0
  have j3 := k3 W0
  clear k1 k2 k3
  go_region_held3 (fun w' => w'.cell? ⟨w.heap.size, 0, none⟩ = some (.int .i64 s.P) ∧ w'.cell? ⟨w.heap.size, 1, none⟩ = some (.int .i64 s.Q) ∧ w'.cell? ⟨w.heap.size, 2, none⟩ = some (.int .i64 s.G) ∧ w'.cell? ⟨w.heap.size, 4, none⟩ = some (.int .i64 s.H) ∧ Below W0.heap.size W0 w')
    (first | exact HK.out _ (by assumption) | exact HK.out _ (below_drewN (Below.refl _ _) 1) | exact HK.out _ (Below.refl _ _))
    (first
      | (go_at_call 42; refine Calls.mono (j1.out _ _ (by with_reducible rfl) (by first | assumption | exact below_drewN (Below.refl _ _) 1)) ?_; rintro e w4 ⟨rfl, hb4⟩)
      | (go_at_call 42; refine Calls.mono (j2.out _ _ (by with_reducible rfl) (by first | assumption | exact below_drewN (Below.refl _ _) 1)) ?_; rintro e w4 ⟨rfl, hb4⟩)
      | (go_at_call 41; refine Calls.mono (j3.out _ _ (by with_reducible rfl) (by first | assumption | exact below_drewN (Below.refl _ _) 1)) ?_; rintro e w4 ⟨rfl, hb4⟩))
  all_goals
    go_wp2
    go_ret
    exact ⟨ret_i HC.out, hb.trans (hb4.mono hb.size)⟩

set_option maxRecDepth 100000 in
set_option maxHeartbeats 1000000 in
theorem com_calls (s : SetD) (hi : s.ints) (vb : Value) (v r : Int) (hv : isInt v) (hr : isInt r) (w : World) (hE : Env w) (hb0 : IsNums vb s.bs w) :
    Calls Tryz.prog 16 #[s.val vb, .int .i64 v, .int .i64 r] w fun e w' => e = .returned (.int .i64 (if s.valid = true then s.com v r else 0)) ∧ Below w.heap.size w w' := by
  have hb := below_one w (.cells (s.cells vb) 34)
  have hS : SetAt s vb w.heap.size (w.alloc (.cells (s.cells vb) 34)) := Blk.new w _ _
  have c1 := Lib.hid (vset_calls s hi vb _ (hE.next hb) (hb0.next hb))
  have c2 := fun w => Lib.hid (commit_calls s hi vb v r hv hr w)
  obtain ⟨V, hV⟩ : ∃ v, v = s.valid := ⟨_, rfl⟩
  rw [← hV] at c1 ⊢
  unfold SetD.val at *
  unfold SetD.cells at hS hb c1
  clear hV hE hb0 hi
  go_enter Tryz.func16, Tryz.ntmps16
  have z := hS.get
  obtain ⟨z0, z1, z2, z3, z4⟩ := z
  go_wp2_with fail
  generalize (w.alloc (.cells #[.int .i64 s.P, .int .i64 s.Q, .int .i64 s.G, vb, .int .i64 s.H] 34)) = W0 at *
  have hS0 : SetAt s vb w.heap.size W0 := hS
  refine Calls.mono c1.out ?_
  clear c1 hS z0 z1 z2 z3 z4
  rintro e w1 ⟨rfl, hb1⟩
  have hS1 := hS0.next hb1
  have hbb := hb.trans (hb1.mono hb.size)
  clear hS0 hb hb1
  obtain ⟨z0, z1, z2, z3, z4⟩ := hS1.get
  cases V
  · go_wp2
    go_ret
    exact ⟨rfl, hbb⟩
  · go_wp2_with fail
    refine Calls.mono (c2 w1).out ?_
    rintro e w2 ⟨rfl, hb2⟩
    go_wp2
    go_ret
    exact ⟨rfl, hbb.trans (hb2.mono hbb.size)⟩
end Go.Proofs.YthnkfjjgccabeaaGreatDoor
