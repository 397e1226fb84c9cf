/- The group of a setup: its methods. -/
import Derived.Test.YtmgamngdmhnffaaGreatDoorTpure
import Derived.BigQuiet
namespace Go.Proofs.YtmgamngdmhnffaaGreatDoor
open Go.RowKit

/-- A group in its block. -/
def GAt (s : SetD) (vb : Value) (b : Nat) (w : World) : Prop := Blk w b 59 (s.cells vb)
theorem GAt.next {s : SetD} {vb : Value} {b : Nat} {w w' : World} (h : GAt s vb b w) (hb : Below w.heap.size w w') : GAt s vb b w' := Blk.next h hb
theorem GAt.get {s : SetD} {vb : Value} {b : Nat} {w : World} (h : GAt s vb b w) :
    w.cell? ⟨b, 0, none⟩ = some (.int .i64 s.P) ∧ w.cell? ⟨b, 1, none⟩ = some (.int .i64 s.Q) ∧ w.cell? ⟨b, 2, none⟩ = some (.int .i64 s.G) ∧ w.cell? ⟨b, 3, none⟩ = some vb ∧ w.cell? ⟨b, 4, none⟩ = some (.int .i64 s.H) :=
  ⟨Blk.cell h 0, Blk.cell h 1, Blk.cell h 2, Blk.cell h 3, Blk.cell h 4⟩

set_option maxHeartbeats 1000000 in
theorem nums_calls (s : SetD) (vb v : Value) (l : List Int) (hl : l.length ≤ 9223372036854775807) (w : World) (hv : IsNums v l w) :
    Calls Tryz.prog 24 #[s.val vb, v] w fun e w' => e = .returned (.bool (l.all (exB s.Q))) ∧ Below w.heap.size w w' := by
  obtain ⟨a, c, rfl⟩ := hv.len
  have hb := below_one w (.cells (s.cells vb) 59)
  have hS : GAt s vb w.heap.size (w.alloc (.cells (s.cells vb) 59)) := Blk.new w _ _
  have hn := hv.next hb
  obtain ⟨D, hD⟩ : ∃ D, D = l.all (exB s.Q) := ⟨_, rfl⟩
  have hD0 : Nat → (l.drop 0).all (exB s.Q) = D := fun _ => by rw [List.drop_zero]; exact hD.symm
  rw [← hD]
  unfold SetD.val
  unfold SetD.cells at hS hb hn
  have HN := Lib.hid hn
  have HB := Lib.hid hb
  have HS := Lib.hid hS
  clear hv hn hb hS hD
  go_enter Tryz.func24, Tryz.ntmps24
  go_wp2
  generalize w.alloc (.cells #[.int .i64 s.P, .int .i64 s.Q, .int .i64 s.G, vb, .int .i64 s.H] 59) = W0 at *
  have hG : GAt s vb w.heap.size W0 := HS.out
  go_loopw [9] (fun iv wr => ∃ k : Nat, k ≤ l.length ∧ iv = .int .i64 (k : Int) ∧ (Nat → (l.drop k).all (exB s.Q) = D) ∧ W0 = wr) (fun iv _ => l.length - (intOf iv).toNat)
  case atStart => exact ⟨0, Nat.zero_le _, rfl, hD0, rfl⟩
  case round =>
    clear hD0
    obtain ⟨k, hk, rfl, hDk, rfl⟩ := hrel
    obtain ⟨z0, z1, z2, z3, z4⟩ := hG.get
    clear hG
    by_cases hlt : k < l.length
    · obtain ⟨bk, off, rfl, _, x, hx, y0⟩ := HN.out.at k hlt
      have hst : Nat → (exB s.Q x && (l.drop (k + 1)).all (exB s.Q)) = D := fun _ => by rw [hx, ← all_drop (exB s.Q) l k hlt]; exact hDk 0
      have hkl : (k : Int) < (l.length : Int) := by omega
      clear hDk hx
      by_cases h1 : x < 0
      · have HF : Hid (D = false) := by show _ = _; rw [← hst 0]; unfold exB; rw [decide_eq_false (by omega : ¬ 0 ≤ x)]; rfl
        clear hst
        go_wp2
        go_ret
        exact ⟨ret_b HF.out.symm, HB.out⟩
      · by_cases h2 : s.Q ≤ x
        · have HF : Hid (D = false) := by show _ = _; rw [← hst 0]; unfold exB; rw [decide_eq_false (by omega : ¬ x < s.Q)]; simp
          clear hst
          go_wp2
          go_ret
          exact ⟨ret_b HF.out.symm, HB.out⟩
        · have hDk : Nat → (l.drop (k + 1)).all (exB s.Q) = D := fun _ => by
            have := hst 0
            unfold exB at this
            rw [decide_eq_true (by omega : 0 ≤ x), decide_eq_true (by omega : x < s.Q)] at this
            exact this
          clear hst
          go_wp2
          go_roundw
          case rel => exact ⟨k + 1, by omega, by go_num, hDk, trivial⟩
          case measure => simp [intOf]; omega
    · obtain rfl : k = l.length := by omega
      have HT : Hid (D = true) := by show _ = _; rw [← hDk 0, List.drop_length]; rfl
      clear hDk
      go_wp2
      go_ret
      exact ⟨ret_b HT.out.symm, HB.out⟩

set_option maxHeartbeats 1000000 in
theorem facs_calls (s : SetD) (vb v : Value) (l : List Int) (hl : l.length ≤ 9223372036854775807) (w : World) (hv : IsNums v l w) :
    Calls Tryz.prog 23 #[s.val vb, v] w fun e w' => e = .returned (.bool (facsB s.Q l)) ∧ Below w.heap.size w w' := by
  obtain ⟨a, c, rfl⟩ := hv.len
  have hb := below_one w (.cells (s.cells vb) 59)
  have hS : GAt s vb w.heap.size (w.alloc (.cells (s.cells vb) 59)) := Blk.new w _ _
  have hn := hv.next hb
  have c1 := Lib.hid (nums_calls s vb (.slice a l.length c) l hl _ hn)
  have HF : Hid (facsB s.Q l = (l.all (fun x => decide (x ≠ 0)) && l.all (exB s.Q))) := rfl
  obtain ⟨D, hD⟩ : ∃ D, D = l.all (fun x => decide (x ≠ 0)) := ⟨_, rfl⟩
  have hD0 : Nat → (l.drop 0).all (fun x => decide (x ≠ 0)) = D := fun _ => by rw [List.drop_zero]; exact hD.symm
  rw [← hD] at HF
  unfold SetD.val at *
  unfold SetD.cells at hS hb hn c1
  have HN := Lib.hid hn
  have HB := Lib.hid hb
  have HS := Lib.hid hS
  clear hv hn hb hS hD
  go_enter Tryz.func23, Tryz.ntmps23
  go_wp2
  generalize w.alloc (.cells #[.int .i64 s.P, .int .i64 s.Q, .int .i64 s.G, vb, .int .i64 s.H] 59) = W0 at *
  have hG : GAt s vb w.heap.size W0 := HS.out
  go_loopw [9] (fun iv wr => ∃ k : Nat, k ≤ l.length ∧ iv = .int .i64 (k : Int) ∧ (Nat → (l.drop k).all (fun x => decide (x ≠ 0)) = D) ∧ W0 = wr) (fun iv _ => l.length - (intOf iv).toNat)
  case atStart => exact ⟨0, Nat.zero_le _, rfl, hD0, rfl⟩
  case round =>
    clear hD0
    obtain ⟨k, hk, rfl, hDk, rfl⟩ := hrel
    obtain ⟨z0, z1, z2, z3, z4⟩ := hG.get
    clear hG
    by_cases hlt : k < l.length
    · obtain ⟨bk, off, rfl, _, x, hx, y0⟩ := HN.out.at k hlt
      have hst : Nat → (decide (x ≠ 0) && (l.drop (k + 1)).all (fun x => decide (x ≠ 0))) = D := fun _ => by rw [hx, ← all_drop (fun x => decide (x ≠ 0)) l k hlt]; exact hDk 0
      have hkl : (k : Int) < (l.length : Int) := by omega
      clear hDk hx
      by_cases h1 : x = 0
      · have HF2 : Hid (facsB s.Q l = false) := by show _ = _; rw [HF.out, ← hst 0, h1]; rfl
        have hb0 : (x == 0) = true := beq_iff_eq.2 h1
        clear hst h1
        go_wp2
        go_ret
        exact ⟨ret_b HF2.out.symm, HB.out⟩
      · have hDk : Nat → (l.drop (k + 1)).all (fun x => decide (x ≠ 0)) = D := fun _ => by
          have := hst 0
          rw [decide_eq_true h1] at this
          exact this
        have hb0 : (x == 0) = false := by simpa using h1
        clear hst h1
        go_wp2
        go_roundw
        case rel => exact ⟨k + 1, by omega, by go_num, hDk, trivial⟩
        case measure => simp [intOf]; omega
    · obtain rfl : k = l.length := by omega
      have HT : Hid (facsB s.Q l = l.all (exB s.Q)) := by show _ = _; rw [HF.out, ← hDk 0, List.drop_length]; rfl
      clear hDk
      go_wp2_with fail
      refine c1.out.mono ?_
      clear c1
      rintro e w' ⟨rfl, hb1⟩
      go_wp2
      go_ret
      exact ⟨ret_b HT.out.symm, HB.out.trans (hb1.mono HB.out.size)⟩

set_option maxHeartbeats 1000000 in
theorem elems_calls (s : SetD) (hi : s.ints) (vb v : Value) (l : List Int) (hli : ∀ x ∈ l, isInt x) (hl : l.length ≤ 9223372036854775807) (w : World) (hv : IsNums v l w) :
    Calls Tryz.prog 67 #[s.val vb, v] w fun e w' => e = .returned (.bool (l.all s.el)) ∧ Below w.heap.size w w' := by
  obtain ⟨a, c, rfl⟩ := hv.len
  have hb := below_one w (.cells (s.cells vb) 59)
  have hS : GAt s vb w.heap.size (w.alloc (.cells (s.cells vb) 59)) := Blk.new w _ _
  have hn := hv.next hb
  obtain ⟨D, hD⟩ : ∃ D, D = l.all s.el := ⟨_, rfl⟩
  have hD0 : Nat → (l.drop 0).all s.el = D := fun _ => by rw [List.drop_zero]; exact hD.symm
  have HQ := Lib.hid hi.Q
  have HLI := Lib.hid hli
  rw [← hD]
  unfold SetD.val
  unfold SetD.cells at hS hb hn
  have HN := Lib.hid hn
  have HB := Lib.hid hb
  have HS := Lib.hid hS
  clear hv hn hb hS hD hi hli
  go_enter Tryz.func67, Tryz.ntmps67
  go_wp2
  generalize w.alloc (.cells #[.int .i64 s.P, .int .i64 s.Q, .int .i64 s.G, vb, .int .i64 s.H] 59) = W0 at *
  go_loopw [9] (fun iv wr => ∃ k : Nat, k ≤ l.length ∧ iv = .int .i64 (k : Int) ∧ (Nat → (l.drop k).all s.el = D) ∧ Below W0.heap.size W0 wr) (fun iv _ => l.length - (intOf iv).toNat)
  case atStart => exact ⟨0, Nat.zero_le _, rfl, hD0, Below.refl _ _⟩
  case round =>
    clear hD0
    obtain ⟨k, hk, rfl, hDk, hB⟩ := hrel
    have hG : GAt s vb w.heap.size W0 := HS.out
    obtain ⟨z0, z1, z2, z3, z4⟩ := (hG.next hB).get
    have HBw := Lib.hid (HB.out.trans (hB.mono HB.out.size))
    have HB0 := Lib.hid hB
    clear hG
    by_cases hlt : k < l.length
    · obtain ⟨bk, off, rfl, _, x, hx, y0⟩ := (HN.out.next hB).at k hlt
      have hst : Nat → (s.el x && (l.drop (k + 1)).all s.el) = D := fun _ => by rw [hx, ← all_drop s.el l k hlt]; exact hDk 0
      have hxi : isInt x := by rw [hx]; exact HLI.out _ (List.getElem_mem hlt)
      have hkl : (k : Int) < (l.length : Int) := by omega
      have hel : s.el x = (decide (1 ≤ x) && (decide (x < s.P) && decide (powZ s.P x s.Q = 1))) := rfl
      clear hDk hx hB
      by_cases h1 : x < 1
      · have HF : Hid (D = false) := by show _ = _; rw [← hst 0, hel, decide_eq_false (by omega : ¬ 1 ≤ x)]; rfl
        clear hst hel
        go_wp2
        go_ret
        exact ⟨ret_b HF.out.symm, HBw.out⟩
      · by_cases h2 : s.P ≤ x
        · have HF : Hid (D = false) := by show _ = _; rw [← hst 0, hel, decide_eq_false (by omega : ¬ x < s.P)]; simp
          clear hst hel
          go_wp2
          go_ret
          exact ⟨ret_b HF.out.symm, HBw.out⟩
        · have c1 := Lib.hid (pow_calls s.P x s.Q hxi HQ.out wr)
          rw [decide_eq_true (by omega : 1 ≤ x), decide_eq_true (by omega : x < s.P)] at hel
          have HEL := Lib.hid hel
          have HST := Lib.hid hst
          generalize powZ s.P x s.Q = Y at *
          clear hst hel hxi
          go_wp2_with fail
          refine c1.out.mono ?_
          clear c1
          rintro e w' ⟨rfl, m, rfl⟩
          by_cases h3 : Y = 1
          · have hbn : (Y != 1) = false := by simp [h3]
            have hDk : Nat → (l.drop (k + 1)).all s.el = D := fun _ => by
              have := HST.out 0
              rw [HEL.out, decide_eq_true h3] at this
              exact this
            clear h3
            go_wp2
            go_roundw
            case rel => exact ⟨k + 1, by omega, by go_num, hDk, below_drewN HB0.out m⟩
            case measure => simp [intOf]; omega
          · have hbn : (Y != 1) = true := bne_iff_ne.2 h3
            have HF : Hid (D = false) := by show _ = _; rw [← HST.out 0, HEL.out, decide_eq_false h3]; rfl
            clear h3
            go_wp2
            go_ret
            exact ⟨ret_b HF.out.symm, below_drewN HBw.out m⟩
    · obtain rfl : k = l.length := by omega
      have HT : Hid (D = true) := by show _ = _; rw [← hDk 0, List.drop_length]; rfl
      clear hDk hB
      go_wp2
      go_ret
      exact ⟨ret_b HT.out.symm, HBw.out⟩

theorem gpower_calls (s : SetD) (vb : Value) (x k : Int) (hx : isInt x) (hk : isInt k) (w : World) :
    Calls Tryz.prog 26 #[s.val vb, .int .i64 x, .int .i64 k] w fun e w' => e = .returned (.int .i64 (s.pw x k)) ∧ Below w.heap.size w w' := by
  have hb := below_one w (.cells (s.cells vb) 59)
  have hS : GAt s vb w.heap.size (w.alloc (.cells (s.cells vb) 59)) := Blk.new w _ _
  have c1 := Lib.hid (power_calls s.P s.Q s.G x k hx hk (w.alloc (.cells (s.cells vb) 59)))
  unfold SetD.val
  unfold SetD.cells at hS hb c1
  obtain ⟨z0, z1, z2, z3, z4⟩ := hS.get
  clear hS
  go_enter Tryz.func26, Tryz.ntmps26
  go_wp2_with fail
  refine c1.out.mono ?_
  clear c1
  rintro e w' ⟨rfl, hb1⟩
  go_wp2
  go_ret
  exact ⟨rfl, hb.trans (hb1.mono hb.size)⟩

set_option maxHeartbeats 1000000 in
theorem gtimes_calls (s : SetD) (vb v : Value) (l : List Int) (hli : ∀ x ∈ l, isInt x) (hl : l.length ≤ 9223372036854775807) (w : World) (hv : IsNums v l w) :
    Calls Tryz.prog 50 #[s.val vb, v] w fun e w' => e = .returned (.int .i64 (s.tmG 1 l)) ∧ Below w.heap.size w w' := by
  obtain ⟨a, c, rfl⟩ := hv.len
  have hb := below_one w (.cells (s.cells vb) 59)
  have hS : GAt s vb w.heap.size (w.alloc (.cells (s.cells vb) 59)) := Blk.new w _ _
  have hn := hv.next hb
  obtain ⟨D, hD⟩ : ∃ D, D = s.tmG 1 l := ⟨_, rfl⟩
  have hD0 : Nat → s.tmG 1 (l.drop 0) = D := fun _ => by rw [List.drop_zero]; exact hD.symm
  have HLI := Lib.hid hli
  rw [← hD]
  unfold SetD.val
  unfold SetD.cells at hS hb hn
  have HN := Lib.hid hn
  have HB := Lib.hid hb
  have HS := Lib.hid hS
  clear hv hn hb hS hD hli
  go_enter Tryz.func50, Tryz.ntmps50
  go_wp2
  generalize w.alloc (.cells #[.int .i64 s.P, .int .i64 s.Q, .int .i64 s.G, vb, .int .i64 s.H] 59) = W0 at *
  go_loopw [5, 10] (fun rv iv wr => ∃ (k : Nat) (r : Int), k ≤ l.length ∧ iv = .int .i64 (k : Int) ∧ rv = .int .i64 r ∧ isInt r ∧ (Nat → s.tmG r (l.drop k) = D) ∧ Below W0.heap.size W0 wr) (fun _ iv _ => l.length - (intOf iv).toNat)
  case atStart => exact ⟨0, 1, Nat.zero_le _, rfl, rfl, by unfold isInt; omega, hD0, Below.refl _ _⟩
  case round =>
    clear hD0
    obtain ⟨k, r, hk, rfl, rfl, hr, hDk, hB⟩ := hrel
    have hG : GAt s vb w.heap.size W0 := HS.out
    obtain ⟨z0, z1, z2, z3, z4⟩ := (hG.next hB).get
    have HBw := Lib.hid (HB.out.trans (hB.mono HB.out.size))
    have HB0 := Lib.hid hB
    clear hG
    by_cases hlt : k < l.length
    · obtain ⟨bk, off, rfl, _, x, hx, y0⟩ := (HN.out.next hB).at k hlt
      have hst : Nat → s.tmG (s.tm r x) (l.drop (k + 1)) = D := fun _ => by rw [hx, ← hDk 0, List.drop_eq_getElem_cons hlt]; rfl
      have hxi : isInt x := by rw [hx]; exact HLI.out _ (List.getElem_mem hlt)
      have hkl : (k : Int) < (l.length : Int) := by omega
      have c1 := Lib.hid (times_calls s.P s.Q s.G r x hr hxi wr)
      have hst2 : Nat → s.tmG (gTimes s.P s.Q r x) (l.drop (k + 1)) = D := hst
      have hTi := gTimes_int s.P s.Q r x
      generalize gTimes s.P s.Q r x = T at *
      have HST := Lib.hid hst2
      clear hDk hx hB hst hst2 hxi
      go_wp2_with fail
      refine c1.out.mono ?_
      clear c1
      rintro e w' ⟨rfl, hb1⟩
      go_wp2
      go_roundw
      case rel => exact ⟨k + 1, T, by omega, by go_num, rfl, hTi, HST.out, HB0.out.trans (hb1.mono HB0.out.size)⟩
      case measure => simp [intOf]; omega
    · obtain rfl : k = l.length := by omega
      have HT : Hid (D = r) := by show _ = _; rw [← hDk 0, List.drop_length]; rfl
      clear hDk hB
      go_wp2
      go_ret
      exact ⟨congrArg (fun z => Ending.returned (Value.int .i64 z)) HT.out.symm, HBw.out⟩

set_option maxHeartbeats 1000000 in
theorem gmul_calls (s : SetD) (vb v : Value) (l : List Int) (hli : ∀ x ∈ l, isInt x) (hl : l.length ≤ 9223372036854775807) (w : World) (hv : IsNums v l w) :
    Calls Tryz.prog 29 #[s.val vb, v] w fun e w' => e = .returned (.int .i64 (mulG s.Q 1 l)) ∧ Below w.heap.size w w' := by
  obtain ⟨a, c, rfl⟩ := hv.len
  have hb := below_one w (.cells (s.cells vb) 59)
  have hS : GAt s vb w.heap.size (w.alloc (.cells (s.cells vb) 59)) := Blk.new w _ _
  have hn := hv.next hb
  obtain ⟨D, hD⟩ : ∃ D, D = mulG s.Q 1 l := ⟨_, rfl⟩
  have hD0 : Nat → mulG s.Q 1 (l.drop 0) = D := fun _ => by rw [List.drop_zero]; exact hD.symm
  have HLI := Lib.hid hli
  rw [← hD]
  unfold SetD.val
  unfold SetD.cells at hS hb hn
  have HN := Lib.hid hn
  have HB := Lib.hid hb
  have HS := Lib.hid hS
  clear hv hn hb hS hD hli
  go_enter Tryz.func29, Tryz.ntmps29
  go_wp2
  generalize w.alloc (.cells #[.int .i64 s.P, .int .i64 s.Q, .int .i64 s.G, vb, .int .i64 s.H] 59) = W0 at *
  go_loopw [5, 10] (fun rv iv wr => ∃ (k : Nat) (r : Int), k ≤ l.length ∧ iv = .int .i64 (k : Int) ∧ rv = .int .i64 r ∧ isInt r ∧ (Nat → mulG s.Q r (l.drop k) = D) ∧ Below W0.heap.size W0 wr) (fun _ iv _ => l.length - (intOf iv).toNat)
  case atStart => exact ⟨0, 1, Nat.zero_le _, rfl, rfl, by unfold isInt; omega, hD0, Below.refl _ _⟩
  case round =>
    clear hD0
    obtain ⟨k, r, hk, rfl, rfl, hr, hDk, hB⟩ := hrel
    have hG : GAt s vb w.heap.size W0 := HS.out
    obtain ⟨z0, z1, z2, z3, z4⟩ := (hG.next hB).get
    have HBw := Lib.hid (HB.out.trans (hB.mono HB.out.size))
    have HB0 := Lib.hid hB
    clear hG
    by_cases hlt : k < l.length
    · obtain ⟨bk, off, rfl, _, x, hx, y0⟩ := (HN.out.next hB).at k hlt
      have hst : Nat → mulG s.Q (mulZ s.Q r x) (l.drop (k + 1)) = D := fun _ => by rw [hx, ← hDk 0, List.drop_eq_getElem_cons hlt]; rfl
      have hxi : isInt x := by rw [hx]; exact HLI.out _ (List.getElem_mem hlt)
      have hkl : (k : Int) < (l.length : Int) := by omega
      have c1 := Lib.hid (mul_calls s.Q r x hr hxi wr)
      have hTi := mulZ_int s.Q r x
      generalize mulZ s.Q r x = T at *
      have HST := Lib.hid hst
      clear hDk hx hB hst hxi
      go_wp2_with fail
      refine c1.out.mono ?_
      clear c1
      rintro e w' ⟨rfl, m, rfl⟩
      go_wp2
      go_roundw
      case rel => exact ⟨k + 1, T, by omega, by go_num, rfl, hTi, HST.out, below_drewN HB0.out m⟩
      case measure => simp [intOf]; omega
    · obtain rfl : k = l.length := by omega
      have HT : Hid (D = r) := by show _ = _; rw [← hDk 0, List.drop_length]; rfl
      clear hDk hB
      go_wp2
      go_ret
      exact ⟨congrArg (fun z => Ending.returned (Value.int .i64 z)) HT.out.symm, HBw.out⟩

theorem ginv_calls (s : SetD) (vb : Value) (x : Int) (hx : isInt x) (w : World) :
    Calls Tryz.prog 32 #[s.val vb, .int .i64 x] w fun e w' => e = .returned (.int .i64 (powZ s.Q x (-1))) ∧ Below w.heap.size w w' := by
  have hb := below_one w (.cells (s.cells vb) 59)
  have hS : GAt s vb w.heap.size (w.alloc (.cells (s.cells vb) 59)) := Blk.new w _ _
  have c1 := Lib.hid (pow_calls s.Q x (-1) hx (by unfold isInt; omega) (w.alloc (.cells (s.cells vb) 59)))
  unfold SetD.val
  unfold SetD.cells at hS hb c1
  obtain ⟨z0, z1, z2, z3, z4⟩ := hS.get
  clear hS
  go_enter Tryz.func32, Tryz.ntmps32
  go_wp2_with fail
  refine c1.out.mono ?_
  clear c1
  rintro e w' ⟨rfl, m, rfl⟩
  go_wp2
  go_ret
  exact ⟨rfl, below_drewN hb m⟩

theorem gproduct_calls (s : SetD) (hi : s.ints) (vb v : Value) (es : List Int) (hei : ∀ x ∈ es, isInt x) (hel : es.length ≤ 9223372036854775807) (hbl : s.bs.length ≤ 4294967296) (w : World) (hb0 : IsNums vb s.bs w) (hv : IsNums v es w) :
    Calls Tryz.prog 41 #[s.val vb, v] w fun e w' => e = .returned (.int .i64 (s.prodN es)) ∧ Below w.heap.size w w' := by
  have hb := below_one w (.cells (s.cells vb) 59)
  have hS : GAt s vb w.heap.size (w.alloc (.cells (s.cells vb) 59)) := Blk.new w _ _
  have c1 := gprod_calls s.P s.Q s.G vb v s.bs es _ (hb0.next hb) (hv.next hb) hi.bs hei hbl hel
  have HX : Hid (gProdV s.P s.Q s.bs es = .tuple #[.int .i64 (s.prodN es), .bool (decide ((isMod s.P ∧ isMod s.Q) ∧ s.bs.length = es.length))]) := by
    show _ = _
    unfold gProdV SetD.prodN
    by_cases h : (isMod s.P ∧ isMod s.Q) ∧ s.bs.length = es.length
    · rw [if_pos h, if_pos h, decide_eq_true h]
    · rw [if_neg h, if_neg h, decide_eq_false h]
  rw [HX.out] at c1
  have c1 := Lib.hid c1
  generalize s.prodN es = R at *
  generalize decide ((isMod s.P ∧ isMod s.Q) ∧ s.bs.length = es.length) = B at *
  unfold SetD.val
  unfold SetD.cells at hS hb c1
  obtain ⟨z0, z1, z2, z3, z4⟩ := hS.get
  obtain ⟨a1, c2, rfl⟩ := hb0.len
  obtain ⟨a2, c3, rfl⟩ := hv.len
  clear hS hb0 hv
  go_enter Tryz.func41, Tryz.ntmps41
  go_wp2_with fail
  refine c1.out.mono ?_
  clear c1
  rintro e w' ⟨rfl, hb1⟩
  go_wp2
  go_ret
  exact ⟨rfl, hb.trans (hb1.mono hb.size)⟩
end Go.Proofs.YtmgamngdmhnffaaGreatDoor
