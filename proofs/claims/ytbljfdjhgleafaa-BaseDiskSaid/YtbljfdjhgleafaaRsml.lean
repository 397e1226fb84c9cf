/- The reference's disk: the short calls. -/
import Derived.Test.YtbljfdjhgleafaaRset
namespace Go.Proofs.Ytbljfdjhgleafaa
open Go.RowKit

variable {w w' : World} {b : Nat} {L : RL} {r r' : Rk} {S : Nat → Prop}

set_option maxRecDepth 100000 in
theorem rdown_calls (h : IsR w b L r) : Calls Try.prog 14 #[.pointer (some ⟨b, 0, none⟩)] w fun e w' => e = .returned (.bool r.down) ∧ w = w' := by
  have a : w.cell? ⟨b, 3, none⟩ = some (.bool r.down) := h.cells.cell 3 (by omega)
  go_enter Try.func14, Try.ntmps14
  go_wp2_with fail
  go_ret
  exact ⟨rfl, rfl⟩

/-- One of the four plain cells is set. -/
theorem IsR.plain (h : IsR w b L r) {r' : Rk} (hf : r'.fs = r.fs) (hq : r'.q = r.q) (hkeep : r'.keep = r.keep) (hlb : r'.lost ≤ 9223372036854775807) (hcb : r'.armed ≤ 9223372036854775807) (i : Nat) (v : Value) (hv : ∀ j, j < 6 → rcell L r' j = upd (rcell L r) i v j) :
    PostR (fun i => i = b) w b L r' (w.setCell ⟨b, i, none⟩ v) := by
  have hk := (Kept.refl (fun x => x = b) w).setCell (p := ⟨b, i, none⟩) (Or.inl rfl) v
  exact ⟨L, h.cell hf hq hkeep hlb hcb ((h.cells.set i v).eq hv) hk, hk, fun _ hi => Or.inl hi⟩

set_option maxRecDepth 100000 in
theorem rstart_calls (h : IsR w b L r) : Calls Try.prog 37 #[.pointer (some ⟨b, 0, none⟩)] w fun e w' => e = .returned (.tuple #[]) ∧ PostR (fun i => i = b) w b L { r with down := false } w' := by
  have a : w.cell? ⟨b, 3, none⟩ = some (.bool r.down) := h.cells.cell 3 (by omega)
  have f := h.cells.frozen 3
  have H := Lib.hid h
  clear h
  go_enter Try.func37, Try.ntmps37
  go_wp2_with fail
  go_end0
  refine ⟨rfl, H.out.plain (r' := { r with down := false }) rfl rfl rfl H.out.lb H.out.cb 3 (.bool false) fun j _ => ?_⟩
  by_cases e : j = 3
  · subst e; rfl
  · simp [upd, e, rcell]

set_option maxRecDepth 100000 in
theorem rlose_calls (h : IsR w b L r) (n : Int) (hn : n ≤ 9223372036854775807) : Calls Try.prog 34 #[.pointer (some ⟨b, 0, none⟩), .int .i64 n] w fun e w' => e = .returned (.tuple #[]) ∧ PostR (fun i => i = b) w b L { r with lost := n.toNat } w' := by
  have a : w.cell? ⟨b, 2, none⟩ = some (.int .i64 r.lost) := h.cells.cell 2 (by omega)
  have f := h.cells.frozen 2
  have H := Lib.hid h
  clear h
  obtain ⟨m, hm0⟩ : ∃ m, m = n.toNat := ⟨_, rfl⟩
  have hm : max n 0 = (m : Int) := by omega
  have hm9 : m ≤ 9223372036854775807 := by omega
  rw [← hm0]
  clear hm0 hn
  go_enter Try.func34, Try.ntmps34
  go_wp2_with fail
  go_end0
  refine ⟨rfl, H.out.plain (r' := { r with lost := m }) rfl rfl rfl hm9 H.out.cb 2 (.int .i64 (m : Int)) fun j _ => ?_⟩
  by_cases e : j = 2
  · subst e; rfl
  · simp [upd, e, rcell]

set_option maxRecDepth 100000 in
theorem rmay_calls (h : IsR w b L r) (f : Int) : Calls Try.prog 47 #[.pointer (some ⟨b, 0, none⟩), .int .i64 f] w fun e w' => e = .returned (.int .i64 (r.may f)) ∧ w = w' := by
  have a : w.cell? ⟨b, 3, none⟩ = some (.bool r.down) := h.cells.cell 3 (by omega)
  obtain ⟨m, hm⟩ : ∃ m, m = r.may f := ⟨_, rfl⟩
  rw [← hm]
  unfold Rk.may at hm
  cases hd : r.down with
  | true =>
    rw [hd] at a hm
    rw [if_pos rfl] at hm
    subst hm
    clear h hd
    go_enter Try.func47, Try.ntmps47
    go_wp2_with fail
    go_ret
    exact ⟨rfl, rfl⟩
  | false =>
    rw [hd] at a hm
    rw [if_neg (by simp)] at hm
    clear h hd
    by_cases h1 : f < 0
    · rw [if_neg (by omega)] at hm
      subst hm
      have d1 : decide (f < 0) = true := decide_eq_true h1
      go_enter Try.func47, Try.ntmps47
      go_wp2_with fail
      go_ret
      exact ⟨rfl, rfl⟩
    · have d1 : decide (f < 0) = false := decide_eq_false h1
      by_cases h2 : 15 < f
      · rw [if_neg (by omega)] at hm
        subst hm
        have d2 : decide (15 < f) = true := decide_eq_true h2
        go_enter Try.func47, Try.ntmps47
        go_wp2_with fail
        go_ret
        exact ⟨rfl, rfl⟩
      · rw [if_pos (by omega)] at hm
        subst hm
        have d2 : decide (15 < f) = false := decide_eq_false h2
        go_enter Try.func47, Try.ntmps47
        go_wp2_with fail
        go_ret
        exact ⟨rfl, rfl⟩

set_option maxRecDepth 100000 in
theorem rfits_calls (a : Int) (s : List UInt8) (hs : s.length ≤ 1099511627776) (w : World) : Calls Try.prog 55 #[.int .i64 a, .string (bs s)] w fun e w' => e = .returned (.bool (fitsB a s)) ∧ w = w' := by
  have hl := bs_size s
  obtain ⟨m, hm⟩ : ∃ m, m = fitsB a s := ⟨_, rfl⟩
  rw [← hm]
  unfold fitsB at hm
  by_cases h1 : 0 ≤ a
  · have d1 : decide (0 ≤ a) = true := decide_eq_true h1
    by_cases h2 : a ≤ 16777216
    · have d2 : decide (a ≤ 16777216) = true := decide_eq_true h2
      by_cases h3 : a + s.length ≤ 16777216
      · have d3 : decide (a + (s.length : Int) ≤ 16777216) = true := decide_eq_true h3
        rw [decide_eq_true ⟨h1, h2, h3⟩] at hm
        subst hm
        go_enter Try.func55, Try.ntmps55
        go_wp2_with fail
        go_ret
        exact ⟨rfl, rfl⟩
      · have d3 : decide (a + (s.length : Int) ≤ 16777216) = false := decide_eq_false h3
        rw [decide_eq_false (fun h => h3 h.2.2)] at hm
        subst hm
        go_enter Try.func55, Try.ntmps55
        go_wp2_with fail
        go_ret
        exact ⟨rfl, rfl⟩
    · have d2 : decide (a ≤ 16777216) = false := decide_eq_false h2
      rw [decide_eq_false (fun h => h2 h.2.1)] at hm
      subst hm
      go_enter Try.func55, Try.ntmps55
      go_wp2_with fail
      go_ret
      exact ⟨rfl, rfl⟩
  · have d1 : decide (0 ≤ a) = false := decide_eq_false h1
    rw [decide_eq_false (fun h => h1 h.1)] at hm
    subst hm
    go_enter Try.func55, Try.ntmps55
    go_wp2_with fail
    go_ret
    exact ⟨rfl, rfl⟩

set_option maxRecDepth 100000 in
theorem rnew_calls (w : World) : Calls Try.prog 10 #[] w fun e w' => ∃ g, e = .returned (.pointer (some ⟨g, 0, none⟩)) ∧ IsR w' g ⟨.slice none 0 0, .slice none 0 0, .slice none 0 0⟩ Rk.new ∧ g = w.heap.size ∧ Kept (fun _ => False) w w' := by
  go_enter Try.func10, Try.ntmps10
  go_wp2_with fail
  go_ret
  refine ⟨_, rfl, ⟨isCells.made w _ 6 _ _ ?_, World.ownsRow_nil _ _ _ _, World.ownsRow_nil _ _ _ _, World.ownsRow_nil _ _ _ _, by decide, by decide⟩, rfl, (Kept.refl _ _).alloc _⟩
  rfl

theorem field_now (a b c : Value) (W : World) : (Instr.field 65 (.agg #[a, b, c]) 1).run Try.prog W = .ok b W := by kernel_rfl

theorem Below.mine {x : World} (h : Below w.heap.size w x) : Kept (fun i => w.heap.size ≤ i) w x := Below.kept h

set_option maxHeartbeats 1000000 in
set_option maxRecDepth 100000 in
theorem rsize_calls (h : IsR w b L r) (hn : r.fs.length ≤ 1000000) (f : Int) : Calls Try.prog 16 #[.pointer (some ⟨b, 0, none⟩), .int .i64 f] w fun e w' => e = .returned (.int .i64 ((getF r.fs f).now.length : Int)) ∧ Below w.heap.size w w' := by
  have c := Lib.hid (rget_calls h hn f)
  obtain ⟨G, hG⟩ : ∃ G, G = getF r.fs f := ⟨_, rfl⟩
  rw [← hG] at c ⊢
  have hs := bs_size G.now
  clear h hG
  go_enter Try.func16, Try.ntmps16
  go_wp2_with fail
  refine Calls.mono c.out ?_
  rintro e w2 ⟨rfl, hb⟩
  have HB := Lib.hid hb
  have hfd := fun W => field_now (.int .i64 G.n) (.string (bs G.now)) (.string (bs G.last)) W
  clear c hb
  go_wp2_with fail
  go_ret
  exact ⟨rfl, HB.out⟩

end Go.Proofs.Ytbljfdjhgleafaa
