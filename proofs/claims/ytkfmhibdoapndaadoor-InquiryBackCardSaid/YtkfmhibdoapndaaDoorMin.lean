/- Minutes. -/
import Derived.Test.YtkfmhibdoapndaaDoorGov2
import Derived.Deep.RegionHeld3
namespace Go.Proofs.YtkfmhibdoapndaaDoor
open Go.RowKit

/-- An opening. -/
structure OpD where
  ver : Int
  gate : Int
  no : Int
  reason : List UInt8
  jurors : List Int
  holder : Int
def OpD.cells (o : OpD) (v : Value) : Array Value := #[.int .i64 o.ver, .int .i64 o.gate, .int .i64 o.no, .string (bs o.reason), v, .int .i64 o.holder]
def OpD.val (o : OpD) (v : Value) : Value := .agg (o.cells v)
def OpD.min (o : OpD) : List UInt8 := Cod.numsS [o.ver, o.gate, o.no] ++ (Cod.textS o.reason ++ (Cod.numsS o.jurors ++ Cod.intS o.holder))
structure OpD.ok (o : OpD) : Prop where
  ver : isInt o.ver
  gate : isInt o.gate
  no : isInt o.no
  holder : isInt o.holder
  reason : o.reason.length ≤ 1000000000
  jurors : o.jurors.length ≤ 1000000000
  ints : ∀ x ∈ o.jurors, isInt x
  enc : (Cod.numsS o.jurors).length ≤ 1000000000
theorem nums_three {w : World} {g : Nat} {a b c : Int} (h : Blk w g 3 #[.int .i64 a, .int .i64 b, .int .i64 c]) : Cod.IsInts (.slice (some ⟨g, 0, none⟩) 3 3) [a, b, c] w := by
  refine .inr ⟨g, 0, 3, rfl, h.lt, fun i x hi => ?_⟩
  match i, hi with
  | 0, hi => simp at hi; subst hi; exact h.cell 0
  | 1, hi => simp at hi; subst hi; exact h.cell 1
  | 2, hi => simp at hi; subst hi; exact h.cell 2
theorem nums3_len (a b c : Int) (ha : isInt a) (hb : isInt b) (hc : isInt c) : (Cod.numsS [a, b, c]).length ≤ 100 := by
  have h0 := Cod.intS_len _ ha
  have h1 := Cod.intS_len _ hb
  have h2 := Cod.intS_len _ hc
  have h3 := Cod.itoa_len 3 (by unfold Cod.isInt; omega)
  unfold Cod.numsS
  simp
  omega
set_option maxRecDepth 100000 in
set_option maxHeartbeats 4000000 in
theorem minutes_calls (o : OpD) (ho : o.ok) (v : Value) (w : World) (hE : Cod.Env w) (hv : IsNums v o.jurors w) :
    Calls Tryd.prog 12 #[o.val v] w fun e w' => e = .returned (.string (bs o.min)) ∧ Below w.heap.size w w' := by
  obtain ⟨ver, gate, no, reason, jurors, holder⟩ := o
  obtain ⟨aj, cj, rfl⟩ := hv.len
  have hb := below_one w (.cells #[.int .i64 ver, .int .i64 gate, .int .i64 no, .string (bs reason), .slice aj jurors.length cj, .int .i64 holder] 37)
  have hB := Blk.new w 37 #[.int .i64 ver, .int .i64 gate, .int .i64 no, .string (bs reason), .slice aj jurors.length cj, .int .i64 holder]
  have hE0 := hE.next hb
  have hv0 := hv.next hb
  have k1 := fun v w hE hv => Lib.hid (Cod.base_Nums v [ver, gate, no] w hE hv (by intro x hx; simp only [List.mem_cons, List.not_mem_nil, or_false] at hx; rcases hx with rfl | rfl | rfl; exact ho.ver; exact ho.gate; exact ho.no) (by simp) (by have := nums3_len ver gate no ho.ver ho.gate ho.no; omega))
  have k2 := fun w hE => Lib.hid (Cod.base_Text_bs reason (by have := ho.reason; simp only at this; omega) w hE)
  have k3 := fun w hE hv => Lib.hid (Cod.base_Nums (.slice aj jurors.length cj) jurors w hE hv ho.ints (by have := ho.jurors; simp only at this; omega) (by have := ho.enc; simp only at this; omega))
  have k4 := fun w hE => Lib.hid (Cod.base_Int holder ho.holder w hE)
  have HM : Hid (OpD.min ⟨ver, gate, no, reason, jurors, holder⟩ = Cod.numsS [ver, gate, no] ++ (Cod.textS reason ++ (Cod.numsS jurors ++ Cod.intS holder))) := rfl
  have l1 : (bs (Cod.numsS [ver, gate, no])).size ≤ 100 := by rw [bs_size]; exact nums3_len _ _ _ ho.ver ho.gate ho.no
  have l2 : (bs (Cod.textS reason)).size ≤ 1000000100 := by
    have := Cod.itoa_len (reason.length : Int) (Cod.isInt_len (by have := ho.reason; simp only at this; omega))
    have h2 := ho.reason
    simp only at h2
    rw [bs_size]; unfold Cod.textS; simp; omega
  have l3 : (bs (Cod.numsS jurors)).size ≤ 1000000000 := by rw [bs_size]; exact ho.enc
  have l4 : (bs (Cod.intS holder)).size ≤ 100 := by rw [bs_size]; have := Cod.intS_len holder ho.holder; omega
  generalize Cod.numsS [ver, gate, no] = A at *
  generalize Cod.textS reason = T at *
  generalize Cod.numsS jurors = J at *
  generalize Cod.intS holder = I at *
  have c1 : ¬ 9223372036854775807 < (bs A).size + (bs T).size := by omega
  have c2 : ¬ 9223372036854775807 < (bs A).size + (bs T).size + (bs J).size := by omega
  have c3 : ¬ 9223372036854775807 < (bs A).size + (bs T).size + (bs J).size + (bs I).size := by omega
  unfold OpD.val OpD.cells
  simp only
  go_enter Tryd.func12, Tryd.ntmps12
  go_wp2_with fail
  generalize w.alloc (.cells #[.int .i64 ver, .int .i64 gate, .int .i64 no, .string (bs reason), .slice aj jurors.length cj, .int .i64 holder] 37) = W0 at *
  have j1 : Hid (∀ (args' : Array Value) (g : Nat) (w : World), args' = #[.slice (some ⟨g, 0, none⟩) 3 3] → Below W0.heap.size W0 w → Blk w g 3 #[.int .i64 ver, .int .i64 gate, .int .i64 no] → Calls Tryd.prog 27 args' w fun e w' => e = .returned (.string (bs A)) ∧ Below W0.heap.size W0 w') := by
    show ∀ (args' : Array Value) (g : Nat) (w : World), _
    intro args' g w he hb hB
    subst he
    exact (k1 _ w (hE0.next hb) (nums_three hB)).out.mono fun _ _ ⟨a, b⟩ => ⟨a, hb.trans (b.mono hb.size)⟩
  have j2 : Hid (∀ (args' : Array Value) (w : World), args' = #[.string (bs reason)] → Below W0.heap.size W0 w → Calls Tryd.prog 28 args' w fun e w' => e = .returned (.string (bs T)) ∧ Below W0.heap.size W0 w') := by
    show ∀ (args' : Array Value) (w : World), _
    intro args' w he hb
    subst he
    exact (k2 w (hE0.next hb)).out.mono fun _ _ ⟨a, b⟩ => ⟨a, hb.trans (b.mono hb.size)⟩
  have j3 : Hid (∀ (args' : Array Value) (w : World), args' = #[.slice aj jurors.length cj] → Below W0.heap.size W0 w → Calls Tryd.prog 27 args' w fun e w' => e = .returned (.string (bs J)) ∧ Below W0.heap.size W0 w') := by
    show ∀ (args' : Array Value) (w : World), _
    intro args' w he hb
    subst he
    exact (k3 w (hE0.next hb) (hv0.next hb)).out.mono fun _ _ ⟨a, b⟩ => ⟨a, hb.trans (b.mono hb.size)⟩
  have j4 : Hid (∀ (args' : Array Value) (w : World), args' = #[.int .i64 holder] → Below W0.heap.size W0 w → Calls Tryd.prog 29 args' w fun e w' => e = .returned (.string (bs I)) ∧ Below W0.heap.size W0 w') := by
    show ∀ (args' : Array Value) (w : World), _
    intro args' w he hb
    subst he
    exact (k4 w (hE0.next hb)).out.mono fun _ _ ⟨a, b⟩ => ⟨a, hb.trans (b.mono hb.size)⟩
  have HK : Hid (∀ w', Below W0.heap.size W0 w' → w'.cell? ⟨w.heap.size, 0, none⟩ = some (.int .i64 ver) ∧ w'.cell? ⟨w.heap.size, 1, none⟩ = some (.int .i64 gate) ∧ w'.cell? ⟨w.heap.size, 2, none⟩ = some (.int .i64 no) ∧ w'.cell? ⟨w.heap.size, 3, none⟩ = some (.string (bs reason)) ∧ w'.cell? ⟨w.heap.size, 4, none⟩ = some (.slice aj jurors.length cj) ∧ w'.cell? ⟨w.heap.size, 5, none⟩ = some (.int .i64 holder) ∧ Below W0.heap.size W0 w') := by
    show ∀ w', Below W0.heap.size W0 w' → _
    intro w' h
    have := hB.next h
    exact ⟨this.cell 0, this.cell 1, this.cell 2, this.cell 3, this.cell 4, this.cell 5, h⟩
  clear k1 k2 k3 k4 hB hE hE0 hv hv0 ho l1 l2 l3 l4
  go_region_held3 (fun w' => w'.cell? ⟨w.heap.size, 0, none⟩ = some (.int .i64 ver) ∧ w'.cell? ⟨w.heap.size, 1, none⟩ = some (.int .i64 gate) ∧ w'.cell? ⟨w.heap.size, 2, none⟩ = some (.int .i64 no) ∧ w'.cell? ⟨w.heap.size, 3, none⟩ = some (.string (bs reason)) ∧ w'.cell? ⟨w.heap.size, 4, none⟩ = some (.slice aj jurors.length cj) ∧ w'.cell? ⟨w.heap.size, 5, none⟩ = some (.int .i64 holder) ∧ Below W0.heap.size W0 w')
    (first | exact HK.out _ (by assumption) | exact HK.out _ (Below.alloc_ (by assumption) _) | exact HK.out _ (below_drewN (Below.refl _ _) 1) | exact HK.out _ (Below.alloc_ (below_drewN (Below.refl W0.heap.size W0) 1) _) | exact HK.out _ (Below.refl _ _))
    (first
      | (go_at_call 27; refine Calls.mono (j1.out _ W0.heap.size _ (by with_reducible rfl) (Below.alloc_ (below_drewN (Below.refl W0.heap.size W0) 1) _) (Blk.new W0.drew _ _)) ?_; rintro e w4 ⟨rfl, hb4⟩)
      | (go_at_call 28; refine Calls.mono (j2.out _ _ (by with_reducible rfl) (by assumption)) ?_; rintro e w5 ⟨rfl, hb5⟩)
      | (go_at_call 27; refine Calls.mono (j3.out _ _ (by with_reducible rfl) (by assumption)) ?_; rintro e w6 ⟨rfl, hb6⟩)
      | (go_at_call 29; refine Calls.mono (j4.out _ _ (by with_reducible rfl) (by assumption)) ?_; rintro e w7 ⟨rfl, hb7⟩))
  all_goals
    go_wp2
    go_ret
    refine ⟨?_, hb.trans (hb7.mono hb.size)⟩
    rw [HM.out, bs_append, bs_append, bs_append, List.append_assoc, List.append_assoc]
    rfl
end Go.Proofs.YtkfmhibdoapndaaDoor
