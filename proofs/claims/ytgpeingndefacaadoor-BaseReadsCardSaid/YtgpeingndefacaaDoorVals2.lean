/- Writing a value, and comparing what a reader reads with it. -/
import Derived.Test.YtgpeingndefacaaDoorVals
import Derived.Deep.RegionWith
import Derived.Deep.RegionHeld3
namespace Go.Proofs.YtgpeingndefacaaDoor
open Go.RowKit

def numberF (n : Int) : Int := if n < 0 then -(n + 1) else n
theorem numberF_int (n : Int) (h : isInt n) : isInt (numberF n) ∧ 0 ≤ numberF n := by
  have h1 := h.1
  have h2 := h.2
  unfold numberF isInt
  split <;> omega
set_option maxRecDepth 100000 in
theorem number_calls (n : Int) (h : isInt n) (w : World) : Calls Tryd.prog 57 #[.int .i64 n] w fun e w' => e = .returned (.int .i64 (numberF n)) ∧ w = w' := by
  have h1 := h.1
  have h2 := h.2
  by_cases hn : n < 0
  · have H := Lib.hid (show numberF n = -(n + 1) by unfold numberF; rw [if_pos hn])
    go_enter Tryd.func57, Tryd.ntmps57
    go_wp2
    go_ret
    exact ⟨ret_int (by rw [H.out]), rfl⟩
  · have H := Lib.hid (show numberF n = n by unfold numberF; rw [if_neg hn])
    go_enter Tryd.func57, Tryd.ntmps57
    go_wp2
    go_ret
    exact ⟨ret_int (by rw [H.out]), rfl⟩

/-- The encoding of a value. -/
def encV (v : Val) : List UInt8 := if kindF v.k = 0 then numS (numberF v.n) else if kindF v.k = 1 then intS v.n else if kindF v.k = 2 then textS v.s else if kindF v.k = 3 then numsS v.l else textsS v.t

theorem flat_le {α : Type} (wr : α → List UInt8) (N : Nat) : ∀ (l : List α), (∀ a ∈ l, (wr a).length ≤ N) → (l.flatMap wr).length ≤ l.length * N
  | [], _ => by simp
  | a :: l, h => by
    have h1 := h a (List.mem_cons_self ..)
    have h2 := flat_le wr N l (fun x hx => h x (List.mem_cons_of_mem _ hx))
    simp only [List.flatMap_cons, List.length_append, List.length_cons, Nat.succ_mul]; omega
theorem numsS_len (l : List Int) (h : ∀ x ∈ l, isInt x) (hl : l.length ≤ 400) : (numsS l).length ≤ 8500 := by
  have h1 := itoa_len (l.length : Int) (isInt_len (by omega))
  have h2 := flat_le intS 21 l (fun a ha => intS_len a (h a ha))
  unfold numsS
  simp only [List.length_append, List.length_cons, List.length_nil]; omega
theorem textS_short (s : List UInt8) (h : s.length ≤ 400) : (textS s).length ≤ 430 := by
  have h1 := itoa_len (s.length : Int) (isInt_len (by omega))
  unfold textS; simp only [List.length_append, List.length_cons, List.length_nil]; omega
theorem textsS_len (l : List (List UInt8)) (h : ∀ x ∈ l, x.length ≤ 400) (hl : l.length ≤ 400) : (textsS l).length ≤ 173000 := by
  have h1 := itoa_len (l.length : Int) (isInt_len (by omega))
  have h2 := flat_le textS 430 l (fun a ha => textS_short a (h a ha))
  unfold textsS
  simp only [List.length_append, List.length_cons, List.length_nil]; omega
theorem encV_len (v : Val) (hf : Few v) (hn : isInt v.n) (hl : ∀ x ∈ v.l, isInt x) : (encV v).length ≤ 173000 := by
  unfold encV
  have hi := numberF_int v.n hn
  have h1 : (numS (numberF v.n)).length ≤ 21 := by
    unfold numS; split
    · simp
    · exact intS_len _ hi.1
  have h2 := intS_len v.n hn
  have h3 := textS_short v.s hf.2.2.1
  have h4 := numsS_len v.l hl hf.1
  have h5 := textsS_len v.t hf.2.2.2 hf.2.1
  repeat' split
  all_goals omega

theorem few_texts {v : Val} (hf : Few v) : ∀ x ∈ v.t, x.length ≤ 4294967296 := fun x hx => by have := hf.2.2.2 x hx; omega

set_option maxHeartbeats 1000000 in
set_option maxRecDepth 100000 in
theorem write_calls (v : Val) (a b c d e : Value) (w : World) (hE : Env w) (hv : ValIs v a b c d e w) (hf : Few v) :
    Calls Tryd.prog 41 #[.agg #[a, b, c, d, e]] w fun e w' => e = .returned (.string (bs (encV v))) ∧ Below w.heap.size w w' := by
  have hb0 : Below w.heap.size w (w.alloc (.cells #[a, b, c, d, e] 25)) := (Below.refl _ _).alloc (Nat.le_refl _) _
  obtain ⟨rfl, rfl, rfl, hd, he, hk, hn, hli⟩ := hv
  have hni := numberF_int v.n hn
  have hE0 := hE.next hb0
  have hf1 := hf.1
  have hf2 := hf.2.1
  have hf3 := hf.2.2.1
  rcases kindF_range v.k with hj | hj | hj | hj | hj
  · have H := Lib.hid (show encV v = numS (numberF v.n) by unfold encV; rw [if_pos hj])
    have HK := Lib.hid hj
    clear hj
    go_enter Tryd.func41, Tryd.ntmps41
    go_wp2_with fail
    refine (kind_is v.k hk 0 HK.out _ _ _ _ _).mono ?_
    rintro e1 w1 ⟨rfl, hb1⟩
    have hb01 := hb0.trans (hb1.mono (by simp))
    have c1 : w1.cell? ⟨w.heap.size, 1, none⟩ = some (.int .i64 v.n) := by
      rw [hb1.cell (p := ⟨w.heap.size, 1, none⟩) (by simp), World.cell?_alloc_at _ _ _ _ rfl]; rfl
    have hE1 := hE0.next hb1
    go_wp2_with fail
    refine (number_calls v.n hn _).mono ?_
    rintro e1 w2 ⟨rfl, rfl⟩
    go_wp2_with fail
    refine (base_Num _ hni.1 _ hE1).mono ?_
    rintro e1 w2 ⟨rfl, hb2⟩
    go_wp2
    go_ret
    exact ⟨ret_str (by rw [H.out]), hb01.trans (hb2.mono hb01.size)⟩
  · have H := Lib.hid (show encV v = intS v.n by unfold encV; rw [if_neg (by omega), if_pos hj])
    have HK := Lib.hid hj
    clear hj
    go_enter Tryd.func41, Tryd.ntmps41
    go_wp2_with fail
    refine (kind_is v.k hk 1 HK.out _ _ _ _ _).mono ?_
    rintro e1 w1 ⟨rfl, hb1⟩
    have hb01 := hb0.trans (hb1.mono (by simp))
    have c1 : w1.cell? ⟨w.heap.size, 1, none⟩ = some (.int .i64 v.n) := by
      rw [hb1.cell (p := ⟨w.heap.size, 1, none⟩) (by simp), World.cell?_alloc_at _ _ _ _ rfl]; rfl
    have hE1 := hE0.next hb1
    go_wp2_with fail
    refine (base_Int _ hn _ hE1).mono ?_
    rintro e1 w2 ⟨rfl, hb2⟩
    go_wp2
    go_ret
    exact ⟨ret_str (by rw [H.out]), hb01.trans (hb2.mono hb01.size)⟩
  · have H := Lib.hid (show encV v = textS v.s by unfold encV; rw [if_neg (by omega), if_neg (by omega), if_pos hj])
    have HK := Lib.hid hj
    clear hj
    go_enter Tryd.func41, Tryd.ntmps41
    go_wp2_with fail
    refine (kind_is v.k hk 2 HK.out _ _ _ _ _).mono ?_
    rintro e1 w1 ⟨rfl, hb1⟩
    have hb01 := hb0.trans (hb1.mono (by simp))
    have c1 : w1.cell? ⟨w.heap.size, 2, none⟩ = some (.string (bs v.s)) := by
      rw [hb1.cell (p := ⟨w.heap.size, 2, none⟩) (by simp), World.cell?_alloc_at _ _ _ _ rfl]; rfl
    have hE1 := hE0.next hb1
    go_wp2_with fail
    refine (base_Text_bs _ (by omega) _ hE1).mono ?_
    rintro e1 w2 ⟨rfl, hb2⟩
    go_wp2
    go_ret
    exact ⟨ret_str (by rw [H.out]), hb01.trans (hb2.mono hb01.size)⟩
  · have H := Lib.hid (show encV v = numsS v.l by unfold encV; rw [if_neg (by omega), if_neg (by omega), if_neg (by omega), if_pos hj])
    have HK := Lib.hid hj
    clear hj
    go_enter Tryd.func41, Tryd.ntmps41
    go_wp2_with fail
    refine (kind_is v.k hk 3 HK.out _ _ _ _ _).mono ?_
    rintro e1 w1 ⟨rfl, hb1⟩
    have hb01 := hb0.trans (hb1.mono (by simp))
    have c1 : w1.cell? ⟨w.heap.size, 3, none⟩ = some (d) := by
      rw [hb1.cell (p := ⟨w.heap.size, 3, none⟩) (by simp), World.cell?_alloc_at _ _ _ _ rfl]; rfl
    have hE1 := hE0.next hb1
    go_wp2_with fail
    refine (base_Nums d v.l _ hE1 (hd.next hb01) hli (by omega) (by have := numsS_len v.l hli hf1; omega)).mono ?_
    rintro e1 w2 ⟨rfl, hb2⟩
    go_wp2
    go_ret
    exact ⟨ret_str (by rw [H.out]), hb01.trans (hb2.mono hb01.size)⟩
  · have H := Lib.hid (show encV v = textsS v.t by unfold encV; rw [if_neg (by omega), if_neg (by omega), if_neg (by omega), if_neg (by omega)])
    have HK := Lib.hid hj
    clear hj
    go_enter Tryd.func41, Tryd.ntmps41
    go_wp2_with fail
    refine (kind_is v.k hk 4 HK.out _ _ _ _ _).mono ?_
    rintro e1 w1 ⟨rfl, hb1⟩
    have hb01 := hb0.trans (hb1.mono (by simp))
    have c1 : w1.cell? ⟨w.heap.size, 4, none⟩ = some (e) := by
      rw [hb1.cell (p := ⟨w.heap.size, 4, none⟩) (by simp), World.cell?_alloc_at _ _ _ _ rfl]; rfl
    have hE1 := hE0.next hb1
    go_wp2_with fail
    refine (base_Texts e v.t _ hE1 (he.next hb01) (few_texts hf) (by omega) (by have := textsS_len v.t hf.2.2.2 hf2; omega)).mono ?_
    rintro e1 w2 ⟨rfl, hb2⟩
    go_wp2
    go_ret
    exact ⟨ret_str (by rw [H.out]), hb01.trans (hb2.mono hb01.size)⟩

/-- What comparing a value with what the reader reads leaves, if it reads this value. -/
theorem readV (v : Val) (m : List UInt8) (hf : Few v) (hn : isInt v.n) (hl : ∀ x ∈ v.l, isInt x) :
    (kindF v.k = 0 → numF (encV v ++ m, false) = (numberF v.n, (m, false))) ∧ (kindF v.k = 1 → intF (encV v ++ m, false) = (v.n, (m, false))) ∧ (kindF v.k = 2 → textF (encV v ++ m, false) = (v.s, (m, false))) ∧
    (kindF v.k = 3 → numsF (encV v ++ m, false) = (v.l, (m, false))) ∧ (kindF v.k = 4 → textsF (encV v ++ m, false) = (v.t, (m, false))) := by
  have hi := numberF_int v.n hn
  have hf1 := hf.1
  have hf2 := hf.2.1
  have hf3 := hf.2.2.1
  refine ⟨fun h => ?_, fun h => ?_, fun h => ?_, fun h => ?_, fun h => ?_⟩
  · rw [show encV v = numS (numberF v.n) by unfold encV; rw [if_pos h]]; exact numF_write _ m false hi.1 hi.2
  · rw [show encV v = intS v.n by unfold encV; rw [if_neg (by omega), if_pos h]]; exact intF_write _ m false hn
  · rw [show encV v = textS v.s by unfold encV; rw [if_neg (by omega), if_neg (by omega), if_pos h]]; exact textF_write _ m (by omega)
  · rw [show encV v = numsS v.l by unfold encV; rw [if_neg (by omega), if_neg (by omega), if_neg (by omega), if_pos h]]; exact numsF_write _ m hl (by omega)
  · rw [show encV v = textsS v.t by unfold encV; rw [if_neg (by omega), if_neg (by omega), if_neg (by omega), if_neg (by omega)]]; exact textsF_write _ m (fun a ha => by have := hf.2.2.2 a ha; omega) (by omega)

theorem Env.drew {w : World} (h : Env w) : Env w.drew := h.below (B := 6) (Below.refl 6 w).drew (Nat.le_refl _)
theorem Rb.drewN {g : Nat} {r : Rd} {w : World} (h : Rb g r w) (n : Nat) : Rb g r (w.drewN n) := h
theorem only_drewN {a w : World} {row : Option Nat} (h : a.grownBy w row) (n : Nat) : a.grownBy (w.drewN n) row := ⟨h.os, h.tape, h.output, h.size, h.block⟩
theorem below_only {a w w' : World} {g : Nat} (h : Below a.heap.size a w) (hg : w.grownBy w' (some g)) (hag : a.heap.size ≤ g) : Below a.heap.size a w' :=
  h.grown hg h.size (fun k hk => by simp at hk; omega)

set_option maxHeartbeats 2000000 in
set_option maxRecDepth 100000 in
theorem equal_0 (v : Val) (g : Nat) (m : List UInt8) (a b c d e : Value) (W0 w : World) (hE : Env w) (hb00 : Below W0.heap.size W0 w) (_hgW : W0.heap.size ≤ g) (hv : ValIs v a b c d e W0) (hf : Few v) (_hg : 6 ≤ g) (hR : Rb g (encV v ++ m, false) w) (hlen : (encV v ++ m).length ≤ 4294967296) (hj : kindF v.k = 0) :
    Calls Tryd.prog 42 #[.pointer (some ⟨g, 0, none⟩), .agg #[a, b, c, d, e]] w (Rpost g (.bool true) (m, false) w) := by
  have hb0 : Below w.heap.size w (w.alloc (.cells #[a, b, c, d, e] 25)) := (Below.refl _ _).alloc (Nat.le_refl _) _
  obtain ⟨rfl, rfl, rfl, hd, he, hk, hn, hli⟩ := hv
  have hrv := (readV v m hf hn hli).1 hj
  have hE0 := hE.next hb0
  have hR0 := hR.next hb0
  have hlt := hR.lt
  have hf1 := hf.1
  have hf2 := hf.2.1
  have H := Lib.hid hrv
  have HK := Lib.hid hj
  clear hj hrv
  go_enter Tryd.func42, Tryd.ntmps42
  go_wp2_with fail
  refine (kind_is v.k hk 0 HK.out _ _ _ _ _).mono ?_
  rintro e1 w1 ⟨rfl, hb1⟩
  have hb01 := hb0.trans (hb1.mono (by simp))
  have c1 : w1.cell? ⟨w.heap.size, 1, none⟩ = some (.int .i64 v.n) := by
    rw [hb1.cell (p := ⟨w.heap.size, 1, none⟩) (by simp), World.cell?_alloc_at _ _ _ _ rfl]; rfl
  have hE1 := hE0.next hb1
  have hR1 := hR0.next hb1
  have hs1 := hb01.size
  have hED : Env w1.drew := hE1.drew
  have hRD : Rb g (encV v ++ m, false) w1.drew := hR1
  have hgD : w.grownBy w1.drew (some g) := only_drew (only_below (only_refl w g) hb01)
  have hbD : Below W0.heap.size W0 w1.drew := (hb00.trans (hb01.mono hb00.size)).drew
  have hs00 := hb00.size
  have HRD := Lib.hid (rd_Num g (encV v ++ m, false) w1.drew hED hRD hlen)
  clear hb0 hb1 hE0 hR0 hE1 hR1 hb01 hED hRD
  go_wp2_with fail
  go_region_with (first | (go_at_call 57; refine (number_calls v.n hn _).mono ?_; rintro e1 w2 ⟨rfl, rfl⟩) | (go_at_call 23; refine HRD.out.mono ?_; rw [H.out]; rintro e1 w2 ⟨rfl, hR2, hg2⟩; have c2 : w2.cell? ⟨w.heap.size, 1, none⟩ = some (.int .i64 v.n) := (hg2.cell (by exact c1) (by simp; omega))))
  all_goals go_wp2
  all_goals go_ret
  all_goals exact ⟨ret_bool (by simp), hR2, only_trans hgD hg2⟩

set_option maxHeartbeats 2000000 in
set_option maxRecDepth 100000 in
theorem equal_1 (v : Val) (g : Nat) (m : List UInt8) (a b c d e : Value) (W0 w : World) (hE : Env w) (hb00 : Below W0.heap.size W0 w) (_hgW : W0.heap.size ≤ g) (hv : ValIs v a b c d e W0) (hf : Few v) (_hg : 6 ≤ g) (hR : Rb g (encV v ++ m, false) w) (hlen : (encV v ++ m).length ≤ 4294967296) (hj : kindF v.k = 1) :
    Calls Tryd.prog 42 #[.pointer (some ⟨g, 0, none⟩), .agg #[a, b, c, d, e]] w (Rpost g (.bool true) (m, false) w) := by
  have hb0 : Below w.heap.size w (w.alloc (.cells #[a, b, c, d, e] 25)) := (Below.refl _ _).alloc (Nat.le_refl _) _
  obtain ⟨rfl, rfl, rfl, hd, he, hk, hn, hli⟩ := hv
  have hrv := (readV v m hf hn hli).2.1 hj
  have hE0 := hE.next hb0
  have hR0 := hR.next hb0
  have hlt := hR.lt
  have hf1 := hf.1
  have hf2 := hf.2.1
  have H := Lib.hid hrv
  have HK := Lib.hid hj
  clear hj hrv
  go_enter Tryd.func42, Tryd.ntmps42
  go_wp2_with fail
  refine (kind_is v.k hk 1 HK.out _ _ _ _ _).mono ?_
  rintro e1 w1 ⟨rfl, hb1⟩
  have hb01 := hb0.trans (hb1.mono (by simp))
  have c1 : w1.cell? ⟨w.heap.size, 1, none⟩ = some (.int .i64 v.n) := by
    rw [hb1.cell (p := ⟨w.heap.size, 1, none⟩) (by simp), World.cell?_alloc_at _ _ _ _ rfl]; rfl
  have hE1 := hE0.next hb1
  have hR1 := hR0.next hb1
  have hs1 := hb01.size
  have hED : Env w1.drew := hE1.drew
  have hRD : Rb g (encV v ++ m, false) w1.drew := hR1
  have hgD : w.grownBy w1.drew (some g) := only_drew (only_below (only_refl w g) hb01)
  have hbD : Below W0.heap.size W0 w1.drew := (hb00.trans (hb01.mono hb00.size)).drew
  have hs00 := hb00.size
  have HRD := Lib.hid (rd_Int g (encV v ++ m, false) w1.drew hED hRD hlen)
  clear hb0 hb1 hE0 hR0 hE1 hR1 hb01 hED hRD
  go_wp2_with fail
  go_region_with (first | (go_at_call 25; refine HRD.out.mono ?_; rw [H.out]; rintro e1 w2 ⟨rfl, hR2, hg2⟩; have c2 : w2.cell? ⟨w.heap.size, 1, none⟩ = some (.int .i64 v.n) := (hg2.cell (by exact c1) (by simp; omega))))
  all_goals go_wp2
  all_goals go_ret
  all_goals exact ⟨ret_bool (by simp), hR2, only_trans hgD hg2⟩

set_option maxHeartbeats 2000000 in
set_option maxRecDepth 100000 in
theorem equal_2 (v : Val) (g : Nat) (m : List UInt8) (a b c d e : Value) (W0 w : World) (hE : Env w) (hb00 : Below W0.heap.size W0 w) (_hgW : W0.heap.size ≤ g) (hv : ValIs v a b c d e W0) (hf : Few v) (_hg : 6 ≤ g) (hR : Rb g (encV v ++ m, false) w) (hlen : (encV v ++ m).length ≤ 4294967296) (hj : kindF v.k = 2) :
    Calls Tryd.prog 42 #[.pointer (some ⟨g, 0, none⟩), .agg #[a, b, c, d, e]] w (Rpost g (.bool true) (m, false) w) := by
  have hb0 : Below w.heap.size w (w.alloc (.cells #[a, b, c, d, e] 25)) := (Below.refl _ _).alloc (Nat.le_refl _) _
  obtain ⟨rfl, rfl, rfl, hd, he, hk, hn, hli⟩ := hv
  have hrv := (readV v m hf hn hli).2.2.1 hj
  have hE0 := hE.next hb0
  have hR0 := hR.next hb0
  have hlt := hR.lt
  have hf1 := hf.1
  have hf2 := hf.2.1
  have H := Lib.hid hrv
  have HK := Lib.hid hj
  clear hj hrv
  go_enter Tryd.func42, Tryd.ntmps42
  go_wp2_with fail
  refine (kind_is v.k hk 2 HK.out _ _ _ _ _).mono ?_
  rintro e1 w1 ⟨rfl, hb1⟩
  have hb01 := hb0.trans (hb1.mono (by simp))
  have c1 : w1.cell? ⟨w.heap.size, 2, none⟩ = some (.string (bs v.s)) := by
    rw [hb1.cell (p := ⟨w.heap.size, 2, none⟩) (by simp), World.cell?_alloc_at _ _ _ _ rfl]; rfl
  have hE1 := hE0.next hb1
  have hR1 := hR0.next hb1
  have hs1 := hb01.size
  have hED : Env w1.drew := hE1.drew
  have hRD : Rb g (encV v ++ m, false) w1.drew := hR1
  have hgD : w.grownBy w1.drew (some g) := only_drew (only_below (only_refl w g) hb01)
  have hbD : Below W0.heap.size W0 w1.drew := (hb00.trans (hb01.mono hb00.size)).drew
  have hs00 := hb00.size
  have HRD := Lib.hid (rd_text g (encV v ++ m, false) w1.drew hED hRD hlen)
  clear hb0 hb1 hE0 hR0 hE1 hR1 hb01 hED hRD
  go_wp2_with fail
  go_region_with (first | (go_at_call 27; refine HRD.out.mono ?_; rw [H.out]; rintro e1 w2 ⟨rfl, hR2, hg2⟩; have c2 : w2.cell? ⟨w.heap.size, 2, none⟩ = some (.string (bs v.s)) := (hg2.cell (by exact c1) (by simp; omega))))
  all_goals go_wp2
  all_goals go_ret
  all_goals exact ⟨ret_bool (by simp), hR2, only_trans hgD hg2⟩

set_option maxHeartbeats 2000000 in
set_option maxRecDepth 100000 in
theorem equal_3 (v : Val) (g : Nat) (m : List UInt8) (a b c d e : Value) (W0 w : World) (hE : Env w) (hb00 : Below W0.heap.size W0 w) (hgW : W0.heap.size ≤ g) (hv : ValIs v a b c d e W0) (hf : Few v) (hg : 6 ≤ g) (hR : Rb g (encV v ++ m, false) w) (hlen : (encV v ++ m).length ≤ 4294967296) (hj : kindF v.k = 3) :
    Calls Tryd.prog 42 #[.pointer (some ⟨g, 0, none⟩), .agg #[a, b, c, d, e]] w (Rpost g (.bool true) (m, false) w) := by
  have hb0 : Below w.heap.size w (w.alloc (.cells #[a, b, c, d, e] 25)) := (Below.refl _ _).alloc (Nat.le_refl _) _
  obtain ⟨rfl, rfl, rfl, hd, he, hk, hn, hli⟩ := hv
  have hrv := (readV v m hf hn hli).2.2.2.1 hj
  have hE0 := hE.next hb0
  have hR0 := hR.next hb0
  have hlt := hR.lt
  have hf1 := hf.1
  have hf2 := hf.2.1
  have H := Lib.hid hrv
  have HK := Lib.hid hj
  clear hj hrv
  go_enter Tryd.func42, Tryd.ntmps42
  go_wp2_with fail
  refine (kind_is v.k hk 3 HK.out _ _ _ _ _).mono ?_
  rintro e1 w1 ⟨rfl, hb1⟩
  have hb01 := hb0.trans (hb1.mono (by simp))
  have c1 : w1.cell? ⟨w.heap.size, 3, none⟩ = some (d) := by
    rw [hb1.cell (p := ⟨w.heap.size, 3, none⟩) (by simp), World.cell?_alloc_at _ _ _ _ rfl]; rfl
  have hE1 := hE0.next hb1
  have hR1 := hR0.next hb1
  have hs1 := hb01.size
  have hED : Env w1.drew := hE1.drew
  have hRD : Rb g (encV v ++ m, false) w1.drew := hR1
  have hgD : w.grownBy w1.drew (some g) := only_drew (only_below (only_refl w g) hb01)
  have hbD : Below W0.heap.size W0 w1.drew := (hb00.trans (hb01.mono hb00.size)).drew
  have hs00 := hb00.size
  have HRD := Lib.hid (rd_Nums g (encV v ++ m, false) w1.drew hED hRD hlen (okRd_fresh _) hg)
  clear hb0 hb1 hE0 hR0 hE1 hR1 hb01 hED hRD
  go_wp2_with fail
  go_region_with (first | (go_at_call 30; refine HRD.out.mono ?_; rw [H.out]; rintro e1 w2 ⟨vv, rfl, hI2, hR2, hg2⟩; have c2 : w2.cell? ⟨w.heap.size, 3, none⟩ = some (d) := (hg2.cell (by exact c1) (by simp; omega)); have hS := Lib.hid (sameNums_eq vv d v.l w2 hI2 (hd.next (below_only hbD hg2 hgW)) (by omega)); clear hI2) | (go_at_call 29; refine hS.out.mono ?_; rintro e1 w3 ⟨rfl, n3, rfl⟩))
  all_goals go_wp2
  all_goals go_ret
  all_goals exact ⟨rfl, hR2.drewN _, only_drewN (only_trans hgD hg2) _⟩

set_option maxHeartbeats 2000000 in
set_option maxRecDepth 100000 in
theorem equal_4 (v : Val) (g : Nat) (m : List UInt8) (a b c d e : Value) (W0 w : World) (hE : Env w) (hb00 : Below W0.heap.size W0 w) (hgW : W0.heap.size ≤ g) (hv : ValIs v a b c d e W0) (hf : Few v) (hg : 6 ≤ g) (hR : Rb g (encV v ++ m, false) w) (hlen : (encV v ++ m).length ≤ 4294967296) (hj : kindF v.k = 4) :
    Calls Tryd.prog 42 #[.pointer (some ⟨g, 0, none⟩), .agg #[a, b, c, d, e]] w (Rpost g (.bool true) (m, false) w) := by
  have hb0 : Below w.heap.size w (w.alloc (.cells #[a, b, c, d, e] 25)) := (Below.refl _ _).alloc (Nat.le_refl _) _
  obtain ⟨rfl, rfl, rfl, hd, he, hk, hn, hli⟩ := hv
  have hrv := (readV v m hf hn hli).2.2.2.2 hj
  have hE0 := hE.next hb0
  have hR0 := hR.next hb0
  have hlt := hR.lt
  have hf1 := hf.1
  have hf2 := hf.2.1
  have H := Lib.hid hrv
  have HK := Lib.hid hj
  clear hj hrv
  go_enter Tryd.func42, Tryd.ntmps42
  go_wp2_with fail
  refine (kind_is v.k hk 4 HK.out _ _ _ _ _).mono ?_
  rintro e1 w1 ⟨rfl, hb1⟩
  have hb01 := hb0.trans (hb1.mono (by simp))
  have c1 : w1.cell? ⟨w.heap.size, 4, none⟩ = some (e) := by
    rw [hb1.cell (p := ⟨w.heap.size, 4, none⟩) (by simp), World.cell?_alloc_at _ _ _ _ rfl]; rfl
  have hE1 := hE0.next hb1
  have hR1 := hR0.next hb1
  have hs1 := hb01.size
  have hED : Env w1.drew := hE1.drew
  have hRD : Rb g (encV v ++ m, false) w1.drew := hR1
  have hgD : w.grownBy w1.drew (some g) := only_drew (only_below (only_refl w g) hb01)
  have hbD : Below W0.heap.size W0 w1.drew := (hb00.trans (hb01.mono hb00.size)).drew
  have hs00 := hb00.size
  have HRD := Lib.hid (rd_Texts g (encV v ++ m, false) w1.drew hED hRD hlen (okRd_fresh _) hg)
  clear hb0 hb1 hE0 hR0 hE1 hR1 hb01 hED hRD
  go_wp2_with fail
  go_region_with (first | (go_at_call 33; refine HRD.out.mono ?_; rw [H.out]; rintro e1 w2 ⟨vv, rfl, hI2, hR2, hg2⟩; have c2 : w2.cell? ⟨w.heap.size, 4, none⟩ = some (e) := (hg2.cell (by exact c1) (by simp; omega)); have hS := Lib.hid (sameTexts_eq vv e v.t w2 hI2 (he.next (below_only hbD hg2 hgW)) (by omega)); clear hI2) | (go_at_call 32; refine hS.out.mono ?_; rintro e1 w3 ⟨rfl, n3, rfl⟩))
  all_goals go_wp2
  all_goals go_ret
  all_goals exact ⟨rfl, hR2.drewN _, only_drewN (only_trans hgD hg2) _⟩

theorem equal_calls (v : Val) (g : Nat) (m : List UInt8) (a b c d e : Value) (W0 w : World) (hE : Env w) (hb00 : Below W0.heap.size W0 w) (hgW : W0.heap.size ≤ g) (hv : ValIs v a b c d e W0) (hf : Few v) (hg : 6 ≤ g) (hR : Rb g (encV v ++ m, false) w) (hlen : (encV v ++ m).length ≤ 4294967296) :
    Calls Tryd.prog 42 #[.pointer (some ⟨g, 0, none⟩), .agg #[a, b, c, d, e]] w (Rpost g (.bool true) (m, false) w) := by
  rcases kindF_range v.k with hj | hj | hj | hj | hj
  · exact equal_0 v g m a b c d e W0 w hE hb00 hgW hv hf hg hR hlen hj
  · exact equal_1 v g m a b c d e W0 w hE hb00 hgW hv hf hg hR hlen hj
  · exact equal_2 v g m a b c d e W0 w hE hb00 hgW hv hf hg hR hlen hj
  · exact equal_3 v g m a b c d e W0 w hE hb00 hgW hv hf hg hR hlen hj
  · exact equal_4 v g m a b c d e W0 w hE hb00 hgW hv hf hg hR hlen hj
end Go.Proofs.YtgpeingndefacaaDoor
