/- The writers and readers of lists, in the seat of proof. -/
import Derived.Test.YthnkfjjgccabeaaGreatDoorCodp
import Derived.Test.YthnkfjjgccabeaaGreatDoorBuild
import Derived.Deep.RegionWith
import Derived.Deep.RegionHeld3
namespace Go.Proofs.YthnkfjjgccabeaaGreatDoor.Cod
open Go.RowKit Go.Lib

set_option maxHeartbeats 2000000 in
set_option maxRecDepth 100000 in
theorem writeString (B b : Nat) (bs : List Value) (s : ByteArray) (w : World) (h : Lib.IsBuilder 125 5 B b bs w) (hlen : bs.length + s.size ≤ 140737488355328) (hBw : B ≤ w.heap.size) :
    Calls Tryz.prog 76 #[.pointer (some ⟨b, 0, none⟩), .string s] w fun e w' => e = .returned (.tuple #[.int .i64 s.size, .nilIface]) ∧ (Lib.BuilderAt 125 5 B b (.pointer (some ⟨b, 0, none⟩)) (bs ++ Lib.strCells s) w' ∧ Below B w w') := by
  obtain ⟨i0, hi, hz0, hz1, hz2⟩ := info_parts info5
  go_enter Tryz.func76, Tryz.ntmps76
  go_wp2_with (go_at_call 91; refine (copyCheck B b bs _ h).mono ?_)
  rintro e w1 ⟨rfl, h1, hb1⟩
  obtain ⟨hB, v, hbk, hown, hne⟩ := h1
  have c0 : w1.cell? ⟨b, 0, none⟩ = some (.pointer (some ⟨b, 0, none⟩)) := by rw [Lib.cell_of_heap hbk]; rfl
  have c1 : w1.cell? ⟨b, 1, none⟩ = some v := by rw [Lib.cell_of_heap hbk]; rfl
  go_wp2_with (at_builtin; refine Lib.wpList_append_own_string _ rfl _ _ 123 9 rfl B 5 i0 Tryz.underlying123 Tryz.underlying9 hi hz0 hz1 hz2 _ _ _ rfl hown s rfl ?c3 ?c4 ?c5 ?_)
  case c3 => unfold maxLen; omega
  case c4 => omega
  case c5 => have := hb1.size; omega
  intro v' w2 hown' hgrow _
  have hlt : b < w1.heap.size := by
    rcases Nat.lt_or_ge b w1.heap.size with h' | h'
    · exact h'
    · simp [Array.getElem?_eq_none h'] at hbk
  have hb2 : w2.heap[b]? = some (.cells #[.pointer (some ⟨b, 0, none⟩), v] 125 (0, 0)) := by
    rw [hgrow.block b hlt (fun e => hne e.symm)]
    exact hbk
  have d0 : w2.cell? ⟨b, 0, none⟩ = some (.pointer (some ⟨b, 0, none⟩)) := by rw [Lib.cell_of_heap hb2]; rfl
  have d1 : w2.cell? ⟨b, 1, none⟩ = some v := by rw [Lib.cell_of_heap hb2]; rfl
  have f1 : w2.frozen? ⟨b, 1, none⟩ = false := Lib.frozen_of_heap hb2 1
  obtain ⟨ao, n', cap, rfl⟩ : ∃ ao n' cap, v' = .slice ao n' cap := by
    rcases hown'.2 with ⟨hv, _⟩ | ⟨g, cap, cur, hv, _⟩
    · exact ⟨_, _, _, hv⟩
    · exact ⟨_, _, _, hv⟩
  go_wp2
  go_ret2
  refine ⟨rfl, ?_, ?_⟩
  · exact Lib.BuilderAt.put (T := 125) (e := 5) hB hb2 (bs' := bs ++ Lib.strCells s) (by simpa [Lib.strCells_length] using hown') (by decide)
  · exact (hb1.grown hgrow (by have := hb1.size; omega) (fun k hk => (hown.lt k hk).1)).setCell (p := ⟨b, 1, none⟩) hB _

/-- A slice value that reads as a list of ints. -/
def IsInts (v : Value) (xs : List Int) (w : World) : Prop :=
  ((∃ a c, v = .slice a 0 c) ∧ xs = []) ∨ ∃ bk off cap, v = .slice (some ⟨bk, off, none⟩) xs.length cap ∧ bk < w.heap.size ∧ ∀ i x, xs[i]? = some x → w.cell? ⟨bk, off + i, none⟩ = some (.int .i64 x)

theorem IsInts.next {v : Value} {xs : List Int} {w w' : World} (h : IsInts v xs w) (hb : Below w.heap.size w w') : IsInts v xs w' := by
  rcases h with h | ⟨bk, off, cap, hv, hlt, hc⟩
  · exact .inl h
  · refine .inr ⟨bk, off, cap, hv, Nat.lt_of_lt_of_le hlt hb.size, fun i x hx => ?_⟩
    rw [hb.cell (p := ⟨bk, off + i, none⟩) hlt]; exact hc i x hx

/-- A slice value that reads as a list of strings. -/
def IsTexts (v : Value) (xs : List (List UInt8)) (w : World) : Prop :=
  ((∃ a c, v = .slice a 0 c) ∧ xs = []) ∨ ∃ bk off cap, v = .slice (some ⟨bk, off, none⟩) xs.length cap ∧ bk < w.heap.size ∧ ∀ i x, xs[i]? = some x → w.cell? ⟨bk, off + i, none⟩ = some (.string (bs x))

theorem IsTexts.next {v : Value} {xs : List (List UInt8)} {w w' : World} (h : IsTexts v xs w) (hb : Below w.heap.size w w') : IsTexts v xs w' := by
  rcases h with h | ⟨bk, off, cap, hv, hlt, hc⟩
  · exact .inl h
  · refine .inr ⟨bk, off, cap, hv, Nat.lt_of_lt_of_le hlt hb.size, fun i x hx => ?_⟩
    rw [hb.cell (p := ⟨bk, off + i, none⟩) hlt]; exact hc i x hx

theorem cells_bs (l : List UInt8) : Lib.strCells (bs l) = Lib.byteCells l := by
  unfold bs Lib.strCells Lib.byteCells; simp

theorem byteCells_append (a b : List UInt8) : Lib.byteCells a ++ Lib.byteCells b = Lib.byteCells (a ++ b) := by
  unfold Lib.byteCells; simp

theorem byteCells_length (a : List UInt8) : (Lib.byteCells a).length = a.length := by
  unfold Lib.byteCells; simp

theorem builder_next {w w' : World} {B b : Nat} {l : List Value} (h : Lib.IsBuilder 125 5 B b l w) (hb : Below w.heap.size w w') : Lib.IsBuilder 125 5 B b l w' := by
  rcases h with h | h
  · exact .inl (builderAt_next h hb)
  · exact .inr (builderAt_next h hb)

/-- A Builder in a block of its own that holds these bytes. -/
def Bl (B : Nat) (l : List UInt8) (w : World) : Prop := Lib.IsBuilder 125 5 B B (Lib.byteCells l) w

theorem Bl.next {w w' : World} {B : Nat} {l : List UInt8} (h : Bl B l w) (hb : Below w.heap.size w w') : Bl B l w' := builder_next h hb

theorem Bl.fresh (w : World) : Bl w.heap.size [] (w.alloc (.cells #[.pointer none, .slice none 0 0] 125)) := Lib.fresh_isBuilder 125 5 w

theorem bl_byte (B : Nat) (l : List UInt8) (c : UInt8) (w : World) (h : Bl B l w) (hl : l.length + 1 ≤ 140737488355328) (hB : B ≤ w.heap.size) :
    Calls Tryz.prog 78 #[.pointer (some ⟨B, 0, none⟩), .int .u8 (c.toNat : Int)] w fun e w' => e = .returned .nilIface ∧ Bl B (l ++ [c]) w' ∧ Below B w w' := by
  refine (writeByte B B _ (c.toNat : Int) w h (by rw [byteCells_length]; exact hl) hB).mono ?_
  rintro e w' ⟨rfl, h1, h2⟩
  refine ⟨rfl, .inr ?_, h2⟩
  rw [← byteCells_append]; exact h1

theorem bl_string (B : Nat) (l s : List UInt8) (w : World) (h : Bl B l w) (hl : l.length + s.length ≤ 140737488355328) (hB : B ≤ w.heap.size) :
    Calls Tryz.prog 76 #[.pointer (some ⟨B, 0, none⟩), .string (bs s)] w fun e w' => e = .returned (.tuple #[.int .i64 (bs s).size, .nilIface]) ∧ Bl B (l ++ s) w' ∧ Below B w w' := by
  refine (writeString B B _ (bs s) w h (by rw [byteCells_length, bs_size]; exact hl) hB).mono ?_
  rintro e w' ⟨rfl, h1, h2⟩
  refine ⟨rfl, .inr ?_, h2⟩
  rw [← byteCells_append, ← cells_bs s]; exact h1

theorem bl_end (B : Nat) (l : List UInt8) (w : World) (h : Bl B l w) (hB : B ≤ w.heap.size) :
    Calls Tryz.prog 79 #[.pointer (some ⟨B, 0, none⟩)] w fun e w' => e = .returned (.string (bs l)) ∧ Below B w w' := Tryz.Builder_String_any B B l w h hB

theorem flat_len {α : Type} (wr : α → List UInt8) (hd : List UInt8) (xs : List α) (k : Nat) (h : (hd ++ 91 :: (xs.flatMap wr ++ [93])).length ≤ 4294967296) : (hd ++ [91] ++ (xs.take k).flatMap wr).length ≤ 4294967296 := by
  have h1 : (xs.take k).flatMap wr ++ (xs.drop k).flatMap wr = xs.flatMap wr := by rw [← List.flatMap_append, List.take_append_drop]
  have h2 := congrArg List.length h1
  simp only [List.length_append, List.length_cons, List.length_nil] at h h2 ⊢
  omega

set_option maxHeartbeats 1000000 in
set_option maxRecDepth 100000 in
theorem writeList_int (v : Value) (xs : List Int) (w : World) (hE : Env w) (hv : IsInts v xs w) (hx : ∀ x ∈ xs, isInt x) (hn : xs.length ≤ 4294967296) (hlen : (numsS xs).length ≤ 4294967296) :
    Calls Tryz.prog 56 #[v, .func (.func 57) #[] #[]] w fun e w' => e = .returned (.string (bs (numsS xs))) ∧ Below w.heap.size w w' := by
  obtain ⟨a, cap, rfl⟩ : ∃ a cap, v = .slice a xs.length cap := by
    rcases hv with ⟨⟨a, c, h1⟩, h2⟩ | ⟨bk, off, cap, h, _⟩
    · exact ⟨a, c, by rw [h1, h2]; rfl⟩
    · exact ⟨_, _, h⟩
  have hz := itoa_len (xs.length : Int) (isInt_len hn)
  have hb0 : Below w.heap.size w (w.alloc (.cells #[.pointer none, .slice none 0 0] 125)) := (Below.refl _ _).alloc (Nat.le_refl _) _
  have hE0 := hE.next hb0
  go_enter Tryz.func56, Tryz.ntmps56
  go_wp2_with fail
  refine (itoa_calls _ (isInt_len hn) _ hE0).mono ?_
  rintro e w1 ⟨rfl, hb1⟩
  have hB1 := (Bl.fresh w).next hb1
  have hs1 : w.heap.size + 1 ≤ w1.heap.size := by have := hb1.size; simpa using this
  have hb01 := hb0.trans (hb1.mono (by simp))
  clear hb1 hb0 hE0
  go_wp2_with fail
  refine (bl_string w.heap.size [] _ _ hB1 (by simp; omega) (by omega)).mono ?_
  rintro e w2 ⟨rfl, hB2, hb2⟩
  have hs2 := hb2.size
  have hb02 := hb01.trans hb2
  clear hb01 hb2 hB1
  go_wp2_with fail
  refine (bl_byte w.heap.size _ 91 _ hB2 (by simp; omega) (by omega)).mono ?_
  rintro e w3 ⟨rfl, hB3, hb3⟩
  have hs3 := hb3.size
  have hb03 := hb02.trans hb3
  clear hb02 hb3 hB2
  have hs : w.heap.size < w3.heap.size := by omega
  clear hs1 hs2 hs3
  simp only [List.nil_append] at hB3
  go_wp2_with fail
  go_loopw [15] (fun i wr => ∃ k : Nat, k ≤ xs.length ∧ i = .int .i64 k ∧ Bl w.heap.size (Lib.itoa (xs.length : Int) ++ [91] ++ (xs.take k).flatMap intS) wr ∧ Below w.heap.size w wr ∧ w.heap.size < wr.heap.size) (fun i _ => xs.length - (RowKit.intOf i).toNat)
  case atStart => exact ⟨0, Nat.zero_le _, rfl, by simpa using hB3, hb03, hs⟩
  case round =>
    obtain ⟨k, hk, rfl, hB, hb, hs⟩ := hrel
    have hl1 : (Lib.itoa (xs.length : Int) ++ [91] ++ (xs.take k).flatMap intS).length ≤ 4294967296 := flat_len _ _ _ _ hlen
    by_cases hlt : k < xs.length
    · rcases hv with ⟨h1, h2⟩ | ⟨bk, off, cap, h, hbk, hc⟩
      · rw [h2] at hlt; simp at hlt
      · obtain ⟨rfl, -, rfl⟩ := by simpa using h
        have hcell : wr.cell? ⟨bk, off + k, none⟩ = some (.int .i64 xs[k]) := by
          rw [hb.cell (p := ⟨bk, off + k, none⟩) hbk]; exact hc k _ (List.getElem?_eq_getElem hlt)
        have hxk := hx xs[k] (List.getElem_mem _)
        have hk21 := intS_len xs[k] hxk
        have hEr := hE.next hb
        have hbits : k < 9223372036854775807 := by omega
        have e1 : (xs.take (k + 1)).flatMap intS = (xs.take k).flatMap intS ++ intS xs[k] := by
          rw [List.take_succ_eq_append_getElem hlt, List.flatMap_append, List.flatMap_cons, List.flatMap_nil, List.append_nil]
        have HE := Lib.hid e1
        clear e1 h hc hx hlen
        go_wp2_with fail
        refine (base_Int _ hxk _ hEr).mono ?_
        rintro e w4 ⟨rfl, hb4⟩
        have hB4 := hB.next hb4
        have hs4 := hb4.size
        go_wp2_with fail
        refine (bl_string w.heap.size _ _ _ hB4 (by omega) (by omega)).mono ?_
        rintro e w5 ⟨rfl, hB5, hb5⟩
        have hs5 := hb5.size
        have hb05 := (hb.trans (hb4.mono (by omega))).trans hb5
        go_wp2
        go_roundw
        case rel => exact ⟨k + 1, by omega, by go_num, by rw [HE.out, ← List.append_assoc]; exact hB5, hb05, by omega⟩
        case measure => simp [RowKit.intOf]; omega
    · have hk' : k = xs.length := by omega
      have e1 : (xs.take k).flatMap intS = xs.flatMap intS := by rw [hk', List.take_length]
      have HE := Lib.hid e1
      clear e1 hk'
      go_wp2_with fail
      refine (bl_byte w.heap.size _ 93 _ hB (by omega) (by omega)).mono ?_
      rintro e w4 ⟨rfl, hB4, hb4⟩
      have hs4 := hb4.size
      have hb04 := hb.trans hb4
      go_wp2_with fail
      refine (bl_end w.heap.size _ _ hB4 (by omega)).mono ?_
      rintro e w5 ⟨rfl, hb5⟩
      have hb05 := hb04.trans hb5
      go_wp2
      go_ret
      exact ⟨ret_str (by rw [HE.out]; unfold numsS; simp), hb05⟩

set_option maxRecDepth 100000 in
theorem base_Nums (v : Value) (xs : List Int) (w : World) (hE : Env w) (hv : IsInts v xs w) (hx : ∀ x ∈ xs, isInt x) (hn : xs.length ≤ 4294967296) (hlen : (numsS xs).length ≤ 4294967296) :
    Calls Tryz.prog 28 #[v] w fun e w' => e = .returned (.string (bs (numsS xs))) ∧ Below w.heap.size w w' := by
  go_enter Tryz.func28, Tryz.ntmps28
  go_wp2_with fail
  refine (writeList_int v xs _ hE hv hx hn hlen).mono ?_
  rintro e w1 ⟨rfl, hb⟩
  go_wp2
  go_ret
  exact ⟨rfl, hb⟩

theorem owns_only {w w' : World} {B b : Nat} {e : TypeId} {size : Nat} {v : Value} {n : Nat} {xs : List Value} (h : w.ownsRow B e size v n xs) (hg : w.grownBy w' (some b)) (hb : b < B) : w'.ownsRow B e size v n xs := by
  obtain ⟨hl, h0 | ⟨g, cap, cur, hv, hgB, hh, r⟩⟩ := h
  · exact ⟨hl, .inl h0⟩
  · have hlt : g < w.heap.size := by
      rcases Nat.lt_or_ge g w.heap.size with h' | h'
      · exact h'
      · simp [Array.getElem?_eq_none h'] at hh
    exact ⟨hl, .inr ⟨g, cap, cur, hv, hgB, by rw [hg.block g hlt (by simp; omega)]; exact hh, r⟩⟩

theorem owns_block {w : World} {B : Nat} {e : TypeId} {size : Nat} {v : Value} {n : Nat} {xs : List Value} (h : w.ownsRow B e size v n xs) (i : Nat) (hi : i < B) : some i ≠ v.ownBlock := by
  obtain ⟨hl, ⟨hv, _⟩ | ⟨g, cap, cur, hv, hgB, _⟩⟩ := h
  · rw [hv]; simp [Value.ownBlock]
  · rw [hv]; simp only [Value.ownBlock, ne_eq, Option.some.injEq]; omega

theorem owns_ints {w : World} {B : Nat} {v : Value} {xs : List Int} (h : w.ownsRow B 3 1 v xs.length (xs.map (Value.int .i64))) : IsInts v xs w := by
  obtain ⟨hl, ⟨hv, h0⟩ | ⟨g, cap, cur, hv, hgB, hh, hc, hm, hs, ht⟩⟩ := h
  · exact .inl ⟨⟨none, 0, hv⟩, List.length_eq_zero_iff.1 h0⟩
  · have hlt : g < w.heap.size := by
      rcases Nat.lt_or_ge g w.heap.size with h' | h'
      · exact h'
      · simp [Array.getElem?_eq_none h'] at hh
    refine .inr ⟨g, 0, cap, hv, hlt, fun i x hx => ?_⟩
    rw [Lib.cell_of_heap hh, Nat.zero_add]
    have hi : i < xs.length := (List.getElem?_eq_some_iff.1 hx).1
    have h1 : (cur.toList.take (xs.length * 1))[i]? = some (.int .i64 x) := by rw [ht]; simp [hx]
    rw [List.getElem?_take_of_lt (by omega)] at h1
    simpa using h1

theorem cap_nil : ∀ (a : Option Addr) (n c : Nat), Value.slice none 0 0 = .slice a n c → n ≤ c := by
  intro a n c e
  simp only [Value.slice.injEq] at e
  omega

theorem owns_cap {w : World} {B n : Nat} {v : Value} {L : List Value} (h : w.ownsRow B 3 1 v n L) : ∀ a n c, v = .slice a n c → n ≤ c := by
  intro a n c e
  obtain ⟨hl, ⟨hv, h0⟩ | ⟨g, cap, cur, hv, hgB, hh, hc, _⟩⟩ := h
  · rw [hv] at e; simp only [Value.slice.injEq] at e; omega
  · rw [hv] at e; simp only [Value.slice.injEq] at e; omega

theorem owns_texts {w : World} {B : Nat} {v : Value} {xs : List (List UInt8)} (h : w.ownsRow B 9 1 v xs.length (xs.map fun s => Value.string (bs s))) : IsTexts v xs w := by
  obtain ⟨hl, ⟨hv, h0⟩ | ⟨g, cap, cur, hv, hgB, hh, hc, hm, hs, ht⟩⟩ := h
  · exact .inl ⟨⟨none, 0, hv⟩, List.length_eq_zero_iff.1 h0⟩
  · have hlt : g < w.heap.size := by
      rcases Nat.lt_or_ge g w.heap.size with h' | h'
      · exact h'
      · simp [Array.getElem?_eq_none h'] at hh
    refine .inr ⟨g, 0, cap, hv, hlt, fun i x hx => ?_⟩
    rw [Lib.cell_of_heap hh, Nat.zero_add]
    have hi : i < xs.length := (List.getElem?_eq_some_iff.1 hx).1
    have h1 : (cur.toList.take (xs.length * 1))[i]? = some (.string (bs x)) := by rw [ht]; simp [hx]
    rw [List.getElem?_take_of_lt (by omega)] at h1
    simpa using h1

/-- How many cells a list of this reader can have. -/
def room (n : Nat) (q : Rd) : Nat := n + q.1.length + if q.2 = true then 0 else 1

theorem room_step {α : Type} (one : Rd → α × Rd) (hs : ∀ r, (one r).2.2 = false → (one r).2.1.length + 1 ≤ r.1.length) (ho : ∀ r, okRd r → okRd (one r).2) (n : Nat) (q : Rd) (hq : okRd q) (hf : q.2 = false) :
    room (n + 1) (one q).2 ≤ room n q := by
  unfold room
  rw [hf]
  cases h : (one q).2.2
  · have := hs q h
    simp; omega
  · have := ho q hq h
    rw [this]; simp

/-- At a loop's head: what has been read, and what the rest of the loop will read. -/
def headF {α : Type} (one : Rd → α × Rd) (N : Nat) (q0 : Rd) (k : Nat) (acc : List α) (q : Rd) : Prop :=
  loopF one N q0 = (acc ++ (loopF one k q).1, (loopF one k q).2)

theorem headF_start {α : Type} (one : Rd → α × Rd) (N : Nat) (q0 : Rd) : headF one N q0 N [] q0 := by unfold headF; simp

theorem headF_step {α : Type} {one : Rd → α × Rd} {N : Nat} {q0 : Rd} {k : Nat} {acc : List α} {q : Rd} (h : headF one N q0 (k + 1) acc q) (hf : q.2 = false) : headF one N q0 k (acc ++ [(one q).1]) (one q).2 := by
  unfold headF at h ⊢
  rw [h]
  simp [loopF, hf]

theorem headF_done {α : Type} {one : Rd → α × Rd} {N : Nat} {q0 : Rd} {k : Nat} {acc : List α} {q : Rd} (h : headF one N q0 k acc q) (hd : k = 0 ∨ q.2 = true) : loopF one N q0 = (acc, q) := by
  unfold headF at h
  rw [h]
  cases k with
  | zero => simp [loopF]
  | succ k =>
    have : q.2 = true := by
      rcases hd with hd | hd
      · omega
      · exact hd
    simp [loopF, this]

theorem info3 : (Tryz.prog.info? 3).map (fun i => (i.zero, i.size, i.bytes)) = some (some (.int .i64 0), 1, 8) := by kernel_rfl

theorem info9 : (Tryz.prog.info? 9).map (fun i => (i.zero, i.size, i.bytes)) = some (some (.string ⟨#[]⟩), 1, 16) := by kernel_rfl

/-- What reading a list of ints leaves. -/
def IntsPost (b : Nat) (x : List Int × Rd) (w : World) (e : Ending) (w' : World) : Prop := ∃ v, e = .returned v ∧ (IsInts v x.1 w' ∧ ∀ a n c, v = .slice a n c → n ≤ c) ∧ Rb b x.2 w' ∧ w.grownBy w' (some b)

/-- What reading a list of strings leaves. -/
def TextsPost (b : Nat) (x : List (List UInt8) × Rd) (w : World) (e : Ending) (w' : World) : Prop := ∃ v, e = .returned v ∧ IsTexts v x.1 w' ∧ Rb b x.2 w' ∧ w.grownBy w' (some b)

/-- How a list ends. -/
def endF {α : Type} (l : List α × Rd) : List α × Rd := if (closingF 93 l.2).2 = true then ([], closingF 93 l.2) else (l.1, closingF 93 l.2)

set_option maxHeartbeats 1000000 in
set_option maxRecDepth 100000 in
theorem readList_int (b : Nat) (r : Rd) (w : World) (hE : Env w) (h : Rb b r w) (hr : r.1.length ≤ 4294967296) (ho : okRd r) (hb6 : 10 ≤ b) :
    Calls Tryz.prog 58 #[.pointer (some ⟨b, 0, none⟩), .func (.func 59) #[.pointer (some ⟨b, 0, none⟩)] #[]] w (IntsPost b (numsF r) w) := by
  obtain ⟨i0, hi, hz0, hz1, hz2⟩ := info_parts info3
  have hd := rd_natural b r 91 w hE h hr
  have hn0 := naturalF_int 91 r
  have hl := naturalF_len 91 r
  have hok := naturalF_ok (c := 91) ho
  have hbl := h.lt
  have e1 : numsF r = endF (loopF intF (naturalF 91 r).1.toNat (naturalF 91 r).2) := rfl
  rw [e1]
  clear e1
  generalize naturalF 91 r = z at *
  obtain ⟨n, q0⟩ := z
  obtain ⟨N, rfl⟩ := Int.eq_ofNat_of_zero_le hn0.1
  simp only [Int.toNat_natCast] at *
  have hN : N ≤ 9223372036854775807 := by omega
  have HD := Lib.hid hd
  have HO := Lib.hid hok
  have hex : ∃ y, y = endF (loopF intF N q0) := ⟨_, rfl⟩
  obtain ⟨y, hy⟩ := hex
  rw [← hy]
  have HY := Lib.hid hy
  clear hd hn0 ho hok hy
  go_enter Tryz.func58, Tryz.ntmps58
  go_wp2_with fail
  refine HD.out.mono ?_
  rintro e w1 ⟨rfl, h1, g1⟩
  have HG := Lib.hid (headF_start intF N q0)
  go_wp2_with fail
  go_loopw [5, 6] (fun v i wr => ∃ (k : Nat) (acc : List Int) (q : Rd), k ≤ N ∧ i = .int .i64 k ∧ wr.ownsRow w.heap.size 3 1 v acc.length (acc.map (Value.int .i64)) ∧ Rb b q wr ∧ w.grownBy wr (some b) ∧ okRd q ∧ headF intF N q0 k acc q ∧ room acc.length q ≤ 4294967297 ∧ q.1.length ≤ 4294967296) (fun _ i _ => (RowKit.intOf i).toNat)
  case atStart => exact ⟨N, [], q0, Nat.le_refl _, rfl, ⟨rfl, .inl ⟨rfl, rfl⟩⟩, h1, g1, HO.out, HG.out, by unfold room; simp; split <;> omega, by omega⟩
  case round =>
    obtain ⟨k, acc, q, hk, rfl, hown, hR, hg, hq, hH, hroom, hql⟩ := hrel
    have HH := Lib.hid hH
    have HQ := Lib.hid hq
    clear hH hq
    have hs := hg.size
    have c1 := hR.c1
    by_cases hgo : 0 < k ∧ q.2 = false
    · obtain ⟨hk0, hf⟩ := hgo
      have HF := Lib.hid hf
      rw [hf] at c1
      clear hf
      have hdec : decide (0 < (k : Int)) = true := by simp; omega
      obtain ⟨k', rfl⟩ : ∃ k', k = k' + 1 := ⟨k - 1, by omega⟩
      have HH2 := Lib.hid (headF_step HH.out HF.out)
      have hrm := room_step intF (fun r => intF_short) (fun r => digitsF_ok) acc.length q HQ.out HF.out
      have hq2 := Lib.hid (digitsF_ok (c := 59) HQ.out)
      have hln := digitsF_len 59 q
      go_wp2_with fail
      refine (rd_Int b q _ (hE.only hg hb6) hR hql).mono ?_
      rintro e w2 ⟨rfl, hR2, hg2⟩
      have hown2 := owns_only hown hg2 hbl
      have hs2 := hg2.size
      have hg02 := only_trans hg hg2
      clear hown hg
      go_wp2_with (at_builtin; refine wpList_append_own _ rfl _ _ 32 rfl w.heap.size 3 i0 (.int .i64 0) 1 8 Tryz.underlying32 hi hz0 hz1 hz2 rfl (by decide) _ _ _ rfl (hown2.alloc _) ⟨w2.heap.size, 0, none⟩ 1 1 [.int .i64 (intF q).1] rfl rfl ?c1 ?c2 ?c3 ?c4 ?c5 ?_)
      case c1 =>
        intro j u hj
        match j, hj with
        | 0, hj => simp at hj; subst hj; simp [Addr.add]
      case c2 => intro u hu; simp at hu; subst hu; rfl
      case c3 => unfold maxLen; unfold room at hroom; omega
      case c4 => unfold room at hroom; omega
      case c5 => simp; omega
      intro v' w3 hown' hgrow _
      have hR3 : Rb b (intF q).2 w3 := by
        have hb2 := hR2.lt
        unfold Rb at hR2 ⊢
        rw [hgrow.block b (by simp; omega) (owns_block hown2 b hbl), Lib.alloc_old w2 _ b hb2]
        exact hR2
      have hg03 : w.grownBy w3 (some b) := by
        have ha := only_alloc hg02 (.cells #[.int .i64 (intF q).1] 3)
        exact ⟨hgrow.os.trans ha.os, hgrow.tape.trans ha.tape, hgrow.output.trans ha.output, Nat.le_trans ha.size hgrow.size, fun i hi hn => (hgrow.block i (Nat.lt_of_lt_of_le hi ha.size) (owns_block hown2 i hi)).trans (ha.block i hi hn)⟩
      go_wp2
      go_roundw
      case rel => exact ⟨k', acc ++ [(intF q).1], (intF q).2, by omega, by go_num, by simpa using hown', hR3, hg03, hq2.out, HH2.out, by rw [List.length_append]; exact Nat.le_trans hrm hroom, by have : (intF q).2.1.length ≤ q.1.length := hln; omega⟩
      case measure => simp [RowKit.intOf]
    · have hdone := headF_done HH.out (show k = 0 ∨ q.2 = true by
        by_cases h0 : k = 0
        · exact .inl h0
        · right
          cases hq2 : q.2
          · exact absurd ⟨by omega, hq2⟩ hgo
          · rfl)
      have hend : y = if (closingF 93 q).2 = true then ([], closingF 93 q) else (acc, closingF 93 q) := by rw [HY.out, hdone]; rfl
      clear hdone
      generalize hff : (closingF 93 q).2 = ff at hend
      have HF := Lib.hid hff
      clear hff
      have hcase : (k = 0 ∧ decide (0 < (k : Int)) = false) ∨ (0 < k ∧ decide (0 < (k : Int)) = true ∧ q.2 = true) := by
        by_cases h0 : k = 0
        · subst h0; left; exact ⟨rfl, by decide⟩
        · right
          refine ⟨by omega, by simp; omega, ?_⟩
          cases hq2 : q.2
          · exact absurd ⟨by omega, hq2⟩ hgo
          · rfl
      clear hgo
      cases ff
      · have HE2 := Lib.hid (show y = (acc, closingF 93 q) by rw [hend]; rfl)
        clear hend
        rcases hcase with ⟨rfl, hdec⟩ | ⟨hk0, hdec, hq2⟩
        · clear hdec
          go_wp2_with fail
          refine (rd_closing b q 93 _ hR).mono ?_
          rintro e w2 ⟨rfl, hR2, hg2⟩
          have hown2 := owns_only hown hg2 hbl
          have hg02 := only_trans hg hg2
          have d1 := hR2.c1
          rw [HF.out] at d1
          go_wp2
          go_ret
          exact ⟨_, rfl, by rw [HE2.out]; exact ⟨owns_ints hown2, owns_cap hown2⟩, by rw [HE2.out]; exact hR2, hg02⟩
        · rw [hq2] at c1
          clear hq2
          go_wp2_with fail
          refine (rd_closing b q 93 _ hR).mono ?_
          rintro e w2 ⟨rfl, hR2, hg2⟩
          have hown2 := owns_only hown hg2 hbl
          have hg02 := only_trans hg hg2
          have d1 := hR2.c1
          rw [HF.out] at d1
          go_wp2
          go_ret
          exact ⟨_, rfl, by rw [HE2.out]; exact ⟨owns_ints hown2, owns_cap hown2⟩, by rw [HE2.out]; exact hR2, hg02⟩
      · have HE2 := Lib.hid (show y = ([], closingF 93 q) by rw [hend]; rfl)
        clear hend
        rcases hcase with ⟨rfl, hdec⟩ | ⟨hk0, hdec, hq2⟩
        · clear hdec
          go_wp2_with fail
          refine (rd_closing b q 93 _ hR).mono ?_
          rintro e w2 ⟨rfl, hR2, hg2⟩
          have hg02 := only_trans hg hg2
          have d1 := hR2.c1
          rw [HF.out] at d1
          go_wp2
          go_ret
          exact ⟨_, rfl, by rw [HE2.out]; exact ⟨.inl ⟨⟨none, 0, rfl⟩, rfl⟩, cap_nil⟩, by rw [HE2.out]; exact hR2, hg02⟩
        · rw [hq2] at c1
          clear hq2
          go_wp2_with fail
          refine (rd_closing b q 93 _ hR).mono ?_
          rintro e w2 ⟨rfl, hR2, hg2⟩
          have hg02 := only_trans hg hg2
          have d1 := hR2.c1
          rw [HF.out] at d1
          go_wp2
          go_ret
          exact ⟨_, rfl, by rw [HE2.out]; exact ⟨.inl ⟨⟨none, 0, rfl⟩, rfl⟩, cap_nil⟩, by rw [HE2.out]; exact hR2, hg02⟩

set_option maxRecDepth 100000 in
theorem rd_Nums (b : Nat) (r : Rd) (w : World) (hE : Env w) (h : Rb b r w) (hr : r.1.length ≤ 4294967296) (ho : okRd r) (hb6 : 10 ≤ b) :
    Calls Tryz.prog 30 #[.pointer (some ⟨b, 0, none⟩)] w (IntsPost b (numsF r) w) := by
  have hmf : ∀ (fn : Fn) (first cap : Array Value) (w : World), (Instr.makeFunc fn first cap).run Tryz.prog w = .ok (.func fn first cap) w := fun _ _ _ _ => rfl
  have HD := Lib.hid (readList_int b r w hE h hr ho hb6)
  go_enter Tryz.func30, Tryz.ntmps30
  go_wp2_with fail
  refine HD.out.mono ?_
  rintro e w1 ⟨v, rfl, h1, h2, h3⟩
  go_wp2
  go_ret
  exact ⟨v, rfl, h1, h2, h3⟩

theorem IsInts.len {v : Value} {xs : List Int} {w : World} (h : IsInts v xs w) : ∃ a cap, v = .slice a xs.length cap := by
  rcases h with ⟨⟨a, c, h1⟩, h2⟩ | ⟨bk, off, cap, h, _⟩
  · exact ⟨a, c, by rw [h1, h2]; rfl⟩
  · exact ⟨_, _, h⟩

theorem IsInts.at {a : Option Addr} {n cap : Nat} {xs : List Int} {w : World} (h : IsInts (.slice a n cap) xs w) (k : Nat) (hk : k < xs.length) :
    ∃ bk off, a = some ⟨bk, off, none⟩ ∧ bk < w.heap.size ∧ ∀ i x, xs[i]? = some x → w.cell? ⟨bk, off + i, none⟩ = some (.int .i64 x) := by
  rcases h with ⟨h1, h2⟩ | ⟨bk, off, cap, h, hb, hc⟩
  · rw [h2] at hk; simp at hk
  · simp only [Value.slice.injEq] at h
    exact ⟨bk, off, h.1, hb, hc⟩

theorem IsTexts.len {v : Value} {xs : List (List UInt8)} {w : World} (h : IsTexts v xs w) : ∃ a cap, v = .slice a xs.length cap := by
  rcases h with ⟨⟨a, c, h1⟩, h2⟩ | ⟨bk, off, cap, h, _⟩
  · exact ⟨a, c, by rw [h1, h2]; rfl⟩
  · exact ⟨_, _, h⟩

theorem IsTexts.at {a : Option Addr} {n cap : Nat} {xs : List (List UInt8)} {w : World} (h : IsTexts (.slice a n cap) xs w) (k : Nat) (hk : k < xs.length) :
    ∃ bk off, a = some ⟨bk, off, none⟩ ∧ bk < w.heap.size ∧ ∀ i x, xs[i]? = some x → w.cell? ⟨bk, off + i, none⟩ = some (.string (bs x)) := by
  rcases h with ⟨h1, h2⟩ | ⟨bk, off, cap, h, hb, hc⟩
  · rw [h2] at hk; simp at hk
  · simp only [Value.slice.injEq] at h
    exact ⟨bk, off, h.1, hb, hc⟩

end Go.Proofs.YthnkfjjgccabeaaGreatDoor.Cod
