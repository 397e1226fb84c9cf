/- The writers of the encodings: what Num, Int, Text, Nums and Texts return. -/
import Derived.Test.YtgpeingndefacaaDoorBuild
import Derived.Lib.SmallJoins
import Derived.Lib.AppendIntMem
import Derived.Outline
namespace Go.Proofs.YtgpeingndefacaaDoor
open Go.RowKit

/-- What the world holds of the library's variables. -/
structure Env (w : World) : Prop where
  lo : 6 ≤ w.heap.size
  tab : Lib.TabIs Tryd.prog w "internal/strconv.uint64pow10" .u64 Lib.pow10Tab
  eS : ∃ te pe, w.cell? ⟨2, 0, none⟩ = some (.iface te pe)
  eR : ∃ te pe, w.cell? ⟨3, 0, none⟩ = some (.iface te pe)

theorem Env.below {w w' : World} (h : Env w) {B : Nat} (hb : Below B w w') (hB : 6 ≤ B) : Env w' where
  lo := Nat.le_trans h.lo hb.size
  tab := var?_below (g := 0) hb (by kernel_rfl) (by omega) h.tab
  eS := by rw [hb.cell (p := ⟨2, 0, none⟩) (by simp only; omega)]; exact h.eS
  eR := by rw [hb.cell (p := ⟨3, 0, none⟩) (by simp only; omega)]; exact h.eR
theorem Env.next {w w' : World} (h : Env w) (hb : Below w.heap.size w w') : Env w' := h.below hb h.lo

/-- The string of a list of bytes. -/
def bs (l : List UInt8) : ByteArray := ⟨l.toArray⟩
theorem bs_data (l : List UInt8) : (bs l).data.toList = l := by simp [bs]
theorem bs_size (l : List UInt8) : (bs l).size = l.length := by simp [bs, ByteArray.size]
theorem bs_of (s : ByteArray) : bs s.data.toList = s := Lib.mk_data s
theorem bs_append (a b : List UInt8) : bs a ++ bs b = bs (a ++ b) := by
  unfold bs; rw [ByteArray.ext_iff]; simp

theorem itoa_calls (n : Int) (hn : isInt n) (w : World) (hE : Env w) :
    Calls Tryd.prog 43 #[.int .i64 n] w fun e w' => e = .returned (.string (bs (Lib.itoa n))) ∧ Below w.heap.size w w' := by
  refine (Tryd.strconv_Itoa n hn.1 hn.2 w hE.tab).mono ?_
  rintro e w' ⟨rfl, k, os, rfl⟩
  exact ⟨rfl, Lib.below_grow _ _ (Nat.le_refl _) _ _⟩

theorem ret_str {a b : ByteArray} (h : a = b) : Ending.returned (.string a) = .returned (.string b) := by rw [h]

theorem nDigits_le : ∀ (k u : Nat), u < 10 ^ (k + 1) → Lib.nDigits u ≤ k + 1
  | 0, u, h => by rw [Lib.nDigits_small (by simpa using h)]; omega
  | k + 1, u, h => by
    by_cases h1 : u < 10
    · rw [Lib.nDigits_small h1]; omega
    · rw [Lib.nDigits_big h1]
      have := nDigits_le k (u / 10) (by rw [Nat.pow_succ] at h; omega)
      omega
theorem itoa_len (n : Int) (hn : isInt n) : (Lib.itoa n).length ≤ 20 := by
  have h1 := hn.1
  have h2 := hn.2
  unfold Lib.itoa
  split
  · rw [List.length_cons, Lib.decDigits_length]
    have := nDigits_le 18 n.natAbs (by simp; omega)
    omega
  · rw [Lib.decDigits_length]
    have := nDigits_le 18 n.toNat (by simp; omega)
    omega
theorem itoa_size (n : Int) (hn : isInt n) : (bs (Lib.itoa n)).size ≤ 20 := by rw [bs_size]; exact itoa_len n hn
theorem intS_len (n : Int) (hn : isInt n) : (intS n).length ≤ 21 := by unfold intS; have := itoa_len n hn; simp; omega
theorem isInt_len {n : Nat} (h : n ≤ 4294967296) : isInt (n : Int) := by unfold isInt; omega

set_option maxRecDepth 100000 in
theorem base_Int (n : Int) (hn : isInt n) (w : World) (hE : Env w) :
    Calls Tryd.prog 12 #[.int .i64 n] w fun e w' => e = .returned (.string (bs (intS n))) ∧ Below w.heap.size w w' := by
  have hs := itoa_size n hn
  go_enter Tryd.func12, Tryd.ntmps12
  go_wp2_with (go_at_call 43; refine (itoa_calls n hn _ hE).mono ?_)
  rintro e w1 ⟨rfl, hb⟩
  go_wp2
  go_ret
  exact ⟨by rw [show (ByteArray.mk #[59]) = bs [59] from rfl, bs_append]; rfl, hb⟩

set_option maxRecDepth 100000 in
theorem base_Num_neg (n : Int) (hn : n < 0) (w : World) :
    Calls Tryd.prog 10 #[.int .i64 n] w fun e w' => e = .returned (.string (bs (numS n))) ∧ Below w.heap.size w w' := by
  have e1 : numS n = [] := by unfold numS; rw [if_pos hn]
  have H := Lib.hid e1
  clear e1
  go_enter Tryd.func10, Tryd.ntmps10
  go_wp2
  go_ret
  exact ⟨ret_str (by rw [H.out]; rfl), Below.refl _ _⟩
set_option maxRecDepth 100000 in
theorem base_Num_pos (n : Int) (hn : isInt n) (h0 : 0 ≤ n) (w : World) (hE : Env w) :
    Calls Tryd.prog 10 #[.int .i64 n] w fun e w' => e = .returned (.string (bs (numS n))) ∧ Below w.heap.size w w' := by
  have e1 : numS n = intS n := by unfold numS; rw [if_neg (by omega)]
  have H := Lib.hid e1
  clear e1
  go_enter Tryd.func10, Tryd.ntmps10
  go_wp2_with (go_at_call 12; refine (base_Int n hn _ hE).mono ?_)
  rintro e w1 ⟨rfl, hb⟩
  go_wp2
  go_ret
  exact ⟨ret_str (by rw [H.out]), hb⟩
theorem base_Num (n : Int) (hn : isInt n) (w : World) (hE : Env w) :
    Calls Tryd.prog 10 #[.int .i64 n] w fun e w' => e = .returned (.string (bs (numS n))) ∧ Below w.heap.size w w' := by
  by_cases h : n < 0
  · exact base_Num_neg n h w
  · exact base_Num_pos n hn (by omega) w hE

set_option maxRecDepth 100000 in
theorem base_Text (s : ByteArray) (hs : s.size ≤ 4294967296) (w : World) (hE : Env w) :
    Calls Tryd.prog 14 #[.string s] w fun e w' => e = .returned (.string (bs (textS s.data.toList))) ∧ Below w.heap.size w w' := by
  have hz := itoa_size (s.size : Int) (isInt_len hs)
  go_enter Tryd.func14, Tryd.ntmps14
  go_wp2_with (go_at_call 43; refine (itoa_calls _ (isInt_len hs) _ hE).mono ?_)
  rintro e w1 ⟨rfl, hb⟩
  go_wp2
  go_ret
  refine ⟨?_, hb⟩
  have e1 : bs (Lib.itoa (s.size : Int)) ++ ⟨#[58]⟩ ++ s ++ ⟨#[44]⟩ = bs (textS s.data.toList) := by
    rw [show (ByteArray.mk #[58]) = bs [58] from rfl, show (ByteArray.mk #[44]) = bs [44] from rfl, ← bs_of s, bs_append, bs_append, bs_append, bs_data, bs_size]
    unfold textS; simp
  exact ret_str e1

/-! ### lists -/

/-- A slice value that reads as a list of ints. -/
def IsInts (v : Value) (xs : List Int) (w : World) : Prop :=
  ((∃ a c, v = .slice a 0 c) ∧ xs = []) ∨ ∃ bk off cap, v = .slice (some ⟨bk, off, none⟩) xs.length cap ∧ bk < w.heap.size ∧ ∀ i x, xs[i]? = some x → w.cell? ⟨bk, off + i, none⟩ = some (.int .i64 x)
theorem IsInts.next {v : Value} {xs : List Int} {w w' : World} (h : IsInts v xs w) (hb : Below w.heap.size w w') : IsInts v xs w' := by
  rcases h with h | ⟨bk, off, cap, hv, hlt, hc⟩
  · exact .inl h
  · refine .inr ⟨bk, off, cap, hv, Nat.lt_of_lt_of_le hlt hb.size, fun i x hx => ?_⟩
    rw [hb.cell (p := ⟨bk, off + i, none⟩) hlt]; exact hc i x hx
/-- A slice value that reads as a list of strings. -/
def IsTexts (v : Value) (xs : List (List UInt8)) (w : World) : Prop :=
  ((∃ a c, v = .slice a 0 c) ∧ xs = []) ∨ ∃ bk off cap, v = .slice (some ⟨bk, off, none⟩) xs.length cap ∧ bk < w.heap.size ∧ ∀ i x, xs[i]? = some x → w.cell? ⟨bk, off + i, none⟩ = some (.string (bs x))
theorem IsTexts.next {v : Value} {xs : List (List UInt8)} {w w' : World} (h : IsTexts v xs w) (hb : Below w.heap.size w w') : IsTexts v xs w' := by
  rcases h with h | ⟨bk, off, cap, hv, hlt, hc⟩
  · exact .inl h
  · refine .inr ⟨bk, off, cap, hv, Nat.lt_of_lt_of_le hlt hb.size, fun i x hx => ?_⟩
    rw [hb.cell (p := ⟨bk, off + i, none⟩) hlt]; exact hc i x hx

theorem cells_bs (l : List UInt8) : Lib.strCells (bs l) = Lib.byteCells l := by
  unfold bs Lib.strCells Lib.byteCells; simp
theorem byteCells_append (a b : List UInt8) : Lib.byteCells a ++ Lib.byteCells b = Lib.byteCells (a ++ b) := by
  unfold Lib.byteCells; simp
theorem byteCells_length (a : List UInt8) : (Lib.byteCells a).length = a.length := by
  unfold Lib.byteCells; simp

theorem owns_next {w w' : World} {B : Nat} {e : TypeId} {size : Nat} {v : Value} {n : Nat} {xs : List Value} (h : w.ownsRow B e size v n xs) (hb : Below w.heap.size w w') : w'.ownsRow B e size v n xs := by
  obtain ⟨hl, h0 | ⟨g, cap, cur, hv, hg, hh, r⟩⟩ := h
  · exact ⟨hl, .inl h0⟩
  · have hlt : g < w.heap.size := by
      rcases Nat.lt_or_ge g w.heap.size with h' | h'
      · exact h'
      · simp [Array.getElem?_eq_none h'] at hh
    exact ⟨hl, .inr ⟨g, cap, cur, hv, hg, by rw [hb.block g hlt]; exact hh, r⟩⟩
theorem builderAt_next {w w' : World} {B b : Nat} {p : Value} {l : List Value} (h : Lib.BuilderAt 65 5 B b p l w) (hb : Below w.heap.size w w') : Lib.BuilderAt 65 5 B b p l w' := by
  have hlt := h.lt
  obtain ⟨hB, v, hh, ho, hn⟩ := h
  exact ⟨hB, v, by rw [hb.block b hlt]; exact hh, owns_next ho hb, hn⟩
theorem builder_next {w w' : World} {B b : Nat} {l : List Value} (h : Lib.IsBuilder 65 5 B b l w) (hb : Below w.heap.size w w') : Lib.IsBuilder 65 5 B b l w' := by
  rcases h with h | h
  · exact .inl (builderAt_next h hb)
  · exact .inr (builderAt_next h hb)

/-- A Builder in a block of its own that holds these bytes. -/
def Bl (B : Nat) (l : List UInt8) (w : World) : Prop := Lib.IsBuilder 65 5 B B (Lib.byteCells l) w
theorem Bl.next {w w' : World} {B : Nat} {l : List UInt8} (h : Bl B l w) (hb : Below w.heap.size w w') : Bl B l w' := builder_next h hb
theorem Bl.fresh (w : World) : Bl w.heap.size [] (w.alloc (.cells #[.pointer none, .slice none 0 0] 65)) := Lib.fresh_isBuilder 65 5 w
theorem bl_byte (B : Nat) (l : List UInt8) (c : UInt8) (w : World) (h : Bl B l w) (hl : l.length + 1 ≤ 140737488355328) (hB : B ≤ w.heap.size) :
    Calls Tryd.prog 60 #[.pointer (some ⟨B, 0, none⟩), .int .u8 (c.toNat : Int)] w fun e w' => e = .returned .nilIface ∧ Bl B (l ++ [c]) w' ∧ Below B w w' := by
  refine (writeByte B B _ (c.toNat : Int) w h (by rw [byteCells_length]; exact hl) hB).mono ?_
  rintro e w' ⟨rfl, h1, h2⟩
  refine ⟨rfl, .inr ?_, h2⟩
  rw [← byteCells_append]; exact h1
theorem bl_string (B : Nat) (l s : List UInt8) (w : World) (h : Bl B l w) (hl : l.length + s.length ≤ 140737488355328) (hB : B ≤ w.heap.size) :
    Calls Tryd.prog 59 #[.pointer (some ⟨B, 0, none⟩), .string (bs s)] w fun e w' => e = .returned (.tuple #[.int .i64 (bs s).size, .nilIface]) ∧ Bl B (l ++ s) w' ∧ Below B w w' := by
  refine (writeString B B _ (bs s) w h (by rw [byteCells_length, bs_size]; exact hl) hB).mono ?_
  rintro e w' ⟨rfl, h1, h2⟩
  refine ⟨rfl, .inr ?_, h2⟩
  rw [← byteCells_append, ← cells_bs s]; exact h1
theorem bl_end (B : Nat) (l : List UInt8) (w : World) (h : Bl B l w) (hB : B ≤ w.heap.size) :
    Calls Tryd.prog 61 #[.pointer (some ⟨B, 0, none⟩)] w fun e w' => e = .returned (.string (bs l)) ∧ Below B w w' := Tryd.Builder_String_any B B l w h hB

theorem flat_len {α : Type} (wr : α → List UInt8) (hd : List UInt8) (xs : List α) (k : Nat) (h : (hd ++ 91 :: (xs.flatMap wr ++ [93])).length ≤ 4294967296) : (hd ++ [91] ++ (xs.take k).flatMap wr).length ≤ 4294967296 := by
  have h1 : (xs.take k).flatMap wr ++ (xs.drop k).flatMap wr = xs.flatMap wr := by rw [← List.flatMap_append, List.take_append_drop]
  have h2 := congrArg List.length h1
  simp only [List.length_append, List.length_cons, List.length_nil] at h h2 ⊢
  omega

set_option maxHeartbeats 1000000 in
set_option maxRecDepth 100000 in
theorem writeList_int (v : Value) (xs : List Int) (w : World) (hE : Env w) (hv : IsInts v xs w) (hx : ∀ x ∈ xs, isInt x) (hn : xs.length ≤ 4294967296) (hlen : (numsS xs).length ≤ 4294967296) :
    Calls Tryd.prog 45 #[v, .func (.func 12) #[] #[]] w fun e w' => e = .returned (.string (bs (numsS xs))) ∧ Below w.heap.size w w' := by
  obtain ⟨a, cap, rfl⟩ : ∃ a cap, v = .slice a xs.length cap := by
    rcases hv with ⟨⟨a, c, h1⟩, h2⟩ | ⟨bk, off, cap, h, _⟩
    · exact ⟨a, c, by rw [h1, h2]; rfl⟩
    · exact ⟨_, _, h⟩
  have hz := itoa_len (xs.length : Int) (isInt_len hn)
  have hb0 : Below w.heap.size w (w.alloc (.cells #[.pointer none, .slice none 0 0] 65)) := (Below.refl _ _).alloc (Nat.le_refl _) _
  have hE0 := hE.next hb0
  go_enter Tryd.func45, Tryd.ntmps45
  go_wp2_with fail
  refine (itoa_calls _ (isInt_len hn) _ hE0).mono ?_
  rintro e w1 ⟨rfl, hb1⟩
  have hB1 := (Bl.fresh w).next hb1
  have hs1 : w.heap.size + 1 ≤ w1.heap.size := by have := hb1.size; simpa using this
  have hb01 := hb0.trans (hb1.mono (by simp))
  clear hb1 hb0 hE0
  go_wp2_with fail
  refine (bl_string w.heap.size [] _ _ hB1 (by simp; omega) (by omega)).mono ?_
  rintro e w2 ⟨rfl, hB2, hb2⟩
  have hs2 := hb2.size
  have hb02 := hb01.trans hb2
  clear hb01 hb2 hB1
  go_wp2_with fail
  refine (bl_byte w.heap.size _ 91 _ hB2 (by simp; omega) (by omega)).mono ?_
  rintro e w3 ⟨rfl, hB3, hb3⟩
  have hs3 := hb3.size
  have hb03 := hb02.trans hb3
  clear hb02 hb3 hB2
  have hs : w.heap.size < w3.heap.size := by omega
  clear hs1 hs2 hs3
  simp only [List.nil_append] at hB3
  go_wp2_with fail
  go_loopw [15] (fun i wr => ∃ k : Nat, k ≤ xs.length ∧ i = .int .i64 k ∧ Bl w.heap.size (Lib.itoa (xs.length : Int) ++ [91] ++ (xs.take k).flatMap intS) wr ∧ Below w.heap.size w wr ∧ w.heap.size < wr.heap.size) (fun i _ => xs.length - (intOf i).toNat)
  case atStart => exact ⟨0, Nat.zero_le _, rfl, by simpa using hB3, hb03, hs⟩
  case round =>
    obtain ⟨k, hk, rfl, hB, hb, hs⟩ := hrel
    have hl1 : (Lib.itoa (xs.length : Int) ++ [91] ++ (xs.take k).flatMap intS).length ≤ 4294967296 := flat_len _ _ _ _ hlen
    by_cases hlt : k < xs.length
    · rcases hv with ⟨h1, h2⟩ | ⟨bk, off, cap, h, hbk, hc⟩
      · rw [h2] at hlt; simp at hlt
      · obtain ⟨rfl, -, rfl⟩ := by simpa using h
        have hcell : wr.cell? ⟨bk, off + k, none⟩ = some (.int .i64 xs[k]) := by
          rw [hb.cell (p := ⟨bk, off + k, none⟩) hbk]; exact hc k _ (List.getElem?_eq_getElem hlt)
        have hxk := hx xs[k] (List.getElem_mem _)
        have hk21 := intS_len xs[k] hxk
        have hEr := hE.next hb
        have hbits : k < 9223372036854775807 := by omega
        have e1 : (xs.take (k + 1)).flatMap intS = (xs.take k).flatMap intS ++ intS xs[k] := by
          rw [List.take_succ_eq_append_getElem hlt, List.flatMap_append, List.flatMap_cons, List.flatMap_nil, List.append_nil]
        have HE := Lib.hid e1
        clear e1 h hc hx hlen
        go_wp2_with fail
        refine (base_Int _ hxk _ hEr).mono ?_
        rintro e w4 ⟨rfl, hb4⟩
        have hB4 := hB.next hb4
        have hs4 := hb4.size
        go_wp2_with fail
        refine (bl_string w.heap.size _ _ _ hB4 (by omega) (by omega)).mono ?_
        rintro e w5 ⟨rfl, hB5, hb5⟩
        have hs5 := hb5.size
        have hb05 := (hb.trans (hb4.mono (by omega))).trans hb5
        go_wp2
        go_roundw
        case rel => exact ⟨k + 1, by omega, by go_num, by rw [HE.out, ← List.append_assoc]; exact hB5, hb05, by omega⟩
        case measure => simp [intOf]; omega
    · have hk' : k = xs.length := by omega
      have e1 : (xs.take k).flatMap intS = xs.flatMap intS := by rw [hk', List.take_length]
      have HE := Lib.hid e1
      clear e1 hk'
      go_wp2_with fail
      refine (bl_byte w.heap.size _ 93 _ hB (by omega) (by omega)).mono ?_
      rintro e w4 ⟨rfl, hB4, hb4⟩
      have hs4 := hb4.size
      have hb04 := hb.trans hb4
      go_wp2_with fail
      refine (bl_end w.heap.size _ _ hB4 (by omega)).mono ?_
      rintro e w5 ⟨rfl, hb5⟩
      have hb05 := hb04.trans hb5
      go_wp2
      go_ret
      exact ⟨ret_str (by rw [HE.out]; unfold numsS; simp), hb05⟩

theorem textS_len (s : List UInt8) (hs : s.length ≤ 4294967296) : (textS s).length ≤ 4294967330 := by
  have := itoa_len (s.length : Int) (isInt_len hs)
  unfold textS; simp; omega
theorem base_Text_bs (s : List UInt8) (hs : s.length ≤ 4294967296) (w : World) (hE : Env w) :
    Calls Tryd.prog 14 #[.string (bs s)] w fun e w' => e = .returned (.string (bs (textS s))) ∧ Below w.heap.size w w' := by
  have := base_Text (bs s) (by rw [bs_size]; exact hs) w hE
  rw [bs_data] at this
  exact this

set_option maxHeartbeats 1000000 in
set_option maxRecDepth 100000 in
theorem writeList_text (v : Value) (xs : List (List UInt8)) (w : World) (hE : Env w) (hv : IsTexts v xs w) (hx : ∀ x ∈ xs, x.length ≤ 4294967296) (hn : xs.length ≤ 4294967296) (hlen : (textsS xs).length ≤ 4294967296) :
    Calls Tryd.prog 46 #[v, .func (.func 14) #[] #[]] w fun e w' => e = .returned (.string (bs (textsS xs))) ∧ Below w.heap.size w w' := by
  obtain ⟨a, cap, rfl⟩ : ∃ a cap, v = .slice a xs.length cap := by
    rcases hv with ⟨⟨a, c, h1⟩, h2⟩ | ⟨bk, off, cap, h, _⟩
    · exact ⟨a, c, by rw [h1, h2]; rfl⟩
    · exact ⟨_, _, h⟩
  have hz := itoa_len (xs.length : Int) (isInt_len hn)
  have hb0 : Below w.heap.size w (w.alloc (.cells #[.pointer none, .slice none 0 0] 65)) := (Below.refl _ _).alloc (Nat.le_refl _) _
  have hE0 := hE.next hb0
  go_enter Tryd.func46, Tryd.ntmps46
  go_wp2_with fail
  refine (itoa_calls _ (isInt_len hn) _ hE0).mono ?_
  rintro e w1 ⟨rfl, hb1⟩
  have hB1 := (Bl.fresh w).next hb1
  have hs1 : w.heap.size + 1 ≤ w1.heap.size := by have := hb1.size; simpa using this
  have hb01 := hb0.trans (hb1.mono (by simp))
  clear hb1 hb0 hE0
  go_wp2_with fail
  refine (bl_string w.heap.size [] _ _ hB1 (by simp; omega) (by omega)).mono ?_
  rintro e w2 ⟨rfl, hB2, hb2⟩
  have hs2 := hb2.size
  have hb02 := hb01.trans hb2
  clear hb01 hb2 hB1
  go_wp2_with fail
  refine (bl_byte w.heap.size _ 91 _ hB2 (by simp; omega) (by omega)).mono ?_
  rintro e w3 ⟨rfl, hB3, hb3⟩
  have hs3 := hb3.size
  have hb03 := hb02.trans hb3
  clear hb02 hb3 hB2
  have hs : w.heap.size < w3.heap.size := by omega
  clear hs1 hs2 hs3
  simp only [List.nil_append] at hB3
  go_wp2_with fail
  go_loopw [15] (fun i wr => ∃ k : Nat, k ≤ xs.length ∧ i = .int .i64 k ∧ Bl w.heap.size (Lib.itoa (xs.length : Int) ++ [91] ++ (xs.take k).flatMap textS) wr ∧ Below w.heap.size w wr ∧ w.heap.size < wr.heap.size) (fun i _ => xs.length - (intOf i).toNat)
  case atStart => exact ⟨0, Nat.zero_le _, rfl, by simpa using hB3, hb03, hs⟩
  case round =>
    obtain ⟨k, hk, rfl, hB, hb, hs⟩ := hrel
    have hl1 : (Lib.itoa (xs.length : Int) ++ [91] ++ (xs.take k).flatMap textS).length ≤ 4294967296 := flat_len _ _ _ _ hlen
    by_cases hlt : k < xs.length
    · rcases hv with ⟨h1, h2⟩ | ⟨bk, off, cap, h, hbk, hc⟩
      · rw [h2] at hlt; simp at hlt
      · obtain ⟨rfl, -, rfl⟩ := by simpa using h
        have hcell : wr.cell? ⟨bk, off + k, none⟩ = some (.string (bs xs[k])) := by
          rw [hb.cell (p := ⟨bk, off + k, none⟩) hbk]; exact hc k _ (List.getElem?_eq_getElem hlt)
        have hxk := hx xs[k] (List.getElem_mem _)
        have hk21 := textS_len xs[k] hxk
        have hEr := hE.next hb
        have hbits : k < 9223372036854775807 := by omega
        have e1 : (xs.take (k + 1)).flatMap textS = (xs.take k).flatMap textS ++ textS xs[k] := by
          rw [List.take_succ_eq_append_getElem hlt, List.flatMap_append, List.flatMap_cons, List.flatMap_nil, List.append_nil]
        have HE := Lib.hid e1
        clear e1 h hc hx hlen
        go_wp2_with fail
        refine (base_Text_bs _ hxk _ hEr).mono ?_
        rintro e w4 ⟨rfl, hb4⟩
        have hB4 := hB.next hb4
        have hs4 := hb4.size
        go_wp2_with fail
        refine (bl_string w.heap.size _ _ _ hB4 (by omega) (by omega)).mono ?_
        rintro e w5 ⟨rfl, hB5, hb5⟩
        have hs5 := hb5.size
        have hb05 := (hb.trans (hb4.mono (by omega))).trans hb5
        go_wp2
        go_roundw
        case rel => exact ⟨k + 1, by omega, by go_num, by rw [HE.out, ← List.append_assoc]; exact hB5, hb05, by omega⟩
        case measure => simp [intOf]; omega
    · have hk' : k = xs.length := by omega
      have e1 : (xs.take k).flatMap textS = xs.flatMap textS := by rw [hk', List.take_length]
      have HE := Lib.hid e1
      clear e1 hk'
      go_wp2_with fail
      refine (bl_byte w.heap.size _ 93 _ hB (by omega) (by omega)).mono ?_
      rintro e w4 ⟨rfl, hB4, hb4⟩
      have hs4 := hb4.size
      have hb04 := hb.trans hb4
      go_wp2_with fail
      refine (bl_end w.heap.size _ _ hB4 (by omega)).mono ?_
      rintro e w5 ⟨rfl, hb5⟩
      have hb05 := hb04.trans hb5
      go_wp2
      go_ret
      exact ⟨ret_str (by rw [HE.out]; unfold textsS; simp), hb05⟩

set_option maxRecDepth 100000 in
theorem base_Nums (v : Value) (xs : List Int) (w : World) (hE : Env w) (hv : IsInts v xs w) (hx : ∀ x ∈ xs, isInt x) (hn : xs.length ≤ 4294967296) (hlen : (numsS xs).length ≤ 4294967296) :
    Calls Tryd.prog 16 #[v] w fun e w' => e = .returned (.string (bs (numsS xs))) ∧ Below w.heap.size w w' := by
  go_enter Tryd.func16, Tryd.ntmps16
  go_wp2_with fail
  refine (writeList_int v xs _ hE hv hx hn hlen).mono ?_
  rintro e w1 ⟨rfl, hb⟩
  go_wp2
  go_ret
  exact ⟨rfl, hb⟩
set_option maxRecDepth 100000 in
theorem base_Texts (v : Value) (xs : List (List UInt8)) (w : World) (hE : Env w) (hv : IsTexts v xs w) (hx : ∀ x ∈ xs, x.length ≤ 4294967296) (hn : xs.length ≤ 4294967296) (hlen : (textsS xs).length ≤ 4294967296) :
    Calls Tryd.prog 18 #[v] w fun e w' => e = .returned (.string (bs (textsS xs))) ∧ Below w.heap.size w w' := by
  go_enter Tryd.func18, Tryd.ntmps18
  go_wp2_with fail
  refine (writeList_text v xs _ hE hv hx hn hlen).mono ?_
  rintro e w1 ⟨rfl, hb⟩
  go_wp2
  go_ret
  exact ⟨rfl, hb⟩

end Go.Proofs.YtgpeingndefacaaDoor
