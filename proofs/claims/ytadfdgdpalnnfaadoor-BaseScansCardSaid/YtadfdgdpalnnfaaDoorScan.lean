/- Scan. -/
import Derived.Test.YtadfdgdpalnnfaaDoorTok
namespace Go.Proofs.YtadfdgdpalnnfaaDoor
open Go.RowKit

/-- A good token has at least one byte and at most all; an error is not 0. -/
theorem span_pos {p : UInt8 → Bool} {c : UInt8} {l : List UInt8} (h : p c = true) : 1 ≤ spanL p (c :: l) := by simp [spanL, h]
theorem unqG_le : ∀ (b : Bool) (l : List UInt8) (x : List UInt8 × Nat), unqG b l = some x → 1 ≤ x.2 ∧ x.2 ≤ l.length
  | b, [], x, h => by cases b <;> simp [unqG] at h
  | false, c :: l, x, h => by
    rw [unqG] at h
    by_cases h1 : c = 34
    · rw [if_pos h1] at h; cases h; simp
    · rw [if_neg h1] at h
      by_cases h2 : c = 92
      · rw [if_pos h2] at h
        obtain ⟨y, hy, rfl⟩ := Option.map_eq_some_iff.1 h
        have := unqG_le true l y hy
        simp; omega
      · rw [if_neg h2] at h
        obtain ⟨y, hy, rfl⟩ := Option.map_eq_some_iff.1 h
        have := unqG_le false l y hy
        simp; omega
  | true, c :: l, x, h => by
    rw [unqG] at h
    by_cases h1 : c = 34 ∨ c = 92
    · rw [if_pos h1] at h
      obtain ⟨y, hy, rfl⟩ := Option.map_eq_some_iff.1 h
      have := unqG_le false l y hy
      simp; omega
    · rw [if_neg h1] at h; cases h
theorem sign_len : ∀ s ∈ signL, 1 ≤ s.length := by decide
theorem tok_size (c : UInt8) (l : List UInt8) : ((tokF (c :: l)).err = 0 → 1 ≤ (tokF (c :: l)).size ∧ (tokF (c :: l)).size ≤ (c :: l).length) := by
  intro h
  rw [tokF] at h ⊢
  by_cases h1 : isLet c = true
  · rw [if_pos h1] at h ⊢
    have a1 := span_pos (p := isNm) (c := c) (l := l) (by simp [isNm, h1])
    have a2 := spanL_le isNm (c :: l)
    simp only at h ⊢
    by_cases h2 : isName ((c :: l).take (spanL isNm (c :: l))) = true
    · rw [if_pos h2]; simp only [List.length_take]; omega
    · rw [if_neg h2] at h; simp [bad] at h
  · rw [if_neg h1] at h ⊢
    by_cases h2 : isDig c = true
    · rw [if_pos h2] at h ⊢
      have a1 := span_pos (p := isDig) (l := l) h2
      have a2 := spanL_le isDig (c :: l)
      simp only at h ⊢
      cases hn : numL ((c :: l).take (spanL isDig (c :: l))) with
      | none => rw [hn] at h; simp [bad] at h
      | some n => simp only [List.length_take]; omega
    · rw [if_neg h2] at h ⊢
      by_cases h3 : c = 34
      · rw [if_pos h3] at h ⊢
        cases hu : unqF l with
        | none => rw [hu] at h; simp [bad] at h
        | some x =>
          rw [hu] at h
          have := unqG_le false l x hu
          obtain ⟨v, k⟩ := x
          simp only at h this ⊢
          by_cases h4 : isVal v = true
          · rw [if_pos h4]; simp; omega
          · rw [if_neg h4] at h; simp [bad] at h
      · rw [if_neg h3] at h ⊢
        cases hs : signF (c :: l) with
        | none => rw [hs] at h; simp [bad] at h
        | some s =>
          have hm := List.mem_of_find?_eq_some hs
          have hp := List.find?_some hs
          have := sign_len s hm
          simp only
          refine ⟨this, ?_⟩
          have hpre : s.isPrefixOf (c :: l) = true := hp
          exact (List.isPrefixOf_iff_prefix.1 hpre).length_le

/-- The cells of a token. -/
def tokCells (t : Tk) : List Value := [.int .i64 t.kind, .string (bs t.text), .int .i64 t.n, .int .i64 t.pos]
theorem tokCells_len (L : List Tk) : (L.flatMap tokCells).length = L.length * 4 := by
  induction L with
  | nil => rfl
  | cons a L ih => rw [List.flatMap_cons, List.length_append, ih]; simp [tokCells]; omega
/-- What Scan leaves. -/
def ScanPost (S : List Tk × Nat × Int) (w : World) (e : Ending) (w' : World) : Prop :=
  ∃ v, e = .returned (.tuple #[v, .int .i64 (S.2.1 : Int), .int .i64 S.2.2]) ∧ w'.ownsRow w.heap.size 25 4 v S.1.length (S.1.flatMap tokCells) ∧ Below w.heap.size w w'
theorem scan_end {f k : Nat} {acc : List Tk} (h : 0 < f) : scanF f k [] acc = (acc, 0, 0) := by
  cases f with
  | zero => omega
  | succ f => rw [scanF, if_pos rfl]
theorem scan_bad {f k : Nat} {l : List UInt8} {acc : List Tk} (h : l.length < f) (hl : l ≠ []) (he : (tokF l).err ≠ 0) : scanF f k l acc = ([], k, (tokF l).err) := by
  cases f with
  | zero => omega
  | succ f => rw [scanF, if_neg hl]; simp only; rw [if_pos he]
theorem scan_good {f k : Nat} {l : List UInt8} {acc : List Tk} (h : l.length < f) (hl : l ≠ []) (he : (tokF l).err = 0) : scanF f k l acc =
    scanF (f - 1) (k + (tokF l).size + sk false (l.drop (tokF l).size)) ((l.drop (tokF l).size).drop (sk false (l.drop (tokF l).size))) (acc ++ [⟨(tokF l).kind, (tokF l).text, (tokF l).n, k⟩]) := by
  cases f with
  | zero => omega
  | succ f => rw [scanF, if_neg hl]; simp only; rw [if_neg (by omega)]; rfl
theorem info25 : (Tryd.prog.info? 25).map (fun i => (i.zero, i.size, i.bytes)) = some (some (.agg #[.int .i64 0, .string ⟨#[]⟩, .int .i64 0, .int .i64 0]), 4, 40) := by kernel_rfl

theorem scan_full (l : List UInt8) (hl : 4000 < l.length) (hl2 : l.length ≤ 4294967296) (w : World) :
    Calls Tryd.prog 10 #[.string (bs l)] w (ScanPost (scanL l) w) := by
  have e : scanL l = ([], 0, 6) := by unfold scanL; rw [if_pos hl]
  rw [e]
  have hI : (4000 : Int) < ((bs l).size : Int) := by rw [bs_size]; omega
  go_enter Tryd.func10, Tryd.ntmps10
  go_wp2
  go_ret3
  exact ⟨_, rfl, ⟨rfl, .inl ⟨rfl, rfl⟩⟩, Below.refl _ _⟩

set_option maxHeartbeats 2000000 in
set_option maxRecDepth 100000 in
theorem scan_calls (l : List UInt8) (hl : l.length ≤ 4000) (w : World) (hE : Env w) :
    Calls Tryd.prog 10 #[.string (bs l)] w (ScanPost (scanL l) w) := by
  obtain ⟨i0, hi, hz0, hz1, hz2⟩ := info_parts info25
  have hsm : (bs l).size ≤ 4000 := by rw [bs_size]; exact hl
  have hI : ¬ (4000 : Int) < ((bs l).size : Int) := by omega
  have hsk := sk_le false l
  obtain ⟨S, hS⟩ : ∃ S, S = scanL l := ⟨_, rfl⟩
  rw [← hS]
  have hS2 : S = scanF (l.length + 1) (sk false l) (l.drop (sk false l)) [] := by rw [hS]; unfold scanL; rw [if_neg (by omega)]
  have HS := Lib.hid hS2
  clear hS hS2
  go_enter Tryd.func10, Tryd.ntmps10
  go_wp2_with fail
  refine (skip_calls l (by omega) w).mono ?_
  rintro e w1 ⟨rfl, hb1⟩
  go_wp2_with fail
  go_loopw [5, 6] (fun v i wr => ∃ (k f : Nat) (acc : List Tk), k ≤ l.length ∧ i = .int .i64 k ∧ wr.ownsRow w.heap.size 25 4 v acc.length (acc.flatMap tokCells) ∧ Below w.heap.size w wr ∧ S = scanF f k (l.drop k) acc ∧ (l.drop k).length < f ∧ acc.length ≤ k) (fun _ i _ => l.length - (intOf i).toNat)
  case atStart => exact ⟨sk false l, l.length + 1, [], hsk, rfl, ⟨rfl, .inl ⟨rfl, rfl⟩⟩, hb1, HS.out, by simp; omega, by simp⟩
  case round =>
    obtain ⟨k, f, acc, hk, rfl, hown, hb, hSF, hf, hacc⟩ := hrel
    have HF := Lib.hid hSF
    clear hSF
    by_cases hlt : k < l.length
    · have hkI : (k : Int) < ((bs l).size : Int) := by rw [bs_size]; omega
      have hx : (bs l).extract k (bs l).size = bs (l.drop k) := bs_drop l k
      have hcons := List.drop_eq_getElem_cons hlt
      have hne : l.drop k ≠ [] := by rw [hcons]; exact List.cons_ne_nil _ _
      have hE2 : Env _ := hE.below hb hE.lo
      have hT0 := tok_calls (l[k]'hlt) (l.drop (k + 1)) (by simp; omega) _ hE2
      have hsz := tok_size (l[k]'hlt) (l.drop (k + 1))
      rw [← hcons] at hT0 hsz
      have hg := fun he => scan_good (k := k) (acc := acc) hf hne he
      have hbd := fun he => scan_bad (k := k) (acc := acc) hf hne he
      generalize tokF (l.drop k) = t at *
      have HG := Lib.hid hg
      have HB := Lib.hid hbd
      have HT := Lib.hid hT0
      clear hg hbd hT0 hcons hne
      obtain ⟨tk, tt, tn, ts, te⟩ := t
      simp only at hsz
      rw [List.length_drop] at hsz hf
      go_wp2_with fail
      refine HT.out.mono ?_
      rintro e w2 ⟨he, hb2⟩
      have he2 : e = .returned (.tuple #[.agg #[.int .i64 tk, .string (bs tt), .int .i64 tn, .int .i64 0], .int .i64 ts, .int .i64 te]) := he
      subst he2
      clear he
      have hb02 := hb.trans (hb2.mono hb.size)
      have hown2 := owns_next hown hb2
      by_cases hte : te = 0
      · subst hte
        obtain ⟨hs1, hs2⟩ := hsz rfl
        have hSg := Lib.hid (HF.out.trans (HG.out rfl))
        have hskl := sk_le false ((l.drop k).drop ts)
        have hSK := fun w => Lib.hid (skip_calls (l.drop (k + ts)) (by rw [List.length_drop]; omega) w)
        simp only [List.drop_drop] at hSg hskl hSK
        rw [List.length_drop] at hskl
        generalize sk false (l.drop (k + ts)) = z at *
        have hkt2 : k + ts ≤ (bs l).size := by rw [bs_size]; omega
        have hx2 : (bs l).extract (k + ts) (bs l).size = bs (l.drop (k + ts)) := bs_drop l (k + ts)
        clear HG HB HF hsz hown
        go_wp2_with (at_builtin; refine wpList_append_own _ rfl _ _ 22 rfl w.heap.size 25 i0 (.agg #[.int .i64 0, .string ⟨#[]⟩, .int .i64 0, .int .i64 0]) 4 40 Tryd.underlying22 hi hz0 hz1 hz2 rfl (by decide) _ _ _ rfl ((hown2.alloc _).alloc _) ⟨w2.heap.size + 1, 0, none⟩ 1 1 (tokCells ⟨tk, tt, tn, k⟩) rfl rfl ?c1 ?c2 ?c3 ?c4 ?c5 ?_)
        case c1 =>
          intro j u hj
          match j, hj with
          | 0, hj => simp [tokCells] at hj; subst hj; simp [Addr.add]
          | 1, hj => simp [tokCells] at hj; subst hj; simp [Addr.add]
          | 2, hj => simp [tokCells] at hj; subst hj; simp [Addr.add]
          | 3, hj => simp [tokCells] at hj; subst hj; simp [Addr.add]
          | j + 4, hj => simp [tokCells] at hj
        case c2 =>
          intro u hu
          simp [tokCells] at hu
          rcases hu with rfl | rfl | rfl | rfl <;> rfl
        case c3 => unfold maxLen; omega
        case c4 => omega
        case c5 => have := hb02.size; simp; omega
        intro v' w3 hown' hgrow _
        have hb03 : Below w.heap.size w w3 := ((hb02.alloc (by have := hb02.size; omega) _).alloc (by have := hb02.size; simp; omega) _).grown hgrow (by have := hb02.size; simp; omega) (fun k hk => (hown2.lt k hk).1)
        clear hown2 hgrow hb02 hb2 hb
        go_wp2_with fail
        refine (hSK _).out.mono ?_
        rintro e w4 ⟨rfl, hb4⟩
        have hb04 := hb03.trans (hb4.mono hb03.size)
        have hown4 := owns_next hown' hb4
        go_wp2
        go_roundw
        case rel => exact ⟨k + ts + z, f - 1, acc ++ [⟨tk, tt, tn, k⟩], by omega, by go_num, by simpa using hown4, hb04, hSg.out, by rw [List.length_drop]; omega, by rw [List.length_append]; simp; omega⟩
        case measure => simp [intOf]; omega
      · have hter : (te != 0) = true := bne_iff_ne.2 hte
        have hSb : S = ([], k, te) := by rw [HF.out]; exact HB.out hte
        go_wp2
        go_ret3
        subst hSb
        exact ⟨_, rfl, ⟨rfl, .inl ⟨rfl, rfl⟩⟩, hb02.alloc (by have := hb02.size; omega) _⟩
    · have hkI : ¬ (k : Int) < ((bs l).size : Int) := by rw [bs_size]; omega
      have e : S = (acc, 0, 0) := by rw [HF.out, List.drop_eq_nil_of_le (by omega)]; exact scan_end (by omega)
      go_wp2
      go_ret3
      subst e
      exact ⟨_, rfl, hown, hb⟩
end Go.Proofs.YtadfdgdpalnnfaaDoor
