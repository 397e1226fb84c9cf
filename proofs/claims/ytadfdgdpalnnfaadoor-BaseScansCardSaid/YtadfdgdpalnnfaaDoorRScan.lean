/- The reference's Scan. -/
import Derived.Test.YtadfdgdpalnnfaaDoorRTok3
namespace Go.Proofs.YtadfdgdpalnnfaaDoor
open Go.RowKit

/-- What is left to scan from an offset on, in a comment or not. -/
def scR (l : List UInt8) (f k : Nat) (cm : Bool) (acc : List Tk) : List Tk × Nat × Int := scanF f (k + sk cm (l.drop k)) ((l.drop k).drop (sk cm (l.drop k))) acc
theorem scR_step {l : List UInt8} {k : Nat} (hk : k < l.length) (f : Nat) (cm cm' : Bool) (acc : List Tk) (h : sk cm (l[k] :: l.drop (k + 1)) = sk cm' (l.drop (k + 1)) + 1) : scR l f k cm acc = scR l f (k + 1) cm' acc := by
  unfold scR
  rw [List.drop_eq_getElem_cons hk, h, List.drop_succ_cons, show k + (sk cm' (l.drop (k + 1)) + 1) = k + 1 + sk cm' (l.drop (k + 1)) by omega]
theorem scR_lf {l : List UInt8} {k : Nat} (hk : k < l.length) (f : Nat) (cm : Bool) (acc : List Tk) (h : l[k] = 10) : scR l f k cm acc = scR l f (k + 1) false acc := by
  refine scR_step hk f cm false acc ?_
  rw [h]
  cases cm <;> simp [sk, isBl, notLf]
theorem scR_in {l : List UInt8} {k : Nat} (hk : k < l.length) (f : Nat) (acc : List Tk) (h : l[k] ≠ 10) : scR l f k true acc = scR l f (k + 1) true acc := by
  refine scR_step hk f true true acc ?_
  have : notLf l[k] = true := by
    unfold notLf
    exact decide_eq_true fun e => h (UInt8.toNat.inj e)
  simp [sk, this]
theorem scR_bl {l : List UInt8} {k : Nat} (hk : k < l.length) (f : Nat) (acc : List Tk) (h : isBl l[k] = true) : scR l f k false acc = scR l f (k + 1) false acc := by
  refine scR_step hk f false false acc ?_
  simp [sk, h]
theorem scR_hash {l : List UInt8} {k : Nat} (hk : k < l.length) (f : Nat) (acc : List Tk) (h : l[k] = 35) : scR l f k false acc = scR l f k true acc := by
  unfold scR
  rw [List.drop_eq_getElem_cons hk, h, show sk false (35 :: l.drop (k + 1)) = sk true (35 :: l.drop (k + 1)) by simp [sk, isBl, notLf]]
theorem scR_tok {l : List UInt8} {k : Nat} (hk : k < l.length) (f : Nat) (acc : List Tk) (h1 : isBl l[k] = false) (h2 : l[k] ≠ 35) : scR l f k false acc = scanF f k (l.drop k) acc := by
  unfold scR
  rw [show sk false (l.drop k) = 0 by rw [List.drop_eq_getElem_cons hk]; exact sk_stop h1 h2]
  rfl

def cmOf : Value → Nat
  | .bool true => 0
  | _ => 1

theorem rscan_full (l : List UInt8) (hl : 4000 < l.length) (hl2 : l.length ≤ 4294967296) (w : World) :
    Calls Tryd.prog 11 #[.string (bs l)] w (ScanPost (scanL l) w) := by
  have e : scanL l = ([], 0, 6) := by unfold scanL; rw [if_pos hl]
  rw [e]
  have hI : (4000 : Int) < ((bs l).size : Int) := by rw [bs_size]; omega
  go_enter Tryd.func11, Tryd.ntmps11
  go_wp2
  go_ret3
  exact ⟨_, rfl, ⟨rfl, .inl ⟨rfl, rfl⟩⟩, Below.refl _ _⟩

set_option maxHeartbeats 2000000 in
set_option maxRecDepth 100000 in
theorem rscan_calls (l : List UInt8) (hl : l.length ≤ 4000) (w : World) :
    Calls Tryd.prog 11 #[.string (bs l)] w (ScanPost (scanL l) w) := by
  obtain ⟨i0, hi, hz0, hz1, hz2⟩ := info_parts info25
  have hsm : (bs l).size ≤ 4000 := by rw [bs_size]; exact hl
  have hI : ¬ (4000 : Int) < ((bs l).size : Int) := by omega
  obtain ⟨S, hS⟩ : ∃ S, S = scanL l := ⟨_, rfl⟩
  rw [← hS]
  have hS2 : S = scR l (l.length + 1) 0 false [] := by rw [hS]; unfold scanL scR; rw [if_neg (by omega)]; simp
  have HS := Lib.hid hS2
  clear hS hS2
  go_enter Tryd.func11, Tryd.ntmps11
  go_wp2
  go_loopw [5, 6, 7] (fun v i c wr => ∃ (k f : Nat) (acc : List Tk) (cm : Bool), k ≤ l.length ∧ i = .int .i64 k ∧ c = .bool cm ∧ wr.ownsRow w.heap.size 25 4 v acc.length (acc.flatMap tokCells) ∧ Below w.heap.size w wr ∧ Hid (S = scR l f k cm acc) ∧ Hid (l.length < f + k) ∧ acc.length ≤ k) (fun _ i c _ => 2 * (l.length - (intOf i).toNat) + cmOf c)
  case atStart => exact ⟨0, l.length + 1, [], false, Nat.zero_le _, rfl, rfl, ⟨rfl, .inl ⟨rfl, rfl⟩⟩, Below.refl _ _, HS.out, by show _ < _; omega, by simp⟩
  case round =>
    obtain ⟨k, f, acc, cm, hk, rfl, rfl, hown, hb, HF, Hf, hacc⟩ := hrel
    by_cases hlt : k < l.length
    · have hkI : (k : Int) < ((bs l).size : Int) := by rw [bs_size]; omega
      have hlt2 : k < (bs l).size := by rw [bs_size]; exact hlt
      have hg := bs_get l k hlt2 hlt
      have HB := Lib.hid hg
      have HOWN := Lib.hid hown
      by_cases q10 : l[k]'hlt = 10
      · have e10 : ((((bs l)[k]'hlt2).toNat : Int) == 10) = true := by rw [hg, q10]; rfl
        have hbl := fun w => Lib.hid (rcls_blank ((bs l)[k]'hlt2) w)
        rw [hg, q10, show isBl 10 = true by decide] at hbl
        have HN : Hid (S = scR l f (k + 1) false acc) := HF.out.trans (scR_lf hlt f cm acc q10)
        have HB2 : Hid ((bs l)[k]'hlt2 = 10) := by show _ = _; rw [hg, q10]
        clear hg q10 hown
        go_wp2_with fail
        rw [HB2.out]
        refine (hbl _).out.mono ?_
        rintro e w1 ⟨rfl, rfl⟩
        go_wp2
        go_roundw
        case rel => exact ⟨k + 1, f, acc, false, by omega, by go_num, rfl, HOWN.out, hb, HN, by have := Hf.out; show _ < _; omega, by omega⟩
        case measure => cases cm <;> simp only [intOf, cmOf] <;> omega
      · have e10 : ((((bs l)[k]'hlt2).toNat : Int) == 10) = false := by rw [hg]; exact ne_of_u8 q10
        cases cm
        · have hbl := fun w => Lib.hid (rcls_blank ((bs l)[k]'hlt2) w)
          rw [hg] at hbl
          cases hx : isBl (l[k]'hlt)
          · by_cases q35 : l[k]'hlt = 35
            · have e35 : ((((bs l)[k]'hlt2).toNat : Int) == 35) = true := by rw [hg, q35]; rfl
              have HN : Hid (S = scR l f k true acc) := HF.out.trans (scR_hash hlt f acc q35)
              rw [hx] at hbl
              clear hg q10 q35 hx hown
              go_wp2_with fail
              rw [HB.out]
              refine (hbl _).out.mono ?_
              rintro e w1 ⟨rfl, rfl⟩
              go_wp2
              go_roundw
              case rel => exact ⟨k, f, acc, true, hk, rfl, rfl, HOWN.out, hb, HN, Hf, hacc⟩
              case measure => simp only [intOf, cmOf]; omega
            · have e35 : ((((bs l)[k]'hlt2).toNat : Int) == 35) = false := by rw [hg]; exact ne_of_u8 q35
              have HN : Hid (S = scanF f k (l.drop k) acc) := HF.out.trans (scR_tok hlt f acc hx q35)
              have hcons := List.drop_eq_getElem_cons hlt
              have hne : l.drop k ≠ [] := by rw [hcons]; exact List.cons_ne_nil _ _
              have hff : (l.drop k).length < f := by have := Hf.out; rw [List.length_drop]; omega
              have hT0 := fun w => rtoken_calls l (by omega) k hlt w
              have hsz := tok_size (l[k]'hlt) (l.drop (k + 1))
              rw [← hcons] at hsz
              have hg2 := fun he => scan_good (k := k) (acc := acc) hff hne he
              have hbd := fun he => scan_bad (k := k) (acc := acc) hff hne he
              generalize tokF (l.drop k) = t at *
              rw [hx] at hbl
              have HG := Lib.hid hg2
              have HBD := Lib.hid hbd
              have HT := fun w => Lib.hid (hT0 w)
              clear hg2 hbd hT0 hcons hne hg q10 q35 hx hff
              obtain ⟨tk, tt, tn, ts, te⟩ := t
              simp only at hsz
              rw [List.length_drop] at hsz
              go_wp2_with fail
              rw [HB.out]
              refine (hbl _).out.mono ?_
              rintro e w1 ⟨rfl, rfl⟩
              go_wp2_with fail
              refine (HT _).out.mono ?_
              rintro e w2 ⟨he, hb2⟩
              have hb02 := hb.trans (hb2.mono hb.size)
              have hown2 := owns_next hown hb2
              by_cases hte : te = 0
              · subst hte
                have he2 : e = .returned (.tuple #[.agg #[.int .i64 tk, .string (bs tt), .int .i64 tn, .int .i64 k], .int .i64 ((k : Int) + ts), .int .i64 0]) := he
                subst he2
                clear he
                obtain ⟨hs1, hs2⟩ := hsz rfl
                have hSg := HN.out.trans (HG.out rfl)
                have HSG : Hid (S = scR l (f - 1) (k + ts) false (acc ++ [⟨tk, tt, tn, k⟩])) := by
                  show _ = _
                  rw [hSg]; unfold scR
                  simp only [List.drop_drop]
                clear HG HBD HN hsz hown hSg
                go_wp2_with (at_builtin; refine wpList_append_own _ rfl _ _ 22 rfl w.heap.size 25 i0 (.agg #[.int .i64 0, .string ⟨#[]⟩, .int .i64 0, .int .i64 0]) 4 40 Tryd.underlying22 hi hz0 hz1 hz2 rfl (by decide) _ _ _ rfl ((hown2.alloc _).alloc _) ⟨w2.heap.size + 1, 0, none⟩ 1 1 (tokCells ⟨tk, tt, tn, k⟩) rfl rfl ?c1 ?c2 ?c3 ?c4 ?c5 ?_)
                case c1 =>
                  intro j u hj
                  match j, hj with
                  | 0, hj => simp [tokCells] at hj; subst hj; simp [Addr.add]
                  | 1, hj => simp [tokCells] at hj; subst hj; simp [Addr.add]
                  | 2, hj => simp [tokCells] at hj; subst hj; simp [Addr.add]
                  | 3, hj => simp [tokCells] at hj; subst hj; simp [Addr.add]
                  | j + 4, hj => simp [tokCells] at hj
                case c2 =>
                  intro u hu
                  simp [tokCells] at hu
                  rcases hu with rfl | rfl | rfl | rfl <;> rfl
                case c3 => unfold maxLen; omega
                case c4 => omega
                case c5 => have := hb02.size; simp; omega
                intro v' w3 hown' hgrow _
                have hb03 : Below w.heap.size w w3 := ((hb02.alloc (by have := hb02.size; omega) _).alloc (by have := hb02.size; simp; omega) _).grown hgrow (by have := hb02.size; simp; omega) (fun k hk => (hown2.lt k hk).1)
                clear hown2 hgrow hb02 hb2 hb
                go_wp2
                go_roundw
                case rel => exact ⟨k + ts, f - 1, acc ++ [⟨tk, tt, tn, k⟩], false, by omega, by go_num, rfl, by simpa using hown', hb03, HSG, by have := Hf.out; show _ < _; omega, by rw [List.length_append]; simp; omega⟩
                case measure => simp only [intOf, cmOf]; omega
              · have hter : (te != 0) = true := bne_iff_ne.2 hte
                have hSb : Hid (S = ([], k, te)) := by show _ = _; rw [HN.out]; exact HBD.out hte
                have he2 : e = .returned (.tuple #[.agg #[.int .i64 0, .string (bs []), .int .i64 0, .int .i64 0], .int .i64 0, .int .i64 te]) := by rw [he]; unfold RTokV; rw [if_neg hte]
                subst he2
                clear he
                go_wp2
                go_ret3
                rw [hSb.out]
                exact ⟨_, rfl, ⟨rfl, .inl ⟨rfl, rfl⟩⟩, hb02.alloc (by have := hb02.size; omega) _⟩
          · have HN : Hid (S = scR l f (k + 1) false acc) := HF.out.trans (scR_bl hlt f acc hx)
            rw [hx] at hbl
            clear hg q10 hx hown
            go_wp2_with fail
            rw [HB.out]
            refine (hbl _).out.mono ?_
            rintro e w1 ⟨rfl, rfl⟩
            go_wp2
            go_roundw
            case rel => exact ⟨k + 1, f, acc, false, by omega, by go_num, rfl, HOWN.out, hb, HN, by have := Hf.out; show _ < _; omega, by omega⟩
            case measure => simp only [intOf, cmOf]; omega
        · have HN : Hid (S = scR l f (k + 1) true acc) := HF.out.trans (scR_in hlt f acc q10)
          clear hg q10 hown
          go_wp2
          go_roundw
          case rel => exact ⟨k + 1, f, acc, true, by omega, by go_num, rfl, HOWN.out, hb, HN, by have := Hf.out; show _ < _; omega, by omega⟩
          case measure => simp only [intOf, cmOf]; omega
    · have hkI : ¬ (k : Int) < ((bs l).size : Int) := by rw [bs_size]; omega
      have e : S = (acc, 0, 0) := by
        rw [HF.out]; unfold scR
        rw [List.drop_eq_nil_of_le (by omega)]
        have h0 : 0 < f := by have := Hf.out; omega
        cases cm <;> simp [sk, scan_end h0]
      go_wp2
      go_ret3
      subst e
      exact ⟨_, rfl, hown, hb⟩
end Go.Proofs.YtadfdgdpalnnfaaDoor
