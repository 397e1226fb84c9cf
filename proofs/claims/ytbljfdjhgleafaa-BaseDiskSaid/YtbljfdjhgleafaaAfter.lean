/- byteAt, after. -/
import Derived.Test.YtbljfdjhgleafaaSynced2
namespace Go.Proofs.Ytbljfdjhgleafaa
open Go.RowKit

variable {w w' : World} {b : Nat} {d : Dk} {S : Nat → Prop}

theorem bs_get (s : List UInt8) (i : Nat) (h : i < (bs s).size) : (bs s)[i] = s.getD i 0 := by
  have h2 : i < s.length := by rw [← bs_size s]; exact h
  rw [List.getD_eq_getElem?_getD, List.getElem?_eq_getElem h2]
  rfl

set_option maxRecDepth 100000 in
theorem byteAt_calls (s : List UInt8) (i : Nat) (w : World) (_hs : s.length ≤ 1099511627776) (hi : i ≤ 1099511627776) :
    Calls Try.prog 23 #[.string (bs s), .int .i64 i] w fun e w' => e = .returned (.int .u8 ((s.getD i 0).toNat : Int)) ∧ w = w' := by
  have hl := bs_size s
  by_cases h : i < s.length
  · have d1 : (i : Int) < (s.length : Int) := by omega
    go_enter Try.func23, Try.ntmps23
    go_wp2_with fail
    go_ret
    exact ⟨by rw [bs_get]; rfl, rfl⟩
  · have d1 : ¬ (i : Int) < (s.length : Int) := by omega
    have : s.getD i 0 = 0 := by
      rw [List.getD_eq_getElem?_getD, List.getElem?_eq_none (by omega)]; rfl
    rw [this]
    go_enter Try.func23, Try.ntmps23
    go_wp2_with fail
    go_ret
    exact ⟨rfl, rfl⟩

set_option maxHeartbeats 1000000 in
set_option maxRecDepth 100000 in
theorem after_calls (h : Mine S w b d) (f : Int) (v : Value) (keep : List Int) (hv : KeepAt w v keep) (hvb : ∀ i, inBlock v i → S i) (hlen : keep.length ≤ 1099511627776) :
    Calls Try.prog 22 #[.pointer (some ⟨b, 0, none⟩), .int .i64 f, v] w fun e w' =>
      e = .returned (.tuple #[.string (bs (((d.crash keep).start).read f 0 16777216).1), .bool ((((d.crash keep).start).read f 0 16777216).2 == 0)]) ∧ Mine S w' b d ∧ Kept (fun i => ¬ S i) w w' := by
  have hc := Lib.hid (t_copy h)
  have HV := Lib.hid hv
  have HVB := Lib.hid hvb
  obtain ⟨va, vl, vc, rfl⟩ : ∃ va vl vc, v = .slice va vl vc := by
    rcases hv with ⟨⟨a, c, rfl⟩, _⟩ | ⟨g, o, c, rfl, _⟩
    · exact ⟨_, _, _, rfl⟩
    · exact ⟨_, _, _, rfl⟩
  obtain ⟨rd, hrd⟩ : ∃ rd, rd = ((d.crash keep).start).read f 0 16777216 := ⟨_, rfl⟩
  rw [← hrd]
  have HRD := Lib.hid hrd
  obtain ⟨r1, r2⟩ := rd
  clear h hv hvb hrd
  go_enter Try.func22, Try.ntmps22
  go_wp2_with fail
  refine Calls.mono hc.out ?_
  rintro e w1 ⟨g, rfl, hT, k1⟩
  obtain ⟨S', hSS, hM, hback⟩ := hT.symm.left
  have K1 := Lib.hid k1
  have HB := Lib.hid hback
  have HSS := Lib.hid hSS
  have c2 := Lib.hid (m_crash hM _ keep (HV.out.kept k1 (fun i _ e => e)) (fun i hi => hSS i (HVB.out i hi)) hlen)
  clear hT k1 hback hSS hM hc
  go_wp2_with fail
  refine Calls.mono c2.out ?_
  rintro e w2 ⟨rfl, h2, k2⟩
  have K2 := Lib.hid k2
  have c3 := Lib.hid (m_start h2)
  clear h2 k2 c2
  go_wp2_with fail
  refine Calls.mono c3.out ?_
  rintro e w3 ⟨rfl, h3, k3⟩
  have K3 := Lib.hid (K2.out.trans k3)
  have c4 := Lib.hid (m_read h3 f 0 16777216 (by decide) (by decide))
  rw [← HRD.out] at c4
  clear h3 k3 c3
  go_wp2_with fail
  refine Calls.mono c4.out ?_
  rintro e w4 ⟨rfl, h4, k4⟩
  have K4 := Lib.hid (K3.out.trans k4)
  have H4 := Lib.hid h4
  clear h4 k4 c4
  go_wp2_with fail
  have hT := HB.out w4 _ H4.out K4.out
  refine bodyPost_ret (v := .tuple #[.string (bs r1), .bool (r2 == 0)]) (by simp [results, Try.results22, go_sem]) rfl ?_
  exact ⟨rfl, hT.symm.one, (K1.out.mono (fun i hi => hi.elim)).trans (K4.out.mono (fun i hi => Or.inl (fun hs => hi (HSS.out i hs))))⟩

/-- The same with a slice that is made on the spot. -/
theorem after_lit {xs : List Int} {o : Obj} (h : Mine S w b d) (f : Int) (ho : o = .cells (xs.map (Value.int .i64)).toArray 3 (0, 0)) (hlen : xs.length ≤ 1099511627776) :
    Calls Try.prog 22 #[.pointer (some ⟨b, 0, none⟩), .int .i64 f, .slice (some ⟨w.heap.size, 0, none⟩) xs.length xs.length] (w.alloc o) fun e w' =>
      e = .returned (.tuple #[.string (bs (((d.crash xs).start).read f 0 16777216).1), .bool ((((d.crash xs).start).read f 0 16777216).2 == 0)]) ∧ Mine S w' b d ∧ Kept (fun i => ¬ S i) w w' := by
  subst ho
  refine (after_calls (h.alloc _) f _ xs (lit_keep w xs) (fun i hi => ?_) hlen).mono ?_
  · obtain ⟨o, n, c, e⟩ := hi
    simp at e
    exact Or.inr e.1.1.symm
  · rintro r w' ⟨rfl, hm, hk⟩
    exact ⟨rfl, hm.weak (fun i hi => Or.inl hi), ((Kept.refl (fun i => ¬ S i) w).alloc _).trans (hk.mono (fun i hi => Or.inl (fun hs => hi (Or.inl hs))))⟩

theorem text_get (m : Img) (f i : Nat) : (m.text f).getD i 0 = if i < m.sz f then m.B f i else 0 := by
  rw [List.getD_eq_getElem?_getD, Img.text, Img.read, List.getElem?_map]
  by_cases h : i < m.sz f
  · rw [if_pos h, List.getElem?_range h]
    simp
  · rw [if_neg h, List.getElem?_eq_none (by simp; omega)]
    rfl

theorem read_crash {d : Dk} (hk : d.Ok) (hd : d.down = false) {f : Nat} (hf : f < 16) (keep : List Int) : ((d.crash keep).start).read f 0 16777216 = ((d.left keep).text f, 0) := by
  rw [read_all (hk.crash keep).start rfl ⟨by omega, by omega⟩]
  show ((d.crash keep).F.text (f : Int).toNat, (0 : Int)) = _
  rw [crash_F hd, Int.toNat_natCast]

theorem survives_pure {d : Dk} (hk : d.Ok) (f : Nat) (keep : List Int) :
    (d.left [1]).text f = d.F.text f ∧ ((d.left []).text f).length ≤ ((d.left keep).text f).length ∧ ((d.left keep).text f).length ≤ (d.F.text f).length ∧
      ∀ n, (∀ i, i / 64 = n → i < ((d.left keep).text f).length → ((d.left keep).text f).getD i 0 = (d.F.text f).getD i 0) ∨ (∀ i, i / 64 = n → i < ((d.left keep).text f).length → ((d.left keep).text f).getD i 0 = ((d.left []).text f).getD i 0) := by
  have hz := left_sz hk keep f
  have ha := left_all hk f
  refine ⟨text_eq ha.1 (fun p _ => ha.2 p), ?_, ?_, fun n => ?_⟩
  · rw [Img.text_length, Img.text_length, left_none]; exact hz.1
  · rw [Img.text_length, Img.text_length]; exact hz.2
  · rcases left_sector d keep f n with h | h
    · refine Or.inl fun i hi hl => ?_
      rw [Img.text_length] at hl
      rw [text_get, text_get, if_pos hl, if_pos (by omega)]
      exact h i hi
    · refine Or.inr fun i hi hl => ?_
      rw [Img.text_length] at hl
      rw [text_get, text_get, if_pos hl, left_none, h i hi]
      by_cases h2 : i < d.D.sz f
      · rw [if_pos h2]
      · rw [if_neg h2, hk.zD f i (by omega)]

theorem byteAt_eq (s : List UInt8) (i : Nat) (w : World) (hs : s.length ≤ 1099511627776) (hi : i ≤ 1099511627776) :
    Calls Try.prog 23 #[.string (bs s), .int .i64 i] w fun e w' => e = .returned (.int .u8 ((s.getD i 0).toNat : Int)) ∧ w' = w :=
  (byteAt_calls s i w hs hi).mono fun _ _ ⟨h1, h2⟩ => ⟨h1, h2.symm⟩

theorem kept_drewN (S : Nat → Prop) (w : World) (n : Nat) : Kept S w (w.drewN n) := ⟨rfl, rfl, rfl, Nat.le_refl _, fun _ _ _ => rfl⟩

end Go.Proofs.Ytbljfdjhgleafaa
