/- TicketCodes, for a contract of the examples. -/
import Derived.Test.YtmgamngdmhnffaaGreatDoorTn
namespace Go.Proofs.YtmgamngdmhnffaaGreatDoor
open Go.RowKit

theorem loopF_int : ∀ (n : Nat) (r : Cod.Rd), ∀ x ∈ (Cod.loopF Cod.intF n r).1, Cod.isInt x := by
  intro n
  induction n with
  | zero => intro r x hx; simp [Cod.loopF] at hx
  | succ n ih =>
    intro r x hx
    unfold Cod.loopF at hx
    split at hx
    · simp at hx
    · rcases List.mem_cons.1 hx with rfl | h
      · exact Cod.intF_int r
      · exact ih _ x h
theorem numsF_int (r : Cod.Rd) : ∀ x ∈ (Cod.numsF r).1, Cod.isInt x := by
  intro x hx
  unfold Cod.numsF Cod.listF at hx
  simp only at hx
  split at hx
  · cases hx
  · exact loopF_int _ _ x hx
theorem tdecF_int {s : List UInt8} {l : List Int} (h : tdecF s = some l) : ∀ x ∈ l, isInt x := by
  unfold tdecF at h
  split at h
  · obtain rfl := Option.some.inj h
    exact numsF_int _
  · cases h
theorem TktD.of_list {l : List Int} (h : l.length = 6) : (TktD.of l).list = l := by
  obtain ⟨t0, t1, t2, t3, t4, t5, rfl⟩ := len_six l h
  rfl
theorem TktD.list_of (t : TktD) : TktD.of t.list = t := rfl
theorem TktD.of_ints {l : List Int} (h : l.length = 6) (hi : ∀ x ∈ l, isInt x) : (TktD.of l).ints := by
  obtain ⟨t0, t1, t2, t3, t4, t5, rfl⟩ := len_six l h
  exact ⟨hi t0 (by simp), hi t1 (by simp), hi t2 (by simp), hi t3 (by simp), hi t4 (by simp), hi t5 (by simp)⟩
theorem tkF_back (t : TktD) (ht : t.ints) : tdecF (Cod.numsS t.list) = some t.list ∧ tkF (Cod.numsS t.list) = t := by
  have h := tdecF_back t.list rfl ht.all
  refine ⟨h, ?_⟩
  unfold tkF
  rw [h]
  exact t.list_of

/-- The contract of the examples. -/
def SaneOk : Prop := ∀ w, Env w → Cod.Env w → Calls Tryz.prog 4 #[] w fun e w' => e = .returned (.bool true) ∧ Below w.heap.size w w'

set_option maxRecDepth 100000 in
set_option maxHeartbeats 4000000 in
theorem codes_law (HSane : SaneOk) (t : TktD) (ht : t.ints) (s : List UInt8) (hs : s.length ≤ 9223372036854775807) (w : World) (hE : Env w) (hC : Cod.Env w) :
    Calls Tryz.prog 3 #[t.val, .string (bs s)] w fun e w' => e = .returned (.bool true) ∧ Below w.heap.size w w' := by
  have hb := below_one w (.cells #[.int .i64 t.mark, .int .i64 t.first, .int .i64 t.z, .int .i64 t.a, .int .i64 t.b, .int .i64 t.r] 23)
  have hT := Blk.new w 23 #[.int .i64 t.mark, .int .i64 t.first, .int .i64 t.z, .int .i64 t.a, .int .i64 t.b, .int .i64 t.r]
  have c1 := Lib.hid (HSane _ (hE.next hb) (hC.next hb))
  have hsz : (bs s).size = s.length := bs_size s
  have HSZ := Lib.hid hsz
  unfold TktD.val
  go_enter Tryz.func3, Tryz.ntmps3
  go_wp2_with fail
  refine c1.out.mono ?_
  clear c1
  rintro e w1 ⟨rfl, hb1⟩
  have hB1 := hb.trans (hb1.mono hb.size)
  have hT1 := hT.next hb1
  by_cases h300 : 300 < s.length
  · have hli : (300 : Int) < (s.length : Int) := by omega
    clear h300
    go_wp2
    go_ret
    exact ⟨rfl, hB1⟩
  · have hli : ¬ (300 : Int) < (s.length : Int) := by omega
    have c2 := Lib.hid (Encode_calls t ht w1 (hC.next hB1))
    have y0 := hT1.cell 0
    have y1 := hT1.cell 1
    have y2 := hT1.cell 2
    have y3 := hT1.cell 3
    have y4 := hT1.cell 4
    have y5 := hT1.cell 5
    unfold TktD.val at c2
    go_wp2_with fail
    obtain ⟨hk1, hk2⟩ := tkF_back t ht
    have hnl := nums6_len ht
    obtain ⟨NS, hNS⟩ : ∃ z, z = Cod.numsS t.list := ⟨_, rfl⟩
    rw [← hNS] at c2 hk1 hk2 hnl
    refine c2.out.mono ?_
    clear c2 y0 y1 y2 y3 y4 y5 hsz
    rintro e w2 ⟨rfl, hb2⟩
    have hB2 := hB1.trans (hb2.mono hB1.size)
    have hT2 := hT1.next hb2
    have c3 := Lib.hid (Decode_calls NS (by omega) w2 (hC.next hB2))
    rw [hk1, hk2] at c3
    unfold TktD.val at c3
    clear hk1 hk2 hNS hb1 hT hT1 hb hb2 hB1
    go_wp2_with fail
    refine c3.out.mono ?_
    clear c3
    rintro e w3 ⟨rfl, hb3⟩
    have hB3 := hB2.trans (hb3.mono hB2.size)
    have hT3 := hT2.next hb3
    obtain ⟨U3, hU3⟩ : ∃ z, z = w3.alloc (.cells #[.int .i64 t.mark, .int .i64 t.first, .int .i64 t.z, .int .i64 t.a, .int .i64 t.b, .int .i64 t.r] 23) := ⟨_, rfl⟩
    have hUB : Blk U3 w3.heap.size 23 #[.int .i64 t.mark, .int .i64 t.first, .int .i64 t.z, .int .i64 t.a, .int .i64 t.b, .int .i64 t.r] := by rw [hU3]; exact Blk.new w3 _ _
    have hTU : Blk U3 w.heap.size 23 #[.int .i64 t.mark, .int .i64 t.first, .int .i64 t.z, .int .i64 t.a, .int .i64 t.b, .int .i64 t.r] := by rw [hU3]; exact hT3.next (below_one w3 _)
    have hBU : Below w.heap.size w U3 := by rw [hU3]; exact Below.alloc_ hB3 _
    have c4 := Lib.hid (Decode_calls s (by omega) U3 (hC.next hBU))
    have HIS : Hid (∀ l, tdecF s = some l → Cod.numsS (tkF s).list = s ∧ (tkF s).ints) := by
      show ∀ l, _
      intro l h
      obtain ⟨h1, h2⟩ := tdecF_is h
      have e : tkF s = TktD.of l := by unfold tkF; rw [h]
      rw [e]
      exact ⟨by rw [TktD.of_list h2]; exact h1, TktD.of_ints h2 (tdecF_int h)⟩
    have HNO : Hid (tdecF s = none → tkF s = ⟨0, 0, 0, 0, 0, 0⟩) := by
      show _ → _
      intro h
      unfold tkF
      rw [h]
    obtain ⟨D, hD⟩ : ∃ z, z = tdecF s := ⟨_, rfl⟩
    rw [← hD] at c4 HIS HNO
    obtain ⟨v, hv⟩ : ∃ z, z = tkF s := ⟨_, rfl⟩
    rw [← hv] at c4 HIS HNO
    unfold TktD.val at c4
    have HU := Lib.hid hU3
    rw [hU3] at c4
    clear hD hv hT2 hB2 hb3 hT3 hB3 hU3
    go_wp2_with fail
    refine c4.out.mono ?_
    clear c4
    rw [← HU.out]
    rintro e w4 ⟨rfl, hb4⟩
    have hB4 := hBU.trans (hb4.mono hBU.size)
    have hU4 := hUB.next hb4
    have hT4 := hTU.next hb4
    obtain ⟨W5, hW5⟩ : ∃ z, z = w4.alloc (.cells #[.int .i64 v.mark, .int .i64 v.first, .int .i64 v.z, .int .i64 v.a, .int .i64 v.b, .int .i64 v.r] 23) := ⟨_, rfl⟩
    have hV5 : Blk W5 w4.heap.size 23 #[.int .i64 v.mark, .int .i64 v.first, .int .i64 v.z, .int .i64 v.a, .int .i64 v.b, .int .i64 v.r] := by rw [hW5]; exact Blk.new w4 _ _
    have hU5 : Blk W5 w3.heap.size 23 #[.int .i64 t.mark, .int .i64 t.first, .int .i64 t.z, .int .i64 t.a, .int .i64 t.b, .int .i64 t.r] := by rw [hW5]; exact hU4.next (below_one w4 _)
    have hT5 : Blk W5 w.heap.size 23 #[.int .i64 t.mark, .int .i64 t.first, .int .i64 t.z, .int .i64 t.a, .int .i64 t.b, .int .i64 t.r] := by rw [hW5]; exact hT4.next (below_one w4 _)
    have hB5 : Below w.heap.size w W5 := by rw [hW5]; exact Below.alloc_ hB4 _
    have HW5 := Lib.hid hW5
    have HB5 := Lib.hid hB5
    clear hb4 hB4 hU4 hT4 hBU hUB hTU hW5
    have u0 := hU5.cell 0
    have u1 := hU5.cell 1
    have u2 := hU5.cell 2
    have u3 := hU5.cell 3
    have u4 := hU5.cell 4
    have u5 := hU5.cell 5
    have y0 := hT5.cell 0
    have y1 := hT5.cell 1
    have y2 := hT5.cell 2
    have y3 := hT5.cell 3
    have y4 := hT5.cell 4
    have y5 := hT5.cell 5
    have q0 := hV5.cell 0
    have q1 := hV5.cell 1
    have q2 := hV5.cell 2
    have q3 := hV5.cell 3
    have q4 := hV5.cell 4
    have q5 := hV5.cell 5
    rw [HW5.out] at u0 u1 u2 u3 u4 u5 y0 y1 y2 y3 y4 y5 q0 q1 q2 q3 q4 q5
    have HT5 := Lib.hid hT5
    have HV5 := Lib.hid hV5
    clear hU5 hT5 hV5 hB5
    cases D with
    | none =>
      obtain rfl : v = ⟨0, 0, 0, 0, 0, 0⟩ := HNO.out rfl
      go_wp2
      go_ret
      rw [← HW5.out]
      exact ⟨rfl, HB5.out⟩
    | some l =>
      obtain ⟨h1, h2⟩ := HIS.out l rfl
      have H1 := Lib.hid h1
      have c6 := fun w' => fun (h : Below w.heap.size w w') => Lib.hid (Encode_calls v h2 w' (hC.next h))
      rw [h1] at c6
      unfold TktD.val at c6
      clear h1 h2
      go_wp2_with fail
      rw [← HW5.out]
      refine (c6 W5 HB5.out).out.mono ?_
      clear c6 u0 u1 u2 u3 u4 u5 y0 y1 y2 y3 y4 y5 q0 q1 q2 q3 q4 q5
      rintro e w6 ⟨rfl, hb6⟩
      have hB6 := HB5.out.trans (hb6.mono HB5.out.size)
      clear hb6
      go_wp2
      go_ret
      exact ⟨rfl, hB6⟩
end Go.Proofs.YtmgamngdmhnffaaGreatDoor
