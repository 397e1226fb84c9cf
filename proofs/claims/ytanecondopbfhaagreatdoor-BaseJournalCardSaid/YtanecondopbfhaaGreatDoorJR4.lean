/- The reference's disk in this seat: Rsurv, Rcrash. -/
import Derived.Test.YtanecondopbfhaaGreatDoorJR3
import Derived.StillTailTactics
import Derived.Deep.RegionHeld3
import Derived.Deep.AppendLies
namespace Go.Proofs.YtanecondopbfhaaGreatDoor

section
open Go.RowKit

variable {w w' : World} {b : Nat} {L : RL} {r r' : Rk} {S : Nat → Prop}

theorem bs_cut (l : List UInt8) (i j : Nat) : (bs l).extract i j = bs ((l.drop i).take (j - i)) := by
  unfold bs
  refine ByteArray.ext ?_
  rw [ByteArray.data_extract]
  refine Array.ext' ?_
  rw [Array.toList_extract]

theorem PostR.refl {T : Nat → Prop} (h : IsR w b L r) : PostR T w b L r w := ⟨L, h, Kept.refl _ _, fun _ hi => Or.inl hi⟩

theorem PostR.of_below {T : Nat → Prop} (h : IsR w b L r) (hb : Below w.heap.size w w') : PostR T w b L r w' :=
  ⟨L, h.kept (Below.kept hb) (fun i hi => Nat.not_le.2 (h.foot_lt i hi)), (Below.kept hb).mono (fun _ hi => Or.inr hi), fun _ hi => Or.inl hi⟩

theorem PostR.andThen {T : Nat → Prop} {r2 : Rk} {w1 w2 : World} {L1 : RL} (hk : Kept T w w1) (ho : ∀ i, RFoot b L1 i → RFoot b L i ∨ w.heap.size ≤ i) {T2 : Nat → Prop} (h2 : PostR T2 w1 b L1 r2 w2) (hT : ∀ i, T2 i → T i ∨ w.heap.size ≤ i) : PostR T w b L r2 w2 := by
  obtain ⟨L2, hi, hk2, ho2⟩ := h2
  refine ⟨L2, hi, hk.andThen hk2 hT, fun i hi2 => ?_⟩
  rcases ho2 i hi2 with h3 | h3
  · exact ho i h3
  · exact Or.inr (Nat.le_trans hk.size h3)

set_option maxHeartbeats 4000000 in
set_option maxRecDepth 100000 in
theorem rsurvive_calls (h : IsR w b L r) (hn : r.fs.length ≤ 1000000) (f k : Nat) (hk : k ≤ 262144) (hl2 : (getF r.fs f).last.length ≤ 16777216) :
    Calls Tryz.prog 59 #[.pointer (some ⟨b, 0, none⟩), .agg #[.int .i64 f, .int .i64 k]] w fun e w' => e = .returned (.tuple #[]) ∧ PostR (fun i => i = b) w b L { r with fs := survF r.fs (f, k) } w' := by
  have hba : ∀ o, Below w.heap.size w (w.alloc o) := fun o => (Below.refl _ _).alloc (Nat.le_refl _) _
  have hA : ∀ o, IsR (w.alloc o) b L r := fun o => h.kept ((Kept.refl (fun _ => False) w).alloc o) (fun i _ e => e)
  have cg := fun o => Lib.hid (rget_calls (hA o) hn f)
  obtain ⟨G, hG⟩ : ∃ G, G = getF r.fs f := ⟨_, rfl⟩
  have hs : survF r.fs (f, k) = setF r.fs ⟨G.n, G.now, if 64 * k < G.now.length then putL G.last (64 * k) (sectorL G.now k) else G.last⟩ := by
    unfold survF
    rw [hG, getF_n]
  rw [← hG] at cg hl2
  have HS := Lib.hid hs
  have HA := Lib.hid hA
  have HL := h.foot_lt
  have HFL := Lib.hid HL
  have HW := Lib.hid h
  have HBA := Lib.hid hba
  have hlb := bs_size G.now
  clear h hG hs hA HL hba
  go_enter Tryz.func59, Tryz.ntmps59
  go_wp2_with fail
  refine Calls.mono (cg _).out ?_
  rintro e w1 ⟨rfl, hb1⟩
  obtain ⟨wa, hwa⟩ : ∃ wa, wa = w.alloc (.cells #[.int .i64 (f : Int), .int .i64 (k : Int)] 100) := ⟨_, rfl⟩
  have hza : wa.heap.size = w.heap.size + 1 := by rw [hwa]; simp
  have hxa : wa.heap[w.heap.size]? = some (.cells #[.int .i64 (f : Int), .int .i64 (k : Int)] 100 (0, 0)) := by rw [hwa]; exact (MapKept.heap_alloc w _).1
  have hb0 : Below w.heap.size w wa := by rw [hwa]; exact HBA.out _
  rw [← hwa] at hb1
  have hx1 : w1.heap[w.heap.size]? = some (.cells #[.int .i64 (f : Int), .int .i64 (k : Int)] 100 (0, 0)) := (hb1.block _ (by omega)).trans hxa
  have x0 : w1.cell? ⟨w.heap.size, 0, none⟩ = some (.int .i64 (f : Int)) := by rw [cell_of_row w1 _ _ _ _ _ hx1]; rfl
  have x1 : w1.cell? ⟨w.heap.size, 1, none⟩ = some (.int .i64 (k : Int)) := by rw [cell_of_row w1 _ _ _ _ _ hx1]; rfl
  have hz1 := hb1.size
  have HX1 := Lib.hid hx1
  have HB1 : Hid (Below w.heap.size w w1) := hb0.trans (hb1.mono (by omega))
  have e1 : (64 : Int) * (k : Int) = ((64 * k : Nat) : Int) := by omega
  obtain ⟨p, hp⟩ : ∃ p, p = 64 * k := ⟨_, rfl⟩
  rw [← hp] at e1 HS
  have hp2 : p ≤ 16777216 := by omega
  have hsz : w.heap.size < w1.heap.size := by omega
  have HP := Lib.hid hp
  clear hp hza hz1 hwa hxa hb0 hb1 hx1 cg HBA
  have hW2 : IsR (w1.alloc (.cells #[.int .i64 G.n, .string (bs G.now), .string (bs G.last)] 102)) b L r := (HW.out.kept (Below.kept HB1.out) (fun i hi => Nat.not_le.2 (HFL.out i hi))).kept ((Kept.refl (fun _ => False) w1).alloc _) (fun _ _ e => e)
  have hk2 : Kept (fun i => i = b) w (w1.alloc (.cells #[.int .i64 G.n, .string (bs G.now), .string (bs G.last)] 102)) := ((Below.kept HB1.out).mono (fun _ hi => Or.inr hi)).alloc _
  have HW2 := Lib.hid hW2
  have HK2 := Lib.hid hk2
  clear hW2 hk2
  by_cases hlt : p < G.now.length
  · have d1 : (p : Int) < (G.now.length : Int) := by omega
    obtain ⟨mn, hmn⟩ : ∃ mn, mn = min (p + 64) G.now.length := ⟨_, rfl⟩
    have e2 : min ((p : Int) + 64) (G.now.length : Int) = (mn : Int) := by omega
    have e3 : IntKind.i64.wrap (p : Int) = (p : Int) := IntWalk.i64_in _ (by omega)
    have e4 : IntKind.i64.wrap ((p : Int) + 64) = (p : Int) + 64 := IntWalk.i64_in _ (by omega)
    have hpm : p ≤ mn := by omega
    have hml : mn ≤ G.now.length := by omega
    obtain ⟨Z, hZ⟩ : ∃ Z, Z = sectorL G.now k := ⟨_, rfl⟩
    have hext : (bs G.now).extract p mn = bs Z := by
      have h1 : (G.now.drop p).take (mn - p) = Z := by
        rw [hZ, sectorL, ← HP.out, List.take_eq_take_iff, List.length_drop]
        omega
      rw [← h1]
      exact bs_cut _ _ _
    have hZl : Z.length ≤ 64 := by rw [hZ]; simp [sectorL]; omega
    rw [← hZ, if_pos hlt] at HS
    have HMN := Lib.hid hmn
    have cp := fun w' => Lib.hid (put_calls' G.last Z p w' (by omega) (by omega) (by omega))
    clear hZ hmn hlt
    obtain ⟨c, hc⟩ : ∃ c, c = w1.heap.size := ⟨_, rfl⟩
    obtain ⟨W, hW⟩ : ∃ W, W = w1.alloc (.cells #[.int .i64 G.n, .string (bs G.now), .string (bs G.last)] 102) := ⟨_, rfl⟩
    have hWb : W.heap[c]? = some (.cells #[.int .i64 G.n, .string (bs G.now), .string (bs G.last)] 102 (0, 0)) := by rw [hW, hc]; exact (MapKept.heap_alloc w1 _).1
    have hWx : W.heap[w.heap.size]? = some (.cells #[.int .i64 (f : Int), .int .i64 (k : Int)] 100 (0, 0)) := by rw [hW, Below.heap_alloc _ _ _ hsz]; exact HX1.out
    have y0 : W.cell? ⟨w.heap.size, 0, none⟩ = some (.int .i64 (f : Int)) := by rw [cell_of_row W _ _ _ _ _ hWx]; rfl
    have y1 : W.cell? ⟨w.heap.size, 1, none⟩ = some (.int .i64 (k : Int)) := by rw [cell_of_row W _ _ _ _ _ hWx]; rfl
    have z1 : W.cell? ⟨c, 1, none⟩ = some (.string (bs G.now)) := by rw [cell_of_row W _ _ _ _ _ hWb]; rfl
    have z2 : W.cell? ⟨c, 2, none⟩ = some (.string (bs G.last)) := by rw [cell_of_row W _ _ _ _ _ hWb]; rfl
    have hWz : c < W.heap.size := (Array.getElem?_eq_some_iff.1 hWb).1
    have hcw : w.heap.size < c := by rw [hc]; exact hsz
    rw [← hW] at HW2 HK2
    have HWB := Lib.hid hWb
    clear hWb hWx HX1
    go_wp2_with fail
    rw [← hW, ← hc]
    clear hW hc HB1 hsz x0 x1
    go_still_tail 19, (by kernel_rfl)
    change wpList _ _ _ _ _ W.drew
    have hz0 : W.drew.heap.size = W.heap.size := rfl
    have hdw : Kept (fun i => i = b) w W.drew := HK2.out.drew
    have hID : IsR W.drew b L r := HW2.out.kept ((Kept.refl (fun _ => False) W).drew) (fun _ _ e => e)
    have hDB : W.drew.heap[c]? = some (.cells #[.int .i64 G.n, .string (bs G.now), .string (bs G.last)] 102 (0, 0)) := HWB.out
    generalize W.drew = V at *
    rw [← hz0] at hWz
    have HID := Lib.hid hID
    have HDW := Lib.hid hdw
    have HDB := Lib.hid hDB
    have hVz : w.heap.size ≤ V.heap.size := hdw.size
    clear hz0 hdw hID hDB y0 y1 z1 z2 HW2 HK2 HWB
    go_wp2_with fail
    refine Calls.mono (cp _).out ?_
    rintro e w3 ⟨rfl, hb3⟩
    have hD3 : w3.heap[c]? = some (.cells #[.int .i64 G.n, .string (bs G.now), .string (bs G.last)] 102 (0, 0)) := (hb3.block _ hWz).trans HDB.out
    have z0 : w3.cell? ⟨c, 0, none⟩ = some (.int .i64 G.n) := by rw [cell_of_row w3 _ _ _ _ _ hD3]; rfl
    have z1 : w3.cell? ⟨c, 1, none⟩ = some (.string (bs G.now)) := by rw [cell_of_row w3 _ _ _ _ _ hD3]; rfl
    have z2 : w3.cell? ⟨c, 2, none⟩ = some (.string (bs G.last)) := by rw [cell_of_row w3 _ _ _ _ _ hD3]; rfl
    have zf : w3.frozen? ⟨c, 2, none⟩ = false := by unfold World.frozen?; rw [hD3]; rfl
    obtain ⟨P, hP⟩ : ∃ P, P = putL G.last p Z := ⟨_, rfl⟩
    rw [← hP] at HS ⊢
    have hb4 : Below V.heap.size V w3 := hb3
    have hk4 : Kept (fun i => i = b) w (w3.setCell ⟨c, 2, none⟩ (.string (bs P))) := by
      refine (HDW.out.trans ((Below.kept hb4).mono (T := fun i => i = b) (fun _ hi => Or.inr hi))).setCell (p := ⟨c, 2, none⟩) (Or.inr ?_) _
      show w.heap.size ≤ c
      omega
    have hI4 : IsR (w3.setCell ⟨c, 2, none⟩ (.string (bs P))) b L r := by
      have h1 := HID.out.kept (Below.kept hb4) (fun i hi => Nat.not_le.2 (HID.out.foot_lt i hi))
      refine h1.kept ((Kept.refl (fun i => i = c) w3).setCell (p := ⟨c, 2, none⟩) (Or.inl rfl) _) (fun i hi e => ?_)
      have := HFL.out i hi
      omega
    have cs := Lib.hid (rset_calls hI4 hn ⟨G.n, G.now, P⟩)
    have HK4 := Lib.hid hk4
    clear hb3 hD3 hP hb4 hk4 hI4 cp HDB HDW HID
    go_wp2_with fail
    refine Calls.mono cs.out ?_
    rintro e w5 ⟨rfl, hp5⟩
    have HP5 := Lib.hid hp5
    clear hp5 cs
    go_wp2_with fail
    go_end0
    refine ⟨rfl, ?_⟩
    rw [HS.out]
    exact PostR.andThen HK4.out (fun _ hi => Or.inl hi) HP5.out (fun _ hi => Or.inl hi)
  · have d1 : ¬ (p : Int) < (G.now.length : Int) := by omega
    rw [if_neg hlt] at HS
    have cs := Lib.hid (rset_calls HW2.out hn ⟨G.n, G.now, G.last⟩)
    go_wp2_with fail
    refine Calls.mono cs.out ?_
    rintro e w3 ⟨rfl, hp3⟩
    have HP3 := Lib.hid hp3
    clear hp3
    go_wp2_with fail
    go_end0
    refine ⟨rfl, ?_⟩
    rw [HS.out]
    exact PostR.andThen HK2.out (fun _ hi => Or.inl hi) HP3.out (fun _ hi => Or.inl hi)
end

section
open Go.RowKit

variable {w w' : World} {b : Nat} {L : RL} {r r' : Rk} {S : Nat → Prop} {d : Dk}

theorem bit_one (x : Int) : bits BinOp.and IntKind.i64 x 1 = x % 2 := by
  have h : (BitVec.ofInt 64 x &&& BitVec.ofInt 64 1).toNat = (x % 2).toNat := by
    rw [BitVec.toNat_and, show (BitVec.ofInt 64 1).toNat = 1 from rfl, Nat.and_one_is_mod, BitVec.toNat_ofInt]
    omega
  show IntKind.i64.wrap ((BitVec.ofInt 64 x &&& BitVec.ofInt 64 1).toNat : Int) = _
  rw [h, IntKind.wrap_i64]
  omega

theorem rlives_snoc (keep : List Int) (x : Nat × Nat) : ∀ (l : List (Nat × Nat)) (i : Nat), lives keep i (l ++ [x]) = lives keep i l ++ (if odd keep (i + l.length) then [x] else [])
  | [], i => by simp [lives]
  | y :: l, i => by
    rw [List.cons_append, lives, lives, rlives_snoc keep x l, List.length_cons, show i + 1 + l.length = i + (l.length + 1) by omega]
    split <;> simp

theorem odd_nil (i : Nat) : odd [] i = false := by simp [odd]

/-- The worlds of the first loop. -/
def RCrS (w : World) (b : Nat) (L : RL) (r : Rk) (fs : List Rf) (W : World) : Prop := PostR (fun i => i = b) w b L { r with fs := fs, down := true, armed := 0 } W

def lastF (x : Rf) : Rf := ⟨x.n, x.last, x.last⟩

structure OutS (w : World) (v : Value) (acc : List Rf) (W : World) : Prop where
  own : W.ownsRow w.heap.size 102 3 v acc.length (rfc acc)
  bel : Below w.heap.size w W

theorem OutS.app {y : Rf} {v v' : Value} {acc : List Rf} {W W' : World} (h : OutS w v acc W) (o : Obj) (hown : W'.ownsRow w.heap.size 102 3 v' (acc.length + 1) (rfc acc ++ rfv y)) (hg : (W.alloc o).grownBy W' v.ownBlock) : OutS w v' (acc ++ [y]) W' := by
  have hz := h.bel.size
  refine ⟨?_, (h.bel.alloc (by omega) o).grown hg (by simp; omega) (fun i hi => by have := (h.own.lt i hi).1; omega)⟩
  rw [List.length_append, List.length_singleton, ← rfc_snoc]
  exact hown

set_option maxHeartbeats 4000000 in
set_option maxRecDepth 100000 in
theorem rcrash_calls (h : IsR w b L r) (hr : Rep r d) (v : Value) (keep : List Int) (hv : KeepAt w v keep) (hvb : ∀ i, inBlock v i → i ≠ b) (hlen : keep.length ≤ 1099511627776) :
    Calls Tryz.prog 24 #[.pointer (some ⟨b, 0, none⟩), v] w fun e w' => e = .returned (.tuple #[]) ∧ PostR (fun i => i = b) w b L (r.crash keep) w' := by
  have a3 : w.cell? ⟨b, 3, none⟩ = some (.bool r.down) := h.cells.cell 3 (by omega)
  have hql := hr.ok.q_len
  rw [← hr.q] at hql
  obtain ⟨va, vc, rfl⟩ : ∃ va vc, v = .slice va keep.length vc := by
    rcases hv with ⟨⟨a, c, rfl⟩, rfl⟩ | ⟨g, o, c, rfl, _⟩
    · exact ⟨_, _, rfl⟩
    · exact ⟨_, _, rfl⟩
  unfold Rk.crash
  cases hd : r.down with
  | true =>
    rw [hd] at a3
    simp only [if_true]
    have H := Lib.hid h
    clear h hr hv hvb hd
    go_enter Tryz.func24, Tryz.ntmps24
    go_wp2_with fail
    exact bodyPost_ret (v := .tuple #[]) (by simp [results, Tryz.results24, go_sem]) rfl ⟨rfl, PostR.refl H.out⟩
  | false =>
    rw [hd] at a3
    simp only [Bool.false_eq_true, if_false]
    have f3 := h.cells.frozen 3
    have a4 : w.cell? ⟨b, 4, none⟩ = some (.int .i64 r.armed) := h.cells.cell 4 (by omega)
    have f4 := h.cells.frozen 4
    obtain ⟨a, cap, hqv, hel⟩ := h.queue
    have hp1 : PostR (fun i => i = b) w b L { r with down := true } (w.setCell ⟨b, 3, none⟩ (.bool true)) := h.plain (r' := { r with down := true }) rfl rfl rfl h.lb h.cb 3 _ (fun j _ => by
      by_cases e : j = 3
      · subst e; rfl
      · simp [upd, e, rcell])
    have hI1 : IsR (w.setCell ⟨b, 3, none⟩ (.bool true)) b L { r with down := true } := h.cell rfl rfl rfl h.lb h.cb ((h.cells.set 3 (.bool true)).eq (fun j _ => by
      by_cases e : j = 3
      · subst e; rfl
      · simp [upd, e, rcell])) ((Kept.refl (fun x => x = b) w).setCell (p := ⟨b, 3, none⟩) (Or.inl rfl) _)
    have hI2 : IsR ((w.setCell ⟨b, 3, none⟩ (.bool true)).setCell ⟨b, 4, none⟩ (.int .i64 0)) b L { r with down := true, armed := 0 } := hI1.cell rfl rfl rfl h.lb (Nat.zero_le _) ((hI1.cells.set 4 (.int .i64 0)).eq (fun j _ => by
      by_cases e : j = 4
      · subst e; rfl
      · simp [upd, e, rcell])) ((Kept.refl (fun x => x = b) _).setCell (p := ⟨b, 4, none⟩) (Or.inl rfl) _)
    have hk0 : Kept (fun i => i = b) w ((w.setCell ⟨b, 3, none⟩ (.bool true)).setCell ⟨b, 4, none⟩ (.int .i64 0)) := ((Kept.refl (fun x => x = b) w).setCell (p := ⟨b, 3, none⟩) (Or.inl rfl) _).setCell (p := ⟨b, 4, none⟩) (Or.inl rfl) _
    obtain ⟨q, hqq⟩ : ∃ q, q = r.q := ⟨_, rfl⟩
    have HS0 : Hid (RCrS w b L r ((lives keep 0 (q.take 0)).foldl survF r.fs) ((w.setCell ⟨b, 3, none⟩ (.bool true)).setCell ⟨b, 4, none⟩ (.int .i64 0))) := ⟨L, hI2, hk0, fun _ hi => Or.inl hi⟩
    have HQ := Lib.hid hqq
    rw [← hqq] at hql
    have HV := Lib.hid hv
    have HVB := Lib.hid hvb
    have HR := Lib.hid hr
    clear h hr hv hvb hd hp1 hI1 hI2 hk0 hqq hqv hel a cap
    have hcount : ∀ W, RCrS w b L r ((lives keep 0 (q.take 0)).foldl survF r.fs) W → True := fun _ _ => trivial
    clear hcount
    go_enter Tryz.func24, Tryz.ntmps24
    go_wp2_with fail
    go_loopw [4] (fun i wr => ∃ k : Nat, k ≤ q.length ∧ i = .int .i64 k ∧ Hid (RCrS w b L r ((lives keep 0 (q.take k)).foldl survF r.fs) wr)) (fun i _ => 1000000001 - (intOf i).toNat)
    case atStart => exact ⟨0, by omega, rfl, HS0⟩
    case round =>
      clear HS0 a3 a4 f3 f4
      obtain ⟨k, hk, rfl, hs⟩ := hrel
      obtain ⟨L1, hi1, hk1, ho1⟩ := hs.out
      obtain ⟨a, cap, hqv, hel⟩ := hi1.queue
      have c0 : wr.cell? ⟨b, 1, none⟩ = some (.slice a q.length cap) := by rw [hi1.cells.cell 1 (by omega), HQ.out]; exact congrArg some hqv
      have hel2 : Hid (∀ k x, q[k]? = some x → ∃ g, a = some ⟨g, 0, none⟩ ∧ g < wr.heap.size ∧ g ≠ b ∧ wr.cell? ⟨g, k * 2, none⟩ = some (.int .i64 (x.1 : Int)) ∧ wr.cell? ⟨g, k * 2 + 1, none⟩ = some (.int .i64 (x.2 : Int))) := by
        rw [HQ.out]
        exact hel
      have hrun : k < q.length → 0 < keep.length → True := fun _ _ => trivial
      clear hrun
      by_cases hgo : k < q.length ∧ 0 < keep.length
      · obtain ⟨hlt2, hkl⟩ := hgo
        obtain ⟨y, hy⟩ : ∃ y, q[k]? = some y := ⟨_, List.getElem?_eq_getElem hlt2⟩
        obtain ⟨g, rfl, hgw, hgb, hy0, hy1⟩ := hel2.out k y hy
        have HRG := Lib.hid (range_sq hy0 hy1)
        have htake : q.take (k + 1) = q.take k ++ [y] := by rw [List.take_add_one, hy]; rfl
        have hsn := rlives_snoc keep y (q.take k) 0
        rw [Nat.zero_add, List.length_take, Nat.min_eq_left hk, ← htake] at hsn
        have hodd : odd keep k = decide (keep.getD (k % keep.length) 0 % 2 ≠ 0) := by
          have hne : keep ≠ [] := fun e => by rw [e] at hkl; simp at hkl
          simp [odd, hne]
        have hml : k % keep.length < keep.length := Nat.mod_lt _ hkl
        obtain ⟨m, hm⟩ : ∃ m, m = k % keep.length := ⟨_, rfl⟩
        obtain ⟨x, hx⟩ : ∃ x, x = keep.getD m 0 := ⟨_, rfl⟩
        rw [← hm] at hml hodd
        rw [← hx] at hodd
        have hkx : keep[m]? = some x := by rw [hx, List.getD_eq_getElem?_getD, List.getElem?_eq_getElem hml]; rfl
        obtain ⟨vg, vo, rfl, hcx⟩ : ∃ vg vo, va = some ⟨vg, vo, none⟩ ∧ wr.cell? ⟨vg, vo + m, none⟩ = some (.int .i64 x) := by
          have hv2 := HV.out.kept hk1 (fun i hi e => HVB.out i hi e)
          rcases hv2 with ⟨_, e⟩ | ⟨vg, vo, c, e, _, hc⟩
          · rw [e] at hkl; simp at hkl
          · simp only [Value.slice.injEq] at e
            exact ⟨vg, vo, e.1, hc m x hkx⟩
        have hbit := bit_one x
        have e1 : (k : Int) % (keep.length : Int) = (m : Int) := by omega
        have d2 : (k : Int) < (q.length : Int) := by omega
        have d3 : (0 : Int) < (keep.length : Int) := by omega
        have hhalf : Half ((lives keep 0 (q.take k)).foldl survF r.fs) ((lives keep 0 (q.take k)).foldl Dk.live d) := Half.lives _ HR.out.half (fun z hz => HR.out.ok.pq z (by
          have h1 := lives_sub keep _ 0 z hz
          rw [← HR.out.q, ← HQ.out]
          exact List.mem_of_mem_take h1))
        have hyq := HR.out.ok.pq y (by rw [← HR.out.q, ← HQ.out]; exact List.mem_of_getElem? hy)
        have hmx := HR.out.ok.mx y.1
        have hl2 : (getF ((lives keep 0 (q.take k)).foldl survF r.fs) y.1).last.length ≤ 16777216 := by
          rw [hhalf.last y.1 hyq.1, Img.text_length]
          exact Nat.le_trans (hhalf.le _) (hhalf.mx _)
        have cs := Lib.hid (rsurvive_calls hi1 (by have := hhalf.nums.len; show ((lives keep 0 (q.take k)).foldl survF r.fs).length ≤ _; omega) y.1 y.2 (by omega) hl2)
        have HSN := Lib.hid hsn
        have HODD := Lib.hid hodd
        have HK1 := Lib.hid hk1
        have HO1 := Lib.hid ho1
        obtain ⟨fs, hfs⟩ : ∃ fs, fs = (lives keep 0 (q.take k)).foldl survF r.fs := ⟨_, rfl⟩
        have HFS := Lib.hid hfs
        clear hi1 hk1 ho1 hqv hel hy hy0 hy1 htake hsn hodd hhalf hyq hmx hl2 hkx hm hx hfs
        by_cases hpar : x % 2 = 1
        · have d4 : (x % 2 == 1) = true := by simpa using hpar
          have hod : odd keep k = true := by rw [HODD.out, decide_eq_true_iff]; omega
          have HOD := Lib.hid hod
          clear hod
          go_wp2_with (refine wpList_load_mid rfl 100 _ rfl g (k * 2) rfl [.int .i64 (y.1 : Int), .int .i64 (y.2 : Int)] _ HRG.out Tryz.underlying100 rfl (by kernel_rfl) ?_)
          refine Calls.mono cs.out ?_
          rintro e w3 ⟨rfl, hp3⟩
          have HN : Hid (RCrS w b L r ((lives keep 0 (q.take (k + 1))).foldl survF r.fs) w3) := by
            rw [HSN.out, if_pos HOD.out, List.foldl_append]
            exact PostR.andThen HK1.out HO1.out hp3 (fun _ hi => Or.inl hi)
          clear hp3 cs
          go_wp2_with fail
          go_roundw
          case rel => exact ⟨k + 1, by omega, by go_num, HN⟩
          case measure => simp [intOf]; omega
        · have d4 : (x % 2 == 1) = false := by simpa using hpar
          have hod : odd keep k = false := by rw [HODD.out, decide_eq_false_iff_not]; omega
          have HN : Hid (RCrS w b L r ((lives keep 0 (q.take (k + 1))).foldl survF r.fs) wr) := by
            rw [HSN.out, if_neg (by rw [hod]; simp), List.append_nil]
            exact hs.out
          clear hod
          go_wp2_with fail
          go_roundw
          case rel => exact ⟨k + 1, by omega, by go_num, HN⟩
          case measure => simp [intOf]; omega
      · -- the loop ends
        have hall : (lives keep 0 (q.take k)).foldl survF r.fs = (lives keep 0 r.q).foldl survF r.fs := by
          by_cases hkq : k < q.length
          · have hkn : keep = [] := List.eq_nil_of_length_eq_zero (by omega)
            rw [hkn, lives_none, lives_none]
          · rw [List.take_of_length_le (by omega), HQ.out]
        have hhalf : Half ((lives keep 0 r.q).foldl survF r.fs) ((lives keep 0 r.q).foldl Dk.live d) := Half.lives _ HR.out.half (fun z hz => HR.out.ok.pq z (by
          rw [← HR.out.q]
          exact lives_sub keep _ 0 z hz))
        rw [hall] at hi1
        obtain ⟨fs, hfs⟩ : ∃ fs, fs = (lives keep 0 r.q).foldl survF r.fs := ⟨_, rfl⟩
        rw [← hfs] at hi1 hhalf
        have hfl := hhalf.nums.len
        obtain ⟨a2, cap2, hfv, hef⟩ := hi1.file
        have hblt := hi1.lt
        have f0 : wr.cell? ⟨b, 0, none⟩ = some (.slice a2 fs.length cap2) := by rw [hi1.cells.cell 0 (by omega)]; exact congrArg some hfv
        have hend : (k < q.length ∧ keep.length = 0) ∨ ¬ k < q.length := by omega
        have HEF : Hid (∀ k x, fs[k]? = some x → ∃ g, a2 = some ⟨g, 0, none⟩ ∧ g < wr.heap.size ∧ g ≠ b ∧ ∀ j v, (rfv x)[j]? = some v → wr.cell? ⟨g, k * 3 + j, none⟩ = some v) := hef
        have HI1 := Lib.hid hi1
        have HK1 := Lib.hid hk1
        have HO1 := Lib.hid ho1
        have HFS := Lib.hid hfs
        have HO0 : Hid (OutS wr (.slice none 0 0) [] wr) := ⟨World.ownsRow_nil _ _ _ _, Below.refl _ _⟩
        obtain ⟨i0, hi, hz0, hz1, hz2⟩ := info_parts info_file
        clear hs hi1 hk1 ho1 hqv hel hgo hall hhalf hfv hef hfs
        have hgd : (decide ((k : Int) < (q.length : Int)) = true ∧ decide (k < q.length) = true ∧ decide (0 < keep.length) = false) ∨ (decide ((k : Int) < (q.length : Int)) = false ∧ decide (k < q.length) = false ∧ True) := by
          rcases hend with ⟨h1, h2⟩ | h1
          · exact Or.inl ⟨decide_eq_true (by omega), decide_eq_true (by omega), decide_eq_false (by omega)⟩
          · exact Or.inr ⟨decide_eq_false (by omega), decide_eq_false (by omega), trivial⟩
        clear hend
        rcases hgd with ⟨g1, g2, g3⟩ | ⟨g1, g2, g3⟩
        all_goals
          go_wp2_with fail
          obtain ⟨wo, ewo⟩ : ∃ wo : World, wo = wr := ⟨_, rfl⟩
          subst ewo
          go_loopw [5, 6] (fun v i wr2 => ∃ j : Nat, j ≤ fs.length ∧ i = .int .i64 j ∧ Hid (OutS wo v ((fs.take j).map lastF) wr2)) (fun _ i _ => 17 - (intOf i).toNat)
          case atStart => exact ⟨0, by omega, rfl, HO0⟩
          case round =>
            obtain ⟨j, hj, rfl, ho⟩ := hrel
            have hbel := ho.out.bel
            have hzz := hbel.size
            have f0r : wr.cell? ⟨b, 0, none⟩ = some (.slice a2 fs.length cap2) := (hbel.cell (p := ⟨b, 0, none⟩) hblt).trans f0
            by_cases hjl : j < fs.length
            · obtain ⟨y, hy⟩ : ∃ y, fs[j]? = some y := ⟨_, List.getElem?_eq_getElem hjl⟩
              obtain ⟨g, rfl, hgw, hgb, hc⟩ := HEF.out j y hy
              have hcr : ∀ i v, (rfv y)[i]? = some v → wr.cell? ⟨g, j * 3 + i, none⟩ = some v := fun i v hv => (hbel.cell (p := ⟨g, j * 3 + i, none⟩) hgw).trans (hc i v hv)
              have y0 := hcr 0 _ rfl
              have y2 := hcr 2 _ rfl
              simp only [Nat.add_zero] at y0
              have hmp : (fs.take (j + 1)).map lastF = (fs.take j).map lastF ++ [lastF y] := by rw [List.take_add_one, hy]; simp
              have HMP := Lib.hid hmp
              have d5 : (j : Int) < (fs.length : Int) := by omega
              have hal : ((fs.take j).map lastF).length = j := by rw [List.length_map, List.length_take]; omega
              obtain ⟨acc, hacc⟩ : ∃ acc, acc = (fs.take j).map lastF := ⟨_, rfl⟩
              rw [← hacc] at ho hal HMP
              have hal2 : acc.length ≤ 16 := by omega
              clear hy hc hcr hmp hacc hal f0 hbel
              go_wp2_with fail
              have hown := ho.out.own
              have ag : u5.ownBlock ≠ some g := fun e => by have := (hown.lt g e).1; omega
              have ab : u5.ownBlock ≠ some b := fun e => by have := (hown.lt b e).1; omega
              go_region_held3 (fun w' => w'.cell? ⟨b, 0, none⟩ = some (.slice (some ⟨g, 0, none⟩) fs.length cap2) ∧ w'.cell? ⟨g, j * 3, none⟩ = some (.int .i64 y.n) ∧ w'.cell? ⟨g, j * 3 + 2, none⟩ = some (.string (bs y.last)))
                (first
                  | go_keep
                  | (go_split_ands
                     refine ⟨?_, ?_, ?_⟩
                     · (rw [hgrow.cell_far _ (by simp; omega) (Ne.symm ab)]; assumption)
                     · (rw [hgrow.cell_far _ (by simp; omega) (Ne.symm ag)]; assumption)
                     · (rw [hgrow.cell_far _ (by simp; omega) (Ne.symm ag)]; assumption)))
                ((refine step_append_lies _ (by rfl) _ _ _ (by rfl) wo.heap.size 102 i0 _ 3 40 Tryz.underlying78 hi hz0 hz1 hz2 rfl (by omega) u5 acc.length (rfc acc) (by rfl) ((hown.alloc _).drew)
                    ⟨wr.heap.size, 0, none⟩ 1 1 [.int .i64 y.n, .string (bs y.last), .string (bs y.last)] (by rfl) (by rfl) (World.news_of_block (cs := #[.int .i64 y.n, .string (bs y.last), .string (bs y.last)]) (t := 102) (fr := (0, 0)) (heap_alloc_new wr _)) (by simp [Value.oneCell'])
                    (by omega) (by unfold maxLen; omega) (by omega) (by simp; omega) (wr.heap.size + 1) (by simp) ?_; intro gg cap w2 hown2 hgrow hat hlt))
              have HF : Hid (OutS wo (.slice (some ⟨gg, 0, none⟩) (acc.length + 1) cap) (acc ++ [lastF y]) w2) := ho.out.app (.cells #[.int .i64 y.n, .string (bs y.last), .string (bs y.last)] 102) hown2 ⟨hgrow.os, hgrow.tape, hgrow.output, hgrow.size, hgrow.block⟩
              clear hown2 hgrow hown ho ag ab hat hlt
              go_wp2_with fail
              go_roundw
              case rel => exact ⟨j + 1, by omega, by go_num, by rw [HMP.out]; exact HF⟩
              case measure => simp [intOf]; omega
            · obtain rfl : j = fs.length := by omega
              rw [List.take_length] at ho
              obtain ⟨acc, hacc⟩ : ∃ acc, acc = fs.map lastF := ⟨_, rfl⟩
              rw [← hacc] at ho
              have HACC := Lib.hid hacc
              have hown := ho.out.own
              obtain ⟨a5, cap5, rfl⟩ : ∃ a5 cap5, u5 = .slice a5 acc.length cap5 := by
                obtain ⟨_, ⟨h0, h00⟩ | ⟨g2, cap2, cur, h1, _⟩⟩ := hown
                · exact ⟨none, 0, by rw [h0, h00]⟩
                · exact ⟨_, cap2, h1⟩
              have hc2 := HI1.out.cells.kept (Below.kept hbel) (by omega)
              have fb := hc2.frozen 0
              have c1 := hc2.cell 1 (by omega)
              have f1 := hc2.frozen 1
              have HC2 := Lib.hid hc2
              have HB2 := Lib.hid hbel
              clear hacc hbel hown hc2 f0
              go_wp2_with fail
              go_end0
              obtain ⟨v', hv'⟩ : ∃ v', v' = Value.slice a5 acc.length cap5 := ⟨_, rfl⟩
              rw [← hv'] at ho ⊢
              have hkb := (Below.kept HB2.out).mono (T := fun i => i = b) (fun i hi => Or.inr hi)
              have hks := ((Kept.refl (fun i => i = b) wr).setCell (p := ⟨b, 0, none⟩) (Or.inl rfl) v').setCell (p := ⟨b, 1, none⟩) (Or.inl rfl) (.slice none 0 0)
              have hk2 := hkb.trans hks
              have hcl : isCells ((wr.setCell ⟨b, 0, none⟩ v').setCell ⟨b, 1, none⟩ (.slice none 0 0)) b 81 6 (rcell { L1 with fv := v', qv := .slice none 0 0 } { r with fs := fs.map lastF, q := [], down := true, armed := 0 }) := by
                refine ((HC2.out.set 0 v').set 1 (.slice none 0 0)).eq ?_
                intro i _
                by_cases e : i = 0
                · subst e; rfl
                · by_cases e2 : i = 1
                  · subst e2; rfl
                  · simp [upd, e, e2, rcell]
              have hf2 : ((wr.setCell ⟨b, 0, none⟩ v').setCell ⟨b, 1, none⟩ (.slice none 0 0)).ownsRow 0 102 3 v' (fs.map lastF).length (rfc (fs.map lastF)) := by
                rw [← HACC.out]
                have h1 := ho.out.own
                refine owns_kept (owns_zero h1) hks (fun i hi e => ?_)
                have := (h1.lt i hi).1
                omega
              rw [show (fun x : Rf => (⟨x.n, x.last, x.last⟩ : Rf)) = lastF from rfl, ← HFS.out]
              refine ⟨rfl, { L1 with fv := v', qv := .slice none 0 0 }, ⟨hcl, hf2, World.ownsRow_nil _ _ _ _, ?_, HI1.out.lb, Nat.zero_le _⟩, HK1.out.andThen hk2 (fun i e => Or.inl e), ?_⟩
              · exact owns_kept HI1.out.ks hk2 (fun i hi e => owns_ne_cells HI1.out.ks HI1.out.cells int_ne_Disk (e ▸ hi))
              · rintro i (hi | hi | hi | hi)
                · exact Or.inl (Or.inl hi)
                · have := (ho.out.own.lt i hi).1
                  have := HK1.out.size
                  exact Or.inr (by omega)
                · simp [Value.ownBlock] at hi
                · exact HO1.out i (Or.inr (Or.inr (Or.inr hi)))
end

end Go.Proofs.YtanecondopbfhaaGreatDoor
