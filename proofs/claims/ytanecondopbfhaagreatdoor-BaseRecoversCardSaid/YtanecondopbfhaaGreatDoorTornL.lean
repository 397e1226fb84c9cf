/- BaseTorn: the walk. -/
import Derived.Test.YtanecondopbfhaaGreatDoorBytes
import Derived.Deep.RegionHeld3
namespace Go.Proofs.YtanecondopbfhaaGreatDoor
open Go.RowKit
open Cod (Env)

theorem texts_kept {v : Value} {xs : List (List UInt8)} {w w' : World} (h : IsTexts v xs w) {T : Nat → Prop} (hk : Kept T w w') (hT : ∀ i, i < w.heap.size → ¬ T i) : IsTexts v xs w' := by
  rcases h with h | ⟨bk, off, cap, h, hb, hc⟩
  · exact .inl h
  · refine .inr ⟨bk, off, cap, h, Nat.lt_of_lt_of_le hb hk.size, fun i x hx => ?_⟩
    rw [← hc i x hx]
    exact World.cell?_of_block (hk.block bk hb (hT bk hb))

theorem Jn.same {P T : Nat → Prop} {w w' : World} {b jb : Nat} {d : Dk} {j : Jr} (h : Jn P w b d jb j) (hk : Kept T w w') (hT : ∀ i, T i → P i) : Jn P w' b d jb j :=
  (h.grow hk hT).weak (fun _ hi => Or.inl hi)

theorem keep_shape {w : World} {v : Value} {xs : List Int} (h : KeepAt w v xs) : ∃ a c, v = .slice a xs.length c := by
  rcases h with ⟨⟨a, c, h1⟩, h2⟩ | ⟨g, off, cap, h, _⟩
  · exact ⟨a, c, by rw [h1, h2]; rfl⟩
  · exact ⟨_, _, h⟩

theorem keep_at {w : World} {a : Option Addr} {n cap : Nat} {xs : List Int} (h : KeepAt w (.slice a n cap) xs) (k : Nat) (hk : k < xs.length) :
    ∃ bk off, a = some ⟨bk, off, none⟩ ∧ bk < w.heap.size ∧ ∀ i x, xs[i]? = some x → w.cell? ⟨bk, off + i, none⟩ = some (.int .i64 x) := by
  rcases h with ⟨h1, h2⟩ | ⟨bk, off, cap, h, hb, hc⟩
  · rw [h2] at hk; simp at hk
  · simp only [Value.slice.injEq] at h
    exact ⟨bk, off, h.1, hb, hc⟩

/-- How long the file was behind each append. -/
def endsV (l : List (List UInt8)) (k : Nat) : List Value := (List.range k).map fun i => .int .i64 ((forms (l.take (i + 1))).length : Int)

theorem endsV_succ (l : List (List UInt8)) (k : Nat) : endsV l (k + 1) = endsV l k ++ [.int .i64 ((forms (l.take (k + 1))).length : Int)] := by
  unfold endsV
  rw [List.range_succ, List.map_append]; rfl

/-- What holds ahead of each round of the first loop. -/
structure T1 (N : Nat) (w : World) (b jb : Nat) (l : List (List UInt8)) (k : Nat) (v : Value) (W : World) : Prop where
  ex : ∃ P d, (∀ i, i < N → P i) ∧ (∀ i, some i = v.ownBlock → P i) ∧ Jn P W b d jb ⟨0, l.take k, false⟩ ∧ d.Calm ∧ d.F.text 0 = forms (l.take k) ∧ d.F.text 1 = [] ∧ d.R ≤ 20100 * k
  row : W.ownsRow N 3 1 v k (endsV l k)
  kept : Kept (fun i => ¬ i < N) w W

theorem ends_at {N : Nat} {W : World} {ra : Option Addr} {rn rc : Nat} {l : List (List UInt8)} (h : W.ownsRow N 3 1 (.slice ra rn rc) l.length (endsV l l.length)) (k : Nat) (hk : k < l.length) :
    ∃ eg, ra = some ⟨eg, 0, none⟩ ∧ W.cell? ⟨eg, k, none⟩ = some (.int .i64 ((forms (l.take (k + 1))).length : Int)) := by
  obtain ⟨hl, ⟨hv, h0⟩ | ⟨g, cap, cur, hv, hgB, hh, hc, hm, hs, ht⟩⟩ := h
  · omega
  · simp only [Value.slice.injEq] at hv
    refine ⟨g, hv.1, ?_⟩
    rw [Lib.cell_of_heap hh]
    have h1 : (cur.toList.take (l.length * 1))[k]? = some (Value.int .i64 ((forms (l.take (k + 1))).length : Int)) := by
      rw [ht]
      unfold endsV
      rw [List.getElem?_map, List.getElem?_range hk]
      rfl
    rw [List.getElem?_take_of_lt (by omega)] at h1
    simpa using h1

theorem calm_write1 {d : Dk} (hc : d.Calm) {f : Nat} {x : List UInt8} (hf : f < 16) (ht : d.F.text f = []) (hl : x.length ≤ 16777216) :
    ∃ d', d.write (f : Int) 0 x = (d', 0) ∧ d'.Calm ∧ d'.F.text f = x ∧ d'.R ≤ d.R + x.length + 2 := by
  have hz : d.F.sz f = 0 := by rw [← Img.text_length, ht]; rfl
  by_cases hx : x = []
  · subst hx
    refine ⟨d, ?_, hc, ht, by omega⟩
    unfold Dk.write
    rw [if_pos (calm_chk hc.down hf)]
    have : d.put (f : Int).toNat 0 [] = (d, 0) := by
      unfold Dk.put
      rw [if_neg (by omega), if_neg (by simp), if_pos rfl]
    rw [this]
    exact calm_fin hc.calls 0
  · have h1 := calm_write hc (f := f) (a := 0) hf hx (by omega)
    refine ⟨_, h1, ⟨hc.down, hc.lost, hc.calls⟩, ?_, Nat.le_refl _⟩
    have := text_put_end (m := d.F) (f := f) (t := x)
    rw [hz, ht] at this
    exact this

/-- Within the last regions. -/
def AInv (N : Nat) (w : World) (Q : Nat → Prop) (b : Nat) (d : Dk) (kb : Nat) (j : Jr) (W : World) : Prop := Jn Q W b d kb j ∧ Kept (fun i => ¬ i < N) w W

theorem a_all {N : Nat} {w W : World} {Q : Nat → Prop} {b kb : Nat} {d : Dk} {j : Jr} (h : AInv N w Q b d kb j W) :
    Calls Tryz.prog 28 #[.pointer (some ⟨kb, 0, none⟩)] W fun r w' => ∃ v, r = .returned v ∧ IsTexts v j.L w' ∧ AInv N w Q b d kb j w' := by
  refine (n_all h.1).mono ?_
  rintro r w' ⟨v, rfl, h1, h2⟩
  have hk := kept_below h2 rfl
  exact ⟨v, rfl, row_texts h1, h.1.same hk (fun _ h => h.elim), h.2.trans (hk.mono (fun _ h => h.elim))⟩

theorem a_same {N : Nat} {w W : World} {Q : Nat → Prop} {b kb : Nat} {d : Dk} {j : Jr} {u v : Value} {xs : List (List UInt8)} (h : AInv N w Q b d kb j W) (hu : IsTexts u xs W) (hv : IsTexts v xs W) (hn : xs.length ≤ 4294967297) :
    Calls Tryz.prog 27 #[u, v] W fun r w' => r = .returned (.bool true) ∧ AInv N w Q b d kb j w' := by
  refine (tsame_eq u v xs W hu hv hn).mono ?_
  rintro r w' ⟨rfl, n, rfl⟩
  exact ⟨rfl, h.1.same ((Kept.refl (fun _ => False) W).drewN n) (fun _ h => h.elim), h.2.drewN n⟩

theorem texts_take {w : World} {a : Option Addr} {n c k : Nat} {xs : List (List UInt8)} (h : IsTexts (.slice a n c) xs w) (hk : k ≤ xs.length) : IsTexts (.slice a k c) (xs.take k) w := by
  have hl : (xs.take k).length = k := by rw [List.length_take]; omega
  rcases h with ⟨⟨a', c', h1⟩, h2⟩ | ⟨bk, off, cap, h, hb, hc⟩
  · rw [h2] at hk
    have hk0 : k = 0 := by simpa using hk
    subst hk0
    exact .inl ⟨⟨a, c, rfl⟩, by simp⟩
  · simp only [Value.slice.injEq] at h
    refine .inr ⟨bk, off, c, by rw [hl, h.1], hb, fun i x hx => hc i x ?_⟩
    have hi : i < (xs.take k).length := (List.getElem?_eq_some_iff.1 hx).1
    rw [List.getElem?_take_of_lt (by omega)] at hx
    exact hx

def nx : List UInt8 := [110, 101, 120, 116]

theorem long_append (d : Dk) (f : Nat) (L : List (List UInt8)) {Z : List UInt8} (hZ : Z.length = 20001) : d.jappend ⟨f, L, false⟩ Z = ((d, 3), ⟨f, L, false⟩) := by
  unfold Dk.jappend
  simp only
  rw [if_neg (by simp), if_pos (by omega)]

theorem g_len {w : World} {Q : Nat → Prop} {b kb : Nat} {d : Dk} {l : List (List UInt8)} {k : Nat} (h : Jn Q w b d kb ⟨1, l.take k ++ [nx], false⟩) (hk : k ≤ l.length) :
    Calls Tryz.prog 37 #[.pointer (some ⟨kb, 0, none⟩)] w fun r w' => r = .returned (.int .i64 ((k : Int) + 1)) ∧ w = w' := by
  have := n_len h
  rw [show (((⟨1, l.take k ++ [nx], false⟩ : Jr).L.length : Nat) : Int) = (k : Int) + 1 by simp; omega] at this
  exact this

theorem g_at {w : World} {Q : Nat → Prop} {b kb : Nat} {d : Dk} {l : List (List UInt8)} {k : Nat} (h : Jn Q w b d kb ⟨1, l.take k ++ [nx], false⟩) (hk : k ≤ l.length) :
    Calls Tryz.prog 38 #[.pointer (some ⟨kb, 0, none⟩), .int .i64 (k : Int)] w fun r w' => r = .returned (.string { data := #[110, 101, 120, 116] }) ∧ w = w' := by
  have := n_get h (k : Int)
  rw [if_neg (by omega), show (⟨1, l.take k ++ [nx], false⟩ : Jr).L.getD (k : Int).toNat [] = nx by
    show (l.take k ++ [nx]).getD (k : Int).toNat [] = nx
    rw [Int.toNat_natCast, List.getD_eq_getElem?_getD, List.getElem?_append_right (by rw [List.length_take]; omega), List.length_take, Nat.min_eq_left hk, Nat.sub_self]
    rfl] at this
  exact this

theorem g_past {w : World} {Q : Nat → Prop} {b kb : Nat} {d : Dk} {l : List (List UInt8)} {k : Nat} (h : Jn Q w b d kb ⟨1, l.take k ++ [nx], false⟩) (hk : k ≤ l.length) :
    Calls Tryz.prog 38 #[.pointer (some ⟨kb, 0, none⟩), .int .i64 ((k : Int) + 1)] w fun r w' => r = .returned (.string { data := #[] }) ∧ w = w' := by
  have := n_get h ((k : Int) + 1)
  rw [if_neg (by omega), show (⟨1, l.take k ++ [nx], false⟩ : Jr).L.getD ((k : Int) + 1).toNat [] = [] by
    show (l.take k ++ [nx]).getD ((k : Int) + 1).toNat [] = []
    rw [List.getD_eq_getElem?_getD, List.getElem?_eq_none (by simp; omega)]
    rfl] at this
  exact this

theorem g_neg {w : World} {Q : Nat → Prop} {b kb : Nat} {d : Dk} {j : Jr} (h : Jn Q w b d kb j) :
    Calls Tryz.prog 38 #[.pointer (some ⟨kb, 0, none⟩), .int .i64 (-1)] w fun r w' => r = .returned (.string { data := #[] }) ∧ w = w' := by
  have := n_get h (-1)
  rw [if_pos (by omega)] at this
  exact this

theorem ends_len {N : Nat} {W : World} {ra : Option Addr} {rn rc : Nat} {l : List (List UInt8)} (h : W.ownsRow N 3 1 (.slice ra rn rc) l.length (endsV l l.length)) : rn = l.length := by
  obtain ⟨hl, ⟨hv, h0⟩ | ⟨g, cap, cur, hv, _⟩⟩ := h
  · simp only [Value.slice.injEq] at hv; omega
  · simp only [Value.slice.injEq] at hv; exact hv.2.1

/-- What holds ahead of each round of the second loop. -/
structure T2 (N : Nat) (w : World) (P : Nat → Prop) (b jb : Nat) (d : Dk) (l : List (List UInt8)) (re : Value) (g cap : Nat) (s : List UInt8) (zs : List Int) (k : Nat) (W : World) : Prop where
  jn : Jn P W b d jb ⟨0, l, false⟩
  row : W.ownsRow N 3 1 re l.length (endsV l l.length)
  by_ : BRow W 0 (.slice (some ⟨g, 0, none⟩) s.length cap) (zapTo s zs k)
  kept : Kept (fun i => ¬ i < N) w W

theorem T2.step {N : Nat} {w : World} {P : Nat → Prop} {b jb : Nat} {d : Dk} {l : List (List UInt8)} {re : Value} {g cap : Nat} {s : List UInt8} {zs : List Int} {k : Nat} {W : World} (h : T2 N w P b jb d l re g cap s zs k W) (hg : P g) (hgN : N ≤ g) (hre : some g ≠ re.ownBlock) (ho : odd zs (k / 64) = true) :
    T2 N w P b jb d l re g cap s zs (k + 1) (W.setCell ⟨g, k, none⟩ (.int .u8 0)) := by
  have hk : Kept (fun i => i = g) W (W.setCell ⟨g, k, none⟩ (.int .u8 0)) := (Kept.refl (fun i => i = g) W).setCell (p := ⟨g, k, none⟩) (Or.inl rfl) _
  refine ⟨h.jn.same hk (fun i hi => hi ▸ hg), row_keeps h.row (fun i hi hl => hk.block i hl (fun e => hre (by rw [← e]; exact hi))), ?_, h.kept.trans (hk.mono (fun i hi => Or.inl (by rw [hi]; omega)))⟩
  have h1 := h.by_
  have hl := zapTo_length s zs k
  rw [← hl] at h1
  have h2 := h1.set k 0
  rw [hl, ← zapTo_hit s zs k ho] at h2
  exact h2

set_option maxHeartbeats 16000000 in
set_option maxRecDepth 100000 in
theorem torn_any {v z : Value} {l : List (List UInt8)} {zs : List Int} {w : World} (hv : IsTexts v l w) (hcap : ∀ a n c, v = .slice a n c → n ≤ c) (hl : l.length ≤ 9223372036854775807) (hs : ∀ u ∈ l, u.length ≤ 9223372036854775807) (hz : KeepAt w z zs) (hzl : zs.length ≤ 9223372036854775807) (size : Int) (hsz : -9223372036854775808 ≤ size ∧ size ≤ 9223372036854775807) (hE : Env w) :
    Calls Tryz.prog 5 #[v, .int .i64 size, z] w fun e w' => e = .returned (.bool true) ∧ Below w.heap.size w w' := by
  obtain ⟨va, vc, rfl⟩ := hv.len
  have hvc : l.length ≤ vc := hcap _ _ _ rfl
  clear hcap
  obtain ⟨za, zc, rfl⟩ := keep_shape hz
  obtain ⟨i0, hi, hz0, hz1, hz2⟩ := info_of info3
  have hlo := hE.lo
  have HV := Lib.hid hv
  have HZ := Lib.hid hz
  have HS := Lib.hid hs
  have HSZ := Lib.hid hsz
  clear hv hz hs hsz
  go_enter Tryz.func5, Tryz.ntmps5
  go_wp2_with fail
  refine (jsane_calls w hE).mono ?_
  rintro e w1 ⟨rfl, k1⟩
  have HK1 := Lib.hid k1
  have hk1 := kept_below k1 rfl
  have hE1 := env_kept hE hk1 (fun _ _ h => h)
  have c1 := Lib.hid (one_calls (texts_kept HV.out hk1 (fun _ _ h => h)) hl HS.out)
  clear k1 hk1
  go_wp2_with fail
  refine Calls.mono c1.out ?_
  rintro e w2 ⟨t1, rfl, ht1, rfl⟩
  have HT1 := Lib.hid ht1
  clear ht1 c1
  cases t1 with
  | false =>
    go_wp2_with fail
    go_ret
    exact ⟨rfl, HK1.out⟩
  | true =>
    obtain ⟨hl8, hl2⟩ := HT1.out rfl
    have HL := Lib.hid hl2
    clear HT1 hl2
    by_cases hzz : 320 < zs.length
    · go_wp2_with fail
      go_ret
      exact ⟨rfl, HK1.out⟩
    · go_wp2_with fail
      refine (m_new w1).mono ?_
      rintro e w3 ⟨b, rfl, hm3, hk3⟩
      have hE3 := env_kept hE1 hk3 (fun _ _ h => h)
      have hzK := HK1.out.size
      have HK3 := Lib.hid (((kept_below HK1.out rfl).mono (T := fun i => ¬ i < w.heap.size) (fun _ h => h.elim)).trans (hk3.mono (fun _ h => h.elim)))
      have hM3 : Mine (fun i => i < w.heap.size) w3 b Dk.new := hm3.weak (fun i hi => Nat.lt_of_lt_of_le hi hzK)
      obtain ⟨d4, o4, hc4, ht4, hg4, hR4, -⟩ := calm_open hM3.ok new_calm (f := 0) (by decide)
      have c4 := n_open hM3 hE3 (fun i hi => by omega) 0 (by decide)
      rw [o4] at c4
      rw [new_text, recs_nil] at c4 ht4
      have C4 := Lib.hid c4
      clear c4 o4 hm3 hk3 hM3
      go_wp2_with fail
      refine C4.out.mono ?_
      rintro e w4 ⟨jb, rfl, h4, k4⟩
      have HT0 : Hid (T1 w.heap.size w b jb l 0 (.slice none 0 0) w4) :=
        ⟨⟨_, d4, fun i hi => hi, fun i hi => by simp [Value.ownBlock] at hi, h4, hc4, ht4, by rw [hg4 1 (by decide), new_text], by rw [hR4]; decide⟩, ⟨rfl, .inl ⟨rfl, rfl⟩⟩, HK3.out.trans k4⟩
      clear h4 k4 hc4 ht4 hg4 hR4 C4 HK3 hE3
      go_wp2_with fail
      go_loopw [11, 12] (fun v i wr => ∃ k : Nat, k ≤ l.length ∧ i = .int .i64 k ∧ Hid (T1 w.heap.size w b jb l k v wr)) (fun _ i _ => 9 - (intOf i).toNat)
      case atStart => exact ⟨0, by omega, rfl, HT0⟩
      case round =>
        clear HT0
        obtain ⟨k, hk, rfl, ht⟩ := hrel
        by_cases hlt : k < l.length
        · obtain ⟨⟨P, d, hP, hvP, hJ, hc, ht0, ht1, hR⟩, hrow, hkp⟩ := ht.out
          obtain ⟨bk, off, rfl, hbk, hcell⟩ := HV.out.at k hlt
          have hcl := hcell k l[k] (List.getElem?_eq_getElem hlt)
          have hcl2 : wr.cell? ⟨bk, off + k, none⟩ = some (.string (bs l[k])) := (World.cell?_of_block (hkp.block bk hbk (fun h => h hbk))).trans hcl
          have hsl := HL.out l[k] (List.getElem_mem hlt)
          have hfl := form_len l[k] hsl
          have hfo := forms_le (l.take k) (fun u hu => HL.out u (List.mem_of_mem_take hu))
          rw [List.length_take] at hfo
          obtain ⟨d', o', hc', ht', hg', hR', -⟩ := calm_append hc (f := 0) (L := l.take k) (s := l[k]) (by decide) ht0 hsl (by omega)
          rw [← take_snoc l k hlt] at o' ht'
          have hEr := env_kept hE hkp (fun i hi hn => hn (by omega))
          have c5 := n_append hJ hEr l[k] (by omega) (by omega)
          rw [o'] at c5
          have C5 := Lib.hid c5
          have HKP := Lib.hid hkp
          have HP := Lib.hid hP
          have HVP := Lib.hid hvP
          have HRW := Lib.hid hrow
          obtain ⟨ra, rn, rc, rfl⟩ := row_slice hrow
          clear c5 o' hcell hcl hkp hP hvP hrow hJ ht hEr hfo
          go_wp2_with fail
          refine C5.out.mono ?_
          rintro e w5 ⟨rfl, h5, k5⟩
          have h5 : Jn P w5 b d' jb ⟨0, l.take (k + 1), false⟩ := h5
          have hrow5 := row_keeps HRW.out (fun i hi hlt => k5.block i hlt (fun hn => hn (HVP.out i hi)))
          have c6 := n_size h5 0
          rw [show d'.size 0 = (forms (l.take (k + 1))).length from (size_eq (d := d') (f := 0) (by decide)).trans (by rw [ht'])] at c6
          have C6 := Lib.hid c6
          have hb5 := h5.bound
          have hk5 : Kept (fun i => ¬ i < w.heap.size) w w5 := HKP.out.trans (k5.mono (fun i hi => Or.inl (fun h => hi (HP.out i h))))
          have hz5 := hk5.size
          clear c6 k5 C5
          go_wp2_with fail
          refine C6.out.mono ?_
          rintro e w6 ⟨rfl, rfl⟩
          go_wp2_with (at_builtin; refine wpList_append_lies _ rfl _ _ 36 rfl w.heap.size 3 i0 (.int .i64 0) 1 8 Tryz.underlying36 hi hz0 hz1 hz2 rfl (by decide) _ _ _ rfl (hrow5.alloc _) ⟨w5.heap.size, 0, none⟩ 1 1 [.int .i64 ((forms (l.take (k + 1))).length : Int)] rfl rfl ?c1 ?c2 (by decide) ?c3 ?c4 ?c5 (w5.heap.size + 1) (by simp) ?_)
          case c1 =>
            intro j z hj
            match j, hj with
            | 0, hj => simp at hj; subst hj; simp [Addr.add]
          case c2 => intro z hz; simp at hz; subst hz; rfl
          case c3 => unfold maxLen; omega
          case c4 => omega
          case c5 => simp; omega
          intro g cap w6 hown hgrow hlies hlt6
          have hK6 : Kept (fun i => some i = (Value.slice ra rn rc).ownBlock) w5 w6 := (((Kept.refl (fun i => some i = (Value.slice ra rn rc).ownBlock) w5).alloc _).grown hgrow (fun k hk => Or.inl hk.symm))
          have hJ6 := h5.grow hK6 (fun i hi => HVP.out i hi)
          have HT6 : Hid (T1 w.heap.size w b jb l (k + 1) (.slice (some ⟨g, 0, none⟩) (k + 1) cap) w6) := by
            refine ⟨⟨_, d', fun i hi => Or.inl (HP.out i hi), fun i hi => ?_, hJ6, hc', ht', by rw [hg' 1 (by decide), ht1], by omega⟩, by rw [endsV_succ]; exact hown, hk5.trans (hK6.mono (fun i hi => Or.inl (fun h => ?_)))⟩
            · have e : i = g := by simpa [Value.ownBlock] using hi
              subst e
              rcases hlies with h | h
              · exact Or.inl (HVP.out _ h.symm)
              · exact Or.inr ⟨by omega, hlt6⟩
            · have := (row_lt HRW.out i hi).1
              omega
          clear hown hgrow hK6 hJ6 hrow5 h5 hb5
          go_wp2_with fail
          go_roundw
          case rel => exact ⟨k + 1, by omega, by go_num, HT6⟩
          case measure => simp [intOf]; omega
        · obtain rfl : k = l.length := by omega
          clear hlt
          obtain ⟨⟨P, d, hP, hvP, hJ, hc, ht0, ht1, hR⟩, hrow, hkp⟩ := ht.out
          rw [List.take_length] at hJ ht0
          have hfl := forms_le l HL.out
          obtain ⟨s, hs⟩ : ∃ s, s = forms l := ⟨_, rfl⟩
          have hsl : s.length ≤ 160344 := by rw [hs]; omega
          rw [← hs] at ht0
          have hfsz : d.F.sz 0 = s.length := by rw [← Img.text_length, ht0]
          have hrd : d.read 0 0 (s.length : Int) = (d.F.text 0, 0) := calm_read hc (f := 0) (n := s.length) (by decide) (by omega)
          rw [ht0] at hrd
          have hszz : d.size 0 = s.length := (size_eq (d := d) (f := 0) (by decide)).trans (by rw [ht0])
          have c7 := n_size hJ 0
          rw [hszz] at c7
          have c8 := n_read hJ 0 0 (s.length : Int) (by decide) (by decide)
          rw [hrd] at c8
          have HSL := Lib.hid hs
          have C7 := Lib.hid c7
          have C8 := Lib.hid c8
          have HKP := Lib.hid hkp
          have HP := Lib.hid hP
          have HVP := Lib.hid hvP
          have HRW := Lib.hid hrow
          obtain ⟨ra, rn, rc, rfl⟩ := row_slice hrow
          clear c7 c8 hrd hkp hP hvP hrow hJ ht hszz hs
          go_wp2_with fail
          refine C7.out.mono ?_
          rintro e w6 ⟨rfl, rfl⟩
          go_wp2_with fail
          refine C8.out.mono ?_
          rintro e w6 ⟨rfl, h6, k6⟩
          have hrow6 := row_keeps HRW.out (fun i hi hlt => k6.block i hlt (fun hn => hn (HVP.out i hi)))
          have hk6 : Kept (fun i => ¬ i < w.heap.size) w w6 := HKP.out.trans (k6.mono (fun i hi => Or.inl (fun h => hi (HP.out i h))))
          have hconv := Lib.run_convert_string_bytes (P := Tryz.prog) w6 9 56 5 (bs s) Tryz.underlying9 Tryz.underlying56 Tryz.underlying5
          rw [bs_size s] at hconv
          obtain ⟨hbr, hbb⟩ := bytes_row w6 s (by omega)
          have hz6 := hk6.size
          obtain ⟨g, hg⟩ : ∃ g, g = w6.heap.size := ⟨_, rfl⟩
          have hbk := kept_below hbb rfl
          have hbs : w6.heap.size < (Lib.bytesWorld w6 5 (bs s)).heap.size := by
            obtain ⟨g', _, e, _, h, _⟩ := hbr.lt
            simp only [Value.slice.injEq, Option.some.injEq, Addr.mk.injEq] at e
            rw [e.1.1]; exact h
          have hJ7 := h6.grow hbk (fun _ h => h.elim)
          have hrow7 := row_keeps hrow6 (fun i hi hlt => hbk.block i hlt (fun h => h))
          have hK7 := hk6.trans (hbk.mono (T := fun i => ¬ i < w.heap.size) (fun _ h => h.elim))
          generalize Lib.bytesWorld w6 5 (bs s) = W1 at *
          generalize grownCap w6 s.length 0 5 = C0 at *
          have hgre : some g ≠ (Value.slice ra rn rc).ownBlock := fun e => by
            have := (row_lt hrow6 g e).2
            omega
          obtain ⟨Q, hQ⟩ : ∃ Q : Nat → Prop, Q = fun i => P i ∨ (w6.heap.size ≤ i ∧ i < W1.heap.size) := ⟨_, rfl⟩
          rw [← hQ] at hJ7
          have HQP : Hid (∀ i, i < w.heap.size → Q i) := fun i hi => by rw [hQ]; exact Or.inl (HP.out i hi)
          have hQg : Q g := by rw [hQ]; exact Or.inr ⟨by omega, by omega⟩
          have hQr : Hid (∀ i, some i = (Value.slice ra rn rc).ownBlock → Q i) := fun i hi => by rw [hQ]; exact Or.inl (HVP.out i hi)
          have HT2 : Hid (T2 w.heap.size w Q b jb d l (.slice ra rn rc) g C0 s zs 0 W1) := by
            refine ⟨hJ7, hrow7, ?_, hK7⟩
            rw [zapTo_zero, hg]
            obtain ⟨g', c', cur, fz, e, _, rest⟩ := hbr
            exact ⟨g', c', cur, fz, e, Nat.zero_le _, rest⟩
          have hgN : w.heap.size ≤ g := by omega
          rw [← hg] at hconv
          clear hbr hbb hbk hJ7 hrow7 hK7 hrow6 h6 k6 hk6 hQ hg HKP HP HVP HRW C7 C8
          go_wp2_with fail
          go_loopw [16] (fun i wr2 => ∃ k : Nat, k ≤ s.length ∧ i = .int .i64 k ∧ Hid (T2 w.heap.size w Q b jb d l (.slice ra rn rc) g C0 s zs k wr2)) (fun i _ => s.length - (intOf i).toNat)
          case atStart => exact ⟨0, by omega, rfl, HT2⟩
          case round =>
            clear HT2 hconv
            obtain ⟨k, hk, rfl, ht⟩ := hrel
            by_cases hgo : k < s.length ∧ 0 < zs.length
            · obtain ⟨hlt, hzp⟩ := hgo
              have hml : k / 64 % zs.length < zs.length := Nat.mod_lt _ hzp
              have hodd : odd zs (k / 64) = decide (zs.getD (k / 64 % zs.length) 0 % 2 ≠ 0) := by
                have hne : zs ≠ [] := fun e => by rw [e] at hzp; simp at hzp
                simp [odd, hne]
              obtain ⟨q, hq⟩ : ∃ q, q = k / 64 := ⟨_, rfl⟩
              rw [← hq] at hml hodd
              obtain ⟨m, hm⟩ : ∃ m, m = q % zs.length := ⟨_, rfl⟩
              obtain ⟨x, hx⟩ : ∃ x, x = zs.getD m 0 := ⟨_, rfl⟩
              rw [← hm] at hml hodd
              rw [← hx] at hodd
              have hkx : zs[m]? = some x := by rw [hx, List.getD_eq_getElem?_getD, List.getElem?_eq_getElem hml]; rfl
              obtain ⟨vg, vo, rfl, hvg, hcz⟩ := keep_at HZ.out m hml
              have hcx : wr.cell? ⟨vg, vo + m, none⟩ = some (.int .i64 x) := (World.cell?_of_block (ht.out.kept.block vg hvg (fun h => h hvg))).trans (hcz m x hkx)
              have hbit := bit_one x
              have e0 : (k : Int) / 64 = (q : Int) := by omega
              have e1 : (q : Int) % (zs.length : Int) = (m : Int) := by omega
              have d2 : (k : Int) < (s.length : Int) := by omega
              have d3 : (0 : Int) < (zs.length : Int) := by omega
              have hq2 : q ≤ 33554432 := by omega
              have HODD := Lib.hid hodd
              have HQ := Lib.hid hq
              clear hkx hm hx hodd hq hcz
              by_cases hpar : x % 2 = 1
              · have d4 : (x % 2 == 1) = true := by simpa using hpar
                have hod : odd zs (k / 64) = true := by rw [← HQ.out, HODD.out, decide_eq_true_iff]; omega
                have hby := ht.out.by_
                rw [← zapTo_length s zs k] at hby
                obtain ⟨hc1, hc2⟩ := hby.cell k (by rw [zapTo_length]; exact hlt)
                obtain ⟨x0, hx0⟩ : ∃ x0, wr.cell? ⟨g, k, none⟩ = some x0 := ⟨_, hc1⟩
                have HN : Hid _ := Lib.hid (ht.out.step hQg hgN hgre hod)
                clear hod hby hc1 ht
                go_wp2_with fail
                go_roundw
                case rel => exact ⟨k + 1, by omega, by go_num, HN⟩
                case measure => simp [intOf]; omega
              · have d4 : (x % 2 == 1) = false := by simpa using hpar
                have hod : odd zs (k / 64) = false := by rw [← HQ.out, HODD.out, decide_eq_false_iff_not]; omega
                have HN : Hid (T2 w.heap.size w Q b jb d l (.slice ra rn rc) g C0 s zs (k + 1) wr) := Lib.hid ⟨ht.out.jn, ht.out.row, by rw [zapTo_miss s zs k hod]; exact ht.out.by_, ht.out.kept⟩
                clear hod ht
                go_wp2_with fail
                go_roundw
                case rel => exact ⟨k + 1, by omega, by go_num, HN⟩
                case measure => simp [intOf]; omega
            · have hend : zapTo s zs k = zapTo s zs s.length := by
                by_cases hk2 : k < s.length
                · have : zs = [] := List.length_eq_zero_iff.1 (by omega)
                  rw [this, zapTo_nil, zapTo_nil]
                · rw [show k = s.length by omega]
              obtain ⟨hjn, hrow, hby, hkp⟩ := ht.out
              rw [hend] at hby
              have hcase : (k < s.length ∧ zs.length = 0) ∨ k = s.length := by omega
              have HBY := Lib.hid hby
              have HJN := Lib.hid hjn
              have HRW := Lib.hid hrow
              have HKP := Lib.hid hkp
              obtain ⟨n, hn⟩ : ∃ n : Nat, max 0 (min size (s.length : Int)) = (n : Int) := ⟨(max 0 (min size (s.length : Int))).toNat, by omega⟩
              have hns : n ≤ s.length := by omega
              obtain ⟨_, C0', eC, _, _, hcap⟩ := hby.lt
              rw [zapTo_length] at hcap
              have hC0 : s.length ≤ C0 := by
                simp only [Value.slice.injEq] at eC
                omega
              obtain ⟨x, hx⟩ : ∃ x, x = tornL s zs n := ⟨_, rfl⟩
              have hxl : x.length = n := by rw [hx]; simp [tornL, zapTo_length]; omega
              have hby2 := hby
              obtain ⟨Z, hZ⟩ : ∃ Z, Z = zapTo s zs s.length := ⟨_, rfl⟩
              have hZl : Z.length = s.length := by rw [hZ, zapTo_length]
              rw [← hZ, ← hZl] at hby2
              have hback := run_convert_bytes_back (P := Tryz.prog) wr 56 9 5 ⟨g, 0, none⟩ C0 x Tryz.underlying56 Tryz.underlying5 Tryz.underlying9 (fun i hi => by
                have h1 := (hby2.cell i (by omega)).1
                rw [add_lit, h1]
                simp [hx, tornL, hZ])
              rw [hxl, show (⟨x.toArray⟩ : ByteArray) = bs x from rfl] at hback
              have hrn := ends_len hrow
              subst hrn
              have HX := Lib.hid hx
              have HXL := Lib.hid hxl
              have HW0 : Hid (whole l x 0) := whole_zero l x
              clear hgo hend hby hjn hrow hkp ht hby2 hx hxl hcap eC hZ hZl
              rcases hcase with ⟨hlt, hz0'⟩ | hke
              all_goals
                go_wp2_with fail
                go_loopw [18] (fun i wr3 => ∃ k3 : Nat, k3 ≤ l.length ∧ i = .int .i64 k3 ∧ Hid (whole l x k3) ∧ ∃ q, wr3 = wr.drewN q) (fun i _ => l.length - (intOf i).toNat)
                case atStart => exact ⟨0, by omega, rfl, HW0, 0, rfl⟩
                case round =>
                  clear hback HW0
                  obtain ⟨k3, hk3, rfl, hwh, q3, rfl⟩ := hrel
                  by_cases hgo3 : k3 < l.length ∧ whole l x (k3 + 1)
                  · obtain ⟨hlt3, hw3⟩ := hgo3
                    have HW3 := Lib.hid hw3
                    obtain ⟨eg, rfl, hce⟩ := ends_at HRW.out k3 hlt3
                    obtain ⟨E, hE⟩ : ∃ E, E = (forms (l.take (k3 + 1))).length := ⟨_, rfl⟩
                    unfold whole at hw3
                    rw [← HSL.out, ← hE] at hw3
                    rw [← hE] at hce
                    have hE1 : E ≤ (bs x).size := by rw [bs_size]; exact hw3.1
                    have hE2 : E ≤ (bs s).size := by rw [bs_size]; have h1 := congrArg List.length hw3.2; simp at h1; omega
                    have hEq : (((bs x).extract 0 E).toList == ((bs s).extract 0 E).toList) = true := by rw [Cod.bs_take, Cod.bs_take, hw3.2]; simp
                    have d5 : (k3 : Int) < (l.length : Int) := by omega
                    clear hw3 hE
                    go_wp2_with fail
                    go_quiet (fail)
                    go_wp2_with fail
                    go_roundw
                    case rel => exact ⟨k3 + 1, by omega, by go_num, HW3, _, rfl⟩
                    case measure => simp [intOf]; omega
                  · have hre : recs x = l.take k3 := torn_many HL.out (by rw [HX.out, ← HSL.out]; exact torn_tz s zs n) hk3 hwh.out (fun h1 h2 => hgo3 ⟨h1, h2⟩)
                    have HRE := Lib.hid hre
                    have HJQ : Hid (∀ q, Jn Q (wr.drewN q) b d jb ⟨0, l, false⟩) := fun q => HJN.out.same ((Kept.refl (fun _ => False) wr).drewN q) (fun _ h => h.elim)
                    have HKQ : Hid (∀ q, Kept (fun i => ¬ i < w.heap.size) w (wr.drewN q)) := fun q => HKP.out.drewN q
                    have hxl2 := HXL.out
                    obtain ⟨d1, o1, hc1, hx1, hR1⟩ := calm_write1 hc (f := 1) (x := x) (by decide) ht1 (by omega)
                    have CW : Hid (∀ W, Jn Q W b d jb ⟨0, l, false⟩ → Calls Tryz.prog 36 #[.pointer (some ⟨b, 0, none⟩), .int .i64 1, .int .i64 0, .string (bs x)] W fun r w' => r = .returned (.int .i64 0) ∧ Jn Q w' b d1 jb ⟨0, l, false⟩ ∧ Kept (fun i => ¬ Q i) W w') := by
                      intro W hW
                      have := n_write hW 1 0 x (by omega) (by decide) (by omega)
                      rw [show d.write 1 0 x = (d1, 0) from o1] at this
                      exact this
                    have HT := Lib.hid hx1
                    have hcase3 : (k3 < l.length ∧ x.length < (forms (l.take (k3 + 1))).length) ∨ (k3 < l.length ∧ (forms (l.take (k3 + 1))).length ≤ x.length ∧ x.take (forms (l.take (k3 + 1))).length ≠ s.take (forms (l.take (k3 + 1))).length) ∨ k3 = l.length := by
                      by_cases h1 : k3 < l.length
                      · by_cases h2 : x.length < (forms (l.take (k3 + 1))).length
                        · exact Or.inl ⟨h1, h2⟩
                        · exact Or.inr (Or.inl ⟨h1, by omega, fun e => hgo3 ⟨h1, by omega, by rw [← HSL.out]; exact e⟩⟩)
                      · exact Or.inr (Or.inr (by omega))
                    have hEs : (forms (l.take (k3 + 1))).length ≤ s.length := by
                      rw [HSL.out]
                      have h1 := congrArg List.length (forms_take l (k3 + 1))
                      simp at h1; omega
                    obtain ⟨E, hE⟩ : ∃ E, E = (forms (l.take (k3 + 1))).length := ⟨_, rfl⟩
                    have hce2 : Hid (k3 < l.length → ∃ eg, ra = some ⟨eg, 0, none⟩ ∧ wr.cell? ⟨eg, k3, none⟩ = some (.int .i64 (E : Int))) := by rw [hE]; exact fun h => ends_at HRW.out k3 h
                    rw [← hE] at hcase3 hEs
                    clear hre hx1 o1 hgo3 hE
                    have hd6 : k3 ≤ vc := by omega
                    rcases hcase3 with ⟨h1, h2⟩ | ⟨h1, h2, h3⟩ | h1
                    obtain ⟨eg, rfl, hce⟩ := hce2.out h1
                    have hE1 : ¬ E ≤ (bs x).size := by rw [bs_size]; omega
                    have hE2 : E ≤ (bs s).size := by rw [bs_size]; omega
                    have d5 : (k3 : Int) < (l.length : Int) := by omega
                    clear hce2
                    go_wp2_with fail
                    go_quiet (fail)
                    go_wp2_with fail
                    rotate_left
                    obtain ⟨eg, rfl, hce⟩ := hce2.out h1
                    have hE1 : E ≤ (bs x).size := by rw [bs_size]; omega
                    have hE2 : E ≤ (bs s).size := by rw [bs_size]; omega
                    have hEq : (((bs x).extract 0 E).toList == ((bs s).extract 0 E).toList) = false := by
                      rw [Cod.bs_take, Cod.bs_take, Lib.toList_data, bs_data, Lib.toList_data, bs_data]
                      exact beq_eq_false_iff_ne.2 h3
                    have d5 : (k3 : Int) < (l.length : Int) := by omega
                    clear hce2 h3
                    go_wp2_with fail
                    go_quiet (fail)
                    go_wp2_with fail
                    rotate_left
                    have d5 : ¬ (k3 : Int) < (l.length : Int) := by omega
                    clear hce2
                    go_wp2_with fail
                    go_quiet (fail)
                    go_wp2_with fail
                    rw [← h1]
                    clear h1 d5
                    rotate_left
                    all_goals
                      refine (CW.out _ (HJQ.out _)).mono ?_
                      rintro e w7 ⟨rfl, h7, k7⟩
                      have hk7 : Kept (fun i => ¬ i < w.heap.size) w w7 := (HKQ.out _).trans (k7.mono (fun i hi => Or.inl (fun h => hi (HQP.out i h))))
                      have hE7 := env_kept hE hk7 (fun i hi hn => hn (by omega))
                      obtain ⟨d2, o2, hc2, ht2, -, hR2, -⟩ := calm_open h7.ok hc1 (f := 1) (by decide)
                      rw [HT.out, HRE.out] at o2 ht2
                      have c9 := n_open h7.mine hE7 (fun i hi => HQP.out i (by omega)) 1 (by decide)
                      rw [o2] at c9
                      have C9 := Lib.hid c9
                      have HK7 := Lib.hid hk7
                      clear c9 o2 k7 h7 CW HJQ HKQ hk7 hE7
                      go_wp2_with fail
                      refine C9.out.mono ?_
                      rintro e w8 ⟨kb, rfl, h8, k8⟩
                      have hA8 : AInv w.heap.size w Q b d2 kb ⟨1, l.take k3, false⟩ w8.drew := ⟨h8.same ((Kept.refl (fun _ => False) w8).drew) (fun _ h => h.elim), (HK7.out.trans (k8.mono (fun i hi => Or.inl (fun h => hi (HQP.out i h))))).drew⟩
                      have CA : Hid (∀ W, AInv w.heap.size w Q b d2 kb ⟨1, l.take k3, false⟩ W → Calls Tryz.prog 28 #[.pointer (some ⟨kb, 0, none⟩)] W fun r w' => ∃ v, r = .returned v ∧ IsTexts v (l.take k3) w' ∧ AInv w.heap.size w Q b d2 kb ⟨1, l.take k3, false⟩ w') := fun W hW => a_all hW
                      have CS : Hid (∀ W v9, AInv w.heap.size w Q b d2 kb ⟨1, l.take k3, false⟩ W → IsTexts v9 (l.take k3) W → Calls Tryz.prog 27 #[v9, .slice va k3 vc] W fun r w' => r = .returned (.bool true) ∧ AInv w.heap.size w Q b d2 kb ⟨1, l.take k3, false⟩ w') := fun W v9 hW hv9 => a_same hW hv9 (texts_take (texts_kept HV.out hW.2 (fun i hi hn => hn hi)) hk3) (by rw [List.length_take]; omega)
                      clear h8 k8 C9 HK7
                      go_wp2_with fail
                      go_region_held3 (fun W => True)
                        (first | go_keep | exact trivial)
                        (first
                          | (go_at_call 28; refine Calls.mono (CA.out _ (by assumption)) ?_; rintro e w9 ⟨v9, rfl, hv9, hA9⟩)
                          | (go_at_call 27; refine Calls.mono (CS.out _ _ (by assumption) (by assumption)) ?_; rintro e w10 ⟨rfl, hA10⟩))
                      have hE10 := env_kept hE hA10.2 (fun i hi hn => hn (by omega))
                      have hfo := forms_le (l.take k3) (fun u hu => HL.out u (List.mem_of_mem_take hu))
                      rw [List.length_take] at hfo
                      obtain ⟨d3, o3, hc3, ht3, -, hR3, -⟩ := calm_append hc2 (f := 1) (L := l.take k3) (s := nx) (by decide) ht2 (by decide) (by have := form_len nx (by decide); have : nx.length = 4 := rfl; omega)
                      have c11 := n_append hA10.1 hE10 nx (by decide) (by omega)
                      rw [o3] at c11
                      have C11 := Lib.hid c11
                      have HK10 := Lib.hid hA10.2
                      have hR3' : d3.R + 1048578 ≤ 549755813888 := by have := form_len nx (by decide); have : nx.length = 4 := rfl; omega
                      clear c11 o3 hA10 hA9 hv9 hfo CA CS
                      go_wp2_with fail
                      refine C11.out.mono ?_
                      rintro e w11 ⟨rfl, h11, k11⟩
                      have h11 : Jn Q w11 b d3 kb ⟨1, l.take k3 ++ [nx], false⟩ := h11
                      have HK11 := Lib.hid (HK10.out.trans (k11.mono (T := fun i => ¬ i < w.heap.size) (fun i hi => Or.inl (fun h => hi (HQP.out i h)))))
                      have hE11 := env_kept hE HK11.out (fun i hi hn => hn (by omega))
                      have g0 := Lib.hid (g_len h11 hk3)
                      have g1 := Lib.hid (g_at h11 hk3)
                      have g2 := Lib.hid (g_past h11 hk3)
                      have g3 := Lib.hid (g_neg h11)
                      obtain ⟨Z0, w13, hZ0, hmk, hcv, hk13⟩ := make_zeros w11
                      have h13 : Jn Q w13 b d3 kb ⟨1, l.take k3 ++ [nx], false⟩ := h11.same hk13 (fun _ h => h.elim)
                      have hk013 : Kept (fun i => ¬ i < w.heap.size) w w13 := HK11.out.trans (hk13.mono (fun _ h => h.elim))
                      have hE13 := env_kept hE hk013 (fun i hi hn => hn (by omega))
                      have c13 := n_append h13 hE13 Z0 (by omega) hR3'
                      rw [long_append _ _ _ hZ0] at c13
                      have C13 := Lib.hid c13
                      have HK13 := Lib.hid hk013
                      clear k11 C11 HK10 c13 hk13 hk013
                      go_wp2_with fail
                      refine g0.out.mono ?_
                      rintro e w12 ⟨rfl, rfl⟩
                      go_wp2_with fail
                      refine g1.out.mono ?_
                      rintro e w12 ⟨rfl, rfl⟩
                      go_wp2_with fail
                      refine g2.out.mono ?_
                      rintro e w12 ⟨rfl, rfl⟩
                      go_wp2_with fail
                      refine g3.out.mono ?_
                      rintro e w12 ⟨rfl, rfl⟩
                      go_wp2_with fail
                      refine C13.out.mono ?_
                      rintro e w14 ⟨rfl, -, k14⟩
                      have HF := Lib.hid ((HK13.out.trans (k14.mono (T := fun i => ¬ i < w.heap.size) (fun i hi => Or.inl (fun h => hi (HQP.out i h))))).below (Nat.le_refl _) (fun k hk => Nat.not_lt.1 hk))
                      clear k14
                      go_wp2_with fail
                      go_ret
                      exact ⟨rfl, HF.out⟩

end Go.Proofs.YtanecondopbfhaaGreatDoor
