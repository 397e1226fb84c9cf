/- Sorting the pending sectors by their ranks. -/
import Derived.Test.YtanecondopbfhaaGreatDoorCmp
namespace Go.Proofs.YtanecondopbfhaaGreatDoor
open Go.RowKit Go.Sort

theorem eq_of_perm_rank {r : Nat × Nat → Nat} : ∀ {l₁ l₂ : List (Nat × Nat)}, l₁.Perm l₂ → l₁.Pairwise (fun p q => r p ≤ r q) → l₂.Pairwise (fun p q => r p < r q) → l₁ = l₂
  | [], l₂, hp, _, _ => hp.nil_eq
  | a :: l, [], hp, _, _ => absurd hp.symm.nil_eq (by simp)
  | a :: l, b :: s, hp, h1, h2 => by
    obtain ⟨a1, a2⟩ := List.pairwise_cons.1 h1
    obtain ⟨b1, b2⟩ := List.pairwise_cons.1 h2
    have hab : a = b := by
      have ha : a ∈ b :: s := hp.mem_iff.1 (by simp)
      have hb : b ∈ a :: l := hp.mem_iff.2 (by simp)
      rcases List.mem_cons.1 ha with e | ha
      · exact e
      · rcases List.mem_cons.1 hb with e | hb
        · exact e.symm
        · have := a1 b hb
          have := b1 a ha
          omega
    subst hab
    rw [eq_of_perm_rank (List.perm_cons a |>.1 hp) a2 b2]

theorem heap_sortWorldK {α : Type} [Inhabited α] (enc : α → List Value) (k : Nat) (w : World) (blk off m : Nat) (dk : Array α) (os : Array Obj) (i : Nat) (hi : i < w.heap.size) (hne : i ≠ blk) : (sortWorldK enc k w blk off m dk os).heap[i]? = w.heap[i]? := by
  show ((w.heap.modify blk _) ++ os)[i]? = _
  rw [Array.getElem?_append_left (by simpa using hi), Array.getElem?_modify, if_neg (Ne.symm hne)]

/-- A pending sector of the list q. -/
def encP {q : List (Nat × Nat)} (x : { x // x ∈ q }) : List Value := [.int .i64 x.1.1, .int .i64 x.1.2]

/-- The row of block g holds the sectors of l. -/
def PlRow (w : World) (g : Nat) (l : List (Nat × Nat)) : Prop := ∀ i x, l[i]? = some x →
  (w.cell? ⟨g, 2 * i, none⟩ = some (.int .i64 x.1) ∧ w.frozen? ⟨g, 2 * i, none⟩ = false) ∧ w.cell? ⟨g, 2 * i + 1, none⟩ = some (.int .i64 x.2) ∧ w.frozen? ⟨g, 2 * i + 1, none⟩ = false

theorem lt_rank (r : Nat → Nat → Int) (x y : Nat) (h : r x y = Lib.compareInt x y) : decide (r x y < 0) = decide (x < y) := by
  rw [h]
  unfold Lib.compareInt
  by_cases h1 : (x : Int) < (y : Int)
  · have : x < y := by omega
    simp [h1, this]
  · have h1' : ¬ x < y := by omega
    by_cases h2 : (y : Int) < (x : Int) <;> simp [h1, h2, h1']

theorem ltOf_rank {α : Type} (f : α → Nat) (x y : α) : ltOf (fun x y => Lib.compareInt (f x) (f y)) x y = decide (f x < f y) := lt_rank (fun a b => Lib.compareInt a b) (f x) (f y) rfl

theorem swo_rank {α : Type} (f : α → Nat) : SWO (ltOf fun x y : α => Lib.compareInt (f x) (f y)) where
  irrefl x := by rw [ltOf_rank]; simp
  trans x y z h1 h2 := by rw [ltOf_rank] at *; simp at *; omega
  ntrans x y z h1 h2 := by rw [ltOf_rank] at *; simp at *; omega

set_option maxHeartbeats 1000000 in
theorem sort_calls (w : World) (b cb g cap : Nat) (L : Loc) (d : Dk) (acc : List (Nat × Nat)) (h : IsD w b L d) (hcb : w.cell? ⟨cb, 0, none⟩ = some (.pointer (some ⟨b, 0, none⟩))) (hcl : cb < w.heap.size) (hgl : g < w.heap.size)
    (hrow : PlRow w g acc) (hgo : ¬ Own b L g) (hgc : g ≠ cb) (hp : acc.Perm d.q) (hne : d.q ≠ []) (hlen : acc.length < 4611686018427387904) :
    Calls Tryz.prog 93 #[.slice (some ⟨g, 0, none⟩) acc.length cap, .func (.func 94) #[] #[.pointer (some ⟨cb, 0, none⟩)]] w fun e w' => e = .returned (.tuple #[]) ∧
      PlRow w' g d.q ∧ Kept (fun x => x = g) w w' := by
  obtain ⟨x0, hx0⟩ := List.exists_mem_of_ne_nil _ hne
  haveI : Inhabited { x // x ∈ d.q } := ⟨⟨x0, hx0⟩⟩
  have hmem : ∀ x ∈ acc, x ∈ d.q := fun x hx => hp.mem_iff.1 hx
  obtain ⟨D, hD⟩ : ∃ D : Array { x // x ∈ d.q }, D = (acc.attachWith (· ∈ d.q) hmem).toArray := ⟨_, rfl⟩
  have hDs : D.size = acc.length := by rw [hD]; simp
  have hDm : D.toList.map (·.1) = acc := by
    rw [hD]
    simp only [List.attachWith_map_subtype_val]
  have hDi : ∀ i, i < acc.length → ∀ x, acc[i]? = some x → (D[i]!).1 = x := by
    intro i hi x hx
    have h1 : (D.toList.map (·.1))[i]? = some x := by rw [hDm]; exact hx
    rw [List.getElem?_map, Array.getElem?_toList, Array.getElem?_eq_getElem (by omega)] at h1
    rw [getElem!_pos D i (by omega)]
    simpa using h1
  have hH : HoldsK (encP (q := d.q)) 2 w g 0 D := by
    intro j hj
    rw [size_flatK, hDs] at hj
    rw [get_flatK _ _ _ _ (by rw [hDs]; exact hj)]
    have hi : j / 2 < acc.length := by omega
    obtain ⟨⟨r1, r2⟩, r3, r4⟩ := hrow (j / 2) _ (List.getElem?_eq_getElem hi)
    have hx := hDi (j / 2) hi _ (List.getElem?_eq_getElem hi)
    rcases Nat.mod_two_eq_zero_or_one j with hm | hm
    · rw [show 0 + j = 2 * (j / 2) by omega, hm]
      refine ⟨?_, r2⟩
      rw [r1]
      simp [encP, hx]
    · rw [show 0 + j = 2 * (j / 2) + 1 by omega, hm]
      refine ⟨?_, r4⟩
      rw [r3]
      simp [encP, hx]
  have hcmp : CmpLays Tryz.prog 94 #[.pointer (some ⟨cb, 0, none⟩)] (encP (q := d.q)) 2 (fun x y => Lib.compareInt (L.rk x.1) (L.rk y.1)) g 0 D.size w := by
    intro m os dk _ x y
    have hb : ∀ i, i < w.heap.size → i ≠ g → (sortWorldK (encP (q := d.q)) 2 w g 0 m dk os).heap[i]? = w.heap[i]? := fun i hi hn => heap_sortWorldK _ _ _ _ _ _ _ _ i hi hn
    have hsz := size_sortWorldK_c (encP (q := d.q)) 2 w g 0 m dk os
    have hx := h.ok.pq x.1 x.2
    have hy := h.ok.pq y.1 y.2
    have hmx := h.ok.mx x.1.1
    have hmy := h.ok.mx y.1.1
    have hbg : b ≠ g := fun e => hgo (Or.inl e.symm)
    have hr : ∀ f, f < 16 → RankAt (sortWorldK (encP (q := d.q)) 2 w g 0 m dk os) (L.pm f) 262144 (fun n => if (f, n) ∈ d.q then some (L.rk (f, n)) else none) := fun f hf =>
      (h.rnk f hf).same (hb _ (h.rnk f hf).lt (fun e => hgo (Or.inr (Or.inr (Or.inr ⟨f, hf, e.symm⟩)))))
    have hc : isCells (sortWorldK (encP (q := d.q)) 2 w g 0 m dk os) b 77 55 (dcell L d) := h.cells.same (hb _ h.cells.lt hbg)
    exact rank_cmp b cb x.1 y.1 (L.pm x.1.1) (L.pm y.1.1) 262144 262144 (L.rk x.1) (L.rk y.1) _ _ _ ((World.cell?_of_block (hb cb hcl (Ne.symm hgc))).trans hcb)
      (by rw [hc.cell _ (by omega), dcell_P L d _ hx.1]) (by rw [hc.cell _ (by omega), dcell_P L d _ hy.1]) (hr _ hx.1) (hr _ hy.1) (if_pos x.2) (if_pos y.2) hx.1 hy.1 (by omega) (by omega) (Nat.lt_of_lt_of_le h.cells.lt hsz) (Nat.lt_of_lt_of_le hcl hsz)
  have eg : ∀ args w, (callFunc 94 args).run Tryz.prog w = .ok (.enter 94 args) w := enters_of Tryz.func94 (by kernel_rfl) rfl
  have hcon := AnyQ.slices_SortFunc Tryz.sortPl 2 Tryz.isAgg95 Tryz.sizeOf95 (encP (q := d.q)) (fun _ => rfl) (fun x v hv => by simp [encP] at hv; rcases hv with rfl | rfl <;> rfl) (fun x y => Lib.compareInt (L.rk x.1) (L.rk y.1)) (swo_rank _) 94 #[.pointer (some ⟨cb, 0, none⟩)] g 0 cap D w eg hcmp hH hgl (by omega)
  change Calls Tryz.prog 93 _ _ _ at hcon
  rw [hDs] at hcon
  refine hcon.mono ?_
  rintro e w' ⟨rfl, D', n, os, hperm, hsort, rfl⟩
  obtain ⟨hs1, _, hs3⟩ := hperm
  have hq : D'.toList.map (·.1) = d.q := by
    refine eq_of_perm_rank (r := L.rk) ?_ ?_ h.inc
    · refine List.Perm.trans ?_ hp
      rw [← hDm]
      have e1 : (D'.extract 0 acc.length).toList = D'.toList := by
        rw [← hDs, ← hs1]
        simp
      have e2 : (D.extract 0 acc.length).toList = D.toList := by
        rw [← hDs]
        simp
      rw [e1, e2] at hs3
      exact hs3.map _
    · rw [List.pairwise_map, List.pairwise_iff_getElem]
      intro i j hi hj hij
      have := hsort i j (Nat.zero_le _) hij (by simpa [hs1, hDs] using hj)
      rw [ltOf_rank] at this
      rw [getElem!_pos D' j (by simpa using hj), getElem!_pos D' i (by simpa using hi)] at this
      simp at this
      simpa using this
  have hH' := holdsK_sortWorldK_c (encP (q := d.q)) 2 w g 0 D D' n os hH hgl (by rw [hs1])
  refine ⟨rfl, ?_, ⟨rfl, rfl, rfl, size_sortWorldK_c _ _ _ _ _ _ _ _, fun i hi hn => heap_sortWorldK _ _ _ _ _ _ _ _ i hi hn⟩⟩
  intro i x hx
  have hi : i < D'.size := by
    have h1 := (List.getElem?_eq_some_iff.1 hx).1
    rw [← hq] at h1
    simpa using h1
  have hx' : (D'[i]!).1 = x := by
    rw [← hq, List.getElem?_map, Array.getElem?_toList, Array.getElem?_eq_getElem hi] at hx
    rw [getElem!_pos D' i hi]
    simpa using hx
  have c0 := hH' (2 * i) (by rw [size_flatK]; omega)
  have c1 := hH' (2 * i + 1) (by rw [size_flatK]; omega)
  rw [get_flatK _ _ _ _ (by omega), Nat.zero_add] at c0 c1
  rw [show 2 * i / 2 = i by omega, show 2 * i % 2 = 0 by omega] at c0
  rw [show (2 * i + 1) / 2 = i by omega, show (2 * i + 1) % 2 = 1 by omega] at c1
  simp only [encP, hx'] at c0 c1
  exact ⟨⟨by simpa using c0.1, by simpa using c0.2⟩, by simpa using c1.1, by simpa using c1.2⟩

end Go.Proofs.YtanecondopbfhaaGreatDoor
