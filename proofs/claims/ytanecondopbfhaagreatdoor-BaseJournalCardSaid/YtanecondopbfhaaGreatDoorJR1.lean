/- The reference's disk in this seat: After, RefP, Rk. -/
import Derived.Test.YtanecondopbfhaaGreatDoorJn
namespace Go.Proofs.YtanecondopbfhaaGreatDoor

section
open Go.RowKit

variable {w w' : World} {b : Nat} {d : Dk} {S : Nat → Prop}

theorem bs_get (s : List UInt8) (i : Nat) (h : i < (bs s).size) : (bs s)[i] = s.getD i 0 := by
  have h2 : i < s.length := by rw [← bs_size s]; exact h
  rw [List.getD_eq_getElem?_getD, List.getElem?_eq_getElem h2]
  rfl

theorem text_get (m : Img) (f i : Nat) : (m.text f).getD i 0 = if i < m.sz f then m.B f i else 0 := by
  rw [List.getD_eq_getElem?_getD, Img.text, Img.read, List.getElem?_map]
  by_cases h : i < m.sz f
  · rw [if_pos h, List.getElem?_range h]
    simp
  · rw [if_neg h, List.getElem?_eq_none (by simp; omega)]
    rfl
end

section
open Go.RowKit

/-- Put on lists. -/
def putL (s : List UInt8) (a : Nat) (t : List UInt8) : List UInt8 :=
  if t = [] then s else (List.range (max s.length (a + t.length))).map fun i => if a ≤ i ∧ i < a + t.length then t.getD (i - a) 0 else s.getD i 0

theorem text_zero {m : Img} {f : Nat} (hz : ∀ p, m.sz f ≤ p → m.B f p = 0) (i : Nat) : (m.text f).getD i 0 = m.B f i := by
  rw [text_get]
  by_cases h : i < m.sz f
  · rw [if_pos h]
  · rw [if_neg h, hz i (by omega)]

theorem put_text {m : Img} {f a : Nat} {t : List UInt8} (hz : ∀ p, m.sz f ≤ p → m.B f p = 0) (ht : t ≠ []) : (m.put f a t).text f = putL (m.text f) a t := by
  rw [putL, if_neg ht, Img.text_length]
  unfold Img.text Img.read
  have hs : (m.put f a t).sz f = max (m.sz f) (a + t.length) := if_pos rfl
  rw [hs]
  refine List.map_congr_left fun i _ => ?_
  rw [Nat.zero_add, show (List.map (fun i => m.B f (0 + i)) (List.range (m.sz f))) = m.text f from rfl, text_zero hz]
  show (if f = f ∧ a ≤ i ∧ i < a + t.length then t.getD (i - a) 0 else m.B f i) = _
  by_cases h : a ≤ i ∧ i < a + t.length
  · rw [if_pos ⟨rfl, h⟩, if_pos h]
  · rw [if_neg (fun hh => h hh.2), if_neg h]

theorem put_text_other {m : Img} {f g a : Nat} {t : List UInt8} (hg : g ≠ f) : (m.put f a t).text g = m.text g := by
  refine text_eq (if_neg hg) (fun p _ => ?_)
  exact if_neg (fun h => hg h.1)

theorem cut_text {m : Img} {f n : Nat} (hn : n ≤ m.sz f) : (m.cut f n).text f = (m.text f).take n := by
  unfold Img.text Img.read
  have hs : (m.cut f n).sz f = n := if_pos rfl
  rw [hs, ← List.map_take, List.take_range, Nat.min_eq_left hn]
  refine List.map_congr_left fun i hi => ?_
  rw [List.mem_range] at hi
  show (if f = f ∧ n ≤ 0 + i then 0 else m.B f (0 + i)) = _
  rw [if_neg (by omega)]

theorem cut_text_other {m : Img} {f g n : Nat} (hg : g ≠ f) : (m.cut f n).text g = m.text g := by
  refine text_eq (if_neg hg) (fun p _ => ?_)
  exact if_neg (fun h => hg h.1)

/-- The piece of a file that a sector holds. -/
def sectorL (t : List UInt8) (n : Nat) : List UInt8 := (t.drop (64 * n)).take 64

theorem live_text {d : Dk} {x : Nat × Nat} (zF : ∀ p, d.F.sz x.1 ≤ p → d.F.B x.1 p = 0) (zD : ∀ p, d.D.sz x.1 ≤ p → d.D.B x.1 p = 0) (hle : d.D.sz x.1 ≤ d.F.sz x.1) (hx : 64 * x.2 < d.F.sz x.1) :
    (d.live x).D.text x.1 = putL (d.D.text x.1) (64 * x.2) (sectorL (d.F.text x.1) x.2) := by
  have hl : (sectorL (d.F.text x.1) x.2).length = min 64 (d.F.sz x.1 - 64 * x.2) := by simp [sectorL, Img.text_length]
  have hne : sectorL (d.F.text x.1) x.2 ≠ [] := fun e => by rw [e] at hl; simp at hl; omega
  rw [putL, if_neg hne, Img.text_length, hl]
  have hs : (d.live x).D.sz x.1 = max (d.D.sz x.1) (min (64 * (x.2 + 1)) (d.F.sz x.1)) := if_pos rfl
  unfold Img.text Img.read
  rw [hs, show max (d.D.sz x.1) (min (64 * (x.2 + 1)) (d.F.sz x.1)) = max (d.D.sz x.1) (64 * x.2 + min 64 (d.F.sz x.1 - 64 * x.2)) by omega]
  refine List.map_congr_left fun i hi => ?_
  rw [List.mem_range] at hi
  rw [Nat.zero_add, show (List.map (fun i => d.D.B x.1 (0 + i)) (List.range (d.D.sz x.1))) = d.D.text x.1 from rfl, text_zero zD, show (List.map (fun i => d.F.B x.1 (0 + i)) (List.range (d.F.sz x.1))) = d.F.text x.1 from rfl]
  show (if x.1 = x.1 ∧ i / 64 = x.2 then d.F.B x.1 i else d.D.B x.1 i) = _
  by_cases h : 64 * x.2 ≤ i ∧ i < 64 * x.2 + min 64 (d.F.sz x.1 - 64 * x.2)
  · rw [if_pos ⟨rfl, by omega⟩, if_pos h, ← text_zero zF, sectorL, List.getD_eq_getElem?_getD, List.getD_eq_getElem?_getD, List.getElem?_take_of_lt (by omega), List.getElem?_drop, show 64 * x.2 + (i - 64 * x.2) = i by omega]
  · rw [if_neg h]
    by_cases h2 : i / 64 = x.2
    · rw [if_pos ⟨rfl, h2⟩, zF i (by omega), zD i (by omega)]
    · rw [if_neg (fun hh => h2 hh.2)]

theorem live_text_other {d : Dk} {x : Nat × Nat} {g : Nat} (hg : g ≠ x.1) : (d.live x).D.text g = d.D.text g := by
  refine text_eq (if_neg hg) (fun p _ => ?_)
  exact if_neg (fun h => hg h.1)
end

section
structure Rf where
  n : Int
  now : List UInt8
  last : List UInt8

structure Rk where
  fs : List Rf
  q : List (Nat × Nat)
  lost : Nat
  down : Bool
  armed : Nat
  keep : List Int

def getF : List Rf → Int → Rf
  | [], f => ⟨f, [], []⟩
  | x :: l, f => if x.n = f then x else getF l f

def setF (fs : List Rf) (x : Rf) : List Rf := fs.filter (fun y => y.n != x.n) ++ [x]

theorem getF_n (fs : List Rf) (f : Int) : (getF fs f).n = f := by
  induction fs with
  | nil => rfl
  | cons x l ih =>
    rw [getF]
    split
    · assumption
    · exact ih

theorem getF_set (fs : List Rf) (x : Rf) (f : Int) : getF (setF fs x) f = if f = x.n then x else getF fs f := by
  induction fs with
  | nil =>
    show (if x.n = f then x else ⟨f, [], []⟩) = if f = x.n then x else ⟨f, [], []⟩
    by_cases h : x.n = f
    · rw [if_pos h, if_pos h.symm]
    · rw [if_neg h, if_neg (Ne.symm h)]
  | cons y l ih =>
    unfold setF at ih ⊢
    by_cases h : y.n = x.n
    · rw [List.filter_cons_of_neg (by simp [h]), ih, getF]
      by_cases h2 : f = x.n
      · rw [if_pos h2, if_pos h2]
      · rw [if_neg h2, if_neg h2, if_neg (by omega)]
    · rw [List.filter_cons_of_pos (by simpa using h), List.cons_append, getF, ih, getF]
      by_cases h2 : f = x.n
      · rw [if_neg (by omega), if_pos h2, if_pos h2]
      · by_cases h3 : y.n = f
        · rw [if_pos h3, if_neg h2, if_pos h3]
        · rw [if_neg h3, if_neg h2, if_neg h2, if_neg h3]

theorem getF_map (fs : List Rf) (f : Int) : getF (fs.map fun x => ⟨x.n, x.last, x.last⟩) f = ⟨f, (getF fs f).last, (getF fs f).last⟩ := by
  induction fs with
  | nil => rfl
  | cons x l ih =>
    rw [List.map_cons, getF, getF]
    by_cases h : x.n = f
    · rw [if_pos h, if_pos h, h]
    · rw [if_neg h, if_neg h, ih]

/-- Which numbers the files have. -/
structure Nums (fs : List Rf) : Prop where
  rg : ∀ x ∈ fs, 0 ≤ x.n ∧ x.n < 16
  nd : (fs.map (·.n)).Nodup

theorem Nums.len {fs : List Rf} (h : Nums fs) : fs.length ≤ 16 := by
  have := len_le_of_subset (fs.map (·.n)) ((List.range 16).map fun (i : Nat) => (i : Int)) h.nd (fun x hx => by
    obtain ⟨y, hy, rfl⟩ := List.mem_map.1 hx
    have := h.rg y hy
    exact List.mem_map.2 ⟨y.n.toNat, List.mem_range.2 (by omega), by omega⟩)
  simpa using this

theorem Nums.set {fs : List Rf} (h : Nums fs) {x : Rf} (hx : 0 ≤ x.n ∧ x.n < 16) : Nums (setF fs x) := by
  unfold setF
  constructor
  · intro y hy
    rcases List.mem_append.1 hy with hy | hy
    · exact h.rg y (List.mem_filter.1 hy).1
    · simp at hy; subst hy; exact hx
  · rw [List.map_append, List.nodup_append]
    refine ⟨(List.filter_sublist.map _).nodup h.nd, by simp, ?_⟩
    intro a ha b hb
    obtain ⟨y, hy, rfl⟩ := List.mem_map.1 ha
    simp at hb
    subst hb
    simpa using (List.mem_filter.1 hy).2

theorem Nums.map {fs : List Rf} (h : Nums fs) : Nums (fs.map fun x => ⟨x.n, x.last, x.last⟩) := by
  constructor
  · intro y hy
    obtain ⟨x, hx, rfl⟩ := List.mem_map.1 hy
    exact h.rg x hx
  · rw [List.map_map]
    exact h.nd

theorem Nums.out {fs : List Rf} (h : Nums fs) {f : Int} (hf : ¬ (0 ≤ f ∧ f < 16)) : getF fs f = ⟨f, [], []⟩ := by
  have h1 := h.rg
  clear h
  induction fs with
  | nil => rfl
  | cons x l ih =>
    rw [getF, if_neg, ih (fun y hy => h1 y (List.mem_cons_of_mem _ hy))]
    intro e
    exact hf (e ▸ h1 x (List.mem_cons_self ..))

def Rk.new : Rk := ⟨[], [], 0, false, 0, []⟩

def Rk.add (r : Rk) (f a : Nat) (s : List UInt8) : Rk :=
  if s = [] then r else { r with fs := setF r.fs ⟨f, putL (getF r.fs f).now a s, (getF r.fs f).last⟩, q := pend f (a / 64) (touch a s.length) r.q }

def survF (fs : List Rf) (x : Nat × Nat) : List Rf :=
  setF fs ⟨x.1, (getF fs x.1).now, if 64 * x.2 < (getF fs x.1).now.length then putL (getF fs x.1).last (64 * x.2) (sectorL (getF fs x.1).now x.2) else (getF fs x.1).last⟩

def Rk.crash (r : Rk) (keep : List Int) : Rk :=
  if r.down then r else { r with fs := ((lives keep 0 r.q).foldl survF r.fs).map fun x => ⟨x.n, x.last, x.last⟩, q := [], down := true, armed := 0 }

def fitsB (a : Int) (s : List UInt8) : Bool := decide (0 ≤ a ∧ a ≤ 16777216 ∧ a + s.length ≤ 16777216)

def Rk.comes (r : Rk) (f a : Int) (s : List UInt8) : Rk :=
  if r.down = true ∨ r.armed = 0 then r else
  if r.armed ≠ 1 then { r with armed := r.armed - 1 } else
  (if 0 ≤ f ∧ f < 16 ∧ fitsB a s = true then ({ r with armed := 0 } : Rk).add f.toNat a.toNat s else { r with armed := 0 }).crash r.keep

def Rk.may (r : Rk) (f : Int) : Int := if r.down then 8 else if 0 ≤ f ∧ f < 16 then 0 else 1

def Rk.put (r : Rk) (f a : Int) (s : List UInt8) : Rk × Int :=
  if r.may f ≠ 0 then (r, r.may f) else if a < 0 then (r, 1) else if fitsB a s = false then (r, 6) else (r.add f.toNat a.toNat s, 0)

def Rk.write (r : Rk) (f a : Int) (s : List UInt8) : Rk × Int := (r.comes f a s).put f a s

def Rk.settle (r : Rk) (f : Nat) (s : List UInt8) : Rk := { r with fs := setF r.fs ⟨f, s, s⟩, q := r.q.filter fun x => x.1 != f }

def Rk.syn (r : Rk) (f : Int) : Rk × Int :=
  if r.may f ≠ 0 then (r, r.may f) else if 0 < r.lost then ({ r with lost := r.lost - 1 }, 9) else (r.settle f.toNat (getF r.fs f).now, 0)

def Rk.sync (r : Rk) (f : Int) : Rk × Int := (r.comes 0 0 []).syn f

def Rk.tru (r : Rk) (f n : Int) : Rk × Int :=
  if r.may f ≠ 0 then (r, r.may f) else if n < 0 ∨ n > (getF r.fs f).now.length then (r, 1) else (r.settle f.toNat ((getF r.fs f).now.take n.toNat), 0)

def Rk.truncate (r : Rk) (f n : Int) : Rk × Int := (r.comes 0 0 []).tru f n

/-- The reference's disk r is as the disk d is. -/
structure Rep (r : Rk) (d : Dk) : Prop where
  now : ∀ f : Nat, f < 16 → (getF r.fs f).now = d.F.text f
  last : ∀ f : Nat, f < 16 → (getF r.fs f).last = d.D.text f
  q : r.q = d.q
  lost : r.lost = d.lost
  down : r.down = d.down
  armed : r.armed = d.calls
  keep : d.calls ≠ 0 → r.keep = d.keep
  nums : Nums r.fs
  ok : d.Ok

theorem new_rep : Rep Rk.new Dk.new := ⟨fun _ _ => rfl, fun _ _ => rfl, rfl, rfl, rfl, rfl, fun _ => rfl, ⟨by simp [Rk.new], by simp [Rk.new]⟩, Dk.new_ok⟩

variable {r : Rk} {d : Dk}

theorem Rep.add (h : Rep r d) {f a : Nat} {s : List UInt8} (hf : f < 16) (hm : a + s.length ≤ 16777216) : Rep (r.add f a s) (if s = [] then d else d.add f a s) := by
  unfold Rk.add
  by_cases hs : s = []
  · rw [if_pos hs, if_pos hs]; exact h
  rw [if_neg hs, if_neg hs]
  refine ⟨fun g hg => ?_, fun g hg => ?_, ?_, h.lost, h.down, h.armed, h.keep, h.nums.set (by simp only; omega), h.ok.add hf hs hm⟩
  · rw [getF_set]
    show _ = (d.F.put f a s).text g
    by_cases e : g = f
    · subst e
      rw [if_pos rfl, put_text (h.ok.zF g) hs, ← h.now g hf]
    · rw [if_neg (by simp only; omega), put_text_other e]
      exact h.now g hg
  · rw [getF_set]
    show _ = d.D.text g
    by_cases e : g = f
    · subst e
      rw [if_pos rfl]
      exact h.last g hf
    · rw [if_neg (by simp only; omega)]
      exact h.last g hg
  · show pend f (a / 64) (touch a s.length) r.q = pend f (a / 64) (touch a s.length) d.q
    rw [h.q]

/-- What survives. -/
structure Half (fs : List Rf) (d : Dk) : Prop where
  now : ∀ f : Nat, f < 16 → (getF fs f).now = d.F.text f
  last : ∀ f : Nat, f < 16 → (getF fs f).last = d.D.text f
  nums : Nums fs
  zF : ∀ f p, d.F.sz f ≤ p → d.F.B f p = 0
  zD : ∀ f p, d.D.sz f ≤ p → d.D.B f p = 0
  le : ∀ f, d.D.sz f ≤ d.F.sz f
  mx : ∀ f, d.F.sz f ≤ 16777216

theorem Half.live {fs : List Rf} (h : Half fs d) {x : Nat × Nat} (hx : x.1 < 16 ∧ 64 * x.2 < d.F.sz x.1) : Half (survF fs x) (d.live x) := by
  have hn := h.now x.1 hx.1
  have hl := h.last x.1 hx.1
  have hlen : (getF fs x.1).now.length = d.F.sz x.1 := by rw [hn, Img.text_length]
  unfold survF
  rw [if_pos (by rw [hlen]; exact hx.2)]
  refine ⟨fun g hg => ?_, fun g hg => ?_, h.nums.set (by simp only; omega), h.zF, ?_, ?_, h.mx⟩
  · rw [getF_set]
    show _ = d.F.text g
    by_cases e : g = x.1
    · subst e
      rw [if_pos rfl]
      exact hn
    · rw [if_neg (by simp only; omega)]
      exact h.now g hg
  · rw [getF_set]
    by_cases e : g = x.1
    · subst e
      rw [if_pos rfl, live_text (h.zF x.1) (h.zD x.1) (h.le x.1) hx.2, hn, hl]
    · rw [if_neg (by simp only; omega), live_text_other e]
      exact h.last g hg
  · intro g p hp
    have e : (d.live x).D.sz g = if g = x.1 then max (d.D.sz g) (min (64 * (x.2 + 1)) (d.F.sz g)) else d.D.sz g := rfl
    rw [e] at hp
    show (if g = x.1 ∧ p / 64 = x.2 then d.F.B g p else d.D.B g p) = 0
    by_cases e2 : g = x.1
    · rw [if_pos e2] at hp
      by_cases e3 : p / 64 = x.2
      · rw [if_pos ⟨e2, e3⟩]; exact h.zF g p (by omega)
      · rw [if_neg (fun hh => e3 hh.2)]; exact h.zD g p (by omega)
    · rw [if_neg e2] at hp
      rw [if_neg (fun hh => e2 hh.1)]; exact h.zD g p hp
  · intro g
    have e : (d.live x).D.sz g = if g = x.1 then max (d.D.sz g) (min (64 * (x.2 + 1)) (d.F.sz g)) else d.D.sz g := rfl
    rw [e]
    have := h.le g
    show _ ≤ d.F.sz g
    split <;> omega

theorem Half.lives : ∀ (l : List (Nat × Nat)) {fs : List Rf} {d : Dk}, Half fs d → (∀ x ∈ l, x.1 < 16 ∧ 64 * x.2 < d.F.sz x.1) → Half (l.foldl survF fs) (l.foldl Dk.live d)
  | [], _, _, h, _ => h
  | x :: l, _, _, h, hx => Half.lives l (h.live (hx x (List.mem_cons_self ..))) (fun y hy => hx y (List.mem_cons_of_mem _ hy))

theorem Rep.half (h : Rep r d) : Half r.fs d := ⟨h.now, h.last, h.nums, h.ok.zF, h.ok.zD, h.ok.le, h.ok.mx⟩

theorem Rep.crash (h : Rep r d) (keep : List Int) : Rep (r.crash keep) (d.crash keep) := by
  have hok := h.ok.crash keep
  unfold Rk.crash
  unfold Dk.crash at hok ⊢
  rw [h.down]
  cases hd : d.down with
  | true => simpa using h
  | false =>
    rw [hd] at hok
    simp only [Bool.false_eq_true, if_false] at hok ⊢
    rw [h.q]
    have hh := Half.lives (lives keep 0 d.q) h.half (fun x hx => h.ok.pq x (lives_sub keep d.q 0 x hx))
    obtain ⟨-, -, -, -, hl, -, -⟩ := live_F d (lives keep 0 d.q)
    refine ⟨fun f hf => ?_, fun f hf => ?_, rfl, ?_, rfl, rfl, fun e => absurd rfl e, hh.nums.map, hok⟩
    · rw [getF_map]; exact hh.last f hf
    · rw [getF_map]; exact hh.last f hf
    · rw [hl]; exact h.lost

theorem Rep.armed_to (h : Rep r d) (n : Nat) (hn : n ≠ 0 → d.calls ≠ 0) : Rep { r with armed := n } { d with calls := n } :=
  ⟨h.now, h.last, h.q, h.lost, h.down, rfl, fun e => h.keep (hn e), h.nums, h.ok.with_ rfl rfl rfl⟩

theorem Rep.settle (h : Rep r d) {f : Nat} (hf : f < 16) : Rep (r.settle f (getF r.fs f).now) (d.settle f) := by
  obtain ⟨hok, hB, hsz⟩ := h.ok.settle f
  refine ⟨fun g hg => ?_, fun g hg => ?_, ?_, h.lost, h.down, h.armed, h.keep, h.nums.set (by simp only; omega), hok⟩
  · show (getF (setF r.fs _) g).now = d.F.text g
    rw [getF_set]
    by_cases e : g = f
    · subst e
      rw [if_pos rfl]
      exact h.now g hg
    · rw [if_neg (by simp only; omega)]
      exact h.now g hg
  · show (getF (setF r.fs _) g).last = (d.settle f).D.text g
    rw [getF_set]
    by_cases e : g = f
    · subst e
      rw [if_pos rfl]
      exact (h.now g hg).trans (text_eq hsz.symm (fun p _ => (hB p).symm))
    · rw [if_neg (by simp only; omega), h.last g hg]
      refine text_eq ?_ (fun p _ => ?_)
      · show d.D.sz g = if g = f then _ else _
        rw [if_neg e]
      · show d.D.B g p = if g = f ∧ (f, p / 64) ∈ d.q then _ else _
        rw [if_neg (fun hh => e hh.1)]
  · show (r.q.filter _) = d.q.filter _
    rw [h.q]

theorem Rep.trim (h : Rep r d) {f n : Nat} (hf : f < 16) (hn : n ≤ d.F.sz f) : Rep (r.settle f ((getF r.fs f).now.take n)) (d.trim f n) := by
  have h1 := h.settle hf
  have hok := h.ok.trim hn
  obtain ⟨_, hB, hsz⟩ := h.ok.settle f
  refine ⟨fun g hg => ?_, fun g hg => ?_, h1.q, h.lost, h.down, h.armed, h.keep, h.nums.set (by simp only; omega), hok⟩
  · show (getF (setF r.fs _) g).now = (d.F.cut f n).text g
    rw [getF_set]
    by_cases e : g = f
    · subst e
      rw [if_pos rfl, cut_text hn, ← h.now g hg]
    · rw [if_neg (by simp only; omega), cut_text_other e]
      exact h.now g hg
  · show (getF (setF r.fs _) g).last = ((d.settle f).D.cut f n).text g
    have h2 := h1.last g hg
    rw [getF_set]
    by_cases e : g = f
    · subst e
      rw [if_pos rfl, cut_text (by omega), ← h2]
      show _ = List.take n (getF (setF r.fs _) _).last
      rw [getF_set, if_pos rfl]
    · rw [if_neg (by simp only; omega), cut_text_other e, ← h2]
      show _ = (getF (setF r.fs _) _).last
      rw [getF_set, if_neg (by simp only; omega)]

theorem Rep.may (h : Rep r d) (f : Int) : r.may f = d.chk f := by
  unfold Rk.may Dk.chk
  rw [h.down]

theorem crash_down (d : Dk) (hd : d.down = false) (keep : List Int) : (d.crash keep).down = true := by
  unfold Dk.crash
  rw [hd]
  rfl

theorem fin_one {d : Dk} {K : List Int} (hd : d.down = false) (hc : d.calls = 1) (hk : d.keep = K) (e : Int) : d.fin e = (({ d with calls := 0 } : Dk).crash K, 8) := by
  subst hk
  unfold Dk.fin
  rw [if_neg (by rw [hd, hc]; simp), if_pos hc]

theorem Rep.write (h : Rep r d) (f a : Int) (s : List UInt8) : Rep (r.write f a s).1 (d.write f a s).1 ∧ (r.write f a s).2 = (d.write f a s).2 := by
  unfold Rk.write
  -- the disk's put against the reference's
  have hput : ∀ {r : Rk} {d : Dk}, Rep r d → d.chk f = 0 → Rep (r.put f a s).1 (d.put f.toNat a s).1 ∧ (r.put f a s).2 = (d.put f.toNat a s).2 := by
    intro r d h hc
    obtain ⟨h1, h2, h3⟩ := Dk.chk_ok hc
    unfold Rk.put Dk.put
    rw [h.may, hc, if_neg (by simp)]
    by_cases ha : a < 0
    · rw [if_pos ha, if_pos ha]; exact ⟨h, rfl⟩
    · rw [if_neg ha, if_neg ha]
      by_cases hb : a > 16777216 - (s.length : Int)
      · rw [if_pos hb, if_pos (by unfold fitsB; rw [decide_eq_false_iff_not]; omega)]; exact ⟨h, rfl⟩
      · rw [if_neg hb, if_neg (by unfold fitsB; rw [decide_eq_false_iff_not, Classical.not_not]; omega)]
        have := h.add (f := f.toNat) (a := a.toNat) (s := s) (by omega) (by omega)
        by_cases hs : s = []
        · rw [if_pos hs] at this ⊢
          exact ⟨this, rfl⟩
        · rw [if_neg hs] at this ⊢
          exact ⟨this, rfl⟩
  have hbad : ∀ {r : Rk} {d : Dk}, Rep r d → d.chk f ≠ 0 → r.put f a s = (r, d.chk f) := by
    intro r d h hc
    unfold Rk.put
    rw [h.may, if_pos hc]
  unfold Dk.write
  by_cases hdn : d.down = true
  · have hc : d.chk f = 8 := by unfold Dk.chk; rw [hdn]; rfl
    rw [hc, if_neg (by decide)]
    unfold Rk.comes Dk.fin
    rw [if_pos (Or.inl (h.down.trans hdn)), if_pos (Or.inl hdn), hbad h (by rw [hc]; decide), hc]
    exact ⟨h, rfl⟩
  · have hdf : d.down = false := by simpa using hdn
    have hrd : r.down = false := h.down.trans hdf
    by_cases h0 : d.calls = 0
    · have hcm : r.comes f a s = r := by unfold Rk.comes; rw [if_pos (Or.inr (h.armed.trans h0))]
      rw [hcm]
      by_cases hc : d.chk f = 0
      · rw [if_pos hc]
        have hk : (d.put f.toNat a s).1.calls = 0 := by
          unfold Dk.put
          repeat' split
          all_goals exact h0
        obtain ⟨h1, h2⟩ := hput h hc
        unfold Dk.fin
        rw [if_pos (Or.inr hk)]
        exact ⟨h1, h2⟩
      · rw [if_neg hc, hbad h hc]
        unfold Dk.fin
        rw [if_pos (Or.inr h0)]
        exact ⟨h, rfl⟩
    · by_cases h1 : d.calls = 1
      · -- the crash comes
        have hres : ∀ (r' : Rk) (d' : Dk), Rep r' d' → d'.down = true → Rep (r'.put f a s).1 d' ∧ (r'.put f a s).2 = 8 := by
          intro r' d' h' hd'
          have hc : d'.chk f = 8 := by unfold Dk.chk; rw [hd']; rfl
          rw [hbad h' (by rw [hc]; decide), hc]
          exact ⟨h', rfl⟩
        have hcm : r.comes f a s = (if 0 ≤ f ∧ f < 16 ∧ fitsB a s = true then ({ r with armed := 0 } : Rk).add f.toNat a.toNat s else { r with armed := 0 }).crash d.keep := by
          rw [← h.keep h0]
          unfold Rk.comes
          rw [if_neg (by rw [hrd, h.armed, h1]; simp), if_neg (by rw [h.armed, h1]; simp)]
        rw [hcm]
        have hz := h.armed_to 0 (fun e => absurd rfl e)
        by_cases hc : d.chk f = 0
        · obtain ⟨c1, c2, c3⟩ := Dk.chk_ok hc
          rw [if_pos hc]
          have hp : Rep (if 0 ≤ f ∧ f < 16 ∧ fitsB a s = true then ({ r with armed := 0 } : Rk).add f.toNat a.toNat s else { r with armed := 0 }) { (d.put f.toNat a s).1 with calls := 0 } ∧ (d.put f.toNat a s).1.calls = 1 ∧ (d.put f.toNat a s).1.down = false ∧ (d.put f.toNat a s).1.keep = d.keep := by
            unfold Dk.put
            by_cases ha : a < 0
            · rw [if_pos ha, if_neg (by unfold fitsB; rw [decide_eq_true_iff]; omega)]
              exact ⟨hz, h1, hdf, rfl⟩
            · rw [if_neg ha]
              by_cases hb : a > 16777216 - (s.length : Int)
              · rw [if_pos hb, if_neg (by unfold fitsB; rw [decide_eq_true_iff]; omega)]
                exact ⟨hz, h1, hdf, rfl⟩
              · rw [if_neg hb, if_pos ⟨c1, c2, by unfold fitsB; rw [decide_eq_true_iff]; omega⟩]
                have := hz.add (f := f.toNat) (a := a.toNat) (s := s) (by omega) (by omega)
                by_cases hs : s = []
                · rw [if_pos hs] at this ⊢
                  exact ⟨this, h1, hdf, rfl⟩
                · rw [if_neg hs] at this ⊢
                  exact ⟨this, h1, hdf, rfl⟩
          obtain ⟨hp1, hp2, hp3, hp4⟩ := hp
          rw [fin_one hp3 hp2 hp4]
          exact hres _ _ (hp1.crash d.keep) (crash_down { (d.put f.toNat a s).1 with calls := 0 } hp3 _)
        · rw [if_neg hc, if_neg (fun hh => hc (by unfold Dk.chk; rw [hdf]; simp; omega))]
          rw [fin_one hdf h1 rfl]
          exact hres _ _ (hz.crash d.keep) (crash_down { d with calls := 0 } hdf _)
      · have hcm : r.comes f a s = { r with armed := r.armed - 1 } := by
          unfold Rk.comes
          rw [if_neg (by rw [hrd, h.armed]; simp [h0]), if_pos (by rw [h.armed]; exact h1)]
        rw [hcm, h.armed]
        have hz := h.armed_to (d.calls - 1) (fun _ => h0)
        by_cases hc : d.chk f = 0
        · rw [if_pos hc]
          obtain ⟨p1, p2⟩ := hput hz hc
          have hk : (d.put f.toNat a s).1.calls = d.calls ∧ (d.put f.toNat a s).1.down = false ∧ (Dk.put { d with calls := d.calls - 1 } f.toNat a s).1 = { (d.put f.toNat a s).1 with calls := d.calls - 1 } ∧ (Dk.put { d with calls := d.calls - 1 } f.toNat a s).2 = (d.put f.toNat a s).2 := by
            unfold Dk.put
            repeat' split
            all_goals exact ⟨rfl, hdf, rfl, rfl⟩
          obtain ⟨k1, k2, k3, k4⟩ := hk
          unfold Dk.fin
          rw [if_neg (by rw [k1, k2]; simp [h0]), if_neg (by rw [k1]; exact h1), k1, ← k3, ← k4]
          exact ⟨p1, p2⟩
        · rw [if_neg hc, hbad hz hc]
          unfold Dk.fin
          rw [if_neg (by rw [hdf]; simp [h0]), if_neg h1]
          exact ⟨hz, rfl⟩

/-- A call that is counted, and that crashes ahead of what it does. -/
theorem Rep.counted (h : Rep r d) (f : Int) (X : Dk → Dk × Int) (Y : Rk → Rk × Int) (hbad : ∀ r : Rk, r.may f ≠ 0 → Y r = (r, r.may f))
    (hgood : ∀ (r : Rk) (d : Dk), Rep r d → d.chk f = 0 → Rep (Y r).1 (X d).1 ∧ (Y r).2 = (X d).2) (hX : ∀ d : Dk, (X d).1.calls = d.calls ∧ (X d).1.down = d.down)
    (hXc : ∀ (d : Dk) (n : Nat), X { d with calls := n } = ({ (X d).1 with calls := n }, (X d).2)) :
    Rep (Y (r.comes 0 0 [])).1 (if d.chk f = 0 ∧ d.calls ≠ 1 then (X d).1.fin (X d).2 else d.fin (d.chk f)).1 ∧ (Y (r.comes 0 0 [])).2 = (if d.chk f = 0 ∧ d.calls ≠ 1 then (X d).1.fin (X d).2 else d.fin (d.chk f)).2 := by
  have hbd : ∀ {r : Rk} {d : Dk}, Rep r d → d.chk f ≠ 0 → Y r = (r, d.chk f) := by
    intro r d h hc
    rw [hbad r (by rw [h.may]; exact hc), h.may]
  by_cases hdn : d.down = true
  · have hc : d.chk f = 8 := by unfold Dk.chk; rw [hdn]; rfl
    rw [hc, if_neg (fun hh => absurd hh.1 (by decide))]
    unfold Rk.comes Dk.fin
    rw [if_pos (Or.inl (h.down.trans hdn)), if_pos (Or.inl hdn), hbd h (by rw [hc]; decide), hc]
    exact ⟨h, rfl⟩
  · have hdf : d.down = false := by simpa using hdn
    have hrd : r.down = false := h.down.trans hdf
    by_cases h0 : d.calls = 0
    · have hcm : r.comes 0 0 [] = r := by unfold Rk.comes; rw [if_pos (Or.inr (h.armed.trans h0))]
      rw [hcm]
      by_cases hc : d.chk f = 0
      · rw [if_pos ⟨hc, by omega⟩]
        obtain ⟨h1, h2⟩ := hgood r d h hc
        unfold Dk.fin
        rw [if_pos (Or.inr ((hX d).1.trans h0))]
        exact ⟨h1, h2⟩
      · rw [if_neg (fun hh => hc hh.1), hbd h hc]
        unfold Dk.fin
        rw [if_pos (Or.inr h0)]
        exact ⟨h, rfl⟩
    · by_cases h1 : d.calls = 1
      · have hcm : r.comes 0 0 [] = ({ r with armed := 0 } : Rk).crash d.keep := by
          rw [← h.keep h0]
          unfold Rk.comes
          rw [if_neg (by rw [hrd, h.armed, h1]; simp), if_neg (by rw [h.armed, h1]; simp)]
          split
          · unfold Rk.add
            rw [if_pos rfl]
          · rfl
        rw [hcm, if_neg (fun hh => hh.2 h1), fin_one hdf h1 rfl]
        have hz := (h.armed_to 0 (fun e => absurd rfl e)).crash d.keep
        have hcr : (({ d with calls := 0 } : Dk).crash d.keep).down = true := crash_down { d with calls := 0 } hdf _
        have hc : (({ d with calls := 0 } : Dk).crash d.keep).chk f = 8 := by unfold Dk.chk; rw [hcr]; rfl
        rw [hbd hz (by rw [hc]; decide), hc]
        exact ⟨hz, rfl⟩
      · have hcm : r.comes 0 0 [] = { r with armed := r.armed - 1 } := by
          unfold Rk.comes
          rw [if_neg (by rw [hrd, h.armed]; simp [h0]), if_pos (by rw [h.armed]; exact h1)]
        rw [hcm, h.armed]
        have hz := h.armed_to (d.calls - 1) (fun _ => h0)
        by_cases hc : d.chk f = 0
        · rw [if_pos ⟨hc, h1⟩]
          obtain ⟨p1, p2⟩ := hgood _ _ hz hc
          rw [hXc] at p1 p2
          unfold Dk.fin
          rw [if_neg (by rw [(hX d).1, (hX d).2, hdf]; simp [h0]), if_neg (by rw [(hX d).1]; exact h1), (hX d).1]
          exact ⟨p1, p2⟩
        · rw [if_neg (fun hh => hc hh.1), hbd hz hc]
          unfold Dk.fin
          rw [if_neg (by rw [hdf]; simp [h0]), if_neg h1]
          exact ⟨hz, rfl⟩

theorem Rep.sync (h : Rep r d) (f : Int) : Rep (r.sync f).1 (d.sync f).1 ∧ (r.sync f).2 = (d.sync f).2 := by
  refine h.counted f (fun d => d.syn f.toNat) (fun r => r.syn f) ?_ ?_ ?_ ?_
  · intro r hm
    unfold Rk.syn
    rw [if_pos hm]
  · intro r d h hc
    obtain ⟨c1, c2, c3⟩ := Dk.chk_ok hc
    have hfn : ((f.toNat : Nat) : Int) = f := by omega
    show Rep (r.syn f).1 (d.syn f.toNat).1 ∧ (r.syn f).2 = (d.syn f.toNat).2
    unfold Rk.syn Dk.syn
    rw [h.may, hc, if_neg (by simp), h.lost]
    by_cases hl : 0 < d.lost
    · rw [if_pos hl, if_pos hl]
      exact ⟨⟨h.now, h.last, h.q, rfl, h.down, h.armed, h.keep, h.nums, h.ok.with_ rfl rfl rfl⟩, rfl⟩
    · rw [if_neg hl, if_neg hl]
      have := h.settle (f := f.toNat) (by omega)
      rw [hfn] at this
      exact ⟨this, rfl⟩
  · intro d
    show (d.syn f.toNat).1.calls = d.calls ∧ (d.syn f.toNat).1.down = d.down
    unfold Dk.syn
    split <;> exact ⟨rfl, rfl⟩
  · intro d n
    show (Dk.syn { d with calls := n } f.toNat) = _
    unfold Dk.syn
    split <;> rfl

theorem Rep.truncate (h : Rep r d) (f n : Int) : Rep (r.truncate f n).1 (d.truncate f n).1 ∧ (r.truncate f n).2 = (d.truncate f n).2 := by
  refine h.counted f (fun d => d.tru f.toNat n) (fun r => r.tru f n) ?_ ?_ ?_ ?_
  · intro r hm
    unfold Rk.tru
    rw [if_pos hm]
  · intro r d h hc
    obtain ⟨c1, c2, c3⟩ := Dk.chk_ok hc
    have hfn : ((f.toNat : Nat) : Int) = f := by omega
    have hlen : (getF r.fs f).now.length = d.F.sz f.toNat := by
      have := h.now f.toNat (by omega)
      rw [hfn] at this
      rw [this, Img.text_length]
    show Rep (r.tru f n).1 (d.tru f.toNat n).1 ∧ (r.tru f n).2 = (d.tru f.toNat n).2
    unfold Rk.tru Dk.tru
    rw [h.may, hc, if_neg (by simp), hlen]
    by_cases hl : n < 0 ∨ n > (d.F.sz f.toNat : Int)
    · rw [if_pos hl, if_pos hl]
      exact ⟨h, rfl⟩
    · rw [if_neg hl, if_neg hl]
      have := h.trim (f := f.toNat) (n := n.toNat) (by omega) (by omega)
      rw [hfn] at this
      exact ⟨this, rfl⟩
  · intro d
    show (d.tru f.toNat n).1.calls = d.calls ∧ (d.tru f.toNat n).1.down = d.down
    unfold Dk.tru
    split <;> exact ⟨rfl, rfl⟩
  · intro d k
    show (Dk.tru { d with calls := k } f.toNat n) = _
    unfold Dk.tru
    split <;> rfl
end

end Go.Proofs.YtanecondopbfhaaGreatDoor
