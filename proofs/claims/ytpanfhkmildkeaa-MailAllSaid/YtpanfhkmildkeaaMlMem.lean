/- Boxes of letters in memory: a box with a row of boxes, each a chain of links. No function of the program. -/
import Derived.Test.YtpanfhkmildkeaaCells
namespace Go.Proofs.Ytpanfhkmildkeaa
open Go.RowKit

/-- A letter. -/
structure Let where
  s : Txt
  set : Int
def letCell (l : Let) : List Value := [.string ⟨l.s.toArray⟩, .int .u8 l.set]
theorem letCell_len (l : Let) : (letCell l).length = 2 := rfl
abbrev letV (l : Let) : Value := .agg #[.string ⟨l.s.toArray⟩, .int .u8 l.set]
def let0 : Let := ⟨[], 0⟩

/-- A pointer to a block, or none. -/
def ptrO : Option Nat → Value
  | none => .pointer none
  | some x => .pointer (some ⟨x, 0, none⟩)
theorem ptrO_none {l : List Nat} (h : l = []) : ptrO l.head? = .pointer none := by subst h; rfl
/-- Numbered values in an array. -/
def cxA (n : Nat) (cx : Nat → Value) : Array Value := ((List.range n).map cx).toArray
theorem cxA_get {n i : Nat} (cx : Nat → Value) (h : i < n) : (cxA n cx)[i]? = some (cx i) := by simp [cxA, h]
theorem cxA_set {n i : Nat} (cx : Nat → Value) (v : Value) : (cxA n cx).setIfInBounds i v = cxA n (updF cx i v) := by
  apply Array.ext_getElem?
  intro j
  by_cases hj : j < n
  · by_cases e : i = j
    · subst e
      rw [cxA_get _ hj, updF_same]
      simp [cxA, hj]
    · rw [cxA_get _ hj, updF_ne _ _ (Ne.symm e), Array.getElem?_setIfInBounds_ne e, cxA_get _ hj]
  · rw [Array.getElem?_eq_none (by simp [cxA]; omega), Array.getElem?_eq_none (by simp [cxA]; omega)]
theorem cxA_const {n : Nat} (z : Array Value) (cx : Nat → Value) (hz : z.size = n) (h : ∀ i, i < n → z[i]? = some (cx i)) : z = cxA n cx := by
  apply Array.ext_getElem?
  intro j
  by_cases hj : j < n
  · rw [cxA_get _ hj, h j hj]
  · rw [Array.getElem?_eq_none (by omega), Array.getElem?_eq_none (by simp [cxA]; omega)]
def lkA (le : Nat → Let) (nx : Nat → Option Nat) (x : Nat) : Array Value := #[.string ⟨(le x).s.toArray⟩, .int .u8 (le x).set, ptrO (nx x)]
/-- The boxes in memory: the row, the links that were ever in it. -/
structure MR (w : World) (B b g n : Nat) (ids : List Nat) (le : Nat → Let) (nx : Nat → Option Nat) (cx : Nat → Value) (tot : Int) : Prop where
  low : B ≤ w.heap.size
  lowb : B ≤ b
  lowg : B ≤ g
  box : w.heap[b]? = some (.cells #[.slice (some ⟨g, 0, none⟩) n n, .int .i64 tot] 49 (0, 0))
  row : w.heap[g]? = some (.cells (cxA (n * 3) cx) 54 (0, 0))
  link : ∀ x ∈ ids, B ≤ x ∧ w.heap[x]? = some (.cells (lkA le nx x) 59 (0, 0))
/-- Its blocks. -/
def MS (b g : Nat) (ids : List Nat) (x : Nat) : Prop := x = b ∨ x = g ∨ x ∈ ids
section
variable {w w' : World} {B b g n : Nat} {ids : List Nat} {le : Nat → Let} {nx : Nat → Option Nat} {cx : Nat → Value} {tot : Int}
theorem MR.kinds (q : MR w B b g n ids le nx cx tot) {x : Nat} (hx : MS b g ids x) : B ≤ x ∧ ∃ c ty, w.heap[x]? = some (.cells c ty (0, 0)) ∧ (ty = 49 ∨ ty = 54 ∨ ty = 59) := by
  rcases hx with rfl | rfl | hx
  · exact ⟨q.lowb, _, _, q.box, .inl rfl⟩
  · exact ⟨q.lowg, _, _, q.row, .inr (.inl rfl)⟩
  · exact ⟨(q.link x hx).1, _, _, (q.link x hx).2, .inr (.inr rfl)⟩
theorem MR.lt (q : MR w B b g n ids le nx cx tot) {x : Nat} (hx : MS b g ids x) : x < w.heap.size := by
  obtain ⟨_, c, ty, h, _⟩ := q.kinds hx
  exact (Array.getElem?_eq_some_iff.1 h).1
theorem MR.keep (q : MR w B b g n ids le nx cx tot) (hz : B ≤ w'.heap.size) (hk : ∀ x, MS b g ids x → w'.heap[x]? = w.heap[x]?) : MR w' B b g n ids le nx cx tot :=
  ⟨hz, q.lowb, q.lowg, (hk _ (.inl rfl)).trans q.box, (hk _ (.inr (.inl rfl))).trans q.row, fun x hx => ⟨(q.link x hx).1, (hk x (.inr (.inr hx))).trans (q.link x hx).2⟩⟩
theorem MR.later (q : MR w B b g n ids le nx cx tot) (hb : Below w.heap.size w w') : MR w' B b g n ids le nx cx tot :=
  q.keep (Nat.le_trans q.low hb.size) fun _ hx => hb.block _ (q.lt hx)
theorem MR.onlyS {S : Nat → Prop} (q : MR w B b g n ids le nx cx tot) (ho : OnlyS S w w') (hS : ∀ x, MS b g ids x → ¬ S x) : MR w' B b g n ids le nx cx tot :=
  q.keep (Nat.le_trans q.low ho.size) fun x hx => ho.block x (q.lt hx) (hS x hx)
theorem MR.not_other (q : MR w B b g n ids le nx cx tot) {x : Nat} {c : Array Value} {ty : TypeId} (h : w.heap[x]? = some (.cells c ty (0, 0))) (h1 : ty ≠ 49) (h2 : ty ≠ 54) (h3 : ty ≠ 59) : ¬ MS b g ids x := fun hx => by
  obtain ⟨_, c', ty', e, e2⟩ := q.kinds hx
  rw [h] at e; injection e with e; injection e with _ e
  rcases e2 with rfl | rfl | rfl
  · exact h1 e
  · exact h2 e
  · exact h3 e
theorem MR.bg (q : MR w B b g n ids le nx cx tot) : b ≠ g := by
  rintro rfl
  have := q.box
  rw [q.row] at this; injection this with this; injection this with _ this; exact absurd this (by decide)
theorem MR.xb (q : MR w B b g n ids le nx cx tot) {x : Nat} (hx : x ∈ ids) : x ≠ b := by
  rintro rfl
  have := q.box
  rw [(q.link x hx).2] at this; injection this with this; injection this with _ this; exact absurd this (by decide)
theorem MR.xg (q : MR w B b g n ids le nx cx tot) {x : Nat} (hx : x ∈ ids) : x ≠ g := by
  rintro rfl
  have := q.row
  rw [(q.link x hx).2] at this; injection this with this; injection this with _ this; exact absurd this (by decide)
theorem MR.cellB (q : MR w B b g n ids le nx cx tot) : w.cell? ⟨b, 0, none⟩ = some (.slice (some ⟨g, 0, none⟩) n n) ∧ w.cell? ⟨b, 1, none⟩ = some (.int .i64 tot) :=
  ⟨by rw [cell_of_row w b 0 _ _ _ q.box]; rfl, by rw [cell_of_row w b 1 _ _ _ q.box]; rfl⟩
theorem MR.cellR (q : MR w B b g n ids le nx cx tot) {p : Nat} (hp : p < n * 3) : w.cell? ⟨g, p, none⟩ = some (cx p) := by
  rw [cell_of_row w g p _ _ _ q.row, cxA_get _ hp]
theorem MR.cellL (q : MR w B b g n ids le nx cx tot) {x : Nat} (hx : x ∈ ids) : w.cell? ⟨x, 0, none⟩ = some (.string ⟨(le x).s.toArray⟩) ∧ w.cell? ⟨x, 1, none⟩ = some (.int .u8 (le x).set) ∧ w.cell? ⟨x, 2, none⟩ = some (ptrO (nx x)) :=
  ⟨by rw [cell_of_row w x 0 _ _ _ (q.link x hx).2]; rfl, by rw [cell_of_row w x 1 _ _ _ (q.link x hx).2]; rfl, by rw [cell_of_row w x 2 _ _ _ (q.link x hx).2]; rfl⟩
theorem MR.frozen (q : MR w B b g n ids le nx cx tot) {x : Nat} (hx : MS b g ids x) (j : Nat) : w.frozen? ⟨x, j, none⟩ = false := by
  obtain ⟨_, c, ty, h, _⟩ := q.kinds hx
  simp [World.frozen?, h]
/-- A cell of the row is stored into. -/
theorem MR.storeX (q : MR w B b g n ids le nx cx tot) (p : Nat) (v : Value) : MR (w.setCell ⟨g, p, none⟩ v) B b g n ids le nx (updF cx p v) tot ∧ OnlyS (MS b g ids) w (w.setCell ⟨g, p, none⟩ v) := by
  have hne : ∀ y, y ≠ g → (w.setCell ⟨g, p, none⟩ v).heap[y]? = w.heap[y]? := fun y hy => Below.heap_setCell _ _ _ _ hy
  refine ⟨⟨by rw [World.size_setCell]; exact q.low, q.lowb, q.lowg, (hne _ q.bg).trans q.box, ?_, fun x hx => ⟨(q.link x hx).1, (hne _ (q.xg hx)).trans (q.link x hx).2⟩⟩, (OnlyS.refl _ _).setCell (p := ⟨g, p, none⟩) (.inr (.inl rfl)) _⟩
  rw [heap_setCell_same w g p _ _ _ q.row, cxA_set]
/-- A link's next one is stored. -/
theorem MR.storeN (q : MR w B b g n ids le nx cx tot) {x : Nat} (hx : x ∈ ids) (y : Option Nat) : MR (w.setCell ⟨x, 2, none⟩ (ptrO y)) B b g n ids le (updF nx x y) cx tot ∧ OnlyS (MS b g ids) w (w.setCell ⟨x, 2, none⟩ (ptrO y)) := by
  have hne : ∀ z, z ≠ x → (w.setCell ⟨x, 2, none⟩ (ptrO y)).heap[z]? = w.heap[z]? := fun z hz => Below.heap_setCell _ _ _ _ hz
  refine ⟨⟨by rw [World.size_setCell]; exact q.low, q.lowb, q.lowg, (hne _ (Ne.symm (q.xb hx))).trans q.box, (hne _ (Ne.symm (q.xg hx))).trans q.row, fun z hz => ⟨(q.link z hz).1, ?_⟩⟩, (OnlyS.refl _ _).setCell (p := ⟨x, 2, none⟩) (.inr (.inr hx)) _⟩
  by_cases e : z = x
  · subst e
    rw [heap_setCell_same w z 2 _ _ _ (q.link z hz).2]
    simp [lkA, updF_same]
  · rw [hne z e, (q.link z hz).2]
    simp [lkA, updF_ne _ _ e]
/-- How many there are is stored. -/
theorem MR.storeT (q : MR w B b g n ids le nx cx tot) (t : Int) : MR (w.setCell ⟨b, 1, none⟩ (.int .i64 t)) B b g n ids le nx cx t ∧ OnlyS (MS b g ids) w (w.setCell ⟨b, 1, none⟩ (.int .i64 t)) := by
  have hne : ∀ y, y ≠ b → (w.setCell ⟨b, 1, none⟩ (.int .i64 t)).heap[y]? = w.heap[y]? := fun y hy => Below.heap_setCell _ _ _ _ hy
  refine ⟨⟨by rw [World.size_setCell]; exact q.low, q.lowb, q.lowg, ?_, (hne _ (Ne.symm q.bg)).trans q.row, fun x hx => ⟨(q.link x hx).1, (hne _ (q.xb hx)).trans (q.link x hx).2⟩⟩, (OnlyS.refl _ _).setCell (p := ⟨b, 1, none⟩) (.inl rfl) _⟩
  rw [heap_setCell_same w b 1 _ _ _ q.box]
  simp
/-- A new link. -/
theorem MR.newLink (q : MR w B b g n ids le nx cx tot) (l : Let) {o : Obj} (ho : o = .cells #[.string ⟨l.s.toArray⟩, .int .u8 l.set, .pointer none] 59) : MR (w.alloc o) B b g n (w.heap.size :: ids) (updF le w.heap.size l) (updF nx w.heap.size none) cx tot := by
  subst ho
  have q1 := q.later (below_alloc1 w (.cells #[.string ⟨l.s.toArray⟩, .int .u8 l.set, .pointer none] 59))
  refine ⟨q1.low, q1.lowb, q1.lowg, q1.box, q1.row, fun x hx => ?_⟩
  by_cases e : x = w.heap.size
  · subst e
    refine ⟨q.low, ?_⟩
    rw [heap_alloc_new]
    simp [lkA, updF_same, ptrO]
  · rcases List.mem_cons.1 hx with h | h
    · exact absurd h e
    · obtain ⟨h1, h2⟩ := q1.link x h
      refine ⟨h1, ?_⟩
      rw [h2]
      simp [lkA, updF_ne _ _ e]
/-- A chain: each one's next is the one behind it. -/
def Chn (nx : Nat → Option Nat) (l : List Nat) : Prop := ∀ i (h : i < l.length), nx l[i] = l[i + 1]?
theorem chn_congr {nx nx' : Nat → Option Nat} {l : List Nat} (h : Chn nx l) (e : ∀ x ∈ l, nx' x = nx x) : Chn nx' l := fun i hi => (e _ (List.getElem_mem hi)).trans (h i hi)
theorem chn_tail {nx : Nat → Option Nat} {x : Nat} {l : List Nat} (h : Chn nx (x :: l)) : Chn nx l ∧ nx x = l.head? := by
  refine ⟨fun i hi => h (i + 1) (Nat.succ_lt_succ hi), ?_⟩
  have := h 0 (by simp)
  simp at this
  rw [this]
  cases l <;> rfl
theorem chn_one {nx : Nat → Option Nat} {x : Nat} (h : nx x = none) : Chn nx [x] := fun i hi => by
  obtain rfl : i = 0 := by simpa using hi
  simpa using h
/-- One behind the last. -/
theorem chn_snoc {nx : Nat → Option Nat} {l : List Nat} {y x : Nat} (h : Chn nx (l ++ [y])) (hn : (l ++ [y]).Nodup) (hx : x ∉ l ++ [y]) (hx0 : nx x = none) : Chn (updF nx y (some x)) (l ++ [y] ++ [x]) := fun i hi => by
  have hl : i < l.length + 2 := by simp at hi; omega
  by_cases e : i = l.length + 1
  · subst e
    have e1 : (l ++ [y] ++ [x])[l.length + 1] = x := by simp
    rw [e1, updF_ne _ _ (by rintro rfl; exact hx (by simp)), hx0]
    simp
  · by_cases e2 : i = l.length
    · subst e2
      have e1 : (l ++ [y] ++ [x])[l.length] = y := by simp
      rw [e1, updF_same]
      simp
    · have hil : i < l.length := by omega
      have hi1 : i < (l ++ [y]).length := by rw [List.length_append]; show i < l.length + 1; omega
      have e1 : (l ++ [y] ++ [x])[i] = (l ++ [y])[i] := List.getElem_append_left hi1
      have e3 : (l ++ [y])[i] ≠ y := fun h2 => by
        have h4 : (l ++ [y])[l.length]'(by simp) = y := by simp
        exact List.pairwise_iff_getElem.1 hn i l.length hi1 (by simp) hil (h2.trans h4.symm)
      rw [e1, updF_ne _ _ e3]
      exact (h i hi1).trans (List.getElem?_append_left (by rw [List.length_append]; show i + 1 < l.length + 1; omega)).symm
/-- Boxes: each worker's links. -/
structure MOk (w : World) (B b g n : Nat) (ids : List Nat) (le : Nat → Let) (nx : Nat → Option Nat) (cx : Nat → Value) (tot : Int) (ls : Nat → List Nat) : Prop where
  mr : MR w B b g n ids le nx cx tot
  sub : ∀ j, j < n → ∀ x ∈ ls j, x ∈ ids
  nodup : ∀ j, j < n → (ls j).Nodup
  apart : ∀ j k, j < n → k < n → j ≠ k → ∀ x ∈ ls j, x ∉ ls k
  first : ∀ j, j < n → cx (j * 3) = ptrO (ls j).head?
  last : ∀ j, j < n → cx (j * 3 + 1) = ptrO (ls j).getLast?
  count : ∀ j, j < n → cx (j * 3 + 2) = .int .i64 (ls j).length
  chain : ∀ j, j < n → Chn nx (ls j)
theorem MOk.keep {ls : Nat → List Nat} (q : MOk w B b g n ids le nx cx tot ls) (m : MR w' B b g n ids le nx cx tot) : MOk w' B b g n ids le nx cx tot ls := ⟨m, q.sub, q.nodup, q.apart, q.first, q.last, q.count, q.chain⟩
theorem updF_row {cx : Nat → Value} {j k i : Nat} {v0 v1 v2 : Value} (hi : i < 3) : updF (updF (updF cx (j * 3) v0) (j * 3 + 1) v1) (j * 3 + 2) v2 (k * 3 + i) = if k = j then (if i = 0 then v0 else if i = 1 then v1 else v2) else cx (k * 3 + i) := by
  unfold updF
  by_cases e : k = j
  · subst e
    rw [if_pos rfl]
    obtain rfl | rfl | rfl : i = 0 ∨ i = 1 ∨ i = 2 := by omega
    · rw [if_neg (by omega), if_neg (by omega), if_pos (by omega), if_pos rfl]
    · rw [if_neg (by omega), if_pos rfl, if_neg (by omega), if_pos rfl]
    · rw [if_pos rfl, if_neg (by omega), if_neg (by omega)]
  · rw [if_neg e, if_neg (by omega), if_neg (by omega), if_neg (by omega)]
/-- All three of a worker's cells are changed, and so are its links. -/
theorem MOk.change {ls : Nat → List Nat} (q : MOk w B b g n ids le nx cx tot ls) {ids' : List Nat} {le' : Nat → Let} {nx' : Nat → Option Nat} {cx' : Nat → Value} {j : Nat} {l' : List Nat} {tot' : Int} (m : MR w' B b g n ids' le' nx' cx' tot')
    (hc0 : cx' (j * 3) = ptrO l'.head?) (hc1 : cx' (j * 3 + 1) = ptrO l'.getLast?) (hc2 : cx' (j * 3 + 2) = .int .i64 l'.length) (hco : ∀ k, k ≠ j → ∀ i, i < 3 → cx' (k * 3 + i) = cx (k * 3 + i))
    (h1 : ∀ x ∈ l', x ∈ ids') (h2 : ∀ x ∈ ids, x ∈ ids') (h3 : l'.Nodup) (h4 : ∀ k, k < n → k ≠ j → ∀ x ∈ l', x ∉ ls k) (h5 : Chn nx' l') (h6 : ∀ k, k < n → k ≠ j → ∀ x ∈ ls k, nx' x = nx x) :
    MOk w' B b g n ids' le' nx' cx' tot' (updF ls j l') := by
  refine ⟨m, fun k hk x hx => ?_, fun k hk => ?_, fun k i hk hi hki x hx => ?_, fun k hk => ?_, fun k hk => ?_, fun k hk => ?_, fun k hk => ?_⟩
  · by_cases e : k = j
    · subst e; rw [updF_same] at hx; exact h1 x hx
    · rw [updF_ne _ _ e] at hx; exact h2 x (q.sub k hk x hx)
  · by_cases e : k = j
    · subst e; rw [updF_same]; exact h3
    · rw [updF_ne _ _ e]; exact q.nodup k hk
  · by_cases e : k = j
    · subst e
      rw [updF_same] at hx
      rw [updF_ne _ _ (Ne.symm hki)]
      exact h4 i hi (Ne.symm hki) x hx
    · rw [updF_ne _ _ e] at hx
      by_cases e2 : i = j
      · subst e2
        rw [updF_same]
        exact fun h => h4 k hk e x h hx
      · rw [updF_ne _ _ e2]
        exact q.apart k i hk hi hki x hx
  · by_cases e : k = j
    · subst e; rw [updF_same]; exact hc0
    · rw [updF_ne _ _ e]; exact (hco k e 0 (by omega)).trans (q.first k hk)
  · by_cases e : k = j
    · subst e; rw [updF_same]; exact hc1
    · rw [updF_ne _ _ e]; exact (hco k e 1 (by omega)).trans (q.last k hk)
  · by_cases e : k = j
    · subst e; rw [updF_same]; exact hc2
    · rw [updF_ne _ _ e]; exact (hco k e 2 (by omega)).trans (q.count k hk)
  · by_cases e : k = j
    · subst e; rw [updF_same]; exact h5
    · rw [updF_ne _ _ e]; exact chn_congr (q.chain k hk) (h6 k hk e)
end

end Go.Proofs.Ytpanfhkmildkeaa
