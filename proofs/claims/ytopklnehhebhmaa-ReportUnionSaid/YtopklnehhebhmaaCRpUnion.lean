/-
  ReportUnion: reports merged once more are the same, and merged with the keys of another one they have both: the law answers true, and its arguments read as they did.
  For every input, whatever its size and however its parts share memory; nothing is asked of it but what the statement's own form asks.
-/
import Derived.WalkKit
import Derived.Maps.OwnOps
import Derived.Maps.OwnSet
import Derived.Maps.Views
import Derived.ProofKit
import Derived.OpenShut
import Derived.Test.YtopklnehhebhmaaRows
import Derived.Test.YtopklnehhebhmaaPk01
import Derived.Test.YtopklnehhebhmaaPk02
import Derived.Test.YtopklnehhebhmaaPk05
import Derived.Test.YtopklnehhebhmaaPk07

/- Heaps in a row, plainly: what one step up, or down, does to their order; and of any order which one is at the top. -/
namespace Go.Proofs.Ytopklnehhebhmaa

/-- An order that tells of any two which one is ahead, or neither. -/
structure Ahd {α : Type} (lt : α → α → Bool) : Prop where
  asym : ∀ a b, lt a b = true → lt b a = false
  trans : ∀ a b c, lt b a = false → lt c b = false → lt c a = false

section
variable {α : Type} {lt : α → α → Bool} {n : Nat} {f : Nat → α}
def HeapF (lt : α → α → Bool) (n : Nat) (f : Nat → α) : Prop := ∀ k, 1 ≤ k → k < n → lt (f k) (f ((k - 1) / 2)) = false
def UpF (lt : α → α → Bool) (n : Nat) (f : Nat → α) (j : Nat) : Prop := (∀ k, 1 ≤ k → k < n → k ≠ j → lt (f k) (f ((k - 1) / 2)) = false) ∧ (1 ≤ j → ∀ k, 1 ≤ k → k < n → (k - 1) / 2 = j → lt (f k) (f ((j - 1) / 2)) = false)
def HoleF (lt : α → α → Bool) (n : Nat) (f : Nat → α) (i : Nat) : Prop := (∀ k, 1 ≤ k → k < n → k ≠ i → (k - 1) / 2 ≠ i → lt (f k) (f ((k - 1) / 2)) = false) ∧ (1 ≤ i → ∀ k, 1 ≤ k → k < n → (k - 1) / 2 = i → lt (f k) (f ((i - 1) / 2)) = false)
def swpF (f : Nat → α) (i j : Nat) : Nat → α := fun k => if k = i then f j else if k = j then f i else f k
theorem swpF_l (i j : Nat) : swpF f i j i = f j := by simp [swpF]
theorem swpF_r (i j : Nat) : swpF f i j j = f i := by
  unfold swpF
  split
  · rename_i h; rw [h]
  · simp
theorem swpF_ne {i j k : Nat} (h1 : k ≠ i) (h2 : k ≠ j) : swpF f i j k = f k := by simp [swpF, h1, h2]

theorem up_zero (h : UpF lt n f 0) : HeapF lt n f := fun k h1 h2 => h.1 k h1 h2 (by omega)
theorem up_exit {j : Nat} (h : UpF lt n f j) (e : lt (f j) (f ((j - 1) / 2)) = false) : HeapF lt n f := fun k h1 h2 => by
  by_cases hk : k = j
  · rw [hk]; exact e
  · exact h.1 k h1 h2 hk
theorem up_step (o : Ahd lt) {j : Nat} (h : UpF lt n f j) (hj : 1 ≤ j) (hn : j < n) (e : lt (f j) (f ((j - 1) / 2)) = true) : UpF lt n (swpF f ((j - 1) / 2) j) ((j - 1) / 2) := by
  obtain ⟨p, hp⟩ : ∃ p, p = (j - 1) / 2 := ⟨_, rfl⟩
  rw [← hp] at e ⊢
  have hpj : p < j := by omega
  obtain ⟨h1, h2⟩ := h
  have h2 := h2 hj
  rw [← hp] at h2
  constructor
  · intro k k1 k2 k3
    by_cases hkj : k = j
    · subst hkj
      rw [swpF_r, ← hp, swpF_l]
      exact o.asym _ _ e
    · rw [swpF_ne k3 hkj]
      by_cases q1 : (k - 1) / 2 = p
      · rw [q1, swpF_l]
        have := h1 k k1 k2 hkj
        rw [q1] at this
        exact o.trans _ _ _ (o.asym _ _ e) this
      · by_cases q2 : (k - 1) / 2 = j
        · rw [q2, swpF_r]
          exact h2 k k1 k2 q2
        · rw [swpF_ne q1 q2]
          exact h1 k k1 k2 hkj
  · intro p1 k k1 k2 k3
    have hpp : lt (f p) (f ((p - 1) / 2)) = false := h1 p p1 (by omega) (by omega)
    rw [swpF_ne (k := (p - 1) / 2) (by omega) (by omega)]
    by_cases hkj : k = j
    · subst hkj
      rw [swpF_r]
      exact hpp
    · rw [swpF_ne (by omega) hkj]
      have := h1 k k1 k2 hkj
      rw [k3] at this
      exact o.trans _ _ _ hpp this
theorem down_step (o : Ahd lt) {i c : Nat} (h : HoleF lt n f i) (hc : c = 2 * i + 1 ∨ c = 2 * i + 2) (hn : c < n) (hd : ∀ d, 1 ≤ d → d < n → (d - 1) / 2 = i → lt (f d) (f c) = false) (e : lt (f c) (f i) = true) :
    HoleF lt n (swpF f i c) c ∧ lt (swpF f i c c) (swpF f i c ((c - 1) / 2)) = false := by
  have hp : (c - 1) / 2 = i := by omega
  have hic : i < c := by omega
  obtain ⟨h1, h2⟩ := h
  refine ⟨⟨?_, ?_⟩, ?_⟩
  · intro k k1 k2 k3 k4
    by_cases hki : k = i
    · subst hki
      rw [swpF_l, swpF_ne (by omega) (by omega)]
      exact h2 k1 c (by omega) hn hp
    · rw [swpF_ne hki k3]
      by_cases q : (k - 1) / 2 = i
      · rw [q, swpF_l]
        exact hd k k1 k2 q
      · rw [swpF_ne q k4]
        exact h1 k k1 k2 hki q
  · intro _ k k1 k2 k3
    rw [hp, swpF_l, swpF_ne (by omega) (by omega)]
    have := h1 k k1 k2 (by omega) (by omega)
    rw [k3] at this
    exact this
  · rw [hp, swpF_r, swpF_l]
    exact o.asym _ _ e
theorem down_exit {i : Nat} (h : HoleF lt n f i) (hd : ∀ d, 1 ≤ d → d < n → (d - 1) / 2 = i → lt (f d) (f i) = false) : UpF lt n f i := by
  refine ⟨fun k k1 k2 k3 => ?_, h.2⟩
  by_cases q : (k - 1) / 2 = i
  · rw [q]; exact hd k k1 k2 q
  · exact h.1 k k1 k2 k3 q
/-- Which child is at least as much ahead as any. -/
theorem child_left (o : Ahd lt) {i : Nat} (h : ¬ 2 * i + 2 < n ∨ lt (f (2 * i + 2)) (f (2 * i + 1)) = false) : ∀ d, 1 ≤ d → d < n → (d - 1) / 2 = i → lt (f d) (f (2 * i + 1)) = false := by
  intro d d1 d2 d3
  obtain rfl | rfl : d = 2 * i + 1 ∨ d = 2 * i + 2 := by omega
  · cases hb : lt (f (2 * i + 1)) (f (2 * i + 1))
    · rfl
    · exact (o.asym _ _ hb).symm.trans hb |> fun h => by cases h
  · rcases h with h | h
    · omega
    · exact h
theorem child_right (o : Ahd lt) {i : Nat} (h : lt (f (2 * i + 2)) (f (2 * i + 1)) = true) : ∀ d, 1 ≤ d → d < n → (d - 1) / 2 = i → lt (f d) (f (2 * i + 2)) = false := by
  intro d d1 d2 d3
  obtain rfl | rfl : d = 2 * i + 1 ∨ d = 2 * i + 2 := by omega
  · exact o.asym _ _ h
  · cases hb : lt (f (2 * i + 2)) (f (2 * i + 2))
    · rfl
    · exact (o.asym _ _ hb).symm.trans hb |> fun h => by cases h
/-- None is ahead of the top. -/
theorem heap_top (o : Ahd lt) (h : HeapF lt n f) : ∀ k, k < n → lt (f k) (f 0) = false := by
  intro k
  induction k using Nat.strongRecOn with
  | ind k ih =>
    intro hk
    by_cases h0 : k = 0
    · subst h0
      cases hb : lt (f 0) (f 0)
      · rfl
      · exact (o.asym _ _ hb).symm.trans hb |> fun h => by cases h
    · have h1 := h k (by omega) hk
      have h2 := ih ((k - 1) / 2) (by omega) (by omega)
      exact o.trans _ _ _ h2 h1
/-- A heap that grows by one behind it, or whose last one is struck. -/
theorem heap_snoc (h : HeapF lt n f) : UpF lt (n + 1) f n := ⟨fun k k1 k2 k3 => h k k1 (by omega), fun _ k k1 k2 k3 => by omega⟩
theorem heap_less (h : HeapF lt (n + 1) f) : HeapF lt n f := fun k k1 k2 => h k k1 (by omega)
/-- The last one put into a heap's place: all else is in order. -/
theorem heap_hole (o : Ahd lt) (h : HeapF lt (n + 1) f) {i : Nat} : HoleF lt n (swpF f i n) i := by
  refine ⟨fun k k1 k2 k3 k4 => ?_, fun i1 k k1 k2 k3 => ?_⟩
  · rw [swpF_ne k3 (by omega), swpF_ne k4 (by omega)]
    exact h k k1 (by omega)
  · rw [swpF_ne (by omega) (by omega), swpF_ne (by omega) (by omega)]
    have a1 := h k k1 (by omega)
    rw [k3] at a1
    exact o.trans _ _ _ (h i i1 (by omega)) a1
theorem heapF_congr {g : Nat → α} (h : HeapF lt n f) (e : ∀ k, k < n → f k = g k) : HeapF lt n g := fun k k1 k2 => by rw [← e k k2, ← e _ (by omega)]; exact h k k1 k2
theorem upF_congr {g : Nat → α} {j : Nat} (hj : j < n) (h : UpF lt n f j) (e : ∀ k, k < n → f k = g k) : UpF lt n g j :=
  ⟨fun k k1 k2 k3 => by rw [← e k k2, ← e _ (by omega)]; exact h.1 k k1 k2 k3, fun j1 k k1 k2 k3 => by rw [← e k k2, ← e _ (by omega)]; exact h.2 j1 k k1 k2 k3⟩
theorem holeF_congr {g : Nat → α} {i : Nat} (hi : i ≤ n) (h : HoleF lt n f i) (e : ∀ k, k < n → f k = g k) : HoleF lt n g i :=
  ⟨fun k k1 k2 k3 k4 => by rw [← e k k2, ← e _ (by omega)]; exact h.1 k k1 k2 k3 k4, fun i1 k k1 k2 k3 => by rw [← e k k2, ← e _ (by omega)]; exact h.2 i1 k k1 k2 k3⟩
end

/-- Two of a row, swapped. -/
def swpL (l : List Nat) (i j : Nat) : List Nat := (l.set i (l.getD j 0)).set j (l.getD i 0)
theorem swpL_len (l : List Nat) (i j : Nat) : (swpL l i j).length = l.length := by simp [swpL]
theorem swpL_perm {l : List Nat} {i j : Nat} (hi : i < l.length) (hj : j < l.length) : (swpL l i j).Perm l := by
  have h := Array.swap_perm (xs := l.toArray) (i := i) (j := j) (by simpa using hi) (by simpa using hj)
  rw [List.swap_toArray] at h
  have h2 := Array.perm_iff_toList_perm.1 h
  simpa [swpL, List.getD, hi, hj] using h2
theorem swpL_get {l : List Nat} {i j : Nat} (hi : i < l.length) (hj : j < l.length) (k : Nat) : (swpL l i j).getD k 0 = swpF (fun k => l.getD k 0) i j k := by
  unfold swpL swpF
  by_cases h1 : k = j
  · subst h1
    by_cases h2 : k = i
    · subst h2; simp [List.getD, hi]
    · simp [List.getD, hj, h2]
  · by_cases h2 : k = i
    · subst h2; simp [List.getD, hi, Ne.symm h1]
    · simp [List.getD, h1, h2, Ne.symm h1, Ne.symm h2]

end Go.Proofs.Ytopklnehhebhmaa

/- Texts in a queue's order, plainly: which one is ahead, and where one is put. -/
namespace Go.Proofs.Ytopklnehhebhmaa

/-- One text comes ahead of another. -/
def aheadT (a b : Txt) : Bool := if a.length = b.length then decide (a < b) else decide (b.length < a.length)
theorem aheadT_ord : Ahd aheadT := by
  refine ⟨fun a b h => ?_, fun a b c h1 h2 => ?_⟩
  · unfold aheadT at *
    by_cases e : a.length = b.length
    · rw [if_pos e] at h
      rw [if_pos e.symm]
      simp only [decide_eq_true_eq, decide_eq_false_iff_not] at *
      exact fun h' => List.lt_irrefl _ (List.lt_trans h h')
    · rw [if_neg e] at h
      rw [if_neg (Ne.symm e)]
      simp only [decide_eq_true_eq, decide_eq_false_iff_not] at *
      omega
  · unfold aheadT at *
    by_cases e1 : b.length = a.length <;> by_cases e2 : c.length = b.length
    · rw [if_pos e1] at h1
      rw [if_pos e2] at h2
      rw [if_pos (e2.trans e1)]
      simp only [decide_eq_false_iff_not] at *
      exact List.not_lt.2 (List.le_trans (List.not_lt.1 h1) (List.not_lt.1 h2))
    · rw [if_pos e1] at h1
      rw [if_neg e2] at h2
      rw [if_neg (by omega)]
      simp only [decide_eq_false_iff_not] at *
      omega
    · rw [if_neg e1] at h1
      rw [if_pos e2] at h2
      rw [if_neg (by omega)]
      simp only [decide_eq_false_iff_not] at *
      omega
    · rw [if_neg e1] at h1
      rw [if_neg e2] at h2
      simp only [decide_eq_false_iff_not] at *
      rw [if_neg (by omega)]
      simp only [decide_eq_false_iff_not] at *
      omega
/-- Neither is ahead of the other one: they are the same. -/
theorem aheadT_eq {a b : Txt} (h1 : aheadT a b = false) (h2 : aheadT b a = false) : a = b := by
  unfold aheadT at *
  by_cases e : a.length = b.length
  · rw [if_pos e] at h1
    rw [if_pos e.symm] at h2
    simp only [decide_eq_false_iff_not] at *
    exact List.le_antisymm (List.not_lt.1 h2) (List.not_lt.1 h1)
  · rw [if_neg e] at h1
    rw [if_neg (Ne.symm e)] at h2
    simp only [decide_eq_false_iff_not] at *
    omega
/-- The document's Put. -/
def putT : List Txt → Txt → List Txt
  | [], s => [s]
  | x :: l, s => if aheadT s x = true then s :: x :: l else x :: putT l s
theorem putT_perm (l : List Txt) (s : Txt) : (putT l s).Perm (s :: l) := by
  induction l with
  | nil => exact List.Perm.refl _
  | cons x l ih =>
    unfold putT
    split
    · exact List.Perm.refl _
    · exact (ih.cons x).trans (List.Perm.swap _ _ _)
/-- In order: no later one comes ahead of an earlier one. -/
def SortT (l : List Txt) : Prop := l.Pairwise fun x y => aheadT y x = false
theorem ahead_self (a : Txt) : aheadT a a = false := by
  cases h : aheadT a a
  · rfl
  · have := aheadT_ord.asym _ _ h
    rw [h] at this
    exact this
theorem putT_sort {l : List Txt} (h : SortT l) (s : Txt) : SortT (putT l s) := by
  induction l with
  | nil => unfold putT SortT; simp
  | cons x l ih =>
    unfold SortT at h
    rw [List.pairwise_cons] at h
    unfold putT
    split
    · rename_i e
      unfold SortT
      rw [List.pairwise_cons, List.pairwise_cons]
      refine ⟨fun y hy => ?_, h.1, h.2⟩
      rcases List.mem_cons.1 hy with rfl | hy
      · exact aheadT_ord.asym _ _ e
      · exact aheadT_ord.trans _ _ _ (aheadT_ord.asym _ _ e) (h.1 y hy)
    · rename_i e
      unfold SortT
      rw [List.pairwise_cons]
      refine ⟨fun y hy => ?_, ih h.2⟩
      have := (putT_perm l s).subset hy
      rcases List.mem_cons.1 this with rfl | hy
      · simpa using e
      · exact h.1 y hy
/-- What is taken from the deep end is the first one. -/
theorem sort_first {l T' : List Txt} {k x : Txt} (h : SortT (x :: l)) (p : (k :: T').Perm (x :: l)) (hk : ∀ y ∈ x :: l, aheadT y k = false) : k = x ∧ T'.Perm l := by
  have hkm : k ∈ x :: l := p.subset (List.mem_cons_self)
  unfold SortT at h
  rw [List.pairwise_cons] at h
  have h1 : aheadT k x = false := by
    rcases List.mem_cons.1 hkm with rfl | hm
    · exact ahead_self _
    · exact h.1 k hm
  have e : k = x := aheadT_eq h1 (hk x (List.mem_cons_self))
  subst e
  exact ⟨rfl, p.cons_inv⟩
/-- What is taken from the other end is the last one. -/
theorem sort_last {l T' : List Txt} {k x : Txt} (h : SortT (l ++ [x])) (p : (k :: T').Perm (l ++ [x])) (hk : ∀ y ∈ l ++ [x], aheadT k y = false) : k = x ∧ T'.Perm l := by
  have hkm : k ∈ l ++ [x] := p.subset (List.mem_cons_self)
  unfold SortT at h
  rw [List.pairwise_append] at h
  have h1 : aheadT x k = false := by
    rcases List.mem_append.1 hkm with hm | hm
    · exact h.2.2 k hm x (by simp)
    · simp at hm; subst hm; exact ahead_self _
  have e : k = x := aheadT_eq (hk x (by simp)) h1
  subst e
  exact ⟨rfl, (p.trans (List.perm_append_singleton _ _)).cons_inv⟩
theorem SortT.tail {l : List Txt} {x : Txt} (h : SortT (x :: l)) : SortT l := (List.pairwise_cons.1 h).2
theorem SortT.init {l : List Txt} {x : Txt} (h : SortT (l ++ [x])) : SortT l := (List.pairwise_append.1 h).1
/-- Put's loop: what stands behind j of the list, and whether the text is among them. -/
def putTo (l : List Txt) (s : Txt) (j : Nat) : List Txt × Bool := (l.take j).foldl (fun a x => if a.2 = false ∧ aheadT s x = true then (a.1 ++ [s, x], true) else (a.1 ++ [x], a.2)) ([], false)
theorem putTo_zero (l : List Txt) (s : Txt) : putTo l s 0 = ([], false) := rfl
theorem putTo_succ {l : List Txt} {s : Txt} {j : Nat} (h : j < l.length) : putTo l s (j + 1) = if (putTo l s j).2 = false ∧ aheadT s l[j] = true then ((putTo l s j).1 ++ [s, l[j]], true) else ((putTo l s j).1 ++ [l[j]], (putTo l s j).2) := by
  unfold putTo
  rw [List.take_succ_eq_append_getElem h, List.foldl_append]
  rfl
theorem putTo_fold (s : Txt) (l : List Txt) : ∀ (a : List Txt) (d : Bool), let r := l.foldl (fun a x => if a.2 = false ∧ aheadT s x = true then (a.1 ++ [s, x], true) else (a.1 ++ [x], a.2)) (a, d); (if r.2 = true then r.1 else r.1 ++ [s]) = a ++ (if d = true then l else putT l s) := by
  induction l with
  | nil => intro a d; cases d <;> simp [putT]
  | cons x l ih =>
    intro a d
    cases d
    · by_cases e : aheadT s x = true
      · simp only [List.foldl_cons, e, and_self, if_true]
        rw [ih]
        simp [putT, e]
      · simp only [List.foldl_cons, e]
        rw [ih]
        simp [putT, e]
    · simp only [List.foldl_cons]
      rw [show (if (true = false ∧ aheadT s x = true) then (a ++ [s, x], true) else (a ++ [x], true)) = (a ++ [x], true) from if_neg (by simp)]
      rw [ih]
      simp
theorem putTo_end (l : List Txt) (s : Txt) : (if (putTo l s l.length).2 = true then (putTo l s l.length).1 else (putTo l s l.length).1 ++ [s]) = putT l s := by
  have := putTo_fold s l [] false
  unfold putTo
  rw [List.take_length]
  simpa using this
theorem putTo_len (l : List Txt) (s : Txt) (j : Nat) : (putTo l s j).1.length ≤ 2 * j := by
  induction j with
  | zero => simp [putTo_zero]
  | succ j ih =>
    by_cases h : j < l.length
    · rw [putTo_succ h]
      split
      · simp; omega
      · simp; omega
    · have e : l.take (j + 1) = l.take j := by rw [List.take_of_length_le (by omega), List.take_of_length_le (by omega)]
      unfold putTo at *
      rw [e]
      omega

end Go.Proofs.Ytopklnehhebhmaa

/- A map from texts to bools that are all true: a set, how many it has, beside other structures. -/
namespace Go.Proofs.Ytopklnehhebhmaa
open Go.RowKit Go.Maps

theorem boLaw : Keyed Try.prog 9 := string_keyed Try.underlying9
theorem boZero (w : World) : (zeroValue 4).run Try.prog w = .ok (.bool false) w := by kernel_rfl
theorem boElem (x : Bool) : plainElem (H := Unit) Try.prog 4 (.bool x) = some (.lit (.bool x), []) := plainElem_bool Try.underlying4 x
set_option maxRecDepth 100000 in
theorem boElem_inv {v : Value} {b : Bool} {ps : List MemPlace} (h : plainElem (H := Unit) Try.prog 4 v = some (.lit (.bool b), ps)) : v = .bool b := by
  unfold plainElem at h
  simp only [Try.underlying4] at h
  cases v <;> simp at h
  rw [h.1]
theorem boKey {k : Txt} (h : k.length ≤ 1000) : keyOf Try.prog 9 (.string ⟨k.toArray⟩) = some (.string k) := by
  have := WideMaps.keyOf_string_mk (P := Try.prog) Try.underlying9 (s := ⟨k.toArray⟩) (by unfold maxLen; simp [ByteArray.size]; omega)
  simpa using this
theorem bo_block {k : TypeId} {R : Value → Option (DataW Unit × List MemPlace)} {b n : Nat} {D : DataW Unit} {w w' : World} (h : w.ownsMap Try.prog k R b n D) (e : w'.heap[b]? = w.heap[b]?) : w'.ownsMap Try.prog k R b n D := by
  obtain ⟨es, c, h1, h2⟩ := h
  exact ⟨es, c, e.trans h1, h2⟩
/-- The map's texts. -/
structure BM (w : World) (mb n : Nat) (f : Txt → Bool) : Prop where
  map : ∃ M : DataW Unit, w.ownsMap Try.prog 9 (plainElem Try.prog 4) mb n M ∧ ∀ k, k.length ≤ 1000 → M.atKey (.string k) (.lit (.bool false)) = .lit (.bool (f k))
section
variable {w w' : World} {mb n : Nat} {f : Txt → Bool}
theorem BM.start (W : World) : BM (W.alloc (.map #[] 0)) W.heap.size 0 (fun _ => false) := ⟨⟨.map [], World.ownsMap_made W _ _ _, fun _ _ => rfl⟩⟩
theorem BM.keep (o : BM w mb n f) (h : w'.heap[mb]? = w.heap[mb]?) : BM w' mb n f := by
  obtain ⟨M, hM, b1⟩ := o.map
  exact ⟨⟨M, bo_block hM h, b1⟩⟩
theorem BM.lt (o : BM w mb n f) : mb < w.heap.size := by
  obtain ⟨M, hM, _⟩ := o.map
  exact hM.lt
theorem BM.mono (o : BM w mb n f) {n' : Nat} (h : n ≤ n') : BM w mb n' f := by
  obtain ⟨M, hM, b1⟩ := o.map
  exact ⟨⟨M, hM.mono h, b1⟩⟩
theorem BM.later (o : BM w mb n f) (hb : Below w.heap.size w w') : BM w' mb n f := o.keep (hb.block _ o.lt)
theorem BM.onlyS (o : BM w mb n f) {S : Nat → Prop} (ho : OnlyS S w w') (h : ¬ S mb) : BM w' mb n f := o.keep (ho.block _ o.lt h)
theorem BM.congr (o : BM w mb n f) {g : Txt → Bool} (h : ∀ k, f k = g k) : BM w mb n g := by
  have : f = g := funext h
  rw [← this]; exact o
theorem BM.not_cells (o : BM w mb n f) {c : Array Value} {ty : TypeId} {z : Nat × Nat} (h : w.heap[mb]? = some (.cells c ty z)) : False := by
  obtain ⟨M, ⟨es, ck, e1, _⟩, _⟩ := o.map
  rw [e1] at h; cases h
set_option maxRecDepth 10000 in
theorem BM.look (o : BM w mb n f) {k : Txt} (hk : k.length ≤ 1000) : (Instr.lookup 44 (.map (some mb)) (.string ⟨k.toArray⟩) false).run Try.prog w = .ok (.bool (f k)) w := by
  obtain ⟨M, hM, b1⟩ := o.map
  obtain ⟨v, ps, hr, hv⟩ := hM.lookup boLaw Try.underlying44 (boZero w) (boElem false) (boKey hk)
  rw [b1 k hk] at hv
  rw [hr, boElem_inv hv]
set_option maxRecDepth 10000 in
theorem BM.put (o : BM w mb n f) (hn : n ≤ 1000000) {k : Txt} (hk : k.length ≤ 1000) (x : Bool) :
    ∃ w', (Instr.mapUpdate 44 (.map (some mb)) (.string ⟨k.toArray⟩) (.bool x)).run Try.prog w = .ok () w' ∧ BM w' mb (n + 1) (fun q => if q = k then x else f q) ∧ OnlyS (fun y => y = mb) w w' := by
  obtain ⟨M, hM, b1⟩ := o.map
  obtain ⟨w', hr, hM', hgr⟩ := hM.update boLaw Try.underlying44 (by unfold maxLen; omega) (boKey hk) (boElem x)
  have ho : OnlyS (fun y => y = mb) w w' := ⟨hgr.os, hgr.tape, hgr.output, hgr.size, fun k hk hb => hgr.block k hk (fun e => hb (by simpa using e))⟩
  refine ⟨w', hr, ⟨⟨_, hM', fun q hq => ?_⟩⟩, ho⟩
  by_cases e : q = k
  · subst e
    rw [if_pos rfl, atKey_put_same hM.isMap (by simp [WideAt.IsKeyLit])]
  · rw [if_neg e, atKey_put_other (by intro e2; injection e2 with e2; exact e e2), b1 q hq]
set_option maxRecDepth 10000 in
theorem BM.drop (o : BM w mb n f) {k : Txt} (hk : k.length ≤ 1000) (ty : TypeId) :
    ∃ w', (Builtin.delete_ #[44, 9] ty #[.map (some mb), .string ⟨k.toArray⟩]).run Try.prog w = .ok (.tuple #[]) w' ∧ BM w' mb n (fun q => if q = k then false else f q) ∧ OnlyS (fun y => y = mb) w w' := by
  obtain ⟨M, hM, b1⟩ := o.map
  obtain ⟨w', hr, hM', ht⟩ := hM.drop boLaw Try.underlying44 (boKey hk) ty
  have hgr := ht.grown
  have ho : OnlyS (fun y => y = mb) w w' := ⟨hgr.os, hgr.tape, hgr.output, hgr.size, fun k hk hb => hgr.block k hk (fun e => hb (by simpa using e))⟩
  refine ⟨w', hr, ⟨⟨_, hM', fun q hq => ?_⟩⟩, ho⟩
  by_cases e : q = k
  · subst e
    rw [if_pos rfl, atKey_del_same]
  · rw [if_neg e, atKey_del_other (by intro e2; injection e2 with e2; exact e e2), b1 q hq]
end
/-- A set in such a map: what is in it is true there, all else isn't there; how many it has. -/
structure SM (w : World) (mb n : Nat) (f : Txt → Bool) (c : Nat) : Prop where
  map : ∃ M : DataW Unit, w.ownsMap Try.prog 9 (plainElem Try.prog 4) mb n M ∧ (∀ k, k.length ≤ 1000 → M.atKey (.string k) (.lit (.bool false)) = .lit (.bool (f k))) ∧ (∀ k, k.length ≤ 1000 → has M (.string k) = f k) ∧ size M = c ∧ ∀ kl, has M kl = true → ∃ k, kl = .string k ∧ k.length ≤ 1000
section
variable {w w' : World} {mb n c : Nat} {f : Txt → Bool}
theorem SM.bm (o : SM w mb n f c) : BM w mb n f := by
  obtain ⟨M, hM, b1, _⟩ := o.map
  exact ⟨⟨M, hM, b1⟩⟩
theorem SM.start (W : World) : SM (W.alloc (.map #[] 0)) W.heap.size 0 (fun _ => false) 0 := ⟨⟨.map [], World.ownsMap_made W _ _ _, fun _ _ => rfl, fun _ _ => rfl, rfl, fun _ h => by cases h⟩⟩
theorem SM.keep (o : SM w mb n f c) (h : w'.heap[mb]? = w.heap[mb]?) : SM w' mb n f c := by
  obtain ⟨M, hM, r⟩ := o.map
  exact ⟨⟨M, bo_block hM h, r⟩⟩
theorem SM.later (o : SM w mb n f c) (hb : Below w.heap.size w w') : SM w' mb n f c := o.keep (hb.block _ o.bm.lt)
theorem SM.onlyS (o : SM w mb n f c) {S : Nat → Prop} (ho : OnlyS S w w') (h : ¬ S mb) : SM w' mb n f c := o.keep (ho.block _ o.bm.lt h)
theorem SM.congr (o : SM w mb n f c) {g : Txt → Bool} (h : ∀ k, f k = g k) : SM w mb n g c := by
  have : f = g := funext h
  rw [← this]; exact o
theorem SM.mono (o : SM w mb n f c) {n' : Nat} (h : n ≤ n') : SM w mb n' f c := by
  obtain ⟨M, hM, r⟩ := o.map
  exact ⟨⟨M, hM.mono h, r⟩⟩
theorem SM.le (o : SM w mb n f c) : c ≤ n := by
  obtain ⟨M, hM, _, _, rfl, _⟩ := o.map
  exact hM.size_le
set_option maxRecDepth 10000 in
theorem SM.put (o : SM w mb n f c) (hn : n ≤ 1000000) {k : Txt} (hk : k.length ≤ 1000) :
    ∃ w', (Instr.mapUpdate 44 (.map (some mb)) (.string ⟨k.toArray⟩) (.bool true)).run Try.prog w = .ok () w' ∧ SM w' mb (n + 1) (fun q => if q = k then true else f q) (if f k = true then c else c + 1) ∧ OnlyS (fun y => y = mb) w w' := by
  obtain ⟨M, hM, b1, b2, b3, b4⟩ := o.map
  obtain ⟨w', hr, hM', hgr⟩ := hM.update boLaw Try.underlying44 (by unfold maxLen; omega) (boKey hk) (boElem true)
  have ho : OnlyS (fun y => y = mb) w w' := ⟨hgr.os, hgr.tape, hgr.output, hgr.size, fun k hk hb => hgr.block k hk (fun e => hb (by simpa using e))⟩
  refine ⟨w', hr, ⟨⟨_, hM', fun q hq => ?_, fun q hq => ?_, by rw [size_put (hM.tidy boLaw), b2 k hk, b3], fun kl hkl => ?_⟩⟩, ho⟩
  · by_cases e : q = k
    · subst e
      rw [if_pos rfl, atKey_put_same hM.isMap (by simp [WideAt.IsKeyLit])]
    · rw [if_neg e, atKey_put_other (by intro e2; injection e2 with e2; exact e e2), b1 q hq]
  · by_cases e : q = k
    · subst e
      rw [if_pos rfl, has_put_same hM.isMap (by simp [WideAt.IsKeyLit])]
    · rw [if_neg e, has_put_other (by intro e2; injection e2 with e2; exact e e2), b2 q hq]
  · by_cases e : kl = .string k
    · exact ⟨k, e, hk⟩
    · rw [has_put_other e] at hkl
      exact b4 kl hkl
set_option maxRecDepth 10000 in
theorem SM.drop (o : SM w mb n f c) {k : Txt} (hk : k.length ≤ 1000) (ty : TypeId) :
    ∃ w', (Builtin.delete_ #[44, 9] ty #[.map (some mb), .string ⟨k.toArray⟩]).run Try.prog w = .ok (.tuple #[]) w' ∧ SM w' mb n (fun q => if q = k then false else f q) (if f k = true then c - 1 else c) ∧ OnlyS (fun y => y = mb) w w' := by
  obtain ⟨M, hM, b1, b2, b3, b4⟩ := o.map
  obtain ⟨w', hr, hM', ht⟩ := hM.drop boLaw Try.underlying44 (boKey hk) ty
  have hgr := ht.grown
  have ho : OnlyS (fun y => y = mb) w w' := ⟨hgr.os, hgr.tape, hgr.output, hgr.size, fun k hk hb => hgr.block k hk (fun e => hb (by simpa using e))⟩
  have hs := size_del (k := .string k) (hM.tidy boLaw)
  rw [b2 k hk, b3] at hs
  refine ⟨w', hr, ⟨⟨_, hM', fun q hq => ?_, fun q hq => ?_, by cases h : f k <;> simp [h] at hs ⊢ <;> omega, fun kl hkl => ?_⟩⟩, ho⟩
  · by_cases e : q = k
    · subst e
      rw [if_pos rfl, atKey_del_same]
    · rw [if_neg e, atKey_del_other (by intro e2; injection e2 with e2; exact e e2), b1 q hq]
  · by_cases e : q = k
    · subst e
      rw [if_pos rfl, has_del_same]
    · rw [if_neg e, has_del_other (by intro e2; injection e2 with e2; exact e e2), b2 q hq]
  · by_cases e : kl = .string k
    · exact ⟨k, e, hk⟩
    · rw [has_del_other e] at hkl
      exact b4 kl hkl
theorem SM.len (o : SM w mb n f c) (ty : TypeId) : (Builtin.len_ #[44] ty #[.map (some mb)]).run Try.prog w = .ok (.int .i64 (c : Nat)) w := by
  obtain ⟨M, hM, _, _, rfl, _⟩ := o.map
  exact hM.len Try.underlying44 ty
end
end Go.Proofs.Ytopklnehhebhmaa

/- The law ReportUnion, walked. -/
namespace Go.Proofs.Ytopklnehhebhmaa
open Go.RowKit

theorem own_litK (w : World) : OwnRow (w.alloc (.cells #[] 9)) w.heap.size 9 1 strCell (.slice (some ⟨w.heap.size, 0, none⟩) 0 0) [] :=
  ⟨rfl, .inr ⟨w.heap.size, 0, #[], rfl, Nat.le_refl _, heap_alloc_new w _, Nat.le_refl _, by simp [maxLen], rfl, rfl⟩⟩

/-- One more in a set that holds a list's beginning. -/
theorem SM.more {w : World} {mb k : Nat} {Z : List Key} (h : SM w mb k (fun q => decide (q ∈ Z.take k)) k) (hk : k < Z.length) (hn : Z.Nodup) (hl : Z.length ≤ 1000) (hx : Z[k].length ≤ 1000) :
    ∃ w', (Instr.mapUpdate 44 (.map (some mb)) (.string ⟨Z[k].toArray⟩) (.bool true)).run Try.prog w = .ok () w' ∧ SM w' mb (k + 1) (fun q => decide (q ∈ Z.take (k + 1))) (k + 1) ∧ OnlyS (fun y => y = mb) w w' := by
  obtain ⟨w', h1, h2, h3⟩ := h.put (by omega) hx
  have hf : decide (Z[k] ∈ Z.take k) = false := by
    rw [decide_eq_false_iff_not]
    intro hm
    obtain ⟨j, hj, he⟩ := List.getElem_of_mem hm
    have hjk : j < k := by rw [List.length_take] at hj; omega
    rw [List.getElem_take] at he
    have := (List.nodup_iff_pairwise_ne.1 hn)
    rw [List.pairwise_iff_getElem] at this
    exact this j k (by omega) hk hjk he
  rw [if_neg (by rw [hf]; decide)] at h2
  refine ⟨w', h1, h2.congr fun q => ?_, h3⟩
  have hm : q ∈ Z.take (k + 1) ↔ q ∈ Z.take k ∨ q = Z[k] := by rw [List.take_succ_eq_append_getElem hk, List.mem_append, List.mem_singleton]
  by_cases e : q = Z[k]
  · rw [if_pos e]
    exact (decide_eq_true (hm.2 (.inr e))).symm
  · rw [if_neg e, Bool.eq_iff_iff, decide_eq_true_eq, decide_eq_true_eq, hm]
    exact ⟨.inl, fun h => h.resolve_right e⟩

set_option maxRecDepth 100000 in
set_option maxHeartbeats 8000000 in
theorem reportUnion_any (a : Option Addr) (ks : List Key) (cap : Nat) (b : Option Addr) (ls : List Key) (dap : Nat) (w : World) (hk : RowAt w a 1 strCell ks) (hcap : a = none → cap = 0) (hl : RowAt w b 1 strCell ls) (hdap : b = none → dap = 0) :
    Calls Try.prog 5 #[.slice a ks.length cap, .slice b ls.length dap] w fun r w' => r = .returned (.bool true) ∧ Below w.heap.size w w' := by
  have HK := Lib.hid hk
  have HL := Lib.hid hl
  have HF := Lib.hid fun W hW => few15_any a cap ks W (hk.later hW) hk.1
  have HG := Lib.hid fun W hW => few15_any b dap ls W (hl.later hW) hl.1
  clear hk hl
  have hmm := @run_makeMap Try.prog
  go_enter Try.func5, Try.ntmps5
  go_wp2_with fail
  refine (awake15_any w).mono ?_
  rintro r w1 ⟨rfl, hb1⟩
  go_wp2_with fail
  refine (HF.out _ hb1).mono ?_
  rintro r w2 ⟨rfl, hb2⟩
  have hb := hb1.trans (hb2.mono hb1.size)
  clear hb1 hb2 HF
  cases hf : fewK ks
  · clear hf
    go_wp2_with fail
    refine (awake15_any _).mono ?_
    rintro r w3 ⟨rfl, hb3⟩
    go_wp2
    go_ret
    exact ⟨rfl, hb.trans (hb3.mono hb.size)⟩
  obtain ⟨hkl, hkk⟩ := fewK_yes hf
  have HKK : Hid (∀ k ∈ ks, k.length ≤ 1000) := fun k h => Nat.le_trans (hkk k h) (by omega)
  clear hf hkk
  go_wp2_with fail
  refine (HG.out _ hb).mono ?_
  rintro r w3 ⟨rfl, hb3⟩
  have hbc := hb.trans (hb3.mono hb.size)
  clear hb hb3 HG
  cases hf : fewK ls
  · clear hf
    go_wp2_with fail
    refine (awake15_any _).mono ?_
    rintro r w3 ⟨rfl, hb3⟩
    go_wp2
    go_ret
    exact ⟨rfl, hbc.trans (hb3.mono hbc.size)⟩
  obtain ⟨hll, hlk⟩ := fewK_yes hf
  have HLK : Hid (∀ k ∈ ls, k.length ≤ 1000) := fun k h => Nat.le_trans (hlk k h) (by omega)
  have HB3 := Lib.hid hbc
  have HK3 := Lib.hid (HK.out.later hbc)
  have HL3 := Lib.hid (HL.out.later hbc)
  obtain ⟨hsl, hsk⟩ := sortK_short (n := 60) hkl HKK.out
  obtain ⟨htl, htk⟩ := sortK_short (n := 60) hll HLK.out
  have HSK := Lib.hid hsk
  have HTK := Lib.hid htk
  have HZ : Hid (mergeR [sortK ks, sortK ls] = mergeR [ks, ls]) := mergeR_both ks ls
  have HAG : Hid (sortK (sortK ks) = sortK ks) := (mergeR_one _).symm.trans (mergeR_again ks)
  have HZM : Hid (∀ x, x ∈ mergeR [ks, ls] ↔ x ∈ ks ++ ls) := fun x => by unfold mergeR; rw [mem_sortK]; simp
  have HZN : Hid ((mergeR [ks, ls]).Nodup) := sortK_nodup _
  have hzl : (mergeR [ks, ls]).length ≤ 120 := by
    have := sortK_len [ks, ls].flatten
    unfold mergeR
    have h2 : [ks, ls].flatten.length = ks.length + ls.length := by simp
    omega
  have HM1 := Lib.hid (mg_one true HK3.out hcap (by omega) HKK.out)
  clear hf hlk hbc HK HL hsk htk
  go_wp2_with fail
  refine HM1.out.mono ?_
  rintro r w4 ⟨xa, xc, rfl, hx4, hxn, hb4⟩
  have HM2 := Lib.hid (mg_one false (HL3.out.later hb4) hdap (by omega) HLK.out)
  have HB4 := Lib.hid hb4
  have HX4 := Lib.hid hx4
  clear HM1 hb4 hx4
  go_wp2_with fail
  refine HM2.out.mono ?_
  rintro r w5 ⟨ya, yc, rfl, hy5, hyn, hb5⟩
  have hb6 := HB4.out.trans (hb5.mono HB4.out.size)
  have hba := below_alloc2 w5 (.cells #[.slice xa (sortK ks).length xc, .bool true] 26) (.cells #[.slice ya (sortK ls).length yc, .bool false] 26)
  have hb7 := hb6.trans (hba.mono hb6.size)
  have HB7 := Lib.hid (HB3.out.trans (hb7.mono HB3.out.size))
  have HX7 := Lib.hid ((HX4.out.later hb5).later hba)
  have HY7 := Lib.hid (hy5.later hba)
  have HK7 := Lib.hid (HK3.out.later hb7)
  have HL7 := Lib.hid (HL3.out.later hb7)
  have c0 : ((w5.alloc (.cells #[.slice xa (sortK ks).length xc, .bool true] 26)).alloc (.cells #[.slice ya (sortK ls).length yc, .bool false] 26)).cell? ⟨w5.heap.size, 0, none⟩ = some (.slice xa (sortK ks).length xc) := by simp
  have c1 : ((w5.alloc (.cells #[.slice xa (sortK ks).length xc, .bool true] 26)).alloc (.cells #[.slice ya (sortK ls).length yc, .bool false] 26)).cell? ⟨w5.heap.size, 1, none⟩ = some (.bool true) := by simp
  have d0 : ((w5.alloc (.cells #[.slice xa (sortK ks).length xc, .bool true] 26)).alloc (.cells #[.slice ya (sortK ls).length yc, .bool false] 26)).cell? ⟨w5.heap.size + 1, 0, none⟩ = some (.slice ya (sortK ls).length yc) := by simp
  have d1 : ((w5.alloc (.cells #[.slice xa (sortK ks).length xc, .bool true] 26)).alloc (.cells #[.slice ya (sortK ls).length yc, .bool false] 26)).cell? ⟨w5.heap.size + 1, 1, none⟩ = some (.bool false) := by simp
  clear HM2 HB4 HX4 hb5 hb6 hb7 hba hy5 HB3 HK3 HL3
  have HM3 := mg_two (w := (w5.alloc (.cells #[.slice xa (sortK ks).length xc, .bool true] 26)).alloc (.cells #[.slice ya (sortK ls).length yc, .bool false] 26)) true HX7.out HY7.out hxn hyn (by omega) (by omega) HSK.out HTK.out
  rw [HZ.out, World.size_alloc, World.size_alloc] at HM3
  have HM3 := Lib.hid HM3
  go_wp2_with fail
  generalize hSA : sortK ks = SA at *
  generalize hSB : sortK ls = SB at *
  generalize hZZ : mergeR [ks, ls] = Z at *
  clear hSB
  have HSA := Lib.hid hSA
  have HZZ := Lib.hid hZZ
  clear hSA hZZ
  refine HM3.out.mono ?_
  rintro r w8 ⟨za, zc, rfl, hz8, hzn, hb8⟩
  have e0 := cell_later hb8 c0
  have e1 := cell_later hb8 c1
  have f1 := cell_later hb8 d1
  have HB8 := Lib.hid (HB7.out.trans (hb8.mono HB7.out.size))
  have HX8 := Lib.hid (HX7.out.later hb8)
  have HK8 := Lib.hid (HK7.out.later hb8)
  have HL8 := Lib.hid (HL7.out.later hb8)
  have HZ8 := Lib.hid hz8
  clear c0 c1 d0 d1 hb8 hz8 HB7 HX7 HY7 HK7 HL7 HM3 HZ hyn
  generalize w5.heap.size = Bx at *
  have hba := below_alloc1 w8 (.cells #[.slice za Z.length zc, .bool true] 26)
  have g0 : (w8.alloc (.cells #[.slice za Z.length zc, .bool true] 26)).cell? ⟨w8.heap.size, 0, none⟩ = some (.slice za Z.length zc) := by simp
  have e2 := cell_later hba e0
  have e3 := cell_later hba e1
  have f2 := cell_later hba f1
  have HM4 := rg_two (w := w8.alloc (.cells #[.slice za Z.length zc, .bool true] 26)) true (HK8.out.later hba) (HL8.out.later hba) hcap hdap (by omega) (by omega)
  rw [World.size_alloc, HZZ.out] at HM4
  have HM4 := Lib.hid HM4
  go_wp2_with fail
  refine HM4.out.mono ?_
  rintro r w9 ⟨va, vc, rfl, hv9, hb9⟩
  have hbb := hba.trans (hb9.mono hba.size)
  have g1 := cell_later hb9 g0
  have e4 := cell_later hb9 e2
  have e5 := cell_later hb9 e3
  have f3 := cell_later hb9 f2
  have HB9 := Lib.hid (HB8.out.trans (hbb.mono HB8.out.size))
  have HX9 := Lib.hid (HX8.out.later hbb)
  have HK9 := Lib.hid (HK8.out.later hbb)
  have HL9 := Lib.hid (HL8.out.later hbb)
  have HZ9 := Lib.hid (HZ8.out.later hbb)
  have HV9 := Lib.hid hv9
  clear g0 e0 e1 e2 e3 f1 f2 hba hb9 hbb hv9 HB8 HX8 HK8 HL8 HZ8 HM4
  generalize w8.heap.size = Bz at *
  have hba := below_alloc1 w9 (.cells #[.slice va Z.length vc, .bool true] 28)
  have h0 : (w9.alloc (.cells #[.slice va Z.length vc, .bool true] 28)).cell? ⟨w9.heap.size, 0, none⟩ = some (.slice va Z.length vc) := by simp
  have g2 := cell_later hba g1
  have e6 := cell_later hba e4
  have e7 := cell_later hba e5
  have f4 := cell_later hba f3
  have HM5 := mg_one (w := w9.alloc (.cells #[.slice va Z.length vc, .bool true] 28)) true (HX9.out.later hba) hxn (by omega) HSK.out
  rw [World.size_alloc, HAG.out] at HM5
  have HM5 := Lib.hid HM5
  go_wp2_with fail
  refine HM5.out.mono ?_
  rintro r w10 ⟨ra, rc, rfl, hr10, hrn, hb10⟩
  have hbb := hba.trans (hb10.mono hba.size)
  have h1 := cell_later hb10 h0
  have g3 := cell_later hb10 g2
  have e8 := cell_later hb10 e6
  have e9 := cell_later hb10 e7
  have f5 := cell_later hb10 f4
  have HB10 := Lib.hid (HB9.out.trans (hbb.mono HB9.out.size))
  have HX10 := Lib.hid (HX9.out.later hbb)
  have HK10 := Lib.hid (HK9.out.later hbb)
  have HL10 := Lib.hid (HL9.out.later hbb)
  have HZ10 := Lib.hid (HZ9.out.later hbb)
  have HV10 := Lib.hid (HV9.out.later hbb)
  have HR10 := Lib.hid hr10
  clear h0 g1 g2 e4 e5 e6 e7 f3 f4 hba hb10 hbb hr10 HB9 HX9 HK9 HL9 HZ9 HV9 HM5 hrn HAG HSK HTK
  generalize w9.heap.size = Bv at *
  have hba := below_alloc1 w10 (.cells #[.slice ra SA.length rc, .bool true] 26)
  have r0 : (w10.alloc (.cells #[.slice ra SA.length rc, .bool true] 26)).cell? ⟨w10.heap.size, 0, none⟩ = some (.slice ra SA.length rc) := by simp
  have h2 := cell_later hba h1
  have g4 := cell_later hba g3
  have e10 := cell_later hba e8
  have e11 := cell_later hba e9
  have f6 := cell_later hba f5
  have HBW := Lib.hid (HB10.out.trans (hba.mono HB10.out.size))
  have HXW := Lib.hid (HX10.out.later hba)
  have HKW := Lib.hid (HK10.out.later hba)
  have HLW := Lib.hid (HL10.out.later hba)
  have HZW := Lib.hid (HZ10.out.later hba)
  have HVW := Lib.hid (HV10.out.later hba)
  have HRW := Lib.hid (HR10.out.later hba)
  have HCEL : Hid (∀ W, Below (w10.alloc (.cells #[.slice ra SA.length rc, .bool true] 26)).heap.size (w10.alloc (.cells #[.slice ra SA.length rc, .bool true] 26)) W → (W.cell? ⟨Bx, 0, none⟩ = some (.slice xa SA.length xc) ∧ W.cell? ⟨Bx, 1, none⟩ = some (.bool true)) ∧ W.cell? ⟨Bx + 1, 1, none⟩ = some (.bool false) ∧ W.cell? ⟨Bz, 0, none⟩ = some (.slice za Z.length zc) ∧ W.cell? ⟨Bv, 0, none⟩ = some (.slice va Z.length vc) ∧ W.cell? ⟨w10.heap.size, 0, none⟩ = some (.slice ra SA.length rc)) := fun W hW =>
    ⟨⟨cell_later hW e10, cell_later hW e11⟩, cell_later hW f6, cell_later hW g4, cell_later hW h2, cell_later hW r0⟩
  have HS0 : Hid (SM ((w10.alloc (.cells #[.slice ra SA.length rc, .bool true] 26)).alloc (.map #[] 0)) (w10.alloc (.cells #[.slice ra SA.length rc, .bool true] 26)).heap.size 0 (fun q => decide (q ∈ Z.take 0)) 0) := (SM.start _).congr fun q => by simp
  have hbm := below_alloc1 (w10.alloc (.cells #[.slice ra SA.length rc, .bool true] 26)) (.map #[] 0)
  have k4 := cell_later hbm g4
  rw [World.size_alloc] at HS0
  go_wp2_with fail
  clear hba r0 h1 h2 g3 g4 e8 e9 e10 e11 f5 f6 HB10 HX10 HK10 HL10 HZ10 HV10 HR10
  have hmbs : w10.heap.size + 1 = (w10.alloc (.cells #[.slice ra SA.length rc, .bool true] 26)).heap.size := (World.size_alloc _ _).symm
  have hbg := HBW.out.size
  generalize w10.heap.size + 1 = mb at *
  generalize w10.heap.size = Br at *
  generalize w10.alloc (.cells #[.slice ra SA.length rc, .bool true] 26) = W10 at *
  have HMB := Lib.hid hmbs
  clear hmbs
  go_loopw [52] (fun i wr => ∃ k : Nat, k ≤ Z.length ∧ i = .int .i64 k ∧ Hid (SM wr mb k (fun q => decide (q ∈ Z.take k)) k) ∧ Hid (Below W10.heap.size W10 wr)) (fun i _ => Z.length - (intOf i).toNat)
  case atStart => exact ⟨0, Nat.zero_le _, rfl, HS0.out, hbm⟩
  case round =>
    clear HS0 hbm k4
    obtain ⟨k, hk, rfl, HM, HB⟩ := hrel
    by_cases hlt : k < Z.length
    · obtain ⟨zb, zo, rfl, z0⟩ := (HZW.out.later HB.out).str hlt
      have hxl : Z[k].length ≤ 1000 := by
        have h1 := (HZM.out Z[k]).1 (List.getElem_mem hlt)
        rcases List.mem_append.1 h1 with h1 | h1
        · exact HKK.out _ h1
        · exact HLK.out _ h1
      obtain ⟨W11, hrun, hsm, hon⟩ := HM.out.more hlt HZN.out (by omega) hxl
      have HM2 := Lib.hid hsm
      have HB2 : Hid (Below W10.heap.size W10 W11) := HB.out.trans (hon.below HB.out.size (fun y hy => by subst hy; exact Nat.le_of_eq HMB.out.symm))
      clear hsm hon hxl
      generalize Z[k] = x at *
      go_wp2_with fail
      go_roundw
      case rel => exact ⟨k + 1, by omega, by go_num, HM2.out, HB2.out⟩
      case measure => simp [intOf]; omega
    · obtain rfl : k = Z.length := by omega
      have hsm := HM.out
      rw [List.take_length] at hsm
      have HM2 := Lib.hid hsm
      have HO0 := Lib.hid (own_litK wr)
      have hb0 := below_alloc1 wr (.cells #[] 9)
      have HKv := Lib.hid ((HKW.out.later HB.out).later hb0)
      have HLr := Lib.hid (HLW.out.later HB.out)
      have HRA : Hid (a = none → cap = 0 ∧ ks = []) := fun e => ⟨hcap e, by have := HKv.out; rw [e] at this; exact row_none this⟩
      have HRB : Hid (b = none → dap = 0 ∧ ls = []) := fun e => ⟨hdap e, by have := HLr.out; rw [e] at this; exact row_none this⟩
      clear hsm HM
      obtain ⟨_, _, _, z1, _⟩ := HCEL.out _ HB.out
      go_wp2_with (first
        | (at_builtin; refine wpl_copyR (f := strCell) (n := 1) 22 9 16 (.string ByteArray.empty) Try.underlying22 infoStr rfl (by omega) (by omega) strCell_len strCell_one rfl _ _ rfl wr.heap.size _ ks rfl HO1.out b dap ls rfl HL1.out HRB.out (by omega) hz1 ?_; intro v2 w12 h3 hb3 _; rw [← HCC.out] at h3; obtain ⟨ca, cc, hv3, hat3, _⟩ := h3.form strCell_len (by omega); subst hv3; have HA3 := Lib.hid hat3; have HB3 : Hid (Below wr.heap.size wr w12) := HB1.out.trans hb3; clear h3 hb3 hat3)
        | (at_builtin; refine wpl_copyR (f := strCell) (n := 1) 22 9 16 (.string ByteArray.empty) Try.underlying22 infoStr rfl (by omega) (by omega) strCell_len strCell_one rfl _ _ rfl wr.heap.size _ [] rfl HO0.out a cap ks rfl HKv.out HRA.out (by simp; omega) hb0.size ?_; intro v1 w11 h3 hb3 _; rw [List.nil_append] at h3; have HO1 := Lib.hid h3; have hb1 : Below wr.heap.size wr w11 := hb0.trans hb3; have HB1 := Lib.hid hb1; have hz1 := hb1.size; have HL1 := Lib.hid (HLr.out.later hb1); obtain ⟨C, hCC⟩ : ∃ C, C = ks ++ ls := ⟨_, rfl⟩; have hCl : C.length ≤ 120 := (by rw [hCC, List.length_append]; omega); have HCC := Lib.hid hCC; clear hCC h3 hb3 hb1))
      have HSM12 := Lib.hid (HM2.out.later HB3.out)
      have HB12 := Lib.hid (HB.out.trans (HB3.out.mono HB.out.size))
      have HIN : Hid (∀ x ∈ C, x ∈ Z ∧ x.length ≤ 1000) := fun x hx => by
        rw [HCC.out] at hx
        refine ⟨(HZM.out x).2 hx, ?_⟩
        rcases List.mem_append.1 hx with h1 | h1
        · exact HKK.out _ h1
        · exact HLK.out _ h1
      clear HCC HM2 HB HB3 HO0 HO1 HKv HLr HRA HRB HB1 hz1 HL1 hb0 z1 HZM HKK HLK HKW HLW
      go_loopw [65] (fun i wr2 => ∃ k : Nat, k ≤ C.length ∧ i = .int .i64 k ∧ Hid (Below w12.heap.size w12 wr2)) (fun i _ => C.length - (intOf i).toNat)
      case atStart => exact ⟨0, Nat.zero_le _, rfl, Below.refl _ _⟩
      case round =>
        obtain ⟨k, hk, rfl, HB⟩ := hrel
        by_cases hlt : k < C.length
        · obtain ⟨cb, co, rfl, z0⟩ := (HA3.out.later HB.out).str hlt
          obtain ⟨hin, hxl⟩ := HIN.out _ (List.getElem_mem hlt)
          have hlook := (HSM12.out.later HB.out).bm.look hxl
          rw [decide_eq_true hin] at hlook
          clear hin hxl
          generalize C[k] = x at *
          go_wp2_with fail
          go_roundw
          case rel => exact ⟨k + 1, by omega, by go_num, HB.out⟩
          case measure => simp [intOf]; omega
        · obtain rfl : k = C.length := by omega
          have hbv := HB12.out.trans (HB.out.mono HB12.out.size)
          have HSE := Lib.hid (HSM12.out.later HB.out)
          obtain ⟨⟨p0, p1⟩, p2, p3, p4, p5⟩ := HCEL.out _ hbv
          have HQ1 : Hid (Calls Try.prog 14 #[.slice za Z.length zc, .slice va Z.length vc] _ _) := sameK_any za va zc vc Z Z _ (HZW.out.later hbv) (HVW.out.later hbv) (by omega) (by omega)
          have HQ2 : Hid (∀ W, Below W10.heap.size W10 W → Calls Try.prog 14 #[.slice ra SA.length rc, .slice xa SA.length xc] W fun r w' => r = .returned (.bool (decide (SA = SA))) ∧ Below W.heap.size W w') := fun W hW => sameK_any ra xa rc xc SA SA W (HRW.out.later hW) (HXW.out.later hW) (by omega) (by omega)
          rw [decide_eq_true rfl] at HQ1 HQ2
          have HBV := Lib.hid hbv
          clear hbv HB12 HB HSM12 HA3 HIN HZW HVW HRW HXW
          go_wp2_with fail
          refine HQ1.out.mono ?_
          rintro r w13 ⟨rfl, hb13⟩
          have hbv := HBV.out.trans (hb13.mono HBV.out.size)
          obtain ⟨⟨q0, q1⟩, q2, q3, q4, q5⟩ := HCEL.out _ hbv
          have HBV2 := Lib.hid hbv
          have HSE2 := Lib.hid (HSE.out.later hb13)
          clear hbv HBV HSE hb13 p0 p1 p2 p3 p4 p5 HQ1
          go_wp2_with fail
          refine (HQ2.out _ HBV2.out).mono ?_
          rintro r w14 ⟨rfl, hb14⟩
          have hbv := HBV2.out.trans (hb14.mono HBV2.out.size)
          obtain ⟨⟨p0, p1⟩, p2, p3, p4, p5⟩ := HCEL.out _ hbv
          have hlen : ∀ ty, (Builtin.len_ #[44] ty #[.map (some mb)]).run Try.prog w14 = .ok (.int .i64 (Z.length : Nat)) w14 := fun ty => (HSE2.out.later hb14).len ty
          have hbz := HBW.out.trans (hbv.mono HBW.out.size)
          clear hbv HBV2 HSE2 hb14 q0 q1 q2 q3 q4 q5 HQ2
          go_wp2
          go_ret
          exact ⟨rfl, hbz⟩
end Go.Proofs.Ytopklnehhebhmaa

/-
  ReportUnion: reports merged once more are the same, and merged with the keys of another one they have both: the law answers true, and its arguments read as they did.
  For every input, whatever its size and however its parts share memory; nothing is asked of it but what the statement's own form asks.
-/
namespace Go.Proofs.Ytopklnehhebhmaa.reportUnion
open Go.ChangeShapes Go.WideShapes Go.ChangeAt Go.RowKit

theorem own : ownKnob Try.prog.godebug = none := by kernel_rfl
theorem laidOut : laidOutB Try.prog = true := by kernel_rfl

set_option maxRecDepth 100000 in
theorem lifted (os : Os) (started : os.Started) (H : Type) (enc : TypeId × Value → H) :
    ReturnsInHanded {} Try.checked os 5 .any (Rows.reportUnionSpec.pre6 enc Try.prog Try.f5 Rows.reportUnionRow.domain false) (Rows.reportUnionSpec.post enc Try.prog Try.f5 false true false false) := by
  refine returnsInHanded_of_change (C := Try.checked) own started (by kernel_rfl) Try.func5
    (ChangeSpec.witness6 (enc := enc) (C := Try.checked) false ⟨#[], #[.slice none 0 0, .slice none 0 0], []⟩ 8 (by kernel_rfl) (by kernel_rfl) (by kernel_rfl) (by kernel_rfl)) ?_
  intro W base args ds gs before hval0 hW hcnd _
  have hval : ∀ (j : Nat) t v, Try.f5.params[j]? = some t → args[j]? = some v → Value.okWide Try.prog W .any base t v := hval0
  have hW' := hW
  obtain ⟨p, q, hA0, hV, rfl, hfz, hnd⟩ := hW
  have hA : DataW.TrodAll enc Try.prog W 0 (fun _ => true) true Try.f5.params.toList args.toList ds p := hA0
  rw [Try.params5] at hA hval
  obtain ⟨v0, vs0, d0, ds0, p0, q0, hargs, rfl, rfl, h0, r0⟩ := trodAll_cons hA
  obtain ⟨v1, vs1, d1, ds1, p1, q1, rfl, rfl, rfl, h1, r1⟩ := trodAll_cons r0
  obtain ⟨rfl, rfl, rfl⟩ := trodAll_nil r1
  obtain rfl : args = #[v0, v1] := by cases args; simp_all
  obtain ⟨rfl, rfl⟩ := trodVars_none hV
  have k0 := h0
  have lt0 : ∀ x ∈ p0, x.block < W.heap.size := by obtain ⟨m, hm⟩ := k0; exact DataW.trod_lt m _ _ _ hm
  have k1 := h1
  have lt1 : ∀ x ∈ p1, x.block < W.heap.size := by obtain ⟨m, hm⟩ := k1; exact DataW.trod_lt m _ _ _ hm
  obtain ⟨a0, l0, cap0, rfl, hx0, hn0, hm0⟩ := txts_of_trod (hval 0 22 v0 rfl rfl) h0
  obtain ⟨a1, l1, cap1, rfl, hx1, hn1, hm1⟩ := txts_of_trod (hval 1 22 v1 rfl rfl) h1
  clear hA0 hval0
  refine (reportUnion_any a0 l0 cap0 a1 l1 cap1 W hx0 hn0 hx1 hn1).mono fun e W' ⟨he, bel⟩ => ?_
  subst he
  exact ⟨_, rfl, _, _, _, [], _, [], hW', trodAll_mk1 (shut_bool Try.underlying4 _), (trodAll_cons_mk (Below.trod laidOut (by kernel_rfl) (of_decide_eq_true (by kernel_rfl)) k0 bel lt0) (trodAll_cons_mk (Below.trod laidOut (by kernel_rfl) (of_decide_eq_true (by kernel_rfl)) k1 bel lt1) trodAll_mk0)), rfl, bel.frame _, fun h => by cases h⟩

theorem over : Rows.reportUnionRow.holds Try.pinned (OpenSpec.ofChange Rows.reportUnionSpec) :=
  OpenClaim.holds_of_wide 5 Try.f5 rfl rfl rfl rfl rfl rfl rfl ⟨rfl, rfl, rfl, rfl, rfl⟩ rfl rfl rfl rfl rfl (by kernel_rfl) Try.func5 (by kernel_rfl)
    (of_decide_eq_true (by kernel_rfl)) (by unfold Func.isWrapper; first | (rw [if_pos (by decide +kernel)]; kernel_rfl) | (rw [if_neg (by decide +kernel)]; exact ⟨rfl, rfl⟩))
    (fun os started H enc _ => lifted os started H enc)

theorem proved : Rows.ReportUnionSaid := over
end Go.Proofs.Ytopklnehhebhmaa.reportUnion
