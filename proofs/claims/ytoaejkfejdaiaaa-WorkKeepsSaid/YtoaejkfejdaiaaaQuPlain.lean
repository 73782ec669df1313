/- Texts in a queue's order, plainly: which one is ahead, and where one is put. -/
import Derived.Test.YtoaejkfejdaiaaaHpPlain
import Derived.Test.YtoaejkfejdaiaaaGenP
namespace Go.Proofs.Ytoaejkfejdaiaaa

/-- One text comes ahead of another. -/
def aheadT (a b : Txt) : Bool := if a.length = b.length then decide (a < b) else decide (b.length < a.length)
theorem aheadT_ord : Ahd aheadT := by
  refine ⟨fun a b h => ?_, fun a b c h1 h2 => ?_⟩
  · unfold aheadT at *
    by_cases e : a.length = b.length
    · rw [if_pos e] at h
      rw [if_pos e.symm]
      simp only [decide_eq_true_eq, decide_eq_false_iff_not] at *
      exact fun h' => List.lt_irrefl _ (List.lt_trans h h')
    · rw [if_neg e] at h
      rw [if_neg (Ne.symm e)]
      simp only [decide_eq_true_eq, decide_eq_false_iff_not] at *
      omega
  · unfold aheadT at *
    by_cases e1 : b.length = a.length <;> by_cases e2 : c.length = b.length
    · rw [if_pos e1] at h1
      rw [if_pos e2] at h2
      rw [if_pos (e2.trans e1)]
      simp only [decide_eq_false_iff_not] at *
      exact List.not_lt.2 (List.le_trans (List.not_lt.1 h1) (List.not_lt.1 h2))
    · rw [if_pos e1] at h1
      rw [if_neg e2] at h2
      rw [if_neg (by omega)]
      simp only [decide_eq_false_iff_not] at *
      omega
    · rw [if_neg e1] at h1
      rw [if_pos e2] at h2
      rw [if_neg (by omega)]
      simp only [decide_eq_false_iff_not] at *
      omega
    · rw [if_neg e1] at h1
      rw [if_neg e2] at h2
      simp only [decide_eq_false_iff_not] at *
      rw [if_neg (by omega)]
      simp only [decide_eq_false_iff_not] at *
      omega
/-- Neither is ahead of the other one: they are the same. -/
theorem aheadT_eq {a b : Txt} (h1 : aheadT a b = false) (h2 : aheadT b a = false) : a = b := by
  unfold aheadT at *
  by_cases e : a.length = b.length
  · rw [if_pos e] at h1
    rw [if_pos e.symm] at h2
    simp only [decide_eq_false_iff_not] at *
    exact List.le_antisymm (List.not_lt.1 h2) (List.not_lt.1 h1)
  · rw [if_neg e] at h1
    rw [if_neg (Ne.symm e)] at h2
    simp only [decide_eq_false_iff_not] at *
    omega
/-- The document's Put. -/
def putT : List Txt → Txt → List Txt
  | [], s => [s]
  | x :: l, s => if aheadT s x = true then s :: x :: l else x :: putT l s
theorem putT_perm (l : List Txt) (s : Txt) : (putT l s).Perm (s :: l) := by
  induction l with
  | nil => exact List.Perm.refl _
  | cons x l ih =>
    unfold putT
    split
    · exact List.Perm.refl _
    · exact (ih.cons x).trans (List.Perm.swap _ _ _)
/-- In order: no later one comes ahead of an earlier one. -/
def SortT (l : List Txt) : Prop := l.Pairwise fun x y => aheadT y x = false
theorem ahead_self (a : Txt) : aheadT a a = false := by
  cases h : aheadT a a
  · rfl
  · have := aheadT_ord.asym _ _ h
    rw [h] at this
    exact this
theorem putT_sort {l : List Txt} (h : SortT l) (s : Txt) : SortT (putT l s) := by
  induction l with
  | nil => unfold putT SortT; simp
  | cons x l ih =>
    unfold SortT at h
    rw [List.pairwise_cons] at h
    unfold putT
    split
    · rename_i e
      unfold SortT
      rw [List.pairwise_cons, List.pairwise_cons]
      refine ⟨fun y hy => ?_, h.1, h.2⟩
      rcases List.mem_cons.1 hy with rfl | hy
      · exact aheadT_ord.asym _ _ e
      · exact aheadT_ord.trans _ _ _ (aheadT_ord.asym _ _ e) (h.1 y hy)
    · rename_i e
      unfold SortT
      rw [List.pairwise_cons]
      refine ⟨fun y hy => ?_, ih h.2⟩
      have := (putT_perm l s).subset hy
      rcases List.mem_cons.1 this with rfl | hy
      · simpa using e
      · exact h.1 y hy
/-- What is taken from the deep end is the first one. -/
theorem sort_first {l T' : List Txt} {k x : Txt} (h : SortT (x :: l)) (p : (k :: T').Perm (x :: l)) (hk : ∀ y ∈ x :: l, aheadT y k = false) : k = x ∧ T'.Perm l := by
  have hkm : k ∈ x :: l := p.subset (List.mem_cons_self)
  unfold SortT at h
  rw [List.pairwise_cons] at h
  have h1 : aheadT k x = false := by
    rcases List.mem_cons.1 hkm with rfl | hm
    · exact ahead_self _
    · exact h.1 k hm
  have e : k = x := aheadT_eq h1 (hk x (List.mem_cons_self))
  subst e
  exact ⟨rfl, p.cons_inv⟩
/-- What is taken from the other end is the last one. -/
theorem sort_last {l T' : List Txt} {k x : Txt} (h : SortT (l ++ [x])) (p : (k :: T').Perm (l ++ [x])) (hk : ∀ y ∈ l ++ [x], aheadT k y = false) : k = x ∧ T'.Perm l := by
  have hkm : k ∈ l ++ [x] := p.subset (List.mem_cons_self)
  unfold SortT at h
  rw [List.pairwise_append] at h
  have h1 : aheadT x k = false := by
    rcases List.mem_append.1 hkm with hm | hm
    · exact h.2.2 k hm x (by simp)
    · simp at hm; subst hm; exact ahead_self _
  have e : k = x := aheadT_eq (hk x (by simp)) h1
  subst e
  exact ⟨rfl, (p.trans (List.perm_append_singleton _ _)).cons_inv⟩
theorem SortT.tail {l : List Txt} {x : Txt} (h : SortT (x :: l)) : SortT l := (List.pairwise_cons.1 h).2
theorem SortT.init {l : List Txt} {x : Txt} (h : SortT (l ++ [x])) : SortT l := (List.pairwise_append.1 h).1
/-- Put's loop: what stands behind j of the list, and whether the text is among them. -/
def putTo (l : List Txt) (s : Txt) (j : Nat) : List Txt × Bool := (l.take j).foldl (fun a x => if a.2 = false ∧ aheadT s x = true then (a.1 ++ [s, x], true) else (a.1 ++ [x], a.2)) ([], false)
theorem putTo_zero (l : List Txt) (s : Txt) : putTo l s 0 = ([], false) := rfl
theorem putTo_succ {l : List Txt} {s : Txt} {j : Nat} (h : j < l.length) : putTo l s (j + 1) = if (putTo l s j).2 = false ∧ aheadT s l[j] = true then ((putTo l s j).1 ++ [s, l[j]], true) else ((putTo l s j).1 ++ [l[j]], (putTo l s j).2) := by
  unfold putTo
  rw [List.take_succ_eq_append_getElem h, List.foldl_append]
  rfl
theorem putTo_fold (s : Txt) (l : List Txt) : ∀ (a : List Txt) (d : Bool), let r := l.foldl (fun a x => if a.2 = false ∧ aheadT s x = true then (a.1 ++ [s, x], true) else (a.1 ++ [x], a.2)) (a, d); (if r.2 = true then r.1 else r.1 ++ [s]) = a ++ (if d = true then l else putT l s) := by
  induction l with
  | nil => intro a d; cases d <;> simp [putT]
  | cons x l ih =>
    intro a d
    cases d
    · by_cases e : aheadT s x = true
      · simp only [List.foldl_cons, e, and_self, if_true]
        rw [ih]
        simp [putT, e]
      · simp only [List.foldl_cons, e]
        rw [ih]
        simp [putT, e]
    · simp only [List.foldl_cons]
      rw [show (if (true = false ∧ aheadT s x = true) then (a ++ [s, x], true) else (a ++ [x], true)) = (a ++ [x], true) from if_neg (by simp)]
      rw [ih]
      simp
theorem putTo_end (l : List Txt) (s : Txt) : (if (putTo l s l.length).2 = true then (putTo l s l.length).1 else (putTo l s l.length).1 ++ [s]) = putT l s := by
  have := putTo_fold s l [] false
  unfold putTo
  rw [List.take_length]
  simpa using this
theorem putTo_len (l : List Txt) (s : Txt) (j : Nat) : (putTo l s j).1.length ≤ 2 * j := by
  induction j with
  | zero => simp [putTo_zero]
  | succ j ih =>
    by_cases h : j < l.length
    · rw [putTo_succ h]
      split
      · simp; omega
      · simp; omega
    · have e : l.take (j + 1) = l.take j := by rw [List.take_of_length_le (by omega), List.take_of_length_le (by omega)]
      unfold putTo at *
      rw [e]
      omega

end Go.Proofs.Ytoaejkfejdaiaaa
