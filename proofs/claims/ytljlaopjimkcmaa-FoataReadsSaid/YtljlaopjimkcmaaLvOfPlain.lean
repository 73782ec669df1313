/- Where each event of a row stands, one by one: the document's levels, plainly. -/
import Derived.Test.YtljlaopjimkcmaaLvPut
namespace Go.Proofs.Ytljlaopjimkcmaa
open Go.RowKit

/-- The level of the i-th event. -/
def atL (l : List Ev) (i : Nat) : Nat := lvN (lvls (l.take i)) (evI l i)
theorem lvls_take (l : List Ev) {k : Nat} (hk : k < l.length) : lvls (l.take (k + 1)) = addL (lvls (l.take k)) (evI l k) := by
  rw [← lvls_snoc, evI_get hk, List.take_add_one, List.getElem?_eq_getElem hk]
  rfl
theorem mem_level (l : List Ev) : ∀ k, k ≤ l.length → ∀ j x, x ∈ (lvls (l.take k)).getD j [] ↔ ∃ i, i < k ∧ evI l i = x ∧ atL l i = j
  | 0, _, j, x => by
    have : lvls (l.take 0) = [] := by rw [List.take_zero]; rfl
    rw [this]
    simp [List.getD]
  | k + 1, hk, j, x => by
    have ih := mem_level l k (by omega) j x
    rw [lvls_take l (by omega), addL_get]
    by_cases h : j = lvN (lvls (l.take k)) (evI l k)
    · rw [if_pos h, mem_insE, ih]
      constructor
      · rintro (rfl | ⟨i, hi, h1, h2⟩)
        · exact ⟨k, by omega, rfl, h.symm⟩
        · exact ⟨i, by omega, h1, h2⟩
      · rintro ⟨i, hi, h1, h2⟩
        by_cases e : i = k
        · subst e; exact .inl h1.symm
        · exact .inr ⟨i, by omega, h1, h2⟩
    · rw [if_neg h, ih]
      constructor
      · rintro ⟨i, hi, h1, h2⟩
        exact ⟨i, by omega, h1, h2⟩
      · rintro ⟨i, hi, h1, h2⟩
        refine ⟨i, ?_, h1, h2⟩
        by_cases e : i = k
        · subst e; exact absurd h2.symm h
        · omega
/-- The greatest level but one of those ahead that it depends on. -/
def maxN (l : List Ev) (e : Ev) (k : Nat) : Nat := top (fun i => atL l i + 1) (fun i => dep (evI l i) e) k
theorem maxN_succ (l : List Ev) (e : Ev) (k : Nat) : maxN l e (k + 1) = if dep (evI l k) e then max (maxN l e k) (atL l k + 1) else maxN l e k := by
  unfold maxN
  rw [top_succ]
theorem maxN_lvN (l : List Ev) (e : Ev) {k : Nat} (hk : k ≤ l.length) : maxN l e k = lvN (lvls (l.take k)) e := by
  apply Nat.le_antisymm
  · refine top_le fun i hi hd => ?_
    have hm : evI l i ∈ (lvls (l.take k)).getD (atL l i) [] := (mem_level l k hk _ _).2 ⟨i, hi, rfl, rfl⟩
    have hlt : atL l i < (lvls (l.take k)).length := by
      apply Classical.byContradiction
      intro hn
      simp [List.getD, List.getElem?_eq_none (Nat.le_of_not_lt hn)] at hm
    exact lvN_ge hlt ⟨_, hm, hd⟩
  · cases h : lvN (lvls (l.take k)) e with
    | zero => exact Nat.zero_le _
    | succ j =>
      obtain ⟨x, hx, hd⟩ := lvN_some h
      obtain ⟨i, hi, h1, h2⟩ := (mem_level l k hk j x).1 hx
      have := top_ge (f := fun i => atL l i + 1) (q := fun i => dep (evI l i) e) hi (by show dep (evI l i) e = true; rw [h1]; exact hd)
      unfold maxN
      simp only [h2] at this
      omega
theorem atL_le (l : List Ev) {i : Nat} (hi : i < l.length) : atL l i ≤ i := by
  have h1 := lvN_le (lvls (l.take i)) (evI l i)
  have h2 := lv_count (l.take i)
  rw [List.length_take] at h2
  unfold atL
  omega

end Go.Proofs.Ytljlaopjimkcmaa
