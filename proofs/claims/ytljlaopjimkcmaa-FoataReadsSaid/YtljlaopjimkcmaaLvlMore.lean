/-
  Plain data for layer 5: levels are apart from one another; one event more. Nothing of the translation.
-/
import Derived.Test.YtljlaopjimkcmaaLvlPlain
namespace Go.Proofs.Ytljlaopjimkcmaa

/-- Levels as they may be: none is empty, by rising threads, apart, each on the one ahead. -/
structure LvOk (m : List (List Ev)) : Prop where
  full : ∀ i, i < m.length → m.getD i [] ≠ []
  apart : ∀ i, i < m.length → (m.getD i []).Pairwise fun a b => dep a b = false
  rise : ∀ i, i < m.length → (m.getD i []).Pairwise fun a b => a.thread < b.thread
  on : ∀ i, i + 1 < m.length → ∀ e ∈ m.getD (i + 1) [], ∃ x ∈ m.getD i [], dep x e = true

theorem insE_pairwise {R : Ev → Ev → Prop} {e : Ev} {r : List Ev} (h : r.Pairwise R) (h1 : ∀ x ∈ r, R x e) (h2 : ∀ x ∈ r, R e x) : (insE e r).Pairwise R := by
  induction r with
  | nil => simp [insE]
  | cons y r ih =>
    rw [List.pairwise_cons] at h
    unfold insE
    split
    · rw [List.pairwise_cons, List.pairwise_cons]
      exact ⟨h2, h⟩
    · rw [List.pairwise_cons]
      refine ⟨fun x hx => ?_, ih h.2 (fun x hx => h1 x (by simp [hx])) (fun x hx => h2 x (by simp [hx]))⟩
      rcases mem_insE.1 hx with rfl | hx
      · exact h1 y (by simp)
      · exact h.1 x hx
theorem insE_rise {e : Ev} {r : List Ev} (h : r.Pairwise fun a b => a.thread < b.thread) (h1 : ∀ x ∈ r, x.thread ≠ e.thread) : (insE e r).Pairwise fun a b => a.thread < b.thread := by
  induction r with
  | nil => simp [insE]
  | cons y r ih =>
    have hy := h1 y (by simp)
    have hc := h
    rw [List.pairwise_cons] at h
    unfold insE
    split
    · rename_i hlt
      rw [List.pairwise_cons]
      refine ⟨fun x hx => ?_, hc⟩
      rcases List.mem_cons.1 hx with rfl | hx
      · exact hlt
      · have := h.1 x hx
        omega
    · rw [List.pairwise_cons]
      refine ⟨fun x hx => ?_, ih h.2 (fun x hx => h1 x (by simp [hx]))⟩
      rcases mem_insE.1 hx with rfl | hx
      · omega
      · exact h.1 x hx

theorem addL_get {m : List (List Ev)} {e : Ev} (i : Nat) : (addL m e).getD i [] = if i = lvN m e then insE e (m.getD i []) else m.getD i [] := by
  unfold addL putL
  by_cases h : lvN m e < m.length
  · rw [if_pos h, getD_set _ _ _ _ _ h]
    split
    · rename_i hi; rw [hi]
    · rfl
  · have hn : lvN m e = m.length := by have := lvN_le m e; omega
    rw [if_neg h, hn]
    by_cases hi : i = m.length
    · subst hi
      rw [if_pos rfl]
      simp [List.getD, insE]
    · rw [if_neg hi]
      rcases Nat.lt_or_gt_of_ne hi with hlt | hgt
      · simp [List.getD, List.getElem?_append_left hlt]
      · simp [List.getD, List.getElem?_append_right (Nat.le_of_lt hgt), List.getElem?_eq_none (Nat.le_of_lt hgt), show i - m.length ≠ 0 by omega]
theorem addL_length (m : List (List Ev)) (e : Ev) : (addL m e).length = if lvN m e < m.length then m.length else m.length + 1 := putL_length m _ e
theorem insE_ne (e : Ev) (r : List Ev) : insE e r ≠ [] := by
  intro h
  have := insE_length e r
  rw [h] at this
  simp at this

theorem LvOk.add {m : List (List Ev)} (h : LvOk m) (e : Ev) : LvOk (addL m e) := by
  have hle := lvN_le m e
  have hlen := addL_length m e
  have hin : ∀ i, i < (addL m e).length → i ≠ lvN m e → i < m.length := by
    intro i hi hne
    rw [hlen] at hi
    split at hi <;> omega
  have hmem : ∀ x ∈ m.getD (lvN m e) [], dep x e = false ∧ dep e x = false ∧ x.thread ≠ e.thread := by
    intro x hx
    have h1 := lvN_free (Nat.le_refl _) hx
    refine ⟨h1, by rw [dep_symm]; exact h1, fun ht => ?_⟩
    rw [dep_thread ht] at h1
    cases h1
  have hold : ∀ (R : Ev → Ev → Prop), (∀ i, i < m.length → (m.getD i []).Pairwise R) → (m.getD (lvN m e) []).Pairwise R := by
    intro R hR
    by_cases hl : lvN m e < m.length
    · exact hR _ hl
    · have : m.getD (lvN m e) [] = [] := by simp [List.getD, List.getElem?_eq_none (Nat.le_of_not_lt hl)]
      rw [this]
      exact List.Pairwise.nil
  refine ⟨fun i hi => ?_, fun i hi => ?_, fun i hi => ?_, fun i hi x hx => ?_⟩
  · rw [addL_get]
    split
    · exact insE_ne _ _
    · rename_i hne; exact h.full i (hin i hi hne)
  · rw [addL_get]
    split
    · rename_i he
      subst he
      exact insE_pairwise (hold _ h.apart) (fun x hx => (hmem x hx).1) (fun x hx => (hmem x hx).2.1)
    · rename_i hne; exact h.apart i (hin i hi hne)
  · rw [addL_get]
    split
    · rename_i he
      subst he
      exact insE_rise (hold _ h.rise) (fun x hx => (hmem x hx).2.2)
    · rename_i hne; exact h.rise i (hin i hi hne)
  · have hsup : ∀ y ∈ m.getD i [], y ∈ (addL m e).getD i [] := by
      intro y hy
      rw [addL_get]
      split
      · exact mem_insE.2 (.inr hy)
      · exact hy
    rw [addL_get] at hx
    split at hx
    · rename_i he
      rcases mem_insE.1 hx with rfl | hx
      · obtain ⟨y, hy, hd⟩ := lvN_some he.symm
        exact ⟨y, hsup y hy, hd⟩
      · have hl : i + 1 < m.length := by
          apply Classical.byContradiction
          intro hn
          simp [List.getD, List.getElem?_eq_none (Nat.le_of_not_lt hn)] at hx
        obtain ⟨y, hy, hd⟩ := h.on i hl x hx
        exact ⟨y, hsup y hy, hd⟩
    · rename_i hne
      obtain ⟨y, hy, hd⟩ := h.on i (hin _ hi hne) x hx
      exact ⟨y, hsup y hy, hd⟩

theorem lvls_ok (l : List Ev) : LvOk (lvls l) := by
  have : ∀ (y : List Ev) (m : List (List Ev)), LvOk m → LvOk (y.foldl addL m) := by
    intro y
    induction y with
    | nil => intro m h; exact h
    | cons e y ih => intro m h; exact ih _ (h.add e)
  exact this l [] ⟨fun i hi => by simp at hi, fun i hi => by simp at hi, fun i hi => by simp at hi, fun i hi => by simp at hi⟩

theorem flatten_add (m : List (List Ev)) (e : Ev) : (addL m e).flatten.length = m.flatten.length + 1 := by
  unfold addL putL
  by_cases h : lvN m e < m.length
  · rw [if_pos h]
    generalize lvN m e = n at *
    have hm : m = m.take n ++ m.getD n [] :: m.drop (n + 1) := by
      conv => lhs; rw [← List.take_append_drop n m, List.drop_eq_getElem_cons h]
      rw [getD_lt _ h]
    rw [List.set_eq_take_append_cons_drop, if_pos h]
    conv => rhs; rw [hm]
    simp only [List.flatten_append, List.flatten_cons, List.length_append, insE_length]
    omega
  · rw [if_neg h]
    simp
theorem lvls_count (l : List Ev) : (lvls l).flatten.length = l.length := by
  have : ∀ (y : List Ev) (m : List (List Ev)), (y.foldl addL m).flatten.length = m.flatten.length + y.length := by
    intro y
    induction y with
    | nil => intro m; simp
    | cons e y ih => intro m; rw [List.foldl_cons, ih, flatten_add, List.length_cons]; omega
  have h := this l []
  rw [List.flatten_nil, List.length_nil, Nat.zero_add] at h
  exact h
theorem mem_lvls {l : List Ev} {e : Ev} (h : e ∈ (lvls l).flatten) : e ∈ l := by
  have : ∀ (y : List Ev) (m : List (List Ev)), e ∈ (y.foldl addL m).flatten → e ∈ m.flatten ∨ e ∈ y := by
    intro y
    induction y with
    | nil => intro m h; exact .inl h
    | cons f y ih =>
      intro m h
      rcases ih _ h with h | h
      · obtain ⟨row, hrow, her⟩ := List.mem_flatten.1 h
        obtain ⟨i, hi, hie⟩ := List.mem_iff_getElem.1 hrow
        have hg : (addL m f).getD i [] = row := by rw [getD_lt _ hi, hie]
        rw [addL_get] at hg
        split at hg
        · rw [← hg] at her
          rcases mem_insE.1 her with rfl | her
          · exact .inr (by simp)
          · refine .inl (List.mem_flatten.2 ?_)
            by_cases hl : i < m.length
            · rw [getD_lt _ hl] at her
              exact ⟨_, List.getElem_mem hl, her⟩
            · simp [List.getD, List.getElem?_eq_none (Nat.le_of_not_lt hl)] at her
        · rw [← hg] at her
          refine .inl (List.mem_flatten.2 ?_)
          by_cases hl : i < m.length
          · rw [getD_lt _ hl] at her
            exact ⟨_, List.getElem_mem hl, her⟩
          · simp [List.getD, List.getElem?_eq_none (Nat.le_of_not_lt hl)] at her
      · exact .inr (by simp [h])
  rcases this l [] h with h | h
  · simp at h
  · exact h

end Go.Proofs.Ytljlaopjimkcmaa
