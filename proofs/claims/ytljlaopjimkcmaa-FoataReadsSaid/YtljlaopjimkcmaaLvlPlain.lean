/-
  Plain data for layer 5: the levels of a row. Nothing of the translation.
-/
import Derived.Test.YtljlaopjimkcmaaSimFun
namespace Go.Proofs.Ytljlaopjimkcmaa

/-- The level of one event more. -/
def lvN (m : List (List Ev)) (e : Ev) : Nat := top (fun i => i + 1) (fun i => (m.getD i []).any fun x => dep x e) m.length
/-- By rising threads. -/
def insE (e : Ev) : List Ev → List Ev
  | [] => [e]
  | x :: r => if e.thread < x.thread then e :: x :: r else x :: insE e r
def putL (m : List (List Ev)) (n : Nat) (e : Ev) : List (List Ev) := if n < m.length then m.set n (insE e (m.getD n [])) else m ++ [[e]]
def addL (m : List (List Ev)) (e : Ev) : List (List Ev) := putL m (lvN m e) e
def lvls (l : List Ev) : List (List Ev) := l.foldl addL []

theorem lvls_snoc (l : List Ev) (e : Ev) : lvls (l ++ [e]) = addL (lvls l) e := by unfold lvls; rw [List.foldl_append]; rfl
theorem lvN_le (m : List (List Ev)) (e : Ev) : lvN m e ≤ m.length := top_le fun _ hi _ => hi
theorem lvN_ge {m : List (List Ev)} {e : Ev} {i : Nat} (hi : i < m.length) (h : ∃ x ∈ m.getD i [], dep x e = true) : i < lvN m e :=
  top_ge (f := fun i => i + 1) (q := fun i => (m.getD i []).any fun x => dep x e) hi (List.any_eq_true.2 h)
theorem lvN_some {m : List (List Ev)} {e : Ev} {i : Nat} (h : lvN m e = i + 1) : ∃ x ∈ m.getD i [], dep x e = true := by
  rcases top_zero_or (f := fun i => i + 1) (q := fun i => (m.getD i []).any fun x => dep x e) (n := m.length) with h0 | ⟨j, _, hq, hj⟩
  · have h1 : lvN m e = 0 := h0
    omega
  · have h1 : lvN m e = j + 1 := hj
    obtain rfl : i = j := by omega
    exact List.any_eq_true.1 hq
/-- Nothing from its level on depends on it. -/
theorem lvN_free {m : List (List Ev)} {e : Ev} {i : Nat} (hi : lvN m e ≤ i) {x : Ev} (hx : x ∈ m.getD i []) : dep x e = false := by
  cases hd : dep x e
  · rfl
  · exfalso
    by_cases hl : i < m.length
    · have := lvN_ge hl ⟨x, hx, hd⟩
      omega
    · simp [List.getD, List.getElem?_eq_none (Nat.le_of_not_lt hl)] at hx

theorem top_congr {f : Nat → Nat} {q r : Nat → Bool} {n : Nat} (h : ∀ i, i < n → q i = r i) : top f q n = top f r n := by
  induction n with
  | zero => rfl
  | succ n ih => rw [top_succ, top_succ, ih (fun i hi => h i (by omega)), h n (by omega)]

theorem mem_insE {e x : Ev} {r : List Ev} : x ∈ insE e r ↔ x = e ∨ x ∈ r := by
  induction r with
  | nil => simp [insE]
  | cons y r ih =>
    unfold insE
    split
    · simp
    · rw [List.mem_cons, ih, List.mem_cons]
      constructor
      · rintro (h | h | h) <;> simp [h]
      · rintro (h | h | h) <;> simp [h]
theorem insE_length (e : Ev) (r : List Ev) : (insE e r).length = r.length + 1 := by
  induction r with
  | nil => rfl
  | cons y r ih =>
    unfold insE
    split
    · rfl
    · rw [List.length_cons, ih, List.length_cons]
theorem insE_split (e : Ev) (r : List Ev) : ∃ r1 r2, r = r1 ++ r2 ∧ insE e r = r1 ++ e :: r2 := by
  induction r with
  | nil => exact ⟨[], [], rfl, rfl⟩
  | cons y r ih =>
    unfold insE
    split
    · exact ⟨[], y :: r, rfl, rfl⟩
    · obtain ⟨r1, r2, h1, h2⟩ := ih
      exact ⟨y :: r1, r2, by rw [h1]; rfl, by rw [h2]; rfl⟩
theorem insE_cons_lt {e x : Ev} (r : List Ev) (h : e.thread < x.thread) : insE e (x :: r) = e :: x :: r := by rw [insE, if_pos h]
theorem insE_cons_ge {e x : Ev} (r : List Ev) (h : ¬ e.thread < x.thread) : insE e (x :: r) = x :: insE e r := by rw [insE, if_neg h]
theorem insE_comm {e f : Ev} (h : e.thread ≠ f.thread) (r : List Ev) : insE e (insE f r) = insE f (insE e r) := by
  induction r with
  | nil =>
    rcases (by omega : e.thread < f.thread ∨ f.thread < e.thread) with hl | hl
    · have : ¬ f.thread < e.thread := by omega
      simp [insE, hl, this]
    · have : ¬ e.thread < f.thread := by omega
      simp [insE, hl, this]
  | cons x r ih =>
    by_cases he : e.thread < x.thread
    · by_cases hf : f.thread < x.thread
      · rw [insE_cons_lt r he, insE_cons_lt r hf]
        rcases (by omega : e.thread < f.thread ∨ f.thread < e.thread) with hl | hl
        · rw [insE_cons_lt _ hl, insE_cons_ge _ (by omega), insE_cons_lt r hf]
        · rw [insE_cons_ge _ (by omega), insE_cons_lt r he, insE_cons_lt _ hl]
      · rw [insE_cons_lt r he, insE_cons_ge r hf, insE_cons_lt _ he, insE_cons_ge _ (by omega), insE_cons_ge r hf]
    · by_cases hf : f.thread < x.thread
      · rw [insE_cons_ge r he, insE_cons_lt r hf, insE_cons_lt _ hf, insE_cons_ge _ (by omega), insE_cons_ge r he]
      · rw [insE_cons_ge r he, insE_cons_ge r hf, insE_cons_ge _ he, insE_cons_ge _ hf, ih]

theorem putL_length (m : List (List Ev)) (n : Nat) (e : Ev) : (putL m n e).length = if n < m.length then m.length else m.length + 1 := by
  unfold putL
  split <;> simp
theorem lvN_put {m : List (List Ev)} {n : Nat} {e f : Ev} (hd : dep e f = false) : lvN (putL m n e) f = lvN m f := by
  unfold lvN
  rw [putL_length]
  by_cases h : n < m.length
  · rw [if_pos h]
    refine top_congr fun i hi => ?_
    have e1 : (putL m n e).getD i [] = if i = n then insE e (m.getD n []) else m.getD i [] := by
      unfold putL
      rw [if_pos h, getD_set _ _ _ _ _ h]
    rw [e1]
    split
    · rename_i hin
      subst hin
      rw [Bool.eq_iff_iff, List.any_eq_true, List.any_eq_true]
      constructor
      · rintro ⟨x, hx, h2⟩
        rcases mem_insE.1 hx with rfl | hx
        · rw [hd] at h2; cases h2
        · exact ⟨x, hx, h2⟩
      · rintro ⟨x, hx, h2⟩
        exact ⟨x, mem_insE.2 (.inr hx), h2⟩
    · rfl
  · rw [if_neg h, top_succ]
    have e1 : putL m n e = m ++ [[e]] := by unfold putL; rw [if_neg h]
    rw [e1, if_neg]
    · refine top_congr fun i hi => ?_
      simp [List.getD, List.getElem?_append_left hi]
    · simp [List.getD, hd]

theorem putL_comm {m : List (List Ev)} {n k : Nat} {e f : Ev} (hn : n ≤ m.length) (hk : k ≤ m.length) (h : e.thread ≠ f.thread) : putL (putL m n e) k f = putL (putL m k f) n e := by
  by_cases h1 : n < m.length
  · by_cases h2 : k < m.length
    · have e1 : putL m n e = m.set n (insE e (m.getD n [])) := by unfold putL; rw [if_pos h1]
      have e2 : putL m k f = m.set k (insE f (m.getD k [])) := by unfold putL; rw [if_pos h2]
      rw [e1, e2]
      unfold putL
      rw [if_pos (by simpa using h2), if_pos (by simpa using h1), getD_set _ _ _ _ _ h1, getD_set _ _ _ _ _ h2]
      by_cases hnk : n = k
      · subst hnk
        rw [if_pos rfl, if_pos rfl, List.set_set, List.set_set, insE_comm h]
      · rw [if_neg (fun e => hnk e.symm), if_neg hnk, List.set_comm _ _ hnk]
    · have e1 : putL m n e = m.set n (insE e (m.getD n [])) := by unfold putL; rw [if_pos h1]
      have e2 : putL m k f = m ++ [[f]] := by unfold putL; rw [if_neg h2]
      rw [e1, e2]
      unfold putL
      rw [if_neg (by simpa using h2), if_pos (by simp; omega), List.set_append_left _ _ h1]
      simp [List.getD, List.getElem?_append_left h1]
  · by_cases h2 : k < m.length
    · have e1 : putL m n e = m ++ [[e]] := by unfold putL; rw [if_neg h1]
      have e2 : putL m k f = m.set k (insE f (m.getD k [])) := by unfold putL; rw [if_pos h2]
      rw [e1, e2]
      unfold putL
      rw [if_pos (by simp; omega), if_neg (by simpa using h1), List.set_append_left _ _ h2]
      simp [List.getD, List.getElem?_append_left h2]
    · obtain rfl : n = m.length := by omega
      obtain rfl : k = m.length := by omega
      have e1 : putL m m.length e = m ++ [[e]] := by unfold putL; rw [if_neg h1]
      have e2 : putL m m.length f = m ++ [[f]] := by unfold putL; rw [if_neg h1]
      rw [e1, e2]
      unfold putL
      rw [if_pos (by simp), if_pos (by simp), List.set_append_right _ _ (Nat.le_refl _), List.set_append_right _ _ (Nat.le_refl _)]
      have hc := insE_comm (Ne.symm h) []
      simp only [insE] at hc
      simp [List.getD, insE, hc]

/-- The levels stay whatever such neighbours are swapped. -/
theorem lvls_blind : Blind lvls := by
  intro x y e f hd
  have hd' : dep f e = false := by rw [dep_symm]; exact hd
  have hne : e.thread ≠ f.thread := by
    intro h
    rw [dep_thread h] at hd
    cases hd
  unfold lvls
  rw [List.foldl_append, List.foldl_append, List.foldl_cons, List.foldl_cons, List.foldl_cons, List.foldl_cons]
  congr 1
  generalize x.foldl addL [] = m
  have e1 : addL (addL m e) f = putL (putL m (lvN m e) e) (lvN m f) f := by
    show putL (addL m e) (lvN (addL m e) f) f = _
    have : lvN (addL m e) f = lvN m f := lvN_put hd
    rw [this]
    rfl
  have e2 : addL (addL m f) e = putL (putL m (lvN m f) f) (lvN m e) e := by
    show putL (addL m f) (lvN (addL m f) e) e = _
    have : lvN (addL m f) e = lvN m e := lvN_put hd'
    rw [this]
    rfl
  rw [e1, e2]
  exact putL_comm (lvN_le m e) (lvN_le m f) hne

/-- One event more, level by level. -/
theorem sim_put (m : List (List Ev)) (e : Ev) : Sim (addL m e).flatten (m.flatten ++ [e]) := by
  unfold addL putL
  by_cases h : lvN m e < m.length
  · rw [if_pos h]
    have hfree : ∀ i, lvN m e ≤ i → ∀ x ∈ m.getD i [], dep e x = false := fun i hi x hx => by rw [dep_symm]; exact lvN_free hi hx
    generalize lvN m e = n at *
    have hm : m = m.take n ++ m.getD n [] :: m.drop (n + 1) := by
      conv => lhs; rw [← List.take_append_drop n m, List.drop_eq_getElem_cons h]
      rw [getD_lt _ h]
    have hs : m.set n (insE e (m.getD n [])) = m.take n ++ insE e (m.getD n []) :: m.drop (n + 1) := by
      rw [List.set_eq_take_append_cons_drop, if_pos h]
    obtain ⟨r1, r2, hr, hi⟩ := insE_split e (m.getD n [])
    have hy : ∀ f ∈ r2 ++ (m.drop (n + 1)).flatten, dep e f = false := by
      intro f hf
      rcases List.mem_append.1 hf with hf | hf
      · exact hfree n (Nat.le_refl _) f (by rw [hr]; exact List.mem_append_right _ hf)
      · obtain ⟨row, hrow, hfr⟩ := List.mem_flatten.1 hf
        obtain ⟨j, hj, hje⟩ := List.mem_iff_getElem.1 hrow
        rw [List.length_drop] at hj
        rw [List.getElem_drop] at hje
        refine hfree (n + 1 + j) (by omega) f ?_
        rw [getD_lt _ (by omega), hje]
        exact hfr
    have h1 := sim_move e (r2 ++ (m.drop (n + 1)).flatten) ((m.take n).flatten ++ r1) hy
    have e1 : (m.set n (insE e (m.getD n []))).flatten = (m.take n).flatten ++ r1 ++ e :: (r2 ++ (m.drop (n + 1)).flatten) := by
      rw [hs, hi]
      simp
    have e2 : m.flatten = (m.take n).flatten ++ r1 ++ (r2 ++ (m.drop (n + 1)).flatten) := by
      conv => lhs; rw [hm]
      rw [List.flatten_append, List.flatten_cons, hr]
      simp
    rw [e1, e2]
    exact h1
  · rw [if_neg h, List.flatten_append]
    exact Sim.refl _

/-- P5.2: the row of a row's levels is the same as it. -/
theorem sim_row (l : List Ev) : Sim (lvls l).flatten l := by
  have : ∀ n (l : List Ev), l.length = n → Sim (lvls l).flatten l := by
    intro n
    induction n with
    | zero =>
      intro l hl
      obtain rfl := List.eq_nil_of_length_eq_zero hl
      exact Sim.refl _
    | succ n ih =>
      intro l hl
      have hne : l ≠ [] := by rintro rfl; simp at hl
      obtain ⟨l', e, rfl⟩ : ∃ l' e, l = l' ++ [e] := ⟨l.dropLast, l.getLast hne, (List.dropLast_concat_getLast hne).symm⟩
      rw [lvls_snoc]
      exact (sim_put _ e).trans ((sim_snoc _ _ e).2 (ih l' (by simpa using hl)))
  exact this _ l rfl

/-- P5.2: two rows are the same just if their levels are. -/
theorem lvls_iff (a b : List Ev) : lvls a = lvls b ↔ Sim a b := by
  constructor
  · intro h
    have h1 := sim_row a
    rw [h] at h1
    exact h1.symm.trans (sim_row b)
  · intro h
    exact sim_fun _ a b lvls rfl h lvls_blind

end Go.Proofs.Ytljlaopjimkcmaa
