/-
  Plain data for layer 4: the document's words of rows that are the same, and the clocks'. Nothing of the translation.
-/
import Derived.Test.YtljlaopjimkcmaaSamePlain
namespace Go.Proofs.Ytljlaopjimkcmaa

theorem filter_range_get (q : Nat → Bool) {n i : Nat} (hi : i < n) (hq : q i = true) : ((List.range n).filter q)[cnt q i]? = some i := by
  induction n with
  | zero => omega
  | succ n ih =>
    rw [List.range_succ, List.filter_append]
    by_cases h : i < n
    · have h1 := ih h
      rw [List.getElem?_append_left (List.getElem?_eq_some_iff.1 h1).1]
      exact h1
    · obtain rfl : i = n := by omega
      have e : cnt q i = ((List.range i).filter q).length := rfl
      rw [e, List.getElem?_append_right (Nat.le_refl _)]
      simp [hq]
theorem filter_range_inv (q : Nat → Bool) {n i j : Nat} (h : ((List.range n).filter q)[j]? = some i) : i < n ∧ q i = true ∧ cnt q i = j := by
  induction n with
  | zero => simp at h
  | succ n ih =>
    rw [List.range_succ, List.filter_append] at h
    by_cases hj : j < ((List.range n).filter q).length
    · rw [List.getElem?_append_left hj] at h
      obtain ⟨h1, h2, h3⟩ := ih h
      exact ⟨by omega, h2, h3⟩
    · rw [List.getElem?_append_right (by omega)] at h
      cases hq : q n
      · simp [hq] at h
      · have e : [n].filter q = [n] := by simp [hq]
        rw [e] at h
        obtain ⟨h1, h2⟩ := List.getElem?_eq_some_iff.1 h
        simp at h1 h2
        subst h2
        refine ⟨by omega, hq, ?_⟩
        unfold cnt
        omega

theorem psi_eq (l : List Ev) (t : Int) : psi l t = ((List.range l.length).filter (isT l t)).map fun k => (evI l k, clk l k) := by
  unfold psi prs
  rw [List.filter_map]
  rfl
theorem psi_len (l : List Ev) (t : Int) : (psi l t).length = cnt (isT l t) l.length := by rw [psi_eq, List.length_map]; rfl
theorem psi_get {l : List Ev} {t : Int} {i : Nat} (hi : i < l.length) (ht : isT l t i = true) : (psi l t)[cnt (isT l t) i]? = some (evI l i, clk l i) := by
  rw [psi_eq, List.getElem?_map, filter_range_get _ hi ht]
  rfl
theorem psi_inv {l : List Ev} {t : Int} {j : Nat} {p : Ev × (Int → Nat)} (h : (psi l t)[j]? = some p) : ∃ i, i < l.length ∧ isT l t i = true ∧ cnt (isT l t) i = j ∧ p = (evI l i, clk l i) := by
  rw [psi_eq, List.getElem?_map] at h
  obtain ⟨i, h1, h2⟩ := Option.map_eq_some_iff.1 h
  obtain ⟨h3, h4, h5⟩ := filter_range_inv _ h1
  exact ⟨i, h3, h4, h5, h2.symm⟩

/-- The place of a thread's event behind m others. -/
def At (l : List Ev) (t : Int) (m i : Nat) : Prop := i < l.length ∧ isT l t i = true ∧ cnt (isT l t) i = m
theorem At.uniq {l : List Ev} {t : Int} {m i j : Nat} (h : At l t m i) (k : At l t m j) : i = j := by
  rcases Nat.lt_trichotomy i j with hl | he | hl
  · have := cnt_lt _ hl h.2.1
    have := h.2.2
    have := k.2.2
    omega
  · exact he
  · have := cnt_lt _ hl k.2.1
    have := h.2.2
    have := k.2.2
    omega
theorem at_ex {l : List Ev} {t : Int} {m : Nat} (h : m < cnt (isT l t) l.length) : ∃ i, At l t m i := by
  rw [← psi_len] at h
  obtain ⟨i, h1, h2, h3, _⟩ := psi_inv (List.getElem?_eq_getElem h)
  exact ⟨i, h1, h2, h3⟩
theorem At.lt {l : List Ev} {t : Int} {m i : Nat} (h : At l t m i) : m < cnt (isT l t) l.length := by
  have := cnt_lt _ h.1 h.2.1
  rw [h.2.2] at this
  exact this
theorem isT_iff {l : List Ev} {t : Int} {i : Nat} : isT l t i = true ↔ (evI l i).thread = t := by unfold isT; rw [decide_eq_true_eq]
theorem at_self {l : List Ev} {i : Nat} (h : i < l.length) : At l (evI l i).thread (cnt (isT l (evI l i).thread) i) i := ⟨h, isT_iff.2 rfl, rfl⟩
theorem num_eq (l : List Ev) (i : Nat) : num l i = cnt (isT l (evI l i).thread) i + 1 := by unfold num; rw [cnt_succ, if_pos (isT_iff.2 rfl)]

theorem clk_iff {l : List Ev} {i m : Nat} {u : Int} (hi : i < l.length) : m < clk l i u ↔ ∃ k, At l u m k ∧ hb l k i = true := by
  constructor
  · intro h
    have h1 := clk_le_cnt l i u
    have h2 := cnt_mono (isT l u) (show i + 1 ≤ l.length by omega)
    obtain ⟨k, hk⟩ := at_ex (l := l) (t := u) (m := m) (by omega)
    refine ⟨k, hk, hb_iff_num.2 ?_⟩
    have ht := isT_iff.1 hk.2.1
    rw [num_eq, ht, hk.2.2]
    omega
  · rintro ⟨k, hk, hh⟩
    have h1 := hb_iff_num.1 hh
    have ht := isT_iff.1 hk.2.1
    rw [num_eq, ht, hk.2.2] at h1
    omega

/-- P4.2: the same events of each thread, in order, and of each pair of them the one before the other alike. -/
def SameD (a b : List Ev) : Prop := a.length = b.length ∧ ∃ to : Nat → Nat, (∀ i, i < a.length → At b (evI a i).thread (cnt (isT a (evI a i).thread) i) (to i) ∧ evI b (to i) = evI a i) ∧
  ∀ i k, i < a.length → k < a.length → hb a k i = hb b (to k) (to i)

/-- All threads are 0 to 3. -/
def In4 (l : List Ev) : Prop := ∀ e ∈ l, 0 ≤ e.thread ∧ e.thread ≤ 3
theorem len_sum {l : List Ev} (h : In4 l) (n : Nat) (hn : n ≤ l.length) : n = cnt (isT l 0) n + cnt (isT l 1) n + cnt (isT l 2) n + cnt (isT l 3) n := by
  induction n with
  | zero => rfl
  | succ n ih =>
    have h1 := ih (by omega)
    have h2 := h _ (evI_mem (l := l) (i := n) (by omega))
    simp only [cnt_succ, isT_iff]
    rcases (by omega : (evI l n).thread = 0 ∨ (evI l n).thread = 1 ∨ (evI l n).thread = 2 ∨ (evI l n).thread = 3) with e | e | e | e <;> simp [e] <;> omega
theorem cnt_none {l : List Ev} (h : In4 l) {t : Int} (ht : ¬ (0 ≤ t ∧ t ≤ 3)) : cnt (isT l t) l.length = 0 := by
  have : ∀ n, n ≤ l.length → cnt (isT l t) n = 0 := by
    intro n
    induction n with
    | zero => intro _; rfl
    | succ n ih =>
      intro hn
      have h2 := h _ (evI_mem (l := l) (i := n) (by omega))
      rw [cnt_succ, ih (by omega), if_neg]
      rw [isT_iff]
      intro e
      exact ht (by omega)
  exact this _ (Nat.le_refl _)

theorem Sim.cnt {a b : List Ev} (h : Sim a b) (t : Int) : cnt (isT a t) a.length = cnt (isT b t) b.length := by rw [← psi_len, ← psi_len, h t]
theorem Sim.len {a b : List Ev} (h : Sim a b) (ha : In4 a) (hb : In4 b) : a.length = b.length := by
  have h1 := len_sum ha a.length (Nat.le_refl _)
  have h2 := len_sum hb b.length (Nat.le_refl _)
  have := h.cnt 0
  have := h.cnt 1
  have := h.cnt 2
  have := h.cnt 3
  omega
/-- Where an event of the one stands in the other. -/
theorem Sim.at {a b : List Ev} (h : Sim a b) {i : Nat} (hi : i < a.length) : ∃ k, At b (evI a i).thread (Proofs.Ytljlaopjimkcmaa.cnt (isT a (evI a i).thread) i) k ∧ evI b k = evI a i ∧ clk b k = clk a i := by
  have h1 := psi_get hi (isT_iff.2 rfl)
  rw [h] at h1
  obtain ⟨k, h2, h3, h4, h5⟩ := psi_inv h1
  injection h5 with h5 h6
  exact ⟨k, ⟨h2, h3, h4⟩, h5.symm, h6.symm⟩

theorem sameD_of_sim {a b : List Ev} (h : Sim a b) (ha : In4 a) (hb4 : In4 b) : SameD a b := by
  refine ⟨h.len ha hb4, ?_⟩
  have hx : ∀ i, ∃ k, i < a.length → At b (evI a i).thread (cnt (isT a (evI a i).thread) i) k ∧ evI b k = evI a i ∧ clk b k = clk a i := fun i => by
    by_cases hi : i < a.length
    · obtain ⟨k, hk⟩ := h.at hi
      exact ⟨k, fun _ => hk⟩
    · exact ⟨0, fun hi' => absurd hi' hi⟩
  obtain ⟨to, hto⟩ := Classical.skolem.1 hx
  refine ⟨to, fun i hi => ⟨(hto i hi).1, (hto i hi).2.1⟩, fun i k hi hk => ?_⟩
  have h1 := hto i hi
  have h2 := hto k hk
  rw [Bool.eq_iff_iff, hb_iff_num, hb_iff_num, h1.2.2, num_eq, num_eq, h2.2.1, h2.1.2.2]

theorem sim_of_sameD {a b : List Ev} (h : SameD a b) (ha : In4 a) (hb4 : In4 b) : Sim a b := by
  obtain ⟨hl, to, h1, h2⟩ := h
  -- no thread has more events in the one than in the other
  have hle : ∀ t, cnt (isT a t) a.length ≤ cnt (isT b t) b.length := by
    intro t
    apply Classical.byContradiction
    intro hn
    obtain ⟨i, hi⟩ := at_ex (l := a) (t := t) (m := cnt (isT b t) b.length) (by omega)
    have h3 := (h1 i hi.1).1
    have ht := isT_iff.1 hi.2.1
    rw [ht, hi.2.2] at h3
    have := h3.lt
    omega
  have heq : ∀ t, cnt (isT a t) a.length = cnt (isT b t) b.length := by
    intro t
    by_cases ht : 0 ≤ t ∧ t ≤ 3
    · have s1 := len_sum ha a.length (Nat.le_refl _)
      have s2 := len_sum hb4 b.length (Nat.le_refl _)
      have l0 := hle 0
      have l1 := hle 1
      have l2 := hle 2
      have l3 := hle 3
      rcases (by omega : t = 0 ∨ t = 1 ∨ t = 2 ∨ t = 3) with rfl | rfl | rfl | rfl <;> omega
    · rw [cnt_none ha ht, cnt_none hb4 ht]
  have hclk : ∀ i, i < a.length → clk b (to i) = clk a i := by
    intro i hi
    funext u
    obtain ⟨g1, g2⟩ := h1 i hi
    have key : ∀ m, m < clk a i u ↔ m < clk b (to i) u := by
      intro m
      rw [clk_iff hi, clk_iff g1.1]
      constructor
      · rintro ⟨k, hk, hh⟩
        have h3 := (h1 k hk.1).1
        have ht := isT_iff.1 hk.2.1
        rw [ht, hk.2.2] at h3
        exact ⟨to k, h3, by rw [← h2 i k hi hk.1]; exact hh⟩
      · rintro ⟨k', hk', hh⟩
        obtain ⟨k, hk⟩ := at_ex (l := a) (t := u) (m := m) (by rw [heq]; exact hk'.lt)
        have h3 := (h1 k hk.1).1
        have ht := isT_iff.1 hk.2.1
        rw [ht, hk.2.2] at h3
        obtain rfl := h3.uniq hk'
        exact ⟨k, hk, by rw [h2 i k hi hk.1]; exact hh⟩
    apply Nat.le_antisymm
    · apply Nat.le_of_not_lt
      intro hc
      have := (key _).2 hc
      omega
    · apply Nat.le_of_not_lt
      intro hc
      have := (key _).1 hc
      omega
  intro t
  apply List.ext_getElem?
  intro j
  by_cases hj : j < cnt (isT a t) a.length
  · obtain ⟨i, hi⟩ := at_ex hj
    obtain ⟨g1, g2⟩ := h1 i hi.1
    have ht := isT_iff.1 hi.2.1
    rw [ht, hi.2.2] at g1
    have e1 := psi_get hi.1 hi.2.1
    have e2 := psi_get g1.1 g1.2.1
    rw [hi.2.2] at e1
    rw [g1.2.2] at e2
    rw [e1, e2, g2, hclk i hi.1]
  · rw [List.getElem?_eq_none (by rw [psi_len]; omega), List.getElem?_eq_none (by rw [psi_len, ← heq]; omega)]

theorem sameD_iff {a b : List Ev} (ha : In4 a) (hb4 : In4 b) : SameD a b ↔ Sim a b := ⟨fun h => sim_of_sameD h ha hb4, fun h => sameD_of_sim h ha hb4⟩

/-- One event more behind both. -/
theorem psi_snoc (l : List Ev) (e : Ev) (t : Int) : psi (l ++ [e]) t = psi l t ++ if e.thread = t then [(e, nxt (prs l) e)] else [] := by
  unfold psi
  rw [prs_snoc, List.filter_append]
  congr 1
  by_cases h : e.thread = t <;> simp [h]
theorem mem_prs {l : List Ev} {p : Ev × (Int → Nat)} : p ∈ prs l ↔ p ∈ psi l p.1.thread := by
  unfold psi
  rw [List.mem_filter]
  simp
theorem sim_snoc (a b : List Ev) (e : Ev) : Sim (a ++ [e]) (b ++ [e]) ↔ Sim a b := by
  constructor
  · intro h t
    have ht := h t
    rw [psi_snoc, psi_snoc] at ht
    by_cases he : e.thread = t
    · rw [if_pos he, if_pos he] at ht
      exact (List.append_inj' ht rfl).1
    · rw [if_neg he, if_neg he, List.append_nil, List.append_nil] at ht
      exact ht
  · intro h t
    have hn : nxt (prs a) e = nxt (prs b) e := nxt_mem (fun p => by rw [mem_prs, mem_prs, h]) e
    rw [psi_snoc, psi_snoc, h t, hn]

/-- Two places of a row, one behind the other. -/
theorem split_two {l : List Ev} {i : Nat} (h : i + 1 < l.length) : l = l.take i ++ l[i] :: l[i + 1] :: l.drop (i + 2) ∧ (l.set i l[i + 1]).set (i + 1) l[i] = l.take i ++ l[i + 1] :: l[i] :: l.drop (i + 2) := by
  have e1 : l = l.take i ++ l[i] :: l[i + 1] :: l.drop (i + 2) := by
    conv => lhs; rw [← List.take_append_drop i l, List.drop_eq_getElem_cons (show i < l.length by omega), List.drop_eq_getElem_cons h]
  refine ⟨e1, ?_⟩
  have hi : (l.take i).length = i := by simp; omega
  generalize l[i] = x at *
  generalize l[i + 1] = y at *
  generalize l.take i = p at *
  generalize l.drop (i + 2) = q at *
  subst e1
  subst hi
  rw [List.set_append_right _ _ (by omega), List.set_append_right _ _ (by omega)]
  simp

end Go.Proofs.Ytljlaopjimkcmaa
