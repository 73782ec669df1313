/-
  Plain data for layer 4: events with their clocks, and the last one of each. Nothing of the translation.
-/
import Derived.Test.YtfefidmbkbigoaaSameDoc
namespace Go.Proofs.Ytfefidmbkbigoaa

/-- An event with its clock. -/
structure Mk where
  e : Ev
  c : Nat → Nat

/-- The event at a place, with its clock. -/
def mkOf (l : List Ev) (k : Nat) : Mk := ⟨evI l k, fun t => clk l k t⟩

/-- How many of a thread's events happen before e, by the marks of those ahead. -/
def kn (ms : List Mk) (e : Ev) (t : Nat) : Nat := ms.foldl (fun a m => if dep m.e e then max a (m.c t) else a) 0
theorem kn_nil (e : Ev) (t : Nat) : kn [] e t = 0 := rfl
theorem kn_snoc (ms : List Mk) (m : Mk) (e : Ev) (t : Nat) : kn (ms ++ [m]) e t = if dep m.e e then max (kn ms e t) (m.c t) else kn ms e t := by
  unfold kn
  rw [List.foldl_append]
  rfl
theorem kn_take (ms : List Mk) (e : Ev) (t k : Nat) (h : k < ms.length) : kn (ms.take (k + 1)) e t = if dep ms[k].e e then max (kn (ms.take k) e t) (ms[k].c t) else kn (ms.take k) e t := by
  rw [List.take_succ_eq_append_getElem h, kn_snoc]
theorem fold_ge (ms : List Mk) (e : Ev) (t a : Nat) : a ≤ ms.foldl (fun a m => if dep m.e e then max a (m.c t) else a) a ∧ ∀ m ∈ ms, dep m.e e = true → m.c t ≤ ms.foldl (fun a m => if dep m.e e then max a (m.c t) else a) a := by
  induction ms generalizing a with
  | nil => exact ⟨Nat.le_refl _, fun m h => by cases h⟩
  | cons x ms ih =>
    rw [List.foldl_cons]
    by_cases hx : dep x.e e = true
    · rw [if_pos hx]
      obtain ⟨h1, h2⟩ := ih (max a (x.c t))
      refine ⟨by omega, fun m hm hd => ?_⟩
      rcases List.mem_cons.1 hm with rfl | hm
      · omega
      · exact h2 m hm hd
    · rw [if_neg hx]
      obtain ⟨h1, h2⟩ := ih a
      refine ⟨h1, fun m hm hd => ?_⟩
      rcases List.mem_cons.1 hm with rfl | hm
      · exact absurd hd hx
      · exact h2 m hm hd
theorem fold_le (ms : List Mk) (e : Ev) (t a b : Nat) (ha : a ≤ b) (h : ∀ m ∈ ms, dep m.e e = true → m.c t ≤ b) : ms.foldl (fun a m => if dep m.e e then max a (m.c t) else a) a ≤ b := by
  induction ms generalizing a with
  | nil => exact ha
  | cons x ms ih =>
    rw [List.foldl_cons]
    refine ih _ ?_ (fun m hm => h m (by simp [hm]))
    split
    · rename_i hx
      have := h x (by simp) hx
      omega
    · exact ha

/-- The marks hold, of the first n events, the last one of all that are like. -/
def Lst (l : List Ev) (n : Nat) (ms : List Mk) : Prop :=
  ms.length ≤ n ∧ (∀ m ∈ ms, ∃ i, i < n ∧ m = mkOf l i) ∧ ∀ i, i < n → ∃ j, i ≤ j ∧ j < n ∧ evI l j = evI l i ∧ mkOf l j ∈ ms
theorem lst_zero (l : List Ev) : Lst l 0 [] := ⟨Nat.le_refl _, fun m h => (by cases h), fun i h => (by omega)⟩

theorem Lst.kn {l : List Ev} {n : Nat} {ms : List Mk} (h : Lst l n ms) (t : Nat) : kn ms (evI l n) t = top (fun i => clk l i t) (fun i => dep (evI l i) (evI l n)) n := by
  apply Nat.le_antisymm
  · refine fold_le ms _ t 0 _ (Nat.zero_le _) fun m hm hd => ?_
    obtain ⟨i, hi, rfl⟩ := h.2.1 m hm
    exact top_ge (f := fun i => clk l i t) (q := fun i => dep (evI l i) (evI l n)) hi hd
  · refine top_le fun i hi hd => ?_
    obtain ⟨j, hij, hj, he, hm⟩ := h.2.2 i hi
    refine Nat.le_trans (clk_mono (hb_thread hij (by rw [he])) t) ?_
    exact (fold_ge ms (evI l n) t 0).2 _ hm (by show dep (evI l j) _ = true; rw [he]; exact hd)

/-- The clock of an event is what is known of those ahead, and one more of its own thread. -/
theorem Lst.clk {l : List Ev} {n : Nat} {ms : List Mk} (h : Lst l n ms) (t : Nat) : clk l n t = Proofs.Ytfefidmbkbigoaa.kn ms (evI l n) t + if (evI l n).thread = (t : Int) then 1 else 0 := by
  rw [clk_top, h.kn]

/-- The mark takes the place of the first like one, or stands behind. -/
def keepM : List Mk → Mk → List Mk
  | [], m => [m]
  | x :: ms, m => if x.e = m.e then m :: ms else x :: keepM ms m
theorem keepM_at {ms : List Mk} {m : Mk} {k : Nat} (hk : k < ms.length) (hn : ∀ i (h : i < k), (ms[i]'(by omega)).e ≠ m.e) (he : ms[k].e = m.e) : keepM ms m = ms.set k m := by
  induction ms generalizing k with
  | nil => simp at hk
  | cons x ms ih =>
    unfold keepM
    cases k with
    | zero =>
      simp only [List.getElem_cons_zero] at he
      rw [if_pos he]
      rfl
    | succ k =>
      have h0 := hn 0 (by omega)
      simp only [List.getElem_cons_zero] at h0
      rw [if_neg h0, List.set_cons_succ]
      congr 1
      refine ih (by simpa using hk) (fun i hi => ?_) (by simpa using he)
      have := hn (i + 1) (by omega)
      simpa using this
theorem keepM_new {ms : List Mk} {m : Mk} (hn : ∀ x ∈ ms, x.e ≠ m.e) : keepM ms m = ms ++ [m] := by
  induction ms with
  | nil => rfl
  | cons x ms ih =>
    unfold keepM
    rw [if_neg (hn x (by simp)), ih (fun y hy => hn y (by simp [hy]))]
    rfl
theorem keepM_len (ms : List Mk) (m : Mk) : (keepM ms m).length ≤ ms.length + 1 := by
  induction ms with
  | nil => simp [keepM]
  | cons x ms ih =>
    unfold keepM
    split
    · simp
    · simpa using ih
theorem mem_keepM (ms : List Mk) (m : Mk) : m ∈ keepM ms m := by
  induction ms with
  | nil => simp [keepM]
  | cons x ms ih => unfold keepM; split <;> simp [ih]
theorem of_mem_keepM {ms : List Mk} {m x : Mk} (h : x ∈ keepM ms m) : x = m ∨ x ∈ ms := by
  induction ms with
  | nil => simp [keepM] at h; exact .inl h
  | cons y ms ih =>
    unfold keepM at h
    split at h
    · rcases List.mem_cons.1 h with h | h
      · exact .inl h
      · exact .inr (by simp [h])
    · rcases List.mem_cons.1 h with h | h
      · exact .inr (by simp [h])
      · rcases ih h with h | h
        · exact .inl h
        · exact .inr (by simp [h])
theorem mem_keepM_of {ms : List Mk} {m x : Mk} (h : x ∈ ms) (hne : x.e ≠ m.e) : x ∈ keepM ms m := by
  induction ms with
  | nil => cases h
  | cons y ms ih =>
    unfold keepM
    rcases List.mem_cons.1 h with rfl | h
    · rw [if_neg hne]
      simp
    · split
      · simp [h]
      · simp [ih h]

theorem Lst.keep {l : List Ev} {n : Nat} {ms : List Mk} (h : Lst l n ms) : Lst l (n + 1) (keepM ms (mkOf l n)) := by
  refine ⟨Nat.le_trans (keepM_len _ _) (by have := h.1; omega), fun m hm => ?_, fun i hi => ?_⟩
  · rcases of_mem_keepM hm with rfl | hm
    · exact ⟨n, by omega, rfl⟩
    · obtain ⟨i, hi, e⟩ := h.2.1 m hm
      exact ⟨i, by omega, e⟩
  · by_cases hin : i = n
    · subst hin
      exact ⟨i, Nat.le_refl _, hi, rfl, mem_keepM _ _⟩
    · obtain ⟨j, hij, hj, he, hm⟩ := h.2.2 i (by omega)
      by_cases hje : evI l j = evI l n
      · exact ⟨n, by omega, by omega, by rw [← he, hje], mem_keepM _ _⟩
      · exact ⟨j, hij, by omega, he, mem_keepM_of hm hje⟩

end Go.Proofs.Ytfefidmbkbigoaa
