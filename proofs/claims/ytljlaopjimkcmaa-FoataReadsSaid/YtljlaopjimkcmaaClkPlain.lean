/-
  Plain data for layer 4: which event happens before which, numbers, clocks. Nothing of the translation.
-/
import Derived.Test.YtljlaopjimkcmaaEvPlain
namespace Go.Proofs.Ytljlaopjimkcmaa

/-- The event at a place. -/
def evI (l : List Ev) (i : Nat) : Ev := l.getD i ev0

/-- What happens before what, up to a place. -/
def hbT (l : List Ev) : Nat → Nat → Nat → Bool
  | 0, _, _ => false
  | n + 1, j, m => if m < n then hbT l n j m else if m = n then decide (j = n) || (List.range n).any (fun i => dep (evI l i) (evI l n) && hbT l n j i) else false
def hb (l : List Ev) (j k : Nat) : Bool := hbT l (k + 1) j k

theorem hbT_eq (l : List Ev) (n j m : Nat) (h : m < n) : hbT l n j m = hb l j m := by
  induction n with
  | zero => omega
  | succ n ih =>
    by_cases h1 : m < n
    · rw [hbT, if_pos h1, ih h1]
    · obtain rfl : m = n := by omega
      rfl

theorem hb_def (l : List Ev) (j k : Nat) : hb l j k = true ↔ (j = k ∨ ∃ i, i < k ∧ dep (evI l i) (evI l k) = true ∧ hb l j i = true) := by
  unfold hb
  rw [hbT, if_neg (by omega), if_pos rfl, Bool.or_eq_true, decide_eq_true_eq, List.any_eq_true]
  constructor
  · rintro (h | ⟨i, hi, h⟩)
    · exact .inl h
    · rw [List.mem_range] at hi
      rw [Bool.and_eq_true, hbT_eq l k j i hi] at h
      exact .inr ⟨i, hi, h⟩
  · rintro (h | ⟨i, hi, h⟩)
    · exact .inl h
    · refine .inr ⟨i, List.mem_range.2 hi, ?_⟩
      rw [Bool.and_eq_true, hbT_eq l k j i hi]
      exact h

theorem hb_self (l : List Ev) (k : Nat) : hb l k k = true := (hb_def l k k).2 (.inl rfl)
theorem hb_dep {l : List Ev} {i k : Nat} (h : i < k) (hd : dep (evI l i) (evI l k) = true) : hb l i k = true := (hb_def l i k).2 (.inr ⟨i, h, hd, hb_self l i⟩)
theorem hb_le {l : List Ev} {k : Nat} : ∀ {j : Nat}, hb l j k = true → j ≤ k := by
  induction k using Nat.strongRecOn with
  | _ k ih =>
    intro j h
    rcases (hb_def l j k).1 h with rfl | ⟨i, hi, _, h⟩
    · exact Nat.le_refl _
    · have := ih i hi h
      omega
theorem hb_trans {l : List Ev} {k : Nat} : ∀ {i j : Nat}, hb l i j = true → hb l j k = true → hb l i k = true := by
  induction k using Nat.strongRecOn with
  | _ k ih =>
    intro i j h1 h2
    rcases (hb_def l j k).1 h2 with rfl | ⟨m, hm, hd, h3⟩
    · exact h1
    · exact (hb_def l i k).2 (.inr ⟨m, hm, hd, ih m hm h1 h3⟩)
theorem dep_thread {a b : Ev} (h : a.thread = b.thread) : dep a b = true := by unfold dep; simp [h]
/-- Of one thread: in order. -/
theorem hb_thread {l : List Ev} {i k : Nat} (h : i ≤ k) (ht : (evI l i).thread = (evI l k).thread) : hb l i k = true := by
  rcases Nat.lt_or_eq_of_le h with h | rfl
  · exact hb_dep h (dep_thread ht)
  · exact hb_self l i

theorem evI_append {l m : List Ev} {i : Nat} (h : i < l.length) : evI (l ++ m) i = evI l i := by
  unfold evI
  simp only [List.getD]
  rw [List.getElem?_append_left h]
theorem evI_get {l : List Ev} {i : Nat} (h : i < l.length) : evI l i = l[i] := getD_lt _ h
theorem evI_mem {l : List Ev} {i : Nat} (h : i < l.length) : evI l i ∈ l := by rw [evI_get h]; exact List.getElem_mem h
/-- A beginning has its own order. -/
theorem hb_append {l m : List Ev} {k : Nat} : ∀ {j : Nat}, k < l.length → (hb (l ++ m) j k = true ↔ hb l j k = true) := by
  induction k using Nat.strongRecOn with
  | _ k ih =>
    intro j hk
    rw [hb_def, hb_def]
    constructor
    · rintro (h | ⟨i, hi, hd, h⟩)
      · exact .inl h
      · refine .inr ⟨i, hi, ?_, (ih i hi (by omega)).1 h⟩
        rw [evI_append hk, evI_append (by omega)] at hd
        exact hd
    · rintro (h | ⟨i, hi, hd, h⟩)
      · exact .inl h
      · refine .inr ⟨i, hi, ?_, (ih i hi (by omega)).2 h⟩
        rw [evI_append hk, evI_append (by omega)]
        exact hd
theorem hb_append_eq {l m : List Ev} {k : Nat} (j : Nat) (hk : k < l.length) : hb (l ++ m) j k = hb l j k := by
  rw [Bool.eq_iff_iff]
  exact hb_append hk

/-- How many of the first n places have q. -/
def cnt (q : Nat → Bool) (n : Nat) : Nat := ((List.range n).filter q).length
theorem cnt_zero (q : Nat → Bool) : cnt q 0 = 0 := rfl
theorem cnt_succ (q : Nat → Bool) (n : Nat) : cnt q (n + 1) = cnt q n + if q n = true then 1 else 0 := by
  unfold cnt
  rw [List.range_succ, List.filter_append, List.length_append]
  congr 1
  cases h : q n <;> simp [h]
theorem cnt_le {q r : Nat → Bool} (n : Nat) (h : ∀ i, i < n → q i = true → r i = true) : cnt q n ≤ cnt r n := by
  induction n with
  | zero => exact Nat.le_refl _
  | succ n ih =>
    have := ih (fun i hi => h i (by omega))
    rw [cnt_succ, cnt_succ]
    by_cases hq : q n = true
    · rw [if_pos hq, if_pos (h n (by omega) hq)]
      omega
    · rw [if_neg hq]
      omega
theorem cnt_congr {q r : Nat → Bool} (n : Nat) (h : ∀ i, i < n → q i = r i) : cnt q n = cnt r n :=
  Nat.le_antisymm (cnt_le n fun i hi hq => by rw [← h i hi]; exact hq) (cnt_le n fun i hi hq => by rw [h i hi]; exact hq)
theorem cnt_mono (q : Nat → Bool) {m n : Nat} (h : m ≤ n) : cnt q m ≤ cnt q n := by
  induction n with
  | zero => obtain rfl : m = 0 := by omega
            exact Nat.le_refl _
  | succ n ih =>
    rcases Nat.lt_or_eq_of_le h with h | rfl
    · have := ih (by omega)
      rw [cnt_succ]
      omega
    · exact Nat.le_refl _
theorem cnt_lt (q : Nat → Bool) {m n : Nat} (h : m < n) (hq : q m = true) : cnt q m < cnt q n := by
  have h1 := cnt_mono q (show m + 1 ≤ n by omega)
  rw [cnt_succ, if_pos hq] at h1
  omega
/-- A set that is a beginning of another one. -/
theorem cnt_begin {q r : Nat → Bool} {n : Nat} (h1 : ∀ i, i < n → q i = true → r i = true) (h2 : ∀ i j, i < j → j < n → r i = true → q j = true → q i = true) {i : Nat} (hi : i < n) (hr : r i = true) : q i = true ↔ cnt r (i + 1) ≤ cnt q n := by
  constructor
  · intro hq
    have e : cnt r (i + 1) = cnt q (i + 1) := cnt_congr _ fun j hj => by
      by_cases hji : j = i
      · rw [hji, hq, hr]
      · rw [Bool.eq_iff_iff]
        exact ⟨fun hrj => h2 j i (by omega) hi hrj hq, fun hqj => h1 j (by omega) hqj⟩
    rw [e]
    exact cnt_mono q (by omega)
  · intro hle
    cases hq : q i
    · exfalso
      have e : cnt q n ≤ cnt r i := by
        have hno : ∀ j, i ≤ j → j < n → q j = false := by
          intro j hj hjn
          cases hqj : q j
          · rfl
          · rcases Nat.lt_or_eq_of_le hj with hj | rfl
            · rw [h2 i j hj hjn hr hqj] at hq; cases hq
            · rw [hqj] at hq; cases hq
        have e1 : ∀ m, i ≤ m → m ≤ n → cnt q m = cnt q i := by
          intro m
          induction m with
          | zero => intro him _; obtain rfl : i = 0 := by omega
                    rfl
          | succ m ih =>
            intro him hmn
            rcases Nat.lt_or_eq_of_le him with him | him
            · rw [cnt_succ, hno m (by omega) (by omega), ih (by omega) (by omega)]
              rfl
            · rw [← him]
        rw [e1 n (by omega) (Nat.le_refl _)]
        exact cnt_le i fun j hj => h1 j (by omega)
      rw [cnt_succ, if_pos hr] at hle
      omega
    · rfl

/-- Which number of its thread's events an event is. -/
def isT (l : List Ev) (t : Int) (i : Nat) : Bool := decide ((evI l i).thread = t)
def num (l : List Ev) (i : Nat) : Nat := cnt (isT l (evI l i).thread) (i + 1)
/-- A clock. -/
def clk (l : List Ev) (k : Nat) (t : Int) : Nat := cnt (fun i => hb l i k && isT l t i) (k + 1)

/-- P4.3. -/
theorem hb_iff_num {l : List Ev} {i k : Nat} : hb l i k = true ↔ num l i ≤ clk l k (evI l i).thread := by
  by_cases hik : i ≤ k
  · have h := cnt_begin (q := fun j => hb l j k && isT l (evI l i).thread j) (r := isT l (evI l i).thread) (n := k + 1)
      (fun j _ hq => by rw [Bool.and_eq_true] at hq; exact hq.2)
      (fun j m hjm hm hr hq => by
        rw [Bool.and_eq_true] at hq ⊢
        refine ⟨hb_trans (hb_thread (by omega) ?_) hq.1, hr⟩
        unfold isT at hr hq
        rw [decide_eq_true_eq] at hr hq
        rw [hr, hq.2])
      (i := i) (by omega) (by simp [isT])
    rw [Bool.and_eq_true] at h
    unfold num clk
    rw [← h]
    simp [isT]
  · constructor
    · intro h; exact absurd (hb_le h) hik
    · intro h
      exfalso
      unfold num clk at h
      have h1 : cnt (fun j => hb l j k && isT l (evI l i).thread j) (k + 1) ≤ cnt (isT l (evI l i).thread) (k + 1) := cnt_le _ fun j _ hq => by rw [Bool.and_eq_true] at hq; exact hq.2
      have h3 := cnt_mono (isT l (evI l i).thread) (show k + 1 ≤ i by omega)
      have h4 : cnt (isT l (evI l i).thread) (i + 1) = cnt (isT l (evI l i).thread) i + 1 := by rw [cnt_succ, if_pos (by simp [isT])]
      omega

/-- An event's clock tells its own number of its thread. -/
theorem clk_own (l : List Ev) (k : Nat) : clk l k (evI l k).thread = num l k := by
  unfold clk num
  refine cnt_congr _ fun i hi => ?_
  rw [Bool.eq_iff_iff, Bool.and_eq_true]
  refine ⟨fun h => h.2, fun h => ⟨hb_thread (by omega) ?_, h⟩⟩
  unfold isT at h
  rw [decide_eq_true_eq] at h
  exact h

theorem clk_le_cnt (l : List Ev) (k : Nat) (t : Int) : clk l k t ≤ cnt (isT l t) (k + 1) := cnt_le _ fun j _ hq => by rw [Bool.and_eq_true] at hq; exact hq.2

theorem clk_mono {l : List Ev} {i k : Nat} (h : hb l i k = true) (t : Int) : clk l i t ≤ clk l k t := by
  have hik := hb_le h
  unfold clk
  refine Nat.le_trans (cnt_le (r := fun j => hb l j k && isT l t j) (i + 1) fun j _ hq => ?_) (cnt_mono _ (by omega))
  rw [Bool.and_eq_true] at hq ⊢
  exact ⟨hb_trans hq.1 h, hq.2⟩

theorem num_append {l m : List Ev} {i : Nat} (h : i < l.length) : num (l ++ m) i = num l i := by
  unfold num
  rw [evI_append h]
  refine cnt_congr _ fun j hj => ?_
  unfold isT
  rw [evI_append (by omega)]
theorem clk_append {l m : List Ev} {k : Nat} (h : k < l.length) (t : Int) : clk (l ++ m) k t = clk l k t := by
  unfold clk
  refine cnt_congr _ fun j hj => ?_
  unfold isT
  rw [evI_append (by omega), hb_append_eq j h]

/-- The greatest of the clocks of those ahead that an event depends on. -/
def top (f : Nat → Nat) (q : Nat → Bool) : Nat → Nat
  | 0 => 0
  | n + 1 => if q n = true then max (top f q n) (f n) else top f q n
theorem top_ge {f : Nat → Nat} {q : Nat → Bool} {n i : Nat} (hi : i < n) (hq : q i = true) : f i ≤ top f q n := by
  induction n with
  | zero => omega
  | succ n ih =>
    unfold top
    by_cases hin : i = n
    · subst hin
      rw [if_pos hq]
      exact Nat.le_max_right _ _
    · have := ih (by omega)
      split <;> omega
theorem top_le {f : Nat → Nat} {q : Nat → Bool} {n b : Nat} (h : ∀ i, i < n → q i = true → f i ≤ b) : top f q n ≤ b := by
  induction n with
  | zero => exact Nat.zero_le _
  | succ n ih =>
    have h1 := ih (fun i hi => h i (by omega))
    unfold top
    split
    · rename_i hq
      have := h n (by omega) hq
      omega
    · exact h1
theorem top_zero_or {f : Nat → Nat} {q : Nat → Bool} {n : Nat} : top f q n = 0 ∨ ∃ i, i < n ∧ q i = true ∧ top f q n = f i := by
  induction n with
  | zero => exact .inl rfl
  | succ n ih =>
    unfold top
    split
    · rename_i hq
      rcases Nat.le_total (top f q n) (f n) with h | h
      · exact .inr ⟨n, by omega, hq, by omega⟩
      · rcases ih with h0 | ⟨i, hi, hqi, e⟩
        · exact .inr ⟨n, by omega, hq, by omega⟩
        · exact .inr ⟨i, by omega, hqi, by omega⟩
    · rcases ih with h0 | ⟨i, hi, hqi, e⟩
      · exact .inl h0
      · exact .inr ⟨i, by omega, hqi, e⟩

/-- A clock, by those ahead. -/
theorem clk_top (l : List Ev) (k : Nat) (t : Int) : clk l k t = top (fun i => clk l i t) (fun i => dep (evI l i) (evI l k)) k + if (evI l k).thread = t then 1 else 0 := by
  by_cases ht : (evI l k).thread = t
  · subst ht
    rw [if_pos rfl, clk_own]
    have e : num l k = cnt (isT l (evI l k).thread) k + 1 := by unfold num; rw [cnt_succ, if_pos (by simp [isT])]
    rw [e]
    congr 1
    apply Nat.le_antisymm
    · -- the last one of the thread ahead
      by_cases h0 : cnt (isT l (evI l k).thread) k = 0
      · omega
      · have hex : ∀ n, n ≤ k → cnt (isT l (evI l k).thread) n ≠ 0 → ∃ i, i < n ∧ isT l (evI l k).thread i = true ∧ cnt (isT l (evI l k).thread) (i + 1) = cnt (isT l (evI l k).thread) n := by
          intro n
          induction n with
          | zero => intro _ h; exact absurd (cnt_zero _) h
          | succ n ih =>
            intro hn h
            cases hq : isT l (evI l k).thread n
            · rw [cnt_succ, hq] at h ⊢
              simp only [Bool.false_eq_true, if_false, Nat.add_zero] at h ⊢
              obtain ⟨i, hi, h1, h2⟩ := ih (by omega) h
              exact ⟨i, by omega, h1, h2⟩
            · exact ⟨n, by omega, hq, rfl⟩
        obtain ⟨i, hi, h1, h2⟩ := hex k (Nat.le_refl _) h0
        rw [← h2]
        have ht : (evI l i).thread = (evI l k).thread := by unfold isT at h1; rw [decide_eq_true_eq] at h1; exact h1
        have h3 := top_ge (f := fun i => clk l i (evI l k).thread) (q := fun i => dep (evI l i) (evI l k)) hi (dep_thread ht)
        have h4 := clk_own l i
        unfold num at h4
        rw [ht] at h4
        omega
    · refine top_le fun i hi _ => Nat.le_trans (clk_le_cnt l i _) (cnt_mono _ (by omega))
  · rw [if_neg ht, Nat.add_zero]
    apply Nat.le_antisymm
    · -- the last one that happens before
      have e : clk l k t = cnt (fun i => hb l i k && isT l t i) k := by
        unfold clk
        rw [cnt_succ, if_neg (by simp [isT, ht])]
        rfl
      rw [e]
      have hex : ∀ n, n ≤ k → cnt (fun i => hb l i k && isT l t i) n ≤ top (fun i => clk l i t) (fun i => dep (evI l i) (evI l k)) k := by
        intro n
        induction n with
        | zero => intro _; exact Nat.zero_le _
        | succ n ih =>
          intro hn
          rw [cnt_succ]
          by_cases hq : (hb l n k && isT l t n) = true
          · rw [if_pos hq]
            rw [Bool.and_eq_true] at hq
            have htn : (evI l n).thread = t := by have := hq.2; unfold isT at this; rw [decide_eq_true_eq] at this; exact this
            rcases (hb_def l n k).1 hq.1 with h | ⟨i, hi, hd, h⟩
            · omega
            · refine Nat.le_trans ?_ (top_ge (f := fun i => clk l i t) (q := fun i => dep (evI l i) (evI l k)) hi hd)
              have h1 := hb_iff_num.1 h
              rw [htn] at h1
              refine Nat.le_trans ?_ h1
              unfold num
              rw [htn, cnt_succ, if_pos hq.2]
              have := cnt_le (q := fun i => hb l i k && isT l t i) (r := isT l t) n fun j _ hq => by rw [Bool.and_eq_true] at hq; exact hq.2
              omega
          · rw [if_neg hq, Nat.add_zero]
            exact ih (by omega)
      exact hex k (Nat.le_refl _)
    · exact top_le fun i hi hd => clk_mono (hb_dep hi hd) t

end Go.Proofs.Ytljlaopjimkcmaa
