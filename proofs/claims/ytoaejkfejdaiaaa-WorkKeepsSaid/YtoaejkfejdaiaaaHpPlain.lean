/- Heaps in a row, plainly: what one step up, or down, does to their order; and of any order which one is at the top. -/
import Derived.WalkKit
namespace Go.Proofs.Ytoaejkfejdaiaaa

/-- An order that tells of any two which one is ahead, or neither. -/
structure Ahd {α : Type} (lt : α → α → Bool) : Prop where
  asym : ∀ a b, lt a b = true → lt b a = false
  trans : ∀ a b c, lt b a = false → lt c b = false → lt c a = false

section
variable {α : Type} {lt : α → α → Bool} {n : Nat} {f : Nat → α}
def HeapF (lt : α → α → Bool) (n : Nat) (f : Nat → α) : Prop := ∀ k, 1 ≤ k → k < n → lt (f k) (f ((k - 1) / 2)) = false
def UpF (lt : α → α → Bool) (n : Nat) (f : Nat → α) (j : Nat) : Prop := (∀ k, 1 ≤ k → k < n → k ≠ j → lt (f k) (f ((k - 1) / 2)) = false) ∧ (1 ≤ j → ∀ k, 1 ≤ k → k < n → (k - 1) / 2 = j → lt (f k) (f ((j - 1) / 2)) = false)
def HoleF (lt : α → α → Bool) (n : Nat) (f : Nat → α) (i : Nat) : Prop := (∀ k, 1 ≤ k → k < n → k ≠ i → (k - 1) / 2 ≠ i → lt (f k) (f ((k - 1) / 2)) = false) ∧ (1 ≤ i → ∀ k, 1 ≤ k → k < n → (k - 1) / 2 = i → lt (f k) (f ((i - 1) / 2)) = false)
def swpF (f : Nat → α) (i j : Nat) : Nat → α := fun k => if k = i then f j else if k = j then f i else f k
theorem swpF_l (i j : Nat) : swpF f i j i = f j := by simp [swpF]
theorem swpF_r (i j : Nat) : swpF f i j j = f i := by
  unfold swpF
  split
  · rename_i h; rw [h]
  · simp
theorem swpF_ne {i j k : Nat} (h1 : k ≠ i) (h2 : k ≠ j) : swpF f i j k = f k := by simp [swpF, h1, h2]

theorem up_zero (h : UpF lt n f 0) : HeapF lt n f := fun k h1 h2 => h.1 k h1 h2 (by omega)
theorem up_exit {j : Nat} (h : UpF lt n f j) (e : lt (f j) (f ((j - 1) / 2)) = false) : HeapF lt n f := fun k h1 h2 => by
  by_cases hk : k = j
  · rw [hk]; exact e
  · exact h.1 k h1 h2 hk
theorem up_step (o : Ahd lt) {j : Nat} (h : UpF lt n f j) (hj : 1 ≤ j) (hn : j < n) (e : lt (f j) (f ((j - 1) / 2)) = true) : UpF lt n (swpF f ((j - 1) / 2) j) ((j - 1) / 2) := by
  obtain ⟨p, hp⟩ : ∃ p, p = (j - 1) / 2 := ⟨_, rfl⟩
  rw [← hp] at e ⊢
  have hpj : p < j := by omega
  obtain ⟨h1, h2⟩ := h
  have h2 := h2 hj
  rw [← hp] at h2
  constructor
  · intro k k1 k2 k3
    by_cases hkj : k = j
    · subst hkj
      rw [swpF_r, ← hp, swpF_l]
      exact o.asym _ _ e
    · rw [swpF_ne k3 hkj]
      by_cases q1 : (k - 1) / 2 = p
      · rw [q1, swpF_l]
        have := h1 k k1 k2 hkj
        rw [q1] at this
        exact o.trans _ _ _ (o.asym _ _ e) this
      · by_cases q2 : (k - 1) / 2 = j
        · rw [q2, swpF_r]
          exact h2 k k1 k2 q2
        · rw [swpF_ne q1 q2]
          exact h1 k k1 k2 hkj
  · intro p1 k k1 k2 k3
    have hpp : lt (f p) (f ((p - 1) / 2)) = false := h1 p p1 (by omega) (by omega)
    rw [swpF_ne (k := (p - 1) / 2) (by omega) (by omega)]
    by_cases hkj : k = j
    · subst hkj
      rw [swpF_r]
      exact hpp
    · rw [swpF_ne (by omega) hkj]
      have := h1 k k1 k2 hkj
      rw [k3] at this
      exact o.trans _ _ _ hpp this
theorem down_step (o : Ahd lt) {i c : Nat} (h : HoleF lt n f i) (hc : c = 2 * i + 1 ∨ c = 2 * i + 2) (hn : c < n) (hd : ∀ d, 1 ≤ d → d < n → (d - 1) / 2 = i → lt (f d) (f c) = false) (e : lt (f c) (f i) = true) :
    HoleF lt n (swpF f i c) c ∧ lt (swpF f i c c) (swpF f i c ((c - 1) / 2)) = false := by
  have hp : (c - 1) / 2 = i := by omega
  have hic : i < c := by omega
  obtain ⟨h1, h2⟩ := h
  refine ⟨⟨?_, ?_⟩, ?_⟩
  · intro k k1 k2 k3 k4
    by_cases hki : k = i
    · subst hki
      rw [swpF_l, swpF_ne (by omega) (by omega)]
      exact h2 k1 c (by omega) hn hp
    · rw [swpF_ne hki k3]
      by_cases q : (k - 1) / 2 = i
      · rw [q, swpF_l]
        exact hd k k1 k2 q
      · rw [swpF_ne q k4]
        exact h1 k k1 k2 hki q
  · intro _ k k1 k2 k3
    rw [hp, swpF_l, swpF_ne (by omega) (by omega)]
    have := h1 k k1 k2 (by omega) (by omega)
    rw [k3] at this
    exact this
  · rw [hp, swpF_r, swpF_l]
    exact o.asym _ _ e
theorem down_exit {i : Nat} (h : HoleF lt n f i) (hd : ∀ d, 1 ≤ d → d < n → (d - 1) / 2 = i → lt (f d) (f i) = false) : UpF lt n f i := by
  refine ⟨fun k k1 k2 k3 => ?_, h.2⟩
  by_cases q : (k - 1) / 2 = i
  · rw [q]; exact hd k k1 k2 q
  · exact h.1 k k1 k2 k3 q
/-- Which child is at least as much ahead as any. -/
theorem child_left (o : Ahd lt) {i : Nat} (h : ¬ 2 * i + 2 < n ∨ lt (f (2 * i + 2)) (f (2 * i + 1)) = false) : ∀ d, 1 ≤ d → d < n → (d - 1) / 2 = i → lt (f d) (f (2 * i + 1)) = false := by
  intro d d1 d2 d3
  obtain rfl | rfl : d = 2 * i + 1 ∨ d = 2 * i + 2 := by omega
  · cases hb : lt (f (2 * i + 1)) (f (2 * i + 1))
    · rfl
    · exact (o.asym _ _ hb).symm.trans hb |> fun h => by cases h
  · rcases h with h | h
    · omega
    · exact h
theorem child_right (o : Ahd lt) {i : Nat} (h : lt (f (2 * i + 2)) (f (2 * i + 1)) = true) : ∀ d, 1 ≤ d → d < n → (d - 1) / 2 = i → lt (f d) (f (2 * i + 2)) = false := by
  intro d d1 d2 d3
  obtain rfl | rfl : d = 2 * i + 1 ∨ d = 2 * i + 2 := by omega
  · exact o.asym _ _ h
  · cases hb : lt (f (2 * i + 2)) (f (2 * i + 2))
    · rfl
    · exact (o.asym _ _ hb).symm.trans hb |> fun h => by cases h
/-- None is ahead of the top. -/
theorem heap_top (o : Ahd lt) (h : HeapF lt n f) : ∀ k, k < n → lt (f k) (f 0) = false := by
  intro k
  induction k using Nat.strongRecOn with
  | ind k ih =>
    intro hk
    by_cases h0 : k = 0
    · subst h0
      cases hb : lt (f 0) (f 0)
      · rfl
      · exact (o.asym _ _ hb).symm.trans hb |> fun h => by cases h
    · have h1 := h k (by omega) hk
      have h2 := ih ((k - 1) / 2) (by omega) (by omega)
      exact o.trans _ _ _ h2 h1
/-- A heap that grows by one behind it, or whose last one is struck. -/
theorem heap_snoc (h : HeapF lt n f) : UpF lt (n + 1) f n := ⟨fun k k1 k2 k3 => h k k1 (by omega), fun _ k k1 k2 k3 => by omega⟩
theorem heap_less (h : HeapF lt (n + 1) f) : HeapF lt n f := fun k k1 k2 => h k k1 (by omega)
/-- The last one put into a heap's place: all else is in order. -/
theorem heap_hole (o : Ahd lt) (h : HeapF lt (n + 1) f) {i : Nat} : HoleF lt n (swpF f i n) i := by
  refine ⟨fun k k1 k2 k3 k4 => ?_, fun i1 k k1 k2 k3 => ?_⟩
  · rw [swpF_ne k3 (by omega), swpF_ne k4 (by omega)]
    exact h k k1 (by omega)
  · rw [swpF_ne (by omega) (by omega), swpF_ne (by omega) (by omega)]
    have a1 := h k k1 (by omega)
    rw [k3] at a1
    exact o.trans _ _ _ (h i i1 (by omega)) a1
theorem heapF_congr {g : Nat → α} (h : HeapF lt n f) (e : ∀ k, k < n → f k = g k) : HeapF lt n g := fun k k1 k2 => by rw [← e k k2, ← e _ (by omega)]; exact h k k1 k2
theorem upF_congr {g : Nat → α} {j : Nat} (hj : j < n) (h : UpF lt n f j) (e : ∀ k, k < n → f k = g k) : UpF lt n g j :=
  ⟨fun k k1 k2 k3 => by rw [← e k k2, ← e _ (by omega)]; exact h.1 k k1 k2 k3, fun j1 k k1 k2 k3 => by rw [← e k k2, ← e _ (by omega)]; exact h.2 j1 k k1 k2 k3⟩
theorem holeF_congr {g : Nat → α} {i : Nat} (hi : i ≤ n) (h : HoleF lt n f i) (e : ∀ k, k < n → f k = g k) : HoleF lt n g i :=
  ⟨fun k k1 k2 k3 k4 => by rw [← e k k2, ← e _ (by omega)]; exact h.1 k k1 k2 k3 k4, fun i1 k k1 k2 k3 => by rw [← e k k2, ← e _ (by omega)]; exact h.2 i1 k k1 k2 k3⟩
end

/-- Two of a row, swapped. -/
def swpL (l : List Nat) (i j : Nat) : List Nat := (l.set i (l.getD j 0)).set j (l.getD i 0)
theorem swpL_len (l : List Nat) (i j : Nat) : (swpL l i j).length = l.length := by simp [swpL]
theorem swpL_perm {l : List Nat} {i j : Nat} (hi : i < l.length) (hj : j < l.length) : (swpL l i j).Perm l := by
  have h := Array.swap_perm (xs := l.toArray) (i := i) (j := j) (by simpa using hi) (by simpa using hj)
  rw [List.swap_toArray] at h
  have h2 := Array.perm_iff_toList_perm.1 h
  simpa [swpL, List.getD, hi, hj] using h2
theorem swpL_get {l : List Nat} {i j : Nat} (hi : i < l.length) (hj : j < l.length) (k : Nat) : (swpL l i j).getD k 0 = swpF (fun k => l.getD k 0) i j k := by
  unfold swpL swpF
  by_cases h1 : k = j
  · subst h1
    by_cases h2 : k = i
    · subst h2; simp [List.getD, hi]
    · simp [List.getD, hj, h2]
  · by_cases h2 : k = i
    · subst h2; simp [List.getD, hi, Ne.symm h1]
    · simp [List.getD, h1, h2, Ne.symm h1, Ne.symm h2]

end Go.Proofs.Ytoaejkfejdaiaaa
