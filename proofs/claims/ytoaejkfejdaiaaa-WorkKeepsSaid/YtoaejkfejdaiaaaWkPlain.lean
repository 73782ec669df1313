/- Work, plainly: who has what; pushes, pops and thefts. -/
import Derived.Test.YtoaejkfejdaiaaaQuPlain
import Derived.Test.YtoaejkfejdaiaaaGenP
namespace Go.Proofs.Ytoaejkfejdaiaaa

/-- Is there that worker? -/
def isW (n : Nat) (z : Int) : Bool := decide (0 ≤ z) && decide (z < n)
theorem isW_yes {n : Nat} {z : Int} (h : isW n z = true) : ∃ j : Nat, j < n ∧ z = j := by
  unfold isW at h
  simp only [Bool.and_eq_true, decide_eq_true_eq] at h
  exact ⟨z.toNat, by omega, by omega⟩
/-- Does somebody have it? -/
def hasW (n : Nat) (ls : Nat → List Txt) (s : Txt) : Bool := (List.range n).any fun j => decide (s ∈ ls j)
theorem hasW_iff {n : Nat} {ls : Nat → List Txt} {s : Txt} : hasW n ls s = true ↔ ∃ j, j < n ∧ s ∈ ls j := by
  unfold hasW
  simp
def totW (n : Nat) (ls : Nat → List Txt) : Nat := ((List.range n).map fun j => (ls j).length).sum
theorem totW_succ (n : Nat) (ls : Nat → List Txt) : totW (n + 1) ls = totW n ls + (ls n).length := by simp [totW, List.range_succ]
/-- All that is had. -/
def allW (n : Nat) (ls : Nat → List Txt) : List Txt := (List.range n).flatMap ls
theorem mem_allW {n : Nat} {ls : Nat → List Txt} {s : Txt} : s ∈ allW n ls ↔ hasW n ls s = true := by
  rw [hasW_iff]
  unfold allW
  rw [List.mem_flatMap]
  exact ⟨fun ⟨j, h1, h2⟩ => ⟨j, List.mem_range.1 h1, h2⟩, fun ⟨j, h1, h2⟩ => ⟨j, List.mem_range.2 h1, h2⟩⟩
theorem allW_succ (n : Nat) (ls : Nat → List Txt) : allW (n + 1) ls = allW n ls ++ ls n := by
  unfold allW
  rw [List.range_succ, List.flatMap_append]
  simp
theorem allW_len (n : Nat) (ls : Nat → List Txt) : (allW n ls).length = totW n ls := by
  induction n with
  | zero => rfl
  | succ n ih => rw [allW_succ, List.length_append, ih, totW_succ]
theorem allW_out {n j : Nat} (ls : Nat → List Txt) (l : List Txt) (h : n ≤ j) : allW n (updF ls j l) = allW n ls := by
  induction n with
  | zero => rfl
  | succ n ih => rw [allW_succ, allW_succ, ih (by omega), updF_ne _ _ (by omega)]
/-- One worker's, and the others'. -/
theorem allW_upd {n j : Nat} (ls : Nat → List Txt) (hj : j < n) : ∃ R, (allW n ls).Perm (ls j ++ R) ∧ ∀ l, (allW n (updF ls j l)).Perm (l ++ R) := by
  induction n with
  | zero => omega
  | succ n ih =>
    by_cases e : j = n
    · subst e
      refine ⟨allW j ls, ?_, fun l => ?_⟩
      · rw [allW_succ]; exact List.perm_append_comm
      · rw [allW_succ, allW_out _ _ (Nat.le_refl _), updF_same]; exact List.perm_append_comm
    · obtain ⟨R, h1, h2⟩ := ih (by omega)
      refine ⟨R ++ ls n, ?_, fun l => ?_⟩
      · rw [allW_succ, ← List.append_assoc]; exact h1.append_right _
      · rw [allW_succ, updF_ne _ _ (Ne.symm e), ← List.append_assoc]; exact (h2 l).append_right _
section
variable {n : Nat} {ls : Nat → List Txt}
theorem allW_put {j : Nat} (hj : j < n) (s : Txt) : (allW n (updF ls j (putT (ls j) s))).Perm (s :: allW n ls) := by
  obtain ⟨R, h1, h2⟩ := allW_upd ls hj
  exact (h2 _).trans (((putT_perm (ls j) s).append_right R).trans ((h1.symm.cons s)))
theorem allW_pop {j : Nat} (hj : j < n) {k : Txt} {l : List Txt} (e : (ls j).Perm (k :: l)) : (allW n ls).Perm (k :: allW n (updF ls j l)) := by
  obtain ⟨R, h1, h2⟩ := allW_upd ls hj
  exact h1.trans ((e.append_right R).trans ((h2 l).symm.cons k))
theorem allW_steal {i k : Nat} (hi : i < n) (hk : k < n) (hik : i ≠ k) {x : Txt} {l : List Txt} (e : (ls k).Perm (x :: l)) : (allW n (updF (updF ls k l) i (putT (ls i) x))).Perm (allW n ls) := by
  have h1 := allW_put (ls := updF ls k l) hi x
  rw [updF_ne _ _ hik] at h1
  exact h1.trans (allW_pop hk e).symm
/-- Nothing is had twice. -/
def NoW (n : Nat) (ls : Nat → List Txt) : Prop := (allW n ls).Nodup
theorem allW_start (n : Nat) : allW n (fun _ => []) = [] := by
  induction n with
  | zero => rfl
  | succ n ih => rw [allW_succ, ih]; rfl
theorem noW_start (n : Nat) : NoW n (fun _ => []) := by
  unfold NoW
  rw [allW_start]
  exact List.nodup_nil
theorem hasW_start (n : Nat) (s : Txt) : hasW n (fun _ => []) s = false := by
  rw [Bool.eq_false_iff]
  intro h
  obtain ⟨_, _, h⟩ := hasW_iff.1 h
  cases h
theorem totW_start (n : Nat) : totW n (fun _ => []) = 0 := by
  rw [← allW_len, allW_start]
  rfl
theorem has_put {j : Nat} (hj : j < n) (s t : Txt) : hasW n (updF ls j (putT (ls j) s)) t = (decide (t = s) || hasW n ls t) := by
  rw [Bool.eq_iff_iff, ← mem_allW, (allW_put hj s).mem_iff, List.mem_cons, Bool.or_eq_true, decide_eq_true_eq, mem_allW]
theorem no_put {j : Nat} (hj : j < n) {s : Txt} (h : NoW n ls) (hs : hasW n ls s = false) : NoW n (updF ls j (putT (ls j) s)) := by
  unfold NoW
  rw [(allW_put hj s).nodup_iff, List.nodup_cons]
  refine ⟨fun hm => ?_, h⟩
  rw [mem_allW, hs] at hm
  cases hm
theorem tot_put {j : Nat} (hj : j < n) (s : Txt) : totW n (updF ls j (putT (ls j) s)) = totW n ls + 1 := by
  rw [← allW_len, (allW_put hj s).length_eq, List.length_cons, allW_len]
theorem no_pop {j : Nat} (hj : j < n) {k : Txt} {l : List Txt} (h : NoW n ls) (e : (ls j).Perm (k :: l)) : NoW n (updF ls j l) ∧ hasW n (updF ls j l) k = false := by
  have h1 := (allW_pop hj e).nodup_iff.1 h
  rw [List.nodup_cons] at h1
  refine ⟨h1.2, ?_⟩
  rw [Bool.eq_false_iff]
  exact fun hm => h1.1 (mem_allW.2 hm)
theorem has_pop {j : Nat} (hj : j < n) {k : Txt} {l : List Txt} (h : NoW n ls) (e : (ls j).Perm (k :: l)) (t : Txt) : hasW n (updF ls j l) t = (!decide (t = k) && hasW n ls t) := by
  have h1 := no_pop hj h e
  by_cases ht : t = k
  · subst ht
    rw [h1.2]
    simp
  · rw [Bool.eq_iff_iff, Bool.and_eq_true, ← mem_allW, ← mem_allW, (allW_pop hj e).mem_iff, List.mem_cons]
    simp [ht]
theorem tot_pop {j : Nat} (hj : j < n) {k : Txt} {l : List Txt} (e : (ls j).Perm (k :: l)) : totW n ls = totW n (updF ls j l) + 1 := by
  rw [← allW_len, (allW_pop hj e).length_eq, List.length_cons, allW_len]
theorem no_steal {i k : Nat} (hi : i < n) (hk : k < n) (hik : i ≠ k) {x : Txt} {l : List Txt} (h : NoW n ls) (e : (ls k).Perm (x :: l)) : NoW n (updF (updF ls k l) i (putT (ls i) x)) := (allW_steal hi hk hik e).nodup_iff.2 h
theorem has_steal {i k : Nat} (hi : i < n) (hk : k < n) (hik : i ≠ k) {x : Txt} {l : List Txt} (e : (ls k).Perm (x :: l)) (t : Txt) : hasW n (updF (updF ls k l) i (putT (ls i) x)) t = hasW n ls t := by
  rw [Bool.eq_iff_iff, ← mem_allW, (allW_steal hi hk hik e).mem_iff, mem_allW]
theorem tot_steal {i k : Nat} (hi : i < n) (hk : k < n) (hik : i ≠ k) {x : Txt} {l : List Txt} (e : (ls k).Perm (x :: l)) : totW n (updF (updF ls k l) i (putT (ls i) x)) = totW n ls := by
  rw [← allW_len, (allW_steal hi hk hik e).length_eq, allW_len]
theorem len_tot {j : Nat} (hj : j < n) : (ls j).length ≤ totW n ls := by
  obtain ⟨R, h1, _⟩ := allW_upd ls hj
  rw [← allW_len, h1.length_eq, List.length_append]
  omega
end
end Go.Proofs.Ytoaejkfejdaiaaa
