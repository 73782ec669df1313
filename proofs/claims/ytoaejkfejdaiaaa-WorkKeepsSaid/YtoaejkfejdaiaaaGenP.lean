/- General, plain: lists, numbers of 64 bits, cells. Nothing of the translation. -/
import Derived.WalkKit
namespace Go.Proofs.Ytoaejkfejdaiaaa

theorem cell_block {w : World} {a : Addr} {v : Value} (h : w.cell? a = some v) : a.block < w.heap.size := by
  unfold World.cell? at h
  rcases Nat.lt_or_ge a.block w.heap.size with h1 | h1
  · exact h1
  · rw [Array.getElem?_eq_none h1] at h; cases h
theorem cell_later {w w' : World} (hb : Go.RowKit.Below w.heap.size w w') {a : Addr} {v : Value} (h : w.cell? a = some v) : w'.cell? a = some v := by
  rw [hb.cell (cell_block h)]; exact h
theorem exists_list {α : Type} (n : Nat) (P : Nat → α → Prop) (h : ∀ i, i < n → ∃ x, P i x) : ∃ xs : List α, xs.length = n ∧ ∀ i x, xs[i]? = some x → P i x := by
  induction n with
  | zero => exact ⟨[], rfl, by simp⟩
  | succ n ih =>
    obtain ⟨xs, hl, hx⟩ := ih (fun i hi => h i (by omega))
    obtain ⟨x, hp⟩ := h n (by omega)
    refine ⟨xs ++ [x], by simp [hl], fun i y hy => ?_⟩
    by_cases hi : i < n
    · rw [List.getElem?_append_left (by omega)] at hy; exact hx i y hy
    · rw [List.getElem?_append_right (by omega)] at hy
      have : i - xs.length = 0 := by
        have := (List.getElem?_eq_some_iff.1 hy).1
        simp at this
        omega
      rw [this] at hy
      have hin : i = n := by omega
      subst hin
      simp at hy
      subst hy
      exact hp
def in64 (n : Int) : Prop := -9223372036854775808 ≤ n ∧ n ≤ 9223372036854775807
theorem in64_wrap (n : Int) : in64 (IntKind.i64.wrap n) := by
  unfold in64 IntKind.wrap
  simp [IntKind.signed, IntKind.bits]
  split <;> omega
theorem getD_lt {T : Type} {l : List T} {k : Nat} (d : T) (h : k < l.length) : l.getD k d = l[k] := by
  simp [List.getD, h]
theorem getD_set {T : Type} (l : List T) (j k : Nat) (d y : T) (hj : j < l.length) : (l.set j y).getD k d = if k = j then y else l.getD k d := by
  simp only [List.getD]
  by_cases h : k = j
  · subst h; simp [hj]
  · rw [List.getElem?_set_ne (Ne.symm h), if_neg h]
theorem sum_set (l : List Nat) (k y : Nat) (h : k < l.length) : (l.set k y).sum + l[k] = l.sum + y := by
  induction l generalizing k with
  | nil => simp at h
  | cons a l ih =>
    cases k with
    | zero => simp; omega
    | succ k => simp at h ⊢; have := ih k h; omega
abbrev Txt := List UInt8
def updF {α : Type} (f : Nat → α) (s : Nat) (x : α) : Nat → α := fun k => if k = s then x else f k
theorem updF_same {α : Type} (f : Nat → α) (s : Nat) (x : α) : updF f s x s = x := by simp [updF]
theorem updF_ne {α : Type} (f : Nat → α) {s k : Nat} (x : α) (h : k ≠ s) : updF f s x k = f k := by simp [updF, h]
theorem updF_upd {α : Type} (f : Nat → α) (s : Nat) (x y : α) : updF (updF f s x) s y = updF f s y := by
  funext k; unfold updF; by_cases h : k = s <;> simp [h]
theorem updF_id {α : Type} (f : Nat → α) (s : Nat) : updF f s (f s) = f := by
  funext k; unfold updF; by_cases h : k = s <;> simp [h]
theorem getD_mem {l : List Nat} {k : Nat} (h : k < l.length) : l.getD k 0 ∈ l := by simp [List.getD, h]
theorem mem_getD {l : List Nat} {x : Nat} (h : x ∈ l) : ∃ k, k < l.length ∧ l.getD k 0 = x := by
  obtain ⟨k, hk, rfl⟩ := List.getElem_of_mem h
  exact ⟨k, hk, by simp [List.getD, hk]⟩

end Go.Proofs.Ytoaejkfejdaiaaa
