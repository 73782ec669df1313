/- The cells of rows of instructions. -/
import Derived.Test.YtfhndbibabbnlaaInstr
namespace Go.Proofs.Ytfhndbibabbnlaa
open Go.RowKit

def insCells (l : List Ins) : List Value := l.flatMap fun i => [.int .i64 i.kind, .int .i64 i.r, .int .i64 i.x, .int .i64 i.n]

theorem insCells_length (l : List Ins) : (insCells l).length = l.length * 4 := by
  induction l with
  | nil => rfl
  | cons i l ih => simp only [insCells, List.flatMap_cons, List.length_append, List.length_cons, List.length_nil] at *; omega

theorem insCells_get (l : List Ins) (i j : Nat) (h : i < l.length) (hj : j < 4) :
    (insCells l)[i * 4 + j]? = [Value.int .i64 l[i].kind, .int .i64 l[i].r, .int .i64 l[i].x, .int .i64 l[i].n][j]? := by
  induction l generalizing i with
  | nil => simp at h
  | cons x l ih =>
    cases i with
    | zero =>
      simp only [insCells, List.flatMap_cons, Nat.zero_mul, Nat.zero_add, List.getElem_cons_zero]
      rw [List.getElem?_append_left (by simpa using hj)]
    | succ i =>
      have := ih i (by simpa using h)
      simp only [insCells, List.flatMap_cons, List.getElem_cons_succ] at *
      rw [List.getElem?_append_right (by simp; omega), ← this]
      congr 1
      simp
      omega

theorem insCells_one (l : List Ins) : ∀ v ∈ insCells l, v.oneCell' = true := by
  intro v hv
  simp only [insCells, List.mem_flatMap] at hv
  obtain ⟨i, _, hv⟩ := hv
  simp at hv
  rcases hv with rfl | rfl | rfl | rfl <;> rfl

/-- The cells of a code that lies in memory. -/
theorem CodeAt.cells {w : World} {b o : Nat} {l : List Ins} (h : CodeAt w (some ⟨b, o, none⟩) l) :
    ∀ j v, (insCells l)[j]? = some v → w.cell? (Addr.add ⟨b, o, none⟩ j) = some v := by
  intro j v hv
  have hj : j < (insCells l).length := (List.getElem?_eq_some_iff.1 hv).1
  rw [insCells_length] at hj
  have hlt : j / 4 < l.length := by omega
  obtain ⟨b', o', e, hc⟩ := h.2 (by intro e; simp [e] at hlt)
  obtain ⟨rfl, rfl⟩ : b = b' ∧ o = o' := by simpa using e
  obtain ⟨c0, c1, c2, c3⟩ := hc (j / 4) hlt
  have ej : j / 4 * 4 + j % 4 = j := by omega
  have hm : j % 4 < 4 := by omega
  have := insCells_get l (j / 4) (j % 4) hlt hm
  rw [ej, hv] at this
  have ha : Addr.add ⟨b, o, none⟩ j = ⟨b, o + j / 4 * 4 + j % 4, none⟩ := by
    unfold Addr.add
    split
    · rename_i h0; subst h0; rfl
    · simp; omega
  rw [ha]
  obtain h | h | h | h : j % 4 = 0 ∨ j % 4 = 1 ∨ j % 4 = 2 ∨ j % 4 = 3 := by omega
  all_goals
    rw [h] at this ⊢
    simp at this
    subst this
    first | exact c0 | exact c1 | exact c2 | exact c3

/-- A row of the cells of a code is that code. -/
theorem codeAt_row {w : World} {g : Nat} {l : List Ins} {t : TypeId} {fr : Nat × Nat} (hm : l.length ≤ maxLen) (h : w.heap[g]? = some (.cells (insCells l).toArray t fr)) : CodeAt w (some ⟨g, 0, none⟩) l := by
  refine ⟨hm, fun _ => ⟨g, 0, rfl, fun i hi => ?_⟩⟩
  have e : ∀ j, w.cell? ⟨g, j, none⟩ = (insCells l)[j]? := by intro j; simp [World.cell?, h]
  refine ⟨?_, ?_, ?_, ?_⟩
  · rw [e]; simpa using insCells_get l i 0 hi (by omega)
  · rw [e]; simpa using insCells_get l i 1 hi (by omega)
  · rw [e]; simpa using insCells_get l i 2 hi (by omega)
  · rw [e]; simpa using insCells_get l i 3 hi (by omega)

end Go.Proofs.Ytfhndbibabbnlaa
