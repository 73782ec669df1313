/- The contracts of copyList. -/
import Derived.Test.YtjkfocmfgcmegaaCopyLaw
import Derived.Test.YtjkfocmfgcmegaaInstr
import Derived.Lib.SliceRun
import Derived.Deep.OwnRows
namespace Go.Proofs.Ytjkfocmfgcmegaa
open Go.RowKit

def insCells (l : List Ins) : List Value := l.flatMap fun i => [.int .i64 i.kind, .int .i64 i.r, .int .i64 i.x, .int .i64 i.n]

theorem insCells_length (l : List Ins) : (insCells l).length = l.length * 4 := by
  induction l with
  | nil => rfl
  | cons i l ih => simp only [insCells, List.flatMap_cons, List.length_append, List.length_cons, List.length_nil] at *; omega

theorem insCells_get (l : List Ins) (i j : Nat) (h : i < l.length) (hj : j < 4) :
    (insCells l)[i * 4 + j]? = [Value.int .i64 l[i].kind, .int .i64 l[i].r, .int .i64 l[i].x, .int .i64 l[i].n][j]? := by
  induction l generalizing i with
  | nil => simp at h
  | cons x l ih =>
    cases i with
    | zero =>
      simp only [insCells, List.flatMap_cons, Nat.zero_mul, Nat.zero_add, List.getElem_cons_zero]
      rw [List.getElem?_append_left (by simpa using hj)]
    | succ i =>
      have := ih i (by simpa using h)
      simp only [insCells, List.flatMap_cons, List.getElem_cons_succ] at *
      rw [List.getElem?_append_right (by simp; omega), ← this]
      congr 1
      simp
      omega

theorem insCells_one (l : List Ins) : ∀ v ∈ insCells l, v.oneCell' = true := by
  intro v hv
  simp only [insCells, List.mem_flatMap] at hv
  obtain ⟨i, _, hv⟩ := hv
  simp at hv
  rcases hv with rfl | rfl | rfl | rfl <;> rfl

/-- The cells of a code that lies in memory. -/
theorem CodeAt.cells {w : World} {b o : Nat} {l : List Ins} (h : CodeAt w (some ⟨b, o, none⟩) l) :
    ∀ j v, (insCells l)[j]? = some v → w.cell? (Addr.add ⟨b, o, none⟩ j) = some v := by
  intro j v hv
  have hj : j < (insCells l).length := (List.getElem?_eq_some_iff.1 hv).1
  rw [insCells_length] at hj
  have hlt : j / 4 < l.length := by omega
  obtain ⟨b', o', e, hc⟩ := h.2 (by intro e; simp [e] at hlt)
  obtain ⟨rfl, rfl⟩ : b = b' ∧ o = o' := by simpa using e
  obtain ⟨c0, c1, c2, c3⟩ := hc (j / 4) hlt
  have ej : j / 4 * 4 + j % 4 = j := by omega
  have hm : j % 4 < 4 := by omega
  have := insCells_get l (j / 4) (j % 4) hlt hm
  rw [ej, hv] at this
  have ha : Addr.add ⟨b, o, none⟩ j = ⟨b, o + j / 4 * 4 + j % 4, none⟩ := by
    unfold Addr.add
    split
    · rename_i h0; subst h0; rfl
    · simp; omega
  rw [ha]
  obtain h | h | h | h : j % 4 = 0 ∨ j % 4 = 1 ∨ j % 4 = 2 ∨ j % 4 = 3 := by omega
  all_goals
    rw [h] at this ⊢
    simp at this
    subst this
    first | exact c0 | exact c1 | exact c2 | exact c3

/-- A row of the cells of a code is that code. -/
theorem codeAt_row {w : World} {g : Nat} {l : List Ins} {t : TypeId} {fr : Nat × Nat} (hm : l.length ≤ maxLen) (h : w.heap[g]? = some (.cells (insCells l).toArray t fr)) : CodeAt w (some ⟨g, 0, none⟩) l := by
  refine ⟨hm, fun _ => ⟨g, 0, rfl, fun i hi => ?_⟩⟩
  have e : ∀ j, w.cell? ⟨g, j, none⟩ = (insCells l)[j]? := by intro j; simp [World.cell?, h]
  refine ⟨?_, ?_, ?_, ?_⟩
  · rw [e]; simpa using insCells_get l i 0 hi (by omega)
  · rw [e]; simpa using insCells_get l i 1 hi (by omega)
  · rw [e]; simpa using insCells_get l i 2 hi (by omega)
  · rw [e]; simpa using insCells_get l i 3 hi (by omega)

theorem run_make_k {P : Program} (t e : TypeId) (z : Value) (k bytes : Nat) (ht : P.underlying t = some (.slice e)) (hinfo : (P.info? e).map (fun i => (i.zero, i.size, i.bytes)) = some (some z, k, bytes))
    (n : Nat) (hbytes : bytes * n ≤ 281474976710656) (h63 : n ≤ 9223372036854775807) (w : World) :
    (Instr.makeSlice t (.int .i64 (n : Int)) (.int .i64 (n : Int))).run P w = .ok (.slice (some ⟨w.heap.size, 0, none⟩) n n) (w.alloc (.cells (madeCells z.cells (n * k)) e)) := by
  obtain ⟨i, hi, hzz⟩ := Option.map_eq_some_iff.1 hinfo
  simp only [Prod.mk.injEq] at hzz
  obtain ⟨hz, hs, hb⟩ := hzz
  have hb' : (i.bytes : Int) * (n : Int) ≤ 281474976710656 := by
    rw [hb, ← Int.natCast_mul]; omega
  have h := run_make (P := P) w t e i z ht hi hz .i64 .i64 n n (by omega) (by omega) hb' (by omega)
  rw [hs] at h
  simpa using h

set_option maxHeartbeats 1000000 in
theorem copyIns_nil (w : World) :
    Calls Try.prog 25 #[.slice none 0 0] w fun r w' => r = .returned (.slice none 0 0) ∧ w = w' := by
  have he := fun w => Lib.run_eql_slice_nil (P := Try.prog) w 32 34 none 0 0 0 0 Try.underlying32
  go_enter Try.func25, Try.ntmps25
  go_wp2
  go_ret
  exact ⟨rfl, rfl⟩

set_option maxHeartbeats 1000000 in
theorem copyIns_any (b : Addr) (cap : Nat) (l : List Ins) (w : World) (hc0 : ∀ j v, (insCells l)[j]? = some v → w.cell? (b.add j) = some v) (hm : l.length ≤ 1000000) :
    Calls Try.prog 25 #[.slice (some b) l.length cap] w fun r w' => r = .returned (.slice (some ⟨w.heap.size, 0, none⟩) l.length l.length) ∧ w.alloc (.cells (insCells l).toArray 34) = w' := by
  have he := fun w => Lib.run_eql_slice_nil (P := Try.prog) w 32 34 (some b) l.length cap 0 0 Try.underlying32
  have hc := Lib.hid hc0
  clear hc0
  have hmk := run_make_k (P := Try.prog) 32 34 (.agg #[.int .i64 0, .int .i64 0, .int .i64 0, .int .i64 0]) 4 32 Try.underlying32 (by kernel_rfl) l.length (by omega) (by omega)
  have hcp : (Builtin.copy_ #[32, 32] 3 #[.slice (some ⟨w.heap.size, 0, none⟩) l.length l.length, .slice (some b) l.length cap]).run Try.prog
      (w.alloc (.cells (madeCells #[.int .i64 0, .int .i64 0, .int .i64 0, .int .i64 0] (l.length * 4)) 34)) = .ok (.int .i64 l.length) (w.alloc (.cells (insCells l).toArray 34)) := by
    have := run_copy_all (P := Try.prog) (w.alloc (.cells (madeCells #[.int .i64 0, .int .i64 0, .int .i64 0, .int .i64 0] (l.length * 4)) 34)) 32 32 3 34 4 w.heap.size l.length l.length
      (some b) cap (madeCells #[.int .i64 0, .int .i64 0, .int .i64 0, .int .i64 0] (l.length * 4)) 34 (insCells l) Try.underlying32 (by kernel_rfl) (MapKept.heap_alloc w _).1 (insCells_length l) (size_madeCells _ _)
      (fun _ => ⟨_, rfl, fun j v hv => cell_later (below_alloc1 w _) (hc.out j v hv)⟩) (insCells_one l)
    rw [alloc_setRow] at this
    exact this
  go_enter Try.func25, Try.ntmps25
  go_wp2
  go_ret
  exact ⟨rfl, rfl⟩

/-- The values of a list of codes. -/
def slV (c : Option Addr × Nat × Nat) : Value := .slice c.1 c.2.1 c.2.2

set_option maxHeartbeats 1000000 in
theorem copyThreads_nil (w : World) :
    Calls Try.prog 24 #[.slice none 0 0] w fun r w' => r = .returned (.slice none 0 0) ∧ w = w' := by
  have he := fun w => Lib.run_eql_slice_nil (P := Try.prog) w 22 32 none 0 0 0 0 Try.underlying22
  go_enter Try.func24, Try.ntmps24
  go_wp2
  go_ret
  exact ⟨rfl, rfl⟩

set_option maxHeartbeats 1000000 in
theorem copyThreads_any (b : Addr) (cap : Nat) (cs : List (Option Addr × Nat × Nat)) (w : World) (hc : ∀ j v, (cs.map slV)[j]? = some v → w.cell? (b.add j) = some v) (hm : cs.length ≤ 1000000) :
    Calls Try.prog 24 #[.slice (some b) cs.length cap] w fun r w' => r = .returned (.slice (some ⟨w.heap.size, 0, none⟩) cs.length cs.length) ∧ w.alloc (.cells (cs.map slV).toArray 32) = w' := by
  have he := fun w => Lib.run_eql_slice_nil (P := Try.prog) w 22 32 (some b) cs.length cap 0 0 Try.underlying22
  have hmk := run_make_k (P := Try.prog) 22 32 (.slice none 0 0) 1 24 Try.underlying22 (by kernel_rfl) cs.length (by omega) (by omega)
  have hcp : (Builtin.copy_ #[22, 22] 3 #[.slice (some ⟨w.heap.size, 0, none⟩) cs.length cs.length, .slice (some b) cs.length cap]).run Try.prog
      (w.alloc (.cells (madeCells #[.slice none 0 0] cs.length) 32)) = .ok (.int .i64 cs.length) (w.alloc (.cells (cs.map slV).toArray 32)) := by
    have := run_copy_all (P := Try.prog) (w.alloc (.cells (madeCells #[.slice none 0 0] cs.length) 32)) 22 22 3 32 1 w.heap.size cs.length cs.length
      (some b) cap (madeCells #[.slice none 0 0] cs.length) 32 (cs.map slV) Try.underlying22 (by kernel_rfl) (MapKept.heap_alloc w _).1 (by simp) (by simp [size_madeCells])
      (fun _ => ⟨_, rfl, fun j v hv => cell_later (below_alloc1 w _) (hc j v hv)⟩) (by intro v hv; obtain ⟨x, _, rfl⟩ := List.mem_map.1 hv; rfl)
    rw [alloc_setRow] at this
    exact this
  clear hc
  have HW : ∃ cv, cv = (cs.map slV).toArray := ⟨_, rfl⟩
  obtain ⟨cv, hcv⟩ := HW
  rw [← hcv] at hcp ⊢
  have HC := Lib.hid hcv
  clear hcv
  go_enter Try.func24, Try.ntmps24
  go_wp2
  go_ret
  exact ⟨rfl, rfl⟩
end Go.Proofs.Ytjkfocmfgcmegaa
