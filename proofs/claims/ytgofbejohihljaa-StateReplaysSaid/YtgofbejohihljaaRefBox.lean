/- Boxes of an event, of an instruction. -/
import Derived.Test.YtgofbejohihljaaRefStepA
namespace Go.Proofs.Ytgofbejohihljaa
open Go.RowKit

/-- A box of an event that is none. -/
def EvBox0 (w : World) (g : Nat) : Prop := w.heap[g]? = some (.cells #[.int .i64 0, .int .i64 0, .int .i64 0, .bool false] 35 (0, 0))
theorem EvBox0.cells {w : World} {g : Nat} (h : EvBox0 w g) : w.cell? ⟨g, 0, none⟩ = some (.int .i64 0) ∧ w.cell? ⟨g, 1, none⟩ = some (.int .i64 0) ∧ w.cell? ⟨g, 2, none⟩ = some (.int .i64 0) ∧ w.cell? ⟨g, 3, none⟩ = some (.bool false) ∧ ∀ o, w.frozen? ⟨g, o, none⟩ = false := by
  simp [World.cell?, World.frozen?, show w.heap[g]? = _ from h]
theorem ev_cells {w : World} {g : Nat} {e : Ev} (h : w.heap[g]? = some (.cells #[.int .i64 e.thread, .int .i64 e.kind, .int .i64 e.obj, .bool e.fail] 35 (0, 0))) : w.cell? ⟨g, 0, none⟩ = some (.int .i64 e.thread) ∧ w.cell? ⟨g, 1, none⟩ = some (.int .i64 e.kind) ∧ w.cell? ⟨g, 2, none⟩ = some (.int .i64 e.obj) ∧ w.cell? ⟨g, 3, none⟩ = some (.bool e.fail) := by
  simp [World.cell?, h]
theorem ins_cells {w : World} {g : Nat} {kd r x m : Int} (h : w.heap[g]? = some (.cells #[.int .i64 kd, .int .i64 r, .int .i64 x, .int .i64 m] 66 (0, 0))) : w.cell? ⟨g, 0, none⟩ = some (.int .i64 kd) ∧ w.cell? ⟨g, 1, none⟩ = some (.int .i64 r) ∧ w.cell? ⟨g, 2, none⟩ = some (.int .i64 x) ∧ w.cell? ⟨g, 3, none⟩ = some (.int .i64 m) := by
  simp [World.cell?, h]
end Go.Proofs.Ytgofbejohihljaa
