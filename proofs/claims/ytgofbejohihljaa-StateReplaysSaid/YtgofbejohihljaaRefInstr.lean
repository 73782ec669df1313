/- The contract of the document's Instr. -/
import Derived.Test.YtgofbejohihljaaInstr
namespace Go.Proofs.Ytgofbejohihljaa
open Go.RowKit

set_option maxRecDepth 100000 in
set_option maxHeartbeats 1000000 in
theorem refInstr_any (V M size : Int) (_hs : 0 ≤ size) (_hs2 : size ≤ 1000) (hV : 0 ≤ V) (hV2 : V ≤ 4) (hM : 0 ≤ M) (hM2 : M ≤ 2) (t : Value) (i : Ins) (w : World) :
    Calls Try.prog 41 #[.agg #[.int .i64 V, .int .i64 M, t], .int .i64 size, insV i] w fun r w' => r = .returned (.bool (rightIns V M size i)) ∧ Below w.heap.size w w' := by
  obtain ⟨k, ri, x, n⟩ := i
  unfold insV
  dsimp only
  go_enter Try.func41, Try.ntmps41
  go_wp2_with (go_at_call 40; refine (within_any _ _ _ _).mono ?_; rintro r w' ⟨rfl, rfl⟩)
  all_goals
    go_ret
    refine ⟨ret_bool ?_, below_alloc2 _ _ _⟩
    simp [withinB] at *
    rw [Bool.eq_iff_iff]
    simp [rightIns, *]
    try (first | omega | (split <;> omega))
end Go.Proofs.Ytgofbejohihljaa
