/- The contract of the document's Next: no fuel. -/
import Derived.Test.YtgofbejohihljaaRefState
import Derived.Test.YtgofbejohihljaaStateNext
import Derived.BigRegion
namespace Go.Proofs.Ytgofbejohihljaa
open Go.RowKit

section
variable {F : Nat} {w : World} {b tb : Nat} {a : Option Addr} {cap tcap : Nat} {s : St}

set_option maxRecDepth 100000 in
set_option maxHeartbeats 4000000 in
theorem refNext_dry (h : RefAt w b tb a cap tcap s) (t : Nat) (_h4 : s.ts.length ≤ 4) (hk' : t < s.ts.length) (hf : (s.th t).fuel = 0) : Calls Try.prog 16 #[.pointer (some ⟨b, 0, none⟩), .int .i64 t] w fun r w' => r = .returned (.tuple #[.agg #[.int .i64 0, .int .i64 0, .int .i64 0, .bool false], .bool false]) ∧ Below w.heap.size w w' := by
  obtain ⟨hb1, hb2⟩ := h.lt
  obtain ⟨p0, p1⟩ := h.prog
  have cf : w.cell? ⟨tb, t * 4 + 1, none⟩ = some (.int .i64 0) := by have := h.fuel t hk'; rw [hf] at this; exact this
  have q0 : decide ((t : Int) < 0) = false := by simp
  have q1 : decide ((s.ts.length : Int) ≤ t) = false := by simp; omega
  have q2 : decide (s.ts.length ≤ t) = false := by simp; omega
  have H := Lib.hid h
  clear h hf
  go_enter Try.func16, Try.ntmps16
  go_wp2
  go_quiet (fail)
  go_wp2
  exact bodyPost_ret (v := .tuple #[.agg #[.int .i64 0, .int .i64 0, .int .i64 0, .bool false], .bool false]) (by simp [results, Try.results16, go_sem]) rfl ⟨rfl, below_set4 (below_alloc1 w _).drewN (Nat.le_refl _) _ _ _ _⟩
end
end Go.Proofs.Ytgofbejohihljaa
