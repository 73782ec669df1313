/- The contract of the document's Next: no such thread. -/
import Derived.Test.YtgofbejohihljaaRefState
import Derived.Test.YtgofbejohihljaaStateNext
import Derived.BigRegion
namespace Go.Proofs.Ytgofbejohihljaa
open Go.RowKit

section
variable {F : Nat} {w : World} {b tb : Nat} {a : Option Addr} {cap tcap : Nat} {s : St}

set_option maxRecDepth 100000 in
set_option maxHeartbeats 4000000 in
theorem refNext_neg (h : RefAt w b tb a cap tcap s) (t : Int) (ht0 : t < 0) : Calls Try.prog 16 #[.pointer (some ⟨b, 0, none⟩), .int .i64 t] w fun r w' => r = .returned (.tuple #[.agg #[.int .i64 0, .int .i64 0, .int .i64 0, .bool false], .bool false]) ∧ Below w.heap.size w w' := by
  obtain ⟨hb1, hb2⟩ := h.lt
  obtain ⟨p0, p1⟩ := h.prog
  have q0 : decide (t < 0) = true := by simpa using ht0
  have H := Lib.hid h
  clear h
  go_enter Try.func16, Try.ntmps16
  go_wp2
  go_quiet (fail)
  go_wp2
  exact bodyPost_ret (v := .tuple #[.agg #[.int .i64 0, .int .i64 0, .int .i64 0, .bool false], .bool false]) (by simp [results, Try.results16, go_sem]) rfl ⟨rfl, below_set4 (below_alloc1 w _).drewN (Nat.le_refl _) _ _ _ _⟩

set_option maxRecDepth 100000 in
set_option maxHeartbeats 4000000 in
theorem refNext_out (h : RefAt w b tb a cap tcap s) (t : Int) (ht0 : ¬ t < 0) (hk0 : (s.ts.length : Int) ≤ t) : Calls Try.prog 16 #[.pointer (some ⟨b, 0, none⟩), .int .i64 t] w fun r w' => r = .returned (.tuple #[.agg #[.int .i64 0, .int .i64 0, .int .i64 0, .bool false], .bool false]) ∧ Below w.heap.size w w' := by
  obtain ⟨hb1, hb2⟩ := h.lt
  obtain ⟨p0, p1⟩ := h.prog
  have q0 : decide (t < 0) = false := by simpa using ht0
  have q1 : decide ((s.ts.length : Int) ≤ t) = true := by simpa using hk0
  have H := Lib.hid h
  clear h ht0 hk0
  go_enter Try.func16, Try.ntmps16
  go_wp2
  go_quiet (fail)
  go_wp2
  exact bodyPost_ret (v := .tuple #[.agg #[.int .i64 0, .int .i64 0, .int .i64 0, .bool false], .bool false]) (by simp [results, Try.results16, go_sem]) rfl ⟨rfl, below_set4 (below_alloc1 w _).drewN (Nat.le_refl _) _ _ _ _⟩
end
end Go.Proofs.Ytgofbejohihljaa
