/- Two events held against one another. -/
import Derived.Test.YtljlaopjimkcmaaMem
import Derived.Laws.StructEq
namespace Go.Proofs.Ytljlaopjimkcmaa
open Go.RowKit


theorem run_eql_ev (e e' : Ev) (w : World) :
    (binOp .eql 39 (.agg #[.int .i64 e.thread, .int .i64 e.kind, .int .i64 e.obj, .bool e.fail]) (.agg #[.int .i64 e'.thread, .int .i64 e'.kind, .int .i64 e'.obj, .bool e'.fail])).run Try.prog w = .ok (.bool (decide (e = e'))) w := by
  rw [run_eql_struct]
  simp [run_equal_ev]
theorem run_neq_ev (e e' : Ev) (w : World) :
    (binOp .neq 39 (.agg #[.int .i64 e.thread, .int .i64 e.kind, .int .i64 e.obj, .bool e.fail]) (.agg #[.int .i64 e'.thread, .int .i64 e'.kind, .int .i64 e'.obj, .bool e'.fail])).run Try.prog w = .ok (.bool (decide (e ≠ e'))) w := by
  rw [run_neq_struct]
  simp [run_equal_ev]

end Go.Proofs.Ytljlaopjimkcmaa
