/- The contracts of event's toByte, fromByte, and of the document's Byte. -/
import Derived.Test.YtljlaopjimkcmaaEvent
namespace Go.Proofs.Ytljlaopjimkcmaa
open Go.RowKit

set_option maxRecDepth 100000 in
set_option maxHeartbeats 1000000 in
theorem toByte_any (e : Ev) (h : rightEv e = true) (w : World) : Calls Try.prog 49 #[.agg #[.int .i64 e.thread, .int .i64 e.kind, .int .i64 e.obj, .bool e.fail]] w fun r w' => r = .returned (.int .u8 (evB e)) ∧ Below w.heap.size w w' := by
  have bd := rightEv_bd h
  clear h
  obtain ⟨t, k, o, f⟩ := e
  dsimp only at bd ⊢
  obtain ⟨b0, b1, b2, b3, b4, b5⟩ := bd
  unfold evB
  cases f
  · go_enter Try.func49, Try.ntmps49
    go_wp2
    go_ret
    refine ⟨?_, below_alloc1 _ _⟩
    simp
  · go_enter Try.func49, Try.ntmps49
    go_wp2
    go_ret
    refine ⟨?_, below_alloc1 _ _⟩
    simp

set_option maxRecDepth 100000 in
set_option maxHeartbeats 1000000 in
theorem refByte_any (e : Ev) (h : rightEv e = true) (w : World) : Calls Try.prog 41 #[.agg #[.int .i64 e.thread, .int .i64 e.kind, .int .i64 e.obj, .bool e.fail]] w fun r w' => r = .returned (.int .i64 (evB e)) ∧ Below w.heap.size w w' := by
  have bd := rightEv_bd h
  clear h
  obtain ⟨t, k, o, f⟩ := e
  dsimp only at bd ⊢
  obtain ⟨b0, b1, b2, b3, b4, b5⟩ := bd
  unfold evB
  cases f
  · go_enter Try.func41, Try.ntmps41
    go_wp2
    go_ret
    refine ⟨?_, below_alloc1 _ _⟩
    simp
  · go_enter Try.func41, Try.ntmps41
    go_wp2
    go_ret
    refine ⟨?_, below_alloc1 _ _⟩
    simp


set_option maxRecDepth 100000 in
set_option maxHeartbeats 1000000 in
theorem fromByte_any (n : Int) (h0 : 0 ≤ n) (h1 : n < 256) (w : World) : Calls Try.prog 50 #[.int .u8 n] w fun r w' => r = .returned (.agg #[.int .i64 (evOf n).thread, .int .i64 (evOf n).kind, .int .i64 (evOf n).obj, .bool (evOf n).fail]) ∧ Below w.heap.size w w' := by
  have hw : IntKind.i64.wrap n = n := IntWalk.i64_in (by omega) (by omega)
  go_enter Try.func50, Try.ntmps50
  go_wp2
  exact bodyPost_ret (v := .agg #[.int .i64 (evOf n).thread, .int .i64 (evOf n).kind, .int .i64 (evOf n).obj, .bool (evOf n).fail]) (by
    simp [results, Try.results50, go_sem]
    simp only [evOf]
    exact ⟨trivial, by omega, by omega, trivial⟩) rfl ⟨rfl, below_alloc1 _ _⟩

end Go.Proofs.Ytljlaopjimkcmaa
