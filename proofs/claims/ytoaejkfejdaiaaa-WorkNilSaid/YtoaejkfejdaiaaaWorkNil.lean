/- The law WorkNil, walked. -/
import Derived.Test.YtoaejkfejdaiaaaWkWake
import Derived.Test.YtoaejkfejdaiaaaOpenW
namespace Go.Proofs.Ytoaejkfejdaiaaa
open Go.RowKit

set_option maxRecDepth 100000 in
theorem wPush_nil (z : Int) (k : Txt) (w : World) : Calls Try.prog 8 #[.pointer none, .int .i64 z, .string ⟨k.toArray⟩] w fun r w' => r = .returned (.bool false) ∧ w' = w := by
  have HI := Lib.hid (wIs_nil z w)
  go_enter Try.func8, Try.ntmps8
  go_wp2_with fail
  refine HI.out.mono ?_
  rintro r w' ⟨rfl, rfl⟩
  go_wp2
  go_ret
  exact ⟨rfl, rfl⟩
set_option maxRecDepth 100000 in
set_option maxHeartbeats 4000000 in
theorem workNil_any (o : WOp) (w : World) :
    Calls Try.prog 4 #[.agg #[.int .i64 o.kind, .int .i64 o.a, .int .i64 o.b, .string ⟨o.s.toArray⟩]] w fun r w' => r = .returned (.bool true) ∧ Below w.heap.size w w' := by
  obtain ⟨k, n, m, q⟩ := o
  dsimp only
  have HBX : Hid (∀ W, Below (w.alloc (.cells #[.int .i64 k, .int .i64 n, .int .i64 m, .string ⟨q.toArray⟩] 33)).heap.size (w.alloc (.cells #[.int .i64 k, .int .i64 n, .int .i64 m, .string ⟨q.toArray⟩] 33)) W → W.cell? ⟨w.heap.size, 1, none⟩ = some (.int .i64 n) ∧ W.cell? ⟨w.heap.size, 3, none⟩ = some (.string ⟨q.toArray⟩)) := fun W hb => ⟨cell_later hb (by simp), cell_later hb (by simp)⟩
  have HB1 : Hid (Below w.heap.size w (w.alloc (.cells #[.int .i64 k, .int .i64 n, .int .i64 m, .string ⟨q.toArray⟩] 33))) := below_alloc1 w _
  go_enter Try.func4, Try.ntmps4
  go_wp2_with fail
  refine (wPop_nil _ _).mono ?_
  rintro r w' ⟨rfl, rfl⟩
  go_wp2_with fail
  refine (wSteal_nil _ _ _).mono ?_
  rintro r w' ⟨rfl, rfl⟩
  go_wp2_with fail
  refine (awake13_any _).mono ?_
  rintro r W3 ⟨rfl, hb3⟩
  have HB3 := Lib.hid hb3
  clear hb3
  obtain ⟨c1, c2⟩ := HBX.out W3 HB3.out
  go_wp2_with fail
  refine (wPush_nil n q _).mono ?_
  rintro r w' ⟨rfl, rfl⟩
  go_wp2_with fail
  refine (wHas_nil q _).mono ?_
  rintro r w' ⟨rfl, rfl⟩
  go_wp2_with fail
  refine (wLen_nil n _).mono ?_
  rintro r w' ⟨rfl, rfl⟩
  go_wp2_with fail
  refine (wTotal_nil _).mono ?_
  rintro r w' ⟨rfl, rfl⟩
  go_wp2
  go_ret
  exact ⟨rfl, HB1.out.trans (HB3.out.mono HB1.out.size)⟩
end Go.Proofs.Ytoaejkfejdaiaaa
