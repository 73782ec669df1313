/- The law MailNil, walked. -/
import Derived.Test.YtpanfhkmildkeaaMlWake
import Derived.Test.YtpanfhkmildkeaaOpenM
namespace Go.Proofs.Ytpanfhkmildkeaa
open Go.RowKit

set_option maxRecDepth 100000 in
set_option maxHeartbeats 4000000 in
theorem mailNil_any (o : MOp) (w : World) :
    Calls Try.prog 4 #[.agg #[.int .i64 o.kind, .int .i64 o.to, .string ⟨o.s.toArray⟩, .int .u8 (o.set : Nat)]] w fun r w' => r = .returned (.bool true) ∧ Below w.heap.size w w' := by
  obtain ⟨k, n, q, z⟩ := o
  dsimp only
  have HBX : Hid (∀ W, Below (w.alloc (.cells #[.int .i64 k, .int .i64 n, .string ⟨q.toArray⟩, .int .u8 (z : Nat)] 30)).heap.size (w.alloc (.cells #[.int .i64 k, .int .i64 n, .string ⟨q.toArray⟩, .int .u8 (z : Nat)] 30)) W → W.cell? ⟨w.heap.size, 1, none⟩ = some (.int .i64 n) ∧ W.cell? ⟨w.heap.size, 2, none⟩ = some (.string ⟨q.toArray⟩)) := fun W hb => ⟨cell_later hb (by simp), cell_later hb (by simp)⟩
  have HB1 : Hid (Below w.heap.size w (w.alloc (.cells #[.int .i64 k, .int .i64 n, .string ⟨q.toArray⟩, .int .u8 (z : Nat)] 30))) := below_alloc1 w _
  have HT : Hid (∀ W, Calls Try.prog 9 #[.pointer none, .int .i64 n] W fun e w' => e = .returned (.tuple #[.agg #[.string ⟨#[]⟩, .int .u8 0], .bool false]) ∧ Below W.heap.size W w') := fun W => mTake_nil n W
  have HS : Hid (∀ W, Calls Try.prog 8 #[.pointer none, .int .i64 n, .agg #[.string ⟨q.toArray⟩, .int .u8 0]] W fun r w' => r = .returned (.int .i64 8) ∧ Below W.heap.size W w') := fun W => mSend_nil n ⟨q, 0⟩ W
  go_enter Try.func4, Try.ntmps4
  go_wp2_with fail
  refine (HT.out _).mono ?_
  rintro r W2 ⟨rfl, hb2⟩
  have HB2 := Lib.hid (hb2.alloc hb2.size (.cells #[.string ⟨#[]⟩, .int .u8 0] 34))
  clear hb2
  go_wp2_with fail
  refine (awake12_any _).mono ?_
  rintro r W3 ⟨rfl, hb3⟩
  have HB3 := Lib.hid (HB2.out.trans (hb3.mono HB2.out.size))
  clear hb3 HB2
  obtain ⟨c1, c2⟩ := HBX.out W3 HB3.out
  go_wp2_with fail
  refine (HS.out _).mono ?_
  rintro r W4 ⟨rfl, hb4⟩
  have HB4 := Lib.hid (HB3.out.trans (hb4.mono HB3.out.size))
  clear hb4 HB3 c1 c2
  obtain ⟨c1, c2⟩ := HBX.out W4 HB4.out
  go_wp2_with fail
  refine (mLen_nil _ _).mono ?_
  rintro r w' ⟨rfl, rfl⟩
  go_wp2_with fail
  refine (mTotal_nil _).mono ?_
  rintro r w' ⟨rfl, rfl⟩
  go_wp2
  go_ret
  exact ⟨rfl, HB1.out.trans (HB4.out.mono HB1.out.size)⟩
end Go.Proofs.Ytpanfhkmildkeaa
