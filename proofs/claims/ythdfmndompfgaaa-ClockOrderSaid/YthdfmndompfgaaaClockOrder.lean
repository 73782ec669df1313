/- ClockOrder: to happen before is an order. -/
import Derived.Test.YthdfmndompfgaaaClockOrderN
import Derived.Test.YthdfmndompfgaaaClockOrderY
namespace Go.Proofs.Ythdfmndompfgaaa
open Go.RowKit

set_option maxRecDepth 100000 in
set_option maxHeartbeats 4000000 in
theorem clockOrder_any (a : Option Addr) (l : List Ev) (cap : Nat) (i j k : Int) (w : World) (hl : EvsAt w a l) (hcap : l.length ≤ cap) :
    Calls Try.prog 4 #[.slice a l.length cap, .int .i64 i, .int .i64 j, .int .i64 k] w fun r w' => r = .returned (.bool true) ∧ Below w.heap.size w w' := by
  have hmx := hl.1
  unfold maxLen at hmx
  have HL := Lib.hid hl
  clear hl
  by_cases hlen : l.length ≤ 40
  case neg =>
    have hq : 40 < l.length := by omega
    clear hlen
    go_enter Try.func4, Try.ntmps4
    go_wp2_with fail
    refine (awake_any w).mono ?_
    rintro r w1 ⟨rfl, hb1⟩
    go_wp2_with fail
    refine (awake_any w1).mono ?_
    rintro r w2 ⟨rfl, hb2⟩
    go_wp2
    go_ret
    exact ⟨rfl, hb1.trans (hb2.mono hb1.size)⟩
  have hq40 : decide ((40 : Int) < (l.length : Int)) = false := by simp; omega
  have hq41 : decide (40 < l.length) = false := by simp; omega
  by_cases hl0 : l.length = 0
  · have HZ := Lib.hid hl0
    have hqz : ((l.length : Int) == 0) = true := by simp [hl0]
    clear hl0
    go_enter Try.func4, Try.ntmps4
    go_wp2_with fail
    refine (awake_any w).mono ?_
    rintro r w1 ⟨rfl, hb1⟩
    go_wp2_with fail
    refine (awake_any w1).mono ?_
    rintro r w2 ⟨rfl, hb2⟩
    go_wp2
    go_ret
    exact ⟨rfl, hb1.trans (hb2.mono hb1.size)⟩
  have hqz : ((l.length : Int) == 0) = false := by simpa using hl0
  have hpos : 1 ≤ l.length := by omega
  clear hl0
  cases hr : rightL l
  · have HR := Lib.hid hr
    clear hr
    go_enter Try.func4, Try.ntmps4
    go_wp2_with fail
    refine (awake_any w).mono ?_
    rintro r w1 ⟨rfl, hb1⟩
    go_wp2_with fail
    refine (rows_any a cap l w1 (HL.out.later hb1)).mono ?_
    rintro r w2 ⟨rfl, hb2⟩
    rw [HR.out]
    go_wp2_with fail
    refine (awake_any w2).mono ?_
    rintro r w3 ⟨rfl, hb3⟩
    have hb4 := (hb1.trans (hb2.mono hb1.size))
    go_wp2
    go_ret
    exact ⟨rfl, hb4.trans (hb3.mono hb4.size)⟩
  have HL2 := HL.out
  obtain ⟨I0, e1, hI0⟩ := wrap_u i
  obtain ⟨J0, e2, hJ0⟩ := wrap_u j
  obtain ⟨K0, e3, hK0⟩ := wrap_u k
  have e4 : IntKind.u64.wrap (l.length : Int) = l.length := wrap_u_small _ (by omega) (by omega)
  obtain ⟨I, e5, hI⟩ := tmod_nat I0 hI0 l.length hpos
  obtain ⟨J, e6, hJ⟩ := tmod_nat J0 hJ0 l.length hpos
  obtain ⟨K, e7, hK⟩ := tmod_nat K0 hK0 l.length hpos
  have hd : ∀ D, dep (evI l I) (evI l J) = D → Calls Try.prog 4 #[.slice a l.length cap, .int .i64 i, .int .i64 j, .int .i64 k] w fun r w' => r = .returned (.bool true) ∧ Below w.heap.size w w' := by
    intro D hD
    cases D
    · exact clockOrder_no a l cap i j k w HL2 hcap hmx hlen hpos hr I0 J0 K0 I J K e1 hI0 e2 hJ0 e3 hK0 e4 e5 hI e6 hJ e7 hK hD
    · exact clockOrder_yes a l cap i j k w HL2 hcap hmx hlen hpos hr I0 J0 K0 I J K e1 hI0 e2 hJ0 e3 hK0 e4 e5 hI e6 hJ e7 hK hD
  exact hd _ rfl

end Go.Proofs.Ythdfmndompfgaaa
