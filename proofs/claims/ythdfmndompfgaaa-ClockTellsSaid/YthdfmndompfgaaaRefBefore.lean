/- The contract of the document's Before. -/
import Derived.Test.YthdfmndompfgaaaRefClocks
namespace Go.Proofs.Ythdfmndompfgaaa
open Go.RowKit

set_option maxRecDepth 100000 in
set_option maxHeartbeats 4000000 in
theorem refBefore_any (a : Option Addr) (cap : Nat) (l : List Ev) (i k : Int) (w : World) (hl : EvsAt w a l) (hm : l.length ≤ 1000) :
    Calls Try.prog 14 #[.slice a l.length cap, .int .i64 i, .int .i64 k] w fun r w' => r = .returned (.bool (beforeO l i k)) ∧ Below w.heap.size w w' := by
  have HL := Lib.hid hl
  have HC := Lib.hid (rows_any a cap l w hl)
  by_cases hi : i < 0
  · have HE := Lib.hid (beforeO_out1 (l := l) (i := i) (k := k) (by omega))
    have hq : decide (i < 0) = true := by simpa using hi
    clear hl hi HC
    go_enter Try.func14, Try.ntmps14
    go_wp2
    go_ret
    exact ⟨ret_bool HE.out.symm, Below.refl _ _⟩
  have hq1 : decide (i < 0) = false := by simpa using hi
  by_cases hk : k < 0
  · have HE := Lib.hid (beforeO_out2 (l := l) (i := i) (k := k) (by omega))
    have hq : decide (k < 0) = true := by simpa using hk
    clear hl hi HC hk
    go_enter Try.func14, Try.ntmps14
    go_wp2
    go_ret
    exact ⟨ret_bool HE.out.symm, Below.refl _ _⟩
  have hq2 : decide (k < 0) = false := by simpa using hk
  obtain ⟨i, rfl⟩ : ∃ n : Nat, i = n := ⟨i.toNat, by omega⟩
  obtain ⟨k, rfl⟩ : ∃ n : Nat, k = n := ⟨k.toNat, by omega⟩
  by_cases hil : i < l.length
  case neg =>
    have HE := Lib.hid (beforeO_out1 (l := l) (i := i) (k := k) (by omega))
    have hil2 : l.length ≤ i := by omega
    clear hl hi HC hk hil
    go_enter Try.func14, Try.ntmps14
    go_wp2
    go_ret
    exact ⟨ret_bool HE.out.symm, Below.refl _ _⟩
  by_cases hkl : k < l.length
  case neg =>
    have HE := Lib.hid (beforeO_out2 (l := l) (i := i) (k := k) (by omega))
    have hkl2 : l.length ≤ k := by omega
    clear hl hi HC hk hkl
    go_enter Try.func14, Try.ntmps14
    go_wp2
    go_ret
    exact ⟨ret_bool HE.out.symm, Below.refl _ _⟩
  cases hr : rightL l
  · have HE := Lib.hid (beforeO_wrong (i := i) (k := k) hr)
    rw [hr] at HC
    clear hl hr hi hk
    go_enter Try.func14, Try.ntmps14
    go_wp2_with fail
    refine HC.out.mono ?_
    rintro r w1 ⟨rfl, hbw⟩
    clear HC
    go_wp2
    go_ret
    exact ⟨ret_bool HE.out.symm, hbw⟩
  have HE := Lib.hid (beforeO_at hr hil hkl)
  rw [hr] at HC
  clear hl hr hi hk
  go_enter Try.func14, Try.ntmps14
  go_wp2_with fail
  refine HC.out.mono ?_
  rintro r w1 ⟨rfl, hbw⟩
  clear HC
  go_wp2_with fail
  refine (order_any a cap l w1 (HL.out.later hbw) hm).mono ?_
  rintro r W1 ⟨a0, cap0, rows, rfl, hrow, hord, hb1⟩
  have hb2 := hbw.trans (hb1.mono hbw.size)
  obtain ⟨g, hrk, hck, _⟩ := hord.get hkl
  have hkr : k < rows.length := (List.getElem?_eq_some_iff.1 hrk).1
  obtain ⟨b0, o0, rfl, hrc⟩ := hrow.2 (by intro e; simp [e] at hkr)
  have hc1 := hrc k hkr 0 (.slice (some ⟨g, 0, none⟩) l.length l.length) (by rw [← (List.getElem?_eq_some_iff.1 hrk).2]; rfl)
  rw [Nat.mul_one, Nat.add_zero] at hc1
  have d2 := hck i hil
  clear hrk hck hrc hkr hrow hord hb1 hbw
  go_wp2
  go_ret
  exact ⟨ret_bool HE.out.symm, hb2⟩

end Go.Proofs.Ythdfmndompfgaaa
