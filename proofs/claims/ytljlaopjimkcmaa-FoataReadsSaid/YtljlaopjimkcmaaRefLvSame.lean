/- The contract of the document's Same of levels. -/
import Derived.Test.YtljlaopjimkcmaaLvEq
import Derived.Test.YtljlaopjimkcmaaEvTake
namespace Go.Proofs.Ytljlaopjimkcmaa
open Go.RowKit

set_option maxRecDepth 100000 in
set_option maxHeartbeats 4000000 in
theorem refLvSame_any (a a' : Option Addr) (cap cap' : Nat) (m m' : List (List Ev)) (w : World) (hl : LvAt w a m) (hl' : LvAt w a' m') (hm : m.length ≤ 1000000) (hm' : m'.length ≤ 1000000) (hr : ∀ i, (m.getD i []).length ≤ 1000000) (hr' : ∀ i, (m'.getD i []).length ≤ 1000000) :
    Calls Try.prog 8 #[.slice a m.length cap, .slice a' m'.length cap'] w fun r w' => r = .returned (.bool (decide (m = m'))) ∧ Below w.heap.size w w' := by
  have HL := Lib.hid hl
  have HL' := Lib.hid hl'
  have HR := Lib.hid hr
  have HR' := Lib.hid hr'
  clear hl hl' hr hr'
  by_cases hne : m.length = m'.length
  case neg =>
    have hq : ((m.length : Int) != m'.length) = true := by simp; omega
    have H : Hid (decide (m = m') = false) := by show _ = _; simp; intro e; exact hne (by rw [e])
    clear hne
    go_enter Try.func8, Try.ntmps8
    go_wp2
    go_ret
    exact ⟨ret_bool H.out.symm, Below.refl _ _⟩
  have HE := Lib.hid hne
  have hq : ((m.length : Int) != m'.length) = false := by simp [hne]
  have hm2 : m.length ≤ m'.length := by omega
  have hm3 : m'.length ≤ m.length := by omega
  clear hne
  go_enter Try.func8, Try.ntmps8
  go_wp2
  clear hq
  go_loopw [5] (fun i wr => ∃ k : Nat, k ≤ m.length ∧ i = .int .i64 k ∧ Hid (m.take k = m'.take k) ∧ Hid (Below w.heap.size w wr)) (fun i _ => m.length - (intOf i).toNat)
  case atStart => exact ⟨0, Nat.zero_le _, rfl, rfl, Below.refl _ _⟩
  case round =>
    obtain ⟨k, hk, rfl, HT, HB⟩ := hrel
    by_cases hlt : k < m.length
    · have hlt' : k < m'.length := by omega
      obtain ⟨b, o, sa, sc, rfl, t0, he, _⟩ := HL.out.one hlt
      obtain ⟨b', o', sa', sc', rfl, t0', he', _⟩ := HL'.out.one hlt'
      have c0 := cell_later HB.out t0
      have c0' := cell_later HB.out t0'
      have HE1 := Lib.hid (he.later HB.out)
      have HE2 := Lib.hid (he'.later HB.out)
      have hx1 : Hid (m.getD k [] = m'.getD k [] → m.take (k + 1) = m'.take (k + 1)) := fun h => take_snoc hlt hlt' HT.out h
      have hx2 : Hid (m.getD k [] ≠ m'.getD k [] → decide (m = m') = false) := fun h => by simp; rintro rfl; exact h rfl
      have hlx := HR.out k
      have hlx' := HR'.out k
      clear t0 t0' he he'
      generalize m.getD k [] = x at *
      generalize m'.getD k [] = x' at *
      by_cases hxl : x.length = x'.length
      case neg =>
        have hq : ((x.length : Int) != x'.length) = true := by simp; omega
        have HN := Lib.hid (hx2.out (fun e => hxl (by rw [e])))
        clear hxl hx1 hx2
        go_wp2_with fail
        go_quiet (fail)
        go_wp2
        go_ret
        exact ⟨ret_bool HN.out.symm, HB.out.drewN⟩
      have hq : ((x.length : Int) != x'.length) = false := by simp [hxl]
      have hxl1 : x.length ≤ x'.length := by omega
      have hxl2 : x'.length ≤ x.length := by omega
      have HXL := Lib.hid hxl
      clear hxl
      go_wp2_with fail
      go_quiet (fail)
      go_wp2_with fail
      clear hq
      go_loopw [6] (fun i w2 => ∃ j : Nat, j ≤ x.length ∧ i = .int .i64 j ∧ Hid (x.take j = x'.take j) ∧ Hid (Below wr.heap.size wr w2)) (fun i _ => x.length - (intOf i).toNat)
      case atStart => exact ⟨0, Nat.zero_le _, rfl, rfl, (Below.refl _ _).drewN⟩
      case round =>
        obtain ⟨j, hj, rfl, HJ, HB2⟩ := hrel
        have d0 := cell_later HB2.out c0
        have d0' := cell_later HB2.out c0'
        have HB3 := Lib.hid (HB.out.trans (HB2.out.mono HB.out.size))
        clear c0 c0'
        by_cases hjl : j < x.length
        · have hjl' : j < x'.length := by omega
          obtain ⟨xb, xo, rfl, x0, x1, x2, x3⟩ := HE1.out.one hjl
          obtain ⟨yb, yo, rfl, y0, y1, y2, y3⟩ := HE2.out.one hjl'
          have e0 := cell_later HB2.out x0
          have e1 := cell_later HB2.out x1
          have e2 := cell_later HB2.out x2
          have e3 := cell_later HB2.out x3
          have f0 := cell_later HB2.out y0
          have f1 := cell_later HB2.out y1
          have f2 := cell_later HB2.out y2
          have f3 := cell_later HB2.out y3
          clear x0 x1 x2 x3 y0 y1 y2 y3
          have heq := run_equal_ev (evI x j) (evI x' j)
          by_cases he : evI x j = evI x' j
          · have hq2 : decide (evI x j = evI x' j) = true := by simp [he]
            rw [hq2] at heq
            have HN : Hid (x.take (j + 1) = x'.take (j + 1)) := by
              show _ = _
              rw [List.take_succ_eq_append_getElem hjl, List.take_succ_eq_append_getElem hjl', HJ.out, ← evI_get hjl, ← evI_get hjl', he]
            clear he hq2
            generalize evI x j = p at *
            generalize evI x' j = p' at *
            go_wp2_with fail
            go_quiet (fail)
            go_wp2
            go_roundw
            case rel => exact ⟨j + 1, by omega, by go_num, HN, HB2.out.drewN⟩
            case measure => simp [intOf]; omega
          · have hq2 : decide (evI x j = evI x' j) = false := by simpa using he
            rw [hq2] at heq
            have HN : Hid (decide (m = m') = false) := hx2.out (fun e => he (by rw [e]))
            clear he hq2
            generalize evI x j = p at *
            generalize evI x' j = p' at *
            go_wp2_with fail
            go_quiet (fail)
            go_wp2
            go_ret
            exact ⟨ret_bool HN.out.symm, HB3.out.drewN⟩
        · obtain rfl : j = x.length := by omega
          have HN : Hid (m.take (k + 1) = m'.take (k + 1)) := by
            have h := HJ.out
            rw [List.take_length, HXL.out, List.take_length] at h
            exact hx1.out h
          clear hx1 hx2
          go_wp2
          go_roundw
          case rel => exact ⟨k + 1, by omega, by go_num, HN, HB3.out⟩
          case measure => simp [intOf]; omega
    · obtain rfl : k = m.length := by omega
      have HR : Hid (decide (m = m') = true) := by
        show _ = _
        have h := HT.out
        rw [List.take_length, HE.out, List.take_length] at h
        simp [h]
      go_wp2
      go_ret
      exact ⟨ret_bool HR.out.symm, HB.out⟩

end Go.Proofs.Ytljlaopjimkcmaa
