/- Rows of events: append, SameEvents. -/
import Derived.Test.YtljlaopjimkcmaaEvEq
import Derived.StillTailTactics
namespace Go.Proofs.Ytljlaopjimkcmaa
open Go.RowKit

set_option maxRecDepth 100000 in
set_option maxHeartbeats 1000000 in
theorem sameEvents_any (a a' : Option Addr) (cap cap' : Nat) (l l' : List Ev) (w : World) (hl : EvsAt w a l) (hl' : EvsAt w a' l') :
    Calls Try.prog 12 #[.slice a l.length cap, .slice a' l'.length cap'] w fun r w' => r = .returned (.bool (decide (l = l'))) ∧ Below w.heap.size w w' := by
  have hm := hl.1
  have hm' := hl'.1
  unfold maxLen at hm hm'
  have HL := Lib.hid hl
  have HL' := Lib.hid hl'
  clear hl hl'
  by_cases hne : l.length = l'.length
  · have HE := Lib.hid hne
    have hq : ((l.length : Int) != l'.length) = false := by simp [hne]
    have hm2 : l.length ≤ l'.length := by omega
    have hm3 : l'.length ≤ l.length := by omega
    clear hne
    go_enter Try.func12, Try.ntmps12
    go_wp2
    go_loopw [5] (fun i wr => ∃ k : Nat, k ≤ l.length ∧ i = .int .i64 k ∧ Hid (l.take k = l'.take k) ∧ Below w.heap.size w wr) (fun i _ => l.length - (intOf i).toNat)
    case atStart => exact ⟨0, Nat.zero_le _, rfl, rfl, Below.refl _ _⟩
    case round =>
      obtain ⟨k, hk, rfl, hall, hb⟩ := hrel
      by_cases hlt : k < l.length
      · have hlt' : k < l'.length := by omega
        obtain ⟨b, o, rfl, hc⟩ := HL.out.2 (by intro e; simp [e] at hlt)
        obtain ⟨b', o', rfl, hc'⟩ := HL'.out.2 (by intro e; simp [e] at hlt')
        obtain ⟨c0, c1, c2, c3⟩ := hc k hlt
        obtain ⟨c0', c1', c2', c3'⟩ := hc' k hlt'
        have d0 := cell_later hb c0
        have d1 := cell_later hb c1
        have d2 := cell_later hb c2
        have d3 := cell_later hb c3
        have d0' := cell_later hb c0'
        have d1' := cell_later hb c1'
        have d2' := cell_later hb c2'
        have d3' := cell_later hb c3'
        clear hc hc' c0 c1 c2 c3 c0' c1' c2' c3'
        have HT := Lib.hid (List.take_succ_eq_append_getElem hlt : l.take (k + 1) = l.take k ++ [l[k]])
        have HT' := Lib.hid (List.take_succ_eq_append_getElem hlt' : l'.take (k + 1) = l'.take k ++ [l'[k]])
        have heq := run_equal_ev l[k] l'[k]
        by_cases he : l[k] = l'[k]
        · have hq2 : decide (l[k] = l'[k]) = true := by simp [he]
          rw [hq2] at heq
          have HR : Hid (l.take (k + 1) = l'.take (k + 1)) := by show _ = _; rw [HT.out, HT'.out, hall.out, he]
          clear he hq2 HT HT'
          generalize l[k] = x at *
          generalize l'[k] = x' at *
          go_wp2
          go_quiet (fail)
          go_wp2
          go_roundw
          case rel => exact ⟨k + 1, by omega, by go_num, HR, hb.drewN⟩
          case measure => simp [intOf]; omega
        · have hq2 : decide (l[k] = l'[k]) = false := by simpa using he
          rw [hq2] at heq
          have HR : Hid (decide (l = l') = false) := by show _ = _; simp; rintro rfl; exact he rfl
          clear he hq2 HT HT'
          generalize l[k] = x at *
          generalize l'[k] = x' at *
          go_wp2
          go_quiet (fail)
          go_wp2
          go_ret
          exact ⟨ret_bool HR.out.symm, hb.drewN⟩
      · obtain rfl : k = l.length := by omega
        have HR : Hid (decide (l = l') = true) := by
          show _ = _
          have h := hall.out
          rw [List.take_length, HE.out, List.take_length] at h
          simp [h]
        go_wp2
        go_ret
        exact ⟨ret_bool HR.out.symm, hb⟩
  · have hq : ((l.length : Int) != l'.length) = true := by simp; omega
    have H : Hid (decide (l = l') = false) := by show _ = _; simp; intro e; exact hne (by rw [e])
    clear hne
    go_enter Try.func12, Try.ntmps12
    go_wp2
    go_ret
    exact ⟨ret_bool H.out.symm, Below.refl _ _⟩

end Go.Proofs.Ytljlaopjimkcmaa
