/- The contracts of slices.Equal of events, and of slices.EqualFunc of levels with it. -/
import Derived.Test.YtljlaopjimkcmaaRowF
import Derived.Laws.StructEq
import Derived.StillTailTactics
namespace Go.Proofs.Ytljlaopjimkcmaa
open Go.RowKit

set_option maxRecDepth 100000 in
set_option maxHeartbeats 1000000 in
theorem equalE_any (a a' : Option Addr) (cap cap' : Nat) (l l' : List Ev) (w : World) (hl : EvsAt w a l) (hl' : EvsAt w a' l') :
    Calls Try.prog 27 #[.slice a l.length cap, .slice a' l'.length cap'] w fun r w' => r = .returned (.bool (decide (l = l'))) ∧ Below w.heap.size w w' := by
  have hm := hl.1
  have hm' := hl'.1
  unfold maxLen at hm hm'
  have HL := Lib.hid hl
  have HL' := Lib.hid hl'
  clear hl hl'
  by_cases hne : l.length = l'.length
  · have HE := Lib.hid hne
    have hq : ((l.length : Int) != l'.length) = false := by simp [hne]
    have hm2 : l.length ≤ l'.length := by omega
    have hm3 : l'.length ≤ l.length := by omega
    clear hne
    go_enter Try.func27, Try.ntmps27
    go_wp2
    go_loopw [13] (fun i wr => ∃ k : Nat, k ≤ l.length ∧ i = .int .i64 k ∧ Hid (l.take k = l'.take k) ∧ Below w.heap.size w wr) (fun i _ => l.length - (intOf i).toNat)
    case atStart => exact ⟨0, Nat.zero_le _, rfl, rfl, Below.refl _ _⟩
    case round =>
      obtain ⟨k, hk, rfl, hall, hb⟩ := hrel
      by_cases hlt : k < l.length
      · have hlt' : k < l'.length := by omega
        obtain ⟨b, o, rfl, hc⟩ := HL.out.2 (by intro e; simp [e] at hlt)
        obtain ⟨b', o', rfl, hc'⟩ := HL'.out.2 (by intro e; simp [e] at hlt')
        obtain ⟨c0, c1, c2, c3⟩ := hc k hlt
        obtain ⟨c0', c1', c2', c3'⟩ := hc' k hlt'
        have d0 := cell_later hb c0
        have d1 := cell_later hb c1
        have d2 := cell_later hb c2
        have d3 := cell_later hb c3
        have d0' := cell_later hb c0'
        have d1' := cell_later hb c1'
        have d2' := cell_later hb c2'
        have d3' := cell_later hb c3'
        clear hc hc' c0 c1 c2 c3 c0' c1' c2' c3'
        have HT := Lib.hid (List.take_succ_eq_append_getElem hlt : l.take (k + 1) = l.take k ++ [l[k]])
        have HT' := Lib.hid (List.take_succ_eq_append_getElem hlt' : l'.take (k + 1) = l'.take k ++ [l'[k]])
        have heq := run_equal_ev l[k] l'[k]
        by_cases he : l[k] = l'[k]
        · have hq2 : decide (l[k] = l'[k]) = true := by simp [he]
          rw [hq2] at heq
          have HR : Hid (l.take (k + 1) = l'.take (k + 1)) := by show _ = _; rw [HT.out, HT'.out, hall.out, he]
          clear he hq2 HT HT'
          generalize l[k] = x at *
          generalize l'[k] = x' at *
          go_wp2
          go_quiet (fail)
          go_wp2
          go_roundw
          case rel => exact ⟨k + 1, by omega, by go_num, HR, hb.drewN⟩
          case measure => simp [intOf]; omega
        · have hq2 : decide (l[k] = l'[k]) = false := by simpa using he
          rw [hq2] at heq
          have HR : Hid (decide (l = l') = false) := by show _ = _; simp; rintro rfl; exact he rfl
          clear he hq2 HT HT'
          generalize l[k] = x at *
          generalize l'[k] = x' at *
          go_wp2
          go_quiet (fail)
          go_wp2
          go_ret
          exact ⟨ret_bool HR.out.symm, hb.drewN⟩
      · obtain rfl : k = l.length := by omega
        have HR : Hid (decide (l = l') = true) := by
          show _ = _
          have h := hall.out
          rw [List.take_length, HE.out, List.take_length] at h
          simp [h]
        go_wp2
        go_ret
        exact ⟨ret_bool HR.out.symm, hb⟩
  · have hq : ((l.length : Int) != l'.length) = true := by simp; omega
    have H : Hid (decide (l = l') = false) := by show _ = _; simp; intro e; exact hne (by rw [e])
    clear hne
    go_enter Try.func27, Try.ntmps27
    go_wp2
    go_ret
    exact ⟨ret_bool H.out.symm, Below.refl _ _⟩

theorem take_snoc {T : Type} {m m' : List (List T)} {k : Nat} (hk : k < m.length) (hk' : k < m'.length) (h : m.take k = m'.take k) (he : m.getD k [] = m'.getD k []) : m.take (k + 1) = m'.take (k + 1) := by
  rw [List.take_add_one, List.take_add_one, h, List.getElem?_eq_getElem hk, List.getElem?_eq_getElem hk']
  rw [getD_lt _ hk, getD_lt _ hk'] at he
  rw [he]

set_option maxRecDepth 100000 in
set_option maxHeartbeats 2000000 in
theorem lvEq_any (a a' : Option Addr) (cap cap' : Nat) (m m' : List (List Ev)) (w : World) (hl : LvAt w a m) (hl' : LvAt w a' m') (hm : m.length ≤ 1000000) (hm' : m'.length ≤ 1000000) :
    Calls Try.prog 26 #[.slice a m.length cap, .slice a' m'.length cap', .func (.func 27) #[] #[]] w fun r w' => r = .returned (.bool (decide (m = m'))) ∧ Below w.heap.size w w' := by
  have HL := Lib.hid hl
  have HL' := Lib.hid hl'
  clear hl hl'
  by_cases hne : m.length = m'.length
  case neg =>
    have hq : ((m.length : Int) != m'.length) = true := by simp; omega
    have H : Hid (decide (m = m') = false) := by show _ = _; simp; intro e; exact hne (by rw [e])
    clear hne
    go_enter Try.func26, Try.ntmps26
    go_wp2
    go_ret
    exact ⟨ret_bool H.out.symm, Below.refl _ _⟩
  have HE := Lib.hid hne
  have hq : ((m.length : Int) != m'.length) = false := by simp [hne]
  have hm2 : m.length ≤ m'.length := by omega
  have hm3 : m'.length ≤ m.length := by omega
  clear hne
  go_enter Try.func26, Try.ntmps26
  go_wp2
  go_loopw [17] (fun i wr => ∃ k : Nat, k ≤ m.length ∧ i = .int .i64 k ∧ Hid (m.take k = m'.take k) ∧ Hid (Below w.heap.size w wr)) (fun i _ => m.length - (intOf i).toNat)
  case atStart => exact ⟨0, Nat.zero_le _, rfl, rfl, Below.refl _ _⟩
  case round =>
    obtain ⟨k, hk, rfl, HT, HB⟩ := hrel
    by_cases hlt : k < m.length
    · have hlt' : k < m'.length := by omega
      obtain ⟨b, o, sa, sc, rfl, t0, he, _⟩ := HL.out.one hlt
      obtain ⟨b', o', sa', sc', rfl, t0', he', _⟩ := HL'.out.one hlt'
      have c0 := cell_later HB.out t0
      have c0' := cell_later HB.out t0'
      have HE1 := Lib.hid (he.later HB.out)
      have HE2 := Lib.hid (he'.later HB.out)
      have hx1 : Hid (m.getD k [] = m'.getD k [] → m.take (k + 1) = m'.take (k + 1)) := fun h => take_snoc hlt hlt' HT.out h
      have hx2 : Hid (m.getD k [] ≠ m'.getD k [] → decide (m = m') = false) := fun h => by simp; rintro rfl; exact h rfl
      clear t0 t0' he he'
      generalize m.getD k [] = x at *
      generalize m'.getD k [] = x' at *
      go_wp2_with fail
      refine (equalE_any sa sa' sc sc' x x' _ HE1.out HE2.out).mono ?_
      rintro r w2 ⟨rfl, hb2⟩
      have HB2 := Lib.hid (HB.out.trans (hb2.mono HB.out.size))
      clear hb2
      by_cases hxx : x = x'
      · have hq2 : decide (x = x') = true := by simp [hxx]
        have HN := Lib.hid (hx1.out hxx)
        rw [hq2]
        clear hx1 hx2 hxx hq2
        go_wp2
        go_roundw
        case rel => exact ⟨k + 1, by omega, by go_num, HN, HB2.out⟩
        case measure => simp [intOf]; omega
      · have hq2 : decide (x = x') = false := by simp [hxx]
        have HN := Lib.hid (hx2.out hxx)
        rw [hq2]
        clear hx1 hx2 hxx hq2
        go_wp2
        go_ret
        exact ⟨ret_bool HN.out.symm, HB2.out⟩
    · obtain rfl : k = m.length := by omega
      have HR : Hid (decide (m = m') = true) := by
        show _ = _
        have h := HT.out
        rw [List.take_length, HE.out, List.take_length] at h
        simp [h]
      go_wp2
      go_ret
      exact ⟨ret_bool HR.out.symm, HB.out⟩

end Go.Proofs.Ytljlaopjimkcmaa
