/- The contract of slices.Equal at instructions. -/
import Derived.Test.YtjkfocmfgcmegaaEqLaw
import Derived.StillTailTactics
namespace Go.Proofs.Ytjkfocmfgcmegaa
open Go.RowKit

theorem dec_false {l l' : List Ins} {k : Nat} (h : k < l.length) (h' : k < l'.length) (f : Ins → Int) (hf : ¬ f l[k] = f l'[k]) : decide (l = l') = false := by
  simp; rintro rfl; exact hf rfl

theorem ins_ext {i j : Ins} (h0 : i.kind = j.kind) (h1 : i.r = j.r) (h2 : i.x = j.x) (h3 : i.n = j.n) : i = j := by
  obtain ⟨a, b, c, d⟩ := i; obtain ⟨a', b', c', d'⟩ := j; simp at *; exact ⟨h0, h1, h2, h3⟩

set_option maxRecDepth 100000 in
set_option maxHeartbeats 1000000 in
theorem equal_any (a a' : Option Addr) (cap cap' : Nat) (l l' : List Ins) (w : World) (hl : CodeAt w a l) (hl' : CodeAt w a' l') :
    Calls Try.prog 26 #[.slice a l.length cap, .slice a' l'.length cap'] w fun r w' => r = .returned (.bool (decide (l = l'))) ∧ Below w.heap.size w w' := by
  have hm := hl.1
  have hm' := hl'.1
  unfold maxLen at hm hm'
  have HL := Lib.hid hl
  have HL' := Lib.hid hl'
  clear hl hl'
  by_cases hne : l.length = l'.length
  · have HE := Lib.hid hne
    have hq : ((l.length : Int) != l'.length) = false := by simp [hne]
    have hm2 : l.length ≤ l'.length := by omega
    have hm3 : l'.length ≤ l.length := by omega
    clear hne
    go_enter Try.func26, Try.ntmps26
    go_wp2
    go_loopw [13] (fun i wr => ∃ k : Nat, k ≤ l.length ∧ i = .int .i64 k ∧ Hid (l.take k = l'.take k) ∧ Below w.heap.size w wr) (fun i _ => l.length - (intOf i).toNat)
    case atStart => exact ⟨0, Nat.zero_le _, rfl, rfl, Below.refl _ _⟩
    case round =>
      obtain ⟨k, hk, rfl, hall, hb⟩ := hrel
      by_cases hlt : k < l.length
      · have hlt' : k < l'.length := by omega
        obtain ⟨b, o, rfl, hc⟩ := HL.out.2 (by intro e; simp [e] at hlt)
        obtain ⟨b', o', rfl, hc'⟩ := HL'.out.2 (by intro e; simp [e] at hlt')
        obtain ⟨c0, c1, c2, c3⟩ := hc k hlt
        obtain ⟨c0', c1', c2', c3'⟩ := hc' k hlt'
        have d0 := cell_later hb c0
        have d1 := cell_later hb c1
        have d2 := cell_later hb c2
        have d3 := cell_later hb c3
        have d0' := cell_later hb c0'
        have d1' := cell_later hb c1'
        have d2' := cell_later hb c2'
        have d3' := cell_later hb c3'
        clear c0 c1 c2 c3 hc c0' c1' c2' c3' hc'
        have ht : l.take (k + 1) = l.take k ++ [l[k]] := List.take_succ_eq_append_getElem hlt
        have ht' : l'.take (k + 1) = l'.take k ++ [l'[k]] := List.take_succ_eq_append_getElem hlt'
        have HT := Lib.hid ht
        have HT' := Lib.hid ht'
        clear ht ht'
        go_wp2
        go_still_tail 8, (by kernel_rfl)
        go_wp2
        case roundEnd =>
          refine ⟨⟨k + 1, by omega, by go_num, ?_, hb.drew⟩, by simp [intOf]; omega⟩
          show _ = _
          rw [HT.out, HT'.out, hall.out, ins_ext (i := l[k]) (j := l'[k]) ‹_› ‹_› ‹_› ‹_›]
        all_goals
          go_ret
          refine ⟨ret_bool ?_, hb.drew⟩
          first | exact (dec_false hlt hlt' Ins.n ‹_›).symm | exact (dec_false hlt hlt' Ins.x ‹_›).symm | exact (dec_false hlt hlt' Ins.r ‹_›).symm | exact (dec_false hlt hlt' Ins.kind ‹_›).symm
      · obtain rfl : k = l.length := by omega
        have HR : Hid (decide (l = l') = true) := by
          show _ = _
          have h := hall.out
          rw [List.take_length, HE.out, List.take_length] at h
          simp [h]
        go_wp2
        go_ret
        exact ⟨ret_bool HR.out.symm, hb⟩
  · have hq : ((l.length : Int) != l'.length) = true := by simp; omega
    have H : Hid (decide (l = l') = false) := by show _ = _; simp; intro e; exact hne (by rw [e])
    clear hne
    go_enter Try.func26, Try.ntmps26
    go_wp2
    go_ret
    exact ⟨ret_bool H.out.symm, Below.refl _ _⟩
end Go.Proofs.Ytjkfocmfgcmegaa
