/- The contract of the document's Same. -/
import Derived.Test.YtjkfocmfgcmegaaSame
import Derived.BigQuiet
import Derived.StillTailTactics
namespace Go.Proofs.Ytjkfocmfgcmegaa
open Go.RowKit

theorem below_dn {B : Nat} {a w : World} (h : Below B a w) (n : Nat) : Below B a (w.drewN n) := ⟨h.os, h.tape, h.output, h.size, h.block⟩

set_option maxRecDepth 100000 in
set_option maxHeartbeats 1500000 in
theorem refSame_any (p q : Pg) (a a' : Option Addr) (cap cap' : Nat) (w : World) (hp : ThreadsAt w a p.threads) (hq : ThreadsAt w a' q.threads) :
    Calls Try.prog 16 #[pgV p a cap, pgV q a' cap'] w fun r w' => r = .returned (.bool (decide (p = q))) ∧ Below w.heap.size w w' := by
  obtain ⟨V, M, ts⟩ := p
  obtain ⟨V', M', ts'⟩ := q
  unfold pgV
  dsimp only at *
  have hm := hp.1
  have hm' := hq.1
  unfold maxLen at hm hm'
  have HL := Lib.hid hp
  have HL' := Lib.hid hq
  clear hp hq
  by_cases hV : V = V'
  case neg =>
    have H : Hid (decide ((⟨V, M, ts⟩ : Pg) = ⟨V', M', ts'⟩) = false) := decPg_false (by intro e; injection e with e1; exact hV e1)
    have d : (V != V') = true := by simp [hV]
    clear hV
    go_enter Try.func16, Try.ntmps16
    go_wp2
    go_ret
    exact ⟨ret_bool H.out.symm, below_alloc2 _ _ _⟩
  subst hV
  have dV : (V != V) = false := by simp
  by_cases hM : M = M'
  case neg =>
    have H : Hid (decide ((⟨V, M, ts⟩ : Pg) = ⟨V, M', ts'⟩) = false) := decPg_false (by intro e; injection e with _ e1; exact hM e1)
    have d : (M != M') = true := by simp [hM]
    clear hM
    go_enter Try.func16, Try.ntmps16
    go_wp2
    go_ret
    exact ⟨ret_bool H.out.symm, below_alloc2 _ _ _⟩
  subst hM
  have dM : (M != M) = false := by simp
  by_cases hT : ts.length = ts'.length
  case neg =>
    have H : Hid (decide ((⟨V, M, ts⟩ : Pg) = ⟨V, M, ts'⟩) = false) := decPg_false (by intro e; injection e with _ _ e1; exact hT (by rw [e1]))
    have d : ((ts.length : Int) != ts'.length) = true := by simp; omega
    clear hT
    go_enter Try.func16, Try.ntmps16
    go_wp2
    go_ret
    exact ⟨ret_bool H.out.symm, below_alloc2 _ _ _⟩
  have d : ((ts.length : Int) != ts'.length) = false := by simp [hT]
  have hT1 : ts.length ≤ ts'.length := by omega
  have hT2 : ts'.length ≤ ts.length := by omega
  have HT := Lib.hid hT
  clear hT
  go_enter Try.func16, Try.ntmps16
  go_wp2
  go_loopw [5] (fun i wr => ∃ k : Nat, k ≤ ts.length ∧ i = .int .i64 k ∧ Hid (ts.take k = ts'.take k) ∧ Below (w.heap.size + 1 + 1) ((w.alloc (.cells #[.int .i64 V, .int .i64 M, .slice a ts.length cap] 24)).alloc (.cells #[.int .i64 V, .int .i64 M, .slice a' ts'.length cap'] 24)) wr) (fun i _ => ts.length - (intOf i).toNat)
  case atStart => exact ⟨0, Nat.zero_le _, rfl, rfl, Below.refl _ _⟩
  case round =>
    obtain ⟨k, hk, rfl, hall, hb⟩ := hrel
    have hbw : Below w.heap.size w wr := (below_alloc2 w _ _).trans (hb.mono (by omega))
    have p2 : wr.cell? ⟨w.heap.size, 2, none⟩ = some (.slice a ts.length cap) := by rw [hb.cell (p := ⟨w.heap.size, 2, none⟩) (by simp; omega)]; simp
    have q2 : wr.cell? ⟨w.heap.size + 1, 2, none⟩ = some (.slice a' ts'.length cap') := by rw [hb.cell (p := ⟨w.heap.size + 1, 2, none⟩) (by simp)]; simp
    by_cases hlt : k < ts.length
    · have hlt' : k < ts'.length := by omega
      obtain ⟨b, o, rfl, hc⟩ := HL.out.2 (by intro e; simp [e] at hlt)
      obtain ⟨b', o', rfl, hc'⟩ := HL'.out.2 (by intro e; simp [e] at hlt')
      obtain ⟨c, ccap, c0, c1, _⟩ := hc k hlt
      obtain ⟨c', ccap', c0', c1', _⟩ := hc' k hlt'
      have d0 := cell_later hbw c0
      have d0' := cell_later hbw c0'
      have D1 := Lib.hid c1
      have D1' := Lib.hid c1'
      have hcm := c1.1
      have hcm' := c1'.1
      unfold maxLen at hcm hcm'
      clear c0 c1 hc c0' c1' hc'
      have HK := Lib.hid (List.take_succ_eq_append_getElem hlt : ts.take (k + 1) = ts.take k ++ [ts[k]])
      have HK' := Lib.hid (List.take_succ_eq_append_getElem hlt' : ts'.take (k + 1) = ts'.take k ++ [ts'[k]])
      have i0 : (k : Int) < ts.length := by omega
      have i1 : (k : Int) < ts'.length := by omega
      by_cases hle : ts[k].length = ts'[k].length
      · have hq3 : ((ts[k].length : Int) != ts'[k].length) = false := by simp [hle]
        have hl1 : ts[k].length ≤ ts'[k].length := by omega
        have hl2 : ts'[k].length ≤ ts[k].length := by omega
        have HLE := Lib.hid hle
        clear hle
        go_wp2
        go_quiet (fail)
        go_wp2
        have hbn := below_dn hb nq
        have hbwn := below_dn hbw nq
        have p2n : (wr.drewN nq).cell? ⟨w.heap.size, 2, none⟩ = some (.slice (some ⟨b, o, none⟩) ts.length cap) := p2
        have q2n : (wr.drewN nq).cell? ⟨w.heap.size + 1, 2, none⟩ = some (.slice (some ⟨b', o', none⟩) ts'.length cap') := q2
        have d0n : (wr.drewN nq).cell? ⟨b, o + k, none⟩ = some (.slice c ts[k].length ccap) := d0
        have d0n' : (wr.drewN nq).cell? ⟨b', o' + k, none⟩ = some (.slice c' ts'[k].length ccap') := d0'
        clear p2 q2 d0 d0' hb hbw
        generalize wr.drewN nq = wo at *
        go_loopw [6] (fun i w2 => ∃ j : Nat, j ≤ ts[k].length ∧ i = .int .i64 j ∧ Hid (ts[k].take j = ts'[k].take j) ∧ Below wo.heap.size wo w2) (fun i _ => ts[k].length - (intOf i).toNat)
        case atStart => exact ⟨0, Nat.zero_le _, rfl, rfl, Below.refl _ _⟩
        case round =>
          obtain ⟨j, hj, rfl, hin, hb'⟩ := hrel
          have P2 := cell_later hb' p2n
          have Q2 := cell_later hb' q2n
          have D0 := cell_later hb' d0n
          have D0' := cell_later hb' d0n'
          have hbw' : Below w.heap.size w wr := hbwn.trans (hb'.mono hbwn.size)
          by_cases hjl : j < ts[k].length
          · have hjl' : j < ts'[k].length := by omega
            obtain ⟨e, f, rfl, hc⟩ := D1.out.2 (by intro e; simp [e] at hjl)
            obtain ⟨e', f', rfl, hc'⟩ := D1'.out.2 (by intro e; simp [e] at hjl')
            obtain ⟨c0, c1, c2, c3⟩ := hc j hjl
            obtain ⟨c0', c1', c2', c3'⟩ := hc' j hjl'
            have m0 := cell_later hbw' c0
            have m1 := cell_later hbw' c1
            have m2 := cell_later hbw' c2
            have m3 := cell_later hbw' c3
            have m0' := cell_later hbw' c0'
            have m1' := cell_later hbw' c1'
            have m2' := cell_later hbw' c2'
            have m3' := cell_later hbw' c3'
            clear c0 c1 c2 c3 hc c0' c1' c2' c3' hc'
            have HJ := Lib.hid (List.take_succ_eq_append_getElem hjl : ts[k].take (j + 1) = ts[k].take j ++ [ts[k][j]])
            have HJ' := Lib.hid (List.take_succ_eq_append_getElem hjl' : ts'[k].take (j + 1) = ts'[k].take j ++ [ts'[k][j]])
            have HNE : Hid (∀ g : Ins → Int, ¬ g ts[k][j] = g ts'[k][j] → decide ((⟨V, M, ts⟩ : Pg) = ⟨V, M, ts'⟩) = false) := fun g hg => decPg_false (by intro e; injection e with _ _ e1; subst e1; exact hg rfl)
            have i2 : (j : Int) < ts[k].length := by omega
            have i3 : (j : Int) < ts'[k].length := by omega
            go_wp2
            go_still_tail 16, (by kernel_rfl)
            go_wp2
            case roundEnd =>
              refine ⟨⟨j + 1, by omega, by go_num, ?_, hb'.drew⟩, by simp [intOf]; omega⟩
              show _ = _
              rw [HJ.out, HJ'.out, hin.out, ins_ext (i := ts[k][j]) (j := ts'[k][j]) ‹_› ‹_› ‹_› ‹_›]
            all_goals
              go_ret
              refine ⟨ret_bool ?_, hbw'.drew⟩
              first | exact (HNE.out Ins.n ‹_›).symm | exact (HNE.out Ins.x ‹_›).symm | exact (HNE.out Ins.r ‹_›).symm | exact (HNE.out Ins.kind ‹_›).symm
          · obtain rfl : j = ts[k].length := by omega
            have HR : Hid (ts.take (k + 1) = ts'.take (k + 1)) := by
              show _ = _
              have h := hin.out
              rw [List.take_length, HLE.out, List.take_length] at h
              rw [HK.out, HK'.out, hall.out, h]
            have hb4 := hbn.trans (hb'.mono (by have := hbn.size; simp at this; omega))
            go_wp2
            go_roundw
            case rel => exact ⟨k + 1, by omega, by go_num, HR, hb4⟩
            case measure => simp [intOf]; omega
      · have hq3 : ((ts[k].length : Int) != ts'[k].length) = true := by simp; omega
        have HR : Hid (decide ((⟨V, M, ts⟩ : Pg) = ⟨V, M, ts'⟩) = false) := decPg_false (by intro e; injection e with _ _ e1; subst e1; exact hle rfl)
        clear hle
        go_wp2
        go_quiet (fail)
        go_wp2
        go_ret
        exact ⟨ret_bool HR.out.symm, below_dn hbw _⟩
    · obtain rfl : k = ts.length := by omega
      have HR : Hid (decide ((⟨V, M, ts⟩ : Pg) = ⟨V, M, ts'⟩) = true) := by
        show _ = _
        have h := hall.out
        rw [List.take_length, HT.out, List.take_length] at h
        simp [h]
      go_wp2
      go_ret
      exact ⟨ret_bool HR.out.symm, hbw⟩
end Go.Proofs.Ytjkfocmfgcmegaa
