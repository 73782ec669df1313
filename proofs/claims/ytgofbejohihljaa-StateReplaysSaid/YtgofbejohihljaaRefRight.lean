/- The contract of the document's Right. -/
import Derived.Test.YtgofbejohihljaaRefInstr
import Derived.StillTailTactics
namespace Go.Proofs.Ytgofbejohihljaa
open Go.RowKit

set_option maxRecDepth 100000 in
set_option maxHeartbeats 1000000 in
theorem refRight_any (p : Pg) (a : Option Addr) (cap : Nat) (w : World) (hp : ThreadsAt w a p.threads) :
    Calls Try.prog 33 #[pgV p a cap] w fun r w' => r = .returned (.bool (rightPg p)) ∧ Below w.heap.size w w' := by
  obtain ⟨V, M, ts⟩ := p
  unfold pgV
  dsimp only at *
  have hm := hp.1
  unfold maxLen at hm
  have HL := Lib.hid hp
  clear hp
  cases hV : withinB V 0 4
  · have H : Hid (rightPg ⟨V, M, ts⟩ = false) := by
      show _ = _
      simp [withinB] at hV
      simp [rightPg]; omega
    go_enter Try.func33, Try.ntmps33
    go_wp2_with (go_at_call 40; refine (within_any _ _ _ _).mono ?_; rintro r w' ⟨rfl, rfl⟩)
    go_ret
    exact ⟨ret_bool H.out.symm, below_alloc1 _ _⟩
  cases hM : withinB M 0 2
  · have H : Hid (rightPg ⟨V, M, ts⟩ = false) := by
      show _ = _
      simp [withinB] at hM
      simp [rightPg]; omega
    go_enter Try.func33, Try.ntmps33
    go_wp2_with (go_at_call 40; refine (within_any _ _ _ _).mono ?_; rintro r w' ⟨rfl, rfl⟩)
    go_ret
    exact ⟨ret_bool H.out.symm, below_alloc1 _ _⟩
  cases hT : withinB ts.length 1 4
  · have H : Hid (rightPg ⟨V, M, ts⟩ = false) := by
      show _ = _
      simp [withinB] at hT
      simp [rightPg]; omega
    go_enter Try.func33, Try.ntmps33
    go_wp2_with (go_at_call 40; refine (within_any _ _ _ _).mono ?_; rintro r w' ⟨rfl, rfl⟩)
    go_ret
    exact ⟨ret_bool H.out.symm, below_alloc1 _ _⟩
  have bV : 0 ≤ V ∧ V ≤ 4 := by simpa [withinB] using hV
  have bM : 0 ≤ M ∧ M ≤ 2 := by simpa [withinB] using hM
  have bT : 1 ≤ ts.length ∧ ts.length ≤ 4 := by simp [withinB] at hT; omega
  have H : Hid (rightPg ⟨V, M, ts⟩ = ts.all (rightCode V M)) := by
    show _ = _
    have : decide (0 ≤ V ∧ V ≤ 4 ∧ 0 ≤ M ∧ M ≤ 2 ∧ 1 ≤ ts.length ∧ ts.length ≤ 4) = true := by simp; omega
    unfold rightPg
    dsimp only
    rw [this, Bool.true_and]
  obtain ⟨bV1, bV2⟩ := bV
  obtain ⟨bM1, bM2⟩ := bM
  obtain ⟨bT1, bT2⟩ := bT
  go_enter Try.func33, Try.ntmps33
  go_wp2_with (go_at_call 40; refine (within_any _ _ _ _).mono ?_; rintro r w' ⟨rfl, rfl⟩)
  go_loopw [3] (fun i wr => ∃ k : Nat, k ≤ ts.length ∧ i = .int .i64 k ∧ Hid ((ts.take k).all (rightCode V M) = true) ∧ Below (w.heap.size + 1) (w.alloc (.cells #[.int .i64 V, .int .i64 M, .slice a ts.length cap] 24)) wr) (fun i _ => ts.length - (intOf i).toNat)
  case atStart => exact ⟨0, Nat.zero_le _, rfl, rfl, Below.refl _ _⟩
  case round =>
    obtain ⟨k, hk, rfl, hall, hb⟩ := hrel
    have p2 : wr.cell? ⟨w.heap.size, 2, none⟩ = some (.slice a ts.length cap) := by rw [hb.cell (p := ⟨w.heap.size, 2, none⟩) (by simp)]; simp
    have hbw : Below w.heap.size w wr := ((Below.refl _ _).alloc (Nat.le_refl _) _).trans (hb.mono (by omega))
    by_cases hlt : k < ts.length
    · obtain ⟨b, o, rfl, hc⟩ := HL.out.2 (by intro e; simp [e] at hlt)
      obtain ⟨c, ccap, c0, c1, _⟩ := hc k hlt
      have d0 := cell_later hbw c0
      have D1 := Lib.hid (c1.later hbw)
      have hcm := c1.1
      unfold maxLen at hcm
      clear c0 c1 hc
      have ht : (ts.take (k + 1)) = ts.take k ++ [ts[k]] := List.take_succ_eq_append_getElem hlt
      have HT := Lib.hid ht
      clear ht
      by_cases h8 : 8 < ts[k].length
      · have HR : Hid (rightPg ⟨V, M, ts⟩ = false) := by
          show _ = _
          rw [H.out, List.all_eq_false]; exact ⟨ts[k], List.getElem_mem _, by simp [rightCode]; omega⟩
        go_wp2
        go_ret
        exact ⟨ret_bool HR.out.symm, hbw⟩
      · have HC : Hid (rightCode V M ts[k] = ts[k].all (rightIns V M ts[k].length)) := by
          show _ = _
          have : decide (ts[k].length ≤ 8) = true := by simp; omega
          unfold rightCode
          rw [this, Bool.true_and]
        go_wp2
        obtain ⟨wo, hwo⟩ : ∃ x, x = wr := ⟨_, rfl⟩
        subst hwo
        have q0 : wo.cell? ⟨w.heap.size, 0, none⟩ = some (.int .i64 V) := by rw [hb.cell (p := ⟨w.heap.size, 0, none⟩) (by simp)]; simp
        have q1 : wo.cell? ⟨w.heap.size, 1, none⟩ = some (.int .i64 M) := by rw [hb.cell (p := ⟨w.heap.size, 1, none⟩) (by simp)]; simp
        have hz : w.heap.size < wo.heap.size := by have := hb.size; simp at this; omega
        go_loopw [5] (fun i w2 => ∃ j : Nat, j ≤ ts[k].length ∧ i = .int .i64 j ∧ Hid ((ts[k].take j).all (rightIns V M ts[k].length) = true) ∧ Below wo.heap.size wo w2) (fun i _ => ts[k].length - (intOf i).toNat)
        case atStart => exact ⟨0, Nat.zero_le _, rfl, rfl, Below.refl _ _⟩
        case round =>
          obtain ⟨j, hj, rfl, hin, hb'⟩ := hrel
          have r0 := cell_later hb' q0
          have r1 := cell_later hb' q1
          have r2 := cell_later hb' p2
          by_cases hjl : j < ts[k].length
          · obtain ⟨b', o', rfl, hc⟩ := D1.out.2 (by intro e; simp [e] at hjl)
            obtain ⟨c0, c1, c2, c3⟩ := hc j hjl
            have d0 := cell_later hb' c0
            have d1 := cell_later hb' c1
            have d2 := cell_later hb' c2
            have d3 := cell_later hb' c3
            clear c0 c1 c2 c3 hc
            go_wp2
            go_still_tail 7, (by kernel_rfl)
            go_wp2_with fail
            refine (refInstr_any V M ts[k].length (by omega) (by omega) bV1 bV2 bM1 bM2 _ ts[k][j] _).mono ?_
            rintro r w1 ⟨rfl, hb1⟩
            have hb2 : Below wo.heap.size wo w1 := hb'.drew.trans (hb1.mono hb'.size)
            have hb3 : Below w.heap.size w w1 := hbw.trans (hb2.mono (by omega))
            have htj : (ts[k].take (j + 1)) = ts[k].take j ++ [ts[k][j]] := List.take_succ_eq_append_getElem hjl
            cases hr : rightIns V M ts[k].length ts[k][j]
            · have HR : Hid (rightPg ⟨V, M, ts⟩ = false) := by
                show _ = _
                rw [H.out, List.all_eq_false]; refine ⟨ts[k], List.getElem_mem _, ?_⟩
                rw [HC.out, Bool.not_eq_true, List.all_eq_false]
                exact ⟨ts[k][j], List.getElem_mem _, by simp [hr]⟩
              clear hr htj
              go_wp2
              go_ret
              exact ⟨ret_bool HR.out.symm, hb3⟩
            · have HR : Hid ((ts[k].take (j + 1)).all (rightIns V M ts[k].length) = true) := by
                show _ = _
                rw [htj, List.all_append, hin.out]; simp [hr]
              clear hr htj
              go_wp2
              go_roundw
              case rel => exact ⟨j + 1, by omega, by go_num, HR, hb2⟩
              case measure => simp [intOf]; omega
          · obtain rfl : j = ts[k].length := by omega
            have HR : Hid ((ts.take (k + 1)).all (rightCode V M) = true) := by
              show _ = _
              rw [HT.out, List.all_append, hall.out]
              have := hin.out
              rw [List.take_length] at this
              simp [HC.out, this]
            have hb4 : Below (w.heap.size + 1) (w.alloc (.cells #[.int .i64 V, .int .i64 M, .slice (some ⟨b, o, none⟩) ts.length cap] 24)) wr := hb.trans (hb'.mono (by omega))
            go_wp2
            go_roundw
            case rel => exact ⟨k + 1, by omega, by go_num, HR, hb4⟩
            case measure => simp [intOf]; omega
    · obtain rfl : k = ts.length := by omega
      have HR : Hid (rightPg ⟨V, M, ts⟩ = true) := by
        show _ = _
        rw [H.out, ← hall.out, List.take_length]
      go_wp2
      go_ret
      exact ⟨ret_bool HR.out.symm, hbw⟩
end Go.Proofs.Ytgofbejohihljaa
