/- The contract of Right. -/
import Derived.Test.YtfhndbibabbnlaaCode
namespace Go.Proofs.Ytfhndbibabbnlaa
open Go.RowKit

set_option maxRecDepth 100000 in
set_option maxHeartbeats 1000000 in
theorem right_any (p : Pg) (a : Option Addr) (cap : Nat) (w : World) (hp : ThreadsAt w a p.threads) :
    Calls Try.prog 40 #[pgV p a cap] w fun r w' => r = .returned (.bool (rightPg p)) ∧ Below w.heap.size w w' := by
  obtain ⟨V, M, ts⟩ := p
  unfold pgV
  dsimp only at *
  have hm := hp.1
  unfold maxLen at hm
  cases hV : belowB V 5
  · have H : Hid (rightPg ⟨V, M, ts⟩ = false) := by
      show _ = _
      simp [belowB] at hV
      simp [rightPg]; omega
    have HL := Lib.hid hp
    clear hp
    go_enter Try.func40, Try.ntmps40
    go_wp2_with (go_at_call 46; refine (below_any _ _ _).mono ?_; rintro r w' ⟨rfl, rfl⟩)
    go_ret
    exact ⟨ret_bool H.out.symm, below_alloc1 _ _⟩
  cases hM : belowB M 3
  · have H : Hid (rightPg ⟨V, M, ts⟩ = false) := by
      show _ = _
      simp [belowB] at hM
      simp [rightPg]; omega
    have HL := Lib.hid hp
    clear hp
    go_enter Try.func40, Try.ntmps40
    go_wp2_with (go_at_call 46; refine (below_any _ _ _).mono ?_; rintro r w' ⟨rfl, rfl⟩)
    go_ret
    exact ⟨ret_bool H.out.symm, below_alloc1 _ _⟩
  by_cases h1 : ts.length < 1
  · have H : Hid (rightPg ⟨V, M, ts⟩ = false) := by
      show _ = _
      simp [rightPg]; omega
    have HL := Lib.hid hp
    clear hp
    go_enter Try.func40, Try.ntmps40
    go_wp2_with (go_at_call 46; refine (below_any _ _ _).mono ?_; rintro r w' ⟨rfl, rfl⟩)
    go_ret
    exact ⟨ret_bool H.out.symm, below_alloc1 _ _⟩
  by_cases h4 : 4 < ts.length
  · have H : Hid (rightPg ⟨V, M, ts⟩ = false) := by
      show _ = _
      simp [rightPg]; omega
    have HL := Lib.hid hp
    clear hp
    go_enter Try.func40, Try.ntmps40
    go_wp2_with (go_at_call 46; refine (below_any _ _ _).mono ?_; rintro r w' ⟨rfl, rfl⟩)
    go_ret
    exact ⟨ret_bool H.out.symm, below_alloc1 _ _⟩
  have H : Hid (rightPg ⟨V, M, ts⟩ = ts.all (rightCode V M)) := by
    show _ = _
    simp [belowB] at hV hM
    have : decide (0 ≤ V ∧ V ≤ 4 ∧ 0 ≤ M ∧ M ≤ 2 ∧ 1 ≤ ts.length ∧ ts.length ≤ 4) = true := by simp; omega
    unfold rightPg
    dsimp only
    rw [this, Bool.true_and]
  have HL := Lib.hid hp
  clear hp
  go_enter Try.func40, Try.ntmps40
  go_wp2_with (go_at_call 46; refine (below_any _ _ _).mono ?_; rintro r w' ⟨rfl, rfl⟩)
  go_loopw [28] (fun i wr => ∃ k : Nat, k ≤ ts.length ∧ i = .int .i64 k ∧ Hid ((ts.take k).all (rightCode V M) = true) ∧ Below (w.heap.size + 1) (w.alloc (.cells #[.int .i64 V, .int .i64 M, .slice a ts.length cap] 41)) wr) (fun i _ => ts.length - (intOf i).toNat)
  case atStart => exact ⟨0, Nat.zero_le _, rfl, rfl, Below.refl _ _⟩
  case round =>
    obtain ⟨k, hk, rfl, hall, hb⟩ := hrel
    by_cases hlt : k < ts.length
    · obtain ⟨b, o, rfl, hc⟩ := HL.out.2 (by intro e; simp [e] at hlt)
      have hbw : Below w.heap.size w wr := ((Below.refl _ _).alloc (Nat.le_refl _) _).trans (hb.mono (by omega))
      obtain ⟨c, ccap, c0, c1, _⟩ := hc k hlt
      have d0 := cell_later hbw c0
      have D1 := Lib.hid (c1.later hbw)
      have p0 : wr.cell? ⟨w.heap.size, 0, none⟩ = some (.int .i64 V) := by rw [hb.cell (p := ⟨w.heap.size, 0, none⟩) (by simp)]; simp
      have p1 : wr.cell? ⟨w.heap.size, 1, none⟩ = some (.int .i64 M) := by rw [hb.cell (p := ⟨w.heap.size, 1, none⟩) (by simp)]; simp
      have p2 : wr.cell? ⟨w.heap.size, 2, none⟩ = some (.slice (some ⟨b, o, none⟩) ts.length cap) := by rw [hb.cell (p := ⟨w.heap.size, 2, none⟩) (by simp)]; simp
      have hz : w.heap.size < wr.heap.size := by have := hb.size; simp at this; omega
      clear c0 c1 hc
      go_wp2_with fail
      refine (rightCode_any V M _ c ccap ts[k] _ D1.out).mono ?_
      rintro r w1 ⟨rfl, hb1⟩
      have hb2 : Below (w.heap.size + 1) (w.alloc (.cells #[.int .i64 V, .int .i64 M, .slice (some ⟨b, o, none⟩) ts.length cap] 41)) w1 := hb.trans (hb1.mono (by omega))
      have hb3 : Below w.heap.size w w1 := ((Below.refl _ _).alloc (Nat.le_refl _) _).trans (hb2.mono (by omega))
      have ht : (ts.take (k + 1)) = ts.take k ++ [ts[k]] := List.take_succ_eq_append_getElem hlt
      cases hr : rightCode V M ts[k]
      · have HR : Hid (rightPg ⟨V, M, ts⟩ = false) := by
          show _ = _
          rw [H.out, List.all_eq_false]; exact ⟨ts[k], List.getElem_mem _, by simp [hr]⟩
        clear hr ht
        go_wp2
        go_ret
        exact ⟨ret_bool HR.out.symm, hb3⟩
      · have HR : Hid ((ts.take (k + 1)).all (rightCode V M) = true) := by
          show _ = _
          rw [ht, List.all_append, hall.out]; simp [hr]
        clear hr ht
        go_wp2
        go_roundw
        case rel => exact ⟨k + 1, by omega, by go_num, HR, hb2⟩
        case measure => simp [intOf]; omega
    · obtain rfl : k = ts.length := by omega
      have HR : Hid (rightPg ⟨V, M, ts⟩ = true) := by
        show _ = _
        rw [H.out, ← hall.out, List.take_length]
      have hbw : Below w.heap.size w wr := ((Below.refl _ _).alloc (Nat.le_refl _) _).trans (hb.mono (by omega))
      go_wp2
      go_ret
      exact ⟨ret_bool HR.out.symm, hbw⟩
end Go.Proofs.Ytfhndbibabbnlaa
