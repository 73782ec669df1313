/- The contract of the document's Few. -/
import Derived.Test.YtfhndbibabbnlaaInstr
namespace Go.Proofs.Ytfhndbibabbnlaa
open Go.RowKit

def fewPg (p : Pg) : Bool := p.threads.all (fun l => decide (l.length ≤ 50)) && decide (p.threads.length ≤ 20)

set_option maxRecDepth 100000 in
set_option maxHeartbeats 1000000 in
theorem few_any (p : Pg) (a : Option Addr) (cap : Nat) (w : World) (hp : ThreadsAt w a p.threads) :
    Calls Try.prog 22 #[pgV p a cap] w fun r w' => r = .returned (.bool (fewPg p)) ∧ Below w.heap.size w w' := by
  obtain ⟨V, M, ts⟩ := p
  unfold pgV
  dsimp only at *
  have hm := hp.1
  unfold maxLen at hm
  have HL := Lib.hid hp
  clear hp
  go_enter Try.func22, Try.ntmps22
  go_wp2
  go_loop [3] (fun i => ∃ k : Nat, k ≤ ts.length ∧ i = .int .i64 k ∧ Hid ((ts.take k).all (fun l => decide (l.length ≤ 50)) = true)) (fun i => ts.length - (intOf i).toNat)
  case atStart => exact ⟨0, Nat.zero_le _, rfl, rfl⟩
  case round =>
    obtain ⟨k, hk, rfl, hall⟩ := hrel
    by_cases hlt : k < ts.length
    · obtain ⟨b, o, rfl, hc⟩ := HL.out.2 (by intro e; simp [e] at hlt)
      obtain ⟨c, ccap, c0, c1, _⟩ := hc k hlt
      have hz := cell_block c0
      dsimp only at hz
      have ht : (ts.take (k + 1)) = ts.take k ++ [ts[k]] := List.take_succ_eq_append_getElem hlt
      have hcm := c1.1
      unfold maxLen at hcm
      clear c1 hc
      by_cases h50 : 50 < ts[k].length
      · have HR : Hid (fewPg ⟨V, M, ts⟩ = false) := by
          show _ = _
          unfold fewPg
          dsimp only
          rw [Bool.and_eq_false_iff, List.all_eq_false]; exact .inl ⟨ts[k], List.getElem_mem _, by simp; omega⟩
        clear ht
        go_wp2
        go_ret
        exact ⟨ret_bool HR.out.symm, below_alloc1 _ _⟩
      · have HR : Hid ((ts.take (k + 1)).all (fun l => decide (l.length ≤ 50)) = true) := by
          show _ = _
          rw [ht, List.all_append, hall.out]; simp; omega
        clear ht
        go_wp2
        go_round
        case rel => exact ⟨k + 1, by omega, by go_num, HR⟩
        case measure => simp [intOf]; omega
    · obtain rfl : k = ts.length := by omega
      have HR : Hid (fewPg ⟨V, M, ts⟩ = decide (ts.length ≤ 20)) := by
        show _ = _
        have := hall.out
        rw [List.take_length] at this
        unfold fewPg
        dsimp only
        rw [this, Bool.true_and]
      go_wp2
      go_ret
      exact ⟨ret_bool (by rw [HR.out]; simp; omega), below_alloc1 _ _⟩
end Go.Proofs.Ytfhndbibabbnlaa
