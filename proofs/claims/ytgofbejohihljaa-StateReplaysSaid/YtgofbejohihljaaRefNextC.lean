/- The contract of the document's Next: behind the last instruction. -/
import Derived.Test.YtgofbejohihljaaRefState
import Derived.Test.YtgofbejohihljaaStateNext
import Derived.BigRegion
namespace Go.Proofs.Ytgofbejohihljaa
open Go.RowKit

section
variable {F : Nat} {w : World} {b tb : Nat} {a : Option Addr} {cap tcap : Nat} {s : St}

set_option maxRecDepth 100000 in
set_option maxHeartbeats 4000000 in
theorem refNext_end (h : RefAt w b tb a cap tcap s) (hth : ThreadsAt w a s.p.threads) (ok : s.Ok F) (t : Nat) (hk' : t < s.ts.length) (hf : (s.th t).fuel ≠ 0) (hat : (s.th t).at_ = (s.code t).length) : Calls Try.prog 16 #[.pointer (some ⟨b, 0, none⟩), .int .i64 t] w fun r w' => r = .returned (.tuple #[.agg #[.int .i64 0, .int .i64 0, .int .i64 0, .bool false], .bool false]) ∧ Below w.heap.size w w' := by
  obtain ⟨hb1, hb2⟩ := h.lt
  obtain ⟨p0, p1⟩ := h.prog
  have hln := ok.len
  have h4 := ok.len4
  have cf := h.fuel t hk'
  have ca := h.at_ t hk'
  have q0 : decide ((t : Int) < 0) = false := by simp
  have q2 : decide (s.ts.length ≤ t) = false := by simp; omega
  have q1 : decide ((s.ts.length : Int) ≤ t) = false := by simp; omega
  have hkp : t < s.p.threads.length := by omega
  have hcd : s.code t = s.p.threads[t] := getD_lt _ hkp
  obtain ⟨ab, ao, rfl, hc⟩ := hth.2 (by intro e; simp [e] at hkp)
  obtain ⟨c, ccap, c0, c1, _⟩ := hc t hkp
  rw [← hcd] at c0
  have hz := cell_block c0
  dsimp only at hz
  have hf' : ((((s.th t).fuel : Nat) : Int) == 0) = false := by simp; omega
  have h8 := ok.code8 t hk'
  rw [hat] at ca
  have H := Lib.hid h
  clear h hth ok hln hf hat hc c1 hcd
  generalize (s.th t).fuel = f at *
  generalize (s.code t).length = n at *
  have q3 : decide (n ≤ n) = true := by simp
  have q4 : decide ((n : Int) ≤ n) = true := by simp
  go_enter Try.func16, Try.ntmps16
  go_wp2
  go_quiet (fail)
  go_wp2
  exact bodyPost_ret (v := .tuple #[.agg #[.int .i64 0, .int .i64 0, .int .i64 0, .bool false], .bool false]) (by simp [results, Try.results16, go_sem]) rfl ⟨rfl, below_set4 (below_alloc1 w _).drewN (Nat.le_refl _) _ _ _ _⟩
end
end Go.Proofs.Ytgofbejohihljaa
