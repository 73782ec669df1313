/- A part of a row, and one of its events. -/
import Derived.Test.YtljlaopjimkcmaaRightL
import Derived.Test.YtljlaopjimkcmaaSameDoc
namespace Go.Proofs.Ytljlaopjimkcmaa
open Go.RowKit

theorem EvsAt.take {w : World} {a : Option Addr} {l : List Ev} (h : EvsAt w a l) (k : Nat) : EvsAt w a (l.take k) := by
  refine ⟨Nat.le_trans (List.length_take_le' _ _) h.1, fun hn => ?_⟩
  obtain ⟨b, o, rfl, hc⟩ := h.2 (by intro e; simp [e] at hn)
  refine ⟨b, o, rfl, fun i hi => ?_⟩
  have hi' : i < l.length := by simp at hi; omega
  have h1 := hc i hi'
  simpa using h1
theorem EvsAt.one {w : World} {a : Option Addr} {l : List Ev} (h : EvsAt w a l) {k : Nat} (hk : k < l.length) : ∃ b o, a = some ⟨b, o, none⟩ ∧ w.cell? ⟨b, o + k * 4, none⟩ = some (.int .i64 (evI l k).thread) ∧ w.cell? ⟨b, o + k * 4 + 1, none⟩ = some (.int .i64 (evI l k).kind) ∧
    w.cell? ⟨b, o + k * 4 + 2, none⟩ = some (.int .i64 (evI l k).obj) ∧ w.cell? ⟨b, o + k * 4 + 3, none⟩ = some (.bool (evI l k).fail) := by
  obtain ⟨b, o, rfl, hc⟩ := h.2 (by intro e; simp [e] at hk)
  refine ⟨b, o, rfl, ?_⟩
  rw [evI_get hk]
  exact hc k hk
theorem cnt_le_k (q : Nat → Bool) (n : Nat) : cnt q n ≤ n := by
  induction n with
  | zero => exact Nat.le_refl _
  | succ n ih => rw [cnt_succ]; split <;> omega

end Go.Proofs.Ytljlaopjimkcmaa
