/- The document's Ahead and Put; a list in order. -/
import Derived.Test.YtoaejkfejdaiaaaQuEnd
import Derived.Test.YtoaejkfejdaiaaaOpenQ
namespace Go.Proofs.Ytoaejkfejdaiaaa
open Go.RowKit

set_option maxRecDepth 100000 in
theorem refAhead_any (a b : Txt) (w : World) : Calls Try.prog 29 #[.string ⟨a.toArray⟩, .string ⟨b.toArray⟩] w fun r w' => r = .returned (.bool (aheadT a b)) ∧ w = w' := by
  have hqa : (⟨a.toArray⟩ : ByteArray).size = a.length := by simp [ByteArray.size]
  have hqb : (⟨b.toArray⟩ : ByteArray).size = b.length := by simp [ByteArray.size]
  by_cases e : a.length = b.length
  · have HE : Hid (aheadT a b = Op.bytesLess a b) := by show _ = _; unfold aheadT; rw [if_pos e, less_bytes]
    have q0 : decide (b.length < a.length) = false := decide_eq_false (by omega)
    have q1 : ((a.length : Int) == b.length) = true := by simp [e]
    have q2 : ¬ b.length < a.length := by omega
    go_enter Try.func29, Try.ntmps29
    go_wp2
    go_ret
    exact ⟨by rw [HE.out]; rfl, rfl⟩
  · have q1 : ((a.length : Int) == b.length) = false := by simpa using fun h => e (by omega)
    by_cases e2 : b.length < a.length
    · have HE : Hid (aheadT a b = true) := by show _ = _; unfold aheadT; rw [if_neg e]; simp [e2]
      have q0 : decide (b.length < a.length) = true := decide_eq_true e2
      go_enter Try.func29, Try.ntmps29
      go_wp2
      go_ret
      exact ⟨by rw [HE.out]; rfl, rfl⟩
    · have HE : Hid (aheadT a b = false) := by show _ = _; unfold aheadT; rw [if_neg e]; simp [e2]
      have q0 : decide (b.length < a.length) = false := decide_eq_false e2
      go_enter Try.func29, Try.ntmps29
      go_wp2
      go_ret
      exact ⟨by rw [HE.out]; rfl, rfl⟩
end Go.Proofs.Ytoaejkfejdaiaaa
