/- Conversions to uint, and remainders. -/
import Derived.Test.YtoaejkfejdaiaaaGen
namespace Go.Proofs.Ytoaejkfejdaiaaa
open Go.RowKit

theorem wrap_u (n : Int) : ∃ m : Int, IntKind.u64.wrap n = m ∧ 0 ≤ m := by
  refine ⟨_, rfl, ?_⟩
  unfold IntKind.wrap
  simp [IntKind.signed, IntKind.bits]
  omega
theorem wrap_u_small (n : Int) (h0 : 0 ≤ n) (h1 : n ≤ 1000000) : IntKind.u64.wrap n = n := by
  unfold IntKind.wrap
  simp [IntKind.signed, IntKind.bits]
  omega
theorem tmod_nat (m : Int) (h0 : 0 ≤ m) (n : Nat) (h1 : 1 ≤ n) : ∃ k : Nat, m.tmod (n : Int) = k ∧ k < n := by
  rw [Int.tmod_eq_emod_of_nonneg h0]
  have a := Int.emod_nonneg m (b := (n : Int)) (by omega)
  have b := Int.emod_lt_of_pos m (b := (n : Int)) (by omega)
  exact ⟨(m % (n : Int)).toNat, by omega, by omega⟩

end Go.Proofs.Ytoaejkfejdaiaaa
