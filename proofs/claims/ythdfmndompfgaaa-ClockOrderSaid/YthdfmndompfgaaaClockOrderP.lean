/- Plain words for ClockOrder. -/
import Derived.Test.YthdfmndompfgaaaBefore
namespace Go.Proofs.Ythdfmndompfgaaa
open Go.RowKit

theorem before_nat {l : List Ev} {i k : Nat} (hr : rightL l = true) (hi : i < l.length) (hk : k < l.length) : beforeO l i k = hb l i k := beforeO_at hr hi hk
/-- Two in both orders are one. -/
theorem hb_both {l : List Ev} {i j : Nat} (h1 : hb l i j = true) (h2 : hb l j i = true) : i = j := by
  have := hb_le h1
  have := hb_le h2
  omega
theorem hb_min_max {l : List Ev} {i j : Nat} (hd : dep (evI l i) (evI l j) = true) : hb l (min i j) (max i j) = true := by
  rcases Nat.lt_trichotomy i j with h | h | h
  · rw [Nat.min_eq_left (by omega), Nat.max_eq_right (by omega)]
    exact hb_dep h hd
  · subst h
    rw [Nat.min_self, Nat.max_self]
    exact hb_self l i
  · rw [Nat.min_eq_right (by omega), Nat.max_eq_left (by omega)]
    exact hb_dep h (by rw [dep_symm]; exact hd)

end Go.Proofs.Ythdfmndompfgaaa
