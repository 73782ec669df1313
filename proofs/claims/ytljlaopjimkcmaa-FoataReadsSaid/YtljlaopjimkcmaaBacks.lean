/- A range from the end on: which rounds have come. -/
import Derived.Test.YtljlaopjimkcmaaMidRow
import Derived.RangeFuncNested
import Derived.RangeFuncBound
import Derived.RangeFuncCalls
import Derived.RangeFuncLeaves
import Derived.RangeFuncBox
import Derived.Shelf.Abstract
import Derived.Shelf.RegionOpen
import Derived.WalkKit
import Derived.OwnWalkIn
import Derived.TacticsInMore
import Derived.LoopNIn
import Derived.LoopIn
import Derived.Sort.QuietIn
namespace Go.Proofs.Ytljlaopjimkcmaa
open Go.RowKit Go.Shelf

/-- What has come when k rounds are over: f 0, .., f (k - 1). -/
def upto {T : Type} (f : Nat → T) (k : Nat) : List T := (List.range k).map f
theorem upto_succ {T : Type} (f : Nat → T) (k : Nat) : upto f (k + 1) = upto f k ++ [f k] := by simp [upto, List.range_succ]
theorem upto_length {T : Type} (f : Nat → T) (k : Nat) : (upto f k).length = k := by simp [upto]

/-- The rounds' places, from the end on. -/
def Backs (n k : Nat) (pre : List (Fin n)) : Prop := pre.map (fun q => q.val) = upto (fun k => n - 1 - k) k
theorem backs_nil (n : Nat) : Backs n 0 [] := rfl
theorem Backs.len {n k : Nat} {pre : List (Fin n)} (h : Backs n k pre) : pre.length = k := by
  have := congrArg List.length h
  simpa [upto_length] using this
theorem Backs.snoc {n k : Nat} {pre : List (Fin n)} (h : Backs n k pre) {q : Fin n} (hq : q.val = n - 1 - k) : Backs n (k + 1) (pre ++ [q]) := by
  unfold Backs at *
  rw [List.map_append, h, upto_succ]
  simp [hq]
theorem Backs.mem {n k : Nat} {pre : List (Fin n)} (h : Backs n k pre) {j : Nat} (hj : n - k ≤ j) (hjn : j < n) (hk : k ≤ n) : (⟨j, hjn⟩ : Fin n) ∈ pre := by
  have h1 : j ∈ pre.map (fun q => q.val) := by
    unfold Backs at h
    rw [h]
    unfold upto
    rw [List.mem_map]
    exact ⟨n - 1 - j, by rw [List.mem_range]; omega, by omega⟩
  obtain ⟨q, hq, e⟩ := List.mem_map.1 h1
  have : q = ⟨j, hjn⟩ := Fin.ext e
  rw [← this]
  exact hq
theorem MidAt.keptRow {w w' : World} {g : Nat} {t : TypeId} {xs : List Value} {row : Option Nat} (h : MidAt w g t xs) (hg : w.grownBy w' row) (hr : ∀ r, row = some r → ∃ o : Obj, w.heap[r]? = some o ∧ o.isCells = false) : MidAt w' g t xs := by
  refine (hg.block g h.lt fun e => ?_).trans h
  obtain ⟨o, ho, hc⟩ := hr g e.symm
  unfold MidAt at h
  rw [h] at ho
  cases ho
  cases hc

end Go.Proofs.Ytljlaopjimkcmaa
