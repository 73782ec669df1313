/- Two rows are the same, plainly, and as a call answers it. -/
import Derived.Test.YtljlaopjimkcmaaRightL
import Derived.Test.YtljlaopjimkcmaaSameDoc
namespace Go.Proofs.Ytljlaopjimkcmaa
open Go.RowKit

/-- Two rows are the same, but for an order that doesn't matter. -/
def SameO (a b : List Ev) : Prop := rightL a = true ∧ rightL b = true ∧ Sim a b
def SameR (a b : List Ev) (w : World) (r : Ending) (w' : World) : Prop := ∃ c : Bool, r = .returned (.bool c) ∧ (c = true ↔ SameO a b) ∧ Below w.heap.size w w'
theorem in4_of_right {l : List Ev} (h : rightL l = true) : In4 l := by
  intro e he
  unfold rightL at h
  have := rightEv_bd (List.all_eq_true.1 h e he)
  omega
theorem SameO.len {a b : List Ev} (h : SameO a b) : a.length = b.length := h.2.2.len (in4_of_right h.1) (in4_of_right h.2.1)
theorem below_step2 {w8 W w' : World} (h1 : Below w8.heap.size w8 W) (hb : Below W.heap.size W w') : Below w8.heap.size w8 w' := h1.trans (hb.mono h1.size)

end Go.Proofs.Ytljlaopjimkcmaa
