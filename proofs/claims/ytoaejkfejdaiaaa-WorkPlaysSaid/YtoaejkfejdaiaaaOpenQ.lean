/- Arguments that are calls of a queue, texts, or bools, in rows, opened. -/
import Derived.Test.YtoaejkfejdaiaaaOpenR
import Derived.ChangeMaps5
import Derived.SizedLaws
namespace Go.Proofs.Ytoaejkfejdaiaaa
open Go.RowKit Go.Deep Go.Joins Go.WideShapes Go.ChangeShapes Go.ChangeAt

/-- A call: its kind, a text. -/
structure QOp where
  kind : Int
  s : List UInt8
def qopCell (o : QOp) : List Value := [.int .i64 o.kind, .string ⟨o.s.toArray⟩]
theorem qopCell_len (o : QOp) : (qopCell o).length = 2 := rfl
section
variable {H : Type} {enc : TypeId × Value → H} {W : World} {base : Nat} {spare : Nat → Bool} {held : Bool}

variable {r : Reach} {b0 : Nat} {v : Value} {d : DataW H} {p : List MemPlace}
set_option maxRecDepth 100000 in
theorem txts_of_trod (hv : Value.okWide Try.prog W r b0 38 v) (h : DataW.Trod enc Try.prog W base spare held 38 v d p) :
    ∃ (a : Option Addr) (l : List (List UInt8)) (cap : Nat), v = .slice a l.length cap ∧ RowAt W a 1 txtCell l ∧ (a = none → cap = 0) ∧ (∀ y ∈ l, ∃ el sp dy, d = .slice el sp ∧ dy ∈ el ∧ dy = .lit (.string y)) :=
  rows_of_trod (fun y dy => dy = .lit (.string y)) (by omega) txtCell_len Try.underlying38 (by kernel_rfl) (fun fuel cs x h => by
    obtain ⟨n1, r1, rfl, _⟩ := DataW.trod_string Try.underlying9 h
    exact ⟨n1.data.toList, by simp [txtCell, r1], rfl⟩) hv h
set_option maxRecDepth 100000 in
theorem bys_of_trod (hv : Value.okWide Try.prog W r b0 80 v) (h : DataW.Trod enc Try.prog W base spare held 80 v d p) :
    ∃ (a : Option Addr) (l : List Nat) (cap : Nat), v = .slice a l.length cap ∧ RowAt W a 1 byCell l ∧ (a = none → cap = 0) ∧ (∀ y ∈ l, y < 256) := by
  obtain ⟨a, l, cap, h1, h2, h3, h4⟩ := rows_of_trod (fun (y : Nat) _ => y < 256) (by omega) byCell_len Try.underlying80 (by kernel_rfl) (fun fuel cs x h => by
    obtain ⟨n1, r1, _, w1⟩ := DataW.trod_int Try.underlying5 h
    obtain ⟨q1, q2⟩ := wf_byte w1
    exact ⟨n1.toNat, by simp [byCell, r1, Int.toNat_of_nonneg q1], by omega⟩) hv h
  exact ⟨a, l, cap, h1, h2, h3, fun y hy => by obtain ⟨_, _, _, _, _, h⟩ := h4 y hy; exact h⟩
end
end Go.Proofs.Ytoaejkfejdaiaaa
