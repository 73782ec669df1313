/- Arguments that are calls of work, or rows of them, opened. -/
import Derived.Test.YtoaejkfejdaiaaaOpenR
namespace Go.Proofs.Ytoaejkfejdaiaaa
open Go.RowKit Go.Deep Go.Joins Go.WideShapes Go.ChangeShapes Go.ChangeAt

/-- A call: its kind, two workers, a text. -/
structure WOp where
  kind : Int
  a : Int
  b : Int
  s : List UInt8
def wopCell (o : WOp) : List Value := [.int .i64 o.kind, .int .i64 o.a, .int .i64 o.b, .string ⟨o.s.toArray⟩]
theorem wopCell_len (o : WOp) : (wopCell o).length = 4 := rfl
section
variable {H : Type} {enc : TypeId × Value → H} {W : World} {base : Nat} {spare : Nat → Bool} {held : Bool}

set_option maxRecDepth 100000 in
theorem wopCell_of_trod {fuel : Nat} {cs : List Value} {x : DataW H × List MemPlace} (h : DataW.trod enc Try.prog W base spare held fuel 33 cs = some x) :
    ∃ o : WOp, cs = wopCell o := by
  obtain ⟨xs, n, _, _, hlen, hxl, hf⟩ := DataW.trod_struct Try.underlying33 h
  have h4 : cs.length = 4 := hlen.trans (by kernel_rfl)
  have hx4 : xs.length = 4 := hxl.trans rfl
  match cs, h4, xs, hx4 with
  | [c0, c1, c2, c3], _, [x0, x1, x2, x3], _ =>
    have e1 : Try.prog.cellsOf 3 = 1 := by kernel_rfl
    have e2 : Try.prog.cellsOf 9 = 1 := by kernel_rfl
    have g0 := hf 0 _ rfl
    have g1 := hf 1 _ rfl
    have g2 := hf 2 _ rfl
    have g3 := hf 3 _ rfl
    simp [e1, e2] at g0 g1 g2 g3
    obtain ⟨n0, r0, _⟩ := DataW.trod_int Try.underlying3 g0
    obtain ⟨n1, r1, _⟩ := DataW.trod_int Try.underlying3 g1
    obtain ⟨n2, r2, _⟩ := DataW.trod_int Try.underlying3 g2
    obtain ⟨n3, r3, _⟩ := DataW.trod_string Try.underlying9 g3
    simp at r0 r1 r2 r3
    exact ⟨⟨n0, n1, n2, n3.data.toList⟩, by simp [wopCell, r0, r1, r2, r3]⟩
variable {r : Reach} {b0 : Nat} {v : Value} {d : DataW H} {p : List MemPlace}
set_option maxRecDepth 100000 in
theorem wop_of_trod (hv : Value.okWide Try.prog W r b0 33 v) (h : DataW.Trod enc Try.prog W base spare held 33 v d p) :
    ∃ o : WOp, v = .agg #[.int .i64 o.kind, .int .i64 o.a, .int .i64 o.b, .string ⟨o.s.toArray⟩] := by
  obtain ⟨v0, v1, v2, v3, y0, y1, y2, y3, n, rfl, _, _, h0, h1, h2, h3⟩ := open_agg4 Try.underlying33 (by kernel_rfl) (by kernel_rfl) hv h
  obtain ⟨n0, r0, _⟩ := DataW.trod_int Try.underlying3 h0
  obtain ⟨n1, r1, _⟩ := DataW.trod_int Try.underlying3 h1
  obtain ⟨n2, r2, _⟩ := DataW.trod_int Try.underlying3 h2
  obtain ⟨n3, r3, _⟩ := DataW.trod_string Try.underlying9 h3
  simp at r0 r1 r2 r3
  subst r0 r1 r2 r3
  exact ⟨⟨n0, n1, n2, n3.data.toList⟩, by simp⟩
set_option maxRecDepth 100000 in
theorem wops_of_trod (hv : Value.okWide Try.prog W r b0 22 v) (h : DataW.Trod enc Try.prog W base spare held 22 v d p) :
    ∃ (a : Option Addr) (l : List WOp) (cap : Nat), v = .slice a l.length cap ∧ RowAt W a 4 wopCell l ∧ (a = none → cap = 0) := by
  obtain ⟨a, l, cap, h1, h2, h3, _⟩ := rows_of_trod (fun (_ : WOp) _ => True) (by omega) wopCell_len Try.underlying22 (by kernel_rfl) (fun _ _ _ h => by obtain ⟨o, h⟩ := wopCell_of_trod h; exact ⟨o, h, trivial⟩) hv h
  exact ⟨a, l, cap, h1, h2, h3⟩
end

end Go.Proofs.Ytoaejkfejdaiaaa
