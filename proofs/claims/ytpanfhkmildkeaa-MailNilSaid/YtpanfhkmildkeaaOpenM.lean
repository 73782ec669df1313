/- Arguments that are calls of boxes, or rows of them, opened. -/
import Derived.Test.YtpanfhkmildkeaaOpenR
namespace Go.Proofs.Ytpanfhkmildkeaa
open Go.RowKit Go.Deep Go.Joins Go.WideShapes Go.ChangeShapes Go.ChangeAt

/-- A call: its kind, a worker, a text, a set. -/
structure MOp where
  kind : Int
  to : Int
  s : List UInt8
  set : Nat
def mopCell (o : MOp) : List Value := [.int .i64 o.kind, .int .i64 o.to, .string ⟨o.s.toArray⟩, .int .u8 (o.set : Nat)]
theorem mopCell_len (o : MOp) : (mopCell o).length = 4 := rfl
section
variable {H : Type} {enc : TypeId × Value → H} {W : World} {base : Nat} {spare : Nat → Bool} {held : Bool}

set_option maxRecDepth 100000 in
theorem mopCell_of_trod {fuel : Nat} {cs : List Value} {x : DataW H × List MemPlace} (h : DataW.trod enc Try.prog W base spare held fuel 30 cs = some x) :
    ∃ o : MOp, cs = mopCell o ∧ o.set < 256 := by
  obtain ⟨xs, n, _, _, hlen, hxl, hf⟩ := DataW.trod_struct Try.underlying30 h
  have h4 : cs.length = 4 := hlen.trans (by kernel_rfl)
  have hx4 : xs.length = 4 := hxl.trans rfl
  match cs, h4, xs, hx4 with
  | [c0, c1, c2, c3], _, [x0, x1, x2, x3], _ =>
    have e1 : Try.prog.cellsOf 3 = 1 := by kernel_rfl
    have e2 : Try.prog.cellsOf 9 = 1 := by kernel_rfl
    have e3 : Try.prog.cellsOf 5 = 1 := by kernel_rfl
    have g0 := hf 0 _ rfl
    have g1 := hf 1 _ rfl
    have g2 := hf 2 _ rfl
    have g3 := hf 3 _ rfl
    simp [e1, e2, e3] at g0 g1 g2 g3
    obtain ⟨n0, r0, _⟩ := DataW.trod_int Try.underlying3 g0
    obtain ⟨n1, r1, _⟩ := DataW.trod_int Try.underlying3 g1
    obtain ⟨n2, r2, _⟩ := DataW.trod_string Try.underlying9 g2
    obtain ⟨n3, r3, _, w3⟩ := DataW.trod_int Try.underlying5 g3
    simp at r0 r1 r2 r3
    obtain ⟨h0, h1⟩ := wf_byte w3
    refine ⟨⟨n0, n1, n2.data.toList, n3.toNat⟩, ?_, by dsimp only; omega⟩
    simp [mopCell, r0, r1, r2, r3, Int.toNat_of_nonneg h0]
variable {r : Reach} {b0 : Nat} {v : Value} {d : DataW H} {p : List MemPlace}
set_option maxRecDepth 100000 in
theorem mop_of_trod (hv : Value.okWide Try.prog W r b0 30 v) (h : DataW.Trod enc Try.prog W base spare held 30 v d p) :
    ∃ o : MOp, v = .agg #[.int .i64 o.kind, .int .i64 o.to, .string ⟨o.s.toArray⟩, .int .u8 (o.set : Nat)] ∧ o.set < 256 := by
  obtain ⟨v0, v1, v2, v3, y0, y1, y2, y3, n, rfl, _, _, h0, h1, h2, h3⟩ := open_agg4 Try.underlying30 (by kernel_rfl) (by kernel_rfl) hv h
  obtain ⟨n0, r0, _⟩ := DataW.trod_int Try.underlying3 h0
  obtain ⟨n1, r1, _⟩ := DataW.trod_int Try.underlying3 h1
  obtain ⟨n2, r2, _⟩ := DataW.trod_string Try.underlying9 h2
  obtain ⟨n3, r3, _, w3⟩ := DataW.trod_int Try.underlying5 h3
  simp at r0 r1 r2 r3
  subst r0 r1 r2 r3
  obtain ⟨h0, h1⟩ := wf_byte w3
  exact ⟨⟨n0, n1, n2.data.toList, n3.toNat⟩, by simp [Int.toNat_of_nonneg h0], by dsimp only; omega⟩
set_option maxRecDepth 100000 in
theorem mops_of_trod (hv : Value.okWide Try.prog W r b0 22 v) (h : DataW.Trod enc Try.prog W base spare held 22 v d p) :
    ∃ (a : Option Addr) (l : List MOp) (cap : Nat), v = .slice a l.length cap ∧ RowAt W a 4 mopCell l ∧ (a = none → cap = 0) ∧ ∀ o ∈ l, o.set < 256 := by
  obtain ⟨a, l, cap, h1, h2, h3, h4⟩ := rows_of_trod (fun (o : MOp) _ => o.set < 256) (by omega) mopCell_len Try.underlying22 (by kernel_rfl) (fun _ _ _ h => mopCell_of_trod h) hv h
  exact ⟨a, l, cap, h1, h2, h3, fun o ho => by obtain ⟨_, _, _, _, _, h⟩ := h4 o ho; exact h⟩
end

end Go.Proofs.Ytpanfhkmildkeaa
