import Derived.Test.YthkmeeodbgdmeaaGreatPk06
import Derived.Test.YthkmeeodbgdmeaaGreatPk13

/- Bytes that came in, and that the empty row has no room. -/
namespace Go.Proofs.YthkmeeodbgdmeaaGreat
open Go.RowKit
open Go.Deep Go.Joins Go.WideShapes Go.ChangeShapes

section
variable {H : Type} {enc : TypeId × Value → H} {W : World} {base : Nat} {spare : Nat → Bool} {held : Bool}
set_option maxRecDepth 100000 in
theorem bytes2_of_trod {r : Reach} {b0 : Nat} {v : Value} {d : DataW H} {p : List MemPlace} (hv : Value.okWide Tryz.prog W r b0 25 v) (h : DataW.Trod enc Tryz.prog W base spare held 25 v d p) :
    ∃ (a : Option Addr) (ns : List Int) (cap : Nat), v = .slice a ns.length cap ∧ BytesAt W a ns ∧ (∀ n ∈ ns, 0 ≤ n ∧ n < 256) ∧ (a = none → cap = 0) := by
  obtain ⟨a, ns, cap, rfl, h1, h2⟩ := bytes_of_trod hv h
  refine ⟨a, ns, cap, rfl, h1, h2, fun ha => ?_⟩
  subst ha
  obtain ⟨fuel, hf⟩ := h
  rcases open_ints Tryz.underlying25 Tryz.underlying5 (by kernel_rfl) hf with ⟨e, _⟩ | ⟨a', len', cap', zs, e, _⟩
  · simp [Value.cells] at e
    omega
  · simp [Value.cells] at e
end
def byteCell (n : Int) : List Value := [.int .u8 n]
theorem byteCell_len (n : Int) : (byteCell n).length = 1 := rfl
theorem byteCell_one (n : Int) : ∀ v ∈ byteCell n, v.oneCell' = true := by
  intro v hv
  rw [List.mem_singleton.1 hv]
  rfl
theorem infoU8 : (Tryz.prog.info? 5).map (fun i => (i.zero, i.size, i.bytes)) = some (some (.int .u8 0), 1, 1) := by kernel_rfl
theorem bytes_row {w : World} {a : Option Addr} {ns : List Int} (h : BytesAt w a ns) : RowAt w a 1 byteCell ns := by
  refine ⟨h.1, fun hn => ?_⟩
  obtain ⟨b, o, rfl, hc⟩ := h.2 hn
  refine ⟨b, o, rfl, fun i hi j u hj => ?_⟩
  have hj0 : j = 0 := by
    rcases Nat.lt_or_ge j 1 with h | h
    · omega
    · rw [List.getElem?_eq_none (by rw [byteCell_len]; exact h)] at hj; cases hj
  subst hj0
  injection hj with hj
  subst hj
  rw [Nat.mul_one, Nat.add_zero]
  exact hc i hi
theorem row_bytes {w : World} {a : Option Addr} {ns : List Int} (h : RowAt w a 1 byteCell ns) : BytesAt w a ns := by
  refine ⟨h.1, fun hn => ?_⟩
  obtain ⟨b, o, rfl, hc⟩ := h.2 hn
  refine ⟨b, o, rfl, fun i hi => ?_⟩
  have := hc i hi 0 _ rfl
  rw [Nat.mul_one, Nat.add_zero] at this
  exact this
/-- A row of bytes of one's own: where it lies. -/
theorem own_bytes {w : World} {B : Nat} {v : Value} {ns : List Int} (h : OwnRow w B 5 1 byteCell v ns) (hm : ns.length ≤ 1000000) : ∃ a cap, v = .slice a ns.length cap ∧ BytesAt w a ns ∧ ∀ x, a = some x → x.block < w.heap.size := by
  obtain ⟨a, cap, rfl, h1, _⟩ := h.form byteCell_len hm
  refine ⟨a, cap, rfl, row_bytes h1, fun x hx => ?_⟩
  subst hx
  obtain ⟨_, ⟨h2, _⟩ | ⟨g, c, cur, h2, _, h4, _⟩⟩ := h
  · cases h2
  · injection h2 with e
    injection e with e
    rw [e]
    exact (Array.getElem?_eq_some_iff.1 h4).1
/-- The empty row, written out. -/
theorem own_lit {w : World} {B g : Nat} (hB : B ≤ g) (h : w.heap[g]? = some (.cells #[] 5 (0, 0))) : OwnRow w B 5 1 byteCell (.slice (some ⟨g, 0, none⟩) 0 0) [] :=
  ⟨rfl, .inr ⟨g, 0, #[], rfl, hB, h, Nat.le_refl _, by simp [maxLen], rfl, rfl⟩⟩

end Go.Proofs.YthkmeeodbgdmeaaGreat
