/- A row of bytes to be read, and opened; two neighbours swapped in a row of one's own. -/
import Derived.Test.YtfefidmbkbigoaaCopyAt
import Derived.Test.YtfefidmbkbigoaaClkPlain
namespace Go.Proofs.Ytfefidmbkbigoaa
open Go.RowKit

def BytesAt (w : World) (a : Option Addr) (ns : List Int) : Prop :=
  ns.length ≤ maxLen ∧ (ns ≠ [] → ∃ b o, a = some ⟨b, o, none⟩ ∧ ∀ i (h : i < ns.length), w.cell? ⟨b, o + i, none⟩ = some (.int .u8 ns[i]))
theorem BytesAt.later {w w' : World} {a : Option Addr} {ns : List Int} (h : BytesAt w a ns) (hb : Below w.heap.size w w') : BytesAt w' a ns := by
  refine ⟨h.1, fun hn => ?_⟩
  obtain ⟨b, o, rfl, hc⟩ := h.2 hn
  exact ⟨b, o, rfl, fun i hi => cell_later hb (hc i hi)⟩

/-- An event stored. -/
theorem evCells_set4 (es : List Ev) (k : Nat) (e : Ev) (h : k < es.length) :
    ((((evCells es).set (k * 4) (.int .i64 e.thread)).set (k * 4 + 1) (.int .i64 e.kind)).set (k * 4 + 2) (.int .i64 e.obj)).set (k * 4 + 3) (.bool e.fail) = evCells (es.set k e) := by
  induction es generalizing k with
  | nil => simp at h
  | cons x es ih =>
    cases k with
    | zero => rfl
    | succ k =>
      have h1 := ih k (by simpa using h)
      simp only [List.set_cons_succ]
      rw [show evCells (x :: es.set k e) = evCell x ++ evCells (es.set k e) from rfl, ← h1, show evCells (x :: es) = evCell x ++ evCells es from rfl]
      have hs : ∀ (l : List Value) (j : Nat) (v : Value), (evCell x ++ l).set (j + 4) v = evCell x ++ l.set j v := fun l j v => by
        simp [evCell]
      rw [show (k + 1) * 4 = k * 4 + 4 by omega, show k * 4 + 4 + 1 = (k * 4 + 1) + 4 by omega, show k * 4 + 4 + 2 = (k * 4 + 2) + 4 by omega, show k * 4 + 4 + 3 = (k * 4 + 3) + 4 by omega, hs, hs, hs, hs]
theorem OwnE.store4 {w : World} {B g n cap : Nat} {es : List Ev} (h : OwnE w B (.slice (some ⟨g, 0, none⟩) n cap) es) (hn : n = es.length) {k : Nat} (hk : k < n) (e : Ev) :
    OwnE ((((w.setCell ⟨g, k * 4, none⟩ (.int .i64 e.thread)).setCell ⟨g, k * 4 + 1, none⟩ (.int .i64 e.kind)).setCell ⟨g, k * 4 + 2, none⟩ (.int .i64 e.obj)).setCell ⟨g, k * 4 + 3, none⟩ (.bool e.fail)) B (.slice (some ⟨g, 0, none⟩) n cap) (es.set k e) := by
  have h0 : w.ownsRow B 28 4 (.slice (some ⟨g, 0, none⟩) n cap) n (evCells es) := by
    have h1 : w.ownsRow B 28 4 (.slice (some ⟨g, 0, none⟩) n cap) es.length (evCells es) := h
    rw [← hn] at h1
    exact h1
  have h4 := ((((h0.stored (k * 4) (.int .i64 e.thread)).1.stored (k * 4 + 1) (.int .i64 e.kind)).1.stored (k * 4 + 2) (.int .i64 e.obj)).1.stored (k * 4 + 3) (.bool e.fail)).1
  rw [evCells_set4 es k e (by omega)] at h4
  unfold OwnE
  rw [List.length_set, ← hn]
  exact h4
/-- Two neighbours swapped. -/
def swp (l : List Ev) (i : Nat) : List Ev := (l.set i (l.getD (i + 1) ev0)).set (i + 1) (l.getD i ev0)
theorem swp_length (l : List Ev) (i : Nat) : (swp l i).length = l.length := by simp [swp]

open Go.Deep Go.Joins Go.WideShapes Go.ChangeShapes

section
variable {H : Type} {enc : TypeId × Value → H} {W : World} {base : Nat} {spare : Nat → Bool} {held : Bool}

theorem wf_u8 {n : Int} (h : (Lit.int .u8 n).wf = true) : 0 ≤ n ∧ n < 256 := by
  simp [Lit.wf, IntKind.min, IntKind.max, IntKind.signed, IntKind.bits] at h
  omega

theorem bytes_of_trod {r : Reach} {b0 : Nat} {v : Value} {d : DataW H} {p : List MemPlace} (hv : Value.okWide Try.prog W r b0 23 v) (h : DataW.Trod enc Try.prog W base spare held 23 v d p) :
    ∃ (a : Option Addr) (ns : List Int) (cap : Nat), v = .slice a ns.length cap ∧ BytesAt W a ns ∧ ∀ n ∈ ns, 0 ≤ n ∧ n < 256 := by
  obtain ⟨a, len, cap, rfl⟩ := okWide_slice Try.underlying23 hv
  obtain ⟨fuel, hf⟩ := h
  rcases open_ints Try.underlying23 Try.underlying5 (by kernel_rfl) hf with ⟨e, _⟩ | ⟨a', len', cap', zs, e, _, hl, hm, hz, _, hc, hw⟩
  · simp [Value.cells] at e
    obtain ⟨rfl, rfl, rfl⟩ := e
    exact ⟨none, [], 0, rfl, ⟨by simp [maxLen], fun h => absurd rfl h⟩, by simp⟩
  · simp [Value.cells] at e
    obtain ⟨rfl, rfl, rfl⟩ := e
    have hlz : len ≤ zs.length := by rw [hz]; split <;> omega
    have hlt : (zs.take len).length = len := by simp; omega
    refine ⟨some a', zs.take len, cap, by rw [hlt], ⟨by rw [hlt]; omega, fun hne => ?_⟩, fun n hn => wf_u8 (hw n (List.mem_of_mem_take hn))⟩
    have hpos : 0 < len := by
      rcases Nat.eq_zero_or_pos len with h | h
      · subst h; simp at hne
      · exact h
    have h0 := hc 0 (by omega)
    have hsp := World.cell?_spot h0
    have hsp' : a'.spot = none := by simpa [Addr.add] using hsp
    obtain ⟨b, o, s⟩ := a'
    subst hsp'
    refine ⟨b, o, rfl, fun i hi => ?_⟩
    have hi' : i < len := by omega
    have := hc i (by omega)
    rw [add_row, getD_lt _ (by omega)] at this
    rw [this]
    simp
end
end Go.Proofs.Ytfefidmbkbigoaa
