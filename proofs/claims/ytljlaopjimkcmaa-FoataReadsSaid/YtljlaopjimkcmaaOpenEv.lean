/- Arguments that are events, rows of events, or texts, opened. -/
import Derived.Test.YtljlaopjimkcmaaMem
import Derived.ChangeMaps5
namespace Go.Proofs.Ytljlaopjimkcmaa
open Go.RowKit Go.Deep Go.Joins Go.WideShapes Go.ChangeShapes Go.ChangeAt

section
variable {H : Type} {enc : TypeId × Value → H} {W : World} {base : Nat} {spare : Nat → Bool} {held : Bool}

theorem evCell_of_trod {fuel : Nat} {cs : List Value} {x : DataW H × List MemPlace} (h : DataW.trod enc Try.prog W base spare held fuel 39 cs = some x) :
    ∃ i : Ev, cs = evCell i := by
  obtain ⟨xs, n, _, _, hlen, hxl, hf⟩ := DataW.trod_struct Try.underlying39 h
  have h4 : cs.length = 4 := hlen.trans (by kernel_rfl)
  have hx4 : xs.length = 4 := hxl.trans rfl
  match cs, h4, xs, hx4 with
  | [c0, c1, c2, c3], _, [x0, x1, x2, x3], _ =>
    have e1 : Try.prog.cellsOf 3 = 1 := by kernel_rfl
    have e2 : Try.prog.cellsOf 4 = 1 := by kernel_rfl
    have g0 := hf 0 _ rfl
    have g1 := hf 1 _ rfl
    have g2 := hf 2 _ rfl
    have g3 := hf 3 _ rfl
    simp [e1, e2] at g0 g1 g2 g3
    obtain ⟨n0, r0, _⟩ := DataW.trod_int Try.underlying3 g0
    obtain ⟨n1, r1, _⟩ := DataW.trod_int Try.underlying3 g1
    obtain ⟨n2, r2, _⟩ := DataW.trod_int Try.underlying3 g2
    obtain ⟨n3, r3, _⟩ := DataW.trod_bool Try.underlying4 g3
    simp at r0 r1 r2 r3
    exact ⟨⟨n0, n1, n2, n3⟩, by simp [evCell, r0, r1, r2, r3]⟩

theorem ev_of_trod {r : Reach} {b0 : Nat} {v : Value} {d : DataW H} {p : List MemPlace} (hv : Value.okWide Try.prog W r b0 39 v) (h : DataW.Trod enc Try.prog W base spare held 39 v d p) :
    ∃ e : Ev, v = .agg #[.int .i64 e.thread, .int .i64 e.kind, .int .i64 e.obj, .bool e.fail] := by
  obtain ⟨v0, v1, v2, v3, y0, y1, y2, y3, n, rfl, _, _, h0, h1, h2, h3⟩ := open_agg4 Try.underlying39 (by kernel_rfl) (by kernel_rfl) hv h
  obtain ⟨n0, r0, _⟩ := DataW.trod_int Try.underlying3 h0
  obtain ⟨n1, r1, _⟩ := DataW.trod_int Try.underlying3 h1
  obtain ⟨n2, r2, _⟩ := DataW.trod_int Try.underlying3 h2
  obtain ⟨n3, r3, _⟩ := DataW.trod_bool Try.underlying4 h3
  simp at r0 r1 r2 r3
  subst r0 r1 r2 r3
  exact ⟨⟨n0, n1, n2, n3⟩, rfl⟩

theorem evs_of_trod {r : Reach} {b0 : Nat} {v : Value} {d : DataW H} {p : List MemPlace} (hv : Value.okWide Try.prog W r b0 22 v) (h : DataW.Trod enc Try.prog W base spare held 22 v d p) :
    ∃ (a : Option Addr) (l : List Ev) (cap : Nat), v = .slice a l.length cap ∧ EvsAt W a l ∧ (a = none → cap = 0) := by
  obtain ⟨a, len, cap, rfl⟩ := okWide_slice Try.underlying22 hv
  obtain ⟨fuel, hf⟩ := h
  rcases open_slice Try.underlying22 hf with ⟨e, _⟩ | ⟨a', len', cap', m, n, D, Pl, e, _, hl, hm, hmm, _, hi⟩
  · simp [Value.cells] at e
    obtain ⟨rfl, rfl, rfl⟩ := e
    exact ⟨none, [], 0, rfl, evsAt_nil _ _, fun _ => rfl⟩
  · simp [Value.cells] at e
    obtain ⟨rfl, rfl, rfl⟩ := e
    have e4 : Try.prog.cellsOf 39 = 4 := by kernel_rfl
    have hlm : len ≤ m := by rw [hmm]; split <;> omega
    obtain ⟨l, hll, hx⟩ := exists_list len (fun i (y : Ev) => ∀ j v, (evCell y)[j]? = some v → W.cell? (a'.add (i * 4 + j)) = some v) (fun i hi' => by
      obtain ⟨cs', hc, ht⟩ := hi i (by omega)
      rw [e4] at hc
      obtain ⟨y, rfl⟩ := evCell_of_trod ht
      obtain ⟨_, _, hat⟩ := World.cells?_some hc
      refine ⟨y, fun j v hv => ?_⟩
      have hj : j < 4 := by have := (List.getElem?_eq_some_iff.1 hv).1; simpa [evCell] using this
      rw [← add_add, hat j hj]; exact hv)
    refine ⟨some a', l, cap, by rw [hll], ⟨by omega, fun hne => ?_⟩, fun h => by cases h⟩
    have hpos : 0 < l.length := List.length_pos_iff.2 hne
    have h0 := hx 0 l[0] (List.getElem?_eq_getElem hpos) 0 _ rfl
    have hsp := World.cell?_spot h0
    have hsp' : a'.spot = none := by simpa [Addr.add] using hsp
    obtain ⟨b, o, s⟩ := a'
    subst hsp'
    refine ⟨b, o, rfl, fun i hi' => ?_⟩
    have hxi := hx i l[i] (List.getElem?_eq_getElem hi')
    have c0 := hxi 0 _ rfl
    have c1 := hxi 1 _ rfl
    have c2 := hxi 2 _ rfl
    have c3 := hxi 3 _ rfl
    simp only [add_row, ← Nat.add_assoc, Nat.add_zero] at c0 c1 c2 c3
    exact ⟨c0, c1, c2, c3⟩

/-- The same, with its room. -/
theorem evs2_of_trod {r : Reach} {b0 : Nat} {v : Value} {d : DataW H} {p : List MemPlace} (hv : Value.okWide Try.prog W r b0 22 v) (h : DataW.Trod enc Try.prog W base spare held 22 v d p) :
    ∃ (a : Option Addr) (l : List Ev) (cap : Nat), v = .slice a l.length cap ∧ EvsAt W a l ∧ (a = none → cap = 0) ∧ l.length ≤ cap ∧ cap ≤ maxLen := by
  obtain ⟨a, len, cap, rfl⟩ := okWide_slice Try.underlying22 hv
  obtain ⟨fuel, hf⟩ := h
  rcases open_slice Try.underlying22 hf with ⟨e, _⟩ | ⟨a', len', cap', m, n, D, Pl, e, _, hl, hm, hmm, _, hi⟩
  · simp [Value.cells] at e
    obtain ⟨rfl, rfl, rfl⟩ := e
    exact ⟨none, [], 0, rfl, evsAt_nil _ _, (fun _ => rfl), Nat.le_refl _, by simp [maxLen]⟩
  · simp [Value.cells] at e
    obtain ⟨rfl, rfl, rfl⟩ := e
    have e4 : Try.prog.cellsOf 39 = 4 := by kernel_rfl
    have hlm : len ≤ m := by rw [hmm]; split <;> omega
    obtain ⟨l, hll, hx⟩ := exists_list len (fun i (y : Ev) => ∀ j v, (evCell y)[j]? = some v → W.cell? (a'.add (i * 4 + j)) = some v) (fun i hi' => by
      obtain ⟨cs', hc, ht⟩ := hi i (by omega)
      rw [e4] at hc
      obtain ⟨y, rfl⟩ := evCell_of_trod ht
      obtain ⟨_, _, hat⟩ := World.cells?_some hc
      refine ⟨y, fun j v hv => ?_⟩
      have hj : j < 4 := by have := (List.getElem?_eq_some_iff.1 hv).1; simpa [evCell] using this
      rw [← add_add, hat j hj]; exact hv)
    refine ⟨some a', l, cap, by rw [hll], ⟨by omega, fun hne => ?_⟩, (fun h => by cases h), by omega, by omega⟩
    have hpos : 0 < l.length := List.length_pos_iff.2 hne
    have h0 := hx 0 l[0] (List.getElem?_eq_getElem hpos) 0 _ rfl
    have hsp := World.cell?_spot h0
    have hsp' : a'.spot = none := by simpa [Addr.add] using hsp
    obtain ⟨b, o, s⟩ := a'
    subst hsp'
    refine ⟨b, o, rfl, fun i hi' => ?_⟩
    have hxi := hx i l[i] (List.getElem?_eq_getElem hi')
    have c0 := hxi 0 _ rfl
    have c1 := hxi 1 _ rfl
    have c2 := hxi 2 _ rfl
    have c3 := hxi 3 _ rfl
    simp only [add_row, ← Nat.add_assoc, Nat.add_zero] at c0 c1 c2 c3
    exact ⟨c0, c1, c2, c3⟩

theorem str_of_trod {r : Reach} {b0 : Nat} {v : Value} {d : DataW H} {p : List MemPlace} (hv : Value.okWide Try.prog W r b0 9 v) (h : DataW.Trod enc Try.prog W base spare held 9 v d p) :
    ∃ l : List UInt8, v = .string ⟨l.toArray⟩ ∧ l.length ≤ maxLen := by
  obtain ⟨s, rfl, _, _, w⟩ := Go.ChangeMaps.open_string Try.underlying9 hv h
  exact ⟨s.data.toList, rfl, by simpa using w⟩
end
end Go.Proofs.Ytljlaopjimkcmaa
