/- An argument that is a list of levels, opened. -/
import Derived.Test.YtljlaopjimkcmaaOpenEv
import Derived.Test.YtljlaopjimkcmaaLvs
namespace Go.Proofs.Ytljlaopjimkcmaa
open Go.RowKit Go.Deep Go.Joins Go.WideShapes Go.ChangeShapes Go.ChangeAt

section
variable {H : Type} {enc : TypeId × Value → H} {W : World} {base : Nat} {spare : Nat → Bool} {held : Bool}

theorem evsCells_of_trod {fuel : Nat} {cs : List Value} {x : DataW H × List MemPlace} (h : DataW.trod enc Try.prog W base spare held fuel 22 cs = some x) :
    ∃ (a : Option Addr) (l : List Ev) (cap : Nat), cs = [.slice a l.length cap] ∧ EvsAt W a l ∧ (a = none → cap = 0) ∧ l.length ≤ cap := by
  rcases open_slice Try.underlying22 h with ⟨rfl, _⟩ | ⟨a, len, cap, m, n, D, Pl, rfl, _, hl, hm, hmm, _, hi⟩
  · exact ⟨none, [], 0, rfl, evsAt_nil _ _, (fun _ => rfl), Nat.le_refl _⟩
  · have e4 : Try.prog.cellsOf 39 = 4 := by kernel_rfl
    have hlm : len ≤ m := by rw [hmm]; split <;> omega
    obtain ⟨l, hll, hx⟩ := exists_list len (fun i (y : Ev) => ∀ j v, (evCell y)[j]? = some v → W.cell? (a.add (i * 4 + j)) = some v) (fun i hi' => by
      obtain ⟨cs', hc, ht⟩ := hi i (by omega)
      rw [e4] at hc
      obtain ⟨y, rfl⟩ := evCell_of_trod ht
      obtain ⟨_, _, hat⟩ := World.cells?_some hc
      refine ⟨y, fun j v hv => ?_⟩
      have hj : j < 4 := by have := (List.getElem?_eq_some_iff.1 hv).1; simpa [evCell] using this
      rw [← add_add, hat j hj]; exact hv)
    refine ⟨some a, l, cap, by rw [hll], ⟨by omega, fun hne => ?_⟩, (fun h => by cases h), by omega⟩
    have hpos : 0 < l.length := List.length_pos_iff.2 hne
    have h0 := hx 0 l[0] (List.getElem?_eq_getElem hpos) 0 _ rfl
    have hsp := World.cell?_spot h0
    have hsp' : a.spot = none := by simpa [Addr.add] using hsp
    obtain ⟨b, o, s⟩ := a
    subst hsp'
    refine ⟨b, o, rfl, fun i hi' => ?_⟩
    have hxi := hx i l[i] (List.getElem?_eq_getElem hi')
    have c0 := hxi 0 _ rfl
    have c1 := hxi 1 _ rfl
    have c2 := hxi 2 _ rfl
    have c3 := hxi 3 _ rfl
    simp only [add_row, ← Nat.add_assoc, Nat.add_zero] at c0 c1 c2 c3
    exact ⟨c0, c1, c2, c3⟩

/-- A slice, and the row that it holds. -/
structure SlOf where
  s : Sl
  l : List Ev
theorem lv_of_trod {r : Reach} {b0 : Nat} {v : Value} {d : DataW H} {p : List MemPlace} (hv : Value.okWide Try.prog W r b0 24 v) (h : DataW.Trod enc Try.prog W base spare held 24 v d p) :
    ∃ (a : Option Addr) (m : List (List Ev)) (cap : Nat), v = .slice a m.length cap ∧ LvAt W a m ∧ m.length ≤ maxLen := by
  obtain ⟨a, len, cap, rfl⟩ := okWide_slice Try.underlying24 hv
  obtain ⟨fuel, hf⟩ := h
  rcases open_slice Try.underlying24 hf with ⟨e, _⟩ | ⟨a', len', cap', m, n, D, Pl, e, _, hl, hm, hmm, _, hi⟩
  · simp [Value.cells] at e
    obtain ⟨rfl, rfl, rfl⟩ := e
    exact ⟨none, [], 0, rfl, ⟨[], rfl, rowAt_nil _ _ _ _, fun i hi => absurd hi (by simp)⟩, by simp [maxLen]⟩
  · simp [Value.cells] at e
    obtain ⟨rfl, rfl, rfl⟩ := e
    have e1 : Try.prog.cellsOf 22 = 1 := by kernel_rfl
    have hlm : len ≤ m := by rw [hmm]; split <;> omega
    obtain ⟨xs, hll, hx⟩ := exists_list len (fun i (y : SlOf) => W.cell? (a'.add i) = some (.slice y.s.a y.s.n y.s.c) ∧ y.s.n = y.l.length ∧ EvsAt W y.s.a y.l ∧ (y.s.a = none → y.s.c = 0) ∧ y.s.n ≤ y.s.c) (fun i hi' => by
      obtain ⟨cs', hc, ht⟩ := hi i (by omega)
      rw [e1] at hc
      obtain ⟨c, l, ccap, rfl, h1, h2, h3⟩ := evsCells_of_trod ht
      obtain ⟨_, _, hat⟩ := World.cells?_some hc
      have := hat 0 (by omega)
      rw [add_add] at this
      exact ⟨⟨⟨c, l.length, ccap⟩, l⟩, by simpa using this, rfl, h1, h2, h3⟩)
    have hml : (xs.map SlOf.l).length = len := by simp [hll]
    refine ⟨some a', xs.map SlOf.l, cap, by rw [hml], ⟨xs.map SlOf.s, by simp, ⟨by simp; omega, fun hne => ?_⟩, fun i hi' => ?_⟩, by omega⟩
    · have hpos : 0 < xs.length := by
        cases xs with
        | nil => simp at hne
        | cons _ _ => simp
      have h0 := (hx 0 xs[0] (List.getElem?_eq_getElem hpos)).1
      have hsp := World.cell?_spot h0
      have hsp' : a'.spot = none := by simpa [Addr.add] using hsp
      obtain ⟨b, o, s⟩ := a'
      subst hsp'
      refine ⟨b, o, rfl, fun i hi' j u hu => ?_⟩
      have hi2 : i < xs.length := by simpa using hi'
      have h1 := (hx i xs[i] (List.getElem?_eq_getElem hi2)).1
      rw [add_row] at h1
      simp only [List.getElem_map, slCell] at hu
      match j with
      | 0 => simp at hu; subst hu; simpa using h1
      | j + 1 => simp at hu
    · have hi2 : i < xs.length := by simpa using hi'
      obtain ⟨_, h2, h3, h4, h5⟩ := hx i xs[i] (List.getElem?_eq_getElem hi2)
      have e2 : (xs.map SlOf.l).getD i [] = xs[i].l := by simp [List.getD, List.getElem?_map, List.getElem?_eq_getElem hi2]
      rw [List.getElem_map, e2]
      exact ⟨h2, h3, h4, h5⟩
end
end Go.Proofs.Ytljlaopjimkcmaa
