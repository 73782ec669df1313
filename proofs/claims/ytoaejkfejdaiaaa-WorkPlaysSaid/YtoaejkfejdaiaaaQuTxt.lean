/- A slice of texts, wherever in a row it begins. No function of the program. -/
import Derived.Test.YtoaejkfejdaiaaaQuPut
namespace Go.Proofs.Ytoaejkfejdaiaaa
open Go.RowKit

/-- A slice of texts, wherever in a row of the call's own it begins. -/
structure TxtV (w : World) (B : Nat) (v : Value) (l : List Txt) : Prop where
  form : ∃ a cap, v = .slice a l.length cap ∧ l.length ≤ cap ∧ (l ≠ [] → ∃ g o c, a = some ⟨g, o, none⟩ ∧ B ≤ g ∧ w.heap[g]? = some (.cells c 9 (0, 0)) ∧ ∀ i (h : i < l.length), c[o + i]? = some (.string ⟨l[i].toArray⟩))
theorem txtV_nil (w : World) (B : Nat) : TxtV w B (.slice none 0 0) [] := ⟨⟨none, 0, rfl, Nat.le_refl _, fun h => absurd rfl h⟩⟩
theorem TxtV.keep {w w' : World} {B : Nat} {v : Value} {l : List Txt} (t : TxtV w B v l) (h : ∀ (g : Nat) (c : Array Value), w.heap[g]? = some (.cells c 9 (0, 0)) → w'.heap[g]? = w.heap[g]?) : TxtV w' B v l := by
  obtain ⟨a, cap, e, hc, hr⟩ := t.form
  refine ⟨a, cap, e, hc, fun hn => ?_⟩
  obtain ⟨g, o, c, e1, e2, e3, e4⟩ := hr hn
  exact ⟨g, o, c, e1, e2, (h g c e3).trans e3, e4⟩
theorem TxtV.later {w w' : World} {B : Nat} {v : Value} {l : List Txt} (t : TxtV w B v l) (hb : Below w.heap.size w w') : TxtV w' B v l := t.keep fun g _ h => hb.block g (Array.getElem?_eq_some_iff.1 h).1
theorem txts_ch (l : List Txt) : cellsL txtCell l = l.map fun k => Value.string ⟨k.toArray⟩ := by
  induction l with
  | nil => rfl
  | cons a l ih => show txtCell a ++ cellsL txtCell l = _; rw [ih]; rfl
theorem txtV_own {w : World} {B : Nat} {v : Value} {l : List Txt} (h : OwnRow w B 9 1 txtCell v l) : TxtV w B v l := by
  obtain ⟨h1, ⟨rfl, h3⟩ | ⟨g, cap, cur, h2, h3, h4, h5, h6, h7, h8⟩⟩ := h
  · have e : l = [] := List.eq_nil_of_length_eq_zero h3
    subst e
    exact txtV_nil _ _
  · refine ⟨_, cap, h2, h5, fun _ => ⟨g, 0, cur, rfl, h3, h4, fun i hi => ?_⟩⟩
    rw [txts_ch, Nat.mul_one] at h8
    have : (cur.toList.take l.length)[i]? = some (.string ⟨l[i].toArray⟩) := by
      rw [h8]; simp [hi]
    rw [List.getElem?_take_of_lt hi] at this
    rw [Nat.zero_add]
    simpa using this
theorem TxtV.row {w : World} {B : Nat} {a : Option Addr} {cap n : Nat} {l : List Txt} (t : TxtV w B (.slice a n cap) l) (hl : l.length ≤ 1000) : RowAt w a 1 txtCell l := by
  obtain ⟨a', cap', e, hc, hr⟩ := t.form
  injection e with e1 e2 e3
  subst e1 e3
  refine ⟨by unfold maxLen; omega, fun hn => ?_⟩
  obtain ⟨g, o, c, e1, e2, e3, e4⟩ := hr hn
  refine ⟨g, o, e1, fun i hi j u hu => ?_⟩
  have hj : j < 1 := (List.getElem?_eq_some_iff.1 hu).1
  obtain rfl : j = 0 := by omega
  simp [txtCell] at hu
  subst hu
  rw [cell_of_row w g _ _ _ _ e3, Nat.mul_one, Nat.add_zero]
  exact e4 i hi
theorem TxtV.low {w : World} {B C : Nat} {v : Value} {l : List Txt} (t : TxtV w B v l) (h : C ≤ B) : TxtV w C v l := by
  obtain ⟨a, cap, e, hc, hr⟩ := t.form
  refine ⟨a, cap, e, hc, fun hn => ?_⟩
  obtain ⟨g, o, c, e1, e2, e3, e4⟩ := hr hn
  exact ⟨g, o, c, e1, Nat.le_trans h e2, e3, e4⟩
/-- The list without its first. -/
theorem TxtV.tail {w : World} {B g o m cap : Nat} {k : Txt} {l : List Txt} (t : TxtV w B (.slice (some ⟨g, o, none⟩) (m + 1) cap) (k :: l)) : TxtV w B (.slice (some ⟨g, o + 1, none⟩) m (cap - 1)) l := by
  obtain ⟨a, cap', e, hc, hr⟩ := t.form
  injection e with e1 e2 e3
  subst e1 e3
  have e2 : m = l.length := by simpa using e2
  have hc : l.length + 1 ≤ cap := hc
  subst e2
  refine ⟨_, _, rfl, by omega, fun hn => ?_⟩
  obtain ⟨g', o', c, e1, e2, e3, e4⟩ := hr (by simp)
  injection e1 with e1
  injection e1 with e5 e6
  subst e5 e6
  refine ⟨g, o + 1, c, rfl, e2, e3, fun i hi => ?_⟩
  have := e4 (i + 1) (by simp; omega)
  rw [show o + 1 + i = o + (i + 1) by omega]
  simpa using this
theorem TxtV.one {w : World} {B g o m cap : Nat} {k : Txt} {l : List Txt} (t : TxtV w B (.slice (some ⟨g, o, none⟩) (m + 1) cap) (k :: l)) (h : cap = 1) : TxtV w B (.slice (some ⟨g, o, none⟩) m 0) l := by
  obtain ⟨a, cap', e, hc, hr⟩ := t.form
  injection e with e1 e2 e3
  subst e1 e3
  have e2 : m = l.length := by simpa using e2
  have hc : l.length + 1 ≤ cap := hc
  have hl : l = [] := List.eq_nil_of_length_eq_zero (by omega)
  subst hl e2
  exact ⟨_, 0, rfl, Nat.le_refl _, fun h => absurd rfl h⟩
/-- The list without its last. -/
theorem TxtV.init {w : World} {B g o m cap : Nat} {k : Txt} {l : List Txt} (t : TxtV w B (.slice (some ⟨g, o, none⟩) (m + 1) cap) (l ++ [k])) : TxtV w B (.slice (some ⟨g, o, none⟩) m cap) l := by
  obtain ⟨a, cap', e, hc, hr⟩ := t.form
  injection e with e1 e2 e3
  subst e1 e3
  have e2 : m = l.length := by simpa using e2
  have hc : l.length + 1 ≤ cap := by simpa using hc
  subst e2
  refine ⟨_, _, rfl, by omega, fun hn => ?_⟩
  obtain ⟨g', o', c, e1, e2, e3, e4⟩ := hr (by simp)
  injection e1 with e1
  injection e1 with e5 e6
  subst e5 e6
  refine ⟨g, o, c, rfl, e2, e3, fun i hi => ?_⟩
  have := e4 i (by simp; omega)
  rw [List.getElem_append_left hi] at this
  exact this
end Go.Proofs.Ytoaejkfejdaiaaa
