/- A queue in memory: a box with two rows of pointers, and the items, each with its text and its places. -/
import Derived.Test.YtoaejkfejdaiaaaQuPlain
import Derived.Test.YtoaejkfejdaiaaaCells
import Derived.Test.YtoaejkfejdaiaaaGen
namespace Go.Proofs.Ytoaejkfejdaiaaa
open Go.RowKit

/-- Of a side's order: which block's text is nearer to its top. -/
def ltQ (pre : Nat → Txt) (s : Nat) (x y : Nat) : Bool := if s = 1 then aheadT (pre y) (pre x) else aheadT (pre x) (pre y)
theorem ltQ_ord (pre : Nat → Txt) (s : Nat) : Ahd (ltQ pre s) := by
  unfold ltQ
  by_cases h : s = 1
  · simp only [h, if_true]
    exact ⟨fun a b h => aheadT_ord.asym _ _ h, fun a b c h1 h2 => aheadT_ord.trans _ _ _ h2 h1⟩
  · simp only [h, if_false]
    exact ⟨fun a b h => aheadT_ord.asym _ _ h, fun a b c h1 h2 => aheadT_ord.trans _ _ _ h1 h2⟩

def itCell (g : Nat) : List Value := [.pointer (some ⟨g, 0, none⟩)]
theorem itCell_len (g : Nat) : (itCell g).length = 1 := rfl
theorem itCell_one (g : Nat) : ∀ v ∈ itCell g, v.oneCell' = true := by
  intro v hv
  simp [itCell] at hv
  subst hv
  rfl
theorem itCells (l : List Nat) : cellsL itCell l = l.map fun g => Value.pointer (some ⟨g, 0, none⟩) := by
  induction l with
  | nil => rfl
  | cons a l ih => show itCell a ++ cellsL itCell l = _; rw [ih]; rfl
/-- An item's cells. -/
def itA (pre : Nat → Txt) (pl : Nat → Nat → Int) (x : Nat) : Array Value := #[.string ⟨(pre x).toArray⟩, .int .i64 (pl 0 x), .int .i64 (pl 1 x)]
/-- A queue in memory: its box, its rows, the items that were ever in it. -/
structure QR (w : World) (B b : Nat) (pre : Nat → Txt) (ids : List Nat) (vs : Nat → Value) (pl : Nat → Nat → Int) (ls : Nat → List Nat) : Prop where
  low : B ≤ w.heap.size
  lowb : B ≤ b
  box : w.heap[b]? = some (.cells #[vs 0, vs 1] 60 (0, 0))
  row : ∀ s, s < 2 → OwnRow w B 69 1 itCell (vs s) (ls s)
  len : ∀ s, s < 2 → (ls s).length ≤ 100000
  apart : ∀ x, (vs 0).ownBlock = some x → (vs 1).ownBlock = some x → False
  item : ∀ x ∈ ids, B ≤ x ∧ w.heap[x]? = some (.cells (itA pre pl x) 72 (0, 0))
  sub : ∀ s, s < 2 → ∀ x ∈ ls s, x ∈ ids
/-- Its blocks. -/
def QS (b : Nat) (ids : List Nat) (vs : Nat → Value) (x : Nat) : Prop := x = b ∨ (vs 0).ownBlock = some x ∨ (vs 1).ownBlock = some x ∨ x ∈ ids
section
variable {w w' : World} {B b : Nat} {pre : Nat → Txt} {ids : List Nat} {vs : Nat → Value} {pl : Nat → Nat → Int} {ls : Nat → List Nat}
theorem two {s : Nat} (h : s < 2) : s = 0 ∨ s = 1 := by omega
theorem QS.own {s : Nat} (hs : s < 2) {x : Nat} (h : (vs s).ownBlock = some x) : QS b ids vs x := by
  rcases two hs with rfl | rfl
  · exact .inr (.inl h)
  · exact .inr (.inr (.inl h))
theorem QR.kinds (q : QR w B b pre ids vs pl ls) {x : Nat} (hx : QS b ids vs x) : B ≤ x ∧ ∃ c ty, w.heap[x]? = some (.cells c ty (0, 0)) ∧ (ty = 60 ∨ ty = 69 ∨ ty = 72) := by
  rcases hx with rfl | hx | hx | hx
  · exact ⟨q.lowb, _, _, q.box, .inl rfl⟩
  · obtain ⟨h1, c, h2⟩ := (q.row 0 (by omega)).kindQ hx
    exact ⟨h1, c, _, h2, .inr (.inl rfl)⟩
  · obtain ⟨h1, c, h2⟩ := (q.row 1 (by omega)).kindQ hx
    exact ⟨h1, c, _, h2, .inr (.inl rfl)⟩
  · obtain ⟨h1, h2⟩ := q.item x hx
    exact ⟨h1, _, _, h2, .inr (.inr rfl)⟩
theorem QR.lt (q : QR w B b pre ids vs pl ls) {x : Nat} (hx : QS b ids vs x) : x < w.heap.size := by
  obtain ⟨_, c, ty, h, _⟩ := q.kinds hx
  exact (Array.getElem?_eq_some_iff.1 h).1
theorem QR.keep (q : QR w B b pre ids vs pl ls) (hz : B ≤ w'.heap.size) (hk : ∀ x, QS b ids vs x → w'.heap[x]? = w.heap[x]?) : QR w' B b pre ids vs pl ls :=
  ⟨hz, q.lowb, (hk _ (.inl rfl)).trans q.box, fun s hs => (q.row s hs).keepQ fun g hg => hk g (.own hs hg), q.len, q.apart, fun x hx => ⟨(q.item x hx).1, (hk x (.inr (.inr (.inr hx)))).trans (q.item x hx).2⟩, q.sub⟩
theorem QR.later (q : QR w B b pre ids vs pl ls) (hb : Below w.heap.size w w') : QR w' B b pre ids vs pl ls :=
  q.keep (Nat.le_trans q.low hb.size) fun x hx => hb.block x (q.lt hx)
theorem QR.drew (q : QR w B b pre ids vs pl ls) : QR w.drew B b pre ids vs pl ls := q.keep q.low fun _ _ => rfl
theorem QR.onlyS {S : Nat → Prop} (q : QR w B b pre ids vs pl ls) (ho : OnlyS S w w') (hS : ∀ x, QS b ids vs x → ¬ S x) : QR w' B b pre ids vs pl ls :=
  q.keep (Nat.le_trans q.low ho.size) fun x hx => ho.block x (q.lt hx) (hS x hx)
theorem QR.cellB (q : QR w B b pre ids vs pl ls) {s : Nat} (hs : s < 2) : w.cell? ⟨b, s, none⟩ = some (vs s) := by
  rw [cell_of_row w b s _ _ _ q.box]
  rcases two hs with rfl | rfl <;> rfl
theorem QR.cellI (q : QR w B b pre ids vs pl ls) {x : Nat} (hx : x ∈ ids) : w.cell? ⟨x, 0, none⟩ = some (.string ⟨(pre x).toArray⟩) ∧ ∀ s, s < 2 → w.cell? ⟨x, 1 + s, none⟩ = some (.int .i64 (pl s x)) :=
  ⟨by rw [cell_of_row w x 0 _ _ _ (q.item x hx).2]; rfl, fun s hs => by rw [cell_of_row w x _ _ _ _ (q.item x hx).2]; rcases two hs with rfl | rfl <;> rfl⟩
/-- A row that isn't empty: where it lies, and what its cells hold. -/
theorem QR.cellR (q : QR w B b pre ids vs pl ls) {s : Nat} (hs : s < 2) (hn : ls s ≠ []) : ∃ g cap, vs s = .slice (some ⟨g, 0, none⟩) (ls s).length cap ∧ (vs s).ownBlock = some g ∧ g < w.heap.size ∧ w.frozen? ⟨g, 0, none⟩ = false ∧ (∀ j, w.frozen? ⟨g, j, none⟩ = false) ∧ ∀ j, j < (ls s).length → w.cell? ⟨g, j, none⟩ = some (.pointer (some ⟨(ls s).getD j 0, 0, none⟩)) := by
  obtain ⟨h1, ⟨h2, h3⟩ | ⟨g, cap, cur, h2, h3, h4, h5, h6, h7, h8⟩⟩ := q.row s hs
  · exact absurd (List.eq_nil_of_length_eq_zero h3) hn
  · refine ⟨g, cap, h2, by rw [h2]; rfl, (Array.getElem?_eq_some_iff.1 h4).1, by simp [World.frozen?, h4], fun j => by simp [World.frozen?, h4], fun j hj => ?_⟩
    rw [cell_of_row w g j _ _ _ h4]
    rw [itCells, Nat.mul_one] at h8
    have : (cur.toList.take (ls s).length)[j]? = some (.pointer (some ⟨(ls s).getD j 0, 0, none⟩)) := by
      rw [h8]; simp [List.getD, hj]
    rw [List.getElem?_take_of_lt hj] at this
    simpa using this
/-- A row's place is stored into. -/
theorem QR.storeR (q : QR w B b pre ids vs pl ls) {s : Nat} (hs : s < 2) {i x g : Nat} (hi : i < (ls s).length) (hx : x ∈ ids) (hg : (vs s).ownBlock = some g) : QR (w.setCell ⟨g, i, none⟩ (.pointer (some ⟨x, 0, none⟩))) B b pre ids vs pl (updF ls s ((ls s).set i x)) ∧ OnlyS (QS b ids vs) w (w.setCell ⟨g, i, none⟩ (.pointer (some ⟨x, 0, none⟩))) := by
  have hS : QS b ids vs g := .own hs hg
  have hrow := q.row s hs
  obtain ⟨hgB, c, hc⟩ := hrow.kindQ hg
  have hne : ∀ y, y ≠ g → (w.setCell ⟨g, i, none⟩ (.pointer (some ⟨x, 0, none⟩))).heap[y]? = w.heap[y]? := fun y hy => Below.heap_setCell _ _ _ _ hy
  refine ⟨⟨by rw [World.size_setCell]; exact q.low, q.lowb, (hne _ ?_).trans q.box, fun t ht => ?_, fun t ht => ?_, q.apart, fun y hy => ⟨(q.item y hy).1, (hne y ?_).trans (q.item y hy).2⟩, fun t ht y hy => ?_⟩, (OnlyS.refl _ _).setCell (p := ⟨g, i, none⟩) hS _⟩
  · rintro rfl
    have := q.box
    rw [hc] at this; injection this with this; injection this with _ this; exact absurd this (by decide)
  · by_cases e : t = s
    · subst e
      rw [updF_same]
      obtain ⟨h1, ⟨h2, h3⟩ | ⟨g', cap, cur, h2, h3, h4, h5, h6, h7, h8⟩⟩ := hrow
      · rw [h2] at hg; simp [Value.ownBlock] at hg
      · rw [h2] at hg; simp [Value.ownBlock] at hg; subst hg
        refine ⟨by rw [cellsL_length itCell_len], .inr ⟨g', cap, cur.setIfInBounds i (.pointer (some ⟨x, 0, none⟩)), by rw [List.length_set]; exact h2, h3, ?_, by rw [List.length_set]; exact h5, h6, by simp [h7], ?_⟩⟩
        · rw [heap_setCell_same w g' i _ _ _ h4]
        · rw [itCells] at h8 ⊢
          rw [List.length_set, List.map_set, ← h8, Nat.mul_one, Array.toList_setIfInBounds, List.take_set]
    · rw [updF_ne _ _ e]
      refine (q.row t ht).keepQ fun y hy => hne y ?_
      rintro rfl
      rcases two hs with rfl | rfl <;> rcases two ht with rfl | rfl
      · exact e rfl
      · exact q.apart y hg hy
      · exact q.apart y hy hg
      · exact e rfl
  · by_cases e : t = s
    · subst e; rw [updF_same, List.length_set]; exact q.len t ht
    · rw [updF_ne _ _ e]; exact q.len t ht
  · rintro rfl
    have := (q.item y hy).2
    rw [hc] at this; injection this with this; injection this with _ this; exact absurd this (by decide)
  · by_cases e : t = s
    · subst e
      rw [updF_same] at hy
      rcases List.mem_or_eq_of_mem_set hy with h1 | rfl
      · exact q.sub t ht y h1
      · exact hx
    · rw [updF_ne _ _ e] at hy
      exact q.sub t ht y hy
/-- An item's place is stored. -/
def plPut (pl : Nat → Nat → Int) (s x : Nat) (v : Int) : Nat → Nat → Int := updF pl s (updF (pl s) x v)
theorem QR.storeP (q : QR w B b pre ids vs pl ls) {s : Nat} (hs : s < 2) {x : Nat} (hx : x ∈ ids) (v : Int) : QR (w.setCell ⟨x, 1 + s, none⟩ (.int .i64 v)) B b pre ids vs (plPut pl s x v) ls ∧ OnlyS (QS b ids vs) w (w.setCell ⟨x, 1 + s, none⟩ (.int .i64 v)) ∧ w.frozen? ⟨x, 1 + s, none⟩ = false := by
  have hxc := (q.item x hx).2
  have hne : ∀ y, y ≠ x → (w.setCell ⟨x, 1 + s, none⟩ (.int .i64 v)).heap[y]? = w.heap[y]? := fun y hy => Below.heap_setCell _ _ _ _ hy
  refine ⟨⟨by rw [World.size_setCell]; exact q.low, q.lowb, (hne _ ?_).trans q.box, fun t ht => (q.row t ht).keepQ fun y hy => hne y ?_, q.len, q.apart, fun y hy => ⟨(q.item y hy).1, ?_⟩, q.sub⟩, (OnlyS.refl _ _).setCell (p := ⟨x, 1 + s, none⟩) (.inr (.inr (.inr hx))) _, by simp [World.frozen?, hxc]⟩
  · rintro rfl
    have := q.box
    rw [hxc] at this; injection this with this; injection this with _ this; exact absurd this (by decide)
  · rintro rfl
    obtain ⟨_, c, hc⟩ := (q.row t ht).kindQ hy
    rw [hxc] at hc; injection hc with hc; injection hc with _ hc; exact absurd hc (by decide)
  · by_cases e : y = x
    · subst e
      rw [heap_setCell_same w y (1 + s) _ _ _ hxc]
      rcases two hs with rfl | rfl <;> simp [itA, plPut, updF]
    · rw [hne y e, (q.item y hy).2]
      rcases two hs with rfl | rfl <;> simp [itA, plPut, updF, e]
end

end Go.Proofs.Ytoaejkfejdaiaaa
