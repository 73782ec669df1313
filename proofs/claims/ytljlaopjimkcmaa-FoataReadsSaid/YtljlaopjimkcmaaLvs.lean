/- Levels in memory: a row of rows of events. -/
import Derived.Test.YtljlaopjimkcmaaLay
namespace Go.Proofs.Ytljlaopjimkcmaa
open Go.RowKit

/-- A slice. -/
structure Sl where
  a : Option Addr
  n : Nat
  c : Nat
instance : Inhabited Sl := ⟨⟨none, 0, 0⟩⟩
def slV (s : Sl) : Value := .slice s.a s.n s.c
def slCell (s : Sl) : List Value := [.slice s.a s.n s.c]
theorem slCell_len (s : Sl) : (slCell s).length = 1 := rfl
theorem slCell_one (s : Sl) : ∀ v ∈ slCell s, v.oneCell' = true := by
  intro v hv
  simp [slCell] at hv
  subst hv
  rfl

/-- Levels to be read. -/
def LvAt (w : World) (a : Option Addr) (m : List (List Ev)) : Prop :=
  ∃ ss : List Sl, ss.length = m.length ∧ RowAt w a 1 slCell ss ∧ ∀ i (h : i < ss.length), ss[i].n = (m.getD i []).length ∧ EvsAt w ss[i].a (m.getD i []) ∧ (ss[i].a = none → ss[i].c = 0) ∧ ss[i].n ≤ ss[i].c
theorem LvAt.later {w w' : World} {a : Option Addr} {m : List (List Ev)} (h : LvAt w a m) (hb : Below w.heap.size w w') : LvAt w' a m := by
  obtain ⟨ss, h1, h2, h3⟩ := h
  exact ⟨ss, h1, h2.later hb, fun i hi => ⟨(h3 i hi).1, (h3 i hi).2.1.later hb, (h3 i hi).2.2⟩⟩

/-- Levels of one's own. -/
structure OwnLv (w : World) (B : Nat) (v : Value) (ss : List Sl) (m : List (List Ev)) : Prop where
  len : ss.length = m.length
  outer : OwnRow w B 22 1 slCell v ss
  inner : ∀ i (h : i < ss.length), OwnE w B (slV ss[i]) (m.getD i [])
  apart : ∀ i j (hi : i < ss.length) (hj : j < ss.length), i ≠ j → (slV ss[i]).ownBlock = none ∨ (slV ss[i]).ownBlock ≠ (slV ss[j]).ownBlock
theorem OwnLv.later {w w' : World} {B : Nat} {v : Value} {ss : List Sl} {m : List (List Ev)} (h : OwnLv w B v ss m) (hb : Below w.heap.size w w') : OwnLv w' B v ss m :=
  ⟨h.len, h.outer.later hb, fun i hi => (h.inner i hi).later hb, h.apart⟩
theorem ownLv_nil (w : World) (B : Nat) : OwnLv w B (.slice none 0 0) [] [] := ⟨rfl, ownRow_nil _ _ _ _ _, fun i hi => absurd hi (by simp), fun i _ hi => absurd hi (by simp)⟩
theorem OwnE.sl {w : World} {B : Nat} {s : Sl} {es : List Ev} (h : OwnE w B (slV s) es) (hm : es.length ≤ 1000000) : s.n = es.length ∧ EvsAt w s.a es ∧ (s.a = none → s.c = 0) ∧ s.n ≤ s.c := by
  have h0 := h
  obtain ⟨a, cap, e, he⟩ := OwnE.form h hm
  unfold slV at e
  injection e with e1 e2 e3
  refine ⟨e2, by rw [e1]; exact he, fun hn => ?_, ?_⟩
  · obtain ⟨_, ⟨h2, _⟩ | ⟨g, cap', cur, h2, _⟩⟩ := h0
    · unfold slV at h2
      injection h2
    · unfold slV at h2
      injection h2 with h2
      rw [hn] at h2
      cases h2
  · obtain ⟨_, ⟨h2, _⟩ | ⟨g, cap', cur, h2, _, _, h5, _⟩⟩ := h0
    · unfold slV at h2
      injection h2 with _ h3 h4
      omega
    · unfold slV at h2
      injection h2 with _ h3 h4
      omega
theorem OwnLv.form {w : World} {B : Nat} {v : Value} {ss : List Sl} {m : List (List Ev)} (h : OwnLv w B v ss m) (hm : m.length ≤ 1000) (hi : ∀ i, i < m.length → (m.getD i []).length ≤ 1000) :
    ∃ a cap, v = .slice a m.length cap ∧ LvAt w a m ∧ (a = none → cap = 0) := by
  obtain ⟨a, cap, h1, h2, h3⟩ := OwnRow.form h.outer slCell_len (by rw [h.len]; omega)
  rw [h.len] at h1
  refine ⟨a, cap, h1, ⟨ss, h.len, h2, fun i hi' => ?_⟩, h3⟩
  exact OwnE.sl (h.inner i hi') (by have := hi i (by rw [← h.len]; exact hi'); omega)

end Go.Proofs.Ytljlaopjimkcmaa
