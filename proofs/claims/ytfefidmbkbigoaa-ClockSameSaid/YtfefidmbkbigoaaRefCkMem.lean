/- What the document's Clocks holds while it counts. -/
import Derived.Test.YtfefidmbkbigoaaOrder
import Derived.Test.YtfefidmbkbigoaaBefore
namespace Go.Proofs.Ytfefidmbkbigoaa
open Go.RowKit

theorem OwnRow.otherB {T : Type} {w w' : World} {B g : Nat} {t : TypeId} {n : Nat} {f : T → List Value} {v : Value} {l : List T} (h : OwnRow w B t n f v l) (hne : v.ownBlock ≠ some g) (ho : Only g w w') : OwnRow w' B t n f v l := by
  obtain ⟨h1, ⟨h2, h3⟩ | ⟨g', cap', cur, h2, h3, h4, h5⟩⟩ := h
  · exact ⟨h1, .inl ⟨h2, h3⟩⟩
  · refine ⟨h1, .inr ⟨g', cap', cur, h2, h3, (ho.block g' (Array.getElem?_eq_some_iff.1 h4).1 ?_).trans h4, h5⟩⟩
    rintro rfl
    apply hne
    rw [h2]
    rfl
theorem OwnRow.neNew {T : Type} {w : World} {B : Nat} {t : TypeId} {n : Nat} {f : T → List Value} {v : Value} {l : List T} (h : OwnRow w B t n f v l) : v.ownBlock ≠ some w.heap.size := by
  intro e
  have := (World.ownsRow.lt h _ e).2
  omega

/-- A clock, of the first i places. -/
def clkP (l : List Ev) (k i : Nat) (t : Nat) : Nat := cnt (fun j => hb l j k && isT l t j) i
theorem clkP_zero (l : List Ev) (k t : Nat) : clkP l k 0 t = 0 := rfl
theorem clkP_all (l : List Ev) (k t : Nat) : clkP l k (k + 1) t = clk l k t := rfl
theorem clkP_skip {l : List Ev} {k i : Nat} (h : hb l i k = false) (t : Nat) : clkP l k (i + 1) t = clkP l k i t := by
  unfold clkP
  rw [cnt_succ, h]
  rfl
theorem clkP_add {l : List Ev} {k i th : Nat} (h : hb l i k = true) (hth : (evI l i).thread = th) (t : Nat) : clkP l k (i + 1) t = if t = th then clkP l k i th + 1 else clkP l k i t := by
  unfold clkP
  rw [cnt_succ, h, Bool.true_and]
  simp only [isT_iff, hth]
  by_cases e : t = th
  · subst e
    simp
  · rw [if_neg e, if_neg (by omega)]
    rfl
theorem clkP_bd (l : List Ev) (k i t : Nat) : clkP l k i t ≤ i := cnt_le_k _ _
/-- The first k clocks. -/
def firstC (l : List Ev) (k : Nat) : List (Nat → Nat) := (List.range k).map fun (i t : Nat) => clk l i t
theorem firstC_len (l : List Ev) (k : Nat) : (firstC l k).length = k := by simp [firstC]
theorem firstC_succ (l : List Ev) (k : Nat) : firstC l (k + 1) = firstC l k ++ [fun t : Nat => clk l k t] := by simp [firstC, List.range_succ]
theorem firstC_all {l : List Ev} (h : rightL l = true) : firstC l l.length = cks l := (cks_right h).symm
theorem infoC4 : (Try.prog.info? 34).map (fun i => (i.zero, i.size, i.bytes)) = some (some (.agg #[.int .i64 0, .int .i64 0, .int .i64 0, .int .i64 0]), 4, 32) := by kernel_rfl

/-- What Clocks holds while it counts. -/
def RefCk (W1 : World) (l : List Ev) (k gc : Nat) (v : Value) (c : Nat → Nat) (w' : World) : Prop :=
  MidAt w' gc 34 (ckCell c) ∧ OwnRow w' W1.heap.size 34 4 ckCell v (firstC l k) ∧ Below W1.heap.size W1 w'
theorem RefCk.add {W1 w1 : World} {l : List Ev} {k gc : Nat} {v : Value} {c d : Nat → Nat} (h : RefCk W1 l k gc v c w1) (hg : W1.heap.size ≤ gc) (hv : v.ownBlock ≠ some gc) {t : Nat} (ht : t < 4) (n : Nat) (hd : ∀ j, d j = if j = t then n else c j) :
    RefCk W1 l k gc v d (w1.setCell ⟨gc, t, none⟩ (.int .i64 (n : Int))) := by
  refine ⟨?_, h.2.1.otherB hv ((Only.refl _ _).setCell _ _), h.2.2.setCell (p := ⟨gc, t, none⟩) hg _⟩
  have h1 := h.1.set t (.int .i64 (n : Int))
  unfold ckCell at *
  rw [nums4_set _ _ ht] at h1
  rw [nums4_congr (d := fun t => (d t : Int)) (fun j _ => by rw [hd j]; split <;> rfl)] at h1
  exact h1
theorem RefCk.congr {W1 w1 : World} {l : List Ev} {k gc : Nat} {v : Value} {c d : Nat → Nat} (h : RefCk W1 l k gc v c w1) (hd : ∀ j, d j = c j) : RefCk W1 l k gc v d w1 := by
  rw [show d = c from funext hd]
  exact h

end Go.Proofs.Ytfefidmbkbigoaa
