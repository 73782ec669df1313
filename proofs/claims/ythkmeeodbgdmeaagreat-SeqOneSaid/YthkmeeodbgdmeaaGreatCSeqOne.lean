/-
  SeqOne: of a program of one thread there is one run, and a node for each of its steps, and one: the law answers true, and its arguments read as they did.
  For every input, whatever its size and however its parts share memory; nothing is asked of it but what the statement's own form asks.
-/
import Derived.WalkKit
import Derived.ProofKit
import Derived.OpenShut
import Derived.Test.YthkmeeodbgdmeaaGreatRows
import Derived.Test.YthkmeeodbgdmeaaGreatPk01
import Derived.Test.YthkmeeodbgdmeaaGreatPk05
import Derived.Test.YthkmeeodbgdmeaaGreatPk17
import Derived.Test.YthkmeeodbgdmeaaGreatPk22
import Derived.Test.YthkmeeodbgdmeaaGreatPk23

/- What the six laws call. -/
namespace Go.Proofs.YthkmeeodbgdmeaaGreat
open Go.RowKit

theorem bytes_none {w : World} {a : Option Addr} {ns : List Int} {cap : Nat} (h : BytesAt w a ns) (hn : a = none → cap = 0) : a = none → cap = 0 ∧ ns = [] := fun ha => ⟨hn ha, Classical.byContradiction fun hne => by
  obtain ⟨_, _, e, _⟩ := h.2 hne
  rw [ha] at e
  cases e⟩
theorem keys9_bound {p : Pg} {fuel : Int} {n : Nat} (h : preW p fuel ≤ n) : (sortK (keysOf (runsW p fuel))).length ≤ n ∧ (runsW p fuel).length ≤ n ∧ stuckN (runsW p fuel) ≤ n := by
  have h1 := sortK_len (keysOf (runsW p fuel))
  have h2 : (keysOf (runsW p fuel)).length = (runsW p fuel).length := List.length_map _
  have h3 : (runsW p fuel).length ≤ preW p fuel := runs_le 33 (s0 p fuel) []
  have h4 : stuckN (runsW p fuel) ≤ (runsW p fuel).length := by
    unfold stuckN
    exact Nat.le_trans (List.length_filter_le _ _) (Nat.le_refl _)
  omega
theorem ref9_yes (p : Pg) (a : Option Addr) (cap : Nat) (fuel : Int) (w : World) (hp : ThreadsAt w a p.threads) (hok : okPg p fuel) (hle : preW p fuel ≤ 600) : Calls Tryz.prog 11 #[.agg #[.int .i64 p.vars, .int .i64 p.mutexes, .slice a p.threads.length cap], .int .i64 fuel, .int .i64 600] w
    fun r w' => ∃ v c, r = .returned (.tuple #[.agg #[.slice v (sortK (keysOf (runsW p fuel))).length c, .int .i64 ((runsW p fuel).length : Nat), .int .i64 (preW p fuel : Nat), .int .i64 (stuckN (runsW p fuel) : Nat)], .int .i64 0]) ∧ RowAt w' v 1 strCell (sortK (keysOf (runsW p fuel))) ∧ Below w.heap.size w w' :=
  (refAll6_any p a cap fuel 600 w hp (by omega)).mono fun r w' ⟨h1, h2⟩ => by
    rw [if_pos hok] at h1
    rcases h1 with ⟨_, v, h3, h4⟩ | ⟨h3, _⟩
    · obtain ⟨av, cv, rfl, h5, _⟩ := OwnRow.form h4 strCell_len (by have := (keys9_bound hle).1; omega)
      exact ⟨av, cv, h3, h5, h2⟩
    · omega

/-- A sum's block. -/
def Sum9At (w : World) (b : Nat) (vs : Array Value) : Prop := w.heap[b]? = some (.cells vs 30 (0, 0))
theorem Sum9At.later {w w' : World} {b : Nat} {vs : Array Value} (h : Sum9At w b vs) (hb : Below w.heap.size w w') : Sum9At w' b vs := (hb.block b (Array.getElem?_eq_some_iff.1 h).1).trans h
theorem Sum9At.at_ {w : World} {b : Nat} {vs : Array Value} (h : Sum9At w b vs) (j : Nat) {v : Value} (hv : vs[j]? = some v) : w.cell? ⟨b, j, none⟩ = some v := by rw [cell_of_row w b j _ _ _ h, hv]
theorem step_world {P : Program} {o : Oper} {a : Act} {c E : Prop} {_ : Decidable c} {K : Act → World → Prop} {Q : Exit → Act → World → Prop} (w : World) (h : if c then Oper.wp P o a w K Q else E) : if c then Oper.wp P o a w K Q else E := h
theorem lit_a0 (w : World) : OwnRow (w.alloc (.cells #[] 5)) w.heap.size 5 1 byteCell (.slice (some ⟨w.heap.size, 0, none⟩) 0 0) [] := own_lit (Nat.le_refl _) (heap_alloc_new w _)
theorem lit_a (w : World) : OwnRow (w.alloc (.cells #[] 5)).drew w.heap.size 5 1 byteCell (.slice (some ⟨w.heap.size, 0, none⟩) 0 0) [] := lit_a0 w
theorem lit_b0 (w : World) : OwnRow ((w.alloc (.cells #[] 5)).alloc (.cells #[.slice none 0 0, .int .i64 0, .int .i64 0, .int .i64 0, .bool false] 34)) w.heap.size 5 1 byteCell (.slice (some ⟨w.heap.size, 0, none⟩) 0 0) [] :=
  own_lit (Nat.le_refl _) (((below_alloc1 (w.alloc (.cells #[] 5)) (.cells #[.slice none 0 0, .int .i64 0, .int .i64 0, .int .i64 0, .bool false] 34)).block w.heap.size (by simp)).trans (heap_alloc_new w _))
theorem lit_b (w : World) : OwnRow ((w.alloc (.cells #[] 5)).alloc (.cells #[.slice none 0 0, .int .i64 0, .int .i64 0, .int .i64 0, .bool false] 34)).drew w.heap.size 5 1 byteCell (.slice (some ⟨w.heap.size, 0, none⟩) 0 0) [] := lit_b0 w
theorem lit_c0 (w : World) : OwnRow ((w.alloc (.cells #[.slice none 0 0, .int .i64 0, .int .i64 0, .int .i64 0, .bool false] 34)).alloc (.cells #[] 5)) w.heap.size 5 1 byteCell (.slice (some ⟨w.heap.size + 1, 0, none⟩) 0 0) [] := by
  have := heap_alloc_new (w.alloc (.cells #[.slice none 0 0, .int .i64 0, .int .i64 0, .int .i64 0, .bool false] 34)) (.cells #[] 5)
  rw [World.size_alloc] at this
  exact own_lit (Nat.le_succ _) this
theorem rep_b0 (w : World) : RepAt ((w.alloc (.cells #[] 5)).alloc (.cells #[.slice none 0 0, .int .i64 0, .int .i64 0, .int .i64 0, .bool false] 34)) (w.heap.size + 1) #[.slice none 0 0, .int .i64 0, .int .i64 0, .int .i64 0, .bool false] := by
  have := heap_alloc_new (w.alloc (.cells #[] 5)) (.cells #[.slice none 0 0, .int .i64 0, .int .i64 0, .int .i64 0, .bool false] 34)
  rw [World.size_alloc] at this
  exact this
theorem rep_c0 (w : World) : RepAt ((w.alloc (.cells #[.slice none 0 0, .int .i64 0, .int .i64 0, .int .i64 0, .bool false] 34)).alloc (.cells #[] 5)) w.heap.size #[.slice none 0 0, .int .i64 0, .int .i64 0, .int .i64 0, .bool false] := ((below_alloc1 (w.alloc (.cells #[.slice none 0 0, .int .i64 0, .int .i64 0, .int .i64 0, .bool false] 34)) (.cells #[] 5)).block w.heap.size (by simp)).trans (heap_alloc_new w _)
theorem RepAt.grown {w w' : World} {g : Nat} {row : Option Nat} {vs : Array Value} (h : RepAt w g vs) (hg : w.grownBy w' row) (hne : some g ≠ row) : RepAt w' g vs := (hg.block g (Array.getElem?_eq_some_iff.1 h).1 hne).trans h
theorem lit_c (w : World) : OwnRow ((w.alloc (.cells #[.slice none 0 0, .int .i64 0, .int .i64 0, .int .i64 0, .bool false] 34)).alloc (.cells #[] 5)).drew w.heap.size 5 1 byteCell (.slice (some ⟨w.heap.size + 1, 0, none⟩) 0 0) [] := lit_c0 w
theorem rep_b (w : World) : RepAt ((w.alloc (.cells #[] 5)).alloc (.cells #[.slice none 0 0, .int .i64 0, .int .i64 0, .int .i64 0, .bool false] 34)).drew (w.heap.size + 1) #[.slice none 0 0, .int .i64 0, .int .i64 0, .int .i64 0, .bool false] := rep_b0 w
theorem rep_c (w : World) : RepAt ((w.alloc (.cells #[.slice none 0 0, .int .i64 0, .int .i64 0, .int .i64 0, .bool false] 34)).alloc (.cells #[] 5)).drew w.heap.size #[.slice none 0 0, .int .i64 0, .int .i64 0, .int .i64 0, .bool false] := rep_c0 w
theorem RepAt.lt {w : World} {g : Nat} {vs : Array Value} (h : RepAt w g vs) : g < w.heap.size := (Array.getElem?_eq_some_iff.1 h).1
theorem rep_b6 {w w6 : World} (h : ((w.alloc (.cells #[] 5)).alloc (.cells #[.slice none 0 0, .int .i64 0, .int .i64 0, .int .i64 0, .bool false] 34)).drew.grownBy w6 (Value.ownBlock (.slice (some ⟨w.heap.size, 0, none⟩) 0 0))) : RepAt w6 (w.heap.size + 1) #[.slice none 0 0, .int .i64 0, .int .i64 0, .int .i64 0, .bool false] := (rep_b w).grown h (by intro e; injection e with e; exact absurd e (Nat.succ_ne_self _))
theorem rep_c6 {w w6 : World} (h : ((w.alloc (.cells #[.slice none 0 0, .int .i64 0, .int .i64 0, .int .i64 0, .bool false] 34)).alloc (.cells #[] 5)).drew.grownBy w6 (Value.ownBlock (.slice (some ⟨w.heap.size + 1, 0, none⟩) 0 0))) : RepAt w6 w.heap.size #[.slice none 0 0, .int .i64 0, .int .i64 0, .int .i64 0, .bool false] := (rep_c w).grown h (by intro e; injection e with e; exact absurd e (Nat.succ_ne_self _).symm)
theorem RepAt.five {w : World} {g : Nat} {v0 v1 v2 v3 v4 : Value} (h : RepAt w g #[v0, v1, v2, v3, v4]) : (w.cell? ⟨g, 0, none⟩ = some v0 ∧ w.cell? ⟨g, 1, none⟩ = some v1 ∧ w.cell? ⟨g, 2, none⟩ = some v2 ∧ w.cell? ⟨g, 3, none⟩ = some v3 ∧ w.cell? ⟨g, 4, none⟩ = some v4) ∧ (∀ j, j < 5 → w.frozen? ⟨g, j, none⟩ = false) :=
  ⟨⟨h.at_ 0 rfl, h.at_ 1 rfl, h.at_ 2 rfl, h.at_ 3 rfl, h.at_ 4 rfl⟩, fun j _ => by unfold World.frozen?; dsimp only; rw [show w.heap[g]? = _ from h]; rfl⟩
abbrev setR5 (w : World) (g : Nat) (v0 v1 v2 v3 v4 : Value) : World := ((((w.setCell ⟨g, 0, none⟩ v0).setCell ⟨g, 1, none⟩ v1).setCell ⟨g, 2, none⟩ v2).setCell ⟨g, 3, none⟩ v3).setCell ⟨g, 4, none⟩ v4
theorem below_setR5 {B g : Nat} {a w : World} (h : Below B a w) (hg : B ≤ g) (v0 v1 v2 v3 v4 : Value) : Below B a (setR5 w g v0 v1 v2 v3 v4) :=
  ((((h.setCell (p := ⟨g, 0, none⟩) hg v0).setCell (p := ⟨g, 1, none⟩) hg v1).setCell (p := ⟨g, 2, none⟩) hg v2).setCell (p := ⟨g, 3, none⟩) hg v3).setCell (p := ⟨g, 4, none⟩) hg v4
theorem rep_set1 {w : World} {g j : Nat} {vs : Array Value} (h : RepAt w g vs) (v : Value) : RepAt (w.setCell ⟨g, j, none⟩ v) g (vs.setIfInBounds j v) := by
  have hg : g < w.heap.size := (Array.getElem?_eq_some_iff.1 h).1
  unfold RepAt at *
  unfold World.setCell
  simp [hg, Array.getElem_modify, (Array.getElem?_eq_some_iff.1 h).2]
theorem rep_set5 {w : World} {g : Nat} {a0 a1 a2 a3 a4 : Value} (h : RepAt w g #[a0, a1, a2, a3, a4]) (v0 v1 v2 v3 v4 : Value) : RepAt (setR5 w g v0 v1 v2 v3 v4) g #[v0, v1, v2, v3, v4] := rep_set1 (rep_set1 (rep_set1 (rep_set1 (rep_set1 h v0) v1) v2) v3) v4
theorem row_setR5 {w : World} {B g : Nat} {v : Value} {ks : List Key} (h : OwnRow w B 9 1 strCell v ks) (hg : g < B) (v0 v1 v2 v3 v4 : Value) : OwnRow (setR5 w g v0 v1 v2 v3 v4) B 9 1 strCell v ks :=
  ownsRow_setCell_below (a := ⟨g, 4, none⟩) (ownsRow_setCell_below (a := ⟨g, 3, none⟩) (ownsRow_setCell_below (a := ⟨g, 2, none⟩) (ownsRow_setCell_below (a := ⟨g, 1, none⟩) (ownsRow_setCell_below (a := ⟨g, 0, none⟩) h hg v0) hg v1) hg v2) hg v3) hg v4
theorem own_keys {w : World} {B : Nat} {ka : Option Addr} {n kc : Nat} {ks : List Key} (h : OwnRow w B 9 1 strCell (.slice ka n kc) ks) (hm : ks.length ≤ 1000000) : RowAt w ka 1 strCell ks := by
  obtain ⟨_, _, e, h1, _⟩ := h.form strCell_len hm
  cases e
  exact h1
/-- Where an exploration's report lies. -/
def ExpAt (p : Pg) (fuel b : Int) (order : List Int) (w : World) (s e : Value) (w' : World) : Prop :=
  ∃ g ka kc, s = .pointer (some ⟨g, 0, none⟩) ∧ e = .int .i64 0 ∧ RepAt w' g #[.slice ka (endX (s0 p fuel) order b).runs kc, .int .i64 ((endX (s0 p fuel) order b).nodes : Nat), .int .i64 ((endX (s0 p fuel) order b).runs : Nat), .int .i64 ((endX (s0 p fuel) order b).blocked : Nat), .bool (!anyX (endX (s0 p fuel) order b))] ∧ RowAt w' ka 1 strCell (sortK (endX (s0 p fuel) order b).keys) ∧ Below w.heap.size w w'
theorem exp_len (p : Pg) (fuel b : Int) (order : List Int) (hok : okPg p fuel) (hle : preW p fuel ≤ 600) : (endX (s0 p fuel) order b).nodes ≤ 600 ∧ (endX (s0 p fuel) order b).runs ≤ 600 ∧ (endX (s0 p fuel) order b).blocked ≤ 600 ∧ (sortK (endX (s0 p fuel) order b).keys).length = (endX (s0 p fuel) order b).runs := by
  have ok : (s0 p fuel).Ok fuel.toNat := new_ok hok.1 fuel.toNat (by have := hok.2; omega)
  obtain ⟨e1, e2, e3, _, e5, _⟩ := end_part (order := order) (b := b) ok
  refine ⟨by omega, by omega, by omega, ?_⟩
  rw [sortK_nodup_len e3, e2]
theorem exact_facts (p : Pg) (fuel : Int) (order : List Int) (hok : okPg p fuel) : sortK (endX (s0 p fuel) order (preW p fuel : Nat)).keys = sortK (keysOf (runsW p fuel)) ∧ (endX (s0 p fuel) order (preW p fuel : Nat)).runs = (sortK (keysOf (runsW p fuel))).length ∧ (endX (s0 p fuel) order (preW p fuel : Nat)).nodes ≤ preW p fuel ∧ anyX (endX (s0 p fuel) order (preW p fuel : Nat)) = false := by
  have ok : (s0 p fuel).Ok fuel.toNat := new_ok hok.1 fuel.toNat (by have := hok.2; omega)
  obtain ⟨e1, e2, _, _, _, e6, _⟩ := end_part (order := order) (b := (preW p fuel : Nat)) ok
  have ha := end_exact (order := order) ok (b := (preW p fuel : Nat)) (Int.le_refl _)
  exact ⟨(e6 ha).1, by rw [e2, (e6 ha).2], e1, ha⟩
theorem exp_new {p : Pg} {fuel b : Int} {order : List Int} {W w7 : World} {B : Nat} {ka : Option Addr} {kc : Nat} (hok : okPg p fuel) (hle : preW p fuel ≤ 600) (hr : OwnRow w7 B 9 1 strCell (.slice ka (endX (s0 p fuel) order b).runs kc) (sortK (endX (s0 p fuel) order b).keys)) (hb : Below W.heap.size W w7) :
    ExpAt p fuel b order W (.pointer (some ⟨w7.heap.size, 0, none⟩)) (.int .i64 0) (w7.alloc (.cells #[.slice ka (endX (s0 p fuel) order b).runs kc, .int .i64 ((endX (s0 p fuel) order b).nodes : Nat), .int .i64 ((endX (s0 p fuel) order b).runs : Nat), .int .i64 ((endX (s0 p fuel) order b).blocked : Nat), .bool (!anyX (endX (s0 p fuel) order b))] 34)) := by
  have hl := exp_len p fuel b order hok hle
  exact ⟨_, ka, kc, rfl, rfl, heap_alloc_new w7 _, (own_keys hr (by omega)).later (below_alloc1 w7 _), hb.alloc hb.size _⟩
theorem exp_set {p : Pg} {fuel b : Int} {order : List Int} {W w7 : World} {B g : Nat} {ka : Option Addr} {kc : Nat} {a0 a1 a2 a3 a4 : Value} (hok : okPg p fuel) (hle : preW p fuel ≤ 600) (ht : RepAt w7 g #[a0, a1, a2, a3, a4]) (hr : OwnRow w7 B 9 1 strCell (.slice ka (endX (s0 p fuel) order b).runs kc) (sortK (endX (s0 p fuel) order b).keys)) (hg : g < B) (hW : W.heap.size ≤ g) (hb : Below W.heap.size W w7) :
    ExpAt p fuel b order W (.pointer (some ⟨g, 0, none⟩)) (.int .i64 0) (setR5 w7 g (.slice ka (endX (s0 p fuel) order b).runs kc) (.int .i64 ((endX (s0 p fuel) order b).nodes : Nat)) (.int .i64 ((endX (s0 p fuel) order b).runs : Nat)) (.int .i64 ((endX (s0 p fuel) order b).blocked : Nat)) (.bool (!anyX (endX (s0 p fuel) order b)))) := by
  have hl := exp_len p fuel b order hok hle
  exact ⟨g, ka, kc, rfl, rfl, rep_set5 ht _ _ _ _ _, own_keys (row_setR5 hr hg _ _ _ _ _) (by omega), below_setR5 hb hW _ _ _ _ _⟩

end Go.Proofs.YthkmeeodbgdmeaaGreat

/- A program whose threads stand the other way round, in memory. -/
namespace Go.Proofs.YthkmeeodbgdmeaaGreat
open Go.RowKit

/-- A thread's slice, as it lies, and the code behind it. -/
def SlOf (w : World) (l : List Ins) (x : Sl) : Prop := x.n = l.length ∧ CodeAt w x.a l ∧ (x.a = none → x.c = 0)
theorem threads_sl {w : World} {a : Option Addr} {ts : List (List Ins)} (h : ThreadsAt w a ts) (hne : ts ≠ []) : ∃ b o, a = some ⟨b, o, none⟩ ∧ ∃ S : List Sl, S.length = ts.length ∧ ∀ i x, S[i]? = some x → ∃ hi : i < ts.length, w.cell? ⟨b, o + i, none⟩ = some (.slice x.a x.n x.c) ∧ SlOf w ts[i] x := by
  obtain ⟨b, o, rfl, hc⟩ := h.2 hne
  refine ⟨b, o, rfl, ?_⟩
  obtain ⟨S, h1, h2⟩ := exists_list ts.length (fun i (x : Sl) => ∃ hi : i < ts.length, w.cell? ⟨b, o + i, none⟩ = some (.slice x.a x.n x.c) ∧ SlOf w ts[i] x) (fun i hi => by
    obtain ⟨c, cap, g1, g2, g3⟩ := hc i hi
    exact ⟨⟨c, ts[i].length, cap⟩, hi, g1, rfl, g2, g3⟩)
  exact ⟨S, h1, h2⟩
theorem SlOf.later {w w' : World} {l : List Ins} {x : Sl} (h : SlOf w l x) (hb : Below w.heap.size w w') : SlOf w' l x := ⟨h.1, h.2.1.later hb, h.2.2⟩
theorem threads_rev {w : World} {a : Option Addr} {ts : List (List Ins)} {S : List Sl} (hm : ts.length ≤ 1000) (hl : S.length = ts.length) (hS : ∀ i x, S[i]? = some x → ∃ hi : i < ts.length, SlOf w ts[i] x) (hr : RowAt w a 1 slCell S.reverse) : ThreadsAt w a ts.reverse := by
  refine ⟨by rw [List.length_reverse]; unfold maxLen; omega, fun hne => ?_⟩
  obtain ⟨b, o, rfl, hc⟩ := hr.2 (by intro e; apply hne; rw [List.reverse_eq_nil_iff] at e ⊢; rw [e] at hl; exact List.length_eq_zero_iff.1 hl.symm)
  refine ⟨b, o, rfl, fun i hi => ?_⟩
  rw [List.length_reverse] at hi
  have hj : i < S.reverse.length := by rw [List.length_reverse]; omega
  have h1 := hc i hj 0 _ rfl
  rw [Nat.mul_one, Nat.add_zero] at h1
  have h2 : S[ts.length - 1 - i]? = some (S.reverse[i]) := by
    rw [List.getElem_reverse, List.getElem?_eq_getElem (by omega)]
    congr 2
    omega
  obtain ⟨hi2, g1, g2, g3⟩ := hS _ _ h2
  have e : ts.reverse[i]'(by rw [List.length_reverse]; exact hi) = ts[ts.length - 1 - i] := by rw [List.getElem_reverse]
  rw [e]
  exact ⟨S.reverse[i].a, S.reverse[i].c, by rw [h1, g1], g2, g3⟩
/-- The program that is built, in its block. -/
def QAt (w : World) (Q : Nat) (V M : Int) (tv : Value) : Prop := w.heap[Q]? = some (.cells #[.int .i64 V, .int .i64 M, tv] 24 (0, 0))
theorem QAt.later {w w' : World} {Q : Nat} {V M : Int} {tv : Value} (h : QAt w Q V M tv) (hb : Below w.heap.size w w') : QAt w' Q V M tv := (hb.block Q (Array.getElem?_eq_some_iff.1 h).1).trans h
theorem QAt.cells {w : World} {Q : Nat} {V M : Int} {tv : Value} (h : QAt w Q V M tv) : (w.cell? ⟨Q, 0, none⟩ = some (.int .i64 V) ∧ w.cell? ⟨Q, 1, none⟩ = some (.int .i64 M) ∧ w.cell? ⟨Q, 2, none⟩ = some tv) ∧ w.frozen? ⟨Q, 2, none⟩ = false ∧ Q < w.heap.size := by
  have hc : ∀ j, w.cell? ⟨Q, j, none⟩ = (#[.int .i64 V, .int .i64 M, tv] : Array Value)[j]? := fun j => by
    unfold World.cell?
    dsimp only
    rw [show w.heap[Q]? = _ from h]
    rfl
  refine ⟨⟨hc 0, hc 1, hc 2⟩, ?_, (Array.getElem?_eq_some_iff.1 h).1⟩
  unfold World.frozen?
  dsimp only
  rw [show w.heap[Q]? = _ from h]
  rfl
theorem QAt.kept {w w' : World} {Q B : Nat} {V M : Int} {tv : Value} (h : QAt w Q V M tv) (hb : Below B w w') (hQ : Q < B) : QAt w' Q V M tv := (hb.block Q hQ).trans h
theorem QAt.set {w : World} {Q : Nat} {V M : Int} {tv : Value} (h : QAt w Q V M tv) (v : Value) : QAt (w.setCell ⟨Q, 2, none⟩ v) Q V M v := by
  unfold QAt
  rw [heap_setCell_same w Q 2 _ _ _ h]
  rfl
theorem infoSlI : (Tryz.prog.info? 44).map (fun i => (i.zero, i.size, i.bytes)) = some (some (.slice none 0 0), 1, 24) := by kernel_rfl
/-- One thread more behind those that are turned. -/
theorem turn_step {w W w' : World} {Q B k : Nat} {V M : Int} {tv v : Value} {S : List Sl} {x : Sl} (hq : QAt W Q V M tv) (hQB : Q < B) (hB : B ≤ W.heap.size) (hbw : Below Q w W) (ho : OwnRow w' B 44 1 slCell v (S.reverse.take k ++ [x])) (hb : Below B W w') (hx : S.reverse[k]? = some x) :
    OwnRow (w'.setCell ⟨Q, 2, none⟩ v) B 44 1 slCell v (S.reverse.take (k + 1)) ∧ QAt (w'.setCell ⟨Q, 2, none⟩ v) Q V M v ∧ Below Q w (w'.setCell ⟨Q, 2, none⟩ v) ∧ B ≤ (w'.setCell ⟨Q, 2, none⟩ v).heap.size := by
  have hq' : QAt w' Q V M tv := (hb.block Q hQB).trans hq
  have e : S.reverse.take (k + 1) = S.reverse.take k ++ [x] := by
    obtain ⟨hk, hx'⟩ := List.getElem?_eq_some_iff.1 hx
    rw [List.take_succ_eq_append_getElem hk, hx']
  refine ⟨?_, hq'.set v, ?_, ?_⟩
  · rw [e]
    exact ownsRow_setCell_below (a := ⟨Q, 2, none⟩) ho hQB _
  · exact (hbw.trans (hb.mono (by omega))).setCell (p := ⟨Q, 2, none⟩) (Nat.le_refl _) _
  · have := hb.size
    simp [World.setCell]
    omega
end Go.Proofs.YthkmeeodbgdmeaaGreat

/- The law SeqOne, walked. -/
namespace Go.Proofs.YthkmeeodbgdmeaaGreat
open Go.RowKit

theorem threads_one {w : World} {a : Option Addr} {t : List Ins} {ts : List (List Ins)} (h : ThreadsAt w a (t :: ts)) : ∃ b o, a = some ⟨b, o, none⟩ ∧ ThreadsAt w a [t] := by
  obtain ⟨b, o, rfl, hc⟩ := h.2 (by simp)
  refine ⟨b, o, rfl, by simp [maxLen], fun _ => ⟨b, o, rfl, fun i hi => ?_⟩⟩
  have hi' : i < 1 := hi
  obtain rfl : i = 0 := by omega
  exact hc 0 (by simp)
theorem one_facts (V M : Int) (t : List Ins) (fuel : Int) (order : List Int) (hok : okPg ⟨V, M, [t]⟩ fuel) (hle : preW ⟨V, M, [t]⟩ fuel ≤ 600) : (endX (s0 ⟨V, M, [t]⟩ fuel) order 600).runs = 1 ∧ (endX (s0 ⟨V, M, [t]⟩ fuel) order 600).blocked = 0 ∧ (endX (s0 ⟨V, M, [t]⟩ fuel) order 600).nodes = preW ⟨V, M, [t]⟩ fuel ∧ (runsW ⟨V, M, [t]⟩ fuel).length = 1 ∧ (preW ⟨V, M, [t]⟩ fuel : Int) ≤ fuel + 1 ∧ anyX (endX (s0 ⟨V, M, [t]⟩ fuel) order 600) = false := by
  have ok : (s0 ⟨V, M, [t]⟩ fuel).Ok fuel.toNat := new_ok hok.1 fuel.toNat (by have := hok.2; omega)
  obtain ⟨e1, e2, e3, e4, e5⟩ := end_one (order := order) (b := 600) ok rfl (by omega)
  have e6 : (s0 ⟨V, M, [t]⟩ fuel).fuel = fuel.toNat := by simp [s0, St.new, St.fuel]
  have := hok.2
  exact ⟨e1, e2, e3, e4, by omega, end_exact (order := order) ok (b := 600) (by omega)⟩

set_option maxRecDepth 100000 in
set_option maxHeartbeats 8000000 in
theorem seqOne_any (p : Pg) (a : Option Addr) (cap : Nat) (fuel : Int) (oa : Option Addr) (ns : List Int) (oc : Nat) (w : World) (hp : ThreadsAt w a p.threads) (hcap : p.threads.length ≤ cap) (hord : BytesAt w oa ns) (hon : oa = none → oc = 0 ∧ ns = []) (hbs : ∀ n ∈ ns, 0 ≤ n ∧ n < 256) :
    Calls Tryz.prog 8 #[.agg #[.int .i64 p.vars, .int .i64 p.mutexes, .slice a p.threads.length cap], .int .i64 fuel, .slice oa ns.length oc] w fun r w' => r = .returned (.bool true) ∧ Below w.heap.size w w' := by
  obtain ⟨V, M, tt⟩ := p
  dsimp only at hp hcap ⊢
  have HORD := Lib.hid hord
  have HON := Lib.hid hon
  have HBS := Lib.hid hbs
  have hm := hord.1
  unfold maxLen at hm
  cases tt with
  | nil =>
    clear hp hcap hord hon hbs
    have hb1 : Below w.heap.size w (w.alloc (.cells #[.int .i64 V, .int .i64 M, .slice a 0 cap] 24)) := below_alloc1 w _
    have hq : QAt (w.alloc (.cells #[.int .i64 V, .int .i64 M, .slice a 0 cap] 24)) w.heap.size V M (.slice a 0 cap) := heap_alloc_new w _
    have HQ := Lib.hid hq
    clear hq
    go_enter Tryz.func8, Tryz.ntmps8
    go_wp2_with fail
    generalize w.alloc (.cells #[.int .i64 V, .int .i64 M, .slice a 0 cap] 24) = W1 at *
    refine (awake9_any W1).mono ?_
    rintro r W2 ⟨rfl, hb2⟩
    obtain ⟨⟨c0, c1, c2⟩, _, _⟩ := (HQ.out.later hb2).cells
    have hb3 := hb1.trans (hb2.mono hb1.size)
    go_wp2_with fail
    refine (awake9_any _).mono ?_
    rintro r w3 ⟨rfl, hb4⟩
    go_wp2
    go_ret
    exact ⟨rfl, hb3.trans (hb4.mono hb3.size)⟩
  | cons t ts =>
    obtain ⟨b, o, rfl, hp1⟩ := threads_one hp
    have HP := Lib.hid hp1
    have hcap1 : 1 ≤ cap := by simp at hcap; omega
    generalize hn : (t :: ts).length = n at *
    have hn1 : 1 ≤ n := by simp at hn; omega
    clear hp hp1 hcap hord hon hbs hn
    have hb1 : Below w.heap.size w (w.alloc (.cells #[.int .i64 V, .int .i64 M, .slice (some ⟨b, o, none⟩) n cap] 24)) := below_alloc1 w _
    have hq : QAt (w.alloc (.cells #[.int .i64 V, .int .i64 M, .slice (some ⟨b, o, none⟩) n cap] 24)) w.heap.size V M (.slice (some ⟨b, o, none⟩) n cap) := heap_alloc_new w _
    have HQ := Lib.hid hq
    clear hq
    go_enter Tryz.func8, Tryz.ntmps8
    go_wp2_with fail
    generalize w.alloc (.cells #[.int .i64 V, .int .i64 M, .slice (some ⟨b, o, none⟩) n cap] 24) = W1 at *
    refine (awake9_any W1).mono ?_
    rintro r W2 ⟨rfl, hb2⟩
    have HQ2 := Lib.hid (HQ.out.later hb2)
    obtain ⟨⟨c0, c1, c2⟩, cf, _⟩ := HQ2.out.cells
    have hb3 := hb1.trans (hb2.mono hb1.size)
    have HQ3 := Lib.hid (HQ2.out.set (.slice (some ⟨b, o, none⟩) 1 1))
    have HB3 := Lib.hid (hb3.setCell (p := ⟨w.heap.size, 2, none⟩) (Nat.le_refl _) (.slice (some ⟨b, o, none⟩) 1 1))
    have hn0 : ((n : Int) == 0) = false := by simp; omega
    have hn2 : ¬ ((n : Int) = 0) := by omega
    clear HQ hb1 hb2 HQ2
    by_cases hl : 500 < ns.length
    · go_wp2_with fail
      refine (awake9_any _).mono ?_
      rintro r w3 ⟨rfl, hb4⟩
      go_wp2
      go_ret
      exact ⟨rfl, hb3.trans (hb4.mono hb3.size)⟩
    clear hb3
    go_wp2_with fail
    clear c0 c1 c2 cf hn0 hn2
    generalize W2.setCell ⟨w.heap.size, 2, none⟩ (.slice (some ⟨b, o, none⟩) 1 1) = W3 at *
    refine (small_any ⟨V, M, [t]⟩ (some ⟨b, o, none⟩) 1 fuel W3 (HP.out.later HB3.out)).mono ?_
    rintro r W4 ⟨rfl, hb4⟩
    have hb5 := HB3.out.trans (hb4.mono HB3.out.size)
    have HQ4 := Lib.hid (HQ3.out.later hb4)
    clear HB3 HQ3 hb4
    cases hf : smallPg ⟨V, M, [t]⟩ fuel
    · clear hf
      go_wp2_with fail
      go_ret
      exact ⟨rfl, hb5⟩
    obtain ⟨_, hok, hle⟩ := small_yes hf
    clear hf
    obtain ⟨⟨c0, c1, c2⟩, _, _⟩ := HQ4.out.cells
    go_wp2_with fail
    refine (ref9_yes ⟨V, M, [t]⟩ (some ⟨b, o, none⟩) 1 fuel W4 (HP.out.later hb5) hok hle).mono ?_
    rintro r W5 ⟨ks, kc, rfl, hks, hb6⟩
    have hb7 := hb5.trans (hb6.mono hb5.size)
    have hs6 : Sum9At (W5.alloc (.cells #[.slice ks (sortK (keysOf (runsW ⟨V, M, [t]⟩ fuel))).length kc, .int .i64 ((runsW ⟨V, M, [t]⟩ fuel).length : Nat), .int .i64 (preW ⟨V, M, [t]⟩ fuel : Nat), .int .i64 (stuckN (runsW ⟨V, M, [t]⟩ fuel) : Nat)] 30)) W5.heap.size #[.slice ks (sortK (keysOf (runsW ⟨V, M, [t]⟩ fuel))).length kc, .int .i64 ((runsW ⟨V, M, [t]⟩ fuel).length : Nat), .int .i64 (preW ⟨V, M, [t]⟩ fuel : Nat), .int .i64 (stuckN (runsW ⟨V, M, [t]⟩ fuel) : Nat)] := heap_alloc_new W5 _
    have HS6 := Lib.hid hs6
    have HQ6 := Lib.hid ((HQ4.out.later hb6).later (below_alloc1 W5 (.cells #[.slice ks (sortK (keysOf (runsW ⟨V, M, [t]⟩ fuel))).length kc, .int .i64 ((runsW ⟨V, M, [t]⟩ fuel).length : Nat), .int .i64 (preW ⟨V, M, [t]⟩ fuel : Nat), .int .i64 (stuckN (runsW ⟨V, M, [t]⟩ fuel) : Nat)] 30)))
    have hb8 := hb7.trans ((below_alloc1 W5 (.cells #[.slice ks (sortK (keysOf (runsW ⟨V, M, [t]⟩ fuel))).length kc, .int .i64 ((runsW ⟨V, M, [t]⟩ fuel).length : Nat), .int .i64 (preW ⟨V, M, [t]⟩ fuel : Nat), .int .i64 (stuckN (runsW ⟨V, M, [t]⟩ fuel) : Nat)] 30)).mono hb7.size)
    clear c0 c1 c2 hks hb5 hb6 hb7 hs6
    go_upto_region 7 with (fail)
    generalize W5.alloc (.cells #[.slice ks (sortK (keysOf (runsW ⟨V, M, [t]⟩ fuel))).length kc, .int .i64 ((runsW ⟨V, M, [t]⟩ fuel).length : Nat), .int .i64 (preW ⟨V, M, [t]⟩ fuel : Nat), .int .i64 (stuckN (runsW ⟨V, M, [t]⟩ fuel) : Nat)] 30) = W6 at *
    have HC : Hid (∀ W, Below W6.heap.size W6 W → W.cell? ⟨w.heap.size, 0, none⟩ = some (.int .i64 V) ∧ W.cell? ⟨w.heap.size, 1, none⟩ = some (.int .i64 M) ∧ W.cell? ⟨w.heap.size, 2, none⟩ = some (.slice (some ⟨b, o, none⟩) 1 1)) := fun W hb => (HQ6.out.later hb).cells.1
    have HROW : Hid (∀ W, Below W6.heap.size W6 W → RowAt W oa 1 byteCell ns) := fun W hb => bytes_row (HORD.out.later (hb8.trans (hb.mono hb8.size)))
    have HPW : Hid (∀ W, Below W6.heap.size W6 W → ThreadsAt W (some ⟨b, o, none⟩) [t]) := fun W hb => HP.out.later (hb8.trans (hb.mono hb8.size))
    have hlen : ns.length ≤ 500 := by omega
    have HEX : Hid (∀ av ac W, ThreadsAt W (some ⟨b, o, none⟩) [t] → BytesAt W av ns → (∀ x, av = some x → x.block < W.heap.size) → Calls Tryz.prog 12 #[.agg #[.int .i64 V, .int .i64 M, .slice (some ⟨b, o, none⟩) 1 1], .int .i64 fuel, .int .i64 600, .slice av ns.length ac] W fun r w' => ∃ ka kc, r = .returned (.tuple #[.agg #[.slice ka (endX (s0 ⟨V, M, [t]⟩ fuel) ns 600).runs kc, .int .i64 ((endX (s0 ⟨V, M, [t]⟩ fuel) ns 600).nodes : Nat), .int .i64 ((endX (s0 ⟨V, M, [t]⟩ fuel) ns 600).runs : Nat), .int .i64 ((endX (s0 ⟨V, M, [t]⟩ fuel) ns 600).blocked : Nat), .bool (!anyX (endX (s0 ⟨V, M, [t]⟩ fuel) ns 600))], .int .i64 0]) ∧ OwnRow w' W.heap.size 9 1 strCell (.slice ka (endX (s0 ⟨V, M, [t]⟩ fuel) ns 600).runs kc) (sortK (endX (s0 ⟨V, M, [t]⟩ fuel) ns 600).keys) ∧ Below W.heap.size W w') :=
      fun av ac W h1 h2 h3 => explore_yes ⟨V, M, [t]⟩ (some ⟨b, o, none⟩) 1 fuel 600 av ac ns W h1 h2 h3 HBS.out (by omega) hok hle
    clear hl
    go_cut [9, 10] (fun s9 s10 wx => ExpAt ⟨V, M, [t]⟩ fuel 600 ns W6 s9 s10 wx)
    case first =>
      go_wp2_with fail
      go_region_held3 (fun W => W.cell? ⟨w.heap.size, 0, none⟩ = some (.int .i64 V) ∧ W.cell? ⟨w.heap.size, 1, none⟩ = some (.int .i64 M) ∧ W.cell? ⟨w.heap.size, 2, none⟩ = some (.slice (some ⟨b, o, none⟩) 1 1))
        (first | with_reducible exact HC.out _ hB8 | with_reducible exact HC.out _ hB7 | with_reducible exact HC.out _ (hB8.alloc hB8.size _) | with_reducible exact HC.out _ (hB7.alloc hB7.size _) | with_reducible exact HC.out _ (below_setR5 hB8 (by first | omega | exact Nat.le_refl _) _ _ _ _ _) | with_reducible exact HC.out _ (Below.refl _ _).drew | with_reducible exact HC.out _ (below_alloc1 W6 _).drew | with_reducible exact HC.out _ (below_alloc2 W6 _ _).drew)
        (first
          | ((first | with_reducible refine step_world ((W6.alloc (.cells #[] 5)).drew) ?_); refine step_copyR 25 5 1 (.int .u8 0) Tryz.underlying25 infoU8 (by rfl) (by omega) (by omega) byteCell_len byteCell_one (by rfl) (.tmp 42) (.tmp 43) (by rfl) W6.heap.size _ [] (by rfl) (lit_a W6) oa oc ns (by rfl) (HROW.out _ (below_alloc1 W6 (.cells #[] 5)).drew) HON.out (by simp only [List.length_nil]; omega) (by simp <;> omega) ?_; intro v1 w6 hown hb hgr; obtain ⟨av, ac, hav, hby, hlt⟩ := own_bytes hown (by simp only [List.nil_append]; omega); rw [List.nil_append] at hav hby; subst hav; have HBY := Lib.hid (And.intro hby hlt); have hB7 : Below W6.heap.size W6 w6 := Below.trans (below_alloc1 W6 (.cells #[] 5)).drew hb; have hz7 := hB7.size; have HT6 : Hid True := trivial; clear hown hb hby hlt)
          | ((first | with_reducible refine step_world (((W6.alloc (.cells #[] 5)).alloc (.cells #[.slice none 0 0, .int .i64 0, .int .i64 0, .int .i64 0, .bool false] 34)).drew) ?_); refine step_copyR 25 5 1 (.int .u8 0) Tryz.underlying25 infoU8 (by rfl) (by omega) (by omega) byteCell_len byteCell_one (by rfl) (.tmp 42) (.tmp 43) (by rfl) W6.heap.size _ [] (by rfl) (lit_b W6) oa oc ns (by rfl) (HROW.out _ (below_alloc2 W6 (.cells #[] 5) (.cells #[.slice none 0 0, .int .i64 0, .int .i64 0, .int .i64 0, .bool false] 34)).drew) HON.out (by simp only [List.length_nil]; omega) (by simp <;> omega) ?_; intro v1 w6 hown hb hgr; obtain ⟨av, ac, hav, hby, hlt⟩ := own_bytes hown (by simp only [List.nil_append]; omega); rw [List.nil_append] at hav hby; subst hav; have HBY := Lib.hid (And.intro hby hlt); have hB7 : Below W6.heap.size W6 w6 := Below.trans (below_alloc2 W6 (.cells #[] 5) (.cells #[.slice none 0 0, .int .i64 0, .int .i64 0, .int .i64 0, .bool false] 34)).drew hb; have hz7 := hB7.size; have HT6 := Lib.hid (rep_b6 hgr); clear hown hb hby hlt)
          | ((first | with_reducible refine step_world (((W6.alloc (.cells #[.slice none 0 0, .int .i64 0, .int .i64 0, .int .i64 0, .bool false] 34)).alloc (.cells #[] 5)).drew) ?_); refine step_copyR 25 5 1 (.int .u8 0) Tryz.underlying25 infoU8 (by rfl) (by omega) (by omega) byteCell_len byteCell_one (by rfl) (.tmp 42) (.tmp 43) (by rfl) W6.heap.size _ [] (by rfl) (lit_c W6) oa oc ns (by rfl) (HROW.out _ (below_alloc2 W6 (.cells #[.slice none 0 0, .int .i64 0, .int .i64 0, .int .i64 0, .bool false] 34) (.cells #[] 5)).drew) HON.out (by simp only [List.length_nil]; omega) (by simp <;> omega) ?_; intro v1 w6 hown hb hgr; obtain ⟨av, ac, hav, hby, hlt⟩ := own_bytes hown (by simp only [List.nil_append]; omega); rw [List.nil_append] at hav hby; subst hav; have HBY := Lib.hid (And.intro hby hlt); have hB7 : Below W6.heap.size W6 w6 := Below.trans (below_alloc2 W6 (.cells #[.slice none 0 0, .int .i64 0, .int .i64 0, .int .i64 0, .bool false] 34) (.cells #[] 5)).drew hb; have hz7 := hB7.size; have HT6 := Lib.hid (rep_c6 hgr); clear hown hb hby hlt)
          | (go_at_call 12; ((with_reducible refine (HEX.out av ac w6 (HPW.out _ hB7) HBY.out.1 HBY.out.2).mono ?_); rintro r w7 ⟨ka, kc, rfl, hrow, hb⟩; have HR7 := Lib.hid hrow; have hB8 := hB7.trans (hb.mono hB7.size); (first | (have HT7 := Lib.hid (HT6.out.later hb); obtain ⟨⟨x0, x1, x2, x3, x4⟩, f⟩ := HT7.out.five; have f0 := f 0 (by omega); have f1 := f 1 (by omega); have f2 := f 2 (by omega); have f3 := f 3 (by omega); have f4 := f 4 (by omega); clear f) | skip); clear hrow hb))
          | (go_at_call 12; ((with_reducible refine (HEX.out av ac (w6.alloc (.cells #[.slice none 0 0, .int .i64 0, .int .i64 0, .int .i64 0, .bool false] 34)) (HPW.out _ (hB7.alloc hB7.size (.cells #[.slice none 0 0, .int .i64 0, .int .i64 0, .int .i64 0, .bool false] 34))) (HBY.out.1.later (below_alloc1 w6 _)) (fun x hx => Nat.lt_of_lt_of_le (HBY.out.2 x hx) (below_alloc1 w6 (.cells #[.slice none 0 0, .int .i64 0, .int .i64 0, .int .i64 0, .bool false] 34)).size)).mono ?_); rintro r w7 ⟨ka, kc, rfl, hrow, hb⟩; have HR7 := Lib.hid hrow; have hB8 := (hB7.alloc hB7.size (.cells #[.slice none 0 0, .int .i64 0, .int .i64 0, .int .i64 0, .bool false] 34)).trans (hb.mono (hB7.alloc hB7.size (.cells #[.slice none 0 0, .int .i64 0, .int .i64 0, .int .i64 0, .bool false] 34)).size); (first | (have HT7 := Lib.hid ((show RepAt (w6.alloc (.cells #[.slice none 0 0, .int .i64 0, .int .i64 0, .int .i64 0, .bool false] 34)) w6.heap.size #[.slice none 0 0, .int .i64 0, .int .i64 0, .int .i64 0, .bool false] from heap_alloc_new w6 _).later hb); obtain ⟨⟨x0, x1, x2, x3, x4⟩, f⟩ := HT7.out.five; have f0 := f 0 (by omega); have f1 := f 1 (by omega); have f2 := f 2 (by omega); have f3 := f 3 (by omega); have f4 := f 4 (by omega); clear f) | skip); clear hrow hb)))
      all_goals go_wp2_with fail
      all_goals go_meet
      all_goals first
        | with_reducible exact exp_new hok hle HR7.out hB8
        | with_reducible refine exp_set hok hle HT7.out HR7.out ?_ ?_ hB8
      all_goals first
        | omega
        | exact HT6.out.lt
        | (rw [World.size_alloc]; omega)
    case rest =>
      obtain ⟨g, ka, xc, rfl, rfl, hrep, hrow, hb12⟩ := hcut
      obtain ⟨e1, e2, e3, e4, e5, e6⟩ := one_facts V M t fuel ns hok hle
      have hf8 := hok.2
      have hf9 : IntKind.i64.wrap (fuel + 1) = fuel + 1 := IntWalk.i64_in _ (by omega)
      rw [e1, e2, e3, e6] at hrep
      have hs7 := HS6.out.later hb12
      rw [e4] at hs7
      have HREP := Lib.hid hrep
      have HS7 := Lib.hid hs7
      have hb13 := hb8.trans (hb12.mono hb8.size)
      clear e1 e2 e3 e4 e6 hrep hrow hb8 hb12 hok hle HS6 HC HROW HPW HP HQ6 HQ4 hs7
      generalize preW ⟨V, M, [t]⟩ fuel = PW at *
      obtain ⟨⟨x0, x1, x2, x3, x4⟩, _⟩ := HREP.out.five
      have y1 := HS7.out.at_ 1 rfl
      have y2 := HS7.out.at_ 2 rfl
      have y8 : decide ((PW : Int) ≤ fuel + 1) = true := decide_eq_true e5
      go_wp2_with fail
      all_goals go_ret
      all_goals exact ⟨by simp <;> omega, hb13⟩

end Go.Proofs.YthkmeeodbgdmeaaGreat

/- A program that came in: its threads' room. -/
namespace Go.Proofs.YthkmeeodbgdmeaaGreat
open Go.RowKit
open Go.Deep Go.Joins Go.WideShapes Go.ChangeShapes

section
variable {H : Type} {enc : TypeId × Value → H} {W : World} {base : Nat} {spare : Nat → Bool} {held : Bool}
set_option maxRecDepth 100000 in
theorem prog2_of_trod {r : Reach} {b0 : Nat} {v : Value} {d : DataW H} {p : List MemPlace} (hv : Value.okWide Tryz.prog W r b0 24 v) (h : DataW.Trod enc Tryz.prog W base spare held 24 v d p) :
    ∃ (q : Pg) (a : Option Addr) (cap : Nat), v = pgV q a cap ∧ ThreadsAt W a q.threads ∧ q.threads.length ≤ cap := by
  obtain ⟨q, a, cap, rfl, ht, ha⟩ := prog_of_trod hv h
  refine ⟨q, a, cap, rfl, ht, ?_⟩
  obtain ⟨v0, v1, v2, y0, y1, y2, n, e, _, _, h0, h1, h2⟩ := open_agg3 Tryz.underlying24 (by kernel_rfl) (by kernel_rfl) hv h
  obtain ⟨n0, r0, _⟩ := DataW.trod_int Tryz.underlying3 h0
  obtain ⟨n1, r1, _⟩ := DataW.trod_int Tryz.underlying3 h1
  rcases open_slice Tryz.underlying22 h2 with ⟨r2, _⟩ | ⟨a', len, cap', m, k, D, Pl, r2, _, hl, hm, hmm, _, hi⟩
  · simp at r0 r1 r2
    subst r0 r1 r2
    simp [pgV] at e
    simp [e]
  · simp at r0 r1 r2
    subst r0 r1 r2
    simp [pgV] at e
    omega
end
end Go.Proofs.YthkmeeodbgdmeaaGreat

/-
  SeqOne: of a program of one thread there is one run, and a node for each of its steps, and one: the law answers true, and its arguments read as they did.
  For every input, whatever its size and however its parts share memory; nothing is asked of it but what the statement's own form asks.
-/
namespace Go.Proofs.YthkmeeodbgdmeaaGreat.seqOne
open Go.ChangeShapes Go.WideShapes Go.ChangeAt Go.RowKit

theorem own : ownKnob Tryz.prog.godebug = none := by kernel_rfl
theorem laidOut : laidOutB Tryz.prog = true := by kernel_rfl

set_option maxRecDepth 100000 in
theorem lifted (os : Os) (started : os.Started) (H : Type) (enc : TypeId × Value → H) :
    ReturnsInHanded {} Tryz.checked os 8 .any (Rows.seqOneSpec.pre6 enc Tryz.prog Tryz.f8 Rows.seqOneRow.domain false) (Rows.seqOneSpec.post enc Tryz.prog Tryz.f8 false true false false) := by
  refine returnsInHanded_of_change (C := Tryz.checked) own started (by kernel_rfl) Tryz.func8
    (ChangeSpec.witness6 (enc := enc) (C := Tryz.checked) false ⟨#[], #[.agg #[.int .i64 0, .int .i64 0, .slice none 0 0], .int .i64 0, .slice none 0 0], []⟩ 8 (by kernel_rfl) (by kernel_rfl) (by kernel_rfl) (by kernel_rfl)) ?_
  intro W base args ds gs before hval0 hW hcnd _
  have hval : ∀ (j : Nat) t v, Tryz.f8.params[j]? = some t → args[j]? = some v → Value.okWide Tryz.prog W .any base t v := hval0
  have hW' := hW
  obtain ⟨p, q, hA0, hV, rfl, hfz, hnd⟩ := hW
  have hA : DataW.TrodAll enc Tryz.prog W 0 (fun _ => true) true Tryz.f8.params.toList args.toList ds p := hA0
  rw [Tryz.params8] at hA hval
  obtain ⟨v0, vs0, d0, ds0, p0, q0, hargs, rfl, rfl, h0, r0⟩ := trodAll_cons hA
  obtain ⟨v1, vs1, d1, ds1, p1, q1, rfl, rfl, rfl, h1, r1⟩ := trodAll_cons r0
  obtain ⟨v2, vs2, d2, ds2, p2, q2, rfl, rfl, rfl, h2, r2⟩ := trodAll_cons r1
  obtain ⟨rfl, rfl, rfl⟩ := trodAll_nil r2
  obtain rfl : args = #[v0, v1, v2] := by cases args; simp_all
  obtain ⟨rfl, rfl⟩ := trodVars_none hV
  have k0 := h0
  have lt0 : ∀ x ∈ p0, x.block < W.heap.size := by obtain ⟨m, hm⟩ := k0; exact DataW.trod_lt m _ _ _ hm
  have k1 := h1
  have lt1 : ∀ x ∈ p1, x.block < W.heap.size := by obtain ⟨m, hm⟩ := k1; exact DataW.trod_lt m _ _ _ hm
  have k2 := h2
  have lt2 : ∀ x ∈ p2, x.block < W.heap.size := by obtain ⟨m, hm⟩ := k2; exact DataW.trod_lt m _ _ _ hm
  obtain ⟨pg0, a0, cap0, rfl, hx0, hc0⟩ := prog2_of_trod (hval 0 24 v0 rfl rfl) h0
  obtain ⟨n1, rfl, hx1⟩ := int_of_trod (hval 1 3 v1 rfl rfl) h1
  obtain ⟨a2, ns2, cap2, rfl, hx2, hr2, hn2⟩ := bytes2_of_trod (hval 2 25 v2 rfl rfl) h2
  clear hA0 hval0
  refine (seqOne_any pg0 a0 cap0 n1 a2 ns2 cap2 W hx0 hc0 hx2 (bytes_none hx2 hn2) hr2).mono fun e W' ⟨he, bel⟩ => ?_
  subst he
  exact ⟨_, rfl, _, _, _, [], _, [], hW', trodAll_mk1 (shut_bool Tryz.underlying4 _), (trodAll_cons_mk (Below.trod laidOut (by kernel_rfl) (of_decide_eq_true (by kernel_rfl)) k0 bel lt0) (trodAll_cons_mk (Below.trod laidOut (by kernel_rfl) (of_decide_eq_true (by kernel_rfl)) k1 bel lt1) (trodAll_cons_mk (Below.trod laidOut (by kernel_rfl) (of_decide_eq_true (by kernel_rfl)) k2 bel lt2) trodAll_mk0))), rfl, bel.frame _, fun h => by cases h⟩

theorem over : Rows.seqOneRow.holds Tryz.pinned (OpenSpec.ofChange Rows.seqOneSpec) :=
  OpenClaim.holds_of_wide 8 Tryz.f8 rfl rfl rfl rfl rfl rfl rfl ⟨rfl, rfl, rfl, rfl, rfl⟩ rfl rfl rfl rfl rfl (by kernel_rfl) Tryz.func8 (by kernel_rfl)
    (of_decide_eq_true (by kernel_rfl)) (by unfold Func.isWrapper; first | (rw [if_pos (by decide +kernel)]; kernel_rfl) | (rw [if_neg (by decide +kernel)]; exact ⟨rfl, rfl⟩))
    (fun os started H enc _ => lifted os started H enc)

theorem proved : Rows.SeqOneSaid := over
end Go.Proofs.YthkmeeodbgdmeaaGreat.seqOne
