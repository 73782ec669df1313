/-
  SeqExact: with a budget of all prefixes it is complete whatever the order, its keys are all classes, and each is ended in just one run: the law answers true, and its arguments read as they did.
  For every input, whatever its size and however its parts share memory; nothing is asked of it but what the statement's own form asks.
-/
import Derived.OwnWalk
import Derived.WalkKit
import Derived.ProofKit
import Derived.OpenShut
import Derived.Test.YthkmeeodbgdmeaaGreatRows
import Derived.Test.YthkmeeodbgdmeaaGreatPk17
import Derived.Test.YthkmeeodbgdmeaaGreatPk22
import Derived.Test.YthkmeeodbgdmeaaGreatPk23

/- What the six laws call. -/
namespace Go.Proofs.YthkmeeodbgdmeaaGreat
open Go.RowKit

theorem bytes_none {w : World} {a : Option Addr} {ns : List Int} {cap : Nat} (h : BytesAt w a ns) (hn : a = none → cap = 0) : a = none → cap = 0 ∧ ns = [] := fun ha => ⟨hn ha, Classical.byContradiction fun hne => by
  obtain ⟨_, _, e, _⟩ := h.2 hne
  rw [ha] at e
  cases e⟩
theorem keys9_bound {p : Pg} {fuel : Int} {n : Nat} (h : preW p fuel ≤ n) : (sortK (keysOf (runsW p fuel))).length ≤ n ∧ (runsW p fuel).length ≤ n ∧ stuckN (runsW p fuel) ≤ n := by
  have h1 := sortK_len (keysOf (runsW p fuel))
  have h2 : (keysOf (runsW p fuel)).length = (runsW p fuel).length := List.length_map _
  have h3 : (runsW p fuel).length ≤ preW p fuel := runs_le 33 (s0 p fuel) []
  have h4 : stuckN (runsW p fuel) ≤ (runsW p fuel).length := by
    unfold stuckN
    exact Nat.le_trans (List.length_filter_le _ _) (Nat.le_refl _)
  omega
theorem ref9_yes (p : Pg) (a : Option Addr) (cap : Nat) (fuel : Int) (w : World) (hp : ThreadsAt w a p.threads) (hok : okPg p fuel) (hle : preW p fuel ≤ 600) : Calls Tryz.prog 11 #[.agg #[.int .i64 p.vars, .int .i64 p.mutexes, .slice a p.threads.length cap], .int .i64 fuel, .int .i64 600] w
    fun r w' => ∃ v c, r = .returned (.tuple #[.agg #[.slice v (sortK (keysOf (runsW p fuel))).length c, .int .i64 ((runsW p fuel).length : Nat), .int .i64 (preW p fuel : Nat), .int .i64 (stuckN (runsW p fuel) : Nat)], .int .i64 0]) ∧ RowAt w' v 1 strCell (sortK (keysOf (runsW p fuel))) ∧ Below w.heap.size w w' :=
  (refAll6_any p a cap fuel 600 w hp (by omega)).mono fun r w' ⟨h1, h2⟩ => by
    rw [if_pos hok] at h1
    rcases h1 with ⟨_, v, h3, h4⟩ | ⟨h3, _⟩
    · obtain ⟨av, cv, rfl, h5, _⟩ := OwnRow.form h4 strCell_len (by have := (keys9_bound hle).1; omega)
      exact ⟨av, cv, h3, h5, h2⟩
    · omega

/-- A sum's block. -/
def Sum9At (w : World) (b : Nat) (vs : Array Value) : Prop := w.heap[b]? = some (.cells vs 30 (0, 0))
theorem Sum9At.later {w w' : World} {b : Nat} {vs : Array Value} (h : Sum9At w b vs) (hb : Below w.heap.size w w') : Sum9At w' b vs := (hb.block b (Array.getElem?_eq_some_iff.1 h).1).trans h
theorem Sum9At.at_ {w : World} {b : Nat} {vs : Array Value} (h : Sum9At w b vs) (j : Nat) {v : Value} (hv : vs[j]? = some v) : w.cell? ⟨b, j, none⟩ = some v := by rw [cell_of_row w b j _ _ _ h, hv]
theorem step_world {P : Program} {o : Oper} {a : Act} {c E : Prop} {_ : Decidable c} {K : Act → World → Prop} {Q : Exit → Act → World → Prop} (w : World) (h : if c then Oper.wp P o a w K Q else E) : if c then Oper.wp P o a w K Q else E := h
theorem lit_a0 (w : World) : OwnRow (w.alloc (.cells #[] 5)) w.heap.size 5 1 byteCell (.slice (some ⟨w.heap.size, 0, none⟩) 0 0) [] := own_lit (Nat.le_refl _) (heap_alloc_new w _)
theorem lit_a (w : World) : OwnRow (w.alloc (.cells #[] 5)).drew w.heap.size 5 1 byteCell (.slice (some ⟨w.heap.size, 0, none⟩) 0 0) [] := lit_a0 w
theorem lit_b0 (w : World) : OwnRow ((w.alloc (.cells #[] 5)).alloc (.cells #[.slice none 0 0, .int .i64 0, .int .i64 0, .int .i64 0, .bool false] 34)) w.heap.size 5 1 byteCell (.slice (some ⟨w.heap.size, 0, none⟩) 0 0) [] :=
  own_lit (Nat.le_refl _) (((below_alloc1 (w.alloc (.cells #[] 5)) (.cells #[.slice none 0 0, .int .i64 0, .int .i64 0, .int .i64 0, .bool false] 34)).block w.heap.size (by simp)).trans (heap_alloc_new w _))
theorem lit_b (w : World) : OwnRow ((w.alloc (.cells #[] 5)).alloc (.cells #[.slice none 0 0, .int .i64 0, .int .i64 0, .int .i64 0, .bool false] 34)).drew w.heap.size 5 1 byteCell (.slice (some ⟨w.heap.size, 0, none⟩) 0 0) [] := lit_b0 w
theorem lit_c0 (w : World) : OwnRow ((w.alloc (.cells #[.slice none 0 0, .int .i64 0, .int .i64 0, .int .i64 0, .bool false] 34)).alloc (.cells #[] 5)) w.heap.size 5 1 byteCell (.slice (some ⟨w.heap.size + 1, 0, none⟩) 0 0) [] := by
  have := heap_alloc_new (w.alloc (.cells #[.slice none 0 0, .int .i64 0, .int .i64 0, .int .i64 0, .bool false] 34)) (.cells #[] 5)
  rw [World.size_alloc] at this
  exact own_lit (Nat.le_succ _) this
theorem rep_b0 (w : World) : RepAt ((w.alloc (.cells #[] 5)).alloc (.cells #[.slice none 0 0, .int .i64 0, .int .i64 0, .int .i64 0, .bool false] 34)) (w.heap.size + 1) #[.slice none 0 0, .int .i64 0, .int .i64 0, .int .i64 0, .bool false] := by
  have := heap_alloc_new (w.alloc (.cells #[] 5)) (.cells #[.slice none 0 0, .int .i64 0, .int .i64 0, .int .i64 0, .bool false] 34)
  rw [World.size_alloc] at this
  exact this
theorem rep_c0 (w : World) : RepAt ((w.alloc (.cells #[.slice none 0 0, .int .i64 0, .int .i64 0, .int .i64 0, .bool false] 34)).alloc (.cells #[] 5)) w.heap.size #[.slice none 0 0, .int .i64 0, .int .i64 0, .int .i64 0, .bool false] := ((below_alloc1 (w.alloc (.cells #[.slice none 0 0, .int .i64 0, .int .i64 0, .int .i64 0, .bool false] 34)) (.cells #[] 5)).block w.heap.size (by simp)).trans (heap_alloc_new w _)
theorem RepAt.grown {w w' : World} {g : Nat} {row : Option Nat} {vs : Array Value} (h : RepAt w g vs) (hg : w.grownBy w' row) (hne : some g ≠ row) : RepAt w' g vs := (hg.block g (Array.getElem?_eq_some_iff.1 h).1 hne).trans h
theorem lit_c (w : World) : OwnRow ((w.alloc (.cells #[.slice none 0 0, .int .i64 0, .int .i64 0, .int .i64 0, .bool false] 34)).alloc (.cells #[] 5)).drew w.heap.size 5 1 byteCell (.slice (some ⟨w.heap.size + 1, 0, none⟩) 0 0) [] := lit_c0 w
theorem rep_b (w : World) : RepAt ((w.alloc (.cells #[] 5)).alloc (.cells #[.slice none 0 0, .int .i64 0, .int .i64 0, .int .i64 0, .bool false] 34)).drew (w.heap.size + 1) #[.slice none 0 0, .int .i64 0, .int .i64 0, .int .i64 0, .bool false] := rep_b0 w
theorem rep_c (w : World) : RepAt ((w.alloc (.cells #[.slice none 0 0, .int .i64 0, .int .i64 0, .int .i64 0, .bool false] 34)).alloc (.cells #[] 5)).drew w.heap.size #[.slice none 0 0, .int .i64 0, .int .i64 0, .int .i64 0, .bool false] := rep_c0 w
theorem RepAt.lt {w : World} {g : Nat} {vs : Array Value} (h : RepAt w g vs) : g < w.heap.size := (Array.getElem?_eq_some_iff.1 h).1
theorem rep_b6 {w w6 : World} (h : ((w.alloc (.cells #[] 5)).alloc (.cells #[.slice none 0 0, .int .i64 0, .int .i64 0, .int .i64 0, .bool false] 34)).drew.grownBy w6 (Value.ownBlock (.slice (some ⟨w.heap.size, 0, none⟩) 0 0))) : RepAt w6 (w.heap.size + 1) #[.slice none 0 0, .int .i64 0, .int .i64 0, .int .i64 0, .bool false] := (rep_b w).grown h (by intro e; injection e with e; exact absurd e (Nat.succ_ne_self _))
theorem rep_c6 {w w6 : World} (h : ((w.alloc (.cells #[.slice none 0 0, .int .i64 0, .int .i64 0, .int .i64 0, .bool false] 34)).alloc (.cells #[] 5)).drew.grownBy w6 (Value.ownBlock (.slice (some ⟨w.heap.size + 1, 0, none⟩) 0 0))) : RepAt w6 w.heap.size #[.slice none 0 0, .int .i64 0, .int .i64 0, .int .i64 0, .bool false] := (rep_c w).grown h (by intro e; injection e with e; exact absurd e (Nat.succ_ne_self _).symm)
theorem RepAt.five {w : World} {g : Nat} {v0 v1 v2 v3 v4 : Value} (h : RepAt w g #[v0, v1, v2, v3, v4]) : (w.cell? ⟨g, 0, none⟩ = some v0 ∧ w.cell? ⟨g, 1, none⟩ = some v1 ∧ w.cell? ⟨g, 2, none⟩ = some v2 ∧ w.cell? ⟨g, 3, none⟩ = some v3 ∧ w.cell? ⟨g, 4, none⟩ = some v4) ∧ (∀ j, j < 5 → w.frozen? ⟨g, j, none⟩ = false) :=
  ⟨⟨h.at_ 0 rfl, h.at_ 1 rfl, h.at_ 2 rfl, h.at_ 3 rfl, h.at_ 4 rfl⟩, fun j _ => by unfold World.frozen?; dsimp only; rw [show w.heap[g]? = _ from h]; rfl⟩
abbrev setR5 (w : World) (g : Nat) (v0 v1 v2 v3 v4 : Value) : World := ((((w.setCell ⟨g, 0, none⟩ v0).setCell ⟨g, 1, none⟩ v1).setCell ⟨g, 2, none⟩ v2).setCell ⟨g, 3, none⟩ v3).setCell ⟨g, 4, none⟩ v4
theorem below_setR5 {B g : Nat} {a w : World} (h : Below B a w) (hg : B ≤ g) (v0 v1 v2 v3 v4 : Value) : Below B a (setR5 w g v0 v1 v2 v3 v4) :=
  ((((h.setCell (p := ⟨g, 0, none⟩) hg v0).setCell (p := ⟨g, 1, none⟩) hg v1).setCell (p := ⟨g, 2, none⟩) hg v2).setCell (p := ⟨g, 3, none⟩) hg v3).setCell (p := ⟨g, 4, none⟩) hg v4
theorem rep_set1 {w : World} {g j : Nat} {vs : Array Value} (h : RepAt w g vs) (v : Value) : RepAt (w.setCell ⟨g, j, none⟩ v) g (vs.setIfInBounds j v) := by
  have hg : g < w.heap.size := (Array.getElem?_eq_some_iff.1 h).1
  unfold RepAt at *
  unfold World.setCell
  simp [hg, Array.getElem_modify, (Array.getElem?_eq_some_iff.1 h).2]
theorem rep_set5 {w : World} {g : Nat} {a0 a1 a2 a3 a4 : Value} (h : RepAt w g #[a0, a1, a2, a3, a4]) (v0 v1 v2 v3 v4 : Value) : RepAt (setR5 w g v0 v1 v2 v3 v4) g #[v0, v1, v2, v3, v4] := rep_set1 (rep_set1 (rep_set1 (rep_set1 (rep_set1 h v0) v1) v2) v3) v4
theorem row_setR5 {w : World} {B g : Nat} {v : Value} {ks : List Key} (h : OwnRow w B 9 1 strCell v ks) (hg : g < B) (v0 v1 v2 v3 v4 : Value) : OwnRow (setR5 w g v0 v1 v2 v3 v4) B 9 1 strCell v ks :=
  ownsRow_setCell_below (a := ⟨g, 4, none⟩) (ownsRow_setCell_below (a := ⟨g, 3, none⟩) (ownsRow_setCell_below (a := ⟨g, 2, none⟩) (ownsRow_setCell_below (a := ⟨g, 1, none⟩) (ownsRow_setCell_below (a := ⟨g, 0, none⟩) h hg v0) hg v1) hg v2) hg v3) hg v4
theorem own_keys {w : World} {B : Nat} {ka : Option Addr} {n kc : Nat} {ks : List Key} (h : OwnRow w B 9 1 strCell (.slice ka n kc) ks) (hm : ks.length ≤ 1000000) : RowAt w ka 1 strCell ks := by
  obtain ⟨_, _, e, h1, _⟩ := h.form strCell_len hm
  cases e
  exact h1
/-- Where an exploration's report lies. -/
def ExpAt (p : Pg) (fuel b : Int) (order : List Int) (w : World) (s e : Value) (w' : World) : Prop :=
  ∃ g ka kc, s = .pointer (some ⟨g, 0, none⟩) ∧ e = .int .i64 0 ∧ RepAt w' g #[.slice ka (endX (s0 p fuel) order b).runs kc, .int .i64 ((endX (s0 p fuel) order b).nodes : Nat), .int .i64 ((endX (s0 p fuel) order b).runs : Nat), .int .i64 ((endX (s0 p fuel) order b).blocked : Nat), .bool (!anyX (endX (s0 p fuel) order b))] ∧ RowAt w' ka 1 strCell (sortK (endX (s0 p fuel) order b).keys) ∧ Below w.heap.size w w'
theorem exp_len (p : Pg) (fuel b : Int) (order : List Int) (hok : okPg p fuel) (hle : preW p fuel ≤ 600) : (endX (s0 p fuel) order b).nodes ≤ 600 ∧ (endX (s0 p fuel) order b).runs ≤ 600 ∧ (endX (s0 p fuel) order b).blocked ≤ 600 ∧ (sortK (endX (s0 p fuel) order b).keys).length = (endX (s0 p fuel) order b).runs := by
  have ok : (s0 p fuel).Ok fuel.toNat := new_ok hok.1 fuel.toNat (by have := hok.2; omega)
  obtain ⟨e1, e2, e3, _, e5, _⟩ := end_part (order := order) (b := b) ok
  refine ⟨by omega, by omega, by omega, ?_⟩
  rw [sortK_nodup_len e3, e2]
theorem exact_facts (p : Pg) (fuel : Int) (order : List Int) (hok : okPg p fuel) : sortK (endX (s0 p fuel) order (preW p fuel : Nat)).keys = sortK (keysOf (runsW p fuel)) ∧ (endX (s0 p fuel) order (preW p fuel : Nat)).runs = (sortK (keysOf (runsW p fuel))).length ∧ (endX (s0 p fuel) order (preW p fuel : Nat)).nodes ≤ preW p fuel ∧ anyX (endX (s0 p fuel) order (preW p fuel : Nat)) = false := by
  have ok : (s0 p fuel).Ok fuel.toNat := new_ok hok.1 fuel.toNat (by have := hok.2; omega)
  obtain ⟨e1, e2, _, _, _, e6, _⟩ := end_part (order := order) (b := (preW p fuel : Nat)) ok
  have ha := end_exact (order := order) ok (b := (preW p fuel : Nat)) (Int.le_refl _)
  exact ⟨(e6 ha).1, by rw [e2, (e6 ha).2], e1, ha⟩
theorem exp_new {p : Pg} {fuel b : Int} {order : List Int} {W w7 : World} {B : Nat} {ka : Option Addr} {kc : Nat} (hok : okPg p fuel) (hle : preW p fuel ≤ 600) (hr : OwnRow w7 B 9 1 strCell (.slice ka (endX (s0 p fuel) order b).runs kc) (sortK (endX (s0 p fuel) order b).keys)) (hb : Below W.heap.size W w7) :
    ExpAt p fuel b order W (.pointer (some ⟨w7.heap.size, 0, none⟩)) (.int .i64 0) (w7.alloc (.cells #[.slice ka (endX (s0 p fuel) order b).runs kc, .int .i64 ((endX (s0 p fuel) order b).nodes : Nat), .int .i64 ((endX (s0 p fuel) order b).runs : Nat), .int .i64 ((endX (s0 p fuel) order b).blocked : Nat), .bool (!anyX (endX (s0 p fuel) order b))] 34)) := by
  have hl := exp_len p fuel b order hok hle
  exact ⟨_, ka, kc, rfl, rfl, heap_alloc_new w7 _, (own_keys hr (by omega)).later (below_alloc1 w7 _), hb.alloc hb.size _⟩
theorem exp_set {p : Pg} {fuel b : Int} {order : List Int} {W w7 : World} {B g : Nat} {ka : Option Addr} {kc : Nat} {a0 a1 a2 a3 a4 : Value} (hok : okPg p fuel) (hle : preW p fuel ≤ 600) (ht : RepAt w7 g #[a0, a1, a2, a3, a4]) (hr : OwnRow w7 B 9 1 strCell (.slice ka (endX (s0 p fuel) order b).runs kc) (sortK (endX (s0 p fuel) order b).keys)) (hg : g < B) (hW : W.heap.size ≤ g) (hb : Below W.heap.size W w7) :
    ExpAt p fuel b order W (.pointer (some ⟨g, 0, none⟩)) (.int .i64 0) (setR5 w7 g (.slice ka (endX (s0 p fuel) order b).runs kc) (.int .i64 ((endX (s0 p fuel) order b).nodes : Nat)) (.int .i64 ((endX (s0 p fuel) order b).runs : Nat)) (.int .i64 ((endX (s0 p fuel) order b).blocked : Nat)) (.bool (!anyX (endX (s0 p fuel) order b)))) := by
  have hl := exp_len p fuel b order hok hle
  exact ⟨g, ka, kc, rfl, rfl, rep_set5 ht _ _ _ _ _, own_keys (row_setR5 hr hg _ _ _ _ _) (by omega), below_setR5 hb hW _ _ _ _ _⟩

end Go.Proofs.YthkmeeodbgdmeaaGreat

/- The law SeqExact, walked. -/
namespace Go.Proofs.YthkmeeodbgdmeaaGreat
open Go.RowKit

set_option maxRecDepth 100000 in
set_option maxHeartbeats 8000000 in
theorem seqExact_any (p : Pg) (a : Option Addr) (cap : Nat) (fuel : Int) (oa : Option Addr) (ns : List Int) (oc : Nat) (w : World) (hp : ThreadsAt w a p.threads) (hord : BytesAt w oa ns) (hon : oa = none → oc = 0 ∧ ns = []) (hbs : ∀ n ∈ ns, 0 ≤ n ∧ n < 256) :
    Calls Tryz.prog 3 #[.agg #[.int .i64 p.vars, .int .i64 p.mutexes, .slice a p.threads.length cap], .int .i64 fuel, .slice oa ns.length oc] w fun r w' => r = .returned (.bool true) ∧ Below w.heap.size w w' := by
  have HP := Lib.hid hp
  have HBX : Hid (∀ W, Below (w.alloc (.cells #[.int .i64 p.vars, .int .i64 p.mutexes, .slice a p.threads.length cap] 24)).heap.size (w.alloc (.cells #[.int .i64 p.vars, .int .i64 p.mutexes, .slice a p.threads.length cap] 24)) W → W.cell? ⟨w.heap.size, 0, none⟩ = some (.int .i64 p.vars) ∧ W.cell? ⟨w.heap.size, 1, none⟩ = some (.int .i64 p.mutexes) ∧ W.cell? ⟨w.heap.size, 2, none⟩ = some (.slice a p.threads.length cap)) := fun W hb => ⟨cell_later hb (by simp), cell_later hb (by simp), cell_later hb (by simp)⟩
  have hb1 : Below w.heap.size w (w.alloc (.cells #[.int .i64 p.vars, .int .i64 p.mutexes, .slice a p.threads.length cap] 24)) := below_alloc1 w _
  have HORD := Lib.hid hord
  have HON := Lib.hid hon
  have HBS := Lib.hid hbs
  have hm := hord.1
  unfold maxLen at hm
  clear hp hord hon hbs
  go_enter Tryz.func3, Tryz.ntmps3
  go_wp2_with fail
  generalize w.alloc (.cells #[.int .i64 p.vars, .int .i64 p.mutexes, .slice a p.threads.length cap] 24) = W1 at *
  refine (awake9_any W1).mono ?_
  rintro r W2 ⟨rfl, hb2⟩
  obtain ⟨c0, c1, c2⟩ := HBX.out W2 hb2
  have hb3 := hb1.trans (hb2.mono hb1.size)
  go_wp2_with fail
  refine (small_any p a cap fuel W2 (HP.out.later hb3)).mono ?_
  rintro r W3 ⟨rfl, hb4⟩
  have hb5 := hb2.trans (hb4.mono hb2.size)
  have hb6 := hb3.trans (hb4.mono hb3.size)
  clear c0 c1 c2 hb2 hb3 hb4
  cases hf : smallPg p fuel
  · clear hf
    go_wp2_with fail
    refine (awake9_any _).mono ?_
    rintro r w3 ⟨rfl, hb3⟩
    go_wp2
    go_ret
    exact ⟨rfl, hb6.trans (hb3.mono hb6.size)⟩
  obtain ⟨_, hok, hle⟩ := small_yes hf
  clear hf
  by_cases hl : 500 < ns.length
  · go_wp2_with fail
    refine (awake9_any _).mono ?_
    rintro r w3 ⟨rfl, hb3⟩
    go_wp2
    go_ret
    exact ⟨rfl, hb6.trans (hb3.mono hb6.size)⟩
  obtain ⟨c0, c1, c2⟩ := HBX.out W3 hb5
  go_wp2_with fail
  refine (ref9_yes p a cap fuel W3 (HP.out.later hb6) hok hle).mono ?_
  rintro r W4 ⟨ks, kc, rfl, hks, hb7⟩
  have HKS := Lib.hid (hks.later (below_alloc1 W4 (.cells #[.slice ks (sortK (keysOf (runsW p fuel))).length kc, .int .i64 ((runsW p fuel).length : Nat), .int .i64 (preW p fuel : Nat), .int .i64 (stuckN (runsW p fuel) : Nat)] 30)))
  have hb8 := hb5.trans (hb7.mono hb5.size)
  have hb9 := hb6.trans (hb7.mono hb6.size)
  have hs5 : Sum9At (W4.alloc (.cells #[.slice ks (sortK (keysOf (runsW p fuel))).length kc, .int .i64 ((runsW p fuel).length : Nat), .int .i64 (preW p fuel : Nat), .int .i64 (stuckN (runsW p fuel) : Nat)] 30)) W4.heap.size #[.slice ks (sortK (keysOf (runsW p fuel))).length kc, .int .i64 ((runsW p fuel).length : Nat), .int .i64 (preW p fuel : Nat), .int .i64 (stuckN (runsW p fuel) : Nat)] := heap_alloc_new W4 _
  have HS5 := Lib.hid hs5
  have hb10 := hb8.trans ((below_alloc1 W4 (.cells #[.slice ks (sortK (keysOf (runsW p fuel))).length kc, .int .i64 ((runsW p fuel).length : Nat), .int .i64 (preW p fuel : Nat), .int .i64 (stuckN (runsW p fuel) : Nat)] 30)).mono hb8.size)
  have hb11 := hb9.trans ((below_alloc1 W4 (.cells #[.slice ks (sortK (keysOf (runsW p fuel))).length kc, .int .i64 ((runsW p fuel).length : Nat), .int .i64 (preW p fuel : Nat), .int .i64 (stuckN (runsW p fuel) : Nat)] 30)).mono hb9.size)
  clear c0 c1 c2 hks hb5 hb6 hb7 hb8 hb9 hs5
  go_upto_region 4 with (fail)
  generalize W4.alloc (.cells #[.slice ks (sortK (keysOf (runsW p fuel))).length kc, .int .i64 ((runsW p fuel).length : Nat), .int .i64 (preW p fuel : Nat), .int .i64 (stuckN (runsW p fuel) : Nat)] 30) = W5 at *
  have HC : Hid (∀ W, Below W5.heap.size W5 W → (W.cell? ⟨w.heap.size, 0, none⟩ = some (.int .i64 p.vars) ∧ W.cell? ⟨w.heap.size, 1, none⟩ = some (.int .i64 p.mutexes) ∧ W.cell? ⟨w.heap.size, 2, none⟩ = some (.slice a p.threads.length cap)) ∧ W.cell? ⟨W4.heap.size, 2, none⟩ = some (.int .i64 (preW p fuel : Nat))) := fun W hb => ⟨HBX.out W (hb10.trans (hb.mono hb10.size)), (HS5.out.later hb).at_ 2 rfl⟩
  have HROW : Hid (∀ W, Below W5.heap.size W5 W → RowAt W oa 1 byteCell ns) := fun W hb => bytes_row (HORD.out.later (hb11.trans (hb.mono hb11.size)))
  have HPW : Hid (∀ W, Below W5.heap.size W5 W → ThreadsAt W a p.threads) := fun W hb => HP.out.later (hb11.trans (hb.mono hb11.size))
  have hlen : ns.length ≤ 500 := by omega
  clear hl
  go_cut [9, 10] (fun s9 s10 wx => ExpAt p fuel (preW p fuel : Nat) ns W5 s9 s10 wx)
  case first =>
    go_wp2_with fail
    go_region_held3 (fun W => (W.cell? ⟨w.heap.size, 0, none⟩ = some (.int .i64 p.vars) ∧ W.cell? ⟨w.heap.size, 1, none⟩ = some (.int .i64 p.mutexes) ∧ W.cell? ⟨w.heap.size, 2, none⟩ = some (.slice a p.threads.length cap)) ∧ W.cell? ⟨W4.heap.size, 2, none⟩ = some (.int .i64 (preW p fuel : Nat)))
      (first | with_reducible exact HC.out _ hB8 | with_reducible exact HC.out _ hB7 | with_reducible exact HC.out _ (hB8.alloc hB8.size _) | with_reducible exact HC.out _ (hB7.alloc hB7.size _) | with_reducible exact HC.out _ (below_setR5 hB8 (by first | omega | exact Nat.le_refl _) _ _ _ _ _) | with_reducible exact HC.out _ (Below.refl _ _).drew | with_reducible exact HC.out _ (below_alloc1 W5 _).drew | with_reducible exact HC.out _ (below_alloc2 W5 _ _).drew)
      (first
        | ((first | with_reducible refine step_world ((W5.alloc (.cells #[] 5)).drew) ?_); refine step_copyR 25 5 1 (.int .u8 0) Tryz.underlying25 infoU8 (by rfl) (by omega) (by omega) byteCell_len byteCell_one (by rfl) (.tmp 36) (.tmp 37) (by rfl) W5.heap.size _ [] (by rfl) (lit_a W5) oa oc ns (by rfl) (HROW.out _ (below_alloc1 W5 (.cells #[] 5)).drew) HON.out (by simp only [List.length_nil]; omega) (by simp <;> omega) ?_; intro v1 w6 hown hb hgr; obtain ⟨av, ac, hav, hby, hlt⟩ := own_bytes hown (by simp only [List.nil_append]; omega); rw [List.nil_append] at hav hby; subst hav; have HBY := Lib.hid (And.intro hby hlt); have hB7 : Below W5.heap.size W5 w6 := Below.trans (below_alloc1 W5 (.cells #[] 5)).drew hb; have hz7 := hB7.size; have HT6 : Hid True := trivial; clear hown hb hby hlt)
        | ((first | with_reducible refine step_world (((W5.alloc (.cells #[] 5)).alloc (.cells #[.slice none 0 0, .int .i64 0, .int .i64 0, .int .i64 0, .bool false] 34)).drew) ?_); refine step_copyR 25 5 1 (.int .u8 0) Tryz.underlying25 infoU8 (by rfl) (by omega) (by omega) byteCell_len byteCell_one (by rfl) (.tmp 36) (.tmp 37) (by rfl) W5.heap.size _ [] (by rfl) (lit_b W5) oa oc ns (by rfl) (HROW.out _ (below_alloc2 W5 (.cells #[] 5) (.cells #[.slice none 0 0, .int .i64 0, .int .i64 0, .int .i64 0, .bool false] 34)).drew) HON.out (by simp only [List.length_nil]; omega) (by simp <;> omega) ?_; intro v1 w6 hown hb hgr; obtain ⟨av, ac, hav, hby, hlt⟩ := own_bytes hown (by simp only [List.nil_append]; omega); rw [List.nil_append] at hav hby; subst hav; have HBY := Lib.hid (And.intro hby hlt); have hB7 : Below W5.heap.size W5 w6 := Below.trans (below_alloc2 W5 (.cells #[] 5) (.cells #[.slice none 0 0, .int .i64 0, .int .i64 0, .int .i64 0, .bool false] 34)).drew hb; have hz7 := hB7.size; have HT6 := Lib.hid (rep_b6 hgr); clear hown hb hby hlt)
        | ((first | with_reducible refine step_world (((W5.alloc (.cells #[.slice none 0 0, .int .i64 0, .int .i64 0, .int .i64 0, .bool false] 34)).alloc (.cells #[] 5)).drew) ?_); refine step_copyR 25 5 1 (.int .u8 0) Tryz.underlying25 infoU8 (by rfl) (by omega) (by omega) byteCell_len byteCell_one (by rfl) (.tmp 36) (.tmp 37) (by rfl) W5.heap.size _ [] (by rfl) (lit_c W5) oa oc ns (by rfl) (HROW.out _ (below_alloc2 W5 (.cells #[.slice none 0 0, .int .i64 0, .int .i64 0, .int .i64 0, .bool false] 34) (.cells #[] 5)).drew) HON.out (by simp only [List.length_nil]; omega) (by simp <;> omega) ?_; intro v1 w6 hown hb hgr; obtain ⟨av, ac, hav, hby, hlt⟩ := own_bytes hown (by simp only [List.nil_append]; omega); rw [List.nil_append] at hav hby; subst hav; have HBY := Lib.hid (And.intro hby hlt); have hB7 : Below W5.heap.size W5 w6 := Below.trans (below_alloc2 W5 (.cells #[.slice none 0 0, .int .i64 0, .int .i64 0, .int .i64 0, .bool false] 34) (.cells #[] 5)).drew hb; have hz7 := hB7.size; have HT6 := Lib.hid (rep_c6 hgr); clear hown hb hby hlt)
        | (go_at_call 12; ((with_reducible refine (explore_yes p a cap fuel (preW p fuel : Nat) av ac ns w6 (HPW.out _ hB7) HBY.out.1 HBY.out.2 HBS.out (by omega) hok hle).mono ?_); rintro r w7 ⟨ka, kc, rfl, hrow, hb⟩; have HR7 := Lib.hid hrow; have hB8 := hB7.trans (hb.mono hB7.size); (first | (have HT7 := Lib.hid (HT6.out.later hb); obtain ⟨⟨x0, x1, x2, x3, x4⟩, f⟩ := HT7.out.five; have f0 := f 0 (by omega); have f1 := f 1 (by omega); have f2 := f 2 (by omega); have f3 := f 3 (by omega); have f4 := f 4 (by omega); clear f) | skip); clear hrow hb))
        | (go_at_call 12; ((with_reducible refine (explore_yes p a cap fuel (preW p fuel : Nat) av ac ns (w6.alloc (.cells #[.slice none 0 0, .int .i64 0, .int .i64 0, .int .i64 0, .bool false] 34)) (HPW.out _ (hB7.alloc hB7.size (.cells #[.slice none 0 0, .int .i64 0, .int .i64 0, .int .i64 0, .bool false] 34))) (HBY.out.1.later (below_alloc1 w6 _)) (fun x hx => Nat.lt_of_lt_of_le (HBY.out.2 x hx) (below_alloc1 w6 (.cells #[.slice none 0 0, .int .i64 0, .int .i64 0, .int .i64 0, .bool false] 34)).size) HBS.out (by omega) hok hle).mono ?_); rintro r w7 ⟨ka, kc, rfl, hrow, hb⟩; have HR7 := Lib.hid hrow; have hB8 := (hB7.alloc hB7.size (.cells #[.slice none 0 0, .int .i64 0, .int .i64 0, .int .i64 0, .bool false] 34)).trans (hb.mono (hB7.alloc hB7.size (.cells #[.slice none 0 0, .int .i64 0, .int .i64 0, .int .i64 0, .bool false] 34)).size); (first | (have HT7 := Lib.hid ((show RepAt (w6.alloc (.cells #[.slice none 0 0, .int .i64 0, .int .i64 0, .int .i64 0, .bool false] 34)) w6.heap.size #[.slice none 0 0, .int .i64 0, .int .i64 0, .int .i64 0, .bool false] from heap_alloc_new w6 _).later hb); obtain ⟨⟨x0, x1, x2, x3, x4⟩, f⟩ := HT7.out.five; have f0 := f 0 (by omega); have f1 := f 1 (by omega); have f2 := f 2 (by omega); have f3 := f 3 (by omega); have f4 := f 4 (by omega); clear f) | skip); clear hrow hb)))
    all_goals go_wp2_with fail
    all_goals go_meet
    all_goals first
      | with_reducible exact exp_new hok hle HR7.out hB8
      | with_reducible refine exp_set hok hle HT7.out HR7.out ?_ ?_ hB8
    all_goals first
      | omega
      | exact HT6.out.lt
      | (rw [World.size_alloc]; omega)
  case rest =>
    obtain ⟨g, ka, xc, rfl, rfl, hrep, hrow, hb12⟩ := hcut
    obtain ⟨e1, e2, e3, e4⟩ := exact_facts p fuel ns hok
    have e5 : (sortK (keysOf (runsW p fuel))).length ≤ 600 := (keys9_bound hle).1
    rw [e1] at hrow
    rw [e2, e4] at hrep
    have HREP := Lib.hid hrep
    have HROW2 := Lib.hid hrow
    have HS6 := Lib.hid (HS5.out.later hb12)
    have HKS2 := Lib.hid (HKS.out.later hb12)
    have hb13 := hb11.trans (hb12.mono hb11.size)
    clear e1 e2 e4 hrep hrow hb10 hb12
    generalize sortK (keysOf (runsW p fuel)) = KS at *
    generalize (endX (s0 p fuel) ns (preW p fuel : Nat)).nodes = ND at *
    generalize preW p fuel = M at *
    obtain ⟨⟨x0, x1, x2, x3, x4⟩, _⟩ := HREP.out.five
    have y0 := HS6.out.at_ 0 rfl
    have y2 := HS6.out.at_ 2 rfl
    go_wp2_with fail
    refine (sameK_any ka ks xc kc KS KS wc HROW2.out HKS2.out (by omega) (by omega)).mono ?_
    rintro r w9 ⟨rfl, hb14⟩
    have hb15 := hb13.trans (hb14.mono hb13.size)
    clear x0 x1 x2 x3 x4 y0 y2 hb13
    obtain ⟨⟨x0, x1, x2, x3, x4⟩, _⟩ := (HREP.out.later hb14).five
    have y0 := (HS6.out.later hb14).at_ 0 rfl
    have y2 := (HS6.out.later hb14).at_ 2 rfl
    have y9 : decide (KS = KS) = true := decide_eq_true rfl
    have y8 : decide ((ND : Int) ≤ (M : Int)) = true := decide_eq_true (by omega)
    go_wp2_with fail
    all_goals go_ret
    all_goals exact ⟨by simp <;> omega, hb15⟩

end Go.Proofs.YthkmeeodbgdmeaaGreat

/-
  SeqExact: with a budget of all prefixes it is complete whatever the order, its keys are all classes, and each is ended in just one run: the law answers true, and its arguments read as they did.
  For every input, whatever its size and however its parts share memory; nothing is asked of it but what the statement's own form asks.
-/
namespace Go.Proofs.YthkmeeodbgdmeaaGreat.seqExact
open Go.ChangeShapes Go.WideShapes Go.ChangeAt Go.RowKit

theorem own : ownKnob Tryz.prog.godebug = none := by kernel_rfl
theorem laidOut : laidOutB Tryz.prog = true := by kernel_rfl

set_option maxRecDepth 100000 in
theorem lifted (os : Os) (started : os.Started) (H : Type) (enc : TypeId × Value → H) :
    ReturnsInHanded {} Tryz.checked os 3 .any (Rows.seqExactSpec.pre6 enc Tryz.prog Tryz.f3 Rows.seqExactRow.domain false) (Rows.seqExactSpec.post enc Tryz.prog Tryz.f3 false true false false) := by
  refine returnsInHanded_of_change (C := Tryz.checked) own started (by kernel_rfl) Tryz.func3
    (ChangeSpec.witness6 (enc := enc) (C := Tryz.checked) false ⟨#[], #[.agg #[.int .i64 0, .int .i64 0, .slice none 0 0], .int .i64 0, .slice none 0 0], []⟩ 8 (by kernel_rfl) (by kernel_rfl) (by kernel_rfl) (by kernel_rfl)) ?_
  intro W base args ds gs before hval0 hW hcnd _
  have hval : ∀ (j : Nat) t v, Tryz.f3.params[j]? = some t → args[j]? = some v → Value.okWide Tryz.prog W .any base t v := hval0
  have hW' := hW
  obtain ⟨p, q, hA0, hV, rfl, hfz, hnd⟩ := hW
  have hA : DataW.TrodAll enc Tryz.prog W 0 (fun _ => true) true Tryz.f3.params.toList args.toList ds p := hA0
  rw [Tryz.params3] at hA hval
  obtain ⟨v0, vs0, d0, ds0, p0, q0, hargs, rfl, rfl, h0, r0⟩ := trodAll_cons hA
  obtain ⟨v1, vs1, d1, ds1, p1, q1, rfl, rfl, rfl, h1, r1⟩ := trodAll_cons r0
  obtain ⟨v2, vs2, d2, ds2, p2, q2, rfl, rfl, rfl, h2, r2⟩ := trodAll_cons r1
  obtain ⟨rfl, rfl, rfl⟩ := trodAll_nil r2
  obtain rfl : args = #[v0, v1, v2] := by cases args; simp_all
  obtain ⟨rfl, rfl⟩ := trodVars_none hV
  have k0 := h0
  have lt0 : ∀ x ∈ p0, x.block < W.heap.size := by obtain ⟨m, hm⟩ := k0; exact DataW.trod_lt m _ _ _ hm
  have k1 := h1
  have lt1 : ∀ x ∈ p1, x.block < W.heap.size := by obtain ⟨m, hm⟩ := k1; exact DataW.trod_lt m _ _ _ hm
  have k2 := h2
  have lt2 : ∀ x ∈ p2, x.block < W.heap.size := by obtain ⟨m, hm⟩ := k2; exact DataW.trod_lt m _ _ _ hm
  obtain ⟨pg0, a0, cap0, rfl, hx0, _⟩ := prog_of_trod (hval 0 24 v0 rfl rfl) h0
  obtain ⟨n1, rfl, hx1⟩ := int_of_trod (hval 1 3 v1 rfl rfl) h1
  obtain ⟨a2, ns2, cap2, rfl, hx2, hr2, hn2⟩ := bytes2_of_trod (hval 2 25 v2 rfl rfl) h2
  clear hA0 hval0
  refine (seqExact_any pg0 a0 cap0 n1 a2 ns2 cap2 W hx0 hx2 (bytes_none hx2 hn2) hr2).mono fun e W' ⟨he, bel⟩ => ?_
  subst he
  exact ⟨_, rfl, _, _, _, [], _, [], hW', trodAll_mk1 (shut_bool Tryz.underlying4 _), (trodAll_cons_mk (Below.trod laidOut (by kernel_rfl) (of_decide_eq_true (by kernel_rfl)) k0 bel lt0) (trodAll_cons_mk (Below.trod laidOut (by kernel_rfl) (of_decide_eq_true (by kernel_rfl)) k1 bel lt1) (trodAll_cons_mk (Below.trod laidOut (by kernel_rfl) (of_decide_eq_true (by kernel_rfl)) k2 bel lt2) trodAll_mk0))), rfl, bel.frame _, fun h => by cases h⟩

theorem over : Rows.seqExactRow.holds Tryz.pinned (OpenSpec.ofChange Rows.seqExactSpec) :=
  OpenClaim.holds_of_wide 3 Tryz.f3 rfl rfl rfl rfl rfl rfl rfl ⟨rfl, rfl, rfl, rfl, rfl⟩ rfl rfl rfl rfl rfl (by kernel_rfl) Tryz.func3 (by kernel_rfl)
    (of_decide_eq_true (by kernel_rfl)) (by unfold Func.isWrapper; first | (rw [if_pos (by decide +kernel)]; kernel_rfl) | (rw [if_neg (by decide +kernel)]; exact ⟨rfl, rfl⟩))
    (fun os started H enc _ => lifted os started H enc)

theorem proved : Rows.SeqExactSaid := over
end Go.Proofs.YthkmeeodbgdmeaaGreat.seqExact
