import Derived.ProofKit
import Derived.Lib.SmallJoins
import Derived.Deep.Slices
import Derived.Deep.Fields
import Derived.OpenShut
import Derived.Test.YtnldkmcijmbhcaaGreatPk01
import Derived.Test.YtnldkmcijmbhcaaGreatPk17
import Derived.Test.YtnldkmcijmbhcaaGreatPk22

/- What the six laws call. -/
namespace Go.Proofs.YtnldkmcijmbhcaaGreat
open Go.RowKit

theorem bytes_none {w : World} {a : Option Addr} {ns : List Int} {cap : Nat} (h : BytesAt w a ns) (hn : a = none → cap = 0) : a = none → cap = 0 ∧ ns = [] := fun ha => ⟨hn ha, Classical.byContradiction fun hne => by
  obtain ⟨_, _, e, _⟩ := h.2 hne
  rw [ha] at e
  cases e⟩
theorem keys9_bound {p : Pg} {fuel : Int} {n : Nat} (h : preW p fuel ≤ n) : (sortK (keysOf (runsW p fuel))).length ≤ n ∧ (runsW p fuel).length ≤ n ∧ stuckN (runsW p fuel) ≤ n := by
  have h1 := sortK_len (keysOf (runsW p fuel))
  have h2 : (keysOf (runsW p fuel)).length = (runsW p fuel).length := List.length_map _
  have h3 : (runsW p fuel).length ≤ preW p fuel := runs_le 33 (s0 p fuel) []
  have h4 : stuckN (runsW p fuel) ≤ (runsW p fuel).length := by
    unfold stuckN
    exact Nat.le_trans (List.length_filter_le _ _) (Nat.le_refl _)
  omega
theorem ref9_yes (p : Pg) (a : Option Addr) (cap : Nat) (fuel : Int) (w : World) (hp : ThreadsAt w a p.threads) (hok : okPg p fuel) (hle : preW p fuel ≤ 600) : Calls Tryz.prog 9 #[.agg #[.int .i64 p.vars, .int .i64 p.mutexes, .slice a p.threads.length cap], .int .i64 fuel, .int .i64 600] w
    fun r w' => ∃ v c, r = .returned (.tuple #[.agg #[.slice v (sortK (keysOf (runsW p fuel))).length c, .int .i64 ((runsW p fuel).length : Nat), .int .i64 (preW p fuel : Nat), .int .i64 (stuckN (runsW p fuel) : Nat)], .int .i64 0]) ∧ RowAt w' v 1 strCell (sortK (keysOf (runsW p fuel))) ∧ Below w.heap.size w w' :=
  (refAll6_any p a cap fuel 600 w hp (by omega)).mono fun r w' ⟨h1, h2⟩ => by
    rw [if_pos hok] at h1
    rcases h1 with ⟨_, v, h3, h4⟩ | ⟨h3, _⟩
    · obtain ⟨av, cv, rfl, h5, _⟩ := OwnRow.form h4 strCell_len (by have := (keys9_bound hle).1; omega)
      exact ⟨av, cv, h3, h5, h2⟩
    · omega

/-- A sum's block. -/
def Sum9At (w : World) (b : Nat) (vs : Array Value) : Prop := w.heap[b]? = some (.cells vs 31 (0, 0))
theorem Sum9At.later {w w' : World} {b : Nat} {vs : Array Value} (h : Sum9At w b vs) (hb : Below w.heap.size w w') : Sum9At w' b vs := (hb.block b (Array.getElem?_eq_some_iff.1 h).1).trans h
theorem Sum9At.at_ {w : World} {b : Nat} {vs : Array Value} (h : Sum9At w b vs) (j : Nat) {v : Value} (hv : vs[j]? = some v) : w.cell? ⟨b, j, none⟩ = some v := by rw [cell_of_row w b j _ _ _ h, hv]
theorem step_world {P : Program} {o : Oper} {a : Act} {c E : Prop} {_ : Decidable c} {K : Act → World → Prop} {Q : Exit → Act → World → Prop} (w : World) (h : if c then Oper.wp P o a w K Q else E) : if c then Oper.wp P o a w K Q else E := h
theorem lit_a0 (w : World) : OwnRow (w.alloc (.cells #[] 5)) w.heap.size 5 1 byteCell (.slice (some ⟨w.heap.size, 0, none⟩) 0 0) [] := own_lit (Nat.le_refl _) (heap_alloc_new w _)
theorem lit_a (w : World) : OwnRow (w.alloc (.cells #[] 5)).drew w.heap.size 5 1 byteCell (.slice (some ⟨w.heap.size, 0, none⟩) 0 0) [] := lit_a0 w
theorem lit_b0 (w : World) : OwnRow ((w.alloc (.cells #[] 5)).alloc (.cells #[.slice none 0 0, .int .i64 0, .int .i64 0, .int .i64 0, .bool false] 35)) w.heap.size 5 1 byteCell (.slice (some ⟨w.heap.size, 0, none⟩) 0 0) [] :=
  own_lit (Nat.le_refl _) (((below_alloc1 (w.alloc (.cells #[] 5)) (.cells #[.slice none 0 0, .int .i64 0, .int .i64 0, .int .i64 0, .bool false] 35)).block w.heap.size (by simp)).trans (heap_alloc_new w _))
theorem lit_b (w : World) : OwnRow ((w.alloc (.cells #[] 5)).alloc (.cells #[.slice none 0 0, .int .i64 0, .int .i64 0, .int .i64 0, .bool false] 35)).drew w.heap.size 5 1 byteCell (.slice (some ⟨w.heap.size, 0, none⟩) 0 0) [] := lit_b0 w
theorem lit_c0 (w : World) : OwnRow ((w.alloc (.cells #[.slice none 0 0, .int .i64 0, .int .i64 0, .int .i64 0, .bool false] 35)).alloc (.cells #[] 5)) w.heap.size 5 1 byteCell (.slice (some ⟨w.heap.size + 1, 0, none⟩) 0 0) [] := by
  have := heap_alloc_new (w.alloc (.cells #[.slice none 0 0, .int .i64 0, .int .i64 0, .int .i64 0, .bool false] 35)) (.cells #[] 5)
  rw [World.size_alloc] at this
  exact own_lit (Nat.le_succ _) this
theorem rep_b0 (w : World) : RepAt ((w.alloc (.cells #[] 5)).alloc (.cells #[.slice none 0 0, .int .i64 0, .int .i64 0, .int .i64 0, .bool false] 35)) (w.heap.size + 1) #[.slice none 0 0, .int .i64 0, .int .i64 0, .int .i64 0, .bool false] := by
  have := heap_alloc_new (w.alloc (.cells #[] 5)) (.cells #[.slice none 0 0, .int .i64 0, .int .i64 0, .int .i64 0, .bool false] 35)
  rw [World.size_alloc] at this
  exact this
theorem rep_c0 (w : World) : RepAt ((w.alloc (.cells #[.slice none 0 0, .int .i64 0, .int .i64 0, .int .i64 0, .bool false] 35)).alloc (.cells #[] 5)) w.heap.size #[.slice none 0 0, .int .i64 0, .int .i64 0, .int .i64 0, .bool false] := ((below_alloc1 (w.alloc (.cells #[.slice none 0 0, .int .i64 0, .int .i64 0, .int .i64 0, .bool false] 35)) (.cells #[] 5)).block w.heap.size (by simp)).trans (heap_alloc_new w _)
theorem RepAt.grown {w w' : World} {g : Nat} {row : Option Nat} {vs : Array Value} (h : RepAt w g vs) (hg : w.grownBy w' row) (hne : some g ≠ row) : RepAt w' g vs := (hg.block g (Array.getElem?_eq_some_iff.1 h).1 hne).trans h
theorem lit_c (w : World) : OwnRow ((w.alloc (.cells #[.slice none 0 0, .int .i64 0, .int .i64 0, .int .i64 0, .bool false] 35)).alloc (.cells #[] 5)).drew w.heap.size 5 1 byteCell (.slice (some ⟨w.heap.size + 1, 0, none⟩) 0 0) [] := lit_c0 w
theorem rep_b (w : World) : RepAt ((w.alloc (.cells #[] 5)).alloc (.cells #[.slice none 0 0, .int .i64 0, .int .i64 0, .int .i64 0, .bool false] 35)).drew (w.heap.size + 1) #[.slice none 0 0, .int .i64 0, .int .i64 0, .int .i64 0, .bool false] := rep_b0 w
theorem rep_c (w : World) : RepAt ((w.alloc (.cells #[.slice none 0 0, .int .i64 0, .int .i64 0, .int .i64 0, .bool false] 35)).alloc (.cells #[] 5)).drew w.heap.size #[.slice none 0 0, .int .i64 0, .int .i64 0, .int .i64 0, .bool false] := rep_c0 w
theorem RepAt.lt {w : World} {g : Nat} {vs : Array Value} (h : RepAt w g vs) : g < w.heap.size := (Array.getElem?_eq_some_iff.1 h).1
theorem rep_b6 {w w6 : World} (h : ((w.alloc (.cells #[] 5)).alloc (.cells #[.slice none 0 0, .int .i64 0, .int .i64 0, .int .i64 0, .bool false] 35)).drew.grownBy w6 (Value.ownBlock (.slice (some ⟨w.heap.size, 0, none⟩) 0 0))) : RepAt w6 (w.heap.size + 1) #[.slice none 0 0, .int .i64 0, .int .i64 0, .int .i64 0, .bool false] := (rep_b w).grown h (by intro e; injection e with e; exact absurd e (Nat.succ_ne_self _))
theorem rep_c6 {w w6 : World} (h : ((w.alloc (.cells #[.slice none 0 0, .int .i64 0, .int .i64 0, .int .i64 0, .bool false] 35)).alloc (.cells #[] 5)).drew.grownBy w6 (Value.ownBlock (.slice (some ⟨w.heap.size + 1, 0, none⟩) 0 0))) : RepAt w6 w.heap.size #[.slice none 0 0, .int .i64 0, .int .i64 0, .int .i64 0, .bool false] := (rep_c w).grown h (by intro e; injection e with e; exact absurd e (Nat.succ_ne_self _).symm)
theorem RepAt.five {w : World} {g : Nat} {v0 v1 v2 v3 v4 : Value} (h : RepAt w g #[v0, v1, v2, v3, v4]) : (w.cell? ⟨g, 0, none⟩ = some v0 ∧ w.cell? ⟨g, 1, none⟩ = some v1 ∧ w.cell? ⟨g, 2, none⟩ = some v2 ∧ w.cell? ⟨g, 3, none⟩ = some v3 ∧ w.cell? ⟨g, 4, none⟩ = some v4) ∧ (∀ j, j < 5 → w.frozen? ⟨g, j, none⟩ = false) :=
  ⟨⟨h.at_ 0 rfl, h.at_ 1 rfl, h.at_ 2 rfl, h.at_ 3 rfl, h.at_ 4 rfl⟩, fun j _ => by unfold World.frozen?; dsimp only; rw [show w.heap[g]? = _ from h]; rfl⟩
abbrev setR5 (w : World) (g : Nat) (v0 v1 v2 v3 v4 : Value) : World := ((((w.setCell ⟨g, 0, none⟩ v0).setCell ⟨g, 1, none⟩ v1).setCell ⟨g, 2, none⟩ v2).setCell ⟨g, 3, none⟩ v3).setCell ⟨g, 4, none⟩ v4
theorem below_setR5 {B g : Nat} {a w : World} (h : Below B a w) (hg : B ≤ g) (v0 v1 v2 v3 v4 : Value) : Below B a (setR5 w g v0 v1 v2 v3 v4) :=
  ((((h.setCell (p := ⟨g, 0, none⟩) hg v0).setCell (p := ⟨g, 1, none⟩) hg v1).setCell (p := ⟨g, 2, none⟩) hg v2).setCell (p := ⟨g, 3, none⟩) hg v3).setCell (p := ⟨g, 4, none⟩) hg v4
theorem rep_set1 {w : World} {g j : Nat} {vs : Array Value} (h : RepAt w g vs) (v : Value) : RepAt (w.setCell ⟨g, j, none⟩ v) g (vs.setIfInBounds j v) := by
  have hg : g < w.heap.size := (Array.getElem?_eq_some_iff.1 h).1
  unfold RepAt at *
  unfold World.setCell
  simp [hg, Array.getElem_modify, (Array.getElem?_eq_some_iff.1 h).2]
theorem rep_set5 {w : World} {g : Nat} {a0 a1 a2 a3 a4 : Value} (h : RepAt w g #[a0, a1, a2, a3, a4]) (v0 v1 v2 v3 v4 : Value) : RepAt (setR5 w g v0 v1 v2 v3 v4) g #[v0, v1, v2, v3, v4] := rep_set1 (rep_set1 (rep_set1 (rep_set1 (rep_set1 h v0) v1) v2) v3) v4
theorem row_setR5 {w : World} {B g : Nat} {v : Value} {ks : List Key} (h : OwnRow w B 9 1 strCell v ks) (hg : g < B) (v0 v1 v2 v3 v4 : Value) : OwnRow (setR5 w g v0 v1 v2 v3 v4) B 9 1 strCell v ks :=
  ownsRow_setCell_below (a := ⟨g, 4, none⟩) (ownsRow_setCell_below (a := ⟨g, 3, none⟩) (ownsRow_setCell_below (a := ⟨g, 2, none⟩) (ownsRow_setCell_below (a := ⟨g, 1, none⟩) (ownsRow_setCell_below (a := ⟨g, 0, none⟩) h hg v0) hg v1) hg v2) hg v3) hg v4
theorem own_keys {w : World} {B : Nat} {ka : Option Addr} {n kc : Nat} {ks : List Key} (h : OwnRow w B 9 1 strCell (.slice ka n kc) ks) (hm : ks.length ≤ 1000000) : RowAt w ka 1 strCell ks := by
  obtain ⟨_, _, e, h1, _⟩ := h.form strCell_len hm
  cases e
  exact h1
/-- Where an exploration's report lies. -/
def ExpAt (p : Pg) (fuel b : Int) (order : List Int) (w : World) (s e : Value) (w' : World) : Prop :=
  ∃ g ka kc, s = .pointer (some ⟨g, 0, none⟩) ∧ e = .int .i64 0 ∧ RepAt w' g #[.slice ka (endX (s0 p fuel) order b).runs kc, .int .i64 ((endX (s0 p fuel) order b).nodes : Nat), .int .i64 ((endX (s0 p fuel) order b).runs : Nat), .int .i64 ((endX (s0 p fuel) order b).blocked : Nat), .bool (!anyX (endX (s0 p fuel) order b))] ∧ RowAt w' ka 1 strCell (sortK (endX (s0 p fuel) order b).keys) ∧ Below w.heap.size w w'
theorem exp_len (p : Pg) (fuel b : Int) (order : List Int) (hok : okPg p fuel) (hle : preW p fuel ≤ 600) : (endX (s0 p fuel) order b).nodes ≤ 600 ∧ (endX (s0 p fuel) order b).runs ≤ 600 ∧ (endX (s0 p fuel) order b).blocked ≤ 600 ∧ (sortK (endX (s0 p fuel) order b).keys).length = (endX (s0 p fuel) order b).runs := by
  have ok : (s0 p fuel).Ok fuel.toNat := new_ok hok.1 fuel.toNat (by have := hok.2; omega)
  obtain ⟨e1, e2, e3, _, e5, _⟩ := end_part (order := order) (b := b) ok
  refine ⟨by omega, by omega, by omega, ?_⟩
  rw [sortK_nodup_len e3, e2]
theorem exact_facts (p : Pg) (fuel : Int) (order : List Int) (hok : okPg p fuel) : sortK (endX (s0 p fuel) order (preW p fuel : Nat)).keys = sortK (keysOf (runsW p fuel)) ∧ (endX (s0 p fuel) order (preW p fuel : Nat)).runs = (sortK (keysOf (runsW p fuel))).length ∧ (endX (s0 p fuel) order (preW p fuel : Nat)).nodes ≤ preW p fuel ∧ anyX (endX (s0 p fuel) order (preW p fuel : Nat)) = false := by
  have ok : (s0 p fuel).Ok fuel.toNat := new_ok hok.1 fuel.toNat (by have := hok.2; omega)
  obtain ⟨e1, e2, _, _, _, e6, _⟩ := end_part (order := order) (b := (preW p fuel : Nat)) ok
  have ha := end_exact (order := order) ok (b := (preW p fuel : Nat)) (Int.le_refl _)
  exact ⟨(e6 ha).1, by rw [e2, (e6 ha).2], e1, ha⟩
theorem exp_new {p : Pg} {fuel b : Int} {order : List Int} {W w7 : World} {B : Nat} {ka : Option Addr} {kc : Nat} (hok : okPg p fuel) (hle : preW p fuel ≤ 600) (hr : OwnRow w7 B 9 1 strCell (.slice ka (endX (s0 p fuel) order b).runs kc) (sortK (endX (s0 p fuel) order b).keys)) (hb : Below W.heap.size W w7) :
    ExpAt p fuel b order W (.pointer (some ⟨w7.heap.size, 0, none⟩)) (.int .i64 0) (w7.alloc (.cells #[.slice ka (endX (s0 p fuel) order b).runs kc, .int .i64 ((endX (s0 p fuel) order b).nodes : Nat), .int .i64 ((endX (s0 p fuel) order b).runs : Nat), .int .i64 ((endX (s0 p fuel) order b).blocked : Nat), .bool (!anyX (endX (s0 p fuel) order b))] 35)) := by
  have hl := exp_len p fuel b order hok hle
  exact ⟨_, ka, kc, rfl, rfl, heap_alloc_new w7 _, (own_keys hr (by omega)).later (below_alloc1 w7 _), hb.alloc hb.size _⟩
theorem exp_set {p : Pg} {fuel b : Int} {order : List Int} {W w7 : World} {B g : Nat} {ka : Option Addr} {kc : Nat} {a0 a1 a2 a3 a4 : Value} (hok : okPg p fuel) (hle : preW p fuel ≤ 600) (ht : RepAt w7 g #[a0, a1, a2, a3, a4]) (hr : OwnRow w7 B 9 1 strCell (.slice ka (endX (s0 p fuel) order b).runs kc) (sortK (endX (s0 p fuel) order b).keys)) (hg : g < B) (hW : W.heap.size ≤ g) (hb : Below W.heap.size W w7) :
    ExpAt p fuel b order W (.pointer (some ⟨g, 0, none⟩)) (.int .i64 0) (setR5 w7 g (.slice ka (endX (s0 p fuel) order b).runs kc) (.int .i64 ((endX (s0 p fuel) order b).nodes : Nat)) (.int .i64 ((endX (s0 p fuel) order b).runs : Nat)) (.int .i64 ((endX (s0 p fuel) order b).blocked : Nat)) (.bool (!anyX (endX (s0 p fuel) order b)))) := by
  have hl := exp_len p fuel b order hok hle
  exact ⟨g, ka, kc, rfl, rfl, rep_set5 ht _ _ _ _ _, own_keys (row_setR5 hr hg _ _ _ _ _) (by omega), below_setR5 hb hW _ _ _ _ _⟩

end Go.Proofs.YtnldkmcijmbhcaaGreat

/- An argument that is a program, opened. -/
namespace Go.Proofs.YtnldkmcijmbhcaaGreat
open Go.RowKit Go.Deep Go.Joins Go.WideShapes Go.ChangeShapes

section
variable {H : Type} {enc : TypeId × Value → H} {W : World} {base : Nat} {spare : Nat → Bool} {held : Bool}

set_option maxRecDepth 100000 in
theorem ins_of_trod {fuel : Nat} {cs : List Value} {x : DataW H × List MemPlace} (h : DataW.trod enc Tryz.prog W base spare held fuel 48 cs = some x) :
    ∃ i : Ins, cs = [.int .i64 i.kind, .int .i64 i.r, .int .i64 i.x, .int .i64 i.n] := by
  obtain ⟨xs, n, _, _, hlen, hxl, hf⟩ := DataW.trod_struct Tryz.underlying48 h
  have h4 : cs.length = 4 := hlen.trans (by kernel_rfl)
  have hx4 : xs.length = 4 := hxl.trans rfl
  match cs, h4, xs, hx4 with
  | [c0, c1, c2, c3], _, [x0, x1, x2, x3], _ =>
    have e1 : Tryz.prog.cellsOf 3 = 1 := by kernel_rfl
    have e2 : Tryz.prog.cellsOf 2 = 1 := by kernel_rfl
    have g0 := hf 0 _ rfl
    have g1 := hf 1 _ rfl
    have g2 := hf 2 _ rfl
    have g3 := hf 3 _ rfl
    simp [e1, e2] at g0 g1 g2 g3
    obtain ⟨n0, r0, _⟩ := DataW.trod_int Tryz.underlying3 g0
    obtain ⟨n1, r1, _⟩ := DataW.trod_int Tryz.underlying3 g1
    obtain ⟨n2, r2, _⟩ := DataW.trod_int Tryz.underlying3 g2
    obtain ⟨n3, r3, _⟩ := DataW.trod_int Tryz.underlying2 g3
    simp at r0 r1 r2 r3
    exact ⟨⟨n0, n1, n2, n3⟩, by simp [r0, r1, r2, r3]⟩

set_option maxRecDepth 100000 in
theorem code_of_trod {fuel : Nat} {cs : List Value} {x : DataW H × List MemPlace} (h : DataW.trod enc Tryz.prog W base spare held fuel 44 cs = some x) :
    ∃ (a : Option Addr) (l : List Ins) (cap : Nat), cs = [.slice a l.length cap] ∧ CodeAt W a l ∧ (a = none → cap = 0) := by
  rcases open_slice Tryz.underlying44 h with ⟨rfl, _⟩ | ⟨a, len, cap, m, n, D, Pl, rfl, _, hl, hm, hmm, _, hi⟩
  · exact ⟨none, [], 0, rfl, ⟨by simp [maxLen], fun h => absurd rfl h⟩, fun _ => rfl⟩
  · have e4 : Tryz.prog.cellsOf 48 = 4 := by kernel_rfl
    have hlm : len ≤ m := by rw [hmm]; split <;> omega
    obtain ⟨l, hll, hx⟩ := exists_list len (fun i (y : Ins) => ∀ j v, [Value.int .i64 y.kind, .int .i64 y.r, .int .i64 y.x, .int .i64 y.n][j]? = some v → W.cell? (a.add (i * 4 + j)) = some v) (fun i hi' => by
      obtain ⟨cs', hc, ht⟩ := hi i (by omega)
      rw [e4] at hc
      obtain ⟨y, rfl⟩ := ins_of_trod ht
      obtain ⟨_, _, hat⟩ := World.cells?_some hc
      refine ⟨y, fun j v hv => ?_⟩
      have hj : j < 4 := by have := (List.getElem?_eq_some_iff.1 hv).1; simpa using this
      rw [← add_add, hat j hj]; exact hv)
    refine ⟨some a, l, cap, by rw [hll], ⟨by omega, fun hne => ?_⟩, fun h => by cases h⟩
    have hpos : 0 < l.length := List.length_pos_iff.2 hne
    have h0 := hx 0 l[0] (List.getElem?_eq_getElem hpos) 0 _ rfl
    have hsp := World.cell?_spot h0
    have hsp' : a.spot = none := by simpa [Addr.add] using hsp
    obtain ⟨b, o, s⟩ := a
    subst hsp'
    refine ⟨b, o, rfl, fun i hi' => ?_⟩
    have hxi := hx i l[i] (List.getElem?_eq_getElem hi')
    have c0 := hxi 0 _ rfl
    have c1 := hxi 1 _ rfl
    have c2 := hxi 2 _ rfl
    have c3 := hxi 3 _ rfl
    simp only [add_row, ← Nat.add_assoc, Nat.add_zero] at c0 c1 c2 c3
    exact ⟨c0, c1, c2, c3⟩

set_option maxRecDepth 100000 in
theorem threads_of_trod {fuel : Nat} {cs : List Value} {x : DataW H × List MemPlace} (h : DataW.trod enc Tryz.prog W base spare held fuel 22 cs = some x) :
    ∃ (a : Option Addr) (ts : List (List Ins)) (cap : Nat), cs = [.slice a ts.length cap] ∧ ThreadsAt W a ts ∧ (a = none → cap = 0) := by
  rcases open_slice Tryz.underlying22 h with ⟨rfl, _⟩ | ⟨a, len, cap, m, n, D, Pl, rfl, _, hl, hm, hmm, _, hi⟩
  · exact ⟨none, [], 0, rfl, ⟨by simp [maxLen], fun h => absurd rfl h⟩, fun _ => rfl⟩
  · have e1 : Tryz.prog.cellsOf 44 = 1 := by kernel_rfl
    have hlm : len ≤ m := by rw [hmm]; split <;> omega
    obtain ⟨ts, hll, hx⟩ := exists_list len (fun i (l : List Ins) => ∃ c ccap, W.cell? (a.add i) = some (.slice c l.length ccap) ∧ CodeAt W c l ∧ (c = none → ccap = 0)) (fun i hi' => by
      obtain ⟨cs', hc, ht⟩ := hi i (by omega)
      rw [e1] at hc
      obtain ⟨c, l, ccap, rfl, h1, h2⟩ := code_of_trod ht
      obtain ⟨_, _, hat⟩ := World.cells?_some hc
      have := hat 0 (by omega)
      rw [add_add] at this
      exact ⟨l, c, ccap, by simpa using this, h1, h2⟩)
    refine ⟨some a, ts, cap, by rw [hll], ⟨by omega, fun hne => ?_⟩, fun h => by cases h⟩
    have hpos : 0 < ts.length := List.length_pos_iff.2 hne
    obtain ⟨c, ccap, h0, _⟩ := hx 0 ts[0] (List.getElem?_eq_getElem hpos)
    have hsp := World.cell?_spot h0
    have hsp' : a.spot = none := by simpa [Addr.add] using hsp
    obtain ⟨b, o, s⟩ := a
    subst hsp'
    refine ⟨b, o, rfl, fun i hi' => ?_⟩
    obtain ⟨c, ccap, h1, h2, h3⟩ := hx i ts[i] (List.getElem?_eq_getElem hi')
    rw [add_row] at h1
    exact ⟨c, ccap, h1, h2, h3⟩

set_option maxRecDepth 100000 in
theorem prog_of_trod {r : Reach} {b0 : Nat} {v : Value} {d : DataW H} {p : List MemPlace} (hv : Value.okWide Tryz.prog W r b0 24 v) (h : DataW.Trod enc Tryz.prog W base spare held 24 v d p) :
    ∃ (q : Pg) (a : Option Addr) (cap : Nat), v = pgV q a cap ∧ ThreadsAt W a q.threads ∧ (a = none → cap = 0) := by
  obtain ⟨v0, v1, v2, y0, y1, y2, n, rfl, _, _, h0, h1, h2⟩ := open_agg3 Tryz.underlying24 (by kernel_rfl) (by kernel_rfl) hv h
  obtain ⟨n0, r0, _⟩ := DataW.trod_int Tryz.underlying3 h0
  obtain ⟨n1, r1, _⟩ := DataW.trod_int Tryz.underlying3 h1
  obtain ⟨a, ts, cap, r2, ht, ha⟩ := threads_of_trod h2
  simp at r0 r1 r2
  subst r0 r1 r2
  exact ⟨⟨n0, n1, ts⟩, a, cap, rfl, ht, ha⟩
end
end Go.Proofs.YtnldkmcijmbhcaaGreat

/- Arguments that are numbers, or rows of numbers, opened. -/
namespace Go.Proofs.YtnldkmcijmbhcaaGreat
open Go.RowKit Go.Deep Go.Joins Go.WideShapes Go.ChangeShapes

section
variable {H : Type} {enc : TypeId × Value → H} {W : World} {base : Nat} {spare : Nat → Bool} {held : Bool}

theorem wf_in64 {n : Int} (h : (Lit.int .i64 n).wf = true) : in64 n := by
  simp [Lit.wf, IntKind.min, IntKind.max, IntKind.signed, IntKind.bits] at h
  unfold in64
  omega

set_option maxRecDepth 100000 in
theorem int_of_trod {r : Reach} {b0 : Nat} {v : Value} {d : DataW H} {p : List MemPlace} (hv : Value.okWide Tryz.prog W r b0 3 v) (h : DataW.Trod enc Tryz.prog W base spare held 3 v d p) :
    ∃ n : Int, v = .int .i64 n ∧ in64 n := by
  obtain ⟨n, e, _, _, hw⟩ := open_int Tryz.underlying3 hv h
  exact ⟨n, e, wf_in64 hw⟩

set_option maxRecDepth 100000 in
theorem nums_of_trod {r : Reach} {b0 : Nat} {v : Value} {d : DataW H} {p : List MemPlace} (hv : Value.okWide Tryz.prog W r b0 76 v) (h : DataW.Trod enc Tryz.prog W base spare held 76 v d p) :
    ∃ (a : Option Addr) (ns : List Int) (cap : Nat), v = .slice a ns.length cap ∧ NumsAt W a ns ∧ (a = none → cap = 0) ∧ ∀ n ∈ ns, in64 n := by
  obtain ⟨a, len, cap, rfl⟩ := okWide_slice Tryz.underlying76 hv
  obtain ⟨fuel, hf⟩ := h
  rcases open_ints Tryz.underlying76 Tryz.underlying3 (by kernel_rfl) hf with ⟨e, _⟩ | ⟨a', len', cap', zs, e, _, hl, hm, hz, _, hc, hw⟩
  · simp [Value.cells] at e
    obtain ⟨rfl, rfl, rfl⟩ := e
    exact ⟨none, [], 0, rfl, ⟨by simp [maxLen], fun h => absurd rfl h⟩, fun _ => rfl, by simp⟩
  · simp [Value.cells] at e
    obtain ⟨rfl, rfl, rfl⟩ := e
    have hlz : len ≤ zs.length := by rw [hz]; split <;> omega
    have hlt : (zs.take len).length = len := by simp; omega
    refine ⟨some a', zs.take len, cap, by rw [hlt], ⟨by rw [hlt]; omega, fun hne => ?_⟩, by simp, fun n hn => wf_in64 (hw n (List.mem_of_mem_take hn))⟩
    have hpos : 0 < len := by
      rcases Nat.eq_zero_or_pos len with h | h
      · subst h; simp at hne
      · exact h
    have h0 := hc 0 (by omega)
    have hsp := World.cell?_spot h0
    have hsp' : a'.spot = none := by simpa [Addr.add] using hsp
    obtain ⟨b, o, s⟩ := a'
    subst hsp'
    refine ⟨b, o, rfl, fun i hi => ?_⟩
    have hi' : i < len := by omega
    have := hc i (by omega)
    rw [add_row, getD_lt _ (by omega)] at this
    rw [this]
    simp
end
end Go.Proofs.YtnldkmcijmbhcaaGreat
