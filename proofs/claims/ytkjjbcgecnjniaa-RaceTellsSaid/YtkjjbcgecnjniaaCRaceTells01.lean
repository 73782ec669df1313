/- Texts of the proof of RaceTells. -/
import Derived.BigRegion
import Derived.Test.YtkjjbcgecnjniaaPk05

/- A state of the document in memory: a block of ten cells, and a row of threads. -/
namespace Go.Proofs.Ytkjjbcgecnjniaa
open Go.RowKit

def thrCell (x : Thr) : List Value := [.int .i64 x.at_, .int .i64 x.fuel, .int .i64 (x.r.getD 0 0), .int .i64 (x.r.getD 1 0)]
def thrCells (l : List Thr) : List Value := l.flatMap thrCell
theorem thrCells_length (l : List Thr) : (thrCells l).length = l.length * 4 := by
  induction l with
  | nil => rfl
  | cons i l ih => simp only [thrCells, thrCell, List.flatMap_cons, List.length_append, List.length_cons, List.length_nil] at *; omega
theorem thrCells_append (a b : List Thr) : thrCells (a ++ b) = thrCells a ++ thrCells b := by simp [thrCells]
theorem thrCells_get (l : List Thr) (i j : Nat) (h : i < l.length) (hj : j < 4) : (thrCells l)[i * 4 + j]? = (thrCell l[i])[j]? := by
  induction l generalizing i with
  | nil => simp at h
  | cons x l ih =>
    cases i with
    | zero =>
      simp only [thrCells, List.flatMap_cons, Nat.zero_mul, Nat.zero_add, List.getElem_cons_zero]
      rw [List.getElem?_append_left (by simpa [thrCell] using hj)]
    | succ i =>
      have := ih i (by simpa using h)
      simp only [thrCells, List.flatMap_cons, List.getElem_cons_succ] at *
      rw [List.getElem?_append_right (by simp [thrCell]; omega), ← this]
      congr 1
      simp [thrCell]
      omega
theorem thrCells_one (l : List Thr) : ∀ v ∈ thrCells l, v.oneCell' = true := by
  intro v hv
  simp only [thrCells, List.mem_flatMap] at hv
  obtain ⟨i, _, hv⟩ := hv
  simp [thrCell] at hv
  rcases hv with rfl | rfl | rfl | rfl <;> rfl
theorem thrCells_set (l : List Thr) (t k : Nat) (y : Thr) (v : Value) (ht : t < l.length) (hk : k < 4) (hy : ∀ j, j < 4 → (thrCell y)[j]? = if j = k then some v else (thrCell l[t])[j]?) :
    (thrCells l).set (t * 4 + k) v = thrCells (l.set t y) := by
  apply List.ext_getElem?
  intro j
  have hl := thrCells_length l
  have hl2 : (thrCells (l.set t y)).length = l.length * 4 := by rw [thrCells_length]; simp
  by_cases hj : j < l.length * 4
  · obtain ⟨i, d, rfl, hd⟩ : ∃ i d, j = i * 4 + d ∧ d < 4 := ⟨j / 4, j % 4, by omega, by omega⟩
    have hi : i < l.length := by omega
    rw [thrCells_get (l.set t y) i d (by simpa using hi) hd, List.getElem?_set]
    by_cases e : t = i
    · subst e
      simp only [List.getElem_set_self]
      rw [hy d hd]
      by_cases e2 : d = k
      · subst e2; rw [if_pos rfl, if_pos (by omega), if_pos rfl]
      · rw [if_neg (by omega), if_neg e2, thrCells_get l t d ht hd]
    · rw [if_neg (by omega), List.getElem_set_ne e, thrCells_get l i d hi hd]
  · rw [List.getElem?_eq_none (by simp; omega), List.getElem?_eq_none (by omega)]

def refA (s : St) (a : Option Addr) (cap tb tcap : Nat) : Array Value :=
  #[.int .i64 s.p.vars, .int .i64 s.p.mutexes, .slice a s.p.threads.length cap, .slice (some ⟨tb, 0, none⟩) s.ts.length tcap,
    .int .i64 (s.v.getD 0 0), .int .i64 (s.v.getD 1 0), .int .i64 (s.v.getD 2 0), .int .i64 (s.v.getD 3 0), .int .i64 (s.m.getD 0 (-1)), .int .i64 (s.m.getD 1 (-1))]

/-- In the blocks b and tb lies the document's state s. -/
def RefAt (w : World) (b tb : Nat) (a : Option Addr) (cap tcap : Nat) (s : St) : Prop :=
  w.heap[b]? = some (.cells (refA s a cap tb tcap) 83 (0, 0)) ∧ b ≠ tb ∧ ∃ cur, w.heap[tb]? = some (.cells cur 106 (0, 0)) ∧ cur.toList.take (s.ts.length * 4) = thrCells s.ts

section
variable {w : World} {b tb : Nat} {a : Option Addr} {cap tcap : Nat} {s : St}
theorem RefAt.lt (h : RefAt w b tb a cap tcap s) : b < w.heap.size ∧ tb < w.heap.size := by
  obtain ⟨h1, _, cur, h2, _⟩ := h
  exact ⟨(Array.getElem?_eq_some_iff.1 h1).1, (Array.getElem?_eq_some_iff.1 h2).1⟩
theorem RefAt.later {w' : World} (h : RefAt w b tb a cap tcap s) (hb : Below w.heap.size w w') : RefAt w' b tb a cap tcap s := by
  have hl := h.lt
  obtain ⟨h1, h0, cur, h2, h3⟩ := h
  exact ⟨(hb.block b hl.1).trans h1, h0, cur, (hb.block tb hl.2).trans h2, h3⟩
theorem RefAt.only {w' : World} {g : Nat} (h : RefAt w b tb a cap tcap s) (ho : Only g w w') (hb : b ≠ g) (ht : tb ≠ g) : RefAt w' b tb a cap tcap s := by
  have hl := h.lt
  obtain ⟨h1, h0, cur, h2, h3⟩ := h
  exact ⟨(ho.block b hl.1 hb).trans h1, h0, cur, (ho.block tb hl.2 ht).trans h2, h3⟩
theorem RefAt.drewN (h : RefAt w b tb a cap tcap s) (n : Nat) : RefAt (w.drewN n) b tb a cap tcap s := h
theorem RefAt.frozen (h : RefAt w b tb a cap tcap s) (o : Nat) : w.frozen? ⟨b, o, none⟩ = false ∧ w.frozen? ⟨tb, o, none⟩ = false := by
  obtain ⟨h1, _, cur, h2, _⟩ := h
  simp [World.frozen?, h1, h2]
theorem RefAt.prog (h : RefAt w b tb a cap tcap s) : w.cell? ⟨b, 2, none⟩ = some (.slice a s.p.threads.length cap) ∧ w.cell? ⟨b, 3, none⟩ = some (.slice (some ⟨tb, 0, none⟩) s.ts.length tcap) := by
  simp [World.cell?, h.1, refA]
theorem RefAt.var (h : RefAt w b tb a cap tcap s) (x : Nat) (hx : x < 4) : w.cell? ⟨b, 4 + x, none⟩ = some (.int .i64 (s.v.getD x 0)) := by
  obtain rfl | rfl | rfl | rfl : x = 0 ∨ x = 1 ∨ x = 2 ∨ x = 3 := by omega
  all_goals simp [World.cell?, h.1, refA]
theorem RefAt.who (h : RefAt w b tb a cap tcap s) (x : Nat) (hx : x < 2) : w.cell? ⟨b, 8 + x, none⟩ = some (.int .i64 (s.who x)) := by
  obtain rfl | rfl : x = 0 ∨ x = 1 := by omega
  all_goals
    simp only [World.cell?, h.1, refA]
    rfl
theorem RefAt.thr (h : RefAt w b tb a cap tcap s) (t : Nat) (ht : t < s.ts.length) (k : Nat) (hk : k < 4) : w.cell? ⟨tb, t * 4 + k, none⟩ = (thrCell (s.th t))[k]? := by
  obtain ⟨_, _, cur, h2, h3⟩ := h
  have hg := thrCells_get s.ts t k ht hk
  rw [← h3, List.getElem?_take_of_lt (by omega)] at hg
  have e : s.th t = s.ts[t] := getD_lt _ ht
  rw [e, ← hg]
  simp [World.cell?, h2]
theorem RefAt.at_ (h : RefAt w b tb a cap tcap s) (t : Nat) (ht : t < s.ts.length) : w.cell? ⟨tb, t * 4, none⟩ = some (.int .i64 (s.th t).at_) := h.thr t ht 0 (by omega)
theorem RefAt.fuel (h : RefAt w b tb a cap tcap s) (t : Nat) (ht : t < s.ts.length) : w.cell? ⟨tb, t * 4 + 1, none⟩ = some (.int .i64 (s.th t).fuel) := h.thr t ht 1 (by omega)
theorem RefAt.reg (h : RefAt w b tb a cap tcap s) (t : Nat) (ht : t < s.ts.length) (r : Nat) (hr : r < 2) : w.cell? ⟨tb, t * 4 + 2 + r, none⟩ = some (.int .i64 ((s.th t).r.getD r 0)) := by
  obtain rfl | rfl : r = 0 ∨ r = 1 := by omega
  · exact h.thr t ht 2 (by omega)
  · exact h.thr t ht 3 (by omega)

theorem RefAt.setThr (h : RefAt w b tb a cap tcap s) (t k : Nat) (y : Thr) (v : Value) (ht : t < s.ts.length) (hk : k < 4) (hy : ∀ j, j < 4 → (thrCell y)[j]? = if j = k then some v else (thrCell (s.th t))[j]?) :
    RefAt (w.setCell ⟨tb, t * 4 + k, none⟩ v) b tb a cap tcap (s.put t y) := by
  have e : s.th t = s.ts[t] := getD_lt _ ht
  rw [e] at hy
  obtain ⟨h1, h0, cur, h2, h3⟩ := h
  have hlen : (s.put t y).ts.length = s.ts.length := St.put_len s t y
  have ets : (s.put t y).ts = s.ts.set t y := by simp [St.put]
  refine ⟨?_, h0, _, heap_setCell_same w tb (t * 4 + k) cur _ v h2, ?_⟩
  · rw [Below.heap_setCell _ _ _ _ h0, h1]
    unfold refA
    rw [hlen]
    rfl
  · rw [hlen, ets, ← thrCells_set s.ts t k y v ht hk hy, ← h3]
    simp [List.take_set]
theorem RefAt.setAt (h : RefAt w b tb a cap tcap s) (t n : Nat) (ht : t < s.ts.length) : RefAt (w.setCell ⟨tb, t * 4, none⟩ (.int .i64 n)) b tb a cap tcap (s.put t { s.th t with at_ := n }) :=
  h.setThr t 0 _ _ ht (by omega) (fun j hj => by
    obtain rfl | rfl | rfl | rfl : j = 0 ∨ j = 1 ∨ j = 2 ∨ j = 3 := by omega
    all_goals rfl)
theorem RefAt.setFuel (h : RefAt w b tb a cap tcap s) (t n : Nat) (ht : t < s.ts.length) : RefAt (w.setCell ⟨tb, t * 4 + 1, none⟩ (.int .i64 n)) b tb a cap tcap (s.put t { s.th t with fuel := n }) :=
  h.setThr t 1 _ _ ht (by omega) (fun j hj => by
    obtain rfl | rfl | rfl | rfl : j = 0 ∨ j = 1 ∨ j = 2 ∨ j = 3 := by omega
    all_goals rfl)
theorem RefAt.setReg (h : RefAt w b tb a cap tcap s) (t r : Nat) (n : Int) (ht : t < s.ts.length) (hr : r < 2) (hl : (s.th t).r.length = 2) : RefAt (w.setCell ⟨tb, t * 4 + 2 + r, none⟩ (.int .i64 n)) b tb a cap tcap (s.put t { s.th t with r := (s.th t).r.set r n }) := by
  rw [Nat.add_assoc]
  refine h.setThr t (2 + r) _ _ ht (by omega) (fun j hj => ?_)
  obtain rfl | rfl | rfl | rfl : j = 0 ∨ j = 1 ∨ j = 2 ∨ j = 3 := by omega
  · rw [if_neg (by omega)]; rfl
  · rw [if_neg (by omega)]; rfl
  · simp only [thrCell, List.getElem?_cons_succ, List.getElem?_cons_zero]
    rw [getD_set _ _ _ _ _ (by omega)]
    by_cases e : r = 0
    · subst e; simp
    · rw [if_neg (by omega), if_neg (by omega)]
  · simp only [thrCell, List.getElem?_cons_succ, List.getElem?_cons_zero]
    rw [getD_set _ _ _ _ _ (by omega)]
    by_cases e : r = 1
    · subst e; simp
    · rw [if_neg (by omega), if_neg (by omega)]
theorem RefAt.setVar (h : RefAt w b tb a cap tcap s) (x : Nat) (n : Int) (hx : x < 4) (hl : s.v.length = 4) : RefAt (w.setCell ⟨b, 4 + x, none⟩ (.int .i64 n)) b tb a cap tcap { s with v := s.v.set x n } := by
  obtain ⟨h1, h0, cur, h2, h3⟩ := h
  refine ⟨?_, h0, cur, (Below.heap_setCell _ _ _ _ (fun e => h0 e.symm)).trans h2, h3⟩
  rw [heap_setCell_same w b (4 + x) _ _ _ h1]
  congr 2
  unfold refA
  dsimp only
  simp only [getD_set _ _ _ _ _ (show x < s.v.length by omega)]
  obtain rfl | rfl | rfl | rfl : x = 0 ∨ x = 1 ∨ x = 2 ∨ x = 3 := by omega
  all_goals rfl
theorem RefAt.setWho (h : RefAt w b tb a cap tcap s) (x : Nat) (n : Int) (hx : x < 2) (hl : s.m.length = 2) : RefAt (w.setCell ⟨b, 8 + x, none⟩ (.int .i64 n)) b tb a cap tcap { s with m := s.m.set x n } := by
  obtain ⟨h1, h0, cur, h2, h3⟩ := h
  refine ⟨?_, h0, cur, (Below.heap_setCell _ _ _ _ (fun e => h0 e.symm)).trans h2, h3⟩
  rw [heap_setCell_same w b (8 + x) _ _ _ h1]
  congr 2
  unfold refA
  dsimp only
  simp only [getD_set _ _ _ _ _ (show x < s.m.length by omega)]
  obtain rfl | rfl : x = 0 ∨ x = 1 := by omega
  all_goals rfl
theorem RefAt.other {g : Nat} (h : RefAt w b tb a cap tcap s) (hb : b ≠ g) (ht : tb ≠ g) (o : Nat) (v : Value) : RefAt (w.setCell ⟨g, o, none⟩ v) b tb a cap tcap s := by
  obtain ⟨h1, h0, cur, h2, h3⟩ := h
  exact ⟨(Below.heap_setCell _ _ _ _ hb).trans h1, h0, cur, (Below.heap_setCell _ _ _ _ ht).trans h2, h3⟩
end

/-- All but the blocks b and c is as it was. -/
structure Only2 (b c : Nat) (w w' : World) : Prop where
  os : w'.os = w.os
  tape : w'.tape = w.tape
  output : w'.output = w.output
  size : w.heap.size ≤ w'.heap.size
  block : ∀ k, k < w.heap.size → k ≠ b → k ≠ c → w'.heap[k]? = w.heap[k]?

theorem Only2.refl (b c : Nat) (w : World) : Only2 b c w w := ⟨rfl, rfl, rfl, Nat.le_refl _, fun _ _ _ _ => rfl⟩
theorem Only2.trans {b c : Nat} {u v w : World} (h : Only2 b c u v) (k : Only2 b c v w) : Only2 b c u w :=
  ⟨k.os.trans h.os, k.tape.trans h.tape, k.output.trans h.output, Nat.le_trans h.size k.size, fun i hi hb hc => (k.block i (Nat.lt_of_lt_of_le hi h.size) hb hc).trans (h.block i hi hb hc)⟩
theorem Only2.of_below {b c : Nat} {w w' : World} (h : Below w.heap.size w w') : Only2 b c w w' := ⟨h.os, h.tape, h.output, h.size, fun k hk _ _ => h.block k hk⟩
theorem Only2.alloc {b c : Nat} {w w' : World} (h : Only2 b c w w') (o : Obj) : Only2 b c w (w'.alloc o) := h.trans (.of_below ((Below.refl _ _).alloc (Nat.le_refl _) _))
theorem Only2.drew {b c : Nat} {w w' : World} (h : Only2 b c w w') : Only2 b c w w'.drew := ⟨h.os, h.tape, h.output, h.size, h.block⟩
theorem Only2.drewN {b c : Nat} {w w' : World} (h : Only2 b c w w') {n : Nat} : Only2 b c w (w'.drewN n) := ⟨h.os, h.tape, h.output, h.size, h.block⟩
theorem Only2.setCell {b c g : Nat} {w w' : World} (h : Only2 b c w w') (hg : g = b ∨ g = c ∨ w.heap.size ≤ g) (o : Nat) (v : Value) : Only2 b c w (w'.setCell ⟨g, o, none⟩ v) :=
  ⟨h.os, h.tape, h.output, by simp [World.setCell]; exact h.size, fun k hk hb hc => (Below.heap_setCell _ _ _ _ (by show k ≠ g; omega)).trans (h.block k hk hb hc)⟩
theorem Only2.set4 {b c g : Nat} {w w1 : World} (h : Only2 b c w w1) (hg : w.heap.size ≤ g) (v0 v1 v2 v3 : Value) : Only2 b c w ((((w1.setCell ⟨g, 0, none⟩ v0).setCell ⟨g, 1, none⟩ v1).setCell ⟨g, 2, none⟩ v2).setCell ⟨g, 3, none⟩ v3) :=
  (((h.setCell (.inr (.inr hg)) 0 v0).setCell (.inr (.inr hg)) 1 v1).setCell (.inr (.inr hg)) 2 v2).setCell (.inr (.inr hg)) 3 v3
theorem Only2.below {b c B : Nat} {w w' : World} (h : Only2 b c w w') (hb : B ≤ b) (hc : B ≤ c) (hw : B ≤ w.heap.size) : Below B w w' :=
  ⟨h.os, h.tape, h.output, h.size, fun k hk => h.block k (by omega) (by omega) (by omega)⟩
theorem Only2.stAt {b c g : Nat} {w w' : World} {s : St} (h : Only2 b c w w') (hs : StAt w g s) (hb : g ≠ b) (hc : g ≠ c) : StAt w' g s := (h.block g hs.lt hb hc).trans hs

theorem below_heap2 (w : World) (o o2 : Obj) {k : Nat} (hk : k < w.heap.size) : ((w.alloc o).alloc o2).heap[k]? = w.heap[k]? := by
  rw [Below.heap_alloc _ _ _ (by simp; omega), Below.heap_alloc _ _ _ hk]

/-- Behind two new blocks: an event that is none, an instruction. -/
theorem mid_world {w W : World} {k r x m : Int} {n : Nat} (h : ((w.alloc (.cells #[.int .i64 0, .int .i64 0, .int .i64 0, .bool false] 50)).drewN n).alloc (.cells #[.int .i64 k, .int .i64 r, .int .i64 x, .int .i64 m] 58) = W) :
    Below w.heap.size w W ∧ (W.cell? ⟨w.heap.size, 0, none⟩ = some (.int .i64 0) ∧ W.cell? ⟨w.heap.size, 1, none⟩ = some (.int .i64 0) ∧ W.cell? ⟨w.heap.size, 2, none⟩ = some (.int .i64 0) ∧ W.cell? ⟨w.heap.size, 3, none⟩ = some (.bool false)) ∧
      (W.frozen? ⟨w.heap.size, 0, none⟩ = false ∧ W.frozen? ⟨w.heap.size, 1, none⟩ = false ∧ W.frozen? ⟨w.heap.size, 2, none⟩ = false ∧ W.frozen? ⟨w.heap.size, 3, none⟩ = false) ∧
      (W.cell? ⟨w.heap.size + 1, 0, none⟩ = some (.int .i64 k) ∧ W.cell? ⟨w.heap.size + 1, 1, none⟩ = some (.int .i64 r) ∧ W.cell? ⟨w.heap.size + 1, 2, none⟩ = some (.int .i64 x) ∧ W.cell? ⟨w.heap.size + 1, 3, none⟩ = some (.int .i64 m)) ∧ w.heap.size + 1 < W.heap.size ∧ w.heap.size < W.heap.size := by
  subst h
  have g0 : (((w.alloc (.cells #[.int .i64 0, .int .i64 0, .int .i64 0, .bool false] 50)).drewN n).alloc (.cells #[.int .i64 k, .int .i64 r, .int .i64 x, .int .i64 m] 58)).heap[w.heap.size]? = some (.cells #[.int .i64 0, .int .i64 0, .int .i64 0, .bool false] 50 (0, 0)) := heap_alloc2_old w _ _
  have g1 : (((w.alloc (.cells #[.int .i64 0, .int .i64 0, .int .i64 0, .bool false] 50)).drewN n).alloc (.cells #[.int .i64 k, .int .i64 r, .int .i64 x, .int .i64 m] 58)).heap[w.heap.size + 1]? = some (.cells #[.int .i64 k, .int .i64 r, .int .i64 x, .int .i64 m] 58 (0, 0)) := heap_alloc2_new w _ _
  have l0 := (Array.getElem?_eq_some_iff.1 g0).1
  have l1 := (Array.getElem?_eq_some_iff.1 g1).1
  refine ⟨⟨rfl, rfl, rfl, by omega, fun k hk => ?_⟩, ?_, ?_, ?_, l1, l0⟩
  · exact (below_heap2 w _ _ hk)
  · simp only [World.cell?, g0]; exact ⟨rfl, rfl, rfl, rfl⟩
  · simp only [World.frozen?, g0]; exact ⟨rfl, rfl, rfl, rfl⟩
  · simp only [World.cell?, g1]; exact ⟨rfl, rfl, rfl, rfl⟩
end Go.Proofs.Ytkjjbcgecnjniaa

/- The contract of the document's Next: no such thread. -/
namespace Go.Proofs.Ytkjjbcgecnjniaa
open Go.RowKit

section
variable {F : Nat} {w : World} {b tb : Nat} {a : Option Addr} {cap tcap : Nat} {s : St}

set_option maxRecDepth 100000 in
set_option maxHeartbeats 4000000 in
theorem refNext_neg (h : RefAt w b tb a cap tcap s) (t : Int) (ht0 : t < 0) : Calls Try.prog 30 #[.pointer (some ⟨b, 0, none⟩), .int .i64 t] w fun r w' => r = .returned (.tuple #[.agg #[.int .i64 0, .int .i64 0, .int .i64 0, .bool false], .bool false]) ∧ Below w.heap.size w w' := by
  obtain ⟨hb1, hb2⟩ := h.lt
  obtain ⟨p0, p1⟩ := h.prog
  have q0 : decide (t < 0) = true := by simpa using ht0
  have H := Lib.hid h
  clear h
  go_enter Try.func30, Try.ntmps30
  go_wp2
  go_quiet (fail)
  go_wp2
  exact bodyPost_ret (v := .tuple #[.agg #[.int .i64 0, .int .i64 0, .int .i64 0, .bool false], .bool false]) (by simp [results, Try.results30, go_sem]) rfl ⟨rfl, below_set4 (below_alloc1 w _).drewN (Nat.le_refl _) _ _ _ _⟩

set_option maxRecDepth 100000 in
set_option maxHeartbeats 4000000 in
theorem refNext_out (h : RefAt w b tb a cap tcap s) (t : Int) (ht0 : ¬ t < 0) (hk0 : (s.ts.length : Int) ≤ t) : Calls Try.prog 30 #[.pointer (some ⟨b, 0, none⟩), .int .i64 t] w fun r w' => r = .returned (.tuple #[.agg #[.int .i64 0, .int .i64 0, .int .i64 0, .bool false], .bool false]) ∧ Below w.heap.size w w' := by
  obtain ⟨hb1, hb2⟩ := h.lt
  obtain ⟨p0, p1⟩ := h.prog
  have q0 : decide (t < 0) = false := by simpa using ht0
  have q1 : decide ((s.ts.length : Int) ≤ t) = true := by simpa using hk0
  have H := Lib.hid h
  clear h ht0 hk0
  go_enter Try.func30, Try.ntmps30
  go_wp2
  go_quiet (fail)
  go_wp2
  exact bodyPost_ret (v := .tuple #[.agg #[.int .i64 0, .int .i64 0, .int .i64 0, .bool false], .bool false]) (by simp [results, Try.results30, go_sem]) rfl ⟨rfl, below_set4 (below_alloc1 w _).drewN (Nat.le_refl _) _ _ _ _⟩
end
end Go.Proofs.Ytkjjbcgecnjniaa

/- The contract of the document's Next: no fuel. -/
namespace Go.Proofs.Ytkjjbcgecnjniaa
open Go.RowKit

section
variable {F : Nat} {w : World} {b tb : Nat} {a : Option Addr} {cap tcap : Nat} {s : St}

set_option maxRecDepth 100000 in
set_option maxHeartbeats 4000000 in
theorem refNext_dry (h : RefAt w b tb a cap tcap s) (t : Nat) (_h4 : s.ts.length ≤ 4) (hk' : t < s.ts.length) (hf : (s.th t).fuel = 0) : Calls Try.prog 30 #[.pointer (some ⟨b, 0, none⟩), .int .i64 t] w fun r w' => r = .returned (.tuple #[.agg #[.int .i64 0, .int .i64 0, .int .i64 0, .bool false], .bool false]) ∧ Below w.heap.size w w' := by
  obtain ⟨hb1, hb2⟩ := h.lt
  obtain ⟨p0, p1⟩ := h.prog
  have cf : w.cell? ⟨tb, t * 4 + 1, none⟩ = some (.int .i64 0) := by have := h.fuel t hk'; rw [hf] at this; exact this
  have q0 : decide ((t : Int) < 0) = false := by simp
  have q1 : decide ((s.ts.length : Int) ≤ t) = false := by simp; omega
  have q2 : decide (s.ts.length ≤ t) = false := by simp; omega
  have H := Lib.hid h
  clear h hf
  go_enter Try.func30, Try.ntmps30
  go_wp2
  go_quiet (fail)
  go_wp2
  exact bodyPost_ret (v := .tuple #[.agg #[.int .i64 0, .int .i64 0, .int .i64 0, .bool false], .bool false]) (by simp [results, Try.results30, go_sem]) rfl ⟨rfl, below_set4 (below_alloc1 w _).drewN (Nat.le_refl _) _ _ _ _⟩
end
end Go.Proofs.Ytkjjbcgecnjniaa

/- The contract of the document's Next: behind the last instruction. -/
namespace Go.Proofs.Ytkjjbcgecnjniaa
open Go.RowKit

section
variable {F : Nat} {w : World} {b tb : Nat} {a : Option Addr} {cap tcap : Nat} {s : St}

set_option maxRecDepth 100000 in
set_option maxHeartbeats 4000000 in
theorem refNext_end (h : RefAt w b tb a cap tcap s) (hth : ThreadsAt w a s.p.threads) (ok : s.Ok F) (t : Nat) (hk' : t < s.ts.length) (hf : (s.th t).fuel ≠ 0) (hat : (s.th t).at_ = (s.code t).length) : Calls Try.prog 30 #[.pointer (some ⟨b, 0, none⟩), .int .i64 t] w fun r w' => r = .returned (.tuple #[.agg #[.int .i64 0, .int .i64 0, .int .i64 0, .bool false], .bool false]) ∧ Below w.heap.size w w' := by
  obtain ⟨hb1, hb2⟩ := h.lt
  obtain ⟨p0, p1⟩ := h.prog
  have hln := ok.len
  have h4 := ok.len4
  have cf := h.fuel t hk'
  have ca := h.at_ t hk'
  have q0 : decide ((t : Int) < 0) = false := by simp
  have q2 : decide (s.ts.length ≤ t) = false := by simp; omega
  have q1 : decide ((s.ts.length : Int) ≤ t) = false := by simp; omega
  have hkp : t < s.p.threads.length := by omega
  have hcd : s.code t = s.p.threads[t] := getD_lt _ hkp
  obtain ⟨ab, ao, rfl, hc⟩ := hth.2 (by intro e; simp [e] at hkp)
  obtain ⟨c, ccap, c0, c1, _⟩ := hc t hkp
  rw [← hcd] at c0
  have hz := cell_block c0
  dsimp only at hz
  have hf' : ((((s.th t).fuel : Nat) : Int) == 0) = false := by simp; omega
  have h8 := ok.code8 t hk'
  rw [hat] at ca
  have H := Lib.hid h
  clear h hth ok hln hf hat hc c1 hcd
  generalize (s.th t).fuel = f at *
  generalize (s.code t).length = n at *
  have q3 : decide (n ≤ n) = true := by simp
  have q4 : decide ((n : Int) ≤ n) = true := by simp
  go_enter Try.func30, Try.ntmps30
  go_wp2
  go_quiet (fail)
  go_wp2
  exact bodyPost_ret (v := .tuple #[.agg #[.int .i64 0, .int .i64 0, .int .i64 0, .bool false], .bool false]) (by simp [results, Try.results30, go_sem]) rfl ⟨rfl, below_set4 (below_alloc1 w _).drewN (Nat.le_refl _) _ _ _ _⟩
end
end Go.Proofs.Ytkjjbcgecnjniaa

/- The contract of the document's Next: a variable, a lock. -/
namespace Go.Proofs.Ytkjjbcgecnjniaa
open Go.RowKit

section
variable {F : Nat} {w : World} {b tb : Nat} {a : Option Addr} {cap tcap : Nat} {s : St}

set_option maxRecDepth 100000 in
set_option maxHeartbeats 4000000 in
theorem refNext_1 (h : RefAt w b tb a cap tcap s) (hth : ThreadsAt w a s.p.threads) (ok : s.Ok F) (t : Nat) (i : Ins) (hi : s.ins t = some i) (hk1 : i.kind = 1) :
    Calls Try.prog 30 #[.pointer (some ⟨b, 0, none⟩), .int .i64 t] w fun r w' => r = .returned (.tuple #[.agg #[.int .i64 t, .int .i64 2, .int .i64 i.x, .bool false], .bool true]) ∧ Below w.heap.size w w' := by
  obtain ⟨_, hf, hcode⟩ := St.ins_has hi
  obtain ⟨k, hkk, hk'⟩ := St.ins_nat hi
  obtain rfl : t = k := by omega
  simp only [Int.toNat_natCast] at hf hcode
  obtain ⟨hb1, hb2⟩ := h.lt
  obtain ⟨p0, p1⟩ := h.prog
  have hln := ok.len
  have h4 := ok.len4
  have hkp : t < s.p.threads.length := by omega
  have hcd : s.code t = s.p.threads[t] := getD_lt _ hkp
  obtain ⟨hat, hic⟩ := List.getElem?_eq_some_iff.1 hcode
  obtain ⟨ab, ao, rfl, hc⟩ := hth.2 (by intro e; simp [e] at hkp)
  obtain ⟨c, ccap, c0, c1, _⟩ := hc t hkp
  rw [← hcd] at c0 c1
  obtain ⟨cb, co, rfl, hcc⟩ := c1.2 (by intro e; simp [e] at hat)
  obtain ⟨i0, i1, i2, i3⟩ := hcc _ hat
  rw [hic] at i0 i1 i2 i3
  have hz1 := cell_block c0
  have hz2 := cell_block i0
  dsimp only at hz1 hz2
  have cf := h.fuel t hk'
  have ca := h.at_ t hk'
  have hff : ((((s.th t).fuel : Nat) : Int) == 0) = false := by simp; omega
  have q0 : decide ((t : Int) < 0) = false := by simp
  have q1 : decide ((s.ts.length : Int) ≤ t) = false := by simp; omega
  have q2 : decide (s.ts.length ≤ t) = false := by simp; omega
  have q3 : decide ((s.code t).length ≤ (s.th t).at_) = false := by simp; omega
  have q4 : decide (((s.code t).length : Int) ≤ (s.th t).at_) = false := by simp; omega
  have h8 := ok.code8 t hk'
  have H := Lib.hid h
  clear h hth ok hi hln hkk hf hcode hc c1 hcd hcc hic
  generalize (s.th t).fuel = f at *
  generalize (s.th t).at_ = at_ at *
  generalize (s.code t).length = n at *
  obtain ⟨kd, r, x, m⟩ := i
  dsimp only at *
  subst hk1
  go_enter Try.func30, Try.ntmps30
  go_wp2
  go_quiet (fail)
  go_wp2
  go_region
  generalize hW : (((w.alloc (.cells #[.int .i64 0, .int .i64 0, .int .i64 0, .bool false] 50)).drewN (nq + 1)).alloc (.cells #[.int .i64 1, .int .i64 r, .int .i64 x, .int .i64 m] 58)) = W at *
  obtain ⟨hbl, ⟨e0, e1, e2, e3⟩, ⟨e4, e5, e6, e7⟩, ⟨j0, j1, j2, j3⟩, hsz, hsz0⟩ := mid_world hW
  clear hW cf ca c0 i0 i1 i2 i3 p0 p1 
  go_wp2
  refine bodyPost_ret (v := .tuple #[.agg #[.int .i64 t, .int .i64 2, .int .i64 x, .bool false], .bool true]) (by simp [results, Try.results30, go_sem, hsz0, e0, e1, e2, e3]) rfl ⟨rfl, ?_⟩
  repeat (first | exact hbl | refine Below.drew ?_ | refine Below.drewN ?_ | (refine Below.alloc ?_ (by simp [World.setCell]; omega) _) | (refine Below.setCell ?_ (by first | exact Nat.le_refl _ | (simp [World.setCell]; omega)) _))

set_option maxRecDepth 100000 in
set_option maxHeartbeats 4000000 in
theorem refNext_2 (h : RefAt w b tb a cap tcap s) (hth : ThreadsAt w a s.p.threads) (ok : s.Ok F) (t : Nat) (i : Ins) (hi : s.ins t = some i) (hk1 : i.kind = 2) :
    Calls Try.prog 30 #[.pointer (some ⟨b, 0, none⟩), .int .i64 t] w fun r w' => r = .returned (.tuple #[.agg #[.int .i64 t, .int .i64 3, .int .i64 i.x, .bool false], .bool true]) ∧ Below w.heap.size w w' := by
  obtain ⟨_, hf, hcode⟩ := St.ins_has hi
  obtain ⟨k, hkk, hk'⟩ := St.ins_nat hi
  obtain rfl : t = k := by omega
  simp only [Int.toNat_natCast] at hf hcode
  obtain ⟨hb1, hb2⟩ := h.lt
  obtain ⟨p0, p1⟩ := h.prog
  have hln := ok.len
  have h4 := ok.len4
  have hkp : t < s.p.threads.length := by omega
  have hcd : s.code t = s.p.threads[t] := getD_lt _ hkp
  obtain ⟨hat, hic⟩ := List.getElem?_eq_some_iff.1 hcode
  obtain ⟨ab, ao, rfl, hc⟩ := hth.2 (by intro e; simp [e] at hkp)
  obtain ⟨c, ccap, c0, c1, _⟩ := hc t hkp
  rw [← hcd] at c0 c1
  obtain ⟨cb, co, rfl, hcc⟩ := c1.2 (by intro e; simp [e] at hat)
  obtain ⟨i0, i1, i2, i3⟩ := hcc _ hat
  rw [hic] at i0 i1 i2 i3
  have hz1 := cell_block c0
  have hz2 := cell_block i0
  dsimp only at hz1 hz2
  have cf := h.fuel t hk'
  have ca := h.at_ t hk'
  have hff : ((((s.th t).fuel : Nat) : Int) == 0) = false := by simp; omega
  have q0 : decide ((t : Int) < 0) = false := by simp
  have q1 : decide ((s.ts.length : Int) ≤ t) = false := by simp; omega
  have q2 : decide (s.ts.length ≤ t) = false := by simp; omega
  have q3 : decide ((s.code t).length ≤ (s.th t).at_) = false := by simp; omega
  have q4 : decide (((s.code t).length : Int) ≤ (s.th t).at_) = false := by simp; omega
  have h8 := ok.code8 t hk'
  have H := Lib.hid h
  clear h hth ok hi hln hkk hf hcode hc c1 hcd hcc hic
  generalize (s.th t).fuel = f at *
  generalize (s.th t).at_ = at_ at *
  generalize (s.code t).length = n at *
  obtain ⟨kd, r, x, m⟩ := i
  dsimp only at *
  subst hk1
  go_enter Try.func30, Try.ntmps30
  go_wp2
  go_quiet (fail)
  go_wp2
  go_region
  generalize hW : (((w.alloc (.cells #[.int .i64 0, .int .i64 0, .int .i64 0, .bool false] 50)).drewN (nq + 1)).alloc (.cells #[.int .i64 2, .int .i64 r, .int .i64 x, .int .i64 m] 58)) = W at *
  obtain ⟨hbl, ⟨e0, e1, e2, e3⟩, ⟨e4, e5, e6, e7⟩, ⟨j0, j1, j2, j3⟩, hsz, hsz0⟩ := mid_world hW
  clear hW cf ca c0 i0 i1 i2 i3 p0 p1 
  go_wp2
  refine bodyPost_ret (v := .tuple #[.agg #[.int .i64 t, .int .i64 3, .int .i64 x, .bool false], .bool true]) (by simp [results, Try.results30, go_sem, hsz0, e0, e1, e2, e3]) rfl ⟨rfl, ?_⟩
  repeat (first | exact hbl | refine Below.drew ?_ | refine Below.drewN ?_ | (refine Below.alloc ?_ (by simp [World.setCell]; omega) _) | (refine Below.setCell ?_ (by first | exact Nat.le_refl _ | (simp [World.setCell]; omega)) _))

set_option maxRecDepth 100000 in
set_option maxHeartbeats 4000000 in
theorem refNext_5 (h : RefAt w b tb a cap tcap s) (hth : ThreadsAt w a s.p.threads) (ok : s.Ok F) (t : Nat) (i : Ins) (hi : s.ins t = some i) (hk1 : i.kind = 5) :
    Calls Try.prog 30 #[.pointer (some ⟨b, 0, none⟩), .int .i64 t] w fun r w' => r = .returned (.tuple #[.agg #[.int .i64 t, .int .i64 4, .int .i64 i.x, .bool false], .bool true]) ∧ Below w.heap.size w w' := by
  obtain ⟨_, hf, hcode⟩ := St.ins_has hi
  obtain ⟨k, hkk, hk'⟩ := St.ins_nat hi
  obtain rfl : t = k := by omega
  simp only [Int.toNat_natCast] at hf hcode
  obtain ⟨hb1, hb2⟩ := h.lt
  obtain ⟨p0, p1⟩ := h.prog
  have hln := ok.len
  have h4 := ok.len4
  have hkp : t < s.p.threads.length := by omega
  have hcd : s.code t = s.p.threads[t] := getD_lt _ hkp
  obtain ⟨hat, hic⟩ := List.getElem?_eq_some_iff.1 hcode
  obtain ⟨ab, ao, rfl, hc⟩ := hth.2 (by intro e; simp [e] at hkp)
  obtain ⟨c, ccap, c0, c1, _⟩ := hc t hkp
  rw [← hcd] at c0 c1
  obtain ⟨cb, co, rfl, hcc⟩ := c1.2 (by intro e; simp [e] at hat)
  obtain ⟨i0, i1, i2, i3⟩ := hcc _ hat
  rw [hic] at i0 i1 i2 i3
  have hz1 := cell_block c0
  have hz2 := cell_block i0
  dsimp only at hz1 hz2
  have cf := h.fuel t hk'
  have ca := h.at_ t hk'
  have hff : ((((s.th t).fuel : Nat) : Int) == 0) = false := by simp; omega
  have q0 : decide ((t : Int) < 0) = false := by simp
  have q1 : decide ((s.ts.length : Int) ≤ t) = false := by simp; omega
  have q2 : decide (s.ts.length ≤ t) = false := by simp; omega
  have q3 : decide ((s.code t).length ≤ (s.th t).at_) = false := by simp; omega
  have q4 : decide (((s.code t).length : Int) ≤ (s.th t).at_) = false := by simp; omega
  have h8 := ok.code8 t hk'
  have H := Lib.hid h
  clear h hth ok hi hln hkk hf hcode hc c1 hcd hcc hic
  generalize (s.th t).fuel = f at *
  generalize (s.th t).at_ = at_ at *
  generalize (s.code t).length = n at *
  obtain ⟨kd, r, x, m⟩ := i
  dsimp only at *
  subst hk1
  go_enter Try.func30, Try.ntmps30
  go_wp2
  go_quiet (fail)
  go_wp2
  go_region
  generalize hW : (((w.alloc (.cells #[.int .i64 0, .int .i64 0, .int .i64 0, .bool false] 50)).drewN (nq + 1)).alloc (.cells #[.int .i64 5, .int .i64 r, .int .i64 x, .int .i64 m] 58)) = W at *
  obtain ⟨hbl, ⟨e0, e1, e2, e3⟩, ⟨e4, e5, e6, e7⟩, ⟨j0, j1, j2, j3⟩, hsz, hsz0⟩ := mid_world hW
  clear hW cf ca c0 i0 i1 i2 i3 p0 p1 
  go_wp2
  refine bodyPost_ret (v := .tuple #[.agg #[.int .i64 t, .int .i64 4, .int .i64 x, .bool false], .bool true]) (by simp [results, Try.results30, go_sem, hsz0, e0, e1, e2, e3]) rfl ⟨rfl, ?_⟩
  repeat (first | exact hbl | refine Below.drew ?_ | refine Below.drewN ?_ | (refine Below.alloc ?_ (by simp [World.setCell]; omega) _) | (refine Below.setCell ?_ (by first | exact Nat.le_refl _ | (simp [World.setCell]; omega)) _))
end
end Go.Proofs.Ytkjjbcgecnjniaa

/- The contract of the document's Next: an unlock. -/
namespace Go.Proofs.Ytkjjbcgecnjniaa
open Go.RowKit

section
variable {F : Nat} {w : World} {b tb : Nat} {a : Option Addr} {cap tcap : Nat} {s : St}

set_option maxRecDepth 100000 in
set_option maxHeartbeats 4000000 in
theorem refNext_6 (h : RefAt w b tb a cap tcap s) (hth : ThreadsAt w a s.p.threads) (ok : s.Ok F) (t : Nat) (i : Ins) (hi : s.ins t = some i) (hk1 : i.kind = 6) (y : Nat) (hy : i.x = y) (hy2 : y < 2) (hw : s.who y = t) :
    Calls Try.prog 30 #[.pointer (some ⟨b, 0, none⟩), .int .i64 t] w fun r w' => r = .returned (.tuple #[.agg #[.int .i64 t, .int .i64 5, .int .i64 i.x, .bool false], .bool true]) ∧ Below w.heap.size w w' := by
  obtain ⟨_, hf, hcode⟩ := St.ins_has hi
  obtain ⟨k, hkk, hk'⟩ := St.ins_nat hi
  obtain rfl : t = k := by omega
  simp only [Int.toNat_natCast] at hf hcode
  obtain ⟨hb1, hb2⟩ := h.lt
  obtain ⟨p0, p1⟩ := h.prog
  have hln := ok.len
  have h4 := ok.len4
  have hkp : t < s.p.threads.length := by omega
  have hcd : s.code t = s.p.threads[t] := getD_lt _ hkp
  obtain ⟨hat, hic⟩ := List.getElem?_eq_some_iff.1 hcode
  obtain ⟨ab, ao, rfl, hc⟩ := hth.2 (by intro e; simp [e] at hkp)
  obtain ⟨c, ccap, c0, c1, _⟩ := hc t hkp
  rw [← hcd] at c0 c1
  obtain ⟨cb, co, rfl, hcc⟩ := c1.2 (by intro e; simp [e] at hat)
  obtain ⟨i0, i1, i2, i3⟩ := hcc _ hat
  rw [hic] at i0 i1 i2 i3
  have hz1 := cell_block c0
  have hz2 := cell_block i0
  dsimp only at hz1 hz2
  have cf := h.fuel t hk'
  have ca := h.at_ t hk'
  have hff : ((((s.th t).fuel : Nat) : Int) == 0) = false := by simp; omega
  have q0 : decide ((t : Int) < 0) = false := by simp
  have q1 : decide ((s.ts.length : Int) ≤ t) = false := by simp; omega
  have q2 : decide (s.ts.length ≤ t) = false := by simp; omega
  have q3 : decide ((s.code t).length ≤ (s.th t).at_) = false := by simp; omega
  have q4 : decide (((s.code t).length : Int) ≤ (s.th t).at_) = false := by simp; omega
  have h8 := ok.code8 t hk'
  have c9 := h.who y hy2
  rw [hw] at c9
  have H := Lib.hid h
  clear h hth ok hi hln hkk hf hcode hc c1 hcd hcc hic
  generalize (s.th t).fuel = f at *
  generalize (s.th t).at_ = at_ at *
  generalize (s.code t).length = n at *
  obtain ⟨kd, r, x, m⟩ := i
  dsimp only at *
  subst hk1 hy
  clear hw
  go_enter Try.func30, Try.ntmps30
  go_wp2
  go_quiet (fail)
  go_wp2
  go_region
  generalize hW : (((w.alloc (.cells #[.int .i64 0, .int .i64 0, .int .i64 0, .bool false] 50)).drewN (nq + 1)).alloc (.cells #[.int .i64 6, .int .i64 r, .int .i64 y, .int .i64 m] 58)) = W at *
  obtain ⟨hbl, ⟨e0, e1, e2, e3⟩, ⟨e4, e5, e6, e7⟩, ⟨j0, j1, j2, j3⟩, hsz, hsz0⟩ := mid_world hW
  have c9w := cell_later hbl c9
  have c9z := cell_block c9w
  dsimp only at c9z
  clear hW cf ca c0 i0 i1 i2 i3 p0 p1 c9
  go_wp2
  go_region
  go_wp2
  refine bodyPost_ret (v := .tuple #[.agg #[.int .i64 t, .int .i64 5, .int .i64 y, .bool false], .bool true]) (by simp [results, Try.results30, go_sem, hsz0, e0, e1, e2, e3]) rfl ⟨rfl, ?_⟩
  repeat (first | exact hbl | refine Below.drew ?_ | refine Below.drewN ?_ | (refine Below.alloc ?_ (by simp [World.setCell]; omega) _) | (refine Below.setCell ?_ (by first | exact Nat.le_refl _ | (simp [World.setCell]; omega)) _))
end
end Go.Proofs.Ytkjjbcgecnjniaa

/- The contract of the document's Next: an assertion. -/
namespace Go.Proofs.Ytkjjbcgecnjniaa
open Go.RowKit

section
variable {F : Nat} {w : World} {b tb : Nat} {a : Option Addr} {cap tcap : Nat} {s : St}

set_option maxRecDepth 100000 in
set_option maxHeartbeats 4000000 in
theorem refNext_8 (h : RefAt w b tb a cap tcap s) (hth : ThreadsAt w a s.p.threads) (ok : s.Ok F) (t : Nat) (i : Ins) (hi : s.ins t = some i) (hk1 : i.kind = 8) (y : Nat) (hy : i.r = y) (hy2 : y < 2) :
    Calls Try.prog 30 #[.pointer (some ⟨b, 0, none⟩), .int .i64 t] w fun r w' => r = .returned (.tuple #[.agg #[.int .i64 t, .int .i64 1, .int .i64 0, .bool ((s.th t).r.getD y 0 == 0)], .bool true]) ∧ Below w.heap.size w w' := by
  obtain ⟨_, hf, hcode⟩ := St.ins_has hi
  obtain ⟨k, hkk, hk'⟩ := St.ins_nat hi
  obtain rfl : t = k := by omega
  simp only [Int.toNat_natCast] at hf hcode
  obtain ⟨hb1, hb2⟩ := h.lt
  obtain ⟨p0, p1⟩ := h.prog
  have hln := ok.len
  have h4 := ok.len4
  have hkp : t < s.p.threads.length := by omega
  have hcd : s.code t = s.p.threads[t] := getD_lt _ hkp
  obtain ⟨hat, hic⟩ := List.getElem?_eq_some_iff.1 hcode
  obtain ⟨ab, ao, rfl, hc⟩ := hth.2 (by intro e; simp [e] at hkp)
  obtain ⟨c, ccap, c0, c1, _⟩ := hc t hkp
  rw [← hcd] at c0 c1
  obtain ⟨cb, co, rfl, hcc⟩ := c1.2 (by intro e; simp [e] at hat)
  obtain ⟨i0, i1, i2, i3⟩ := hcc _ hat
  rw [hic] at i0 i1 i2 i3
  have hz1 := cell_block c0
  have hz2 := cell_block i0
  dsimp only at hz1 hz2
  have cf := h.fuel t hk'
  have ca := h.at_ t hk'
  have hff : ((((s.th t).fuel : Nat) : Int) == 0) = false := by simp; omega
  have q0 : decide ((t : Int) < 0) = false := by simp
  have q1 : decide ((s.ts.length : Int) ≤ t) = false := by simp; omega
  have q2 : decide (s.ts.length ≤ t) = false := by simp; omega
  have q3 : decide ((s.code t).length ≤ (s.th t).at_) = false := by simp; omega
  have q4 : decide (((s.code t).length : Int) ≤ (s.th t).at_) = false := by simp; omega
  have h8 := ok.code8 t hk'
  have c9 := h.reg t hk' y hy2
  have c8 := p1
  generalize (s.th t).r.getD y 0 = z at *
  have H := Lib.hid h
  clear h hth ok hi hln hkk hf hcode hc c1 hcd hcc hic
  generalize (s.th t).fuel = f at *
  generalize (s.th t).at_ = at_ at *
  generalize (s.code t).length = n at *
  obtain ⟨kd, r, x, m⟩ := i
  dsimp only at *
  subst hk1 hy
  go_enter Try.func30, Try.ntmps30
  go_wp2
  go_quiet (fail)
  go_wp2
  go_region
  generalize hW : (((w.alloc (.cells #[.int .i64 0, .int .i64 0, .int .i64 0, .bool false] 50)).drewN (nq + 1)).alloc (.cells #[.int .i64 8, .int .i64 y, .int .i64 x, .int .i64 m] 58)) = W at *
  obtain ⟨hbl, ⟨e0, e1, e2, e3⟩, ⟨e4, e5, e6, e7⟩, ⟨j0, j1, j2, j3⟩, hsz, hsz0⟩ := mid_world hW
  have c9w := cell_later hbl c9
  have c9z := cell_block c9w
  dsimp only at c9z
  have c8w := cell_later hbl c8
  have c8z := cell_block c8w
  dsimp only at c8z
  clear hW cf ca c0 i0 i1 i2 i3 p0 p1 c9 c8
  go_wp2
  go_region
  go_wp2
  refine bodyPost_ret (v := .tuple #[.agg #[.int .i64 t, .int .i64 1, .int .i64 0, .bool (z == 0)], .bool true]) (by simp [results, Try.results30, go_sem, hsz0, e0, e1, e2, e3]) rfl ⟨rfl, ?_⟩
  repeat (first | exact hbl | refine Below.drew ?_ | refine Below.drewN ?_ | (refine Below.alloc ?_ (by simp [World.setCell]; omega) _) | (refine Below.setCell ?_ (by first | exact Nat.le_refl _ | (simp [World.setCell]; omega)) _))
end
end Go.Proofs.Ytkjjbcgecnjniaa
