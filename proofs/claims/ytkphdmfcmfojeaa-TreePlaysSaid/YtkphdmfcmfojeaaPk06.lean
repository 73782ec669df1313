import Derived.Lib.OthersKept
import Derived.BigRegion
import Derived.Test.YtkphdmfcmfojeaaPk02
import Derived.Test.YtkphdmfcmfojeaaPk03
import Derived.Test.YtkphdmfcmfojeaaPk04b
import Derived.Test.YtkphdmfcmfojeaaPk05

/- Rows of texts beside a tree in memory; the worlds that a tree's calls leave. -/
namespace Go.Proofs.Ytkphdmfcmfojeaa
open Go.RowKit

def pfxCell (k : Pfx) : List Value := [.string ⟨k.toArray⟩]
theorem pfxCell_len (k : Pfx) : (pfxCell k).length = 1 := rfl
theorem pfxCell_one (k : Pfx) : ∀ v ∈ pfxCell k, v.oneCell' = true := by
  intro v hv
  simp [pfxCell] at hv
  subst hv
  rfl
theorem infoPfx : (Try.prog.info? 9).map (fun i => (i.zero, i.size, i.bytes)) = some (some (.string ByteArray.empty), 1, 16) := by kernel_rfl
theorem RowAt.pfx {w : World} {a : Option Addr} {ks : List Pfx} (h : RowAt w a 1 pfxCell ks) {j : Nat} (hj : j < ks.length) : ∃ b o, a = some ⟨b, o, none⟩ ∧ w.cell? ⟨b, o + j, none⟩ = some (.string ⟨ks[j].toArray⟩) := by
  obtain ⟨b, o, rfl, hc⟩ := h.2 (by intro e; simp [e] at hj)
  have h1 := hc j hj 0 _ rfl
  rw [Nat.mul_one, Nat.add_zero] at h1
  exact ⟨b, o, rfl, h1⟩

theorem OwnRow.onlyS {T : Type} {f : T → List Value} {n : Nat} {S : Nat → Prop} {w w' : World} {B : Nat} {t : TypeId} {v : Value} {l : List T} (h : OwnRow w B t n f v l) (ho : OnlyS S w w') (hs : ∀ g, v.ownBlock = some g → ¬ S g) : OwnRow w' B t n f v l := by
  obtain ⟨h1, h2 | ⟨g, cap, cur, h2, h3, h4, h5⟩⟩ := h
  · exact ⟨h1, .inl h2⟩
  · refine ⟨h1, .inr ⟨g, cap, cur, h2, h3, (ho.block g (Array.getElem?_eq_some_iff.1 h4).1 (hs g (by rw [h2]; rfl))).trans h4, h5⟩⟩
/-- The block of a row of elements of type t. -/
theorem OwnRow.kind {T : Type} {f : T → List Value} {n : Nat} {w : World} {B : Nat} {t : TypeId} {v : Value} {l : List T} (h : OwnRow w B t n f v l) {g : Nat} (hg : v.ownBlock = some g) : B ≤ g ∧ ∃ c, w.heap[g]? = some (.cells c t (0, 0)) := by
  obtain ⟨h1, ⟨rfl, _⟩ | ⟨g', cap, cur, rfl, h3, h4, h5⟩⟩ := h
  · simp [Value.ownBlock] at hg
  · simp [Value.ownBlock] at hg
    subst hg
    exact ⟨h3, cur, h4⟩
section
variable {h : TrH} {w : World} {gs : List Nat} {l : List TNd} {cl : Int}
/-- What a tree's blocks are: none of another element type's, no iterator, no other map. -/
theorem TrAt.kinds (t : TrAt h w gs l cl) {x : Nat} (hx : TrS h gs x) : (∃ c ty, w.heap[x]? = some (.cells c ty (0, 0)) ∧ (ty = 102 ∨ ty = 114)) ∨ (x = h.mb ∧ ∃ es c, w.heap[x]? = some (.map es c)) := by
  rcases hx with rfl | rfl | hx
  · exact .inl ⟨_, _, t.box, .inl rfl⟩
  · obtain ⟨D, ⟨es, c, h1, _⟩, _⟩ := t.map
    exact .inr ⟨rfl, es, c, h1⟩
  · obtain ⟨i, hi, rfl⟩ := List.getElem_of_mem hx
    exact .inl ⟨_, _, t.nodes i (by have := t.len; omega) hi, .inr rfl⟩
theorem TrAt.not_row (t : TrAt h w gs l cl) {g : Nat} {c : Array Value} {ty : TypeId} (hc : w.heap[g]? = some (.cells c ty (0, 0))) (h1 : ty ≠ 102) (h2 : ty ≠ 114) : ¬ TrS h gs g := fun hx => by
  rcases t.kinds hx with ⟨c', ty', e, e2⟩ | ⟨_, es, c', e⟩
  · rw [hc] at e
    injection e with e
    injection e with _ e
    rcases e2 with rfl | rfl
    · exact h1 e
    · exact h2 e
  · rw [hc] at e; cases e
theorem TrAt.not_iter (t : TrAt h w gs l cl) {g : Nat} {s : ByteArray} {n : Nat} (hc : w.heap[g]? = some (.stringIter s n)) : ¬ TrS h gs g := fun hx => by
  rcases t.kinds hx with ⟨c', ty', e, _⟩ | ⟨_, es, c', e⟩
  · rw [hc] at e; cases e
  · rw [hc] at e; cases e
/-- A row of texts is as it was behind a tree's call. -/
theorem TrAt.rowKept (t : TrAt h w gs l cl) {w' : World} (ho : OnlyS (TrS h gs) w w') {B : Nat} {v : Value} {ks : List Pfx} (hr : OwnRow w B 9 1 pfxCell v ks) : OwnRow w' B 9 1 pfxCell v ks :=
  hr.onlyS ho fun g hg => by
    obtain ⟨_, c, hc⟩ := hr.kind hg
    exact t.not_row hc (by decide) (by decide)
/-- A tree is as it was behind an append to a row of texts. -/
theorem TrAt.grown (t : TrAt h w gs l cl) {w' : World} {B : Nat} {v : Value} {ks : List Pfx} (hr : OwnRow w B 9 1 pfxCell v ks) (hg : w.grownBy w' v.ownBlock) (hB : h.wc.heap.size ≤ B) : TrAt h w' gs l cl := by
  refine t.keep ((Below.refl _ _).grown hg t.below.size fun k hk => ?_) fun x hx => hg.block x (t.lt x hx) fun e => ?_
  · have := (hr.kind hk).1; omega
  · obtain ⟨_, c, hc⟩ := hr.kind e.symm
    exact t.not_row hc (by decide) (by decide) hx
end

end Go.Proofs.Ytkphdmfcmfojeaa

/- A state of the document in memory: a block of ten cells, and a row of threads. -/
namespace Go.Proofs.Ytkphdmfcmfojeaa
open Go.RowKit

def thrCell (x : Thr) : List Value := [.int .i64 x.at_, .int .i64 x.fuel, .int .i64 (x.r.getD 0 0), .int .i64 (x.r.getD 1 0)]
def thrCells (l : List Thr) : List Value := l.flatMap thrCell
theorem thrCells_length (l : List Thr) : (thrCells l).length = l.length * 4 := by
  induction l with
  | nil => rfl
  | cons i l ih => simp only [thrCells, thrCell, List.flatMap_cons, List.length_append, List.length_cons, List.length_nil] at *; omega
theorem thrCells_append (a b : List Thr) : thrCells (a ++ b) = thrCells a ++ thrCells b := by simp [thrCells]
theorem thrCells_get (l : List Thr) (i j : Nat) (h : i < l.length) (hj : j < 4) : (thrCells l)[i * 4 + j]? = (thrCell l[i])[j]? := by
  induction l generalizing i with
  | nil => simp at h
  | cons x l ih =>
    cases i with
    | zero =>
      simp only [thrCells, List.flatMap_cons, Nat.zero_mul, Nat.zero_add, List.getElem_cons_zero]
      rw [List.getElem?_append_left (by simpa [thrCell] using hj)]
    | succ i =>
      have := ih i (by simpa using h)
      simp only [thrCells, List.flatMap_cons, List.getElem_cons_succ] at *
      rw [List.getElem?_append_right (by simp [thrCell]; omega), ← this]
      congr 1
      simp [thrCell]
      omega
theorem thrCells_one (l : List Thr) : ∀ v ∈ thrCells l, v.oneCell' = true := by
  intro v hv
  simp only [thrCells, List.mem_flatMap] at hv
  obtain ⟨i, _, hv⟩ := hv
  simp [thrCell] at hv
  rcases hv with rfl | rfl | rfl | rfl <;> rfl
theorem thrCells_set (l : List Thr) (t k : Nat) (y : Thr) (v : Value) (ht : t < l.length) (hk : k < 4) (hy : ∀ j, j < 4 → (thrCell y)[j]? = if j = k then some v else (thrCell l[t])[j]?) :
    (thrCells l).set (t * 4 + k) v = thrCells (l.set t y) := by
  apply List.ext_getElem?
  intro j
  have hl := thrCells_length l
  have hl2 : (thrCells (l.set t y)).length = l.length * 4 := by rw [thrCells_length]; simp
  by_cases hj : j < l.length * 4
  · obtain ⟨i, d, rfl, hd⟩ : ∃ i d, j = i * 4 + d ∧ d < 4 := ⟨j / 4, j % 4, by omega, by omega⟩
    have hi : i < l.length := by omega
    rw [thrCells_get (l.set t y) i d (by simpa using hi) hd, List.getElem?_set]
    by_cases e : t = i
    · subst e
      simp only [List.getElem_set_self]
      rw [hy d hd]
      by_cases e2 : d = k
      · subst e2; rw [if_pos rfl, if_pos (by omega), if_pos rfl]
      · rw [if_neg (by omega), if_neg e2, thrCells_get l t d ht hd]
    · rw [if_neg (by omega), List.getElem_set_ne e, thrCells_get l i d hi hd]
  · rw [List.getElem?_eq_none (by simp; omega), List.getElem?_eq_none (by omega)]

def refA (s : St) (a : Option Addr) (cap tb tcap : Nat) : Array Value :=
  #[.int .i64 s.p.vars, .int .i64 s.p.mutexes, .slice a s.p.threads.length cap, .slice (some ⟨tb, 0, none⟩) s.ts.length tcap,
    .int .i64 (s.v.getD 0 0), .int .i64 (s.v.getD 1 0), .int .i64 (s.v.getD 2 0), .int .i64 (s.v.getD 3 0), .int .i64 (s.m.getD 0 (-1)), .int .i64 (s.m.getD 1 (-1))]

/-- In the blocks b and tb lies the document's state s. -/
def RefAt (w : World) (b tb : Nat) (a : Option Addr) (cap tcap : Nat) (s : St) : Prop :=
  w.heap[b]? = some (.cells (refA s a cap tb tcap) 107 (0, 0)) ∧ b ≠ tb ∧ ∃ cur, w.heap[tb]? = some (.cells cur 110 (0, 0)) ∧ cur.toList.take (s.ts.length * 4) = thrCells s.ts

section
variable {w : World} {b tb : Nat} {a : Option Addr} {cap tcap : Nat} {s : St}
theorem RefAt.lt (h : RefAt w b tb a cap tcap s) : b < w.heap.size ∧ tb < w.heap.size := by
  obtain ⟨h1, _, cur, h2, _⟩ := h
  exact ⟨(Array.getElem?_eq_some_iff.1 h1).1, (Array.getElem?_eq_some_iff.1 h2).1⟩
theorem RefAt.later {w' : World} (h : RefAt w b tb a cap tcap s) (hb : Below w.heap.size w w') : RefAt w' b tb a cap tcap s := by
  have hl := h.lt
  obtain ⟨h1, h0, cur, h2, h3⟩ := h
  exact ⟨(hb.block b hl.1).trans h1, h0, cur, (hb.block tb hl.2).trans h2, h3⟩
theorem RefAt.only {w' : World} {g : Nat} (h : RefAt w b tb a cap tcap s) (ho : Only g w w') (hb : b ≠ g) (ht : tb ≠ g) : RefAt w' b tb a cap tcap s := by
  have hl := h.lt
  obtain ⟨h1, h0, cur, h2, h3⟩ := h
  exact ⟨(ho.block b hl.1 hb).trans h1, h0, cur, (ho.block tb hl.2 ht).trans h2, h3⟩
theorem RefAt.drewN (h : RefAt w b tb a cap tcap s) (n : Nat) : RefAt (w.drewN n) b tb a cap tcap s := h
theorem RefAt.frozen (h : RefAt w b tb a cap tcap s) (o : Nat) : w.frozen? ⟨b, o, none⟩ = false ∧ w.frozen? ⟨tb, o, none⟩ = false := by
  obtain ⟨h1, _, cur, h2, _⟩ := h
  simp [World.frozen?, h1, h2]
theorem RefAt.prog (h : RefAt w b tb a cap tcap s) : w.cell? ⟨b, 2, none⟩ = some (.slice a s.p.threads.length cap) ∧ w.cell? ⟨b, 3, none⟩ = some (.slice (some ⟨tb, 0, none⟩) s.ts.length tcap) := by
  simp [World.cell?, h.1, refA]
theorem RefAt.var (h : RefAt w b tb a cap tcap s) (x : Nat) (hx : x < 4) : w.cell? ⟨b, 4 + x, none⟩ = some (.int .i64 (s.v.getD x 0)) := by
  obtain rfl | rfl | rfl | rfl : x = 0 ∨ x = 1 ∨ x = 2 ∨ x = 3 := by omega
  all_goals simp [World.cell?, h.1, refA]
theorem RefAt.who (h : RefAt w b tb a cap tcap s) (x : Nat) (hx : x < 2) : w.cell? ⟨b, 8 + x, none⟩ = some (.int .i64 (s.who x)) := by
  obtain rfl | rfl : x = 0 ∨ x = 1 := by omega
  all_goals
    simp only [World.cell?, h.1, refA]
    rfl
theorem RefAt.thr (h : RefAt w b tb a cap tcap s) (t : Nat) (ht : t < s.ts.length) (k : Nat) (hk : k < 4) : w.cell? ⟨tb, t * 4 + k, none⟩ = (thrCell (s.th t))[k]? := by
  obtain ⟨_, _, cur, h2, h3⟩ := h
  have hg := thrCells_get s.ts t k ht hk
  rw [← h3, List.getElem?_take_of_lt (by omega)] at hg
  have e : s.th t = s.ts[t] := getD_lt _ ht
  rw [e, ← hg]
  simp [World.cell?, h2]
theorem RefAt.at_ (h : RefAt w b tb a cap tcap s) (t : Nat) (ht : t < s.ts.length) : w.cell? ⟨tb, t * 4, none⟩ = some (.int .i64 (s.th t).at_) := h.thr t ht 0 (by omega)
theorem RefAt.fuel (h : RefAt w b tb a cap tcap s) (t : Nat) (ht : t < s.ts.length) : w.cell? ⟨tb, t * 4 + 1, none⟩ = some (.int .i64 (s.th t).fuel) := h.thr t ht 1 (by omega)
theorem RefAt.reg (h : RefAt w b tb a cap tcap s) (t : Nat) (ht : t < s.ts.length) (r : Nat) (hr : r < 2) : w.cell? ⟨tb, t * 4 + 2 + r, none⟩ = some (.int .i64 ((s.th t).r.getD r 0)) := by
  obtain rfl | rfl : r = 0 ∨ r = 1 := by omega
  · exact h.thr t ht 2 (by omega)
  · exact h.thr t ht 3 (by omega)

theorem RefAt.setThr (h : RefAt w b tb a cap tcap s) (t k : Nat) (y : Thr) (v : Value) (ht : t < s.ts.length) (hk : k < 4) (hy : ∀ j, j < 4 → (thrCell y)[j]? = if j = k then some v else (thrCell (s.th t))[j]?) :
    RefAt (w.setCell ⟨tb, t * 4 + k, none⟩ v) b tb a cap tcap (s.put t y) := by
  have e : s.th t = s.ts[t] := getD_lt _ ht
  rw [e] at hy
  obtain ⟨h1, h0, cur, h2, h3⟩ := h
  have hlen : (s.put t y).ts.length = s.ts.length := St.put_len s t y
  have ets : (s.put t y).ts = s.ts.set t y := by simp [St.put]
  refine ⟨?_, h0, _, heap_setCell_same w tb (t * 4 + k) cur _ v h2, ?_⟩
  · rw [Below.heap_setCell _ _ _ _ h0, h1]
    unfold refA
    rw [hlen]
    rfl
  · rw [hlen, ets, ← thrCells_set s.ts t k y v ht hk hy, ← h3]
    simp [List.take_set]
theorem RefAt.setAt (h : RefAt w b tb a cap tcap s) (t n : Nat) (ht : t < s.ts.length) : RefAt (w.setCell ⟨tb, t * 4, none⟩ (.int .i64 n)) b tb a cap tcap (s.put t { s.th t with at_ := n }) :=
  h.setThr t 0 _ _ ht (by omega) (fun j hj => by
    obtain rfl | rfl | rfl | rfl : j = 0 ∨ j = 1 ∨ j = 2 ∨ j = 3 := by omega
    all_goals rfl)
theorem RefAt.setFuel (h : RefAt w b tb a cap tcap s) (t n : Nat) (ht : t < s.ts.length) : RefAt (w.setCell ⟨tb, t * 4 + 1, none⟩ (.int .i64 n)) b tb a cap tcap (s.put t { s.th t with fuel := n }) :=
  h.setThr t 1 _ _ ht (by omega) (fun j hj => by
    obtain rfl | rfl | rfl | rfl : j = 0 ∨ j = 1 ∨ j = 2 ∨ j = 3 := by omega
    all_goals rfl)
theorem RefAt.setReg (h : RefAt w b tb a cap tcap s) (t r : Nat) (n : Int) (ht : t < s.ts.length) (hr : r < 2) (hl : (s.th t).r.length = 2) : RefAt (w.setCell ⟨tb, t * 4 + 2 + r, none⟩ (.int .i64 n)) b tb a cap tcap (s.put t { s.th t with r := (s.th t).r.set r n }) := by
  rw [Nat.add_assoc]
  refine h.setThr t (2 + r) _ _ ht (by omega) (fun j hj => ?_)
  obtain rfl | rfl | rfl | rfl : j = 0 ∨ j = 1 ∨ j = 2 ∨ j = 3 := by omega
  · rw [if_neg (by omega)]; rfl
  · rw [if_neg (by omega)]; rfl
  · simp only [thrCell, List.getElem?_cons_succ, List.getElem?_cons_zero]
    rw [getD_set _ _ _ _ _ (by omega)]
    by_cases e : r = 0
    · subst e; simp
    · rw [if_neg (by omega), if_neg (by omega)]
  · simp only [thrCell, List.getElem?_cons_succ, List.getElem?_cons_zero]
    rw [getD_set _ _ _ _ _ (by omega)]
    by_cases e : r = 1
    · subst e; simp
    · rw [if_neg (by omega), if_neg (by omega)]
theorem RefAt.setVar (h : RefAt w b tb a cap tcap s) (x : Nat) (n : Int) (hx : x < 4) (hl : s.v.length = 4) : RefAt (w.setCell ⟨b, 4 + x, none⟩ (.int .i64 n)) b tb a cap tcap { s with v := s.v.set x n } := by
  obtain ⟨h1, h0, cur, h2, h3⟩ := h
  refine ⟨?_, h0, cur, (Below.heap_setCell _ _ _ _ (fun e => h0 e.symm)).trans h2, h3⟩
  rw [heap_setCell_same w b (4 + x) _ _ _ h1]
  congr 2
  unfold refA
  dsimp only
  simp only [getD_set _ _ _ _ _ (show x < s.v.length by omega)]
  obtain rfl | rfl | rfl | rfl : x = 0 ∨ x = 1 ∨ x = 2 ∨ x = 3 := by omega
  all_goals rfl
theorem RefAt.setWho (h : RefAt w b tb a cap tcap s) (x : Nat) (n : Int) (hx : x < 2) (hl : s.m.length = 2) : RefAt (w.setCell ⟨b, 8 + x, none⟩ (.int .i64 n)) b tb a cap tcap { s with m := s.m.set x n } := by
  obtain ⟨h1, h0, cur, h2, h3⟩ := h
  refine ⟨?_, h0, cur, (Below.heap_setCell _ _ _ _ (fun e => h0 e.symm)).trans h2, h3⟩
  rw [heap_setCell_same w b (8 + x) _ _ _ h1]
  congr 2
  unfold refA
  dsimp only
  simp only [getD_set _ _ _ _ _ (show x < s.m.length by omega)]
  obtain rfl | rfl : x = 0 ∨ x = 1 := by omega
  all_goals rfl
theorem RefAt.other {g : Nat} (h : RefAt w b tb a cap tcap s) (hb : b ≠ g) (ht : tb ≠ g) (o : Nat) (v : Value) : RefAt (w.setCell ⟨g, o, none⟩ v) b tb a cap tcap s := by
  obtain ⟨h1, h0, cur, h2, h3⟩ := h
  exact ⟨(Below.heap_setCell _ _ _ _ hb).trans h1, h0, cur, (Below.heap_setCell _ _ _ _ ht).trans h2, h3⟩
end

/-- All but the blocks b and c is as it was. -/
structure Only2 (b c : Nat) (w w' : World) : Prop where
  os : w'.os = w.os
  tape : w'.tape = w.tape
  output : w'.output = w.output
  size : w.heap.size ≤ w'.heap.size
  block : ∀ k, k < w.heap.size → k ≠ b → k ≠ c → w'.heap[k]? = w.heap[k]?

theorem Only2.refl (b c : Nat) (w : World) : Only2 b c w w := ⟨rfl, rfl, rfl, Nat.le_refl _, fun _ _ _ _ => rfl⟩
theorem Only2.trans {b c : Nat} {u v w : World} (h : Only2 b c u v) (k : Only2 b c v w) : Only2 b c u w :=
  ⟨k.os.trans h.os, k.tape.trans h.tape, k.output.trans h.output, Nat.le_trans h.size k.size, fun i hi hb hc => (k.block i (Nat.lt_of_lt_of_le hi h.size) hb hc).trans (h.block i hi hb hc)⟩
theorem Only2.of_below {b c : Nat} {w w' : World} (h : Below w.heap.size w w') : Only2 b c w w' := ⟨h.os, h.tape, h.output, h.size, fun k hk _ _ => h.block k hk⟩
theorem Only2.alloc {b c : Nat} {w w' : World} (h : Only2 b c w w') (o : Obj) : Only2 b c w (w'.alloc o) := h.trans (.of_below ((Below.refl _ _).alloc (Nat.le_refl _) _))
theorem Only2.drew {b c : Nat} {w w' : World} (h : Only2 b c w w') : Only2 b c w w'.drew := ⟨h.os, h.tape, h.output, h.size, h.block⟩
theorem Only2.drewN {b c : Nat} {w w' : World} (h : Only2 b c w w') {n : Nat} : Only2 b c w (w'.drewN n) := ⟨h.os, h.tape, h.output, h.size, h.block⟩
theorem Only2.setCell {b c g : Nat} {w w' : World} (h : Only2 b c w w') (hg : g = b ∨ g = c ∨ w.heap.size ≤ g) (o : Nat) (v : Value) : Only2 b c w (w'.setCell ⟨g, o, none⟩ v) :=
  ⟨h.os, h.tape, h.output, by simp [World.setCell]; exact h.size, fun k hk hb hc => (Below.heap_setCell _ _ _ _ (by show k ≠ g; omega)).trans (h.block k hk hb hc)⟩
theorem Only2.set4 {b c g : Nat} {w w1 : World} (h : Only2 b c w w1) (hg : w.heap.size ≤ g) (v0 v1 v2 v3 : Value) : Only2 b c w ((((w1.setCell ⟨g, 0, none⟩ v0).setCell ⟨g, 1, none⟩ v1).setCell ⟨g, 2, none⟩ v2).setCell ⟨g, 3, none⟩ v3) :=
  (((h.setCell (.inr (.inr hg)) 0 v0).setCell (.inr (.inr hg)) 1 v1).setCell (.inr (.inr hg)) 2 v2).setCell (.inr (.inr hg)) 3 v3
theorem Only2.below {b c B : Nat} {w w' : World} (h : Only2 b c w w') (hb : B ≤ b) (hc : B ≤ c) (hw : B ≤ w.heap.size) : Below B w w' :=
  ⟨h.os, h.tape, h.output, h.size, fun k hk => h.block k (by omega) (by omega) (by omega)⟩
theorem Only2.stAt {b c g : Nat} {w w' : World} {s : St} (h : Only2 b c w w') (hs : StAt w g s) (hb : g ≠ b) (hc : g ≠ c) : StAt w' g s := (h.block g hs.lt hb hc).trans hs

theorem below_heap2 (w : World) (o o2 : Obj) {k : Nat} (hk : k < w.heap.size) : ((w.alloc o).alloc o2).heap[k]? = w.heap[k]? := by
  rw [Below.heap_alloc _ _ _ (by simp; omega), Below.heap_alloc _ _ _ hk]

/-- Behind two new blocks: an event that is none, an instruction. -/
theorem mid_world {w W : World} {k r x m : Int} {n : Nat} (h : ((w.alloc (.cells #[.int .i64 0, .int .i64 0, .int .i64 0, .bool false] 128)).drewN n).alloc (.cells #[.int .i64 k, .int .i64 r, .int .i64 x, .int .i64 m] 94) = W) :
    Below w.heap.size w W ∧ (W.cell? ⟨w.heap.size, 0, none⟩ = some (.int .i64 0) ∧ W.cell? ⟨w.heap.size, 1, none⟩ = some (.int .i64 0) ∧ W.cell? ⟨w.heap.size, 2, none⟩ = some (.int .i64 0) ∧ W.cell? ⟨w.heap.size, 3, none⟩ = some (.bool false)) ∧
      (W.frozen? ⟨w.heap.size, 0, none⟩ = false ∧ W.frozen? ⟨w.heap.size, 1, none⟩ = false ∧ W.frozen? ⟨w.heap.size, 2, none⟩ = false ∧ W.frozen? ⟨w.heap.size, 3, none⟩ = false) ∧
      (W.cell? ⟨w.heap.size + 1, 0, none⟩ = some (.int .i64 k) ∧ W.cell? ⟨w.heap.size + 1, 1, none⟩ = some (.int .i64 r) ∧ W.cell? ⟨w.heap.size + 1, 2, none⟩ = some (.int .i64 x) ∧ W.cell? ⟨w.heap.size + 1, 3, none⟩ = some (.int .i64 m)) ∧ w.heap.size + 1 < W.heap.size ∧ w.heap.size < W.heap.size := by
  subst h
  have g0 : (((w.alloc (.cells #[.int .i64 0, .int .i64 0, .int .i64 0, .bool false] 128)).drewN n).alloc (.cells #[.int .i64 k, .int .i64 r, .int .i64 x, .int .i64 m] 94)).heap[w.heap.size]? = some (.cells #[.int .i64 0, .int .i64 0, .int .i64 0, .bool false] 128 (0, 0)) := heap_alloc2_old w _ _
  have g1 : (((w.alloc (.cells #[.int .i64 0, .int .i64 0, .int .i64 0, .bool false] 128)).drewN n).alloc (.cells #[.int .i64 k, .int .i64 r, .int .i64 x, .int .i64 m] 94)).heap[w.heap.size + 1]? = some (.cells #[.int .i64 k, .int .i64 r, .int .i64 x, .int .i64 m] 94 (0, 0)) := heap_alloc2_new w _ _
  have l0 := (Array.getElem?_eq_some_iff.1 g0).1
  have l1 := (Array.getElem?_eq_some_iff.1 g1).1
  refine ⟨⟨rfl, rfl, rfl, by omega, fun k hk => ?_⟩, ?_, ?_, ?_, l1, l0⟩
  · exact (below_heap2 w _ _ hk)
  · simp only [World.cell?, g0]; exact ⟨rfl, rfl, rfl, rfl⟩
  · simp only [World.frozen?, g0]; exact ⟨rfl, rfl, rfl, rfl⟩
  · simp only [World.cell?, g1]; exact ⟨rfl, rfl, rfl, rfl⟩
end Go.Proofs.Ytkphdmfcmfojeaa

/- The contract of the document's Next: no such thread. -/
namespace Go.Proofs.Ytkphdmfcmfojeaa
open Go.RowKit

section
variable {F : Nat} {w : World} {b tb : Nat} {a : Option Addr} {cap tcap : Nat} {s : St}

set_option maxRecDepth 100000 in
set_option maxHeartbeats 4000000 in
theorem refNext_neg (h : RefAt w b tb a cap tcap s) (t : Int) (ht0 : t < 0) : Calls Try.prog 80 #[.pointer (some ⟨b, 0, none⟩), .int .i64 t] w fun r w' => r = .returned (.tuple #[.agg #[.int .i64 0, .int .i64 0, .int .i64 0, .bool false], .bool false]) ∧ Below w.heap.size w w' := by
  obtain ⟨hb1, hb2⟩ := h.lt
  obtain ⟨p0, p1⟩ := h.prog
  have q0 : decide (t < 0) = true := by simpa using ht0
  have H := Lib.hid h
  clear h
  go_enter Try.func80, Try.ntmps80
  go_wp2
  go_quiet (fail)
  go_wp2
  exact bodyPost_ret (v := .tuple #[.agg #[.int .i64 0, .int .i64 0, .int .i64 0, .bool false], .bool false]) (by simp [results, Try.results80, go_sem]) rfl ⟨rfl, below_set4 (below_alloc1 w _).drewN (Nat.le_refl _) _ _ _ _⟩

set_option maxRecDepth 100000 in
set_option maxHeartbeats 4000000 in
theorem refNext_out (h : RefAt w b tb a cap tcap s) (t : Int) (ht0 : ¬ t < 0) (hk0 : (s.ts.length : Int) ≤ t) : Calls Try.prog 80 #[.pointer (some ⟨b, 0, none⟩), .int .i64 t] w fun r w' => r = .returned (.tuple #[.agg #[.int .i64 0, .int .i64 0, .int .i64 0, .bool false], .bool false]) ∧ Below w.heap.size w w' := by
  obtain ⟨hb1, hb2⟩ := h.lt
  obtain ⟨p0, p1⟩ := h.prog
  have q0 : decide (t < 0) = false := by simpa using ht0
  have q1 : decide ((s.ts.length : Int) ≤ t) = true := by simpa using hk0
  have H := Lib.hid h
  clear h ht0 hk0
  go_enter Try.func80, Try.ntmps80
  go_wp2
  go_quiet (fail)
  go_wp2
  exact bodyPost_ret (v := .tuple #[.agg #[.int .i64 0, .int .i64 0, .int .i64 0, .bool false], .bool false]) (by simp [results, Try.results80, go_sem]) rfl ⟨rfl, below_set4 (below_alloc1 w _).drewN (Nat.le_refl _) _ _ _ _⟩
end
end Go.Proofs.Ytkphdmfcmfojeaa

/- The contract of the document's Next: no fuel. -/
namespace Go.Proofs.Ytkphdmfcmfojeaa
open Go.RowKit

section
variable {F : Nat} {w : World} {b tb : Nat} {a : Option Addr} {cap tcap : Nat} {s : St}

set_option maxRecDepth 100000 in
set_option maxHeartbeats 4000000 in
theorem refNext_dry (h : RefAt w b tb a cap tcap s) (t : Nat) (_h4 : s.ts.length ≤ 4) (hk' : t < s.ts.length) (hf : (s.th t).fuel = 0) : Calls Try.prog 80 #[.pointer (some ⟨b, 0, none⟩), .int .i64 t] w fun r w' => r = .returned (.tuple #[.agg #[.int .i64 0, .int .i64 0, .int .i64 0, .bool false], .bool false]) ∧ Below w.heap.size w w' := by
  obtain ⟨hb1, hb2⟩ := h.lt
  obtain ⟨p0, p1⟩ := h.prog
  have cf : w.cell? ⟨tb, t * 4 + 1, none⟩ = some (.int .i64 0) := by have := h.fuel t hk'; rw [hf] at this; exact this
  have q0 : decide ((t : Int) < 0) = false := by simp
  have q1 : decide ((s.ts.length : Int) ≤ t) = false := by simp; omega
  have q2 : decide (s.ts.length ≤ t) = false := by simp; omega
  have H := Lib.hid h
  clear h hf
  go_enter Try.func80, Try.ntmps80
  go_wp2
  go_quiet (fail)
  go_wp2
  exact bodyPost_ret (v := .tuple #[.agg #[.int .i64 0, .int .i64 0, .int .i64 0, .bool false], .bool false]) (by simp [results, Try.results80, go_sem]) rfl ⟨rfl, below_set4 (below_alloc1 w _).drewN (Nat.le_refl _) _ _ _ _⟩
end
end Go.Proofs.Ytkphdmfcmfojeaa

/- The contract of the document's Next: behind the last instruction. -/
namespace Go.Proofs.Ytkphdmfcmfojeaa
open Go.RowKit

section
variable {F : Nat} {w : World} {b tb : Nat} {a : Option Addr} {cap tcap : Nat} {s : St}

set_option maxRecDepth 100000 in
set_option maxHeartbeats 4000000 in
theorem refNext_end (h : RefAt w b tb a cap tcap s) (hth : ThreadsAt w a s.p.threads) (ok : s.Ok F) (t : Nat) (hk' : t < s.ts.length) (hf : (s.th t).fuel ≠ 0) (hat : (s.th t).at_ = (s.code t).length) : Calls Try.prog 80 #[.pointer (some ⟨b, 0, none⟩), .int .i64 t] w fun r w' => r = .returned (.tuple #[.agg #[.int .i64 0, .int .i64 0, .int .i64 0, .bool false], .bool false]) ∧ Below w.heap.size w w' := by
  obtain ⟨hb1, hb2⟩ := h.lt
  obtain ⟨p0, p1⟩ := h.prog
  have hln := ok.len
  have h4 := ok.len4
  have cf := h.fuel t hk'
  have ca := h.at_ t hk'
  have q0 : decide ((t : Int) < 0) = false := by simp
  have q2 : decide (s.ts.length ≤ t) = false := by simp; omega
  have q1 : decide ((s.ts.length : Int) ≤ t) = false := by simp; omega
  have hkp : t < s.p.threads.length := by omega
  have hcd : s.code t = s.p.threads[t] := getD_lt _ hkp
  obtain ⟨ab, ao, rfl, hc⟩ := hth.2 (by intro e; simp [e] at hkp)
  obtain ⟨c, ccap, c0, c1, _⟩ := hc t hkp
  rw [← hcd] at c0
  have hz := cell_block c0
  dsimp only at hz
  have hf' : ((((s.th t).fuel : Nat) : Int) == 0) = false := by simp; omega
  have h8 := ok.code8 t hk'
  rw [hat] at ca
  have H := Lib.hid h
  clear h hth ok hln hf hat hc c1 hcd
  generalize (s.th t).fuel = f at *
  generalize (s.code t).length = n at *
  have q3 : decide (n ≤ n) = true := by simp
  have q4 : decide ((n : Int) ≤ n) = true := by simp
  go_enter Try.func80, Try.ntmps80
  go_wp2
  go_quiet (fail)
  go_wp2
  exact bodyPost_ret (v := .tuple #[.agg #[.int .i64 0, .int .i64 0, .int .i64 0, .bool false], .bool false]) (by simp [results, Try.results80, go_sem]) rfl ⟨rfl, below_set4 (below_alloc1 w _).drewN (Nat.le_refl _) _ _ _ _⟩
end
end Go.Proofs.Ytkphdmfcmfojeaa

/- The contract of the document's Next: a variable, a lock. -/
namespace Go.Proofs.Ytkphdmfcmfojeaa
open Go.RowKit

section
variable {F : Nat} {w : World} {b tb : Nat} {a : Option Addr} {cap tcap : Nat} {s : St}

set_option maxRecDepth 100000 in
set_option maxHeartbeats 4000000 in
theorem refNext_1 (h : RefAt w b tb a cap tcap s) (hth : ThreadsAt w a s.p.threads) (ok : s.Ok F) (t : Nat) (i : Ins) (hi : s.ins t = some i) (hk1 : i.kind = 1) :
    Calls Try.prog 80 #[.pointer (some ⟨b, 0, none⟩), .int .i64 t] w fun r w' => r = .returned (.tuple #[.agg #[.int .i64 t, .int .i64 2, .int .i64 i.x, .bool false], .bool true]) ∧ Below w.heap.size w w' := by
  obtain ⟨_, hf, hcode⟩ := St.ins_has hi
  obtain ⟨k, hkk, hk'⟩ := St.ins_nat hi
  obtain rfl : t = k := by omega
  simp only [Int.toNat_natCast] at hf hcode
  obtain ⟨hb1, hb2⟩ := h.lt
  obtain ⟨p0, p1⟩ := h.prog
  have hln := ok.len
  have h4 := ok.len4
  have hkp : t < s.p.threads.length := by omega
  have hcd : s.code t = s.p.threads[t] := getD_lt _ hkp
  obtain ⟨hat, hic⟩ := List.getElem?_eq_some_iff.1 hcode
  obtain ⟨ab, ao, rfl, hc⟩ := hth.2 (by intro e; simp [e] at hkp)
  obtain ⟨c, ccap, c0, c1, _⟩ := hc t hkp
  rw [← hcd] at c0 c1
  obtain ⟨cb, co, rfl, hcc⟩ := c1.2 (by intro e; simp [e] at hat)
  obtain ⟨i0, i1, i2, i3⟩ := hcc _ hat
  rw [hic] at i0 i1 i2 i3
  have hz1 := cell_block c0
  have hz2 := cell_block i0
  dsimp only at hz1 hz2
  have cf := h.fuel t hk'
  have ca := h.at_ t hk'
  have hff : ((((s.th t).fuel : Nat) : Int) == 0) = false := by simp; omega
  have q0 : decide ((t : Int) < 0) = false := by simp
  have q1 : decide ((s.ts.length : Int) ≤ t) = false := by simp; omega
  have q2 : decide (s.ts.length ≤ t) = false := by simp; omega
  have q3 : decide ((s.code t).length ≤ (s.th t).at_) = false := by simp; omega
  have q4 : decide (((s.code t).length : Int) ≤ (s.th t).at_) = false := by simp; omega
  have h8 := ok.code8 t hk'
  have H := Lib.hid h
  clear h hth ok hi hln hkk hf hcode hc c1 hcd hcc hic
  generalize (s.th t).fuel = f at *
  generalize (s.th t).at_ = at_ at *
  generalize (s.code t).length = n at *
  obtain ⟨kd, r, x, m⟩ := i
  dsimp only at *
  subst hk1
  go_enter Try.func80, Try.ntmps80
  go_wp2
  go_quiet (fail)
  go_wp2
  go_region
  generalize hW : (((w.alloc (.cells #[.int .i64 0, .int .i64 0, .int .i64 0, .bool false] 128)).drewN (nq + 1)).alloc (.cells #[.int .i64 1, .int .i64 r, .int .i64 x, .int .i64 m] 94)) = W at *
  obtain ⟨hbl, ⟨e0, e1, e2, e3⟩, ⟨e4, e5, e6, e7⟩, ⟨j0, j1, j2, j3⟩, hsz, hsz0⟩ := mid_world hW
  clear hW cf ca c0 i0 i1 i2 i3 p0 p1 
  go_wp2
  refine bodyPost_ret (v := .tuple #[.agg #[.int .i64 t, .int .i64 2, .int .i64 x, .bool false], .bool true]) (by simp [results, Try.results80, go_sem, hsz0, e0, e1, e2, e3]) rfl ⟨rfl, ?_⟩
  repeat (first | exact hbl | refine Below.drew ?_ | refine Below.drewN ?_ | (refine Below.alloc ?_ (by simp [World.setCell]; omega) _) | (refine Below.setCell ?_ (by first | exact Nat.le_refl _ | (simp [World.setCell]; omega)) _))

set_option maxRecDepth 100000 in
set_option maxHeartbeats 4000000 in
theorem refNext_2 (h : RefAt w b tb a cap tcap s) (hth : ThreadsAt w a s.p.threads) (ok : s.Ok F) (t : Nat) (i : Ins) (hi : s.ins t = some i) (hk1 : i.kind = 2) :
    Calls Try.prog 80 #[.pointer (some ⟨b, 0, none⟩), .int .i64 t] w fun r w' => r = .returned (.tuple #[.agg #[.int .i64 t, .int .i64 3, .int .i64 i.x, .bool false], .bool true]) ∧ Below w.heap.size w w' := by
  obtain ⟨_, hf, hcode⟩ := St.ins_has hi
  obtain ⟨k, hkk, hk'⟩ := St.ins_nat hi
  obtain rfl : t = k := by omega
  simp only [Int.toNat_natCast] at hf hcode
  obtain ⟨hb1, hb2⟩ := h.lt
  obtain ⟨p0, p1⟩ := h.prog
  have hln := ok.len
  have h4 := ok.len4
  have hkp : t < s.p.threads.length := by omega
  have hcd : s.code t = s.p.threads[t] := getD_lt _ hkp
  obtain ⟨hat, hic⟩ := List.getElem?_eq_some_iff.1 hcode
  obtain ⟨ab, ao, rfl, hc⟩ := hth.2 (by intro e; simp [e] at hkp)
  obtain ⟨c, ccap, c0, c1, _⟩ := hc t hkp
  rw [← hcd] at c0 c1
  obtain ⟨cb, co, rfl, hcc⟩ := c1.2 (by intro e; simp [e] at hat)
  obtain ⟨i0, i1, i2, i3⟩ := hcc _ hat
  rw [hic] at i0 i1 i2 i3
  have hz1 := cell_block c0
  have hz2 := cell_block i0
  dsimp only at hz1 hz2
  have cf := h.fuel t hk'
  have ca := h.at_ t hk'
  have hff : ((((s.th t).fuel : Nat) : Int) == 0) = false := by simp; omega
  have q0 : decide ((t : Int) < 0) = false := by simp
  have q1 : decide ((s.ts.length : Int) ≤ t) = false := by simp; omega
  have q2 : decide (s.ts.length ≤ t) = false := by simp; omega
  have q3 : decide ((s.code t).length ≤ (s.th t).at_) = false := by simp; omega
  have q4 : decide (((s.code t).length : Int) ≤ (s.th t).at_) = false := by simp; omega
  have h8 := ok.code8 t hk'
  have H := Lib.hid h
  clear h hth ok hi hln hkk hf hcode hc c1 hcd hcc hic
  generalize (s.th t).fuel = f at *
  generalize (s.th t).at_ = at_ at *
  generalize (s.code t).length = n at *
  obtain ⟨kd, r, x, m⟩ := i
  dsimp only at *
  subst hk1
  go_enter Try.func80, Try.ntmps80
  go_wp2
  go_quiet (fail)
  go_wp2
  go_region
  generalize hW : (((w.alloc (.cells #[.int .i64 0, .int .i64 0, .int .i64 0, .bool false] 128)).drewN (nq + 1)).alloc (.cells #[.int .i64 2, .int .i64 r, .int .i64 x, .int .i64 m] 94)) = W at *
  obtain ⟨hbl, ⟨e0, e1, e2, e3⟩, ⟨e4, e5, e6, e7⟩, ⟨j0, j1, j2, j3⟩, hsz, hsz0⟩ := mid_world hW
  clear hW cf ca c0 i0 i1 i2 i3 p0 p1 
  go_wp2
  refine bodyPost_ret (v := .tuple #[.agg #[.int .i64 t, .int .i64 3, .int .i64 x, .bool false], .bool true]) (by simp [results, Try.results80, go_sem, hsz0, e0, e1, e2, e3]) rfl ⟨rfl, ?_⟩
  repeat (first | exact hbl | refine Below.drew ?_ | refine Below.drewN ?_ | (refine Below.alloc ?_ (by simp [World.setCell]; omega) _) | (refine Below.setCell ?_ (by first | exact Nat.le_refl _ | (simp [World.setCell]; omega)) _))

set_option maxRecDepth 100000 in
set_option maxHeartbeats 4000000 in
theorem refNext_5 (h : RefAt w b tb a cap tcap s) (hth : ThreadsAt w a s.p.threads) (ok : s.Ok F) (t : Nat) (i : Ins) (hi : s.ins t = some i) (hk1 : i.kind = 5) :
    Calls Try.prog 80 #[.pointer (some ⟨b, 0, none⟩), .int .i64 t] w fun r w' => r = .returned (.tuple #[.agg #[.int .i64 t, .int .i64 4, .int .i64 i.x, .bool false], .bool true]) ∧ Below w.heap.size w w' := by
  obtain ⟨_, hf, hcode⟩ := St.ins_has hi
  obtain ⟨k, hkk, hk'⟩ := St.ins_nat hi
  obtain rfl : t = k := by omega
  simp only [Int.toNat_natCast] at hf hcode
  obtain ⟨hb1, hb2⟩ := h.lt
  obtain ⟨p0, p1⟩ := h.prog
  have hln := ok.len
  have h4 := ok.len4
  have hkp : t < s.p.threads.length := by omega
  have hcd : s.code t = s.p.threads[t] := getD_lt _ hkp
  obtain ⟨hat, hic⟩ := List.getElem?_eq_some_iff.1 hcode
  obtain ⟨ab, ao, rfl, hc⟩ := hth.2 (by intro e; simp [e] at hkp)
  obtain ⟨c, ccap, c0, c1, _⟩ := hc t hkp
  rw [← hcd] at c0 c1
  obtain ⟨cb, co, rfl, hcc⟩ := c1.2 (by intro e; simp [e] at hat)
  obtain ⟨i0, i1, i2, i3⟩ := hcc _ hat
  rw [hic] at i0 i1 i2 i3
  have hz1 := cell_block c0
  have hz2 := cell_block i0
  dsimp only at hz1 hz2
  have cf := h.fuel t hk'
  have ca := h.at_ t hk'
  have hff : ((((s.th t).fuel : Nat) : Int) == 0) = false := by simp; omega
  have q0 : decide ((t : Int) < 0) = false := by simp
  have q1 : decide ((s.ts.length : Int) ≤ t) = false := by simp; omega
  have q2 : decide (s.ts.length ≤ t) = false := by simp; omega
  have q3 : decide ((s.code t).length ≤ (s.th t).at_) = false := by simp; omega
  have q4 : decide (((s.code t).length : Int) ≤ (s.th t).at_) = false := by simp; omega
  have h8 := ok.code8 t hk'
  have H := Lib.hid h
  clear h hth ok hi hln hkk hf hcode hc c1 hcd hcc hic
  generalize (s.th t).fuel = f at *
  generalize (s.th t).at_ = at_ at *
  generalize (s.code t).length = n at *
  obtain ⟨kd, r, x, m⟩ := i
  dsimp only at *
  subst hk1
  go_enter Try.func80, Try.ntmps80
  go_wp2
  go_quiet (fail)
  go_wp2
  go_region
  generalize hW : (((w.alloc (.cells #[.int .i64 0, .int .i64 0, .int .i64 0, .bool false] 128)).drewN (nq + 1)).alloc (.cells #[.int .i64 5, .int .i64 r, .int .i64 x, .int .i64 m] 94)) = W at *
  obtain ⟨hbl, ⟨e0, e1, e2, e3⟩, ⟨e4, e5, e6, e7⟩, ⟨j0, j1, j2, j3⟩, hsz, hsz0⟩ := mid_world hW
  clear hW cf ca c0 i0 i1 i2 i3 p0 p1 
  go_wp2
  refine bodyPost_ret (v := .tuple #[.agg #[.int .i64 t, .int .i64 4, .int .i64 x, .bool false], .bool true]) (by simp [results, Try.results80, go_sem, hsz0, e0, e1, e2, e3]) rfl ⟨rfl, ?_⟩
  repeat (first | exact hbl | refine Below.drew ?_ | refine Below.drewN ?_ | (refine Below.alloc ?_ (by simp [World.setCell]; omega) _) | (refine Below.setCell ?_ (by first | exact Nat.le_refl _ | (simp [World.setCell]; omega)) _))
end
end Go.Proofs.Ytkphdmfcmfojeaa

/- The contract of the document's Next: an unlock. -/
namespace Go.Proofs.Ytkphdmfcmfojeaa
open Go.RowKit

section
variable {F : Nat} {w : World} {b tb : Nat} {a : Option Addr} {cap tcap : Nat} {s : St}

set_option maxRecDepth 100000 in
set_option maxHeartbeats 4000000 in
theorem refNext_6 (h : RefAt w b tb a cap tcap s) (hth : ThreadsAt w a s.p.threads) (ok : s.Ok F) (t : Nat) (i : Ins) (hi : s.ins t = some i) (hk1 : i.kind = 6) (y : Nat) (hy : i.x = y) (hy2 : y < 2) (hw : s.who y = t) :
    Calls Try.prog 80 #[.pointer (some ⟨b, 0, none⟩), .int .i64 t] w fun r w' => r = .returned (.tuple #[.agg #[.int .i64 t, .int .i64 5, .int .i64 i.x, .bool false], .bool true]) ∧ Below w.heap.size w w' := by
  obtain ⟨_, hf, hcode⟩ := St.ins_has hi
  obtain ⟨k, hkk, hk'⟩ := St.ins_nat hi
  obtain rfl : t = k := by omega
  simp only [Int.toNat_natCast] at hf hcode
  obtain ⟨hb1, hb2⟩ := h.lt
  obtain ⟨p0, p1⟩ := h.prog
  have hln := ok.len
  have h4 := ok.len4
  have hkp : t < s.p.threads.length := by omega
  have hcd : s.code t = s.p.threads[t] := getD_lt _ hkp
  obtain ⟨hat, hic⟩ := List.getElem?_eq_some_iff.1 hcode
  obtain ⟨ab, ao, rfl, hc⟩ := hth.2 (by intro e; simp [e] at hkp)
  obtain ⟨c, ccap, c0, c1, _⟩ := hc t hkp
  rw [← hcd] at c0 c1
  obtain ⟨cb, co, rfl, hcc⟩ := c1.2 (by intro e; simp [e] at hat)
  obtain ⟨i0, i1, i2, i3⟩ := hcc _ hat
  rw [hic] at i0 i1 i2 i3
  have hz1 := cell_block c0
  have hz2 := cell_block i0
  dsimp only at hz1 hz2
  have cf := h.fuel t hk'
  have ca := h.at_ t hk'
  have hff : ((((s.th t).fuel : Nat) : Int) == 0) = false := by simp; omega
  have q0 : decide ((t : Int) < 0) = false := by simp
  have q1 : decide ((s.ts.length : Int) ≤ t) = false := by simp; omega
  have q2 : decide (s.ts.length ≤ t) = false := by simp; omega
  have q3 : decide ((s.code t).length ≤ (s.th t).at_) = false := by simp; omega
  have q4 : decide (((s.code t).length : Int) ≤ (s.th t).at_) = false := by simp; omega
  have h8 := ok.code8 t hk'
  have c9 := h.who y hy2
  rw [hw] at c9
  have H := Lib.hid h
  clear h hth ok hi hln hkk hf hcode hc c1 hcd hcc hic
  generalize (s.th t).fuel = f at *
  generalize (s.th t).at_ = at_ at *
  generalize (s.code t).length = n at *
  obtain ⟨kd, r, x, m⟩ := i
  dsimp only at *
  subst hk1 hy
  clear hw
  go_enter Try.func80, Try.ntmps80
  go_wp2
  go_quiet (fail)
  go_wp2
  go_region
  generalize hW : (((w.alloc (.cells #[.int .i64 0, .int .i64 0, .int .i64 0, .bool false] 128)).drewN (nq + 1)).alloc (.cells #[.int .i64 6, .int .i64 r, .int .i64 y, .int .i64 m] 94)) = W at *
  obtain ⟨hbl, ⟨e0, e1, e2, e3⟩, ⟨e4, e5, e6, e7⟩, ⟨j0, j1, j2, j3⟩, hsz, hsz0⟩ := mid_world hW
  have c9w := cell_later hbl c9
  have c9z := cell_block c9w
  dsimp only at c9z
  clear hW cf ca c0 i0 i1 i2 i3 p0 p1 c9
  go_wp2
  go_region
  go_wp2
  refine bodyPost_ret (v := .tuple #[.agg #[.int .i64 t, .int .i64 5, .int .i64 y, .bool false], .bool true]) (by simp [results, Try.results80, go_sem, hsz0, e0, e1, e2, e3]) rfl ⟨rfl, ?_⟩
  repeat (first | exact hbl | refine Below.drew ?_ | refine Below.drewN ?_ | (refine Below.alloc ?_ (by simp [World.setCell]; omega) _) | (refine Below.setCell ?_ (by first | exact Nat.le_refl _ | (simp [World.setCell]; omega)) _))
end
end Go.Proofs.Ytkphdmfcmfojeaa

/- The contract of the document's Next: an assertion. -/
namespace Go.Proofs.Ytkphdmfcmfojeaa
open Go.RowKit

section
variable {F : Nat} {w : World} {b tb : Nat} {a : Option Addr} {cap tcap : Nat} {s : St}

set_option maxRecDepth 100000 in
set_option maxHeartbeats 4000000 in
theorem refNext_8 (h : RefAt w b tb a cap tcap s) (hth : ThreadsAt w a s.p.threads) (ok : s.Ok F) (t : Nat) (i : Ins) (hi : s.ins t = some i) (hk1 : i.kind = 8) (y : Nat) (hy : i.r = y) (hy2 : y < 2) :
    Calls Try.prog 80 #[.pointer (some ⟨b, 0, none⟩), .int .i64 t] w fun r w' => r = .returned (.tuple #[.agg #[.int .i64 t, .int .i64 1, .int .i64 0, .bool ((s.th t).r.getD y 0 == 0)], .bool true]) ∧ Below w.heap.size w w' := by
  obtain ⟨_, hf, hcode⟩ := St.ins_has hi
  obtain ⟨k, hkk, hk'⟩ := St.ins_nat hi
  obtain rfl : t = k := by omega
  simp only [Int.toNat_natCast] at hf hcode
  obtain ⟨hb1, hb2⟩ := h.lt
  obtain ⟨p0, p1⟩ := h.prog
  have hln := ok.len
  have h4 := ok.len4
  have hkp : t < s.p.threads.length := by omega
  have hcd : s.code t = s.p.threads[t] := getD_lt _ hkp
  obtain ⟨hat, hic⟩ := List.getElem?_eq_some_iff.1 hcode
  obtain ⟨ab, ao, rfl, hc⟩ := hth.2 (by intro e; simp [e] at hkp)
  obtain ⟨c, ccap, c0, c1, _⟩ := hc t hkp
  rw [← hcd] at c0 c1
  obtain ⟨cb, co, rfl, hcc⟩ := c1.2 (by intro e; simp [e] at hat)
  obtain ⟨i0, i1, i2, i3⟩ := hcc _ hat
  rw [hic] at i0 i1 i2 i3
  have hz1 := cell_block c0
  have hz2 := cell_block i0
  dsimp only at hz1 hz2
  have cf := h.fuel t hk'
  have ca := h.at_ t hk'
  have hff : ((((s.th t).fuel : Nat) : Int) == 0) = false := by simp; omega
  have q0 : decide ((t : Int) < 0) = false := by simp
  have q1 : decide ((s.ts.length : Int) ≤ t) = false := by simp; omega
  have q2 : decide (s.ts.length ≤ t) = false := by simp; omega
  have q3 : decide ((s.code t).length ≤ (s.th t).at_) = false := by simp; omega
  have q4 : decide (((s.code t).length : Int) ≤ (s.th t).at_) = false := by simp; omega
  have h8 := ok.code8 t hk'
  have c9 := h.reg t hk' y hy2
  have c8 := p1
  generalize (s.th t).r.getD y 0 = z at *
  have H := Lib.hid h
  clear h hth ok hi hln hkk hf hcode hc c1 hcd hcc hic
  generalize (s.th t).fuel = f at *
  generalize (s.th t).at_ = at_ at *
  generalize (s.code t).length = n at *
  obtain ⟨kd, r, x, m⟩ := i
  dsimp only at *
  subst hk1 hy
  go_enter Try.func80, Try.ntmps80
  go_wp2
  go_quiet (fail)
  go_wp2
  go_region
  generalize hW : (((w.alloc (.cells #[.int .i64 0, .int .i64 0, .int .i64 0, .bool false] 128)).drewN (nq + 1)).alloc (.cells #[.int .i64 8, .int .i64 y, .int .i64 x, .int .i64 m] 94)) = W at *
  obtain ⟨hbl, ⟨e0, e1, e2, e3⟩, ⟨e4, e5, e6, e7⟩, ⟨j0, j1, j2, j3⟩, hsz, hsz0⟩ := mid_world hW
  have c9w := cell_later hbl c9
  have c9z := cell_block c9w
  dsimp only at c9z
  have c8w := cell_later hbl c8
  have c8z := cell_block c8w
  dsimp only at c8z
  clear hW cf ca c0 i0 i1 i2 i3 p0 p1 c9 c8
  go_wp2
  go_region
  go_wp2
  refine bodyPost_ret (v := .tuple #[.agg #[.int .i64 t, .int .i64 1, .int .i64 0, .bool (z == 0)], .bool true]) (by simp [results, Try.results80, go_sem, hsz0, e0, e1, e2, e3]) rfl ⟨rfl, ?_⟩
  repeat (first | exact hbl | refine Below.drew ?_ | refine Below.drewN ?_ | (refine Below.alloc ?_ (by simp [World.setCell]; omega) _) | (refine Below.setCell ?_ (by first | exact Nat.le_refl _ | (simp [World.setCell]; omega)) _))
end
end Go.Proofs.Ytkphdmfcmfojeaa

/- The contract of the document's Next: an unlock that fails. -/
namespace Go.Proofs.Ytkphdmfcmfojeaa
open Go.RowKit

section
variable {F : Nat} {w : World} {b tb : Nat} {a : Option Addr} {cap tcap : Nat} {s : St}

set_option maxRecDepth 100000 in
set_option maxHeartbeats 4000000 in
theorem refNext_6b (h : RefAt w b tb a cap tcap s) (hth : ThreadsAt w a s.p.threads) (ok : s.Ok F) (t : Nat) (i : Ins) (hi : s.ins t = some i) (hk1 : i.kind = 6) (y : Nat) (hy : i.x = y) (hy2 : y < 2) (hw : ¬ s.who y = t) :
    Calls Try.prog 80 #[.pointer (some ⟨b, 0, none⟩), .int .i64 t] w fun r w' => r = .returned (.tuple #[.agg #[.int .i64 t, .int .i64 1, .int .i64 0, .bool true], .bool true]) ∧ Below w.heap.size w w' := by
  obtain ⟨_, hf, hcode⟩ := St.ins_has hi
  obtain ⟨k, hkk, hk'⟩ := St.ins_nat hi
  obtain rfl : t = k := by omega
  simp only [Int.toNat_natCast] at hf hcode
  obtain ⟨hb1, hb2⟩ := h.lt
  obtain ⟨p0, p1⟩ := h.prog
  have hln := ok.len
  have h4 := ok.len4
  have hkp : t < s.p.threads.length := by omega
  have hcd : s.code t = s.p.threads[t] := getD_lt _ hkp
  obtain ⟨hat, hic⟩ := List.getElem?_eq_some_iff.1 hcode
  obtain ⟨ab, ao, rfl, hc⟩ := hth.2 (by intro e; simp [e] at hkp)
  obtain ⟨c, ccap, c0, c1, _⟩ := hc t hkp
  rw [← hcd] at c0 c1
  obtain ⟨cb, co, rfl, hcc⟩ := c1.2 (by intro e; simp [e] at hat)
  obtain ⟨i0, i1, i2, i3⟩ := hcc _ hat
  rw [hic] at i0 i1 i2 i3
  have hz1 := cell_block c0
  have hz2 := cell_block i0
  dsimp only at hz1 hz2
  have cf := h.fuel t hk'
  have ca := h.at_ t hk'
  have hff : ((((s.th t).fuel : Nat) : Int) == 0) = false := by simp; omega
  have q0 : decide ((t : Int) < 0) = false := by simp
  have q1 : decide ((s.ts.length : Int) ≤ t) = false := by simp; omega
  have q2 : decide (s.ts.length ≤ t) = false := by simp; omega
  have q3 : decide ((s.code t).length ≤ (s.th t).at_) = false := by simp; omega
  have q4 : decide (((s.code t).length : Int) ≤ (s.th t).at_) = false := by simp; omega
  have h8 := ok.code8 t hk'
  have c9 := h.who y hy2
  have hq : (s.who y == (t : Int)) = false := by simpa using hw
  have H := Lib.hid h
  clear h hth ok hi hln hkk hf hcode hc c1 hcd hcc hic
  generalize (s.th t).fuel = f at *
  generalize (s.th t).at_ = at_ at *
  generalize (s.code t).length = n at *
  obtain ⟨kd, r, x, m⟩ := i
  dsimp only at *
  subst hk1 hy
  clear hw
  go_enter Try.func80, Try.ntmps80
  go_wp2
  go_quiet (fail)
  go_wp2
  go_region
  generalize hW : (((w.alloc (.cells #[.int .i64 0, .int .i64 0, .int .i64 0, .bool false] 128)).drewN (nq + 1)).alloc (.cells #[.int .i64 6, .int .i64 r, .int .i64 y, .int .i64 m] 94)) = W at *
  obtain ⟨hbl, ⟨e0, e1, e2, e3⟩, ⟨e4, e5, e6, e7⟩, ⟨j0, j1, j2, j3⟩, hsz, hsz0⟩ := mid_world hW
  have c9w := cell_later hbl c9
  have c9z := cell_block c9w
  dsimp only at c9z
  clear hW cf ca c0 i0 i1 i2 i3 p0 p1 c9
  go_wp2
  go_region
  go_wp2
  refine bodyPost_ret (v := .tuple #[.agg #[.int .i64 t, .int .i64 1, .int .i64 0, .bool true], .bool true]) (by simp [results, Try.results80, go_sem, hsz0, e0, e1, e2, e3]) rfl ⟨rfl, ?_⟩
  repeat (first | exact hbl | refine Below.drew ?_ | refine Below.drewN ?_ | (refine Below.alloc ?_ (by simp [World.setCell]; omega) _) | (refine Below.setCell ?_ (by first | exact Nat.le_refl _ | (simp [World.setCell]; omega)) _))
end
end Go.Proofs.Ytkphdmfcmfojeaa

/- The contract of the document's Next: others. -/
namespace Go.Proofs.Ytkphdmfcmfojeaa
open Go.RowKit

section
variable {F : Nat} {w : World} {b tb : Nat} {a : Option Addr} {cap tcap : Nat} {s : St}

set_option maxRecDepth 100000 in
set_option maxHeartbeats 4000000 in
theorem refNext_0 (h : RefAt w b tb a cap tcap s) (hth : ThreadsAt w a s.p.threads) (ok : s.Ok F) (t : Nat) (i : Ins) (hi : s.ins t = some i) (hk1 : i.kind ≠ 1) (hk2 : i.kind ≠ 2) (hk5 : i.kind ≠ 5) (hk6 : i.kind ≠ 6) (hk8 : i.kind ≠ 8) :
    Calls Try.prog 80 #[.pointer (some ⟨b, 0, none⟩), .int .i64 t] w fun r w' => r = .returned (.tuple #[.agg #[.int .i64 t, .int .i64 1, .int .i64 0, .bool false], .bool true]) ∧ Below w.heap.size w w' := by
  obtain ⟨_, hf, hcode⟩ := St.ins_has hi
  obtain ⟨k, hkk, hk'⟩ := St.ins_nat hi
  obtain rfl : t = k := by omega
  simp only [Int.toNat_natCast] at hf hcode
  obtain ⟨hb1, hb2⟩ := h.lt
  obtain ⟨p0, p1⟩ := h.prog
  have hln := ok.len
  have h4 := ok.len4
  have hkp : t < s.p.threads.length := by omega
  have hcd : s.code t = s.p.threads[t] := getD_lt _ hkp
  obtain ⟨hat, hic⟩ := List.getElem?_eq_some_iff.1 hcode
  obtain ⟨ab, ao, rfl, hc⟩ := hth.2 (by intro e; simp [e] at hkp)
  obtain ⟨c, ccap, c0, c1, _⟩ := hc t hkp
  rw [← hcd] at c0 c1
  obtain ⟨cb, co, rfl, hcc⟩ := c1.2 (by intro e; simp [e] at hat)
  obtain ⟨i0, i1, i2, i3⟩ := hcc _ hat
  rw [hic] at i0 i1 i2 i3
  have hz1 := cell_block c0
  have hz2 := cell_block i0
  dsimp only at hz1 hz2
  have cf := h.fuel t hk'
  have ca := h.at_ t hk'
  have hff : ((((s.th t).fuel : Nat) : Int) == 0) = false := by simp; omega
  have q0 : decide ((t : Int) < 0) = false := by simp
  have q1 : decide ((s.ts.length : Int) ≤ t) = false := by simp; omega
  have q2 : decide (s.ts.length ≤ t) = false := by simp; omega
  have q3 : decide ((s.code t).length ≤ (s.th t).at_) = false := by simp; omega
  have q4 : decide (((s.code t).length : Int) ≤ (s.th t).at_) = false := by simp; omega
  have h8 := ok.code8 t hk'
  have H := Lib.hid h
  clear h hth ok hi hln hkk hf hcode hc c1 hcd hcc hic
  generalize (s.th t).fuel = f at *
  generalize (s.th t).at_ = at_ at *
  generalize (s.code t).length = n at *
  obtain ⟨kd, r, x, m⟩ := i
  dsimp only at *
  have f1 : (kd == 1) = false := by simpa using hk1
  have f2 : (kd == 2) = false := by simpa using hk2
  have f5 : (kd == 5) = false := by simpa using hk5
  have f6 : (kd == 6) = false := by simpa using hk6
  have f8 : (kd == 8) = false := by simpa using hk8
  clear hk1 hk2 hk5 hk6 hk8
  go_enter Try.func80, Try.ntmps80
  go_wp2
  go_quiet (fail)
  go_wp2
  go_region
  generalize hW : (((w.alloc (.cells #[.int .i64 0, .int .i64 0, .int .i64 0, .bool false] 128)).drewN (nq + 1)).alloc (.cells #[.int .i64 kd, .int .i64 r, .int .i64 x, .int .i64 m] 94)) = W at *
  obtain ⟨hbl, ⟨e0, e1, e2, e3⟩, ⟨e4, e5, e6, e7⟩, ⟨j0, j1, j2, j3⟩, hsz, hsz0⟩ := mid_world hW
  clear hW cf ca c0 i0 i1 i2 i3 p0 p1 
  go_wp2
  refine bodyPost_ret (v := .tuple #[.agg #[.int .i64 t, .int .i64 1, .int .i64 0, .bool false], .bool true]) (by simp [results, Try.results80, go_sem, hsz0, e0, e1, e2, e3]) rfl ⟨rfl, ?_⟩
  repeat (first | exact hbl | refine Below.drew ?_ | refine Below.drewN ?_ | (refine Below.alloc ?_ (by simp [World.setCell]; omega) _) | (refine Below.setCell ?_ (by first | exact Nat.le_refl _ | (simp [World.setCell]; omega)) _))
end
end Go.Proofs.Ytkphdmfcmfojeaa

/- The contracts of the document's Next, Enabled, All. -/
namespace Go.Proofs.Ytkphdmfcmfojeaa
open Go.RowKit

section
variable {F : Nat} {w : World} {b tb : Nat} {a : Option Addr} {cap tcap : Nat} {s : St}

theorem refNext_any (h : RefAt w b tb a cap tcap s) (hth : ThreadsAt w a s.p.threads) (ok : s.Ok F) (t : Int) :
    Calls Try.prog 80 #[.pointer (some ⟨b, 0, none⟩), .int .i64 t] w fun r w' => r = .returned (evR (s.next t)) ∧ Below w.heap.size w w' := by
  have h4 := ok.len4
  cases hi : s.ins t with
  | none =>
    have hn : s.next t = none := by unfold St.next; rw [hi]; rfl
    rw [hn, evR_none]
    by_cases ht0 : t < 0
    · exact refNext_neg h t ht0
    by_cases hk0 : (s.ts.length : Int) ≤ t
    · exact refNext_out h t ht0 hk0
    obtain ⟨k, rfl⟩ : ∃ k : Nat, t = k := ⟨t.toNat, by omega⟩
    have hk' : k < s.ts.length := by omega
    by_cases hf : (s.th k).fuel = 0
    · exact refNext_dry h k h4 hk' hf
    · have hpl := ok.place k hk'
      refine refNext_end h hth ok k hk' hf ?_
      unfold St.ins at hi
      rw [if_pos ⟨⟨by omega, by omega⟩, by simpa using hf⟩] at hi
      simp only [Int.toNat_natCast] at hi
      have := List.getElem?_eq_none_iff.1 hi
      omega
  | some i =>
    obtain ⟨k, rfl, hk⟩ := St.ins_nat hi
    have hn : s.next k = some (s.ev k i) := by unfold St.next; rw [hi]; rfl
    obtain ⟨o1, o2, o3, o4, o5, o6⟩ := ok.obj hi
    rw [hn, evR_some]
    by_cases h1 : i.kind = 1
    · have := refNext_1 h hth ok k i hi h1
      simpa [St.ev, h1] using this
    by_cases h2 : i.kind = 2
    · have := refNext_2 h hth ok k i hi h2
      simpa [St.ev, h1, h2] using this
    by_cases h5 : i.kind = 5
    · have := refNext_5 h hth ok k i hi h5
      simpa [St.ev, h1, h2, h5] using this
    by_cases h6 : i.kind = 6
    · obtain ⟨y, hy⟩ : ∃ y : Nat, i.x = y := ⟨i.x.toNat, by have := o2 (.inr h6); omega⟩
      have hy2 : y < 2 := by have := o2 (.inr h6); omega
      by_cases hw : s.who y = k
      · have := refNext_6 h hth ok k i hi h6 y hy hy2 hw
        have e : s.ev k i = ⟨k, 5, i.x, false⟩ := by
          unfold St.ev
          rw [if_neg h1, if_neg h2, if_neg h5, if_pos h6, hy, if_pos hw]
        rw [e]
        exact this
      · have := refNext_6b h hth ok k i hi h6 y hy hy2 hw
        have e : s.ev k i = ⟨k, 1, 0, true⟩ := by
          unfold St.ev
          rw [if_neg h1, if_neg h2, if_neg h5, if_pos h6, hy, if_neg hw]
        rw [e]
        exact this
    by_cases h8 : i.kind = 8
    · obtain ⟨y, hy⟩ : ∃ y : Nat, i.r = y := ⟨i.r.toNat, by omega⟩
      have := refNext_8 h hth ok k i hi h8 y hy (by omega)
      have e : s.ev k i = ⟨k, 1, 0, (s.th k).r.getD y 0 == 0⟩ := by
        unfold St.ev
        rw [if_neg h1, if_neg h2, if_neg h5, if_neg h6, if_pos h8]
        unfold St.reg
        rw [hy]
        rfl
      rw [e]
      exact this
    · have := refNext_0 h hth ok k i hi h1 h2 h5 h6 h8
      have e : s.ev k i = ⟨k, 1, 0, false⟩ := by
        unfold St.ev
        rw [if_neg h1, if_neg h2, if_neg h5, if_neg h6, if_neg h8]
      rw [e]
      exact this

set_option maxRecDepth 100000 in
set_option maxHeartbeats 4000000 in
theorem refEnabled_any (h : RefAt w b tb a cap tcap s) (hth : ThreadsAt w a s.p.threads) (ok : s.Ok F) (t : Int) :
    Calls Try.prog 55 #[.pointer (some ⟨b, 0, none⟩), .int .i64 t] w fun r w' => r = .returned (.bool (s.may t)) ∧ Below w.heap.size w w' := by
  have H := Lib.hid h
  have HT := Lib.hid hth
  have OK := Lib.hid ok
  have hb1 := h.lt.1
  clear h hth ok
  cases hn : s.next t with
  | none =>
    have hm : s.may t = false := by rw [St.may_eq OK.out, hn]
    rw [hm]
    have HN := Lib.hid hn
    clear hn hm
    go_enter Try.func55, Try.ntmps55
    go_wp2_with fail
    refine (refNext_any H.out HT.out OK.out t).mono ?_
    rw [HN.out, evR_none]
    rintro r w1 ⟨rfl, hb1⟩
    have hz := hb1.size
    go_wp2
    go_quiet (fail)
    go_wp2
    go_ret
    exact ⟨rfl, (hb1.alloc hz _).drewN⟩
  | some e =>
    have hm : s.may t = s.free e := by rw [St.may_eq OK.out, hn]
    rw [hm]
    have HN := Lib.hid hn
    by_cases hk : e.kind = 4
    · obtain ⟨ho0, ho2⟩ := next_obj OK.out hn hk
      obtain ⟨y, hy⟩ : ∃ y : Nat, e.obj = y := ⟨e.obj.toNat, by omega⟩
      have hy2 : y < 2 := by omega
      have c9 := H.out.who y hy2
      have hml := OK.out.ml
      have hmm := OK.out.mm (s.who y) (by unfold St.who; simp only [Int.toNat_natCast]; rw [getD_lt _ (by omega)]; exact List.getElem_mem _)
      have hfr : s.free e = decide (s.who y < 0) := by
        unfold St.free
        rw [hk, hy, Bool.eq_iff_iff]
        simp
        omega
      rw [hfr]
      have q4 : (e.kind != 4) = false := by simp [hk]
      clear hn hm hfr ho0 ho2 hml hmm hk
      obtain ⟨et, ek, eo, ef⟩ := e
      dsimp only at *
      subst hy
      generalize s.who y = g at *
      go_enter Try.func55, Try.ntmps55
      go_wp2_with fail
      refine (refNext_any H.out HT.out OK.out t).mono ?_
      rw [HN.out, evR_some]
      rintro r w1 ⟨rfl, hb2⟩
      have hz := hb2.size
      have c9w := cell_later hb2 c9
      have c9z := cell_block c9w
      dsimp only at c9z
      clear c9
      go_wp2
      go_quiet (fail)
      go_wp2
      go_ret
      exact ⟨rfl, (hb2.alloc hz _).drewN⟩
    · have hfr : s.free e = true := by unfold St.free; simp [hk]
      rw [hfr]
      have q4 : (e.kind != 4) = true := by simpa using hk
      clear hn hm hfr hk
      go_enter Try.func55, Try.ntmps55
      go_wp2_with fail
      refine (refNext_any H.out HT.out OK.out t).mono ?_
      rw [HN.out, evR_some]
      rintro r w1 ⟨rfl, hb2⟩
      have hz := hb2.size
      go_wp2
      go_quiet (fail)
      go_wp2
      go_ret
      exact ⟨rfl, (hb2.alloc hz _).drewN⟩

set_option maxRecDepth 100000 in
set_option maxHeartbeats 4000000 in
theorem refAll_any (h : RefAt w b tb a cap tcap s) (hth : ThreadsAt w a s.p.threads) (ok : s.Ok F) :
    Calls Try.prog 35 #[.pointer (some ⟨b, 0, none⟩)] w fun r w' => ∃ v, r = .returned v ∧ OwnN w' w.heap.size v s.all ∧ Below w.heap.size w w' := by
  have h4 := ok.len4
  have p1 := h.prog.2
  have hb1 := h.lt.1
  have H := Lib.hid h
  have HT := Lib.hid hth
  have OK := Lib.hid ok
  clear h hth ok
  go_enter Try.func35, Try.ntmps35
  go_wp2
  go_loopw [3, 4] (fun l i wr => ∃ k : Nat, k ≤ s.ts.length ∧ i = .int .i64 k ∧ OwnN wr w.heap.size l (s.allTo k) ∧ Below w.heap.size w wr) (fun _ i _ => s.ts.length - (intOf i).toNat)
  case atStart => exact ⟨0, Nat.zero_le _, rfl, ownN_nil _ _, Below.refl _ _⟩
  case round =>
    obtain ⟨k, hk, rfl, hown, hb⟩ := hrel
    have p1w := cell_later hb p1
    by_cases hlt : k < s.ts.length
    · have hle := s.allTo_le k
      have HS := Lib.hid (s.allTo_succ k)
      go_wp2_with fail
      refine (refEnabled_any (H.out.later hb) (HT.out.later hb) OK.out k).mono ?_
      rintro r w1 ⟨rfl, hb1⟩
      have hb2 := hb.trans (hb1.mono hb.size)
      have hown1 := hown.later hb1
      have hz := hb2.size
      clear hown hb hb1 p1w
      cases hm : s.may k
      · have HR : Hid (s.allTo (k + 1) = s.allTo k) := by
          show _ = _
          rw [HS.out, hm]; simp
        clear hm
        go_wp2
        go_roundw
        case rel => exact ⟨k + 1, by omega, by go_num, by rw [HR.out]; exact hown1, hb2⟩
        case measure => simp [intOf]; omega
      · have HR : Hid (s.allTo (k + 1) = s.allTo k ++ [(k : Int)]) := by
          show _ = _
          rw [HS.out, hm]; simp
        clear hm
        go_wp2_with (at_builtin; refine wp_appendN rfl (.tmp 17) (.tmp 19) rfl w.heap.size _ (s.allTo k) rfl (hown1.alloc _) ⟨w1.heap.size, 0, none⟩ 1 1 rfl [(k : Int)] rfl (nums_new w1 [(k : Int)] _ _ rfl) (by simp; omega) (by simp; omega) ?_; intro v1 w2 hown2 hb3 _)
        have hb4 := (hb2.alloc hz _).trans hb3
        go_roundw
        case rel => exact ⟨k + 1, by omega, by go_num, by rw [HR.out]; exact hown2, hb4⟩
        case measure => simp [intOf]; omega
    · obtain rfl : k = s.ts.length := by omega
      go_wp2
      go_ret
      exact ⟨_, rfl, hown, hb⟩
end
end Go.Proofs.Ytkphdmfcmfojeaa

/- The contract of the document's Step, where it is refused. -/
namespace Go.Proofs.Ytkphdmfcmfojeaa
open Go.RowKit

theorem RefAt.go {w : World} {b tb : Nat} {a : Option Addr} {cap tcap : Nat} {s : St} (h : RefAt w b tb a cap tcap s) (t f n : Nat) (ht : t < s.ts.length) (hf : (s.th t).fuel = f + 1) (hn : (s.th t).at_ = n) :
    RefAt ((w.setCell ⟨tb, t * 4 + 1, none⟩ (.int .i64 f)).setCell ⟨tb, t * 4, none⟩ (.int .i64 ((n + 1 : Nat) : Int))) b tb a cap tcap (s.go t) := by
  have h1 := h.setFuel t f ht
  have h2 := h1.setAt t (n + 1) (by rw [St.put_len]; exact ht)
  rw [St.put_th _ _ _ ht, St.put_put] at h2
  unfold St.go
  rw [hf, hn]
  exact h2
theorem RefAt.other4 {w : World} {b tb g : Nat} {a : Option Addr} {cap tcap : Nat} {s : St} (h : RefAt w b tb a cap tcap s) (hb : b ≠ g) (ht : tb ≠ g) (v0 v1 v2 v3 : Value) :
    RefAt ((((w.setCell ⟨g, 0, none⟩ v0).setCell ⟨g, 1, none⟩ v1).setCell ⟨g, 2, none⟩ v2).setCell ⟨g, 3, none⟩ v3) b tb a cap tcap s :=
  (((h.other hb ht 0 v0).other hb ht 1 v1).other hb ht 2 v2).other hb ht 3 v3

section
variable {F : Nat} {w : World} {b tb : Nat} {a : Option Addr} {cap tcap : Nat} {s : St}

set_option maxRecDepth 100000 in
set_option maxHeartbeats 4000000 in
theorem refStep_range (h : RefAt w b tb a cap tcap s) (t : Int) (hb : belowB t s.ts.length = false) : Calls Try.prog 64 #[.pointer (some ⟨b, 0, none⟩), .int .i64 t] w fun e w' => e = .returned (stepV (s.step t)) ∧ RefAt w' b tb a cap tcap (s.step t).2.2 ∧ Only2 b tb w w' := by
  have hst : s.step t = (2, ev0, s) := by
    unfold St.step
    rw [if_neg (fun e => by unfold St.has at e; simp [belowB] at hb; omega)]
  rw [hst, stepV_err]
  have hb' : ¬ (0 ≤ t ∧ t < s.ts.length) := by simpa [belowB] using hb
  have p1 := h.prog.2
  have hb1 := h.lt.1
  have HB := Lib.hid (h.later (below_alloc1 w (.cells #[.int .i64 0, .int .i64 0, .int .i64 0, .bool false] 128)))
  clear hst h hb
  by_cases h0 : t < 0
  · have q0 : decide (t < 0) = true := by simpa using h0
    clear hb'
    go_enter Try.func64, Try.ntmps64
    go_wp2
    refine bodyPost_ret (v := .tuple #[.agg #[.int .i64 0, .int .i64 0, .int .i64 0, .bool false], .int .i64 2]) (by simp [results, Try.results64, go_sem]) rfl ⟨rfl, HB.out, ?_⟩
    exact (Only2.refl b tb w).alloc _
  · have q0 : decide (t < 0) = false := by simpa using h0
    have q1 : decide ((s.ts.length : Int) ≤ t) = true := by simp; omega
    clear hb'
    go_enter Try.func64, Try.ntmps64
    go_wp2
    refine bodyPost_ret (v := .tuple #[.agg #[.int .i64 0, .int .i64 0, .int .i64 0, .bool false], .int .i64 2]) (by simp [results, Try.results64, go_sem]) rfl ⟨rfl, HB.out, ?_⟩
    exact (Only2.refl b tb w).alloc _

set_option maxRecDepth 100000 in
set_option maxHeartbeats 4000000 in
theorem refStep_none (h : RefAt w b tb a cap tcap s) (hth : ThreadsAt w a s.p.threads) (ok : s.Ok F) (t : Nat) (ht : t < s.ts.length) (hi : s.ins t = none) : Calls Try.prog 64 #[.pointer (some ⟨b, 0, none⟩), .int .i64 t] w fun e w' => e = .returned (stepV (s.step t)) ∧ RefAt w' b tb a cap tcap (s.step t).2.2 ∧ Only2 b tb w w' := by
  have hst : s.step t = (6, ev0, s) := by
    unfold St.step
    rw [if_pos (by unfold St.has; omega), hi]
  have hn : s.next t = none := by unfold St.next; rw [hi]; rfl
  rw [hst, stepV_err]
  have p1 := h.prog.2
  have hl := h.lt
  obtain ⟨hb1, hb2⟩ := hl
  have h4 := ok.len4
  have q0 : decide ((t : Int) < 0) = false := by simp
  have q1 : decide ((s.ts.length : Int) ≤ t) = false := by simp; omega
  have q2 : decide (s.ts.length ≤ t) = false := by simp; omega
  have HB := Lib.hid (h.later (below_alloc1 w (.cells #[.int .i64 0, .int .i64 0, .int .i64 0, .bool false] 128)))
  have HTH := Lib.hid (hth.later (below_alloc1 w (.cells #[.int .i64 0, .int .i64 0, .int .i64 0, .bool false] 128)))
  have OK := Lib.hid ok
  have HN := Lib.hid hn
  clear hst h hth ok hi hn
  go_enter Try.func64, Try.ntmps64
  go_wp2_with fail
  refine (refNext_any HB.out HTH.out OK.out t).mono ?_
  rw [HN.out, evR_none]
  rintro r w1 ⟨rfl, hb3⟩
  have hz : w.heap.size < w1.heap.size := by have := hb3.size; simp at this; omega
  have hc : ∀ o, w1.cell? ⟨w.heap.size, o, none⟩ = (w.alloc (.cells #[.int .i64 0, .int .i64 0, .int .i64 0, .bool false] 128)).cell? ⟨w.heap.size, o, none⟩ := fun o => hb3.cell (p := ⟨w.heap.size, o, none⟩) (by simp)
  have hf : ∀ o, w1.frozen? ⟨w.heap.size, o, none⟩ = (w.alloc (.cells #[.int .i64 0, .int .i64 0, .int .i64 0, .bool false] 128)).frozen? ⟨w.heap.size, o, none⟩ := fun o => hb3.frozen (p := ⟨w.heap.size, o, none⟩) (by simp)
  have H1 := Lib.hid (HB.out.later hb3)
  have B1 : Hid (Below w.heap.size w w1) := (below_alloc1 w _).trans (hb3.mono (by simp))
  clear hb3 p1
  go_wp2
  refine bodyPost_ret (v := .tuple #[.agg #[.int .i64 0, .int .i64 0, .int .i64 0, .bool false], .int .i64 6]) (by simp [results, Try.results64, go_sem, hc, hz]) rfl ⟨rfl, ?_, ?_⟩
  · exact (H1.out.other4 (by omega) (by omega) _ _ _ _).later (below_alloc1 _ _)
  · exact ((Only2.of_below B1.out).set4 (Nat.le_refl _) _ _ _ _).alloc _

set_option maxRecDepth 100000 in
set_option maxHeartbeats 4000000 in
theorem refStep_state (h : RefAt w b tb a cap tcap s) (hth : ThreadsAt w a s.p.threads) (ok : s.Ok F) (t : Nat) (i : Ins) (hi : s.ins t = some i) (hm : s.may t = false) : Calls Try.prog 64 #[.pointer (some ⟨b, 0, none⟩), .int .i64 t] w fun e w' => e = .returned (stepV (s.step t)) ∧ RefAt w' b tb a cap tcap (s.step t).2.2 ∧ Only2 b tb w w' := by
  obtain ⟨k, hkk, ht⟩ := St.ins_nat hi
  obtain rfl : t = k := by omega
  have hst : s.step t = (9, ev0, s) := by
    unfold St.step
    rw [if_pos (by unfold St.has; omega), hi]
    simp only [hm]
    rfl
  have hn : s.next t = some (s.ev t i) := by unfold St.next; rw [hi]; rfl
  rw [hst, stepV_err]
  obtain ⟨e, he⟩ : ∃ e, e = s.ev t i := ⟨_, rfl⟩
  rw [← he] at hn
  have p1 := h.prog.2
  have hl := h.lt
  obtain ⟨hb1, hb2⟩ := hl
  have h4 := ok.len4
  have q0 : decide ((t : Int) < 0) = false := by simp
  have q1 : decide ((s.ts.length : Int) ≤ t) = false := by simp; omega
  have q2 : decide (s.ts.length ≤ t) = false := by simp; omega
  have HB := Lib.hid (h.later (below_alloc1 w (.cells #[.int .i64 0, .int .i64 0, .int .i64 0, .bool false] 128)))
  have HTH := Lib.hid (hth.later (below_alloc1 w (.cells #[.int .i64 0, .int .i64 0, .int .i64 0, .bool false] 128)))
  have OK := Lib.hid ok
  have HN := Lib.hid hn
  have HM := Lib.hid hm
  clear hst h hth ok hi hn he hkk hm
  go_enter Try.func64, Try.ntmps64
  go_wp2_with fail
  refine (refNext_any HB.out HTH.out OK.out t).mono ?_
  rw [HN.out, evR_some]
  rintro r w1 ⟨rfl, hb3⟩
  have hz : w.heap.size < w1.heap.size := by have := hb3.size; simp at this; omega
  have hc : ∀ o, w1.cell? ⟨w.heap.size, o, none⟩ = (w.alloc (.cells #[.int .i64 0, .int .i64 0, .int .i64 0, .bool false] 128)).cell? ⟨w.heap.size, o, none⟩ := fun o => hb3.cell (p := ⟨w.heap.size, o, none⟩) (by simp)
  have hf : ∀ o, w1.frozen? ⟨w.heap.size, o, none⟩ = (w.alloc (.cells #[.int .i64 0, .int .i64 0, .int .i64 0, .bool false] 128)).frozen? ⟨w.heap.size, o, none⟩ := fun o => hb3.frozen (p := ⟨w.heap.size, o, none⟩) (by simp)
  have H1 := Lib.hid ((HB.out.later hb3).later (below_alloc1 w1 (.cells #[.int .i64 e.thread, .int .i64 e.kind, .int .i64 e.obj, .bool e.fail] 128)))
  have T1 := Lib.hid ((HTH.out.later hb3).later (below_alloc1 w1 (.cells #[.int .i64 e.thread, .int .i64 e.kind, .int .i64 e.obj, .bool e.fail] 128)))
  have B1 : Hid (Below w.heap.size w w1) := (below_alloc1 w _).trans (hb3.mono (by simp))
  clear hb3 p1
  go_wp2_with fail
  refine (refEnabled_any H1.out T1.out OK.out t).mono ?_
  rw [HM.out]
  rintro r w2 ⟨rfl, hb4⟩
  have B2 : Hid (Below w1.heap.size w1 w2) := (below_alloc1 w1 _).trans (hb4.mono (by simp))
  have hz2 : w.heap.size < w2.heap.size := by have := B2.out.size; omega
  have hc2 : ∀ o, w2.cell? ⟨w.heap.size, o, none⟩ = w1.cell? ⟨w.heap.size, o, none⟩ := fun o => B2.out.cell (p := ⟨w.heap.size, o, none⟩) hz
  have hf2 : ∀ o, w2.frozen? ⟨w.heap.size, o, none⟩ = w1.frozen? ⟨w.heap.size, o, none⟩ := fun o => B2.out.frozen (p := ⟨w.heap.size, o, none⟩) hz
  have H2 := Lib.hid (H1.out.later hb4)
  clear hb4
  go_wp2
  refine bodyPost_ret (v := .tuple #[.agg #[.int .i64 0, .int .i64 0, .int .i64 0, .bool false], .int .i64 9]) (by simp [results, Try.results64, go_sem, hc, hc2]) rfl ⟨rfl, ?_, ?_⟩
  · exact H2.out.other4 (by omega) (by omega) _ _ _ _
  · exact (Only2.of_below (B1.out.trans (B2.out.mono (by omega)))).set4 (Nat.le_refl _) _ _ _ _
end
end Go.Proofs.Ytkphdmfcmfojeaa

/- Boxes of an event, of an instruction. -/
namespace Go.Proofs.Ytkphdmfcmfojeaa
open Go.RowKit

/-- A box of an event that is none. -/
def EvBox0 (w : World) (g : Nat) : Prop := w.heap[g]? = some (.cells #[.int .i64 0, .int .i64 0, .int .i64 0, .bool false] 128 (0, 0))
theorem EvBox0.cells {w : World} {g : Nat} (h : EvBox0 w g) : w.cell? ⟨g, 0, none⟩ = some (.int .i64 0) ∧ w.cell? ⟨g, 1, none⟩ = some (.int .i64 0) ∧ w.cell? ⟨g, 2, none⟩ = some (.int .i64 0) ∧ w.cell? ⟨g, 3, none⟩ = some (.bool false) ∧ ∀ o, w.frozen? ⟨g, o, none⟩ = false := by
  simp [World.cell?, World.frozen?, show w.heap[g]? = _ from h]
theorem ev_cells {w : World} {g : Nat} {e : Ev} (h : w.heap[g]? = some (.cells #[.int .i64 e.thread, .int .i64 e.kind, .int .i64 e.obj, .bool e.fail] 128 (0, 0))) : w.cell? ⟨g, 0, none⟩ = some (.int .i64 e.thread) ∧ w.cell? ⟨g, 1, none⟩ = some (.int .i64 e.kind) ∧ w.cell? ⟨g, 2, none⟩ = some (.int .i64 e.obj) ∧ w.cell? ⟨g, 3, none⟩ = some (.bool e.fail) := by
  simp [World.cell?, h]
theorem ins_cells {w : World} {g : Nat} {kd r x m : Int} (h : w.heap[g]? = some (.cells #[.int .i64 kd, .int .i64 r, .int .i64 x, .int .i64 m] 94 (0, 0))) : w.cell? ⟨g, 0, none⟩ = some (.int .i64 kd) ∧ w.cell? ⟨g, 1, none⟩ = some (.int .i64 r) ∧ w.cell? ⟨g, 2, none⟩ = some (.int .i64 x) ∧ w.cell? ⟨g, 3, none⟩ = some (.int .i64 m) := by
  simp [World.cell?, h]
end Go.Proofs.Ytkphdmfcmfojeaa

/- The contract of the document's Step: a load. -/
namespace Go.Proofs.Ytkphdmfcmfojeaa
open Go.RowKit
section
variable {F : Nat} {w : World} {b tb : Nat} {a : Option Addr} {cap tcap : Nat} {s : St}

set_option maxRecDepth 100000 in
set_option maxHeartbeats 8000000 in
theorem refStep_1 (h : RefAt w b tb a cap tcap s) (hth : ThreadsAt w a s.p.threads) (ok : s.Ok F) (t : Nat) (i : Ins) (hi : s.ins t = some i) (hm : s.may t = true) (hk1 : i.kind = 1) : Calls Try.prog 64 #[.pointer (some ⟨b, 0, none⟩), .int .i64 t] w fun e w' => e = .returned (stepV (s.step t)) ∧ RefAt w' b tb a cap tcap (s.step t).2.2 ∧ Only2 b tb w w' := by
  obtain ⟨k, hkk, ht⟩ := St.ins_nat hi
  obtain rfl : t = k := by omega
  have hst : s.step t = (0, s.ev t i, s.do_ t i) := by
    unfold St.step
    rw [if_pos (by unfold St.has; omega), hi]
    simp only [hm]
    rfl
  have hn : s.next t = some (s.ev t i) := by unfold St.next; rw [hi]; rfl
  rw [hst, stepV_ok]
  dsimp only
  obtain ⟨o1, o2, o3, o4, o5, o6⟩ := ok.obj hi
  have hx0 : 0 ≤ i.x := by
    have := (ok.ins_right hi).1
    unfold rightIns at this
    repeat' split at this
    all_goals first | (simp only [decide_eq_true_eq] at this; omega) | (cases this)
  obtain ⟨_, hfu, hcode⟩ := St.ins_has hi
  simp only [Int.toNat_natCast] at hfu hcode
  have h4 := ok.len4
  have hln := ok.len
  have hrl : (s.th t).r.length = 2 := (ok.thr _ (St.th_mem ht)).1
  have hvl := ok.vl
  have hml := ok.ml
  obtain ⟨f, hf⟩ : ∃ f, (s.th t).fuel = f + 1 := ⟨(s.th t).fuel - 1, by omega⟩
  have hf8 : f ≤ 1000 := by have := (ok.thr _ (St.th_mem ht)).2.2; have := ok.f8; omega
  have h8 := ok.code8 t ht
  obtain ⟨hat, hic⟩ := List.getElem?_eq_some_iff.1 hcode
  obtain ⟨n, hn1⟩ : ∃ n, (s.th t).at_ = n := ⟨_, rfl⟩
  have hkp : t < s.p.threads.length := by omega
  have hcd : s.code t = s.p.threads[t] := getD_lt _ hkp
  obtain ⟨ab, ao, rfl, hc⟩ := hth.2 (by intro e; simp [e] at hkp)
  obtain ⟨c, ccap, c0, c1, _⟩ := hc t hkp
  rw [← hcd] at c0 c1
  obtain ⟨cb, co, rfl, hcc⟩ := c1.2 (by intro e; simp [e] at hat)
  obtain ⟨i0, i1, i2, i3⟩ := hcc _ hat
  rw [hic] at i0 i1 i2 i3
  rw [hn1] at i0 i1 i2 i3 hat
  have p1 := h.prog.2
  have q0 : decide ((t : Int) < 0) = false := by simp
  have q1 : decide ((s.ts.length : Int) ≤ t) = false := by simp; omega
  have q2 : decide (s.ts.length ≤ t) = false := by simp; omega
  obtain ⟨hb1, hb2⟩ := h.lt
  have HB := Lib.hid (h.later (below_alloc1 w (.cells #[.int .i64 0, .int .i64 0, .int .i64 0, .bool false] 128)))
  have HTH := Lib.hid (hth.later (below_alloc1 w (.cells #[.int .i64 0, .int .i64 0, .int .i64 0, .bool false] 128)))
  have OK := Lib.hid ok
  have HM := Lib.hid hm
  obtain ⟨kd, r, x, m⟩ := i
  dsimp only at *
  obtain ⟨r, rfl⟩ : ∃ y : Nat, r = y := ⟨r.toNat, by omega⟩
  obtain ⟨x, rfl⟩ : ∃ y : Nat, x = y := ⟨x.toNat, by omega⟩
  subst hk1
  have hr2 : r < 2 := by omega
  have hx4 : x < 4 := by have := o1 (.inl rfl); omega
  clear o1 o2 o3
  obtain ⟨e, he⟩ : ∃ e, e = s.ev t ⟨1, r, x, m⟩ := ⟨_, rfl⟩
  rw [← he] at hn ⊢
  have HE := Lib.hid he
  have HN := Lib.hid hn
  have HI := Lib.hid (And.intro hi (And.intro hf (And.intro hn1 (And.intro hrl (And.intro hvl hml)))))
  have HC := Lib.hid (And.intro c0 (And.intro i0 (And.intro i1 (And.intro i2 i3))))
  have h8n : n < 8 := by omega
  have hatn : n < (s.code t).length := by omega
  clear hst h hth ok hi hn he hkk hm hfu hcode hc c1 hcc hic hcd hln hrl hvl hml hf hn1 o6 c0 i0 i1 i2 i3
  try clear hat
  generalize (s.code t).length = ln at *
  go_enter Try.func64, Try.ntmps64
  go_wp2_with fail
  refine (refNext_any HB.out HTH.out OK.out t).mono ?_
  rw [HN.out, evR_some]
  rintro r9 w1 ⟨rfl, hb3⟩
  have hz : w.heap.size < w1.heap.size := by have := hb3.size; simp at this; omega
  have RX1 : Hid (EvBox0 w1 w.heap.size) := (hb3.block _ (by simp)).trans (heap_alloc_new w _)
  have H1 := Lib.hid ((HB.out.later hb3).later (below_alloc1 w1 (.cells #[.int .i64 e.thread, .int .i64 e.kind, .int .i64 e.obj, .bool e.fail] 128)))
  have T1 := Lib.hid ((HTH.out.later hb3).later (below_alloc1 w1 (.cells #[.int .i64 e.thread, .int .i64 e.kind, .int .i64 e.obj, .bool e.fail] 128)))
  have B1 : Hid (Below w.heap.size w w1) := (below_alloc1 w _).trans (hb3.mono (by simp))
  clear hb3 p1 HB HTH
  go_wp2_with fail
  refine (refEnabled_any H1.out T1.out OK.out t).mono ?_
  rw [HM.out]
  rintro r9 w2 ⟨rfl, hb4⟩
  have EX2 : Hid (w2.heap[w1.heap.size]? = some (.cells #[.int .i64 e.thread, .int .i64 e.kind, .int .i64 e.obj, .bool e.fail] 128 (0, 0))) := (hb4.block _ (by simp)).trans (heap_alloc_new w1 _)
  have B2 : Hid (Below w1.heap.size w1 w2) := (below_alloc1 w1 _).trans (hb4.mono (by simp))
  have RX2 : Hid (EvBox0 w2 w.heap.size) := (B2.out.block _ hz).trans RX1.out
  have H2 := Lib.hid (H1.out.later hb4)
  have W2 : Hid (Below w.heap.size w w2) := B1.out.trans (B2.out.mono (by omega))
  have hz2 : w1.heap.size < w2.heap.size := (Array.getElem?_eq_some_iff.1 EX2.out).1
  have hz3 : w.heap.size < w2.heap.size := by omega
  obtain ⟨p0, p1⟩ := H2.out.prog
  have ca := H2.out.at_ t ht
  rw [HI.out.2.2.1] at ca
  have d0 := cell_later W2.out HC.out.1
  have d1 := cell_later W2.out HC.out.2.1
  have d2 := cell_later W2.out HC.out.2.2.1
  have d3 := cell_later W2.out HC.out.2.2.2.1
  have d4 := cell_later W2.out HC.out.2.2.2.2
  have z0 := cell_block d0
  have z1 := cell_block d1
  dsimp only at z0 z1
  have ltb : tb < w2.heap.size := by omega
  have lb : b < w2.heap.size := by omega
  clear hb4 H1 T1 B1 B2 RX1 HC
  go_wp2
  go_region
  generalize hW : (w2.alloc (.cells #[.int .i64 1, .int .i64 r, .int .i64 x, .int .i64 m] 94)).drew = W at *
  have hbW : Below w2.heap.size w2 W := by rw [← hW]; exact ((Below.refl _ _).alloc (Nat.le_refl _) _).drew
  have IX : W.heap[w2.heap.size]? = some (.cells #[.int .i64 1, .int .i64 r, .int .i64 x, .int .i64 m] 94 (0, 0)) := by rw [← hW]; exact heap_alloc_new w2 _
  have HW := Lib.hid (H2.out.later hbW)
  have EX := Lib.hid ((hbW.block _ hz2).trans EX2.out)
  have RX : Hid (EvBox0 W w.heap.size) := (hbW.block _ hz3).trans RX2.out
  have OW : Hid (Only2 b tb w W) := .of_below (W2.out.trans (hbW.mono W2.out.size))
  have cf := HW.out.fuel t ht
  rw [HI.out.2.1, Int.natCast_add] at cf
  have ca2 := HW.out.at_ t ht
  rw [HI.out.2.2.1] at ca2
  have ff := fun o => (HW.out.frozen o).2
  have j0 := (ins_cells IX).1
  have IXH := Lib.hid IX
  have nb : b ≠ tb := HW.out.2.1
  generalize hI : w2.heap.size = I at *
  generalize hE : w1.heap.size = E at *
  generalize hR : w.heap.size = R at *
  have n1 : ¬ tb = I := by omega
  have n2 : ¬ I = tb := by omega
  have n3 : ¬ tb = E := by omega
  have n4 : ¬ E = tb := by omega
  have n5 : ¬ tb = R := by omega
  have n6 : ¬ R = tb := by omega
  have n7 : ¬ b = I := by omega
  have n8 : ¬ I = b := by omega
  have n9 : ¬ b = E := by omega
  have n10 : ¬ E = b := by omega
  have n11 : ¬ b = R := by omega
  have n12 : ¬ R = b := by omega
  have n13 : ¬ tb = b := fun h => nb h.symm
  have n14 : ¬ b = tb := nb
  have n15 : ¬ R = E := by omega
  have n16 : ¬ E = R := by omega
  clear hW hbW H2 EX2 RX2 W2 d0 d1 d2 d3 d4 ca p0 p1 IX
  go_wp2
  generalize hV : (W.setCell ⟨tb, t * 4 + 1, none⟩ (.int .i64 f)).setCell ⟨tb, t * 4, none⟩ (.int .i64 (n + 1)) = V at *
  have hoth : ∀ k, k ≠ tb → V.heap[k]? = W.heap[k]? := fun k hk => by rw [← hV, Below.heap_setCell _ _ _ _ hk, Below.heap_setCell _ _ _ _ hk]
  have HG : Hid (RefAt V b tb (some ⟨ab, ao, none⟩) cap tcap (s.go t)) := by rw [← hV]; exact HW.out.go t f n ht HI.out.2.1 HI.out.2.2.1
  have OV : Hid (Only2 b tb w V) := by rw [← hV]; exact (OW.out.setCell (.inr (.inl rfl)) _ _).setCell (.inr (.inl rfl)) _ _
  obtain ⟨j0v, j1v, j2v, j3v⟩ := ins_cells ((hoth I (fun e => n2 e)).trans IXH.out)
  obtain ⟨x0, x1, x2, x3⟩ := ev_cells ((hoth E (fun e => n4 e)).trans EX.out)
  obtain ⟨e0, e1, e2, e3, ef⟩ := EvBox0.cells ((hoth R (fun e => n6 e)).trans RX.out)
  have f0 := ef 0
  have f1 := ef 1
  have f2 := ef 2
  have f3 := ef 3
  have htg : t < (s.go t).ts.length := by rw [St.go, St.put_len]; exact ht
  clear hV hoth j0 cf ca2 ff ef IXH EX RX HW OW
  have cv := HG.out.var x hx4
  have gl := go_load s t r x m ht
  generalize (s.go t).v.getD x 0 = vv at *
  have GL := Lib.hid gl
  clear gl
  have cr := HG.out.reg t htg r hr2
  have ff := (HG.out.frozen (t * 4 + 2 + r)).2
  go_region
  go_wp2
  refine bodyPost_ret (v := .tuple #[.agg #[.int .i64 e.thread, .int .i64 e.kind, .int .i64 e.obj, .bool e.fail], .int .i64 0]) (by simp [results, Try.results64, go_sem, e0, e1, e2, e3]) rfl ⟨rfl, ?_, ?_⟩
  · obtain ⟨hi, hf, hn1, hrl, hvl, hml⟩ := HI.out
    have hg := HG.out
    have h2 := hg.setReg t r vv htg hr2 (by rw [St.go_th _ _ ht]; exact hrl)
    rw [GL.out] at h2
    exact (h2.other4 (by omega) (by omega) _ _ _ _).drewN 1
  · exact ((OV.out.setCell (.inr (.inl rfl)) _ _).set4 (Nat.le_of_eq hR) _ _ _ _).drew
end
end Go.Proofs.Ytkphdmfcmfojeaa

/- The contract of the document's Step: a store. -/
namespace Go.Proofs.Ytkphdmfcmfojeaa
open Go.RowKit
section
variable {F : Nat} {w : World} {b tb : Nat} {a : Option Addr} {cap tcap : Nat} {s : St}

set_option maxRecDepth 100000 in
set_option maxHeartbeats 8000000 in
theorem refStep_2 (h : RefAt w b tb a cap tcap s) (hth : ThreadsAt w a s.p.threads) (ok : s.Ok F) (t : Nat) (i : Ins) (hi : s.ins t = some i) (hm : s.may t = true) (hk1 : i.kind = 2) : Calls Try.prog 64 #[.pointer (some ⟨b, 0, none⟩), .int .i64 t] w fun e w' => e = .returned (stepV (s.step t)) ∧ RefAt w' b tb a cap tcap (s.step t).2.2 ∧ Only2 b tb w w' := by
  obtain ⟨k, hkk, ht⟩ := St.ins_nat hi
  obtain rfl : t = k := by omega
  have hst : s.step t = (0, s.ev t i, s.do_ t i) := by
    unfold St.step
    rw [if_pos (by unfold St.has; omega), hi]
    simp only [hm]
    rfl
  have hn : s.next t = some (s.ev t i) := by unfold St.next; rw [hi]; rfl
  rw [hst, stepV_ok]
  dsimp only
  obtain ⟨o1, o2, o3, o4, o5, o6⟩ := ok.obj hi
  have hx0 : 0 ≤ i.x := by
    have := (ok.ins_right hi).1
    unfold rightIns at this
    repeat' split at this
    all_goals first | (simp only [decide_eq_true_eq] at this; omega) | (cases this)
  obtain ⟨_, hfu, hcode⟩ := St.ins_has hi
  simp only [Int.toNat_natCast] at hfu hcode
  have h4 := ok.len4
  have hln := ok.len
  have hrl : (s.th t).r.length = 2 := (ok.thr _ (St.th_mem ht)).1
  have hvl := ok.vl
  have hml := ok.ml
  obtain ⟨f, hf⟩ : ∃ f, (s.th t).fuel = f + 1 := ⟨(s.th t).fuel - 1, by omega⟩
  have hf8 : f ≤ 1000 := by have := (ok.thr _ (St.th_mem ht)).2.2; have := ok.f8; omega
  have h8 := ok.code8 t ht
  obtain ⟨hat, hic⟩ := List.getElem?_eq_some_iff.1 hcode
  obtain ⟨n, hn1⟩ : ∃ n, (s.th t).at_ = n := ⟨_, rfl⟩
  have hkp : t < s.p.threads.length := by omega
  have hcd : s.code t = s.p.threads[t] := getD_lt _ hkp
  obtain ⟨ab, ao, rfl, hc⟩ := hth.2 (by intro e; simp [e] at hkp)
  obtain ⟨c, ccap, c0, c1, _⟩ := hc t hkp
  rw [← hcd] at c0 c1
  obtain ⟨cb, co, rfl, hcc⟩ := c1.2 (by intro e; simp [e] at hat)
  obtain ⟨i0, i1, i2, i3⟩ := hcc _ hat
  rw [hic] at i0 i1 i2 i3
  rw [hn1] at i0 i1 i2 i3 hat
  have p1 := h.prog.2
  have q0 : decide ((t : Int) < 0) = false := by simp
  have q1 : decide ((s.ts.length : Int) ≤ t) = false := by simp; omega
  have q2 : decide (s.ts.length ≤ t) = false := by simp; omega
  obtain ⟨hb1, hb2⟩ := h.lt
  have HB := Lib.hid (h.later (below_alloc1 w (.cells #[.int .i64 0, .int .i64 0, .int .i64 0, .bool false] 128)))
  have HTH := Lib.hid (hth.later (below_alloc1 w (.cells #[.int .i64 0, .int .i64 0, .int .i64 0, .bool false] 128)))
  have OK := Lib.hid ok
  have HM := Lib.hid hm
  obtain ⟨kd, r, x, m⟩ := i
  dsimp only at *
  obtain ⟨r, rfl⟩ : ∃ y : Nat, r = y := ⟨r.toNat, by omega⟩
  obtain ⟨x, rfl⟩ : ∃ y : Nat, x = y := ⟨x.toNat, by omega⟩
  subst hk1
  have hr2 : r < 2 := by omega
  have hx4 : x < 4 := by have := o1 (.inr rfl); omega
  clear o1 o2 o3
  obtain ⟨e, he⟩ : ∃ e, e = s.ev t ⟨2, r, x, m⟩ := ⟨_, rfl⟩
  rw [← he] at hn ⊢
  have HE := Lib.hid he
  have HN := Lib.hid hn
  have HI := Lib.hid (And.intro hi (And.intro hf (And.intro hn1 (And.intro hrl (And.intro hvl hml)))))
  have HC := Lib.hid (And.intro c0 (And.intro i0 (And.intro i1 (And.intro i2 i3))))
  have h8n : n < 8 := by omega
  have hatn : n < (s.code t).length := by omega
  clear hst h hth ok hi hn he hkk hm hfu hcode hc c1 hcc hic hcd hln hrl hvl hml hf hn1 o6 c0 i0 i1 i2 i3
  try clear hat
  generalize (s.code t).length = ln at *
  go_enter Try.func64, Try.ntmps64
  go_wp2_with fail
  refine (refNext_any HB.out HTH.out OK.out t).mono ?_
  rw [HN.out, evR_some]
  rintro r9 w1 ⟨rfl, hb3⟩
  have hz : w.heap.size < w1.heap.size := by have := hb3.size; simp at this; omega
  have RX1 : Hid (EvBox0 w1 w.heap.size) := (hb3.block _ (by simp)).trans (heap_alloc_new w _)
  have H1 := Lib.hid ((HB.out.later hb3).later (below_alloc1 w1 (.cells #[.int .i64 e.thread, .int .i64 e.kind, .int .i64 e.obj, .bool e.fail] 128)))
  have T1 := Lib.hid ((HTH.out.later hb3).later (below_alloc1 w1 (.cells #[.int .i64 e.thread, .int .i64 e.kind, .int .i64 e.obj, .bool e.fail] 128)))
  have B1 : Hid (Below w.heap.size w w1) := (below_alloc1 w _).trans (hb3.mono (by simp))
  clear hb3 p1 HB HTH
  go_wp2_with fail
  refine (refEnabled_any H1.out T1.out OK.out t).mono ?_
  rw [HM.out]
  rintro r9 w2 ⟨rfl, hb4⟩
  have EX2 : Hid (w2.heap[w1.heap.size]? = some (.cells #[.int .i64 e.thread, .int .i64 e.kind, .int .i64 e.obj, .bool e.fail] 128 (0, 0))) := (hb4.block _ (by simp)).trans (heap_alloc_new w1 _)
  have B2 : Hid (Below w1.heap.size w1 w2) := (below_alloc1 w1 _).trans (hb4.mono (by simp))
  have RX2 : Hid (EvBox0 w2 w.heap.size) := (B2.out.block _ hz).trans RX1.out
  have H2 := Lib.hid (H1.out.later hb4)
  have W2 : Hid (Below w.heap.size w w2) := B1.out.trans (B2.out.mono (by omega))
  have hz2 : w1.heap.size < w2.heap.size := (Array.getElem?_eq_some_iff.1 EX2.out).1
  have hz3 : w.heap.size < w2.heap.size := by omega
  obtain ⟨p0, p1⟩ := H2.out.prog
  have ca := H2.out.at_ t ht
  rw [HI.out.2.2.1] at ca
  have d0 := cell_later W2.out HC.out.1
  have d1 := cell_later W2.out HC.out.2.1
  have d2 := cell_later W2.out HC.out.2.2.1
  have d3 := cell_later W2.out HC.out.2.2.2.1
  have d4 := cell_later W2.out HC.out.2.2.2.2
  have z0 := cell_block d0
  have z1 := cell_block d1
  dsimp only at z0 z1
  have ltb : tb < w2.heap.size := by omega
  have lb : b < w2.heap.size := by omega
  clear hb4 H1 T1 B1 B2 RX1 HC
  go_wp2
  go_region
  generalize hW : (w2.alloc (.cells #[.int .i64 2, .int .i64 r, .int .i64 x, .int .i64 m] 94)).drew = W at *
  have hbW : Below w2.heap.size w2 W := by rw [← hW]; exact ((Below.refl _ _).alloc (Nat.le_refl _) _).drew
  have IX : W.heap[w2.heap.size]? = some (.cells #[.int .i64 2, .int .i64 r, .int .i64 x, .int .i64 m] 94 (0, 0)) := by rw [← hW]; exact heap_alloc_new w2 _
  have HW := Lib.hid (H2.out.later hbW)
  have EX := Lib.hid ((hbW.block _ hz2).trans EX2.out)
  have RX : Hid (EvBox0 W w.heap.size) := (hbW.block _ hz3).trans RX2.out
  have OW : Hid (Only2 b tb w W) := .of_below (W2.out.trans (hbW.mono W2.out.size))
  have cf := HW.out.fuel t ht
  rw [HI.out.2.1, Int.natCast_add] at cf
  have ca2 := HW.out.at_ t ht
  rw [HI.out.2.2.1] at ca2
  have ff := fun o => (HW.out.frozen o).2
  have j0 := (ins_cells IX).1
  have IXH := Lib.hid IX
  have nb : b ≠ tb := HW.out.2.1
  generalize hI : w2.heap.size = I at *
  generalize hE : w1.heap.size = E at *
  generalize hR : w.heap.size = R at *
  have n1 : ¬ tb = I := by omega
  have n2 : ¬ I = tb := by omega
  have n3 : ¬ tb = E := by omega
  have n4 : ¬ E = tb := by omega
  have n5 : ¬ tb = R := by omega
  have n6 : ¬ R = tb := by omega
  have n7 : ¬ b = I := by omega
  have n8 : ¬ I = b := by omega
  have n9 : ¬ b = E := by omega
  have n10 : ¬ E = b := by omega
  have n11 : ¬ b = R := by omega
  have n12 : ¬ R = b := by omega
  have n13 : ¬ tb = b := fun h => nb h.symm
  have n14 : ¬ b = tb := nb
  have n15 : ¬ R = E := by omega
  have n16 : ¬ E = R := by omega
  clear hW hbW H2 EX2 RX2 W2 d0 d1 d2 d3 d4 ca p0 p1 IX
  go_wp2
  generalize hV : (W.setCell ⟨tb, t * 4 + 1, none⟩ (.int .i64 f)).setCell ⟨tb, t * 4, none⟩ (.int .i64 (n + 1)) = V at *
  have hoth : ∀ k, k ≠ tb → V.heap[k]? = W.heap[k]? := fun k hk => by rw [← hV, Below.heap_setCell _ _ _ _ hk, Below.heap_setCell _ _ _ _ hk]
  have HG : Hid (RefAt V b tb (some ⟨ab, ao, none⟩) cap tcap (s.go t)) := by rw [← hV]; exact HW.out.go t f n ht HI.out.2.1 HI.out.2.2.1
  have OV : Hid (Only2 b tb w V) := by rw [← hV]; exact (OW.out.setCell (.inr (.inl rfl)) _ _).setCell (.inr (.inl rfl)) _ _
  obtain ⟨j0v, j1v, j2v, j3v⟩ := ins_cells ((hoth I (fun e => n2 e)).trans IXH.out)
  obtain ⟨x0, x1, x2, x3⟩ := ev_cells ((hoth E (fun e => n4 e)).trans EX.out)
  obtain ⟨e0, e1, e2, e3, ef⟩ := EvBox0.cells ((hoth R (fun e => n6 e)).trans RX.out)
  have f0 := ef 0
  have f1 := ef 1
  have f2 := ef 2
  have f3 := ef 3
  have htg : t < (s.go t).ts.length := by rw [St.go, St.put_len]; exact ht
  clear hV hoth j0 cf ca2 ff ef IXH EX RX HW OW
  have cv := HG.out.var x hx4
  have fv := (HG.out.frozen (4 + x)).1
  have gl := go_store s t r x m ht
  have cr := HG.out.reg t htg r hr2
  generalize ((s.go t).th t).r.getD r 0 = vv at *
  have GL := Lib.hid gl
  clear gl
  go_region
  go_wp2
  refine bodyPost_ret (v := .tuple #[.agg #[.int .i64 e.thread, .int .i64 e.kind, .int .i64 e.obj, .bool e.fail], .int .i64 0]) (by simp [results, Try.results64, go_sem, e0, e1, e2, e3]) rfl ⟨rfl, ?_, ?_⟩
  · obtain ⟨hi, hf, hn1, hrl, hvl, hml⟩ := HI.out
    have hg := HG.out
    have h2 := hg.setVar x vv hx4 hvl
    rw [GL.out] at h2
    exact (h2.other4 (by omega) (by omega) _ _ _ _).drewN 1
  · exact ((OV.out.setCell (.inl rfl) _ _).set4 (Nat.le_of_eq hR) _ _ _ _).drew
end
end Go.Proofs.Ytkphdmfcmfojeaa

/- The contract of the document's Step: a set. -/
namespace Go.Proofs.Ytkphdmfcmfojeaa
open Go.RowKit
section
variable {F : Nat} {w : World} {b tb : Nat} {a : Option Addr} {cap tcap : Nat} {s : St}

set_option maxRecDepth 100000 in
set_option maxHeartbeats 8000000 in
theorem refStep_3 (h : RefAt w b tb a cap tcap s) (hth : ThreadsAt w a s.p.threads) (ok : s.Ok F) (t : Nat) (i : Ins) (hi : s.ins t = some i) (hm : s.may t = true) (hk1 : i.kind = 3) : Calls Try.prog 64 #[.pointer (some ⟨b, 0, none⟩), .int .i64 t] w fun e w' => e = .returned (stepV (s.step t)) ∧ RefAt w' b tb a cap tcap (s.step t).2.2 ∧ Only2 b tb w w' := by
  obtain ⟨k, hkk, ht⟩ := St.ins_nat hi
  obtain rfl : t = k := by omega
  have hst : s.step t = (0, s.ev t i, s.do_ t i) := by
    unfold St.step
    rw [if_pos (by unfold St.has; omega), hi]
    simp only [hm]
    rfl
  have hn : s.next t = some (s.ev t i) := by unfold St.next; rw [hi]; rfl
  rw [hst, stepV_ok]
  dsimp only
  obtain ⟨o1, o2, o3, o4, o5, o6⟩ := ok.obj hi
  have hx0 : 0 ≤ i.x := by
    have := (ok.ins_right hi).1
    unfold rightIns at this
    repeat' split at this
    all_goals first | (simp only [decide_eq_true_eq] at this; omega) | (cases this)
  obtain ⟨_, hfu, hcode⟩ := St.ins_has hi
  simp only [Int.toNat_natCast] at hfu hcode
  have h4 := ok.len4
  have hln := ok.len
  have hrl : (s.th t).r.length = 2 := (ok.thr _ (St.th_mem ht)).1
  have hvl := ok.vl
  have hml := ok.ml
  obtain ⟨f, hf⟩ : ∃ f, (s.th t).fuel = f + 1 := ⟨(s.th t).fuel - 1, by omega⟩
  have hf8 : f ≤ 1000 := by have := (ok.thr _ (St.th_mem ht)).2.2; have := ok.f8; omega
  have h8 := ok.code8 t ht
  obtain ⟨hat, hic⟩ := List.getElem?_eq_some_iff.1 hcode
  obtain ⟨n, hn1⟩ : ∃ n, (s.th t).at_ = n := ⟨_, rfl⟩
  have hkp : t < s.p.threads.length := by omega
  have hcd : s.code t = s.p.threads[t] := getD_lt _ hkp
  obtain ⟨ab, ao, rfl, hc⟩ := hth.2 (by intro e; simp [e] at hkp)
  obtain ⟨c, ccap, c0, c1, _⟩ := hc t hkp
  rw [← hcd] at c0 c1
  obtain ⟨cb, co, rfl, hcc⟩ := c1.2 (by intro e; simp [e] at hat)
  obtain ⟨i0, i1, i2, i3⟩ := hcc _ hat
  rw [hic] at i0 i1 i2 i3
  rw [hn1] at i0 i1 i2 i3 hat
  have p1 := h.prog.2
  have q0 : decide ((t : Int) < 0) = false := by simp
  have q1 : decide ((s.ts.length : Int) ≤ t) = false := by simp; omega
  have q2 : decide (s.ts.length ≤ t) = false := by simp; omega
  obtain ⟨hb1, hb2⟩ := h.lt
  have HB := Lib.hid (h.later (below_alloc1 w (.cells #[.int .i64 0, .int .i64 0, .int .i64 0, .bool false] 128)))
  have HTH := Lib.hid (hth.later (below_alloc1 w (.cells #[.int .i64 0, .int .i64 0, .int .i64 0, .bool false] 128)))
  have OK := Lib.hid ok
  have HM := Lib.hid hm
  obtain ⟨kd, r, x, m⟩ := i
  dsimp only at *
  obtain ⟨r, rfl⟩ : ∃ y : Nat, r = y := ⟨r.toNat, by omega⟩
  obtain ⟨x, rfl⟩ : ∃ y : Nat, x = y := ⟨x.toNat, by omega⟩
  subst hk1
  have hr2 : r < 2 := by omega
  clear o1 o2 o3
  obtain ⟨e, he⟩ : ∃ e, e = s.ev t ⟨3, r, x, m⟩ := ⟨_, rfl⟩
  rw [← he] at hn ⊢
  have HE := Lib.hid he
  have HN := Lib.hid hn
  have HI := Lib.hid (And.intro hi (And.intro hf (And.intro hn1 (And.intro hrl (And.intro hvl hml)))))
  have HC := Lib.hid (And.intro c0 (And.intro i0 (And.intro i1 (And.intro i2 i3))))
  have h8n : n < 8 := by omega
  have hatn : n < (s.code t).length := by omega
  clear hst h hth ok hi hn he hkk hm hfu hcode hc c1 hcc hic hcd hln hrl hvl hml hf hn1 o6 c0 i0 i1 i2 i3
  try clear hat
  generalize (s.code t).length = ln at *
  go_enter Try.func64, Try.ntmps64
  go_wp2_with fail
  refine (refNext_any HB.out HTH.out OK.out t).mono ?_
  rw [HN.out, evR_some]
  rintro r9 w1 ⟨rfl, hb3⟩
  have hz : w.heap.size < w1.heap.size := by have := hb3.size; simp at this; omega
  have RX1 : Hid (EvBox0 w1 w.heap.size) := (hb3.block _ (by simp)).trans (heap_alloc_new w _)
  have H1 := Lib.hid ((HB.out.later hb3).later (below_alloc1 w1 (.cells #[.int .i64 e.thread, .int .i64 e.kind, .int .i64 e.obj, .bool e.fail] 128)))
  have T1 := Lib.hid ((HTH.out.later hb3).later (below_alloc1 w1 (.cells #[.int .i64 e.thread, .int .i64 e.kind, .int .i64 e.obj, .bool e.fail] 128)))
  have B1 : Hid (Below w.heap.size w w1) := (below_alloc1 w _).trans (hb3.mono (by simp))
  clear hb3 p1 HB HTH
  go_wp2_with fail
  refine (refEnabled_any H1.out T1.out OK.out t).mono ?_
  rw [HM.out]
  rintro r9 w2 ⟨rfl, hb4⟩
  have EX2 : Hid (w2.heap[w1.heap.size]? = some (.cells #[.int .i64 e.thread, .int .i64 e.kind, .int .i64 e.obj, .bool e.fail] 128 (0, 0))) := (hb4.block _ (by simp)).trans (heap_alloc_new w1 _)
  have B2 : Hid (Below w1.heap.size w1 w2) := (below_alloc1 w1 _).trans (hb4.mono (by simp))
  have RX2 : Hid (EvBox0 w2 w.heap.size) := (B2.out.block _ hz).trans RX1.out
  have H2 := Lib.hid (H1.out.later hb4)
  have W2 : Hid (Below w.heap.size w w2) := B1.out.trans (B2.out.mono (by omega))
  have hz2 : w1.heap.size < w2.heap.size := (Array.getElem?_eq_some_iff.1 EX2.out).1
  have hz3 : w.heap.size < w2.heap.size := by omega
  obtain ⟨p0, p1⟩ := H2.out.prog
  have ca := H2.out.at_ t ht
  rw [HI.out.2.2.1] at ca
  have d0 := cell_later W2.out HC.out.1
  have d1 := cell_later W2.out HC.out.2.1
  have d2 := cell_later W2.out HC.out.2.2.1
  have d3 := cell_later W2.out HC.out.2.2.2.1
  have d4 := cell_later W2.out HC.out.2.2.2.2
  have z0 := cell_block d0
  have z1 := cell_block d1
  dsimp only at z0 z1
  have ltb : tb < w2.heap.size := by omega
  have lb : b < w2.heap.size := by omega
  clear hb4 H1 T1 B1 B2 RX1 HC
  go_wp2
  go_region
  generalize hW : (w2.alloc (.cells #[.int .i64 3, .int .i64 r, .int .i64 x, .int .i64 m] 94)).drew = W at *
  have hbW : Below w2.heap.size w2 W := by rw [← hW]; exact ((Below.refl _ _).alloc (Nat.le_refl _) _).drew
  have IX : W.heap[w2.heap.size]? = some (.cells #[.int .i64 3, .int .i64 r, .int .i64 x, .int .i64 m] 94 (0, 0)) := by rw [← hW]; exact heap_alloc_new w2 _
  have HW := Lib.hid (H2.out.later hbW)
  have EX := Lib.hid ((hbW.block _ hz2).trans EX2.out)
  have RX : Hid (EvBox0 W w.heap.size) := (hbW.block _ hz3).trans RX2.out
  have OW : Hid (Only2 b tb w W) := .of_below (W2.out.trans (hbW.mono W2.out.size))
  have cf := HW.out.fuel t ht
  rw [HI.out.2.1, Int.natCast_add] at cf
  have ca2 := HW.out.at_ t ht
  rw [HI.out.2.2.1] at ca2
  have ff := fun o => (HW.out.frozen o).2
  have j0 := (ins_cells IX).1
  have IXH := Lib.hid IX
  have nb : b ≠ tb := HW.out.2.1
  generalize hI : w2.heap.size = I at *
  generalize hE : w1.heap.size = E at *
  generalize hR : w.heap.size = R at *
  have n1 : ¬ tb = I := by omega
  have n2 : ¬ I = tb := by omega
  have n3 : ¬ tb = E := by omega
  have n4 : ¬ E = tb := by omega
  have n5 : ¬ tb = R := by omega
  have n6 : ¬ R = tb := by omega
  have n7 : ¬ b = I := by omega
  have n8 : ¬ I = b := by omega
  have n9 : ¬ b = E := by omega
  have n10 : ¬ E = b := by omega
  have n11 : ¬ b = R := by omega
  have n12 : ¬ R = b := by omega
  have n13 : ¬ tb = b := fun h => nb h.symm
  have n14 : ¬ b = tb := nb
  have n15 : ¬ R = E := by omega
  have n16 : ¬ E = R := by omega
  clear hW hbW H2 EX2 RX2 W2 d0 d1 d2 d3 d4 ca p0 p1 IX
  go_wp2
  generalize hV : (W.setCell ⟨tb, t * 4 + 1, none⟩ (.int .i64 f)).setCell ⟨tb, t * 4, none⟩ (.int .i64 (n + 1)) = V at *
  have hoth : ∀ k, k ≠ tb → V.heap[k]? = W.heap[k]? := fun k hk => by rw [← hV, Below.heap_setCell _ _ _ _ hk, Below.heap_setCell _ _ _ _ hk]
  have HG : Hid (RefAt V b tb (some ⟨ab, ao, none⟩) cap tcap (s.go t)) := by rw [← hV]; exact HW.out.go t f n ht HI.out.2.1 HI.out.2.2.1
  have OV : Hid (Only2 b tb w V) := by rw [← hV]; exact (OW.out.setCell (.inr (.inl rfl)) _ _).setCell (.inr (.inl rfl)) _ _
  obtain ⟨j0v, j1v, j2v, j3v⟩ := ins_cells ((hoth I (fun e => n2 e)).trans IXH.out)
  obtain ⟨x0, x1, x2, x3⟩ := ev_cells ((hoth E (fun e => n4 e)).trans EX.out)
  obtain ⟨e0, e1, e2, e3, ef⟩ := EvBox0.cells ((hoth R (fun e => n6 e)).trans RX.out)
  have f0 := ef 0
  have f1 := ef 1
  have f2 := ef 2
  have f3 := ef 3
  have htg : t < (s.go t).ts.length := by rw [St.go, St.put_len]; exact ht
  clear hV hoth j0 cf ca2 ff ef IXH EX RX HW OW
  have GL := Lib.hid (go_set s t r x m ht)
  have cr := HG.out.reg t htg r hr2
  have ff := (HG.out.frozen (t * 4 + 2 + r)).2
  go_region
  go_wp2
  refine bodyPost_ret (v := .tuple #[.agg #[.int .i64 e.thread, .int .i64 e.kind, .int .i64 e.obj, .bool e.fail], .int .i64 0]) (by simp [results, Try.results64, go_sem, e0, e1, e2, e3]) rfl ⟨rfl, ?_, ?_⟩
  · obtain ⟨hi, hf, hn1, hrl, hvl, hml⟩ := HI.out
    have hg := HG.out
    have h2 := hg.setReg t r m htg hr2 (by rw [St.go_th _ _ ht]; exact hrl)
    rw [GL.out] at h2
    exact (h2.other4 (by omega) (by omega) _ _ _ _).drewN 1
  · exact ((OV.out.setCell (.inr (.inl rfl)) _ _).set4 (Nat.le_of_eq hR) _ _ _ _).drew
end
end Go.Proofs.Ytkphdmfcmfojeaa

/- The contract of the document's Step: an add. -/
namespace Go.Proofs.Ytkphdmfcmfojeaa
open Go.RowKit
section
variable {F : Nat} {w : World} {b tb : Nat} {a : Option Addr} {cap tcap : Nat} {s : St}

set_option maxRecDepth 100000 in
set_option maxHeartbeats 8000000 in
theorem refStep_4 (h : RefAt w b tb a cap tcap s) (hth : ThreadsAt w a s.p.threads) (ok : s.Ok F) (t : Nat) (i : Ins) (hi : s.ins t = some i) (hm : s.may t = true) (hk1 : i.kind = 4) : Calls Try.prog 64 #[.pointer (some ⟨b, 0, none⟩), .int .i64 t] w fun e w' => e = .returned (stepV (s.step t)) ∧ RefAt w' b tb a cap tcap (s.step t).2.2 ∧ Only2 b tb w w' := by
  obtain ⟨k, hkk, ht⟩ := St.ins_nat hi
  obtain rfl : t = k := by omega
  have hst : s.step t = (0, s.ev t i, s.do_ t i) := by
    unfold St.step
    rw [if_pos (by unfold St.has; omega), hi]
    simp only [hm]
    rfl
  have hn : s.next t = some (s.ev t i) := by unfold St.next; rw [hi]; rfl
  rw [hst, stepV_ok]
  dsimp only
  obtain ⟨o1, o2, o3, o4, o5, o6⟩ := ok.obj hi
  have hx0 : 0 ≤ i.x := by
    have := (ok.ins_right hi).1
    unfold rightIns at this
    repeat' split at this
    all_goals first | (simp only [decide_eq_true_eq] at this; omega) | (cases this)
  obtain ⟨_, hfu, hcode⟩ := St.ins_has hi
  simp only [Int.toNat_natCast] at hfu hcode
  have h4 := ok.len4
  have hln := ok.len
  have hrl : (s.th t).r.length = 2 := (ok.thr _ (St.th_mem ht)).1
  have hvl := ok.vl
  have hml := ok.ml
  obtain ⟨f, hf⟩ : ∃ f, (s.th t).fuel = f + 1 := ⟨(s.th t).fuel - 1, by omega⟩
  have hf8 : f ≤ 1000 := by have := (ok.thr _ (St.th_mem ht)).2.2; have := ok.f8; omega
  have h8 := ok.code8 t ht
  obtain ⟨hat, hic⟩ := List.getElem?_eq_some_iff.1 hcode
  obtain ⟨n, hn1⟩ : ∃ n, (s.th t).at_ = n := ⟨_, rfl⟩
  have hkp : t < s.p.threads.length := by omega
  have hcd : s.code t = s.p.threads[t] := getD_lt _ hkp
  obtain ⟨ab, ao, rfl, hc⟩ := hth.2 (by intro e; simp [e] at hkp)
  obtain ⟨c, ccap, c0, c1, _⟩ := hc t hkp
  rw [← hcd] at c0 c1
  obtain ⟨cb, co, rfl, hcc⟩ := c1.2 (by intro e; simp [e] at hat)
  obtain ⟨i0, i1, i2, i3⟩ := hcc _ hat
  rw [hic] at i0 i1 i2 i3
  rw [hn1] at i0 i1 i2 i3 hat
  have p1 := h.prog.2
  have q0 : decide ((t : Int) < 0) = false := by simp
  have q1 : decide ((s.ts.length : Int) ≤ t) = false := by simp; omega
  have q2 : decide (s.ts.length ≤ t) = false := by simp; omega
  obtain ⟨hb1, hb2⟩ := h.lt
  have HB := Lib.hid (h.later (below_alloc1 w (.cells #[.int .i64 0, .int .i64 0, .int .i64 0, .bool false] 128)))
  have HTH := Lib.hid (hth.later (below_alloc1 w (.cells #[.int .i64 0, .int .i64 0, .int .i64 0, .bool false] 128)))
  have OK := Lib.hid ok
  have HM := Lib.hid hm
  obtain ⟨kd, r, x, m⟩ := i
  dsimp only at *
  obtain ⟨r, rfl⟩ : ∃ y : Nat, r = y := ⟨r.toNat, by omega⟩
  obtain ⟨x, rfl⟩ : ∃ y : Nat, x = y := ⟨x.toNat, by omega⟩
  subst hk1
  have hr2 : r < 2 := by omega
  clear o1 o2 o3
  obtain ⟨e, he⟩ : ∃ e, e = s.ev t ⟨4, r, x, m⟩ := ⟨_, rfl⟩
  rw [← he] at hn ⊢
  have HE := Lib.hid he
  have HN := Lib.hid hn
  have HI := Lib.hid (And.intro hi (And.intro hf (And.intro hn1 (And.intro hrl (And.intro hvl hml)))))
  have HC := Lib.hid (And.intro c0 (And.intro i0 (And.intro i1 (And.intro i2 i3))))
  have h8n : n < 8 := by omega
  have hatn : n < (s.code t).length := by omega
  clear hst h hth ok hi hn he hkk hm hfu hcode hc c1 hcc hic hcd hln hrl hvl hml hf hn1 o6 c0 i0 i1 i2 i3
  try clear hat
  generalize (s.code t).length = ln at *
  go_enter Try.func64, Try.ntmps64
  go_wp2_with fail
  refine (refNext_any HB.out HTH.out OK.out t).mono ?_
  rw [HN.out, evR_some]
  rintro r9 w1 ⟨rfl, hb3⟩
  have hz : w.heap.size < w1.heap.size := by have := hb3.size; simp at this; omega
  have RX1 : Hid (EvBox0 w1 w.heap.size) := (hb3.block _ (by simp)).trans (heap_alloc_new w _)
  have H1 := Lib.hid ((HB.out.later hb3).later (below_alloc1 w1 (.cells #[.int .i64 e.thread, .int .i64 e.kind, .int .i64 e.obj, .bool e.fail] 128)))
  have T1 := Lib.hid ((HTH.out.later hb3).later (below_alloc1 w1 (.cells #[.int .i64 e.thread, .int .i64 e.kind, .int .i64 e.obj, .bool e.fail] 128)))
  have B1 : Hid (Below w.heap.size w w1) := (below_alloc1 w _).trans (hb3.mono (by simp))
  clear hb3 p1 HB HTH
  go_wp2_with fail
  refine (refEnabled_any H1.out T1.out OK.out t).mono ?_
  rw [HM.out]
  rintro r9 w2 ⟨rfl, hb4⟩
  have EX2 : Hid (w2.heap[w1.heap.size]? = some (.cells #[.int .i64 e.thread, .int .i64 e.kind, .int .i64 e.obj, .bool e.fail] 128 (0, 0))) := (hb4.block _ (by simp)).trans (heap_alloc_new w1 _)
  have B2 : Hid (Below w1.heap.size w1 w2) := (below_alloc1 w1 _).trans (hb4.mono (by simp))
  have RX2 : Hid (EvBox0 w2 w.heap.size) := (B2.out.block _ hz).trans RX1.out
  have H2 := Lib.hid (H1.out.later hb4)
  have W2 : Hid (Below w.heap.size w w2) := B1.out.trans (B2.out.mono (by omega))
  have hz2 : w1.heap.size < w2.heap.size := (Array.getElem?_eq_some_iff.1 EX2.out).1
  have hz3 : w.heap.size < w2.heap.size := by omega
  obtain ⟨p0, p1⟩ := H2.out.prog
  have ca := H2.out.at_ t ht
  rw [HI.out.2.2.1] at ca
  have d0 := cell_later W2.out HC.out.1
  have d1 := cell_later W2.out HC.out.2.1
  have d2 := cell_later W2.out HC.out.2.2.1
  have d3 := cell_later W2.out HC.out.2.2.2.1
  have d4 := cell_later W2.out HC.out.2.2.2.2
  have z0 := cell_block d0
  have z1 := cell_block d1
  dsimp only at z0 z1
  have ltb : tb < w2.heap.size := by omega
  have lb : b < w2.heap.size := by omega
  clear hb4 H1 T1 B1 B2 RX1 HC
  go_wp2
  go_region
  generalize hW : (w2.alloc (.cells #[.int .i64 4, .int .i64 r, .int .i64 x, .int .i64 m] 94)).drew = W at *
  have hbW : Below w2.heap.size w2 W := by rw [← hW]; exact ((Below.refl _ _).alloc (Nat.le_refl _) _).drew
  have IX : W.heap[w2.heap.size]? = some (.cells #[.int .i64 4, .int .i64 r, .int .i64 x, .int .i64 m] 94 (0, 0)) := by rw [← hW]; exact heap_alloc_new w2 _
  have HW := Lib.hid (H2.out.later hbW)
  have EX := Lib.hid ((hbW.block _ hz2).trans EX2.out)
  have RX : Hid (EvBox0 W w.heap.size) := (hbW.block _ hz3).trans RX2.out
  have OW : Hid (Only2 b tb w W) := .of_below (W2.out.trans (hbW.mono W2.out.size))
  have cf := HW.out.fuel t ht
  rw [HI.out.2.1, Int.natCast_add] at cf
  have ca2 := HW.out.at_ t ht
  rw [HI.out.2.2.1] at ca2
  have ff := fun o => (HW.out.frozen o).2
  have j0 := (ins_cells IX).1
  have IXH := Lib.hid IX
  have nb : b ≠ tb := HW.out.2.1
  generalize hI : w2.heap.size = I at *
  generalize hE : w1.heap.size = E at *
  generalize hR : w.heap.size = R at *
  have n1 : ¬ tb = I := by omega
  have n2 : ¬ I = tb := by omega
  have n3 : ¬ tb = E := by omega
  have n4 : ¬ E = tb := by omega
  have n5 : ¬ tb = R := by omega
  have n6 : ¬ R = tb := by omega
  have n7 : ¬ b = I := by omega
  have n8 : ¬ I = b := by omega
  have n9 : ¬ b = E := by omega
  have n10 : ¬ E = b := by omega
  have n11 : ¬ b = R := by omega
  have n12 : ¬ R = b := by omega
  have n13 : ¬ tb = b := fun h => nb h.symm
  have n14 : ¬ b = tb := nb
  have n15 : ¬ R = E := by omega
  have n16 : ¬ E = R := by omega
  clear hW hbW H2 EX2 RX2 W2 d0 d1 d2 d3 d4 ca p0 p1 IX
  go_wp2
  generalize hV : (W.setCell ⟨tb, t * 4 + 1, none⟩ (.int .i64 f)).setCell ⟨tb, t * 4, none⟩ (.int .i64 (n + 1)) = V at *
  have hoth : ∀ k, k ≠ tb → V.heap[k]? = W.heap[k]? := fun k hk => by rw [← hV, Below.heap_setCell _ _ _ _ hk, Below.heap_setCell _ _ _ _ hk]
  have HG : Hid (RefAt V b tb (some ⟨ab, ao, none⟩) cap tcap (s.go t)) := by rw [← hV]; exact HW.out.go t f n ht HI.out.2.1 HI.out.2.2.1
  have OV : Hid (Only2 b tb w V) := by rw [← hV]; exact (OW.out.setCell (.inr (.inl rfl)) _ _).setCell (.inr (.inl rfl)) _ _
  obtain ⟨j0v, j1v, j2v, j3v⟩ := ins_cells ((hoth I (fun e => n2 e)).trans IXH.out)
  obtain ⟨x0, x1, x2, x3⟩ := ev_cells ((hoth E (fun e => n4 e)).trans EX.out)
  obtain ⟨e0, e1, e2, e3, ef⟩ := EvBox0.cells ((hoth R (fun e => n6 e)).trans RX.out)
  have f0 := ef 0
  have f1 := ef 1
  have f2 := ef 2
  have f3 := ef 3
  have htg : t < (s.go t).ts.length := by rw [St.go, St.put_len]; exact ht
  clear hV hoth j0 cf ca2 ff ef IXH EX RX HW OW
  have gl := go_add s t r x m ht
  have cr := HG.out.reg t htg r hr2
  have ff := (HG.out.frozen (t * 4 + 2 + r)).2
  generalize ((s.go t).th t).r.getD r 0 = vv at *
  have ew : wrap64 (vv + m) = IntKind.i64.wrap (vv + m) := by rw [IntKind.wrap_i64]; unfold wrap64; first | rfl | omega
  rw [← ew] at gl
  have GL := Lib.hid gl
  clear gl ew
  go_region
  go_wp2
  refine bodyPost_ret (v := .tuple #[.agg #[.int .i64 e.thread, .int .i64 e.kind, .int .i64 e.obj, .bool e.fail], .int .i64 0]) (by simp [results, Try.results64, go_sem, e0, e1, e2, e3]) rfl ⟨rfl, ?_, ?_⟩
  · obtain ⟨hi, hf, hn1, hrl, hvl, hml⟩ := HI.out
    have hg := HG.out
    have h2 := hg.setReg t r (wrap64 (vv + m)) htg hr2 (by rw [St.go_th _ _ ht]; exact hrl)
    rw [GL.out] at h2
    exact (h2.other4 (by omega) (by omega) _ _ _ _).drewN 1
  · exact ((OV.out.setCell (.inr (.inl rfl)) _ _).set4 (Nat.le_of_eq hR) _ _ _ _).drew
end
end Go.Proofs.Ytkphdmfcmfojeaa
