import Derived.WalkKit
import Derived.BigQuiet
import Derived.Deep.QuietTactic
import Derived.WalkLawsBesides
import Derived.Lib.Hide
import Derived.Laws.Rows
import Derived.Laws.Tables
import Derived.StillTailTactics
import Derived.Laws.StructEq
import Derived.ProofKit
import Derived.Lib.SmallJoins
import Derived.Deep.Slices
import Derived.Deep.Fields
import Derived.OpenShut
import Derived.Deep.OwnRows
import Derived.Lib.SliceRun
import Derived.Laws.OwnMore
import Derived.Maps.AppendAt
import Derived.Laws.CopyRow
import Derived.Laws.CopyOwn
import Derived.Laws.Externs
import Derived.Lib.Overlaps
import Derived.Lib.AppendZeros
import Derived.Lib.AppendZerosOnto
import Derived.Shelf.Spec.SlicesInsert
import Derived.Test.YtopklnehhebhmaaRows
import Derived.Test.YtopklnehhebhmaaPk01

/- Walks, plainly: how many prefixes there are from a state on, and where they end. -/
namespace Go.Proofs.Ytopklnehhebhmaa

abbrev Ends := List (St × List Ev)
/-- How many prefixes there are from here on. -/
def St.pre : Nat → St → Nat
  | 0, _ => 1
  | n + 1, s => 1 + (s.all.map fun t => St.pre n (s.step t).2.2).sum
/-- All ends from here on, with what was done. -/
def St.runs : Nat → St → List Ev → List (St × List Ev)
  | 0, s, row => [(s, row)]
  | n + 1, s, row => if s.all = [] then [(s, row)] else s.all.flatMap fun t => St.runs n (s.step t).2.2 (row ++ [(s.step t).2.1])
theorem pre_pos (n : Nat) (s : St) : 1 ≤ s.pre n := by
  cases n with
  | zero => exact Nat.le_refl _
  | succ n => unfold St.pre; omega
theorem all_step {s : St} {t : Int} (h : t ∈ s.all) : ∃ i, s.step t = (0, s.ev t i, s.do_ t i) ∧ (s.do_ t i).fuel + 1 = s.fuel := by
  unfold St.all at h
  have hm := (List.mem_filter.1 h).2
  rcases s.step_cases t with ⟨i, hi, _, e⟩ | ⟨e, he, e'⟩
  · exact ⟨i, e, St.fuel_do hi⟩
  · exfalso
    unfold St.may at hm
    cases hi : s.ins t with
    | none => rw [hi] at hm; cases hm
    | some i =>
      have := St.step_may hi (by unfold St.may; exact hm)
      rw [this] at e'
      injection e' with e' _
      omega
theorem all_step' {s : St} {t : Int} (h : t ∈ s.all) : ∃ e s1, s.step t = (0, e, s1) ∧ s1.fuel + 1 = s.fuel := by
  obtain ⟨i, h1, h2⟩ := all_step h
  exact ⟨_, _, h1, h2⟩
theorem all_none {s : St} (h : s.fuel = 0) : s.all = [] := by
  apply Classical.byContradiction
  intro hn
  obtain ⟨t, ht⟩ := List.exists_mem_of_ne_nil _ hn
  obtain ⟨_, _, _, h2⟩ := all_step' ht
  omega
theorem St.all_len (s : St) : s.all.length ≤ s.ts.length := by
  unfold St.all
  exact Nat.le_trans (List.length_filter_le _ _) (by simp)
theorem fuel_le {F : Nat} {s : St} (ok : s.Ok F) : s.fuel ≤ 32 := by
  have h : ∀ l : List Nat, (∀ x ∈ l, x ≤ 8) → l.sum ≤ 8 * l.length := by
    intro l
    induction l with
    | nil => intro _; simp
    | cons a l ih =>
      intro h
      have h0 := h a (by simp)
      have h1 := ih fun x hx => h x (by simp [hx])
      simp only [List.sum_cons, List.length_cons]
      omega
  have h1 := h (s.ts.map Thr.fuel) (fun x hx => by
    obtain ⟨y, hy, rfl⟩ := List.mem_map.1 hx
    have := (ok.thr y hy).2.2
    have := ok.f8
    omega)
  have h4 := ok.len
  have h5 := ok.right
  unfold rightPg at h5
  rw [Bool.and_eq_true, decide_eq_true_eq] at h5
  unfold St.fuel
  rw [List.length_map] at h1
  omega
/-- Of the first j threads that may: prefixes and ends. -/
def preTo (n : Nat) (s : St) (j : Nat) : Nat := ((s.all.take j).map fun t => St.pre n (s.step t).2.2).sum
def runsTo (n : Nat) (s : St) (row : List Ev) (j : Nat) : List (St × List Ev) := (s.all.take j).flatMap fun t => St.runs n (s.step t).2.2 (row ++ [(s.step t).2.1])
theorem preTo_succ (n : Nat) (s : St) {j : Nat} (h : j < s.all.length) : preTo n s (j + 1) = preTo n s j + St.pre n (s.step s.all[j]).2.2 := by
  unfold preTo
  rw [List.take_succ_eq_append_getElem h, List.map_append, List.sum_append]
  simp
theorem runsTo_succ (n : Nat) (s : St) (row : List Ev) {j : Nat} (h : j < s.all.length) : runsTo n s row (j + 1) = runsTo n s row j ++ St.runs n (s.step s.all[j]).2.2 (row ++ [(s.step s.all[j]).2.1]) := by
  unfold runsTo
  rw [List.take_succ_eq_append_getElem h, List.flatMap_append]
  simp
theorem preTo_all (n : Nat) (s : St) : St.pre (n + 1) s = 1 + preTo n s s.all.length := by
  unfold preTo
  rw [List.take_length]
  rfl
theorem preTo_le (n : Nat) (s : St) (j : Nat) : preTo n s j ≤ preTo n s s.all.length := by
  unfold preTo
  rw [List.take_length]
  conv => rhs; rw [← List.take_append_drop j s.all]
  rw [List.map_append, List.sum_append]
  omega
theorem runsTo_all (n : Nat) (s : St) (row : List Ev) (h : s.all ≠ []) : St.runs (n + 1) s row = runsTo n s row s.all.length := by
  unfold runsTo
  rw [List.take_length]
  show (if s.all = [] then _ else _) = _
  rw [if_neg h]
theorem runs_end (n : Nat) (s : St) (row : List Ev) (h : s.all = []) : St.runs n s row = [(s, row)] ∧ St.pre n s = 1 := by
  cases n with
  | zero => exact ⟨rfl, rfl⟩
  | succ n =>
    refine ⟨?_, ?_⟩
    · show (if s.all = [] then _ else _) = _
      rw [if_pos h]
    · unfold St.pre
      rw [h]
      rfl

theorem sum_map_le {T : Type} (l : List T) (f g : T → Nat) (h : ∀ x ∈ l, f x ≤ g x) : (l.map f).sum ≤ (l.map g).sum := by
  induction l with
  | nil => simp
  | cons a l ih =>
    have h0 := h a (by simp)
    have h1 := ih fun x hx => h x (by simp [hx])
    simp only [List.map_cons, List.sum_cons]
    omega
theorem runs_le (n : Nat) : ∀ (s : St) (row : List Ev), (s.runs n row).length ≤ s.pre n := by
  induction n with
  | zero => intro s row; exact Nat.le_refl _
  | succ n ih =>
    intro s row
    show (if s.all = [] then _ else _ : List (St × List Ev)).length ≤ _
    unfold St.pre
    split
    · simp
    · rw [List.length_flatMap]
      have := sum_map_le s.all (fun t => (St.runs n (s.step t).2.2 (row ++ [(s.step t).2.1])).length) (fun t => St.pre n (s.step t).2.2) (fun t _ => ih _ _)
      omega
theorem runsTo_le (n : Nat) (s : St) (row : List Ev) (j : Nat) : (runsTo n s row j).length ≤ preTo n s j := by
  unfold runsTo preTo
  rw [List.length_flatMap]
  exact sum_map_le _ _ _ fun t _ => runs_le n _ _

def s0 (p : Pg) (fuel : Int) : St := St.new p fuel.toNat
def okPg (p : Pg) (fuel : Int) : Prop := rightPg p = true ∧ 0 ≤ fuel ∧ fuel ≤ 8
instance (p : Pg) (fuel : Int) : Decidable (okPg p fuel) := inferInstanceAs (Decidable (_ ∧ _))
/-- How many prefixes, and where they end. -/
def preW (p : Pg) (fuel : Int) : Nat := (s0 p fuel).pre 33
def runsW (p : Pg) (fuel : Int) : List (St × List Ev) := (s0 p fuel).runs 33 []

end Go.Proofs.Ytopklnehhebhmaa

/- General: worlds that differ in some blocks, cells, lists. No type and no function of the program. -/
namespace Go.RowKit
theorem Below.drewN {B : Nat} {a w : World} (h : Below B a w) {n : Nat} : Below B a (w.drewN n) := ⟨h.os, h.tape, h.output, h.size, h.block⟩
end Go.RowKit
namespace Go.Proofs.Ytopklnehhebhmaa
open Go.RowKit

theorem ret_bool {a b : Bool} (h : a = b) : Ending.returned (.bool a) = .returned (.bool b) := by rw [h]
theorem below_alloc1 (w : World) (o : Obj) : Below w.heap.size w (w.alloc o) := (Below.refl _ _).alloc (Nat.le_refl _) _
theorem below_alloc2 (w : World) (o o2 : Obj) : Below w.heap.size w ((w.alloc o).alloc o2) := ((Below.refl _ _).alloc (Nat.le_refl _) _).alloc (by simp) _
/-- All but block b is as it was. -/
structure Only (b : Nat) (w w' : World) : Prop where
  os : w'.os = w.os
  tape : w'.tape = w.tape
  output : w'.output = w.output
  size : w.heap.size ≤ w'.heap.size
  block : ∀ k, k < w.heap.size → k ≠ b → w'.heap[k]? = w.heap[k]?
theorem Only.refl (b : Nat) (w : World) : Only b w w := ⟨rfl, rfl, rfl, Nat.le_refl _, fun _ _ _ => rfl⟩
theorem Only.trans {b : Nat} {u v w : World} (h : Only b u v) (k : Only b v w) : Only b u w :=
  ⟨k.os.trans h.os, k.tape.trans h.tape, k.output.trans h.output, Nat.le_trans h.size k.size, fun i hi hb => (k.block i (Nat.lt_of_lt_of_le hi h.size) hb).trans (h.block i hi hb)⟩
theorem Only.of_below {b : Nat} {w w' : World} (h : Below w.heap.size w w') : Only b w w' := ⟨h.os, h.tape, h.output, h.size, fun k hk _ => h.block k hk⟩
theorem Only.drew {b : Nat} {w w' : World} (h : Only b w w') : Only b w w'.drew := ⟨h.os, h.tape, h.output, h.size, h.block⟩
theorem Only.alloc {b : Nat} {w w' : World} (h : Only b w w') (o : Obj) : Only b w (w'.alloc o) := h.trans (.of_below ((Below.refl _ _).alloc (Nat.le_refl _) _))
theorem Only.setCell {b : Nat} {w w' : World} (h : Only b w w') (o : Nat) (v : Value) : Only b w (w'.setCell ⟨b, o, none⟩ v) :=
  h.trans ⟨rfl, rfl, rfl, by simp [World.setCell], fun k _ hb => Below.heap_setCell _ _ _ _ hb⟩
theorem Only.below {b B : Nat} {w w' : World} (h : Only b w w') (hB : B ≤ b) (hw : B ≤ w.heap.size) : Below B w w' :=
  ⟨h.os, h.tape, h.output, h.size, fun k hk => h.block k (by omega) (by omega)⟩
theorem ownsRow_later {w w' : World} {base : Nat} {e : TypeId} {size : Nat} {v : Value} {n : Nat} {xs : List Value} (h : w.ownsRow base e size v n xs) (hb : Below w.heap.size w w') : w'.ownsRow base e size v n xs := by
  obtain ⟨h1, h2 | ⟨g, cap, cur, h2, h3, h4, h5⟩⟩ := h
  · exact ⟨h1, .inl h2⟩
  · exact ⟨h1, .inr ⟨g, cap, cur, h2, h3, (hb.block g (Array.getElem?_eq_some_iff.1 h4).1).trans h4, h5⟩⟩
theorem run_part_one {P : Program} (w : World) {t : TypeId} {d : TypeDesc} {xs : Array Value} {o : Nat} {v : Value} (hu : P.underlying t = some d) (hd : (match d with | .struct _ | .array _ _ => true | _ => false) = false) (hx : xs[o]? = some v) : (part t xs o).run P w = .ok v w := by
  have hagg : (isAgg t).run P w = .ok false w := by
    unfold isAgg
    rw [Sem.run_bind, run_underlying hu w]
    cases d <;> simp_all
  simp [part, hagg, hx]
theorem run_eqFields_consI {P : Program} (w : World) (d : Nat) (xs ys : Array Value) (f : Field) (fs : List Field) (k k' : IntKind) (a b : Int) (hn : f.name ≠ "_") (hu : P.underlying f.type = some (.int k'))
    (hx : xs[f.offset]? = some (.int k a)) (hy : ys[f.offset]? = some (.int k b)) :
    (Op.eqFields (d + 1) xs ys (f :: fs)).run P w = if a == b then (Op.eqFields (d + 1) xs ys fs).run P w else .ok false w := by
  rw [Op.eqFields, if_pos hn]
  simp only [Sem.run_bind, run_part_one w hu rfl hx, run_part_one w hu rfl hy, Result.andThen_ok, run_equalIn_int w d f.type k k' a b hu]
  cases h : (a == b) <;> simp
theorem run_eqFields_consB {P : Program} (w : World) (d : Nat) (xs ys : Array Value) (f : Field) (fs : List Field) (a b : Bool) (hn : f.name ≠ "_") (hu : P.underlying f.type = some .bool)
    (hx : xs[f.offset]? = some (.bool a)) (hy : ys[f.offset]? = some (.bool b)) :
    (Op.eqFields (d + 1) xs ys (f :: fs)).run P w = if a == b then (Op.eqFields (d + 1) xs ys fs).run P w else .ok false w := by
  rw [Op.eqFields, if_pos hn]
  simp only [Sem.run_bind, run_part_one w hu rfl hx, run_part_one w hu rfl hy, Result.andThen_ok, run_equalIn_bool w d f.type a b hu]
  cases h : (a == b) <;> simp
theorem ownsRow_only {w w' : World} {g base : Nat} {e : TypeId} {size : Nat} {v : Value} {n : Nat} {xs : List Value} (h : w.ownsRow base e size v n xs) (ho : Only g w w') (hg : g < base) : w'.ownsRow base e size v n xs := by
  obtain ⟨h1, h2 | ⟨b, cap, cur, h2, h3, h4, h5⟩⟩ := h
  · exact ⟨h1, .inl h2⟩
  · exact ⟨h1, .inr ⟨b, cap, cur, h2, h3, (ho.block b (Array.getElem?_eq_some_iff.1 h4).1 (by omega)).trans h4, h5⟩⟩
theorem add_row (b o k : Nat) : Addr.add ⟨b, o, none⟩ k = ⟨b, o + k, none⟩ := by
  unfold Addr.add
  split
  · rename_i h; subst h; rfl
  · rfl
theorem run_index_one {P : Program} (w : World) {t elem : TypeId} {n : Nat} {cs : Array Value} {d : TypeDesc} (i : Nat) {v : Value} (hu : P.underlying t = some (.array n elem)) (he : P.underlying elem = some d)
    (hd : (match d with | .struct _ | .array _ _ => true | _ => false) = false) (hs : (P.info? elem).map (·.size) = some 1) (hi : i < n) (hv : cs[i]? = some v) : (Instr.index t (.agg cs) (.int .i64 i)).run P w = .ok v w := by
  cases hq : P.info? elem with
  | none => simp [hq] at hs
  | some x =>
    have hx : x.size = 1 := by simpa [hq] using hs
    have hagg : (isAgg elem).run P w = .ok false w := by
      unfold isAgg
      rw [Sem.run_bind, run_underlying he w]
      cases d <;> simp_all
    simp [Instr.index, asIntOf, run_underlying hu, hi, sizeOf, typeInfo, hq, hx, part, hagg, hv]
/-- All but the blocks of S is as it was. -/
structure OnlyS (S : Nat → Prop) (w w' : World) : Prop where
  os : w'.os = w.os
  tape : w'.tape = w.tape
  output : w'.output = w.output
  size : w.heap.size ≤ w'.heap.size
  block : ∀ k, k < w.heap.size → ¬ S k → w'.heap[k]? = w.heap[k]?
theorem OnlyS.refl (S : Nat → Prop) (w : World) : OnlyS S w w := ⟨rfl, rfl, rfl, Nat.le_refl _, fun _ _ _ => rfl⟩
theorem OnlyS.trans {S : Nat → Prop} {u v w : World} (h : OnlyS S u v) (k : OnlyS S v w) : OnlyS S u w :=
  ⟨k.os.trans h.os, k.tape.trans h.tape, k.output.trans h.output, Nat.le_trans h.size k.size, fun i hi hs => (k.block i (Nat.lt_of_lt_of_le hi h.size) hs).trans (h.block i hi hs)⟩
theorem OnlyS.of_below {S : Nat → Prop} {w w' : World} (h : Below w.heap.size w w') : OnlyS S w w' := ⟨h.os, h.tape, h.output, h.size, fun k hk _ => h.block k hk⟩
theorem OnlyS.of_only {S : Nat → Prop} {b : Nat} {w w' : World} (h : Only b w w') (hb : S b) : OnlyS S w w' := ⟨h.os, h.tape, h.output, h.size, fun k hk hs => h.block k hk (fun e => hs (by rw [e]; exact hb))⟩
theorem OnlyS.drew {S : Nat → Prop} {w w' : World} (h : OnlyS S w w') : OnlyS S w w'.drew := ⟨h.os, h.tape, h.output, h.size, h.block⟩
theorem OnlyS.drewN {S : Nat → Prop} {w w' : World} (h : OnlyS S w w') (n : Nat) : OnlyS S w (w'.drewN n) := ⟨h.os, h.tape, h.output, h.size, h.block⟩
theorem OnlyS.alloc {S : Nat → Prop} {w w' : World} (h : OnlyS S w w') (o : Obj) : OnlyS S w (w'.alloc o) := h.trans (.of_below ((Below.refl _ _).alloc (Nat.le_refl _) _))
theorem OnlyS.setCell {S : Nat → Prop} {w w' : World} (h : OnlyS S w w') {p : Addr} (hp : S p.block) (v : Value) : OnlyS S w (w'.setCell p v) :=
  h.trans ⟨rfl, rfl, rfl, by simp [World.setCell], fun k _ hs => Below.heap_setCell _ _ _ _ (fun e => hs (by rw [e]; exact hp))⟩
theorem OnlyS.mono {S T : Nat → Prop} {w w' : World} (h : OnlyS S w w') (hst : ∀ k, k < w.heap.size → S k → T k) : OnlyS T w w' := ⟨h.os, h.tape, h.output, h.size, fun k hk ht => h.block k hk (fun hs => ht (hst k hk hs))⟩
theorem OnlyS.below {S : Nat → Prop} {w w' : World} {B : Nat} (h : OnlyS S w w') (hB : B ≤ w.heap.size) (hS : ∀ k, S k → B ≤ k) : Below B w w' := ⟨h.os, h.tape, h.output, h.size, fun k hk => h.block k (by omega) (fun hs => by have := hS k hs; omega)⟩
/-- First one step that leaves all as it was, then others. -/
theorem OnlyS.after {S : Nat → Prop} {u v w : World} (h : Below u.heap.size u v) (k : OnlyS S v w) : OnlyS S u w := (OnlyS.of_below h).trans k
theorem OnlyS.cell {S : Nat → Prop} {w w' : World} (h : OnlyS S w w') {a : Addr} {v : Value} (hc : w.cell? a = some v) (hs : ¬ S a.block) : w'.cell? a = some v := by
  rw [World.cell?_of_block (w := w) (h.block a.block (cell_block hc) hs)]
  exact hc
theorem OnlyS.frozen {S : Nat → Prop} {w w' : World} (h : OnlyS S w w') {a : Addr} (ha : a.block < w.heap.size) (hs : ¬ S a.block) : w'.frozen? a = w.frozen? a := World.frozen?_of_block (w := w) (h.block a.block ha hs)
theorem OnlyS.thenS {S T : Nat → Prop} {u v w : World} (h : OnlyS S u v) (k : OnlyS T v w) (hst : ∀ x, x < u.heap.size → T x → S x) : OnlyS S u w :=
  ⟨k.os.trans h.os, k.tape.trans h.tape, k.output.trans h.output, Nat.le_trans h.size k.size, fun i hi hs => (k.block i (Nat.lt_of_lt_of_le hi h.size) fun ht => hs (hst i hi ht)).trans (h.block i hi hs)⟩
theorem OnlyS.row {S : Nat → Prop} {w w' : World} (o : OnlyS S w w') {g : Nat} {x : Obj} (h : w.heap[g]? = some x) (hs : ¬ S g) : w'.heap[g]? = some x := (o.block g (Array.getElem?_eq_some_iff.1 h).1 hs).trans h
theorem setCell_at (w : World) (g i : Nat) {c : Array Value} {t : TypeId} (v : Value) (h : w.heap[g]? = some (.cells c t (0, 0))) (hi : i < c.size) : (w.setCell ⟨g, i, none⟩ v).cell? ⟨g, i, none⟩ = some v := by
  rw [cell_of_row _ g i _ _ _ (heap_setCell_same w g i _ _ v h)]
  simp [hi]
theorem setCell_ne (w : World) (g i j : Nat) {c : Array Value} {t : TypeId} (v : Value) (h : w.heap[g]? = some (.cells c t (0, 0))) (hij : j ≠ i) : (w.setCell ⟨g, i, none⟩ v).cell? ⟨g, j, none⟩ = w.cell? ⟨g, j, none⟩ := by
  rw [cell_of_row _ g j _ _ _ (heap_setCell_same w g i _ _ v h), cell_of_row _ g j _ _ _ h]
  simp [Ne.symm hij]
theorem cell_other (w : World) {g x : Nat} (h : g ≠ x) (i j : Nat) (v : Value) : (w.setCell ⟨x, i, none⟩ v).cell? ⟨g, j, none⟩ = w.cell? ⟨g, j, none⟩ := World.cell?_of_block (w := w) (a := ⟨g, j, none⟩) (Below.heap_setCell _ _ _ _ h)

end Go.Proofs.Ytopklnehhebhmaa

/- Memory: rows of numbers and of events, boxes, worlds that differ in a block. No function of the program. -/
namespace Go.Proofs.Ytopklnehhebhmaa
open Go.RowKit

def evV (e : Ev) : Value := .agg #[.int .i64 e.thread, .int .i64 e.kind, .int .i64 e.obj, .bool e.fail]

theorem below_set4 {B g : Nat} {a w : World} (h : Below B a w) (hg : B ≤ g) (v0 v1 v2 v3 : Value) : Below B a ((((w.setCell ⟨g, 0, none⟩ v0).setCell ⟨g, 1, none⟩ v1).setCell ⟨g, 2, none⟩ v2).setCell ⟨g, 3, none⟩ v3) :=
  (((h.setCell (p := ⟨g, 0, none⟩) hg _).setCell (p := ⟨g, 1, none⟩) hg _).setCell (p := ⟨g, 2, none⟩) hg _).setCell (p := ⟨g, 3, none⟩) hg _

theorem evV_mk (t k o : Int) (f : Bool) : evV ⟨t, k, o, f⟩ = .agg #[.int .i64 t, .int .i64 k, .int .i64 o, .bool f] := rfl

/-- A row of numbers of the call's own. -/
def OwnN (w : World) (B : Nat) (v : Value) (ns : List Int) : Prop := w.ownsRow B 3 1 v ns.length (ns.map (Value.int .i64))
theorem OwnN.alloc {w : World} {B : Nat} {v : Value} {l : List Int} (h : OwnN w B v l) (o : Obj) : OwnN (w.alloc o) B v l := World.ownsRow.alloc h o
theorem ownN_nil (w : World) (B : Nat) : OwnN w B (.slice none 0 0) [] := World.ownsRow_nil w B _ _
theorem OwnN.later {w w' : World} {B : Nat} {v : Value} {l : List Int} (h : OwnN w B v l) (hb : Below w.heap.size w w') : OwnN w' B v l := ownsRow_later h hb

theorem nums_new (w : World) (ms : List Int) (t : TypeId) (g : Nat) (hg : g = w.heap.size) : ∀ j u, (ms.map (Value.int .i64))[j]? = some u → (w.alloc (.cells (ms.map (Value.int .i64)).toArray t)).cell? (Addr.add ⟨g, 0, none⟩ j) = some u := by
  subst hg
  intro j u hj
  have e : Addr.add ⟨w.heap.size, 0, none⟩ j = ⟨w.heap.size, j, none⟩ := by
    unfold Addr.add
    split
    · rename_i h0; subst h0; rfl
    · simp
  rw [e, World.cell?_alloc_new]
  simpa using hj

theorem wp_appendN {w : World} {ops : Array Oper} {rest : List Oper} {o : Oper} {a : Act} {Q : Exit → Act → World → Prop} (hgd : o.guard = none) (s x : Operand)
    (ho : o.op = .call { callee := .builtin .append, args := #[s, x], argTypes := #[110, 110] }) (B : Nat) (v : Value) (ns : List Int) (hs : a.eval s = v) (hown : OwnN w B v ns)
    (ad : Addr) (m c : Nat) (hx : a.eval x = .slice (some ad) m c) (ms : List Int) (hm : ms.length = m) (hnews : ∀ j u, (ms.map (Value.int .i64))[j]? = some u → w.cell? (ad.add j) = some u)
    (hlen : ns.length + m ≤ 1000000000) (hB : B ≤ w.heap.size)
    (h : ∀ v' w', OwnN w' B v' (ns ++ ms) → Below B w w' → w.grownBy w' v.ownBlock → wpList Try.prog ops Q rest (a.put o.dst v') w') : wpList Try.prog ops Q (o :: rest) a w := by
  have hinfo : (Try.prog.info? 3).map (fun i => (i.zero, i.size, i.bytes)) = some (some (.int .i64 0), 1, 8) := by kernel_rfl
  obtain ⟨i, hi, hzz⟩ := Option.map_eq_some_iff.1 hinfo
  simp only [Prod.mk.injEq] at hzz
  obtain ⟨hz, hsz, hby⟩ := hzz
  refine wpList_append_own w hgd s x 110 ho B 3 i (.int .i64 0) 1 8 Try.underlying110 hi hz hsz hby rfl (by decide) v ns.length (ns.map (Value.int .i64)) hs hown ad m c (ms.map (Value.int .i64)) hx (by simp [hm]) hnews
    (by intro u hu; obtain ⟨y, _, rfl⟩ := List.mem_map.1 hu; rfl) (by unfold maxLen; omega) (by omega) hB ?_
  intro v' w' h1 h2 _
  refine h v' w' ?_ ((Below.refl B w).grown h2 hB (fun k hk => (World.ownsRow.lt hown k hk).1)) h2
  unfold OwnN
  rw [List.length_append, List.map_append, hm]
  exact h1

/-- From the place a on lie, in w, the numbers ns. -/
def NumsAt (w : World) (a : Option Addr) (ns : List Int) : Prop :=
  ns.length ≤ maxLen ∧ (ns ≠ [] → ∃ b o, a = some ⟨b, o, none⟩ ∧ ∀ i (h : i < ns.length), w.cell? ⟨b, o + i, none⟩ = some (.int .i64 ns[i]))

theorem NumsAt.later {w w' : World} {a : Option Addr} {ns : List Int} (h : NumsAt w a ns) (hb : Below w.heap.size w w') : NumsAt w' a ns := by
  refine ⟨h.1, fun hn => ?_⟩
  obtain ⟨b, o, rfl, hc⟩ := h.2 hn
  exact ⟨b, o, rfl, fun i hi => cell_later hb (hc i hi)⟩

theorem OwnN.form {w : World} {B : Nat} {v : Value} {ns : List Int} (h : OwnN w B v ns) (hm : ns.length ≤ 1000000) : ∃ a cap, v = .slice a ns.length cap ∧ NumsAt w a ns ∧ (a = none → cap = 0) := by
  obtain ⟨h1, ⟨h2, h3⟩ | ⟨g, cap, cur, h2, h3, h4, h5, h6, h7, h8⟩⟩ := h
  · have e : ns = [] := List.eq_nil_of_length_eq_zero h3
    subst e
    exact ⟨none, 0, h2, ⟨by simp [maxLen], fun h => absurd rfl h⟩, fun _ => rfl⟩
  · refine ⟨some ⟨g, 0, none⟩, cap, h2, ⟨by unfold maxLen; omega, fun _ => ⟨g, 0, rfl, fun i hi => ?_⟩⟩, by simp⟩
    have hj : (ns.map (Value.int .i64))[i]? = some (.int .i64 ns[i]) := by simp [hi]
    rw [← h8, List.getElem?_take_of_lt (by omega)] at hj
    simp [World.cell?, h4]
    simpa using hj

set_option maxRecDepth 100000 in
theorem run_equal_ev (e e' : Ev) (w : World) :
    (Op.equalIn 10000 73 (.agg #[.int .i64 e.thread, .int .i64 e.kind, .int .i64 e.obj, .bool e.fail]) (.agg #[.int .i64 e'.thread, .int .i64 e'.kind, .int .i64 e'.obj, .bool e'.fail])).run Try.prog w = .ok (decide (e = e')) w := by
  have hd : decide (e = e') = ((e.thread == e'.thread) && ((e.kind == e'.kind) && ((e.obj == e'.obj) && (e.fail == e'.fail)))) := by
    obtain ⟨a, b, c, d⟩ := e
    obtain ⟨a', b', c', d'⟩ := e'
    rw [Bool.eq_iff_iff]
    simp
  rw [hd]
  obtain ⟨a, b, c, d⟩ := e
  obtain ⟨a', b', c', d'⟩ := e'
  dsimp only
  clear hd
  have ht : Try.prog.underlying 73 = some (.struct (Try.prog.fieldsOf 73)) := by kernel_rfl
  have hp : Try.prog.stoodInHeld 73 = false := by kernel_rfl
  rw [run_equalIn_agg (P := Try.prog) w 9999 _ _ _ ht hp]
  unfold Program.fieldsOf
  rw [Try.underlying73]
  dsimp only
  rw [run_eqFields_consI (P := Try.prog) w 9998 _ _ _ _ .i64 .i64 a a' (by simp) Try.underlying3 rfl rfl]
  rw [run_eqFields_consI (P := Try.prog) w 9998 _ _ _ _ .i64 .i64 b b' (by simp) Try.underlying3 rfl rfl]
  rw [run_eqFields_consI (P := Try.prog) w 9998 _ _ _ _ .i64 .i64 c c' (by simp) Try.underlying3 rfl rfl]
  rw [run_eqFields_consB (P := Try.prog) w 9998 _ _ _ _ d d' (by simp) Try.underlying4 rfl rfl]
  rw [Op.eqFields]
  cases (a == a') <;> cases (b == b') <;> cases (c == c') <;> cases (d == d') <;> simp

/-- An event in a box. -/
def EvBox (w : World) (g : Nat) (e : Ev) : Prop := w.heap[g]? = some (.cells #[.int .i64 e.thread, .int .i64 e.kind, .int .i64 e.obj, .bool e.fail] 73 (0, 0))
theorem EvBox.lt {w : World} {g : Nat} {e : Ev} (h : EvBox w g e) : g < w.heap.size := (Array.getElem?_eq_some_iff.1 h).1
theorem EvBox.only {w w' : World} {b g : Nat} {e : Ev} (h : EvBox w g e) (ho : Only b w w') (hb : g ≠ b) : EvBox w' g e := (ho.block g h.lt hb).trans h
theorem EvBox.later {w w' : World} {g : Nat} {e : Ev} (h : EvBox w g e) (hb : Below w.heap.size w w') : EvBox w' g e := (hb.block g h.lt).trans h
theorem EvBox.new (w : World) (e : Ev) : EvBox (w.alloc (.cells #[.int .i64 e.thread, .int .i64 e.kind, .int .i64 e.obj, .bool e.fail] 73)) w.heap.size e := heap_alloc_new w _
theorem EvBox.cells {w : World} {g : Nat} {e : Ev} (h : EvBox w g e) : w.cell? ⟨g, 0, none⟩ = some (.int .i64 e.thread) ∧ w.cell? ⟨g, 1, none⟩ = some (.int .i64 e.kind) ∧ w.cell? ⟨g, 2, none⟩ = some (.int .i64 e.obj) ∧ w.cell? ⟨g, 3, none⟩ = some (.bool e.fail) := by
  simp [World.cell?, show w.heap[g]? = _ from h]

def evCell (e : Ev) : List Value := [.int .i64 e.thread, .int .i64 e.kind, .int .i64 e.obj, .bool e.fail]
def evCells (l : List Ev) : List Value := l.flatMap evCell
theorem evCells_length (l : List Ev) : (evCells l).length = l.length * 4 := by
  induction l with
  | nil => rfl
  | cons i l ih => simp only [evCells, evCell, List.flatMap_cons, List.length_append, List.length_cons, List.length_nil] at *; omega
theorem evCells_append (a b : List Ev) : evCells (a ++ b) = evCells a ++ evCells b := by simp [evCells]
theorem evCells_get (l : List Ev) (i j : Nat) (h : i < l.length) (hj : j < 4) : (evCells l)[i * 4 + j]? = (evCell l[i])[j]? := by
  induction l generalizing i with
  | nil => simp at h
  | cons x l ih =>
    cases i with
    | zero =>
      simp only [evCells, List.flatMap_cons, Nat.zero_mul, Nat.zero_add, List.getElem_cons_zero]
      rw [List.getElem?_append_left (by simpa [evCell] using hj)]
    | succ i =>
      have := ih i (by simpa using h)
      simp only [evCells, List.flatMap_cons, List.getElem_cons_succ] at *
      rw [List.getElem?_append_right (by simp [evCell]; omega), ← this]
      congr 1
      simp [evCell]
      omega
theorem evCells_one (l : List Ev) : ∀ v ∈ evCells l, v.oneCell' = true := by
  intro v hv
  simp only [evCells, List.mem_flatMap] at hv
  obtain ⟨i, _, hv⟩ := hv
  simp [evCell] at hv
  rcases hv with rfl | rfl | rfl | rfl <;> rfl

/-- A row of events of the call's own. -/
def OwnE (w : World) (B : Nat) (v : Value) (es : List Ev) : Prop := w.ownsRow B 73 4 v es.length (evCells es)
theorem OwnE.alloc {w : World} {B : Nat} {v : Value} {l : List Ev} (h : OwnE w B v l) (o : Obj) : OwnE (w.alloc o) B v l := World.ownsRow.alloc h o
theorem ownE_nil (w : World) (B : Nat) : OwnE w B (.slice none 0 0) [] := World.ownsRow_nil w B _ _
theorem OwnE.later {w w' : World} {B : Nat} {v : Value} {l : List Ev} (h : OwnE w B v l) (hb : Below w.heap.size w w') : OwnE w' B v l := ownsRow_later h hb
theorem OwnE.only {w w' : World} {B g : Nat} {v : Value} {l : List Ev} (h : OwnE w B v l) (ho : Only g w w') (hg : g < B) : OwnE w' B v l := ownsRow_only h ho hg

theorem ev_new (w : World) (e : Ev) (t : TypeId) (g : Nat) (hg : g = w.heap.size) : ∀ j u, (evCells [e])[j]? = some u → (w.alloc (.cells #[.int .i64 e.thread, .int .i64 e.kind, .int .i64 e.obj, .bool e.fail] t)).cell? (Addr.add ⟨g, 0, none⟩ j) = some u := by
  subst hg
  intro j u hj
  have e : Addr.add ⟨w.heap.size, 0, none⟩ j = ⟨w.heap.size, j, none⟩ := by
    unfold Addr.add
    split
    · rename_i h0; subst h0; rfl
    · simp
  rw [e, World.cell?_alloc_new]
  simpa [evCells, evCell] using hj

theorem wp_appendE {w : World} {ops : Array Oper} {rest : List Oper} {o : Oper} {a : Act} {Q : Exit → Act → World → Prop} (hgd : o.guard = none) (s x : Operand)
    (ho : o.op = .call { callee := .builtin .append, args := #[s, x], argTypes := #[63, 63] }) (B : Nat) (v : Value) (es : List Ev) (hs : a.eval s = v) (hown : OwnE w B v es)
    (ad : Addr) (hx : a.eval x = .slice (some ad) 1 1) (e : Ev) (hnews : ∀ j u, (evCells [e])[j]? = some u → w.cell? (ad.add j) = some u)
    (hlen : es.length ≤ 1000000) (hB : B ≤ w.heap.size)
    (h : ∀ v' w', OwnE w' B v' (es ++ [e]) → Below B w w' → wpList Try.prog ops Q rest (a.put o.dst v') w') : wpList Try.prog ops Q (o :: rest) a w := by
  have hinfo : (Try.prog.info? 73).map (fun i => (i.zero, i.size, i.bytes)) = some (some (.agg #[.int .i64 0, .int .i64 0, .int .i64 0, .bool false]), 4, 32) := by kernel_rfl
  obtain ⟨t, hi, hzz⟩ := Option.map_eq_some_iff.1 hinfo
  simp only [Prod.mk.injEq] at hzz
  obtain ⟨hz, hsz, hby⟩ := hzz
  refine wpList_append_own w hgd s x 63 ho B 73 t (.agg #[.int .i64 0, .int .i64 0, .int .i64 0, .bool false]) 4 32 Try.underlying63 hi hz hsz hby rfl (by decide) v es.length (evCells es) hs hown ad 1 1 (evCells [e]) hx rfl hnews
    (evCells_one _) (by unfold maxLen; omega) (by omega) hB ?_
  intro v' w' h1 h2 _
  refine h v' w' ?_ ((Below.refl B w).grown h2 hB (fun k hk => (World.ownsRow.lt hown k hk).1))
  unfold OwnE
  rw [List.length_append, evCells_append]
  exact h1

/-- From the place a on lie, in w, the events es. -/
def EvsAt (w : World) (a : Option Addr) (es : List Ev) : Prop :=
  es.length ≤ maxLen ∧ (es ≠ [] → ∃ b o, a = some ⟨b, o, none⟩ ∧ ∀ i (h : i < es.length), w.cell? ⟨b, o + i * 4, none⟩ = some (.int .i64 es[i].thread) ∧ w.cell? ⟨b, o + i * 4 + 1, none⟩ = some (.int .i64 es[i].kind) ∧
    w.cell? ⟨b, o + i * 4 + 2, none⟩ = some (.int .i64 es[i].obj) ∧ w.cell? ⟨b, o + i * 4 + 3, none⟩ = some (.bool es[i].fail))
theorem EvsAt.later {w w' : World} {a : Option Addr} {es : List Ev} (h : EvsAt w a es) (hb : Below w.heap.size w w') : EvsAt w' a es := by
  refine ⟨h.1, fun hn => ?_⟩
  obtain ⟨b, o, rfl, hc⟩ := h.2 hn
  refine ⟨b, o, rfl, fun i hi => ?_⟩
  obtain ⟨h0, h1, h2, h3⟩ := hc i hi
  exact ⟨cell_later hb h0, cell_later hb h1, cell_later hb h2, cell_later hb h3⟩
theorem evsAt_nil (w : World) (a : Option Addr) : EvsAt w a [] := ⟨by simp [maxLen], fun h => absurd rfl h⟩

theorem OwnE.form {w : World} {B : Nat} {v : Value} {es : List Ev} (h : OwnE w B v es) (hm : es.length ≤ 1000000) : ∃ a cap, v = .slice a es.length cap ∧ EvsAt w a es := by
  obtain ⟨h1, ⟨h2, h3⟩ | ⟨g, cap, cur, h2, h3, h4, h5, h6, h7, h8⟩⟩ := h
  · have e : es = [] := List.eq_nil_of_length_eq_zero h3
    subst e
    exact ⟨none, 0, h2, evsAt_nil _ _⟩
  · have hcell : ∀ j u, (evCells es)[j]? = some u → w.cell? ⟨g, j, none⟩ = some u := by
      intro j u hj
      have hjl : j < es.length * 4 := by
        have := (List.getElem?_eq_some_iff.1 hj).1
        rw [evCells_length] at this
        exact this
      rw [← h8, List.getElem?_take_of_lt (by omega)] at hj
      simp [World.cell?, h4]
      simpa using hj
    refine ⟨some ⟨g, 0, none⟩, cap, h2, ⟨by unfold maxLen; omega, fun _ => ⟨g, 0, rfl, fun i hi => ?_⟩⟩⟩
    simp only [Nat.zero_add]
    exact ⟨hcell _ _ (evCells_get es i 0 hi (by omega)), hcell _ _ (evCells_get es i 1 hi (by omega)), hcell _ _ (evCells_get es i 2 hi (by omega)), hcell _ _ (evCells_get es i 3 hi (by omega))⟩


end Go.Proofs.Ytopklnehhebhmaa

/- An event in a box of its own. -/
namespace Go.Proofs.Ytopklnehhebhmaa
open Go.RowKit

end Go.Proofs.Ytopklnehhebhmaa

/- The contracts of event's below, ofVariable, ofMutex, Depends, Right, toByte, fromByte, and of the document's Depends, Right, Byte. -/
namespace Go.Proofs.Ytopklnehhebhmaa
open Go.RowKit

theorem eBelow_any (n e : Int) (w : World) : Calls Try.prog 78 #[.int .i64 n, .int .i64 e] w fun r w' => r = .returned (.bool (belowB n e)) ∧ w = w' := by
  go_enter Try.func78, Try.ntmps78
  go_wp2
  all_goals
    go_ret
    refine ⟨ret_bool ?_, rfl⟩
    simp [belowB]
    try omega

theorem ofVariable_any (e : Ev) (w : World) : Calls Try.prog 88 #[.agg #[.int .i64 e.thread, .int .i64 e.kind, .int .i64 e.obj, .bool e.fail]] w fun r w' => r = .returned (.bool (memE e)) ∧ Below w.heap.size w w' := by
  obtain ⟨t, k, o, f⟩ := e
  dsimp only
  go_enter Try.func88, Try.ntmps88
  go_wp2
  all_goals
    go_ret
    refine ⟨ret_bool ?_, below_alloc1 _ _⟩
    rw [Bool.eq_iff_iff]
    simp [memE]
    try omega

theorem ofMutex_any (e : Ev) (w : World) : Calls Try.prog 89 #[.agg #[.int .i64 e.thread, .int .i64 e.kind, .int .i64 e.obj, .bool e.fail]] w fun r w' => r = .returned (.bool (mutE e)) ∧ Below w.heap.size w w' := by
  obtain ⟨t, k, o, f⟩ := e
  dsimp only
  go_enter Try.func89, Try.ntmps89
  go_wp2
  all_goals
    go_ret
    refine ⟨ret_bool ?_, below_alloc1 _ _⟩
    rw [Bool.eq_iff_iff]
    simp [mutE]
    try omega

set_option maxRecDepth 100000 in
set_option maxHeartbeats 1000000 in
theorem evRight_any (e : Ev) (w : World) : Calls Try.prog 70 #[.agg #[.int .i64 e.thread, .int .i64 e.kind, .int .i64 e.obj, .bool e.fail]] w fun r w' => r = .returned (.bool (rightEv e)) ∧ Below w.heap.size w w' := by
  obtain ⟨t, k, o, f⟩ := e
  dsimp only
  go_enter Try.func70, Try.ntmps70
  go_wp2_with (go_at_call 78; refine (eBelow_any _ _ _).mono ?_; rintro r w' ⟨rfl, rfl⟩)
  all_goals
    go_ret
    refine ⟨ret_bool ?_, below_alloc1 _ _⟩
    simp [belowB] at *
    rw [Bool.eq_iff_iff]
    simp [rightEv, *]
    try (first | omega | (cases f <;> simp <;> omega))

set_option maxRecDepth 100000 in
set_option maxHeartbeats 1000000 in
theorem refEvRight_any (e : Ev) (w : World) : Calls Try.prog 38 #[.agg #[.int .i64 e.thread, .int .i64 e.kind, .int .i64 e.obj, .bool e.fail]] w fun r w' => r = .returned (.bool (rightEv e)) ∧ Below w.heap.size w w' := by
  obtain ⟨t, k, o, f⟩ := e
  dsimp only
  go_enter Try.func38, Try.ntmps38
  go_wp2
  all_goals
    go_ret
    refine ⟨ret_bool ?_, below_alloc1 _ _⟩
    simp at *
    rw [Bool.eq_iff_iff]
    simp [rightEv, *]
    try (first | omega | (cases f <;> simp <;> omega))

theorem two_boxes (e f : Ev) (w : World) : EvBox ((w.alloc (.cells #[.int .i64 e.thread, .int .i64 e.kind, .int .i64 e.obj, .bool e.fail] 73)).alloc (.cells #[.int .i64 f.thread, .int .i64 f.kind, .int .i64 f.obj, .bool f.fail] 73)) w.heap.size e ∧ EvBox ((w.alloc (.cells #[.int .i64 e.thread, .int .i64 e.kind, .int .i64 e.obj, .bool e.fail] 73)).alloc (.cells #[.int .i64 f.thread, .int .i64 f.kind, .int .i64 f.obj, .bool f.fail] 73)) (w.heap.size + 1) f :=
  ⟨heap_alloc2_old w _ _, heap_alloc2_new w _ _⟩

set_option maxRecDepth 100000 in
set_option maxHeartbeats 1000000 in
theorem depends_any (e f : Ev) (w : World) : Calls Try.prog 82 #[.agg #[.int .i64 e.thread, .int .i64 e.kind, .int .i64 e.obj, .bool e.fail], .agg #[.int .i64 f.thread, .int .i64 f.kind, .int .i64 f.obj, .bool f.fail]] w fun r w' => r = .returned (.bool (dep e f)) ∧ Below w.heap.size w w' := by
  obtain ⟨he, hf⟩ := two_boxes e f w
  have HE := Lib.hid he
  have HF := Lib.hid hf
  have hb0 := below_alloc2 w (.cells #[.int .i64 e.thread, .int .i64 e.kind, .int .i64 e.obj, .bool e.fail] 73) (.cells #[.int .i64 f.thread, .int .i64 f.kind, .int .i64 f.obj, .bool f.fail] 73)
  clear he hf
  by_cases h1 : e.thread = f.thread
  · have HD : Hid (dep e f = true) := by show _ = _; simp [dep, h1]
    have q1 : (e.thread == f.thread) = true := by simp [h1]
    clear h1 HE HF
    go_enter Try.func82, Try.ntmps82
    go_wp2
    go_ret
    exact ⟨ret_bool HD.out.symm, hb0⟩
  by_cases h2 : e.obj = f.obj
  case neg =>
    have HD : Hid (dep e f = false) := by show _ = _; simp [dep, h1, h2]
    have q1 : (e.thread == f.thread) = false := by simp [h1]
    have q2 : (e.obj != f.obj) = true := by simp [h2]
    clear h1 h2 HE HF
    go_enter Try.func82, Try.ntmps82
    go_wp2
    go_ret
    exact ⟨ret_bool HD.out.symm, hb0⟩
  have q1 : (e.thread == f.thread) = false := by simp [h1]
  have q2 : (e.obj != f.obj) = false := by simp [h2]
  have HT := Lib.hid h1
  have HO := Lib.hid h2
  clear h1 h2
  go_enter Try.func82, Try.ntmps82
  go_wp2_with fail
  generalize (w.alloc (.cells #[.int .i64 e.thread, .int .i64 e.kind, .int .i64 e.obj, .bool e.fail] 73)).alloc (.cells #[.int .i64 f.thread, .int .i64 f.kind, .int .i64 f.obj, .bool f.fail] 73) = W0 at *
  refine (ofVariable_any e _).mono ?_
  rintro r w1 ⟨rfl, hb1⟩
  have HE1 := Lib.hid (HE.out.later hb1)
  have HF1 := Lib.hid (HF.out.later hb1)
  have hw1 : Below w.heap.size w w1 := hb0.trans (hb1.mono hb0.size)
  clear HE HF hb0 hb1
  obtain ⟨e0, e1, e2, e3⟩ := HE1.out.cells
  obtain ⟨f0, f1, f2, f3⟩ := HF1.out.cells
  have le := HE1.out.lt
  have lf := HF1.out.lt
  generalize hm : memE e = m
  cases m
  · go_wp2_with fail
    refine (ofMutex_any e _).mono ?_
    rintro r w2 ⟨rfl, hb2⟩
    have hw2 : Below w.heap.size w w2 := hw1.trans (hb2.mono hw1.size)
    have g0 := cell_later hb2 f0
    have g1 := cell_later hb2 f1
    have g2 := cell_later hb2 f2
    have g3 := cell_later hb2 f3
    have lg := Nat.lt_of_lt_of_le lf hb2.size
    generalize hx : mutE e = x
    cases x
    · go_wp2
      go_ret
      refine ⟨ret_bool ?_, hw2⟩
      unfold memE at hm
      unfold mutE at hx
      simp at hm hx
      simp [dep, HT.out, HO.out, hm, hx]
    · clear e0 e1 e2 e3 f0 f1 f2 f3 le lf hb2
      go_wp2_with fail
      refine (ofMutex_any f _).mono ?_
      rintro r w3 ⟨rfl, hb3⟩
      have hw3 : Below w.heap.size w w3 := hw2.trans (hb3.mono hw2.size)
      go_wp2
      go_ret
      refine ⟨ret_bool ?_, hw3⟩
      unfold memE at hm
      unfold mutE at hx ⊢
      simp at hm hx
      simp [dep, HT.out, HO.out, hm, hx]
  · go_wp2_with fail
    refine (ofVariable_any f _).mono ?_
    rintro r w2 ⟨rfl, hb2⟩
    have hw2 : Below w.heap.size w w2 := hw1.trans (hb2.mono hw1.size)
    have d0 := cell_later hb2 e0
    have d1 := cell_later hb2 e1
    have d2 := cell_later hb2 e2
    have d3 := cell_later hb2 e3
    have ld := Nat.lt_of_lt_of_le le hb2.size
    have g0 := cell_later hb2 f0
    have g1 := cell_later hb2 f1
    have g2 := cell_later hb2 f2
    have g3 := cell_later hb2 f3
    have lg := Nat.lt_of_lt_of_le lf hb2.size
    clear e0 e1 e2 e3 f0 f1 f2 f3 le lf hb2
    generalize hx : memE f = x
    cases x
    · go_wp2_with fail
      refine (ofMutex_any e _).mono ?_
      rintro r w3 ⟨rfl, hb3⟩
      have hx3 : mutE e = false := by
        unfold memE at hm
        unfold mutE
        simp at hm ⊢
        omega
      rw [hx3]
      have hw3 : Below w.heap.size w w3 := hw2.trans (hb3.mono hw2.size)
      go_wp2
      go_ret
      refine ⟨ret_bool ?_, hw3⟩
      unfold memE at hm hx
      unfold mutE at hx3
      simp at hm hx hx3
      simp [dep, HT.out, HO.out, hm, hx, hx3]
    · go_wp2
      all_goals
        go_ret
        refine ⟨ret_bool ?_, hw2⟩
        unfold memE at hm hx
        simp at *
        rw [Bool.eq_iff_iff]
        simp [dep, HT.out, HO.out, *]
        try omega

set_option maxRecDepth 100000 in
set_option maxHeartbeats 1000000 in
theorem refDepends_any (e f : Ev) (w : World) : Calls Try.prog 76 #[.agg #[.int .i64 e.thread, .int .i64 e.kind, .int .i64 e.obj, .bool e.fail], .agg #[.int .i64 f.thread, .int .i64 f.kind, .int .i64 f.obj, .bool f.fail]] w fun r w' => r = .returned (.bool (dep e f)) ∧ Below w.heap.size w w' := by
  go_enter Try.func76, Try.ntmps76
  go_wp2
  all_goals
    go_ret
    refine ⟨ret_bool ?_, below_alloc2 _ _ _⟩
    simp at *
    rw [Bool.eq_iff_iff]
    simp [dep, *]
    try omega

end Go.Proofs.Ytopklnehhebhmaa

/- The contracts of event's toByte, fromByte, and of the document's Byte. -/
namespace Go.Proofs.Ytopklnehhebhmaa
open Go.RowKit

set_option maxRecDepth 100000 in
set_option maxHeartbeats 1000000 in
theorem toByte_any (e : Ev) (h : rightEv e = true) (w : World) : Calls Try.prog 85 #[.agg #[.int .i64 e.thread, .int .i64 e.kind, .int .i64 e.obj, .bool e.fail]] w fun r w' => r = .returned (.int .u8 (evB e)) ∧ Below w.heap.size w w' := by
  have bd := rightEv_bd h
  clear h
  obtain ⟨t, k, o, f⟩ := e
  dsimp only at bd ⊢
  obtain ⟨b0, b1, b2, b3, b4, b5⟩ := bd
  unfold evB
  cases f
  · go_enter Try.func85, Try.ntmps85
    go_wp2
    go_ret
    refine ⟨?_, below_alloc1 _ _⟩
    simp
  · go_enter Try.func85, Try.ntmps85
    go_wp2
    go_ret
    refine ⟨?_, below_alloc1 _ _⟩
    simp

set_option maxRecDepth 100000 in
set_option maxHeartbeats 1000000 in
theorem refByte_any (e : Ev) (h : rightEv e = true) (w : World) : Calls Try.prog 62 #[.agg #[.int .i64 e.thread, .int .i64 e.kind, .int .i64 e.obj, .bool e.fail]] w fun r w' => r = .returned (.int .i64 (evB e)) ∧ Below w.heap.size w w' := by
  have bd := rightEv_bd h
  clear h
  obtain ⟨t, k, o, f⟩ := e
  dsimp only at bd ⊢
  obtain ⟨b0, b1, b2, b3, b4, b5⟩ := bd
  unfold evB
  cases f
  · go_enter Try.func62, Try.ntmps62
    go_wp2
    go_ret
    refine ⟨?_, below_alloc1 _ _⟩
    simp
  · go_enter Try.func62, Try.ntmps62
    go_wp2
    go_ret
    refine ⟨?_, below_alloc1 _ _⟩
    simp


set_option maxRecDepth 100000 in
set_option maxHeartbeats 1000000 in
theorem fromByte_any (n : Int) (h0 : 0 ≤ n) (h1 : n < 256) (w : World) : Calls Try.prog 69 #[.int .u8 n] w fun r w' => r = .returned (.agg #[.int .i64 (evOf n).thread, .int .i64 (evOf n).kind, .int .i64 (evOf n).obj, .bool (evOf n).fail]) ∧ Below w.heap.size w w' := by
  have hw : IntKind.i64.wrap n = n := IntWalk.i64_in (by omega) (by omega)
  go_enter Try.func69, Try.ntmps69
  go_wp2
  exact bodyPost_ret (v := .agg #[.int .i64 (evOf n).thread, .int .i64 (evOf n).kind, .int .i64 (evOf n).obj, .bool (evOf n).fail]) (by
    simp [results, Try.results69, go_sem]
    simp only [evOf]
    exact ⟨trivial, by omega, by omega, trivial⟩) rfl ⟨rfl, below_alloc1 _ _⟩

end Go.Proofs.Ytopklnehhebhmaa

/- Numbers as bytes, and as a text. -/
namespace Go.Proofs.Ytopklnehhebhmaa
open Go.RowKit

/-- Numbers as a text. -/
def bstr (ns : List Int) : ByteArray := ⟨(ns.map fun n => UInt8.ofNat n.toNat).toArray⟩

theorem foldl_bstr (ns : List Int) (s : ByteArray) : ns.foldl (fun r n => r.push (UInt8.ofNat n.toNat)) s = ⟨s.data ++ (ns.map fun n => UInt8.ofNat n.toNat).toArray⟩ := by
  induction ns generalizing s with
  | nil => simp
  | cons n ns ih =>
    rw [List.foldl_cons, ih]
    simp [ByteArray.push]

/-- A row of bytes of the call's own. -/
def OwnB (w : World) (B : Nat) (v : Value) (ns : List Int) : Prop := w.ownsRow B 5 1 v ns.length (ns.map (Value.int .u8))

theorem OwnB.alloc {w : World} {B : Nat} {v : Value} {ns : List Int} (h : OwnB w B v ns) (o : Obj) : OwnB (w.alloc o) B v ns := World.ownsRow.alloc h o

theorem ownB_made (w : World) (B : Nat) (hB : B ≤ w.heap.size) (ns : List Int) (hm : ns.length ≤ maxLen) : OwnB (w.alloc (.cells (ns.map (Value.int .u8)).toArray 5)) B (.slice (some ⟨w.heap.size, 0, none⟩) ns.length ns.length) ns := by
  refine ⟨by simp, .inr ⟨w.heap.size, ns.length, (ns.map (Value.int .u8)).toArray, rfl, hB, (MapKept.heap_alloc w _).1, Nat.le_refl _, hm, by simp, ?_⟩⟩
  rw [List.take_of_length_le (by simp)]

theorem OwnB.slice {w : World} {B : Nat} {v : Value} {ns : List Int} (h : OwnB w B v ns) (hn : ns ≠ []) : ∃ g cap, v = .slice (some ⟨g, 0, none⟩) ns.length cap ∧ ∀ j u, (ns.map (Value.int .u8))[j]? = some u → w.cell? (Addr.add ⟨g, 0, none⟩ j) = some u := by
  obtain ⟨h1, h2 | ⟨g, cap, cur, h2, h3, h4, h5, h6, h7, h8⟩⟩ := h
  · exact absurd (List.eq_nil_of_length_eq_zero h2.2) hn
  · refine ⟨g, cap, h2, ?_⟩
    exact World.ownsRow.cells (base := B) (e := 5) (size := 1) ⟨h1, .inr ⟨g, cap, cur, h2, h3, h4, h5, h6, h7, h8⟩⟩ (by rw [h2]; rfl)

theorem run_bstr {w : World} {B : Nat} {v : Value} {ns : List Int} (h : OwnB w B v ns) (hn : ns ≠ []) : (convert 39 9 v).run Try.prog w = .ok (.string (bstr ns)) w := by
  obtain ⟨g, cap, rfl, hc⟩ := h.slice hn
  rw [run_convert_bytes_string w _ _ 5 _ _ _ Try.underlying39 Try.underlying5 Try.underlying9]
  have hl := run_loadCells_list (P := Try.prog) w ⟨g, 0, none⟩ (ns.map (Value.int .u8)) hc
  rw [List.length_map] at hl
  rw [run_bytesToString w _ _ _ ns hl, foldl_bstr]
  have e : ByteArray.empty.data = #[] := rfl
  rw [e, Array.empty_append]
  rfl

theorem bytes_new (w : World) (ms : List Int) (t : TypeId) (g : Nat) (hg : g = w.heap.size) : ∀ j u, (ms.map (Value.int .u8))[j]? = some u → (w.alloc (.cells (ms.map (Value.int .u8)).toArray t)).cell? (Addr.add ⟨g, 0, none⟩ j) = some u := by
  subst hg
  intro j u hj
  have e : Addr.add ⟨w.heap.size, 0, none⟩ j = ⟨w.heap.size, j, none⟩ := by
    unfold Addr.add
    split
    · rename_i h0; subst h0; rfl
    · simp
  rw [e, World.cell?_alloc_new]
  simpa using hj

theorem wp_appendB {w : World} {ops : Array Oper} {rest : List Oper} {o : Oper} {a : Act} {Q : Exit → Act → World → Prop} (hgd : o.guard = none) (s x : Operand)
    (ho : o.op = .call { callee := .builtin .append, args := #[s, x], argTypes := #[39, 39] }) (B : Nat) (v : Value) (ns : List Int) (hs : a.eval s = v) (hown : OwnB w B v ns)
    (ad : Addr) (m c : Nat) (hx : a.eval x = .slice (some ad) m c) (ms : List Int) (hm : ms.length = m) (hnews : ∀ j u, (ms.map (Value.int .u8))[j]? = some u → w.cell? (ad.add j) = some u)
    (hlen : ns.length + m ≤ 1000000000) (hB : B ≤ w.heap.size)
    (h : ∀ v' w', OwnB w' B v' (ns ++ ms) → Below B w w' → wpList Try.prog ops Q rest (a.put o.dst v') w') : wpList Try.prog ops Q (o :: rest) a w := by
  have hinfo : (Try.prog.info? 5).map (fun i => (i.zero, i.size, i.bytes)) = some (some (.int .u8 0), 1, 1) := by kernel_rfl
  obtain ⟨i, hi, hzz⟩ := Option.map_eq_some_iff.1 hinfo
  simp only [Prod.mk.injEq] at hzz
  obtain ⟨hz, hsz, hby⟩ := hzz
  refine wpList_append_own w hgd s x 39 ho B 5 i (.int .u8 0) 1 1 Try.underlying39 hi hz hsz hby rfl (by decide) v ns.length (ns.map (Value.int .u8)) hs hown ad m c (ms.map (Value.int .u8)) hx (by simp [hm]) hnews
    (by intro u hu; obtain ⟨y, _, rfl⟩ := List.mem_map.1 hu; rfl) (by unfold maxLen; omega) (by omega) hB ?_
  intro v' w' h1 h2 _
  refine h v' w' ?_ ((Below.refl B w).grown h2 hB (fun k hk => (World.ownsRow.lt hown k hk).1))
  unfold OwnB
  rw [List.length_append, List.map_append, hm]
  exact h1

end Go.Proofs.Ytopklnehhebhmaa

/- A row that is made: how its making runs. -/
namespace Go.Proofs.Ytopklnehhebhmaa
open Go.RowKit

theorem run_make_k {P : Program} (t e : TypeId) (z : Value) (k bytes : Nat) (ht : P.underlying t = some (.slice e)) (hinfo : (P.info? e).map (fun i => (i.zero, i.size, i.bytes)) = some (some z, k, bytes))
    (n : Nat) (hbytes : bytes * n ≤ 281474976710656) (h63 : n ≤ 9223372036854775807) (w : World) :
    (Instr.makeSlice t (.int .i64 (n : Int)) (.int .i64 (n : Int))).run P w = .ok (.slice (some ⟨w.heap.size, 0, none⟩) n n) (w.alloc (.cells (madeCells z.cells (n * k)) e)) := by
  obtain ⟨i, hi, hzz⟩ := Option.map_eq_some_iff.1 hinfo
  simp only [Prod.mk.injEq] at hzz
  obtain ⟨hz, hs, hb⟩ := hzz
  have hb' : (i.bytes : Int) * (n : Int) ≤ 281474976710656 := by
    rw [hb, ← Int.natCast_mul]; omega
  have h := run_make (P := P) w t e i z ht hi hz .i64 .i64 n n (by omega) (by omega) hb' (by omega)
  rw [hs] at h
  simpa using h

end Go.Proofs.Ytopklnehhebhmaa

/- A row that the call has made, and fills place by place. -/
namespace Go.Proofs.Ytopklnehhebhmaa
open Go.RowKit

/-- In w the block g is the row xs. -/
def MidAt (w : World) (g : Nat) (t : TypeId) (xs : List Value) : Prop := w.heap[g]? = some (.cells xs.toArray t (0, 0))
theorem MidAt.lt {w : World} {g : Nat} {t : TypeId} {xs : List Value} (h : MidAt w g t xs) : g < w.heap.size := (Array.getElem?_eq_some_iff.1 h).1
theorem MidAt.later {w w' : World} {g : Nat} {t : TypeId} {xs : List Value} (h : MidAt w g t xs) (hb : Below w.heap.size w w') : MidAt w' g t xs := (hb.block g h.lt).trans h
theorem MidAt.cell {w : World} {g : Nat} {t : TypeId} {xs : List Value} (h : MidAt w g t xs) (j : Nat) : w.cell? ⟨g, j, none⟩ = xs[j]? := by
  simp [World.cell?, show w.heap[g]? = _ from h]
theorem MidAt.frozen {w : World} {g : Nat} {t : TypeId} {xs : List Value} (h : MidAt w g t xs) (j : Nat) : w.frozen? ⟨g, j, none⟩ = false := by
  simp [World.frozen?, show w.heap[g]? = _ from h]
theorem MidAt.set {w : World} {g : Nat} {t : TypeId} {xs : List Value} (h : MidAt w g t xs) (j : Nat) (v : Value) : MidAt (w.setCell ⟨g, j, none⟩ v) g t (xs.set j v) := by
  have := heap_setCell_same w g j _ _ v h
  unfold MidAt
  rw [this]
  simp
theorem MidAt.made (w : World) (t : TypeId) (z : Value) (n : Nat) : MidAt (w.alloc (.cells (madeCells #[z] n) t)) w.heap.size t (List.replicate n z) := by
  have := heap_alloc_new w (.cells (madeCells #[z] n) t)
  unfold MidAt
  rw [this]
  simp [madeCells]
  apply Array.ext <;> simp [Nat.mod_one]

/-- The first k places are filled. -/
def fill {T : Type} (f : T → Value) (z : Value) (l : List T) (k : Nat) : List Value := (l.take k).map f ++ List.replicate (l.length - k) z
theorem fill_zero {T : Type} (f : T → Value) (z : Value) (l : List T) : fill f z l 0 = List.replicate l.length z := by simp [fill]
theorem fill_all {T : Type} (f : T → Value) (z : Value) (l : List T) : fill f z l l.length = l.map f := by simp [fill]
theorem fill_length {T : Type} (f : T → Value) (z : Value) (l : List T) (k : Nat) (h : k ≤ l.length) : (fill f z l k).length = l.length := by simp [fill]; omega
theorem fill_set {T : Type} (f : T → Value) (z : Value) (l : List T) (k : Nat) (h : k < l.length) : (fill f z l k).set k (f l[k]) = fill f z l (k + 1) := by
  unfold fill
  have e : k - ((l.take k).map f).length = 0 := by simp; omega
  rw [List.set_append_right _ _ (by simp; omega), e, List.take_succ_eq_append_getElem h, show l.length - k = (l.length - (k + 1)) + 1 by omega, List.replicate_succ, List.map_append, List.append_assoc]
  rfl

theorem MidAt.nums {w : World} {g : Nat} {t : TypeId} {ns : List Int} (h : MidAt w g t (ns.map (Value.int .i64))) (hm : ns.length ≤ 1000000) : NumsAt w (some ⟨g, 0, none⟩) ns := by
  refine ⟨by unfold maxLen; omega, fun _ => ⟨g, 0, rfl, fun i hi => ?_⟩⟩
  rw [Nat.zero_add, h.cell]
  simp [hi]

end Go.Proofs.Ytopklnehhebhmaa

/- The contracts of event's Read and of the document's. -/
namespace Go.Proofs.Ytopklnehhebhmaa
open Go.RowKit

/-- The events of bytes, whether they may be or not. -/
def evsOf (s : List UInt8) : List Ev := s.map fun b => evOf b.toNat
def readOk (s : List UInt8) : Bool := (evsOf s).all rightEv
def readE (s : List UInt8) : List Ev := if readOk s then evsOf s else []

theorem set4 (pre zs : List Value) (z0 z1 z2 z3 v0 v1 v2 v3 : Value) (n : Nat) (hn : n = pre.length) :
    ((((pre ++ z0 :: z1 :: z2 :: z3 :: zs).set n v0).set (n + 1) v1).set (n + 2) v2).set (n + 3) v3 = pre ++ v0 :: v1 :: v2 :: v3 :: zs := by
  subst hn
  rw [List.set_append_right _ _ (by omega), List.set_append_right _ _ (by omega), List.set_append_right _ _ (by omega), List.set_append_right _ _ (by omega)]
  rw [show pre.length - pre.length = 0 by omega, show pre.length + 1 - pre.length = 1 by omega, show pre.length + 2 - pre.length = 2 by omega, show pre.length + 3 - pre.length = 3 by omega]
  rfl

/-- In the middle of reading: the block g has n events' room, the first ones are es. -/
def ERow (w : World) (g n : Nat) (es : List Ev) : Prop := es.length ≤ n ∧ ∃ zs : List Value, zs.length = (n - es.length) * 4 ∧ MidAt w g 73 (evCells es ++ zs)
theorem ERow.lt {w : World} {g n : Nat} {es : List Ev} (h : ERow w g n es) : g < w.heap.size := by obtain ⟨_, _, _, h⟩ := h; exact h.lt
theorem ERow.later {w w' : World} {g n : Nat} {es : List Ev} (h : ERow w g n es) (hb : Below w.heap.size w w') : ERow w' g n es := by
  obtain ⟨h1, zs, h2, h3⟩ := h
  exact ⟨h1, zs, h2, h3.later hb⟩
theorem ERow.frozen {w : World} {g n : Nat} {es : List Ev} (h : ERow w g n es) (j : Nat) : w.frozen? ⟨g, j, none⟩ = false := by obtain ⟨_, _, _, h⟩ := h; exact h.frozen j
theorem ERow.cell {w : World} {g n : Nat} {es : List Ev} (h : ERow w g n es) (j : Nat) (hj : j < n * 4) : ∃ v, w.cell? ⟨g, j, none⟩ = some v := by
  obtain ⟨h1, zs, h2, h3⟩ := h
  rw [h3.cell]
  exact ⟨_, List.getElem?_eq_getElem (by rw [List.length_append, evCells_length, h2, ← Nat.add_mul]; omega)⟩
theorem ERow.push {w : World} {g n k : Nat} {es : List Ev} (h : ERow w g n es) (hk : k = es.length) (hlt : k < n) (x : Ev) :
    ERow ((((w.setCell ⟨g, k * 4, none⟩ (.int .i64 x.thread)).setCell ⟨g, k * 4 + 1, none⟩ (.int .i64 x.kind)).setCell ⟨g, k * 4 + 2, none⟩ (.int .i64 x.obj)).setCell ⟨g, k * 4 + 3, none⟩ (.bool x.fail)) g n (es ++ [x]) := by
  obtain ⟨h1, zs, h2, h3⟩ := h
  subst hk
  match zs, h2 with
  | z0 :: z1 :: z2 :: z3 :: zs, h2 =>
    refine ⟨by simp; omega, zs, by simp at h2 ⊢; omega, ?_⟩
    have := (((h3.set (es.length * 4) (.int .i64 x.thread)).set (es.length * 4 + 1) (.int .i64 x.kind)).set (es.length * 4 + 2) (.int .i64 x.obj)).set (es.length * 4 + 3) (.bool x.fail)
    rw [set4 _ _ _ _ _ _ _ _ _ _ _ (by rw [evCells_length])] at this
    rw [evCells_append, List.append_assoc]
    exact this
  | [], h2 => simp at h2; omega
  | [_], h2 => simp at h2; omega
  | [_, _], h2 => simp at h2; omega
  | [_, _, _], h2 => simp at h2; omega
theorem ERow.made (w : World) (n : Nat) : ERow (w.alloc (.cells (madeCells #[.int .i64 0, .int .i64 0, .int .i64 0, .bool false] (n * 4)) 73)) w.heap.size n [] := by
  refine ⟨Nat.zero_le _, (madeCells #[.int .i64 0, .int .i64 0, .int .i64 0, .bool false] (n * 4)).toList, by simp [size_madeCells], ?_⟩
  have := heap_alloc_new w (.cells (madeCells #[.int .i64 0, .int .i64 0, .int .i64 0, .bool false] (n * 4)) 73)
  unfold MidAt
  rw [this]
  simp [evCells]
theorem ERow.evs {w : World} {g n : Nat} {es : List Ev} (h : ERow w g n es) (hm : es.length ≤ 1000000) : EvsAt w (some ⟨g, 0, none⟩) es := by
  obtain ⟨h1, zs, h2, h3⟩ := h
  have hcell : ∀ j u, (evCells es)[j]? = some u → w.cell? ⟨g, j, none⟩ = some u := by
    intro j u hj
    rw [h3.cell, List.getElem?_append_left (List.getElem?_eq_some_iff.1 hj).1]
    exact hj
  refine ⟨by unfold maxLen; omega, fun _ => ⟨g, 0, rfl, fun i hi => ?_⟩⟩
  simp only [Nat.zero_add]
  exact ⟨hcell _ _ (evCells_get es i 0 hi (by omega)), hcell _ _ (evCells_get es i 1 hi (by omega)), hcell _ _ (evCells_get es i 2 hi (by omega)), hcell _ _ (evCells_get es i 3 hi (by omega))⟩

theorem readE_no {s : List UInt8} {b : UInt8} (hb : b ∈ s) (h : rightEv (evOf b.toNat) = false) : readOk s = false ∧ readE s = [] := by
  have h1 : readOk s = false := by
    unfold readOk evsOf
    rw [List.all_eq_false]
    exact ⟨_, List.mem_map.2 ⟨b, hb, rfl⟩, by simp [h]⟩
  refine ⟨h1, ?_⟩
  unfold readE
  rw [h1]
  rfl

def ReadPost (B : Nat) (w : World) (s : List UInt8) (bad : Value) (good : Value) (r : Ending) (w' : World) : Prop :=
  ∃ a cap, r = .returned (.tuple #[.slice a (readE s).length cap, if readOk s then good else bad]) ∧ EvsAt w' a (readE s) ∧ Below B w w'

theorem readPost_no {B : Nat} {w w' : World} {s : List UInt8} {bad good : Value} (h : readOk s = false ∧ readE s = []) (hb : Below B w w') : ReadPost B w s bad good (.returned (.tuple #[.slice none 0 0, bad])) w' :=
  ⟨none, 0, by rw [h.1, h.2]; rfl, by rw [h.2]; exact evsAt_nil _ _, hb⟩
theorem readPost_yes {B : Nat} {w w' : World} {s : List UInt8} {bad good : Value} (h : (evsOf s).all rightEv = true) (a : Option Addr) (n cap : Nat) (hn : n = s.length) (he : EvsAt w' a (evsOf s)) (hb : Below B w w') : ReadPost B w s bad good (.returned (.tuple #[.slice a n cap, good])) w' := by
  have h1 : readOk s = true := h
  have h2 : readE s = evsOf s := by unfold readE; rw [h1]; rfl
  refine ⟨a, cap, ?_, by rw [h2]; exact he, hb⟩
  rw [h1, h2, hn]
  simp [evsOf]

theorem evsOf_take (s : List UInt8) (k : Nat) (h : k < s.length) : evsOf (s.take (k + 1)) = evsOf (s.take k) ++ [evOf s[k].toNat] := by
  unfold evsOf
  rw [List.take_succ_eq_append_getElem h, List.map_append]
  rfl

set_option maxRecDepth 100000 in
set_option maxHeartbeats 1000000 in
theorem evRead_any (s : List UInt8) (w : World) (hm : s.length ≤ 1000000) :
    Calls Try.prog 52 #[.string ⟨s.toArray⟩] w (ReadPost w.heap.size w s (.int .i64 3) (.int .i64 0)) := by
  have hmk := run_make_k (P := Try.prog) 63 73 (.agg #[.int .i64 0, .int .i64 0, .int .i64 0, .bool false]) 4 32 Try.underlying63 (by kernel_rfl) s.length (by omega) (by omega)
  have hsz : (⟨s.toArray⟩ : ByteArray).size = s.length := rfl
  go_enter Try.func52, Try.ntmps52
  go_wp2
  go_loopw [11] (fun i wr => ∃ (k : Nat) (es : List Ev), k ≤ s.length ∧ i = .int .i64 k ∧ es.length = k ∧ Hid (es = evsOf (s.take k)) ∧ Hid (es.all rightEv = true) ∧ Hid (ERow wr w.heap.size s.length es) ∧ Below w.heap.size w wr) (fun i _ => s.length - (intOf i).toNat)
  case atStart =>
    refine ⟨0, [], Nat.zero_le _, rfl, rfl, rfl, rfl, ?_, below_alloc1 _ _⟩
    exact ERow.made w s.length
  case round =>
    clear hmk
    obtain ⟨k, es, hk, rfl, hel, HE, HA, HM, hb⟩ := hrel
    by_cases hlt : k < s.length
    · have hz := HM.out.lt
      have HT0 := evsOf_take s k hlt
      have HX0 := List.getElem_mem hlt
      obtain ⟨c, hc⟩ : ∃ c, s[k] = c := ⟨_, rfl⟩
      rw [hc] at HT0 HX0
      have HT := Lib.hid HT0
      have HX := Lib.hid HX0
      have hix : ∀ h : k < (⟨s.toArray⟩ : ByteArray).size, (⟨s.toArray⟩ : ByteArray)[k] = c := fun _ => hc
      clear HT0 HX0 hc
      have bc := UInt8.toNat_lt c
      go_wp2_with fail
      refine (fromByte_any c.toNat (by omega) (by omega) _).mono ?_
      rintro r w1 ⟨rfl, hb1⟩
      generalize hx : evOf c.toNat = x at *
      have HV := Lib.hid hx
      have HM1 := Lib.hid (HM.out.later hb1)
      have hw1 : Below w.heap.size w w1 := hb.trans (hb1.mono hb.size)
      obtain ⟨y0, g0⟩ := HM1.out.cell (k * 4) (by omega)
      obtain ⟨y1, g1⟩ := HM1.out.cell (k * 4 + 1) (by omega)
      obtain ⟨y2, g2⟩ := HM1.out.cell (k * 4 + 2) (by omega)
      obtain ⟨y3, g3⟩ := HM1.out.cell (k * 4 + 3) (by omega)
      have f0 := HM1.out.frozen (k * 4)
      have f1 := HM1.out.frozen (k * 4 + 1)
      have f2 := HM1.out.frozen (k * 4 + 2)
      have f3 := HM1.out.frozen (k * 4 + 3)
      have HP := Lib.hid (HM1.out.push hel.symm hlt x)
      have hb2 := (((hw1.setCell (p := ⟨w.heap.size, k * 4, none⟩) (Nat.le_refl _) (.int .i64 x.thread)).setCell (p := ⟨w.heap.size, k * 4 + 1, none⟩) (Nat.le_refl _) (.int .i64 x.kind)).setCell (p := ⟨w.heap.size, k * 4 + 2, none⟩) (Nat.le_refl _) (.int .i64 x.obj)).setCell (p := ⟨w.heap.size, k * 4 + 3, none⟩) (Nat.le_refl _) (.bool x.fail)
      clear hx HM HM1 hb hb1 hw1 bc hix
      go_wp2_with fail
      generalize ((((w1.setCell ⟨w.heap.size, k * 4, none⟩ (.int .i64 x.thread)).setCell ⟨w.heap.size, k * 4 + 1, none⟩ (.int .i64 x.kind)).setCell ⟨w.heap.size, k * 4 + 2, none⟩ (.int .i64 x.obj)).setCell ⟨w.heap.size, k * 4 + 3, none⟩ (.bool x.fail)) = W2 at *
      refine (evRight_any x _).mono ?_
      rintro r w3 ⟨rfl, hb3⟩
      have HP3 := Lib.hid (HP.out.later hb3)
      have hw3 : Below w.heap.size w w3 := hb2.trans (hb3.mono hb2.size)
      clear HP hb2 hb3 g0 g1 g2 g3 f0 f1 f2 f3
      cases hr : rightEv x
      · have HR := Lib.hid (readE_no HX.out (by rw [HV.out]; exact hr))
        clear hr
        go_wp2
        go_ret2
        exact readPost_no HR.out hw3
      · have HR := Lib.hid hr
        clear hr
        go_wp2
        go_roundw
        case rel => exact ⟨k + 1, es ++ [x], by omega, by go_num, by simp; omega, (by show _ = _; rw [HT.out, HE.out]), (by show _ = _; rw [List.all_append, HA.out]; simp [HR.out]), HP3, hw3⟩
        case measure => simp [intOf]; omega
    · obtain rfl : k = s.length := by omega
      have HR : Hid (es = evsOf s) := by
        have h := HE.out
        rw [List.take_length] at h
        exact h
      go_wp2
      go_ret2
      exact readPost_yes (by rw [← HR.out]; exact HA.out) _ _ _ rfl (by rw [← HR.out]; exact HM.out.evs (by omega)) hb

set_option maxRecDepth 100000 in
set_option maxHeartbeats 1000000 in
theorem refEvRead_any (s : List UInt8) (w : World) (hm : s.length ≤ 1000000) :
    Calls Try.prog 29 #[.string ⟨s.toArray⟩] w (ReadPost w.heap.size w s (.bool false) (.bool true)) := by
  have hsz : (⟨s.toArray⟩ : ByteArray).size = s.length := rfl
  go_enter Try.func29, Try.ntmps29
  go_wp2
  go_loopw [4, 5] (fun v i wr => ∃ (k : Nat) (es : List Ev), k ≤ s.length ∧ i = .int .i64 k ∧ es.length = k ∧ Hid (es = evsOf (s.take k)) ∧ Hid (es.all rightEv = true) ∧ Hid (OwnE wr w.heap.size v es) ∧ Below w.heap.size w wr) (fun _ i _ => s.length - (intOf i).toNat)
  case atStart => exact ⟨0, [], Nat.zero_le _, rfl, rfl, rfl, rfl, ownE_nil _ _, Below.refl _ _⟩
  case round =>
    obtain ⟨k, es, hk, rfl, hel, HE, HA, HM, hb⟩ := hrel
    by_cases hlt : k < s.length
    · have HT0 := evsOf_take s k hlt
      have HX0 := List.getElem_mem hlt
      obtain ⟨c, hc⟩ : ∃ c, s[k] = c := ⟨_, rfl⟩
      rw [hc] at HT0 HX0
      have HT := Lib.hid HT0
      have HX := Lib.hid HX0
      have hix : ∀ h : k < (⟨s.toArray⟩ : ByteArray).size, (⟨s.toArray⟩ : ByteArray)[k] = c := fun _ => hc
      clear HT0 HX0 hc
      have bc := UInt8.toNat_lt c
      have vc : IntKind.i64.wrap (c.toNat : Int) = c.toNat := IntWalk.i64_in _ (by omega)
      go_wp2_with fail
      obtain ⟨x, h0, h1, h2, h3, hx⟩ : ∃ x : Ev, (c.toNat : Int) % 4 = x.thread ∧ (c.toNat : Int) / 4 % 8 = x.kind ∧ (c.toNat : Int) / 32 % 4 = x.obj ∧ decide ((128 : Int) ≤ c.toNat) = x.fail ∧ evOf c.toNat = x := ⟨evOf c.toNat, rfl, rfl, rfl, rfl, rfl⟩
      simp only [h0, h1, h2, h3]
      have hx2 := HT.out
      rw [hx] at hx2
      have HT2 := Lib.hid hx2
      have HV := Lib.hid hx
      clear hx hx2 HT h0 h1 h2 h3 vc bc hix
      have HB1 := Lib.hid (EvBox.new wr x)
      have HM1 := Lib.hid (HM.out.alloc (.cells #[.int .i64 x.thread, .int .i64 x.kind, .int .i64 x.obj, .bool x.fail] 73))
      have hb1 : Below w.heap.size w (wr.alloc (.cells #[.int .i64 x.thread, .int .i64 x.kind, .int .i64 x.obj, .bool x.fail] 73)) := hb.alloc hb.size _
      clear HM hb
      generalize wr.alloc (.cells #[.int .i64 x.thread, .int .i64 x.kind, .int .i64 x.obj, .bool x.fail] 73) = W1 at *
      generalize wr.heap.size = E at *
      refine (refEvRight_any x _).mono ?_
      rintro r w2 ⟨rfl, hb2⟩
      have HB2 := Lib.hid (HB1.out.later hb2)
      have hown2 := HM1.out.later hb2
      have hw2 : Below w.heap.size w w2 := hb1.trans (hb2.mono hb1.size)
      clear HB1 HM1 hb1 hb2
      obtain ⟨x0, x1, x2, x3⟩ := HB2.out.cells
      have lx := HB2.out.lt
      have hz := hw2.size
      cases hr : rightEv x
      · have HR := Lib.hid (readE_no HX.out (by rw [HV.out]; exact hr))
        clear hr HB2
        go_wp2
        go_ret2
        exact readPost_no HR.out hw2
      · have HR := Lib.hid hr
        clear hr HB2
        go_wp2_with (at_builtin; refine wp_appendE rfl (.tmp 32) (.tmp 34) rfl w.heap.size _ es rfl (hown2.alloc _) ⟨w2.heap.size, 0, none⟩ rfl x (ev_new w2 x _ _ rfl) (by omega) (by simp; omega) ?_; intro v1 w4 hown4 hb4)
        have hb5 := (hw2.alloc hz _).trans hb4
        have HO4 := Lib.hid hown4
        clear hown4
        go_roundw
        case rel => exact ⟨k + 1, es ++ [x], by omega, by go_num, by simp; omega, (by show _ = _; rw [HT2.out, HE.out]), (by show _ = _; rw [List.all_append, HA.out]; simp [HR.out]), HO4, hb5⟩
        case measure => simp [intOf]; omega
    · obtain rfl : k = s.length := by omega
      have HR : Hid (es = evsOf s) := by
        have h := HE.out
        rw [List.take_length] at h
        exact h
      obtain ⟨a', cap', rfl, hn⟩ := HM.out.form (by omega)
      have HN := Lib.hid hn
      clear hn
      go_wp2
      go_ret2
      exact readPost_yes (by rw [← HR.out]; exact HA.out) _ _ _ hel (by rw [← HR.out]; exact HN.out) hb

end Go.Proofs.Ytopklnehhebhmaa

/- Rows of elements of several cells each, whatever they are. -/
namespace Go.Proofs.Ytopklnehhebhmaa
open Go.RowKit

section
variable {T : Type} {f : T → List Value} {n : Nat}

def cellsL (f : T → List Value) (l : List T) : List Value := l.flatMap f
theorem cellsL_length (hf : ∀ x, (f x).length = n) (l : List T) : (cellsL f l).length = l.length * n := by
  induction l with
  | nil => simp [cellsL]
  | cons x l ih =>
    unfold cellsL at *
    rw [List.flatMap_cons, List.length_append, ih, hf, List.length_cons, Nat.add_mul, Nat.one_mul]
    omega
theorem cellsL_append (f : T → List Value) (a b : List T) : cellsL f (a ++ b) = cellsL f a ++ cellsL f b := by simp [cellsL]
theorem cellsL_get (hf : ∀ x, (f x).length = n) (l : List T) (i j : Nat) (h : i < l.length) (hj : j < n) : (cellsL f l)[i * n + j]? = (f l[i])[j]? := by
  induction l generalizing i with
  | nil => simp at h
  | cons x l ih =>
    cases i with
    | zero =>
      simp only [cellsL, List.flatMap_cons, Nat.zero_mul, Nat.zero_add, List.getElem_cons_zero]
      rw [List.getElem?_append_left (by rw [hf]; exact hj)]
    | succ i =>
      have := ih i (by simpa using h)
      have e : (i + 1) * n + j - (f x).length = i * n + j := by rw [hf, Nat.add_mul]; omega
      simp only [cellsL, List.flatMap_cons, List.getElem_cons_succ] at *
      rw [List.getElem?_append_right (by rw [hf, Nat.add_mul]; omega), e, this]
theorem cellsL_one (h1 : ∀ x, ∀ v ∈ f x, v.oneCell' = true) (l : List T) : ∀ v ∈ cellsL f l, v.oneCell' = true := by
  intro v hv
  simp only [cellsL, List.mem_flatMap] at hv
  obtain ⟨x, _, hv⟩ := hv
  exact h1 x v hv
theorem cellsL_single (f : T → List Value) (x : T) : cellsL f [x] = f x := by simp [cellsL]
/-- Where a place of the cells stands. -/
theorem cellsL_ext (hf : ∀ x, (f x).length = n) (hn : 0 < n) {l : List T} {xs : List Value} (hl : xs.length = l.length * n) (h : ∀ i (h : i < l.length), ∀ j, j < n → xs[i * n + j]? = (f l[i])[j]?) : xs = cellsL f l := by
  apply List.ext_getElem?
  intro p
  by_cases hp : p < l.length * n
  · have h1 : p / n < l.length := Nat.div_lt_of_lt_mul (by rw [Nat.mul_comm]; exact hp)
    have h2 : p % n < n := Nat.mod_lt _ hn
    have e : p = p / n * n + p % n := by rw [Nat.mul_comm]; exact (Nat.div_add_mod p n).symm
    rw [e, h _ h1 _ h2, cellsL_get hf _ _ _ h1 h2]
  · rw [List.getElem?_eq_none (by omega), List.getElem?_eq_none (by rw [cellsL_length hf]; omega)]

/-- From the place a on lie, in w, the elements l. -/
def RowAt (w : World) (a : Option Addr) (n : Nat) (f : T → List Value) (l : List T) : Prop :=
  l.length ≤ maxLen ∧ (l ≠ [] → ∃ b o, a = some ⟨b, o, none⟩ ∧ ∀ i (h : i < l.length) j u, (f l[i])[j]? = some u → w.cell? ⟨b, o + i * n + j, none⟩ = some u)
theorem RowAt.later {w w' : World} {a : Option Addr} {l : List T} (h : RowAt w a n f l) (hb : Below w.heap.size w w') : RowAt w' a n f l := by
  refine ⟨h.1, fun hn => ?_⟩
  obtain ⟨b, o, rfl, hc⟩ := h.2 hn
  exact ⟨b, o, rfl, fun i hi j u hj => cell_later hb (hc i hi j u hj)⟩
theorem rowAt_nil (w : World) (a : Option Addr) (n : Nat) (f : T → List Value) : RowAt w a n f [] := ⟨by simp [maxLen], fun h => absurd rfl h⟩
/-- A piece of a row. -/
theorem RowAt.part {w : World} {b o : Nat} {l : List T} (h : RowAt w (some ⟨b, o, none⟩) n f l) (i m : Nat) : RowAt w (some ⟨b, o + i * n, none⟩) n f ((l.drop i).take m) := by
  refine ⟨Nat.le_trans (List.length_take_le' _ _) (Nat.le_trans (by simp) h.1), fun hn => ⟨b, o + i * n, rfl, fun k hk j u hj => ?_⟩⟩
  have hk' : i + k < l.length := by simp at hk; omega
  obtain ⟨b', o', e, hc⟩ := h.2 (by intro e; simp [e] at hk')
  cases e
  have h1 := hc (i + k) hk' j u (by simpa using hj)
  rw [Nat.add_mul, ← Nat.add_assoc] at h1
  exact h1

/-- A row of the call's own. -/
def OwnRow (w : World) (B : Nat) (t : TypeId) (n : Nat) (f : T → List Value) (v : Value) (l : List T) : Prop := w.ownsRow B t n v l.length (cellsL f l)
theorem OwnRow.alloc {w : World} {B : Nat} {t : TypeId} {v : Value} {l : List T} (h : OwnRow w B t n f v l) (o : Obj) : OwnRow (w.alloc o) B t n f v l := World.ownsRow.alloc h o
theorem ownRow_nil (w : World) (B : Nat) (t : TypeId) (n : Nat) (f : T → List Value) : OwnRow w B t n f (.slice none 0 0) [] := World.ownsRow_nil w B _ _
theorem OwnRow.later {w w' : World} {B : Nat} {t : TypeId} {v : Value} {l : List T} (h : OwnRow w B t n f v l) (hb : Below w.heap.size w w') : OwnRow w' B t n f v l := ownsRow_later h hb
theorem OwnRow.only {w w' : World} {B g : Nat} {t : TypeId} {v : Value} {l : List T} (h : OwnRow w B t n f v l) (ho : Only g w w') (hg : g < B) : OwnRow w' B t n f v l := ownsRow_only h ho hg
theorem OwnRow.form {w : World} {B : Nat} {t : TypeId} {v : Value} {l : List T} (h : OwnRow w B t n f v l) (hf : ∀ x, (f x).length = n) (hm : l.length ≤ 1000000) : ∃ a cap, v = .slice a l.length cap ∧ RowAt w a n f l ∧ (a = none → cap = 0) := by
  obtain ⟨h1, ⟨h2, h3⟩ | ⟨g, cap, cur, h2, h3, h4, h5, h6, h7, h8⟩⟩ := h
  · have e : l = [] := List.eq_nil_of_length_eq_zero h3
    subst e
    exact ⟨none, 0, h2, rowAt_nil _ _ _ _, fun _ => rfl⟩
  · refine ⟨some ⟨g, 0, none⟩, cap, h2, ⟨by unfold maxLen; omega, fun _ => ⟨g, 0, rfl, fun i hi j u hj => ?_⟩⟩, by simp⟩
    have hjn : j < n := by rw [← hf l[i]]; exact (List.getElem?_eq_some_iff.1 hj).1
    rw [← cellsL_get hf l i j hi hjn, ← h8] at hj
    have hlt : i * n + j < l.length * n := by
      have : (i + 1) * n ≤ l.length * n := Nat.mul_le_mul_right n hi
      rw [Nat.add_mul, Nat.one_mul] at this
      omega
    rw [List.getElem?_take_of_lt hlt] at hj
    simp [World.cell?, h4]
    simpa using hj
/-- A row that is not empty lies in a block of its own. -/
theorem OwnRow.block {w : World} {B : Nat} {t : TypeId} {v : Value} {l : List T} (h : OwnRow w B t n f v l) (hn : l ≠ []) : ∃ g cap, v = .slice (some ⟨g, 0, none⟩) l.length cap ∧ B ≤ g ∧ g < w.heap.size := by
  obtain ⟨h1, ⟨h2, h3⟩ | ⟨g, cap, cur, h2, h3, h4, h5, h6, h7, h8⟩⟩ := h
  · exact absurd (List.eq_nil_of_length_eq_zero h3) hn
  · exact ⟨g, cap, h2, h3, (Array.getElem?_eq_some_iff.1 h4).1⟩

theorem cells_new (w : World) (cs : List Value) (t : TypeId) (g : Nat) (hg : g = w.heap.size) : ∀ j u, cs[j]? = some u → (w.alloc (.cells cs.toArray t)).cell? (Addr.add ⟨g, 0, none⟩ j) = some u := by
  subst hg
  intro j u hj
  have e : Addr.add ⟨w.heap.size, 0, none⟩ j = ⟨w.heap.size, j, none⟩ := by rw [add_row, Nat.zero_add]
  rw [e, World.cell?_alloc_new]
  simpa using hj

/-- One element more. -/
theorem wp_appendR {P : Program} {w : World} {ops : Array Oper} {rest : List Oper} {o : Oper} {a : Act} {Q : Exit → Act → World → Prop} (st et : TypeId) (bytes : Nat) (z : Value) (hu : P.underlying st = some (.slice et))
    (hinfo : (P.info? et).map (fun i => (i.zero, i.size, i.bytes)) = some (some z, n, bytes)) (hz : z.cells.size = n) (hn : 0 < n) (hby : bytes ≤ 1000) (hf : ∀ x, (f x).length = n)
    (hgd : o.guard = none) (s x : Operand) (ho : o.op = .call { callee := .builtin .append, args := #[s, x], argTypes := #[st, st] }) (B : Nat) (v : Value) (l : List T) (hs : a.eval s = v) (hown : OwnRow w B et n f v l)
    (ad : Addr) (hx : a.eval x = .slice (some ad) 1 1) (e : T) (h1 : ∀ v ∈ f e, v.oneCell' = true) (hnews : ∀ j u, (f e)[j]? = some u → w.cell? (ad.add j) = some u) (hlen : l.length ≤ 1000000) (hB : B ≤ w.heap.size)
    (h : ∀ v' w', OwnRow w' B et n f v' (l ++ [e]) → Below B w w' → w.grownBy w' v.ownBlock → wpList P ops Q rest (a.put o.dst v') w') : wpList P ops Q (o :: rest) a w := by
  obtain ⟨i, hi, hzz⟩ := Option.map_eq_some_iff.1 hinfo
  simp only [Prod.mk.injEq] at hzz
  obtain ⟨hiz, hisz, hiby⟩ := hzz
  refine wpList_append_own w hgd s x st ho B et i z n bytes hu hi hiz hisz hiby hz hn v l.length (cellsL f l) hs hown ad 1 1 (f e) hx (by rw [hf, Nat.one_mul]) hnews
    h1 (by unfold maxLen; omega) ?_ hB ?_
  · have : (l.length + 1) * bytes ≤ 1000001 * 1000 := Nat.mul_le_mul (by omega) hby
    omega
  intro v' w' h2 h3 _
  refine h v' w' ?_ ((Below.refl B w).grown h3 hB (fun k hk => (World.ownsRow.lt hown k hk).1)) h3
  unfold OwnRow
  rw [List.length_append, cellsL_append, cellsL_single]
  exact h2

/-- One element more, and where the row lies then. -/
theorem wp_appendAt {P : Program} {w : World} {o : Oper} {a : Act} {K : Act → World → Prop} {Q : Exit → Act → World → Prop} (st et : TypeId) (bytes : Nat) (z : Value) (hu : P.underlying st = some (.slice et))
    (hinfo : (P.info? et).map (fun i => (i.zero, i.size, i.bytes)) = some (some z, n, bytes)) (hz : z.cells.size = n) (hn : 0 < n) (hby : bytes ≤ 1000) (hf : ∀ x, (f x).length = n)
    (s x : Operand) (ho : o.op = .call { callee := .builtin .append, args := #[s, x], argTypes := #[st, st] }) (B : Nat) (v : Value) (l : List T) (hs : a.eval s = v) (hown : OwnRow w B et n f v l)
    (ad : Addr) (hx : a.eval x = .slice (some ad) 1 1) (e : T) (h1 : ∀ v ∈ f e, v.oneCell' = true) (hnews : ∀ j u, (f e)[j]? = some u → w.cell? (ad.add j) = some u) (hlen : l.length ≤ 1000000) (hB : B ≤ w.heap.size)
    (h : ∀ v' w', OwnRow w' B et n f v' (l ++ [e]) → Below B w w' → w.grownBy w' v.ownBlock → (v'.ownBlock = v.ownBlock ∨ v'.ownBlock = some w.heap.size) → K (a.put o.dst v') w') : Oper.wp P o a w K Q := by
  obtain ⟨i, hi, hzz⟩ := Option.map_eq_some_iff.1 hinfo
  simp only [Prod.mk.injEq] at hzz
  obtain ⟨hiz, hisz, hiby⟩ := hzz
  have hbb : (l.length + 1) * bytes ≤ 140737488355328 := by
    have : (l.length + 1) * bytes ≤ 1000001 * 1000 := Nat.mul_le_mul (by omega) hby
    omega
  obtain ⟨v', w', hrun, r1, r2, _, r4⟩ := run_append_own_at (P := P) w B st o.type et i z n bytes hu hi hiz hisz hiby hz hn v l.length (cellsL f l) hown ad 1 1 (f e) (by rw [hf, Nat.one_mul]) hnews h1 (by unfold maxLen; omega) hbb hB
  have hK := h v' w' (by unfold OwnRow; rw [List.length_append, cellsL_append, cellsL_single]; exact r1) ((Below.refl B w).grown r2 hB (fun k hk => (World.ownsRow.lt hown k hk).1)) r2 r4
  unfold Oper.wp
  simp [execOp, ho, resolve, invoke, builtin, hs, hx, hrun, Result.andThen]
  exact hK
/-- The same in a region whose order is drawn. -/
theorem step_appendAt {P : Program} {w : World} {ops : Array Oper} {o : Oper} {a : Act} {K : Act → World → Prop} {Q : Exit → Act → World → Prop} {E : Prop} (st et : TypeId) (bytes : Nat) (z : Value) (hu : P.underlying st = some (.slice et))
    (hinfo : (P.info? et).map (fun i => (i.zero, i.size, i.bytes)) = some (some z, n, bytes)) (hz : z.cells.size = n) (hn : 0 < n) (hby : bytes ≤ 1000) (hf : ∀ x, (f x).length = n) (hgd : o.guard = none)
    (s x : Operand) (ho : o.op = .call { callee := .builtin .append, args := #[s, x], argTypes := #[st, st] }) (B : Nat) (v : Value) (l : List T) (hs : a.eval s = v) (hown : OwnRow w B et n f v l)
    (ad : Addr) (hx : a.eval x = .slice (some ad) 1 1) (e : T) (h1 : ∀ v ∈ f e, v.oneCell' = true) (hnews : ∀ j u, (f e)[j]? = some u → w.cell? (ad.add j) = some u) (hlen : l.length ≤ 1000000) (hB : B ≤ w.heap.size)
    (h : ∀ v' w', OwnRow w' B et n f v' (l ++ [e]) → Below B w w' → w.grownBy w' v.ownBlock → (v'.ownBlock = v.ownBlock ∨ v'.ownBlock = some w.heap.size) → K (a.put o.dst v') w') : if Region.wanted o (yielded ops a.tmps) = true then Oper.wp P o a w K Q else E := by
  have hw : Region.wanted o (yielded ops a.tmps) = true := by simp [Region.wanted, hgd]
  rw [if_pos hw]
  exact wp_appendAt st et bytes z hu hinfo hz hn hby hf s x ho B v l hs hown ad hx e h1 hnews hlen hB h

/-- Four numbers in a block. -/
def nums4 (c : Nat → Int) : List Value := [.int .i64 (c 0), .int .i64 (c 1), .int .i64 (c 2), .int .i64 (c 3)]
theorem nums4_congr {c d : Nat → Int} (h : ∀ t, t < 4 → c t = d t) : nums4 c = nums4 d := by
  unfold nums4
  rw [h 0 (by omega), h 1 (by omega), h 2 (by omega), h 3 (by omega)]
theorem nums4_get (c : Nat → Int) {t : Nat} (h : t < 4) : (nums4 c)[t]? = some (.int .i64 (c t)) := by
  rcases (by omega : t = 0 ∨ t = 1 ∨ t = 2 ∨ t = 3) with rfl | rfl | rfl | rfl <;> rfl
theorem nums4_set (c : Nat → Int) (v : Int) {t : Nat} (h : t < 4) : (nums4 c).set t (.int .i64 v) = nums4 (fun j => if j = t then v else c j) := by
  rcases (by omega : t = 0 ∨ t = 1 ∨ t = 2 ∨ t = 3) with rfl | rfl | rfl | rfl <;> rfl

theorem run_index4 {P : Program} (w : World) {t elem : TypeId} {d : TypeDesc} (c : Nat → Int) (q : Nat) (hu : P.underlying t = some (.array 4 elem)) (he : P.underlying elem = some d)
    (hd : (match d with | .struct _ | .array _ _ => true | _ => false) = false) (hs : (P.info? elem).map (·.size) = some 1) (hq : q < 4) : (Instr.index t (.agg #[.int .i64 (c 0), .int .i64 (c 1), .int .i64 (c 2), .int .i64 (c 3)]) (.int .i64 (q : Int))).run P w = .ok (.int .i64 (c q)) w :=
  run_index_one w q hu he hd hs hq (by rcases (by omega : q = 0 ∨ q = 1 ∨ q = 2 ∨ q = 3) with rfl | rfl | rfl | rfl <;> rfl)
end
theorem OwnRow.kindQ {T : Type} {f : T → List Value} {n : Nat} {w : World} {B : Nat} {t : TypeId} {v : Value} {l : List T} (h : OwnRow w B t n f v l) {g : Nat} (hg : v.ownBlock = some g) : B ≤ g ∧ ∃ c, w.heap[g]? = some (.cells c t (0, 0)) := by
  obtain ⟨h1, ⟨rfl, _⟩ | ⟨g', cap, cur, rfl, h3, h4, h5⟩⟩ := h
  · simp [Value.ownBlock] at hg
  · simp [Value.ownBlock] at hg
    subst hg
    exact ⟨h3, cur, h4⟩
theorem OwnRow.keepQ {T : Type} {f : T → List Value} {n : Nat} {w w' : World} {B : Nat} {t : TypeId} {v : Value} {l : List T} (h : OwnRow w B t n f v l) (hs : ∀ g, v.ownBlock = some g → w'.heap[g]? = w.heap[g]?) : OwnRow w' B t n f v l := by
  obtain ⟨h1, h2 | ⟨g, cap, cur, h2, h3, h4, h5⟩⟩ := h
  · exact ⟨h1, .inl h2⟩
  · exact ⟨h1, .inr ⟨g, cap, cur, h2, h3, (hs g (by rw [h2]; rfl)).trans h4, h5⟩⟩

/-- Numbered values in an array. -/
def cxA (n : Nat) (cx : Nat → Value) : Array Value := ((List.range n).map cx).toArray
theorem cxA_get {n i : Nat} (cx : Nat → Value) (h : i < n) : (cxA n cx)[i]? = some (cx i) := by simp [cxA, h]
theorem cxA_set {n i : Nat} (cx : Nat → Value) (v : Value) : (cxA n cx).setIfInBounds i v = cxA n (updF cx i v) := by
  apply Array.ext_getElem?
  intro j
  by_cases hj : j < n
  · by_cases e : i = j
    · subst e
      rw [cxA_get _ hj, updF_same]
      simp [cxA, hj]
    · rw [cxA_get _ hj, updF_ne _ _ (Ne.symm e), Array.getElem?_setIfInBounds_ne e, cxA_get _ hj]
  · rw [Array.getElem?_eq_none (by simp [cxA]; omega), Array.getElem?_eq_none (by simp [cxA]; omega)]
theorem cxA_const {n : Nat} (z : Array Value) (cx : Nat → Value) (hz : z.size = n) (h : ∀ i, i < n → z[i]? = some (cx i)) : z = cxA n cx := by
  apply Array.ext_getElem?
  intro j
  by_cases hj : j < n
  · rw [cxA_get _ hj, h j hj]
  · rw [Array.getElem?_eq_none (by omega), Array.getElem?_eq_none (by simp [cxA]; omega)]
end Go.Proofs.Ytopklnehhebhmaa

/- copy of elements of several cells, into the middle of a row of one's own; append of zeros behind a row's beginning. -/
namespace Go.Proofs.Ytopklnehhebhmaa
open Go.RowKit

/-- The cells behind a copy. -/
def putAt (cur : Array Value) (o : Nat) (cs : List Value) : Array Value := (cur.toList.take o ++ cs ++ cur.toList.drop (o + cs.length)).toArray
theorem putAt_size {cur : Array Value} {o : Nat} {cs : List Value} (h : o + cs.length ≤ cur.size) : (putAt cur o cs).size = cur.size := by
  simp [putAt]
  omega

theorem run_copy_at {P : Program} (w : World) (dT sT ty elem : TypeId) (k g o nd dCap : Nat) (ad : Addr) (ns sCap : Nat) (cur : Array Value) (t : TypeId) (cs : List Value)
    (hu : P.underlying dT = some (.slice elem)) (hs : (P.info? elem).map (·.size) = some k)
    (hg : w.heap[g]? = some (.cells cur t (0, 0))) (hcs : cs.length = Nat.min ns nd * k) (hfit : o + cs.length ≤ cur.size)
    (hsrc : ∀ j v, cs[j]? = some v → w.cell? (ad.add j) = some v) (h1 : ∀ v ∈ cs, v.oneCell' = true) :
    (Builtin.copy_ #[dT, sT] ty #[.slice (some ⟨g, o, none⟩) nd dCap, .slice (some ad) ns sCap]).run P w = .ok (goInt (Nat.min ns nd)) (w.setRow g (putAt cur o cs)) := by
  cases hq : P.info? elem with
  | none => simp [hq] at hs
  | some i =>
    have hi : i.size = k := by simpa [hq] using hs
    have hl := run_loadCells_list (P := P) w ad cs hsrc
    have hst := run_storeCells_at P g o t cs 0 cur w hg (by omega) h1
    rw [Nat.add_zero] at hst
    simp [Builtin.copy_, run_underlying hu, Builtin.lenOf, Builtin.firstCells, sizeOf, typeInfo, hq, hi, ← hcs, hl, hst, putAt]

theorem ev_size : (Try.prog.info? 73).map (·.size) = some 4 := by kernel_rfl
theorem ev_sizeOf (w : World) : (Go.sizeOf 73).run Try.prog w = .ok 4 w := by
  obtain ⟨i, hi, h4⟩ := Option.map_eq_some_iff.1 ev_size
  simp [sizeOf, typeInfo, hi, h4]
theorem infoEv : (Try.prog.info? 73).map (fun i => (i.zero, i.size, i.bytes)) = some (some (.agg #[.int .i64 0, .int .i64 0, .int .i64 0, .bool false]), 4, 32) := by kernel_rfl
theorem evCell_len (x : Ev) : (evCell x).length = 4 := rfl
theorem evCell_one (x : Ev) : ∀ v ∈ evCell x, v.oneCell' = true := by
  intro v hv
  simp [evCell] at hv
  rcases hv with rfl | rfl | rfl | rfl <;> rfl
theorem evCells_take (l : List Ev) (n : Nat) : evCells (l.take n) = (evCells l).take (n * 4) := by
  by_cases h : n ≤ l.length
  · have e : evCells l = evCells (l.take n) ++ evCells (l.drop n) := by rw [← evCells_append, List.take_append_drop]
    rw [e, List.take_left' (by rw [evCells_length, List.length_take]; omega)]
  · rw [List.take_of_length_le (l := l) (by omega), List.take_of_length_le (by rw [evCells_length]; omega)]
theorem evCells_drop (l : List Ev) (n : Nat) : evCells (l.drop n) = (evCells l).drop (n * 4) := by
  by_cases h : n ≤ l.length
  · have e : evCells l = evCells (l.take n) ++ evCells (l.drop n) := by rw [← evCells_append, List.take_append_drop]
    rw [e, List.drop_left' (by rw [evCells_length, List.length_take]; omega)]
  · have e : l.drop n = [] := List.drop_eq_nil_of_le (by omega)
    rw [e, List.drop_eq_nil_of_le (by rw [evCells_length]; omega)]
    rfl

/-- The cells when an event has been put in, in place. -/
theorem put_twice (X Y Z E : List Value) (p n : Nat) (hX : X.length = p + E.length) (hn : n = p + E.length + Y.length) :
    ((X ++ (Y ++ Z)).take p ++ E ++ (X ++ (Y ++ Z)).drop (p + E.length)).take n = X.take p ++ (E ++ Y) := by
  have a1 : (X ++ (Y ++ Z)).take p = X.take p := List.take_append_of_le_length (by omega)
  have a2 : (X ++ (Y ++ Z)).drop (p + E.length) = Y ++ Z := List.drop_left' hX
  rw [a1, a2]
  have e : X.take p ++ E ++ (Y ++ Z) = (X.take p ++ (E ++ Y)) ++ Z := by simp
  rw [e, List.take_left']
  simp only [List.length_append, List.length_take]
  omega
theorem shifted {cur : Array Value} {es : List Ev} {e : Ev} {i c : Nat} (hi : i ≤ es.length) (hc : cur.size = c * 4) (hroom : es.length + 1 ≤ c) (ht : cur.toList.take (es.length * 4) = evCells es) :
    (putAt (putAt cur ((i + 1) * 4) (evCells (es.drop i))) (i * 4) (evCell e)).toList.take ((es.length + 1) * 4) = evCells (es.take i ++ e :: es.drop i) := by
  have hsz : cur.toList.length = c * 4 := by simpa using hc
  have hl2 : (evCells (es.drop i)).length = (es.length - i) * 4 := by rw [evCells_length, List.length_drop]
  have h := put_twice (cur.toList.take ((i + 1) * 4)) (evCells (es.drop i)) (cur.toList.drop ((i + 1) * 4 + (evCells (es.drop i)).length)) (evCell e) (i * 4) ((es.length + 1) * 4)
    (by rw [List.length_take, hsz, evCell_len]; omega) (by rw [hl2, evCell_len]; omega)
  have e1 : (cur.toList.take ((i + 1) * 4)).take (i * 4) = evCells (es.take i) := by
    rw [evCells_take, ← ht, List.take_take, List.take_take, Nat.min_eq_left (by omega), Nat.min_eq_left (by omega)]
  rw [e1] at h
  rw [evCells_append, show evCells (e :: es.drop i) = evCell e ++ evCells (es.drop i) from rfl, ← h]
  simp [putAt]

end Go.Proofs.Ytopklnehhebhmaa

/- copy(dst, src) of elements of any number of cells, dst a whole row of the call's own of the same length. -/
namespace Go.Proofs.Ytopklnehhebhmaa
open Go.RowKit

theorem run_copy_all {P : Program} (w : World) (dT sT ty elem : TypeId) (k g n dCap : Nat) (sp : Option Addr) (sCap : Nat) (cur : Array Value) (t : TypeId) (cs : List Value)
    (hu : P.underlying dT = some (.slice elem)) (hs : (P.info? elem).map (·.size) = some k)
    (hg : w.heap[g]? = some (.cells cur t (0, 0))) (hcs : cs.length = n * k) (hcur : cur.size = n * k)
    (hsrc : cs ≠ [] → ∃ ad, sp = some ad ∧ ∀ j v, cs[j]? = some v → w.cell? (ad.add j) = some v) (h1 : ∀ v ∈ cs, v.oneCell' = true) :
    (Builtin.copy_ #[dT, sT] ty #[.slice (some ⟨g, 0, none⟩) n dCap, .slice sp n sCap]).run P w = .ok (goInt n) (w.setRow g cs.toArray) := by
  cases hq : P.info? elem with
  | none => simp [hq] at hs
  | some i =>
    have hi : i.size = k := by simpa [hq] using hs
    by_cases h0 : cs = []
    · subst h0
      have hnk : n * k = 0 := by simpa using hcs.symm
      have e1 : cur = #[] := Array.eq_empty_of_size_eq_zero (by omega)
      subst e1
      have hl : ∀ (x : Addr), (loadCells x 0).run P w = .ok #[] w := fun x => by simpa using run_loadCells_list (P := P) w x [] (by simp)
      have hse : w.setRow g #[] = w := setRow_self w g #[] t (0, 0) hg
      cases sp <;> simp [Builtin.copy_, run_underlying hu, Builtin.lenOf, Builtin.firstCells, sizeOf, typeInfo, hq, hi, hnk, storeCells, hl, hse]
    · obtain ⟨ad, rfl, hsrc'⟩ := hsrc h0
      have hl := run_loadCells_list (P := P) w ad cs hsrc'
      have hst := run_storeCells_at P g 0 t cs 0 cur w hg (by omega) h1
      have hd : List.drop cs.length cur.toList = [] := by rw [List.drop_eq_nil_iff]; simp; omega
      simp [hd] at hst
      simp [Builtin.copy_, run_underlying hu, Builtin.lenOf, Builtin.firstCells, sizeOf, typeInfo, hq, hi, ← hcs, hl, hst]

theorem wpList_copy_all {P : Program} {w : World} {ops : Array Oper} {rest : List Oper} {o : Oper} {a : Act} {Q : Exit → Act → World → Prop} (hgd : o.guard = none) (d s : Operand) (dT sT : TypeId)
    (ho : o.op = .call { callee := .builtin .copy, args := #[d, s], argTypes := #[dT, sT] }) (elem : TypeId) (k : Nat) (hu : P.underlying dT = some (.slice elem)) (hsz : (P.info? elem).map (·.size) = some k)
    (g n dCap : Nat) (sp : Option Addr) (sCap : Nat) (hd : a.eval d = .slice (some ⟨g, 0, none⟩) n dCap) (hs : a.eval s = .slice sp n sCap)
    (cur : Array Value) (t : TypeId) (hg : w.heap[g]? = some (.cells cur t (0, 0))) (cs : List Value) (hcs : cs.length = n * k) (hcur : cur.size = n * k)
    (hsrc : cs ≠ [] → ∃ ad, sp = some ad ∧ ∀ j v, cs[j]? = some v → w.cell? (ad.add j) = some v) (h1 : ∀ v ∈ cs, v.oneCell' = true)
    (h : wpList P ops Q rest (a.put o.dst (goInt n)) (w.setRow g cs.toArray)) : wpList P ops Q (o :: rest) a w := by
  refine wpList_plain hgd fun K hK => ?_
  have hrun := run_copy_all (P := P) w dT sT o.type elem k g n dCap sp sCap cur t cs hu hsz hg hcs hcur hsrc h1
  unfold Oper.wp
  simp [execOp, ho, resolve, invoke, builtin, hd, hs, hrun, Result.andThen]
  exact hK _ _ h

theorem modify_push {α : Type} (xs : Array α) (x : α) (f : α → α) : (xs.push x).modify xs.size f = xs.push (f x) := by
  apply Array.ext_getElem?
  intro i
  rw [Array.getElem?_modify, Array.getElem?_push, Array.getElem?_push]
  by_cases h : xs.size = i
  · rw [if_pos h, if_pos h.symm, if_pos h.symm]; rfl
  · rw [if_neg h, if_neg (fun e => h e.symm), if_neg (fun e => h e.symm)]

theorem alloc_setRow (w : World) (c cs : Array Value) (t : TypeId) : (w.alloc (.cells c t)).setRow w.heap.size cs = w.alloc (.cells cs t) := by
  show ({ w with heap := (w.heap.push (.cells c t)).modify w.heap.size _ } : World) = { w with heap := w.heap.push (.cells cs t) }
  rw [modify_push]
end Go.Proofs.Ytopklnehhebhmaa
