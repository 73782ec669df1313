/- Memory: rows of numbers and of events, boxes, worlds that differ in a block. No function of the program. -/
import Derived.Test.YtkphdmfcmfojeaaRows
import Derived.Test.YtkphdmfcmfojeaaPlain
import Derived.Test.YtkphdmfcmfojeaaPlainState
import Derived.BigQuiet
import Derived.Deep.QuietTactic
import Derived.WalkLawsBesides
import Derived.Lib.Hide
import Derived.Laws.Rows
import Derived.Laws.Tables
import Derived.StillTailTactics
import Derived.Laws.StructEq
import Derived.ProofKit
import Derived.Lib.SmallJoins
import Derived.Deep.Slices
import Derived.Deep.Fields
import Derived.OpenShut
namespace Go.RowKit
theorem Below.drewN {B : Nat} {a w : World} (h : Below B a w) {n : Nat} : Below B a (w.drewN n) := ⟨h.os, h.tape, h.output, h.size, h.block⟩
end Go.RowKit
namespace Go.Proofs.Ytkphdmfcmfojeaa
open Go.RowKit

theorem ret_bool {a b : Bool} (h : a = b) : Ending.returned (.bool a) = .returned (.bool b) := by rw [h]
theorem below_alloc1 (w : World) (o : Obj) : Below w.heap.size w (w.alloc o) := (Below.refl _ _).alloc (Nat.le_refl _) _
theorem below_alloc2 (w : World) (o o2 : Obj) : Below w.heap.size w ((w.alloc o).alloc o2) := ((Below.refl _ _).alloc (Nat.le_refl _) _).alloc (by simp) _

/-- All but block b is as it was. -/
structure Only (b : Nat) (w w' : World) : Prop where
  os : w'.os = w.os
  tape : w'.tape = w.tape
  output : w'.output = w.output
  size : w.heap.size ≤ w'.heap.size
  block : ∀ k, k < w.heap.size → k ≠ b → w'.heap[k]? = w.heap[k]?

theorem Only.refl (b : Nat) (w : World) : Only b w w := ⟨rfl, rfl, rfl, Nat.le_refl _, fun _ _ _ => rfl⟩
theorem Only.trans {b : Nat} {u v w : World} (h : Only b u v) (k : Only b v w) : Only b u w :=
  ⟨k.os.trans h.os, k.tape.trans h.tape, k.output.trans h.output, Nat.le_trans h.size k.size, fun i hi hb => (k.block i (Nat.lt_of_lt_of_le hi h.size) hb).trans (h.block i hi hb)⟩
theorem Only.of_below {b : Nat} {w w' : World} (h : Below w.heap.size w w') : Only b w w' := ⟨h.os, h.tape, h.output, h.size, fun k hk _ => h.block k hk⟩
theorem Only.drew {b : Nat} {w w' : World} (h : Only b w w') : Only b w w'.drew := ⟨h.os, h.tape, h.output, h.size, h.block⟩
theorem Only.alloc {b : Nat} {w w' : World} (h : Only b w w') (o : Obj) : Only b w (w'.alloc o) := h.trans (.of_below ((Below.refl _ _).alloc (Nat.le_refl _) _))
theorem Only.setCell {b : Nat} {w w' : World} (h : Only b w w') (o : Nat) (v : Value) : Only b w (w'.setCell ⟨b, o, none⟩ v) :=
  h.trans ⟨rfl, rfl, rfl, by simp [World.setCell], fun k _ hb => Below.heap_setCell _ _ _ _ hb⟩
theorem Only.below {b B : Nat} {w w' : World} (h : Only b w w') (hB : B ≤ b) (hw : B ≤ w.heap.size) : Below B w w' :=
  ⟨h.os, h.tape, h.output, h.size, fun k hk => h.block k (by omega) (by omega)⟩
def evV (e : Ev) : Value := .agg #[.int .i64 e.thread, .int .i64 e.kind, .int .i64 e.obj, .bool e.fail]

theorem below_set4 {B g : Nat} {a w : World} (h : Below B a w) (hg : B ≤ g) (v0 v1 v2 v3 : Value) : Below B a ((((w.setCell ⟨g, 0, none⟩ v0).setCell ⟨g, 1, none⟩ v1).setCell ⟨g, 2, none⟩ v2).setCell ⟨g, 3, none⟩ v3) :=
  (((h.setCell (p := ⟨g, 0, none⟩) hg _).setCell (p := ⟨g, 1, none⟩) hg _).setCell (p := ⟨g, 2, none⟩) hg _).setCell (p := ⟨g, 3, none⟩) hg _

theorem evV_mk (t k o : Int) (f : Bool) : evV ⟨t, k, o, f⟩ = .agg #[.int .i64 t, .int .i64 k, .int .i64 o, .bool f] := rfl

/-- A row of numbers of the call's own. -/
def OwnN (w : World) (B : Nat) (v : Value) (ns : List Int) : Prop := w.ownsRow B 3 1 v ns.length (ns.map (Value.int .i64))
theorem OwnN.alloc {w : World} {B : Nat} {v : Value} {l : List Int} (h : OwnN w B v l) (o : Obj) : OwnN (w.alloc o) B v l := World.ownsRow.alloc h o
theorem ownN_nil (w : World) (B : Nat) : OwnN w B (.slice none 0 0) [] := World.ownsRow_nil w B _ _
theorem ownsRow_later {w w' : World} {base : Nat} {e : TypeId} {size : Nat} {v : Value} {n : Nat} {xs : List Value} (h : w.ownsRow base e size v n xs) (hb : Below w.heap.size w w') : w'.ownsRow base e size v n xs := by
  obtain ⟨h1, h2 | ⟨g, cap, cur, h2, h3, h4, h5⟩⟩ := h
  · exact ⟨h1, .inl h2⟩
  · exact ⟨h1, .inr ⟨g, cap, cur, h2, h3, (hb.block g (Array.getElem?_eq_some_iff.1 h4).1).trans h4, h5⟩⟩
theorem OwnN.later {w w' : World} {B : Nat} {v : Value} {l : List Int} (h : OwnN w B v l) (hb : Below w.heap.size w w') : OwnN w' B v l := ownsRow_later h hb

theorem nums_new (w : World) (ms : List Int) (t : TypeId) (g : Nat) (hg : g = w.heap.size) : ∀ j u, (ms.map (Value.int .i64))[j]? = some u → (w.alloc (.cells (ms.map (Value.int .i64)).toArray t)).cell? (Addr.add ⟨g, 0, none⟩ j) = some u := by
  subst hg
  intro j u hj
  have e : Addr.add ⟨w.heap.size, 0, none⟩ j = ⟨w.heap.size, j, none⟩ := by
    unfold Addr.add
    split
    · rename_i h0; subst h0; rfl
    · simp
  rw [e, World.cell?_alloc_new]
  simpa using hj

theorem wp_appendN {w : World} {ops : Array Oper} {rest : List Oper} {o : Oper} {a : Act} {Q : Exit → Act → World → Prop} (hgd : o.guard = none) (s x : Operand)
    (ho : o.op = .call { callee := .builtin .append, args := #[s, x], argTypes := #[41, 41] }) (B : Nat) (v : Value) (ns : List Int) (hs : a.eval s = v) (hown : OwnN w B v ns)
    (ad : Addr) (m c : Nat) (hx : a.eval x = .slice (some ad) m c) (ms : List Int) (hm : ms.length = m) (hnews : ∀ j u, (ms.map (Value.int .i64))[j]? = some u → w.cell? (ad.add j) = some u)
    (hlen : ns.length + m ≤ 1000000000) (hB : B ≤ w.heap.size)
    (h : ∀ v' w', OwnN w' B v' (ns ++ ms) → Below B w w' → w.grownBy w' v.ownBlock → wpList Try.prog ops Q rest (a.put o.dst v') w') : wpList Try.prog ops Q (o :: rest) a w := by
  have hinfo : (Try.prog.info? 3).map (fun i => (i.zero, i.size, i.bytes)) = some (some (.int .i64 0), 1, 8) := by kernel_rfl
  obtain ⟨i, hi, hzz⟩ := Option.map_eq_some_iff.1 hinfo
  simp only [Prod.mk.injEq] at hzz
  obtain ⟨hz, hsz, hby⟩ := hzz
  refine wpList_append_own w hgd s x 41 ho B 3 i (.int .i64 0) 1 8 Try.underlying41 hi hz hsz hby rfl (by decide) v ns.length (ns.map (Value.int .i64)) hs hown ad m c (ms.map (Value.int .i64)) hx (by simp [hm]) hnews
    (by intro u hu; obtain ⟨y, _, rfl⟩ := List.mem_map.1 hu; rfl) (by unfold maxLen; omega) (by omega) hB ?_
  intro v' w' h1 h2 _
  refine h v' w' ?_ ((Below.refl B w).grown h2 hB (fun k hk => (World.ownsRow.lt hown k hk).1)) h2
  unfold OwnN
  rw [List.length_append, List.map_append, hm]
  exact h1

/-- From the place a on lie, in w, the numbers ns. -/
def NumsAt (w : World) (a : Option Addr) (ns : List Int) : Prop :=
  ns.length ≤ maxLen ∧ (ns ≠ [] → ∃ b o, a = some ⟨b, o, none⟩ ∧ ∀ i (h : i < ns.length), w.cell? ⟨b, o + i, none⟩ = some (.int .i64 ns[i]))

theorem NumsAt.later {w w' : World} {a : Option Addr} {ns : List Int} (h : NumsAt w a ns) (hb : Below w.heap.size w w') : NumsAt w' a ns := by
  refine ⟨h.1, fun hn => ?_⟩
  obtain ⟨b, o, rfl, hc⟩ := h.2 hn
  exact ⟨b, o, rfl, fun i hi => cell_later hb (hc i hi)⟩

theorem OwnN.form {w : World} {B : Nat} {v : Value} {ns : List Int} (h : OwnN w B v ns) (hm : ns.length ≤ 1000000) : ∃ a cap, v = .slice a ns.length cap ∧ NumsAt w a ns ∧ (a = none → cap = 0) := by
  obtain ⟨h1, ⟨h2, h3⟩ | ⟨g, cap, cur, h2, h3, h4, h5, h6, h7, h8⟩⟩ := h
  · have e : ns = [] := List.eq_nil_of_length_eq_zero h3
    subst e
    exact ⟨none, 0, h2, ⟨by simp [maxLen], fun h => absurd rfl h⟩, fun _ => rfl⟩
  · refine ⟨some ⟨g, 0, none⟩, cap, h2, ⟨by unfold maxLen; omega, fun _ => ⟨g, 0, rfl, fun i hi => ?_⟩⟩, by simp⟩
    have hj : (ns.map (Value.int .i64))[i]? = some (.int .i64 ns[i]) := by simp [hi]
    rw [← h8, List.getElem?_take_of_lt (by omega)] at hj
    simp [World.cell?, h4]
    simpa using hj

theorem run_part_one {P : Program} (w : World) {t : TypeId} {d : TypeDesc} {xs : Array Value} {o : Nat} {v : Value} (hu : P.underlying t = some d) (hd : (match d with | .struct _ | .array _ _ => true | _ => false) = false) (hx : xs[o]? = some v) : (part t xs o).run P w = .ok v w := by
  have hagg : (isAgg t).run P w = .ok false w := by
    unfold isAgg
    rw [Sem.run_bind, run_underlying hu w]
    cases d <;> simp_all
  simp [part, hagg, hx]

theorem run_eqFields_consI {P : Program} (w : World) (d : Nat) (xs ys : Array Value) (f : Field) (fs : List Field) (k k' : IntKind) (a b : Int) (hn : f.name ≠ "_") (hu : P.underlying f.type = some (.int k'))
    (hx : xs[f.offset]? = some (.int k a)) (hy : ys[f.offset]? = some (.int k b)) :
    (Op.eqFields (d + 1) xs ys (f :: fs)).run P w = if a == b then (Op.eqFields (d + 1) xs ys fs).run P w else .ok false w := by
  rw [Op.eqFields, if_pos hn]
  simp only [Sem.run_bind, run_part_one w hu rfl hx, run_part_one w hu rfl hy, Result.andThen_ok, run_equalIn_int w d f.type k k' a b hu]
  cases h : (a == b) <;> simp

theorem run_eqFields_consB {P : Program} (w : World) (d : Nat) (xs ys : Array Value) (f : Field) (fs : List Field) (a b : Bool) (hn : f.name ≠ "_") (hu : P.underlying f.type = some .bool)
    (hx : xs[f.offset]? = some (.bool a)) (hy : ys[f.offset]? = some (.bool b)) :
    (Op.eqFields (d + 1) xs ys (f :: fs)).run P w = if a == b then (Op.eqFields (d + 1) xs ys fs).run P w else .ok false w := by
  rw [Op.eqFields, if_pos hn]
  simp only [Sem.run_bind, run_part_one w hu rfl hx, run_part_one w hu rfl hy, Result.andThen_ok, run_equalIn_bool w d f.type a b hu]
  cases h : (a == b) <;> simp

set_option maxRecDepth 100000 in
theorem run_equal_ev (e e' : Ev) (w : World) :
    (Op.equalIn 10000 128 (.agg #[.int .i64 e.thread, .int .i64 e.kind, .int .i64 e.obj, .bool e.fail]) (.agg #[.int .i64 e'.thread, .int .i64 e'.kind, .int .i64 e'.obj, .bool e'.fail])).run Try.prog w = .ok (decide (e = e')) w := by
  have hd : decide (e = e') = ((e.thread == e'.thread) && ((e.kind == e'.kind) && ((e.obj == e'.obj) && (e.fail == e'.fail)))) := by
    obtain ⟨a, b, c, d⟩ := e
    obtain ⟨a', b', c', d'⟩ := e'
    rw [Bool.eq_iff_iff]
    simp
  rw [hd]
  obtain ⟨a, b, c, d⟩ := e
  obtain ⟨a', b', c', d'⟩ := e'
  dsimp only
  clear hd
  have ht : Try.prog.underlying 128 = some (.struct (Try.prog.fieldsOf 128)) := by kernel_rfl
  have hp : Try.prog.stoodInHeld 128 = false := by kernel_rfl
  rw [run_equalIn_agg (P := Try.prog) w 9999 _ _ _ ht hp]
  unfold Program.fieldsOf
  rw [Try.underlying128]
  dsimp only
  rw [run_eqFields_consI (P := Try.prog) w 9998 _ _ _ _ .i64 .i64 a a' (by simp) Try.underlying3 rfl rfl]
  rw [run_eqFields_consI (P := Try.prog) w 9998 _ _ _ _ .i64 .i64 b b' (by simp) Try.underlying3 rfl rfl]
  rw [run_eqFields_consI (P := Try.prog) w 9998 _ _ _ _ .i64 .i64 c c' (by simp) Try.underlying3 rfl rfl]
  rw [run_eqFields_consB (P := Try.prog) w 9998 _ _ _ _ d d' (by simp) Try.underlying4 rfl rfl]
  rw [Op.eqFields]
  cases (a == a') <;> cases (b == b') <;> cases (c == c') <;> cases (d == d') <;> simp

/-- An event in a box. -/
def EvBox (w : World) (g : Nat) (e : Ev) : Prop := w.heap[g]? = some (.cells #[.int .i64 e.thread, .int .i64 e.kind, .int .i64 e.obj, .bool e.fail] 128 (0, 0))
theorem EvBox.lt {w : World} {g : Nat} {e : Ev} (h : EvBox w g e) : g < w.heap.size := (Array.getElem?_eq_some_iff.1 h).1
theorem EvBox.only {w w' : World} {b g : Nat} {e : Ev} (h : EvBox w g e) (ho : Only b w w') (hb : g ≠ b) : EvBox w' g e := (ho.block g h.lt hb).trans h
theorem EvBox.later {w w' : World} {g : Nat} {e : Ev} (h : EvBox w g e) (hb : Below w.heap.size w w') : EvBox w' g e := (hb.block g h.lt).trans h
theorem EvBox.new (w : World) (e : Ev) : EvBox (w.alloc (.cells #[.int .i64 e.thread, .int .i64 e.kind, .int .i64 e.obj, .bool e.fail] 128)) w.heap.size e := heap_alloc_new w _
theorem EvBox.cells {w : World} {g : Nat} {e : Ev} (h : EvBox w g e) : w.cell? ⟨g, 0, none⟩ = some (.int .i64 e.thread) ∧ w.cell? ⟨g, 1, none⟩ = some (.int .i64 e.kind) ∧ w.cell? ⟨g, 2, none⟩ = some (.int .i64 e.obj) ∧ w.cell? ⟨g, 3, none⟩ = some (.bool e.fail) := by
  simp [World.cell?, show w.heap[g]? = _ from h]

def evCell (e : Ev) : List Value := [.int .i64 e.thread, .int .i64 e.kind, .int .i64 e.obj, .bool e.fail]
def evCells (l : List Ev) : List Value := l.flatMap evCell
theorem evCells_length (l : List Ev) : (evCells l).length = l.length * 4 := by
  induction l with
  | nil => rfl
  | cons i l ih => simp only [evCells, evCell, List.flatMap_cons, List.length_append, List.length_cons, List.length_nil] at *; omega
theorem evCells_append (a b : List Ev) : evCells (a ++ b) = evCells a ++ evCells b := by simp [evCells]
theorem evCells_get (l : List Ev) (i j : Nat) (h : i < l.length) (hj : j < 4) : (evCells l)[i * 4 + j]? = (evCell l[i])[j]? := by
  induction l generalizing i with
  | nil => simp at h
  | cons x l ih =>
    cases i with
    | zero =>
      simp only [evCells, List.flatMap_cons, Nat.zero_mul, Nat.zero_add, List.getElem_cons_zero]
      rw [List.getElem?_append_left (by simpa [evCell] using hj)]
    | succ i =>
      have := ih i (by simpa using h)
      simp only [evCells, List.flatMap_cons, List.getElem_cons_succ] at *
      rw [List.getElem?_append_right (by simp [evCell]; omega), ← this]
      congr 1
      simp [evCell]
      omega
theorem evCells_one (l : List Ev) : ∀ v ∈ evCells l, v.oneCell' = true := by
  intro v hv
  simp only [evCells, List.mem_flatMap] at hv
  obtain ⟨i, _, hv⟩ := hv
  simp [evCell] at hv
  rcases hv with rfl | rfl | rfl | rfl <;> rfl

/-- A row of events of the call's own. -/
def OwnE (w : World) (B : Nat) (v : Value) (es : List Ev) : Prop := w.ownsRow B 128 4 v es.length (evCells es)
theorem OwnE.alloc {w : World} {B : Nat} {v : Value} {l : List Ev} (h : OwnE w B v l) (o : Obj) : OwnE (w.alloc o) B v l := World.ownsRow.alloc h o
theorem ownE_nil (w : World) (B : Nat) : OwnE w B (.slice none 0 0) [] := World.ownsRow_nil w B _ _
theorem OwnE.later {w w' : World} {B : Nat} {v : Value} {l : List Ev} (h : OwnE w B v l) (hb : Below w.heap.size w w') : OwnE w' B v l := ownsRow_later h hb
theorem ownsRow_only {w w' : World} {g base : Nat} {e : TypeId} {size : Nat} {v : Value} {n : Nat} {xs : List Value} (h : w.ownsRow base e size v n xs) (ho : Only g w w') (hg : g < base) : w'.ownsRow base e size v n xs := by
  obtain ⟨h1, h2 | ⟨b, cap, cur, h2, h3, h4, h5⟩⟩ := h
  · exact ⟨h1, .inl h2⟩
  · exact ⟨h1, .inr ⟨b, cap, cur, h2, h3, (ho.block b (Array.getElem?_eq_some_iff.1 h4).1 (by omega)).trans h4, h5⟩⟩
theorem OwnE.only {w w' : World} {B g : Nat} {v : Value} {l : List Ev} (h : OwnE w B v l) (ho : Only g w w') (hg : g < B) : OwnE w' B v l := ownsRow_only h ho hg

theorem ev_new (w : World) (e : Ev) (t : TypeId) (g : Nat) (hg : g = w.heap.size) : ∀ j u, (evCells [e])[j]? = some u → (w.alloc (.cells #[.int .i64 e.thread, .int .i64 e.kind, .int .i64 e.obj, .bool e.fail] t)).cell? (Addr.add ⟨g, 0, none⟩ j) = some u := by
  subst hg
  intro j u hj
  have e : Addr.add ⟨w.heap.size, 0, none⟩ j = ⟨w.heap.size, j, none⟩ := by
    unfold Addr.add
    split
    · rename_i h0; subst h0; rfl
    · simp
  rw [e, World.cell?_alloc_new]
  simpa [evCells, evCell] using hj

theorem wp_appendE {w : World} {ops : Array Oper} {rest : List Oper} {o : Oper} {a : Act} {Q : Exit → Act → World → Prop} (hgd : o.guard = none) (s x : Operand)
    (ho : o.op = .call { callee := .builtin .append, args := #[s, x], argTypes := #[60, 60] }) (B : Nat) (v : Value) (es : List Ev) (hs : a.eval s = v) (hown : OwnE w B v es)
    (ad : Addr) (hx : a.eval x = .slice (some ad) 1 1) (e : Ev) (hnews : ∀ j u, (evCells [e])[j]? = some u → w.cell? (ad.add j) = some u)
    (hlen : es.length ≤ 1000000) (hB : B ≤ w.heap.size)
    (h : ∀ v' w', OwnE w' B v' (es ++ [e]) → Below B w w' → wpList Try.prog ops Q rest (a.put o.dst v') w') : wpList Try.prog ops Q (o :: rest) a w := by
  have hinfo : (Try.prog.info? 128).map (fun i => (i.zero, i.size, i.bytes)) = some (some (.agg #[.int .i64 0, .int .i64 0, .int .i64 0, .bool false]), 4, 32) := by kernel_rfl
  obtain ⟨t, hi, hzz⟩ := Option.map_eq_some_iff.1 hinfo
  simp only [Prod.mk.injEq] at hzz
  obtain ⟨hz, hsz, hby⟩ := hzz
  refine wpList_append_own w hgd s x 60 ho B 128 t (.agg #[.int .i64 0, .int .i64 0, .int .i64 0, .bool false]) 4 32 Try.underlying60 hi hz hsz hby rfl (by decide) v es.length (evCells es) hs hown ad 1 1 (evCells [e]) hx rfl hnews
    (evCells_one _) (by unfold maxLen; omega) (by omega) hB ?_
  intro v' w' h1 h2 _
  refine h v' w' ?_ ((Below.refl B w).grown h2 hB (fun k hk => (World.ownsRow.lt hown k hk).1))
  unfold OwnE
  rw [List.length_append, evCells_append]
  exact h1

/-- From the place a on lie, in w, the events es. -/
def EvsAt (w : World) (a : Option Addr) (es : List Ev) : Prop :=
  es.length ≤ maxLen ∧ (es ≠ [] → ∃ b o, a = some ⟨b, o, none⟩ ∧ ∀ i (h : i < es.length), w.cell? ⟨b, o + i * 4, none⟩ = some (.int .i64 es[i].thread) ∧ w.cell? ⟨b, o + i * 4 + 1, none⟩ = some (.int .i64 es[i].kind) ∧
    w.cell? ⟨b, o + i * 4 + 2, none⟩ = some (.int .i64 es[i].obj) ∧ w.cell? ⟨b, o + i * 4 + 3, none⟩ = some (.bool es[i].fail))
theorem EvsAt.later {w w' : World} {a : Option Addr} {es : List Ev} (h : EvsAt w a es) (hb : Below w.heap.size w w') : EvsAt w' a es := by
  refine ⟨h.1, fun hn => ?_⟩
  obtain ⟨b, o, rfl, hc⟩ := h.2 hn
  refine ⟨b, o, rfl, fun i hi => ?_⟩
  obtain ⟨h0, h1, h2, h3⟩ := hc i hi
  exact ⟨cell_later hb h0, cell_later hb h1, cell_later hb h2, cell_later hb h3⟩
theorem evsAt_nil (w : World) (a : Option Addr) : EvsAt w a [] := ⟨by simp [maxLen], fun h => absurd rfl h⟩

theorem OwnE.form {w : World} {B : Nat} {v : Value} {es : List Ev} (h : OwnE w B v es) (hm : es.length ≤ 1000000) : ∃ a cap, v = .slice a es.length cap ∧ EvsAt w a es := by
  obtain ⟨h1, ⟨h2, h3⟩ | ⟨g, cap, cur, h2, h3, h4, h5, h6, h7, h8⟩⟩ := h
  · have e : es = [] := List.eq_nil_of_length_eq_zero h3
    subst e
    exact ⟨none, 0, h2, evsAt_nil _ _⟩
  · have hcell : ∀ j u, (evCells es)[j]? = some u → w.cell? ⟨g, j, none⟩ = some u := by
      intro j u hj
      have hjl : j < es.length * 4 := by
        have := (List.getElem?_eq_some_iff.1 hj).1
        rw [evCells_length] at this
        exact this
      rw [← h8, List.getElem?_take_of_lt (by omega)] at hj
      simp [World.cell?, h4]
      simpa using hj
    refine ⟨some ⟨g, 0, none⟩, cap, h2, ⟨by unfold maxLen; omega, fun _ => ⟨g, 0, rfl, fun i hi => ?_⟩⟩⟩
    simp only [Nat.zero_add]
    exact ⟨hcell _ _ (evCells_get es i 0 hi (by omega)), hcell _ _ (evCells_get es i 1 hi (by omega)), hcell _ _ (evCells_get es i 2 hi (by omega)), hcell _ _ (evCells_get es i 3 hi (by omega))⟩


theorem add_row (b o k : Nat) : Addr.add ⟨b, o, none⟩ k = ⟨b, o + k, none⟩ := by
  unfold Addr.add
  split
  · rename_i h; subst h; rfl
  · rfl

theorem run_index_one {P : Program} (w : World) {t elem : TypeId} {n : Nat} {cs : Array Value} {d : TypeDesc} (i : Nat) {v : Value} (hu : P.underlying t = some (.array n elem)) (he : P.underlying elem = some d)
    (hd : (match d with | .struct _ | .array _ _ => true | _ => false) = false) (hs : (P.info? elem).map (·.size) = some 1) (hi : i < n) (hv : cs[i]? = some v) : (Instr.index t (.agg cs) (.int .i64 i)).run P w = .ok v w := by
  cases hq : P.info? elem with
  | none => simp [hq] at hs
  | some x =>
    have hx : x.size = 1 := by simpa [hq] using hs
    have hagg : (isAgg elem).run P w = .ok false w := by
      unfold isAgg
      rw [Sem.run_bind, run_underlying he w]
      cases d <;> simp_all
    simp [Instr.index, asIntOf, run_underlying hu, hi, sizeOf, typeInfo, hq, hx, part, hagg, hv]

end Go.Proofs.Ytkphdmfcmfojeaa
