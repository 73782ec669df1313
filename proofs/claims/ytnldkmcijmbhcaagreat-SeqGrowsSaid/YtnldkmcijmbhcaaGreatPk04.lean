import Derived.Lib.SliceRun
import Derived.Deep.OwnRows
import Derived.Laws.OwnMore
import Derived.Maps.AppendAt
import Derived.Laws.CopyRow
import Derived.Laws.CopyOwn
import Derived.Laws.Externs
import Derived.Lib.Overlaps
import Derived.Lib.AppendZeros
import Derived.Lib.AppendZerosOnto
import Derived.Shelf.Spec.SlicesInsert
import Derived.Shelf.Spec.SlicesInsertGrow
import Derived.Deep.RegionHeld3
import Derived.Test.YtnldkmcijmbhcaaGreatPk01
import Derived.Test.YtnldkmcijmbhcaaGreatPk02
import Derived.Test.YtnldkmcijmbhcaaGreatPk03

/- A row that the call has made, and fills place by place. -/
namespace Go.Proofs.YtnldkmcijmbhcaaGreat
open Go.RowKit

theorem run_make_k {P : Program} (t e : TypeId) (z : Value) (k bytes : Nat) (ht : P.underlying t = some (.slice e)) (hinfo : (P.info? e).map (fun i => (i.zero, i.size, i.bytes)) = some (some z, k, bytes))
    (n : Nat) (hbytes : bytes * n ≤ 281474976710656) (h63 : n ≤ 9223372036854775807) (w : World) :
    (Instr.makeSlice t (.int .i64 (n : Int)) (.int .i64 (n : Int))).run P w = .ok (.slice (some ⟨w.heap.size, 0, none⟩) n n) (w.alloc (.cells (madeCells z.cells (n * k)) e)) := by
  obtain ⟨i, hi, hzz⟩ := Option.map_eq_some_iff.1 hinfo
  simp only [Prod.mk.injEq] at hzz
  obtain ⟨hz, hs, hb⟩ := hzz
  have hb' : (i.bytes : Int) * (n : Int) ≤ 281474976710656 := by
    rw [hb, ← Int.natCast_mul]; omega
  have h := run_make (P := P) w t e i z ht hi hz .i64 .i64 n n (by omega) (by omega) hb' (by omega)
  rw [hs] at h
  simpa using h

/-- In w the block g is the row xs. -/
def MidAt (w : World) (g : Nat) (t : TypeId) (xs : List Value) : Prop := w.heap[g]? = some (.cells xs.toArray t (0, 0))
theorem MidAt.lt {w : World} {g : Nat} {t : TypeId} {xs : List Value} (h : MidAt w g t xs) : g < w.heap.size := (Array.getElem?_eq_some_iff.1 h).1
theorem MidAt.later {w w' : World} {g : Nat} {t : TypeId} {xs : List Value} (h : MidAt w g t xs) (hb : Below w.heap.size w w') : MidAt w' g t xs := (hb.block g h.lt).trans h
theorem MidAt.cell {w : World} {g : Nat} {t : TypeId} {xs : List Value} (h : MidAt w g t xs) (j : Nat) : w.cell? ⟨g, j, none⟩ = xs[j]? := by
  simp [World.cell?, show w.heap[g]? = _ from h]
theorem MidAt.frozen {w : World} {g : Nat} {t : TypeId} {xs : List Value} (h : MidAt w g t xs) (j : Nat) : w.frozen? ⟨g, j, none⟩ = false := by
  simp [World.frozen?, show w.heap[g]? = _ from h]
theorem MidAt.set {w : World} {g : Nat} {t : TypeId} {xs : List Value} (h : MidAt w g t xs) (j : Nat) (v : Value) : MidAt (w.setCell ⟨g, j, none⟩ v) g t (xs.set j v) := by
  have := heap_setCell_same w g j _ _ v h
  unfold MidAt
  rw [this]
  simp
theorem MidAt.made (w : World) (t : TypeId) (z : Value) (n : Nat) : MidAt (w.alloc (.cells (madeCells #[z] n) t)) w.heap.size t (List.replicate n z) := by
  have := heap_alloc_new w (.cells (madeCells #[z] n) t)
  unfold MidAt
  rw [this]
  simp [madeCells]
  apply Array.ext <;> simp [Nat.mod_one]

/-- The first k places are filled. -/
def fill {T : Type} (f : T → Value) (z : Value) (l : List T) (k : Nat) : List Value := (l.take k).map f ++ List.replicate (l.length - k) z
theorem fill_zero {T : Type} (f : T → Value) (z : Value) (l : List T) : fill f z l 0 = List.replicate l.length z := by simp [fill]
theorem fill_all {T : Type} (f : T → Value) (z : Value) (l : List T) : fill f z l l.length = l.map f := by simp [fill]
theorem fill_length {T : Type} (f : T → Value) (z : Value) (l : List T) (k : Nat) (h : k ≤ l.length) : (fill f z l k).length = l.length := by simp [fill]; omega
theorem fill_set {T : Type} (f : T → Value) (z : Value) (l : List T) (k : Nat) (h : k < l.length) : (fill f z l k).set k (f l[k]) = fill f z l (k + 1) := by
  unfold fill
  have e : k - ((l.take k).map f).length = 0 := by simp; omega
  rw [List.set_append_right _ _ (by simp; omega), e, List.take_succ_eq_append_getElem h, show l.length - k = (l.length - (k + 1)) + 1 by omega, List.replicate_succ, List.map_append, List.append_assoc]
  rfl

end Go.Proofs.YtnldkmcijmbhcaaGreat

/- The contracts of event's Read and of the document's. -/
namespace Go.Proofs.YtnldkmcijmbhcaaGreat
open Go.RowKit

/-- The events of bytes, whether they may be or not. -/
def evsOf (s : List UInt8) : List Ev := s.map fun b => evOf b.toNat
def readOk (s : List UInt8) : Bool := (evsOf s).all rightEv
def readE (s : List UInt8) : List Ev := if readOk s then evsOf s else []

theorem set4 (pre zs : List Value) (z0 z1 z2 z3 v0 v1 v2 v3 : Value) (n : Nat) (hn : n = pre.length) :
    ((((pre ++ z0 :: z1 :: z2 :: z3 :: zs).set n v0).set (n + 1) v1).set (n + 2) v2).set (n + 3) v3 = pre ++ v0 :: v1 :: v2 :: v3 :: zs := by
  subst hn
  rw [List.set_append_right _ _ (by omega), List.set_append_right _ _ (by omega), List.set_append_right _ _ (by omega), List.set_append_right _ _ (by omega)]
  rw [show pre.length - pre.length = 0 by omega, show pre.length + 1 - pre.length = 1 by omega, show pre.length + 2 - pre.length = 2 by omega, show pre.length + 3 - pre.length = 3 by omega]
  rfl

/-- In the middle of reading: the block g has n events' room, the first ones are es. -/
def ERow (w : World) (g n : Nat) (es : List Ev) : Prop := es.length ≤ n ∧ ∃ zs : List Value, zs.length = (n - es.length) * 4 ∧ MidAt w g 81 (evCells es ++ zs)
theorem ERow.lt {w : World} {g n : Nat} {es : List Ev} (h : ERow w g n es) : g < w.heap.size := by obtain ⟨_, _, _, h⟩ := h; exact h.lt
theorem ERow.later {w w' : World} {g n : Nat} {es : List Ev} (h : ERow w g n es) (hb : Below w.heap.size w w') : ERow w' g n es := by
  obtain ⟨h1, zs, h2, h3⟩ := h
  exact ⟨h1, zs, h2, h3.later hb⟩
theorem ERow.frozen {w : World} {g n : Nat} {es : List Ev} (h : ERow w g n es) (j : Nat) : w.frozen? ⟨g, j, none⟩ = false := by obtain ⟨_, _, _, h⟩ := h; exact h.frozen j
theorem ERow.cell {w : World} {g n : Nat} {es : List Ev} (h : ERow w g n es) (j : Nat) (hj : j < n * 4) : ∃ v, w.cell? ⟨g, j, none⟩ = some v := by
  obtain ⟨h1, zs, h2, h3⟩ := h
  rw [h3.cell]
  exact ⟨_, List.getElem?_eq_getElem (by rw [List.length_append, evCells_length, h2, ← Nat.add_mul]; omega)⟩
theorem ERow.push {w : World} {g n k : Nat} {es : List Ev} (h : ERow w g n es) (hk : k = es.length) (hlt : k < n) (x : Ev) :
    ERow ((((w.setCell ⟨g, k * 4, none⟩ (.int .i64 x.thread)).setCell ⟨g, k * 4 + 1, none⟩ (.int .i64 x.kind)).setCell ⟨g, k * 4 + 2, none⟩ (.int .i64 x.obj)).setCell ⟨g, k * 4 + 3, none⟩ (.bool x.fail)) g n (es ++ [x]) := by
  obtain ⟨h1, zs, h2, h3⟩ := h
  subst hk
  match zs, h2 with
  | z0 :: z1 :: z2 :: z3 :: zs, h2 =>
    refine ⟨by simp; omega, zs, by simp at h2 ⊢; omega, ?_⟩
    have := (((h3.set (es.length * 4) (.int .i64 x.thread)).set (es.length * 4 + 1) (.int .i64 x.kind)).set (es.length * 4 + 2) (.int .i64 x.obj)).set (es.length * 4 + 3) (.bool x.fail)
    rw [set4 _ _ _ _ _ _ _ _ _ _ _ (by rw [evCells_length])] at this
    rw [evCells_append, List.append_assoc]
    exact this
  | [], h2 => simp at h2; omega
  | [_], h2 => simp at h2; omega
  | [_, _], h2 => simp at h2; omega
  | [_, _, _], h2 => simp at h2; omega
theorem ERow.made (w : World) (n : Nat) : ERow (w.alloc (.cells (madeCells #[.int .i64 0, .int .i64 0, .int .i64 0, .bool false] (n * 4)) 81)) w.heap.size n [] := by
  refine ⟨Nat.zero_le _, (madeCells #[.int .i64 0, .int .i64 0, .int .i64 0, .bool false] (n * 4)).toList, by simp [size_madeCells], ?_⟩
  have := heap_alloc_new w (.cells (madeCells #[.int .i64 0, .int .i64 0, .int .i64 0, .bool false] (n * 4)) 81)
  unfold MidAt
  rw [this]
  simp [evCells]
theorem ERow.evs {w : World} {g n : Nat} {es : List Ev} (h : ERow w g n es) (hm : es.length ≤ 1000000) : EvsAt w (some ⟨g, 0, none⟩) es := by
  obtain ⟨h1, zs, h2, h3⟩ := h
  have hcell : ∀ j u, (evCells es)[j]? = some u → w.cell? ⟨g, j, none⟩ = some u := by
    intro j u hj
    rw [h3.cell, List.getElem?_append_left (List.getElem?_eq_some_iff.1 hj).1]
    exact hj
  refine ⟨by unfold maxLen; omega, fun _ => ⟨g, 0, rfl, fun i hi => ?_⟩⟩
  simp only [Nat.zero_add]
  exact ⟨hcell _ _ (evCells_get es i 0 hi (by omega)), hcell _ _ (evCells_get es i 1 hi (by omega)), hcell _ _ (evCells_get es i 2 hi (by omega)), hcell _ _ (evCells_get es i 3 hi (by omega))⟩

end Go.Proofs.YtnldkmcijmbhcaaGreat

/- Rows of elements of several cells each, whatever they are. -/
namespace Go.Proofs.YtnldkmcijmbhcaaGreat
open Go.RowKit

section
variable {T : Type} {f : T → List Value} {n : Nat}

def cellsL (f : T → List Value) (l : List T) : List Value := l.flatMap f
theorem cellsL_length (hf : ∀ x, (f x).length = n) (l : List T) : (cellsL f l).length = l.length * n := by
  induction l with
  | nil => simp [cellsL]
  | cons x l ih =>
    unfold cellsL at *
    rw [List.flatMap_cons, List.length_append, ih, hf, List.length_cons, Nat.add_mul, Nat.one_mul]
    omega
theorem cellsL_append (f : T → List Value) (a b : List T) : cellsL f (a ++ b) = cellsL f a ++ cellsL f b := by simp [cellsL]
theorem cellsL_get (hf : ∀ x, (f x).length = n) (l : List T) (i j : Nat) (h : i < l.length) (hj : j < n) : (cellsL f l)[i * n + j]? = (f l[i])[j]? := by
  induction l generalizing i with
  | nil => simp at h
  | cons x l ih =>
    cases i with
    | zero =>
      simp only [cellsL, List.flatMap_cons, Nat.zero_mul, Nat.zero_add, List.getElem_cons_zero]
      rw [List.getElem?_append_left (by rw [hf]; exact hj)]
    | succ i =>
      have := ih i (by simpa using h)
      have e : (i + 1) * n + j - (f x).length = i * n + j := by rw [hf, Nat.add_mul]; omega
      simp only [cellsL, List.flatMap_cons, List.getElem_cons_succ] at *
      rw [List.getElem?_append_right (by rw [hf, Nat.add_mul]; omega), e, this]
theorem cellsL_one (h1 : ∀ x, ∀ v ∈ f x, v.oneCell' = true) (l : List T) : ∀ v ∈ cellsL f l, v.oneCell' = true := by
  intro v hv
  simp only [cellsL, List.mem_flatMap] at hv
  obtain ⟨x, _, hv⟩ := hv
  exact h1 x v hv
theorem cellsL_single (f : T → List Value) (x : T) : cellsL f [x] = f x := by simp [cellsL]
/-- Where a place of the cells stands. -/
theorem cellsL_ext (hf : ∀ x, (f x).length = n) (hn : 0 < n) {l : List T} {xs : List Value} (hl : xs.length = l.length * n) (h : ∀ i (h : i < l.length), ∀ j, j < n → xs[i * n + j]? = (f l[i])[j]?) : xs = cellsL f l := by
  apply List.ext_getElem?
  intro p
  by_cases hp : p < l.length * n
  · have h1 : p / n < l.length := Nat.div_lt_of_lt_mul (by rw [Nat.mul_comm]; exact hp)
    have h2 : p % n < n := Nat.mod_lt _ hn
    have e : p = p / n * n + p % n := by rw [Nat.mul_comm]; exact (Nat.div_add_mod p n).symm
    rw [e, h _ h1 _ h2, cellsL_get hf _ _ _ h1 h2]
  · rw [List.getElem?_eq_none (by omega), List.getElem?_eq_none (by rw [cellsL_length hf]; omega)]

/-- From the place a on lie, in w, the elements l. -/
def RowAt (w : World) (a : Option Addr) (n : Nat) (f : T → List Value) (l : List T) : Prop :=
  l.length ≤ maxLen ∧ (l ≠ [] → ∃ b o, a = some ⟨b, o, none⟩ ∧ ∀ i (h : i < l.length) j u, (f l[i])[j]? = some u → w.cell? ⟨b, o + i * n + j, none⟩ = some u)
theorem RowAt.later {w w' : World} {a : Option Addr} {l : List T} (h : RowAt w a n f l) (hb : Below w.heap.size w w') : RowAt w' a n f l := by
  refine ⟨h.1, fun hn => ?_⟩
  obtain ⟨b, o, rfl, hc⟩ := h.2 hn
  exact ⟨b, o, rfl, fun i hi j u hj => cell_later hb (hc i hi j u hj)⟩
theorem rowAt_nil (w : World) (a : Option Addr) (n : Nat) (f : T → List Value) : RowAt w a n f [] := ⟨by simp [maxLen], fun h => absurd rfl h⟩
/-- A piece of a row. -/
theorem RowAt.part {w : World} {b o : Nat} {l : List T} (h : RowAt w (some ⟨b, o, none⟩) n f l) (i m : Nat) : RowAt w (some ⟨b, o + i * n, none⟩) n f ((l.drop i).take m) := by
  refine ⟨Nat.le_trans (List.length_take_le' _ _) (Nat.le_trans (by simp) h.1), fun hn => ⟨b, o + i * n, rfl, fun k hk j u hj => ?_⟩⟩
  have hk' : i + k < l.length := by simp at hk; omega
  obtain ⟨b', o', e, hc⟩ := h.2 (by intro e; simp [e] at hk')
  cases e
  have h1 := hc (i + k) hk' j u (by simpa using hj)
  rw [Nat.add_mul, ← Nat.add_assoc] at h1
  exact h1

/-- A row of the call's own. -/
def OwnRow (w : World) (B : Nat) (t : TypeId) (n : Nat) (f : T → List Value) (v : Value) (l : List T) : Prop := w.ownsRow B t n v l.length (cellsL f l)
theorem OwnRow.alloc {w : World} {B : Nat} {t : TypeId} {v : Value} {l : List T} (h : OwnRow w B t n f v l) (o : Obj) : OwnRow (w.alloc o) B t n f v l := World.ownsRow.alloc h o
theorem ownRow_nil (w : World) (B : Nat) (t : TypeId) (n : Nat) (f : T → List Value) : OwnRow w B t n f (.slice none 0 0) [] := World.ownsRow_nil w B _ _
theorem OwnRow.later {w w' : World} {B : Nat} {t : TypeId} {v : Value} {l : List T} (h : OwnRow w B t n f v l) (hb : Below w.heap.size w w') : OwnRow w' B t n f v l := ownsRow_later h hb
theorem OwnRow.only {w w' : World} {B g : Nat} {t : TypeId} {v : Value} {l : List T} (h : OwnRow w B t n f v l) (ho : Only g w w') (hg : g < B) : OwnRow w' B t n f v l := ownsRow_only h ho hg
theorem OwnRow.form {w : World} {B : Nat} {t : TypeId} {v : Value} {l : List T} (h : OwnRow w B t n f v l) (hf : ∀ x, (f x).length = n) (hm : l.length ≤ 1000000) : ∃ a cap, v = .slice a l.length cap ∧ RowAt w a n f l ∧ (a = none → cap = 0) := by
  obtain ⟨h1, ⟨h2, h3⟩ | ⟨g, cap, cur, h2, h3, h4, h5, h6, h7, h8⟩⟩ := h
  · have e : l = [] := List.eq_nil_of_length_eq_zero h3
    subst e
    exact ⟨none, 0, h2, rowAt_nil _ _ _ _, fun _ => rfl⟩
  · refine ⟨some ⟨g, 0, none⟩, cap, h2, ⟨by unfold maxLen; omega, fun _ => ⟨g, 0, rfl, fun i hi j u hj => ?_⟩⟩, by simp⟩
    have hjn : j < n := by rw [← hf l[i]]; exact (List.getElem?_eq_some_iff.1 hj).1
    rw [← cellsL_get hf l i j hi hjn, ← h8] at hj
    have hlt : i * n + j < l.length * n := by
      have : (i + 1) * n ≤ l.length * n := Nat.mul_le_mul_right n hi
      rw [Nat.add_mul, Nat.one_mul] at this
      omega
    rw [List.getElem?_take_of_lt hlt] at hj
    simp [World.cell?, h4]
    simpa using hj
/-- A row that is not empty lies in a block of its own. -/
theorem OwnRow.block {w : World} {B : Nat} {t : TypeId} {v : Value} {l : List T} (h : OwnRow w B t n f v l) (hn : l ≠ []) : ∃ g cap, v = .slice (some ⟨g, 0, none⟩) l.length cap ∧ B ≤ g ∧ g < w.heap.size := by
  obtain ⟨h1, ⟨h2, h3⟩ | ⟨g, cap, cur, h2, h3, h4, h5, h6, h7, h8⟩⟩ := h
  · exact absurd (List.eq_nil_of_length_eq_zero h3) hn
  · exact ⟨g, cap, h2, h3, (Array.getElem?_eq_some_iff.1 h4).1⟩

theorem cells_new (w : World) (cs : List Value) (t : TypeId) (g : Nat) (hg : g = w.heap.size) : ∀ j u, cs[j]? = some u → (w.alloc (.cells cs.toArray t)).cell? (Addr.add ⟨g, 0, none⟩ j) = some u := by
  subst hg
  intro j u hj
  have e : Addr.add ⟨w.heap.size, 0, none⟩ j = ⟨w.heap.size, j, none⟩ := by rw [add_row, Nat.zero_add]
  rw [e, World.cell?_alloc_new]
  simpa using hj

/-- One element more. -/
theorem wp_appendR {P : Program} {w : World} {ops : Array Oper} {rest : List Oper} {o : Oper} {a : Act} {Q : Exit → Act → World → Prop} (st et : TypeId) (bytes : Nat) (z : Value) (hu : P.underlying st = some (.slice et))
    (hinfo : (P.info? et).map (fun i => (i.zero, i.size, i.bytes)) = some (some z, n, bytes)) (hz : z.cells.size = n) (hn : 0 < n) (hby : bytes ≤ 1000) (hf : ∀ x, (f x).length = n)
    (hgd : o.guard = none) (s x : Operand) (ho : o.op = .call { callee := .builtin .append, args := #[s, x], argTypes := #[st, st] }) (B : Nat) (v : Value) (l : List T) (hs : a.eval s = v) (hown : OwnRow w B et n f v l)
    (ad : Addr) (hx : a.eval x = .slice (some ad) 1 1) (e : T) (h1 : ∀ v ∈ f e, v.oneCell' = true) (hnews : ∀ j u, (f e)[j]? = some u → w.cell? (ad.add j) = some u) (hlen : l.length ≤ 1000000) (hB : B ≤ w.heap.size)
    (h : ∀ v' w', OwnRow w' B et n f v' (l ++ [e]) → Below B w w' → w.grownBy w' v.ownBlock → wpList P ops Q rest (a.put o.dst v') w') : wpList P ops Q (o :: rest) a w := by
  obtain ⟨i, hi, hzz⟩ := Option.map_eq_some_iff.1 hinfo
  simp only [Prod.mk.injEq] at hzz
  obtain ⟨hiz, hisz, hiby⟩ := hzz
  refine wpList_append_own w hgd s x st ho B et i z n bytes hu hi hiz hisz hiby hz hn v l.length (cellsL f l) hs hown ad 1 1 (f e) hx (by rw [hf, Nat.one_mul]) hnews
    h1 (by unfold maxLen; omega) ?_ hB ?_
  · have : (l.length + 1) * bytes ≤ 1000001 * 1000 := Nat.mul_le_mul (by omega) hby
    omega
  intro v' w' h2 h3 _
  refine h v' w' ?_ ((Below.refl B w).grown h3 hB (fun k hk => (World.ownsRow.lt hown k hk).1)) h3
  unfold OwnRow
  rw [List.length_append, cellsL_append, cellsL_single]
  exact h2

/-- One element more, and where the row lies then. -/
theorem wp_appendAt {P : Program} {w : World} {o : Oper} {a : Act} {K : Act → World → Prop} {Q : Exit → Act → World → Prop} (st et : TypeId) (bytes : Nat) (z : Value) (hu : P.underlying st = some (.slice et))
    (hinfo : (P.info? et).map (fun i => (i.zero, i.size, i.bytes)) = some (some z, n, bytes)) (hz : z.cells.size = n) (hn : 0 < n) (hby : bytes ≤ 1000) (hf : ∀ x, (f x).length = n)
    (s x : Operand) (ho : o.op = .call { callee := .builtin .append, args := #[s, x], argTypes := #[st, st] }) (B : Nat) (v : Value) (l : List T) (hs : a.eval s = v) (hown : OwnRow w B et n f v l)
    (ad : Addr) (hx : a.eval x = .slice (some ad) 1 1) (e : T) (h1 : ∀ v ∈ f e, v.oneCell' = true) (hnews : ∀ j u, (f e)[j]? = some u → w.cell? (ad.add j) = some u) (hlen : l.length ≤ 1000000) (hB : B ≤ w.heap.size)
    (h : ∀ v' w', OwnRow w' B et n f v' (l ++ [e]) → Below B w w' → w.grownBy w' v.ownBlock → (v'.ownBlock = v.ownBlock ∨ v'.ownBlock = some w.heap.size) → K (a.put o.dst v') w') : Oper.wp P o a w K Q := by
  obtain ⟨i, hi, hzz⟩ := Option.map_eq_some_iff.1 hinfo
  simp only [Prod.mk.injEq] at hzz
  obtain ⟨hiz, hisz, hiby⟩ := hzz
  have hbb : (l.length + 1) * bytes ≤ 140737488355328 := by
    have : (l.length + 1) * bytes ≤ 1000001 * 1000 := Nat.mul_le_mul (by omega) hby
    omega
  obtain ⟨v', w', hrun, r1, r2, _, r4⟩ := run_append_own_at (P := P) w B st o.type et i z n bytes hu hi hiz hisz hiby hz hn v l.length (cellsL f l) hown ad 1 1 (f e) (by rw [hf, Nat.one_mul]) hnews h1 (by unfold maxLen; omega) hbb hB
  have hK := h v' w' (by unfold OwnRow; rw [List.length_append, cellsL_append, cellsL_single]; exact r1) ((Below.refl B w).grown r2 hB (fun k hk => (World.ownsRow.lt hown k hk).1)) r2 r4
  unfold Oper.wp
  simp [execOp, ho, resolve, invoke, builtin, hs, hx, hrun, Result.andThen]
  exact hK
/-- The same in a region whose order is drawn. -/
theorem step_appendAt {P : Program} {w : World} {ops : Array Oper} {o : Oper} {a : Act} {K : Act → World → Prop} {Q : Exit → Act → World → Prop} {E : Prop} (st et : TypeId) (bytes : Nat) (z : Value) (hu : P.underlying st = some (.slice et))
    (hinfo : (P.info? et).map (fun i => (i.zero, i.size, i.bytes)) = some (some z, n, bytes)) (hz : z.cells.size = n) (hn : 0 < n) (hby : bytes ≤ 1000) (hf : ∀ x, (f x).length = n) (hgd : o.guard = none)
    (s x : Operand) (ho : o.op = .call { callee := .builtin .append, args := #[s, x], argTypes := #[st, st] }) (B : Nat) (v : Value) (l : List T) (hs : a.eval s = v) (hown : OwnRow w B et n f v l)
    (ad : Addr) (hx : a.eval x = .slice (some ad) 1 1) (e : T) (h1 : ∀ v ∈ f e, v.oneCell' = true) (hnews : ∀ j u, (f e)[j]? = some u → w.cell? (ad.add j) = some u) (hlen : l.length ≤ 1000000) (hB : B ≤ w.heap.size)
    (h : ∀ v' w', OwnRow w' B et n f v' (l ++ [e]) → Below B w w' → w.grownBy w' v.ownBlock → (v'.ownBlock = v.ownBlock ∨ v'.ownBlock = some w.heap.size) → K (a.put o.dst v') w') : if Region.wanted o (yielded ops a.tmps) = true then Oper.wp P o a w K Q else E := by
  have hw : Region.wanted o (yielded ops a.tmps) = true := by simp [Region.wanted, hgd]
  rw [if_pos hw]
  exact wp_appendAt st et bytes z hu hinfo hz hn hby hf s x ho B v l hs hown ad hx e h1 hnews hlen hB h

/-- Four numbers in a block. -/
def nums4 (c : Nat → Int) : List Value := [.int .i64 (c 0), .int .i64 (c 1), .int .i64 (c 2), .int .i64 (c 3)]
theorem nums4_congr {c d : Nat → Int} (h : ∀ t, t < 4 → c t = d t) : nums4 c = nums4 d := by
  unfold nums4
  rw [h 0 (by omega), h 1 (by omega), h 2 (by omega), h 3 (by omega)]
theorem nums4_get (c : Nat → Int) {t : Nat} (h : t < 4) : (nums4 c)[t]? = some (.int .i64 (c t)) := by
  rcases (by omega : t = 0 ∨ t = 1 ∨ t = 2 ∨ t = 3) with rfl | rfl | rfl | rfl <;> rfl
theorem nums4_set (c : Nat → Int) (v : Int) {t : Nat} (h : t < 4) : (nums4 c).set t (.int .i64 v) = nums4 (fun j => if j = t then v else c j) := by
  rcases (by omega : t = 0 ∨ t = 1 ∨ t = 2 ∨ t = 3) with rfl | rfl | rfl | rfl <;> rfl

theorem run_index4 {P : Program} (w : World) {t elem : TypeId} {d : TypeDesc} (c : Nat → Int) (q : Nat) (hu : P.underlying t = some (.array 4 elem)) (he : P.underlying elem = some d)
    (hd : (match d with | .struct _ | .array _ _ => true | _ => false) = false) (hs : (P.info? elem).map (·.size) = some 1) (hq : q < 4) : (Instr.index t (.agg #[.int .i64 (c 0), .int .i64 (c 1), .int .i64 (c 2), .int .i64 (c 3)]) (.int .i64 (q : Int))).run P w = .ok (.int .i64 (c q)) w :=
  run_index_one w q hu he hd hs hq (by rcases (by omega : q = 0 ∨ q = 1 ∨ q = 2 ∨ q = 3) with rfl | rfl | rfl | rfl <;> rfl)
end

end Go.Proofs.YtnldkmcijmbhcaaGreat

/- copy of elements of several cells, into the middle of a row of one's own; append of zeros behind a row's beginning. -/
namespace Go.Proofs.YtnldkmcijmbhcaaGreat
open Go.RowKit

/-- The cells behind a copy. -/
def putAt (cur : Array Value) (o : Nat) (cs : List Value) : Array Value := (cur.toList.take o ++ cs ++ cur.toList.drop (o + cs.length)).toArray
theorem putAt_size {cur : Array Value} {o : Nat} {cs : List Value} (h : o + cs.length ≤ cur.size) : (putAt cur o cs).size = cur.size := by
  simp [putAt]
  omega

theorem run_copy_at {P : Program} (w : World) (dT sT ty elem : TypeId) (k g o nd dCap : Nat) (ad : Addr) (ns sCap : Nat) (cur : Array Value) (t : TypeId) (cs : List Value)
    (hu : P.underlying dT = some (.slice elem)) (hs : (P.info? elem).map (·.size) = some k)
    (hg : w.heap[g]? = some (.cells cur t (0, 0))) (hcs : cs.length = Nat.min ns nd * k) (hfit : o + cs.length ≤ cur.size)
    (hsrc : ∀ j v, cs[j]? = some v → w.cell? (ad.add j) = some v) (h1 : ∀ v ∈ cs, v.oneCell' = true) :
    (Builtin.copy_ #[dT, sT] ty #[.slice (some ⟨g, o, none⟩) nd dCap, .slice (some ad) ns sCap]).run P w = .ok (goInt (Nat.min ns nd)) (w.setRow g (putAt cur o cs)) := by
  cases hq : P.info? elem with
  | none => simp [hq] at hs
  | some i =>
    have hi : i.size = k := by simpa [hq] using hs
    have hl := run_loadCells_list (P := P) w ad cs hsrc
    have hst := run_storeCells_at P g o t cs 0 cur w hg (by omega) h1
    rw [Nat.add_zero] at hst
    simp [Builtin.copy_, run_underlying hu, Builtin.lenOf, Builtin.firstCells, sizeOf, typeInfo, hq, hi, ← hcs, hl, hst, putAt]

theorem ev_size : (Tryz.prog.info? 81).map (·.size) = some 4 := by kernel_rfl
theorem ev_sizeOf (w : World) : (Go.sizeOf 81).run Tryz.prog w = .ok 4 w := by
  obtain ⟨i, hi, h4⟩ := Option.map_eq_some_iff.1 ev_size
  simp [sizeOf, typeInfo, hi, h4]
theorem infoEv : (Tryz.prog.info? 81).map (fun i => (i.zero, i.size, i.bytes)) = some (some (.agg #[.int .i64 0, .int .i64 0, .int .i64 0, .bool false]), 4, 32) := by kernel_rfl
theorem evCell_len (x : Ev) : (evCell x).length = 4 := rfl
theorem evCell_one (x : Ev) : ∀ v ∈ evCell x, v.oneCell' = true := by
  intro v hv
  simp [evCell] at hv
  rcases hv with rfl | rfl | rfl | rfl <;> rfl
theorem evCells_take (l : List Ev) (n : Nat) : evCells (l.take n) = (evCells l).take (n * 4) := by
  by_cases h : n ≤ l.length
  · have e : evCells l = evCells (l.take n) ++ evCells (l.drop n) := by rw [← evCells_append, List.take_append_drop]
    rw [e, List.take_left' (by rw [evCells_length, List.length_take]; omega)]
  · rw [List.take_of_length_le (l := l) (by omega), List.take_of_length_le (by rw [evCells_length]; omega)]
theorem evCells_drop (l : List Ev) (n : Nat) : evCells (l.drop n) = (evCells l).drop (n * 4) := by
  by_cases h : n ≤ l.length
  · have e : evCells l = evCells (l.take n) ++ evCells (l.drop n) := by rw [← evCells_append, List.take_append_drop]
    rw [e, List.drop_left' (by rw [evCells_length, List.length_take]; omega)]
  · have e : l.drop n = [] := List.drop_eq_nil_of_le (by omega)
    rw [e, List.drop_eq_nil_of_le (by rw [evCells_length]; omega)]
    rfl

/-- The cells when an event has been put in, in place. -/
theorem put_twice (X Y Z E : List Value) (p n : Nat) (hX : X.length = p + E.length) (hn : n = p + E.length + Y.length) :
    ((X ++ (Y ++ Z)).take p ++ E ++ (X ++ (Y ++ Z)).drop (p + E.length)).take n = X.take p ++ (E ++ Y) := by
  have a1 : (X ++ (Y ++ Z)).take p = X.take p := List.take_append_of_le_length (by omega)
  have a2 : (X ++ (Y ++ Z)).drop (p + E.length) = Y ++ Z := List.drop_left' hX
  rw [a1, a2]
  have e : X.take p ++ E ++ (Y ++ Z) = (X.take p ++ (E ++ Y)) ++ Z := by simp
  rw [e, List.take_left']
  simp only [List.length_append, List.length_take]
  omega
theorem shifted {cur : Array Value} {es : List Ev} {e : Ev} {i c : Nat} (hi : i ≤ es.length) (hc : cur.size = c * 4) (hroom : es.length + 1 ≤ c) (ht : cur.toList.take (es.length * 4) = evCells es) :
    (putAt (putAt cur ((i + 1) * 4) (evCells (es.drop i))) (i * 4) (evCell e)).toList.take ((es.length + 1) * 4) = evCells (es.take i ++ e :: es.drop i) := by
  have hsz : cur.toList.length = c * 4 := by simpa using hc
  have hl2 : (evCells (es.drop i)).length = (es.length - i) * 4 := by rw [evCells_length, List.length_drop]
  have h := put_twice (cur.toList.take ((i + 1) * 4)) (evCells (es.drop i)) (cur.toList.drop ((i + 1) * 4 + (evCells (es.drop i)).length)) (evCell e) (i * 4) ((es.length + 1) * 4)
    (by rw [List.length_take, hsz, evCell_len]; omega) (by rw [hl2, evCell_len]; omega)
  have e1 : (cur.toList.take ((i + 1) * 4)).take (i * 4) = evCells (es.take i) := by
    rw [evCells_take, ← ht, List.take_take, List.take_take, Nat.min_eq_left (by omega), Nat.min_eq_left (by omega)]
  rw [e1] at h
  rw [evCells_append, show evCells (e :: es.drop i) = evCell e ++ evCells (es.drop i) from rfl, ← h]
  simp [putAt]

end Go.Proofs.YtnldkmcijmbhcaaGreat

/- copy(dst, src) of elements of any number of cells, dst a whole row of the call's own of the same length. -/
namespace Go.Proofs.YtnldkmcijmbhcaaGreat
open Go.RowKit

theorem modify_push {α : Type} (xs : Array α) (x : α) (f : α → α) : (xs.push x).modify xs.size f = xs.push (f x) := by
  apply Array.ext_getElem?
  intro i
  rw [Array.getElem?_modify, Array.getElem?_push, Array.getElem?_push]
  by_cases h : xs.size = i
  · rw [if_pos h, if_pos h.symm, if_pos h.symm]; rfl
  · rw [if_neg h, if_neg (fun e => h e.symm), if_neg (fun e => h e.symm)]

theorem alloc_setRow (w : World) (c cs : Array Value) (t : TypeId) : (w.alloc (.cells c t)).setRow w.heap.size cs = w.alloc (.cells cs t) := by
  show ({ w with heap := (w.heap.push (.cells c t)).modify w.heap.size _ } : World) = { w with heap := w.heap.push (.cells cs t) }
  rw [modify_push]
end Go.Proofs.YtnldkmcijmbhcaaGreat

/- The contract of slices.Insert of one event into a row of one's own. -/
namespace Go.Proofs.YtnldkmcijmbhcaaGreat
open Go.RowKit

theorem overlaps_no (w : World) (vb b o la ca lb cb : Nat) (hne : vb ≠ b) (x y : Array Value) (ta tb : TypeId) (ha : w.heap[vb]? = some (.cells x ta (0, 0))) (hb : w.heap[b]? = some (.cells y tb (0, 0))) (hy : y.size ≠ 0) :
    (callFunc 142 #[.slice (some ⟨vb, 0, none⟩) la ca, .slice (some ⟨b, o, none⟩) lb cb]).run Tryz.prog w = .ok (.value (.bool false)) w := by
  rw [run_callFunc_extern Tryz.func142 (by kernel_rfl) (by kernel_rfl) (by kernel_rfl) (e := Extern.SlicesOverlaps.overlaps #[57, 57] #[4]) (by kernel_rfl),
    Lib.run_overlaps_apart w 57 4 81 Tryz.underlying57 4 ev_sizeOf ⟨vb, 0, none⟩ ⟨b, o, none⟩ la ca lb cb hne ta tb x.size y.size (by simp [World.shape?, ha]) (by simp [World.shape?, hb]) hy (by simp [World.frozen?, ha]) (by simp [World.frozen?, ha])]
  rfl

set_option maxHeartbeats 4000000 in
set_option maxRecDepth 100000 in
/-- There is room: in place. -/
theorem insert_shift (b n c i vb : Nat) (es : List Ev) (e : Ev) (w : World) (cur x : Array Value) (tx : TypeId) (hn : n = es.length) (hi : i < n) (hroom : n + 1 ≤ c) (hc : c ≤ maxLen) (hvb : vb ≠ b)
    (hg : w.heap[b]? = some (.cells cur 81 (0, 0))) (hcur : cur.size = c * 4) (ht : cur.toList.take (n * 4) = evCells es) (hx : w.heap[vb]? = some (.cells x tx (0, 0))) (hxe : ∀ (j : Nat) (v : Value), (evCell e)[j]? = some v → x[j]? = some v) :
    Calls Tryz.prog 122 #[.slice (some ⟨b, 0, none⟩) n c, .int .i64 i, .slice (some ⟨vb, 0, none⟩) 1 1] w fun r w' =>
      r = .returned (.slice (some ⟨b, 0, none⟩) (n + 1) c) ∧ w' = (w.drew.setRow b (putAt cur ((i + 1) * 4) (evCells (es.drop i)))).setRow b (putAt (putAt cur ((i + 1) * 4) (evCells (es.drop i))) (i * 4) (evCell e)) := by
  have hz2 : ¬ ((i : Int) = (n : Int)) := by omega
  unfold maxLen at hc
  have hov : ∀ o lb cb, (callFunc 142 #[.slice (some ⟨vb, 0, none⟩) 1 1, .slice (some ⟨b, o, none⟩) lb cb]).run Tryz.prog w = .ok (.value (.bool false)) w := fun o lb cb => overlaps_no w vb b o 1 1 lb cb hvb x cur tx _ hx hg (by omega)
  have hdl : (evCells (es.drop i)).length = (n - i) * 4 := by rw [evCells_length, List.length_drop, hn]
  have hw1 : IntKind.i64.wrap ((i : Int) + 1) = (i : Int) + 1 := by rw [IntKind.wrap_i64]; omega
  have hw2 : IntKind.i64.wrap ((n : Int) + 1) = (n : Int) + 1 := by rw [IntKind.wrap_i64]; omega
  have hb1 : (0 : Int) ≤ (i : Int) + 1 := by omega
  have hin : i ≤ n := by omega
  have hb2 : ¬ (c = i + 1) := by omega
  have hb3 : (i : Int) ≤ (n : Int) + 1 := by omega
  have hb4 : ¬ (c = i) := by omega
  have htn : ((i : Int) + 1).toNat = i + 1 := by omega
  have hcell : ∀ j v, (evCells es)[j]? = some v → w.cell? ⟨b, j, none⟩ = some v := fun j v hj => by
    have hjl : j < n * 4 := by have := (List.getElem?_eq_some_iff.1 hj).1; rw [evCells_length] at this; omega
    rw [← ht, List.getElem?_take_of_lt hjl] at hj
    simp [World.cell?, hg]
    simpa using hj
  have hcp1 : ∀ ty dc sc, (Builtin.copy_ #[57, 57] ty #[.slice (some ⟨b, (i + 1) * 4, none⟩) (n - i) dc, .slice (some ⟨b, i * 4, none⟩) (n + 1 - i) sc]).run Tryz.prog w.drew = .ok (goInt (Nat.min (n + 1 - i) (n - i))) (w.drew.setRow b (putAt cur ((i + 1) * 4) (evCells (es.drop i)))) := fun ty dc sc =>
    run_copy_at w.drew _ _ ty 81 4 b ((i + 1) * 4) (n - i) dc ⟨b, i * 4, none⟩ (n + 1 - i) sc cur _ (evCells (es.drop i)) Tryz.underlying57 ev_size hg (by rw [hdl]; simp only [Nat.min_def]; split <;> omega) (by rw [hdl]; omega)
      (fun j v hj => by rw [add_row]; exact hcell _ v (by rw [evCells_drop, List.getElem?_drop] at hj; exact hj)) (fun v hv => evCells_one _ v hv)
  obtain ⟨C1, hC1⟩ : ∃ C1, C1 = putAt cur ((i + 1) * 4) (evCells (es.drop i)) := ⟨_, rfl⟩
  have hC1s : C1.size = c * 4 := by rw [hC1, putAt_size (by rw [hdl]; omega), hcur]
  rw [← hC1] at hcp1 ⊢
  obtain ⟨W1, hW1⟩ : ∃ W1, W1 = w.drew.setRow b C1 := ⟨_, rfl⟩
  have hg1 : W1.heap[b]? = some (.cells C1 81 (0, 0)) := by rw [hW1]; exact setRow_heap _ _ _ _ _ _ hg
  have hv1 : W1.heap[vb]? = some (.cells x tx (0, 0)) := by rw [hW1, setRow_other _ _ _ _ hvb]; exact hx
  have hcp2 : ∀ ty dc, (Builtin.copy_ #[57, 57] ty #[.slice (some ⟨b, i * 4, none⟩) (n + 1 - i) dc, .slice (some ⟨vb, 0, none⟩) 1 1]).run Tryz.prog W1 = .ok (goInt (Nat.min 1 (n + 1 - i))) (W1.setRow b (putAt C1 (i * 4) (evCell e))) := fun ty dc =>
    run_copy_at W1 _ _ ty 81 4 b (i * 4) (n + 1 - i) dc ⟨vb, 0, none⟩ 1 1 C1 _ (evCell e) Tryz.underlying57 ev_size hg1 (by rw [evCell_len]; simp only [Nat.min_def]; split <;> omega) (by rw [evCell_len]; omega)
      (fun j v hj => by rw [add_row, Nat.zero_add]; simp [World.cell?, hv1]; exact hxe j v hj) (fun v hv => evCell_one e v hv)
  rw [← hW1] at hcp1 ⊢
  clear hC1 hW1 hn hg hx hg1 hv1 hcell hdl
  go_enter Tryz.func122, Tryz.ntmps122
  go_wp2_with (simp only [hov])
  go_region_law (refine step_copy_runI rfl _ _ 57 57 rfl _ _ (by simp [Act.eval, Act.put]) (by simp [Act.eval, Act.put]) (hcp1 _ _ _) ?_)
  go_wp2_with (at_builtin; refine wpList_copy_runI _ rfl _ _ 57 57 rfl _ _ rfl rfl (hcp2 _ _) ?_)
  go_ret
  exact ⟨rfl, rfl⟩

/-- A new row of n + 1 events. -/
def GrowR (w : World) (n : Nat) (es' : List Ev) (r : Ending) (w' : World) : Prop :=
  ∃ G C, r = .returned (.slice (some ⟨w.heap.size, 0, none⟩) (n + 1) G) ∧ n + 1 ≤ G ∧ G ≤ maxLen ∧ w'.os = w.os ∧ w'.tape = w.tape ∧ w'.output = w.output ∧ w'.heap = (w.alloc (.cells C 81)).heap ∧ C.size = G * 4 ∧ C.toList.take ((n + 1) * 4) = evCells es'

set_option maxHeartbeats 4000000 in
set_option maxRecDepth 100000 in
/-- There is no room: a new row. -/
theorem insert_grow (b n c i vb : Nat) (es : List Ev) (e : Ev) (w : World) (cur x : Array Value) (tx : TypeId) (hn : n = es.length) (hi : i < n) (hroom : c < n + 1) (hnc : n ≤ c) (hc : n ≤ 1000000)
    (hg : w.heap[b]? = some (.cells cur 81 (0, 0))) (ht : cur.toList.take (n * 4) = evCells es) (hx : w.heap[vb]? = some (.cells x tx (0, 0))) (hxe : ∀ (j : Nat) (v : Value), (evCell e)[j]? = some v → x[j]? = some v) :
    Calls Tryz.prog 122 #[.slice (some ⟨b, 0, none⟩) n c, .int .i64 i, .slice (some ⟨vb, 0, none⟩) 1 1] w (GrowR w n (es.take i ++ e :: es.drop i)) := by
  obtain ⟨i0, hi0, hzz⟩ := Option.map_eq_some_iff.1 infoEv
  simp only [Prod.mk.injEq] at hzz
  obtain ⟨hz0, hzs, hzb⟩ := hzz
  have hz2 : ¬ ((i : Int) = (n : Int)) := by omega
  have hz3 : (c : Int) < (n : Int) + 1 := by omega
  have hdl : (evCells (es.drop i)).length = (n - i) * 4 := by rw [evCells_length, List.length_drop, hn]
  have hcell : ∀ j v, (evCells es)[j]? = some v → w.cell? ⟨b, j, none⟩ = some v := fun j v hj => by
    have hjl : j < n * 4 := by have := (List.getElem?_eq_some_iff.1 hj).1; rw [evCells_length] at this; omega
    rw [← ht, List.getElem?_take_of_lt hjl] at hj
    simp [World.cell?, hg]
    simpa using hj
  have hbw : b < w.heap.size := (Array.getElem?_eq_some_iff.1 hg).1
  have hvw : vb < w.heap.size := (Array.getElem?_eq_some_iff.1 hx).1
  have hkk : (n : Int) + 1 - (i : Int) = ((n + 1 - i : Nat) : Int) := by omega
  have hik : i + (n + 1 - i) = n + 1 := by omega
  have htk : (evCells (es.take i)).length = i * 4 := by rw [evCells_length, List.length_take]; omega
  have hold : (Builtin.firstCells i0.size i (.slice (some ⟨b, 0, none⟩) i c)).run Tryz.prog w.drew = .ok (evCells (es.take i)).toArray w.drew := by
    rw [hzs]
    exact run_firstCells_some w.drew 4 i ⟨b, 0, none⟩ i c (evCells (es.take i)) htk (fun j v hj => by
      rw [add_row, Nat.zero_add]
      rw [evCells_take, List.getElem?_take] at hj
      split at hj
      · exact hcell j v hj
      · cases hj)
  obtain ⟨G, hG⟩ : ∃ G, G = grownCap w (n + 1) c 81 := ⟨_, rfl⟩
  have hGn : n + 1 ≤ G := by rw [hG]; exact grownCap_ge w _ _ _
  have hGm : G ≤ maxLen := by rw [hG]; exact grownCap_le_maxLen w (n + 1) c 81 (by unfold maxLen; omega)
  have hGm2 : G ≤ 9223372036854775807 := by unfold maxLen at hGm; omega
  obtain ⟨ROW, hROW⟩ : ∃ ROW : Array Value, ROW = (evCells (es.take i)).toArray ++ Builtin.zeroCells (Value.agg #[.int .i64 0, .int .i64 0, .int .i64 0, .bool false]).cells (n + 1 - i) ++ Builtin.zeroCells (Value.agg #[.int .i64 0, .int .i64 0, .int .i64 0, .bool false]).cells (G - (n + 1)) := ⟨_, rfl⟩
  have hrz : ∀ ty, (Builtin.append_ #[57, 3] ty #[.slice (some ⟨b, 0, none⟩) i c, .int .i64 ((n : Int) + 1 - (i : Int))]).run Tryz.prog w =
      .ok (.slice (some ⟨w.heap.size, 0, none⟩) (n + 1) G) (w.drew.alloc (.cells ROW 81)) := fun ty => by
    have h := Lib.run_append_grow_zeros w 57 3 ty 81 i0 _ .i64 .i64 Tryz.underlying57 Tryz.underlying3 hi0 hz0 (some ⟨b, 0, none⟩) i c (evCells (es.take i)) hold (n + 1 - i) (by omega) (by omega) (by omega) (by omega) (by rw [hzb]; omega) (by rw [hzb, hik]; exact growslice_fits hroom (by omega))
    rw [hik, ← hG, ← hROW] at h
    rw [hkk]
    exact h
  have hRs : ROW.size = G * 4 := by
    rw [hROW]
    simp [Builtin.zeroCells, Value.cells, htk]
    omega
  have hRt : ROW.toList.take (i * 4) = evCells (es.take i) := by
    rw [hROW]
    simp only [Array.toList_append, List.append_assoc]
    rw [List.take_left' htk]
  obtain ⟨W1, hW1⟩ : ∃ W1, W1 = w.drew.alloc (.cells ROW 81) := ⟨_, rfl⟩
  rw [← hW1] at hrz
  have hgN : W1.heap[w.heap.size]? = some (.cells ROW 81 (0, 0)) := by rw [hW1]; exact heap_alloc_new w.drew _
  have hOld : ∀ k, k < w.heap.size → W1.heap[k]? = w.heap[k]? := fun k hk => by rw [hW1]; exact heap_alloc_old w.drew _ hk
  obtain ⟨C1, hC1⟩ : ∃ C1, C1 = putAt ROW (i * 4) (evCell e) := ⟨_, rfl⟩
  have hC1s : C1.size = G * 4 := by rw [hC1, putAt_size (by rw [evCell_len]; omega), hRs]
  have hcpA : ∀ (W : World), W.heap = W1.heap → ∀ ty dc, (Builtin.copy_ #[57, 57] ty #[.slice (some ⟨w.heap.size, i * 4, none⟩) (n + 1 - i) dc, .slice (some ⟨vb, 0, none⟩) 1 1]).run Tryz.prog W = .ok (goInt (Nat.min 1 (n + 1 - i))) (W.setRow w.heap.size C1) := fun W hW ty dc => by
    rw [hC1]
    exact run_copy_at W _ _ ty 81 4 w.heap.size (i * 4) (n + 1 - i) dc ⟨vb, 0, none⟩ 1 1 ROW _ (evCell e) Tryz.underlying57 ev_size (by rw [hW]; exact hgN) (by rw [evCell_len]; simp only [Nat.min_def]; split <;> omega) (by rw [evCell_len]; omega)
      (fun j v hj => by rw [add_row, Nat.zero_add]; simp [World.cell?, hW, hOld vb hvw, hx]; exact hxe j v hj) (fun v hv => evCell_one e v hv)
  obtain ⟨C2, hC2⟩ : ∃ C2, C2 = putAt C1 ((i + 1) * 4) (evCells (es.drop i)) := ⟨_, rfl⟩
  have hC2s : C2.size = G * 4 := by rw [hC2, putAt_size (by rw [hdl]; omega), hC1s]
  obtain ⟨W2, hW2⟩ : ∃ W2, W2 = W1.setRow w.heap.size C1 := ⟨_, rfl⟩
  have hg2 : W2.heap[w.heap.size]? = some (.cells C1 81 (0, 0)) := by rw [hW2]; exact setRow_heap _ _ _ _ _ _ hgN
  have ho2 : ∀ k, k < w.heap.size → W2.heap[k]? = w.heap[k]? := fun k hk => by rw [hW2, setRow_other _ _ _ _ (by omega)]; exact hOld k hk
  have hcpB : ∀ (W : World), W.heap = W2.heap → ∀ ty dc sc, (Builtin.copy_ #[57, 57] ty #[.slice (some ⟨w.heap.size, (i + 1) * 4, none⟩) (n - i) dc, .slice (some ⟨b, i * 4, none⟩) (n - i) sc]).run Tryz.prog W = .ok (goInt (Nat.min (n - i) (n - i))) (W.setRow w.heap.size C2) := fun W hW ty dc sc => by
    rw [hC2]
    exact run_copy_at W _ _ ty 81 4 w.heap.size ((i + 1) * 4) (n - i) dc ⟨b, i * 4, none⟩ (n - i) sc C1 _ (evCells (es.drop i)) Tryz.underlying57 ev_size (by rw [hW]; exact hg2) (by rw [hdl]; simp only [Nat.min_def]; split <;> omega) (by rw [hdl]; omega)
      (fun j v hj => by
        rw [add_row]
        have h1 := hcell (i * 4 + j) v (by rw [evCells_drop, List.getElem?_drop] at hj; exact hj)
        rw [← h1]
        exact World.cell?_of_block (by rw [hW]; exact ho2 b hbw)) (fun v hv => evCells_one _ v hv)
  have hfin : C2.toList.take ((n + 1) * 4) = evCells (es.take i ++ e :: es.drop i) := by
    have hRl : ROW.toList.length = G * 4 := by simpa using hRs
    have hC1l : C1.toList = evCells (es.take i) ++ evCell e ++ ROW.toList.drop (i * 4 + 4) := by
      rw [hC1, ← hRt]
      simp [putAt, evCell_len]
    rw [hC2, evCells_append, show evCells (e :: es.drop i) = evCell e ++ evCells (es.drop i) from rfl]
    have hb1 : C1.toList.take ((i + 1) * 4) = evCells (es.take i) ++ evCell e := by
      rw [hC1l, List.take_left']
      rw [List.length_append, htk, evCell_len]
      omega
    have e1 : (putAt C1 ((i + 1) * 4) (evCells (es.drop i))).toList = (evCells (es.take i) ++ (evCell e ++ evCells (es.drop i))) ++ C1.toList.drop ((i + 1) * 4 + (evCells (es.drop i)).length) := by
      unfold putAt
      rw [hb1]
      simp
    rw [e1, List.take_left']
    rw [List.length_append, List.length_append, htk, evCell_len, hdl]
    omega
  have hGi : ¬ (G = i) := by omega
  have hGim : ¬ (G = i + 1) := by omega
  have hci : ¬ (c = i) := by omega
  have hw1 : IntKind.i64.wrap ((i : Int) + 1) = (i : Int) + 1 := by rw [IntKind.wrap_i64]; omega
  have hw2 : IntKind.i64.wrap ((n : Int) + 1) = (n : Int) + 1 := by rw [IntKind.wrap_i64]; omega
  have hw3 : IntKind.i64.wrap ((n : Int) + 1 - (i : Int)) = (n : Int) + 1 - (i : Int) := by rw [IntKind.wrap_i64]; omega
  have hb1 : (0 : Int) ≤ (i : Int) + 1 := by omega
  have hin : i ≤ n := by omega
  have htn : ((i : Int) + 1).toNat = i + 1 := by omega
  have hb3 : (i : Int) ≤ (n : Int) + 1 := by omega
  have hR1 : ∀ W : World, W.heap = W2.heap → (W.setRow w.heap.size C2).heap = (w.alloc (.cells C2 81)).heap := fun W hW => by
    have h0 : (W.setRow w.heap.size C2).heap = (W2.setRow w.heap.size C2).heap := by unfold World.setRow; simp only [hW]
    rw [h0, hW2, hW1, setRow_setRow]
    have h1 : (w.drew.alloc (.cells ROW 81)).setRow w.heap.size C2 = w.drew.alloc (.cells C2 81) := alloc_setRow w.drew _ _ _
    rw [h1]
    rfl
  have hR2 : W2.os = w.os ∧ W2.tape = w.tape ∧ W2.output = w.output := by rw [hW2, hW1]; exact ⟨rfl, rfl, rfl⟩
  have hW2h' : W2 = W1.setRow w.heap.size C1 := hW2
  have hW1h : W1.os = w.os ∧ W1.tape = w.tape ∧ W1.output = w.output := by rw [hW1]; exact ⟨rfl, rfl, rfl⟩
  clear hkk hik hold hROW hG hRt hC1 hC2 hW1 hW2 hg2 ho2 hgN hOld hcell ht hg hx hn hdl htk hRs hC1s hi0 hz0 hzs hzb
  have hP : Hid (n + 1 ≤ G ∧ G ≤ maxLen ∧ C2.size = G * 4 ∧ C2.toList.take ((n + 1) * 4) = evCells (es.take i ++ e :: es.drop i)) := ⟨hGn, hGm, hC2s, hfin⟩
  clear hC2s hfin
  go_enter Tryz.func122, Tryz.ntmps122
  go_wp2_with (first
    | (at_builtin; refine Lib.wpList_append_run _ rfl _ _ _ _ rfl _ _ rfl rfl _ _ (hrz _) ?_)
    | (at_builtin; refine wpList_copy_runI _ rfl _ _ 57 57 rfl _ _ rfl rfl (hcpA _ rfl _ _) ?_))
  rw [← hW2h'] at *
  go_region_law (refine step_copy_runI rfl _ _ 57 57 rfl (.slice (some ⟨w.heap.size, (i + 1) * 4, none⟩) (n - i) (G - (i + 1))) (.slice (some ⟨b, i * 4, none⟩) (n - i) (c - i)) (by simp [Act.eval, Act.put]) (by simp [Act.eval, Act.put]) (hcpB (World.drew W2) rfl 3 (G - (i + 1)) (c - i)) ?_)
  go_wp2
  go_ret
  exact ⟨G, C2, rfl, hP.out.1, hP.out.2.1, hR2.1, hR2.2.1, hR2.2.2, hR1 _ rfl, hP.out.2.2.1, hP.out.2.2.2⟩

/-- An event more in the middle of a row. -/
def insAt (es : List Ev) (i : Nat) (e : Ev) : List Ev := es.take i ++ e :: es.drop i
theorem insAt_length (es : List Ev) (i : Nat) (e : Ev) : (insAt es i e).length = es.length + 1 := by
  unfold insAt
  rw [List.length_append, List.length_cons, List.length_take, List.length_drop]
  omega
def InsR (B : Nat) (w : World) (v : Value) (es : List Ev) (r : Ending) (w' : World) : Prop :=
  ∃ v', r = .returned v' ∧ OwnE w' B v' es ∧ Below B w w' ∧ w.grownBy w' v.ownBlock ∧ (v'.ownBlock = v.ownBlock ∨ v'.ownBlock = some w.heap.size)

set_option maxHeartbeats 4000000 in
set_option maxRecDepth 100000 in
/-- At the end. -/
theorem insert_end (B : Nat) (a : Option Addr) (n c vb : Nat) (es : List Ev) (e : Ev) (w : World) (x : Array Value) (tx : TypeId) (hn : n = es.length) (hc : n ≤ 1000000) (hB : B ≤ w.heap.size) (hca : a = none → c = 0) (hnc : n ≤ c) (ha : a = none ∨ ∃ b, a = some ⟨b, 0, none⟩)
    (hown : OwnE w B (.slice a n c) es) (hx : w.heap[vb]? = some (.cells x tx (0, 0))) (hxe : ∀ (j : Nat) (v : Value), (evCell e)[j]? = some v → x[j]? = some v) :
    Calls Tryz.prog 122 #[.slice a n c, .int .i64 n, .slice (some ⟨vb, 0, none⟩) 1 1] w (InsR B w (.slice a n c) (insAt es n e)) := by
  have he : insAt es n e = es ++ [e] := by unfold insAt; rw [hn, List.take_length, List.drop_length]
  rw [he]
  obtain ⟨i0, hi0, hzz⟩ := Option.map_eq_some_iff.1 infoEv
  simp only [Prod.mk.injEq] at hzz
  obtain ⟨hz0, hzs, hzb⟩ := hzz
  have HO : Hid (w.ownsRow B 81 4 (.slice a n c) n (evCells es)) := by
    have h : w.ownsRow B 81 4 (.slice a n c) es.length (evCells es) := hown
    rw [← hn] at h
    exact h
  have hnews : ∀ j u, (evCell e)[j]? = some u → w.cell? ((⟨vb, 0, none⟩ : Addr).add j) = some u := fun j v hj => by rw [add_row, Nat.zero_add]; simp [World.cell?, hx]; exact hxe j v hj
  have HN := Lib.hid hn
  clear hown hx hxe hn he
  go_enter Tryz.func122, Tryz.ntmps122
  rcases ha with rfl | ⟨b, rfl⟩
  · obtain rfl : c = 0 := hca rfl
    obtain rfl : n = 0 := by omega
    go_wp2_with (at_builtin; refine wpList_append_own_at _ rfl _ _ 57 rfl B 81 i0 _ 4 32 Tryz.underlying57 hi0 hz0 hzs hzb rfl (by decide) _ _ _ rfl HO.out ⟨vb, 0, none⟩ 1 1 (evCell e) rfl rfl hnews (evCell_one e) (by unfold maxLen; omega) (by omega) hB ?_; intro v' w' h1 h2 _ h4)
    go_ret
    exact ⟨v', rfl, (by unfold OwnE; rw [List.length_append, evCells_append, ← HN.out]; exact h1), (Below.refl B w).grown h2 hB (fun k hk => (World.ownsRow.lt HO.out k hk).1), h2, h4⟩
  · go_wp2_with (at_builtin; refine wpList_append_own_at _ rfl _ _ 57 rfl B 81 i0 _ 4 32 Tryz.underlying57 hi0 hz0 hzs hzb rfl (by decide) _ _ _ rfl HO.out ⟨vb, 0, none⟩ 1 1 (evCell e) rfl rfl hnews (evCell_one e) (by unfold maxLen; omega) (by omega) hB ?_; intro v' w' h1 h2 _ h4)
    all_goals
      go_ret
      exact ⟨v', rfl, (by unfold OwnE; rw [List.length_append, evCells_append, ← HN.out]; exact h1), (Below.refl B w).grown h2 hB (fun k hk => (World.ownsRow.lt HO.out k hk).1), h2, h4⟩

theorem setCells2_grown (w : World) (b : Nat) (A1 A2 : Array Value) : w.grownBy ((w.drew.setRow b A1).setRow b A2) (some b) :=
  ⟨rfl, rfl, rfl, by simp, fun k _ hk => by rw [setRow_other _ _ _ _ (fun e => hk (by rw [e])), setRow_other _ _ _ _ (fun e => hk (by rw [e]))]; rfl⟩

/-- Wherever it goes. -/
theorem insert_any (B : Nat) (v : Value) (i vb : Nat) (es : List Ev) (e : Ev) (w : World) (x : Array Value) (tx : TypeId) (hi : i ≤ es.length) (hm : es.length ≤ 1000) (hB : B ≤ w.heap.size)
    (hown : OwnE w B v es) (hx : w.heap[vb]? = some (.cells x tx (0, 0))) (hxe : ∀ (j : Nat) (v : Value), (evCell e)[j]? = some v → x[j]? = some v) (hv : v.ownBlock ≠ some vb) :
    Calls Tryz.prog 122 #[v, .int .i64 i, .slice (some ⟨vb, 0, none⟩) 1 1] w (InsR B w v (insAt es i e)) := by
  have hO : w.ownsRow B 81 4 v es.length (evCells es) := hown
  obtain ⟨h1, ⟨h2, h3⟩ | ⟨g, cap, cur, h2, h3, h4, h5, h6, h7, h8⟩⟩ := hO
  · obtain rfl : i = es.length := by omega
    subst h2
    have h := insert_end B none 0 0 vb es e w x tx h3.symm (by omega) hB (fun _ => rfl) (Nat.le_refl _) (.inl rfl) hown hx hxe
    rw [h3]
    exact h
  · subst h2
    by_cases hin : i = es.length
    · subst hin
      exact insert_end B (some ⟨g, 0, none⟩) es.length cap vb es e w x tx rfl (by omega) hB (by simp) h5 (.inr ⟨g, rfl⟩) hown hx hxe
    · have hlt : i < es.length := by omega
      have hvb : vb ≠ g := fun e => hv (by rw [e]; rfl)
      have hgw : g < w.heap.size := (Array.getElem?_eq_some_iff.1 h4).1
      by_cases hroom : es.length + 1 ≤ cap
      · refine (insert_shift g es.length cap i vb es e w cur x tx rfl hlt hroom h6 hvb h4 h7 h8 hx hxe).mono ?_
        rintro r w' ⟨rfl, rfl⟩
        have hgr := setCells2_grown w g (putAt cur ((i + 1) * 4) (evCells (es.drop i))) (putAt (putAt cur ((i + 1) * 4) (evCells (es.drop i))) (i * 4) (evCell e))
        have hdl : (evCells (es.drop i)).length = (es.length - i) * 4 := by rw [evCells_length, List.length_drop]
        have hs1 : (putAt cur ((i + 1) * 4) (evCells (es.drop i))).size = cap * 4 := by rw [putAt_size (by rw [hdl, h7]; omega), h7]
        have hs2 : (putAt (putAt cur ((i + 1) * 4) (evCells (es.drop i))) (i * 4) (evCell e)).size = cap * 4 := by rw [putAt_size (by rw [evCell_len, hs1]; omega), hs1]
        refine ⟨_, rfl, ?_, (Below.refl B w).grown hgr hB (fun k hk => (World.ownsRow.lt hown k hk).1), hgr, .inl rfl⟩
        refine ⟨by rw [evCells_length], .inr ⟨g, cap, _, by rw [insAt_length], h3, setRow_heap _ _ _ _ _ _ (setRow_heap _ _ _ _ _ _ h4), by rw [insAt_length]; exact hroom, h6, hs2, ?_⟩⟩
        rw [insAt_length]
        exact shifted (by omega) h7 hroom h8
      · refine (insert_grow g es.length cap i vb es e w cur x tx rfl hlt (by omega) h5 (by omega) h4 h8 hx hxe).mono ?_
        rintro r w' ⟨G, C, rfl, g1, g2, g3, g4, g5, g6, g7, g8⟩
        have hsz : w'.heap.size = w.heap.size + 1 := by rw [g6]; simp
        have hgr : w.grownBy w' (some g) := ⟨g3, g4, g5, by omega, fun k hk _ => by rw [g6]; exact heap_alloc_old w _ hk⟩
        refine ⟨_, rfl, ?_, (Below.refl B w).grown hgr hB (fun k hk => (World.ownsRow.lt hown k hk).1), hgr, .inr rfl⟩
        refine ⟨by rw [evCells_length], .inr ⟨w.heap.size, G, C, by rw [insAt_length], hB, by rw [g6]; exact heap_alloc_new w _, by rw [insAt_length]; exact g1, g2, g7, ?_⟩⟩
        rw [insAt_length]
        exact g8

end Go.Proofs.YtnldkmcijmbhcaaGreat

/- Rows that may be, and the contract of the document's Rows. -/
namespace Go.Proofs.YtnldkmcijmbhcaaGreat
open Go.RowKit

/-- May all events be? -/
def rightL (l : List Ev) : Bool := l.all rightEv
theorem rightL_take (l : List Ev) (k : Nat) (h : k < l.length) : rightL (l.take (k + 1)) = (rightL (l.take k) && rightEv l[k]) := by
  unfold rightL
  rw [List.take_succ_eq_append_getElem h, List.all_append]
  simp
theorem rightL_no {l : List Ev} {k : Nat} (h : k < l.length) (hr : rightEv l[k] = false) : rightL l = false := by
  unfold rightL
  rw [List.all_eq_false]
  exact ⟨l[k], List.getElem_mem h, by simp [hr]⟩
theorem rightL_get {l : List Ev} (h : rightL l = true) {k : Nat} (hk : k < l.length) : rightEv l[k] = true := by
  unfold rightL at h
  exact List.all_eq_true.1 h _ (List.getElem_mem hk)

set_option maxRecDepth 100000 in
set_option maxHeartbeats 1000000 in
theorem rows_any (a : Option Addr) (cap : Nat) (l : List Ev) (w : World) (hl : EvsAt w a l) :
    Calls Tryz.prog 50 #[.slice a l.length cap] w fun r w' => r = .returned (.bool (rightL l)) ∧ Below w.heap.size w w' := by
  have hm := hl.1
  unfold maxLen at hm
  have HL := Lib.hid hl
  clear hl
  go_enter Tryz.func50, Tryz.ntmps50
  go_wp2
  go_loopw [3] (fun i wr => ∃ k : Nat, k ≤ l.length ∧ i = .int .i64 k ∧ Hid (rightL (l.take k) = true) ∧ Below w.heap.size w wr) (fun i _ => l.length - (intOf i).toNat)
  case atStart => exact ⟨0, Nat.zero_le _, rfl, rfl, Below.refl _ _⟩
  case round =>
    obtain ⟨k, hk, rfl, HR, hb⟩ := hrel
    by_cases hlt : k < l.length
    · obtain ⟨b, o, rfl, hc⟩ := HL.out.2 (by intro e; simp [e] at hlt)
      obtain ⟨c0, c1, c2, c3⟩ := hc k hlt
      have d0 := cell_later hb c0
      have d1 := cell_later hb c1
      have d2 := cell_later hb c2
      have d3 := cell_later hb c3
      have HT := Lib.hid (rightL_take l k hlt)
      have hx1 : Hid (rightEv l[k] = false → rightL l = false) := fun h => rightL_no hlt h
      clear hc c0 c1 c2 c3
      generalize l[k] = x at *
      go_wp2_with fail
      refine (refEvRight_any x _).mono ?_
      rintro r w2 ⟨rfl, hb5⟩
      have hb6 := hb.trans (hb5.mono hb.size)
      clear hb5
      cases hr : rightEv x
      · have HN := Lib.hid (hx1.out hr)
        clear hx1 HT
        go_wp2
        go_ret
        exact ⟨ret_bool HN.out.symm, hb6⟩
      · have HN : Hid (rightL (l.take (k + 1)) = true) := by show _ = _; rw [HT.out, HR.out, hr]; rfl
        clear hx1 HT
        go_wp2
        go_roundw
        case rel => exact ⟨k + 1, by omega, by go_num, HN, hb6⟩
        case measure => simp [intOf]; omega
    · obtain rfl : k = l.length := by omega
      have HE : Hid (rightL l = true) := by have h := HR.out; rw [List.take_length] at h; exact h
      go_wp2
      go_ret
      exact ⟨ret_bool HE.out.symm, hb⟩

end Go.Proofs.YtnldkmcijmbhcaaGreat

/- A part of a row, and one of its events. -/
namespace Go.Proofs.YtnldkmcijmbhcaaGreat
open Go.RowKit

theorem EvsAt.take {w : World} {a : Option Addr} {l : List Ev} (h : EvsAt w a l) (k : Nat) : EvsAt w a (l.take k) := by
  refine ⟨Nat.le_trans (List.length_take_le' _ _) h.1, fun hn => ?_⟩
  obtain ⟨b, o, rfl, hc⟩ := h.2 (by intro e; simp [e] at hn)
  refine ⟨b, o, rfl, fun i hi => ?_⟩
  have hi' : i < l.length := by simp at hi; omega
  have h1 := hc i hi'
  simpa using h1
theorem EvsAt.one {w : World} {a : Option Addr} {l : List Ev} (h : EvsAt w a l) {k : Nat} (hk : k < l.length) : ∃ b o, a = some ⟨b, o, none⟩ ∧ w.cell? ⟨b, o + k * 4, none⟩ = some (.int .i64 (evI l k).thread) ∧ w.cell? ⟨b, o + k * 4 + 1, none⟩ = some (.int .i64 (evI l k).kind) ∧
    w.cell? ⟨b, o + k * 4 + 2, none⟩ = some (.int .i64 (evI l k).obj) ∧ w.cell? ⟨b, o + k * 4 + 3, none⟩ = some (.bool (evI l k).fail) := by
  obtain ⟨b, o, rfl, hc⟩ := h.2 (by intro e; simp [e] at hk)
  refine ⟨b, o, rfl, ?_⟩
  rw [evI_get hk]
  exact hc k hk
end Go.Proofs.YtnldkmcijmbhcaaGreat

/-
  Plain data for layer 5: the levels of a row. Nothing of the translation.
-/
namespace Go.Proofs.YtnldkmcijmbhcaaGreat

/-- The level of one event more. -/
def lvN (m : List (List Ev)) (e : Ev) : Nat := top (fun i => i + 1) (fun i => (m.getD i []).any fun x => dep x e) m.length
/-- By rising threads. -/
def insE (e : Ev) : List Ev → List Ev
  | [] => [e]
  | x :: r => if e.thread < x.thread then e :: x :: r else x :: insE e r
def putL (m : List (List Ev)) (n : Nat) (e : Ev) : List (List Ev) := if n < m.length then m.set n (insE e (m.getD n [])) else m ++ [[e]]
def addL (m : List (List Ev)) (e : Ev) : List (List Ev) := putL m (lvN m e) e
def lvls (l : List Ev) : List (List Ev) := l.foldl addL []

theorem lvls_snoc (l : List Ev) (e : Ev) : lvls (l ++ [e]) = addL (lvls l) e := by unfold lvls; rw [List.foldl_append]; rfl
theorem lvN_le (m : List (List Ev)) (e : Ev) : lvN m e ≤ m.length := top_le fun _ hi _ => hi
theorem lvN_ge {m : List (List Ev)} {e : Ev} {i : Nat} (hi : i < m.length) (h : ∃ x ∈ m.getD i [], dep x e = true) : i < lvN m e :=
  top_ge (f := fun i => i + 1) (q := fun i => (m.getD i []).any fun x => dep x e) hi (List.any_eq_true.2 h)
theorem lvN_some {m : List (List Ev)} {e : Ev} {i : Nat} (h : lvN m e = i + 1) : ∃ x ∈ m.getD i [], dep x e = true := by
  rcases top_zero_or (f := fun i => i + 1) (q := fun i => (m.getD i []).any fun x => dep x e) (n := m.length) with h0 | ⟨j, _, hq, hj⟩
  · have h1 : lvN m e = 0 := h0
    omega
  · have h1 : lvN m e = j + 1 := hj
    obtain rfl : i = j := by omega
    exact List.any_eq_true.1 hq
/-- Nothing from its level on depends on it. -/
theorem lvN_free {m : List (List Ev)} {e : Ev} {i : Nat} (hi : lvN m e ≤ i) {x : Ev} (hx : x ∈ m.getD i []) : dep x e = false := by
  cases hd : dep x e
  · rfl
  · exfalso
    by_cases hl : i < m.length
    · have := lvN_ge hl ⟨x, hx, hd⟩
      omega
    · simp [List.getD, List.getElem?_eq_none (Nat.le_of_not_lt hl)] at hx

theorem top_congr {f : Nat → Nat} {q r : Nat → Bool} {n : Nat} (h : ∀ i, i < n → q i = r i) : top f q n = top f r n := by
  induction n with
  | zero => rfl
  | succ n ih => rw [top_succ, top_succ, ih (fun i hi => h i (by omega)), h n (by omega)]

theorem mem_insE {e x : Ev} {r : List Ev} : x ∈ insE e r ↔ x = e ∨ x ∈ r := by
  induction r with
  | nil => simp [insE]
  | cons y r ih =>
    unfold insE
    split
    · simp
    · rw [List.mem_cons, ih, List.mem_cons]
      constructor
      · rintro (h | h | h) <;> simp [h]
      · rintro (h | h | h) <;> simp [h]
theorem insE_length (e : Ev) (r : List Ev) : (insE e r).length = r.length + 1 := by
  induction r with
  | nil => rfl
  | cons y r ih =>
    unfold insE
    split
    · rfl
    · rw [List.length_cons, ih, List.length_cons]
theorem insE_split (e : Ev) (r : List Ev) : ∃ r1 r2, r = r1 ++ r2 ∧ insE e r = r1 ++ e :: r2 := by
  induction r with
  | nil => exact ⟨[], [], rfl, rfl⟩
  | cons y r ih =>
    unfold insE
    split
    · exact ⟨[], y :: r, rfl, rfl⟩
    · obtain ⟨r1, r2, h1, h2⟩ := ih
      exact ⟨y :: r1, r2, by rw [h1]; rfl, by rw [h2]; rfl⟩
theorem insE_cons_lt {e x : Ev} (r : List Ev) (h : e.thread < x.thread) : insE e (x :: r) = e :: x :: r := by rw [insE, if_pos h]
theorem insE_cons_ge {e x : Ev} (r : List Ev) (h : ¬ e.thread < x.thread) : insE e (x :: r) = x :: insE e r := by rw [insE, if_neg h]
theorem insE_comm {e f : Ev} (h : e.thread ≠ f.thread) (r : List Ev) : insE e (insE f r) = insE f (insE e r) := by
  induction r with
  | nil =>
    rcases (by omega : e.thread < f.thread ∨ f.thread < e.thread) with hl | hl
    · have : ¬ f.thread < e.thread := by omega
      simp [insE, hl, this]
    · have : ¬ e.thread < f.thread := by omega
      simp [insE, hl, this]
  | cons x r ih =>
    by_cases he : e.thread < x.thread
    · by_cases hf : f.thread < x.thread
      · rw [insE_cons_lt r he, insE_cons_lt r hf]
        rcases (by omega : e.thread < f.thread ∨ f.thread < e.thread) with hl | hl
        · rw [insE_cons_lt _ hl, insE_cons_ge _ (by omega), insE_cons_lt r hf]
        · rw [insE_cons_ge _ (by omega), insE_cons_lt r he, insE_cons_lt _ hl]
      · rw [insE_cons_lt r he, insE_cons_ge r hf, insE_cons_lt _ he, insE_cons_ge _ (by omega), insE_cons_ge r hf]
    · by_cases hf : f.thread < x.thread
      · rw [insE_cons_ge r he, insE_cons_lt r hf, insE_cons_lt _ hf, insE_cons_ge _ (by omega), insE_cons_ge r he]
      · rw [insE_cons_ge r he, insE_cons_ge r hf, insE_cons_ge _ he, insE_cons_ge _ hf, ih]

theorem putL_length (m : List (List Ev)) (n : Nat) (e : Ev) : (putL m n e).length = if n < m.length then m.length else m.length + 1 := by
  unfold putL
  split <;> simp
theorem lvN_put {m : List (List Ev)} {n : Nat} {e f : Ev} (hd : dep e f = false) : lvN (putL m n e) f = lvN m f := by
  unfold lvN
  rw [putL_length]
  by_cases h : n < m.length
  · rw [if_pos h]
    refine top_congr fun i hi => ?_
    have e1 : (putL m n e).getD i [] = if i = n then insE e (m.getD n []) else m.getD i [] := by
      unfold putL
      rw [if_pos h, getD_set _ _ _ _ _ h]
    rw [e1]
    split
    · rename_i hin
      subst hin
      rw [Bool.eq_iff_iff, List.any_eq_true, List.any_eq_true]
      constructor
      · rintro ⟨x, hx, h2⟩
        rcases mem_insE.1 hx with rfl | hx
        · rw [hd] at h2; cases h2
        · exact ⟨x, hx, h2⟩
      · rintro ⟨x, hx, h2⟩
        exact ⟨x, mem_insE.2 (.inr hx), h2⟩
    · rfl
  · rw [if_neg h, top_succ]
    have e1 : putL m n e = m ++ [[e]] := by unfold putL; rw [if_neg h]
    rw [e1, if_neg]
    · refine top_congr fun i hi => ?_
      simp [List.getD, List.getElem?_append_left hi]
    · simp [List.getD, hd]

theorem putL_comm {m : List (List Ev)} {n k : Nat} {e f : Ev} (hn : n ≤ m.length) (hk : k ≤ m.length) (h : e.thread ≠ f.thread) : putL (putL m n e) k f = putL (putL m k f) n e := by
  by_cases h1 : n < m.length
  · by_cases h2 : k < m.length
    · have e1 : putL m n e = m.set n (insE e (m.getD n [])) := by unfold putL; rw [if_pos h1]
      have e2 : putL m k f = m.set k (insE f (m.getD k [])) := by unfold putL; rw [if_pos h2]
      rw [e1, e2]
      unfold putL
      rw [if_pos (by simpa using h2), if_pos (by simpa using h1), getD_set _ _ _ _ _ h1, getD_set _ _ _ _ _ h2]
      by_cases hnk : n = k
      · subst hnk
        rw [if_pos rfl, if_pos rfl, List.set_set, List.set_set, insE_comm h]
      · rw [if_neg (fun e => hnk e.symm), if_neg hnk, List.set_comm _ _ hnk]
    · have e1 : putL m n e = m.set n (insE e (m.getD n [])) := by unfold putL; rw [if_pos h1]
      have e2 : putL m k f = m ++ [[f]] := by unfold putL; rw [if_neg h2]
      rw [e1, e2]
      unfold putL
      rw [if_neg (by simpa using h2), if_pos (by simp; omega), List.set_append_left _ _ h1]
      simp [List.getD, List.getElem?_append_left h1]
  · by_cases h2 : k < m.length
    · have e1 : putL m n e = m ++ [[e]] := by unfold putL; rw [if_neg h1]
      have e2 : putL m k f = m.set k (insE f (m.getD k [])) := by unfold putL; rw [if_pos h2]
      rw [e1, e2]
      unfold putL
      rw [if_pos (by simp; omega), if_neg (by simpa using h1), List.set_append_left _ _ h2]
      simp [List.getD, List.getElem?_append_left h2]
    · obtain rfl : n = m.length := by omega
      obtain rfl : k = m.length := by omega
      have e1 : putL m m.length e = m ++ [[e]] := by unfold putL; rw [if_neg h1]
      have e2 : putL m m.length f = m ++ [[f]] := by unfold putL; rw [if_neg h1]
      rw [e1, e2]
      unfold putL
      rw [if_pos (by simp), if_pos (by simp), List.set_append_right _ _ (Nat.le_refl _), List.set_append_right _ _ (Nat.le_refl _)]
      have hc := insE_comm (Ne.symm h) []
      simp only [insE] at hc
      simp [List.getD, insE, hc]

/-- The levels stay whatever such neighbours are swapped. -/
theorem lvls_blind : Blind lvls := by
  intro x y e f hd
  have hd' : dep f e = false := by rw [dep_symm]; exact hd
  have hne : e.thread ≠ f.thread := by
    intro h
    rw [dep_thread h] at hd
    cases hd
  unfold lvls
  rw [List.foldl_append, List.foldl_append, List.foldl_cons, List.foldl_cons, List.foldl_cons, List.foldl_cons]
  congr 1
  generalize x.foldl addL [] = m
  have e1 : addL (addL m e) f = putL (putL m (lvN m e) e) (lvN m f) f := by
    show putL (addL m e) (lvN (addL m e) f) f = _
    have : lvN (addL m e) f = lvN m f := lvN_put hd
    rw [this]
    rfl
  have e2 : addL (addL m f) e = putL (putL m (lvN m f) f) (lvN m e) e := by
    show putL (addL m f) (lvN (addL m f) e) e = _
    have : lvN (addL m f) e = lvN m e := lvN_put hd'
    rw [this]
    rfl
  rw [e1, e2]
  exact putL_comm (lvN_le m e) (lvN_le m f) hne

/-- One event more, level by level. -/
theorem sim_put (m : List (List Ev)) (e : Ev) : Sim (addL m e).flatten (m.flatten ++ [e]) := by
  unfold addL putL
  by_cases h : lvN m e < m.length
  · rw [if_pos h]
    have hfree : ∀ i, lvN m e ≤ i → ∀ x ∈ m.getD i [], dep e x = false := fun i hi x hx => by rw [dep_symm]; exact lvN_free hi hx
    generalize lvN m e = n at *
    have hm : m = m.take n ++ m.getD n [] :: m.drop (n + 1) := by
      conv => lhs; rw [← List.take_append_drop n m, List.drop_eq_getElem_cons h]
      rw [getD_lt _ h]
    have hs : m.set n (insE e (m.getD n [])) = m.take n ++ insE e (m.getD n []) :: m.drop (n + 1) := by
      rw [List.set_eq_take_append_cons_drop, if_pos h]
    obtain ⟨r1, r2, hr, hi⟩ := insE_split e (m.getD n [])
    have hy : ∀ f ∈ r2 ++ (m.drop (n + 1)).flatten, dep e f = false := by
      intro f hf
      rcases List.mem_append.1 hf with hf | hf
      · exact hfree n (Nat.le_refl _) f (by rw [hr]; exact List.mem_append_right _ hf)
      · obtain ⟨row, hrow, hfr⟩ := List.mem_flatten.1 hf
        obtain ⟨j, hj, hje⟩ := List.mem_iff_getElem.1 hrow
        rw [List.length_drop] at hj
        rw [List.getElem_drop] at hje
        refine hfree (n + 1 + j) (by omega) f ?_
        rw [getD_lt _ (by omega), hje]
        exact hfr
    have h1 := sim_move e (r2 ++ (m.drop (n + 1)).flatten) ((m.take n).flatten ++ r1) hy
    have e1 : (m.set n (insE e (m.getD n []))).flatten = (m.take n).flatten ++ r1 ++ e :: (r2 ++ (m.drop (n + 1)).flatten) := by
      rw [hs, hi]
      simp
    have e2 : m.flatten = (m.take n).flatten ++ r1 ++ (r2 ++ (m.drop (n + 1)).flatten) := by
      conv => lhs; rw [hm]
      rw [List.flatten_append, List.flatten_cons, hr]
      simp
    rw [e1, e2]
    exact h1
  · rw [if_neg h, List.flatten_append]
    exact Sim.refl _

/-- P5.2: the row of a row's levels is the same as it. -/
theorem sim_row (l : List Ev) : Sim (lvls l).flatten l := by
  have : ∀ n (l : List Ev), l.length = n → Sim (lvls l).flatten l := by
    intro n
    induction n with
    | zero =>
      intro l hl
      obtain rfl := List.eq_nil_of_length_eq_zero hl
      exact Sim.refl _
    | succ n ih =>
      intro l hl
      have hne : l ≠ [] := by rintro rfl; simp at hl
      obtain ⟨l', e, rfl⟩ : ∃ l' e, l = l' ++ [e] := ⟨l.dropLast, l.getLast hne, (List.dropLast_concat_getLast hne).symm⟩
      rw [lvls_snoc]
      exact (sim_put _ e).trans ((sim_snoc _ _ e).2 (ih l' (by simpa using hl)))
  exact this _ l rfl

/-- P5.2: two rows are the same just if their levels are. -/
theorem lvls_iff (a b : List Ev) : lvls a = lvls b ↔ Sim a b := by
  constructor
  · intro h
    have h1 := sim_row a
    rw [h] at h1
    exact h1.symm.trans (sim_row b)
  · intro h
    exact sim_fun _ a b lvls rfl h lvls_blind

end Go.Proofs.YtnldkmcijmbhcaaGreat
