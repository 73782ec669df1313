/-
  RaceSwaps: two neighbours of a row are in a race just if they are of unlike threads and depend on one another, then, swapped, it is not the same, and a row without races is the same as each of its threads' events one behind the other, in any order of threads: the law answers true, and its arguments read as they did.
  For every input, whatever its size and however its parts share memory; nothing is asked of it but what the statement's own form asks.
-/
import Derived.Laws.CopyRow
import Derived.Laws.CopyOwn
import Derived.Laws.Externs
import Derived.Lib.Overlaps
import Derived.Lib.AppendZeros
import Derived.Lib.AppendZerosOnto
import Derived.Shelf.Spec.SlicesInsert
import Derived.Laws.OwnMore
import Derived.Deep.RegionLaw
import Derived.ChangeKeysEq
import Derived.Deep.DeepCutAuto
import Derived.WalkKit
import Derived.ProofKit
import Derived.OpenShut
import Derived.Test.YtkjjbcgecnjniaaRows
import Derived.Test.YtkjjbcgecnjniaaPk01
import Derived.Test.YtkjjbcgecnjniaaPk02
import Derived.Test.YtkjjbcgecnjniaaPk03
import Derived.Test.YtkjjbcgecnjniaaPk06
import Derived.Test.YtkjjbcgecnjniaaPk07

/- copy of elements of several cells, into the middle of a row of one's own; append of zeros behind a row's beginning. -/
namespace Go.Proofs.Ytkjjbcgecnjniaa
open Go.RowKit

/-- The cells behind a copy. -/
def putAt (cur : Array Value) (o : Nat) (cs : List Value) : Array Value := (cur.toList.take o ++ cs ++ cur.toList.drop (o + cs.length)).toArray
theorem putAt_size {cur : Array Value} {o : Nat} {cs : List Value} (h : o + cs.length ≤ cur.size) : (putAt cur o cs).size = cur.size := by
  simp [putAt]
  omega

theorem run_copy_at {P : Program} (w : World) (dT sT ty elem : TypeId) (k g o nd dCap : Nat) (ad : Addr) (ns sCap : Nat) (cur : Array Value) (t : TypeId) (cs : List Value)
    (hu : P.underlying dT = some (.slice elem)) (hs : (P.info? elem).map (·.size) = some k)
    (hg : w.heap[g]? = some (.cells cur t (0, 0))) (hcs : cs.length = Nat.min ns nd * k) (hfit : o + cs.length ≤ cur.size)
    (hsrc : ∀ j v, cs[j]? = some v → w.cell? (ad.add j) = some v) (h1 : ∀ v ∈ cs, v.oneCell' = true) :
    (Builtin.copy_ #[dT, sT] ty #[.slice (some ⟨g, o, none⟩) nd dCap, .slice (some ad) ns sCap]).run P w = .ok (goInt (Nat.min ns nd)) (w.setRow g (putAt cur o cs)) := by
  cases hq : P.info? elem with
  | none => simp [hq] at hs
  | some i =>
    have hi : i.size = k := by simpa [hq] using hs
    have hl := run_loadCells_list (P := P) w ad cs hsrc
    have hst := run_storeCells_at P g o t cs 0 cur w hg (by omega) h1
    rw [Nat.add_zero] at hst
    simp [Builtin.copy_, run_underlying hu, Builtin.lenOf, Builtin.firstCells, sizeOf, typeInfo, hq, hi, ← hcs, hl, hst, putAt]

theorem ev_size : (Try.prog.info? 50).map (·.size) = some 4 := by kernel_rfl
theorem ev_sizeOf (w : World) : (Go.sizeOf 50).run Try.prog w = .ok 4 w := by
  obtain ⟨i, hi, h4⟩ := Option.map_eq_some_iff.1 ev_size
  simp [sizeOf, typeInfo, hi, h4]
theorem infoEv : (Try.prog.info? 50).map (fun i => (i.zero, i.size, i.bytes)) = some (some (.agg #[.int .i64 0, .int .i64 0, .int .i64 0, .bool false]), 4, 32) := by kernel_rfl
theorem evCell_len (x : Ev) : (evCell x).length = 4 := rfl
theorem evCell_one (x : Ev) : ∀ v ∈ evCell x, v.oneCell' = true := by
  intro v hv
  simp [evCell] at hv
  rcases hv with rfl | rfl | rfl | rfl <;> rfl
theorem evCells_take (l : List Ev) (n : Nat) : evCells (l.take n) = (evCells l).take (n * 4) := by
  by_cases h : n ≤ l.length
  · have e : evCells l = evCells (l.take n) ++ evCells (l.drop n) := by rw [← evCells_append, List.take_append_drop]
    rw [e, List.take_left' (by rw [evCells_length, List.length_take]; omega)]
  · rw [List.take_of_length_le (l := l) (by omega), List.take_of_length_le (by rw [evCells_length]; omega)]
theorem evCells_drop (l : List Ev) (n : Nat) : evCells (l.drop n) = (evCells l).drop (n * 4) := by
  by_cases h : n ≤ l.length
  · have e : evCells l = evCells (l.take n) ++ evCells (l.drop n) := by rw [← evCells_append, List.take_append_drop]
    rw [e, List.drop_left' (by rw [evCells_length, List.length_take]; omega)]
  · have e : l.drop n = [] := List.drop_eq_nil_of_le (by omega)
    rw [e, List.drop_eq_nil_of_le (by rw [evCells_length]; omega)]
    rfl

/-- The cells when an event has been put in, in place. -/
theorem put_twice (X Y Z E : List Value) (p n : Nat) (hX : X.length = p + E.length) (hn : n = p + E.length + Y.length) :
    ((X ++ (Y ++ Z)).take p ++ E ++ (X ++ (Y ++ Z)).drop (p + E.length)).take n = X.take p ++ (E ++ Y) := by
  have a1 : (X ++ (Y ++ Z)).take p = X.take p := List.take_append_of_le_length (by omega)
  have a2 : (X ++ (Y ++ Z)).drop (p + E.length) = Y ++ Z := List.drop_left' hX
  rw [a1, a2]
  have e : X.take p ++ E ++ (Y ++ Z) = (X.take p ++ (E ++ Y)) ++ Z := by simp
  rw [e, List.take_left']
  simp only [List.length_append, List.length_take]
  omega
theorem shifted {cur : Array Value} {es : List Ev} {e : Ev} {i c : Nat} (hi : i ≤ es.length) (hc : cur.size = c * 4) (hroom : es.length + 1 ≤ c) (ht : cur.toList.take (es.length * 4) = evCells es) :
    (putAt (putAt cur ((i + 1) * 4) (evCells (es.drop i))) (i * 4) (evCell e)).toList.take ((es.length + 1) * 4) = evCells (es.take i ++ e :: es.drop i) := by
  have hsz : cur.toList.length = c * 4 := by simpa using hc
  have hl2 : (evCells (es.drop i)).length = (es.length - i) * 4 := by rw [evCells_length, List.length_drop]
  have h := put_twice (cur.toList.take ((i + 1) * 4)) (evCells (es.drop i)) (cur.toList.drop ((i + 1) * 4 + (evCells (es.drop i)).length)) (evCell e) (i * 4) ((es.length + 1) * 4)
    (by rw [List.length_take, hsz, evCell_len]; omega) (by rw [hl2, evCell_len]; omega)
  have e1 : (cur.toList.take ((i + 1) * 4)).take (i * 4) = evCells (es.take i) := by
    rw [evCells_take, ← ht, List.take_take, List.take_take, Nat.min_eq_left (by omega), Nat.min_eq_left (by omega)]
  rw [e1] at h
  rw [evCells_append, show evCells (e :: es.drop i) = evCell e ++ evCells (es.drop i) from rfl, ← h]
  simp [putAt]

end Go.Proofs.Ytkjjbcgecnjniaa

/- A row of bytes to be read, and opened; two neighbours swapped in a row of one's own. -/
namespace Go.Proofs.Ytkjjbcgecnjniaa
open Go.RowKit

def BytesAt (w : World) (a : Option Addr) (ns : List Int) : Prop :=
  ns.length ≤ maxLen ∧ (ns ≠ [] → ∃ b o, a = some ⟨b, o, none⟩ ∧ ∀ i (h : i < ns.length), w.cell? ⟨b, o + i, none⟩ = some (.int .u8 ns[i]))
theorem BytesAt.later {w w' : World} {a : Option Addr} {ns : List Int} (h : BytesAt w a ns) (hb : Below w.heap.size w w') : BytesAt w' a ns := by
  refine ⟨h.1, fun hn => ?_⟩
  obtain ⟨b, o, rfl, hc⟩ := h.2 hn
  exact ⟨b, o, rfl, fun i hi => cell_later hb (hc i hi)⟩

/-- An event stored. -/
theorem evCells_set4 (es : List Ev) (k : Nat) (e : Ev) (h : k < es.length) :
    ((((evCells es).set (k * 4) (.int .i64 e.thread)).set (k * 4 + 1) (.int .i64 e.kind)).set (k * 4 + 2) (.int .i64 e.obj)).set (k * 4 + 3) (.bool e.fail) = evCells (es.set k e) := by
  induction es generalizing k with
  | nil => simp at h
  | cons x es ih =>
    cases k with
    | zero => rfl
    | succ k =>
      have h1 := ih k (by simpa using h)
      simp only [List.set_cons_succ]
      rw [show evCells (x :: es.set k e) = evCell x ++ evCells (es.set k e) from rfl, ← h1, show evCells (x :: es) = evCell x ++ evCells es from rfl]
      have hs : ∀ (l : List Value) (j : Nat) (v : Value), (evCell x ++ l).set (j + 4) v = evCell x ++ l.set j v := fun l j v => by
        simp [evCell]
      rw [show (k + 1) * 4 = k * 4 + 4 by omega, show k * 4 + 4 + 1 = (k * 4 + 1) + 4 by omega, show k * 4 + 4 + 2 = (k * 4 + 2) + 4 by omega, show k * 4 + 4 + 3 = (k * 4 + 3) + 4 by omega, hs, hs, hs, hs]
theorem OwnE.store4 {w : World} {B g n cap : Nat} {es : List Ev} (h : OwnE w B (.slice (some ⟨g, 0, none⟩) n cap) es) (hn : n = es.length) {k : Nat} (hk : k < n) (e : Ev) :
    OwnE ((((w.setCell ⟨g, k * 4, none⟩ (.int .i64 e.thread)).setCell ⟨g, k * 4 + 1, none⟩ (.int .i64 e.kind)).setCell ⟨g, k * 4 + 2, none⟩ (.int .i64 e.obj)).setCell ⟨g, k * 4 + 3, none⟩ (.bool e.fail)) B (.slice (some ⟨g, 0, none⟩) n cap) (es.set k e) := by
  have h0 : w.ownsRow B 50 4 (.slice (some ⟨g, 0, none⟩) n cap) n (evCells es) := by
    have h1 : w.ownsRow B 50 4 (.slice (some ⟨g, 0, none⟩) n cap) es.length (evCells es) := h
    rw [← hn] at h1
    exact h1
  have h4 := ((((h0.stored (k * 4) (.int .i64 e.thread)).1.stored (k * 4 + 1) (.int .i64 e.kind)).1.stored (k * 4 + 2) (.int .i64 e.obj)).1.stored (k * 4 + 3) (.bool e.fail)).1
  rw [evCells_set4 es k e (by omega)] at h4
  unfold OwnE
  rw [List.length_set, ← hn]
  exact h4
/-- Two neighbours swapped. -/
def swp (l : List Ev) (i : Nat) : List Ev := (l.set i (l.getD (i + 1) ev0)).set (i + 1) (l.getD i ev0)
theorem swp_length (l : List Ev) (i : Nat) : (swp l i).length = l.length := by simp [swp]

open Go.Deep Go.Joins Go.WideShapes Go.ChangeShapes

section
variable {H : Type} {enc : TypeId × Value → H} {W : World} {base : Nat} {spare : Nat → Bool} {held : Bool}

theorem wf_u8 {n : Int} (h : (Lit.int .u8 n).wf = true) : 0 ≤ n ∧ n < 256 := by
  simp [Lit.wf, IntKind.min, IntKind.max, IntKind.signed, IntKind.bits] at h
  omega

end
end Go.Proofs.Ytkjjbcgecnjniaa

/- Two neighbours of a row swapped, plainly and in memory. -/
namespace Go.Proofs.Ytkjjbcgecnjniaa
open Go.RowKit

/-- Two neighbours swapped. -/
def swpE (c : List Ev) (S : Nat) : List Ev := (c.set S (evI c (S + 1))).set (S + 1) (evI c S)
theorem swpE_len (c : List Ev) (S : Nat) : (swpE c S).length = c.length := by unfold swpE; rw [List.length_set, List.length_set]
theorem swpE_split {c : List Ev} {S : Nat} (h : S + 1 < c.length) : ∃ x y, c = x ++ evI c S :: evI c (S + 1) :: y ∧ swpE c S = x ++ evI c (S + 1) :: evI c S :: y := by
  obtain ⟨h1, h2⟩ := split_two h
  have e1 : evI c S = c[S] := evI_get (by omega)
  have e2 : evI c (S + 1) = c[S + 1] := evI_get h
  refine ⟨c.take S, c.drop (S + 2), by rw [e1, e2]; exact h1, ?_⟩
  unfold swpE
  rw [e1, e2]
  exact h2
theorem swpE_sim {c : List Ev} {S : Nat} (h : S + 1 < c.length) (hd : dep (evI c S) (evI c (S + 1)) = false) : Sim (swpE c S) c := by
  obtain ⟨x, y, h1, h2⟩ := swpE_split h
  have h3 : Sim (x ++ evI c S :: evI c (S + 1) :: y) (x ++ evI c (S + 1) :: evI c S :: y) := sim_swap hd
  rw [← h1, ← h2] at h3
  exact h3.symm
theorem swpE_not {c : List Ev} {S : Nat} (h : S + 1 < c.length) (hd : dep (evI c S) (evI c (S + 1)) = true) (hne : (evI c S).thread ≠ (evI c (S + 1)).thread) : ¬ Sim (swpE c S) c := by
  obtain ⟨x, y, h1, h2⟩ := swpE_split h
  have h3 : ¬ Sim (x ++ evI c (S + 1) :: evI c S :: y) (x ++ evI c S :: evI c (S + 1) :: y) := sim_swap_dep hd hne
  rw [← h1, ← h2] at h3
  exact h3
theorem swpE_right {c : List Ev} {S : Nat} (h : S + 1 < c.length) (hr : rightL c = true) : rightL (swpE c S) = true := by
  obtain ⟨x, y, h1, h2⟩ := swpE_split h
  rw [h2]
  have h3 := hr
  rw [h1] at h3
  unfold rightL at *
  simp only [List.all_append, List.all_cons, Bool.and_eq_true] at *
  exact ⟨h3.1, h3.2.2.1, h3.2.1, h3.2.2.2⟩

theorem OwnE.four {w : World} {B g n cap : Nat} {es : List Ev} (h : OwnE w B (.slice (some ⟨g, 0, none⟩) n cap) es) (hn : n = es.length) {k : Nat} (hk : k < n) :
    (w.cell? ⟨g, k * 4, none⟩ = some (.int .i64 (evI es k).thread) ∧ w.cell? ⟨g, k * 4 + 1, none⟩ = some (.int .i64 (evI es k).kind) ∧ w.cell? ⟨g, k * 4 + 2, none⟩ = some (.int .i64 (evI es k).obj) ∧ w.cell? ⟨g, k * 4 + 3, none⟩ = some (.bool (evI es k).fail)) ∧
    (w.frozen? ⟨g, k * 4, none⟩ = false ∧ w.frozen? ⟨g, k * 4 + 1, none⟩ = false ∧ w.frozen? ⟨g, k * 4 + 2, none⟩ = false ∧ w.frozen? ⟨g, k * 4 + 3, none⟩ = false) := by
  have h0 : w.ownsRow B 50 4 (.slice (some ⟨g, 0, none⟩) n cap) n (evCells es) := by
    have h1 : w.ownsRow B 50 4 (.slice (some ⟨g, 0, none⟩) n cap) es.length (evCells es) := h
    rw [← hn] at h1
    exact h1
  have hc : ∀ j, j < 4 → w.cell? ⟨g, k * 4 + j, none⟩ = (evCell (evI es k))[j]? := fun j hj => by
    rw [h0.cellAt _ (by omega), evCells_get es k j (by omega) hj, evI_get (by omega)]
  exact ⟨⟨hc 0 (by omega), hc 1 (by omega), hc 2 (by omega), hc 3 (by omega)⟩, h0.frozenAt _, h0.frozenAt _, h0.frozenAt _, h0.frozenAt _⟩

theorem OwnE.drewN {w : World} {B n : Nat} {v : Value} {es : List Ev} (h : OwnE w B v es) : OwnE (w.drewN n) B v es := h
theorem OwnE.drew {w : World} {B : Nat} {v : Value} {es : List Ev} (h : OwnE w B v es) : OwnE w.drew B v es := h

/-- Both neighbours stored the other way round. -/
theorem OwnE.swap {w : World} {B g n cap : Nat} {c : List Ev} (h : OwnE w B (.slice (some ⟨g, 0, none⟩) n cap) c) (hn : n = c.length) {S : Nat} (hS : S + 1 < n) {x y : Ev} (hx : evI c S = x) (hy : evI c (S + 1) = y) :
    ((w.cell? ⟨g, S * 4, none⟩ = some (.int .i64 x.thread) ∧ w.cell? ⟨g, S * 4 + 1, none⟩ = some (.int .i64 x.kind) ∧ w.cell? ⟨g, S * 4 + 2, none⟩ = some (.int .i64 x.obj) ∧ w.cell? ⟨g, S * 4 + 3, none⟩ = some (.bool x.fail)) ∧ (w.frozen? ⟨g, S * 4, none⟩ = false ∧ w.frozen? ⟨g, S * 4 + 1, none⟩ = false ∧ w.frozen? ⟨g, S * 4 + 2, none⟩ = false ∧ w.frozen? ⟨g, S * 4 + 3, none⟩ = false)) ∧
    ((w.cell? ⟨g, (S + 1) * 4, none⟩ = some (.int .i64 y.thread) ∧ w.cell? ⟨g, (S + 1) * 4 + 1, none⟩ = some (.int .i64 y.kind) ∧ w.cell? ⟨g, (S + 1) * 4 + 2, none⟩ = some (.int .i64 y.obj) ∧ w.cell? ⟨g, (S + 1) * 4 + 3, none⟩ = some (.bool y.fail)) ∧ (w.frozen? ⟨g, (S + 1) * 4, none⟩ = false ∧ w.frozen? ⟨g, (S + 1) * 4 + 1, none⟩ = false ∧ w.frozen? ⟨g, (S + 1) * 4 + 2, none⟩ = false ∧ w.frozen? ⟨g, (S + 1) * 4 + 3, none⟩ = false)) := by
  subst hx hy
  exact ⟨OwnE.four h hn (by omega), OwnE.four h hn hS⟩
theorem OwnE.swapped {w : World} {B g n cap : Nat} {c : List Ev} (h : OwnE w B (.slice (some ⟨g, 0, none⟩) n cap) c) (hn : n = c.length) {S : Nat} (hS : S + 1 < n) {x y : Ev} (hx : evI c S = x) (hy : evI c (S + 1) = y) :
    (∃ z : Ev, (((((w.setCell ⟨g, S * 4, none⟩ (.int .i64 y.thread)).setCell ⟨g, S * 4 + 1, none⟩ (.int .i64 y.kind)).setCell ⟨g, S * 4 + 2, none⟩ (.int .i64 y.obj)).setCell ⟨g, S * 4 + 3, none⟩ (.bool y.fail)).cell? ⟨g, (S + 1) * 4, none⟩ = some (.int .i64 z.thread) ∧ ((((w.setCell ⟨g, S * 4, none⟩ (.int .i64 y.thread)).setCell ⟨g, S * 4 + 1, none⟩ (.int .i64 y.kind)).setCell ⟨g, S * 4 + 2, none⟩ (.int .i64 y.obj)).setCell ⟨g, S * 4 + 3, none⟩ (.bool y.fail)).cell? ⟨g, (S + 1) * 4 + 1, none⟩ = some (.int .i64 z.kind) ∧ ((((w.setCell ⟨g, S * 4, none⟩ (.int .i64 y.thread)).setCell ⟨g, S * 4 + 1, none⟩ (.int .i64 y.kind)).setCell ⟨g, S * 4 + 2, none⟩ (.int .i64 y.obj)).setCell ⟨g, S * 4 + 3, none⟩ (.bool y.fail)).cell? ⟨g, (S + 1) * 4 + 2, none⟩ = some (.int .i64 z.obj) ∧ ((((w.setCell ⟨g, S * 4, none⟩ (.int .i64 y.thread)).setCell ⟨g, S * 4 + 1, none⟩ (.int .i64 y.kind)).setCell ⟨g, S * 4 + 2, none⟩ (.int .i64 y.obj)).setCell ⟨g, S * 4 + 3, none⟩ (.bool y.fail)).cell? ⟨g, (S + 1) * 4 + 3, none⟩ = some (.bool z.fail)) ∧ (((((w.setCell ⟨g, S * 4, none⟩ (.int .i64 y.thread)).setCell ⟨g, S * 4 + 1, none⟩ (.int .i64 y.kind)).setCell ⟨g, S * 4 + 2, none⟩ (.int .i64 y.obj)).setCell ⟨g, S * 4 + 3, none⟩ (.bool y.fail)).frozen? ⟨g, (S + 1) * 4, none⟩ = false ∧ ((((w.setCell ⟨g, S * 4, none⟩ (.int .i64 y.thread)).setCell ⟨g, S * 4 + 1, none⟩ (.int .i64 y.kind)).setCell ⟨g, S * 4 + 2, none⟩ (.int .i64 y.obj)).setCell ⟨g, S * 4 + 3, none⟩ (.bool y.fail)).frozen? ⟨g, (S + 1) * 4 + 1, none⟩ = false ∧ ((((w.setCell ⟨g, S * 4, none⟩ (.int .i64 y.thread)).setCell ⟨g, S * 4 + 1, none⟩ (.int .i64 y.kind)).setCell ⟨g, S * 4 + 2, none⟩ (.int .i64 y.obj)).setCell ⟨g, S * 4 + 3, none⟩ (.bool y.fail)).frozen? ⟨g, (S + 1) * 4 + 2, none⟩ = false ∧ ((((w.setCell ⟨g, S * 4, none⟩ (.int .i64 y.thread)).setCell ⟨g, S * 4 + 1, none⟩ (.int .i64 y.kind)).setCell ⟨g, S * 4 + 2, none⟩ (.int .i64 y.obj)).setCell ⟨g, S * 4 + 3, none⟩ (.bool y.fail)).frozen? ⟨g, (S + 1) * 4 + 3, none⟩ = false)) ∧
    OwnE ((((((((w.setCell ⟨g, S * 4, none⟩ (.int .i64 y.thread)).setCell ⟨g, S * 4 + 1, none⟩ (.int .i64 y.kind)).setCell ⟨g, S * 4 + 2, none⟩ (.int .i64 y.obj)).setCell ⟨g, S * 4 + 3, none⟩ (.bool y.fail)).setCell ⟨g, (S + 1) * 4, none⟩ (.int .i64 x.thread)).setCell ⟨g, (S + 1) * 4 + 1, none⟩ (.int .i64 x.kind)).setCell ⟨g, (S + 1) * 4 + 2, none⟩ (.int .i64 x.obj)).setCell ⟨g, (S + 1) * 4 + 3, none⟩ (.bool x.fail)).drew B (.slice (some ⟨g, 0, none⟩) n cap) (swpE c S) := by
  subst hx hy
  have h1 := OwnE.store4 h hn (k := S) (by omega) (evI c (S + 1))
  have h2 := OwnE.store4 h1 (by rw [List.length_set]; exact hn) (k := S + 1) hS (evI c S)
  exact ⟨⟨_, OwnE.four h1 (by rw [List.length_set]; exact hn) (k := S + 1) hS⟩, OwnE.drew h2⟩
theorem below_swap {B g S : Nat} {w0 w : World} (h : Below B w0 w) (hg : B ≤ g) (v0 v1 v2 v3 v4 v5 v6 v7 : Value) :
    Below B w0 ((((((((w.setCell ⟨g, S * 4, none⟩ v0).setCell ⟨g, S * 4 + 1, none⟩ v1).setCell ⟨g, S * 4 + 2, none⟩ v2).setCell ⟨g, S * 4 + 3, none⟩ v3).setCell ⟨g, (S + 1) * 4, none⟩ v4).setCell ⟨g, (S + 1) * 4 + 1, none⟩ v5).setCell ⟨g, (S + 1) * 4 + 2, none⟩ v6).setCell ⟨g, (S + 1) * 4 + 3, none⟩ v7).drew :=
  ((((((((h.setCell (p := ⟨g, S * 4, none⟩) hg _).setCell (p := ⟨g, S * 4 + 1, none⟩) hg _).setCell (p := ⟨g, S * 4 + 2, none⟩) hg _).setCell (p := ⟨g, S * 4 + 3, none⟩) hg _).setCell (p := ⟨g, (S + 1) * 4, none⟩) hg _).setCell (p := ⟨g, (S + 1) * 4 + 1, none⟩) hg _).setCell (p := ⟨g, (S + 1) * 4 + 2, none⟩) hg _).setCell (p := ⟨g, (S + 1) * 4 + 3, none⟩) hg _).drew


end Go.Proofs.Ytkjjbcgecnjniaa

/- A row without races: thread by thread it is the same. -/
namespace Go.Proofs.Ytkjjbcgecnjniaa

/-- The threads, from one on. -/
def tsOf (sh : Nat) : List Int := (List.range 4).map fun t => (((t + sh) % 4 : Nat) : Int)
theorem tsOf_len (sh : Nat) : (tsOf sh).length = 4 := by simp [tsOf]
theorem tsOf_nodup {sh : Nat} (h : sh < 4) : (tsOf sh).Nodup := by
  rcases (by omega : sh = 0 ∨ sh = 1 ∨ sh = 2 ∨ sh = 3) with rfl | rfl | rfl | rfl <;> decide
theorem tsOf_mem {sh : Nat} (h : sh < 4) {u : Int} (h0 : 0 ≤ u) (h3 : u ≤ 3) : u ∈ tsOf sh := by
  rcases (by omega : u = 0 ∨ u = 1 ∨ u = 2 ∨ u = 3) with rfl | rfl | rfl | rfl <;> rcases (by omega : sh = 0 ∨ sh = 1 ∨ sh = 2 ∨ sh = 3) with rfl | rfl | rfl | rfl <;> decide
/-- The first t threads' events, each one's behind the other's, and of the next one those among the first q. -/
def thrTo (l : List Ev) (sh t : Nat) : List Ev := byThr l ((tsOf sh).take t)
def thrAt (l : List Ev) (sh t q : Nat) : List Ev := thrTo l sh t ++ (l.take q).filter fun e => decide (e.thread = (((t + sh) % 4 : Nat) : Int))
theorem thrTo_zero (l : List Ev) (sh : Nat) : thrTo l sh 0 = [] := rfl
theorem thrAt_zero (l : List Ev) (sh t : Nat) : thrAt l sh t 0 = thrTo l sh t := by
  unfold thrAt
  simp
theorem thrAt_yes {l : List Ev} {sh t q : Nat} (hq : q < l.length) (h : (evI l q).thread = (((t + sh) % 4 : Nat) : Int)) : thrAt l sh t (q + 1) = thrAt l sh t q ++ [evI l q] := by
  unfold thrAt
  generalize (((t + sh) % 4 : Nat) : Int) = u at *
  rw [List.take_succ_eq_append_getElem hq, List.filter_append, ← evI_get hq, ← List.append_assoc]
  simp [h]
theorem thrAt_no {l : List Ev} {sh t q : Nat} (hq : q < l.length) (h : (evI l q).thread ≠ (((t + sh) % 4 : Nat) : Int)) : thrAt l sh t (q + 1) = thrAt l sh t q := by
  unfold thrAt
  generalize (((t + sh) % 4 : Nat) : Int) = u at *
  rw [List.take_succ_eq_append_getElem hq, List.filter_append, ← evI_get hq]
  simp [h]
theorem thrAt_all {l : List Ev} {sh t : Nat} (ht : t < 4) : thrAt l sh t l.length = thrTo l sh (t + 1) := by
  unfold thrAt thrTo byThr
  rw [List.take_length, List.take_succ_eq_append_getElem (by rw [tsOf_len]; exact ht), List.flatMap_append]
  congr 1
  simp [tsOf]
theorem byThr_len (l : List Ev) (ts : List Int) : (byThr l ts).length ≤ ts.length * l.length := by
  unfold byThr
  induction ts with
  | nil => simp
  | cons t ts ih =>
    rw [List.flatMap_cons, List.length_append, List.length_cons, Nat.add_mul, Nat.one_mul]
    have := List.length_filter_le (fun e : Ev => decide (e.thread = t)) l
    omega
theorem thrTo_len (l : List Ev) (sh t : Nat) : (thrTo l sh t).length ≤ 4 * l.length := by
  unfold thrTo
  refine Nat.le_trans (byThr_len _ _) (Nat.mul_le_mul ?_ (Nat.le_refl _))
  rw [List.length_take, tsOf_len]
  omega
theorem thrAt_len (l : List Ev) (sh t q : Nat) : (thrAt l sh t q).length ≤ 5 * l.length := by
  unfold thrAt
  rw [List.length_append]
  have h1 := thrTo_len l sh t
  have h2 := List.length_filter_le (fun e : Ev => decide (e.thread = (((t + sh) % 4 : Nat) : Int))) (l.take q)
  rw [List.length_take] at h2
  omega
theorem thr_same {l : List Ev} (hr : rightL l = true) (h : Loose l) {sh : Nat} (hs : sh < 4) : SameO (thrTo l sh 4) l := by
  have e : thrTo l sh 4 = byThr l (tsOf sh) := by
    unfold thrTo
    rw [List.take_of_length_le (by rw [tsOf_len]; exact Nat.le_refl _)]
  rw [e]
  refine ⟨?_, hr, loose_by _ h (tsOf_nodup hs) fun e he => ?_⟩
  · unfold rightL byThr
    rw [List.all_eq_true]
    intro e he
    obtain ⟨t, _, h1⟩ := List.mem_flatMap.1 he
    unfold rightL at hr
    exact List.all_eq_true.1 hr e (List.mem_filter.1 h1).1
  · unfold rightL at hr
    have := rightEv_bd (List.all_eq_true.1 hr e he)
    exact tsOf_mem hs (by omega) (by omega)

end Go.Proofs.Ytkjjbcgecnjniaa

/- The contract of clock's byThread: four rows of marks of the call's own, side by side. -/
namespace Go.Proofs.Ytkjjbcgecnjniaa
open Go.RowKit

/-- The marks of a thread's events among the first k. -/
def thrM (l : List Ev) (k : Nat) (t : Nat) : List Mk := ((List.range k).filter (isT l t)).map (mkOf l)
theorem thrM_zero (l : List Ev) (t : Nat) : thrM l 0 t = [] := rfl
theorem thrM_succ (l : List Ev) (k t : Nat) : thrM l (k + 1) t = thrM l k t ++ if (evI l k).thread = (t : Int) then [mkOf l k] else [] := by
  unfold thrM
  rw [List.range_succ, List.filter_append, List.map_append]
  congr 1
  by_cases h : (evI l k).thread = (t : Int)
  · rw [if_pos h]
    have : isT l t k = true := isT_iff.2 h
    simp [this]
  · rw [if_neg h]
    have : isT l t k = false := by rw [Bool.eq_false_iff]; intro e; exact h (isT_iff.1 e)
    simp [this]
theorem thrM_len (l : List Ev) (k t : Nat) : (thrM l k t).length ≤ k := by
  unfold thrM
  rw [List.length_map]
  exact Nat.le_trans (List.length_filter_le _ _) (by simp)

/-- Four values side by side. -/
def vals4 (vs : Nat → Value) : List Value := [vs 0, vs 1, vs 2, vs 3]
theorem vals4_get (vs : Nat → Value) {t : Nat} (h : t < 4) : (vals4 vs)[t]? = some (vs t) := by
  rcases (by omega : t = 0 ∨ t = 1 ∨ t = 2 ∨ t = 3) with rfl | rfl | rfl | rfl <;> rfl
theorem vals4_set (vs : Nat → Value) (v : Value) {t : Nat} (h : t < 4) : (vals4 vs).set t v = vals4 (fun j => if j = t then v else vs j) := by
  rcases (by omega : t = 0 ∨ t = 1 ∨ t = 2 ∨ t = 3) with rfl | rfl | rfl | rfl <;> rfl

/-- Four rows of marks, each in a block of its own. -/
def Own4 (w : World) (B : Nat) (vs : Nat → Value) (ms : Nat → List Mk) : Prop :=
  (∀ t, t < 4 → OwnM w B (vs t) (ms t)) ∧ ∀ s t, s < 4 → t < 4 → s ≠ t → (vs s).ownBlock = none ∨ (vs s).ownBlock ≠ (vs t).ownBlock
theorem own4_nil (w : World) (B : Nat) (l : List Ev) : Own4 w B (fun _ => .slice none 0 0) (fun t => thrM l 0 t) :=
  ⟨fun _ _ => ownRow_nil _ _ _ _ _, fun _ _ _ _ _ => .inl rfl⟩
theorem Own4.later {w w' : World} {B : Nat} {vs : Nat → Value} {ms : Nat → List Mk} (h : Own4 w B vs ms) (hb : Below w.heap.size w w') : Own4 w' B vs ms := ⟨fun t ht => (h.1 t ht).later hb, h.2⟩
theorem Own4.only {w w' : World} {B g : Nat} {vs : Nat → Value} {ms : Nat → List Mk} (h : Own4 w B vs ms) (ho : Only g w w') (hg : g < B) : Own4 w' B vs ms := ⟨fun t ht => (h.1 t ht).only ho hg, h.2⟩
theorem Own4.add {w w' : World} {B : Nat} {vs : Nat → Value} {ms ms' : Nat → List Mk} (h : Own4 w B vs ms) {t : Nat} (ht : t < 4) {v' : Value} (h1 : OwnM w' B v' (ms' t)) (hg : w.grownBy w' (vs t).ownBlock)
    (hv : v'.ownBlock = (vs t).ownBlock ∨ v'.ownBlock = some w.heap.size) (hm : ∀ s, s ≠ t → ms' s = ms s) : Own4 w' B (fun s => if s = t then v' else vs s) ms' := by
  have hlt : ∀ s, s < 4 → (vs s).ownBlock ≠ some w.heap.size := fun s hs e => by have := (World.ownsRow.lt (h.1 s hs) _ e).2; omega
  refine ⟨fun s hs => ?_, fun s r hs hr hsr => ?_⟩
  · by_cases e : s = t
    · subst e
      simpa using h1
    · simp only [if_neg e]
      rw [hm s e]
      exact World.ownsRow.kept (h.1 s hs) hg (h.2 s t hs ht e)
  · by_cases e : s = t
    · subst e
      have e2 : ¬ r = s := fun e => hsr e.symm
      simp only [if_pos, if_neg e2]
      rcases hv with hv | hv
      · rw [hv]; exact h.2 s r hs hr hsr
      · right; rw [hv]; exact fun e => hlt r hr e.symm
    · simp only [if_neg e]
      by_cases e2 : r = t
      · subst e2
        simp only [if_pos]
        rcases hv with hv | hv
        · rw [hv]; exact h.2 s r hs hr hsr
        · right; rw [hv]; exact hlt s hs
      · simp only [if_neg e2]; exact h.2 s r hs hr hsr

/-- What byThread holds in memory between two rounds. -/
def ByW (w W1 : World) (l : List Ev) (k : Nat) (vs : Nat → Value) (wr : World) : Prop :=
  MidAt wr w.heap.size 86 (vals4 fun _ => .slice none 0 0) ∧ MidAt wr (w.heap.size + 1) 86 (vals4 vs) ∧ Own4 wr W1.heap.size vs (thrM l k) ∧ Below w.heap.size w wr ∧ W1.heap.size ≤ wr.heap.size ∧ ∀ b, b < W1.heap.size → b ≠ w.heap.size + 1 → wr.heap[b]? = W1.heap[b]?
theorem MidAt.below {w w' : World} {B g : Nat} {t : TypeId} {xs : List Value} (h : MidAt w g t xs) (hb : Below B w w') (hg : g < B) : MidAt w' g t xs := (hb.block g hg).trans h

theorem ByW.step {w W1 W2 Wa w4 : World} {l : List Ev} {k th : Nat} {vs : Nat → Value} {v3 : Value} {m : Mk} (h : ByW w W1 l k vs W2) (hba : Below W2.heap.size W2 Wa) (hth : th < 4) (hown4 : OwnM w4 W1.heap.size v3 (thrM l k th ++ [m])) (hb5 : Below W1.heap.size Wa w4)
    (hgrow : Wa.grownBy w4 (vs th).ownBlock) (hwhere : v3.ownBlock = (vs th).ownBlock ∨ v3.ownBlock = some Wa.heap.size) (hm : m = mkOf l k) (htm : ∀ t, thrM l (k + 1) t = thrM l k t ++ if th = t then [mkOf l k] else []) (hg : w.heap.size + 1 < W1.heap.size) :
    ByW w W1 l (k + 1) (fun s => if s = th then v3 else vs s) (w4.setCell ⟨w.heap.size + 1, th, none⟩ v3) := by
  have ho : Only (w.heap.size + 1) w4 (w4.setCell ⟨w.heap.size + 1, th, none⟩ v3) := (Only.refl _ _).setCell _ _
  have h2 := h.2.2.2.2.1
  have h3 := hba.size
  have h4 := hb5.size
  refine ⟨(((h.1.later hba).below hb5 (by omega)).only ho (by omega)), ?_, ?_, (h.2.2.2.1.trans ((hba.mono h.2.2.2.1.size).trans (hb5.mono (by omega)))).setCell (p := ⟨w.heap.size + 1, th, none⟩) (show w.heap.size ≤ w.heap.size + 1 by omega) _, by simp; omega, fun b hb hne => ?_⟩
  · rw [← vals4_set vs v3 hth]
    exact ((h.2.1.later hba).below hb5 hg).set th v3
  · refine Own4.only (g := w.heap.size + 1) ?_ ho hg
    refine Own4.add (ms := thrM l k) (h.2.2.1.later hba) hth ?_ hgrow hwhere (fun s hs => ?_)
    · rw [htm, if_pos rfl, ← hm]
      exact hown4
    · rw [htm, if_neg (fun e => hs e.symm), List.append_nil]
  · rw [ho.block b (by omega) hne, hb5.block b hb, hba.block b (by omega)]
    exact h.2.2.2.2.2 b hb hne
theorem ByW.alloc {w W1 wr : World} {l : List Ev} {k : Nat} {vs : Nat → Value} (h : ByW w W1 l k vs wr) (o : Obj) : ByW w W1 l k vs (wr.alloc o) := by
  have hba := below_alloc1 wr o
  have h2 := h.2.2.2.2.1
  exact ⟨h.1.later hba, h.2.1.later hba, h.2.2.1.later hba, h.2.2.2.1.trans (hba.mono h.2.2.2.1.size), by simp; omega, fun b hb hne => (hba.block b (by omega)).trans (h.2.2.2.2.2 b hb hne)⟩
theorem not_vals {w : World} {g b o : Nat} {t : TypeId} {n : Int} (h : MidAt w g t (vals4 fun _ => .slice none 0 0)) (hc : w.cell? ⟨b, o, none⟩ = some (.int .i64 n)) : b ≠ g := by
  rintro rfl
  rw [h.cell] at hc
  have := List.getElem?_eq_some_iff.1 hc
  obtain ⟨h1, h2⟩ := this
  simp [vals4] at h1
  rcases (by omega : o = 0 ∨ o = 1 ∨ o = 2 ∨ o = 3) with rfl | rfl | rfl | rfl <;> simp [vals4] at h2

/-- What byThread answers: four rows to be read. -/
def ByR (l : List Ev) (w : World) (r : Ending) (w' : World) : Prop :=
  ∃ (ads : Nat → Option Addr) (cs : Nat → Nat), r = .returned (.agg #[.slice (ads 0) (thrM l l.length 0).length (cs 0), .slice (ads 1) (thrM l l.length 1).length (cs 1), .slice (ads 2) (thrM l l.length 2).length (cs 2), .slice (ads 3) (thrM l l.length 3).length (cs 3)]) ∧
    (∀ t, t < 4 → RowAt w' (ads t) 8 mkCell (thrM l l.length t)) ∧ Below w.heap.size w w'

set_option maxRecDepth 100000 in
set_option maxHeartbeats 4000000 in
theorem byThread_any (a : Option Addr) (cap : Nat) (l : List Ev) (w : World) (hl : EvsAt w a l) (hm : l.length ≤ 1000) (hr : rightL l = true) :
    Calls Try.prog 33 #[.slice a l.length cap] w (ByR l w) := by
  have HL := Lib.hid hl
  have HR := Lib.hid hr
  have HZ : Hid (∃ W0, W0 = (w.alloc (.cells #[.slice none 0 0, .slice none 0 0, .slice none 0 0, .slice none 0 0] 86)).alloc (.cells #[.slice none 0 0, .slice none 0 0, .slice none 0 0, .slice none 0 0] 86) ∧
      MidAt W0 w.heap.size 86 (vals4 fun _ => .slice none 0 0) ∧ MidAt W0 (w.heap.size + 1) 86 (vals4 fun _ => .slice none 0 0) ∧ Below w.heap.size w W0) :=
    ⟨_, rfl, heap_alloc2_old w _ _, heap_alloc2_new w _ _, below_alloc2 w _ _⟩
  clear hl hr
  go_enter Try.func33, Try.ntmps33
  go_wp2_with fail
  obtain ⟨W0, hW0, hz1, hz2, hz3⟩ := HZ.out
  rw [← hW0]
  have HZ1 := Lib.hid (And.intro hz1 hz2)
  clear HZ hW0 hz1 hz2
  refine (clocks_any a cap l W0 (HL.out.later hz3) hm).mono ?_
  rintro r W1 ⟨a', cap', rfl, hrow, hb1⟩
  have H0 : Hid (ByW w W1 l 0 (fun _ => .slice none 0 0) W1) := ⟨HZ1.out.1.later hb1, HZ1.out.2.later hb1, own4_nil _ _ _, hz3.trans (hb1.mono hz3.size), Nat.le_refl _, fun _ _ _ => rfl⟩
  have HZ2 := Lib.hid H0.out.2.1
  have HCK := Lib.hid hrow
  have hB1 : w.heap.size + 1 < W1.heap.size := MidAt.lt H0.out.2.1
  have HCL := Lib.hid (cks_len HR.out)
  clear HZ1 hrow hb1 hz3
  have hcl1 : (cks l).length ≤ l.length := Nat.le_of_eq HCL.out
  have hcl2 : l.length ≤ (cks l).length := Nat.le_of_eq HCL.out.symm
  go_wp2_with fail
  go_loopw [10] (fun i wr => ∃ (k : Nat) (vs : Nat → Value), k ≤ l.length ∧ i = .int .i64 k ∧ Hid (ByW w W1 l k vs wr)) (fun i _ => l.length - (intOf i).toNat)
  case atStart => exact ⟨0, _, Nat.zero_le _, rfl, H0⟩
  case round =>
    clear H0
    obtain ⟨k, vs, hk, rfl, HW⟩ := hrel
    by_cases hlt : k < l.length
    · have hkc : k < (cks l).length := by omega
      have hbwr := HW.out.2.2.2.1
      obtain ⟨b, o, rfl, t0, t1, t2, t3⟩ := HL.out.one hlt
      obtain ⟨b2, o2, rfl, hcell⟩ := HCK.out.2 (by intro e; rw [e] at hkc; simp at hkc)
      have hgk := cks_get HR.out hlt
      have cc := hcell k hkc 0 (.int .i64 (clk l k 0)) (by rw [hgk]; rfl)
      have hne := not_vals HZ2.out cc
      have hsame : ∀ o, wr.cell? ⟨b2, o, none⟩ = W1.cell? ⟨b2, o, none⟩ := fun o => World.cell?_of_block (HW.out.2.2.2.2.2 b2 (cell_block cc) hne)
      have c0 := (hsame _).trans cc
      have c1 := (hsame _).trans (hcell k hkc 1 (.int .i64 (clk l k 1)) (by rw [hgk]; rfl))
      have c2 := (hsame _).trans (hcell k hkc 2 (.int .i64 (clk l k 2)) (by rw [hgk]; rfl))
      have c3 := (hsame _).trans (hcell k hkc 3 (.int .i64 (clk l k 3)) (by rw [hgk]; rfl))
      clear hsame cc hne
      rw [Nat.add_zero] at c0
      have hba : Below wr.heap.size wr (wr.alloc (.cells #[.int .i64 (clk l k 0), .int .i64 (clk l k 1), .int .i64 (clk l k 2), .int .i64 (clk l k 3)] 66)) := below_alloc1 _ _
      have hbwr2 := hbwr.trans (hba.mono hbwr.size)
      have d0 := cell_later hbwr2 t0
      have d1 := cell_later hbwr2 t1
      have d2 := cell_later hbwr2 t2
      have d3 := cell_later hbwr2 t3
      have HBX : Hid (MidAt (wr.alloc (.cells #[.int .i64 (clk l k 0), .int .i64 (clk l k 1), .int .i64 (clk l k 2), .int .i64 (clk l k 3)] 66)) wr.heap.size 66 (nums4 fun t => (clk l k t : Nat))) := heap_alloc_new _ _
      have HW2 := Lib.hid (HW.out.alloc (.cells #[.int .i64 (clk l k 0), .int .i64 (clk l k 1), .int .i64 (clk l k 2), .int .i64 (clk l k 3)] 66))
      have hth := rightEv_bd (e := evI l k) (by rw [evI_get hlt]; exact rightL_get HR.out hlt)
      obtain ⟨th, hth2⟩ : ∃ th : Nat, (evI l k).thread = th := ⟨(evI l k).thread.toNat, by omega⟩
      have hth4 : th < 4 := by omega
      have hti : (th : Int) < 4 := by omega
      have hti0 : (0 : Int) ≤ th := by omega
      have HMK : Hid (mkOf l k = ⟨⟨th, (evI l k).kind, (evI l k).obj, (evI l k).fail⟩, fun t : Nat => clk l k t⟩) := by show _ = _; unfold mkOf; rw [← hth2]
      have HTM : Hid (∀ t, thrM l (k + 1) t = thrM l k t ++ if th = t then [mkOf l k] else []) := fun t => by
        rw [thrM_succ, hth2]
        by_cases e : th = t
        · rw [if_pos e, if_pos (by omega)]
        · rw [if_neg e, if_neg (by omega)]
      rw [hth2] at d0
      clear t0 t1 t2 t3 hth hth2 hcell hgk HW hba hbwr
      generalize (evI l k).kind = xk at *
      generalize (evI l k).obj = xo at *
      generalize (evI l k).fail = xf at *
      go_wp2_with fail
      clear c0 c1 c2 c3
      generalize (wr.alloc (.cells #[.int .i64 (clk l k 0), .int .i64 (clk l k 1), .int .i64 (clk l k 2), .int .i64 (clk l k 3)] 66)) = W2 at *
      obtain ⟨e0, e1, e2, e3⟩ := HBX.out.four
      have q0 := HW2.out.2.1.cell th
      rw [vals4_get _ hth4] at q0
      have q1 := cell_later (below_alloc1 W2 (.cells #[.int .i64 (th : Int), .int .i64 xk, .int .i64 xo, .bool xf, .int .i64 (clk l k 0), .int .i64 (clk l k 1), .int .i64 (clk l k 2), .int .i64 (clk l k 3)] 90)) q0
      have hgg : w.heap.size + 1 < W1.heap.size := hB1
      go_region_law ((refine step_appendAt (f := mkCell) (n := 8) 85 90 64 (.agg #[.int .i64 0, .int .i64 0, .int .i64 0, .bool false, .int .i64 0, .int .i64 0, .int .i64 0, .int .i64 0]) Try.underlying85 infoMark (by rfl) (by omega) (by omega) mkCell_len (by rfl) _ _ (by rfl) W1.heap.size _ (thrM l k th) (by rfl) (OwnRow.alloc (HW2.out.2.2.1.1 th hth4) _) ⟨W2.heap.size, 0, none⟩ (by rfl) ⟨⟨th, xk, xo, xf⟩, fun t : Nat => clk l k t⟩ (mkCell_one _) (cells_new W2 (mkCell ⟨⟨th, xk, xo, xf⟩, fun t : Nat => clk l k t⟩) _ _ rfl) (by have := thrM_len l k th; omega) (by simp; have := HW2.out.2.2.2.2.1; omega) ?_; intro v3 w4 hown4 hb5 hgrow hwhere; obtain ⟨g3, cap3, hv3, _, _⟩ := OwnRow.block hown4 (by simp); rw [List.length_append, List.length_singleton] at hv3; subst hv3; have HF := Lib.hid (ByW.step HW2.out (below_alloc1 W2 _).drew hth4 hown4 hb5 hgrow hwhere HMK.out.symm HTM.out hgg); have hq4 : w4.cell? ⟨w.heap.size + 1, th, none⟩ = some (vs th) := (hb5.cell (p := ⟨w.heap.size + 1, th, none⟩) hgg).trans (cell_later (below_alloc1 W2 _) q0); have hf4 : w4.frozen? ⟨w.heap.size + 1, th, none⟩ = false := (hb5.frozen (p := ⟨w.heap.size + 1, th, none⟩) hgg).trans ((HW2.out.2.1.later (below_alloc1 W2 _)).frozen th)))
      all_goals
        go_wp2
        go_roundw
        case rel => exact ⟨k + 1, _, by omega, by go_num, HF⟩
        case measure => simp [intOf]; omega
    · obtain rfl : k = l.length := by omega
      have ho : Only w.heap.size wr ((((wr.setCell ⟨w.heap.size, 0, none⟩ (vs 0)).setCell ⟨w.heap.size, 1, none⟩ (vs 1)).setCell ⟨w.heap.size, 2, none⟩ (vs 2)).setCell ⟨w.heap.size, 3, none⟩ (vs 3)) := ((((Only.refl _ _).setCell _ _).setCell _ _).setCell _ _).setCell _ _
      have HO4 := Lib.hid (HW.out.2.2.1.only ho (by omega))
      have HBF := Lib.hid (HW.out.2.2.2.1.trans (ho.below (Nat.le_refl _) HW.out.2.2.2.1.size))
      have z0 := HW.out.1.cell 0
      have z1 := HW.out.1.cell 1
      have z2 := HW.out.1.cell 2
      have z3 := HW.out.1.cell 3
      have f0 := HW.out.1.frozen 0
      have f1 := HW.out.1.frozen 1
      have f2 := HW.out.1.frozen 2
      have f3 := HW.out.1.frozen 3
      have y0 := HW.out.2.1.cell 0
      have y1 := HW.out.2.1.cell 1
      have y2 := HW.out.2.1.cell 2
      have y3 := HW.out.2.1.cell 3
      rw [vals4_get _ (by omega)] at z0 z1 z2 z3 y0 y1 y2 y3
      clear ho HW
      have hfm : ∀ t, ∃ a c, t < 4 → vs t = .slice a (thrM l l.length t).length c := fun t => by
        by_cases ht : t < 4
        · obtain ⟨a, c, h1, _⟩ := OwnRow.form (HO4.out.1 t ht) mkCell_len (by have := thrM_len l l.length t; omega)
          exact ⟨a, c, fun _ => h1⟩
        · exact ⟨none, 0, fun h => absurd h ht⟩
      obtain ⟨ads, hads⟩ := Classical.skolem.1 hfm
      obtain ⟨cs, hcs⟩ := Classical.skolem.1 hads
      have HRW : Hid (∀ t, t < 4 → RowAt ((((wr.setCell ⟨w.heap.size, 0, none⟩ (vs 0)).setCell ⟨w.heap.size, 1, none⟩ (vs 1)).setCell ⟨w.heap.size, 2, none⟩ (vs 2)).setCell ⟨w.heap.size, 3, none⟩ (vs 3)) (ads t) 8 mkCell (thrM l l.length t)) := by
        intro t ht
        obtain ⟨a, c, h1, h2, _⟩ := OwnRow.form (HO4.out.1 t ht) mkCell_len (by have := thrM_len l l.length t; omega)
        rw [hcs t ht] at h1
        have e : ads t = a := by injection h1
        rw [e]
        exact h2
      have h0 := hcs 0 (by omega)
      have h1 := hcs 1 (by omega)
      have h2 := hcs 2 (by omega)
      have h3 := hcs 3 (by omega)
      rw [h0, h1, h2, h3] at HRW HBF
      rw [h0] at y0
      rw [h1] at y1
      rw [h2] at y2
      rw [h3] at y3
      clear hcs hads hfm HO4 h0 h1 h2 h3
      go_wp2
      refine bodyPost_ret (v := .agg #[.slice (ads 0) (thrM l l.length 0).length (cs 0), .slice (ads 1) (thrM l l.length 1).length (cs 1), .slice (ads 2) (thrM l l.length 2).length (cs 2), .slice (ads 3) (thrM l l.length 3).length (cs 3)]) ?_ rfl ⟨ads, cs, rfl, HRW.out, HBF.out⟩
      simp [results, Try.results33, go_sem, z0, z1, z2, z3]

end Go.Proofs.Ytkjjbcgecnjniaa

/- The contracts of clock's alike, and of slices.EqualFunc with it. -/
namespace Go.Proofs.Ytkjjbcgecnjniaa
open Go.RowKit

theorem run_eqItems_cons {P : Program} (w : World) (d : Nat) {e : TypeId} {k' : IntKind} (xs ys : Array Value) (j : Nat) (is : List Nat) (k : IntKind) (a b : Int) (hu : P.underlying e = some (.int k')) (hx : xs[j]? = some (.int k a)) (hy : ys[j]? = some (.int k b)) :
    (Op.eqItems (d + 1) e 1 xs ys (j :: is)).run P w = if a == b then (Op.eqItems (d + 1) e 1 xs ys is).run P w else .ok false w := by
  rw [Op.eqItems]
  simp only [Nat.mul_one, Sem.run_bind, run_part_one w hu rfl hx, run_part_one w hu rfl hy, Result.andThen_ok, run_equalIn_int w d e k k' a b hu]
  cases h : (a == b) <;> simp

theorem run_equal_four (c d : Nat → Int) (w : World) : (Op.equalIn 10000 66 (.agg #[.int .i64 (c 0), .int .i64 (c 1), .int .i64 (c 2), .int .i64 (c 3)]) (.agg #[.int .i64 (d 0), .int .i64 (d 1), .int .i64 (d 2), .int .i64 (d 3)])).run Try.prog w = .ok (decide (c 0 = d 0 ∧ c 1 = d 1 ∧ c 2 = d 2 ∧ c 3 = d 3)) w := by
  have hsome : (Try.prog.info? 3).isSome = true := by kernel_rfl
  obtain ⟨i, hi⟩ := Option.isSome_iff_exists.1 hsome
  have hc : Try.prog.cellsOf 3 = 1 := by kernel_rfl
  rw [run_equalIn_array (P := Try.prog) w 9999 _ _ Try.underlying66 hi, hc]
  simp only [show List.range 4 = [0, 1, 2, 3] from rfl]
  rw [run_eqItems_cons w 9998 _ _ 0 _ .i64 (c 0) (d 0) Try.underlying3 rfl rfl, run_eqItems_cons w 9998 _ _ 1 _ .i64 (c 1) (d 1) Try.underlying3 rfl rfl, run_eqItems_cons w 9998 _ _ 2 _ .i64 (c 2) (d 2) Try.underlying3 rfl rfl, run_eqItems_cons w 9998 _ _ 3 _ .i64 (c 3) (d 3) Try.underlying3 rfl rfl, Op.eqItems]
  by_cases h0 : c 0 = d 0 <;> by_cases h1 : c 1 = d 1 <;> by_cases h2 : c 2 = d 2 <;> by_cases h3 : c 3 = d 3 <;> simp [h0, h1, h2, h3]

/-- One event, of one clock. -/
def alikeB (m m' : Mk) : Bool := decide (m.e = m'.e) && decide ((m.c 0 : Int) = m'.c 0 ∧ (m.c 1 : Int) = m'.c 1 ∧ (m.c 2 : Int) = m'.c 2 ∧ (m.c 3 : Int) = m'.c 3)
theorem alikeB_iff {m m' : Mk} : alikeB m m' = true ↔ m.e = m'.e ∧ ∀ t, t < 4 → m.c t = m'.c t := by
  unfold alikeB
  rw [Bool.and_eq_true, decide_eq_true_eq, decide_eq_true_eq]
  constructor
  · rintro ⟨h, h0, h1, h2, h3⟩
    refine ⟨h, fun t ht => ?_⟩
    rcases (by omega : t = 0 ∨ t = 1 ∨ t = 2 ∨ t = 3) with rfl | rfl | rfl | rfl <;> omega
  · rintro ⟨h, h1⟩
    have := h1 0 (by omega)
    have := h1 1 (by omega)
    have := h1 2 (by omega)
    have := h1 3 (by omega)
    exact ⟨h, by omega, by omega, by omega, by omega⟩

set_option maxRecDepth 100000 in
set_option maxHeartbeats 4000000 in
theorem alike_any (m m' : Mk) (w : World) : Calls Try.prog 35 #[.agg #[.int .i64 m.e.thread, .int .i64 m.e.kind, .int .i64 m.e.obj, .bool m.e.fail, .int .i64 (m.c 0), .int .i64 (m.c 1), .int .i64 (m.c 2), .int .i64 (m.c 3)],
    .agg #[.int .i64 m'.e.thread, .int .i64 m'.e.kind, .int .i64 m'.e.obj, .bool m'.e.fail, .int .i64 (m'.c 0), .int .i64 (m'.c 1), .int .i64 (m'.c 2), .int .i64 (m'.c 3)]] w fun r w' => r = .returned (.bool (alikeB m m')) ∧ Below w.heap.size w w' := by
  have heq := run_equal_ev m.e m'.e
  have heq4 := run_equal_four (fun t => (m.c t : Int)) (fun t => (m'.c t : Int))
  have hb0 := below_alloc2 w (.cells #[.int .i64 m.e.thread, .int .i64 m.e.kind, .int .i64 m.e.obj, .bool m.e.fail, .int .i64 (m.c 0), .int .i64 (m.c 1), .int .i64 (m.c 2), .int .i64 (m.c 3)] 90) (.cells #[.int .i64 m'.e.thread, .int .i64 m'.e.kind, .int .i64 m'.e.obj, .bool m'.e.fail, .int .i64 (m'.c 0), .int .i64 (m'.c 1), .int .i64 (m'.c 2), .int .i64 (m'.c 3)] 90)
  obtain ⟨E1, hE1⟩ : ∃ b, decide (m.e = m'.e) = b := ⟨_, rfl⟩
  obtain ⟨E2, hE2⟩ : ∃ b, decide ((m.c 0 : Int) = m'.c 0 ∧ (m.c 1 : Int) = m'.c 1 ∧ (m.c 2 : Int) = m'.c 2 ∧ (m.c 3 : Int) = m'.c 3) = b := ⟨_, rfl⟩
  have HR : Hid (alikeB m m' = (E1 && E2)) := by show _ = _; unfold alikeB; rw [hE1, hE2]
  rw [hE1] at heq
  rw [hE2] at heq4
  clear hE1 hE2
  cases E1
  · rw [Bool.false_and] at HR
    clear heq4
    go_enter Try.func35, Try.ntmps35
    go_wp2
    go_ret
    exact ⟨ret_bool HR.out.symm, hb0⟩
  · rw [Bool.true_and] at HR
    go_enter Try.func35, Try.ntmps35
    go_wp2
    go_ret
    exact ⟨ret_bool HR.out.symm, hb0⟩

/-- All of the first k pairs are alike. -/
def AllA (a b : List Mk) (k : Nat) : Prop := ∀ i, i < k → ∀ (h : i < a.length) (h' : i < b.length), alikeB a[i] b[i] = true
def EqR (a b : List Mk) (w : World) (r : Ending) (w' : World) : Prop := ∃ c : Bool, r = .returned (.bool c) ∧ (c = true ↔ a.length = b.length ∧ AllA a b a.length) ∧ Below w.heap.size w w'

set_option maxRecDepth 100000 in
set_option maxHeartbeats 4000000 in
theorem equalFunc_any (aa ab : Option Addr) (ca cb : Nat) (a b : List Mk) (w : World) (hl : RowAt w aa 8 mkCell a) (hl' : RowAt w ab 8 mkCell b) :
    Calls Try.prog 34 #[.slice aa a.length ca, .slice ab b.length cb, .func (.func 35) #[] #[]] w (EqR a b w) := by
  have hm := hl.1
  have hm' := hl'.1
  unfold maxLen at hm hm'
  have HL := Lib.hid hl
  have HL' := Lib.hid hl'
  clear hl hl'
  by_cases hne : a.length = b.length
  case neg =>
    have HN : Hid (¬ (a.length = b.length ∧ AllA a b a.length)) := fun h => hne h.1
    have hq : ((a.length : Int) != b.length) = true := by simp; omega
    clear hne
    go_enter Try.func34, Try.ntmps34
    go_wp2
    go_ret
    exact ⟨false, rfl, by simp [HN.out], Below.refl _ _⟩
  have hq : ((a.length : Int) != b.length) = false := by simp [hne]
  have HE := Lib.hid hne
  have hab1 : a.length ≤ b.length := by omega
  have hab2 : b.length ≤ a.length := by omega
  clear hne
  go_enter Try.func34, Try.ntmps34
  go_wp2
  go_loopw [17] (fun i wr => ∃ k : Nat, k ≤ a.length ∧ i = .int .i64 k ∧ Hid (AllA a b k) ∧ Below w.heap.size w wr) (fun i _ => a.length - (intOf i).toNat)
  case atStart => exact ⟨0, Nat.zero_le _, rfl, (fun i h => absurd h (by omega)), Below.refl _ _⟩
  case round =>
    obtain ⟨k, hk, rfl, HA, hbw⟩ := hrel
    by_cases hlt : k < a.length
    · have hlt' : k < b.length := by omega
      obtain ⟨b1, o1, rfl, ⟨x0, x1, x2, x3⟩, x4, x5, x6, x7⟩ := HL.out.mk k hlt
      obtain ⟨b2, o2, rfl, ⟨y0, y1, y2, y3⟩, y4, y5, y6, y7⟩ := HL'.out.mk k hlt'
      have HA1 : Hid (alikeB a[k] b[k] = true → AllA a b (k + 1)) := by
        intro h i hi h1 h2
        by_cases e : i = k
        · subst e; exact h
        · exact HA.out i (by omega) h1 h2
      have HA2 : Hid (alikeB a[k] b[k] = false → ¬ (a.length = b.length ∧ AllA a b a.length)) := by
        rintro h ⟨_, h2⟩
        rw [h2 k hlt hlt hlt'] at h
        cases h
      have d0 := cell_later hbw x0
      have d1 := cell_later hbw x1
      have d2 := cell_later hbw x2
      have d3 := cell_later hbw x3
      have d4 := cell_later hbw x4
      have d5 := cell_later hbw x5
      have d6 := cell_later hbw x6
      have d7 := cell_later hbw x7
      have hba := below_alloc1 wr (.cells #[.int .i64 a[k].e.thread, .int .i64 a[k].e.kind, .int .i64 a[k].e.obj, .bool a[k].e.fail, .int .i64 (a[k].c 0), .int .i64 (a[k].c 1), .int .i64 (a[k].c 2), .int .i64 (a[k].c 3)] 90)
      have hbw2 := hbw.trans (hba.mono hbw.size)
      have e0 := cell_later hbw2 y0
      have e1 := cell_later hbw2 y1
      have e2 := cell_later hbw2 y2
      have e3 := cell_later hbw2 y3
      have e4 := cell_later hbw2 y4
      have e5 := cell_later hbw2 y5
      have e6 := cell_later hbw2 y6
      have e7 := cell_later hbw2 y7
      clear x0 x1 x2 x3 x4 x5 x6 x7 y0 y1 y2 y3 y4 y5 y6 y7 hba HA
      generalize a[k] = x at *
      generalize b[k] = y at *
      have hb3 := hbw2.alloc hbw2.size (.cells #[.int .i64 y.e.thread, .int .i64 y.e.kind, .int .i64 y.e.obj, .bool y.e.fail, .int .i64 (y.c 0), .int .i64 (y.c 1), .int .i64 (y.c 2), .int .i64 (y.c 3)] 90)
      go_wp2_with fail
      refine (alike_any x y _).mono ?_
      rintro r w2 ⟨rfl, hb4⟩
      have hb5 := hb3.trans (hb4.mono hb3.size)
      clear hb3 hb4 hbw2
      cases hV : alikeB x y
      · have HN := Lib.hid (HA2.out hV)
        clear HA1 HA2 hV
        go_wp2
        go_ret
        exact ⟨false, rfl, ⟨fun h => (by cases h), fun h => absurd h HN.out⟩, hb5⟩
      · have HA3 := Lib.hid (HA1.out hV)
        clear HA1 HA2 hV
        go_wp2
        go_roundw
        case rel => exact ⟨k + 1, by omega, by go_num, HA3, hb5⟩
        case measure => simp [intOf]; omega
    · obtain rfl : k = a.length := by omega
      have HF := Lib.hid (And.intro HE.out HA.out)
      go_wp2
      go_ret
      exact ⟨true, rfl, ⟨fun _ => HF.out, fun _ => rfl⟩, hbw⟩

end Go.Proofs.Ytkjjbcgecnjniaa

/- The contract of clock's Same. -/
namespace Go.Proofs.Ytkjjbcgecnjniaa
open Go.RowKit

theorem clk_out {l : List Ev} (h : In4 l) {k : Nat} (hk : k < l.length) {t : Int} (ht : ¬ (0 ≤ t ∧ t ≤ 3)) : clk l k t = 0 := by
  have h1 := clk_le_cnt l k t
  have h2 := cnt_mono (isT l t) (show k + 1 ≤ l.length by omega)
  have h3 := cnt_none h ht
  omega
theorem thrM_all_len (l : List Ev) (t : Nat) : (thrM l l.length t).length = (psi l t).length := by
  rw [psi_eq]
  unfold thrM
  simp
theorem thrM_get {l : List Ev} {t i : Nat} (h : i < (thrM l l.length t).length) : ∃ k, k < l.length ∧ (thrM l l.length t)[i] = mkOf l k ∧ (psi l t)[i]? = some (evI l k, clk l k) := by
  have h2 : i < ((List.range l.length).filter (isT l t)).length := by unfold thrM at h; simpa using h
  refine ⟨((List.range l.length).filter (isT l t))[i], ?_, ?_, ?_⟩
  · have := (List.mem_filter.1 (List.getElem_mem h2)).1
    simpa using this
  · have e : (thrM l l.length t)[i]? = some (mkOf l ((List.range l.length).filter (isT l t))[i]) := by
      unfold thrM
      rw [List.getElem?_map, List.getElem?_eq_getElem h2]
      rfl
    exact (List.getElem?_eq_some_iff.1 e).2
  · rw [psi_eq, List.getElem?_map, List.getElem?_eq_getElem h2]
    rfl

/-- Of one thread: the same events, of the same clocks. -/
def EqT (a b : List Ev) (t : Nat) : Prop := (thrM a a.length t).length = (thrM b b.length t).length ∧ AllA (thrM a a.length t) (thrM b b.length t) (thrM a a.length t).length
theorem eqT_iff {a b : List Ev} (ha : In4 a) (hb4 : In4 b) (t : Nat) : EqT a b t ↔ psi a t = psi b t := by
  constructor
  · rintro ⟨h1, h2⟩
    apply List.ext_getElem?
    intro i
    by_cases hi : i < (thrM a a.length t).length
    · have hi' : i < (thrM b b.length t).length := by omega
      obtain ⟨k, hk, e1, e2⟩ := thrM_get hi
      obtain ⟨k', hk', e1', e2'⟩ := thrM_get hi'
      have h3 := alikeB_iff.1 (h2 i hi hi hi')
      rw [e1, e1'] at h3
      rw [e2, e2']
      congr 2
      · exact h3.1
      · funext u
        by_cases hu : 0 ≤ u ∧ u ≤ 3
        · obtain ⟨v, rfl⟩ : ∃ v : Nat, u = v := ⟨u.toNat, by omega⟩
          exact h3.2 v (by omega)
        · rw [clk_out ha hk hu, clk_out hb4 hk' hu]
    · rw [List.getElem?_eq_none (by rw [← thrM_all_len]; omega), List.getElem?_eq_none (by rw [← thrM_all_len]; omega)]
  · intro h
    have hl : (thrM a a.length t).length = (thrM b b.length t).length := by rw [thrM_all_len, thrM_all_len, h]
    refine ⟨hl, fun i _ hi hi' => ?_⟩
    obtain ⟨k, hk, e1, e2⟩ := thrM_get hi
    obtain ⟨k', hk', e1', e2'⟩ := thrM_get hi'
    rw [h, e2'] at e2
    rw [e1, e1', alikeB_iff]
    injection e2 with e2
    injection e2 with e3 e4
    exact ⟨e3.symm, fun u _ => by show clk a k u = clk b k' u; rw [e4]⟩
theorem sim_eqT {a b : List Ev} (ha : In4 a) (hb4 : In4 b) : Sim a b ↔ ∀ t : Nat, t < 4 → EqT a b t := by
  constructor
  · intro h t _
    exact (eqT_iff ha hb4 t).2 (h t)
  · intro h t
    by_cases ht : 0 ≤ t ∧ t ≤ 3
    · obtain ⟨v, rfl⟩ : ∃ v : Nat, t = v := ⟨t.toNat, by omega⟩
      exact (eqT_iff ha hb4 v).1 (h v (by omega))
    · have h1 : psi a t = [] := List.eq_nil_of_length_eq_zero (by rw [psi_len]; exact cnt_none ha ht)
      have h2 : psi b t = [] := List.eq_nil_of_length_eq_zero (by rw [psi_len]; exact cnt_none hb4 ht)
      rw [h1, h2]
theorem SameO.of_all {a b : List Ev} (ha : rightL a = true) (hb4 : rightL b = true) (h : ∀ t, t < 4 → EqT a b t) : SameO a b := ⟨ha, hb4, (sim_eqT (in4_of_right ha) (in4_of_right hb4)).2 h⟩
theorem not_same_thr {a b : List Ev} {t : Nat} (ht : t < 4) (h : ¬ EqT a b t) : ¬ SameO a b := fun hs => h ((sim_eqT (in4_of_right hs.1) (in4_of_right hs.2.1)).1 hs.2.2 t ht)

set_option maxRecDepth 100000 in
set_option maxHeartbeats 4000000 in
theorem same_any (aa ab : Option Addr) (ca cb : Nat) (a b : List Ev) (w : World) (hl : EvsAt w aa a) (hl' : EvsAt w ab b) (hm : a.length ≤ 1000) (hm' : b.length ≤ 1000) :
    Calls Try.prog 18 #[.slice aa a.length ca, .slice ab b.length cb] w (SameR a b w) := by
  have HL := Lib.hid hl
  have HL' := Lib.hid hl'
  have HCa := Lib.hid (cRight_any aa ca a w hl)
  clear hl hl'
  cases hra : rightL a
  · have HN : Hid (¬ SameO a b) := fun h => by rw [h.1] at hra; cases hra
    rw [hra] at HCa
    clear hra
    go_enter Try.func18, Try.ntmps18
    go_wp2_with fail
    refine HCa.out.mono ?_
    rintro r w1 ⟨rfl, hbw⟩
    clear HCa
    go_wp2
    go_ret
    exact ⟨false, rfl, by simp [HN.out], hbw⟩
  rw [hra] at HCa
  have HRA := Lib.hid hra
  cases hrb : rightL b
  · have HN : Hid (¬ SameO a b) := fun h => by rw [h.2.1] at hrb; cases hrb
    have HRB := Lib.hid hrb
    clear hra hrb
    go_enter Try.func18, Try.ntmps18
    go_wp2_with fail
    refine HCa.out.mono ?_
    rintro r w1 ⟨rfl, hbw⟩
    clear HCa
    go_wp2_with fail
    refine (cRight_any ab cb b w1 (HL'.out.later hbw)).mono ?_
    rintro r w2 ⟨rfl, hbw2⟩
    rw [HRB.out]
    have hb3 := hbw.trans (hbw2.mono hbw.size)
    clear HRB hbw hbw2
    go_wp2
    go_ret
    exact ⟨false, rfl, by simp [HN.out], hb3⟩
  have HRB := Lib.hid hrb
  clear hra hrb
  go_enter Try.func18, Try.ntmps18
  go_wp2_with fail
  refine HCa.out.mono ?_
  rintro r w1 ⟨rfl, hbw⟩
  clear HCa
  go_wp2_with fail
  refine (cRight_any ab cb b w1 (HL'.out.later hbw)).mono ?_
  rintro r w2 ⟨rfl, hbw2⟩
  rw [HRB.out]
  have hb3 := hbw.trans (hbw2.mono hbw.size)
  clear hbw hbw2
  go_wp2_with fail
  refine (byThread_any aa ca a w2 (HL.out.later hb3) hm HRA.out).mono ?_
  rintro r w3 ⟨ada, csa, rfl, hrowa, hb4⟩
  have hb5 := hb3.trans (hb4.mono hb3.size)
  have HROWA := Lib.hid hrowa
  clear hb4 hb3 hrowa
  go_wp2_with fail
  refine (byThread_any ab cb b w3 (HL'.out.later hb5) hm' HRB.out).mono ?_
  rintro r w4 ⟨adb, csb, rfl, hrowb, hb6⟩
  have hb7 := hb5.trans (hb6.mono hb5.size)
  have HRA4 : Hid (∀ t, t < 4 → RowAt w4 (ada t) 8 mkCell (thrM a a.length t)) := fun t ht => (HROWA.out t ht).later hb6
  have HRB4 := Lib.hid hrowb
  clear hb6 hb5 hrowb HROWA HL HL'
  have HMA : Hid (MidAt ((w4.alloc (.cells #[.slice (ada 0) (thrM a a.length 0).length (csa 0), .slice (ada 1) (thrM a a.length 1).length (csa 1), .slice (ada 2) (thrM a a.length 2).length (csa 2), .slice (ada 3) (thrM a a.length 3).length (csa 3)] 86)).alloc (.cells #[.slice (adb 0) (thrM b b.length 0).length (csb 0), .slice (adb 1) (thrM b b.length 1).length (csb 1), .slice (adb 2) (thrM b b.length 2).length (csb 2), .slice (adb 3) (thrM b b.length 3).length (csb 3)] 86)) w4.heap.size 86 (vals4 fun t => .slice (ada t) (thrM a a.length t).length (csa t))) := heap_alloc2_old _ _ _
  have HMB : Hid (MidAt ((w4.alloc (.cells #[.slice (ada 0) (thrM a a.length 0).length (csa 0), .slice (ada 1) (thrM a a.length 1).length (csa 1), .slice (ada 2) (thrM a a.length 2).length (csa 2), .slice (ada 3) (thrM a a.length 3).length (csa 3)] 86)).alloc (.cells #[.slice (adb 0) (thrM b b.length 0).length (csb 0), .slice (adb 1) (thrM b b.length 1).length (csb 1), .slice (adb 2) (thrM b b.length 2).length (csb 2), .slice (adb 3) (thrM b b.length 3).length (csb 3)] 86)) (w4.heap.size + 1) 86 (vals4 fun t => .slice (adb t) (thrM b b.length t).length (csb t))) := heap_alloc2_new _ _ _
  have hba : Below w4.heap.size w4 ((w4.alloc (.cells #[.slice (ada 0) (thrM a a.length 0).length (csa 0), .slice (ada 1) (thrM a a.length 1).length (csa 1), .slice (ada 2) (thrM a a.length 2).length (csa 2), .slice (ada 3) (thrM a a.length 3).length (csa 3)] 86)).alloc (.cells #[.slice (adb 0) (thrM b b.length 0).length (csb 0), .slice (adb 1) (thrM b b.length 1).length (csb 1), .slice (adb 2) (thrM b b.length 2).length (csb 2), .slice (adb 3) (thrM b b.length 3).length (csb 3)] 86)) := below_alloc2 _ _ _
  have hb8 := hb7.trans (hba.mono hb7.size)
  have HRA5 : Hid (∀ t, t < 4 → RowAt ((w4.alloc (.cells #[.slice (ada 0) (thrM a a.length 0).length (csa 0), .slice (ada 1) (thrM a a.length 1).length (csa 1), .slice (ada 2) (thrM a a.length 2).length (csa 2), .slice (ada 3) (thrM a a.length 3).length (csa 3)] 86)).alloc (.cells #[.slice (adb 0) (thrM b b.length 0).length (csb 0), .slice (adb 1) (thrM b b.length 1).length (csb 1), .slice (adb 2) (thrM b b.length 2).length (csb 2), .slice (adb 3) (thrM b b.length 3).length (csb 3)] 86)) (ada t) 8 mkCell (thrM a a.length t)) := fun t ht => (HRA4.out t ht).later hba
  have HRB5 : Hid (∀ t, t < 4 → RowAt ((w4.alloc (.cells #[.slice (ada 0) (thrM a a.length 0).length (csa 0), .slice (ada 1) (thrM a a.length 1).length (csa 1), .slice (ada 2) (thrM a a.length 2).length (csa 2), .slice (ada 3) (thrM a a.length 3).length (csa 3)] 86)).alloc (.cells #[.slice (adb 0) (thrM b b.length 0).length (csb 0), .slice (adb 1) (thrM b b.length 1).length (csb 1), .slice (adb 2) (thrM b b.length 2).length (csb 2), .slice (adb 3) (thrM b b.length 3).length (csb 3)] 86)) (adb t) 8 mkCell (thrM b b.length t)) := fun t ht => (HRB4.out t ht).later hba
  clear hba hb7 HRA4 HRB4
  go_wp2
  generalize ((w4.alloc (.cells #[.slice (ada 0) (thrM a a.length 0).length (csa 0), .slice (ada 1) (thrM a a.length 1).length (csa 1), .slice (ada 2) (thrM a a.length 2).length (csa 2), .slice (ada 3) (thrM a a.length 3).length (csa 3)] 86)).alloc (.cells #[.slice (adb 0) (thrM b b.length 0).length (csb 0), .slice (adb 1) (thrM b b.length 1).length (csb 1), .slice (adb 2) (thrM b b.length 2).length (csb 2), .slice (adb 3) (thrM b b.length 3).length (csb 3)] 86)) = W5 at *
  go_loopw [20] (fun i wr => ∃ t : Nat, t ≤ 4 ∧ i = .int .i64 t ∧ Hid (∀ s, s < t → EqT a b s) ∧ Below W5.heap.size W5 wr) (fun i _ => 4 - (intOf i).toNat)
  case atStart => exact ⟨0, by omega, rfl, (fun s h => absurd h (by omega)), Below.refl _ _⟩
  case round =>
    obtain ⟨t, ht, rfl, HE, hbw⟩ := hrel
    by_cases ht4 : t < 4
    · have q1 := cell_later hbw (by have := HMA.out.cell t; rw [vals4_get _ ht4] at this; exact this)
      have q2 := cell_later hbw (by have := HMB.out.cell t; rw [vals4_get _ ht4] at this; exact this)
      have hti : (t : Int) < 4 := by omega
      have hti0 : (0 : Int) ≤ t := by omega
      have HQ : Hid (∀ w', Below wr.heap.size wr w' → w'.cell? ⟨w4.heap.size, t, none⟩ = some (.slice (ada t) (thrM a a.length t).length (csa t)) ∧ w'.cell? ⟨w4.heap.size + 1, t, none⟩ = some (.slice (adb t) (thrM b b.length t).length (csb t)) ∧ Below wr.heap.size wr w') := fun w' h => ⟨cell_later h q1, cell_later h q2, h⟩
      have hB9 : Below wr.heap.size wr wr.drew := (Below.refl _ _).drew
      have HF1 : Hid (∀ w', Below wr.heap.size wr w' → Calls Try.prog 34 #[.slice (ada t) (thrM a a.length t).length (csa t), .slice (adb t) (thrM b b.length t).length (csb t), .func (.func 35) #[] #[]] w' (EqR (thrM a a.length t) (thrM b b.length t) w')) := fun w' h => by
        have h9 := hbw.trans (h.mono hbw.size)
        exact equalFunc_any _ _ _ _ _ _ w' ((HRA5.out t ht4).later h9) ((HRB5.out t ht4).later h9)
      clear q1 q2
      go_wp2_with fail
      go_region_held3 (fun w' => w'.cell? ⟨w4.heap.size, t, none⟩ = some (.slice (ada t) (thrM a a.length t).length (csa t)) ∧ w'.cell? ⟨w4.heap.size + 1, t, none⟩ = some (.slice (adb t) (thrM b b.length t).length (csb t)) ∧ Below wr.heap.size wr w') (first | exact HQ.out _ hB9 | exact HQ.out _ hB10)
        (first | (go_at_call 34; ((with_reducible refine (HF1.out _ hB9).mono ?_); rintro r w10 ⟨c, rfl, hcc, hb10⟩; have HC := Lib.hid hcc; have hB10 := below_step2 hB9 hb10; clear hB9 hcc)))
      all_goals
        have hb11 := hbw.trans (hB10.mono hbw.size)
        cases c
        · have HN := Lib.hid (not_same_thr ht4 (fun h => by have := HC.out.2 h; cases this))
          clear HC
          go_wp2
          go_ret
          exact ⟨false, rfl, ⟨fun h => (by cases h), fun h => absurd h HN.out⟩, hb8.trans (hb11.mono hb8.size)⟩
        · have HE2 : Hid (∀ s, s < t + 1 → EqT a b s) := by
            intro s hs
            by_cases e : s = t
            · subst e; exact HC.out.1 rfl
            · exact HE.out s (by omega)
          clear HC HE
          go_wp2
          go_roundw
          case rel => exact ⟨t + 1, by omega, by go_num, HE2, hb11⟩
          case measure => simp [intOf]; omega
    · obtain rfl : t = 4 := by omega
      have HS := Lib.hid (SameO.of_all HRA.out HRB.out HE.out)
      clear HE
      go_wp2
      go_ret
      exact ⟨true, rfl, ⟨fun _ => HS.out, fun _ => rfl⟩, hb8.trans (hbw.mono hb8.size)⟩

end Go.Proofs.Ytkjjbcgecnjniaa

/- RaceSwaps: two neighbours are in a race just if they are of unlike threads and depend on one another; a row without races is the same thread by thread. -/
namespace Go.Proofs.Ytkjjbcgecnjniaa
open Go.RowKit

/-- Is the race among the first k? -/
def fnd (R : List (Nat × Int)) (n : Nat) (t : Int) (k : Nat) : Bool := (R.take k).any fun x => decide (x.1 = n) && decide (x.2 = t)
theorem fnd_succ {R : List (Nat × Int)} {n : Nat} {t : Int} {k : Nat} (h : k < R.length) : fnd R n t (k + 1) = (fnd R n t k || (decide (R[k].1 = n) && decide (R[k].2 = t))) := by
  unfold fnd
  rw [List.take_add_one, List.getElem?_eq_getElem h, List.any_append]
  simp
theorem fnd_all {R : List (Nat × Int)} {n : Nat} {t : Int} : fnd R n t R.length = decide ((n, t) ∈ R) := by
  unfold fnd
  rw [List.take_length, Bool.eq_iff_iff, List.any_eq_true, decide_eq_true_eq]
  constructor
  · rintro ⟨⟨x, y⟩, h1, h2⟩
    rw [Bool.and_eq_true, decide_eq_true_eq, decide_eq_true_eq] at h2
    obtain ⟨rfl, rfl⟩ := h2
    exact h1
  · intro h
    exact ⟨(n, t), h, by simp⟩

set_option maxRecDepth 100000 in
set_option maxHeartbeats 8000000 in
theorem raceSwaps_any (a : Option Addr) (l : List Ev) (cap : Nat) (cut : Int) (w : World) (hl : EvsAt w a l) (hcap : l.length ≤ cap) (hna : a = none → cap = 0) :
    Calls Try.prog 4 #[.slice a l.length cap, .int .i64 cut] w fun r w' => r = .returned (.bool true) ∧ Below w.heap.size w w' := by
  have hmx := hl.1
  unfold maxLen at hmx
  have HL := Lib.hid hl
  clear hl
  by_cases hlen : l.length ≤ 30
  case neg =>
    have hq : 30 < l.length := by omega
    clear hlen
    go_enter Try.func4, Try.ntmps4
    go_wp2_with fail
    refine (awake7_any w).mono ?_
    rintro r w1 ⟨rfl, hb1⟩
    go_wp2_with fail
    refine (awake7_any w1).mono ?_
    rintro r w2 ⟨rfl, hb2⟩
    go_wp2
    go_ret
    exact ⟨rfl, hb1.trans (hb2.mono hb1.size)⟩
  have hq40 : decide ((30 : Int) < (l.length : Int)) = false := by simp; omega
  have hq41 : decide (30 < l.length) = false := by simp; omega
  by_cases hl2 : 2 ≤ l.length
  case neg =>
    have hq2 : decide ((l.length : Int) < 2) = true := by simp; omega
    have hq3 : decide (l.length < 2) = true := by simp; omega
    have hq4 : (l.length : Int) < 2 := by omega
    clear hl2
    go_enter Try.func4, Try.ntmps4
    go_wp2_with fail
    refine (awake7_any w).mono ?_
    rintro r w1 ⟨rfl, hb1⟩
    go_wp2_with fail
    refine (awake7_any w1).mono ?_
    rintro r w2 ⟨rfl, hb2⟩
    go_wp2
    go_ret
    exact ⟨rfl, hb1.trans (hb2.mono hb1.size)⟩
  have hq2 : decide ((l.length : Int) < 2) = false := by simp; omega
  have hq3 : decide (l.length < 2) = false := by simp; omega
  cases hr : rightL l
  case false =>
    have HR := Lib.hid hr
    clear hr
    go_enter Try.func4, Try.ntmps4
    go_wp2_with fail
    refine (awake7_any w).mono ?_
    rintro r w1 ⟨rfl, hb1⟩
    go_wp2_with fail
    refine (rows_any a cap l w1 (HL.out.later hb1)).mono ?_
    rintro r w2 ⟨rfl, hb2⟩
    rw [HR.out]
    go_wp2_with fail
    refine (awake7_any w2).mono ?_
    rintro r w3 ⟨rfl, hb3⟩
    have hb4 := (hb1.trans (hb2.mono hb1.size))
    go_wp2
    go_ret
    exact ⟨rfl, hb4.trans (hb3.mono hb4.size)⟩
  have HR := Lib.hid hr
  clear hr
  obtain ⟨b, o, rfl, _⟩ := HL.out.one (k := 0) (by omega)
  clear hna
  go_enter Try.func4, Try.ntmps4
  go_wp2_with fail
  refine (awake7_any w).mono ?_
  rintro r w1 ⟨rfl, hb1⟩
  go_wp2_with fail
  refine (rows_any (some ⟨b, o, none⟩) cap l w1 (HL.out.later hb1)).mono ?_
  rintro r w2 ⟨rfl, hb2⟩
  rw [HR.out]
  have hbw := hb1.trans (hb2.mono hb1.size)
  clear hb1 hb2
  obtain ⟨I0, e1, hI0⟩ := wrap_u cut
  have e6 : IntKind.i64.wrap ((l.length : Int) - 1) = (l.length : Int) - 1 := IntWalk.i64_in _ (by omega)
  have e4 : IntKind.u64.wrap ((l.length : Int) - 1) = (l.length : Int) - 1 := wrap_u_small _ (by omega) (by omega)
  obtain ⟨n, e5, hn⟩ := tmod_nat I0 hI0 (l.length - 1) (by omega)
  rw [show ((l.length - 1 : Nat) : Int) = (l.length : Int) - 1 by omega] at e5
  have e8 : IntKind.i64.wrap (n : Int) = n := IntWalk.i64_in _ (by omega)
  have e11 : I0 % ((l.length : Int) - 1) = n := by rw [← e5, Int.tmod_eq_emod_of_nonneg hI0]
  have hz : ¬ ((l.length : Int) - 1 = 0) := by omega
  have e9 : IntKind.i64.wrap ((n : Int) + 2) = (n : Int) + 2 := IntWalk.i64_in _ (by omega)
  have e10 : ((n : Int) + 2).toNat = n + 2 := by omega
  have hnc2 : (n : Int) + 2 ≤ cap := by omega
  have hnc3 : (0 : Int) ≤ (n : Int) + 2 := by omega
  have hnc4 : n + 2 ≤ cap := by omega
  go_wp2_with fail
  have hlent : (l.take (n + 2)).length = n + 2 := by simp; omega
  have HC2 := Lib.hid (reversible_any (some ⟨b, o, none⟩) cap (l.take (n + 2)) w2 ((HL.out.later hbw).take (n + 2)) (by omega))
  rw [hlent] at HC2
  refine HC2.out.mono ?_
  rintro r w3 ⟨rb, rfl, hrb, hb3⟩
  rw [rev4_take HR.out (by omega)] at hrb
  clear HC2 e1 e4 e5 e8 e11 e6 hz hI0 e9 e10 hnc2 hnc3 hnc4
  have hb4 := hbw.trans (hb3.mono hbw.size)
  obtain ⟨TH, hTH⟩ : ∃ t, (evI l (n + 1)).thread = t := ⟨_, rfl⟩
  have HFD : Hid (decide ((n, TH) ∈ revTo l (n + 2)) = (decide ((evI l n).thread ≠ TH) && dep (evI l n) (evI l (n + 1)))) := by
    have h := found_iff (l := l) (i := n) (by omega)
    rw [hTH] at h
    show _ = _
    rw [Bool.eq_iff_iff, decide_eq_true_eq, Bool.and_eq_true, decide_eq_true_eq]
    exact h
  have hlB : (revTo l (n + 2)).length ≤ 1600 := by
    have h7 : (n + 2) * (n + 2) ≤ 40 * 40 := Nat.mul_le_mul (by omega) (by omega)
    have h8 := revTo_len l (n + 2)
    omega
  obtain ⟨ab, cb, rfl, hB, _⟩ := OwnRow.form hrb rcCell_len (by omega)
  have HB := Lib.hid hB
  have HTH := Lib.hid hTH
  have HB4 := Lib.hid hb4
  clear hB hrb hb3 hbw hlent hTH hb4
  generalize revTo l (n + 2) = RB at *
  go_wp2_with fail
  go_loopw [5, 46] (fun f i wr => ∃ k : Nat, k ≤ RB.length ∧ i = .int .i64 k ∧ f = .bool (fnd RB n TH k) ∧ Hid (Below w3.heap.size w3 wr)) (fun _ i _ => RB.length - (intOf i).toNat)
  case atStart => exact ⟨0, Nat.zero_le _, rfl, rfl, Below.refl _ _⟩
  case round =>
    obtain ⟨k, hk, rfl, rfl, HW⟩ := hrel
    by_cases hlt : k < RB.length
    · obtain ⟨b2, o2, rfl⟩ := rc_some HB.out hlt
      obtain ⟨c0, c1⟩ := rc_cells (HB.out.later HW.out) hlt
      have hb5 := below_alloc1 wr (.cells #[.int .i64 (RB[k].1 : Nat), .int .i64 RB[k].2] 48)
      have HW2 : Hid (Below w3.heap.size w3 (wr.alloc (.cells #[.int .i64 (RB[k].1 : Nat), .int .i64 RB[k].2] 48))) := HW.out.trans (hb5.mono HW.out.size)
      obtain ⟨b9, o9, e9, t0, _⟩ := (HL.out.later (HB4.out.trans (HW2.out.mono HB4.out.size))).one (k := n + 1) (by omega)
      cases e9
      rw [HTH.out] at t0
      have hki : (k : Int) < RB.length := by omega
      have hkd : decide (k < RB.length) = true := by simp; omega
      have hs1 : IntKind.i64.wrap ((n : Int) + 1) = (n : Int) + 1 := IntWalk.i64_in _ (by omega)
      have hs2 : ((n : Int) + 1).toNat = n + 1 := by omega
      have hs3 : (0 : Int) ≤ (n : Int) + 1 := by omega
      have hs4 : (n : Int) + 1 < (l.length : Int) := by omega
      have HS := Lib.hid (fnd_succ (n := n) (t := TH) hlt)
      cases hf : fnd RB n TH k
      · rw [hf] at HS
        by_cases h1 : RB[k].1 = n
        · have hq1 : ((RB[k].1 : Int) == (n : Int)) = true := by simp [h1]
          by_cases h2 : RB[k].2 = TH
          · have hq2 : (RB[k].2 == TH) = true := by simp [h2]
            have HNEW : Hid (Value.bool true = .bool (fnd RB n TH (k + 1))) := by show _ = _; rw [HS.out]; simp [h1, h2]
            clear h1 h2 hf HS
            go_wp2
            go_quiet (fail)
            go_wp2
            go_roundw
            case rel => exact ⟨k + 1, by omega, by go_num, HNEW.out, HW2.out.drewN⟩
            case measure => simp [intOf]; omega
          · have hq2 : (RB[k].2 == TH) = false := by simp [h2]
            have HNEW : Hid (Value.bool false = .bool (fnd RB n TH (k + 1))) := by show _ = _; rw [HS.out]; simp [h2]
            clear h1 h2 hf HS
            go_wp2
            go_quiet (fail)
            go_wp2
            go_roundw
            case rel => exact ⟨k + 1, by omega, by go_num, HNEW.out, HW2.out.drewN⟩
            case measure => simp [intOf]; omega
        · have hq1 : ((RB[k].1 : Int) == (n : Int)) = false := by simp; omega
          have HNEW : Hid (Value.bool false = .bool (fnd RB n TH (k + 1))) := by show _ = _; rw [HS.out]; simp [h1]
          clear h1 hf HS
          go_wp2
          go_quiet (fail)
          go_wp2
          go_roundw
          case rel => exact ⟨k + 1, by omega, by go_num, HNEW.out, HW2.out.drewN⟩
          case measure => simp [intOf]; omega
      · have HNEW : Hid (Value.bool true = .bool (fnd RB n TH (k + 1))) := by show _ = _; rw [HS.out, hf]; simp
        clear hf HS
        go_wp2
        go_quiet (fail)
        go_wp2
        go_roundw
        case rel => exact ⟨k + 1, by omega, by go_num, HNEW.out, HW2.out.drewN⟩
        case measure => simp [intOf]; omega
    · obtain rfl : k = RB.length := by omega
      rw [fnd_all, HFD.out]
      clear HFD HB
      obtain ⟨x, hx⟩ : ∃ x, evI l n = x := ⟨_, rfl⟩
      obtain ⟨y, hy⟩ : ∃ y, evI l (n + 1) = y := ⟨_, rfl⟩
      have HX := Lib.hid hx
      have HY := Lib.hid hy
      have hTY : y.thread = TH := by rw [← hy]; exact HTH.out
      subst hTY
      rw [hx, hy]
      obtain ⟨FV, hFV⟩ : ∃ FV, (decide (x.thread ≠ y.thread) && dep x y) = FV := ⟨_, rfl⟩
      rw [hFV]
      have HFV := Lib.hid hFV
      have hbr := HB4.out.trans (HW.out.mono HB4.out.size)
      have hba := below_alloc1 wr (.cells #[] 50)
      have hbr2 := hbr.trans (hba.mono hbr.size)
      have HLR := Lib.hid (HL.out.later hbr2)
      have HOE : Hid (OwnE (wr.alloc (.cells #[] 50)) wr.heap.size (.slice (some ⟨wr.heap.size, 0, none⟩) 0 0) []) := ownE_empty wr _ rfl
      clear hx hy hFV
      go_wp2_with (at_builtin; refine wpList_copyE rfl _ _ rfl wr.heap.size _ [] rfl HOE.out (some ⟨b, o, none⟩) cap l rfl HLR.out (by intro e; cases e) (by simp <;> omega) hba.size ?_; intro v4 w4 h4 hb6; have HO4 : Hid (OwnE w4 wr.heap.size v4 l) := h4; clear h4)
      have HB6 : Hid (Below w.heap.size w w4) := hbr2.trans (hb6.mono (by have := hbr2.size; exact hbr.size))
      clear HOE HLR hba hbr hbr2 hb6
      obtain ⟨g, cg, rfl, hgB, _⟩ := OwnRow.block (f := evCell) HO4.out (by intro e; rw [e] at hl2; simp at hl2)
      have hwB : w.heap.size ≤ wr.heap.size := by have := HW.out.size; have := HB4.out.size; omega
      have hin : n + 1 < l.length := by omega
      have hs1 : IntKind.i64.wrap ((n : Int) + 1) = (n : Int) + 1 := IntWalk.i64_in _ (by omega)
      have hi1 : (n : Int) < (l.length : Int) := by omega
      have hi0 : (0 : Int) ≤ n := by omega
      have hi2 : (0 : Int) ≤ (n : Int) + 1 := by omega
      have hi3 : ((n : Int) + 1).toNat = n + 1 := by omega
      have hi4 : (n : Int) + 1 < (l.length : Int) := by omega
      obtain ⟨⟨⟨x0, x1, x2, x3⟩, f0, f1, f2, f3⟩, ⟨y0, y1, y2, y3⟩, k0, k1, k2, k3⟩ := OwnE.swap HO4.out rfl hin HX.out HY.out
      obtain ⟨⟨z, ⟨p0, p1, p2, p3⟩, q0, q1, q2, q3⟩, hfin⟩ := OwnE.swapped HO4.out rfl hin HX.out HY.out
      have HFIN := Lib.hid hfin
      have HBF : Hid (Below w.heap.size w ((((((((w4.setCell ⟨g, n * 4, none⟩ (.int .i64 y.thread)).setCell ⟨g, n * 4 + 1, none⟩ (.int .i64 y.kind)).setCell ⟨g, n * 4 + 2, none⟩ (.int .i64 y.obj)).setCell ⟨g, n * 4 + 3, none⟩ (.bool y.fail)).setCell ⟨g, (n + 1) * 4, none⟩ (.int .i64 x.thread)).setCell ⟨g, (n + 1) * 4 + 1, none⟩ (.int .i64 x.kind)).setCell ⟨g, (n + 1) * 4 + 2, none⟩ (.int .i64 x.obj)).setCell ⟨g, (n + 1) * 4 + 3, none⟩ (.bool x.fail)).drew) := below_swap (S := n) HB6.out (by omega) (.int .i64 y.thread) (.int .i64 y.kind) (.int .i64 y.obj) (.bool y.fail) (.int .i64 x.thread) (.int .i64 x.kind) (.int .i64 x.obj) (.bool x.fail)
      clear hfin
      go_wp2_with fail
      go_region
      clear p0 p1 p2 p3 q0 q1 q2 q3 x0 x1 x2 x3 y0 y1 y2 y3 f0 f1 f2 f3 k0 k1 k2 k3
      generalize ((((((((w4.setCell ⟨g, n * 4, none⟩ (.int .i64 y.thread)).setCell ⟨g, n * 4 + 1, none⟩ (.int .i64 y.kind)).setCell ⟨g, n * 4 + 2, none⟩ (.int .i64 y.obj)).setCell ⟨g, n * 4 + 3, none⟩ (.bool y.fail)).setCell ⟨g, (n + 1) * 4, none⟩ (.int .i64 x.thread)).setCell ⟨g, (n + 1) * 4 + 1, none⟩ (.int .i64 x.kind)).setCell ⟨g, (n + 1) * 4 + 2, none⟩ (.int .i64 x.obj)).setCell ⟨g, (n + 1) * 4 + 3, none⟩ (.bool x.fail)).drew = W6 at *
      go_wp2_with fail
      have HLA : Hid (∀ W, Below w.heap.size w W → EvsAt W (some ⟨b, o, none⟩) l) := fun W hW => HL.out.later hW
      go_cut [123] (fun s123 wx => s123 = .bool false ∧ Hid (Below w.heap.size w wx))
      case first =>
        have HC : Hid (∀ W, Below w.heap.size w W → (W.cell? ⟨b, o + n * 4, none⟩ = some (.int .i64 x.thread)) ∧ W.cell? ⟨b, o + (n + 1) * 4, none⟩ = some (.int .i64 y.thread)) := by
          intro W hW
          obtain ⟨b1, o1, q1, t0, _⟩ := (HLA.out W hW).one (k := n) (by omega)
          cases q1
          obtain ⟨b1, o1, q1, t1, _⟩ := (HLA.out W hW).one (k := n + 1) (by omega)
          cases q1
          rw [HX.out] at t0
          rw [HY.out] at t1
          exact ⟨t0, t1⟩
        obtain ⟨t0, t1⟩ := HC.out W6 HBF.out
        have hSl : n + 1 < l.length := hin
        by_cases hth : x.thread = y.thread
        · have hq1 : (x.thread == y.thread) = true := by simp [hth]
          have hq2 : (x.thread != y.thread) = false := by simp [hth]
          obtain rfl : FV = false := by rw [← HFV.out]; simp [hth]
          clear hth
          go_wp2
          go_quiet (fail)
          go_wp2
          go_meet
          exact ⟨rfl, HBF.out.drewN⟩
        · have hq1 : (x.thread == y.thread) = false := by simp [hth]
          have hq2 : (x.thread != y.thread) = true := by simp [hth]
          obtain ⟨ag, cg2, hv, hEG⟩ := OwnE.form HFIN.out (by rw [swpE_len]; omega)
          injection hv with hv1 hv2 hv3
          subst hv1
          have HEG := Lib.hid hEG
          have hlE : (swpE l n).length ≤ 1000 := by rw [swpE_len]; omega
          have HSM : Hid (∀ W, Below W6.heap.size W6 W → Below w.heap.size w W → Calls Try.prog 18 #[.slice (some ⟨g, 0, none⟩) l.length cg, .slice (some ⟨b, o, none⟩) l.length cap] W fun r w' => r = .returned (.bool (!FV)) ∧ Below W.heap.size W w') := by
            intro W h1 h2
            have h3 := same_any (some ⟨g, 0, none⟩) (some ⟨b, o, none⟩) cg cap (swpE l n) l W (HEG.out.later h1) (HLA.out W h2) hlE (by omega)
            rw [swpE_len] at h3
            refine h3.mono ?_
            rintro r w' ⟨c, rfl, hc, hb⟩
            refine ⟨?_, hb⟩
            have hcf : c = !FV := by
              rw [← HFV.out]
              have hx := HX.out
              have hy := HY.out
              have hne : decide (x.thread ≠ y.thread) = true := by simpa using hth
              rw [hne, Bool.true_and]
              cases hd : dep x y
              · exact hc.2 ⟨swpE_right hSl HR.out, HR.out, swpE_sim hSl (by rw [hx, hy]; exact hd)⟩
              · have h4 : ¬ SameO (swpE l n) l := fun h => swpE_not hSl (by rw [hx, hy]; exact hd) (by rw [hx, hy]; exact hth) h.2.2
                cases c
                · rfl
                · exact absurd (hc.1 rfl) h4
            rw [hcf]
          have hS0 := HC.out W6.drew HBF.out.drew
          have hB9 : Below W6.heap.size W6 W6.drew := (Below.refl _ W6).drew
          have hB9w := HBF.out.drew
          clear hth hv2 hv3 hEG hlE
          have hFX : (FV == !FV) = false := by cases FV <;> rfl
          go_wp2_with fail
          refine wp_region_held_drew (S := fun W => (W.cell? ⟨b, o + n * 4, none⟩ = some (.int .i64 x.thread)) ∧ W.cell? ⟨b, o + (n + 1) * 4, none⟩ = some (.int .i64 y.thread)) (by kernel_rfl) hS0 (fun hHeld => ?_)
          refine wpAnyH_take (i := 0) (v := ?_) rfl (by kernel_rfl) (by kernel_rfl) (by kernel_rfl) (fun _ _ _ h => h) (Or.inl ⟨by kernel_rfl, ?_⟩) hHeld ?_
          rotate_left
          · intro w hSw
            try dsimp only at hSw
            go_simp
            with_reducible rfl
          try simp only [Act.put, List.setIfInBounds_toArray]
          refine wpAnyH_take (i := 1) (v := ?_) rfl (by kernel_rfl) (by kernel_rfl) (by kernel_rfl) (fun _ _ _ h => h) (Or.inl ⟨by kernel_rfl, ?_⟩) hHeld ?_
          rotate_left
          · intro w hSw
            try dsimp only at hSw
            go_simp
            with_reducible rfl
          try simp only [Act.put]
          refine wpAnyH_take (i := 2) (v := ?_) rfl (by kernel_rfl) (by kernel_rfl) (by kernel_rfl) (fun _ _ _ h => h) (Or.inl ⟨by kernel_rfl, ?_⟩) hHeld ?_
          rotate_left
          · intro w hSw
            try dsimp only at hSw
            go_simp
            with_reducible rfl
          try simp only [Act.put]
          refine wpAnyH_take (i := 3) (v := ?_) rfl (by kernel_rfl) (by kernel_rfl) (by kernel_rfl) (fun _ _ _ h => h) (Or.inl ⟨by kernel_rfl, ?_⟩) hHeld ?_
          rotate_left
          · intro w hSw
            try dsimp only at hSw
            go_simp
            with_reducible rfl
          try simp only [Act.put]
          refine wpAnyH_take (i := 4) (v := ?_) rfl (by kernel_rfl) (by kernel_rfl) (by kernel_rfl) (fun _ _ _ h => h) (Or.inl ⟨by kernel_rfl, ?_⟩) hHeld ?_
          rotate_left
          · intro w hSw
            try dsimp only at hSw
            go_simp
            with_reducible rfl
          try simp only [Act.put]
          refine wpAnyH_take (i := 5) (v := ?_) rfl (by kernel_rfl) (by kernel_rfl) (by kernel_rfl) (fun _ _ _ h => h) (Or.inl ⟨by kernel_rfl, ?_⟩) hHeld ?_
          rotate_left
          · intro w hSw
            try dsimp only at hSw
            go_simp
            with_reducible rfl
          try simp only [Act.put]
          refine wpAnyH_take (i := 6) (v := ?_) rfl (by kernel_rfl) (by kernel_rfl) (by kernel_rfl) (fun _ _ _ h => h) (Or.inl ⟨by kernel_rfl, ?_⟩) hHeld ?_
          rotate_left
          · intro w hSw
            try dsimp only at hSw
            go_simp
            with_reducible rfl
          try simp only [Act.put]
          refine wpAnyH_take (i := 7) (v := ?_) rfl (by kernel_rfl) (by kernel_rfl) (by kernel_rfl) (fun _ _ _ h => h) (Or.inl ⟨by kernel_rfl, ?_⟩) hHeld ?_
          rotate_left
          · intro w hSw
            try dsimp only at hSw
            go_simp
            with_reducible rfl
          try simp only [Act.put]
          refine wpAnyH_take (i := 8) (v := ?_) rfl (by kernel_rfl) (by kernel_rfl) (by kernel_rfl) (fun _ _ _ h => h) (Or.inl ⟨by kernel_rfl, ?_⟩) hHeld ?_
          rotate_left
          · intro w hSw
            try dsimp only at hSw
            go_simp
            with_reducible rfl
          try simp only [Act.put]
          refine wpAnyH_take (i := 9) (v := ?_) rfl (by kernel_rfl) (by kernel_rfl) (by kernel_rfl) (fun _ _ _ h => h) (Or.inl ⟨by kernel_rfl, ?_⟩) hHeld ?_
          rotate_left
          · intro w hSw
            try dsimp only at hSw
            go_simp
            with_reducible rfl
          try simp only [Act.put]
          refine wpAnyH_take (i := 10) (v := ?_) rfl (by kernel_rfl) (by kernel_rfl) (by kernel_rfl) (fun _ _ _ h => h) (Or.inl ⟨by kernel_rfl, ?_⟩) hHeld ?_
          rotate_left
          · intro w hSw
            try dsimp only at hSw
            go_simp
            with_reducible rfl
          try simp only [Act.put]
          refine wpAnyH_take (i := 11) (v := ?_) rfl (by kernel_rfl) (by kernel_rfl) (by kernel_rfl) (fun _ _ _ h => h) (Or.inl ⟨by kernel_rfl, ?_⟩) hHeld ?_
          rotate_left
          · intro w hSw
            try dsimp only at hSw
            go_simp
            with_reducible rfl
          try simp only [Act.put]
          refine wpAnyH_take (i := 12) (v := ?_) rfl (by kernel_rfl) (by kernel_rfl) (by kernel_rfl) (fun _ _ _ h => h) (Or.inl ⟨by kernel_rfl, ?_⟩) hHeld ?_
          rotate_left
          · intro w hSw
            try dsimp only at hSw
            go_simp
            with_reducible rfl
          try simp only [Act.put]
          refine wpAnyH_take (i := 13) (v := ?_) rfl (by kernel_rfl) (by kernel_rfl) (by kernel_rfl) (fun _ _ _ h => h) (Or.inl ⟨by kernel_rfl, ?_⟩) hHeld ?_
          rotate_left
          · intro w hSw
            try dsimp only at hSw
            go_simp
            with_reducible rfl
          try simp only [Act.put]
          refine wpAnyH_take (i := 14) (v := ?_) rfl (by kernel_rfl) (by kernel_rfl) (by kernel_rfl) (fun _ _ _ h => h) (Or.inl ⟨by kernel_rfl, ?_⟩) hHeld ?_
          rotate_left
          · intro w hSw
            try dsimp only at hSw
            go_simp
            with_reducible rfl
          try simp only [Act.put]
          refine wpAnyH_take (i := 15) (v := ?_) rfl (by kernel_rfl) (by kernel_rfl) (by kernel_rfl) (fun _ _ _ h => h) (Or.inl ⟨by kernel_rfl, ?_⟩) hHeld ?_
          rotate_left
          · intro w hSw
            try dsimp only at hSw
            go_simp
            with_reducible rfl
          try simp only [Act.put]
          refine wpAnyH_ready (rs := [16]) (by kernel_rfl) (by simp) ?_
          refine AllReadyH.cons rfl (fun K hK => ?_) AllReadyH.nil
          go_simp
          refine (HSM.out _ hB9 hB9w).mono ?_
          rintro r w10 ⟨rfl, hb10⟩
          have hB10w := hB9w.trans (hb10.mono hB9w.size)
          refine hK.out _ _ (HC.out _ hB10w) (fun hHeld => ?_)
          clear hK K
          try simp only [Act.put, List.setIfInBounds_toArray, List.set_cons_zero, List.set_cons_succ]
          refine wpAnyH_take (i := 17) (oi := { dst := some 105, op := Op.binOp BinOp.eql 4 (Operand.tmp 101) (Operand.tmp 104) 4, type := 4, pos := "law.go:58", after := #[{ on := 13, ground := Ground.data }, { on := 16, ground := Ground.data }, { on := 12, ground := Ground.guard }], guard := some (12, true) }) (v := ?_) rfl (by kernel_rfl) (by kernel_rfl) (by kernel_rfl) (fun _ _ _ h => h) (Or.inl ⟨by kernel_rfl, ?_⟩) hHeld ?_
          rotate_left
          · intro w hSw
            try dsimp only at hSw
            go_simp
            with_reducible rfl
          try simp only [Act.put, List.setIfInBounds_toArray, List.set_cons_zero, List.set_cons_succ]
          refine wpAnyH_take (i := 18) (oi := { dst := some 106, op := Op.pick (Operand.tmp 100) (Operand.tmp 105) (Operand.const (Value.bool false)), type := 4, pos := "law.go:58", after := #[{ on := 12, ground := Ground.data }, { on := 17, ground := Ground.data }], guard := none }) (v := ?_) rfl (by kernel_rfl) (by kernel_rfl) (by kernel_rfl) (fun _ _ _ h => h) (Or.inl ⟨by kernel_rfl, ?_⟩) hHeld ?_
          rotate_left
          · intro w hSw
            try dsimp only at hSw
            go_simp
            with_reducible rfl
          try simp only [Act.put, List.setIfInBounds_toArray, List.set_cons_zero, List.set_cons_succ]
          refine wpAnyH_take (i := 19) (oi := { dst := some 107, op := Op.move (Operand.tmp 106), type := 4, pos := "law.go:58", after := #[{ on := 18, ground := Ground.data }, { on := 16, ground := Ground.chain }], guard := none }) (v := ?_) rfl (by kernel_rfl) (by kernel_rfl) (by kernel_rfl) (fun _ _ _ h => h) (Or.inl ⟨by kernel_rfl, ?_⟩) hHeld ?_
          rotate_left
          · intro w hSw
            try dsimp only at hSw
            go_simp
            with_reducible rfl
          try simp only [Act.put, List.setIfInBounds_toArray, List.set_cons_zero, List.set_cons_succ]
          refine wpAnyH_take (i := 20) (oi := { dst := some 108, op := Op.move (Operand.tmp 0), type := 26, pos := "law.go:58", after := #[{ on := 19, ground := Ground.guard }], guard := some (19, false) }) (v := ?_) rfl (by kernel_rfl) (by kernel_rfl) (by kernel_rfl) (fun _ _ _ h => h) (Or.inl ⟨by kernel_rfl, ?_⟩) hHeld ?_
          rotate_left
          · intro w hSw
            try dsimp only at hSw
            go_simp
            with_reducible rfl
          try simp only [Act.put, List.setIfInBounds_toArray, List.set_cons_zero, List.set_cons_succ]
          refine wpAnyH_take (i := 21) (oi := { dst := some 109, op := Op.move (Operand.tmp 1), type := 3, pos := "law.go:58", after := #[{ on := 19, ground := Ground.guard }], guard := some (19, false) }) (v := ?_) rfl (by kernel_rfl) (by kernel_rfl) (by kernel_rfl) (fun _ _ _ h => h) (Or.inl ⟨by kernel_rfl, ?_⟩) hHeld ?_
          rotate_left
          · intro w hSw
            try dsimp only at hSw
            go_simp
            with_reducible rfl
          try simp only [Act.put, List.setIfInBounds_toArray, List.set_cons_zero, List.set_cons_succ]
          refine wpAnyH_take (i := 22) (oi := { dst := some 110, op := Op.indexAddr 26 (Operand.tmp 108) (Operand.tmp 109), type := 0, pos := "law.go:58", after := #[{ on := 20, ground := Ground.data }, { on := 21, ground := Ground.data }, { on := 19, ground := Ground.guard }], guard := some (19, false) }) (v := ?_) rfl (by kernel_rfl) (by kernel_rfl) (by kernel_rfl) (fun _ _ _ h => h) (Or.inl ⟨by kernel_rfl, ?_⟩) hHeld ?_
          rotate_left
          · intro w hSw
            try dsimp only at hSw
            go_simp
            with_reducible rfl
          try simp only [Act.put, List.setIfInBounds_toArray, List.set_cons_zero, List.set_cons_succ]
          refine wpAnyH_take (i := 23) (oi := { dst := some 111, op := Op.fieldAddr 50 (Operand.tmp 110) 0, type := 0, pos := "law.go:58", after := #[{ on := 22, ground := Ground.data }, { on := 19, ground := Ground.guard }], guard := some (19, false) }) (v := ?_) rfl (by kernel_rfl) (by kernel_rfl) (by kernel_rfl) (fun _ _ _ h => h) (Or.inl ⟨by kernel_rfl, ?_⟩) hHeld ?_
          rotate_left
          · intro w hSw
            try dsimp only at hSw
            go_simp
            with_reducible rfl
          try simp only [Act.put, List.setIfInBounds_toArray, List.set_cons_zero, List.set_cons_succ]
          refine wpAnyH_take (i := 24) (oi := { dst := some 112, op := Op.load 3 (Operand.tmp 111), type := 3, pos := "law.go:58", after := #[{ on := 23, ground := Ground.data }, { on := 19, ground := Ground.guard }], guard := some (19, false) }) (v := ?_) rfl (by kernel_rfl) (by kernel_rfl) (by kernel_rfl) (fun _ _ _ h => h) (Or.inl ⟨by kernel_rfl, ?_⟩) hHeld ?_
          rotate_left
          · intro w hSw
            try dsimp only at hSw
            go_simp
            with_reducible rfl
          try simp only [Act.put, List.setIfInBounds_toArray, List.set_cons_zero, List.set_cons_succ]
          refine wpAnyH_take (i := 25) (oi := { dst := some 113, op := Op.move (Operand.tmp 0), type := 26, pos := "law.go:58", after := #[{ on := 19, ground := Ground.guard }], guard := some (19, false) }) (v := ?_) rfl (by kernel_rfl) (by kernel_rfl) (by kernel_rfl) (fun _ _ _ h => h) (Or.inl ⟨by kernel_rfl, ?_⟩) hHeld ?_
          rotate_left
          · intro w hSw
            try dsimp only at hSw
            go_simp
            with_reducible rfl
          try simp only [Act.put, List.setIfInBounds_toArray, List.set_cons_zero, List.set_cons_succ]
          refine wpAnyH_take (i := 26) (oi := { dst := some 114, op := Op.move (Operand.tmp 1), type := 3, pos := "law.go:58", after := #[{ on := 19, ground := Ground.guard }], guard := some (19, false) }) (v := ?_) rfl (by kernel_rfl) (by kernel_rfl) (by kernel_rfl) (fun _ _ _ h => h) (Or.inl ⟨by kernel_rfl, ?_⟩) hHeld ?_
          rotate_left
          · intro w hSw
            try dsimp only at hSw
            go_simp
            with_reducible rfl
          try simp only [Act.put, List.setIfInBounds_toArray, List.set_cons_zero, List.set_cons_succ]
          refine wpAnyH_take (i := 27) (oi := { dst := some 115, op := Op.binOp BinOp.add 3 (Operand.tmp 114) (Operand.const (Value.int IntKind.i64 1)) 3, type := 3, pos := "law.go:58", after := #[{ on := 26, ground := Ground.data }, { on := 19, ground := Ground.guard }], guard := some (19, false) }) (v := ?_) rfl (by kernel_rfl) (by kernel_rfl) (by kernel_rfl) (fun _ _ _ h => h) (Or.inl ⟨by kernel_rfl, ?_⟩) hHeld ?_
          rotate_left
          · intro w hSw
            try dsimp only at hSw
            go_simp
            with_reducible rfl
          try simp only [Act.put, List.setIfInBounds_toArray, List.set_cons_zero, List.set_cons_succ]
          refine wpAnyH_take (i := 28) (oi := { dst := some 116, op := Op.indexAddr 26 (Operand.tmp 113) (Operand.tmp 115), type := 0, pos := "law.go:58", after := #[{ on := 25, ground := Ground.data }, { on := 27, ground := Ground.data }, { on := 19, ground := Ground.guard }], guard := some (19, false) }) (v := ?_) rfl (by kernel_rfl) (by kernel_rfl) (by kernel_rfl) (fun _ _ _ h => h) (Or.inl ⟨by kernel_rfl, ?_⟩) hHeld ?_
          rotate_left
          · intro w hSw
            try dsimp only at hSw
            go_simp
            with_reducible rfl
          try simp only [Act.put, List.setIfInBounds_toArray, List.set_cons_zero, List.set_cons_succ]
          refine wpAnyH_take (i := 29) (oi := { dst := some 117, op := Op.fieldAddr 50 (Operand.tmp 116) 0, type := 0, pos := "law.go:58", after := #[{ on := 28, ground := Ground.data }, { on := 19, ground := Ground.guard }], guard := some (19, false) }) (v := ?_) rfl (by kernel_rfl) (by kernel_rfl) (by kernel_rfl) (fun _ _ _ h => h) (Or.inl ⟨by kernel_rfl, ?_⟩) hHeld ?_
          rotate_left
          · intro w hSw
            try dsimp only at hSw
            go_simp
            with_reducible rfl
          try simp only [Act.put, List.setIfInBounds_toArray, List.set_cons_zero, List.set_cons_succ]
          refine wpAnyH_take (i := 30) (oi := { dst := some 118, op := Op.load 3 (Operand.tmp 117), type := 3, pos := "law.go:58", after := #[{ on := 29, ground := Ground.data }, { on := 19, ground := Ground.guard }], guard := some (19, false) }) (v := ?_) rfl (by kernel_rfl) (by kernel_rfl) (by kernel_rfl) (fun _ _ _ h => h) (Or.inl ⟨by kernel_rfl, ?_⟩) hHeld ?_
          rotate_left
          · intro w hSw
            try dsimp only at hSw
            go_simp
            with_reducible rfl
          try simp only [Act.put, List.setIfInBounds_toArray, List.set_cons_zero, List.set_cons_succ]
          refine wpAnyH_take (i := 31) (oi := { dst := some 119, op := Op.binOp BinOp.eql 3 (Operand.tmp 112) (Operand.tmp 118) 3, type := 4, pos := "law.go:58", after := #[{ on := 24, ground := Ground.data }, { on := 30, ground := Ground.data }, { on := 19, ground := Ground.guard }], guard := some (19, false) }) (v := ?_) rfl (by kernel_rfl) (by kernel_rfl) (by kernel_rfl) (fun _ _ _ h => h) (Or.inl ⟨by kernel_rfl, ?_⟩) hHeld ?_
          rotate_left
          · intro w hSw
            try dsimp only at hSw
            go_simp
            with_reducible rfl
          try simp only [Act.put, List.setIfInBounds_toArray, List.set_cons_zero, List.set_cons_succ]
          refine wpAnyH_take (i := 32) (oi := { dst := some 120, op := Op.move (Operand.tmp 119), type := 4, pos := "law.go:58", after := #[{ on := 31, ground := Ground.data }, { on := 19, ground := Ground.chain }, { on := 19, ground := Ground.guard }], guard := some (19, false) }) (v := ?_) rfl (by kernel_rfl) (by kernel_rfl) (by kernel_rfl) (fun _ _ _ h => h) (Or.inl ⟨by kernel_rfl, ?_⟩) hHeld ?_
          rotate_left
          · intro w hSw
            try dsimp only at hSw
            go_simp
            with_reducible rfl
          try simp only [Act.put, List.setIfInBounds_toArray, List.set_cons_zero, List.set_cons_succ]
          refine wpAnyH_take (i := 33) (oi := { dst := some 121, op := Op.move (Operand.tmp 5), type := 4, pos := "law.go:58", after := #[{ on := 32, ground := Ground.guard }], guard := some (32, true) }) (v := undef) rfl (by kernel_rfl) (by kernel_rfl) (by kernel_rfl) (fun _ _ _ h => h) (Or.inr ⟨by kernel_rfl, rfl⟩) hHeld ?_
          try simp only [Act.put, List.setIfInBounds_toArray, List.set_cons_zero, List.set_cons_succ]
          refine wpAnyH_take (i := 34) (oi := { dst := some 122, op := Op.pick (Operand.tmp 120) (Operand.tmp 121) (Operand.const (Value.bool false)), type := 4, pos := "law.go:58", after := #[{ on := 32, ground := Ground.data }, { on := 33, ground := Ground.data }, { on := 19, ground := Ground.guard }], guard := some (19, false) }) (v := ?_) rfl (by kernel_rfl) (by kernel_rfl) (by kernel_rfl) (fun _ _ _ h => h) (Or.inl ⟨by kernel_rfl, ?_⟩) hHeld ?_
          rotate_left
          · intro w hSw
            try dsimp only at hSw
            go_simp
            with_reducible rfl
          try simp only [Act.put, List.setIfInBounds_toArray, List.set_cons_zero, List.set_cons_succ]
          refine wpAnyH_take (i := 35) (oi := { dst := some 123, op := Op.pick (Operand.tmp 107) (Operand.const (Value.bool true)) (Operand.tmp 122), type := 4, pos := "law.go:58", after := #[{ on := 19, ground := Ground.data }, { on := 34, ground := Ground.data }], guard := none }) (v := ?_) rfl (by kernel_rfl) (by kernel_rfl) (by kernel_rfl) (fun _ _ _ h => h) (Or.inl ⟨by kernel_rfl, ?_⟩) hHeld ?_
          rotate_left
          · intro w hSw
            try dsimp only at hSw
            go_simp
            with_reducible rfl
          try simp only [Act.put, List.setIfInBounds_toArray, List.set_cons_zero, List.set_cons_succ]
          refine wpAnyH_done (by kernel_rfl) ?_ _
          go_wp2
          go_meet
          exact ⟨rfl, hB10w⟩
      case rest =>
        obtain ⟨rfl, HBC⟩ := hcut
        have HRT := Lib.hid (rev4_right HR.out)
        have HREV := Lib.hid (reversible_any (some ⟨b, o, none⟩) cap l wc (HLA.out wc HBC.out) (by omega))
        have hrl : (revTo l l.length).length ≤ 900 := by
          have h1 := revTo_len l l.length
          have h2 : l.length * l.length ≤ 30 * 30 := Nat.mul_le_mul hlen hlen
          omega
        have HLO : Hid ((revTo l l.length).length = 0 → ∀ sh, sh < 4 → SameO (thrTo l sh 4) l) := fun h0 sh hs => thr_same HR.out (loose_of (List.eq_nil_of_length_eq_zero h0)) hs
        unfold RevR at HREV
        rw [HRT.out] at HREV
        generalize revTo l l.length = RV at *
        go_wp2_with fail
        refine HREV.out.mono ?_
        rintro r w20 ⟨rv, rfl, hrv, hb20⟩
        obtain ⟨a20, c20, rfl, _, _⟩ := hrv.form rcCell_len (by omega)
        have HB20 := Lib.hid (HBC.out.trans (hb20.mono HBC.out.size))
        clear hrv hb20 HREV
        by_cases hz : 0 < RV.length
        · have hq0 : decide (0 < RV.length) = true := by simpa using hz
          clear HLO
          go_wp2
          go_ret
          exact ⟨rfl, HB20.out⟩
        have hz0 : RV.length = 0 := by omega
        have HLS := Lib.hid (HLO.out hz0)
        rw [hz0]
        clear HLO hz hz0 hrl HRT
        go_wp2_with fail
        go_loopw [128] (fun i W => ∃ sh : Nat, sh ≤ 4 ∧ i = .int .i64 sh ∧ Hid (Below w.heap.size w W)) (fun i _ => 4 - (intOf i).toNat)
        case atStart => exact ⟨0, by omega, rfl, HB20⟩
        case round =>
          clear HB20
          obtain ⟨sh, hsh, rfl, HW1⟩ := hrel
          by_cases hs4 : sh < 4
          · have HSS := Lib.hid (HLS.out sh hs4)
            have hq8 : decide ((sh : Int) < 4) = true := by simp; omega
            go_wp2
            go_loopw [10, 131] (fun v i W => ∃ t : Nat, t ≤ 4 ∧ i = .int .i64 t ∧ Hid (OwnE W w.heap.size v (thrTo l sh t)) ∧ Hid (Below w.heap.size w W)) (fun _ i _ => 4 - (intOf i).toNat)
            case atStart => exact ⟨0, by omega, rfl, ownE_nil _ _, HW1.out⟩
            case round =>
              clear HW1
              obtain ⟨t, ht, rfl, HV, HW2⟩ := hrel
              by_cases ht4 : t < 4
              · have HV0 : Hid (OwnE wr w.heap.size u10 (thrAt l sh t 0)) := by
                  show OwnE _ _ _ _
                  rw [thrAt_zero]
                  exact HV.out
                have ew : IntKind.i64.wrap ((t : Int) + (sh : Int)) = (t : Int) + sh := IntWalk.i64_in _ (by omega)
                have er : ((t : Int) + (sh : Int)).tmod 4 = (((t + sh) % 4 : Nat) : Int) := by rw [Int.tmod_eq_emod_of_nonneg (by omega)]; omega
                have er2 : ((t : Int) + (sh : Int)) % 4 = (((t + sh) % 4 : Nat) : Int) := by omega
                have HYES := Lib.hid (fun (q : Nat) => thrAt_yes (l := l) (sh := sh) (t := t) (q := q))
                have HNO := Lib.hid (fun (q : Nat) => thrAt_no (l := l) (sh := sh) (t := t) (q := q))
                generalize hU : (((t + sh) % 4 : Nat) : Int) = U at *
                clear HV hU
                have hq9 : decide ((t : Int) < 4) = true := by simp; omega
                go_wp2_with fail
                go_loopw [10, 136] (fun v i W => ∃ q : Nat, q ≤ l.length ∧ i = .int .i64 q ∧ Hid (OwnE W w.heap.size v (thrAt l sh t q)) ∧ Hid (Below w.heap.size w W)) (fun _ i _ => l.length - (intOf i).toNat)
                case atStart => exact ⟨0, Nat.zero_le _, rfl, HV0.out, HW2.out⟩
                case round =>
                  clear HV0 HW2
                  obtain ⟨q, hq, rfl, HV, HW3⟩ := hrel
                  have hsz := HW3.out.size
                  by_cases hql : q < l.length
                  · obtain ⟨b9, o9, e9, t0, t1, t2, t3⟩ := (HLA.out wr HW3.out).one hql
                    cases e9
                    have hel := thrAt_len l sh t q
                    have HY1 := Lib.hid (HYES.out q hql)
                    have HN1 := Lib.hid (HNO.out q hql)
                    generalize evI l q = z at *
                    by_cases hth : z.thread = U
                    · have hq1 : (z.thread == U) = true := by simp [hth]
                      have HT := Lib.hid (HY1.out hth)
                      clear hth HY1 HN1
                      go_wp2_with (at_builtin; refine wp_appendE rfl _ _ rfl w.heap.size _ (thrAt l sh t q) rfl ((HV.out.alloc _).alloc _) ⟨wr.heap.size + 1, 0, none⟩ rfl z (ev_new (wr.alloc (.cells #[.int .i64 z.thread, .int .i64 z.kind, .int .i64 z.obj, .bool z.fail] 50)) z _ _ (by simp)) (by omega) (by simp; omega) ?_; intro v7 w7 hown7 hb7)
                      have HV7 : Hid (OwnE w7 w.heap.size v7 (thrAt l sh t (q + 1))) := by
                        show OwnE _ _ _ _
                        rw [HT.out]
                        exact hown7
                      have HW7 : Hid (Below w.heap.size w w7) := ((HW3.out.alloc hsz _).alloc (by simp; omega) _).trans hb7
                      clear HT hown7 hb7 HV HW3
                      go_wp2
                      go_roundw
                      case rel => exact ⟨q + 1, by omega, by go_num, HV7.out, HW7.out⟩
                      case measure => simp [intOf]; omega
                    · have hq1 : (z.thread == U) = false := by simp [hth]
                      have HT := Lib.hid (HN1.out hth)
                      have HV7 : Hid (OwnE (wr.alloc (.cells #[.int .i64 z.thread, .int .i64 z.kind, .int .i64 z.obj, .bool z.fail] 50)) w.heap.size u10 (thrAt l sh t (q + 1))) := by
                        show OwnE _ _ _ _
                        rw [HT.out]
                        exact HV.out.alloc _
                      have HW7 : Hid (Below w.heap.size w (wr.alloc (.cells #[.int .i64 z.thread, .int .i64 z.kind, .int .i64 z.obj, .bool z.fail] 50))) := HW3.out.alloc hsz _
                      clear hth HY1 HN1 HT HV HW3
                      go_wp2
                      go_roundw
                      case rel => exact ⟨q + 1, by omega, by go_num, HV7.out, HW7.out⟩
                      case measure => simp [intOf]; omega
                  · obtain rfl : q = l.length := by omega
                    have HV8 : Hid (OwnE wr w.heap.size u10 (thrTo l sh (t + 1))) := by
                      show OwnE _ _ _ _
                      rw [← thrAt_all ht4]
                      exact HV.out
                    clear HV HYES HNO
                    go_wp2
                    go_roundw
                    case rel => exact ⟨t + 1, by omega, by go_num, HV8.out, HW3.out⟩
                    case measure => simp [intOf]; omega
              · obtain rfl : t = 4 := by omega
                have hel := thrTo_len l sh 4
                have HSM : Hid (Calls Try.prog 18 #[u10, .slice (some ⟨b, o, none⟩) l.length cap] wr fun r w' => r = .returned (.bool true) ∧ Below wr.heap.size wr w') := by
                  obtain ⟨a7, c7, e7, h7⟩ := OwnE.form HV.out (by omega)
                  rw [e7]
                  refine (same_any a7 (some ⟨b, o, none⟩) c7 cap (thrTo l sh 4) l wr h7 (HLA.out wr HW2.out) (by omega) (by omega)).mono ?_
                  rintro r w' ⟨c, rfl, hc, hb⟩
                  exact ⟨by rw [hc.2 HSS.out], hb⟩
                clear HV
                go_wp2_with fail
                refine HSM.out.mono ?_
                rintro r w8 ⟨rfl, hb8⟩
                have HW8 := Lib.hid (HW2.out.trans (hb8.mono HW2.out.size))
                clear hb8 HSM HW2
                go_wp2
                go_roundw
                case rel => exact ⟨sh + 1, by omega, by go_num, HW8.out⟩
                case measure => simp [intOf]; omega
          · obtain rfl : sh = 4 := by omega
            go_wp2
            go_ret
            exact ⟨rfl, HW1.out⟩

end Go.Proofs.Ytkjjbcgecnjniaa

/-
  RaceSwaps: two neighbours of a row are in a race just if they are of unlike threads and depend on one another, then, swapped, it is not the same, and a row without races is the same as each of its threads' events one behind the other, in any order of threads: the law answers true, and its arguments read as they did.
  For every input, whatever its size and however its parts share memory; nothing is asked of it but what the statement's own form asks.
-/
namespace Go.Proofs.Ytkjjbcgecnjniaa.raceSwaps
open Go.ChangeShapes Go.WideShapes Go.ChangeAt Go.RowKit

theorem own : ownKnob Try.prog.godebug = none := by kernel_rfl
theorem laidOut : laidOutB Try.prog = true := by kernel_rfl

set_option maxRecDepth 100000 in
theorem lifted (os : Os) (started : os.Started) (H : Type) (enc : TypeId × Value → H) :
    ReturnsInHanded {} Try.checked os 4 .any (Rows.raceSwapsSpec.pre6 enc Try.prog Try.f4 Rows.raceSwapsRow.domain false) (Rows.raceSwapsSpec.post enc Try.prog Try.f4 false true false false) := by
  refine returnsInHanded_of_change (C := Try.checked) own started (by kernel_rfl) Try.func4
    (ChangeSpec.witness6 (enc := enc) (C := Try.checked) false ⟨#[], #[.slice none 0 0, .int .i64 0], []⟩ 8 (by kernel_rfl) (by kernel_rfl) (by kernel_rfl) (by kernel_rfl)) ?_
  intro W base args ds gs before hval0 hW hcnd _
  have hval : ∀ (j : Nat) t v, Try.f4.params[j]? = some t → args[j]? = some v → Value.okWide Try.prog W .any base t v := hval0
  have hW' := hW
  obtain ⟨p, q, hA0, hV, rfl, hfz, hnd⟩ := hW
  have hA : DataW.TrodAll enc Try.prog W 0 (fun _ => true) true Try.f4.params.toList args.toList ds p := hA0
  rw [Try.params4] at hA hval
  obtain ⟨v0, vs0, d0, ds0, p0, q0, hargs, rfl, rfl, h0, r0⟩ := trodAll_cons hA
  obtain ⟨v1, vs1, d1, ds1, p1, q1, rfl, rfl, rfl, h1, r1⟩ := trodAll_cons r0
  obtain ⟨rfl, rfl, rfl⟩ := trodAll_nil r1
  obtain rfl : args = #[v0, v1] := by cases args; simp_all
  obtain ⟨rfl, rfl⟩ := trodVars_none hV
  have k0 := h0
  have lt0 : ∀ x ∈ p0, x.block < W.heap.size := by obtain ⟨m, hm⟩ := k0; exact DataW.trod_lt m _ _ _ hm
  have k1 := h1
  have lt1 : ∀ x ∈ p1, x.block < W.heap.size := by obtain ⟨m, hm⟩ := k1; exact DataW.trod_lt m _ _ _ hm
  obtain ⟨a0, l0, cap0, rfl, hx0, hn0, hc0, hm0⟩ := evs2_of_trod (hval 0 26 v0 rfl rfl) h0
  obtain ⟨n1, rfl, hx1⟩ := int_of_trod (hval 1 3 v1 rfl rfl) h1
  clear hA0 hval0
  refine (raceSwaps_any a0 l0 cap0 n1 W hx0 hc0 hn0).mono fun e W' ⟨he, bel⟩ => ?_
  subst he
  exact ⟨_, rfl, _, _, _, [], _, [], hW', trodAll_mk1 (shut_bool Try.underlying4 _), (trodAll_cons_mk (Below.trod laidOut (by kernel_rfl) (of_decide_eq_true (by kernel_rfl)) k0 bel lt0) (trodAll_cons_mk (Below.trod laidOut (by kernel_rfl) (of_decide_eq_true (by kernel_rfl)) k1 bel lt1) trodAll_mk0)), rfl, bel.frame _, fun h => by cases h⟩

theorem over : Rows.raceSwapsRow.holds Try.pinned (OpenSpec.ofChange Rows.raceSwapsSpec) :=
  OpenClaim.holds_of_wide 4 Try.f4 rfl rfl rfl rfl rfl rfl rfl ⟨rfl, rfl, rfl, rfl, rfl⟩ rfl rfl rfl rfl rfl (by kernel_rfl) Try.func4 (by kernel_rfl)
    (of_decide_eq_true (by kernel_rfl)) (by unfold Func.isWrapper; first | (rw [if_pos (by decide +kernel)]; kernel_rfl) | (rw [if_neg (by decide +kernel)]; exact ⟨rfl, rfl⟩))
    (fun os started H enc _ => lifted os started H enc)

theorem proved : Rows.RaceSwapsSaid := over
end Go.Proofs.Ytkjjbcgecnjniaa.raceSwaps
