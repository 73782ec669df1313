/- copy of elements of several cells, into the middle of a row of one's own; append of zeros behind a row's beginning. -/
import Derived.Test.YtljlaopjimkcmaaCells
import Derived.Laws.CopyRow
import Derived.Laws.CopyOwn
import Derived.Laws.Externs
import Derived.Lib.Overlaps
import Derived.Lib.AppendZeros
import Derived.Lib.AppendZerosOnto
import Derived.Shelf.Spec.SlicesInsert
namespace Go.Proofs.Ytljlaopjimkcmaa
open Go.RowKit

/-- The cells behind a copy. -/
def putAt (cur : Array Value) (o : Nat) (cs : List Value) : Array Value := (cur.toList.take o ++ cs ++ cur.toList.drop (o + cs.length)).toArray
theorem putAt_size {cur : Array Value} {o : Nat} {cs : List Value} (h : o + cs.length ≤ cur.size) : (putAt cur o cs).size = cur.size := by
  simp [putAt]
  omega

theorem run_copy_at {P : Program} (w : World) (dT sT ty elem : TypeId) (k g o nd dCap : Nat) (ad : Addr) (ns sCap : Nat) (cur : Array Value) (t : TypeId) (cs : List Value)
    (hu : P.underlying dT = some (.slice elem)) (hs : (P.info? elem).map (·.size) = some k)
    (hg : w.heap[g]? = some (.cells cur t (0, 0))) (hcs : cs.length = Nat.min ns nd * k) (hfit : o + cs.length ≤ cur.size)
    (hsrc : ∀ j v, cs[j]? = some v → w.cell? (ad.add j) = some v) (h1 : ∀ v ∈ cs, v.oneCell' = true) :
    (Builtin.copy_ #[dT, sT] ty #[.slice (some ⟨g, o, none⟩) nd dCap, .slice (some ad) ns sCap]).run P w = .ok (goInt (Nat.min ns nd)) (w.setRow g (putAt cur o cs)) := by
  cases hq : P.info? elem with
  | none => simp [hq] at hs
  | some i =>
    have hi : i.size = k := by simpa [hq] using hs
    have hl := run_loadCells_list (P := P) w ad cs hsrc
    have hst := run_storeCells_at P g o t cs 0 cur w hg (by omega) h1
    rw [Nat.add_zero] at hst
    simp [Builtin.copy_, run_underlying hu, Builtin.lenOf, Builtin.firstCells, sizeOf, typeInfo, hq, hi, ← hcs, hl, hst, putAt]

theorem ev_size : (Try.prog.info? 39).map (·.size) = some 4 := by kernel_rfl
theorem ev_sizeOf (w : World) : (Go.sizeOf 39).run Try.prog w = .ok 4 w := by
  obtain ⟨i, hi, h4⟩ := Option.map_eq_some_iff.1 ev_size
  simp [sizeOf, typeInfo, hi, h4]
theorem infoEv : (Try.prog.info? 39).map (fun i => (i.zero, i.size, i.bytes)) = some (some (.agg #[.int .i64 0, .int .i64 0, .int .i64 0, .bool false]), 4, 32) := by kernel_rfl
theorem evCell_len (x : Ev) : (evCell x).length = 4 := rfl
theorem evCell_one (x : Ev) : ∀ v ∈ evCell x, v.oneCell' = true := by
  intro v hv
  simp [evCell] at hv
  rcases hv with rfl | rfl | rfl | rfl <;> rfl
theorem evCells_take (l : List Ev) (n : Nat) : evCells (l.take n) = (evCells l).take (n * 4) := by
  by_cases h : n ≤ l.length
  · have e : evCells l = evCells (l.take n) ++ evCells (l.drop n) := by rw [← evCells_append, List.take_append_drop]
    rw [e, List.take_left' (by rw [evCells_length, List.length_take]; omega)]
  · rw [List.take_of_length_le (l := l) (by omega), List.take_of_length_le (by rw [evCells_length]; omega)]
theorem evCells_drop (l : List Ev) (n : Nat) : evCells (l.drop n) = (evCells l).drop (n * 4) := by
  by_cases h : n ≤ l.length
  · have e : evCells l = evCells (l.take n) ++ evCells (l.drop n) := by rw [← evCells_append, List.take_append_drop]
    rw [e, List.drop_left' (by rw [evCells_length, List.length_take]; omega)]
  · have e : l.drop n = [] := List.drop_eq_nil_of_le (by omega)
    rw [e, List.drop_eq_nil_of_le (by rw [evCells_length]; omega)]
    rfl

/-- The cells when an event has been put in, in place. -/
theorem put_twice (X Y Z E : List Value) (p n : Nat) (hX : X.length = p + E.length) (hn : n = p + E.length + Y.length) :
    ((X ++ (Y ++ Z)).take p ++ E ++ (X ++ (Y ++ Z)).drop (p + E.length)).take n = X.take p ++ (E ++ Y) := by
  have a1 : (X ++ (Y ++ Z)).take p = X.take p := List.take_append_of_le_length (by omega)
  have a2 : (X ++ (Y ++ Z)).drop (p + E.length) = Y ++ Z := List.drop_left' hX
  rw [a1, a2]
  have e : X.take p ++ E ++ (Y ++ Z) = (X.take p ++ (E ++ Y)) ++ Z := by simp
  rw [e, List.take_left']
  simp only [List.length_append, List.length_take]
  omega
theorem shifted {cur : Array Value} {es : List Ev} {e : Ev} {i c : Nat} (hi : i ≤ es.length) (hc : cur.size = c * 4) (hroom : es.length + 1 ≤ c) (ht : cur.toList.take (es.length * 4) = evCells es) :
    (putAt (putAt cur ((i + 1) * 4) (evCells (es.drop i))) (i * 4) (evCell e)).toList.take ((es.length + 1) * 4) = evCells (es.take i ++ e :: es.drop i) := by
  have hsz : cur.toList.length = c * 4 := by simpa using hc
  have hl2 : (evCells (es.drop i)).length = (es.length - i) * 4 := by rw [evCells_length, List.length_drop]
  have h := put_twice (cur.toList.take ((i + 1) * 4)) (evCells (es.drop i)) (cur.toList.drop ((i + 1) * 4 + (evCells (es.drop i)).length)) (evCell e) (i * 4) ((es.length + 1) * 4)
    (by rw [List.length_take, hsz, evCell_len]; omega) (by rw [hl2, evCell_len]; omega)
  have e1 : (cur.toList.take ((i + 1) * 4)).take (i * 4) = evCells (es.take i) := by
    rw [evCells_take, ← ht, List.take_take, List.take_take, Nat.min_eq_left (by omega), Nat.min_eq_left (by omega)]
  rw [e1] at h
  rw [evCells_append, show evCells (e :: es.drop i) = evCell e ++ evCells (es.drop i) from rfl, ← h]
  simp [putAt]

end Go.Proofs.Ytljlaopjimkcmaa
