import Derived.Shelf.Spec.SlicesInsertGrow
import Derived.Deep.RegionHeld3
import Derived.Deep.DeepCutAuto
import Derived.Laws.OwnMore
import Derived.RangeFuncNested
import Derived.RangeFuncBound
import Derived.RangeFuncCalls
import Derived.RangeFuncLeaves
import Derived.RangeFuncBox
import Derived.Shelf.Abstract
import Derived.Shelf.RegionOpen
import Derived.WalkKit
import Derived.OwnWalkIn
import Derived.TacticsInMore
import Derived.LoopNIn
import Derived.LoopIn
import Derived.Sort.QuietIn
import Derived.Test.YtopklnehhebhmaaPk01
import Derived.Test.YtopklnehhebhmaaPk02

/- The contract of slices.Insert of one event into a row of one's own. -/
namespace Go.Proofs.Ytopklnehhebhmaa
open Go.RowKit

theorem overlaps_no (w : World) (vb b o la ca lb cb : Nat) (hne : vb ≠ b) (x y : Array Value) (ta tb : TypeId) (ha : w.heap[vb]? = some (.cells x ta (0, 0))) (hb : w.heap[b]? = some (.cells y tb (0, 0))) (hy : y.size ≠ 0) :
    (callFunc 90 #[.slice (some ⟨vb, 0, none⟩) la ca, .slice (some ⟨b, o, none⟩) lb cb]).run Try.prog w = .ok (.value (.bool false)) w := by
  rw [run_callFunc_extern Try.func90 (by kernel_rfl) (by kernel_rfl) (by kernel_rfl) (e := Extern.SlicesOverlaps.overlaps #[63, 63] #[4]) (by kernel_rfl),
    Lib.run_overlaps_apart w 63 4 73 Try.underlying63 4 ev_sizeOf ⟨vb, 0, none⟩ ⟨b, o, none⟩ la ca lb cb hne ta tb x.size y.size (by simp [World.shape?, ha]) (by simp [World.shape?, hb]) hy (by simp [World.frozen?, ha]) (by simp [World.frozen?, ha])]
  rfl

set_option maxHeartbeats 4000000 in
set_option maxRecDepth 100000 in
/-- There is room: in place. -/
theorem insert_shift (b n c i vb : Nat) (es : List Ev) (e : Ev) (w : World) (cur x : Array Value) (tx : TypeId) (hn : n = es.length) (hi : i < n) (hroom : n + 1 ≤ c) (hc : c ≤ maxLen) (hvb : vb ≠ b)
    (hg : w.heap[b]? = some (.cells cur 73 (0, 0))) (hcur : cur.size = c * 4) (ht : cur.toList.take (n * 4) = evCells es) (hx : w.heap[vb]? = some (.cells x tx (0, 0))) (hxe : ∀ (j : Nat) (v : Value), (evCell e)[j]? = some v → x[j]? = some v) :
    Calls Try.prog 83 #[.slice (some ⟨b, 0, none⟩) n c, .int .i64 i, .slice (some ⟨vb, 0, none⟩) 1 1] w fun r w' =>
      r = .returned (.slice (some ⟨b, 0, none⟩) (n + 1) c) ∧ w' = (w.drew.setRow b (putAt cur ((i + 1) * 4) (evCells (es.drop i)))).setRow b (putAt (putAt cur ((i + 1) * 4) (evCells (es.drop i))) (i * 4) (evCell e)) := by
  have hz2 : ¬ ((i : Int) = (n : Int)) := by omega
  unfold maxLen at hc
  have hov : ∀ o lb cb, (callFunc 90 #[.slice (some ⟨vb, 0, none⟩) 1 1, .slice (some ⟨b, o, none⟩) lb cb]).run Try.prog w = .ok (.value (.bool false)) w := fun o lb cb => overlaps_no w vb b o 1 1 lb cb hvb x cur tx _ hx hg (by omega)
  have hdl : (evCells (es.drop i)).length = (n - i) * 4 := by rw [evCells_length, List.length_drop, hn]
  have hw1 : IntKind.i64.wrap ((i : Int) + 1) = (i : Int) + 1 := by rw [IntKind.wrap_i64]; omega
  have hw2 : IntKind.i64.wrap ((n : Int) + 1) = (n : Int) + 1 := by rw [IntKind.wrap_i64]; omega
  have hb1 : (0 : Int) ≤ (i : Int) + 1 := by omega
  have hin : i ≤ n := by omega
  have hb2 : ¬ (c = i + 1) := by omega
  have hb3 : (i : Int) ≤ (n : Int) + 1 := by omega
  have hb4 : ¬ (c = i) := by omega
  have htn : ((i : Int) + 1).toNat = i + 1 := by omega
  have hcell : ∀ j v, (evCells es)[j]? = some v → w.cell? ⟨b, j, none⟩ = some v := fun j v hj => by
    have hjl : j < n * 4 := by have := (List.getElem?_eq_some_iff.1 hj).1; rw [evCells_length] at this; omega
    rw [← ht, List.getElem?_take_of_lt hjl] at hj
    simp [World.cell?, hg]
    simpa using hj
  have hcp1 : ∀ ty dc sc, (Builtin.copy_ #[63, 63] ty #[.slice (some ⟨b, (i + 1) * 4, none⟩) (n - i) dc, .slice (some ⟨b, i * 4, none⟩) (n + 1 - i) sc]).run Try.prog w.drew = .ok (goInt (Nat.min (n + 1 - i) (n - i))) (w.drew.setRow b (putAt cur ((i + 1) * 4) (evCells (es.drop i)))) := fun ty dc sc =>
    run_copy_at w.drew _ _ ty 73 4 b ((i + 1) * 4) (n - i) dc ⟨b, i * 4, none⟩ (n + 1 - i) sc cur _ (evCells (es.drop i)) Try.underlying63 ev_size hg (by rw [hdl]; simp only [Nat.min_def]; split <;> omega) (by rw [hdl]; omega)
      (fun j v hj => by rw [add_row]; exact hcell _ v (by rw [evCells_drop, List.getElem?_drop] at hj; exact hj)) (fun v hv => evCells_one _ v hv)
  obtain ⟨C1, hC1⟩ : ∃ C1, C1 = putAt cur ((i + 1) * 4) (evCells (es.drop i)) := ⟨_, rfl⟩
  have hC1s : C1.size = c * 4 := by rw [hC1, putAt_size (by rw [hdl]; omega), hcur]
  rw [← hC1] at hcp1 ⊢
  obtain ⟨W1, hW1⟩ : ∃ W1, W1 = w.drew.setRow b C1 := ⟨_, rfl⟩
  have hg1 : W1.heap[b]? = some (.cells C1 73 (0, 0)) := by rw [hW1]; exact setRow_heap _ _ _ _ _ _ hg
  have hv1 : W1.heap[vb]? = some (.cells x tx (0, 0)) := by rw [hW1, setRow_other _ _ _ _ hvb]; exact hx
  have hcp2 : ∀ ty dc, (Builtin.copy_ #[63, 63] ty #[.slice (some ⟨b, i * 4, none⟩) (n + 1 - i) dc, .slice (some ⟨vb, 0, none⟩) 1 1]).run Try.prog W1 = .ok (goInt (Nat.min 1 (n + 1 - i))) (W1.setRow b (putAt C1 (i * 4) (evCell e))) := fun ty dc =>
    run_copy_at W1 _ _ ty 73 4 b (i * 4) (n + 1 - i) dc ⟨vb, 0, none⟩ 1 1 C1 _ (evCell e) Try.underlying63 ev_size hg1 (by rw [evCell_len]; simp only [Nat.min_def]; split <;> omega) (by rw [evCell_len]; omega)
      (fun j v hj => by rw [add_row, Nat.zero_add]; simp [World.cell?, hv1]; exact hxe j v hj) (fun v hv => evCell_one e v hv)
  rw [← hW1] at hcp1 ⊢
  clear hC1 hW1 hn hg hx hg1 hv1 hcell hdl
  go_enter Try.func83, Try.ntmps83
  go_wp2_with (simp only [hov])
  go_region_law (refine step_copy_runI rfl _ _ 63 63 rfl _ _ (by simp [Act.eval, Act.put]) (by simp [Act.eval, Act.put]) (hcp1 _ _ _) ?_)
  go_wp2_with (at_builtin; refine wpList_copy_runI _ rfl _ _ 63 63 rfl _ _ rfl rfl (hcp2 _ _) ?_)
  go_ret
  exact ⟨rfl, rfl⟩

/-- A new row of n + 1 events. -/
def GrowR (w : World) (n : Nat) (es' : List Ev) (r : Ending) (w' : World) : Prop :=
  ∃ G C, r = .returned (.slice (some ⟨w.heap.size, 0, none⟩) (n + 1) G) ∧ n + 1 ≤ G ∧ G ≤ maxLen ∧ w'.os = w.os ∧ w'.tape = w.tape ∧ w'.output = w.output ∧ w'.heap = (w.alloc (.cells C 73)).heap ∧ C.size = G * 4 ∧ C.toList.take ((n + 1) * 4) = evCells es'

set_option maxHeartbeats 4000000 in
set_option maxRecDepth 100000 in
/-- There is no room: a new row. -/
theorem insert_grow (b n c i vb : Nat) (es : List Ev) (e : Ev) (w : World) (cur x : Array Value) (tx : TypeId) (hn : n = es.length) (hi : i < n) (hroom : c < n + 1) (hnc : n ≤ c) (hc : n ≤ 1000000)
    (hg : w.heap[b]? = some (.cells cur 73 (0, 0))) (ht : cur.toList.take (n * 4) = evCells es) (hx : w.heap[vb]? = some (.cells x tx (0, 0))) (hxe : ∀ (j : Nat) (v : Value), (evCell e)[j]? = some v → x[j]? = some v) :
    Calls Try.prog 83 #[.slice (some ⟨b, 0, none⟩) n c, .int .i64 i, .slice (some ⟨vb, 0, none⟩) 1 1] w (GrowR w n (es.take i ++ e :: es.drop i)) := by
  obtain ⟨i0, hi0, hzz⟩ := Option.map_eq_some_iff.1 infoEv
  simp only [Prod.mk.injEq] at hzz
  obtain ⟨hz0, hzs, hzb⟩ := hzz
  have hz2 : ¬ ((i : Int) = (n : Int)) := by omega
  have hz3 : (c : Int) < (n : Int) + 1 := by omega
  have hdl : (evCells (es.drop i)).length = (n - i) * 4 := by rw [evCells_length, List.length_drop, hn]
  have hcell : ∀ j v, (evCells es)[j]? = some v → w.cell? ⟨b, j, none⟩ = some v := fun j v hj => by
    have hjl : j < n * 4 := by have := (List.getElem?_eq_some_iff.1 hj).1; rw [evCells_length] at this; omega
    rw [← ht, List.getElem?_take_of_lt hjl] at hj
    simp [World.cell?, hg]
    simpa using hj
  have hbw : b < w.heap.size := (Array.getElem?_eq_some_iff.1 hg).1
  have hvw : vb < w.heap.size := (Array.getElem?_eq_some_iff.1 hx).1
  have hkk : (n : Int) + 1 - (i : Int) = ((n + 1 - i : Nat) : Int) := by omega
  have hik : i + (n + 1 - i) = n + 1 := by omega
  have htk : (evCells (es.take i)).length = i * 4 := by rw [evCells_length, List.length_take]; omega
  have hold : (Builtin.firstCells i0.size i (.slice (some ⟨b, 0, none⟩) i c)).run Try.prog w.drew = .ok (evCells (es.take i)).toArray w.drew := by
    rw [hzs]
    exact run_firstCells_some w.drew 4 i ⟨b, 0, none⟩ i c (evCells (es.take i)) htk (fun j v hj => by
      rw [add_row, Nat.zero_add]
      rw [evCells_take, List.getElem?_take] at hj
      split at hj
      · exact hcell j v hj
      · cases hj)
  obtain ⟨G, hG⟩ : ∃ G, G = grownCap w (n + 1) c 73 := ⟨_, rfl⟩
  have hGn : n + 1 ≤ G := by rw [hG]; exact grownCap_ge w _ _ _
  have hGm : G ≤ maxLen := by rw [hG]; exact grownCap_le_maxLen w (n + 1) c 73 (by unfold maxLen; omega)
  have hGm2 : G ≤ 9223372036854775807 := by unfold maxLen at hGm; omega
  obtain ⟨ROW, hROW⟩ : ∃ ROW : Array Value, ROW = (evCells (es.take i)).toArray ++ Builtin.zeroCells (Value.agg #[.int .i64 0, .int .i64 0, .int .i64 0, .bool false]).cells (n + 1 - i) ++ Builtin.zeroCells (Value.agg #[.int .i64 0, .int .i64 0, .int .i64 0, .bool false]).cells (G - (n + 1)) := ⟨_, rfl⟩
  have hrz : ∀ ty, (Builtin.append_ #[63, 3] ty #[.slice (some ⟨b, 0, none⟩) i c, .int .i64 ((n : Int) + 1 - (i : Int))]).run Try.prog w =
      .ok (.slice (some ⟨w.heap.size, 0, none⟩) (n + 1) G) (w.drew.alloc (.cells ROW 73)) := fun ty => by
    have h := Lib.run_append_grow_zeros w 63 3 ty 73 i0 _ .i64 .i64 Try.underlying63 Try.underlying3 hi0 hz0 (some ⟨b, 0, none⟩) i c (evCells (es.take i)) hold (n + 1 - i) (by omega) (by omega) (by omega) (by omega) (by rw [hzb]; omega) (by rw [hzb, hik]; exact growslice_fits hroom (by omega))
    rw [hik, ← hG, ← hROW] at h
    rw [hkk]
    exact h
  have hRs : ROW.size = G * 4 := by
    rw [hROW]
    simp [Builtin.zeroCells, Value.cells, htk]
    omega
  have hRt : ROW.toList.take (i * 4) = evCells (es.take i) := by
    rw [hROW]
    simp only [Array.toList_append, List.append_assoc]
    rw [List.take_left' htk]
  obtain ⟨W1, hW1⟩ : ∃ W1, W1 = w.drew.alloc (.cells ROW 73) := ⟨_, rfl⟩
  rw [← hW1] at hrz
  have hgN : W1.heap[w.heap.size]? = some (.cells ROW 73 (0, 0)) := by rw [hW1]; exact heap_alloc_new w.drew _
  have hOld : ∀ k, k < w.heap.size → W1.heap[k]? = w.heap[k]? := fun k hk => by rw [hW1]; exact heap_alloc_old w.drew _ hk
  obtain ⟨C1, hC1⟩ : ∃ C1, C1 = putAt ROW (i * 4) (evCell e) := ⟨_, rfl⟩
  have hC1s : C1.size = G * 4 := by rw [hC1, putAt_size (by rw [evCell_len]; omega), hRs]
  have hcpA : ∀ (W : World), W.heap = W1.heap → ∀ ty dc, (Builtin.copy_ #[63, 63] ty #[.slice (some ⟨w.heap.size, i * 4, none⟩) (n + 1 - i) dc, .slice (some ⟨vb, 0, none⟩) 1 1]).run Try.prog W = .ok (goInt (Nat.min 1 (n + 1 - i))) (W.setRow w.heap.size C1) := fun W hW ty dc => by
    rw [hC1]
    exact run_copy_at W _ _ ty 73 4 w.heap.size (i * 4) (n + 1 - i) dc ⟨vb, 0, none⟩ 1 1 ROW _ (evCell e) Try.underlying63 ev_size (by rw [hW]; exact hgN) (by rw [evCell_len]; simp only [Nat.min_def]; split <;> omega) (by rw [evCell_len]; omega)
      (fun j v hj => by rw [add_row, Nat.zero_add]; simp [World.cell?, hW, hOld vb hvw, hx]; exact hxe j v hj) (fun v hv => evCell_one e v hv)
  obtain ⟨C2, hC2⟩ : ∃ C2, C2 = putAt C1 ((i + 1) * 4) (evCells (es.drop i)) := ⟨_, rfl⟩
  have hC2s : C2.size = G * 4 := by rw [hC2, putAt_size (by rw [hdl]; omega), hC1s]
  obtain ⟨W2, hW2⟩ : ∃ W2, W2 = W1.setRow w.heap.size C1 := ⟨_, rfl⟩
  have hg2 : W2.heap[w.heap.size]? = some (.cells C1 73 (0, 0)) := by rw [hW2]; exact setRow_heap _ _ _ _ _ _ hgN
  have ho2 : ∀ k, k < w.heap.size → W2.heap[k]? = w.heap[k]? := fun k hk => by rw [hW2, setRow_other _ _ _ _ (by omega)]; exact hOld k hk
  have hcpB : ∀ (W : World), W.heap = W2.heap → ∀ ty dc sc, (Builtin.copy_ #[63, 63] ty #[.slice (some ⟨w.heap.size, (i + 1) * 4, none⟩) (n - i) dc, .slice (some ⟨b, i * 4, none⟩) (n - i) sc]).run Try.prog W = .ok (goInt (Nat.min (n - i) (n - i))) (W.setRow w.heap.size C2) := fun W hW ty dc sc => by
    rw [hC2]
    exact run_copy_at W _ _ ty 73 4 w.heap.size ((i + 1) * 4) (n - i) dc ⟨b, i * 4, none⟩ (n - i) sc C1 _ (evCells (es.drop i)) Try.underlying63 ev_size (by rw [hW]; exact hg2) (by rw [hdl]; simp only [Nat.min_def]; split <;> omega) (by rw [hdl]; omega)
      (fun j v hj => by
        rw [add_row]
        have h1 := hcell (i * 4 + j) v (by rw [evCells_drop, List.getElem?_drop] at hj; exact hj)
        rw [← h1]
        exact World.cell?_of_block (by rw [hW]; exact ho2 b hbw)) (fun v hv => evCells_one _ v hv)
  have hfin : C2.toList.take ((n + 1) * 4) = evCells (es.take i ++ e :: es.drop i) := by
    have hRl : ROW.toList.length = G * 4 := by simpa using hRs
    have hC1l : C1.toList = evCells (es.take i) ++ evCell e ++ ROW.toList.drop (i * 4 + 4) := by
      rw [hC1, ← hRt]
      simp [putAt, evCell_len]
    rw [hC2, evCells_append, show evCells (e :: es.drop i) = evCell e ++ evCells (es.drop i) from rfl]
    have hb1 : C1.toList.take ((i + 1) * 4) = evCells (es.take i) ++ evCell e := by
      rw [hC1l, List.take_left']
      rw [List.length_append, htk, evCell_len]
      omega
    have e1 : (putAt C1 ((i + 1) * 4) (evCells (es.drop i))).toList = (evCells (es.take i) ++ (evCell e ++ evCells (es.drop i))) ++ C1.toList.drop ((i + 1) * 4 + (evCells (es.drop i)).length) := by
      unfold putAt
      rw [hb1]
      simp
    rw [e1, List.take_left']
    rw [List.length_append, List.length_append, htk, evCell_len, hdl]
    omega
  have hGi : ¬ (G = i) := by omega
  have hGim : ¬ (G = i + 1) := by omega
  have hci : ¬ (c = i) := by omega
  have hw1 : IntKind.i64.wrap ((i : Int) + 1) = (i : Int) + 1 := by rw [IntKind.wrap_i64]; omega
  have hw2 : IntKind.i64.wrap ((n : Int) + 1) = (n : Int) + 1 := by rw [IntKind.wrap_i64]; omega
  have hw3 : IntKind.i64.wrap ((n : Int) + 1 - (i : Int)) = (n : Int) + 1 - (i : Int) := by rw [IntKind.wrap_i64]; omega
  have hb1 : (0 : Int) ≤ (i : Int) + 1 := by omega
  have hin : i ≤ n := by omega
  have htn : ((i : Int) + 1).toNat = i + 1 := by omega
  have hb3 : (i : Int) ≤ (n : Int) + 1 := by omega
  have hR1 : ∀ W : World, W.heap = W2.heap → (W.setRow w.heap.size C2).heap = (w.alloc (.cells C2 73)).heap := fun W hW => by
    have h0 : (W.setRow w.heap.size C2).heap = (W2.setRow w.heap.size C2).heap := by unfold World.setRow; simp only [hW]
    rw [h0, hW2, hW1, setRow_setRow]
    have h1 : (w.drew.alloc (.cells ROW 73)).setRow w.heap.size C2 = w.drew.alloc (.cells C2 73) := alloc_setRow w.drew _ _ _
    rw [h1]
    rfl
  have hR2 : W2.os = w.os ∧ W2.tape = w.tape ∧ W2.output = w.output := by rw [hW2, hW1]; exact ⟨rfl, rfl, rfl⟩
  have hW2h' : W2 = W1.setRow w.heap.size C1 := hW2
  have hW1h : W1.os = w.os ∧ W1.tape = w.tape ∧ W1.output = w.output := by rw [hW1]; exact ⟨rfl, rfl, rfl⟩
  clear hkk hik hold hROW hG hRt hC1 hC2 hW1 hW2 hg2 ho2 hgN hOld hcell ht hg hx hn hdl htk hRs hC1s hi0 hz0 hzs hzb
  have hP : Hid (n + 1 ≤ G ∧ G ≤ maxLen ∧ C2.size = G * 4 ∧ C2.toList.take ((n + 1) * 4) = evCells (es.take i ++ e :: es.drop i)) := ⟨hGn, hGm, hC2s, hfin⟩
  clear hC2s hfin
  go_enter Try.func83, Try.ntmps83
  go_wp2_with (first
    | (at_builtin; refine Lib.wpList_append_run _ rfl _ _ _ _ rfl _ _ rfl rfl _ _ (hrz _) ?_)
    | (at_builtin; refine wpList_copy_runI _ rfl _ _ 63 63 rfl _ _ rfl rfl (hcpA _ rfl _ _) ?_))
  rw [← hW2h'] at *
  go_region_law (refine step_copy_runI rfl _ _ 63 63 rfl (.slice (some ⟨w.heap.size, (i + 1) * 4, none⟩) (n - i) (G - (i + 1))) (.slice (some ⟨b, i * 4, none⟩) (n - i) (c - i)) (by simp [Act.eval, Act.put]) (by simp [Act.eval, Act.put]) (hcpB (World.drew W2) rfl 3 (G - (i + 1)) (c - i)) ?_)
  go_wp2
  go_ret
  exact ⟨G, C2, rfl, hP.out.1, hP.out.2.1, hR2.1, hR2.2.1, hR2.2.2, hR1 _ rfl, hP.out.2.2.1, hP.out.2.2.2⟩

/-- An event more in the middle of a row. -/
def insAt (es : List Ev) (i : Nat) (e : Ev) : List Ev := es.take i ++ e :: es.drop i
theorem insAt_length (es : List Ev) (i : Nat) (e : Ev) : (insAt es i e).length = es.length + 1 := by
  unfold insAt
  rw [List.length_append, List.length_cons, List.length_take, List.length_drop]
  omega
def InsR (B : Nat) (w : World) (v : Value) (es : List Ev) (r : Ending) (w' : World) : Prop :=
  ∃ v', r = .returned v' ∧ OwnE w' B v' es ∧ Below B w w' ∧ w.grownBy w' v.ownBlock ∧ (v'.ownBlock = v.ownBlock ∨ v'.ownBlock = some w.heap.size)

set_option maxHeartbeats 4000000 in
set_option maxRecDepth 100000 in
/-- At the end. -/
theorem insert_end (B : Nat) (a : Option Addr) (n c vb : Nat) (es : List Ev) (e : Ev) (w : World) (x : Array Value) (tx : TypeId) (hn : n = es.length) (hc : n ≤ 1000000) (hB : B ≤ w.heap.size) (hca : a = none → c = 0) (hnc : n ≤ c) (ha : a = none ∨ ∃ b, a = some ⟨b, 0, none⟩)
    (hown : OwnE w B (.slice a n c) es) (hx : w.heap[vb]? = some (.cells x tx (0, 0))) (hxe : ∀ (j : Nat) (v : Value), (evCell e)[j]? = some v → x[j]? = some v) :
    Calls Try.prog 83 #[.slice a n c, .int .i64 n, .slice (some ⟨vb, 0, none⟩) 1 1] w (InsR B w (.slice a n c) (insAt es n e)) := by
  have he : insAt es n e = es ++ [e] := by unfold insAt; rw [hn, List.take_length, List.drop_length]
  rw [he]
  obtain ⟨i0, hi0, hzz⟩ := Option.map_eq_some_iff.1 infoEv
  simp only [Prod.mk.injEq] at hzz
  obtain ⟨hz0, hzs, hzb⟩ := hzz
  have HO : Hid (w.ownsRow B 73 4 (.slice a n c) n (evCells es)) := by
    have h : w.ownsRow B 73 4 (.slice a n c) es.length (evCells es) := hown
    rw [← hn] at h
    exact h
  have hnews : ∀ j u, (evCell e)[j]? = some u → w.cell? ((⟨vb, 0, none⟩ : Addr).add j) = some u := fun j v hj => by rw [add_row, Nat.zero_add]; simp [World.cell?, hx]; exact hxe j v hj
  have HN := Lib.hid hn
  clear hown hx hxe hn he
  go_enter Try.func83, Try.ntmps83
  rcases ha with rfl | ⟨b, rfl⟩
  · obtain rfl : c = 0 := hca rfl
    obtain rfl : n = 0 := by omega
    go_wp2_with (at_builtin; refine wpList_append_own_at _ rfl _ _ 63 rfl B 73 i0 _ 4 32 Try.underlying63 hi0 hz0 hzs hzb rfl (by decide) _ _ _ rfl HO.out ⟨vb, 0, none⟩ 1 1 (evCell e) rfl rfl hnews (evCell_one e) (by unfold maxLen; omega) (by omega) hB ?_; intro v' w' h1 h2 _ h4)
    go_ret
    exact ⟨v', rfl, (by unfold OwnE; rw [List.length_append, evCells_append, ← HN.out]; exact h1), (Below.refl B w).grown h2 hB (fun k hk => (World.ownsRow.lt HO.out k hk).1), h2, h4⟩
  · go_wp2_with (at_builtin; refine wpList_append_own_at _ rfl _ _ 63 rfl B 73 i0 _ 4 32 Try.underlying63 hi0 hz0 hzs hzb rfl (by decide) _ _ _ rfl HO.out ⟨vb, 0, none⟩ 1 1 (evCell e) rfl rfl hnews (evCell_one e) (by unfold maxLen; omega) (by omega) hB ?_; intro v' w' h1 h2 _ h4)
    all_goals
      go_ret
      exact ⟨v', rfl, (by unfold OwnE; rw [List.length_append, evCells_append, ← HN.out]; exact h1), (Below.refl B w).grown h2 hB (fun k hk => (World.ownsRow.lt HO.out k hk).1), h2, h4⟩

theorem setCells2_grown (w : World) (b : Nat) (A1 A2 : Array Value) : w.grownBy ((w.drew.setRow b A1).setRow b A2) (some b) :=
  ⟨rfl, rfl, rfl, by simp, fun k _ hk => by rw [setRow_other _ _ _ _ (fun e => hk (by rw [e])), setRow_other _ _ _ _ (fun e => hk (by rw [e]))]; rfl⟩

/-- Wherever it goes. -/
theorem insert_any (B : Nat) (v : Value) (i vb : Nat) (es : List Ev) (e : Ev) (w : World) (x : Array Value) (tx : TypeId) (hi : i ≤ es.length) (hm : es.length ≤ 1000) (hB : B ≤ w.heap.size)
    (hown : OwnE w B v es) (hx : w.heap[vb]? = some (.cells x tx (0, 0))) (hxe : ∀ (j : Nat) (v : Value), (evCell e)[j]? = some v → x[j]? = some v) (hv : v.ownBlock ≠ some vb) :
    Calls Try.prog 83 #[v, .int .i64 i, .slice (some ⟨vb, 0, none⟩) 1 1] w (InsR B w v (insAt es i e)) := by
  have hO : w.ownsRow B 73 4 v es.length (evCells es) := hown
  obtain ⟨h1, ⟨h2, h3⟩ | ⟨g, cap, cur, h2, h3, h4, h5, h6, h7, h8⟩⟩ := hO
  · obtain rfl : i = es.length := by omega
    subst h2
    have h := insert_end B none 0 0 vb es e w x tx h3.symm (by omega) hB (fun _ => rfl) (Nat.le_refl _) (.inl rfl) hown hx hxe
    rw [h3]
    exact h
  · subst h2
    by_cases hin : i = es.length
    · subst hin
      exact insert_end B (some ⟨g, 0, none⟩) es.length cap vb es e w x tx rfl (by omega) hB (by simp) h5 (.inr ⟨g, rfl⟩) hown hx hxe
    · have hlt : i < es.length := by omega
      have hvb : vb ≠ g := fun e => hv (by rw [e]; rfl)
      have hgw : g < w.heap.size := (Array.getElem?_eq_some_iff.1 h4).1
      by_cases hroom : es.length + 1 ≤ cap
      · refine (insert_shift g es.length cap i vb es e w cur x tx rfl hlt hroom h6 hvb h4 h7 h8 hx hxe).mono ?_
        rintro r w' ⟨rfl, rfl⟩
        have hgr := setCells2_grown w g (putAt cur ((i + 1) * 4) (evCells (es.drop i))) (putAt (putAt cur ((i + 1) * 4) (evCells (es.drop i))) (i * 4) (evCell e))
        have hdl : (evCells (es.drop i)).length = (es.length - i) * 4 := by rw [evCells_length, List.length_drop]
        have hs1 : (putAt cur ((i + 1) * 4) (evCells (es.drop i))).size = cap * 4 := by rw [putAt_size (by rw [hdl, h7]; omega), h7]
        have hs2 : (putAt (putAt cur ((i + 1) * 4) (evCells (es.drop i))) (i * 4) (evCell e)).size = cap * 4 := by rw [putAt_size (by rw [evCell_len, hs1]; omega), hs1]
        refine ⟨_, rfl, ?_, (Below.refl B w).grown hgr hB (fun k hk => (World.ownsRow.lt hown k hk).1), hgr, .inl rfl⟩
        refine ⟨by rw [evCells_length], .inr ⟨g, cap, _, by rw [insAt_length], h3, setRow_heap _ _ _ _ _ _ (setRow_heap _ _ _ _ _ _ h4), by rw [insAt_length]; exact hroom, h6, hs2, ?_⟩⟩
        rw [insAt_length]
        exact shifted (by omega) h7 hroom h8
      · refine (insert_grow g es.length cap i vb es e w cur x tx rfl hlt (by omega) h5 (by omega) h4 h8 hx hxe).mono ?_
        rintro r w' ⟨G, C, rfl, g1, g2, g3, g4, g5, g6, g7, g8⟩
        have hsz : w'.heap.size = w.heap.size + 1 := by rw [g6]; simp
        have hgr : w.grownBy w' (some g) := ⟨g3, g4, g5, by omega, fun k hk _ => by rw [g6]; exact heap_alloc_old w _ hk⟩
        refine ⟨_, rfl, ?_, (Below.refl B w).grown hgr hB (fun k hk => (World.ownsRow.lt hown k hk).1), hgr, .inr rfl⟩
        refine ⟨by rw [evCells_length], .inr ⟨w.heap.size, G, C, by rw [insAt_length], hB, by rw [g6]; exact heap_alloc_new w _, by rw [insAt_length]; exact g1, g2, g7, ?_⟩⟩
        rw [insAt_length]
        exact g8

end Go.Proofs.Ytopklnehhebhmaa

/- Rows that may be, and the contract of the document's Rows. -/
namespace Go.Proofs.Ytopklnehhebhmaa
open Go.RowKit

/-- May all events be? -/
def rightL (l : List Ev) : Bool := l.all rightEv
theorem rightL_take (l : List Ev) (k : Nat) (h : k < l.length) : rightL (l.take (k + 1)) = (rightL (l.take k) && rightEv l[k]) := by
  unfold rightL
  rw [List.take_succ_eq_append_getElem h, List.all_append]
  simp
theorem rightL_no {l : List Ev} {k : Nat} (h : k < l.length) (hr : rightEv l[k] = false) : rightL l = false := by
  unfold rightL
  rw [List.all_eq_false]
  exact ⟨l[k], List.getElem_mem h, by simp [hr]⟩
theorem rightL_get {l : List Ev} (h : rightL l = true) {k : Nat} (hk : k < l.length) : rightEv l[k] = true := by
  unfold rightL at h
  exact List.all_eq_true.1 h _ (List.getElem_mem hk)

set_option maxRecDepth 100000 in
set_option maxHeartbeats 1000000 in
theorem rows_any (a : Option Addr) (cap : Nat) (l : List Ev) (w : World) (hl : EvsAt w a l) :
    Calls Try.prog 59 #[.slice a l.length cap] w fun r w' => r = .returned (.bool (rightL l)) ∧ Below w.heap.size w w' := by
  have hm := hl.1
  unfold maxLen at hm
  have HL := Lib.hid hl
  clear hl
  go_enter Try.func59, Try.ntmps59
  go_wp2
  go_loopw [3] (fun i wr => ∃ k : Nat, k ≤ l.length ∧ i = .int .i64 k ∧ Hid (rightL (l.take k) = true) ∧ Below w.heap.size w wr) (fun i _ => l.length - (intOf i).toNat)
  case atStart => exact ⟨0, Nat.zero_le _, rfl, rfl, Below.refl _ _⟩
  case round =>
    obtain ⟨k, hk, rfl, HR, hb⟩ := hrel
    by_cases hlt : k < l.length
    · obtain ⟨b, o, rfl, hc⟩ := HL.out.2 (by intro e; simp [e] at hlt)
      obtain ⟨c0, c1, c2, c3⟩ := hc k hlt
      have d0 := cell_later hb c0
      have d1 := cell_later hb c1
      have d2 := cell_later hb c2
      have d3 := cell_later hb c3
      have HT := Lib.hid (rightL_take l k hlt)
      have hx1 : Hid (rightEv l[k] = false → rightL l = false) := fun h => rightL_no hlt h
      clear hc c0 c1 c2 c3
      generalize l[k] = x at *
      go_wp2_with fail
      refine (refEvRight_any x _).mono ?_
      rintro r w2 ⟨rfl, hb5⟩
      have hb6 := hb.trans (hb5.mono hb.size)
      clear hb5
      cases hr : rightEv x
      · have HN := Lib.hid (hx1.out hr)
        clear hx1 HT
        go_wp2
        go_ret
        exact ⟨ret_bool HN.out.symm, hb6⟩
      · have HN : Hid (rightL (l.take (k + 1)) = true) := by show _ = _; rw [HT.out, HR.out, hr]; rfl
        clear hx1 HT
        go_wp2
        go_roundw
        case rel => exact ⟨k + 1, by omega, by go_num, HN, hb6⟩
        case measure => simp [intOf]; omega
    · obtain rfl : k = l.length := by omega
      have HE : Hid (rightL l = true) := by have h := HR.out; rw [List.take_length] at h; exact h
      go_wp2
      go_ret
      exact ⟨ret_bool HE.out.symm, hb⟩

end Go.Proofs.Ytopklnehhebhmaa

/- A part of a row, and one of its events. -/
namespace Go.Proofs.Ytopklnehhebhmaa
open Go.RowKit

theorem EvsAt.take {w : World} {a : Option Addr} {l : List Ev} (h : EvsAt w a l) (k : Nat) : EvsAt w a (l.take k) := by
  refine ⟨Nat.le_trans (List.length_take_le' _ _) h.1, fun hn => ?_⟩
  obtain ⟨b, o, rfl, hc⟩ := h.2 (by intro e; simp [e] at hn)
  refine ⟨b, o, rfl, fun i hi => ?_⟩
  have hi' : i < l.length := by simp at hi; omega
  have h1 := hc i hi'
  simpa using h1
theorem EvsAt.one {w : World} {a : Option Addr} {l : List Ev} (h : EvsAt w a l) {k : Nat} (hk : k < l.length) : ∃ b o, a = some ⟨b, o, none⟩ ∧ w.cell? ⟨b, o + k * 4, none⟩ = some (.int .i64 (evI l k).thread) ∧ w.cell? ⟨b, o + k * 4 + 1, none⟩ = some (.int .i64 (evI l k).kind) ∧
    w.cell? ⟨b, o + k * 4 + 2, none⟩ = some (.int .i64 (evI l k).obj) ∧ w.cell? ⟨b, o + k * 4 + 3, none⟩ = some (.bool (evI l k).fail) := by
  obtain ⟨b, o, rfl, hc⟩ := h.2 (by intro e; simp [e] at hk)
  refine ⟨b, o, rfl, ?_⟩
  rw [evI_get hk]
  exact hc k hk
theorem cnt_le_k (q : Nat → Bool) (n : Nat) : cnt q n ≤ n := by
  induction n with
  | zero => exact Nat.le_refl _
  | succ n ih => rw [cnt_succ]; split <;> omega

end Go.Proofs.Ytopklnehhebhmaa

/-
  Plain data for layer 5: the levels of a row. Nothing of the translation.
-/
namespace Go.Proofs.Ytopklnehhebhmaa

/-- The level of one event more. -/
def lvN (m : List (List Ev)) (e : Ev) : Nat := top (fun i => i + 1) (fun i => (m.getD i []).any fun x => dep x e) m.length
/-- By rising threads. -/
def insE (e : Ev) : List Ev → List Ev
  | [] => [e]
  | x :: r => if e.thread < x.thread then e :: x :: r else x :: insE e r
def putL (m : List (List Ev)) (n : Nat) (e : Ev) : List (List Ev) := if n < m.length then m.set n (insE e (m.getD n [])) else m ++ [[e]]
def addL (m : List (List Ev)) (e : Ev) : List (List Ev) := putL m (lvN m e) e
def lvls (l : List Ev) : List (List Ev) := l.foldl addL []

theorem lvls_snoc (l : List Ev) (e : Ev) : lvls (l ++ [e]) = addL (lvls l) e := by unfold lvls; rw [List.foldl_append]; rfl
theorem lvN_le (m : List (List Ev)) (e : Ev) : lvN m e ≤ m.length := top_le fun _ hi _ => hi
theorem lvN_ge {m : List (List Ev)} {e : Ev} {i : Nat} (hi : i < m.length) (h : ∃ x ∈ m.getD i [], dep x e = true) : i < lvN m e :=
  top_ge (f := fun i => i + 1) (q := fun i => (m.getD i []).any fun x => dep x e) hi (List.any_eq_true.2 h)
theorem lvN_some {m : List (List Ev)} {e : Ev} {i : Nat} (h : lvN m e = i + 1) : ∃ x ∈ m.getD i [], dep x e = true := by
  rcases top_zero_or (f := fun i => i + 1) (q := fun i => (m.getD i []).any fun x => dep x e) (n := m.length) with h0 | ⟨j, _, hq, hj⟩
  · have h1 : lvN m e = 0 := h0
    omega
  · have h1 : lvN m e = j + 1 := hj
    obtain rfl : i = j := by omega
    exact List.any_eq_true.1 hq
/-- Nothing from its level on depends on it. -/
theorem lvN_free {m : List (List Ev)} {e : Ev} {i : Nat} (hi : lvN m e ≤ i) {x : Ev} (hx : x ∈ m.getD i []) : dep x e = false := by
  cases hd : dep x e
  · rfl
  · exfalso
    by_cases hl : i < m.length
    · have := lvN_ge hl ⟨x, hx, hd⟩
      omega
    · simp [List.getD, List.getElem?_eq_none (Nat.le_of_not_lt hl)] at hx

theorem top_congr {f : Nat → Nat} {q r : Nat → Bool} {n : Nat} (h : ∀ i, i < n → q i = r i) : top f q n = top f r n := by
  induction n with
  | zero => rfl
  | succ n ih => rw [top_succ, top_succ, ih (fun i hi => h i (by omega)), h n (by omega)]

theorem mem_insE {e x : Ev} {r : List Ev} : x ∈ insE e r ↔ x = e ∨ x ∈ r := by
  induction r with
  | nil => simp [insE]
  | cons y r ih =>
    unfold insE
    split
    · simp
    · rw [List.mem_cons, ih, List.mem_cons]
      constructor
      · rintro (h | h | h) <;> simp [h]
      · rintro (h | h | h) <;> simp [h]
theorem insE_length (e : Ev) (r : List Ev) : (insE e r).length = r.length + 1 := by
  induction r with
  | nil => rfl
  | cons y r ih =>
    unfold insE
    split
    · rfl
    · rw [List.length_cons, ih, List.length_cons]
theorem insE_split (e : Ev) (r : List Ev) : ∃ r1 r2, r = r1 ++ r2 ∧ insE e r = r1 ++ e :: r2 := by
  induction r with
  | nil => exact ⟨[], [], rfl, rfl⟩
  | cons y r ih =>
    unfold insE
    split
    · exact ⟨[], y :: r, rfl, rfl⟩
    · obtain ⟨r1, r2, h1, h2⟩ := ih
      exact ⟨y :: r1, r2, by rw [h1]; rfl, by rw [h2]; rfl⟩
theorem insE_cons_lt {e x : Ev} (r : List Ev) (h : e.thread < x.thread) : insE e (x :: r) = e :: x :: r := by rw [insE, if_pos h]
theorem insE_cons_ge {e x : Ev} (r : List Ev) (h : ¬ e.thread < x.thread) : insE e (x :: r) = x :: insE e r := by rw [insE, if_neg h]
theorem insE_comm {e f : Ev} (h : e.thread ≠ f.thread) (r : List Ev) : insE e (insE f r) = insE f (insE e r) := by
  induction r with
  | nil =>
    rcases (by omega : e.thread < f.thread ∨ f.thread < e.thread) with hl | hl
    · have : ¬ f.thread < e.thread := by omega
      simp [insE, hl, this]
    · have : ¬ e.thread < f.thread := by omega
      simp [insE, hl, this]
  | cons x r ih =>
    by_cases he : e.thread < x.thread
    · by_cases hf : f.thread < x.thread
      · rw [insE_cons_lt r he, insE_cons_lt r hf]
        rcases (by omega : e.thread < f.thread ∨ f.thread < e.thread) with hl | hl
        · rw [insE_cons_lt _ hl, insE_cons_ge _ (by omega), insE_cons_lt r hf]
        · rw [insE_cons_ge _ (by omega), insE_cons_lt r he, insE_cons_lt _ hl]
      · rw [insE_cons_lt r he, insE_cons_ge r hf, insE_cons_lt _ he, insE_cons_ge _ (by omega), insE_cons_ge r hf]
    · by_cases hf : f.thread < x.thread
      · rw [insE_cons_ge r he, insE_cons_lt r hf, insE_cons_lt _ hf, insE_cons_ge _ (by omega), insE_cons_ge r he]
      · rw [insE_cons_ge r he, insE_cons_ge r hf, insE_cons_ge _ he, insE_cons_ge _ hf, ih]

theorem putL_length (m : List (List Ev)) (n : Nat) (e : Ev) : (putL m n e).length = if n < m.length then m.length else m.length + 1 := by
  unfold putL
  split <;> simp
theorem lvN_put {m : List (List Ev)} {n : Nat} {e f : Ev} (hd : dep e f = false) : lvN (putL m n e) f = lvN m f := by
  unfold lvN
  rw [putL_length]
  by_cases h : n < m.length
  · rw [if_pos h]
    refine top_congr fun i hi => ?_
    have e1 : (putL m n e).getD i [] = if i = n then insE e (m.getD n []) else m.getD i [] := by
      unfold putL
      rw [if_pos h, getD_set _ _ _ _ _ h]
    rw [e1]
    split
    · rename_i hin
      subst hin
      rw [Bool.eq_iff_iff, List.any_eq_true, List.any_eq_true]
      constructor
      · rintro ⟨x, hx, h2⟩
        rcases mem_insE.1 hx with rfl | hx
        · rw [hd] at h2; cases h2
        · exact ⟨x, hx, h2⟩
      · rintro ⟨x, hx, h2⟩
        exact ⟨x, mem_insE.2 (.inr hx), h2⟩
    · rfl
  · rw [if_neg h, top_succ]
    have e1 : putL m n e = m ++ [[e]] := by unfold putL; rw [if_neg h]
    rw [e1, if_neg]
    · refine top_congr fun i hi => ?_
      simp [List.getD, List.getElem?_append_left hi]
    · simp [List.getD, hd]

theorem putL_comm {m : List (List Ev)} {n k : Nat} {e f : Ev} (hn : n ≤ m.length) (hk : k ≤ m.length) (h : e.thread ≠ f.thread) : putL (putL m n e) k f = putL (putL m k f) n e := by
  by_cases h1 : n < m.length
  · by_cases h2 : k < m.length
    · have e1 : putL m n e = m.set n (insE e (m.getD n [])) := by unfold putL; rw [if_pos h1]
      have e2 : putL m k f = m.set k (insE f (m.getD k [])) := by unfold putL; rw [if_pos h2]
      rw [e1, e2]
      unfold putL
      rw [if_pos (by simpa using h2), if_pos (by simpa using h1), getD_set _ _ _ _ _ h1, getD_set _ _ _ _ _ h2]
      by_cases hnk : n = k
      · subst hnk
        rw [if_pos rfl, if_pos rfl, List.set_set, List.set_set, insE_comm h]
      · rw [if_neg (fun e => hnk e.symm), if_neg hnk, List.set_comm _ _ hnk]
    · have e1 : putL m n e = m.set n (insE e (m.getD n [])) := by unfold putL; rw [if_pos h1]
      have e2 : putL m k f = m ++ [[f]] := by unfold putL; rw [if_neg h2]
      rw [e1, e2]
      unfold putL
      rw [if_neg (by simpa using h2), if_pos (by simp; omega), List.set_append_left _ _ h1]
      simp [List.getD, List.getElem?_append_left h1]
  · by_cases h2 : k < m.length
    · have e1 : putL m n e = m ++ [[e]] := by unfold putL; rw [if_neg h1]
      have e2 : putL m k f = m.set k (insE f (m.getD k [])) := by unfold putL; rw [if_pos h2]
      rw [e1, e2]
      unfold putL
      rw [if_pos (by simp; omega), if_neg (by simpa using h1), List.set_append_left _ _ h2]
      simp [List.getD, List.getElem?_append_left h2]
    · obtain rfl : n = m.length := by omega
      obtain rfl : k = m.length := by omega
      have e1 : putL m m.length e = m ++ [[e]] := by unfold putL; rw [if_neg h1]
      have e2 : putL m m.length f = m ++ [[f]] := by unfold putL; rw [if_neg h1]
      rw [e1, e2]
      unfold putL
      rw [if_pos (by simp), if_pos (by simp), List.set_append_right _ _ (Nat.le_refl _), List.set_append_right _ _ (Nat.le_refl _)]
      have hc := insE_comm (Ne.symm h) []
      simp only [insE] at hc
      simp [List.getD, insE, hc]

/-- The levels stay whatever such neighbours are swapped. -/
theorem lvls_blind : Blind lvls := by
  intro x y e f hd
  have hd' : dep f e = false := by rw [dep_symm]; exact hd
  have hne : e.thread ≠ f.thread := by
    intro h
    rw [dep_thread h] at hd
    cases hd
  unfold lvls
  rw [List.foldl_append, List.foldl_append, List.foldl_cons, List.foldl_cons, List.foldl_cons, List.foldl_cons]
  congr 1
  generalize x.foldl addL [] = m
  have e1 : addL (addL m e) f = putL (putL m (lvN m e) e) (lvN m f) f := by
    show putL (addL m e) (lvN (addL m e) f) f = _
    have : lvN (addL m e) f = lvN m f := lvN_put hd
    rw [this]
    rfl
  have e2 : addL (addL m f) e = putL (putL m (lvN m f) f) (lvN m e) e := by
    show putL (addL m f) (lvN (addL m f) e) e = _
    have : lvN (addL m f) e = lvN m e := lvN_put hd'
    rw [this]
    rfl
  rw [e1, e2]
  exact putL_comm (lvN_le m e) (lvN_le m f) hne

/-- One event more, level by level. -/
theorem sim_put (m : List (List Ev)) (e : Ev) : Sim (addL m e).flatten (m.flatten ++ [e]) := by
  unfold addL putL
  by_cases h : lvN m e < m.length
  · rw [if_pos h]
    have hfree : ∀ i, lvN m e ≤ i → ∀ x ∈ m.getD i [], dep e x = false := fun i hi x hx => by rw [dep_symm]; exact lvN_free hi hx
    generalize lvN m e = n at *
    have hm : m = m.take n ++ m.getD n [] :: m.drop (n + 1) := by
      conv => lhs; rw [← List.take_append_drop n m, List.drop_eq_getElem_cons h]
      rw [getD_lt _ h]
    have hs : m.set n (insE e (m.getD n [])) = m.take n ++ insE e (m.getD n []) :: m.drop (n + 1) := by
      rw [List.set_eq_take_append_cons_drop, if_pos h]
    obtain ⟨r1, r2, hr, hi⟩ := insE_split e (m.getD n [])
    have hy : ∀ f ∈ r2 ++ (m.drop (n + 1)).flatten, dep e f = false := by
      intro f hf
      rcases List.mem_append.1 hf with hf | hf
      · exact hfree n (Nat.le_refl _) f (by rw [hr]; exact List.mem_append_right _ hf)
      · obtain ⟨row, hrow, hfr⟩ := List.mem_flatten.1 hf
        obtain ⟨j, hj, hje⟩ := List.mem_iff_getElem.1 hrow
        rw [List.length_drop] at hj
        rw [List.getElem_drop] at hje
        refine hfree (n + 1 + j) (by omega) f ?_
        rw [getD_lt _ (by omega), hje]
        exact hfr
    have h1 := sim_move e (r2 ++ (m.drop (n + 1)).flatten) ((m.take n).flatten ++ r1) hy
    have e1 : (m.set n (insE e (m.getD n []))).flatten = (m.take n).flatten ++ r1 ++ e :: (r2 ++ (m.drop (n + 1)).flatten) := by
      rw [hs, hi]
      simp
    have e2 : m.flatten = (m.take n).flatten ++ r1 ++ (r2 ++ (m.drop (n + 1)).flatten) := by
      conv => lhs; rw [hm]
      rw [List.flatten_append, List.flatten_cons, hr]
      simp
    rw [e1, e2]
    exact h1
  · rw [if_neg h, List.flatten_append]
    exact Sim.refl _

/-- P5.2: the row of a row's levels is the same as it. -/
theorem sim_row (l : List Ev) : Sim (lvls l).flatten l := by
  have : ∀ n (l : List Ev), l.length = n → Sim (lvls l).flatten l := by
    intro n
    induction n with
    | zero =>
      intro l hl
      obtain rfl := List.eq_nil_of_length_eq_zero hl
      exact Sim.refl _
    | succ n ih =>
      intro l hl
      have hne : l ≠ [] := by rintro rfl; simp at hl
      obtain ⟨l', e, rfl⟩ : ∃ l' e, l = l' ++ [e] := ⟨l.dropLast, l.getLast hne, (List.dropLast_concat_getLast hne).symm⟩
      rw [lvls_snoc]
      exact (sim_put _ e).trans ((sim_snoc _ _ e).2 (ih l' (by simpa using hl)))
  exact this _ l rfl

/-- P5.2: two rows are the same just if their levels are. -/
theorem lvls_iff (a b : List Ev) : lvls a = lvls b ↔ Sim a b := by
  constructor
  · intro h
    have h1 := sim_row a
    rw [h] at h1
    exact h1.symm.trans (sim_row b)
  · intro h
    exact sim_fun _ a b lvls rfl h lvls_blind

end Go.Proofs.Ytopklnehhebhmaa

/-
  Plain data for layer 5: levels are apart from one another; one event more. Nothing of the translation.
-/
namespace Go.Proofs.Ytopklnehhebhmaa

/-- Levels as they may be: none is empty, by rising threads, apart, each on the one ahead. -/
structure LvOk (m : List (List Ev)) : Prop where
  full : ∀ i, i < m.length → m.getD i [] ≠ []
  apart : ∀ i, i < m.length → (m.getD i []).Pairwise fun a b => dep a b = false
  rise : ∀ i, i < m.length → (m.getD i []).Pairwise fun a b => a.thread < b.thread
  on : ∀ i, i + 1 < m.length → ∀ e ∈ m.getD (i + 1) [], ∃ x ∈ m.getD i [], dep x e = true

theorem insE_pairwise {R : Ev → Ev → Prop} {e : Ev} {r : List Ev} (h : r.Pairwise R) (h1 : ∀ x ∈ r, R x e) (h2 : ∀ x ∈ r, R e x) : (insE e r).Pairwise R := by
  induction r with
  | nil => simp [insE]
  | cons y r ih =>
    rw [List.pairwise_cons] at h
    unfold insE
    split
    · rw [List.pairwise_cons, List.pairwise_cons]
      exact ⟨h2, h⟩
    · rw [List.pairwise_cons]
      refine ⟨fun x hx => ?_, ih h.2 (fun x hx => h1 x (by simp [hx])) (fun x hx => h2 x (by simp [hx]))⟩
      rcases mem_insE.1 hx with rfl | hx
      · exact h1 y (by simp)
      · exact h.1 x hx
theorem insE_rise {e : Ev} {r : List Ev} (h : r.Pairwise fun a b => a.thread < b.thread) (h1 : ∀ x ∈ r, x.thread ≠ e.thread) : (insE e r).Pairwise fun a b => a.thread < b.thread := by
  induction r with
  | nil => simp [insE]
  | cons y r ih =>
    have hy := h1 y (by simp)
    have hc := h
    rw [List.pairwise_cons] at h
    unfold insE
    split
    · rename_i hlt
      rw [List.pairwise_cons]
      refine ⟨fun x hx => ?_, hc⟩
      rcases List.mem_cons.1 hx with rfl | hx
      · exact hlt
      · have := h.1 x hx
        omega
    · rw [List.pairwise_cons]
      refine ⟨fun x hx => ?_, ih h.2 (fun x hx => h1 x (by simp [hx]))⟩
      rcases mem_insE.1 hx with rfl | hx
      · omega
      · exact h.1 x hx

theorem addL_get {m : List (List Ev)} {e : Ev} (i : Nat) : (addL m e).getD i [] = if i = lvN m e then insE e (m.getD i []) else m.getD i [] := by
  unfold addL putL
  by_cases h : lvN m e < m.length
  · rw [if_pos h, getD_set _ _ _ _ _ h]
    split
    · rename_i hi; rw [hi]
    · rfl
  · have hn : lvN m e = m.length := by have := lvN_le m e; omega
    rw [if_neg h, hn]
    by_cases hi : i = m.length
    · subst hi
      rw [if_pos rfl]
      simp [List.getD, insE]
    · rw [if_neg hi]
      rcases Nat.lt_or_gt_of_ne hi with hlt | hgt
      · simp [List.getD, List.getElem?_append_left hlt]
      · simp [List.getD, List.getElem?_append_right (Nat.le_of_lt hgt), List.getElem?_eq_none (Nat.le_of_lt hgt), show i - m.length ≠ 0 by omega]
theorem addL_length (m : List (List Ev)) (e : Ev) : (addL m e).length = if lvN m e < m.length then m.length else m.length + 1 := putL_length m _ e
theorem insE_ne (e : Ev) (r : List Ev) : insE e r ≠ [] := by
  intro h
  have := insE_length e r
  rw [h] at this
  simp at this

theorem LvOk.add {m : List (List Ev)} (h : LvOk m) (e : Ev) : LvOk (addL m e) := by
  have hle := lvN_le m e
  have hlen := addL_length m e
  have hin : ∀ i, i < (addL m e).length → i ≠ lvN m e → i < m.length := by
    intro i hi hne
    rw [hlen] at hi
    split at hi <;> omega
  have hmem : ∀ x ∈ m.getD (lvN m e) [], dep x e = false ∧ dep e x = false ∧ x.thread ≠ e.thread := by
    intro x hx
    have h1 := lvN_free (Nat.le_refl _) hx
    refine ⟨h1, by rw [dep_symm]; exact h1, fun ht => ?_⟩
    rw [dep_thread ht] at h1
    cases h1
  have hold : ∀ (R : Ev → Ev → Prop), (∀ i, i < m.length → (m.getD i []).Pairwise R) → (m.getD (lvN m e) []).Pairwise R := by
    intro R hR
    by_cases hl : lvN m e < m.length
    · exact hR _ hl
    · have : m.getD (lvN m e) [] = [] := by simp [List.getD, List.getElem?_eq_none (Nat.le_of_not_lt hl)]
      rw [this]
      exact List.Pairwise.nil
  refine ⟨fun i hi => ?_, fun i hi => ?_, fun i hi => ?_, fun i hi x hx => ?_⟩
  · rw [addL_get]
    split
    · exact insE_ne _ _
    · rename_i hne; exact h.full i (hin i hi hne)
  · rw [addL_get]
    split
    · rename_i he
      subst he
      exact insE_pairwise (hold _ h.apart) (fun x hx => (hmem x hx).1) (fun x hx => (hmem x hx).2.1)
    · rename_i hne; exact h.apart i (hin i hi hne)
  · rw [addL_get]
    split
    · rename_i he
      subst he
      exact insE_rise (hold _ h.rise) (fun x hx => (hmem x hx).2.2)
    · rename_i hne; exact h.rise i (hin i hi hne)
  · have hsup : ∀ y ∈ m.getD i [], y ∈ (addL m e).getD i [] := by
      intro y hy
      rw [addL_get]
      split
      · exact mem_insE.2 (.inr hy)
      · exact hy
    rw [addL_get] at hx
    split at hx
    · rename_i he
      rcases mem_insE.1 hx with rfl | hx
      · obtain ⟨y, hy, hd⟩ := lvN_some he.symm
        exact ⟨y, hsup y hy, hd⟩
      · have hl : i + 1 < m.length := by
          apply Classical.byContradiction
          intro hn
          simp [List.getD, List.getElem?_eq_none (Nat.le_of_not_lt hn)] at hx
        obtain ⟨y, hy, hd⟩ := h.on i hl x hx
        exact ⟨y, hsup y hy, hd⟩
    · rename_i hne
      obtain ⟨y, hy, hd⟩ := h.on i (hin _ hi hne) x hx
      exact ⟨y, hsup y hy, hd⟩

theorem lvls_ok (l : List Ev) : LvOk (lvls l) := by
  have : ∀ (y : List Ev) (m : List (List Ev)), LvOk m → LvOk (y.foldl addL m) := by
    intro y
    induction y with
    | nil => intro m h; exact h
    | cons e y ih => intro m h; exact ih _ (h.add e)
  exact this l [] ⟨fun i hi => by simp at hi, fun i hi => by simp at hi, fun i hi => by simp at hi, fun i hi => by simp at hi⟩

theorem flatten_add (m : List (List Ev)) (e : Ev) : (addL m e).flatten.length = m.flatten.length + 1 := by
  unfold addL putL
  by_cases h : lvN m e < m.length
  · rw [if_pos h]
    generalize lvN m e = n at *
    have hm : m = m.take n ++ m.getD n [] :: m.drop (n + 1) := by
      conv => lhs; rw [← List.take_append_drop n m, List.drop_eq_getElem_cons h]
      rw [getD_lt _ h]
    rw [List.set_eq_take_append_cons_drop, if_pos h]
    conv => rhs; rw [hm]
    simp only [List.flatten_append, List.flatten_cons, List.length_append, insE_length]
    omega
  · rw [if_neg h]
    simp
theorem lvls_count (l : List Ev) : (lvls l).flatten.length = l.length := by
  have : ∀ (y : List Ev) (m : List (List Ev)), (y.foldl addL m).flatten.length = m.flatten.length + y.length := by
    intro y
    induction y with
    | nil => intro m; simp
    | cons e y ih => intro m; rw [List.foldl_cons, ih, flatten_add, List.length_cons]; omega
  have h := this l []
  rw [List.flatten_nil, List.length_nil, Nat.zero_add] at h
  exact h
theorem mem_lvls {l : List Ev} {e : Ev} (h : e ∈ (lvls l).flatten) : e ∈ l := by
  have : ∀ (y : List Ev) (m : List (List Ev)), e ∈ (y.foldl addL m).flatten → e ∈ m.flatten ∨ e ∈ y := by
    intro y
    induction y with
    | nil => intro m h; exact .inl h
    | cons f y ih =>
      intro m h
      rcases ih _ h with h | h
      · obtain ⟨row, hrow, her⟩ := List.mem_flatten.1 h
        obtain ⟨i, hi, hie⟩ := List.mem_iff_getElem.1 hrow
        have hg : (addL m f).getD i [] = row := by rw [getD_lt _ hi, hie]
        rw [addL_get] at hg
        split at hg
        · rw [← hg] at her
          rcases mem_insE.1 her with rfl | her
          · exact .inr (by simp)
          · refine .inl (List.mem_flatten.2 ?_)
            by_cases hl : i < m.length
            · rw [getD_lt _ hl] at her
              exact ⟨_, List.getElem_mem hl, her⟩
            · simp [List.getD, List.getElem?_eq_none (Nat.le_of_not_lt hl)] at her
        · rw [← hg] at her
          refine .inl (List.mem_flatten.2 ?_)
          by_cases hl : i < m.length
          · rw [getD_lt _ hl] at her
            exact ⟨_, List.getElem_mem hl, her⟩
          · simp [List.getD, List.getElem?_eq_none (Nat.le_of_not_lt hl)] at her
      · exact .inr (by simp [h])
  rcases this l [] h with h | h
  · simp at h
  · exact h

end Go.Proofs.Ytopklnehhebhmaa

/- The contract of foata's byThread: an event put into a level. -/
namespace Go.Proofs.Ytopklnehhebhmaa
open Go.RowKit

theorem insE_at {e : Ev} : ∀ (es : List Ev) (k : Nat), k ≤ es.length → (∀ j (h : j < es.length), j < k → es[j].thread < e.thread) → (∀ h : k < es.length, e.thread < es[k].thread) → insE e es = insAt es k e
  | [], 0, _, _, _ => rfl
  | x :: r, 0, _, _, h => by
    have h1 := h (by simp)
    rw [insE_cons_lt r (by simpa using h1)]
    rfl
  | x :: r, k + 1, hk, ha, h => by
    have h0 := ha 0 (by simp) (by omega)
    rw [insE_cons_ge r (by simp at h0; omega), insE_at r k (by simpa using hk) (fun j hj hjk => by have := ha (j + 1) (by simpa using hj) (by omega); simpa using this) (fun hk' => by have := h (by simpa using hk'); simpa using this)]
    rfl

/-- What putting into a level answers. -/
def LayR (B : Nat) (w : World) (v : Value) (es : List Ev) (r : Ending) (w' : World) : Prop :=
  ∃ v', r = .returned v' ∧ OwnE w' B v' es ∧ Below B w w' ∧ w.grownBy w' v.ownBlock ∧ (∀ g, v'.ownBlock = some g → v.ownBlock = some g ∨ w.heap.size ≤ g)

theorem grown_below {w w' : World} (h : Below w.heap.size w w') (row : Option Nat) : w.grownBy w' row := ⟨h.os, h.tape, h.output, h.size, fun k hk _ => h.block k hk⟩

theorem LayR.from {B : Nat} {w W1 w' : World} {v : Value} {es : List Ev} {r : Ending} (h : LayR B W1 v es r w') (hb : Below w.heap.size w W1) (hB : B ≤ w.heap.size) : LayR B w v es r w' := by
  obtain ⟨v', h1, h2, h3, h4, h5⟩ := h
  exact ⟨v', h1, h2, (hb.mono hB).trans h3, (grown_below hb _).trans h4, fun g hg => (h5 g hg).imp id (fun h => Nat.le_trans hb.size h)⟩
theorem insert_new (B : Nat) (v : Value) (k : Nat) (es : List Ev) (e : Ev) (w : World) (hk : k ≤ es.length) (hm : es.length ≤ 1000) (hB : B ≤ w.heap.size) (hown : OwnE w B v es) :
    Calls Try.prog 83 #[v, .int .i64 k, .slice (some ⟨w.heap.size, 0, none⟩) 1 1] (w.alloc (.cells #[.int .i64 e.thread, .int .i64 e.kind, .int .i64 e.obj, .bool e.fail] 73)) (LayR B w v (insAt es k e)) := by
  have hb := below_alloc1 w (.cells #[.int .i64 e.thread, .int .i64 e.kind, .int .i64 e.obj, .bool e.fail] 73)
  refine (insert_any B v k w.heap.size es e _ _ _ hk hm (Nat.le_trans hB hb.size) (hown.later hb) (heap_alloc_new w _) (fun j u hj => by simpa [evCell] using hj) (fun e => by have := (World.ownsRow.lt hown _ e).2; omega)).mono ?_
  rintro r w' ⟨v', h1, h2, h3, h4, h5⟩
  refine LayR.from ⟨v', h1, h2, h3, h4, fun g hg => ?_⟩ hb hB
  rcases h5 with h5 | h5
  · left; rw [← h5]; exact hg
  · right; rw [h5] at hg; injection hg with hg; omega

set_option maxHeartbeats 4000000 in
set_option maxRecDepth 100000 in
theorem lay_any (B : Nat) (v : Value) (es : List Ev) (e : Ev) (w : World) (hB : B ≤ w.heap.size) (hm : es.length ≤ 1000) (hown : OwnE w B v es) (hne : ∀ x ∈ es, x.thread ≠ e.thread) :
    Calls Try.prog 73 #[v, .agg #[.int .i64 e.thread, .int .i64 e.kind, .int .i64 e.obj, .bool e.fail]] w (LayR B w v (insE e es)) := by
  obtain ⟨a, cap, rfl, hev⟩ := OwnE.form hown (by omega)
  have HO := Lib.hid hown
  have HE := Lib.hid hev
  have HN := Lib.hid hne
  clear hown hev hne
  have HBX := Lib.hid (EvBox.new w e)
  have hb0 := below_alloc1 w (.cells #[.int .i64 e.thread, .int .i64 e.kind, .int .i64 e.obj, .bool e.fail] 73)
  go_enter Try.func73, Try.ntmps73
  go_wp2_with fail
  generalize w.alloc (.cells #[.int .i64 e.thread, .int .i64 e.kind, .int .i64 e.obj, .bool e.fail] 73) = W0 at *
  go_loopw [5] (fun i wr => ∃ k : Nat, k ≤ es.length ∧ i = .int .i64 k ∧ Hid (∀ j (h : j < es.length), j < k → es[j].thread < e.thread) ∧ Hid (Below W0.heap.size W0 wr)) (fun i _ => es.length - (intOf i).toNat)
  case atStart => exact ⟨0, Nat.zero_le _, rfl, (fun j _ h => absurd h (by omega)), Below.refl _ _⟩
  case round =>
    obtain ⟨k, hk, rfl, HA, HB⟩ := hrel
    by_cases hlt : k < es.length
    · obtain ⟨b, o, rfl, t0, t1, t2, t3⟩ := HE.out.one hlt
      have hbx := hb0.trans (HB.out.mono hb0.size)
      have d0 := cell_later hbx t0
      obtain ⟨c0, c1, c2, c3⟩ := (HBX.out.later HB.out).cells
      have HX := Lib.hid hbx
      clear t0 t1 t2 t3 hbx
      have hkl : decide ((k : Int) < (es.length : Int)) = true := by simp; omega
      have hki : (k : Int) < (es.length : Int) := by omega
      have hki0 : (0 : Int) ≤ k := by omega
      by_cases hth : (evI es k).thread < e.thread
      · have hq : decide ((evI es k).thread < e.thread) = true := by simp; omega
        have HA2 : Hid (∀ j (h : j < es.length), j < k + 1 → es[j].thread < e.thread) := fun j h hj => by
          by_cases e' : j = k
          · subst e'
            rw [← evI_get h]
            exact hth
          · exact HA.out j h (by omega)
        go_wp2_with fail
        go_quiet (fail)
        go_wp2
        go_roundw
        case rel => exact ⟨k + 1, by omega, by go_num, HA2, HB.out.drewN⟩
        case measure => simp [intOf]; omega
      · have hq : decide ((evI es k).thread < e.thread) = false := by simp; omega
        have HI : Hid (insE e es = insAt es k e) := insE_at es k hk HA.out (fun h => by
          have h1 := HN.out es[k] (List.getElem_mem h)
          rw [evI_get h] at hth
          omega)
        have HC : Hid (∀ W, Below w.heap.size w W → Calls Try.prog 83 #[.slice (some ⟨b, o, none⟩) es.length cap, .int .i64 k, .slice (some ⟨W.heap.size, 0, none⟩) 1 1] (W.alloc (.cells #[.int .i64 e.thread, .int .i64 e.kind, .int .i64 e.obj, .bool e.fail] 73)) (LayR B w (.slice (some ⟨b, o, none⟩) es.length cap) (insE e es))) := fun W hW => by
          rw [HI.out]
          exact (insert_new B _ k es e W hk hm (Nat.le_trans hB hW.size) (HO.out.later hW)).mono fun r w' h => h.from hW hB
        go_wp2_with fail
        go_quiet (fail)
        go_wp2_with fail
        refine (HC.out _ HX.out.drewN).mono ?_
        rintro r w' ⟨v', rfl, h2, h3, h4, h5⟩
        go_wp2
        go_ret
        exact ⟨v', rfl, h2, h3, h4, h5⟩
    · obtain rfl : k = es.length := by omega
      have hbx := hb0.trans (HB.out.mono hb0.size)
      obtain ⟨c0, c1, c2, c3⟩ := (HBX.out.later HB.out).cells
      have HX := Lib.hid hbx
      have hkl : decide ((es.length : Int) < (es.length : Int)) = false := by simp
      have HI : Hid (insE e es = insAt es es.length e) := insE_at es es.length hk HA.out (fun h => absurd h (by omega))
      have HC : Hid (∀ W, Below w.heap.size w W → Calls Try.prog 83 #[.slice a es.length cap, .int .i64 es.length, .slice (some ⟨W.heap.size, 0, none⟩) 1 1] (W.alloc (.cells #[.int .i64 e.thread, .int .i64 e.kind, .int .i64 e.obj, .bool e.fail] 73)) (LayR B w (.slice a es.length cap) (insE e es))) := fun W hW => by
        rw [HI.out]
        exact (insert_new B _ es.length es e W hk hm (Nat.le_trans hB hW.size) (HO.out.later hW)).mono fun r w' h => h.from hW hB
      clear hbx
      go_wp2_with fail
      go_quiet (fail)
      go_wp2_with fail
      refine (HC.out _ HX.out.drewN).mono ?_
      rintro r w' ⟨v', rfl, h2, h3, h4, h5⟩
      go_wp2
      go_ret
      exact ⟨v', rfl, h2, h3, h4, h5⟩

end Go.Proofs.Ytopklnehhebhmaa

/- Levels in memory: a row of rows of events. -/
namespace Go.Proofs.Ytopklnehhebhmaa
open Go.RowKit

/-- A slice. -/
structure Sl where
  a : Option Addr
  n : Nat
  c : Nat
instance : Inhabited Sl := ⟨⟨none, 0, 0⟩⟩
def slV (s : Sl) : Value := .slice s.a s.n s.c
def slCell (s : Sl) : List Value := [.slice s.a s.n s.c]
theorem slCell_len (s : Sl) : (slCell s).length = 1 := rfl
theorem slCell_one (s : Sl) : ∀ v ∈ slCell s, v.oneCell' = true := by
  intro v hv
  simp [slCell] at hv
  subst hv
  rfl

/-- Levels to be read. -/
def LvAt (w : World) (a : Option Addr) (m : List (List Ev)) : Prop :=
  ∃ ss : List Sl, ss.length = m.length ∧ RowAt w a 1 slCell ss ∧ ∀ i (h : i < ss.length), ss[i].n = (m.getD i []).length ∧ EvsAt w ss[i].a (m.getD i []) ∧ (ss[i].a = none → ss[i].c = 0) ∧ ss[i].n ≤ ss[i].c
theorem LvAt.later {w w' : World} {a : Option Addr} {m : List (List Ev)} (h : LvAt w a m) (hb : Below w.heap.size w w') : LvAt w' a m := by
  obtain ⟨ss, h1, h2, h3⟩ := h
  exact ⟨ss, h1, h2.later hb, fun i hi => ⟨(h3 i hi).1, (h3 i hi).2.1.later hb, (h3 i hi).2.2⟩⟩

/-- Levels of one's own. -/
structure OwnLv (w : World) (B : Nat) (v : Value) (ss : List Sl) (m : List (List Ev)) : Prop where
  len : ss.length = m.length
  outer : OwnRow w B 63 1 slCell v ss
  inner : ∀ i (h : i < ss.length), OwnE w B (slV ss[i]) (m.getD i [])
  apart : ∀ i j (hi : i < ss.length) (hj : j < ss.length), i ≠ j → (slV ss[i]).ownBlock = none ∨ (slV ss[i]).ownBlock ≠ (slV ss[j]).ownBlock
theorem OwnLv.later {w w' : World} {B : Nat} {v : Value} {ss : List Sl} {m : List (List Ev)} (h : OwnLv w B v ss m) (hb : Below w.heap.size w w') : OwnLv w' B v ss m :=
  ⟨h.len, h.outer.later hb, fun i hi => (h.inner i hi).later hb, h.apart⟩
theorem ownLv_nil (w : World) (B : Nat) : OwnLv w B (.slice none 0 0) [] [] := ⟨rfl, ownRow_nil _ _ _ _ _, fun i hi => absurd hi (by simp), fun i _ hi => absurd hi (by simp)⟩
theorem OwnE.sl {w : World} {B : Nat} {s : Sl} {es : List Ev} (h : OwnE w B (slV s) es) (hm : es.length ≤ 1000000) : s.n = es.length ∧ EvsAt w s.a es ∧ (s.a = none → s.c = 0) ∧ s.n ≤ s.c := by
  have h0 := h
  obtain ⟨a, cap, e, he⟩ := OwnE.form h hm
  unfold slV at e
  injection e with e1 e2 e3
  refine ⟨e2, by rw [e1]; exact he, fun hn => ?_, ?_⟩
  · obtain ⟨_, ⟨h2, _⟩ | ⟨g, cap', cur, h2, _⟩⟩ := h0
    · unfold slV at h2
      injection h2
    · unfold slV at h2
      injection h2 with h2
      rw [hn] at h2
      cases h2
  · obtain ⟨_, ⟨h2, _⟩ | ⟨g, cap', cur, h2, _, _, h5, _⟩⟩ := h0
    · unfold slV at h2
      injection h2 with _ h3 h4
      omega
    · unfold slV at h2
      injection h2 with _ h3 h4
      omega
theorem OwnLv.form {w : World} {B : Nat} {v : Value} {ss : List Sl} {m : List (List Ev)} (h : OwnLv w B v ss m) (hm : m.length ≤ 1000) (hi : ∀ i, i < m.length → (m.getD i []).length ≤ 1000) :
    ∃ a cap, v = .slice a m.length cap ∧ LvAt w a m ∧ (a = none → cap = 0) := by
  obtain ⟨a, cap, h1, h2, h3⟩ := OwnRow.form h.outer slCell_len (by rw [h.len]; omega)
  rw [h.len] at h1
  refine ⟨a, cap, h1, ⟨ss, h.len, h2, fun i hi' => ?_⟩, h3⟩
  exact OwnE.sl (h.inner i hi') (by have := hi i (by rw [← h.len]; exact hi'); omega)

end Go.Proofs.Ytopklnehhebhmaa

/- append(.., row...) of events onto a row of the call's own. -/
namespace Go.Proofs.Ytopklnehhebhmaa
open Go.RowKit

theorem EvsAt.cellAt {w : World} {b o : Nat} {es : List Ev} (h : EvsAt w (some ⟨b, o, none⟩) es) (j : Nat) (u : Value) (hj : (evCells es)[j]? = some u) : w.cell? (Addr.add ⟨b, o, none⟩ j) = some u := by
  have hjl : j < es.length * 4 := by
    have := (List.getElem?_eq_some_iff.1 hj).1
    rw [evCells_length] at this
    exact this
  obtain ⟨b', o', e, hc⟩ := h.2 (by rintro rfl; simp at hjl)
  injection e with e
  injection e with e1 e2
  subst e1 e2
  have hi : j / 4 < es.length := by omega
  have hg := evCells_get es (j / 4) (j % 4) hi (by omega)
  rw [show j / 4 * 4 + j % 4 = j by omega, hj] at hg
  have ha : Addr.add ⟨b, o, none⟩ j = ⟨b, o + j, none⟩ := by unfold Addr.add; split <;> simp_all
  rw [ha]
  obtain ⟨c0, c1, c2, c3⟩ := hc (j / 4) hi
  rcases (by omega : j % 4 = 0 ∨ j % 4 = 1 ∨ j % 4 = 2 ∨ j % 4 = 3) with hr | hr | hr | hr <;> rw [hr] at hg <;> simp [evCell] at hg <;> subst hg
  · rw [← c0]; congr 2; omega
  · rw [← c1]; congr 2; omega
  · rw [← c2]; congr 2; omega
  · rw [← c3]; congr 2; omega

theorem wp_copyE {w : World} {o : Oper} {a : Act} {K : Act → World → Prop} {Q : Exit → Act → World → Prop} (s x : Operand)
    (ho : o.op = .call { callee := .builtin .append, args := #[s, x], argTypes := #[63, 63] }) (B : Nat) (v : Value) (es : List Ev) (hs : a.eval s = v) (hown : OwnE w B v es)
    (ra : Option Addr) (rcap : Nat) (row : List Ev) (hx : a.eval x = .slice ra row.length rcap) (hrow : EvsAt w ra row) (hra : ra = none → rcap = 0 ∧ row = [])
    (hlen : es.length + row.length ≤ 1000000) (hB : B ≤ w.heap.size)
    (h : ∀ v' w', OwnE w' B v' (es ++ row) → Below B w w' → K (a.put o.dst v') w') : Oper.wp Try.prog o a w K Q := by
  have hinfo : (Try.prog.info? 73).map (fun i => (i.zero, i.size, i.bytes)) = some (some (.agg #[.int .i64 0, .int .i64 0, .int .i64 0, .bool false]), 4, 32) := by kernel_rfl
  obtain ⟨i, hi, hzz⟩ := Option.map_eq_some_iff.1 hinfo
  simp only [Prod.mk.injEq] at hzz
  obtain ⟨hz, hsz, hby⟩ := hzz
  cases ra with
  | none =>
    obtain ⟨rfl, rfl⟩ := hra rfl
    have hrun := run_append_owned_none (P := Try.prog) (w := w) B 63 o.type 73 i 4 Try.underlying63 hi v es.length (evCells es) hown
    have hK := h v w (by rw [List.append_nil]; exact hown) (Below.refl _ _)
    unfold Oper.wp
    simp [execOp, ho, resolve, invoke, builtin, hs, hx, hrun, Result.andThen]
    exact hK
  | some ad =>
    by_cases hne : row = []
    · subst hne
      refine wp_append_own w s x 63 ho B 73 i (.agg #[.int .i64 0, .int .i64 0, .int .i64 0, .bool false]) 4 32 Try.underlying63 hi hz hsz hby rfl (by decide) v es.length (evCells es) hs hown ad 0 rcap [] hx (by simp) (by simp) (by simp) (by unfold maxLen; omega) (by omega) hB ?_
      intro v' w' h1 h2 _
      refine h v' w' ?_ ((Below.refl B w).grown h2 hB (fun k hk => (World.ownsRow.lt hown k hk).1))
      unfold OwnE
      simpa using h1
    · obtain ⟨b, o', e, hc⟩ := hrow.2 hne
      injection e with e
      subst e
      refine wp_append_own w s x 63 ho B 73 i (.agg #[.int .i64 0, .int .i64 0, .int .i64 0, .bool false]) 4 32 Try.underlying63 hi hz hsz hby rfl (by decide) v es.length (evCells es) hs hown ⟨b, o', none⟩ row.length rcap (evCells row) hx (by rw [evCells_length]) (fun j u hj => hrow.cellAt j u hj)
        (evCells_one _) (by unfold maxLen; omega) (by omega) hB ?_
      intro v' w' h1 h2 _
      refine h v' w' ?_ ((Below.refl B w).grown h2 hB (fun k hk => (World.ownsRow.lt hown k hk).1))
      unfold OwnE
      rw [List.length_append, evCells_append]
      exact h1

/-- The same in a region whose order is drawn. -/
theorem step_copyE {w : World} {ops : Array Oper} {o : Oper} {a : Act} {K : Act → World → Prop} {Q : Exit → Act → World → Prop} {E : Prop} (hgd : o.guard = none) (s x : Operand)
    (ho : o.op = .call { callee := .builtin .append, args := #[s, x], argTypes := #[63, 63] }) (B : Nat) (v : Value) (es : List Ev) (hs : a.eval s = v) (hown : OwnE w B v es)
    (ra : Option Addr) (rcap : Nat) (row : List Ev) (hx : a.eval x = .slice ra row.length rcap) (hrow : EvsAt w ra row) (hra : ra = none → rcap = 0 ∧ row = [])
    (hlen : es.length + row.length ≤ 1000000) (hB : B ≤ w.heap.size)
    (h : ∀ v' w', OwnE w' B v' (es ++ row) → Below B w w' → K (a.put o.dst v') w') : if Region.wanted o (yielded ops a.tmps) = true then Oper.wp Try.prog o a w K Q else E := by
  have hw : Region.wanted o (yielded ops a.tmps) = true := by simp [Region.wanted, hgd]
  rw [if_pos hw]
  exact wp_copyE s x ho B v es hs hown ra rcap row hx hrow hra hlen hB h

theorem wpList_copyE {w : World} {ops : Array Oper} {rest : List Oper} {o : Oper} {a : Act} {Q : Exit → Act → World → Prop} (hgd : o.guard = none) (s x : Operand)
    (ho : o.op = .call { callee := .builtin .append, args := #[s, x], argTypes := #[63, 63] }) (B : Nat) (v : Value) (es : List Ev) (hs : a.eval s = v) (hown : OwnE w B v es)
    (ra : Option Addr) (rcap : Nat) (row : List Ev) (hx : a.eval x = .slice ra row.length rcap) (hrow : EvsAt w ra row) (hra : ra = none → rcap = 0 ∧ row = [])
    (hlen : es.length + row.length ≤ 1000000) (hB : B ≤ w.heap.size)
    (h : ∀ v' w', OwnE w' B v' (es ++ row) → Below B w w' → wpList Try.prog ops Q rest (a.put o.dst v') w') : wpList Try.prog ops Q (o :: rest) a w :=
  wpList_plain hgd fun _ hK => wp_copyE s x ho B v es hs hown ra rcap row hx hrow hra hlen hB fun v' w' h1 h2 => hK _ _ (h v' w' h1 h2)

theorem ownE_empty (w W : World) (h : W.heap = (w.alloc (.cells #[] 73)).heap) : OwnE W w.heap.size (.slice (some ⟨w.heap.size, 0, none⟩) 0 0) [] := by
  have h0 : (w.alloc (.cells #[] 73)).ownsRow w.heap.size 73 4 (.slice (some ⟨w.heap.size, 0, none⟩) 0 0) 0 [] := World.ownsRow_made w #[] 0 (Nat.le_refl _) (by simp [maxLen]) rfl
  obtain ⟨h1, h2 | ⟨g, cap, cur, h2, h3, h4, h5⟩⟩ := h0
  · exact ⟨h1, .inl h2⟩
  · exact ⟨h1, .inr ⟨g, cap, cur, h2, h3, by rw [h]; exact h4, h5⟩⟩

end Go.Proofs.Ytopklnehhebhmaa

/- The contracts of slices.Grow of nothing, of slices.Concat, and of foata's Row. -/
namespace Go.Proofs.Ytopklnehhebhmaa
open Go.RowKit

theorem LvAt.one {w : World} {a : Option Addr} {m : List (List Ev)} (h : LvAt w a m) {k : Nat} (hk : k < m.length) :
    ∃ b o sa sc, a = some ⟨b, o, none⟩ ∧ w.cell? ⟨b, o + k, none⟩ = some (.slice sa (m.getD k []).length sc) ∧ EvsAt w sa (m.getD k []) ∧ (sa = none → sc = 0) := by
  obtain ⟨ss, h1, h2, h3⟩ := h
  have hks : k < ss.length := by omega
  obtain ⟨b, o, rfl, hc⟩ := h2.2 (by intro e; simp [e] at hks)
  have h4 := hc k hks 0 _ rfl
  rw [Nat.mul_one, Nat.add_zero] at h4
  obtain ⟨h5, h6, h7, _⟩ := h3 k hks
  rw [h5] at h4
  exact ⟨b, o, _, _, rfl, h4, h6, h7⟩
/-- The same, with its room. -/
theorem LvAt.room {w : World} {a : Option Addr} {m : List (List Ev)} (h : LvAt w a m) {k : Nat} (hk : k < m.length) :
    ∃ b o sa sc, a = some ⟨b, o, none⟩ ∧ w.cell? ⟨b, o + k, none⟩ = some (.slice sa (m.getD k []).length sc) ∧ EvsAt w sa (m.getD k []) ∧ (m.getD k []).length ≤ sc := by
  obtain ⟨ss, h1, h2, h3⟩ := h
  have hks : k < ss.length := by omega
  obtain ⟨b, o, rfl, hc⟩ := h2.2 (by intro e; simp [e] at hks)
  have h4 := hc k hks 0 _ rfl
  rw [Nat.mul_one, Nat.add_zero] at h4
  obtain ⟨h5, h6, _, h8⟩ := h3 k hks
  rw [h5] at h4 h8
  exact ⟨b, o, _, _, rfl, h4, h6, h8⟩
theorem evsAt_none {w : World} {l : List Ev} (h : EvsAt w none l) : l = [] := by
  apply Classical.byContradiction
  intro hn
  obtain ⟨b, o, e, _⟩ := h.2 hn
  cases e
theorem flat_take (m : List (List Ev)) {k : Nat} (hk : k < m.length) : (m.take (k + 1)).flatten = (m.take k).flatten ++ m.getD k [] := by
  rw [List.take_add_one, List.getElem?_eq_getElem hk, List.flatten_append, getD_lt _ hk]
  simp
theorem flat_le (m : List (List Ev)) (k : Nat) : (m.take k).flatten.length ≤ m.flatten.length := by
  conv => rhs; rw [← List.take_append_drop k m]
  rw [List.flatten_append, List.length_append]
  omega

set_option maxRecDepth 100000 in
set_option maxHeartbeats 2000000 in
theorem grow_any (n : Nat) (w : World) (hn : n ≤ 1000000) :
    Calls Try.prog 84 #[.slice none 0 0, .int .i64 n] w fun r w' => ∃ v, r = .returned v ∧ OwnE w' w.heap.size v [] ∧ Below w.heap.size w w' := by
  have hw : IntKind.i64.wrap (n : Int) = n := IntWalk.i64_in _ (by omega)
  by_cases h0 : n = 0
  · subst h0
    clear hw
    go_enter Try.func84, Try.ntmps84
    go_wp2
    go_ret
    exact ⟨_, rfl, ownE_nil _ _, Below.refl _ _⟩
  · obtain ⟨i0, hi0, hzz⟩ := Option.map_eq_some_iff.1 infoEv
    simp only [Prod.mk.injEq] at hzz
    obtain ⟨hz0, hzs, hzb⟩ := hzz
    have hrz := fun ty => Lib.run_append_nil_zeros w 63 3 ty 73 i0 _ .i64 .i64 Try.underlying63 Try.underlying3 hi0 hz0 n (by omega) (by omega) (by omega) (by rw [hzb]; omega)
    have hpos : (0 : Int) < n := by omega
    have hneg : ¬ ((n : Int) < 0) := by omega
    have hGm := grownCap_le_maxLen w n 0 73 (by unfold maxLen; omega)
    have hGn := grownCap_ge w n 0 73
    obtain ⟨G, hG⟩ : ∃ G, G = grownCap w n 0 73 := ⟨_, rfl⟩
    rw [← hG] at hrz hGm hGn
    obtain ⟨C, hC⟩ : ∃ C : Array Value, C = Builtin.zeroCells (Value.agg #[.int .i64 0, .int .i64 0, .int .i64 0, .bool false]).cells n ++ Builtin.zeroCells (Value.agg #[.int .i64 0, .int .i64 0, .int .i64 0, .bool false]).cells (G - n) := ⟨_, rfl⟩
    have hCs : C.size = G * 4 := by
      rw [hC]
      simp [Builtin.zeroCells, Value.cells]
      omega
    rw [← hC] at hrz
    have HOW : Hid (OwnE (w.drew.alloc (.cells C 73)) w.heap.size (.slice (some ⟨w.heap.size, 0, none⟩) 0 G) []) :=
      ⟨rfl, .inr ⟨w.heap.size, G, C, rfl, Nat.le_refl _, heap_alloc_new w.drew _, Nat.zero_le _, hGm, hCs, by simp; rfl⟩⟩
    have hb : Below w.heap.size w (w.drew.alloc (.cells C 73)) := ((Below.refl _ _).drew).alloc (Nat.le_refl _) _
    have hG2 : G ≤ 9223372036854775807 := by unfold maxLen at hGm; omega
    have hG0 : ¬ G = 0 := by omega
    clear hC hG hCs hGm
    go_enter Try.func84, Try.ntmps84
    go_wp2_with (at_builtin; refine Lib.wpList_append_run _ rfl _ _ _ _ rfl _ _ rfl rfl _ _ (hrz _) ?_)
    go_ret
    exact ⟨_, rfl, HOW.out, hb⟩

end Go.Proofs.Ytopklnehhebhmaa

/- The contracts of slices.Concat, and of foata's Row. -/
namespace Go.Proofs.Ytopklnehhebhmaa
open Go.RowKit

theorem ownsRow_base {w : World} {B B' : Nat} {t : TypeId} {n m : Nat} {v : Value} {xs : List Value} (h : w.ownsRow B t n v m xs) (hB : B' ≤ B) : w.ownsRow B' t n v m xs := by
  obtain ⟨h1, h2 | ⟨g, cap, cur, h2, h3, h4⟩⟩ := h
  · exact ⟨h1, .inl h2⟩
  · exact ⟨h1, .inr ⟨g, cap, cur, h2, Nat.le_trans hB h3, h4⟩⟩

def RowR (w : World) (l : List Ev) (r : Ending) (w' : World) : Prop := ∃ v, r = .returned v ∧ OwnE w' w.heap.size v l ∧ Below w.heap.size w w'

set_option maxRecDepth 100000 in
set_option maxHeartbeats 4000000 in
theorem concat_any (a : Option Addr) (cap : Nat) (m : List (List Ev)) (w : World) (hl : LvAt w a m) (hm : m.length ≤ 1000000) (hf : m.flatten.length ≤ 1000000) :
    Calls Try.prog 74 #[.slice a m.length cap] w (RowR w m.flatten) := by
  have HL := Lib.hid hl
  clear hl
  go_enter Try.func74, Try.ntmps74
  go_wp2_with fail
  go_loopw [3, 11] (fun s i wr => ∃ k : Nat, k ≤ m.length ∧ i = .int .i64 k ∧ s = .int .i64 ((m.take k).flatten.length : Nat) ∧ Hid (Below w.heap.size w wr)) (fun _ i _ => m.length - (intOf i).toNat)
  case atStart => exact ⟨0, Nat.zero_le _, rfl, rfl, Below.refl _ _⟩
  case round =>
    obtain ⟨k, hk, rfl, rfl, HB0⟩ := hrel
    by_cases hlt : k < m.length
    · obtain ⟨b, o, sa, sc, rfl, t0, _, _⟩ := HL.out.one hlt
      have c0 := cell_later HB0.out t0
      clear t0
      have HT := Lib.hid (flat_take m hlt)
      have hle := flat_le m (k + 1)
      rw [HT.out, List.length_append] at hle
      have HT2 : Hid ((m.take (k + 1)).flatten.length = (m.take k).flatten.length + (m.getD k []).length) := by show _ = _; rw [HT.out, List.length_append]
      clear HT
      generalize (m.take k).flatten.length = N at *
      generalize (m.getD k []).length = L at *
      have hw : IntKind.i64.wrap ((N : Int) + L) = (N : Int) + L := IntWalk.i64_in _ (by omega)
      have hneg2 : decide ((N : Int) + L < 0) = false := by simp; omega
      clear hle
      go_wp2_with fail
      go_roundw
      case rel => exact ⟨k + 1, by omega, by go_num, by rw [HT2.out, Int.natCast_add], HB0.out⟩
      case measure => simp [intOf]; omega
    · obtain rfl : k = m.length := by omega
      rw [List.take_length]
      obtain ⟨F, hF⟩ : ∃ F, F = m.flatten.length := ⟨_, rfl⟩
      rw [← hF] at hf ⊢
      have HF := Lib.hid hF
      clear hF
      go_wp2_with fail
      refine (grow_any F _ hf).mono ?_
      rintro r w1 ⟨v1, rfl, hv1, hb1⟩
      have HV1 : Hid (RowR w [] (.returned v1) w1) := ⟨v1, rfl, ownsRow_base hv1 HB0.out.size, HB0.out.trans (hb1.mono HB0.out.size)⟩
      clear hv1 hb1
      go_wp2_with fail
      go_loopw [6, 27] (fun s i wr' => ∃ k : Nat, k ≤ m.length ∧ i = .int .i64 k ∧ Hid (RowR w (m.take k).flatten (.returned s) wr')) (fun _ i _ => m.length - (intOf i).toNat)
      case atStart => exact ⟨0, Nat.zero_le _, rfl, HV1.out⟩
      case round =>
        clear HV1
        obtain ⟨k, hk, rfl, HV⟩ := hrel
        obtain ⟨s, hs, hv, hb⟩ := HV.out
        injection hs with hs
        subst hs
        have HO := Lib.hid hv
        by_cases hlt : k < m.length
        · obtain ⟨b, o, sa, sc, rfl, c0, he, hn⟩ := HL.out.one hlt
          have c1 := cell_later hb c0
          have HE := Lib.hid (he.later hb)
          have HT := Lib.hid (flat_take m hlt)
          have hle := flat_le m (k + 1)
          rw [HT.out, List.length_append, ← HF.out] at hle
          have hra : sa = none → sc = 0 ∧ m.getD k [] = [] := fun e => ⟨hn e, by subst e; exact evsAt_none he⟩
          have HRA := Lib.hid hra
          have hBB := hb.size
          have hlen2 : (m.take k).flatten.length + (m.getD k []).length ≤ 1000000 := by omega
          clear hle hra he hn c0 hv
          generalize m.getD k [] = row at *
          go_wp2_with (at_builtin; refine wpList_copyE rfl _ _ rfl w.heap.size _ _ rfl HO.out sa sc row rfl HE.out HRA.out hlen2 hBB ?_; intro v' w' h1 h2; have HO2 := Lib.hid h1; clear h1)
          go_roundw
          case rel => exact ⟨k + 1, by omega, by go_num, by rw [HT.out]; exact ⟨v', rfl, HO2.out, hb.trans h2⟩⟩
          case measure => simp [intOf]; omega
        · obtain rfl : k = m.length := by omega
          rw [List.take_length] at HO
          go_wp2
          go_ret
          exact ⟨_, rfl, HO.out, hb⟩

set_option maxRecDepth 100000 in
theorem row_any (a : Option Addr) (cap : Nat) (m : List (List Ev)) (w : World) (hl : LvAt w a m) (hm : m.length ≤ 1000000) (hf : m.flatten.length ≤ 1000000) :
    Calls Try.prog 55 #[.slice a m.length cap] w (RowR w m.flatten) := by
  have H := Lib.hid (concat_any a cap m w hl hm hf)
  clear hl
  go_enter Try.func55, Try.ntmps55
  go_wp2_with fail
  refine H.out.mono ?_
  rintro r w' ⟨v, rfl, h1, h2⟩
  have HO := Lib.hid h1
  clear h1
  go_wp2
  go_ret
  exact ⟨v, rfl, HO.out, h2⟩

end Go.Proofs.Ytopklnehhebhmaa

/- The contracts of event's Read and of the document's, once more: the row is the call's own. -/
namespace Go.Proofs.Ytopklnehhebhmaa
open Go.RowKit

theorem ERow.own {w : World} {B n : Nat} {es : List Ev} (h : ERow w B n es) (hn : es.length = n) (hm : n ≤ 1000000) : OwnE w B (.slice (some ⟨B, 0, none⟩) n n) es := by
  obtain ⟨h1, zs, h2, h3⟩ := h
  have hz : zs = [] := List.eq_nil_of_length_eq_zero (by omega)
  subst hz
  rw [List.append_nil] at h3
  refine ⟨by rw [evCells_length], .inr ⟨B, n, (evCells es).toArray, by rw [hn], Nat.le_refl _, h3, by omega, by unfold maxLen; omega, by simp [evCells_length, hn], ?_⟩⟩
  rw [hn, List.take_of_length_le]
  simp [evCells_length, hn]
def ReadPostO (B : Nat) (w : World) (s : List UInt8) (bad : Value) (good : Value) (r : Ending) (w' : World) : Prop :=
  ∃ a cap, r = .returned (.tuple #[.slice a (readE s).length cap, if readOk s then good else bad]) ∧ OwnE w' B (.slice a (readE s).length cap) (readE s) ∧ Below B w w'
theorem readPostO_no {B : Nat} {w w' : World} {s : List UInt8} {bad good : Value} (h : readOk s = false ∧ readE s = []) (hb : Below B w w') : ReadPostO B w s bad good (.returned (.tuple #[.slice none 0 0, bad])) w' :=
  ⟨none, 0, by rw [h.1, h.2]; rfl, by rw [h.2]; exact ownE_nil _ _, hb⟩
theorem readPostO_yes {B : Nat} {w w' : World} {s : List UInt8} {bad good : Value} (h : (evsOf s).all rightEv = true) (a : Option Addr) (n cap : Nat) (hn : n = s.length) (he : OwnE w' B (.slice a n cap) (evsOf s)) (hb : Below B w w') : ReadPostO B w s bad good (.returned (.tuple #[.slice a n cap, good])) w' := by
  have h1 : readOk s = true := h
  have h2 : readE s = evsOf s := by unfold readE; rw [h1]; rfl
  have h3 : (evsOf s).length = n := by rw [hn]; simp [evsOf]
  refine ⟨a, cap, ?_, by rw [h2, h3]; exact he, hb⟩
  rw [h1, h2, hn]
  simp [evsOf]

set_option maxRecDepth 100000 in
set_option maxHeartbeats 1000000 in
theorem evReadO_any (s : List UInt8) (w : World) (hm : s.length ≤ 1000000) :
    Calls Try.prog 52 #[.string ⟨s.toArray⟩] w (ReadPostO w.heap.size w s (.int .i64 3) (.int .i64 0)) := by
  have hmk := run_make_k (P := Try.prog) 63 73 (.agg #[.int .i64 0, .int .i64 0, .int .i64 0, .bool false]) 4 32 Try.underlying63 (by kernel_rfl) s.length (by omega) (by omega)
  have hsz : (⟨s.toArray⟩ : ByteArray).size = s.length := rfl
  go_enter Try.func52, Try.ntmps52
  go_wp2
  go_loopw [11] (fun i wr => ∃ (k : Nat) (es : List Ev), k ≤ s.length ∧ i = .int .i64 k ∧ es.length = k ∧ Hid (es = evsOf (s.take k)) ∧ Hid (es.all rightEv = true) ∧ Hid (ERow wr w.heap.size s.length es) ∧ Below w.heap.size w wr) (fun i _ => s.length - (intOf i).toNat)
  case atStart =>
    refine ⟨0, [], Nat.zero_le _, rfl, rfl, rfl, rfl, ?_, below_alloc1 _ _⟩
    exact ERow.made w s.length
  case round =>
    clear hmk
    obtain ⟨k, es, hk, rfl, hel, HE, HA, HM, hb⟩ := hrel
    by_cases hlt : k < s.length
    · have hz := HM.out.lt
      have HT0 := evsOf_take s k hlt
      have HX0 := List.getElem_mem hlt
      obtain ⟨c, hc⟩ : ∃ c, s[k] = c := ⟨_, rfl⟩
      rw [hc] at HT0 HX0
      have HT := Lib.hid HT0
      have HX := Lib.hid HX0
      have hix : ∀ h : k < (⟨s.toArray⟩ : ByteArray).size, (⟨s.toArray⟩ : ByteArray)[k] = c := fun _ => hc
      clear HT0 HX0 hc
      have bc := UInt8.toNat_lt c
      go_wp2_with fail
      refine (fromByte_any c.toNat (by omega) (by omega) _).mono ?_
      rintro r w1 ⟨rfl, hb1⟩
      generalize hx : evOf c.toNat = x at *
      have HV := Lib.hid hx
      have HM1 := Lib.hid (HM.out.later hb1)
      have hw1 : Below w.heap.size w w1 := hb.trans (hb1.mono hb.size)
      obtain ⟨y0, g0⟩ := HM1.out.cell (k * 4) (by omega)
      obtain ⟨y1, g1⟩ := HM1.out.cell (k * 4 + 1) (by omega)
      obtain ⟨y2, g2⟩ := HM1.out.cell (k * 4 + 2) (by omega)
      obtain ⟨y3, g3⟩ := HM1.out.cell (k * 4 + 3) (by omega)
      have f0 := HM1.out.frozen (k * 4)
      have f1 := HM1.out.frozen (k * 4 + 1)
      have f2 := HM1.out.frozen (k * 4 + 2)
      have f3 := HM1.out.frozen (k * 4 + 3)
      have HP := Lib.hid (HM1.out.push hel.symm hlt x)
      have hb2 := (((hw1.setCell (p := ⟨w.heap.size, k * 4, none⟩) (Nat.le_refl _) (.int .i64 x.thread)).setCell (p := ⟨w.heap.size, k * 4 + 1, none⟩) (Nat.le_refl _) (.int .i64 x.kind)).setCell (p := ⟨w.heap.size, k * 4 + 2, none⟩) (Nat.le_refl _) (.int .i64 x.obj)).setCell (p := ⟨w.heap.size, k * 4 + 3, none⟩) (Nat.le_refl _) (.bool x.fail)
      clear hx HM HM1 hb hb1 hw1 bc hix
      go_wp2_with fail
      generalize ((((w1.setCell ⟨w.heap.size, k * 4, none⟩ (.int .i64 x.thread)).setCell ⟨w.heap.size, k * 4 + 1, none⟩ (.int .i64 x.kind)).setCell ⟨w.heap.size, k * 4 + 2, none⟩ (.int .i64 x.obj)).setCell ⟨w.heap.size, k * 4 + 3, none⟩ (.bool x.fail)) = W2 at *
      refine (evRight_any x _).mono ?_
      rintro r w3 ⟨rfl, hb3⟩
      have HP3 := Lib.hid (HP.out.later hb3)
      have hw3 : Below w.heap.size w w3 := hb2.trans (hb3.mono hb2.size)
      clear HP hb2 hb3 g0 g1 g2 g3 f0 f1 f2 f3
      cases hr : rightEv x
      · have HR := Lib.hid (readE_no HX.out (by rw [HV.out]; exact hr))
        clear hr
        go_wp2
        go_ret2
        exact readPostO_no HR.out hw3
      · have HR := Lib.hid hr
        clear hr
        go_wp2
        go_roundw
        case rel => exact ⟨k + 1, es ++ [x], by omega, by go_num, by simp; omega, (by show _ = _; rw [HT.out, HE.out]), (by show _ = _; rw [List.all_append, HA.out]; simp [HR.out]), HP3, hw3⟩
        case measure => simp [intOf]; omega
    · obtain rfl : k = s.length := by omega
      have HR : Hid (es = evsOf s) := by
        have h := HE.out
        rw [List.take_length] at h
        exact h
      go_wp2
      go_ret2
      exact readPostO_yes (by rw [← HR.out]; exact HA.out) _ _ _ rfl (by rw [← HR.out]; exact HM.out.own hel (by omega)) hb

set_option maxRecDepth 100000 in
set_option maxHeartbeats 1000000 in
theorem refEvReadO_any (s : List UInt8) (w : World) (hm : s.length ≤ 1000000) :
    Calls Try.prog 29 #[.string ⟨s.toArray⟩] w (ReadPostO w.heap.size w s (.bool false) (.bool true)) := by
  have hsz : (⟨s.toArray⟩ : ByteArray).size = s.length := rfl
  go_enter Try.func29, Try.ntmps29
  go_wp2
  go_loopw [4, 5] (fun v i wr => ∃ (k : Nat) (es : List Ev), k ≤ s.length ∧ i = .int .i64 k ∧ es.length = k ∧ Hid (es = evsOf (s.take k)) ∧ Hid (es.all rightEv = true) ∧ Hid (OwnE wr w.heap.size v es) ∧ Below w.heap.size w wr) (fun _ i _ => s.length - (intOf i).toNat)
  case atStart => exact ⟨0, [], Nat.zero_le _, rfl, rfl, rfl, rfl, ownE_nil _ _, Below.refl _ _⟩
  case round =>
    obtain ⟨k, es, hk, rfl, hel, HE, HA, HM, hb⟩ := hrel
    by_cases hlt : k < s.length
    · have HT0 := evsOf_take s k hlt
      have HX0 := List.getElem_mem hlt
      obtain ⟨c, hc⟩ : ∃ c, s[k] = c := ⟨_, rfl⟩
      rw [hc] at HT0 HX0
      have HT := Lib.hid HT0
      have HX := Lib.hid HX0
      have hix : ∀ h : k < (⟨s.toArray⟩ : ByteArray).size, (⟨s.toArray⟩ : ByteArray)[k] = c := fun _ => hc
      clear HT0 HX0 hc
      have bc := UInt8.toNat_lt c
      have vc : IntKind.i64.wrap (c.toNat : Int) = c.toNat := IntWalk.i64_in _ (by omega)
      go_wp2_with fail
      obtain ⟨x, h0, h1, h2, h3, hx⟩ : ∃ x : Ev, (c.toNat : Int) % 4 = x.thread ∧ (c.toNat : Int) / 4 % 8 = x.kind ∧ (c.toNat : Int) / 32 % 4 = x.obj ∧ decide ((128 : Int) ≤ c.toNat) = x.fail ∧ evOf c.toNat = x := ⟨evOf c.toNat, rfl, rfl, rfl, rfl, rfl⟩
      simp only [h0, h1, h2, h3]
      have hx2 := HT.out
      rw [hx] at hx2
      have HT2 := Lib.hid hx2
      have HV := Lib.hid hx
      clear hx hx2 HT h0 h1 h2 h3 vc bc hix
      have HB1 := Lib.hid (EvBox.new wr x)
      have HM1 := Lib.hid (HM.out.alloc (.cells #[.int .i64 x.thread, .int .i64 x.kind, .int .i64 x.obj, .bool x.fail] 73))
      have hb1 : Below w.heap.size w (wr.alloc (.cells #[.int .i64 x.thread, .int .i64 x.kind, .int .i64 x.obj, .bool x.fail] 73)) := hb.alloc hb.size _
      clear HM hb
      generalize wr.alloc (.cells #[.int .i64 x.thread, .int .i64 x.kind, .int .i64 x.obj, .bool x.fail] 73) = W1 at *
      generalize wr.heap.size = E at *
      refine (refEvRight_any x _).mono ?_
      rintro r w2 ⟨rfl, hb2⟩
      have HB2 := Lib.hid (HB1.out.later hb2)
      have hown2 := HM1.out.later hb2
      have hw2 : Below w.heap.size w w2 := hb1.trans (hb2.mono hb1.size)
      clear HB1 HM1 hb1 hb2
      obtain ⟨x0, x1, x2, x3⟩ := HB2.out.cells
      have lx := HB2.out.lt
      have hz := hw2.size
      cases hr : rightEv x
      · have HR := Lib.hid (readE_no HX.out (by rw [HV.out]; exact hr))
        clear hr HB2
        go_wp2
        go_ret2
        exact readPostO_no HR.out hw2
      · have HR := Lib.hid hr
        clear hr HB2
        go_wp2_with (at_builtin; refine wp_appendE rfl (.tmp 32) (.tmp 34) rfl w.heap.size _ es rfl (hown2.alloc _) ⟨w2.heap.size, 0, none⟩ rfl x (ev_new w2 x _ _ rfl) (by omega) (by simp; omega) ?_; intro v1 w4 hown4 hb4)
        have hb5 := (hw2.alloc hz _).trans hb4
        have HO4 := Lib.hid hown4
        clear hown4
        go_roundw
        case rel => exact ⟨k + 1, es ++ [x], by omega, by go_num, by simp; omega, (by show _ = _; rw [HT2.out, HE.out]), (by show _ = _; rw [List.all_append, HA.out]; simp [HR.out]), HO4, hb5⟩
        case measure => simp [intOf]; omega
    · obtain rfl : k = s.length := by omega
      have HR : Hid (es = evsOf s) := by
        have h := HE.out
        rw [List.take_length] at h
        exact h
      obtain ⟨a', cap', rfl, hn⟩ := HM.out.form (by omega)
      clear hn
      go_wp2
      go_ret2
      exact readPostO_yes (by rw [← HR.out]; exact HA.out) _ _ _ hel (by rw [← HR.out]; exact HM.out) hb

end Go.Proofs.Ytopklnehhebhmaa

/- The contracts of levelOf's closure, of slices.IndexFunc and of slices.ContainsFunc with it. -/
namespace Go.Proofs.Ytopklnehhebhmaa
open Go.RowKit

set_option maxRecDepth 100000 in
set_option maxHeartbeats 1000000 in
theorem ahead_any (x e : Ev) (g : Nat) (w : World) (hb : EvBox w g e) :
    Calls Try.prog 81 #[.agg #[.int .i64 x.thread, .int .i64 x.kind, .int .i64 x.obj, .bool x.fail], .pointer (some ⟨g, 0, none⟩)] w fun r w' => r = .returned (.bool (dep x e)) ∧ Below w.heap.size w w' := by
  have hba := below_alloc1 w (.cells #[.int .i64 x.thread, .int .i64 x.kind, .int .i64 x.obj, .bool x.fail] 73)
  obtain ⟨c0, c1, c2, c3⟩ := (hb.later hba).cells
  obtain ⟨d0, d1, d2, d3⟩ := (EvBox.new w x).cells
  clear hb
  go_enter Try.func81, Try.ntmps81
  go_wp2_with fail
  refine (depends_any x e _).mono ?_
  rintro r w' ⟨rfl, hb'⟩
  have hB := hba.trans (hb'.mono hba.size)
  go_wp2
  go_ret
  exact ⟨rfl, hB⟩

def IdxR (es : List Ev) (e : Ev) (w : World) (r : Ending) (w' : World) : Prop := ∃ z : Int, r = .returned (.int .i64 z) ∧ decide (0 ≤ z) = es.any (fun x => dep x e) ∧ Below w.heap.size w w'

set_option maxRecDepth 100000 in
set_option maxHeartbeats 2000000 in
theorem indexE_any (a : Option Addr) (cap : Nat) (es : List Ev) (e : Ev) (g : Nat) (w : World) (hl : EvsAt w a es) (hb : EvBox w g e) :
    Calls Try.prog 87 #[.slice a es.length cap, .func (.func 81) #[] #[.pointer (some ⟨g, 0, none⟩)]] w (IdxR es e w) := by
  have hm := hl.1
  unfold maxLen at hm
  have HL := Lib.hid hl
  have HB := Lib.hid hb
  clear hl hb
  go_enter Try.func87, Try.ntmps87
  go_wp2
  go_loopw [8] (fun i wr => ∃ k : Nat, k ≤ es.length ∧ i = .int .i64 k ∧ Hid (∀ j (h : j < es.length), j < k → dep es[j] e = false) ∧ Below w.heap.size w wr) (fun i _ => es.length - (intOf i).toNat)
  case atStart => exact ⟨0, Nat.zero_le _, rfl, (fun j _ h => absurd h (by omega)), Below.refl _ _⟩
  case round =>
    obtain ⟨k, hk, rfl, HA, hbw⟩ := hrel
    by_cases hlt : k < es.length
    · obtain ⟨b, o, rfl, hc⟩ := HL.out.2 (by intro e; simp [e] at hlt)
      obtain ⟨c0, c1, c2, c3⟩ := hc k hlt
      have d0 := cell_later hbw c0
      have d1 := cell_later hbw c1
      have d2 := cell_later hbw c2
      have d3 := cell_later hbw c3
      have HX := Lib.hid (HB.out.later hbw)
      have h1 : Hid (dep es[k] e = true → es.any (fun x => dep x e) = true) := fun h => List.any_eq_true.2 ⟨_, List.getElem_mem hlt, h⟩
      have h2 : Hid (dep es[k] e = false → ∀ j (h : j < es.length), j < k + 1 → dep es[j] e = false) := fun h j hj hjk => by
        by_cases e' : j = k
        · subst e'; exact h
        · exact HA.out j hj (by omega)
      clear hc c0 c1 c2 c3
      generalize es[k] = x at *
      go_wp2_with fail
      refine (ahead_any x e g _ HX.out).mono ?_
      rintro r w2 ⟨rfl, hb5⟩
      have hb6 := hbw.trans (hb5.mono hbw.size)
      clear hb5
      cases hr : dep x e
      · have HN := Lib.hid (h2.out hr)
        clear h1 h2
        go_wp2
        go_roundw
        case rel => exact ⟨k + 1, by omega, by go_num, HN, hb6⟩
        case measure => simp [intOf]; omega
      · have HN := Lib.hid (h1.out hr)
        clear h1 h2
        go_wp2
        go_ret
        exact ⟨k, rfl, by rw [HN.out]; simp, hb6⟩
    · have HN : Hid (es.any (fun x => dep x e) = false) := by
        show _ = _
        rw [List.any_eq_false]
        intro x hx
        obtain ⟨j, hj, rfl⟩ := List.mem_iff_getElem.1 hx
        rw [HA.out j hj (by omega)]
        simp
      obtain rfl : k = es.length := by omega
      go_wp2
      go_ret
      exact ⟨-1, rfl, by rw [HN.out]; simp, hbw⟩

set_option maxRecDepth 100000 in
set_option maxHeartbeats 1000000 in
theorem containsE_any (a : Option Addr) (cap : Nat) (es : List Ev) (e : Ev) (g : Nat) (w : World) (hl : EvsAt w a es) (hb : EvBox w g e) :
    Calls Try.prog 80 #[.slice a es.length cap, .func (.func 81) #[] #[.pointer (some ⟨g, 0, none⟩)]] w fun r w' => r = .returned (.bool (es.any fun x => dep x e)) ∧ Below w.heap.size w w' := by
  have H := Lib.hid (indexE_any a cap es e g w hl hb)
  clear hl hb
  go_enter Try.func80, Try.ntmps80
  go_wp2_with fail
  refine H.out.mono ?_
  rintro r w' ⟨z, rfl, hz, hb'⟩
  have HZ := Lib.hid hz
  clear hz
  go_wp2
  go_ret
  exact ⟨ret_bool HZ.out, hb'⟩

end Go.Proofs.Ytopklnehhebhmaa

/- A range from the end on: which rounds have come. -/
namespace Go.Proofs.Ytopklnehhebhmaa
open Go.RowKit Go.Shelf

/-- What has come when k rounds are over: f 0, .., f (k - 1). -/
def upto {T : Type} (f : Nat → T) (k : Nat) : List T := (List.range k).map f
theorem upto_succ {T : Type} (f : Nat → T) (k : Nat) : upto f (k + 1) = upto f k ++ [f k] := by simp [upto, List.range_succ]
theorem upto_length {T : Type} (f : Nat → T) (k : Nat) : (upto f k).length = k := by simp [upto]

/-- The rounds' places, from the end on. -/
def Backs (n k : Nat) (pre : List (Fin n)) : Prop := pre.map (fun q => q.val) = upto (fun k => n - 1 - k) k
theorem backs_nil (n : Nat) : Backs n 0 [] := rfl
theorem Backs.len {n k : Nat} {pre : List (Fin n)} (h : Backs n k pre) : pre.length = k := by
  have := congrArg List.length h
  simpa [upto_length] using this
theorem Backs.snoc {n k : Nat} {pre : List (Fin n)} (h : Backs n k pre) {q : Fin n} (hq : q.val = n - 1 - k) : Backs n (k + 1) (pre ++ [q]) := by
  unfold Backs at *
  rw [List.map_append, h, upto_succ]
  simp [hq]
theorem Backs.mem {n k : Nat} {pre : List (Fin n)} (h : Backs n k pre) {j : Nat} (hj : n - k ≤ j) (hjn : j < n) (hk : k ≤ n) : (⟨j, hjn⟩ : Fin n) ∈ pre := by
  have h1 : j ∈ pre.map (fun q => q.val) := by
    unfold Backs at h
    rw [h]
    unfold upto
    rw [List.mem_map]
    exact ⟨n - 1 - j, by rw [List.mem_range]; omega, by omega⟩
  obtain ⟨q, hq, e⟩ := List.mem_map.1 h1
  have : q = ⟨j, hjn⟩ := Fin.ext e
  rw [← this]
  exact hq
theorem MidAt.keptRow {w w' : World} {g : Nat} {t : TypeId} {xs : List Value} {row : Option Nat} (h : MidAt w g t xs) (hg : w.grownBy w' row) (hr : ∀ r, row = some r → ∃ o : Obj, w.heap[r]? = some o ∧ o.isCells = false) : MidAt w' g t xs := by
  refine (hg.block g h.lt fun e => ?_).trans h
  obtain ⟨o, ho, hc⟩ := hr g e.symm
  unfold MidAt at h
  rw [h] at ho
  cases ho
  cases hc

end Go.Proofs.Ytopklnehhebhmaa

/- The contracts of slices.Backward over a row of levels, and of what it hands back. -/
namespace Go.Proofs.Ytopklnehhebhmaa
open Go.RowKit Go.Shelf

attribute [local go_sem] Oper.semAt_some

def backL (cs : List Sl) (q : Fin cs.length) : Array Value := #[.int .i64 (q.val : Int), .slice cs[q.val].a cs[q.val].n cs[q.val].c]

set_option maxRecDepth 100000 in
set_option maxHeartbeats 2000000 in
theorem backL1_in (F : Fence) (n : Nat) (h7 : F.fn 86) (hro : F.round = none) (hn : 1 ≤ n) (l Bs n₀ : Nat) (a : Option Addr) (cap : Nat) (cs : List Sl) (hreach : cs.length ≤ 1000) (hbs : Bs < n₀)
    (J Jx : List (Fin cs.length) → World → Prop)
    (hY : ∀ pre x W, J pre W → pre.length < cs.length → YieldAt F (n - 1) Try.prog l (backL cs x) W fun e W' => (e = .returned (.bool true) ∧ J (pre ++ [x]) W' ∧ Below n₀ W W') ∨ (e = .returned (.bool false) ∧ Jx (pre ++ [x]) W'))
    (W : World) (hBs : W.cell? ⟨Bs, 0, none⟩ = some (.slice a cs.length cap)) (hrow : RowAt W a 1 slCell cs) (hb : 0 < cs.length → ∀ b o, a = some ⟨b, o, none⟩ → b < n₀) (h0 : J [] W) :
    CallsIn F n Try.prog 86 #[.func (.yield l) #[] #[], .pointer (some ⟨Bs, 0, none⟩)] W fun e W' => (∃ v, e = .returned v) ∧
      ((∃ ys, Backs cs.length cs.length ys ∧ J ys W') ∨ (∃ pre, (∃ k, k ≤ cs.length ∧ Backs cs.length k pre) ∧ Jx pre W')) := by
  refine callsIn_of_wp Try.func86 rfl h7 ?_ hro
  simp only [Try.ntmps86, List.size_toArray, List.length_cons, List.length_nil, Nat.reduceAdd, Nat.reduceSub, Array.replicate_succ, Array.replicate_zero, List.push_toArray, List.append_toArray, List.nil_append, List.cons_append]
  gi_wp2
  gi_loopw [3] (fun i wr => ∃ (k : Nat) (z : Int) (pre : List (Fin cs.length)), k ≤ cs.length ∧ i = .int .i64 z ∧ Hid (z = (cs.length : Int) - 1 - k) ∧ Hid (Backs cs.length k pre) ∧ J pre wr ∧ Below n₀ W wr) (fun i _ => (intOf i + 1).toNat)
  case atStart => exact ⟨0, _, [], Nat.zero_le _, rfl, (by show _ = _; omega), backs_nil _, h0, Below.refl _ _⟩
  case round =>
    obtain ⟨k, z, pre, hk, rfl, HZ, HP, hJs, hnx⟩ := hrel
    have cBs := (hnx.cell (p := ⟨Bs, 0, none⟩) hbs).trans hBs
    by_cases hlt : k < cs.length
    · obtain ⟨b, o, rfl, hcell⟩ := hrow.2 (by intro e; simp [e] at hlt)
      have hbn := hb (by omega) b o rfl
      obtain ⟨q, hq⟩ : ∃ q : Nat, q = cs.length - 1 - k := ⟨_, rfl⟩
      obtain rfl : z = (q : Int) := by have := HZ.out; omega
      have hql : q < cs.length := by omega
      have c0 : wr.cell? ⟨b, o + q, none⟩ = some (.slice cs[q].a cs[q].n cs[q].c) := by
        have h := (hnx.cell (p := ⟨b, o + q * 1 + 0, none⟩) hbn).trans (hcell q hql 0 _ rfl)
        rw [Nat.mul_one, Nat.add_zero] at h
        exact h
      obtain ⟨fn, tmps, assign, body, hy, hR⟩ := hY pre ⟨q, hql⟩ wr hJs (by rw [HP.out.len]; exact hlt)
      dsimp only [backL] at hy
      have HQ := Lib.hid hq
      have HP2 : Hid (Backs cs.length (k + 1) (pre ++ [⟨q, hql⟩])) := HP.out.snoc hq
      clear hcell hq
      gi_wp2
      refine hR.mono ?_
      rintro e W3 (⟨rfl, hJ3, hk3⟩ | ⟨rfl, hJx3⟩)
      · gi_wp2
        go_roundw
        case rel => exact ⟨k + 1, (q : Int) - 1, _, by omega, by go_num, (by show _ = _; have := HQ.out; omega), HP2, hJ3, hnx.trans hk3⟩
        case measure => simp [intOf]
      · gi_wp2
        refine bodyPost_ret (results_none rfl _ _ _) rfl ?_
        exact ⟨⟨_, rfl⟩, .inr ⟨_, ⟨k + 1, by omega, HP2.out⟩, hJx3⟩⟩
    · obtain rfl : k = cs.length := by omega
      obtain rfl : z = -1 := by have := HZ.out; omega
      gi_wp2
      go_end0
      exact ⟨⟨_, rfl⟩, .inl ⟨_, HP.out, hJs⟩⟩

set_option maxHeartbeats 1000000 in
theorem backL_in (F : Fence) (n : Nat) (h5 : F.fn 79) (hro : F.round = none) (a : Option Addr) (len cap : Nat) (w : World) :
    CallsIn F n Try.prog 79 #[.slice a len cap] w fun e w' => e = .returned (.func (.func 86) #[] #[.pointer (some ⟨w.heap.size, 0, none⟩)]) ∧ w' = w.alloc (.cells #[.slice a len cap] 50) := by
  refine callsIn_of_wp Try.func79 rfl h5 ?_ hro
  simp only [Try.ntmps79, List.size_toArray, List.length_cons, List.length_nil, Nat.reduceAdd, Nat.reduceSub, Array.replicate_succ, Array.replicate_zero, List.push_toArray, List.append_toArray, List.nil_append, List.cons_append]
  gi_wp2
  go_ret
  exact ⟨rfl, rfl⟩

theorem backL_stops (F : Fence) (n : Nat) (h7 : F.fn 86) (hro : F.round = none) (hn : 1 ≤ n) (Bs n₀ : Nat) (a : Option Addr) (cap : Nat) (cs : List Sl) (hreach : cs.length ≤ 1000) (w : World) (hbs : Bs < n₀) (hn₀ : n₀ ≤ w.heap.size)
    (hc : w.cell? ⟨Bs, 0, none⟩ = some (.slice a cs.length cap)) (hrow : RowAt w a 1 slCell cs) (hb : 0 < cs.length → ∀ b o, a = some ⟨b, o, none⟩ → b < n₀) :
    SeqStopsK F n Try.prog 86 #[.pointer (some ⟨Bs, 0, none⟩)] (backL cs) (Below n₀) (fun ys => Backs cs.length cs.length ys) (fun pre => ∃ k, k ≤ cs.length ∧ Backs cs.length k pre) cs.length w := fun l J Jx W hW _ _ hY h0 => by
  have hc' := (hW.cell (p := ⟨Bs, 0, none⟩) (show Bs < w.heap.size by omega)).trans hc
  exact backL1_in F n h7 hro hn l Bs n₀ a cap cs hreach hbs J Jx hY W hc' (hrow.later hW) hb h0

end Go.Proofs.Ytopklnehhebhmaa

/- The contract of foata's levelOf. -/
namespace Go.Proofs.Ytopklnehhebhmaa
open Go.RowKit Go.Shelf

attribute [local go_sem] Oper.semAt_some

/-- Has level i one that e depends on? -/
def hasD (m : List (List Ev)) (e : Ev) (i : Nat) : Bool := (m.getD i []).any fun x => dep x e
theorem lvN_is {m : List (List Ev)} {e : Ev} {q : Nat} (hq : q < m.length) (h : hasD m e q = true) (h2 : ∀ j, q < j → j < m.length → hasD m e j = false) : lvN m e = q + 1 := by
  have h1 : q < lvN m e := top_ge (f := fun i => i + 1) (q := fun i => (m.getD i []).any fun x => dep x e) hq h
  rcases top_zero_or (f := fun i => i + 1) (q := fun i => (m.getD i []).any fun x => dep x e) (n := m.length) with h0 | ⟨j, hj, hj2, hj3⟩
  · have : lvN m e = 0 := h0
    omega
  · have h3 : lvN m e = j + 1 := hj3
    by_cases e' : j = q
    · omega
    · have h4 := h2 j (by omega) hj
      unfold hasD at h4
      rw [h4] at hj2
      cases hj2
theorem lvN_zero {m : List (List Ev)} {e : Ev} (h : ∀ j, j < m.length → hasD m e j = false) : lvN m e = 0 := by
  rcases top_zero_or (f := fun i => i + 1) (q := fun i => (m.getD i []).any fun x => dep x e) (n := m.length) with h0 | ⟨j, hj, hj2, _⟩
  · exact h0
  · have h4 := h j hj
    unfold hasD at h4
    rw [h4] at hj2
    cases hj2

/-- None of the levels that came has one. -/
def NoD (m : List (List Ev)) (e : Ev) {n : Nat} (pre : List (Fin n)) : Prop := ∀ q ∈ pre, hasD m e q.val = false
theorem NoD.snoc {m : List (List Ev)} {e : Ev} {n : Nat} {pre : List (Fin n)} (h : NoD m e pre) {q : Fin n} (hq : hasD m e q.val = false) : NoD m e (pre ++ [q]) := by
  intro x hx
  rcases List.mem_append.1 hx with hx | hx
  · exact h x hx
  · simp at hx
    rw [hx]
    exact hq

theorem keepsO_below {W W' : World} (h : Below W.heap.size W W') : KeepsOthers W W' := ⟨h.size, fun k _ ho _ => (h.block k (Array.getElem?_eq_some_iff.1 ho).1).trans ho⟩

set_option maxRecDepth 100000 in
set_option maxHeartbeats 4000000 in
theorem levelOf_any (a : Option Addr) (cap : Nat) (m : List (List Ev)) (e : Ev) (w : World) (hl : LvAt w a m) (hm : m.length ≤ 1000) :
    Calls Try.prog 72 #[.slice a m.length cap, .agg #[.int .i64 e.thread, .int .i64 e.kind, .int .i64 e.obj, .bool e.fail]] w fun r w' => r = .returned (.int .i64 (lvN m e)) ∧ Below w.heap.size w w' := by
  obtain ⟨ss, hsl, hrow, hin⟩ := hl
  have HIN := Lib.hid hin
  have HSL := Lib.hid hsl
  clear hin
  have hsm : ss.length ≤ 1000 := by omega
  rw [← hsl]
  clear hsl hm
  refine (callsIn_wide (n := 3)).1 ?_
  have h1 : 1 ≤ 3 := by omega
  refine callsIn_of_wp_marks Try.func72 rfl trivial ?_ rfl
  simp only [Try.ntmps72, List.size_toArray, List.length_cons, List.length_nil, Nat.reduceAdd, Nat.reduceSub, Array.replicate_succ, Array.replicate_zero, List.push_toArray, List.append_toArray, List.nil_append, List.cons_append]
  have hb0 := below_alloc2 w (.cells #[.int .i64 e.thread, .int .i64 e.kind, .int .i64 e.obj, .bool e.fail] 73) (.cells #[.int .i64 0] 3)
  have hsz : ((w.alloc (.cells #[.int .i64 e.thread, .int .i64 e.kind, .int .i64 e.obj, .bool e.fail] 73)).alloc (.cells #[.int .i64 0] 3)).heap.size = w.heap.size + 1 + 1 := by simp
  have HBX : Hid (EvBox ((w.alloc (.cells #[.int .i64 e.thread, .int .i64 e.kind, .int .i64 e.obj, .bool e.fail] 73)).alloc (.cells #[.int .i64 0] 3)) w.heap.size e) := (EvBox.new w e).later (below_alloc1 _ _)
  have HR : Hid (MidAt ((w.alloc (.cells #[.int .i64 e.thread, .int .i64 e.kind, .int .i64 e.obj, .bool e.fail] 73)).alloc (.cells #[.int .i64 0] 3)) (w.heap.size + 1) 3 [.int .i64 0]) := heap_alloc2_new w _ _
  gi_wp2_with fail
  generalize (w.alloc (.cells #[.int .i64 e.thread, .int .i64 e.kind, .int .i64 e.obj, .bool e.fail] 73)).alloc (.cells #[.int .i64 0] 3) = W0 at *
  refine ⟨trivial, ?_⟩
  refine (backL_in Fence.wide _ trivial rfl _ _ _ _).mono ?_
  rintro r w' ⟨rfl, rfl⟩
  have hb2 := below_alloc1 W0 (.cells #[.slice a ss.length cap] 50)
  have hB2 : Below w.heap.size w (W0.alloc (.cells #[.slice a ss.length cap] 50)) := hb0.trans (hb2.mono hb0.size)
  have hbs : (W0.alloc (.cells #[.slice a ss.length cap] 50)).cell? ⟨W0.heap.size, 0, none⟩ = some (.slice a ss.length cap) := by simp
  have hrow2 := hrow.later hB2
  have hbk : 0 < ss.length → ∀ b o, a = some ⟨b, o, none⟩ → b < W0.heap.size + 1 := by
    rintro h b o rfl
    obtain ⟨b', o', e, hc⟩ := hrow.2 (by intro e; rw [e] at h; simp at h)
    cases e
    have h2 : b < w.heap.size := cell_block (hc 0 h 0 _ rfl)
    have := hb0.size
    omega
  have HR0 := Lib.hid (HR.out.later hb2)
  have HBX0 := Lib.hid (HBX.out.later hb2)
  have hsl : (W0.alloc (.cells #[.slice a ss.length cap] 50)).heap.size = W0.heap.size + 1 := by simp
  gi_wp2
  generalize W0.alloc (.cells #[.slice a ss.length cap] 50) = Wl at *
  rw [hsz] at hbs hsl
  refine wpIn_rangeFunc_ownH rfl h1 (gf := 86) (lb := #[.pointer (some ⟨w.heap.size + 1 + 1, 0, none⟩)]) rfl trivial (enters_of Try.func86 (by kernel_rfl) rfl)
    (backL_stops Fence.wide (3 - 1) trivial rfl (by omega) (w.heap.size + 1 + 1) (w.heap.size + 1 + 1 + 1) a cap ss hsm Wl (by omega) (by omega) hbs hrow2 (fun h b o hb => by have := hbk h b o hb; omega)) belowK_t (belowK_b (by omega)) (Below.refl _ _) (fun _ => rfl)
    (fun pre W => NoD m e pre ∧ Below Wl.heap.size Wl W)
    (fun c pre W => (c = .ret ∧ ∃ ini last, pre = ini ++ [last] ∧ NoD m e ini ∧ hasD m e last.val = true ∧ MidAt W (w.heap.size + 1) 3 [.int .i64 ((last.val : Int) + 1)]) ∧ Below w.heap.size w W)
    (OwnFrom.and (ownFrom_pure _ (fun pre => NoD m e pre)) (ownFrom_below (Nat.le_refl _) (by omega)))
    (fun c => OwnFrom.and (Own.from (fun s A B row hs hg hr => by obtain ⟨hc, ini, last, e1, e2, e3, e4⟩ := hs; exact ⟨hc, ini, last, e1, e2, e3, e4.keptRow hg hr⟩) _) (ownFrom_below (Nat.le_refl _) (by omega)))
    ⟨(fun q hq => absurd hq (by simp)), Below.refl _ _⟩
    (fun x a'' _ => a'' = { tmps := #[.slice a ss.length cap, .agg #[.int .i64 e.thread, .int .i64 e.kind, .int .i64 e.obj, .bool e.fail], undef, .pointer (some ⟨w.heap.size, 0, none⟩), .pointer (some ⟨w.heap.size + 1, 0, none⟩), .int .i64 (x.val : Int), .slice ss[x.val].a ss[x.val].n ss[x.val].c, .slice a ss.length cap, .func (.func 86) #[] #[.pointer (some ⟨w.heap.size + 1 + 1, 0, none⟩)], .int .i64 (x.val : Int), .slice ss[x.val].a ss[x.val].n ss[x.val].c, undef, undef, undef, undef, undef], defers := [] })
    (fun x a'' _ X Y row hs hg hr => hs)
    ?assign ?body ?done ?stop
  case assign =>
    rintro l1 pre x W K ⟨hN, hB⟩ hK
    dsimp only [backL]
    gi_wp2
    exact hK _ _ ((KeepsOthers.refl W).from _) (Below.refl _ W) ⟨hN, hB⟩ rfl
  case body =>
    rintro l1 pre x a'' W hl ⟨r, hr⟩ ⟨hN, hB⟩ rfl hlt
    have HX := Lib.hid (HBX0.out.later hB)
    have HRX := Lib.hid (HR0.out.later hB)
    have hBw := hB2.trans (hB.mono hB2.size)
    obtain ⟨hn1, hn2, _⟩ := HIN.out x.val x.isLt
    have HC := Lib.hid (containsE_any ss[x.val].a ss[x.val].c (m.getD x.val []) e w.heap.size W (hn2.later hBw) HX.out)
    rw [← hn1] at HC
    have HN := Lib.hid hN
    have hf := HRX.out.frozen 0
    have hz := HRX.out.cell 0
    clear hN hn1 hn2
    gi_wp2_with fail
    refine ⟨trivial, ?_⟩
    refine (callsIn_wide.2 HC.out).mono ?_
    rintro r W2 ⟨rfl, hb3⟩
    have hks : KeepsOthers W W2 := keepsO_below hb3
    have hB3 := hB.trans (hb3.mono hB.size)
    have hBw3 := hB2.trans (hB3.mono hB2.size)
    have HRX3 := Lib.hid (HRX.out.later hb3)
    have hf3 := HRX3.out.frozen 0
    have hz3 : W2.cell? ⟨w.heap.size + 1, 0, none⟩ = some (.int .i64 0) := HRX3.out.cell 0
    have hx1000 : (x.val : Int) < 1000 := by have := x.isLt; omega
    have hx0 : (0 : Int) ≤ x.val := by omega
    clear hf hz
    cases hd : (m.getD x.val []).any fun x => dep x e
    · have HN2 : Hid (NoD m e (pre ++ [x])) := HN.out.snoc hd
      clear hd
      gi_wp2
      exact ⟨hks.from _, hb3.mono (by have := hB.size; omega), HN2.out, hB3⟩
    · have HD : Hid (hasD m e x.val = true) := hd
      clear hd
      gi_wp2
      refine ⟨(hks.trans (KeepsOthers.setCell _ _ _)).from _, ⟨rfl, pre, x, rfl, HN.out, HD.out, ?_⟩, hBw3.setCell (p := ⟨w.heap.size + 1, 0, none⟩) (by simp) _⟩
      exact MidAt.set HRX3.out 0 _
  case done =>
    rintro D ys W hD hys ⟨hN, hB⟩ hK
    have HZ := Lib.hid (HR0.out.later hB)
    have hBw := hB2.trans (hB.mono hB2.size)
    have z0 : W.cell? ⟨w.heap.size + 1, 0, none⟩ = some (.int .i64 0) := HZ.out.cell 0
    have f0 := HZ.out.frozen 0
    have HIS : Hid (lvN m e = 0) := lvN_zero fun j hj => by
      have hjs : j < ss.length := by rw [HSL.out]; exact hj
      exact hN _ (hys.mem (j := j) (by omega) hjs (Nat.le_refl _))
    clear hN hys
    gi_wp2
    have hK' := (KeepsOthers.setCell W ⟨w.heap.size + 1, 0, none⟩ (.int .i64 0)).same D _ hK rfl
    have hM : MidAt (W.setCell ⟨w.heap.size + 1, 0, none⟩ (.int .i64 0)) (w.heap.size + 1) 3 [.int .i64 0] := MidAt.set HZ.out 0 _
    have y0 := (hM.keptRow (grownBy_putObj' _ D (.deferred none)) (fun r e => by cases e; exact ⟨_, hK', rfl⟩)).cell 0
    refine ⟨by simp, .inl ⟨_, _, rfl, run_takeDeferred hK', ?_⟩⟩
    refine ⟨.int .i64 0, ?_, (by rw [HIS.out]; rfl), (hBw.setCell (p := ⟨w.heap.size + 1, 0, none⟩) (by simp) _).trans (belowK_b (w := w) (Nat.le_refl _) _ D _ _ (by omega) hK' rfl rfl)⟩
    simp [results, Try.f72, go_sem, y0]
  case stop =>
    rintro D c pre W hD ⟨k, hk, hbk2⟩ ⟨⟨rfl, ini, last, e1, e2, e3, e4⟩, hB⟩ hK
    have HIS : Hid (lvN m e = last.val + 1) := by
      have hlen := hbk2.len
      rw [e1, List.length_append, List.length_singleton] at hlen
      have hm2 : pre.map (fun q => q.val) = upto (fun k => ss.length - 1 - k) k := hbk2
      obtain ⟨k', rfl⟩ : ∃ k', k = k' + 1 := ⟨ini.length, by omega⟩
      rw [e1, List.map_append, upto_succ] at hm2
      obtain ⟨h5, h6⟩ := List.append_inj' hm2 rfl
      have hlv : last.val = ss.length - 1 - k' := by simpa using h6
      have hbi : Backs ss.length k' ini := h5
      have hlt := last.isLt
      refine lvN_is (by rw [← HSL.out]; exact hlt) e3 fun j hj hjl => ?_
      have hjc : j < ss.length := by rw [HSL.out]; exact hjl
      exact e2 _ (hbi.mem (j := j) (by omega) hjc (by omega))
    clear e1 e2 e3 hbk2
    gi_wp2
    have y0 := (e4.keptRow (grownBy_putObj' _ D (.deferred none)) (fun r e => by cases e; exact ⟨_, hK, rfl⟩)).cell 0
    refine ⟨by simp, .inl ⟨_, _, rfl, run_takeDeferred hK, ?_⟩⟩
    refine ⟨.int .i64 ((last.val : Int) + 1), ?_, (by rw [HIS.out]; rfl), hB.trans (belowK_b (w := w) (Nat.le_refl _) W D _ _ (by omega) hK rfl rfl)⟩
    simp [results, Try.f72, go_sem, y0]

end Go.Proofs.Ytopklnehhebhmaa
