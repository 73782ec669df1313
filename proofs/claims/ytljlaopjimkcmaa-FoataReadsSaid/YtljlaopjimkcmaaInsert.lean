/- The contract of slices.Insert of one event into a row of one's own. -/
import Derived.Test.YtljlaopjimkcmaaCopyAt
import Derived.Test.YtljlaopjimkcmaaCopyLaw
import Derived.Shelf.Spec.SlicesInsertGrow
import Derived.Deep.RegionHeld3
namespace Go.Proofs.Ytljlaopjimkcmaa
open Go.RowKit

theorem overlaps_no (w : World) (vb b o la ca lb cb : Nat) (hne : vb ≠ b) (x y : Array Value) (ta tb : TypeId) (ha : w.heap[vb]? = some (.cells x ta (0, 0))) (hb : w.heap[b]? = some (.cells y tb (0, 0))) (hy : y.size ≠ 0) :
    (callFunc 47 #[.slice (some ⟨vb, 0, none⟩) la ca, .slice (some ⟨b, o, none⟩) lb cb]).run Try.prog w = .ok (.value (.bool false)) w := by
  rw [run_callFunc_extern Try.func47 (by kernel_rfl) (by kernel_rfl) (by kernel_rfl) (e := Extern.SlicesOverlaps.overlaps #[22, 22] #[4]) (by kernel_rfl),
    Lib.run_overlaps_apart w 22 4 39 Try.underlying22 4 ev_sizeOf ⟨vb, 0, none⟩ ⟨b, o, none⟩ la ca lb cb hne ta tb x.size y.size (by simp [World.shape?, ha]) (by simp [World.shape?, hb]) hy (by simp [World.frozen?, ha]) (by simp [World.frozen?, ha])]
  rfl

set_option maxHeartbeats 4000000 in
set_option maxRecDepth 100000 in
/-- There is room: in place. -/
theorem insert_shift (b n c i vb : Nat) (es : List Ev) (e : Ev) (w : World) (cur x : Array Value) (tx : TypeId) (hn : n = es.length) (hi : i < n) (hroom : n + 1 ≤ c) (hc : c ≤ maxLen) (hvb : vb ≠ b)
    (hg : w.heap[b]? = some (.cells cur 39 (0, 0))) (hcur : cur.size = c * 4) (ht : cur.toList.take (n * 4) = evCells es) (hx : w.heap[vb]? = some (.cells x tx (0, 0))) (hxe : ∀ (j : Nat) (v : Value), (evCell e)[j]? = some v → x[j]? = some v) :
    Calls Try.prog 36 #[.slice (some ⟨b, 0, none⟩) n c, .int .i64 i, .slice (some ⟨vb, 0, none⟩) 1 1] w fun r w' =>
      r = .returned (.slice (some ⟨b, 0, none⟩) (n + 1) c) ∧ w' = (w.drew.setRow b (putAt cur ((i + 1) * 4) (evCells (es.drop i)))).setRow b (putAt (putAt cur ((i + 1) * 4) (evCells (es.drop i))) (i * 4) (evCell e)) := by
  have hz2 : ¬ ((i : Int) = (n : Int)) := by omega
  unfold maxLen at hc
  have hov : ∀ o lb cb, (callFunc 47 #[.slice (some ⟨vb, 0, none⟩) 1 1, .slice (some ⟨b, o, none⟩) lb cb]).run Try.prog w = .ok (.value (.bool false)) w := fun o lb cb => overlaps_no w vb b o 1 1 lb cb hvb x cur tx _ hx hg (by omega)
  have hdl : (evCells (es.drop i)).length = (n - i) * 4 := by rw [evCells_length, List.length_drop, hn]
  have hw1 : IntKind.i64.wrap ((i : Int) + 1) = (i : Int) + 1 := by rw [IntKind.wrap_i64]; omega
  have hw2 : IntKind.i64.wrap ((n : Int) + 1) = (n : Int) + 1 := by rw [IntKind.wrap_i64]; omega
  have hb1 : (0 : Int) ≤ (i : Int) + 1 := by omega
  have hin : i ≤ n := by omega
  have hb2 : ¬ (c = i + 1) := by omega
  have hb3 : (i : Int) ≤ (n : Int) + 1 := by omega
  have hb4 : ¬ (c = i) := by omega
  have htn : ((i : Int) + 1).toNat = i + 1 := by omega
  have hcell : ∀ j v, (evCells es)[j]? = some v → w.cell? ⟨b, j, none⟩ = some v := fun j v hj => by
    have hjl : j < n * 4 := by have := (List.getElem?_eq_some_iff.1 hj).1; rw [evCells_length] at this; omega
    rw [← ht, List.getElem?_take_of_lt hjl] at hj
    simp [World.cell?, hg]
    simpa using hj
  have hcp1 : ∀ ty dc sc, (Builtin.copy_ #[22, 22] ty #[.slice (some ⟨b, (i + 1) * 4, none⟩) (n - i) dc, .slice (some ⟨b, i * 4, none⟩) (n + 1 - i) sc]).run Try.prog w.drew = .ok (goInt (Nat.min (n + 1 - i) (n - i))) (w.drew.setRow b (putAt cur ((i + 1) * 4) (evCells (es.drop i)))) := fun ty dc sc =>
    run_copy_at w.drew _ _ ty 39 4 b ((i + 1) * 4) (n - i) dc ⟨b, i * 4, none⟩ (n + 1 - i) sc cur _ (evCells (es.drop i)) Try.underlying22 ev_size hg (by rw [hdl]; simp only [Nat.min_def]; split <;> omega) (by rw [hdl]; omega)
      (fun j v hj => by rw [add_row]; exact hcell _ v (by rw [evCells_drop, List.getElem?_drop] at hj; exact hj)) (fun v hv => evCells_one _ v hv)
  obtain ⟨C1, hC1⟩ : ∃ C1, C1 = putAt cur ((i + 1) * 4) (evCells (es.drop i)) := ⟨_, rfl⟩
  have hC1s : C1.size = c * 4 := by rw [hC1, putAt_size (by rw [hdl]; omega), hcur]
  rw [← hC1] at hcp1 ⊢
  obtain ⟨W1, hW1⟩ : ∃ W1, W1 = w.drew.setRow b C1 := ⟨_, rfl⟩
  have hg1 : W1.heap[b]? = some (.cells C1 39 (0, 0)) := by rw [hW1]; exact setRow_heap _ _ _ _ _ _ hg
  have hv1 : W1.heap[vb]? = some (.cells x tx (0, 0)) := by rw [hW1, setRow_other _ _ _ _ hvb]; exact hx
  have hcp2 : ∀ ty dc, (Builtin.copy_ #[22, 22] ty #[.slice (some ⟨b, i * 4, none⟩) (n + 1 - i) dc, .slice (some ⟨vb, 0, none⟩) 1 1]).run Try.prog W1 = .ok (goInt (Nat.min 1 (n + 1 - i))) (W1.setRow b (putAt C1 (i * 4) (evCell e))) := fun ty dc =>
    run_copy_at W1 _ _ ty 39 4 b (i * 4) (n + 1 - i) dc ⟨vb, 0, none⟩ 1 1 C1 _ (evCell e) Try.underlying22 ev_size hg1 (by rw [evCell_len]; simp only [Nat.min_def]; split <;> omega) (by rw [evCell_len]; omega)
      (fun j v hj => by rw [add_row, Nat.zero_add]; simp [World.cell?, hv1]; exact hxe j v hj) (fun v hv => evCell_one e v hv)
  rw [← hW1] at hcp1 ⊢
  clear hC1 hW1 hn hg hx hg1 hv1 hcell hdl
  go_enter Try.func36, Try.ntmps36
  go_wp2_with (simp only [hov])
  go_region_law (refine step_copy_runI rfl _ _ 22 22 rfl _ _ (by simp [Act.eval, Act.put]) (by simp [Act.eval, Act.put]) (hcp1 _ _ _) ?_)
  go_wp2_with (at_builtin; refine wpList_copy_runI _ rfl _ _ 22 22 rfl _ _ rfl rfl (hcp2 _ _) ?_)
  go_ret
  exact ⟨rfl, rfl⟩

/-- A new row of n + 1 events. -/
def GrowR (w : World) (n : Nat) (es' : List Ev) (r : Ending) (w' : World) : Prop :=
  ∃ G C, r = .returned (.slice (some ⟨w.heap.size, 0, none⟩) (n + 1) G) ∧ n + 1 ≤ G ∧ G ≤ maxLen ∧ w'.os = w.os ∧ w'.tape = w.tape ∧ w'.output = w.output ∧ w'.heap = (w.alloc (.cells C 39)).heap ∧ C.size = G * 4 ∧ C.toList.take ((n + 1) * 4) = evCells es'

set_option maxHeartbeats 4000000 in
set_option maxRecDepth 100000 in
/-- There is no room: a new row. -/
theorem insert_grow (b n c i vb : Nat) (es : List Ev) (e : Ev) (w : World) (cur x : Array Value) (tx : TypeId) (hn : n = es.length) (hi : i < n) (hroom : c < n + 1) (hnc : n ≤ c) (hc : n ≤ 1000000)
    (hg : w.heap[b]? = some (.cells cur 39 (0, 0))) (ht : cur.toList.take (n * 4) = evCells es) (hx : w.heap[vb]? = some (.cells x tx (0, 0))) (hxe : ∀ (j : Nat) (v : Value), (evCell e)[j]? = some v → x[j]? = some v) :
    Calls Try.prog 36 #[.slice (some ⟨b, 0, none⟩) n c, .int .i64 i, .slice (some ⟨vb, 0, none⟩) 1 1] w (GrowR w n (es.take i ++ e :: es.drop i)) := by
  obtain ⟨i0, hi0, hzz⟩ := Option.map_eq_some_iff.1 infoEv
  simp only [Prod.mk.injEq] at hzz
  obtain ⟨hz0, hzs, hzb⟩ := hzz
  have hz2 : ¬ ((i : Int) = (n : Int)) := by omega
  have hz3 : (c : Int) < (n : Int) + 1 := by omega
  have hdl : (evCells (es.drop i)).length = (n - i) * 4 := by rw [evCells_length, List.length_drop, hn]
  have hcell : ∀ j v, (evCells es)[j]? = some v → w.cell? ⟨b, j, none⟩ = some v := fun j v hj => by
    have hjl : j < n * 4 := by have := (List.getElem?_eq_some_iff.1 hj).1; rw [evCells_length] at this; omega
    rw [← ht, List.getElem?_take_of_lt hjl] at hj
    simp [World.cell?, hg]
    simpa using hj
  have hbw : b < w.heap.size := (Array.getElem?_eq_some_iff.1 hg).1
  have hvw : vb < w.heap.size := (Array.getElem?_eq_some_iff.1 hx).1
  have hkk : (n : Int) + 1 - (i : Int) = ((n + 1 - i : Nat) : Int) := by omega
  have hik : i + (n + 1 - i) = n + 1 := by omega
  have htk : (evCells (es.take i)).length = i * 4 := by rw [evCells_length, List.length_take]; omega
  have hold : (Builtin.firstCells i0.size i (.slice (some ⟨b, 0, none⟩) i c)).run Try.prog w.drew = .ok (evCells (es.take i)).toArray w.drew := by
    rw [hzs]
    exact run_firstCells_some w.drew 4 i ⟨b, 0, none⟩ i c (evCells (es.take i)) htk (fun j v hj => by
      rw [add_row, Nat.zero_add]
      rw [evCells_take, List.getElem?_take] at hj
      split at hj
      · exact hcell j v hj
      · cases hj)
  obtain ⟨G, hG⟩ : ∃ G, G = grownCap w (n + 1) c 39 := ⟨_, rfl⟩
  have hGn : n + 1 ≤ G := by rw [hG]; exact grownCap_ge w _ _ _
  have hGm : G ≤ maxLen := by rw [hG]; exact grownCap_le_maxLen w (n + 1) c 39 (by unfold maxLen; omega)
  have hGm2 : G ≤ 9223372036854775807 := by unfold maxLen at hGm; omega
  obtain ⟨ROW, hROW⟩ : ∃ ROW : Array Value, ROW = (evCells (es.take i)).toArray ++ Builtin.zeroCells (Value.agg #[.int .i64 0, .int .i64 0, .int .i64 0, .bool false]).cells (n + 1 - i) ++ Builtin.zeroCells (Value.agg #[.int .i64 0, .int .i64 0, .int .i64 0, .bool false]).cells (G - (n + 1)) := ⟨_, rfl⟩
  have hrz : ∀ ty, (Builtin.append_ #[22, 3] ty #[.slice (some ⟨b, 0, none⟩) i c, .int .i64 ((n : Int) + 1 - (i : Int))]).run Try.prog w =
      .ok (.slice (some ⟨w.heap.size, 0, none⟩) (n + 1) G) (w.drew.alloc (.cells ROW 39)) := fun ty => by
    have h := Lib.run_append_grow_zeros w 22 3 ty 39 i0 _ .i64 .i64 Try.underlying22 Try.underlying3 hi0 hz0 (some ⟨b, 0, none⟩) i c (evCells (es.take i)) hold (n + 1 - i) (by omega) (by omega) (by omega) (by omega) (by rw [hzb]; omega) (by rw [hzb, hik]; exact growslice_fits hroom (by omega))
    rw [hik, ← hG, ← hROW] at h
    rw [hkk]
    exact h
  have hRs : ROW.size = G * 4 := by
    rw [hROW]
    simp [Builtin.zeroCells, Value.cells, htk]
    omega
  have hRt : ROW.toList.take (i * 4) = evCells (es.take i) := by
    rw [hROW]
    simp only [Array.toList_append, List.append_assoc]
    rw [List.take_left' htk]
  obtain ⟨W1, hW1⟩ : ∃ W1, W1 = w.drew.alloc (.cells ROW 39) := ⟨_, rfl⟩
  rw [← hW1] at hrz
  have hgN : W1.heap[w.heap.size]? = some (.cells ROW 39 (0, 0)) := by rw [hW1]; exact heap_alloc_new w.drew _
  have hOld : ∀ k, k < w.heap.size → W1.heap[k]? = w.heap[k]? := fun k hk => by rw [hW1]; exact heap_alloc_old w.drew _ hk
  obtain ⟨C1, hC1⟩ : ∃ C1, C1 = putAt ROW (i * 4) (evCell e) := ⟨_, rfl⟩
  have hC1s : C1.size = G * 4 := by rw [hC1, putAt_size (by rw [evCell_len]; omega), hRs]
  have hcpA : ∀ (W : World), W.heap = W1.heap → ∀ ty dc, (Builtin.copy_ #[22, 22] ty #[.slice (some ⟨w.heap.size, i * 4, none⟩) (n + 1 - i) dc, .slice (some ⟨vb, 0, none⟩) 1 1]).run Try.prog W = .ok (goInt (Nat.min 1 (n + 1 - i))) (W.setRow w.heap.size C1) := fun W hW ty dc => by
    rw [hC1]
    exact run_copy_at W _ _ ty 39 4 w.heap.size (i * 4) (n + 1 - i) dc ⟨vb, 0, none⟩ 1 1 ROW _ (evCell e) Try.underlying22 ev_size (by rw [hW]; exact hgN) (by rw [evCell_len]; simp only [Nat.min_def]; split <;> omega) (by rw [evCell_len]; omega)
      (fun j v hj => by rw [add_row, Nat.zero_add]; simp [World.cell?, hW, hOld vb hvw, hx]; exact hxe j v hj) (fun v hv => evCell_one e v hv)
  obtain ⟨C2, hC2⟩ : ∃ C2, C2 = putAt C1 ((i + 1) * 4) (evCells (es.drop i)) := ⟨_, rfl⟩
  have hC2s : C2.size = G * 4 := by rw [hC2, putAt_size (by rw [hdl]; omega), hC1s]
  obtain ⟨W2, hW2⟩ : ∃ W2, W2 = W1.setRow w.heap.size C1 := ⟨_, rfl⟩
  have hg2 : W2.heap[w.heap.size]? = some (.cells C1 39 (0, 0)) := by rw [hW2]; exact setRow_heap _ _ _ _ _ _ hgN
  have ho2 : ∀ k, k < w.heap.size → W2.heap[k]? = w.heap[k]? := fun k hk => by rw [hW2, setRow_other _ _ _ _ (by omega)]; exact hOld k hk
  have hcpB : ∀ (W : World), W.heap = W2.heap → ∀ ty dc sc, (Builtin.copy_ #[22, 22] ty #[.slice (some ⟨w.heap.size, (i + 1) * 4, none⟩) (n - i) dc, .slice (some ⟨b, i * 4, none⟩) (n - i) sc]).run Try.prog W = .ok (goInt (Nat.min (n - i) (n - i))) (W.setRow w.heap.size C2) := fun W hW ty dc sc => by
    rw [hC2]
    exact run_copy_at W _ _ ty 39 4 w.heap.size ((i + 1) * 4) (n - i) dc ⟨b, i * 4, none⟩ (n - i) sc C1 _ (evCells (es.drop i)) Try.underlying22 ev_size (by rw [hW]; exact hg2) (by rw [hdl]; simp only [Nat.min_def]; split <;> omega) (by rw [hdl]; omega)
      (fun j v hj => by
        rw [add_row]
        have h1 := hcell (i * 4 + j) v (by rw [evCells_drop, List.getElem?_drop] at hj; exact hj)
        rw [← h1]
        exact World.cell?_of_block (by rw [hW]; exact ho2 b hbw)) (fun v hv => evCells_one _ v hv)
  have hfin : C2.toList.take ((n + 1) * 4) = evCells (es.take i ++ e :: es.drop i) := by
    have hRl : ROW.toList.length = G * 4 := by simpa using hRs
    have hC1l : C1.toList = evCells (es.take i) ++ evCell e ++ ROW.toList.drop (i * 4 + 4) := by
      rw [hC1, ← hRt]
      simp [putAt, evCell_len]
    rw [hC2, evCells_append, show evCells (e :: es.drop i) = evCell e ++ evCells (es.drop i) from rfl]
    have hb1 : C1.toList.take ((i + 1) * 4) = evCells (es.take i) ++ evCell e := by
      rw [hC1l, List.take_left']
      rw [List.length_append, htk, evCell_len]
      omega
    have e1 : (putAt C1 ((i + 1) * 4) (evCells (es.drop i))).toList = (evCells (es.take i) ++ (evCell e ++ evCells (es.drop i))) ++ C1.toList.drop ((i + 1) * 4 + (evCells (es.drop i)).length) := by
      unfold putAt
      rw [hb1]
      simp
    rw [e1, List.take_left']
    rw [List.length_append, List.length_append, htk, evCell_len, hdl]
    omega
  have hGi : ¬ (G = i) := by omega
  have hGim : ¬ (G = i + 1) := by omega
  have hci : ¬ (c = i) := by omega
  have hw1 : IntKind.i64.wrap ((i : Int) + 1) = (i : Int) + 1 := by rw [IntKind.wrap_i64]; omega
  have hw2 : IntKind.i64.wrap ((n : Int) + 1) = (n : Int) + 1 := by rw [IntKind.wrap_i64]; omega
  have hw3 : IntKind.i64.wrap ((n : Int) + 1 - (i : Int)) = (n : Int) + 1 - (i : Int) := by rw [IntKind.wrap_i64]; omega
  have hb1 : (0 : Int) ≤ (i : Int) + 1 := by omega
  have hin : i ≤ n := by omega
  have htn : ((i : Int) + 1).toNat = i + 1 := by omega
  have hb3 : (i : Int) ≤ (n : Int) + 1 := by omega
  have hR1 : ∀ W : World, W.heap = W2.heap → (W.setRow w.heap.size C2).heap = (w.alloc (.cells C2 39)).heap := fun W hW => by
    have h0 : (W.setRow w.heap.size C2).heap = (W2.setRow w.heap.size C2).heap := by unfold World.setRow; simp only [hW]
    rw [h0, hW2, hW1, setRow_setRow]
    have h1 : (w.drew.alloc (.cells ROW 39)).setRow w.heap.size C2 = w.drew.alloc (.cells C2 39) := alloc_setRow w.drew _ _ _
    rw [h1]
    rfl
  have hR2 : W2.os = w.os ∧ W2.tape = w.tape ∧ W2.output = w.output := by rw [hW2, hW1]; exact ⟨rfl, rfl, rfl⟩
  have hW2h' : W2 = W1.setRow w.heap.size C1 := hW2
  have hW1h : W1.os = w.os ∧ W1.tape = w.tape ∧ W1.output = w.output := by rw [hW1]; exact ⟨rfl, rfl, rfl⟩
  clear hkk hik hold hROW hG hRt hC1 hC2 hW1 hW2 hg2 ho2 hgN hOld hcell ht hg hx hn hdl htk hRs hC1s hi0 hz0 hzs hzb
  have hP : Hid (n + 1 ≤ G ∧ G ≤ maxLen ∧ C2.size = G * 4 ∧ C2.toList.take ((n + 1) * 4) = evCells (es.take i ++ e :: es.drop i)) := ⟨hGn, hGm, hC2s, hfin⟩
  clear hC2s hfin
  go_enter Try.func36, Try.ntmps36
  go_wp2_with (first
    | (at_builtin; refine Lib.wpList_append_run _ rfl _ _ _ _ rfl _ _ rfl rfl _ _ (hrz _) ?_)
    | (at_builtin; refine wpList_copy_runI _ rfl _ _ 22 22 rfl _ _ rfl rfl (hcpA _ rfl _ _) ?_))
  rw [← hW2h'] at *
  go_region_law (refine step_copy_runI rfl _ _ 22 22 rfl (.slice (some ⟨w.heap.size, (i + 1) * 4, none⟩) (n - i) (G - (i + 1))) (.slice (some ⟨b, i * 4, none⟩) (n - i) (c - i)) (by simp [Act.eval, Act.put]) (by simp [Act.eval, Act.put]) (hcpB (World.drew W2) rfl 3 (G - (i + 1)) (c - i)) ?_)
  go_wp2
  go_ret
  exact ⟨G, C2, rfl, hP.out.1, hP.out.2.1, hR2.1, hR2.2.1, hR2.2.2, hR1 _ rfl, hP.out.2.2.1, hP.out.2.2.2⟩

/-- An event more in the middle of a row. -/
def insAt (es : List Ev) (i : Nat) (e : Ev) : List Ev := es.take i ++ e :: es.drop i
theorem insAt_length (es : List Ev) (i : Nat) (e : Ev) : (insAt es i e).length = es.length + 1 := by
  unfold insAt
  rw [List.length_append, List.length_cons, List.length_take, List.length_drop]
  omega
def InsR (B : Nat) (w : World) (v : Value) (es : List Ev) (r : Ending) (w' : World) : Prop :=
  ∃ v', r = .returned v' ∧ OwnE w' B v' es ∧ Below B w w' ∧ w.grownBy w' v.ownBlock ∧ (v'.ownBlock = v.ownBlock ∨ v'.ownBlock = some w.heap.size)

set_option maxHeartbeats 4000000 in
set_option maxRecDepth 100000 in
/-- At the end. -/
theorem insert_end (B : Nat) (a : Option Addr) (n c vb : Nat) (es : List Ev) (e : Ev) (w : World) (x : Array Value) (tx : TypeId) (hn : n = es.length) (hc : n ≤ 1000000) (hB : B ≤ w.heap.size) (hca : a = none → c = 0) (hnc : n ≤ c) (ha : a = none ∨ ∃ b, a = some ⟨b, 0, none⟩)
    (hown : OwnE w B (.slice a n c) es) (hx : w.heap[vb]? = some (.cells x tx (0, 0))) (hxe : ∀ (j : Nat) (v : Value), (evCell e)[j]? = some v → x[j]? = some v) :
    Calls Try.prog 36 #[.slice a n c, .int .i64 n, .slice (some ⟨vb, 0, none⟩) 1 1] w (InsR B w (.slice a n c) (insAt es n e)) := by
  have he : insAt es n e = es ++ [e] := by unfold insAt; rw [hn, List.take_length, List.drop_length]
  rw [he]
  obtain ⟨i0, hi0, hzz⟩ := Option.map_eq_some_iff.1 infoEv
  simp only [Prod.mk.injEq] at hzz
  obtain ⟨hz0, hzs, hzb⟩ := hzz
  have HO : Hid (w.ownsRow B 39 4 (.slice a n c) n (evCells es)) := by
    have h : w.ownsRow B 39 4 (.slice a n c) es.length (evCells es) := hown
    rw [← hn] at h
    exact h
  have hnews : ∀ j u, (evCell e)[j]? = some u → w.cell? ((⟨vb, 0, none⟩ : Addr).add j) = some u := fun j v hj => by rw [add_row, Nat.zero_add]; simp [World.cell?, hx]; exact hxe j v hj
  have HN := Lib.hid hn
  clear hown hx hxe hn he
  go_enter Try.func36, Try.ntmps36
  rcases ha with rfl | ⟨b, rfl⟩
  · obtain rfl : c = 0 := hca rfl
    obtain rfl : n = 0 := by omega
    go_wp2_with (at_builtin; refine wpList_append_own_at _ rfl _ _ 22 rfl B 39 i0 _ 4 32 Try.underlying22 hi0 hz0 hzs hzb rfl (by decide) _ _ _ rfl HO.out ⟨vb, 0, none⟩ 1 1 (evCell e) rfl rfl hnews (evCell_one e) (by unfold maxLen; omega) (by omega) hB ?_; intro v' w' h1 h2 _ h4)
    go_ret
    exact ⟨v', rfl, (by unfold OwnE; rw [List.length_append, evCells_append, ← HN.out]; exact h1), (Below.refl B w).grown h2 hB (fun k hk => (World.ownsRow.lt HO.out k hk).1), h2, h4⟩
  · go_wp2_with (at_builtin; refine wpList_append_own_at _ rfl _ _ 22 rfl B 39 i0 _ 4 32 Try.underlying22 hi0 hz0 hzs hzb rfl (by decide) _ _ _ rfl HO.out ⟨vb, 0, none⟩ 1 1 (evCell e) rfl rfl hnews (evCell_one e) (by unfold maxLen; omega) (by omega) hB ?_; intro v' w' h1 h2 _ h4)
    all_goals
      go_ret
      exact ⟨v', rfl, (by unfold OwnE; rw [List.length_append, evCells_append, ← HN.out]; exact h1), (Below.refl B w).grown h2 hB (fun k hk => (World.ownsRow.lt HO.out k hk).1), h2, h4⟩

theorem setCells2_grown (w : World) (b : Nat) (A1 A2 : Array Value) : w.grownBy ((w.drew.setRow b A1).setRow b A2) (some b) :=
  ⟨rfl, rfl, rfl, by simp, fun k _ hk => by rw [setRow_other _ _ _ _ (fun e => hk (by rw [e])), setRow_other _ _ _ _ (fun e => hk (by rw [e]))]; rfl⟩

/-- Wherever it goes. -/
theorem insert_any (B : Nat) (v : Value) (i vb : Nat) (es : List Ev) (e : Ev) (w : World) (x : Array Value) (tx : TypeId) (hi : i ≤ es.length) (hm : es.length ≤ 1000) (hB : B ≤ w.heap.size)
    (hown : OwnE w B v es) (hx : w.heap[vb]? = some (.cells x tx (0, 0))) (hxe : ∀ (j : Nat) (v : Value), (evCell e)[j]? = some v → x[j]? = some v) (hv : v.ownBlock ≠ some vb) :
    Calls Try.prog 36 #[v, .int .i64 i, .slice (some ⟨vb, 0, none⟩) 1 1] w (InsR B w v (insAt es i e)) := by
  have hO : w.ownsRow B 39 4 v es.length (evCells es) := hown
  obtain ⟨h1, ⟨h2, h3⟩ | ⟨g, cap, cur, h2, h3, h4, h5, h6, h7, h8⟩⟩ := hO
  · obtain rfl : i = es.length := by omega
    subst h2
    have h := insert_end B none 0 0 vb es e w x tx h3.symm (by omega) hB (fun _ => rfl) (Nat.le_refl _) (.inl rfl) hown hx hxe
    rw [h3]
    exact h
  · subst h2
    by_cases hin : i = es.length
    · subst hin
      exact insert_end B (some ⟨g, 0, none⟩) es.length cap vb es e w x tx rfl (by omega) hB (by simp) h5 (.inr ⟨g, rfl⟩) hown hx hxe
    · have hlt : i < es.length := by omega
      have hvb : vb ≠ g := fun e => hv (by rw [e]; rfl)
      have hgw : g < w.heap.size := (Array.getElem?_eq_some_iff.1 h4).1
      by_cases hroom : es.length + 1 ≤ cap
      · refine (insert_shift g es.length cap i vb es e w cur x tx rfl hlt hroom h6 hvb h4 h7 h8 hx hxe).mono ?_
        rintro r w' ⟨rfl, rfl⟩
        have hgr := setCells2_grown w g (putAt cur ((i + 1) * 4) (evCells (es.drop i))) (putAt (putAt cur ((i + 1) * 4) (evCells (es.drop i))) (i * 4) (evCell e))
        have hdl : (evCells (es.drop i)).length = (es.length - i) * 4 := by rw [evCells_length, List.length_drop]
        have hs1 : (putAt cur ((i + 1) * 4) (evCells (es.drop i))).size = cap * 4 := by rw [putAt_size (by rw [hdl, h7]; omega), h7]
        have hs2 : (putAt (putAt cur ((i + 1) * 4) (evCells (es.drop i))) (i * 4) (evCell e)).size = cap * 4 := by rw [putAt_size (by rw [evCell_len, hs1]; omega), hs1]
        refine ⟨_, rfl, ?_, (Below.refl B w).grown hgr hB (fun k hk => (World.ownsRow.lt hown k hk).1), hgr, .inl rfl⟩
        refine ⟨by rw [evCells_length], .inr ⟨g, cap, _, by rw [insAt_length], h3, setRow_heap _ _ _ _ _ _ (setRow_heap _ _ _ _ _ _ h4), by rw [insAt_length]; exact hroom, h6, hs2, ?_⟩⟩
        rw [insAt_length]
        exact shifted (by omega) h7 hroom h8
      · refine (insert_grow g es.length cap i vb es e w cur x tx rfl hlt (by omega) h5 (by omega) h4 h8 hx hxe).mono ?_
        rintro r w' ⟨G, C, rfl, g1, g2, g3, g4, g5, g6, g7, g8⟩
        have hsz : w'.heap.size = w.heap.size + 1 := by rw [g6]; simp
        have hgr : w.grownBy w' (some g) := ⟨g3, g4, g5, by omega, fun k hk _ => by rw [g6]; exact heap_alloc_old w _ hk⟩
        refine ⟨_, rfl, ?_, (Below.refl B w).grown hgr hB (fun k hk => (World.ownsRow.lt hown k hk).1), hgr, .inr rfl⟩
        refine ⟨by rw [evCells_length], .inr ⟨w.heap.size, G, C, by rw [insAt_length], hB, by rw [g6]; exact heap_alloc_new w _, by rw [insAt_length]; exact g1, g2, g7, ?_⟩⟩
        rw [insAt_length]
        exact g8

end Go.Proofs.Ytljlaopjimkcmaa
