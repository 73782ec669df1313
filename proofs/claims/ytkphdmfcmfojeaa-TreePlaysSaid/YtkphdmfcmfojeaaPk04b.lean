import Derived.Laws.CopyOwn
import Derived.Lib.SliceRun
import Derived.Deep.OwnRows
import Derived.Laws.Shifts
import Derived.Deep.RegionHeld
import Derived.OrdersHeld
import Derived.BigQuiet
import Derived.Test.YtkphdmfcmfojeaaPk01
import Derived.Test.YtkphdmfcmfojeaaPk02
import Derived.Test.YtkphdmfcmfojeaaPk03
import Derived.Test.YtkphdmfcmfojeaaPk04

/- copy(dst, src) of elements of any number of cells, dst a whole row of the call's own of the same length. -/
namespace Go.Proofs.Ytkphdmfcmfojeaa
open Go.RowKit

theorem run_copy_all {P : Program} (w : World) (dT sT ty elem : TypeId) (k g n dCap : Nat) (sp : Option Addr) (sCap : Nat) (cur : Array Value) (t : TypeId) (cs : List Value)
    (hu : P.underlying dT = some (.slice elem)) (hs : (P.info? elem).map (·.size) = some k)
    (hg : w.heap[g]? = some (.cells cur t (0, 0))) (hcs : cs.length = n * k) (hcur : cur.size = n * k)
    (hsrc : cs ≠ [] → ∃ ad, sp = some ad ∧ ∀ j v, cs[j]? = some v → w.cell? (ad.add j) = some v) (h1 : ∀ v ∈ cs, v.oneCell' = true) :
    (Builtin.copy_ #[dT, sT] ty #[.slice (some ⟨g, 0, none⟩) n dCap, .slice sp n sCap]).run P w = .ok (goInt n) (w.setRow g cs.toArray) := by
  cases hq : P.info? elem with
  | none => simp [hq] at hs
  | some i =>
    have hi : i.size = k := by simpa [hq] using hs
    by_cases h0 : cs = []
    · subst h0
      have hnk : n * k = 0 := by simpa using hcs.symm
      have e1 : cur = #[] := Array.eq_empty_of_size_eq_zero (by omega)
      subst e1
      have hl : ∀ (x : Addr), (loadCells x 0).run P w = .ok #[] w := fun x => by simpa using run_loadCells_list (P := P) w x [] (by simp)
      have hse : w.setRow g #[] = w := setRow_self w g #[] t (0, 0) hg
      cases sp <;> simp [Builtin.copy_, run_underlying hu, Builtin.lenOf, Builtin.firstCells, sizeOf, typeInfo, hq, hi, hnk, storeCells, hl, hse]
    · obtain ⟨ad, rfl, hsrc'⟩ := hsrc h0
      have hl := run_loadCells_list (P := P) w ad cs hsrc'
      have hst := run_storeCells_at P g 0 t cs 0 cur w hg (by omega) h1
      have hd : List.drop cs.length cur.toList = [] := by rw [List.drop_eq_nil_iff]; simp; omega
      simp [hd] at hst
      simp [Builtin.copy_, run_underlying hu, Builtin.lenOf, Builtin.firstCells, sizeOf, typeInfo, hq, hi, ← hcs, hl, hst]

theorem wpList_copy_all {P : Program} {w : World} {ops : Array Oper} {rest : List Oper} {o : Oper} {a : Act} {Q : Exit → Act → World → Prop} (hgd : o.guard = none) (d s : Operand) (dT sT : TypeId)
    (ho : o.op = .call { callee := .builtin .copy, args := #[d, s], argTypes := #[dT, sT] }) (elem : TypeId) (k : Nat) (hu : P.underlying dT = some (.slice elem)) (hsz : (P.info? elem).map (·.size) = some k)
    (g n dCap : Nat) (sp : Option Addr) (sCap : Nat) (hd : a.eval d = .slice (some ⟨g, 0, none⟩) n dCap) (hs : a.eval s = .slice sp n sCap)
    (cur : Array Value) (t : TypeId) (hg : w.heap[g]? = some (.cells cur t (0, 0))) (cs : List Value) (hcs : cs.length = n * k) (hcur : cur.size = n * k)
    (hsrc : cs ≠ [] → ∃ ad, sp = some ad ∧ ∀ j v, cs[j]? = some v → w.cell? (ad.add j) = some v) (h1 : ∀ v ∈ cs, v.oneCell' = true)
    (h : wpList P ops Q rest (a.put o.dst (goInt n)) (w.setRow g cs.toArray)) : wpList P ops Q (o :: rest) a w := by
  refine wpList_plain hgd fun K hK => ?_
  have hrun := run_copy_all (P := P) w dT sT o.type elem k g n dCap sp sCap cur t cs hu hsz hg hcs hcur hsrc h1
  unfold Oper.wp
  simp [execOp, ho, resolve, invoke, builtin, hd, hs, hrun, Result.andThen]
  exact hK _ _ h

theorem modify_push {α : Type} (xs : Array α) (x : α) (f : α → α) : (xs.push x).modify xs.size f = xs.push (f x) := by
  apply Array.ext_getElem?
  intro i
  rw [Array.getElem?_modify, Array.getElem?_push, Array.getElem?_push]
  by_cases h : xs.size = i
  · rw [if_pos h, if_pos h.symm, if_pos h.symm]; rfl
  · rw [if_neg h, if_neg (fun e => h e.symm), if_neg (fun e => h e.symm)]

theorem alloc_setRow (w : World) (c cs : Array Value) (t : TypeId) : (w.alloc (.cells c t)).setRow w.heap.size cs = w.alloc (.cells cs t) := by
  show ({ w with heap := (w.heap.push (.cells c t)).modify w.heap.size _ } : World) = { w with heap := w.heap.push (.cells cs t) }
  rw [modify_push]
end Go.Proofs.Ytkphdmfcmfojeaa

/- The contracts of copyList. -/
namespace Go.Proofs.Ytkphdmfcmfojeaa
open Go.RowKit

set_option maxHeartbeats 1000000 in
theorem copyIns_nil (w : World) :
    Calls Try.prog 76 #[.slice none 0 0] w fun r w' => r = .returned (.slice none 0 0) ∧ w = w' := by
  have he := fun w => Lib.run_eql_slice_nil (P := Try.prog) w 95 94 none 0 0 0 0 Try.underlying95
  go_enter Try.func76, Try.ntmps76
  go_wp2
  go_ret
  exact ⟨rfl, rfl⟩

set_option maxHeartbeats 1000000 in
theorem copyIns_any (b : Addr) (cap : Nat) (l : List Ins) (w : World) (hc0 : ∀ j v, (insCells l)[j]? = some v → w.cell? (b.add j) = some v) (hm : l.length ≤ 1000000) :
    Calls Try.prog 76 #[.slice (some b) l.length cap] w fun r w' => r = .returned (.slice (some ⟨w.heap.size, 0, none⟩) l.length l.length) ∧ w.alloc (.cells (insCells l).toArray 94) = w' := by
  have he := fun w => Lib.run_eql_slice_nil (P := Try.prog) w 95 94 (some b) l.length cap 0 0 Try.underlying95
  have hc := Lib.hid hc0
  clear hc0
  have hmk := run_make_k (P := Try.prog) 95 94 (.agg #[.int .i64 0, .int .i64 0, .int .i64 0, .int .i64 0]) 4 32 Try.underlying95 (by kernel_rfl) l.length (by omega) (by omega)
  have hcp : (Builtin.copy_ #[95, 95] 3 #[.slice (some ⟨w.heap.size, 0, none⟩) l.length l.length, .slice (some b) l.length cap]).run Try.prog
      (w.alloc (.cells (madeCells #[.int .i64 0, .int .i64 0, .int .i64 0, .int .i64 0] (l.length * 4)) 94)) = .ok (.int .i64 l.length) (w.alloc (.cells (insCells l).toArray 94)) := by
    have := run_copy_all (P := Try.prog) (w.alloc (.cells (madeCells #[.int .i64 0, .int .i64 0, .int .i64 0, .int .i64 0] (l.length * 4)) 94)) 95 95 3 94 4 w.heap.size l.length l.length
      (some b) cap (madeCells #[.int .i64 0, .int .i64 0, .int .i64 0, .int .i64 0] (l.length * 4)) 94 (insCells l) Try.underlying95 (by kernel_rfl) (MapKept.heap_alloc w _).1 (insCells_length l) (size_madeCells _ _)
      (fun _ => ⟨_, rfl, fun j v hv => cell_later (below_alloc1 w _) (hc.out j v hv)⟩) (insCells_one l)
    rw [alloc_setRow] at this
    exact this
  go_enter Try.func76, Try.ntmps76
  go_wp2
  go_ret
  exact ⟨rfl, rfl⟩

/-- The values of a list of codes. -/
def slV (c : Option Addr × Nat × Nat) : Value := .slice c.1 c.2.1 c.2.2

set_option maxHeartbeats 1000000 in
theorem copyThreads_nil (w : World) :
    Calls Try.prog 75 #[.slice none 0 0] w fun r w' => r = .returned (.slice none 0 0) ∧ w = w' := by
  have he := fun w => Lib.run_eql_slice_nil (P := Try.prog) w 22 95 none 0 0 0 0 Try.underlying22
  go_enter Try.func75, Try.ntmps75
  go_wp2
  go_ret
  exact ⟨rfl, rfl⟩

set_option maxHeartbeats 1000000 in
theorem copyThreads_any (b : Addr) (cap : Nat) (cs : List (Option Addr × Nat × Nat)) (w : World) (hc : ∀ j v, (cs.map slV)[j]? = some v → w.cell? (b.add j) = some v) (hm : cs.length ≤ 1000000) :
    Calls Try.prog 75 #[.slice (some b) cs.length cap] w fun r w' => r = .returned (.slice (some ⟨w.heap.size, 0, none⟩) cs.length cs.length) ∧ w.alloc (.cells (cs.map slV).toArray 95) = w' := by
  have he := fun w => Lib.run_eql_slice_nil (P := Try.prog) w 22 95 (some b) cs.length cap 0 0 Try.underlying22
  have hmk := run_make_k (P := Try.prog) 22 95 (.slice none 0 0) 1 24 Try.underlying22 (by kernel_rfl) cs.length (by omega) (by omega)
  have hcp : (Builtin.copy_ #[22, 22] 3 #[.slice (some ⟨w.heap.size, 0, none⟩) cs.length cs.length, .slice (some b) cs.length cap]).run Try.prog
      (w.alloc (.cells (madeCells #[.slice none 0 0] cs.length) 95)) = .ok (.int .i64 cs.length) (w.alloc (.cells (cs.map slV).toArray 95)) := by
    have := run_copy_all (P := Try.prog) (w.alloc (.cells (madeCells #[.slice none 0 0] cs.length) 95)) 22 22 3 95 1 w.heap.size cs.length cs.length
      (some b) cap (madeCells #[.slice none 0 0] cs.length) 95 (cs.map slV) Try.underlying22 (by kernel_rfl) (MapKept.heap_alloc w _).1 (by simp) (by simp [size_madeCells])
      (fun _ => ⟨_, rfl, fun j v hv => cell_later (below_alloc1 w _) (hc j v hv)⟩) (by intro v hv; obtain ⟨x, _, rfl⟩ := List.mem_map.1 hv; rfl)
    rw [alloc_setRow] at this
    exact this
  clear hc
  have HW : ∃ cv, cv = (cs.map slV).toArray := ⟨_, rfl⟩
  obtain ⟨cv, hcv⟩ := HW
  rw [← hcv] at hcp ⊢
  have HC := Lib.hid hcv
  clear hcv
  go_enter Try.func75, Try.ntmps75
  go_wp2
  go_ret
  exact ⟨rfl, rfl⟩
end Go.Proofs.Ytkphdmfcmfojeaa

/- The contract of Copy. -/
namespace Go.Proofs.Ytkphdmfcmfojeaa
open Go.RowKit

def OwnCode (w : World) (B g0 : Nat) (c : Option Addr) (l : List Ins) : Prop :=
  l ≠ [] → ∃ g, c = some ⟨g, 0, none⟩ ∧ B ≤ g ∧ g ≠ g0 ∧ w.heap[g]? = some (.cells (insCells l).toArray 94 (0, 0))

def OwnThreads (w : World) (B : Nat) (a : Option Addr) (ts : List (List Ins)) : Prop :=
  ts ≠ [] → ∃ g vs, a = some ⟨g, 0, none⟩ ∧ B ≤ g ∧ w.heap[g]? = some (.cells (List.toArray vs) 95 (0, 0)) ∧ vs.length = ts.length ∧
    ∀ i (h : i < ts.length), ∃ c cap, vs[i]? = some (.slice c ts[i].length cap) ∧ (c = none → cap = 0) ∧ OwnCode w B g c ts[i]

theorem OwnThreads.at {w : World} {B : Nat} {a : Option Addr} {ts : List (List Ins)} (h : OwnThreads w B a ts) (hm : ts.length ≤ maxLen) (hms : ∀ l ∈ ts, l.length ≤ maxLen) : ThreadsAt w a ts := by
  refine ⟨hm, fun hn => ?_⟩
  obtain ⟨g, vs, rfl, _, hg, hl, hv⟩ := h hn
  refine ⟨g, 0, rfl, fun i hi => ?_⟩
  obtain ⟨c, cap, h1, h2, h3⟩ := hv i hi
  refine ⟨c, cap, ?_, ⟨hms _ (List.getElem_mem _), fun hne => ?_⟩, h2⟩
  · simp [World.cell?, hg, h1]
  · obtain ⟨g', rfl, _, _, hg'⟩ := h3 hne
    exact (codeAt_row (hms _ (List.getElem_mem _)) hg').2 hne

/-- What a copy of a program is. -/
def CopyPost (p : Pg) (w : World) (r : Ending) (w' : World) : Prop :=
  ∃ a' cap', r = .returned (pgV p a' cap') ∧ (a' = none → cap' = 0) ∧ Below w.heap.size w w' ∧ OwnThreads w' w.heap.size a' p.threads ∧ cap' = p.threads.length

theorem trip_of {w : World} {b o : Nat} {ts : List (List Ins)} (hc : ∀ i (h : i < ts.length), ∃ c cap, w.cell? ⟨b, o + i, none⟩ = some (.slice c ts[i].length cap) ∧ CodeAt w c ts[i] ∧ (c = none → cap = 0)) :
    ∃ cs : List (Option Addr × Nat × Nat), cs.length = ts.length ∧ ∀ i (h : i < ts.length), ∃ c cap, cs[i]? = some (c, ts[i].length, cap) ∧ w.cell? ⟨b, o + i, none⟩ = some (.slice c ts[i].length cap) ∧ CodeAt w c ts[i] ∧ (c = none → cap = 0) := by
  obtain ⟨cs, hl, hx⟩ := exists_list ts.length (fun i (x : Option Addr × Nat × Nat) => ∃ h : i < ts.length, x.2.1 = ts[i].length ∧ w.cell? ⟨b, o + i, none⟩ = some (.slice x.1 x.2.1 x.2.2) ∧ CodeAt w x.1 ts[i] ∧ (x.1 = none → x.2.2 = 0))
    (fun i hi => by obtain ⟨c, cap, h1, h2, h3⟩ := hc i hi; exact ⟨(c, ts[i].length, cap), hi, rfl, h1, h2, h3⟩)
  refine ⟨cs, hl, fun i hi => ?_⟩
  obtain ⟨_, e, h1, h2, h3⟩ := hx i (cs[i]'(by omega)) (List.getElem?_eq_getElem _)
  refine ⟨(cs[i]'(by omega)).1, (cs[i]'(by omega)).2.2, ?_, ?_, h2, h3⟩
  · rw [List.getElem?_eq_getElem (by omega), ← e]
  · rw [h1, e]

theorem OwnThreads.mono {w : World} {B B' : Nat} {a : Option Addr} {ts : List (List Ins)} (h : OwnThreads w B a ts) (hB : B' ≤ B) : OwnThreads w B' a ts := by
  intro hn
  obtain ⟨g, vs, e, hg, h1, h2, h3⟩ := h hn
  refine ⟨g, vs, e, by omega, h1, h2, fun i hi => ?_⟩
  obtain ⟨c, cap, q1, q2, q3⟩ := h3 i hi
  refine ⟨c, cap, q1, q2, fun hne => ?_⟩
  obtain ⟨g', e', h1', h2', h3'⟩ := q3 hne
  exact ⟨g', e', by omega, h2', h3'⟩

theorem OwnThreads.keep {w w' : World} {B : Nat} {a : Option Addr} {ts : List (List Ins)} (h : OwnThreads w B a ts) (hk : ∀ g, B ≤ g → g < w.heap.size → w'.heap[g]? = w.heap[g]?) : OwnThreads w' B a ts := by
  intro hn
  have lt : ∀ {g : Nat} {o : Obj}, w.heap[g]? = some o → g < w.heap.size := fun e => (Array.getElem?_eq_some_iff.1 e).1
  obtain ⟨g, vs, e, hg, h1, h2, h3⟩ := h hn
  refine ⟨g, vs, e, hg, (hk g hg (lt h1)).trans h1, h2, fun i hi => ?_⟩
  obtain ⟨c, cap, q1, q2, q3⟩ := h3 i hi
  refine ⟨c, cap, q1, q2, fun hne => ?_⟩
  obtain ⟨g', e', h1', h2', h3'⟩ := q3 hne
  exact ⟨g', e', h1', h2', (hk g' h1' (lt h3')).trans h3'⟩

theorem row_set {w : World} {g k : Nat} {vs : List Value} {t : TypeId} {fr : Nat × Nat} (h : w.heap[g]? = some (.cells vs.toArray t fr)) (v : Value) :
    (w.setCell ⟨g, k, none⟩ v).heap[g]? = some (.cells (vs.set k v).toArray t fr) := by
  simp [World.setCell, Array.getElem?_modify, h]

/-- The world in the middle of a copy. -/
def CopyRel (w W2 : World) (cs : List (Option Addr × Nat × Nat)) (ts : List (List Ins)) (k : Nat) (wr : World) : Prop :=
  Below (w.heap.size + 1 + 1) W2 wr ∧ ∃ vs : List Value, wr.heap[w.heap.size + 1 + 1]? = some (.cells vs.toArray 95 (0, 0)) ∧ vs.length = ts.length ∧ (∀ i, k ≤ i → vs[i]? = (cs.map slV)[i]?) ∧
    ∀ i (h : i < ts.length), i < k → ∃ c cap, vs[i]? = some (.slice c ts[i].length cap) ∧ (c = none → cap = 0) ∧ OwnCode wr (w.heap.size + 1 + 1) (w.heap.size + 1 + 1) c ts[i]

theorem CopyRel.step {w W2 wr wn : World} {cs : List (Option Addr × Nat × Nat)} {ts : List (List Ins)} {k : Nat} (h : CopyRel w W2 cs ts k wr) (hk : k < ts.length)
    (c : Option Addr) (cap : Nat) (hc : c = none → cap = 0) (hn : Below wr.heap.size wr wn) (ho : OwnCode wn (w.heap.size + 1 + 1) (w.heap.size + 1 + 1) c ts[k]) (n : Nat) (hl : n = ts[k].length) :
    CopyRel w W2 cs ts (k + 1) (wn.setCell ⟨w.heap.size + 1 + 1, k, none⟩ (.slice c n cap)) := by
  subst hl
  obtain ⟨hb, vs, h1, h2, h3, h4⟩ := h
  have hlt : w.heap.size + 1 + 1 < wr.heap.size := (Array.getElem?_eq_some_iff.1 h1).1
  have keep : ∀ {c l}, OwnCode wn (w.heap.size + 1 + 1) (w.heap.size + 1 + 1) c l → ∀ v, OwnCode (wn.setCell ⟨w.heap.size + 1 + 1, k, none⟩ v) (w.heap.size + 1 + 1) (w.heap.size + 1 + 1) c l := by
    intro c l h v hne
    obtain ⟨g, e, q1, q2, q3⟩ := h hne
    exact ⟨g, e, q1, q2, (Below.heap_setCell _ _ _ _ q2).trans q3⟩
  have keep2 : ∀ {c l}, OwnCode wr (w.heap.size + 1 + 1) (w.heap.size + 1 + 1) c l → OwnCode wn (w.heap.size + 1 + 1) (w.heap.size + 1 + 1) c l := by
    intro c l h hne
    obtain ⟨g, e, q1, q2, q3⟩ := h hne
    exact ⟨g, e, q1, q2, (hn.block g ((Array.getElem?_eq_some_iff.1 q3).1)).trans q3⟩
  refine ⟨(hb.trans (hn.mono (by omega))).setCell (by simp) _, vs.set k _, row_set ((hn.block _ hlt).trans h1) _, by simp [h2], fun i hi => ?_, fun i hi hik => ?_⟩
  · rw [List.getElem?_set_ne (by omega)]; exact h3 i (by omega)
  · by_cases e : i = k
    · subst e
      exact ⟨c, cap, by rw [List.getElem?_set_self (by omega)], hc, keep ho _⟩
    · obtain ⟨c', cap', q1, q2, q3⟩ := h4 i hi (by omega)
      exact ⟨c', cap', by rw [List.getElem?_set_ne (by omega)]; exact q1, q2, keep (keep2 q3) _⟩

theorem CopyRel.own {w W2 wr : World} {cs : List (Option Addr × Nat × Nat)} {ts : List (List Ins)} (h : CopyRel w W2 cs ts ts.length wr) : OwnThreads wr (w.heap.size + 1 + 1) (some ⟨w.heap.size + 1 + 1, 0, none⟩) ts := by
  obtain ⟨hb, vs, h1, h2, h3, h4⟩ := h
  exact fun _ => ⟨_, vs, rfl, Nat.le_refl _, h1, h2, fun i hi => h4 i hi hi⟩

set_option maxRecDepth 100000 in
set_option maxHeartbeats 1000000 in
theorem copy_some (V M : Int) (ts : List (List Ins)) (b : Addr) (cap : Nat) (w : World) (cs : List (Option Addr × Nat × Nat)) (hcl : cs.length = ts.length)
    (hcc : ∀ j v, (cs.map slV)[j]? = some v → w.cell? (b.add j) = some v)
    (hco : ∀ i (h : i < ts.length), ∃ c ccap, cs[i]? = some (c, ts[i].length, ccap) ∧ CodeAt w c ts[i] ∧ (c = none → ccap = 0)) (hm : ts.length ≤ 1000000) (hms : ∀ l ∈ ts, l.length ≤ 1000000) :
    Calls Try.prog 48 #[.agg #[.int .i64 V, .int .i64 M, .slice (some b) ts.length cap]] w (CopyPost ⟨V, M, ts⟩ w) := by
  have HCC := Lib.hid hcc
  have HCO := Lib.hid hco
  have HMS := Lib.hid hms
  have HCL := Lib.hid hcl
  have hm2 : cs.length ≤ 1000000 := by omega
  clear hcc hco hms
  rw [← hcl]
  clear hcl
  go_enter Try.func48, Try.ntmps48
  go_wp2_with fail
  refine (copyThreads_any b cap cs _ ?hx hm2).mono ?_
  case hx => 
    intro j v hv
    exact cell_later (below_alloc2 w _ _) (HCC.out j v hv)
  rintro r w1 ⟨rfl, rfl⟩
  go_wp2_with fail
  go_loopw [11] (fun i wr => ∃ k : Nat, k ≤ cs.length ∧ i = .int .i64 k ∧ CopyRel w ((w.alloc (.cells #[.int .i64 V, .int .i64 M, .slice (some b) cs.length cap] 24)).alloc (.cells #[.int .i64 0, .int .i64 0, .slice none 0 0] 24)) cs ts k wr) (fun i _ => cs.length - (intOf i).toNat)
  case atStart =>
    refine ⟨0, Nat.zero_le _, rfl, (Below.refl _ _).alloc (by simp) _, cs.map slV, ?_, by rw [← HCL.out]; simp, fun i _ => rfl, fun i _ h => absurd h (by omega)⟩
    have := (MapKept.heap_alloc ((w.alloc (.cells #[.int .i64 V, .int .i64 M, .slice (some b) cs.length cap] 24)).alloc (.cells #[.int .i64 0, .int .i64 0, .slice none 0 0] 24)) (.cells (cs.map slV).toArray 95)).1
    simpa using this
  case round =>
    obtain ⟨k, hk, rfl, hR⟩ := hrel
    have hb := hR.1
    have p0 : wr.cell? ⟨w.heap.size, 0, none⟩ = some (.int .i64 V) := by rw [hb.cell (p := ⟨w.heap.size, 0, none⟩) (by simp; omega)]; simp
    have p1 : wr.cell? ⟨w.heap.size, 1, none⟩ = some (.int .i64 M) := by rw [hb.cell (p := ⟨w.heap.size, 1, none⟩) (by simp; omega)]; simp
    have hz : w.heap.size + 1 + 1 ≤ wr.heap.size := by have := hb.size; simp at this; omega
    have hbw : Below w.heap.size w wr := (below_alloc2 w _ _).trans (hb.mono (by omega))
    by_cases hlt : k < cs.length
    · have hkt : k < ts.length := by have := HCL.out; omega
      obtain ⟨c, ccap, e1, hc1, hc2⟩ := HCO.out k hkt
      obtain ⟨_, vs, v1, v2, v3, v4⟩ := id hR
      have hcell : wr.cell? ⟨w.heap.size + 1 + 1, k, none⟩ = some (.slice c ts[k].length ccap) := by
        have := v3 k (Nat.le_refl _)
        rw [List.getElem?_map, e1] at this
        simp [World.cell?, v1, this, slV]
      have hfr : wr.frozen? ⟨w.heap.size + 1 + 1, k, none⟩ = false := by simp [World.frozen?, v1]
      have hz2 : w.heap.size + 1 + 1 < wr.heap.size := (Array.getElem?_eq_some_iff.1 v1).1
      have HR := Lib.hid hR
      have hkm : ts[k].length ≤ 1000000 := HMS.out _ (List.getElem_mem _)
      have HC1 := Lib.hid (hc1.later hbw)
      clear v1 v2 v3 v4 hR e1 hc1
      obtain ⟨l, hl⟩ : ∃ l, l = ts[k] := ⟨_, rfl⟩
      rw [← hl] at hcell hkm
      have HLk := Lib.hid hl
      clear hl
      cases c with
      | none =>
        obtain rfl : ccap = 0 := hc2 rfl
        have hl0 : l = [] := by
          rw [HLk.out]
          by_cases e : ts[k] = []
          · exact e
          · obtain ⟨_, _, h, _⟩ := HC1.out.2 e; cases h
        subst hl0
        clear hc2
        dsimp only [List.length_nil] at hcell
        go_wp2_with fail
        refine (copyIns_nil _).mono ?_
        rintro r w1 ⟨rfl, rfl⟩
        have hst := HR.out.step hkt none 0 (fun _ => rfl) (Below.refl _ _) (by intro hne; exact absurd HLk.out.symm hne) 0 (by rw [← HLk.out]; rfl)
        have HST := Lib.hid hst
        clear hst
        go_wp2
        go_roundw
        case rel => exact ⟨k + 1, by omega, by go_num, HST.out⟩
        case measure => simp [intOf]; omega
      | some a =>
        clear hc2
        have hcs : ∀ j v, (insCells l)[j]? = some v → wr.cell? (a.add j) = some v := by
          intro j v hv
          rw [HLk.out] at hv
          by_cases e : ts[k] = []
          · rw [e] at hv; simp [insCells] at hv
          · obtain ⟨b', o', h, _⟩ := HC1.out.2 e
            obtain rfl : a = ⟨b', o', none⟩ := by simpa using h
            exact CodeAt.cells HC1.out j v hv
        have HCS := Lib.hid hcs
        clear hcs
        go_wp2_with fail
        refine (copyIns_any a ccap l _ HCS.out hkm).mono ?_
        rintro r w1 ⟨rfl, rfl⟩
        have hst := HR.out.step hkt (some ⟨wr.heap.size, 0, none⟩) l.length (by simp) (below_alloc1 wr (.cells (insCells l).toArray 94)) (by
          intro _
          exact ⟨wr.heap.size, rfl, by omega, by omega, by rw [← HLk.out]; exact (MapKept.heap_alloc wr _).1⟩) l.length (by rw [← HLk.out])
        rw [World.setCell_alloc_past _ _ _ _ hz2] at hst
        have HST := Lib.hid hst
        clear hst
        go_wp2
        go_roundw
        case rel => exact ⟨k + 1, by omega, by go_num, HST.out⟩
        case measure => simp [intOf]; omega
    · obtain rfl : k = cs.length := by omega
      have z0 : (wr.cell? ⟨w.heap.size + 1, 0, none⟩) = some (.int .i64 0) := by rw [hb.cell (p := ⟨w.heap.size + 1, 0, none⟩) (by simp)]; simp
      have z1 : (wr.cell? ⟨w.heap.size + 1, 1, none⟩) = some (.int .i64 0) := by rw [hb.cell (p := ⟨w.heap.size + 1, 1, none⟩) (by simp)]; simp
      have z2 : (wr.cell? ⟨w.heap.size + 1, 2, none⟩) = some (.slice none 0 0) := by rw [hb.cell (p := ⟨w.heap.size + 1, 2, none⟩) (by simp)]; simp
      have f0 : ∀ j, (wr.frozen? ⟨w.heap.size + 1, j, none⟩) = false := fun j => by rw [hb.frozen (p := ⟨w.heap.size + 1, j, none⟩) (by simp)]; simp
      go_wp2
      have hfin : OwnThreads (((wr.setCell ⟨w.heap.size + 1, 0, none⟩ (.int .i64 V)).setCell ⟨w.heap.size + 1, 1, none⟩ (.int .i64 M)).setCell ⟨w.heap.size + 1, 2, none⟩ (.slice (some ⟨w.heap.size + 1 + 1, 0, none⟩) cs.length cs.length)) w.heap.size (some ⟨w.heap.size + 1 + 1, 0, none⟩) ts := by
        have h := hR
        rw [HCL.out] at h
        refine (h.own.keep (fun g hg _ => ?_)).mono (by omega)
        rw [Below.heap_setCell _ _ _ _ (by simp; omega), Below.heap_setCell _ _ _ _ (by simp; omega), Below.heap_setCell _ _ _ _ (by simp; omega)]
      have hbf := ((hbw.setCell (p := ⟨w.heap.size + 1, 0, none⟩) (by simp) (.int .i64 V)).setCell (p := ⟨w.heap.size + 1, 1, none⟩) (by simp) (.int .i64 M)).setCell (p := ⟨w.heap.size + 1, 2, none⟩) (by simp) (.slice (some ⟨w.heap.size + 1 + 1, 0, none⟩) cs.length cs.length)
      exact bodyPost_ret (v := .agg #[.int .i64 V, .int .i64 M, .slice (some ⟨w.heap.size + 1 + 1, 0, none⟩) cs.length cs.length]) (by simp [results, Try.results48, go_sem, z0, z1, z2]) rfl
        ⟨some ⟨w.heap.size + 1 + 1, 0, none⟩, cs.length, by rw [HCL.out]; rfl, by simp, hbf, hfin, HCL.out⟩

set_option maxRecDepth 100000 in
set_option maxHeartbeats 1000000 in
theorem copy_none (V M : Int) (w : World) :
    Calls Try.prog 48 #[.agg #[.int .i64 V, .int .i64 M, .slice none 0 0]] w (CopyPost ⟨V, M, []⟩ w) := by
  go_enter Try.func48, Try.ntmps48
  go_wp2_with fail
  refine (copyThreads_nil _).mono ?_
  rintro r w1 ⟨rfl, rfl⟩
  go_wp2_with fail
  refine wp_loop_rounds 1 ?_
  rw [rounds_succ]
  go_wp2
  have hbf := below_alloc2 w (.cells #[.int .i64 V, .int .i64 M, .slice none 0 0] 24) (.cells #[.int .i64 V, .int .i64 M, .slice none 0 0] 24)
  exact bodyPost_ret (v := .agg #[.int .i64 V, .int .i64 M, .slice none 0 0]) (by simp [results, Try.results48, go_sem]) rfl
        ⟨none, 0, rfl, by simp, hbf, fun h => absurd rfl h, rfl⟩

theorem copy_any (p : Pg) (a : Option Addr) (cap : Nat) (w : World) (hp : ThreadsAt w a p.threads) (ha : a = none → cap = 0) (hm : p.threads.length ≤ 1000000) (hms : ∀ l ∈ p.threads, l.length ≤ 1000000) :
    Calls Try.prog 48 #[pgV p a cap] w (CopyPost p w) := by
  obtain ⟨V, M, ts⟩ := p
  dsimp only at *
  cases a with
  | none =>
    obtain rfl := ha rfl
    have e : ts = [] := by
      by_cases e : ts = []
      · exact e
      · obtain ⟨_, _, h, _⟩ := hp.2 e; cases h
    subst e
    exact copy_none V M w
  | some b =>
    by_cases e : ts = []
    · subst e
      exact copy_some V M [] b cap w [] rfl (by simp) (by simp) (by simp) (by simp)
    · obtain ⟨b', o', h, hc⟩ := hp.2 e
      obtain rfl : b = ⟨b', o', none⟩ := by simpa using h
      obtain ⟨cs, hl, hx⟩ := trip_of hc
      refine copy_some V M ts ⟨b', o', none⟩ cap w cs hl ?_ ?_ hm hms
      · intro j v hv
        have hj : j < ts.length := by
          have := (List.getElem?_eq_some_iff.1 hv).1
          simp at this
          omega
        obtain ⟨c, ccap, h1, h2, _⟩ := hx j hj
        rw [List.getElem?_map, h1] at hv
        have hv' : Value.slice c ts[j].length ccap = v := by simpa [slV] using hv
        subst hv'
        have : Addr.add ⟨b', o', none⟩ j = ⟨b', o' + j, none⟩ := by
          unfold Addr.add
          split
          · rename_i h0; subst h0; rfl
          · rfl
        rw [this]; exact h2
      · intro i hi
        obtain ⟨c, ccap, h1, _, h3, h4⟩ := hx i hi
        exact ⟨c, ccap, h1, h3, h4⟩
end Go.Proofs.Ytkphdmfcmfojeaa

/- The contracts of sleep's sets. -/
namespace Go.Proofs.Ytkphdmfcmfojeaa
open Go.RowKit

theorem alone_mid : ∀ k : Fin 8, (2 : Int) ^ k.val % 256 = ((aloneN (k.val : Int) : Nat) : Int) := by decide +kernel
set_option maxRecDepth 100000 in
theorem alone_any (t : Int) (w : World) : Calls Try.prog 68 #[.int .i64 t] w fun r w' => r = .returned (.int .u8 (aloneN t : Nat)) ∧ w = w' := by
  by_cases h0 : t < 0
  · have HA : Hid (aloneN t = 0) := by show _ = _; unfold aloneN; rw [if_neg (by omega)]
    go_enter Try.func68, Try.ntmps68
    go_wp2
    go_ret
    exact ⟨by rw [HA.out]; rfl, rfl⟩
  · by_cases h8 : t < 8
    · obtain ⟨k, rfl⟩ : ∃ k : Nat, t = k := ⟨t.toNat, by omega⟩
      have HA := Lib.hid (alone_mid ⟨k, by omega⟩)
      have h9 : ¬ ((k : Int) ≥ 8) := by omega
      go_enter Try.func68, Try.ntmps68
      go_wp2
      go_ret
      exact ⟨by rw [← HA.out]; rfl, rfl⟩
    · have HA : Hid (aloneN t = 0) := by show _ = _; unfold aloneN; rw [if_neg (by omega)]
      have h9 : t ≥ 8 := by omega
      go_enter Try.func68, Try.ntmps68
      go_wp2
      go_ret
      exact ⟨by rw [HA.out]; rfl, rfl⟩

set_option maxRecDepth 100000 in
theorem has_any {n : Nat} (hn : n < 256) (t : Int) (w : World) : Calls Try.prog 37 #[.int .u8 n, .int .i64 t] w fun r w' => r = .returned (.bool (hasB n t)) ∧ w = w' := by
  have HQ : Hid (bits .and .u8 (n : Int) (aloneN t : Int) = ((n &&& aloneN t : Nat) : Int)) := bits_and_u8 n (aloneN t) hn (aloneN_lt t)
  have HB : Hid ((((n &&& aloneN t : Nat) : Int) != 0) = hasB n t) := by
    show _ = _
    have := and_alone n t
    cases hb : hasB n t
    · rw [this.2 hb]; rfl
    · rw [bne_iff_ne]
      intro h0
      rw [this.1 (by omega)] at hb
      cases hb
  go_enter Try.func37, Try.ntmps37
  go_wp2_with fail
  refine (alone_any t w).mono ?_
  rintro r w' ⟨rfl, rfl⟩
  go_wp2
  go_ret
  exact ⟨by rw [HQ.out, HB.out]; rfl, rfl⟩

set_option maxRecDepth 100000 in
theorem with_any {n : Nat} (hn : n < 256) (t : Int) (w : World) : Calls Try.prog 58 #[.int .u8 n, .int .i64 t] w fun r w' => r = .returned (.int .u8 (wt n t : Nat)) ∧ w = w' := by
  have HQ : Hid (bits .or .u8 (n : Int) (aloneN t : Int) = ((wt n t : Nat) : Int)) := bits_or_u8 n (aloneN t) hn (aloneN_lt t)
  go_enter Try.func58, Try.ntmps58
  go_wp2_with fail
  refine (alone_any t w).mono ?_
  rintro r w' ⟨rfl, rfl⟩
  go_wp2
  go_ret
  exact ⟨by rw [HQ.out]; rfl, rfl⟩

set_option maxRecDepth 100000 in
theorem without_any {n : Nat} (hn : n < 256) (t : Int) (w : World) : Calls Try.prog 81 #[.int .u8 n, .int .i64 t] w fun r w' => r = .returned (.int .u8 (wl n t : Nat)) ∧ w = w' := by
  have HQ : Hid (bits .andNot .u8 (n : Int) (aloneN t : Int) = ((wl n t : Nat) : Int)) := bits_andNot_u8 n (aloneN t) hn (aloneN_lt t)
  go_enter Try.func81, Try.ntmps81
  go_wp2_with fail
  refine (alone_any t w).mono ?_
  rintro r w' ⟨rfl, rfl⟩
  go_wp2
  go_ret
  exact ⟨by rw [HQ.out]; rfl, rfl⟩

set_option maxRecDepth 100000 in
theorem union_any {n m : Nat} (hn : n < 256) (hm : m < 256) (w : World) : Calls Try.prog 54 #[.int .u8 n, .int .u8 m] w fun r w' => r = .returned (.int .u8 (n ||| m : Nat)) ∧ w = w' := by
  have HQ := Lib.hid (bits_or_u8 n m hn hm)
  go_enter Try.func54, Try.ntmps54
  go_wp2
  go_ret
  exact ⟨by rw [HQ.out]; rfl, rfl⟩

set_option maxRecDepth 100000 in
set_option maxHeartbeats 1000000 in
theorem of_any (a : Option Addr) (cap : Nat) (l : List Int) (w : World) (hl : NumsAt w a l) (hm : l.length ≤ 1000) :
    Calls Try.prog 46 #[.slice a l.length cap] w fun r w' => r = .returned (.int .u8 (ofN l : Nat)) ∧ w = w' := by
  have HL := Lib.hid hl
  clear hl
  go_enter Try.func46, Try.ntmps46
  go_wp2
  go_loopw [3, 8] (fun z i wr => ∃ k : Nat, k ≤ l.length ∧ i = .int .i64 k ∧ z = .int .u8 (ofN (l.take k) : Nat) ∧ wr = w) (fun _ i _ => l.length - (intOf i).toNat)
  case atStart => exact ⟨0, Nat.zero_le _, rfl, rfl, rfl⟩
  case round =>
    obtain ⟨k, hk, rfl, rfl, rfl⟩ := hrel
    by_cases hlt : k < l.length
    · obtain ⟨b, o, rfl, hc⟩ := HL.out.2 (by intro e; simp [e] at hlt)
      have hck := hc k hlt
      have HT : Hid (ofN (l.take (k + 1)) = wt (ofN (l.take k)) l[k]) := by
        show _ = _
        rw [List.take_succ_eq_append_getElem hlt, ofN_snoc]
      go_wp2_with fail
      refine (with_any (ofN_lt _) _ _).mono ?_
      rintro r w' ⟨rfl, rfl⟩
      go_wp2
      go_roundw
      case rel => exact ⟨k + 1, by omega, by go_num, by rw [HT.out], by trivial⟩
      case measure => simp [intOf]; omega
    · obtain rfl : k = l.length := by omega
      go_wp2
      go_ret
      exact ⟨by rw [List.take_length]; rfl, rfl⟩

set_option maxRecDepth 100000 in
set_option maxHeartbeats 1000000 in
theorem setAll_any {n : Nat} (hn : n < 256) (w : World) :
    Calls Try.prog 23 #[.int .u8 n] w fun r w' => ∃ v, r = .returned v ∧ OwnN w' w.heap.size v (ints (bitsL n)) ∧ Below w.heap.size w w' := by
  go_enter Try.func23, Try.ntmps23
  go_wp2
  go_loopw [3, 5] (fun l i wr => ∃ k : Nat, k ≤ 8 ∧ i = .int .i64 k ∧ OwnN wr w.heap.size l (ints (bitsTo n k)) ∧ Below w.heap.size w wr) (fun _ i _ => 8 - (intOf i).toNat)
  case atStart => exact ⟨0, Nat.zero_le _, rfl, ownN_nil _ _, Below.refl _ _⟩
  case round =>
    obtain ⟨k, hk, rfl, hown, hb⟩ := hrel
    by_cases hlt : k < 8
    · have hle := bitsTo_len n k
      rw [← ints_len] at hle
      have hz := hb.size
      have HH := Lib.hid (hasB_nat n hlt)
      have HY := Lib.hid (bitsTo_yes (n := n) (k := k))
      have HN := Lib.hid (bitsTo_no (n := n) (k := k))
      go_wp2_with fail
      refine (has_any hn (k : Int) wr).mono ?_
      rintro r w' ⟨rfl, rfl⟩
      rw [HH.out]
      cases hm : n.testBit k
      · have HR := Lib.hid (HN.out hm)
        clear hm
        go_wp2
        go_roundw
        case rel => exact ⟨k + 1, by omega, by go_num, by rw [HR.out]; exact hown, hb⟩
        case measure => simp [intOf]; omega
      · have HR : Hid (ints (bitsTo n (k + 1)) = ints (bitsTo n k) ++ [(k : Int)]) := by
          show _ = _
          rw [HY.out hm, ints_app]; rfl
        clear hm
        go_wp2_with (at_builtin; refine wp_appendN rfl (.tmp 11) (.tmp 13) rfl w.heap.size _ (ints (bitsTo n k)) rfl (hown.alloc _) ⟨wr.heap.size, 0, none⟩ 1 1 rfl [(k : Int)] rfl (nums_new wr [(k : Int)] _ _ rfl) (by simp; omega) (by simp; omega) ?_; intro v1 w2 hown2 hb3 _)
        have hb4 := (hb.alloc hz _).trans hb3
        go_roundw
        case rel => exact ⟨k + 1, by omega, by go_num, by rw [HR.out]; exact hown2, hb4⟩
        case measure => simp [intOf]; omega
    · obtain rfl : k = 8 := by omega
      go_wp2
      go_ret
      exact ⟨_, rfl, hown, hb⟩

end Go.Proofs.Ytkphdmfcmfojeaa

/- The contracts of the tree's New and of its small calls. -/
namespace Go.Proofs.Ytkphdmfcmfojeaa
open Go.RowKit Go.Maps

theorem goodPg_iff {p : Pg} {fuel : Int} : goodPg p fuel = true ↔ rightPg p = true ∧ 0 ≤ fuel ∧ fuel ≤ 8 := by
  unfold goodPg
  rw [Bool.and_eq_true, decide_eq_true_eq]
theorem right_small {p : Pg} (h : rightPg p = true) : p.threads.length ≤ 4 ∧ ∀ l ∈ p.threads, l.length ≤ 8 := by
  unfold rightPg at h
  rw [Bool.and_eq_true, decide_eq_true_eq] at h
  refine ⟨by omega, fun l hl => ?_⟩
  have := List.all_eq_true.1 h.2 l hl
  unfold rightCode at this
  rw [Bool.and_eq_true, decide_eq_true_eq] at this
  exact this.1
theorem blkT_nil (k : Pfx) : blkT [] [] k = none := rfl
/-- A tree without nodes, newly made. -/
theorem trAt_new {p : Pg} {fuel : Int} (hg : goodPg p fuel = true) {w3 : World} {a : Option Addr} {cap : Nat} (ht : ThreadsAt w3 a p.threads) (o : Obj) (ho : o = .cells #[.int .i64 p.vars, .int .i64 p.mutexes, .slice a p.threads.length cap, .int .i64 fuel, .map (some w3.heap.size), .int .i64 0] 102) :
    TrAt ⟨w3.heap.size + 1, w3.heap.size, a, cap, w3, p, fuel⟩ ((w3.alloc (.map #[] 0)).alloc o) [] [] 0 := by
  subst ho
  refine ⟨ht, below_alloc2 _ _ _, ?_, ?_, ⟨.map [], (World.ownsMap_made _ _ _ _).alloc _, fun k => ?_, rfl⟩, rfl, List.nodup_nil, (fun i h => absurd h (Nat.not_lt_zero _)), trOk_nil _ _, hg⟩
  · rintro x (rfl | rfl | hx)
    · exact Nat.le_succ _
    · exact Nat.le_refl _
    · cases hx
  · have := heap_alloc_new (w3.alloc (.map #[] 0)) (.cells #[.int .i64 p.vars, .int .i64 p.mutexes, .slice a p.threads.length cap, .int .i64 fuel, .map (some w3.heap.size), .int .i64 0] 102)
    rw [World.size_alloc] at this
    exact this
  · exact ⟨rfl, rfl⟩

/-- What New answers. -/
def NewTR (p : Pg) (fuel : Int) (w : World) (r : Ending) (w' : World) : Prop :=
  if goodPg p fuel = true then ∃ h : TrH, r = .returned (.tuple #[.pointer (some ⟨h.b, 0, none⟩), .int .i64 0]) ∧ h.p = p ∧ h.fuel = fuel ∧ w.heap.size ≤ h.wc.heap.size ∧ TrAt h w' [] [] 0 ∧ Below w.heap.size w w'
  else r = .returned (.tuple #[.pointer none, .int .i64 1]) ∧ Below w.heap.size w w'

set_option maxRecDepth 100000 in
set_option maxHeartbeats 1000000 in
theorem newT_any (p : Pg) (a : Option Addr) (cap : Nat) (fuel : Int) (w : World) (hp : ThreadsAt w a p.threads) (ha : a = none → cap = 0) :
    Calls Try.prog 13 #[.agg #[.int .i64 p.vars, .int .i64 p.mutexes, .slice a p.threads.length cap], .int .i64 fuel] w (NewTR p fuel w) := by
  have HP := Lib.hid hp
  have HA := Lib.hid ha
  have HBX : Hid (∀ W, Below (w.alloc (.cells #[.int .i64 p.vars, .int .i64 p.mutexes, .slice a p.threads.length cap] 24)).heap.size (w.alloc (.cells #[.int .i64 p.vars, .int .i64 p.mutexes, .slice a p.threads.length cap] 24)) W → W.cell? ⟨w.heap.size, 0, none⟩ = some (.int .i64 p.vars) ∧ W.cell? ⟨w.heap.size, 1, none⟩ = some (.int .i64 p.mutexes) ∧ W.cell? ⟨w.heap.size, 2, none⟩ = some (.slice a p.threads.length cap)) := fun W hb => ⟨cell_later hb (by simp), cell_later hb (by simp), cell_later hb (by simp)⟩
  have hb1 : Below w.heap.size w (w.alloc (.cells #[.int .i64 p.vars, .int .i64 p.mutexes, .slice a p.threads.length cap] 24)) := below_alloc1 w _
  have hmm := @run_makeMap Try.prog
  clear hp ha
  go_enter Try.func13, Try.ntmps13
  go_wp2_with fail
  generalize w.alloc (.cells #[.int .i64 p.vars, .int .i64 p.mutexes, .slice a p.threads.length cap] 24) = W1 at *
  refine (new_any p a cap fuel W1 (HP.out.later hb1)).mono ?_
  rintro r W2 hr
  unfold NewR at hr
  by_cases hg : rightPg p = true ∧ 0 ≤ fuel ∧ fuel ≤ 8
  case neg =>
    rw [if_neg hg] at hr
    obtain ⟨rfl, hb2⟩ := hr
    have HG : Hid (¬ goodPg p fuel = true) := fun h => hg (goodPg_iff.1 h)
    have hb3 := hb1.trans (hb2.mono hb1.size)
    clear hb2 hg hmm
    go_wp2
    go_ret2
    unfold NewTR
    rw [if_neg HG.out]
    exact ⟨rfl, hb3⟩
  rw [if_pos hg] at hr
  obtain ⟨g, rfl, _, _, hb2⟩ := hr
  obtain ⟨c0, c1, c2⟩ := HBX.out W2 hb2
  have HG : Hid (goodPg p fuel = true) := goodPg_iff.2 hg
  have HSM := Lib.hid (right_small hg.1)
  have hb3 := hb1.trans (hb2.mono hb1.size)
  have HCP := Lib.hid (copy_any p a cap W2 (HP.out.later hb3) HA.out (by have := HSM.out.1; omega) (fun l hl => by have := HSM.out.2 l hl; omega))
  clear hb2 hg HBX
  go_wp2_with fail
  refine HCP.out.mono ?_
  rintro r W3 ⟨a3, cap3, rfl, _, hb4, hown, rfl⟩
  have HB5 := Lib.hid (hb3.trans (hb4.mono hb3.size))
  have HT3 : Hid (ThreadsAt W3 a3 p.threads) := OwnThreads.at hown (by have := HSM.out.1; unfold maxLen; omega) (fun l hl => by have := HSM.out.2 l hl; unfold maxLen; omega)
  unfold pgV
  clear hb4 hown c0 c1 c2 hb3 hb1 HCP
  go_wp2
  go_ret2
  unfold NewTR
  rw [if_pos HG.out]
  exact ⟨⟨W3.heap.size + 1, W3.heap.size, a3, p.threads.length, W3, p, fuel⟩, rfl, rfl, rfl, HB5.out.size, trAt_new HG.out HT3.out _ rfl, HB5.out.trans ((below_alloc2 _ _ _).mono HB5.out.size)⟩

section
variable {h : TrH} {w : World} {gs : List Nat} {l : List TNd} {cl : Int}

set_option maxRecDepth 100000 in
theorem lenT_any (t : TrAt h w gs l cl) : Calls Try.prog 32 #[.pointer (some ⟨h.b, 0, none⟩)] w fun r w' => r = .returned (.int .i64 (l.length : Nat)) ∧ w = w' := by
  obtain ⟨_, _, _, _, c4, _⟩ := t.cells
  obtain ⟨D, hD, _, h3⟩ := t.map
  have hl := hD.len Try.underlying100
  rw [h3] at hl
  clear t h3 hD
  go_enter Try.func32, Try.ntmps32
  go_wp2
  go_ret
  exact ⟨rfl, rfl⟩
set_option maxRecDepth 100000 in
theorem lenT_nil (w : World) : Calls Try.prog 32 #[.pointer none] w fun r w' => r = .returned (.int .i64 0) ∧ w = w' := by
  go_enter Try.func32, Try.ntmps32
  go_wp2
  go_ret
  exact ⟨rfl, rfl⟩
set_option maxRecDepth 100000 in
theorem claims_any (t : TrAt h w gs l cl) : Calls Try.prog 33 #[.pointer (some ⟨h.b, 0, none⟩)] w fun r w' => r = .returned (.int .i64 cl) ∧ w = w' := by
  obtain ⟨_, _, _, _, _, c5⟩ := t.cells
  clear t
  go_enter Try.func33, Try.ntmps33
  go_wp2
  go_ret
  exact ⟨rfl, rfl⟩
set_option maxRecDepth 100000 in
theorem claims_nil (w : World) : Calls Try.prog 33 #[.pointer none] w fun r w' => r = .returned (.int .i64 0) ∧ w = w' := by
  go_enter Try.func33, Try.ntmps33
  go_wp2
  go_ret
  exact ⟨rfl, rfl⟩

def nd0 : TNd := ⟨[], 0, 0, 0, 0, 0⟩
def ownT (l : List TNd) (k : Pfx) : Int := match idxT l k with
  | none => -1
  | some i => (l.getD i nd0).own
def aslT (l : List TNd) (k : Pfx) : Nat := match idxT l k with
  | none => 0
  | some i => (l.getD i nd0).asl
def leftT (l : List TNd) (k : Pfx) : Nat := match idxT l k with
  | none => 0
  | some i => (l.getD i nd0).left

set_option maxRecDepth 100000 in
theorem owner_any (t : TrAt h w gs l cl) {k : Pfx} (hk : k.length ≤ 1000) : Calls Try.prog 29 #[.pointer (some ⟨h.b, 0, none⟩), .string ⟨k.toArray⟩] w fun r w' => r = .returned (.int .i64 (ownT l k)) ∧ w = w' := by
  cases hi : idxT l k with
  | none =>
    have HE : Hid (ownT l k = -1) := by show _ = _; unfold ownT; rw [hi]
    have HF := Lib.hid (find_no t hk hi)
    clear t hi
    go_enter Try.func29, Try.ntmps29
    go_wp2_with fail
    refine HF.out.mono ?_
    rintro r w' ⟨rfl, rfl⟩
    go_wp2
    go_ret
    exact ⟨by rw [HE.out]; rfl, rfl⟩
  | some i =>
    obtain ⟨hil, _⟩ := idxT_some hi
    have HE : Hid (ownT l k = l[i].own) := by show _ = _; unfold ownT; rw [hi]; simp [List.getD, hil]
    obtain ⟨hg, c0, _⟩ := t.node hil
    have HF := Lib.hid (find_yes t hk hi hg)
    clear t hi
    generalize l[i].own = O at *
    generalize gs[i] = g at *
    go_enter Try.func29, Try.ntmps29
    go_wp2_with fail
    refine HF.out.mono ?_
    rintro r w' ⟨rfl, rfl⟩
    go_wp2
    go_ret
    exact ⟨by rw [HE.out]; rfl, rfl⟩
set_option maxRecDepth 100000 in
theorem owner_nil (s : ByteArray) (w : World) : Calls Try.prog 29 #[.pointer none, .string s] w fun r w' => r = .returned (.int .i64 (-1)) ∧ w = w' := by
  go_enter Try.func29, Try.ntmps29
  go_wp2_with fail
  refine (find_nil s w).mono ?_
  rintro r w' ⟨rfl, rfl⟩
  go_wp2
  go_ret
  exact ⟨rfl, rfl⟩
set_option maxRecDepth 100000 in
theorem asleep_any (t : TrAt h w gs l cl) {k : Pfx} (hk : k.length ≤ 1000) : Calls Try.prog 31 #[.pointer (some ⟨h.b, 0, none⟩), .string ⟨k.toArray⟩] w fun r w' => r = .returned (.int .u8 (aslT l k : Nat)) ∧ w = w' := by
  cases hi : idxT l k with
  | none =>
    have HE : Hid (aslT l k = 0) := by show _ = _; unfold aslT; rw [hi]
    have HF := Lib.hid (find_no t hk hi)
    clear t hi
    go_enter Try.func31, Try.ntmps31
    go_wp2_with fail
    refine HF.out.mono ?_
    rintro r w' ⟨rfl, rfl⟩
    go_wp2
    go_ret
    exact ⟨by rw [HE.out]; rfl, rfl⟩
  | some i =>
    obtain ⟨hil, _⟩ := idxT_some hi
    have HE : Hid (aslT l k = l[i].asl) := by show _ = _; unfold aslT; rw [hi]; simp [List.getD, hil]
    obtain ⟨hg, _, _, c2, _⟩ := t.node hil
    have HF := Lib.hid (find_yes t hk hi hg)
    clear t hi
    generalize l[i].asl = O at *
    generalize gs[i] = g at *
    go_enter Try.func31, Try.ntmps31
    go_wp2_with fail
    refine HF.out.mono ?_
    rintro r w' ⟨rfl, rfl⟩
    go_wp2
    go_ret
    exact ⟨by rw [HE.out]; rfl, rfl⟩
set_option maxRecDepth 100000 in
theorem asleep_nil (s : ByteArray) (w : World) : Calls Try.prog 31 #[.pointer none, .string s] w fun r w' => r = .returned (.int .u8 0) ∧ w = w' := by
  go_enter Try.func31, Try.ntmps31
  go_wp2_with fail
  refine (find_nil s w).mono ?_
  rintro r w' ⟨rfl, rfl⟩
  go_wp2
  go_ret
  exact ⟨rfl, rfl⟩
theorem bitsL_zero : bitsL 0 = [] := by decide
set_option maxRecDepth 100000 in
theorem leftT_any (t : TrAt h w gs l cl) {k : Pfx} (hk : k.length ≤ 1000) : Calls Try.prog 30 #[.pointer (some ⟨h.b, 0, none⟩), .string ⟨k.toArray⟩] w fun r w' => ∃ v, r = .returned v ∧ OwnN w' w.heap.size v (ints (bitsL (leftT l k))) ∧ Below w.heap.size w w' := by
  cases hi : idxT l k with
  | none =>
    have HE : Hid (ints (bitsL (leftT l k)) = []) := by show _ = _; unfold leftT; rw [hi, bitsL_zero]; rfl
    have HF := Lib.hid (find_no t hk hi)
    clear t hi
    go_enter Try.func30, Try.ntmps30
    go_wp2_with fail
    refine HF.out.mono ?_
    rintro r w' ⟨rfl, rfl⟩
    go_wp2
    go_ret
    exact ⟨_, rfl, by rw [HE.out]; exact ownN_nil _ _, Below.refl _ _⟩
  | some i =>
    obtain ⟨hil, _⟩ := idxT_some hi
    have HE : Hid (leftT l k = l[i].left) := by show _ = _; unfold leftT; rw [hi]; simp [List.getD, hil]
    have hok := t.ok.ok l[i] (List.getElem_mem hil)
    obtain ⟨hg, _, _, c2, c3, c4⟩ := t.node hil
    have HF := Lib.hid (find_yes t hk hi hg)
    have HL := Lib.hid (left_any hok c2 c3 c4)
    have hl8 := hok.left
    clear t hi c2 c3 c4 hok
    generalize l[i].left = O at *
    generalize gs[i] = g at *
    go_enter Try.func30, Try.ntmps30
    go_wp2_with fail
    refine HF.out.mono ?_
    rintro r w' ⟨rfl, rfl⟩
    go_wp2_with fail
    refine HL.out.mono ?_
    rintro r w1 ⟨rfl, hb1⟩
    go_wp2_with fail
    refine (setAll_any hl8 w1).mono ?_
    rintro r w2 ⟨v, rfl, hown, hb2⟩
    have hz := hb1.size
    have hb3 := hb1.trans (hb2.mono hz)
    obtain ⟨a, cap, rfl, _⟩ := OwnN.form hown (by rw [ints_len]; have := bitsL_len O; omega)
    go_wp2
    go_ret
    exact ⟨_, rfl, by rw [HE.out]; exact ownN_low hown hz, hb3⟩
set_option maxRecDepth 100000 in
theorem leftT_nil (s : ByteArray) (w : World) : Calls Try.prog 30 #[.pointer none, .string s] w fun r w' => r = .returned (.slice none 0 0) ∧ w = w' := by
  go_enter Try.func30, Try.ntmps30
  go_wp2_with fail
  refine (find_nil s w).mono ?_
  rintro r w' ⟨rfl, rfl⟩
  go_wp2
  go_ret
  exact ⟨rfl, rfl⟩

set_option maxRecDepth 100000 in
theorem hand_any (t : TrAt h w gs l cl) {k : Pfx} (hk : k.length ≤ 1000) (o : Int) : Calls Try.prog 24 #[.pointer (some ⟨h.b, 0, none⟩), .string ⟨k.toArray⟩, .int .i64 o] w fun r w' => r = .returned (.int .i64 (handT l k o).1) ∧ TrAt h w' gs (handT l k o).2 cl ∧ OnlyS (TrS h gs) w w' := by
  cases hi : idxT l k with
  | none =>
    have HE : Hid (handT l k o = (6, l)) := by show _ = _; unfold handT; rw [hi]
    have HF := Lib.hid (find_no t hk hi)
    have HT := Lib.hid t
    clear t hi
    go_enter Try.func24, Try.ntmps24
    go_wp2_with fail
    refine HF.out.mono ?_
    rintro r w' ⟨rfl, rfl⟩
    go_wp2
    go_ret
    rw [HE.out]
    exact ⟨rfl, HT.out, OnlyS.refl _ _⟩
  | some i =>
    obtain ⟨hil, _⟩ := idxT_some hi
    have HE : Hid (handT l k o = (0, l.set i { l[i] with own := o })) := by show _ = _; unfold handT; rw [hi]; simp [List.getD, hil]
    have hok := t.ok.ok l[i] (List.getElem_mem hil)
    have htd := t.ok.todo l[i] (List.getElem_mem hil)
    obtain ⟨hg, c0, _⟩ := t.node hil
    have hcell := t.nodes i hil hg
    have f0 : w.frozen? ⟨gs[i], 0, none⟩ = false := by simp [World.frozen?, hcell]
    have HF := Lib.hid (find_yes t hk hi hg)
    have HO : Hid (OnlyS (fun x => x = gs[i]) w (w.setCell ⟨gs[i], 0, none⟩ (.int .i64 o))) := OnlyS.setCell (S := fun x => x = gs[i]) (OnlyS.refl _ w) (p := ⟨gs[i], 0, none⟩) rfl _
    have HT : Hid (TrAt h (w.setCell ⟨gs[i], 0, none⟩ (.int .i64 o)) gs (l.set i { l[i] with own := o }) cl) := t.put hil hg rfl rfl ⟨hok.may, hok.asl, hok.todo, hok.gone⟩ htd HO.out (by rw [heap_setCell_same w gs[i] 0 _ _ _ hcell]; rfl)
    have HM : Hid (∀ x, x = gs[i] → TrS h gs x) := fun x hx => .inr (.inr (hx ▸ List.getElem_mem hg))
    clear t hi hok htd hcell
    generalize gs[i] = g at *
    go_enter Try.func24, Try.ntmps24
    go_wp2_with fail
    refine HF.out.mono ?_
    rintro r w' ⟨rfl, rfl⟩
    go_wp2
    go_ret
    rw [HE.out]
    exact ⟨rfl, HT.out, HO.out.mono fun x _ hx => HM.out x hx⟩
set_option maxRecDepth 100000 in
theorem hand_nil (s : ByteArray) (o : Int) (w : World) : Calls Try.prog 24 #[.pointer none, .string s, .int .i64 o] w fun r w' => r = .returned (.int .i64 8) ∧ w = w' := by
  go_enter Try.func24, Try.ntmps24
  go_wp2_with fail
  refine (find_nil s w).mono ?_
  rintro r w' ⟨rfl, rfl⟩
  go_wp2
  go_ret
  exact ⟨rfl, rfl⟩
end

end Go.Proofs.Ytkphdmfcmfojeaa

/- A region whose order is drawn, and whose last operation may change what the others read. -/
namespace Go.Proofs.Ytkphdmfcmfojeaa

section
variable {P : Program} {ops : Array Oper} {Q : Exit → Act → World → Prop} {md : Region.Mode} {S : World → Prop} {k : Nat}

/-- Whatever order comes, S holds behind each operation but number k. -/
def wpAnyK (P : Program) (md : Region.Mode) (ops : Array Oper) (Q : Exit → Act → World → Prop) (S : World → Prop) (k : Nat) : Nat → Array Bool → Act → World → Prop
  | 0, listed, a, w => Region.ready md ops listed = [] ∧ Q .normal a w
  | fuel + 1, listed, a, w =>
    (Region.ready md ops listed = [] → Q .normal a w) ∧
    ∀ i ∈ Region.ready md ops listed, wpOp P ops Q i (fun a' w' => (i ≠ k → S w') ∧ wpAnyK P md ops Q S k fuel (listed.setIfInBounds i true) a' w') a w
theorem wpAny_of_k : ∀ (fuel : Nat) (listed : Array Bool) (a : Act) (w : World), wpAnyK P md ops Q S k fuel listed a w → wpAny P md ops Q fuel listed a w
  | 0, _, _, _, h => h
  | fuel + 1, _, _, _, h => ⟨h.1, fun i hi => wpOp_mono (fun a' w' h' => wpAny_of_k fuel _ a' w' h'.2) (h.2 i hi)⟩
/-- One that number k waits for, if by others, may be taken first. -/
theorem wpAnyK_first {i : Nat} {oi : Oper} {v : Value} {bar : List Nat} (hi : ops[i]? = some oi) (hsel : ∀ (j : Nat) (o : Oper) cs b, ops[j]? = some o → o.op ≠ .select cs b)
    (hQ : ∀ c a w, Q (.panic c) (a.put oi.dst v) w → Q (.panic c) a w) (hk : k ∈ bar) (hbar : ∀ b ∈ bar, ∀ ob, ops[b]? = some ob → ∃ e ∈ ob.after, Region.binds md e = true ∧ (e.on = i ∨ e.on ∈ bar)) :
    ∀ (fuel : Nat) (listed : Array Bool) (a : Act) (w : World),
      (∀ j oj, ops[j]? = some oj → j ≠ i → listed.getD j true = false → (∀ e ∈ oj.after, Region.binds md e = true → e.on ≠ i) → oi.apart ops oj = true) →
      (∀ b ∈ bar, listed.getD b true = false) → i ∈ Region.ready md ops listed → YieldsIf P ops S oi v a → S w →
      wpAnyK P md ops Q S k fuel (listed.setIfInBounds i true) (a.put oi.dst v) w → wpAnyK P md ops Q S k (fuel + 1) listed a w := by
  intro fuel
  induction fuel with
  | zero =>
    intro listed a w _ _ hr hy hS H
    refine ⟨fun h => (by rw [h] at hr; cases hr), fun j hj => ?_⟩
    by_cases hji : j = i
    · subst hji; exact hy.wpOp hi hS ⟨fun _ => hS, H⟩
    · have := ready_mono hj hji
      rw [H.1] at this
      cases this
  | succ fuel ih =>
    intro listed a w hfree hun hr hy hS H
    refine ⟨fun h => (by rw [h] at hr; cases hr), fun j hj => ?_⟩
    by_cases hji : j = i
    · subst hji; exact hy.wpOp hi hS ⟨fun _ => hS, H⟩
    · have h1 := H.2 j (ready_mono hj hji)
      obtain ⟨hjun, oj, hoj, hall⟩ := mem_ready.1 hj
      have hno : ∀ m, listed.getD m true = false → ∀ e ∈ oj.after, Region.binds md e = true → e.on ≠ m := fun m h0 e he hb heq => by
        have h1 := hall e he hb
        rw [heq] at h1
        rcases Nat.lt_or_ge m listed.size with h' | h'
        · simp [h'] at h0 h1; rw [h0] at h1; cases h1
        · simp [Array.getElem?_eq_none h'] at h1
      have hnot := hno i (mem_ready.1 hr).1
      have hjb : j ∉ bar := fun hjb => by
        obtain ⟨e, he, hb, heq | heq⟩ := hbar j hjb oj hoj
        · exact hnot e he hb heq
        · exact hno e.on (hun _ heq) e he hb rfl
      have hjk : j ≠ k := fun e => hjb (e ▸ hk)
      have h2 := wpOp_putIf hoj (hfree j oj hoj hji hjun hnot) (fun cs b => hsel i oi cs b hi) (fun cs b => hsel j oj cs b hoj) hQ hy h1
      have hfree' : ∀ m om, ops[m]? = some om → m ≠ i → (listed.setIfInBounds j true).getD m true = false →
          (∀ e ∈ om.after, Region.binds md e = true → e.on ≠ i) → oi.apart ops om = true := fun m om hm hmi hun hno => by
        refine hfree m om hm hmi ?_ hno
        by_cases hjm : j = m
        · subst hjm; exact hjun
        · rw [getD_set_ne true hjm] at hun; exact hun
      have hun' : ∀ b ∈ bar, (listed.setIfInBounds j true).getD b true = false := fun b hb => by
        have hjb2 : j ≠ b := fun e => hjb (by rw [e]; exact hb)
        rw [getD_set_ne true hjb2]
        exact hun b hb
      refine wpOp_mono (fun a' w' h3 => ⟨h3.2.1, ih (listed.setIfInBounds j true) a' w' hfree' hun' (ready_mono hr (Ne.symm hji)) h3.1 (h3.2.1 hjk) ?_⟩) h2
      rw [Array.setIfInBounds_comm _ _ hji]
      exact h3.2.2
/-- Does each of these wait for number i, or for another one of them? -/
def waitsK (md : Region.Mode) (ops : Array Oper) (listed : Array Bool) (bar : List Nat) (i : Nat) : Bool := bar.all fun b => !listed.getD b true && match ops[b]? with
  | none => true
  | some ob => ob.after.any fun e => Region.binds md e && (decide (e.on = i) || bar.contains e.on)
theorem waitsK_spec {listed : Array Bool} {bar : List Nat} {i : Nat} (h : waitsK md ops listed bar i = true) : (∀ b ∈ bar, listed.getD b true = false) ∧ ∀ b ∈ bar, ∀ ob, ops[b]? = some ob → ∃ e ∈ ob.after, Region.binds md e = true ∧ (e.on = i ∨ e.on ∈ bar) := by
  unfold waitsK at h
  rw [List.all_eq_true] at h
  refine ⟨fun b hb => ?_, fun b hb ob hob => ?_⟩
  · have h1 := h b hb
    rw [Bool.and_eq_true, Bool.not_eq_true'] at h1
    exact h1.1
  · have h1 := h b hb
    rw [Bool.and_eq_true, hob] at h1
    have h2 := h1.2
    dsimp only at h2
    rw [Array.any_eq_true'] at h2
    obtain ⟨e, he, h2⟩ := h2
    rw [Bool.and_eq_true, Bool.or_eq_true, decide_eq_true_eq] at h2
    exact ⟨e, he, h2.1, h2.2.imp id fun h => by simpa using h⟩
theorem wpAnyK_take {i : Nat} {oi : Oper} {v : Value} {fuel : Nat} {listed : Array Bool} {a : Act} {w : World} (bar : List Nat) (hi : ops[i]? = some oi)
    (hs : Region.noSelect ops = true) (hf : Region.free md ops listed i = true) (hr : (Region.ready md ops listed).contains i = true) (hk : bar.contains k = true) (hw : waitsK md ops listed bar i = true)
    (hQ : ∀ c a w, Q (.panic c) (a.put oi.dst v) w → Q (.panic c) a w) (hy : YieldsIf P ops S oi v a) (hS : S w)
    (h : wpAnyK P md ops Q S k fuel (listed.setIfInBounds i true) (a.put oi.dst v) w) : wpAnyK P md ops Q S k (fuel + 1) listed a w :=
  wpAnyK_first hi (Region.noSelect_spec hs) hQ (by simpa using hk) (waitsK_spec hw).2 fuel listed a w (Region.free_spec hi hf) (waitsK_spec hw).1 (by simpa using hr) hy hS h
/-- One alone may come up. -/
theorem wpAnyK_one {i : Nat} {o : Oper} {fuel : Nat} {listed : Array Bool} {a : Act} {w : World} (hr : Region.ready md ops listed = [i]) (ho : ops[i]? = some o)
    (h : ∀ K' : Act → World → Prop, Shut (∀ a w, (i ≠ k → S w) → wpAnyK P md ops Q S k fuel (listed.setIfInBounds i true) a w → K' a w) → if Region.wanted o (yielded ops a.tmps) = true then Oper.wp P o a w K' Q else K' (a.put o.dst undef) w) : wpAnyK P md ops Q S k (fuel + 1) listed a w := by
  refine ⟨fun h0 => (by rw [hr] at h0; cases h0), fun j hj => ?_⟩
  rw [hr] at hj
  obtain rfl := List.mem_singleton.1 hj
  exact wpOp_step ho fun K' hK => h K' fun a w h1 h2 => hK a w ⟨h1, h2⟩
theorem wpAnyK_done {listed : Array Bool} {a : Act} {w : World} (hr : Region.ready md ops listed = []) (h : Q .normal a w) : ∀ fuel, wpAnyK P md ops Q S k fuel listed a w
  | 0 => ⟨hr, h⟩
  | _ + 1 => ⟨fun _ => h, by rw [hr]; simp⟩
theorem wp_region_k {id : Nat} {a : Act} {w : World} (hm : P.follows .mixedOrders = true)
    (h : wpAnyK P .any ops Q S k ops.size (Array.replicate ops.size false) a w.drew) : (Code.region id ops true).wp P Q a w :=
  wp_region_any hm (wpAny_of_k _ _ _ _ h)
end

end Go.Proofs.Ytkphdmfcmfojeaa

/- The contracts of the tree's wasGoneInto and Mark. -/
namespace Go.Proofs.Ytkphdmfcmfojeaa
open Go.RowKit

section
variable {h : TrH} {w : World} {gs : List Nat} {l : List TNd} {cl : Int}

theorem wasT_snoc (l : List TNd) (k : Pfx) (c : UInt8) : wasT l (k ++ [c]) = match idxT l k with
  | some i => hasB (l.getD i nd0).gone (c.toNat : Int)
  | none => false := by
  unfold wasT
  rw [List.dropLast_concat]
  cases idxT l k with
  | none => rfl
  | some i => simp [nd0]
set_option maxRecDepth 100000 in
set_option maxHeartbeats 1000000 in
theorem was_any (t : TrAt h w gs l cl) (k : Pfx) (c : UInt8) (hk : k.length ≤ 900) : Calls Try.prog 50 #[.pointer (some ⟨h.b, 0, none⟩), .string ⟨(k ++ [c]).toArray⟩] w fun r w' => r = .returned (.bool (wasT l (k ++ [c]))) ∧ Below w.heap.size w w' := by
  have hsz : (⟨(k ++ [c]).toArray⟩ : ByteArray).size = k.length + 1 := by simp [ByteArray.size]
  have hx1 : (⟨(k ++ [c]).toArray⟩ : ByteArray).extract 0 k.length = ⟨k.toArray⟩ := by rw [cut_pre]; simp
  have hix : ∀ h' : k.length < (⟨(k ++ [c]).toArray⟩ : ByteArray).size, (⟨(k ++ [c]).toArray⟩ : ByteArray)[k.length] = c := fun h' => by
    have e : (⟨(k ++ [c]).toArray⟩ : ByteArray)[k.length] = (k ++ [c])[k.length]'(by simp) := rfl
    rw [e]; simp
  have bc := UInt8.toNat_lt c
  have vc : IntKind.i64.wrap (c.toNat : Int) = c.toNat := IntWalk.i64_in _ (by omega)
  cases hi : idxT l k with
  | none =>
    have HE : Hid (wasT l (k ++ [c]) = false) := by show _ = _; rw [wasT_snoc, hi]
    have HF := Lib.hid (find_no t (by omega) hi)
    have hd : ((6 : Int) == 0) = false := rfl
    clear t hi
    generalize k ++ [c] = q at *
    go_enter Try.func50, Try.ntmps50
    go_wp2_with fail
    refine HF.out.mono ?_
    rintro r w' ⟨rfl, rfl⟩
    go_wp2
    go_quiet (fail)
    go_wp2
    go_ret
    exact ⟨by rw [HE.out]; rfl, (Below.refl _ _).drewN⟩
  | some i =>
    obtain ⟨hil, _⟩ := idxT_some hi
    have HE : Hid (wasT l (k ++ [c]) = hasB l[i].gone (c.toNat : Int)) := by show _ = _; rw [wasT_snoc, hi]; simp [List.getD, hil]
    have hok := (t.ok.ok l[i] (List.getElem_mem hil)).gone
    obtain ⟨hg, _, _, _, _, c4⟩ := t.node hil
    have HF := Lib.hid (find_yes t (by omega) hi hg)
    clear t hi
    generalize l[i].gone = G at *
    generalize gs[i] = g at *
    generalize k ++ [c] = q at *
    go_enter Try.func50, Try.ntmps50
    go_wp2_with fail
    refine HF.out.mono ?_
    rintro r w' ⟨rfl, rfl⟩
    go_wp2
    go_quiet ((go_at_call 37; exact Calls.quiet_of_same ((has_any hok (c.toNat : Int) _).mono fun _ _ ⟨h1, h2⟩ => ⟨h1, h2.symm⟩)))
    go_wp2
    go_ret
    exact ⟨by rw [HE.out]; rfl, (Below.refl _ _).drewN⟩

set_option maxRecDepth 100000 in
set_option maxHeartbeats 1000000 in
theorem mark_any (t : TrAt h w gs l cl) {k : Pfx} (hk : k.length ≤ 1000) {set : Nat} (hs : set < 256) : Calls Try.prog 18 #[.pointer (some ⟨h.b, 0, none⟩), .string ⟨k.toArray⟩, .int .u8 (set : Nat)] w fun r w' => r = .returned (.int .i64 (markT l k set).1) ∧ TrAt h w' gs (markT l k set).2 cl ∧ OnlyS (TrS h gs) w w' := by
  cases hi : idxT l k with
  | none =>
    have HE : Hid (markT l k set = (6, l)) := by show _ = _; unfold markT; rw [hi]
    have HF := Lib.hid (find_no t hk hi)
    have HT := Lib.hid t
    clear t hi
    go_enter Try.func18, Try.ntmps18
    go_wp2_with fail
    refine HF.out.mono ?_
    rintro r w' ⟨rfl, rfl⟩
    go_wp2
    go_ret
    rw [HE.out]
    exact ⟨rfl, HT.out, OnlyS.refl _ _⟩
  | some i =>
    obtain ⟨hil, _⟩ := idxT_some hi
    have HE : Hid (markT l k set = (0, l.set i { l[i] with todo := l[i].todo ||| (set &&& l[i].may) })) := by show _ = _; unfold markT; rw [hi]; simp [List.getD, hil]
    have hok := t.ok.ok l[i] (List.getElem_mem hil)
    have htd := t.ok.todo l[i] (List.getElem_mem hil)
    obtain ⟨hg, _, c1, _, c3, _⟩ := t.node hil
    have hcell := t.nodes i hil hg
    have f3 : w.frozen? ⟨gs[i], 3, none⟩ = false := by simp [World.frozen?, hcell]
    have HF := Lib.hid (find_yes t hk hi hg)
    have hand : set &&& l[i].may < 256 := Nat.lt_of_le_of_lt Nat.and_le_left hs
    have HO : Hid (OnlyS (fun x => x = gs[i]) w (w.setCell ⟨gs[i], 3, none⟩ (.int .u8 ((l[i].todo ||| (set &&& l[i].may) : Nat) : Int)))) := OnlyS.setCell (S := fun x => x = gs[i]) (OnlyS.refl _ w) (p := ⟨gs[i], 3, none⟩) rfl _
    have HT : Hid (TrAt h (w.setCell ⟨gs[i], 3, none⟩ (.int .u8 ((l[i].todo ||| (set &&& l[i].may) : Nat) : Int))) gs (l.set i { l[i] with todo := l[i].todo ||| (set &&& l[i].may) }) cl) := t.put hil hg rfl rfl ⟨hok.may, hok.asl, or_lt8 hok.todo hand, hok.gone⟩ (fun j hj => by
      rw [Nat.testBit_or, Bool.or_eq_true, Nat.testBit_and, Bool.and_eq_true] at hj
      rcases hj with hj | hj
      · exact htd j hj
      · exact hj.2) HO.out (by rw [heap_setCell_same w gs[i] 3 _ _ _ hcell]; rfl)
    have HM : Hid (∀ x, x = gs[i] → TrS h gs x) := fun x hx => .inr (.inr (hx ▸ List.getElem_mem hg))
    have HU : Hid (∀ W, Calls Try.prog 54 #[.int .u8 (l[i].todo : Nat), .int .u8 (bits .and .u8 (set : Int) (l[i].may : Int))] W fun r w' => r = .returned (.int .u8 ((l[i].todo ||| (set &&& l[i].may) : Nat) : Int)) ∧ W = w') := fun W => by
      rw [bits_and_u8 _ _ hs hok.may]
      exact union_any hok.todo hand W
    clear t hi hok htd hcell hand
    generalize l[i].todo ||| (set &&& l[i].may) = U at *
    generalize l[i].todo = T at *
    generalize l[i].may = M at *
    generalize gs[i] = g at *
    go_enter Try.func18, Try.ntmps18
    go_wp2_with fail
    refine HF.out.mono ?_
    rintro r w' ⟨rfl, rfl⟩
    go_wp2
    have hHeld : w.drew.cell? ⟨g, 1, none⟩ = some (.int .u8 (M : Nat)) ∧ w.drew.cell? ⟨g, 3, none⟩ = some (.int .u8 (T : Nat)) := ⟨c1, c3⟩
    have f3' : w.drew.frozen? ⟨g, 3, none⟩ = false := f3
    have c3' : w.drew.cell? ⟨g, 3, none⟩ = some (.int .u8 (T : Nat)) := c3
    refine wp_region_k (S := fun W => W.cell? ⟨g, 1, none⟩ = some (.int .u8 (M : Nat)) ∧ W.cell? ⟨g, 3, none⟩ = some (.int .u8 (T : Nat))) (k := 14) (by kernel_rfl) ?_
    refine wpAnyK_take (i := 0) (v := ?_) [14] rfl (by kernel_rfl) (by kernel_rfl) (by kernel_rfl) (by kernel_rfl) (by kernel_rfl) (fun _ _ _ h => h) (Or.inl ⟨by kernel_rfl, ?_⟩) hHeld ?_
    rotate_left
    · intro w hSw
      try dsimp only at hSw
      go_simp
      with_reducible rfl
    try simp only [Act.put, List.setIfInBounds_toArray]
    refine wpAnyK_take (i := 1) (v := ?_) [14] rfl (by kernel_rfl) (by kernel_rfl) (by kernel_rfl) (by kernel_rfl) (by kernel_rfl) (fun _ _ _ h => h) (Or.inl ⟨by kernel_rfl, ?_⟩) hHeld ?_
    rotate_left
    · intro w hSw
      try dsimp only at hSw
      go_simp
      with_reducible rfl
    try simp only [Act.put]
    refine wpAnyK_take (i := 2) (v := ?_) [14] rfl (by kernel_rfl) (by kernel_rfl) (by kernel_rfl) (by kernel_rfl) (by kernel_rfl) (fun _ _ _ h => h) (Or.inl ⟨by kernel_rfl, ?_⟩) hHeld ?_
    rotate_left
    · intro w hSw
      try dsimp only at hSw
      go_simp
      with_reducible rfl
    try simp only [Act.put]
    refine wpAnyK_take (i := 3) (v := ?_) [14] rfl (by kernel_rfl) (by kernel_rfl) (by kernel_rfl) (by kernel_rfl) (by kernel_rfl) (fun _ _ _ h => h) (Or.inl ⟨by kernel_rfl, ?_⟩) hHeld ?_
    rotate_left
    · intro w hSw
      try dsimp only at hSw
      go_simp
      with_reducible rfl
    try simp only [Act.put]
    refine wpAnyK_take (i := 4) (v := ?_) [14] rfl (by kernel_rfl) (by kernel_rfl) (by kernel_rfl) (by kernel_rfl) (by kernel_rfl) (fun _ _ _ h => h) (Or.inl ⟨by kernel_rfl, ?_⟩) hHeld ?_
    rotate_left
    · intro w hSw
      try dsimp only at hSw
      go_simp
      with_reducible rfl
    try simp only [Act.put]
    refine wpAnyK_take (i := 5) (v := ?_) [14] rfl (by kernel_rfl) (by kernel_rfl) (by kernel_rfl) (by kernel_rfl) (by kernel_rfl) (fun _ _ _ h => h) (Or.inl ⟨by kernel_rfl, ?_⟩) hHeld ?_
    rotate_left
    · intro w hSw
      try dsimp only at hSw
      go_simp
      with_reducible rfl
    try simp only [Act.put]
    refine wpAnyK_take (i := 6) (v := ?_) [14] rfl (by kernel_rfl) (by kernel_rfl) (by kernel_rfl) (by kernel_rfl) (by kernel_rfl) (fun _ _ _ h => h) (Or.inl ⟨by kernel_rfl, ?_⟩) hHeld ?_
    rotate_left
    · intro w hSw
      try dsimp only at hSw
      go_simp
      with_reducible rfl
    try simp only [Act.put]
    refine wpAnyK_take (i := 7) (v := ?_) [14] rfl (by kernel_rfl) (by kernel_rfl) (by kernel_rfl) (by kernel_rfl) (by kernel_rfl) (fun _ _ _ h => h) (Or.inl ⟨by kernel_rfl, ?_⟩) hHeld ?_
    rotate_left
    · intro w hSw
      try dsimp only at hSw
      go_simp
      with_reducible rfl
    try simp only [Act.put]
    refine wpAnyK_take (i := 8) (v := ?_) [14] rfl (by kernel_rfl) (by kernel_rfl) (by kernel_rfl) (by kernel_rfl) (by kernel_rfl) (fun _ _ _ h => h) (Or.inl ⟨by kernel_rfl, ?_⟩) hHeld ?_
    rotate_left
    · intro w hSw
      try dsimp only at hSw
      go_simp
      with_reducible rfl
    try simp only [Act.put]
    refine wpAnyK_take (i := 9) (v := ?_) [14] rfl (by kernel_rfl) (by kernel_rfl) (by kernel_rfl) (by kernel_rfl) (by kernel_rfl) (fun _ _ _ h => h) (Or.inl ⟨by kernel_rfl, ?_⟩) hHeld ?_
    rotate_left
    · intro w hSw
      try dsimp only at hSw
      go_simp
      with_reducible rfl
    try simp only [Act.put]
    refine wpAnyK_take (i := 10) (v := ?_) [14] rfl (by kernel_rfl) (by kernel_rfl) (by kernel_rfl) (by kernel_rfl) (by kernel_rfl) (fun _ _ _ h => h) (Or.inl ⟨by kernel_rfl, ?_⟩) hHeld ?_
    rotate_left
    · intro w hSw
      try dsimp only at hSw
      go_simp
      with_reducible rfl
    try simp only [Act.put]
    refine wpAnyK_one (i := 11) (by kernel_rfl) rfl (fun K hK => ?_)
    go_simp
    refine (HU.out w.drew).mono ?_
    rintro r w' ⟨rfl, rfl⟩
    refine hK.out _ _ (fun _ => hHeld) ?_
    clear hK K
    try simp only [Act.put, List.setIfInBounds_toArray, List.set_cons_zero, List.set_cons_succ]
    refine wpAnyK_one (i := 12) (by kernel_rfl) rfl (fun K hK => ?_)
    go_simp
    refine hK.out _ _ (fun _ => hHeld) ?_
    clear hK K
    try simp only [Act.put, List.setIfInBounds_toArray, List.set_cons_zero, List.set_cons_succ]
    refine wpAnyK_one (i := 13) (by kernel_rfl) rfl (fun K hK => ?_)
    go_simp
    refine hK.out _ _ (fun _ => hHeld) ?_
    clear hK K
    try simp only [Act.put, List.setIfInBounds_toArray, List.set_cons_zero, List.set_cons_succ]
    refine wpAnyK_one (i := 14) (by kernel_rfl) rfl (fun K hK => ?_)
    go_simp
    refine hK.out _ _ (fun h => absurd rfl h) ?_
    clear hK K
    try simp only [Act.put, List.setIfInBounds_toArray, List.set_cons_zero, List.set_cons_succ]
    refine wpAnyK_done (by kernel_rfl) ?_ _
    clear hHeld f3' c3'
    go_wp2
    go_ret
    rw [HE.out]
    exact ⟨rfl, HT.out.drew, (HO.out.mono fun x _ hx => HM.out x hx).drew⟩
set_option maxRecDepth 100000 in
theorem mark_nil (s : ByteArray) (z : Value) (w : World) : Calls Try.prog 18 #[.pointer none, .string s, z] w fun r w' => r = .returned (.int .i64 8) ∧ w = w' := by
  go_enter Try.func18, Try.ntmps18
  go_wp2_with fail
  refine (find_nil s w).mono ?_
  rintro r w' ⟨rfl, rfl⟩
  go_wp2
  go_ret
  exact ⟨rfl, rfl⟩
end

end Go.Proofs.Ytkphdmfcmfojeaa

/- The contracts of Enabled, All. -/
namespace Go.Proofs.Ytkphdmfcmfojeaa
open Go.RowKit

set_option maxRecDepth 100000 in
set_option maxHeartbeats 1000000 in
theorem enabled_any {F : Nat} {s : St} {b : Nat} {w : World} (h : StAt w b s) (ok : s.Ok F) (t : Int) :
    Calls Try.prog 36 #[.pointer (some ⟨b, 0, none⟩), .int .i64 t] w fun r w' => r = .returned (.bool (s.may t)) ∧ Below w.heap.size w w' := by
  have H := Lib.hid h
  have OK := Lib.hid ok
  clear h ok
  cases hn : s.next t with
  | none =>
    have hm : s.may t = false := by rw [St.may_eq OK.out, hn]
    rw [hm]
    have HN := Lib.hid hn
    clear hn hm
    go_enter Try.func36, Try.ntmps36
    go_wp2_with fail
    refine (next_any H.out OK.out t).mono ?_
    rw [HN.out, evR_none]
    rintro r w1 ⟨rfl, hb1⟩
    have hz := hb1.size
    go_wp2
    go_ret
    exact ⟨rfl, hb1.alloc hz _⟩
  | some e =>
    have HN := Lib.hid hn
    clear hn
    go_enter Try.func36, Try.ntmps36
    go_wp2_with fail
    refine (next_any H.out OK.out t).mono ?_
    rw [HN.out, evR_some]
    rintro r w1 ⟨rfl, hb1⟩
    have hz := hb1.size
    have H2 := Lib.hid ((H.out.later hb1).later (below_alloc1 w1 (.cells #[.int .i64 e.thread, .int .i64 e.kind, .int .i64 e.obj, .bool e.fail] 128)))
    have hb2 := hb1.alloc hz (.cells #[.int .i64 e.thread, .int .i64 e.kind, .int .i64 e.obj, .bool e.fail] 128)
    clear hb1
    go_wp2_with fail
    refine (may_of H2.out OK.out HN.out).mono ?_
    rintro r w2 ⟨rfl, hb3⟩
    have hb4 := hb2.trans (hb3.mono (by simp; omega))
    clear hb2 hb3
    go_wp2
    go_ret
    exact ⟨rfl, hb4⟩

def St.allTo (s : St) (k : Nat) : List Int := ((List.range k).map Int.ofNat).filter s.may
theorem St.allTo_succ (s : St) (k : Nat) : s.allTo (k + 1) = s.allTo k ++ if s.may k = true then [(k : Int)] else [] := by
  unfold St.allTo
  rw [List.range_succ, List.map_append, List.filter_append]
  congr 1
  have e : Int.ofNat k = (k : Int) := rfl
  by_cases h : s.may k = true
  · simp [h]
  · simp [h]
theorem St.allTo_le (s : St) (k : Nat) : (s.allTo k).length ≤ k := by
  unfold St.allTo
  exact Nat.le_trans (List.length_filter_le _ _) (by simp)

set_option maxRecDepth 100000 in
set_option maxHeartbeats 1000000 in
theorem all_any {F : Nat} {s : St} {b : Nat} {w : World} (h : StAt w b s) (ok : s.Ok F) :
    Calls Try.prog 34 #[.pointer (some ⟨b, 0, none⟩)] w fun r w' => ∃ v, r = .returned v ∧ OwnN w' w.heap.size v s.all ∧ Below w.heap.size w w' := by
  have h4 := ok.len4
  have H := Lib.hid h
  have OK := Lib.hid ok
  clear h ok
  go_enter Try.func34, Try.ntmps34
  go_wp2_with (go_at_call 65; refine (threads_any H.out).mono ?_; rintro r w' ⟨rfl, rfl⟩)
  go_loopw [3, 7] (fun l i wr => ∃ k : Nat, k ≤ s.ts.length ∧ i = .int .i64 k ∧ OwnN wr w.heap.size l (s.allTo k) ∧ Below w.heap.size w wr) (fun _ i _ => s.ts.length - (intOf i).toNat)
  case atStart => exact ⟨0, Nat.zero_le _, rfl, ownN_nil _ _, Below.refl _ _⟩
  case round =>
    obtain ⟨k, hk, rfl, hown, hb⟩ := hrel
    by_cases hlt : k < s.ts.length
    · have hle := s.allTo_le k
      have HS := Lib.hid (s.allTo_succ k)
      go_wp2_with fail
      refine (enabled_any (H.out.later hb) OK.out k).mono ?_
      rintro r w1 ⟨rfl, hb1⟩
      have hb2 := hb.trans (hb1.mono hb.size)
      have hown1 := hown.later hb1
      have hz := hb2.size
      clear hown hb hb1
      cases hm : s.may k
      · have HR : Hid (s.allTo (k + 1) = s.allTo k) := by
          show _ = _
          rw [HS.out, hm]; simp
        clear hm
        go_wp2
        go_roundw
        case rel => exact ⟨k + 1, by omega, by go_num, by rw [HR.out]; exact hown1, hb2⟩
        case measure => simp [intOf]; omega
      · have HR : Hid (s.allTo (k + 1) = s.allTo k ++ [(k : Int)]) := by
          show _ = _
          rw [HS.out, hm]; simp
        clear hm
        go_wp2_with (at_builtin; refine wp_appendN rfl (.tmp 13) (.tmp 15) rfl w.heap.size _ (s.allTo k) rfl (hown1.alloc _) ⟨w1.heap.size, 0, none⟩ 1 1 rfl [(k : Int)] rfl (nums_new w1 [(k : Int)] _ _ rfl) (by simp; omega) (by simp; omega) ?_; intro v1 w2 hown2 hb3 _)
        have hb4 := (hb2.alloc hz _).trans hb3
        go_roundw
        case rel => exact ⟨k + 1, by omega, by go_num, by rw [HR.out]; exact hown2, hb4⟩
        case measure => simp [intOf]; omega
    · obtain rfl : k = s.ts.length := by omega
      go_wp2
      go_ret
      exact ⟨_, rfl, hown, hb⟩

end Go.Proofs.Ytkphdmfcmfojeaa
