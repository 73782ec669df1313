import Derived.Test.YtnldkmcijmbhcaaGreatPk03
import Derived.Test.YtnldkmcijmbhcaaGreatPk06

/- The worker in memory: its block, its path with the states, its row, its keys, the order that it is told. -/
namespace Go.Proofs.YtnldkmcijmbhcaaGreat
open Go.RowKit

/-- A node's cells, its state in a block. -/
def pnCell (x : Nat × PN) : List Value := [.pointer (some ⟨x.1, 0, none⟩), .int .u8 (x.2.z : Nat), .int .u8 (x.2.go : Nat), .int .u8 (x.2.gone : Nat)]
theorem pnCell_len (x : Nat × PN) : (pnCell x).length = 4 := rfl
theorem pnCell_one (x : Nat × PN) : ∀ v ∈ pnCell x, v.oneCell' = true := by
  intro v hv
  simp [pnCell] at hv
  rcases hv with rfl | rfl | rfl | rfl <;> rfl
theorem infoPn : (Tryz.prog.info? 101).map (fun i => (i.zero, i.size, i.bytes)) = some (some (.agg #[.pointer none, .int .u8 0, .int .u8 0, .int .u8 0]), 4, 16) := by kernel_rfl
theorem tyPnEx : 101 ≠ 59 := by decide
theorem tyPnEv : 101 ≠ 81 := by decide
theorem tyPnSt : 101 ≠ 9 := by decide
theorem tyPnSS : 101 ≠ 92 := by decide
theorem tyExEv : 59 ≠ 81 := by decide
theorem tyExSt : 59 ≠ 9 := by decide
theorem tyExSS : 59 ≠ 92 := by decide
theorem tyEvSt : 81 ≠ 9 := by decide
theorem tyEvSS : 81 ≠ 92 := by decide
theorem tyStSS : 9 ≠ 92 := by decide

/-- What changes is one block of this type, behind B. -/
def Ty (w : World) (B : Nat) (row : Option Nat) (t : TypeId) : Prop := ∀ r, row = some r → B ≤ r ∧ ∃ cs, w.heap[r]? = some (.cells cs t (0, 0))
theorem own_ty {w : World} {B n m : Nat} {t : TypeId} {v : Value} {xs : List Value} (h : w.ownsRow B t n v m xs) : Ty w B v.ownBlock t := by
  intro r hr
  obtain ⟨_, ⟨rfl, _⟩ | ⟨g, cap, cur, rfl, hb, hg, _⟩⟩ := h
  · simp [Value.ownBlock] at hr
  · have : g = r := by simpa [Value.ownBlock] using hr
    subst this
    exact ⟨hb, cur, hg⟩
theorem own_keptT {w w' : World} {B B' n m : Nat} {t t' : TypeId} {v : Value} {xs : List Value} {row : Option Nat} (h : w.ownsRow B t n v m xs) (hg : w.grownBy w' row) (hr : Ty w B' row t') (hne : t ≠ t') : w'.ownsRow B t n v m xs := by
  refine h.kept hg ?_
  obtain ⟨_, ⟨rfl, _⟩ | ⟨g, cap, cur, rfl, _, hgb, _⟩⟩ := h
  · exact .inl rfl
  · right
    intro e
    obtain ⟨_, cs, hcs⟩ := hr g e.symm
    rw [hgb] at hcs
    injection hcs with hcs
    injection hcs with _ h2
    exact hne h2
theorem st_keptT {w w' : World} {B b : Nat} {s : St} {t' : TypeId} {row : Option Nat} (h : StAt w b s) (hg : w.grownBy w' row) (hr : Ty w B row t') (hne : t' ≠ 92) : StAt w' b s := by
  refine (hg.block b h.lt fun e => ?_).trans h
  obtain ⟨_, cs, hcs⟩ := hr b e.symm
  rw [show w.heap[b]? = _ from h] at hcs
  injection hcs with hcs
  injection hcs with _ h2
  exact hne h2.symm
theorem below_keptT {w w' : World} {B : Nat} {t' : TypeId} {row : Option Nat} (hg : w.grownBy w' row) (hr : Ty w B row t') (hB : B ≤ w.heap.size) : Below B w w' := (Below.refl B w).grown hg hB fun k hk => (hr k hk).1
theorem grown_set (w : World) (g j : Nat) (v : Value) : w.grownBy (w.setCell ⟨g, j, none⟩ v) (some g) := ⟨rfl, rfl, rfl, by simp [World.setCell], fun k _ hk => heap_setCell_other w ⟨g, j, none⟩ k v (fun e => hk (by simp [e]))⟩

/-- The worker's block. -/
def exA (pv rv kv ov : Value) (x : Xp) : Array Value := #[pv, rv, ov, .int .i64 (x.choices : Nat), kv, .int .i64 (x.nodes : Nat), .int .i64 (x.runs : Nat), .int .i64 (x.blocked : Nat), .bool false]
structure XM (w : World) (B xb : Nat) (pv rv kv : Value) (oa : Option Addr) (oc : Nat) (ps : List (Nat × PN)) (x : Xp) : Prop where
  low : B ≤ xb
  blk : w.heap[xb]? = some (.cells (exA pv rv kv (.slice oa x.order.length oc) x) 59 (0, 0))
  eq : ps.map Prod.snd = x.path
  path : OwnRow w B 101 4 pnCell pv ps
  row : OwnE w B rv x.row
  keys : OwnRow w B 9 1 strCell kv x.keys
  ord : BytesAt w oa x.order
  ordB : ∀ a, oa = some a → a.block < B
  sts : ∀ q ∈ ps, StAt w q.1 q.2.st

section
variable {w w' : World} {B xb oc : Nat} {pv rv kv : Value} {oa : Option Addr} {ps : List (Nat × PN)} {x : Xp}
theorem XM.lt (h : XM w B xb pv rv kv oa oc ps x) : xb < w.heap.size := (Array.getElem?_eq_some_iff.1 h.blk).1
theorem XM.cell (h : XM w B xb pv rv kv oa oc ps x) {j : Nat} {v : Value} (hv : (exA pv rv kv (.slice oa x.order.length oc) x)[j]? = some v) : w.cell? ⟨xb, j, none⟩ = some v ∧ w.frozen? ⟨xb, j, none⟩ = false := by
  refine ⟨by rw [cell_of_row w xb j _ _ _ h.blk, hv], by simp [World.frozen?, h.blk]⟩
theorem XM.cells (h : XM w B xb pv rv kv oa oc ps x) : w.cell? ⟨xb, 0, none⟩ = some pv ∧ w.cell? ⟨xb, 1, none⟩ = some rv ∧ w.cell? ⟨xb, 2, none⟩ = some (.slice oa x.order.length oc) ∧ w.cell? ⟨xb, 3, none⟩ = some (.int .i64 (x.choices : Nat)) ∧
    w.cell? ⟨xb, 4, none⟩ = some kv ∧ w.cell? ⟨xb, 5, none⟩ = some (.int .i64 (x.nodes : Nat)) ∧ w.cell? ⟨xb, 6, none⟩ = some (.int .i64 (x.runs : Nat)) ∧ w.cell? ⟨xb, 7, none⟩ = some (.int .i64 (x.blocked : Nat)) ∧ w.cell? ⟨xb, 8, none⟩ = some (.bool false) :=
  ⟨(h.cell rfl).1, (h.cell rfl).1, (h.cell rfl).1, (h.cell rfl).1, (h.cell rfl).1, (h.cell rfl).1, (h.cell rfl).1, (h.cell rfl).1, (h.cell rfl).1⟩
theorem XM.frozen (h : XM w B xb pv rv kv oa oc ps x) (j : Nat) : w.frozen? ⟨xb, j, none⟩ = false := by simp [World.frozen?, h.blk]
theorem XM.ty (h : XM w B xb pv rv kv oa oc ps x) : Ty w B (some xb) 59 := by
  intro r hr
  injection hr with hr
  subst hr
  exact ⟨h.low, _, h.blk⟩
theorem XM.later (h : XM w B xb pv rv kv oa oc ps x) (hb : Below w.heap.size w w') : XM w' B xb pv rv kv oa oc ps x :=
  ⟨h.low, (hb.block xb h.lt).trans h.blk, h.eq, h.path.later hb, h.row.later hb, h.keys.later hb, h.ord.later hb, h.ordB, fun q hq => (h.sts q hq).later hb⟩
theorem XM.drew (h : XM w B xb pv rv kv oa oc ps x) : XM w.drew B xb pv rv kv oa oc ps x := ⟨h.low, h.blk, h.eq, h.path, h.row, h.keys, h.ord, h.ordB, h.sts⟩
theorem bytes_below {ns : List Int} (h : BytesAt w oa ns) (ho : ∀ a, oa = some a → a.block < B) (hb : Below B w w') : BytesAt w' oa ns := by
  refine ⟨h.1, fun hn => ?_⟩
  obtain ⟨b, o, rfl, hc⟩ := h.2 hn
  exact ⟨b, o, rfl, fun i hi => by rw [hb.cell (p := ⟨b, o + i, none⟩) (show b < B from ho ⟨b, o, none⟩ rfl)]; exact hc i hi⟩
/-- A store into the worker's block. -/
theorem XM.set (h : XM w B xb pv rv kv oa oc ps x) (hB : B ≤ w.heap.size) (j : Nat) (v : Value) {pv' rv' kv' : Value} {ps' : List (Nat × PN)} {x' : Xp}
    (ha : (exA pv rv kv (.slice oa x.order.length oc) x).setIfInBounds j v = exA pv' rv' kv' (.slice oa x'.order.length oc) x') (ho : x'.order = x.order) (he : ps'.map Prod.snd = x'.path)
    (hp : OwnRow w B 101 4 pnCell pv' ps') (hr : OwnE w B rv' x'.row) (hk : OwnRow w B 9 1 strCell kv' x'.keys) (hs : ∀ q ∈ ps', StAt w q.1 q.2.st) : XM (w.setCell ⟨xb, j, none⟩ v) B xb pv' rv' kv' oa oc ps' x' := by
  have hg := grown_set w xb j v
  have ht := h.ty
  refine ⟨h.low, ?_, he, own_keptT hp hg ht tyPnEx, own_keptT hr hg ht (Ne.symm tyExEv), own_keptT hk hg ht (Ne.symm tyExSt), ?_, h.ordB, fun q hq => st_keptT (hs q hq) hg ht tyExSS⟩
  · have := heap_setCell_same w xb j _ _ v h.blk
    rw [ha] at this
    exact this
  · rw [ho]
    exact bytes_below h.ord h.ordB (below_keptT hg ht hB)
theorem XM.setNodes (h : XM w B xb pv rv kv oa oc ps x) (hB : B ≤ w.heap.size) (n : Nat) : XM (w.setCell ⟨xb, 5, none⟩ (.int .i64 (n : Int))) B xb pv rv kv oa oc ps { x with nodes := n } := h.set hB 5 _ rfl rfl h.eq h.path h.row h.keys h.sts
theorem XM.setRuns (h : XM w B xb pv rv kv oa oc ps x) (hB : B ≤ w.heap.size) (n : Nat) : XM (w.setCell ⟨xb, 6, none⟩ (.int .i64 (n : Int))) B xb pv rv kv oa oc ps { x with runs := n } := h.set hB 6 _ rfl rfl h.eq h.path h.row h.keys h.sts
theorem XM.setBlocked (h : XM w B xb pv rv kv oa oc ps x) (hB : B ≤ w.heap.size) (n : Nat) : XM (w.setCell ⟨xb, 7, none⟩ (.int .i64 (n : Int))) B xb pv rv kv oa oc ps { x with blocked := n } := h.set hB 7 _ rfl rfl h.eq h.path h.row h.keys h.sts
theorem XM.setChoices (h : XM w B xb pv rv kv oa oc ps x) (hB : B ≤ w.heap.size) (n : Nat) : XM (w.setCell ⟨xb, 3, none⟩ (.int .i64 (n : Int))) B xb pv rv kv oa oc ps { x with choices := n } := h.set hB 3 _ rfl rfl h.eq h.path h.row h.keys h.sts
theorem XM.setPath (h : XM w B xb pv rv kv oa oc ps x) (hB : B ≤ w.heap.size) {pv' : Value} {ps' : List (Nat × PN)} (hp : OwnRow w B 101 4 pnCell pv' ps') (hs : ∀ q ∈ ps', StAt w q.1 q.2.st) : XM (w.setCell ⟨xb, 0, none⟩ pv') B xb pv' rv kv oa oc ps' { x with path := ps'.map Prod.snd } := h.set hB 0 _ rfl rfl rfl hp h.row h.keys hs
theorem XM.setRow (h : XM w B xb pv rv kv oa oc ps x) (hB : B ≤ w.heap.size) {rv' : Value} {r : List Ev} (hr : OwnE w B rv' r) : XM (w.setCell ⟨xb, 1, none⟩ rv') B xb pv rv' kv oa oc ps { x with row := r } := h.set hB 1 _ rfl rfl h.eq h.path hr h.keys h.sts
/-- The path appended to, then told. -/
theorem XM.morePath (h : XM w B xb pv rv kv oa oc ps x) (hB : B ≤ w.heap.size) {v' : Value} {q : Nat × PN} (ho : OwnRow w' B 101 4 pnCell v' (ps ++ [q])) (hg : w.grownBy w' pv.ownBlock) (hq : StAt w q.1 q.2.st) :
    XM (w'.setCell ⟨xb, 0, none⟩ v') B xb v' rv kv oa oc (ps ++ [q]) { x with path := x.path ++ [q.2] } := by
  have ht := own_ty h.path
  have hb := below_keptT hg ht hB
  have hX : XM w' B xb (.slice none 0 0) rv kv oa oc [] { x with path := [] } → XM (w'.setCell ⟨xb, 0, none⟩ v') B xb v' rv kv oa oc (ps ++ [q]) { x with path := x.path ++ [q.2] } := fun h0 => by
    have := h0.setPath (Nat.le_trans hB hg.size) ho (fun r hr => by
      rcases List.mem_append.1 hr with hr | hr
      · exact st_keptT (h.sts r hr) hg ht tyPnSS
      · rw [List.mem_singleton.1 hr]; exact st_keptT hq hg ht tyPnSS)
    rw [List.map_append, h.eq] at this
    exact this
  have hxb : w'.heap[xb]? = some (.cells (exA pv rv kv (.slice oa x.order.length oc) x) 59 (0, 0)) := by
    refine (hg.block xb h.lt fun e => ?_).trans h.blk
    obtain ⟨_, cs, hcs⟩ := ht xb e.symm
    rw [h.blk] at hcs
    injection hcs with hcs
    injection hcs with _ h2
    exact tyPnEx h2.symm
  have hr' : OwnE w' B rv x.row := own_keptT h.row hg ht (Ne.symm tyPnEv)
  have hk' : OwnRow w' B 9 1 strCell kv x.keys := own_keptT h.keys hg ht (Ne.symm tyPnSt)
  have hs' : ∀ r ∈ ps ++ [q], StAt w' r.1 r.2.st := fun r hr => by
    rcases List.mem_append.1 hr with hr | hr
    · exact st_keptT (h.sts r hr) hg ht tyPnSS
    · rw [List.mem_singleton.1 hr]; exact st_keptT hq hg ht tyPnSS
  have hg2 := grown_set w' xb 0 v'
  have ht2 : Ty w' B (some xb) 59 := by
    intro r hr
    injection hr with hr
    subst hr
    exact ⟨h.low, _, hxb⟩
  clear hX
  refine ⟨h.low, ?_, by rw [List.map_append, h.eq]; rfl, own_keptT ho hg2 ht2 tyPnEx, own_keptT hr' hg2 ht2 (Ne.symm tyExEv), own_keptT hk' hg2 ht2 (Ne.symm tyExSt), ?_, h.ordB, fun r hr => st_keptT (hs' r hr) hg2 ht2 tyExSS⟩
  · exact heap_setCell_same w' xb 0 _ _ v' hxb
  · exact bytes_below (bytes_below h.ord h.ordB hb) h.ordB (below_keptT hg2 ht2 (Nat.le_trans hB hg.size))
/-- The row appended to, then told. -/
theorem XM.moreRow (h : XM w B xb pv rv kv oa oc ps x) (hB : B ≤ w.heap.size) {v' : Value} {r : List Ev} (ho : OwnE w' B v' r) (hg : w.grownBy w' rv.ownBlock) : XM (w'.setCell ⟨xb, 1, none⟩ v') B xb pv v' kv oa oc ps { x with row := r } := by
  have ht := own_ty h.row
  have hb := below_keptT hg ht hB
  have hxb : w'.heap[xb]? = some (.cells (exA pv rv kv (.slice oa x.order.length oc) x) 59 (0, 0)) := by
    refine (hg.block xb h.lt fun e => ?_).trans h.blk
    obtain ⟨_, cs, hcs⟩ := ht xb e.symm
    rw [h.blk] at hcs
    injection hcs with hcs
    injection hcs with _ h2
    exact tyExEv h2
  have hp' : OwnRow w' B 101 4 pnCell pv ps := own_keptT h.path hg ht tyPnEv
  have hk' : OwnRow w' B 9 1 strCell kv x.keys := own_keptT h.keys hg ht (Ne.symm tyEvSt)
  have hg2 := grown_set w' xb 1 v'
  have ht2 : Ty w' B (some xb) 59 := by
    intro r hr
    injection hr with hr
    subst hr
    exact ⟨h.low, _, hxb⟩
  refine ⟨h.low, ?_, h.eq, own_keptT hp' hg2 ht2 tyPnEx, own_keptT ho hg2 ht2 (Ne.symm tyExEv), own_keptT hk' hg2 ht2 (Ne.symm tyExSt), ?_, h.ordB, fun r hr => st_keptT (st_keptT (h.sts r hr) hg ht tyEvSS) hg2 ht2 tyExSS⟩
  · exact heap_setCell_same w' xb 1 _ _ v' hxb
  · exact bytes_below (bytes_below h.ord h.ordB hb) h.ordB (below_keptT hg2 ht2 (Nat.le_trans hB hg.size))
/-- The keys appended to, then told. -/
theorem XM.moreKeys (h : XM w B xb pv rv kv oa oc ps x) (hB : B ≤ w.heap.size) {v' : Value} {ks : List Key} (ho : OwnRow w' B 9 1 strCell v' ks) (hg : w.grownBy w' kv.ownBlock) : XM (w'.setCell ⟨xb, 4, none⟩ v') B xb pv rv v' oa oc ps { x with keys := ks } := by
  have ht := own_ty h.keys
  have hb := below_keptT hg ht hB
  have hxb : w'.heap[xb]? = some (.cells (exA pv rv kv (.slice oa x.order.length oc) x) 59 (0, 0)) := by
    refine (hg.block xb h.lt fun e => ?_).trans h.blk
    obtain ⟨_, cs, hcs⟩ := ht xb e.symm
    rw [h.blk] at hcs
    injection hcs with hcs
    injection hcs with _ h2
    exact tyExSt h2
  have hp' : OwnRow w' B 101 4 pnCell pv ps := own_keptT h.path hg ht tyPnSt
  have hr' : OwnE w' B rv x.row := own_keptT h.row hg ht tyEvSt
  have hg2 := grown_set w' xb 4 v'
  have ht2 : Ty w' B (some xb) 59 := by
    intro r hr
    injection hr with hr
    subst hr
    exact ⟨h.low, _, hxb⟩
  refine ⟨h.low, ?_, h.eq, own_keptT hp' hg2 ht2 tyPnEx, own_keptT hr' hg2 ht2 (Ne.symm tyExEv), own_keptT ho hg2 ht2 (Ne.symm tyExSt), ?_, h.ordB, fun r hr => st_keptT (st_keptT (h.sts r hr) hg ht tyStSS) hg2 ht2 tyExSS⟩
  · exact heap_setCell_same w' xb 4 _ _ v' hxb
  · exact bytes_below (bytes_below h.ord h.ordB hb) h.ordB (below_keptT hg2 ht2 (Nat.le_trans hB hg.size))

theorem pn_set {i : Nat} (hi : i < ps.length) (j : Nat) (v : Value) {q : Nat × PN} (hq : (pnCell ps[i]).set j v = pnCell q) (hj : j < 4) : (cellsL pnCell ps).set (i * 4 + j) v = cellsL pnCell (ps.set i q) := by
  induction ps generalizing i with
  | nil => simp at hi
  | cons y ps ih =>
    cases i with
    | zero =>
      simp only [cellsL, List.flatMap_cons, List.set_cons_zero, Nat.zero_mul, Nat.zero_add, List.getElem_cons_zero] at *
      rw [← hq, List.set_append_left _ _ (by rw [pnCell_len]; exact hj)]
    | succ i =>
      have := ih (i := i) (by simpa using hi) (by simpa using hq)
      simp only [cellsL, List.flatMap_cons, List.set_cons_succ] at *
      rw [← this, List.set_append_right _ _ (by rw [pnCell_len]; omega), pnCell_len]
      congr 2
      omega
/-- A store into a node of the path. -/
theorem XM.put {g N cap : Nat} (h : XM w B xb (.slice (some ⟨g, 0, none⟩) N cap) rv kv oa oc ps x) (hB : B ≤ w.heap.size) {i : Nat} (hi : i < ps.length) (j : Nat) (v : Value) {q : PN} (hq : (pnCell ps[i]).set j v = pnCell (ps[i].1, q)) (hj : j < 4) (hst : q.st = ps[i].2.st) :
    XM (w.setCell ⟨g, i * 4 + j, none⟩ v) B xb (.slice (some ⟨g, 0, none⟩) N cap) rv kv oa oc (ps.set i (ps[i].1, q)) { x with path := x.path.set i q } := by
  have ht := own_ty h.path
  have hN : ps.length = N := by
    obtain ⟨_, ⟨h1, _⟩ | ⟨_, _, _, h1, _⟩⟩ := h.path
    · cases h1
    · injection h1 with _ h1
      exact h1.symm
  have h0 : w.ownsRow B 101 4 (.slice (some ⟨g, 0, none⟩) N cap) N (cellsL pnCell ps) := by
    have h1 : w.ownsRow B 101 4 (.slice (some ⟨g, 0, none⟩) N cap) ps.length (cellsL pnCell ps) := h.path
    rw [hN] at h1
    exact h1
  obtain ⟨h1, hg⟩ := h0.stored (i * 4 + j) v
  rw [pn_set hi j v hq hj] at h1
  have hp' : OwnRow (w.setCell ⟨g, i * 4 + j, none⟩ v) B 101 4 pnCell (.slice (some ⟨g, 0, none⟩) N cap) (ps.set i (ps[i].1, q)) := by
    unfold OwnRow
    rw [List.length_set, hN]
    exact h1
  refine ⟨h.low, (hg.block xb h.lt fun e => ?_).trans h.blk, ?_, hp', own_keptT h.row hg ht (Ne.symm tyPnEv), own_keptT h.keys hg ht (Ne.symm tyPnSt), bytes_below h.ord h.ordB (below_keptT hg ht hB), h.ordB, fun r hr => ?_⟩
  · obtain ⟨_, cs, hcs⟩ := ht xb e.symm
    rw [h.blk] at hcs
    injection hcs with hcs
    injection hcs with _ h2
    exact tyPnEx h2.symm
  · show (ps.set i (ps[i].1, q)).map Prod.snd = x.path.set i q
    rw [List.map_set, h.eq]
  · refine st_keptT ?_ hg ht tyPnSS
    rcases List.mem_or_eq_of_mem_set hr with hr | rfl
    · exact h.sts r hr
    · show StAt w ps[i].1 q.st
      rw [hst]
      exact h.sts _ (List.getElem_mem hi)
/-- A node of the path, as it lies in memory. -/
theorem XM.node {g N cap : Nat} (h : XM w B xb (.slice (some ⟨g, 0, none⟩) N cap) rv kv oa oc ps x) {i : Nat} (hi : i < ps.length) : NodeAt w g (i * 4) ps[i].1 ps[i].2 ∧ ∀ j, j < 4 → w.frozen? ⟨g, i * 4 + j, none⟩ = false := by
  obtain ⟨k1, ⟨h1, _⟩ | ⟨g', cap', cur, h1, k3, k4, k5, k6, k7, k8⟩⟩ := h.path
  · cases h1
  · injection h1 with e1 e2 e3
    injection e1 with e1
    injection e1 with e1
    subst e1
    have hc : ∀ j, j < 4 → w.cell? ⟨g, i * 4 + j, none⟩ = (pnCell ps[i])[j]? := by
      intro j hj
      have h2 := cellsL_get pnCell_len ps i j hi hj
      rw [← k8, List.getElem?_take_of_lt (by omega)] at h2
      rw [← h2]
      simp [World.cell?, k4]
    exact ⟨⟨hc 0 (by omega), hc 1 (by omega), hc 2 (by omega), hc 3 (by omega)⟩, fun j _ => by simp [World.frozen?, k4]⟩
/-- What is left of the path when nodes are dropped. -/
theorem own_takeR {T : Type} {f : T → List Value} {n g N cap k : Nat} {t : TypeId} {l : List T} (hf : ∀ y, (f y).length = n) (h : OwnRow w B t n f (.slice (some ⟨g, 0, none⟩) N cap) l) (hk : k ≤ N) : OwnRow w B t n f (.slice (some ⟨g, 0, none⟩) k cap) (l.take k) := by
  obtain ⟨k1, ⟨h1, _⟩ | ⟨g', cap', cur, h1, k3, k4, k5, k6, k7, k8⟩⟩ := h
  · cases h1
  · injection h1 with e1 e2 e3
    injection e1 with e1
    injection e1 with e1
    subst e1 e3
    have hlk : (l.take k).length = k := by rw [List.length_take]; omega
    refine ⟨by rw [cellsL_length hf], .inr ⟨g, cap, cur, by rw [hlk], k3, k4, by omega, k6, k7, ?_⟩⟩
    have h2 := congrArg (List.take (k * n)) k8
    have hle : k * n ≤ l.length * n := Nat.mul_le_mul_right n (by omega)
    rw [List.take_take, Nat.min_eq_left hle] at h2
    rw [hlk, h2]
    have h3 : cellsL f l = cellsL f (l.take k) ++ cellsL f (l.drop k) := by rw [← cellsL_append, List.take_append_drop]
    rw [h3, List.take_left' (by rw [cellsL_length hf, hlk])]

theorem own_takeO {T : Type} {f : T → List Value} {n N cap k : Nat} {a : Option Addr} {t : TypeId} {l : List T} (hf : ∀ y, (f y).length = n) (h : OwnRow w B t n f (.slice a N cap) l) (hk : k ≤ N) : OwnRow w B t n f (.slice a k cap) (l.take k) := by
  have h' := h
  obtain ⟨k1, ⟨h1, h2⟩ | ⟨g', cap', cur, h1, k3⟩⟩ := h
  · injection h1 with e1 e2 e3
    subst e1 e2 e3
    obtain rfl : k = 0 := by omega
    obtain rfl := List.length_eq_zero_iff.1 h2
    exact h'
  · injection h1 with e1 e2 e3
    subst e1
    exact own_takeR hf h' hk
theorem ownE_takeO {N cap k : Nat} {a : Option Addr} {l : List Ev} (h : OwnE w B (.slice a N cap) l) (hk : k ≤ N) : OwnE w B (.slice a k cap) (l.take k) :=
  own_takeO (f := evCell) (fun _ => rfl) (show OwnRow w B 81 4 evCell (.slice a N cap) l from h) hk
theorem ownRow_len {T : Type} {f : T → List Value} {n N cap : Nat} {a : Option Addr} {t : TypeId} {l : List T} (h : OwnRow w B t n f (.slice a N cap) l) : l.length = N ∧ N ≤ cap := by
  obtain ⟨k1, ⟨h1, h2⟩ | ⟨g', cap', cur, h1, k3, k4, k5, _⟩⟩ := h
  · injection h1 with e1 e2 e3
    omega
  · injection h1 with e1 e2 e3
    omega

end
end Go.Proofs.YtnldkmcijmbhcaaGreat

/-
  Plain data for layer 9: an exploration that is closed tells each class, and each once. Nothing of the translation.
-/
namespace Go.Proofs.YtnldkmcijmbhcaaGreat

/-- u stands ahead of t. -/
def Ahead (g : List Int) (u t : Int) : Prop := ∃ g1 g2, g = g1 ++ t :: g2 ∧ u ∈ g1

/-- An exploration, ended or not: nodes N, who was gone into G (in order), who sleeps Z. -/
structure Expl0 (s0 : St) (N : List Ev → Prop) (G : List Ev → List Int) (Z : List Ev → Int → Prop) : Prop where
  root : N []
  calm : ∀ t, ¬ Z [] t
  rows : ∀ l, N l → ∃ z, Ex s0 l z
  par : ∀ l e, N (l ++ [e]) → N l ∧ e.thread ∈ G l
  kid : ∀ l t z, N l → t ∈ G l → Ex s0 l z → z.may t = true ∧ ¬ Z l t ∧ ∀ e, z.next t = some e → N (l ++ [e])
  wake : ∀ l e z u, N (l ++ [e]) → Ex s0 l z → (Z (l ++ [e]) u ↔ u ≠ e.thread ∧ (Z l u ∨ Ahead (G l) u e.thread) ∧ ∃ f, z.next u = some f ∧ dep f e = false)
  once : ∀ l, N l → (G l).Nodup
/-- An exploration to its end. -/
structure Expl (s0 : St) (N : List Ev → Prop) (G : List Ev → List Int) (Z : List Ev → Int → Prop) : Prop extends Expl0 s0 N G Z where
  any : ∀ l t z, N l → Ex s0 l z → z.may t = true → ¬ Z l t → G l ≠ []
  mark : ∀ l e v z u f, N (l ++ e :: v) → Ex s0 (l ++ e :: v) z → z.next u = some f → u ≠ e.thread → dep e f = true →
    (∀ j, j < (l ++ e :: v).length → (evI (l ++ e :: v) j).thread = u → hb (l ++ e :: v) l.length j = false) → ∀ t y, Ex s0 l y → y.may t = true → t ∈ G l ∨ Z l t

theorem may_next {s : St} {t : Int} (h : s.may t = true) : ∃ e, s.next t = some e := by
  unfold St.may at h
  split at h
  · cases h
  · rename_i i hi
    exact ⟨_, by unfold St.next; rw [hi]; rfl⟩

theorem split_dep (p : Ev) (w : List Ev) : (∀ x ∈ w, dep p x = false) ∨ ∃ a e b, w = a ++ e :: b ∧ (∀ x ∈ a, dep p x = false) ∧ dep p e = true := by
  induction w with
  | nil => exact .inl (by simp)
  | cons x w ih =>
    cases hd : dep p x
    · rcases ih with h | ⟨a, e, b, rfl, h1, h2⟩
      · refine .inl (fun y hy => ?_)
        rcases List.mem_cons.1 hy with rfl | hy
        · exact hd
        · exact h y hy
      · refine .inr ⟨x :: a, e, b, rfl, fun y hy => ?_, h2⟩
        rcases List.mem_cons.1 hy with rfl | hy
        · exact hd
        · exact h1 y hy
    · exact .inr ⟨[], x, w, rfl, by simp, hd⟩
theorem first_of {P : Int → Prop} {g : List Int} (h : ∃ t ∈ g, P t) : ∃ g1 t g2, g = g1 ++ t :: g2 ∧ P t ∧ ∀ u ∈ g1, ¬ P u := by
  induction g with
  | nil => obtain ⟨t, ht, _⟩ := h; cases ht
  | cons x g ih =>
    by_cases hx : P x
    · exact ⟨[], x, g, rfl, hx, by simp⟩
    · obtain ⟨t, ht, hp⟩ := h
      have ht' : t ∈ g := by
        rcases List.mem_cons.1 ht with rfl | ht
        · exact absurd hp hx
        · exact ht
      obtain ⟨g1, t', g2, rfl, h1, h2⟩ := ih ⟨t, ht', hp⟩
      refine ⟨x :: g1, t', g2, rfl, h1, fun u hu => ?_⟩
      rcases List.mem_cons.1 hu with rfl | hu
      · exact hx
      · exact h2 u hu
/-- How many events of a thread. -/
def cu (u : Int) (l : List Ev) : Nat := (l.filter fun e => decide (e.thread = u)).length
theorem cu_append (u : Int) (a b : List Ev) : cu u (a ++ b) = cu u a + cu u b := by unfold cu; rw [List.filter_append, List.length_append]
theorem cu_cons (u : Int) (e : Ev) (b : List Ev) : cu u (e :: b) = (if e.thread = u then 1 else 0) + cu u b := by
  unfold cu
  by_cases h : e.thread = u
  · simp [h]; omega
  · simp [h]
theorem cu_zero {u : Int} {l : List Ev} (h : cu u l = 0) : ∀ x ∈ l, x.thread ≠ u := by
  unfold cu at h
  have := List.eq_nil_of_length_eq_zero h
  rw [List.filter_eq_nil_iff] at this
  intro x hx
  simpa using this x hx
theorem split_u (u : Int) (v : List Ev) : ∀ k, k < cu u v → ∃ v0 f v1, v = v0 ++ f :: v1 ∧ f.thread = u ∧ cu u v0 = k := by
  induction v with
  | nil => intro k h; simp [cu] at h
  | cons x v ih =>
    intro k h
    rw [cu_cons] at h
    by_cases hx : x.thread = u
    · rcases k with _ | k
      · exact ⟨[], x, v, rfl, hx, rfl⟩
      · rw [if_pos hx] at h
        obtain ⟨v0, f, v1, rfl, h1, h2⟩ := ih k (by omega)
        exact ⟨x :: v0, f, v1, rfl, h1, by rw [cu_cons, if_pos hx, h2]; omega⟩
    · rw [if_neg hx, Nat.zero_add] at h
      obtain ⟨v0, f, v1, rfl, h1, h2⟩ := ih k h
      exact ⟨x :: v0, f, v1, rfl, h1, by rw [cu_cons, if_neg hx, h2]; omega⟩
theorem prs_fst (l : List Ev) : (prs l).map Prod.fst = l := by
  unfold prs
  rw [List.map_map]
  apply List.ext_getElem?
  intro i
  rw [List.getElem?_map]
  by_cases h : i < l.length
  · rw [List.getElem?_range h, List.getElem?_eq_getElem h]
    simp [evI_get h]
  · rw [List.getElem?_eq_none (by simpa using h), List.getElem?_eq_none (by omega)]
    rfl
theorem psi_fst (l : List Ev) (u : Int) : (psi l u).map Prod.fst = l.filter fun e => decide (e.thread = u) := by
  conv => rhs; rw [← prs_fst l, List.filter_map]
  rfl
theorem sim_filter {a b : List Ev} (h : Sim a b) (u : Int) : (a.filter fun e => decide (e.thread = u)) = b.filter fun e => decide (e.thread = u) := by rw [← psi_fst, ← psi_fst, h]
theorem sim_cu {a b : List Ev} (h : Sim a b) (u : Int) : cu u a = cu u b := by unfold cu; rw [sim_filter h]
/-- The first event of a thread behind as many. -/
theorem filter_at {u : Int} {a b a' b' : List Ev} {f g : Ev} (h : ((a ++ f :: b).filter fun e => decide (e.thread = u)) = (a' ++ g :: b').filter fun e => decide (e.thread = u)) (hf : f.thread = u) (hg : g.thread = u) (hc : cu u a = cu u a') : f = g := by
  rw [List.filter_append, List.filter_append, List.filter_cons_of_pos (by simpa using hf), List.filter_cons_of_pos (by simpa using hg)] at h
  have := (List.append_inj h hc).2
  injection this

theorem nodup_split {g1 g2 h1 h2 : List Int} {t : Int} (hn : (g1 ++ t :: g2).Nodup) (h : g1 ++ t :: g2 = h1 ++ t :: h2) : g1 = h1 := by
  induction g1 generalizing h1 with
  | nil =>
    rcases h1 with _ | ⟨x, h1⟩
    · rfl
    · exfalso
      rw [List.nil_append, List.cons_append] at h
      injection h with e1 e2
      rw [List.nil_append, List.nodup_cons] at hn
      exact hn.1 (by rw [e2]; simp)
  | cons x g1 ih =>
    rcases h1 with _ | ⟨y, h1⟩
    · exfalso
      rw [List.nil_append, List.cons_append] at h
      injection h with e1 e2
      rw [List.cons_append, List.nodup_cons] at hn
      exact hn.1 (by rw [e1]; simp)
    · rw [List.cons_append, List.cons_append] at h
      injection h with e1 e2
      rw [List.cons_append, List.nodup_cons] at hn
      rw [e1, ih hn.2 e2]
theorem cnt_cu {u : Int} (a b : List Ev) : cnt (isT (a ++ b) u) a.length = cu u a := by
  have : cnt (isT (a ++ b) u) a.length = cnt (isT a u) a.length := cnt_congr _ fun i hi => by unfold isT; rw [evI_append hi]
  rw [this, ← psi_len]
  unfold cu
  rw [← psi_fst, List.length_map]

theorem Expl0.below {s0 : St} {N : List Ev → Prop} {G : List Ev → List Int} {Z : List Ev → Int → Prop} (E : Expl0 s0 N G Z) (y : List Ev) : ∀ {l : List Ev}, N (l ++ y) → N l := by
  induction y with
  | nil => intro l h; rw [List.append_nil] at h; exact h
  | cons e y ih =>
    intro l h
    rw [show l ++ e :: y = (l ++ [e]) ++ y by simp] at h
    exact (E.par l e (ih h)).1

/-- What is to be executed behind a node, and isn't kept back asleep, is gone into. -/
theorem Expl.cover {F : Nat} {s0 : St} (ok0 : s0.Ok F) {N : List Ev → Prop} {G : List Ev → List Int} {Z : List Ev → Int → Prop} (E : Expl s0 N G Z) (n : Nat) : ∀ (l : List Ev) (z : St), N l → Ex s0 l z → z.fuel ≤ n → ∀ (w : List Ev) (z1 : St), Ex z w z1 →
    (∀ t, Ini t w → ¬ Z l t) → ∃ v y, N (l ++ v) ∧ Sim v (w ++ y) := by
  induction n with
  | zero =>
    intro l z hN _ hf w z1 hw _
    rcases w with _ | ⟨x, w⟩
    · exact ⟨[], [], by rw [List.append_nil]; exact hN, Sim.refl _⟩
    · obtain ⟨s1, h1, _⟩ := hw
      have := step_fuel h1
      omega
  | succ n ih =>
    intro l z hN hz hf w z1 hw hI
    rcases w with _ | ⟨x, w'⟩
    · exact ⟨[], [], by rw [List.append_nil]; exact hN, Sim.refl _⟩
    generalize hwe : x :: w' = w at *
    have okz := hz.ok ok0
    obtain ⟨t0, ht0m, ht0i⟩ : ∃ t0, z.may t0 = true ∧ Ini t0 w := by
      subst hwe
      obtain ⟨s1, h1, _⟩ := hw
      exact ⟨x.thread, (step_next h1).2.1, [], x, w', rfl, rfl, by simp⟩
    have hG := E.any l t0 z hN hz ht0m (hI t0 ht0i)
    clear hwe
    by_cases hA : ∃ t ∈ G l, Ini t w
    · obtain ⟨g1, t, g2, hg, ⟨a, p, b, hwp, hpt, hpa⟩, hfirst⟩ := first_of hA
      subst hpt
      have htG : p.thread ∈ G l := by rw [hg]; simp
      have hs := sim_front (b := b) hpa
      rw [← hwp] at hs
      obtain ⟨zc, hc1, hc2⟩ := (ex_sim okz hs).1 hw
      obtain ⟨hpn, hpm, _⟩ := step_next hc1
      obtain ⟨_, _, hkid⟩ := E.kid l p.thread z hN htG hz
      have hN1 := hkid p hpn
      have hz1 : Ex s0 (l ++ [p]) zc := ex_append.2 ⟨z, hz, zc, hc1, rfl⟩
      have hfu := step_fuel hc1
      have okc : zc.Ok F := hz1.ok ok0
      obtain ⟨v, y, hNv, hv⟩ := ih (l ++ [p]) zc hN1 hz1 (by omega) (a ++ b) z1 hc2 (fun u hu hZ => by
        obtain ⟨hup, hZ1, f, hfn, hfd⟩ := (E.wake l p z u hN1 hz).1 hZ
        -- u could begin w
        have hIu : Ini u w := by
          obtain ⟨a', f', b', e1, e2, e3⟩ := hu
          have hff : f' = f := by
            rw [e1] at hc2
            obtain ⟨z3, hz3, z4, hz4, _⟩ := ex_append.1 hc2
            have h5 := ex_next okc hz3 (u := u) (fun x hx => by rw [← e2]; exact Ne.symm (dep_ne (e3 x hx)))
            have h6 := (okz.next_step p.thread (u := u) hup)
            rw [hc1] at h6
            rw [e2] at hz4
            have h7 := (step_next hz4).1
            rw [h5, h6, hfn] at h7
            injection h7 with h7
            exact h7.symm
          subst hff
          rcases List.append_eq_append_iff.1 e1 with ⟨c, hc, hc'⟩ | ⟨c, hc, hc'⟩
          · -- a' = a ++ c, b = c ++ f' :: b'
            refine ⟨a ++ p :: c, f', b', by rw [hwp, hc']; simp, e2, fun x hx => ?_⟩
            rcases List.mem_append.1 hx with hx | hx
            · exact e3 x (by rw [hc]; simp [hx])
            · rcases List.mem_cons.1 hx with rfl | hx
              · exact hfd
              · exact e3 x (by rw [hc]; simp [hx])
          · -- a = a' ++ c, f' :: b' = c ++ b
            rcases c with _ | ⟨c0, c⟩
            · rw [List.append_nil] at hc
              rw [List.nil_append] at hc'
              refine ⟨a ++ [p], f', b', by rw [hwp, ← hc']; simp, e2, fun x hx => ?_⟩
              rcases List.mem_append.1 hx with hx | hx
              · exact e3 x (by rw [← hc]; exact hx)
              · rw [List.mem_singleton.1 hx]
                exact hfd
            · rw [List.cons_append] at hc'
              injection hc' with hc0 hc1'
              subst hc0
              exact ⟨a', f', c ++ p :: b, by rw [hwp, hc]; simp, e2, e3⟩
        rcases hZ1 with hZ1 | ⟨g1', g2', hg', hug⟩
        · exact hI u hIu hZ1
        · have hnd := E.once l hN
          have : u ∈ g1 := by
            rw [hg] at hnd hg'
            have hsplit := nodup_split hnd hg'
            rw [hsplit]
            exact hug
          exact hfirst u this hIu)
      refine ⟨p :: v, y, by rw [show l ++ p :: v = l ++ [p] ++ v by simp]; exact hNv, ?_⟩
      refine (sim_cons p hv).trans ?_
      have := sim_right hs.symm y
      exact this
    · -- nobody who is gone into could begin: then all are
      obtain ⟨q, g, hgq⟩ := List.exists_cons_of_ne_nil hG
      have hqG : q ∈ G l := by rw [hgq]; simp
      obtain ⟨hqm, _, hkid⟩ := E.kid l q z hN hqG hz
      obtain ⟨p, hpn⟩ := may_next hqm
      have hpq := next_thread hpn
      subst hpq
      have hN1 := hkid p hpn
      obtain ⟨zc, hc1⟩ := next_step hpn hqm
      have hz1 : Ex s0 (l ++ [p]) zc := ex_append.2 ⟨z, hz, zc, hc1, rfl⟩
      have hfu := step_fuel hc1
      have okc : zc.Ok F := hz1.ok ok0
      have hsub : ∀ a b, w = a ++ b → ∀ u, Ini u a → ¬ Z (l ++ [p]) u := by
        intro a b hab u hu hZ
        obtain ⟨hup, hZ1, f, hfn, hfd⟩ := (E.wake l p z u hN1 hz).1 hZ
        have hIu : Ini u w := by
          obtain ⟨a', f', b', e1, e2, e3⟩ := hu
          exact ⟨a', f', b' ++ b, by rw [hab, e1]; simp, e2, e3⟩
        rcases hZ1 with hZ1 | ⟨g1', g2', hg', hug⟩
        · exact hI u hIu hZ1
        · have hnd := E.once l hN
          rw [hgq] at hnd hg'
          have hsplit := nodup_split (g1 := []) (g2 := g) (by simpa using hnd) hg'
          rw [← hsplit] at hug
          cases hug
      rcases split_dep p w with hall | ⟨wq, e, w2, hwq, hpre, hdep⟩
      · obtain ⟨_, _, z', hx1, hx2⟩ := ex_comm okz hpn hqm hw hall
        obtain ⟨s1, hs1, hs2⟩ := hx1
        rw [hc1] at hs1
        injection hs1 with _ hs1
        injection hs1 with _ hs1
        subst hs1
        obtain ⟨v, y, hNv, hv⟩ := ih (l ++ [p]) zc hN1 hz1 (by omega) w z' hs2 (hsub w [] (by simp))
        refine ⟨p :: v, p :: y, by rw [show l ++ p :: v = l ++ [p] ++ v by simp]; exact hNv, ?_⟩
        exact (sim_cons p hv).trans (sim_front (b := y) hall).symm
      · exfalso
        have hwex := hw
        rw [hwq] at hwex
        obtain ⟨zq, hzq, z3, hz3, _⟩ := ex_append.1 hwex
        obtain ⟨hen, hem, _⟩ := step_next hz3
        have hnp : e.thread ≠ p.thread := by
          intro he
          have h1 := ex_next okz hzq (u := p.thread) (fun x hx => Ne.symm (dep_ne (hpre x hx)))
          rw [← he, hen, he, hpn] at h1
          injection h1 with h1
          subst h1
          exact hA ⟨_, hqG, wq, _, w2, hwq, rfl, hpre⟩
        obtain ⟨n1, m1, zpq, hx1, hx2⟩ := ex_comm okz hpn hqm hzq hpre
        obtain ⟨s1, hs1, hs2⟩ := hx1
        rw [hc1] at hs1
        injection hs1 with _ hs1
        injection hs1 with _ hs1
        subst hs1
        have okq := hzq.ok okz
        have hnext : zpq.next e.thread = some e := by
          obtain ⟨zq', hzq', z5, hz5, hz5'⟩ := ex_append.1 hx2
          obtain rfl := ex_det hzq hzq'
          have h6 := okq.next_step p.thread (u := e.thread) hnp
          rw [hz5] at h6
          rw [hz5', h6]
          exact hen
        obtain ⟨v, y, hNv, hv⟩ := ih (l ++ [p]) zc hN1 hz1 (by omega) wq zpq hs2 (hsub wq (e :: w2) hwq)
        obtain ⟨zr, hzr⟩ := E.rows _ hNv
        obtain ⟨zc', hzc', hzv⟩ := ex_append.1 hzr
        obtain rfl := ex_det hz1 hzc'
        have hwy := (ex_sim okc hv).1 hzv
        obtain ⟨zpq', hzpq', hy⟩ := ex_append.1 hwy
        obtain rfl := ex_det hs2 hzpq'
        have okpq := hs2.ok okc
        -- the prefix at which the thread's next event is e
        have key : ∃ v0 v1 z0, v = v0 ++ v1 ∧ Ex zc v0 z0 ∧ z0.next e.thread = some e ∧ cu e.thread v0 = cu e.thread wq := by
          have hcu := sim_cu hv e.thread
          rw [cu_append] at hcu
          by_cases hk : cu e.thread y = 0
          · refine ⟨v, [], zr, by simp, hzv, ?_, by omega⟩
            rw [ex_next okpq hy (cu_zero hk), hnext]
          · obtain ⟨v0, f, v1, e1, e2, e3⟩ := split_u e.thread v (cu e.thread wq) (by omega)
            obtain ⟨y0, g', y1, e4, e5, e6⟩ := split_u e.thread y 0 (by omega)
            rw [e1] at hzv
            obtain ⟨z0, hz0, z6, hz6, _⟩ := ex_append.1 hzv
            rw [e4] at hy
            obtain ⟨z7, hz7, z8, hz8, _⟩ := ex_append.1 hy
            have h9 := ex_next okpq hz7 (cu_zero e6)
            rw [e5] at hz8
            have h10 := (step_next hz8).1
            rw [h9, hnext] at h10
            injection h10 with h10
            have hfg : f = g' := by
              have h11 := sim_filter hv e.thread
              rw [e1, e4, show wq ++ (y0 ++ g' :: y1) = (wq ++ y0) ++ g' :: y1 by simp] at h11
              exact filter_at h11 e2 e5 (by rw [cu_append, e6, e3]; omega)
            rw [e2] at hz6
            have h12 := (step_next hz6).1
            rw [hfg, ← h10] at h12
            exact ⟨v0, f :: v1, z0, e1, hz0, h12, e3⟩
        obtain ⟨v0, v1, z0, e1, hz0, hn0, hc0⟩ := key
        have hN0 : N (l ++ p :: v0) := by
          rw [e1] at hNv
          rw [show l ++ [p] ++ (v0 ++ v1) = (l ++ p :: v0) ++ v1 by simp] at hNv
          exact E.below v1 hNv
        have hE0 : Ex s0 (l ++ p :: v0) z0 := by
          rw [show l ++ p :: v0 = (l ++ [p]) ++ v0 by simp]
          exact ex_append.2 ⟨zc, hz1, hz0⟩
        have hno : ∀ j, j < (l ++ p :: v0).length → (evI (l ++ p :: v0) j).thread = e.thread → hb (l ++ p :: v0) l.length j = false := by
          intro j hj hjt
          cases hh : hb (l ++ p :: v0) l.length j
          · rfl
          · exfalso
            have hle := hb_le hh
            obtain ⟨m, rfl⟩ : ∃ m, j = l.length + m := ⟨j - l.length, by omega⟩
            have h1 := (hb_right l (p :: v0) (i := 0) (j := m)).1 hh
            rw [evI_right] at hjt
            rcases m with _ | m
            · exact hnp hjt.symm
            · have hm : m < v0.length := by simp at hj; omega
              have h2 : hb (p :: v) 0 (m + 1) = true := by
                rw [e1, show p :: (v0 ++ v1) = (p :: v0) ++ v1 by simp]
                rw [hb_append_eq]
                · exact h1
                · simp; omega
              have hmv : m + 1 < (p :: v).length := by rw [e1]; simp; omega
              have hev : evI (p :: v) (m + 1) = evI (p :: v0) (m + 1) := by
                rw [e1, show p :: (v0 ++ v1) = (p :: v0) ++ v1 by simp]
                exact evI_append (by simp; omega)
              rw [← hev] at hjt
              have hsim : Sim (p :: v) (p :: (wq ++ y)) := sim_cons p hv
              have hpos : 0 < clk (p :: v) (m + 1) p.thread := by
                have h3 := hb_iff_num.1 h2
                have h4 := num_eq (p :: v) 0
                have h5 : (evI (p :: v) 0) = p := rfl
                rw [h5] at h3
                omega
              obtain ⟨k, hk, hk1, hk2⟩ := hsim.at hmv
              rw [hjt] at hk
              -- it stands in wq
              have hkw : k < wq.length + 1 := by
                apply Classical.byContradiction
                intro hn
                have h6 := cnt_mono (isT (p :: (wq ++ y)) e.thread) (show wq.length + 1 ≤ k by omega)
                have h7 : cnt (isT (p :: (wq ++ y)) e.thread) (wq.length + 1) = cu e.thread wq := by
                  have h := cnt_cu (u := e.thread) (p :: wq) y
                  rw [cu_cons, if_neg (Ne.symm hnp), Nat.zero_add, List.length_cons, List.cons_append] at h
                  exact h
                have h8 : cnt (isT (p :: v) e.thread) (m + 1) < cu e.thread v0 := by
                  have h9 := cnt_lt (isT (p :: v) e.thread) (show m + 1 < v0.length + 1 by omega) (isT_iff.2 hjt)
                  have h10 : cnt (isT (p :: v) e.thread) (v0.length + 1) = cu e.thread v0 := by
                    have h := cnt_cu (u := e.thread) (p :: v0) v1
                    rw [cu_cons, if_neg (Ne.symm hnp), Nat.zero_add, List.length_cons, List.cons_append] at h
                    rw [e1]
                    exact h
                  omega
                have h11 := hk.2.2
                omega
              rcases k with _ | k
              · have : evI (p :: (wq ++ y)) 0 = p := rfl
                rw [this] at hk1
                rw [← hk1] at hjt
                exact hnp hjt.symm
              · rw [← hk2] at hpos
                obtain ⟨k0, hk0, hk0h⟩ := (clk_iff hk.1).1 hpos
                have hz0' : k0 = 0 := by
                  have h12 : At (p :: (wq ++ y)) p.thread 0 0 := ⟨by simp, isT_iff.2 rfl, rfl⟩
                  exact hk0.uniq h12
                subst hz0'
                rw [hb_first hpre (by omega)] at hk0h
                cases hk0h
        rcases E.mark l p v0 z0 e.thread e hN0 hE0 hn0 hnp hdep hno t0 z hz ht0m with h | h
        · exact hA ⟨t0, h, ht0i⟩
        · exact hI t0 ht0i h

end Go.Proofs.YtnldkmcijmbhcaaGreat

/-
  Plain data for layer 9: an exploration has no two nodes of one class; a closed one has an end for each whole execution's. Nothing of the translation.
-/
namespace Go.Proofs.YtnldkmcijmbhcaaGreat

theorem cnt_right (s a : List Ev) (u : Int) (k : Nat) : cnt (isT (s ++ a) u) (s.length + k) = cnt (isT s u) s.length + cnt (isT a u) k := by
  induction k with
  | zero => exact cnt_congr _ fun i hi => by unfold isT; rw [evI_append hi]
  | succ k ih =>
    rw [← Nat.add_assoc, cnt_succ, cnt_succ, ih]
    have : isT (s ++ a) u (s.length + k) = isT a u k := by unfold isT; rw [evI_right]
    rw [this]
    omega
theorem at_right {s a : List Ev} {u : Int} {m k : Nat} (h : At a u m k) : At (s ++ a) u (cnt (isT s u) s.length + m) (s.length + k) := by
  refine ⟨by rw [List.length_append]; have := h.1; omega, ?_, by rw [cnt_right, h.2.2]⟩
  have := h.2.1
  unfold isT at this ⊢
  rw [evI_right]
  exact this
theorem at_right_inv {s a : List Ev} {u : Int} {m k : Nat} (h : At (s ++ a) u (cnt (isT s u) s.length + m) k) : ∃ j, k = s.length + j ∧ At a u m j := by
  have hk : s.length ≤ k := by
    apply Classical.byContradiction
    intro hn
    have h1 := cnt_lt (isT (s ++ a) u) (show k < s.length by omega) h.2.1
    have h2 := cnt_right s a u 0
    rw [Nat.add_zero, cnt_zero, Nat.add_zero] at h2
    have := h.2.2
    omega
  obtain ⟨j, rfl⟩ : ∃ j, k = s.length + j := ⟨k - s.length, by omega⟩
  refine ⟨j, rfl, by have := h.1; rw [List.length_append] at this; omega, ?_, ?_⟩
  · have := h.2.1
    unfold isT at this ⊢
    rw [evI_right] at this
    exact this
  · have := h.2.2
    rw [cnt_right] at this
    omega
theorem clk_right {s a : List Ev} {i : Nat} (hi : i < a.length) (u : Int) : clk a i u = clk (s ++ a) (s.length + i) u - cnt (isT s u) s.length := by
  have key : ∀ m, m < clk a i u ↔ m < clk (s ++ a) (s.length + i) u - cnt (isT s u) s.length := by
    intro m
    rw [show (m < clk (s ++ a) (s.length + i) u - cnt (isT s u) s.length) ↔ (cnt (isT s u) s.length + m < clk (s ++ a) (s.length + i) u) by omega]
    rw [clk_iff hi, clk_iff (show s.length + i < (s ++ a).length by rw [List.length_append]; omega)]
    constructor
    · rintro ⟨k, hk, hh⟩
      exact ⟨s.length + k, at_right hk, (hb_right s a).2 hh⟩
    · rintro ⟨k, hk, hh⟩
      obtain ⟨j, rfl, hj⟩ := at_right_inv hk
      exact ⟨j, hj, (hb_right s a).1 hh⟩
  apply Nat.le_antisymm
  · apply Nat.le_of_not_lt
    intro hc
    have := (key _).1 hc
    omega
  · apply Nat.le_of_not_lt
    intro hc
    have := (key _).2 hc
    omega
/-- What is the same behind one beginning is the same. -/
theorem sim_cancel {s a b : List Ev} (h : Sim (s ++ a) (s ++ b)) : Sim a b := by
  intro t
  have hlen : cnt (isT a t) a.length = cnt (isT b t) b.length := by
    have h1 := h.cnt t
    rw [List.length_append, List.length_append, cnt_right, cnt_right] at h1
    omega
  apply List.ext_getElem?
  intro j
  by_cases hj : j < cnt (isT a t) a.length
  · obtain ⟨i, hi⟩ := at_ex hj
    have hr := at_right (s := s) hi
    have e1 := psi_get hr.1 hr.2.1
    rw [hr.2.2, h] at e1
    obtain ⟨k', hk1, hk2, hk3, hk4⟩ := psi_inv e1
    obtain ⟨k, rfl, hk⟩ := at_right_inv (show At (s ++ b) t (cnt (isT s t) s.length + j) k' from ⟨hk1, hk2, hk3⟩)
    injection hk4 with hk5 hk6
    rw [evI_right, evI_right] at hk5
    have e2 := psi_get hi.1 hi.2.1
    have e3 := psi_get hk.1 hk.2.1
    rw [hi.2.2] at e2
    rw [hk.2.2] at e3
    rw [e2, e3, hk5]
    have : clk a i = clk b k := funext fun u => by rw [clk_right (s := s) hi.1, clk_right (s := s) hk.1, hk6]
    rw [this]
  · rw [List.getElem?_eq_none (by rw [psi_len]; omega), List.getElem?_eq_none (by rw [psi_len]; omega)]

/-- The first event of the one row stands in the other one, and depends on nothing ahead of it. -/
theorem sim_head {x w : List Ev} {e : Ev} (h : Sim (e :: x) w) : ∃ a b, w = a ++ e :: b ∧ ∀ y ∈ a, dep e y = false := by
  have h1 := psi_get (l := e :: x) (t := e.thread) (i := 0) (by simp) (isT_iff.2 rfl)
  rw [h, cnt_zero] at h1
  obtain ⟨k, hk, hkt, hkc, hke⟩ := psi_inv h1
  injection hke with hke hkl
  have hek : evI w k = e := hke.symm
  refine ⟨w.take k, w.drop (k + 1), by rw [← hek]; exact split_at hk, fun y hy => ?_⟩
  cases hd : dep e y
  · rfl
  · exfalso
    obtain ⟨i, hi, hiy⟩ := List.mem_iff_getElem.1 hy
    rw [List.length_take] at hi
    have hiw : i < w.length := by omega
    have hy2 : evI w i = y := by rw [evI_get hiw, ← hiy, List.getElem_take]
    have hb1 : hb w i k = true := hb_dep (by omega) (by rw [hy2, hek, dep_symm]; exact hd)
    have h2 := hb_iff_num.1 hb1
    rw [hy2, ← hkl, num_eq] at h2
    by_cases ht : y.thread = e.thread
    · have h3 := cnt_lt (isT w e.thread) (show i < k by omega) (isT_iff.2 (by rw [hy2]; exact ht))
      omega
    · have h3 : clk (e :: x) 0 y.thread = 0 := by
        unfold clk
        rw [cnt_succ, cnt_zero, if_neg]
        rw [Bool.and_eq_true, isT_iff]
        rintro ⟨_, h4⟩
        exact ht h4.symm
      omega

theorem ahead_or {g : List Int} {a b : Int} (ha : a ∈ g) (hb : b ∈ g) (hne : a ≠ b) : Ahead g a b ∨ Ahead g b a := by
  induction g with
  | nil => cases ha
  | cons x g ih =>
    rcases List.mem_cons.1 ha with h1 | h1
    · rcases List.mem_cons.1 hb with h2 | h2
      · exact absurd (h1.trans h2.symm) hne
      · subst h1
        obtain ⟨g1, g2, rfl⟩ := List.append_of_mem h2
        exact .inl ⟨a :: g1, g2, rfl, by simp⟩
    · rcases List.mem_cons.1 hb with h2 | h2
      · subst h2
        obtain ⟨g1, g2, rfl⟩ := List.append_of_mem h1
        exact .inr ⟨b :: g1, g2, rfl, by simp⟩
      · rcases ih h1 h2 with ⟨g1, g2, rfl, h⟩ | ⟨g1, g2, rfl, h⟩
        · exact .inl ⟨x :: g1, g2, rfl, by simp [h]⟩
        · exact .inr ⟨x :: g1, g2, rfl, by simp [h]⟩
theorem first_diff : ∀ {v w : List Ev}, v.length = w.length → v ≠ w → ∃ s e f x y, v = s ++ e :: x ∧ w = s ++ f :: y ∧ e ≠ f := by
  intro v
  induction v with
  | nil =>
    intro w hl hne
    obtain rfl := List.eq_nil_of_length_eq_zero hl.symm
    exact absurd rfl hne
  | cons e v ih =>
    intro w hl hne
    rcases w with _ | ⟨f, w⟩
    · simp at hl
    · by_cases he : e = f
      · subst he
        obtain ⟨s, e', f', x, y, rfl, rfl, h⟩ := ih (by simpa using hl) (fun h => hne (by rw [h]))
        exact ⟨e :: s, e', f', x, y, rfl, rfl, h⟩
      · exact ⟨[], e, f, v, w, rfl, rfl, he⟩

section
variable {F : Nat} {s0 : St} {N : List Ev → Prop} {G : List Ev → List Int} {Z : List Ev → Int → Prop}

theorem Expl0.step (E : Expl0 s0 N G Z) {l : List Ev} {e : Ev} (h : N (l ++ [e])) : ∃ z z1, Ex s0 l z ∧ z.step e.thread = (0, e, z1) ∧ Ex s0 (l ++ [e]) z1 := by
  obtain ⟨z1, h1⟩ := E.rows _ h
  obtain ⟨z, hz, z2, h2, h3⟩ := ex_append.1 h1
  obtain rfl : z1 = z2 := h3
  exact ⟨z, z1, hz, h2, h1⟩
theorem Expl0.head (E : Expl0 s0 N G Z) {l y : List Ev} {e : Ev} (h : N (l ++ e :: y)) : N (l ++ [e]) := by
  rw [show l ++ e :: y = (l ++ [e]) ++ y by simp] at h
  exact E.below y h

/-- Who sleeps, and depends on nothing that is done, isn't gone into. -/
theorem Expl0.stays (ok0 : s0.Ok F) (E : Expl0 s0 N G Z) {e : Ev} {b : List Ev} (r : List Ev) : ∀ {l : List Ev} {z : St}, N (l ++ (r ++ e :: b)) → Ex s0 l z → z.next e.thread = some e → Z l e.thread → (∀ y ∈ r, dep e y = false) → False := by
  induction r with
  | nil =>
    intro l z hN hz _ hZ _
    have h1 := E.head hN
    obtain ⟨h2, h3⟩ := E.par l e h1
    exact (E.kid l e.thread z h2 h3 hz).2.1 hZ
  | cons g r ih =>
    intro l z hN hz hn hZ hd
    rw [List.cons_append] at hN
    have h1 := E.head hN
    obtain ⟨z', z1, hz', hst, hz1⟩ := E.step h1
    obtain rfl := ex_det hz hz'
    have hdg := hd g (by simp)
    have hne : e.thread ≠ g.thread := dep_ne hdg
    have hn1 : z1.next e.thread = some e := by
      have h6 := (hz.ok ok0).next_step g.thread (u := e.thread) hne
      rw [hst] at h6
      rw [h6]
      exact hn
    rw [show l ++ g :: (r ++ e :: b) = (l ++ [g]) ++ (r ++ e :: b) by simp] at hN
    exact ih hN hz1 hn1 ((E.wake l g z e.thread h1 hz).2 ⟨hne, .inl hZ, e, hn, hdg⟩) (fun y hy => hd y (by simp [hy]))

theorem Expl0.not_two (ok0 : s0.Ok F) (E : Expl0 s0 N G Z) {s : List Ev} {e f : Ev} {x y : List Ev} (h1 : N (s ++ e :: x)) (h2 : N (s ++ f :: y)) (hs : Sim (e :: x) (f :: y)) (hne : e.thread ≠ f.thread) (ha : Ahead (G s) e.thread f.thread) : False := by
  obtain ⟨a, b, hw, hd⟩ := sim_head hs
  rcases a with _ | ⟨f', a⟩
  · rw [List.nil_append] at hw
    injection hw with hw _
    exact hne (by rw [hw])
  · rw [List.cons_append] at hw
    injection hw with hw1 hw2
    subst hw1 hw2
    have he := E.head h1
    have hf := E.head h2
    obtain ⟨z, z1, hz, hst, _⟩ := E.step he
    obtain ⟨z', z2, hz', hst2, hz2⟩ := E.step hf
    obtain rfl := ex_det hz hz'
    have hn := (step_next hst).1
    have hdf := hd f (by simp)
    have hn2 : z2.next e.thread = some e := by
      have h6 := (hz.ok ok0).next_step f.thread (u := e.thread) hne
      rw [hst2] at h6
      rw [h6]
      exact hn
    rw [show s ++ f :: (a ++ e :: b) = (s ++ [f]) ++ (a ++ e :: b) by simp] at h2
    exact E.stays ok0 a h2 hz2 hn2 ((E.wake s f z e.thread hf hz).2 ⟨hne, .inr ha, e, hn, hdf⟩) (fun y hy => hd y (by simp [hy]))

/-- No two nodes are the same but for an order that doesn't matter. -/
theorem Expl0.only (ok0 : s0.Ok F) (E : Expl0 s0 N G Z) {v w : List Ev} (hv : N v) (hw : N w) (h : Sim v w) : v = w := by
  apply Classical.byContradiction
  intro hne
  obtain ⟨s, e, f, x, y, rfl, rfl, hef⟩ := first_diff (sim_length h) hne
  have h1 := sim_cancel h
  have he := E.head hv
  have hf := E.head hw
  obtain ⟨z, z1, hz, hst, _⟩ := E.step he
  obtain ⟨z', z2, hz', hst2, _⟩ := E.step hf
  obtain rfl := ex_det hz hz'
  have ht : e.thread ≠ f.thread := by
    intro ht
    rw [ht, hst2] at hst
    injection hst with _ hst
    injection hst with hst _
    exact hef hst.symm
  rcases ahead_or (E.par s e he).2 (E.par s f hf).2 ht with ha | ha
  · exact E.not_two ok0 hv hw h1 ht ha
  · exact E.not_two ok0 hw hv h1.symm (Ne.symm ht) ha

/-- A whole execution: at its end nobody may. -/
def Whole (s0 : St) (w : List Ev) : Prop := ∃ z, Ex s0 w z ∧ ∀ t, z.may t = false
/-- Each whole execution is the same as just one end. -/
theorem Expl.ends (ok0 : s0.Ok F) (E : Expl s0 N G Z) {w : List Ev} (h : Whole s0 w) : ∃ v, N v ∧ Whole s0 v ∧ Sim v w ∧ ∀ v', N v' → Sim v' w → v' = v := by
  obtain ⟨z, hw, hend⟩ := h
  obtain ⟨v, y, hN, hv⟩ := E.cover ok0 s0.fuel [] s0 E.root rfl (Nat.le_refl _) w z hw (fun t _ => E.calm t)
  rw [List.nil_append] at hN
  obtain ⟨z2, hz2⟩ := E.rows v hN
  obtain ⟨z', hz', hy⟩ := ex_append.1 ((ex_sim ok0 hv).1 hz2)
  obtain rfl := ex_det hw hz'
  have hnil : y = [] := by
    rcases y with _ | ⟨e, y⟩
    · rfl
    · exfalso
      obtain ⟨s1, h1, _⟩ := hy
      have := (step_next h1).2.1
      rw [hend] at this
      cases this
  subst hnil
  rw [List.append_nil] at hv
  have hz3 := (ex_sim ok0 hv).2 hw
  exact ⟨v, hN, ⟨z, hz3, hend⟩, hv, fun v' hN' hv' => E.only ok0 hN' hN (hv'.trans hv.symm)⟩
end

end Go.Proofs.YtnldkmcijmbhcaaGreat

/- A tree of nodes, plainly: however it grows, it is an exploration, once it is closed. -/
namespace Go.Proofs.YtnldkmcijmbhcaaGreat

/-- A node: its row, who sleeps there, who was gone into, in order. -/
structure Nd where
  row : List Ev
  z : Int → Bool
  g : List Int

structure TreeOk (s0 : St) (T : List Nd) : Prop where
  nodup : (T.map Nd.row).Nodup
  root : ∃ n ∈ T, n.row = [] ∧ ∀ t, n.z t = false
  rows : ∀ n ∈ T, ∃ z, Ex s0 n.row z
  par : ∀ n ∈ T, ∀ l e, n.row = l ++ [e] → ∃ a ∈ T, a.row = l ∧ e.thread ∈ a.g
  kid : ∀ n ∈ T, ∀ t ∈ n.g, ∃ z e z1, Ex s0 n.row z ∧ z.step t = (0, e, z1) ∧ n.z t = false ∧ ∃ b ∈ T, b.row = n.row ++ [e]
  wake : ∀ n ∈ T, ∀ b ∈ T, ∀ e z, b.row = n.row ++ [e] → Ex s0 n.row z → ∀ u, (b.z u = true ↔ u ≠ e.thread ∧ (n.z u = true ∨ Ahead n.g u e.thread) ∧ ∃ f, z.next u = some f ∧ dep f e = false)
  once : ∀ n ∈ T, n.g.Nodup

theorem nodup_row {T : List Nd} (h : (T.map Nd.row).Nodup) {a b : Nd} (ha : a ∈ T) (hb : b ∈ T) (e : a.row = b.row) : a = b := by
  induction T with
  | nil => cases ha
  | cons x T ih =>
    rw [List.map_cons, List.nodup_cons] at h
    rcases List.mem_cons.1 ha with rfl | ha'
    · rcases List.mem_cons.1 hb with rfl | hb'
      · rfl
      · exact absurd (List.mem_map.2 ⟨b, hb', e.symm⟩) h.1
    · rcases List.mem_cons.1 hb with rfl | hb'
      · exact absurd (List.mem_map.2 ⟨a, ha', e⟩) h.1
      · exact ih h.2 ha' hb'
theorem TreeOk.uniq {s0 : St} {T : List Nd} (h : TreeOk s0 T) {a b : Nd} (ha : a ∈ T) (hb : b ∈ T) (e : a.row = b.row) : a = b := nodup_row h.nodup ha hb e
/-- The empty row's node alone. -/
theorem tree_root (s0 : St) : TreeOk s0 [⟨[], fun _ => false, []⟩] := by
  refine ⟨by simp, ⟨_, List.mem_singleton.2 rfl, rfl, fun _ => rfl⟩, fun n hn => ?_, fun n hn l e h => ?_, fun n hn t ht => ?_, fun n hn b hb e z h => ?_, fun n hn => ?_⟩
  · obtain rfl := List.mem_singleton.1 hn
    exact ⟨s0, rfl⟩
  · obtain rfl := List.mem_singleton.1 hn
    simp at h
  · obtain rfl := List.mem_singleton.1 hn
    cases ht
  · obtain rfl := List.mem_singleton.1 hb
    simp at h
  · obtain rfl := List.mem_singleton.1 hn
    exact List.nodup_nil

/-- One thread more is gone into, at one row. -/
def updG (r : List Ev) (t : Int) (a : Nd) : Nd := if a.row = r then { a with g := a.g ++ [t] } else a
theorem updG_row (r : List Ev) (t : Int) (a : Nd) : (updG r t a).row = a.row := by unfold updG; split <;> rfl
theorem updG_z (r : List Ev) (t : Int) (a : Nd) : (updG r t a).z = a.z := by unfold updG; split <;> rfl
theorem updG_g (r : List Ev) (t : Int) (a : Nd) : (updG r t a).g = if a.row = r then a.g ++ [t] else a.g := by unfold updG; split <;> rfl
def growT (T : List Nd) (r : List Ev) (t : Int) (x : Nd) : List Nd := T.map (updG r t) ++ [x]
theorem mem_growT {T : List Nd} {r : List Ev} {t : Int} {x b : Nd} : b ∈ growT T r t x ↔ (∃ a ∈ T, b = updG r t a) ∨ b = x := by
  unfold growT
  rw [List.mem_append, List.mem_singleton, List.mem_map]
  constructor
  · rintro (⟨a, ha, rfl⟩ | h)
    · exact .inl ⟨a, ha, rfl⟩
    · exact .inr h
  · rintro (⟨a, ha, rfl⟩ | h)
    · exact .inl ⟨a, ha, rfl⟩
    · exact .inr h
theorem ahead_snoc {g : List Int} {t u v : Int} (hn : (g ++ [t]).Nodup) (hv : v ∈ g) : Ahead (g ++ [t]) u v ↔ Ahead g u v := by
  have hvt : v ≠ t := by
    intro e
    subst e
    have := (List.nodup_append.1 hn).2.2 v hv v (by simp)
    exact this rfl
  constructor
  · rintro ⟨g1, g2, h1, h2⟩
    rcases List.eq_nil_or_concat g2 with rfl | ⟨g3, w, rfl⟩
    · have h3 : g ++ [t] = g1 ++ [v] := h1
      have := List.append_inj' h3 rfl
      have h4 := this.2
      injection h4 with h4
      exact absurd h4.symm hvt
    · have h3 : g ++ [t] = (g1 ++ v :: g3) ++ [w] := by rw [h1]; simp
      have := (List.append_inj' h3 rfl).1
      exact ⟨g1, g3, this, h2⟩
  · rintro ⟨g1, g2, rfl, h2⟩
    exact ⟨g1, g2 ++ [t], by simp, h2⟩
theorem ahead_last {g : List Int} {t u : Int} (hn : (g ++ [t]).Nodup) : Ahead (g ++ [t]) u t ↔ u ∈ g := by
  constructor
  · rintro ⟨g1, g2, h1, h2⟩
    have := nodup_split (g1 := g) (g2 := []) (h1 := g1) (h2 := g2) (t := t) hn h1
    rw [this]
    exact h2
  · intro h
    exact ⟨g, [], rfl, h⟩

theorem TreeOk.grow {s0 : St} {T : List Nd} (h : TreeOk s0 T) {n : Nd} (hn : n ∈ T) {t : Int} (ht : t ∉ n.g) (hz : n.z t = false) {z z1 : St} {e : Ev} (hx : Ex s0 n.row z) (hs : z.step t = (0, e, z1)) {x : Nd} (hr : x.row = n.row ++ [e]) (hg : x.g = [])
    (hw : ∀ u, x.z u = true ↔ u ≠ t ∧ (n.z u = true ∨ u ∈ n.g) ∧ ∃ f, z.next u = some f ∧ dep f e = false) : TreeOk s0 (growT T n.row t x) := by
  have het : e.thread = t := (step_next hs).2.2
  have hfresh : ∀ b ∈ T, b.row ≠ n.row ++ [e] := by
    intro b hb hbr
    obtain ⟨a, ha, har, hag⟩ := h.par b hb _ _ hbr
    obtain rfl := h.uniq ha hn har
    rw [het] at hag
    exact ht hag
  have hnd : (n.g ++ [t]).Nodup := by
    rw [List.nodup_append]
    refine ⟨h.once n hn, by simp, ?_⟩
    intro a ha b hb e
    rw [List.mem_singleton] at hb
    subst hb e
    exact ht ha
  have hgn : ∀ a ∈ T, a.row = n.row → (updG n.row t a).g = n.g ++ [t] := fun a ha har => by
    obtain rfl := h.uniq ha hn har
    rw [updG_g, if_pos rfl]
  have hgo : ∀ a ∈ T, a.row ≠ n.row → (updG n.row t a).g = a.g := fun a _ har => by rw [updG_g, if_neg har]
  have hgs : ∀ a ∈ T, ∀ v ∈ a.g, v ∈ (updG n.row t a).g := fun a ha v hv => by
    rw [updG_g]
    split
    · exact List.mem_append.2 (.inl hv)
    · exact hv
  refine ⟨?_, ?_, ?_, ?_, ?_, ?_, ?_⟩
  · unfold growT
    rw [List.map_append, List.map_map]
    have e1 : (Nd.row ∘ updG n.row t) = Nd.row := by funext a; exact updG_row _ _ _
    rw [e1, List.nodup_append]
    refine ⟨h.nodup, by simp, ?_⟩
    intro a ha b hb e2
    simp at hb
    subst hb e2
    obtain ⟨c, hc, hcr⟩ := List.mem_map.1 ha
    exact hfresh c hc (hcr.trans hr)
  · obtain ⟨r, hr1, hr2, hr3⟩ := h.root
    exact ⟨_, mem_growT.2 (.inl ⟨r, hr1, rfl⟩), by rw [updG_row]; exact hr2, fun t => by rw [updG_z]; exact hr3 t⟩
  · intro b hb
    rcases mem_growT.1 hb with ⟨a, ha, rfl⟩ | rfl
    · rw [updG_row]; exact h.rows a ha
    · rw [hr]
      exact ⟨z1, ex_append.2 ⟨z, hx, z1, by rw [het]; exact hs, rfl⟩⟩
  · intro b hb l e' hbr
    rcases mem_growT.1 hb with ⟨a, ha, rfl⟩ | rfl
    · rw [updG_row] at hbr
      obtain ⟨c, hc, hcr, hcg⟩ := h.par a ha l e' hbr
      exact ⟨_, mem_growT.2 (.inl ⟨c, hc, rfl⟩), by rw [updG_row]; exact hcr, hgs c hc _ hcg⟩
    · rw [hr] at hbr
      have := List.append_inj' hbr rfl
      obtain ⟨h1, h2⟩ := this
      injection h2 with h2
      subst h1 h2
      exact ⟨_, mem_growT.2 (.inl ⟨n, hn, rfl⟩), updG_row _ _ _, by rw [hgn n hn rfl, het]; simp⟩
  · intro b hb v hv
    rcases mem_growT.1 hb with ⟨a, ha, rfl⟩ | rfl
    · rw [updG_row, updG_z]
      have hold : v ∈ a.g → ∃ z e z1, Ex s0 a.row z ∧ z.step v = (0, e, z1) ∧ a.z v = false ∧ ∃ b ∈ growT T n.row t x, b.row = a.row ++ [e] := fun hv => by
        obtain ⟨y, f, y1, g1, g2, g3, c, hc, g4⟩ := h.kid a ha v hv
        exact ⟨y, f, y1, g1, g2, g3, _, mem_growT.2 (.inl ⟨c, hc, rfl⟩), by rw [updG_row]; exact g4⟩
      by_cases har : a.row = n.row
      · rw [hgn a ha har, List.mem_append, List.mem_singleton] at hv
        obtain rfl := h.uniq ha hn har
        rcases hv with hv | rfl
        · exact hold hv
        · exact ⟨z, e, z1, hx, hs, hz, x, mem_growT.2 (.inr rfl), hr⟩
      · rw [hgo a ha har] at hv
        exact hold hv
    · rw [hg] at hv
      cases hv
  · intro a' ha' b' hb' e' y hbr hxy u
    rcases mem_growT.1 ha' with ⟨a, ha, rfl⟩ | rfl
    · rw [updG_row] at hbr hxy
      rw [updG_z]
      rcases mem_growT.1 hb' with ⟨b, hb, rfl⟩ | rfl
      · rw [updG_row] at hbr
        rw [updG_z, h.wake a ha b hb e' y hbr hxy u]
        by_cases har : a.row = n.row
        · obtain ⟨c, hc, hcr, hcg⟩ := h.par b hb _ _ hbr
          obtain rfl := h.uniq hc ha hcr
          rw [hgn c hc har]
          obtain rfl := h.uniq hc hn har
          rw [ahead_snoc hnd hcg]
        · rw [hgo a ha har]
      · rw [hr] at hbr
        obtain ⟨h1, h2⟩ := List.append_inj' hbr rfl
        injection h2 with h2
        obtain rfl := h.uniq hn ha h1
        subst h2
        obtain rfl := ex_det hx hxy
        rw [hgn n hn rfl, hw u, het, ahead_last hnd]
    · rcases mem_growT.1 hb' with ⟨b, hb, rfl⟩ | rfl
      · rw [updG_row] at hbr
        obtain ⟨c, hc, hcr, _⟩ := h.par b hb _ _ hbr
        exact absurd (hcr.trans hr) (hfresh c hc)
      · exact absurd (congrArg List.length hbr) (by simp)
  · intro b hb
    rcases mem_growT.1 hb with ⟨a, ha, rfl⟩ | rfl
    · by_cases har : a.row = n.row
      · rw [hgn a ha har]; exact hnd
      · rw [hgo a ha har]; exact h.once a ha
    · rw [hg]; exact List.nodup_nil

/-- A tree, as an exploration speaks of it. -/
def TN (T : List Nd) (l : List Ev) : Prop := ∃ n ∈ T, n.row = l
def TG (T : List Nd) (l : List Ev) : List Int := match T.find? fun n => decide (n.row = l) with
  | none => []
  | some n => n.g
def TZ (T : List Nd) (l : List Ev) (t : Int) : Prop := ∃ n ∈ T, n.row = l ∧ n.z t = true
theorem TreeOk.tg {s0 : St} {T : List Nd} (h : TreeOk s0 T) {n : Nd} (hn : n ∈ T) : TG T n.row = n.g := by
  unfold TG
  cases hf : T.find? fun m => decide (m.row = n.row) with
  | none =>
    have := List.find?_eq_none.1 hf n hn
    simp at this
  | some m =>
    have h1 := List.find?_some hf
    have h2 := List.mem_of_find?_eq_some hf
    rw [decide_eq_true_eq] at h1
    rw [h.uniq h2 hn h1]
theorem TreeOk.tz {s0 : St} {T : List Nd} (h : TreeOk s0 T) {n : Nd} (hn : n ∈ T) (t : Int) : TZ T n.row t ↔ n.z t = true := by
  constructor
  · rintro ⟨m, hm, hr, hz⟩
    rw [← h.uniq hm hn hr]
    exact hz
  · intro hz
    exact ⟨n, hn, rfl, hz⟩
/-- Where all that is to be gone into was, and at each race all who may are to be. -/
structure TreeDone (s0 : St) (T : List Nd) : Prop where
  any : ∀ n ∈ T, ∀ z t, Ex s0 n.row z → z.may t = true → n.z t = false → n.g ≠ []
  mark : ∀ b ∈ T, ∀ n ∈ T, ∀ e v z u f, b.row = n.row ++ e :: v → Ex s0 b.row z → z.next u = some f → u ≠ e.thread → dep e f = true →
    (∀ j, j < b.row.length → (evI b.row j).thread = u → hb b.row n.row.length j = false) → ∀ t y, Ex s0 n.row y → y.may t = true → t ∈ n.g ∨ n.z t = true
theorem TreeOk.expl0 {s0 : St} {T : List Nd} (h : TreeOk s0 T) : Expl0 s0 (TN T) (TG T) (TZ T) := by
  refine ⟨?_, ?_, ?_, ?_, ?_, ?_, ?_⟩
  · obtain ⟨n, hn, hr, _⟩ := h.root
    exact ⟨n, hn, hr⟩
  · rintro t ⟨n, hn, hr, hz⟩
    obtain ⟨m, hm, hmr, hmz⟩ := h.root
    obtain rfl := h.uniq hn hm (hr.trans hmr.symm)
    rw [hmz t] at hz
    cases hz
  · rintro l ⟨n, hn, rfl⟩
    exact h.rows n hn
  · rintro l e ⟨n, hn, hr⟩
    obtain ⟨a, ha, har, hag⟩ := h.par n hn l e hr
    exact ⟨⟨a, ha, har⟩, by rw [← har, h.tg ha]; exact hag⟩
  · rintro l t z ⟨n, hn, rfl⟩ ht hx
    rw [h.tg hn] at ht
    obtain ⟨y, e, z1, g1, g2, g3, b, hb, g4⟩ := h.kid n hn t ht
    obtain rfl := ex_det g1 hx
    refine ⟨(step_next g2).2.1, fun hz => ?_, fun e' he' => ?_⟩
    · rw [h.tz hn, g3] at hz
      cases hz
    · rw [(step_next g2).1] at he'
      injection he' with he'
      subst he'
      exact ⟨b, hb, g4⟩
  · rintro l e z u ⟨b, hb, hbr⟩ hx
    obtain ⟨a, ha, har, _⟩ := h.par b hb l e hbr
    subst har
    have h1 := h.wake a ha b hb e z hbr hx u
    rw [← hbr, h.tz hb, h1, h.tz ha, h.tg ha]
  · rintro l ⟨n, hn, rfl⟩
    rw [h.tg hn]
    exact h.once n hn

theorem TreeOk.expl {s0 : St} {T : List Nd} (h : TreeOk s0 T) (hd : TreeDone s0 T) : Expl s0 (TN T) (TG T) (TZ T) := by
  refine ⟨h.expl0, ?_, ?_⟩
  · rintro l t z ⟨n, hn, rfl⟩ hx hm hz
    rw [h.tg hn]
    refine hd.any n hn z t hx hm ?_
    rw [h.tz hn] at hz
    simpa using hz
  · rintro l e v z u f hN hx hnx hu hdp hnb t y hy hm
    obtain ⟨b, hb, hbr⟩ := hN
    have hNl : ∀ w : List Ev, ∀ l', (∃ c ∈ T, c.row = l' ++ w) → ∃ c ∈ T, c.row = l' := by
      intro w
      induction w with
      | nil => intro l' hc; rw [List.append_nil] at hc; exact hc
      | cons e w ih =>
        rintro l' hc
        have hc' : ∃ c ∈ T, c.row = (l' ++ [e]) ++ w := by
          obtain ⟨c, hc1, hc2⟩ := hc
          exact ⟨c, hc1, by rw [hc2]; simp⟩
        obtain ⟨c, hc1, hc2⟩ := ih _ hc'
        obtain ⟨a, ha, har, _⟩ := h.par c hc1 _ _ hc2
        exact ⟨a, ha, har⟩
    obtain ⟨n, hn, rfl⟩ := hNl (e :: v) l ⟨b, hb, hbr⟩
    rw [h.tg hn, h.tz hn]
    rw [← hbr] at hx hnb
    exact hd.mark b hb n hn e v z u f hbr hx hnx hu hdp hnb t y hy hm

theorem nodup_len {A : Type} [DecidableEq A] : ∀ {a b : List A}, a.Nodup → (∀ x ∈ a, x ∈ b) → a.length ≤ b.length := by
  intro a
  induction a with
  | nil => intro b _ _; exact Nat.zero_le _
  | cons x a ih =>
    intro b hn h
    obtain ⟨h1, h2⟩ := List.nodup_cons.1 hn
    have hx := h x List.mem_cons_self
    have h3 := ih (b := b.erase x) h2 fun y hy => (List.mem_erase_of_ne (fun e => h1 (by rw [← e]; exact hy))).2 (h y (List.mem_cons_of_mem _ hy))
    rw [List.length_erase_of_mem hx] at h3
    have := List.length_pos_of_mem hx
    rw [List.length_cons]
    omega

end Go.Proofs.YtnldkmcijmbhcaaGreat
