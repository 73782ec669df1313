import Derived.Deep.RegionLaw
import Derived.BigQuiet
import Derived.Test.YtkphdmfcmfojeaaPk02
import Derived.Test.YtkphdmfcmfojeaaPk03
import Derived.Test.YtkphdmfcmfojeaaPk05
import Derived.Test.YtkphdmfcmfojeaaPk06
import Derived.Test.YtkphdmfcmfojeaaPk07

/- The document's tree in memory: a box, a row of pointers, the nodes, each with three rows of its own. -/
namespace Go.Proofs.Ytkphdmfcmfojeaa
open Go.RowKit

/-- Where a node lies: its block, its three rows. -/
structure NM where
  g : Nat
  va : Value
  vt : Value
  vd : Value
def NM.blks (m : NM) : List Nat := m.va.ownBlock.toList ++ m.vt.ownBlock.toList ++ m.vd.ownBlock.toList
def ndP (n : RNd) (m : NM) : Array Value := #[.string ⟨n.pre.toArray⟩, .int .i64 n.own, m.va, m.vt, m.vd]
structure NdAt (w : World) (B : Nat) (m : NM) (n : RNd) : Prop where
  box : w.heap[m.g]? = some (.cells (ndP n m) 58 (0, 0))
  asl : OwnN w B m.va n.asl
  todo : OwnN w B m.vt n.todo
  done : OwnN w B m.vd n.done
theorem OwnN.kind {w : World} {B : Nat} {v : Value} {l : List Int} (h : OwnN w B v l) {g : Nat} (hg : v.ownBlock = some g) : B ≤ g ∧ ∃ c, w.heap[g]? = some (.cells c 3 (0, 0)) := by
  obtain ⟨h1, ⟨rfl, _⟩ | ⟨g', cap, cur, rfl, h3, h4, h5⟩⟩ := h
  · simp [Value.ownBlock] at hg
  · simp [Value.ownBlock] at hg
    subst hg
    exact ⟨h3, cur, h4⟩
theorem NM.blks_mem {m : NM} {x : Nat} : x ∈ m.blks ↔ m.va.ownBlock = some x ∨ m.vt.ownBlock = some x ∨ m.vd.ownBlock = some x := by
  unfold NM.blks
  simp []
theorem NdAt.kind {w : World} {B : Nat} {m : NM} {n : RNd} (h : NdAt w B m n) {x : Nat} (hx : x ∈ m.blks) : B ≤ x ∧ ∃ c, w.heap[x]? = some (.cells c 3 (0, 0)) := by
  rw [NM.blks_mem] at hx
  rcases hx with hx | hx | hx
  · exact h.asl.kind hx
  · exact h.todo.kind hx
  · exact h.done.kind hx
theorem NdAt.keep {w w' : World} {B : Nat} {m : NM} {n : RNd} {S : Nat → Prop} (h : NdAt w B m n) (ho : OnlyS S w w') (hg : ¬ S m.g) (hb : ∀ x ∈ m.blks, ¬ S x) : NdAt w' B m n :=
  ⟨(ho.block _ (Array.getElem?_eq_some_iff.1 h.box).1 hg).trans h.box, h.asl.onlyS ho fun x hx => hb x (NM.blks_mem.2 (.inl hx)), h.todo.onlyS ho fun x hx => hb x (NM.blks_mem.2 (.inr (.inl hx))), h.done.onlyS ho fun x hx => hb x (NM.blks_mem.2 (.inr (.inr hx)))⟩
theorem NdAt.cells {w : World} {B : Nat} {m : NM} {n : RNd} (h : NdAt w B m n) : w.cell? ⟨m.g, 0, none⟩ = some (.string ⟨n.pre.toArray⟩) ∧ w.cell? ⟨m.g, 1, none⟩ = some (.int .i64 n.own) ∧ w.cell? ⟨m.g, 2, none⟩ = some m.va ∧ w.cell? ⟨m.g, 3, none⟩ = some m.vt ∧ w.cell? ⟨m.g, 4, none⟩ = some m.vd :=
  ⟨by rw [cell_of_row w m.g 0 _ _ _ h.box]; rfl, by rw [cell_of_row w m.g 1 _ _ _ h.box]; rfl, by rw [cell_of_row w m.g 2 _ _ _ h.box]; rfl, by rw [cell_of_row w m.g 3 _ _ _ h.box]; rfl, by rw [cell_of_row w m.g 4 _ _ _ h.box]; rfl⟩

def ptrCell (g : Nat) : List Value := [.pointer (some ⟨g, 0, none⟩)]
theorem ptrCell_len (g : Nat) : (ptrCell g).length = 1 := rfl
theorem ptrCell_one (g : Nat) : ∀ v ∈ ptrCell g, v.oneCell' = true := by
  intro v hv
  simp [ptrCell] at hv
  subst hv
  rfl
/-- What never changes of the document's tree. -/
structure RtH where
  b : Nat
  rb : Nat
  rt : Nat
  rtc : Nat
  a : Option Addr
  cap : Nat
  base : Nat
  wc : World
  p : Pg
  F : Nat
def RtS (h : RtH) (ms : List NM) (vN : Value) (x : Nat) : Prop := x = h.b ∨ vN.ownBlock = some x ∨ ∃ m ∈ ms, x = m.g ∨ x ∈ m.blks
structure RtAt (h : RtH) (w : World) (ms : List NM) (l : List RNd) (vN : Value) (cl : Int) : Prop where
  thr : ThreadsAt h.wc h.a h.p.threads
  below : Below h.wc.heap.size h.wc w
  wb : h.wc.heap.size ≤ h.base
  size : h.base ≤ w.heap.size
  good : goodPg h.p h.F = true
  root : RefAt w h.rb h.rt h.a h.cap h.rtc (St.new h.p h.F)
  lowb : h.base ≤ h.b
  lowg : ∀ m ∈ ms, h.base ≤ m.g
  box : w.heap[h.b]? = some (.cells #[.pointer (some ⟨h.rb, 0, none⟩), vN, .int .i64 cl] 38 (0, 0))
  row : OwnRow w h.base 55 1 ptrCell vN (ms.map NM.g)
  len : ms.length = l.length
  nodes : ∀ i (h1 : i < ms.length) (h2 : i < l.length), NdAt w h.base ms[i] l[i]
  nodup : (ms.map NM.g).Nodup
  own : ∀ m ∈ ms, m.blks.Nodup
  apart : ∀ i j (hi : i < ms.length) (hj : j < ms.length) x, x ∈ ms[i].blks → x ∈ ms[j].blks → i = j
section
variable {h : RtH} {w w' : World} {ms : List NM} {l : List RNd} {vN : Value} {cl : Int}
theorem RtAt.node (t : RtAt h w ms l vN cl) {m : NM} (hm : m ∈ ms) : ∃ n, NdAt w h.base m n := by
  obtain ⟨i, hi, rfl⟩ := List.getElem_of_mem hm
  exact ⟨_, t.nodes i hi (by have := t.len; omega)⟩
theorem rtRow_kind (t : RtAt h w ms l vN cl) {g : Nat} (hg : vN.ownBlock = some g) : h.base ≤ g ∧ ∃ c, w.heap[g]? = some (.cells c 55 (0, 0)) := by
  obtain ⟨h1, ⟨rfl, _⟩ | ⟨g', cap, cur, rfl, h3, h4, h5⟩⟩ := t.row
  · simp [Value.ownBlock] at hg
  · simp [Value.ownBlock] at hg
    subst hg
    exact ⟨h3, cur, h4⟩
theorem RtAt.low (t : RtAt h w ms l vN cl) : ∀ x, RtS h ms vN x → h.base ≤ x := by
  rintro x (rfl | hx | ⟨m, hm, rfl | hx⟩)
  · exact t.lowb
  · exact (rtRow_kind t hx).1
  · exact t.lowg m hm
  · obtain ⟨n, hn⟩ := t.node hm
    exact (hn.kind hx).1
theorem RtAt.lt (t : RtAt h w ms l vN cl) : ∀ x, RtS h ms vN x → x < w.heap.size := by
  rintro x (rfl | hx | ⟨m, hm, rfl | hx⟩)
  · exact (Array.getElem?_eq_some_iff.1 t.box).1
  · obtain ⟨_, c, hc⟩ := rtRow_kind t hx
    exact (Array.getElem?_eq_some_iff.1 hc).1
  · obtain ⟨n, hn⟩ := t.node hm
    exact (Array.getElem?_eq_some_iff.1 hn.box).1
  · obtain ⟨n, hn⟩ := t.node hm
    obtain ⟨_, c, hc⟩ := hn.kind hx
    exact (Array.getElem?_eq_some_iff.1 hc).1
theorem RefAt.onlyR {w w' : World} {b tb : Nat} {a : Option Addr} {cap tcap : Nat} {s : St} {S : Nat → Prop} (r : RefAt w b tb a cap tcap s) (ho : OnlyS S w w') (h1 : ¬ S b) (h2 : ¬ S tb) : RefAt w' b tb a cap tcap s := by
  obtain ⟨l1, l2⟩ := r.lt
  obtain ⟨g1, g0, cur, g2, g3⟩ := r
  exact ⟨(ho.block b l1 h1).trans g1, g0, cur, (ho.block tb l2 h2).trans g2, g3⟩
theorem RtAt.kinds (t : RtAt h w ms l vN cl) {x : Nat} (hx : RtS h ms vN x) : ∃ c ty, w.heap[x]? = some (.cells c ty (0, 0)) ∧ (ty = 38 ∨ ty = 55 ∨ ty = 58 ∨ ty = 3) := by
  rcases hx with rfl | hx | ⟨m, hm, rfl | hx⟩
  · exact ⟨_, _, t.box, .inl rfl⟩
  · obtain ⟨_, c, hc⟩ := rtRow_kind t hx
    exact ⟨c, _, hc, .inr (.inl rfl)⟩
  · obtain ⟨n, hn⟩ := t.node hm
    exact ⟨_, _, hn.box, .inr (.inr (.inl rfl))⟩
  · obtain ⟨n, hn⟩ := t.node hm
    obtain ⟨_, c, hc⟩ := hn.kind hx
    exact ⟨c, _, hc, .inr (.inr (.inr rfl))⟩
/-- The root is none of the tree's blocks. -/
theorem RtAt.rootS (t : RtAt h w ms l vN cl) : ¬ RtS h ms vN h.rb ∧ ¬ RtS h ms vN h.rt := by
  obtain ⟨g1, _, cur, g2, _⟩ := t.root
  constructor
  · intro hx
    obtain ⟨c, ty, e, e2⟩ := t.kinds hx
    rw [g1] at e; injection e with e; injection e with _ e
    rcases e2 with rfl | rfl | rfl | rfl <;> exact absurd e (by decide)
  · intro hx
    obtain ⟨c, ty, e, e2⟩ := t.kinds hx
    rw [g2] at e; injection e with e; injection e with _ e
    rcases e2 with rfl | rfl | rfl | rfl <;> exact absurd e (by decide)
theorem RtAt.onlyS {S : Nat → Prop} (t : RtAt h w ms l vN cl) (ho : OnlyS S w w') (hS : ∀ x, RtS h ms vN x → ¬ S x) (hr : ¬ S h.rb ∧ ¬ S h.rt) (hl : ∀ x, S x → h.wc.heap.size ≤ x) : RtAt h w' ms l vN cl := by
  refine ⟨t.thr, t.below.trans (ho.below t.below.size hl), t.wb, Nat.le_trans t.size ho.size, t.good, t.root.onlyR ho hr.1 hr.2, t.lowb, t.lowg, (ho.block _ (t.lt _ (.inl rfl)) (hS _ (.inl rfl))).trans t.box, ?_, t.len, fun i h1 h2 => (t.nodes i h1 h2).keep ho (hS _ (.inr (.inr ⟨_, List.getElem_mem h1, .inl rfl⟩))) fun x hx => hS _ (.inr (.inr ⟨_, List.getElem_mem h1, .inr hx⟩)), t.nodup, t.own, t.apart⟩
  obtain ⟨h1, h2 | ⟨g, cap, cur, h2, h3, h4, h5⟩⟩ := t.row
  · exact ⟨h1, .inl h2⟩
  · refine ⟨h1, .inr ⟨g, cap, cur, h2, h3, (ho.block g (Array.getElem?_eq_some_iff.1 h4).1 (hS _ (.inr (.inl (by rw [h2]; rfl))))).trans h4, h5⟩⟩
theorem RtAt.later (t : RtAt h w ms l vN cl) (hb : Below w.heap.size w w') : RtAt h w' ms l vN cl :=
  t.onlyS (S := fun _ => False) ⟨hb.os, hb.tape, hb.output, hb.size, fun k hk _ => hb.block k hk⟩ (fun _ _ h => h) ⟨fun h => h, fun h => h⟩ fun _ h => h.elim
theorem RtAt.cells (t : RtAt h w ms l vN cl) : w.cell? ⟨h.b, 0, none⟩ = some (.pointer (some ⟨h.rb, 0, none⟩)) ∧ w.cell? ⟨h.b, 1, none⟩ = some vN ∧ w.cell? ⟨h.b, 2, none⟩ = some (.int .i64 cl) :=
  ⟨by rw [cell_of_row w h.b 0 _ _ _ t.box]; rfl, by rw [cell_of_row w h.b 1 _ _ _ t.box]; rfl, by rw [cell_of_row w h.b 2 _ _ _ t.box]; rfl⟩
theorem RtAt.rootW (t : RtAt h w ms l vN cl) : RefAt w h.rb h.rt h.a h.cap h.rtc (St.new h.p h.F) := t.root
theorem RtAt.thrW (t : RtAt h w ms l vN cl) : ThreadsAt w h.a h.p.threads := t.thr.later t.below
/-- At, of a tree in memory. -/
theorem rtAt_any (t : RtAt h w ms l vN cl) {k : Pfx} (hk : k.length ≤ 1000) : Calls Try.prog 28 #[.pointer (some ⟨h.b, 0, none⟩), .string ⟨k.toArray⟩] w (RefAtR h.p h.a h.cap h.F (rowK k) w) :=
  refAtT_any h.p h.a h.cap h.F t.good h.b h.rb h.rt h.rtc k w hk t.thrW t.rootW t.cells.1
/-- A node is changed in its place: its block's cells, or one of its rows, in place or anew. -/
theorem RtAt.put (t : RtAt h w ms l vN cl) {i : Nat} (hi : i < ms.length) {m : NM} {n : RNd} (eg : m.g = ms[i].g) (ho : OnlyS (fun x => x = ms[i].g ∨ x ∈ ms[i].blks) w w') (hn : NdAt w' h.base m n) (hd : m.blks.Nodup) (hb : ∀ x ∈ m.blks, x ∈ ms[i].blks ∨ w.heap.size ≤ x) : RtAt h w' (ms.set i m) (l.set i n) vN cl := by
  have hil : i < l.length := by have := t.len; omega
  have hni := t.nodes i hi hil
  have hS : ∀ x, (x = ms[i].g ∨ x ∈ ms[i].blks) → RtS h ms vN x := fun x hx => .inr (.inr ⟨_, List.getElem_mem hi, hx⟩)
  have hmap : (ms.set i m).map NM.g = ms.map NM.g := by
    rw [List.map_set, eg]
    apply List.ext_getElem
    · simp
    · intro j h1 h2
      rw [List.getElem_set]
      split
      · rename_i e2; subst e2; simp
      · rfl
  have hbN : ∀ x, vN.ownBlock = some x → ¬ (x = ms[i].g ∨ x ∈ ms[i].blks) := by
    intro x hx hc
    obtain ⟨_, c, h1⟩ := rtRow_kind t hx
    rcases hc with rfl | hc
    · rw [hni.box] at h1; injection h1 with h1; injection h1 with _ h1; exact absurd h1 (by decide)
    · obtain ⟨_, c', h2⟩ := hni.kind hc
      rw [h2] at h1; injection h1 with h1; injection h1 with _ h1; exact absurd h1 (by decide)
  have hbb : ¬ (h.b = ms[i].g ∨ h.b ∈ ms[i].blks) := by
    rintro (hc | hc)
    · have h1 := t.box
      rw [hc, hni.box] at h1; injection h1 with h1; injection h1 with _ h1; exact absurd h1 (by decide)
    · have h1 := t.box
      obtain ⟨_, c', h2⟩ := hni.kind hc
      rw [h2] at h1; injection h1 with h1; injection h1 with _ h1; exact absurd h1 (by decide)
  refine ⟨t.thr, t.below.trans ((ho.below t.size fun x hx => t.low x (hS x hx)).mono t.wb), t.wb, Nat.le_trans t.size ho.size, t.good, t.root.onlyR ho (fun hc => t.rootS.1 (hS _ hc)) (fun hc => t.rootS.2 (hS _ hc)), t.lowb, ?_, (ho.block _ (t.lt _ (.inl rfl)) hbb).trans t.box, ?_, by simp [t.len], ?_, by rw [hmap]; exact t.nodup, ?_, ?_⟩
  · intro m' hm'
    rcases List.mem_or_eq_of_mem_set hm' with h1 | rfl
    · exact t.lowg _ h1
    · rw [eg]; exact t.lowg _ (List.getElem_mem hi)
  · rw [hmap]
    obtain ⟨h1, h2 | ⟨g, cap, cur, h2, h3, h4, h5⟩⟩ := t.row
    · exact ⟨h1, .inl h2⟩
    · exact ⟨h1, .inr ⟨g, cap, cur, h2, h3, (ho.block g (Array.getElem?_eq_some_iff.1 h4).1 (hbN g (by rw [h2]; rfl))).trans h4, h5⟩⟩
  · intro j h1 h2
    rw [List.length_set] at h1 h2
    rw [List.getElem_set, List.getElem_set]
    by_cases e : i = j
    · rw [if_pos e, if_pos e]; exact hn
    · rw [if_neg e, if_neg e]
      have hnj := t.nodes j h1 h2
      refine hnj.keep ho ?_ ?_
      · rintro (hc | hc)
        · have h3 : (ms.map NM.g)[j]'(by simpa using h1) = (ms.map NM.g)[i]'(by simpa using hi) := by simp [hc]
          exact e ((List.getElem_inj t.nodup).1 h3).symm
        · obtain ⟨_, c', h3⟩ := hni.kind hc
          have h4 := hnj.box
          rw [h3] at h4; injection h4 with h4; injection h4 with _ h4; exact absurd h4 (by decide)
      · rintro x hx (rfl | hc)
        · obtain ⟨_, c', h3⟩ := hnj.kind hx
          rw [hni.box] at h3; injection h3 with h3; injection h3 with _ h3; exact absurd h3 (by decide)
        · exact e (t.apart i j hi h1 x hc hx)
  · intro m' hm'
    rcases List.mem_or_eq_of_mem_set hm' with h1 | rfl
    · exact t.own _ h1
    · exact hd
  · intro a b ha hb2 x hxa hxb
    rw [List.length_set] at ha hb2
    rw [List.getElem_set] at hxa hxb
    have key : ∀ j (hj : j < ms.length), i ≠ j → x ∈ m.blks → x ∈ ms[j].blks → False := by
      intro j hj hij h1 h2
      rcases hb x h1 with h3 | h3
      · exact hij (t.apart i j hi hj x h3 h2)
      · have := t.lt x (.inr (.inr ⟨_, List.getElem_mem hj, .inr h2⟩))
        omega
    by_cases ea : i = a
    · by_cases eb : i = b
      · omega
      · rw [if_pos ea] at hxa
        rw [if_neg eb] at hxb
        exact (key b hb2 eb hxa hxb).elim
    · by_cases eb : i = b
      · rw [if_neg ea] at hxa
        rw [if_pos eb] at hxb
        exact (key a ha ea hxb hxa).elim
      · rw [if_neg ea] at hxa
        rw [if_neg eb] at hxb
        exact t.apart a b ha hb2 x hxa hxb
end

end Go.Proofs.Ytkphdmfcmfojeaa

/- The contract of the document's tree's Find; a node's Left. -/
namespace Go.Proofs.Ytkphdmfcmfojeaa
open Go.RowKit

def idxR (l : List RNd) (k : Pfx) : Option Nat := l.findIdx? fun n => decide (n.pre = k)
theorem idxR_at {l : List RNd} {k : Pfx} {j : Nat} (hj : j < l.length) (h : ∀ m (hm : m < j), l[m].pre ≠ k) (e : l[j].pre = k) : idxR l k = some j := by
  unfold idxR
  rw [List.findIdx?_eq_some_iff_getElem]
  exact ⟨hj, by simpa using e, fun m hm => by simpa using h m hm⟩
theorem idxR_no {l : List RNd} {k : Pfx} (h : ∀ m (hm : m < l.length), l[m].pre ≠ k) : idxR l k = none := by
  unfold idxR
  rw [List.findIdx?_eq_none_iff]
  intro n hn
  obtain ⟨i, hi, rfl⟩ := List.getElem_of_mem hn
  simpa using h i hi
theorem idxR_some {l : List RNd} {k : Pfx} {i : Nat} (h : idxR l k = some i) : ∃ hi : i < l.length, l[i].pre = k := by
  unfold idxR at h
  rw [List.findIdx?_eq_some_iff_getElem] at h
  obtain ⟨hi, h1, _⟩ := h
  exact ⟨hi, by simpa using h1⟩
/-- Which block a prefix's node has. -/
def blkR (ms : List NM) (l : List RNd) (k : Pfx) : Option Nat := (idxR l k).bind fun i => ms[i]?.map NM.g
theorem blkR_some {ms : List NM} {l : List RNd} {k : Pfx} {i : Nat} (h : idxR l k = some i) (hi : i < ms.length) : blkR ms l k = some ms[i].g := by
  unfold blkR; rw [h]; simp [hi]
theorem blkR_none {ms : List NM} {l : List RNd} {k : Pfx} (h : idxR l k = none) : blkR ms l k = none := by unfold blkR; rw [h]; rfl
theorem RowAt.ptr {w : World} {a : Option Addr} {gs : List Nat} (h : RowAt w a 1 ptrCell gs) {j : Nat} (hj : j < gs.length) : ∃ b o, a = some ⟨b, o, none⟩ ∧ w.cell? ⟨b, o + j, none⟩ = some (.pointer (some ⟨gs[j], 0, none⟩)) := by
  obtain ⟨b, o, rfl, hc⟩ := h.2 (by intro e; simp [e] at hj)
  have h1 := hc j hj 0 _ rfl
  rw [Nat.mul_one, Nat.add_zero] at h1
  exact ⟨b, o, rfl, h1⟩
section
variable {h : RtH} {w : World} {ms : List NM} {l : List RNd} {vN : Value} {cl : Int}
set_option maxRecDepth 100000 in
set_option maxHeartbeats 2000000 in
theorem refFind_any (t : RtAt h w ms l vN cl) (k : Pfx) (hl : l.length ≤ 1000000) : Calls Try.prog 25 #[.pointer (some ⟨h.b, 0, none⟩), .string ⟨k.toArray⟩] w fun r w' => r = .returned (ptrV (blkR ms l k)) ∧ w = w' := by
  have hml : ms.length = l.length := t.len
  obtain ⟨_, c1, _⟩ := t.cells
  obtain ⟨ra, rc, rfl, hrow, _⟩ := OwnRow.form t.row ptrCell_len (by rw [List.length_map]; omega)
  have hgl : (ms.map NM.g).length = ms.length := List.length_map _
  rw [hgl] at c1
  have HP : Hid (∀ j (hj : j < ms.length), ∃ b o, ra = some ⟨b, o, none⟩ ∧ w.cell? ⟨b, o + j, none⟩ = some (.pointer (some ⟨ms[j].g, 0, none⟩))) := fun j hj => by
    have := hrow.ptr (j := j) (by rw [hgl]; exact hj)
    simpa using this
  have HN : Hid (∀ j (hj : j < ms.length) (hj2 : j < l.length), w.cell? ⟨ms[j].g, 0, none⟩ = some (.string ⟨l[j].pre.toArray⟩)) := fun j h1 h2 => (t.nodes j h1 h2).cells.1
  have HY := Lib.hid (fun j hj h => idxR_at (l := l) (k := k) (j := j) hj h)
  have HNO := Lib.hid (idxR_no (l := l) (k := k))
  have HBS := Lib.hid (fun i => blkR_some (ms := ms) (l := l) (k := k) (i := i))
  have HBN := Lib.hid (blkR_none (ms := ms) (l := l) (k := k))
  clear t hrow hgl
  go_enter Try.func25, Try.ntmps25
  go_wp2
  go_loopw [5] (fun i wr => ∃ j : Nat, j ≤ ms.length ∧ i = .int .i64 j ∧ Hid (∀ m (hm : m < j) (hm2 : m < l.length), l[m].pre ≠ k) ∧ wr = w) (fun i _ => ms.length - (intOf i).toNat)
  case atStart => exact ⟨0, Nat.zero_le _, rfl, fun m hm => absurd hm (Nat.not_lt_zero m), by first | rfl | trivial⟩
  case round =>
    obtain ⟨j, hj, rfl, HL, hwr⟩ := hrel
    subst hwr
    by_cases hlt : j < ms.length
    · have hlt2 : j < l.length := by omega
      obtain ⟨b, o, rfl, d0⟩ := HP.out j hlt
      have d1 := HN.out j hlt hlt2
      have HS1 : Hid (l[j].pre = k → blkR ms l k = some ms[j].g) := fun e => HBS.out j (HY.out j hlt2 (fun m hm => HL.out m hm (by omega)) e) hlt
      have HS2 : Hid (l[j].pre ≠ k → ∀ m (hm : m < j + 1) (hm2 : m < l.length), l[m].pre ≠ k) := fun e m hm hm2 => by
        by_cases hmj : m = j
        · subst hmj; exact e
        · exact HL.out m (by omega) hm2
      generalize l[j].pre = x at *
      generalize ms[j].g = g at *
      by_cases hxy : x = k
      · have hq : (x == k) = true := by simp [hxy]
        have HR := Lib.hid (HS1.out hxy)
        clear hxy HS1 HS2
        go_wp2
        go_ret
        rw [HR.out]
        exact ⟨rfl, rfl⟩
      · have hq : (x == k) = false := by simp [hxy]
        have HR := Lib.hid (HS2.out hxy)
        clear hxy HS1 HS2
        go_wp2
        go_roundw
        case rel => exact ⟨j + 1, by omega, by go_num, HR.out, by first | rfl | trivial⟩
        case measure => simp [intOf]; omega
    · have HR := Lib.hid (HBN.out (HNO.out fun m hm => HL.out m (by omega) hm))
      go_wp2
      go_ret
      rw [HR.out]
      exact ⟨rfl, rfl⟩
/-- A node's Left, of a tree in memory. -/
theorem rtLeft_any (t : RtAt h w ms l vN cl) {i : Nat} (hi : i < ms.length) (hil : i < l.length) (ha : l[i].asl.length ≤ 1000) (ht : l[i].todo.length ≤ 1000) (hd : l[i].done.length ≤ 1000) :
    Calls Try.prog 26 #[.pointer (some ⟨ms[i].g, 0, none⟩)] w fun r w' => ∃ v, r = .returned v ∧ OwnN w' w.heap.size v (ints (l[i].leftTo 8)) ∧ Below w.heap.size w w' := by
  have hn := t.nodes i hi hil
  obtain ⟨_, _, c2, c3, c4⟩ := hn.cells
  obtain ⟨aa, ca, ea, na, _⟩ := OwnN.form hn.asl (by omega)
  obtain ⟨at_, ct, et, nt, _⟩ := OwnN.form hn.todo (by omega)
  obtain ⟨ad, cd, ed, nd, _⟩ := OwnN.form hn.done (by omega)
  rw [ea] at c2
  rw [et] at c3
  rw [ed] at c4
  exact refLeft_any ms[i].g l[i] aa at_ ad ca ct cd w c2 c3 c4 na nt nd ha ht hd
end

end Go.Proofs.Ytkphdmfcmfojeaa

/- One int more behind a row of one's own, and where the new row lies; a node's row is longer by one. -/
namespace Go.Proofs.Ytkphdmfcmfojeaa
open Go.RowKit

def intCell (x : Int) : List Value := [.int .i64 x]
theorem intCells (ns : List Int) : cellsL intCell ns = ns.map (Value.int .i64) := by
  induction ns with
  | nil => rfl
  | cons a l ih => show intCell a ++ cellsL intCell l = _; rw [ih]; rfl
theorem ownN_row {w : World} {B : Nat} {v : Value} {ns : List Int} : OwnN w B v ns ↔ OwnRow w B 3 1 intCell v ns := by
  unfold OwnN OwnRow
  rw [intCells]
theorem infoInt : (Try.prog.info? 3).map (fun i => (i.zero, i.size, i.bytes)) = some (some (.int .i64 0), 1, 8) := by kernel_rfl
theorem wp_appendNx {w : World} {ops : Array Oper} {rest : List Oper} {o : Oper} {a : Act} {Q : Exit → Act → World → Prop} (hgd : o.guard = none) (s x : Operand)
    (ho : o.op = .call { callee := .builtin .append, args := #[s, x], argTypes := #[41, 41] }) (B : Nat) (v : Value) (ns : List Int) (hs : a.eval s = v) (hown : OwnN w B v ns)
    (ad : Addr) (hx : a.eval x = .slice (some ad) 1 1) (y : Int) (hnew : w.cell? ad = some (.int .i64 y)) (hlen : ns.length ≤ 1000000) (hB : B ≤ w.heap.size)
    (h : ∀ v' w', OwnN w' B v' (ns ++ [y]) → Below B w w' → w.grownBy w' v.ownBlock → (v'.ownBlock = v.ownBlock ∨ v'.ownBlock = some w.heap.size) → wpList Try.prog ops Q rest (a.put o.dst v') w') : wpList Try.prog ops Q (o :: rest) a w := by
  refine wpList_plain hgd fun K' hK' => ?_
  refine wp_appendAt (f := intCell) (n := 1) 41 3 8 (.int .i64 0) Try.underlying41 infoInt rfl (by omega) (by omega) (fun _ => rfl) s x ho B v ns hs (ownN_row.1 hown) ad hx y (fun u hu => by simp [intCell] at hu; subst hu; rfl) ?_ hlen hB ?_
  · intro j u hu
    cases j with
    | zero =>
      injection hu with hu
      rw [← hu]
      exact hnew
    | succ j => simp [intCell] at hu
  · intro v' w' h1 h2 h3 h4
    exact hK' _ _ (h v' w' (ownN_row.2 h1) h2 h3 h4)
section
variable {h : RtH} {w w1 w7 : World} {ms : List NM} {l : List RNd} {vN : Value} {cl : Int}
theorem heap_alloc_old (w : World) (o : Obj) {k : Nat} (hk : k < w.heap.size) : (w.alloc o).heap[k]? = w.heap[k]? := (below_alloc1 w o).block k hk
/-- Done is longer by one. -/
theorem RtAt.doneMore (t : RtAt h w ms l vN cl) {i : Nat} (hi : i < ms.length) (hil : i < l.length) {x : Int} {v' : Value} {o : Obj} (hown : OwnN w7 h.base v' (l[i].done ++ [x])) (hg : (w.alloc o).grownBy w7 ms[i].vd.ownBlock) (hv : v'.ownBlock = ms[i].vd.ownBlock ∨ v'.ownBlock = some (w.alloc o).heap.size) :
    RtAt h (w7.setCell ⟨ms[i].g, 4, none⟩ v') (ms.set i { ms[i] with vd := v' }) (l.set i { l[i] with done := l[i].done ++ [x] }) vN cl ∧ OnlyS (RtS h ms vN) w (w7.setCell ⟨ms[i].g, 4, none⟩ v') ∧ w7.frozen? ⟨ms[i].g, 4, none⟩ = false ∧ w7.cell? ⟨ms[i].g, 4, none⟩ = some ms[i].vd := by
  have hn := t.nodes i hi hil
  have hmem : ms[i] ∈ ms := List.getElem_mem hi
  have hgl : ms[i].g < w.heap.size := (Array.getElem?_eq_some_iff.1 hn.box).1
  have hnd := t.own _ hmem
  have hgv : ∀ y ∈ ms[i].blks, y ≠ ms[i].g := by
    rintro y hy rfl
    obtain ⟨_, c, h1⟩ := hn.kind hy
    rw [hn.box] at h1; injection h1 with h1; injection h1 with _ h1; exact absurd h1 (by decide)
  have hvl : ∀ y ∈ ms[i].blks, y < w.heap.size := fun y hy => t.lt y (.inr (.inr ⟨_, hmem, .inr hy⟩))
  have ho1 : OnlyS (fun y => y = ms[i].g ∨ y ∈ ms[i].blks) (w.alloc o) w7 := ⟨hg.os, hg.tape, hg.output, hg.size, fun k hk hs => hg.block k hk (fun e => hs (.inr (NM.blks_mem.2 (.inr (.inr e.symm)))))⟩
  have ho2 : OnlyS (fun y => y = ms[i].g ∨ y ∈ ms[i].blks) w w7 := OnlyS.after (below_alloc1 w o) ho1
  have ho3 : OnlyS (fun y => y = ms[i].g ∨ y ∈ ms[i].blks) w (w7.setCell ⟨ms[i].g, 4, none⟩ v') := ho2.setCell (p := ⟨ms[i].g, 4, none⟩) (.inl rfl) _
  have hbox7 : w7.heap[ms[i].g]? = some (.cells (ndP l[i] ms[i]) 58 (0, 0)) := by
    rw [hg.block _ (by rw [World.size_alloc]; omega) (fun e => hgv _ (NM.blks_mem.2 (.inr (.inr e.symm))) rfl), heap_alloc_old w o hgl]
    exact hn.box
  have hblk' : ∀ y, v'.ownBlock = some y → y ≠ ms[i].g := by
    rintro y hy rfl
    rcases hv with hv | hv
    · rw [hv] at hy; exact hgv _ (NM.blks_mem.2 (.inr (.inr hy))) rfl
    · rw [hv] at hy; injection hy with hy; rw [World.size_alloc] at hy; omega
  unfold NM.blks at hnd
  rw [List.nodup_append, List.nodup_append] at hnd
  obtain ⟨⟨ha1, ha2, ha3⟩, ha4, ha5⟩ := hnd
  have hne : ∀ y, (ms[i].va.ownBlock = some y ∨ ms[i].vt.ownBlock = some y) → ms[i].vd.ownBlock ≠ some y := by
    intro y hy hd
    refine ha5 y ?_ y (by simp [hd]) rfl
    rcases hy with hy | hy
    · simp [hy]
    · simp [hy]
  have hkeep : ∀ y, (ms[i].va.ownBlock = some y ∨ ms[i].vt.ownBlock = some y) → (w7.setCell ⟨ms[i].g, 4, none⟩ v').heap[y]? = w.heap[y]? := by
    intro y hy
    have hyb : y ∈ ms[i].blks := NM.blks_mem.2 (hy.imp_right .inl)
    rw [Below.heap_setCell _ _ _ _ (hgv y hyb), hg.block y (by rw [World.size_alloc]; have := hvl y hyb; omega) (fun e => hne y hy e.symm), heap_alloc_old w o (hvl y hyb)]
  have hrow : ∀ {v : Value} {ns : List Int}, OwnN w h.base v ns → (∀ y, v.ownBlock = some y → ms[i].va.ownBlock = some y ∨ ms[i].vt.ownBlock = some y) → OwnN (w7.setCell ⟨ms[i].g, 4, none⟩ v') h.base v ns := by
    intro v ns hv1 hv2
    obtain ⟨h1, h2 | ⟨g, cap, cur, h2, h3, h4, h5⟩⟩ := hv1
    · exact ⟨h1, .inl h2⟩
    · exact ⟨h1, .inr ⟨g, cap, cur, h2, h3, (hkeep g (hv2 g (by rw [h2]; rfl))).trans h4, h5⟩⟩
  refine ⟨t.put hi (m := { ms[i] with vd := v' }) (n := { l[i] with done := l[i].done ++ [x] }) rfl ho3 ⟨?_, ?_, ?_, ?_⟩ ?_ ?_, ho3.mono fun y _ hy => .inr (.inr ⟨_, hmem, hy⟩), by simp [World.frozen?, hbox7], by rw [cell_of_row w7 ms[i].g 4 _ _ _ hbox7]; rfl⟩
  · rw [heap_setCell_same w7 ms[i].g 4 _ _ _ hbox7]; rfl
  · exact hrow hn.asl fun y hy => .inl hy
  · exact hrow hn.todo fun y hy => .inr hy
  · obtain ⟨h1, h2 | ⟨g, cap, cur, h2, h3, h4, h5⟩⟩ := hown
    · exact ⟨h1, .inl h2⟩
    · exact ⟨h1, .inr ⟨g, cap, cur, h2, h3, (Below.heap_setCell _ _ _ _ (hblk' g (by rw [h2]; rfl))).trans h4, h5⟩⟩
  · show (ms[i].va.ownBlock.toList ++ ms[i].vt.ownBlock.toList ++ v'.ownBlock.toList).Nodup
    rw [List.nodup_append, List.nodup_append]
    refine ⟨⟨ha1, ha2, ha3⟩, by cases v'.ownBlock <;> simp, fun y hy z hz => ?_⟩
    rcases hv with hv | hv
    · rw [hv] at hz; exact ha5 y hy z hz
    · rw [hv] at hz
      simp at hz
      subst hz
      have : y ∈ ms[i].blks := by unfold NM.blks; exact List.mem_append_left _ hy
      have := hvl y this
      omega
  · intro y hy
    rw [NM.blks_mem] at hy
    rcases hy with hy | hy | hy
    · exact .inl (NM.blks_mem.2 (.inl hy))
    · exact .inl (NM.blks_mem.2 (.inr (.inl hy)))
    · rcases hv with hv | hv
      · exact .inl (NM.blks_mem.2 (.inr (.inr (hv ▸ hy))))
      · right
        have hy2 : v'.ownBlock = some y := hy
        rw [hv] at hy2; injection hy2 with hy2; rw [World.size_alloc] at hy2; omega
/-- Todo is longer by one. -/
theorem RtAt.todoMore (t : RtAt h w ms l vN cl) {i : Nat} (hi : i < ms.length) (hil : i < l.length) {x : Int} {v' : Value} {o : Obj} (hown : OwnN w7 h.base v' (l[i].todo ++ [x])) (hg : (w.alloc o).grownBy w7 ms[i].vt.ownBlock) (hv : v'.ownBlock = ms[i].vt.ownBlock ∨ v'.ownBlock = some (w.alloc o).heap.size) :
    RtAt h (w7.setCell ⟨ms[i].g, 3, none⟩ v') (ms.set i { ms[i] with vt := v' }) (l.set i { l[i] with todo := l[i].todo ++ [x] }) vN cl ∧ OnlyS (RtS h ms vN) w (w7.setCell ⟨ms[i].g, 3, none⟩ v') ∧ w7.frozen? ⟨ms[i].g, 3, none⟩ = false ∧ w7.cell? ⟨ms[i].g, 3, none⟩ = some ms[i].vt := by
  have hn := t.nodes i hi hil
  have hmem : ms[i] ∈ ms := List.getElem_mem hi
  have hgl : ms[i].g < w.heap.size := (Array.getElem?_eq_some_iff.1 hn.box).1
  have hnd := t.own _ hmem
  have hgv : ∀ y ∈ ms[i].blks, y ≠ ms[i].g := by
    rintro y hy rfl
    obtain ⟨_, c, h1⟩ := hn.kind hy
    rw [hn.box] at h1; injection h1 with h1; injection h1 with _ h1; exact absurd h1 (by decide)
  have hvl : ∀ y ∈ ms[i].blks, y < w.heap.size := fun y hy => t.lt y (.inr (.inr ⟨_, hmem, .inr hy⟩))
  have ho1 : OnlyS (fun y => y = ms[i].g ∨ y ∈ ms[i].blks) (w.alloc o) w7 := ⟨hg.os, hg.tape, hg.output, hg.size, fun k hk hs => hg.block k hk (fun e => hs (.inr (NM.blks_mem.2 (.inr (.inl e.symm)))))⟩
  have ho2 : OnlyS (fun y => y = ms[i].g ∨ y ∈ ms[i].blks) w w7 := OnlyS.after (below_alloc1 w o) ho1
  have ho3 : OnlyS (fun y => y = ms[i].g ∨ y ∈ ms[i].blks) w (w7.setCell ⟨ms[i].g, 3, none⟩ v') := ho2.setCell (p := ⟨ms[i].g, 3, none⟩) (.inl rfl) _
  have hbox7 : w7.heap[ms[i].g]? = some (.cells (ndP l[i] ms[i]) 58 (0, 0)) := by
    rw [hg.block _ (by rw [World.size_alloc]; omega) (fun e => hgv _ (NM.blks_mem.2 (.inr (.inl e.symm))) rfl), heap_alloc_old w o hgl]
    exact hn.box
  have hblk' : ∀ y, v'.ownBlock = some y → y ≠ ms[i].g := by
    rintro y hy rfl
    rcases hv with hv | hv
    · rw [hv] at hy; exact hgv _ (NM.blks_mem.2 (.inr (.inl hy))) rfl
    · rw [hv] at hy; injection hy with hy; rw [World.size_alloc] at hy; omega
  have HND := hnd
  unfold NM.blks at hnd HND
  rw [List.nodup_append, List.nodup_append] at hnd
  obtain ⟨⟨ha1, ha2, ha3⟩, ha4, ha5⟩ := hnd
  have hne : ∀ y, (ms[i].va.ownBlock = some y ∨ ms[i].vd.ownBlock = some y) → ms[i].vt.ownBlock ≠ some y := by
    intro y hy hd
    rcases hy with hy | hy
    · exact ha3 y (by simp [hy]) y (by simp [hd]) rfl
    · exact ha5 y (by simp [hd]) y (by simp [hy]) rfl
  have hkeep : ∀ y, (ms[i].va.ownBlock = some y ∨ ms[i].vd.ownBlock = some y) → (w7.setCell ⟨ms[i].g, 3, none⟩ v').heap[y]? = w.heap[y]? := by
    intro y hy
    have hyb : y ∈ ms[i].blks := NM.blks_mem.2 (hy.imp_right .inr)
    rw [Below.heap_setCell _ _ _ _ (hgv y hyb), hg.block y (by rw [World.size_alloc]; have := hvl y hyb; omega) (fun e => hne y hy e.symm), heap_alloc_old w o (hvl y hyb)]
  have hrow : ∀ {v : Value} {ns : List Int}, OwnN w h.base v ns → (∀ y, v.ownBlock = some y → ms[i].va.ownBlock = some y ∨ ms[i].vd.ownBlock = some y) → OwnN (w7.setCell ⟨ms[i].g, 3, none⟩ v') h.base v ns := by
    intro v ns hv1 hv2
    obtain ⟨h1, h2 | ⟨g, cap, cur, h2, h3, h4, h5⟩⟩ := hv1
    · exact ⟨h1, .inl h2⟩
    · exact ⟨h1, .inr ⟨g, cap, cur, h2, h3, (hkeep g (hv2 g (by rw [h2]; rfl))).trans h4, h5⟩⟩
  refine ⟨t.put hi (m := { ms[i] with vt := v' }) (n := { l[i] with todo := l[i].todo ++ [x] }) rfl ho3 ⟨?_, ?_, ?_, ?_⟩ ?_ ?_, ho3.mono fun y _ hy => .inr (.inr ⟨_, hmem, hy⟩), by simp [World.frozen?, hbox7], by rw [cell_of_row w7 ms[i].g 3 _ _ _ hbox7]; rfl⟩
  · rw [heap_setCell_same w7 ms[i].g 3 _ _ _ hbox7]; rfl
  · exact hrow hn.asl fun y hy => .inl hy
  · obtain ⟨h1, h2 | ⟨g, cap, cur, h2, h3, h4, h5⟩⟩ := hown
    · exact ⟨h1, .inl h2⟩
    · exact ⟨h1, .inr ⟨g, cap, cur, h2, h3, (Below.heap_setCell _ _ _ _ (hblk' g (by rw [h2]; rfl))).trans h4, h5⟩⟩
  · exact hrow hn.done fun y hy => .inr hy
  · show (ms[i].va.ownBlock.toList ++ v'.ownBlock.toList ++ ms[i].vd.ownBlock.toList).Nodup
    rcases hv with hv | hv
    · rw [hv]; exact HND
    · rw [hv, List.nodup_append, List.nodup_append]
      have hlt : ∀ y, y ∈ ms[i].va.ownBlock.toList ∨ y ∈ ms[i].vd.ownBlock.toList → y < w.heap.size := fun y hy => hvl y (by
        unfold NM.blks
        rcases hy with hy | hy
        · exact List.mem_append_left _ (List.mem_append_left _ hy)
        · exact List.mem_append_right _ hy)
      refine ⟨⟨ha1, by simp, fun y hy z hz => ?_⟩, ha4, fun y hy z hz => ?_⟩
      · simp at hz
        subst hz
        have := hlt y (.inl hy)
        omega
      · rw [List.mem_append] at hy
        rcases hy with hy | hy
        · exact ha5 y (List.mem_append_left _ hy) z hz
        · simp at hy
          subst hy
          have := hlt z (.inr hz)
          omega
  · intro y hy
    rw [NM.blks_mem] at hy
    rcases hy with hy | hy | hy
    · exact .inl (NM.blks_mem.2 (.inl hy))
    · rcases hv with hv | hv
      · exact .inl (NM.blks_mem.2 (.inr (.inl (hv ▸ hy))))
      · right
        have hy2 : v'.ownBlock = some y := hy
        rw [hv] at hy2; injection hy2 with hy2; rw [World.size_alloc] at hy2; omega
    · exact .inl (NM.blks_mem.2 (.inr (.inr hy)))
end

end Go.Proofs.Ytkphdmfcmfojeaa

/- The contracts of the document's Child and Blocked. -/
namespace Go.Proofs.Ytkphdmfcmfojeaa
open Go.RowKit

theorem evR_one (o : Option Ev) : evR o = .tuple #[.agg #[.int .i64 (o.getD ev0).thread, .int .i64 (o.getD ev0).kind, .int .i64 (o.getD ev0).obj, .bool (o.getD ev0).fail], .bool o.isSome] := rfl
theorem child_step {nx : Int → Option Ev} {e : Ev} {asl ear : Nat} {t : Int} {k : Nat} (h : nx t = some e) : childO nx asl ear t k = (decide ((k : Int) ≠ t) && (asl.testBit k || ear.testBit k) && (nx (k : Int)).isSome && !dep ((nx (k : Int)).getD ev0) e) := by
  unfold childO
  rw [h]
  cases nx (k : Int) with
  | none => simp
  | some x => simp
theorem refInBits_any {n : Nat} (a : Option Addr) (cap : Nat) (x : Int) (w : World) (hl : NumsAt w a (ints (bitsL n))) :
    Calls Try.prog 52 #[.slice a (bitsL n).length cap, .int .i64 x] w fun r w' => r = .returned (.bool (hasB n x)) ∧ w = w' := by
  have h8 := bitsL_len n
  have := refIn_any a cap (ints (bitsL n)) x w hl (by rw [ints_len]; omega)
  rw [ints_len, mem_has] at this
  exact this

set_option maxRecDepth 100000 in
set_option maxHeartbeats 4000000 in
theorem refChild_gen (g : Addr) (nx : Int → Option Ev) (asl ear : Nat) (aa ae : Option Addr) (ca ce : Nat) (t : Int) (w : World)
    (hasl : NumsAt w aa (ints (bitsL asl))) (hear : NumsAt w ae (ints (bitsL ear)))
    (hn : ∀ W, Below w.heap.size w W → ∀ t, Calls Try.prog 80 #[.pointer (some g), .int .i64 t] W fun r w' => r = .returned (evR (nx t)) ∧ Below W.heap.size W w') :
    Calls Try.prog 59 #[.pointer (some g), .slice aa (bitsL asl).length ca, .slice ae (bitsL ear).length ce, .int .i64 t] w fun r w' => ∃ v, r = .returned v ∧ OwnN w' w.heap.size v (ints (childTo nx asl ear t 8)) ∧ Below w.heap.size w w' := by
  have HN := Lib.hid hn
  have HASL := Lib.hid hasl
  have HEAR := Lib.hid hear
  clear hn hasl hear
  cases h : nx t with
  | none =>
    have HC := Lib.hid (child_none (asl := asl) (ear := ear) h 8)
    have H := Lib.hid h
    clear h
    go_enter Try.func59, Try.ntmps59
    go_wp2_with fail
    refine (HN.out w (Below.refl _ _) t).mono ?_
    rw [H.out, evR_none]
    rintro r w1 ⟨rfl, hb1⟩
    have hz := hb1.size
    go_wp2
    go_loopw [9, 12] (fun v i wr => v = .slice none 0 0 ∧ Hid (Below w.heap.size w wr)) (fun _ i _ => 0)
    case atStart => exact ⟨rfl, hb1.alloc hz _⟩
    case round =>
      obtain ⟨rfl, HW⟩ := hrel
      go_wp2
      go_ret
      exact ⟨_, rfl, by rw [HC.out]; exact ownN_nil _ _, HW.out⟩
  | some e =>
    have HCS := Lib.hid (fun k => child_step (asl := asl) (ear := ear) (k := k) h)
    have H := Lib.hid h
    clear h
    go_enter Try.func59, Try.ntmps59
    go_wp2_with fail
    refine (HN.out w (Below.refl _ _) t).mono ?_
    rw [H.out, evR_some]
    rintro r w1 ⟨rfl, hb1⟩
    have hz1 := hb1.size
    have HX : Hid (EvBox (w1.alloc (.cells #[.int .i64 e.thread, .int .i64 e.kind, .int .i64 e.obj, .bool e.fail] 128)) w1.heap.size e) := EvBox.new w1 e
    have HB2 := Lib.hid (hb1.alloc hz1 (.cells #[.int .i64 e.thread, .int .i64 e.kind, .int .i64 e.obj, .bool e.fail] 128))
    clear hb1
    go_wp2_with fail
    generalize w1.alloc (.cells #[.int .i64 e.thread, .int .i64 e.kind, .int .i64 e.obj, .bool e.fail] 128) = W2 at *
    have hz2 := HB2.out.size
    go_loopw [9, 12] (fun v i wr => ∃ k : Nat, k ≤ 8 ∧ i = .int .i64 k ∧ Hid (OwnN wr W2.heap.size v (ints (childTo nx asl ear t k))) ∧ Hid (Below W2.heap.size W2 wr)) (fun _ i _ => 8 - (intOf i).toNat)
    case atStart => exact ⟨0, Nat.zero_le _, rfl, ownN_nil _ _, Below.refl _ _⟩
    case round =>
      obtain ⟨k, hk, rfl, hown, HW⟩ := hrel
      have hzw := HW.out.size
      have HBW := Lib.hid (HB2.out.trans (HW.out.mono hz2))
      by_cases hlt : k < 8
      · have HC := Lib.hid (HCS.out k)
        have HY := Lib.hid (childTo_yes (nx := nx) (asl := asl) (ear := ear) (t := t) (k := k))
        have HNO := Lib.hid (childTo_no (nx := nx) (asl := asl) (ear := ear) (t := t) (k := k))
        have hle := childTo_len nx asl ear t k
        rw [← ints_len] at hle
        have HA := Lib.hid (hasB_nat asl hlt)
        have HE := Lib.hid (hasB_nat ear hlt)
        go_wp2_with fail
        refine (HN.out wr HBW.out _).mono ?_
        rw [evR_one]
        rintro r w4 ⟨rfl, hb4⟩
        have hz4 := hb4.size
        have hbx := hb4.alloc hz4 (.cells #[.int .i64 ((nx (k : Int)).getD ev0).thread, .int .i64 ((nx (k : Int)).getD ev0).kind, .int .i64 ((nx (k : Int)).getD ev0).obj, .bool ((nx (k : Int)).getD ev0).fail] 128)
        have HW5 := Lib.hid (HW.out.trans (hbx.mono HW.out.size))
        have HX5 := Lib.hid (HX.out.later HW5.out)
        have hown2 := Lib.hid (hown.out.later hbx)
        obtain ⟨e0, e1, e2, e3⟩ := HX5.out.cells
        obtain ⟨x0, x1, x2, x3⟩ := (EvBox.new w4 ((nx (k : Int)).getD ev0)).cells
        have HB5 := Lib.hid (HB2.out.trans (HW5.out.mono hz2))
        have HASL5 := Lib.hid (HASL.out.later HB5.out)
        have HEAR5 := Lib.hid (HEAR.out.later HB5.out)
        have hz5 := HW5.out.size
        clear hbx hb4 hown
        by_cases hkt : (k : Int) = t
        · have hq : ((k : Int) != t) = false := by simp [hkt]
          have HS := Lib.hid (HNO.out (by rw [HC.out]; simp [hkt]))
          clear HC
          have hq2 := hq
          clear hkt
          go_wp2
          go_roundw
          case rel => exact ⟨k + 1, by omega, by go_num, by show OwnN _ _ _ _; rw [HS.out]; exact hown2.out, HW5.out⟩
          case measure => simp [intOf]; omega
        · have hq : ((k : Int) != t) = true := by simp [hkt]
          go_wp2_with fail
          refine (refInBits_any aa ca (k : Int) _ HASL5.out).mono ?_
          rintro r w' ⟨rfl, rfl⟩
          rw [HA.out]
          cases hA : asl.testBit k
          · go_wp2_with fail
            refine (refInBits_any ae ce (k : Int) _ HEAR5.out).mono ?_
            rintro r w' ⟨rfl, rfl⟩
            rw [HE.out]
            cases hE : ear.testBit k
            · have HS := Lib.hid (HNO.out (by rw [HC.out, hA, hE]; simp))
              go_wp2
              go_roundw
              case rel => exact ⟨k + 1, by omega, by go_num, by show OwnN _ _ _ _; rw [HS.out]; exact hown2.out, HW5.out⟩
              case measure => simp [intOf]; omega
            · have hab : (asl.testBit k || ear.testBit k) = true := by rw [hA, hE]; rfl
              cases hi : (nx (k : Int)).isSome
              · have HS := Lib.hid (HNO.out (by rw [HC.out, hi]; simp))
                clear hq
                go_wp2
                go_roundw
                case rel => exact ⟨k + 1, by omega, by go_num, by show OwnN _ _ _ _; rw [HS.out]; exact hown2.out, HW5.out⟩
                case measure => simp [intOf]; omega
              · go_wp2_with fail
                refine (refDepends_any _ e _).mono ?_
                rintro r w6 ⟨rfl, hb6⟩
                have HW6 := Lib.hid (HW5.out.trans (hb6.mono HW5.out.size))
                have hown6 := Lib.hid (hown2.out.later hb6)
                have hz6 := HW6.out.size
                clear hb6 e0 e1 e2 e3 x0 x1 x2 x3 HX5
                cases hd : dep ((nx (k : Int)).getD ev0) e
                · have HS := Lib.hid (HY.out (by rw [HC.out, hi, hd, hab]; simp [hkt]))
                  clear hd hi
                  go_wp2_with (at_builtin; refine wp_appendN rfl (.tmp 58) (.tmp 60) rfl W2.heap.size _ (ints (childTo nx asl ear t k)) rfl (hown6.out.alloc _) ⟨w6.heap.size, 0, none⟩ 1 1 rfl [(k : Int)] rfl (nums_new w6 [(k : Int)] _ _ rfl) (by simp; omega) (by simp; omega) ?_; intro v1 w7 hown7 hb7 _)
                  have hb8 := (HW6.out.alloc hz6 _).trans hb7
                  go_roundw
                  case rel => exact ⟨k + 1, by omega, by go_num, by show OwnN _ _ _ _; rw [HS.out]; exact hown7, hb8⟩
                  case measure => simp [intOf]; omega
                · have HS := Lib.hid (HNO.out (by rw [HC.out, hd]; simp))
                  clear hd hi
                  go_wp2
                  go_roundw
                  case rel => exact ⟨k + 1, by omega, by go_num, by show OwnN _ _ _ _; rw [HS.out]; exact hown6.out, HW6.out⟩
                  case measure => simp [intOf]; omega
          · have hab : (asl.testBit k || ear.testBit k) = true := by rw [hA]; rfl
            cases hi : (nx (k : Int)).isSome
            · have HS := Lib.hid (HNO.out (by rw [HC.out, hi]; simp))
              clear hq
              go_wp2
              go_roundw
              case rel => exact ⟨k + 1, by omega, by go_num, by show OwnN _ _ _ _; rw [HS.out]; exact hown2.out, HW5.out⟩
              case measure => simp [intOf]; omega
            · go_wp2_with fail
              refine (refDepends_any _ e _).mono ?_
              rintro r w6 ⟨rfl, hb6⟩
              have HW6 := Lib.hid (HW5.out.trans (hb6.mono HW5.out.size))
              have hown6 := Lib.hid (hown2.out.later hb6)
              have hz6 := HW6.out.size
              clear hb6 e0 e1 e2 e3 x0 x1 x2 x3 HX5
              cases hd : dep ((nx (k : Int)).getD ev0) e
              · have HS := Lib.hid (HY.out (by rw [HC.out, hi, hd, hab]; simp [hkt]))
                clear hd hi
                go_wp2_with (at_builtin; refine wp_appendN rfl (.tmp 58) (.tmp 60) rfl W2.heap.size _ (ints (childTo nx asl ear t k)) rfl (hown6.out.alloc _) ⟨w6.heap.size, 0, none⟩ 1 1 rfl [(k : Int)] rfl (nums_new w6 [(k : Int)] _ _ rfl) (by simp; omega) (by simp; omega) ?_; intro v1 w7 hown7 hb7 _)
                have hb8 := (HW6.out.alloc hz6 _).trans hb7
                go_roundw
                case rel => exact ⟨k + 1, by omega, by go_num, by show OwnN _ _ _ _; rw [HS.out]; exact hown7, hb8⟩
                case measure => simp [intOf]; omega
              · have HS := Lib.hid (HNO.out (by rw [HC.out, hd]; simp))
                clear hd hi
                go_wp2
                go_roundw
                case rel => exact ⟨k + 1, by omega, by go_num, by show OwnN _ _ _ _; rw [HS.out]; exact hown6.out, HW6.out⟩
                case measure => simp [intOf]; omega
      · obtain rfl : k = 8 := by omega
        go_wp2
        go_ret
        exact ⟨_, rfl, ownN_low hown.out hz2, HBW.out⟩

theorem blocked_to {all : List Int} {asl k : Nat} (hk : k < all.length) (h : (all.take k).all (hasB asl) = true) : (all.take (k + 1)).all (hasB asl) = hasB asl all[k] := by
  rw [List.take_succ_eq_append_getElem hk, List.all_append, h]
  simp
theorem blocked_stop {all : List Int} {asl k : Nat} (hk : k < all.length) (h : hasB asl all[k] = false) : blockedB all asl = false := by
  unfold blockedB
  have : all.all (hasB asl) = false := by
    rw [Bool.eq_false_iff]
    intro h2
    rw [List.all_eq_true.1 h2 _ (List.getElem_mem hk)] at h
    cases h
  rw [this, Bool.and_false]
theorem blocked_end {all : List Int} {asl : Nat} (h : all.all (hasB asl) = true) : blockedB all asl = decide (0 < all.length) := by
  unfold blockedB
  rw [h]
  cases all with
  | nil => rfl
  | cons x l => simp

set_option maxRecDepth 100000 in
theorem refChild_nil (x y : Value) (t : Int) (w : World) :
    Calls Try.prog 59 #[.pointer none, x, y, .int .i64 t] w fun r w' => r = .returned (.slice none 0 0) ∧ w = w' := by
  go_enter Try.func59, Try.ntmps59
  go_wp2
  go_ret
  exact ⟨rfl, rfl⟩
end Go.Proofs.Ytkphdmfcmfojeaa

/- The document's Child over any lists. -/
namespace Go.Proofs.Ytkphdmfcmfojeaa
open Go.RowKit

set_option maxRecDepth 100000 in
set_option maxHeartbeats 4000000 in
/-- Child over any lists, told by sets. -/
theorem refChildL_gen (g : Addr) (nx : Int → Option Ev) (asl ear : Nat) (la le : List Int) (aa ae : Option Addr) (ca ce : Nat) (t : Int) (w : World)
    (hasl : NumsAt w aa la) (hear : NumsAt w ae le) (hal : la.length ≤ 1000) (hel : le.length ≤ 1000) (ha8 : ∀ k : Nat, k < 8 → decide ((k : Int) ∈ la) = asl.testBit k) (he8 : ∀ k : Nat, k < 8 → decide ((k : Int) ∈ le) = ear.testBit k)
    (hn : ∀ W, Below w.heap.size w W → ∀ t, Calls Try.prog 80 #[.pointer (some g), .int .i64 t] W fun r w' => r = .returned (evR (nx t)) ∧ Below W.heap.size W w') :
    Calls Try.prog 59 #[.pointer (some g), .slice aa la.length ca, .slice ae le.length ce, .int .i64 t] w fun r w' => ∃ v, r = .returned v ∧ OwnN w' w.heap.size v (ints (childTo nx asl ear t 8)) ∧ Below w.heap.size w w' := by
  have HN := Lib.hid hn
  have HASL := Lib.hid hasl
  have HEAR := Lib.hid hear
  have HA8 := Lib.hid ha8
  have HE8 := Lib.hid he8
  clear hn hasl hear ha8 he8
  cases h : nx t with
  | none =>
    have HC := Lib.hid (child_none (asl := asl) (ear := ear) h 8)
    have H := Lib.hid h
    clear h
    go_enter Try.func59, Try.ntmps59
    go_wp2_with fail
    refine (HN.out w (Below.refl _ _) t).mono ?_
    rw [H.out, evR_none]
    rintro r w1 ⟨rfl, hb1⟩
    have hz := hb1.size
    go_wp2
    go_loopw [9, 12] (fun v i wr => v = .slice none 0 0 ∧ Hid (Below w.heap.size w wr)) (fun _ i _ => 0)
    case atStart => exact ⟨rfl, hb1.alloc hz _⟩
    case round =>
      obtain ⟨rfl, HW⟩ := hrel
      go_wp2
      go_ret
      exact ⟨_, rfl, by rw [HC.out]; exact ownN_nil _ _, HW.out⟩
  | some e =>
    have HCS := Lib.hid (fun k => child_step (asl := asl) (ear := ear) (k := k) h)
    have H := Lib.hid h
    clear h
    go_enter Try.func59, Try.ntmps59
    go_wp2_with fail
    refine (HN.out w (Below.refl _ _) t).mono ?_
    rw [H.out, evR_some]
    rintro r w1 ⟨rfl, hb1⟩
    have hz1 := hb1.size
    have HX : Hid (EvBox (w1.alloc (.cells #[.int .i64 e.thread, .int .i64 e.kind, .int .i64 e.obj, .bool e.fail] 128)) w1.heap.size e) := EvBox.new w1 e
    have HB2 := Lib.hid (hb1.alloc hz1 (.cells #[.int .i64 e.thread, .int .i64 e.kind, .int .i64 e.obj, .bool e.fail] 128))
    clear hb1
    go_wp2_with fail
    generalize w1.alloc (.cells #[.int .i64 e.thread, .int .i64 e.kind, .int .i64 e.obj, .bool e.fail] 128) = W2 at *
    have hz2 := HB2.out.size
    go_loopw [9, 12] (fun v i wr => ∃ k : Nat, k ≤ 8 ∧ i = .int .i64 k ∧ Hid (OwnN wr W2.heap.size v (ints (childTo nx asl ear t k))) ∧ Hid (Below W2.heap.size W2 wr)) (fun _ i _ => 8 - (intOf i).toNat)
    case atStart => exact ⟨0, Nat.zero_le _, rfl, ownN_nil _ _, Below.refl _ _⟩
    case round =>
      obtain ⟨k, hk, rfl, hown, HW⟩ := hrel
      have hzw := HW.out.size
      have HBW := Lib.hid (HB2.out.trans (HW.out.mono hz2))
      by_cases hlt : k < 8
      · have HC := Lib.hid (HCS.out k)
        have HY := Lib.hid (childTo_yes (nx := nx) (asl := asl) (ear := ear) (t := t) (k := k))
        have HNO := Lib.hid (childTo_no (nx := nx) (asl := asl) (ear := ear) (t := t) (k := k))
        have hle := childTo_len nx asl ear t k
        rw [← ints_len] at hle
        have HA := Lib.hid (HA8.out k hlt)
        have HE := Lib.hid (HE8.out k hlt)
        go_wp2_with fail
        refine (HN.out wr HBW.out _).mono ?_
        rw [evR_one]
        rintro r w4 ⟨rfl, hb4⟩
        have hz4 := hb4.size
        have hbx := hb4.alloc hz4 (.cells #[.int .i64 ((nx (k : Int)).getD ev0).thread, .int .i64 ((nx (k : Int)).getD ev0).kind, .int .i64 ((nx (k : Int)).getD ev0).obj, .bool ((nx (k : Int)).getD ev0).fail] 128)
        have HW5 := Lib.hid (HW.out.trans (hbx.mono HW.out.size))
        have HX5 := Lib.hid (HX.out.later HW5.out)
        have hown2 := Lib.hid (hown.out.later hbx)
        obtain ⟨e0, e1, e2, e3⟩ := HX5.out.cells
        obtain ⟨x0, x1, x2, x3⟩ := (EvBox.new w4 ((nx (k : Int)).getD ev0)).cells
        have HB5 := Lib.hid (HB2.out.trans (HW5.out.mono hz2))
        have HASL5 := Lib.hid (HASL.out.later HB5.out)
        have HEAR5 := Lib.hid (HEAR.out.later HB5.out)
        have hz5 := HW5.out.size
        clear hbx hb4 hown
        by_cases hkt : (k : Int) = t
        · have hq : ((k : Int) != t) = false := by simp [hkt]
          have HS := Lib.hid (HNO.out (by rw [HC.out]; simp [hkt]))
          clear HC
          have hq2 := hq
          clear hkt
          go_wp2
          go_roundw
          case rel => exact ⟨k + 1, by omega, by go_num, by show OwnN _ _ _ _; rw [HS.out]; exact hown2.out, HW5.out⟩
          case measure => simp [intOf]; omega
        · have hq : ((k : Int) != t) = true := by simp [hkt]
          go_wp2_with fail
          refine (refIn_any aa ca la (k : Int) _ HASL5.out hal).mono ?_
          rintro r w' ⟨rfl, rfl⟩
          rw [HA.out]
          cases hA : asl.testBit k
          · go_wp2_with fail
            refine (refIn_any ae ce le (k : Int) _ HEAR5.out hel).mono ?_
            rintro r w' ⟨rfl, rfl⟩
            rw [HE.out]
            cases hE : ear.testBit k
            · have HS := Lib.hid (HNO.out (by rw [HC.out, hA, hE]; simp))
              go_wp2
              go_roundw
              case rel => exact ⟨k + 1, by omega, by go_num, by show OwnN _ _ _ _; rw [HS.out]; exact hown2.out, HW5.out⟩
              case measure => simp [intOf]; omega
            · have hab : (asl.testBit k || ear.testBit k) = true := by rw [hA, hE]; rfl
              cases hi : (nx (k : Int)).isSome
              · have HS := Lib.hid (HNO.out (by rw [HC.out, hi]; simp))
                clear hq
                go_wp2
                go_roundw
                case rel => exact ⟨k + 1, by omega, by go_num, by show OwnN _ _ _ _; rw [HS.out]; exact hown2.out, HW5.out⟩
                case measure => simp [intOf]; omega
              · go_wp2_with fail
                refine (refDepends_any _ e _).mono ?_
                rintro r w6 ⟨rfl, hb6⟩
                have HW6 := Lib.hid (HW5.out.trans (hb6.mono HW5.out.size))
                have hown6 := Lib.hid (hown2.out.later hb6)
                have hz6 := HW6.out.size
                clear hb6 e0 e1 e2 e3 x0 x1 x2 x3 HX5
                cases hd : dep ((nx (k : Int)).getD ev0) e
                · have HS := Lib.hid (HY.out (by rw [HC.out, hi, hd, hab]; simp [hkt]))
                  clear hd hi
                  go_wp2_with (at_builtin; refine wp_appendN rfl (.tmp 58) (.tmp 60) rfl W2.heap.size _ (ints (childTo nx asl ear t k)) rfl (hown6.out.alloc _) ⟨w6.heap.size, 0, none⟩ 1 1 rfl [(k : Int)] rfl (nums_new w6 [(k : Int)] _ _ rfl) (by simp; omega) (by simp; omega) ?_; intro v1 w7 hown7 hb7 _)
                  have hb8 := (HW6.out.alloc hz6 _).trans hb7
                  go_roundw
                  case rel => exact ⟨k + 1, by omega, by go_num, by show OwnN _ _ _ _; rw [HS.out]; exact hown7, hb8⟩
                  case measure => simp [intOf]; omega
                · have HS := Lib.hid (HNO.out (by rw [HC.out, hd]; simp))
                  clear hd hi
                  go_wp2
                  go_roundw
                  case rel => exact ⟨k + 1, by omega, by go_num, by show OwnN _ _ _ _; rw [HS.out]; exact hown6.out, HW6.out⟩
                  case measure => simp [intOf]; omega
          · have hab : (asl.testBit k || ear.testBit k) = true := by rw [hA]; rfl
            cases hi : (nx (k : Int)).isSome
            · have HS := Lib.hid (HNO.out (by rw [HC.out, hi]; simp))
              clear hq
              go_wp2
              go_roundw
              case rel => exact ⟨k + 1, by omega, by go_num, by show OwnN _ _ _ _; rw [HS.out]; exact hown2.out, HW5.out⟩
              case measure => simp [intOf]; omega
            · go_wp2_with fail
              refine (refDepends_any _ e _).mono ?_
              rintro r w6 ⟨rfl, hb6⟩
              have HW6 := Lib.hid (HW5.out.trans (hb6.mono HW5.out.size))
              have hown6 := Lib.hid (hown2.out.later hb6)
              have hz6 := HW6.out.size
              clear hb6 e0 e1 e2 e3 x0 x1 x2 x3 HX5
              cases hd : dep ((nx (k : Int)).getD ev0) e
              · have HS := Lib.hid (HY.out (by rw [HC.out, hi, hd, hab]; simp [hkt]))
                clear hd hi
                go_wp2_with (at_builtin; refine wp_appendN rfl (.tmp 58) (.tmp 60) rfl W2.heap.size _ (ints (childTo nx asl ear t k)) rfl (hown6.out.alloc _) ⟨w6.heap.size, 0, none⟩ 1 1 rfl [(k : Int)] rfl (nums_new w6 [(k : Int)] _ _ rfl) (by simp; omega) (by simp; omega) ?_; intro v1 w7 hown7 hb7 _)
                have hb8 := (HW6.out.alloc hz6 _).trans hb7
                go_roundw
                case rel => exact ⟨k + 1, by omega, by go_num, by show OwnN _ _ _ _; rw [HS.out]; exact hown7, hb8⟩
                case measure => simp [intOf]; omega
              · have HS := Lib.hid (HNO.out (by rw [HC.out, hd]; simp))
                clear hd hi
                go_wp2
                go_roundw
                case rel => exact ⟨k + 1, by omega, by go_num, by show OwnN _ _ _ _; rw [HS.out]; exact hown6.out, HW6.out⟩
                case measure => simp [intOf]; omega
      · obtain rfl : k = 8 := by omega
        go_wp2
        go_ret
        exact ⟨_, rfl, ownN_low hown.out hz2, HBW.out⟩

end Go.Proofs.Ytkphdmfcmfojeaa

/- The contract of the document's tree's Claim. -/
namespace Go.Proofs.Ytkphdmfcmfojeaa
open Go.RowKit

section
variable {h : RtH} {w w' : World} {ms : List NM} {l : List RNd} {vN : Value} {cl : Int}
theorem RtAt.noBox (t : RtAt h w ms l vN cl) {x : Nat} (hx : vN.ownBlock = some x ∨ ∃ m ∈ ms, x = m.g ∨ x ∈ m.blks) : x ≠ h.b := by
  rintro rfl
  have h1 := t.box
  rcases hx with hx | ⟨m, hm, hx | hx⟩
  · obtain ⟨_, c, h2⟩ := rtRow_kind t hx
    rw [h2] at h1; injection h1 with h1; injection h1 with _ h1; exact absurd h1 (by decide)
  · obtain ⟨n, hn⟩ := t.node hm
    have h2 := hn.box
    rw [← hx] at h2
    rw [h2] at h1; injection h1 with h1; injection h1 with _ h1; exact absurd h1 (by decide)
  · obtain ⟨n, hn⟩ := t.node hm
    obtain ⟨_, c, h2⟩ := hn.kind hx
    rw [h2] at h1; injection h1 with h1; injection h1 with _ h1; exact absurd h1 (by decide)
theorem RtAt.count (t : RtAt h w ms l vN cl) (ho : OnlyS (fun x => x = h.b) w w') {cl' : Int} (hc : w'.heap[h.b]? = some (.cells #[.pointer (some ⟨h.rb, 0, none⟩), vN, .int .i64 cl'] 38 (0, 0))) : RtAt h w' ms l vN cl' := by
  refine ⟨t.thr, t.below.trans ((ho.below t.size fun x hx => by subst hx; exact t.lowb).mono t.wb), t.wb, Nat.le_trans t.size ho.size, t.good, t.root.onlyR ho (fun hc => t.rootS.1 (.inl hc)) (fun hc => t.rootS.2 (.inl hc)), t.lowb, t.lowg, hc, ?_, t.len, fun i h1 h2 => (t.nodes i h1 h2).keep ho (t.noBox (.inr ⟨_, List.getElem_mem h1, .inl rfl⟩)) fun x hx => t.noBox (.inr ⟨_, List.getElem_mem h1, .inr hx⟩), t.nodup, t.own, t.apart⟩
  obtain ⟨h1, h2 | ⟨g, cap, cur, h2, h3, h4, h5⟩⟩ := t.row
  · exact ⟨h1, .inl h2⟩
  · exact ⟨h1, .inr ⟨g, cap, cur, h2, h3, (ho.block g (Array.getElem?_eq_some_iff.1 h4).1 (t.noBox (.inl (by rw [h2]; rfl)))).trans h4, h5⟩⟩

set_option maxRecDepth 100000 in
set_option maxHeartbeats 1000000 in
theorem rtClaim_none (t : RtAt h w ms l vN cl) (k : Pfx) (d : Int) (hl : l.length ≤ 1000000) (hi : idxR l k = none) : Calls Try.prog 21 #[.pointer (some ⟨h.b, 0, none⟩), .string ⟨k.toArray⟩, .int .i64 d] w fun r w' => r = .returned (.tuple #[.int .i64 0, .slice none 0 0, .int .i64 6]) ∧ w = w' := by
  have HF := Lib.hid (refFind_any t k hl)
  have HB := Lib.hid (blkR_none (ms := ms) hi)
  clear t hi
  go_enter Try.func21, Try.ntmps21
  go_wp2_with fail
  refine HF.out.mono ?_
  rw [HB.out]
  rintro r w' ⟨rfl, rfl⟩
  unfold ptrV
  simp only [Option.map]
  go_wp2
  refine bodyPost_ret (v := .tuple #[.int .i64 0, .slice none 0 0, .int .i64 6]) (by simp [results, Try.results21, go_sem]) rfl ?_
  exact ⟨rfl, rfl⟩
set_option maxRecDepth 100000 in
set_option maxHeartbeats 1000000 in
theorem rtClaim_left (t : RtAt h w ms l vN cl) {k : Pfx} (d : Int) (hl : l.length ≤ 1000000) {i : Nat} (hi : idxR l k = some i) (him : i < ms.length) (hil : i < l.length) (ha : l[i].asl.length ≤ 1000) (ht : l[i].todo.length ≤ 1000) (hd : l[i].done.length ≤ 1000) (he : l[i].leftTo 8 = []) :
    Calls Try.prog 21 #[.pointer (some ⟨h.b, 0, none⟩), .string ⟨k.toArray⟩, .int .i64 d] w fun r w' => r = .returned (.tuple #[.int .i64 0, .slice none 0 0, .int .i64 6]) ∧ Below w.heap.size w w' := by
  have HF := Lib.hid (refFind_any t k hl)
  have HB := Lib.hid (blkR_some hi him)
  have HL := rtLeft_any t him hil ha ht hd
  rw [he] at HL
  have HL := Lib.hid HL
  clear t hi
  go_enter Try.func21, Try.ntmps21
  go_wp2_with fail
  refine HF.out.mono ?_
  rw [HB.out]
  rintro r w' ⟨rfl, rfl⟩
  unfold ptrV
  simp only [Option.map]
  go_wp2_with fail
  refine HL.out.mono ?_
  rintro r w1 ⟨v, rfl, hown, hb1⟩
  obtain ⟨a, cap, rfl, _⟩ := OwnN.form hown (by simp [ints])
  clear hown
  have hz : (ints []).length = 0 := rfl
  rw [hz]
  go_wp2
  refine bodyPost_ret (v := .tuple #[.int .i64 0, .slice none 0 0, .int .i64 6]) (by simp [results, Try.results21, go_sem]) rfl ?_
  exact ⟨rfl, hb1⟩
theorem frozen_of_box {w : World} {b : Nat} {c : Array Value} {ty : TypeId} (hb : w.heap[b]? = some (.cells c ty (0, 0))) (j : Nat) : w.frozen? ⟨b, j, none⟩ = false := by simp [World.frozen?, hb]
/-- A claim that is done. -/
def RtClaimR (h : RtH) (ms : List NM) (l : List RNd) (vN : Value) (cl : Int) (i : Nat) (m : NM) (n : RNd) (C : List Int) (X : Nat) (w : World) (r : Ending) (w' : World) : Prop :=
  ∃ v v', r = .returned (.tuple #[.int .i64 X, v, .int .i64 0]) ∧ OwnN w' w.heap.size v C ∧ RtAt h w' (ms.set i { m with vd := v' }) (l.set i { n with done := n.done ++ [(X : Int)] }) vN (cl + 1) ∧ Below h.base w w' ∧ OnlyS (RtS h ms vN) w w'
set_option maxRecDepth 100000 in
set_option maxHeartbeats 4000000 in
theorem rtClaim_ok (t : RtAt h w ms l vN cl) (hcl : 0 ≤ cl ∧ cl ≤ 1000000) {k : Pfx} (hk : k.length ≤ 1000) (d : Int) (hl : l.length ≤ 1000000) {i : Nat} (hi : idxR l k = some i) (him : i < ms.length) (hil : i < l.length) (ha : l[i].asl.length ≤ 1000) (ht : l[i].todo.length ≤ 1000) (hd : l[i].done.length ≤ 1000) (hne : l[i].leftTo 8 ≠ [])
    {es : List Ev} {s : St} (hrep : rep h.p h.F (rowK k) = (0, es, some s)) (A G : Nat) (hA8 : ∀ k : Nat, k < 8 → decide ((k : Int) ∈ l[i].asl) = A.testBit k) (hG8 : ∀ k : Nat, k < 8 → decide ((k : Int) ∈ l[i].done) = G.testBit k) (X : Nat) (hX : X = (l[i].leftTo 8).getD (drawN d (l[i].leftTo 8).length) 0) :
    Calls Try.prog 21 #[.pointer (some ⟨h.b, 0, none⟩), .string ⟨k.toArray⟩, .int .i64 d] w (RtClaimR h ms l vN cl i ms[i] l[i] (ints (childTo s.next A G X 8)) X w) := by
  obtain ⟨hc0, hc1⟩ := hcl
  have HF := Lib.hid (refFind_any t k hl)
  have HBK := Lib.hid (blkR_some hi him)
  have HL : Hid (∀ W, Below w.heap.size w W → Calls Try.prog 26 #[.pointer (some ⟨ms[i].g, 0, none⟩)] W fun r w' => ∃ v, r = .returned v ∧ OwnN w' W.heap.size v (ints (l[i].leftTo 8)) ∧ Below W.heap.size W w') := fun W hb => rtLeft_any (t.later hb) him hil ha ht hd
  have hpos : 0 < (l[i].leftTo 8).length := List.length_pos_iff.2 hne
  have h8 := l[i].left_len 8
  obtain ⟨m, hm1, hm2, hm3, hm4⟩ := draw_eq d hpos
  have hdl := drawN_lt d hpos
  obtain ⟨ns, hns⟩ : ∃ ns, ns = ints (l[i].leftTo 8) := ⟨_, rfl⟩
  have hnl : ns.length = (l[i].leftTo 8).length := by rw [hns, ints_len]
  obtain ⟨K, hK⟩ : ∃ K, K = drawN d (l[i].leftTo 8).length := ⟨_, rfl⟩
  rw [← hK] at hm3 hm4 hdl hX
  rw [← hnl] at hm3 hm4 hdl hpos h8
  have hKb : K < (l[i].leftTo 8).length := by omega
  have HX : Hid (∀ h : K < ns.length, ns[K] = (X : Int)) := fun h => by
    subst hns
    rw [ints_get hKb, hX]
    simp [List.getD, hKb]
  have hx8 : X < 8 := by
    have hm : X ∈ l[i].leftTo 8 := by
      rw [hX]
      simp only [List.getD, List.getElem?_eq_getElem hKb, Option.getD_some]
      exact List.getElem_mem _
    unfold RNd.leftTo at hm
    have := (List.mem_filter.1 hm).1
    simpa using this
  rw [← hns] at HL
  have hn := t.nodes i him hil
  obtain ⟨aa, ca, ea, na, _⟩ := OwnN.form hn.asl (by omega)
  obtain ⟨ad, cd, ed, nd, _⟩ := OwnN.form hn.done (by omega)
  have hgl : ms[i].g < w.heap.size := (Array.getElem?_eq_some_iff.1 hn.box).1
  have HCC : Hid (∀ W, Below w.heap.size w W → W.cell? ⟨ms[i].g, 2, none⟩ = some (.slice aa l[i].asl.length ca) ∧ W.cell? ⟨ms[i].g, 4, none⟩ = some (.slice ad l[i].done.length cd)) := fun W hb => by
    obtain ⟨_, _, c2, _, c4⟩ := ((t.later hb).nodes i him hil).cells
    rw [ea] at c2
    rw [ed] at c4
    exact ⟨c2, c4⟩
  have HNA : Hid (∀ W, Below w.heap.size w W → NumsAt W aa l[i].asl ∧ NumsAt W ad l[i].done) := fun W hb => ⟨na.later hb, nd.later hb⟩
  have HOD : Hid (∀ W, Below w.heap.size w W → OwnN W h.base (.slice ad l[i].done.length cd) l[i].done) := fun W hb => by
    have := ((t.later hb).nodes i him hil).done
    rw [ed] at this
    exact this
  have ED := Lib.hid ed
  have HT := Lib.hid t
  have HREP := Lib.hid hrep
  have HA8 := Lib.hid hA8
  have HG8 := Lib.hid hG8
  have hwz := t.size
  clear t hi hne hrep hA8 hG8 hX hns hnl hK hKb hn na nd ea ed
  go_enter Try.func21, Try.ntmps21
  go_wp2_with fail
  refine HF.out.mono ?_
  rw [HBK.out]
  rintro r w' ⟨rfl, rfl⟩
  unfold ptrV
  simp only [Option.map]
  go_wp2_with fail
  refine (HL.out _ (Below.refl _ _)).mono ?_
  rintro r w1 ⟨v1, rfl, hown1, hb1⟩
  obtain ⟨a1, cap1, rfl, _⟩ := OwnN.form hown1 (by omega)
  clear hown1
  have hne : decide (ns.length = 0) = false := decide_eq_false (by omega)
  have hni : ((ns.length : Int) == 0) = false := by rw [beq_eq_false_iff_ne]; omega
  go_wp2_with fail
  refine (HL.out _ hb1).mono ?_
  rintro r w2 ⟨v2, rfl, hown2, hb2⟩
  obtain ⟨a2, cap2, rfl, hnum, _⟩ := OwnN.form hown2 (by omega)
  have hb3 := hb1.trans (hb2.mono hb1.size)
  obtain ⟨nb, no, rfl, hcs⟩ := hnum.2 (by intro e; rw [e] at hpos; exact absurd hpos (Nat.lt_irrefl _))
  have hck := hcs K hdl
  rw [HX.out hdl] at hck
  have hnw : IntKind.u64.wrap (ns.length : Int) = ns.length := wrap_u_small _ (by omega) (by omega)
  have hdi : (K : Int) < ns.length := by omega
  have hdi0 : (0 : Int) ≤ K := by omega
  clear hown2 hnum hcs hb1 hb2
  go_wp2_with fail
  refine (rtAt_any (HT.out.later hb3) hk).mono ?_
  rintro r w3 hr
  unfold RefAtR at hr
  rw [HREP.out] at hr
  obtain ⟨hb4, sb, stb, stc, rfl, hsb, hstb, hsr, hsp, hsok⟩ := hr
  have HB4 := Lib.hid (hb3.trans (hb4.mono hb3.size))
  have HT3 := Lib.hid (HT.out.later HB4.out)
  have HCC3 : Hid (∀ W, Below w3.heap.size w3 W → W.cell? ⟨ms[i].g, 2, none⟩ = some (.slice aa l[i].asl.length ca) ∧ W.cell? ⟨ms[i].g, 4, none⟩ = some (.slice ad l[i].done.length cd)) := fun W hb => HCC.out W (HB4.out.trans (hb.mono HB4.out.size))
  have HCH : Hid (∀ W, Below w3.heap.size w3 W → Calls Try.prog 59 #[.pointer (some ⟨sb, 0, none⟩), .slice aa l[i].asl.length ca, .slice ad l[i].done.length cd, .int .i64 (X : Int)] W fun r w' => ∃ v, r = .returned v ∧ OwnN w' W.heap.size v (ints (childTo s.next A G X 8)) ∧ Below W.heap.size W w') := fun W hb =>
    refChildL_gen ⟨sb, 0, none⟩ s.next A G l[i].asl l[i].done aa ad ca cd X W (HNA.out W (HB4.out.trans (hb.mono HB4.out.size))).1 (HNA.out W (HB4.out.trans (hb.mono HB4.out.size))).2 ha hd HA8.out HG8.out (fun W' hb' t => refNext_any ((hsr.later hb).later hb') (by rw [hsp]; exact ((HT3.out.later hb).later hb').thrW) hsok t)
  clear hb3 hb4 hsb hstb hsr hsp hsok
  go_upto_region 7 with (fail)
  clear hm1 hm3 hm4 hnw hne hni hck
  have hB0 : Below w3.heap.size w3 w3.drew := (Below.refl _ _).drew
  go_region_held3 (fun W => W.cell? ⟨ms[i].g, 2, none⟩ = some (.slice aa l[i].asl.length ca) ∧ W.cell? ⟨ms[i].g, 4, none⟩ = some (.slice ad l[i].done.length cd))
    (first | with_reducible exact HCC3.out _ hB0 | with_reducible exact HCC3.out _ hB1)
    (first | (go_at_call 59; ((with_reducible refine (HCH.out _ hB0).mono ?_); rintro r w4 ⟨v4, rfl, hown4, hb5⟩; have HO4 := Lib.hid hown4; have hB1 : Below w3.heap.size w3 w4 := Below.trans hB0 hb5)))
  have HT4 := Lib.hid (HT3.out.later hB1)
  have HB5 := Lib.hid (HB4.out.trans (hB1.mono HB4.out.size))
  obtain ⟨_, n4⟩ := HCC3.out w4 hB1
  have hod4 := HOD.out w4 HB5.out
  have hz4 : h.base ≤ (w4.alloc (.cells #[.int .i64 (X : Int)] 3)).heap.size := by rw [World.size_alloc]; have := HT4.out.size; omega
  have hcl4 : (w4.alloc (.cells #[.int .i64 (X : Int)] 3)).cell? ⟨w4.heap.size, 0, none⟩ = some (.int .i64 (X : Int)) := by simp
  have hX9 : IntKind.i64.wrap (cl + 1) = cl + 1 := IntWalk.i64_in _ (by omega)
  clear hB1 hB0 hown4
  go_wp2_with (at_builtin; refine wp_appendNx rfl (.tmp 59) (.tmp 61) rfl h.base _ l[i].done rfl (hod4.alloc _) ⟨w4.heap.size, 0, none⟩ rfl (X : Int) hcl4 (by omega) hz4 ?_; intro v7 w7 hown7 hb7 hg7 hv7; obtain ⟨b7, c7, hv7e, _⟩ := OwnN.form hown7 (by simp; omega); rw [List.length_append, List.length_singleton] at hv7e; subst hv7e; rw [← ED.out] at hg7 hv7; obtain ⟨ht8, ho8, hf8, hc8⟩ := HT4.out.doneMore him hil hown7 hg7 hv7; have HT8 := Lib.hid ht8; have HO8 := Lib.hid ho8; have kb := ht8.box; obtain ⟨_, _, k2⟩ := ht8.cells; have f2 := frozen_of_box kb 2; clear ht8 ho8 hown7 hb7 hg7 hv7)
  refine bodyPost_ret (v := .tuple #[.int .i64 X, v4, .int .i64 0]) (by simp [results, Try.results21, go_sem]) rfl ?_
  have HO9 : OnlyS (fun x => x = h.b) (w7.setCell ⟨ms[i].g, 4, none⟩ (.slice b7 (l[i].done.length + 1) c7)) ((w7.setCell ⟨ms[i].g, 4, none⟩ (.slice b7 (l[i].done.length + 1) c7)).setCell ⟨h.b, 2, none⟩ (.int .i64 (cl + 1))) := OnlyS.setCell (S := fun x => x = h.b) (OnlyS.refl _ _) (p := ⟨h.b, 2, none⟩) rfl _
  have hk4 : ∀ x, v4.ownBlock = some x → w3.heap.size ≤ x := fun x hx => (HO4.out.kind hx).1
  refine ⟨v4, _, rfl, ?_, HT8.out.count HO9 (by rw [heap_setCell_same _ h.b 2 _ _ _ kb]; rfl), ?_⟩
  · refine ownN_low ((HO4.out.onlyS HO8.out fun x hx hs => ?_).onlyS HO9 fun x hx hs => ?_) HB4.out.size
    · have h1 := hk4 x hx
      have h2 := HT3.out.lt x hs
      omega
    · have h1 := hk4 x hx
      have h2 := HT3.out.lt x (.inl hs)
      omega
  · exact ⟨((HB5.out.mono hwz).trans (HO8.out.below HT4.out.size HT4.out.low)).trans (HO9.below HT8.out.size fun x hx => by subst hx; exact HT8.out.lowb), OnlyS.after HB5.out (HO8.out.trans (HO9.mono fun x _ hx => .inl hx))⟩
end

end Go.Proofs.Ytkphdmfcmfojeaa

/- The contract of the document's tree's Mark. -/
namespace Go.Proofs.Ytkphdmfcmfojeaa
open Go.RowKit

theorem step_appendNx {w : World} {ops : Array Oper} {o : Oper} {a : Act} {K : Act → World → Prop} {Q : Exit → Act → World → Prop} {E : Prop} (hgd : o.guard = none) (s x : Operand)
    (ho : o.op = .call { callee := .builtin .append, args := #[s, x], argTypes := #[41, 41] }) (B : Nat) (v : Value) (ns : List Int) (hs : a.eval s = v) (hown : OwnN w B v ns)
    (ad : Addr) (hx : a.eval x = .slice (some ad) 1 1) (y : Int) (hnew : w.cell? ad = some (.int .i64 y)) (hlen : ns.length ≤ 1000000) (hB : B ≤ w.heap.size)
    (h : ∀ v' w', OwnN w' B v' (ns ++ [y]) → Below B w w' → w.grownBy w' v.ownBlock → (v'.ownBlock = v.ownBlock ∨ v'.ownBlock = some w.heap.size) → K (a.put o.dst v') w') : if Region.wanted o (yielded ops a.tmps) = true then Oper.wp Try.prog o a w K Q else E := by
  refine step_appendAt (f := intCell) (n := 1) 41 3 8 (.int .i64 0) Try.underlying41 infoInt rfl (by omega) (by omega) (fun _ => rfl) hgd s x ho B v ns hs (ownN_row.1 hown) ad hx y (fun u hu => by simp [intCell] at hu; subst hu; rfl) ?_ hlen hB ?_
  · intro j u hu
    cases j with
    | zero =>
      injection hu with hu
      rw [← hu]
      exact hnew
    | succ j => simp [intCell] at hu
  · intro v' w' h1 h2 h3 h4
    exact h v' w' (ownN_row.2 h1) h2 h3 h4
section
variable {h : RtH} {w w' : World} {ms : List NM} {l : List RNd} {vN : Value} {cl : Int}
set_option maxRecDepth 100000 in
set_option maxHeartbeats 1000000 in
theorem rtMark_none (t : RtAt h w ms l vN cl) (k : Pfx) (v : Value) (hl : l.length ≤ 1000000) (hi : idxR l k = none) : Calls Try.prog 19 #[.pointer (some ⟨h.b, 0, none⟩), .string ⟨k.toArray⟩, v] w fun r w' => r = .returned (.int .i64 6) ∧ w = w' := by
  have HF := Lib.hid (refFind_any t k hl)
  have HB := Lib.hid (blkR_none (ms := ms) hi)
  clear t hi
  go_enter Try.func19, Try.ntmps19
  go_wp2_with fail
  refine HF.out.mono ?_
  rw [HB.out]
  rintro r w' ⟨rfl, rfl⟩
  unfold ptrV
  simp only [Option.map]
  go_wp2
  go_ret
  exact ⟨rfl, rfl⟩
/-- What the loop of Mark leaves behind j of the set's list: the node's todo, the state, the list. -/
structure MkJ (h : RtH) (ms : List NM) (l : List RNd) (vN : Value) (cl : Int) (i : Nat) (m : NM) (n : RNd) (sb stb stc : Nat) (s : St) (sa : Option Addr) (ls : List Int) (w : World) (j : Nat) (wr : World) : Prop where
  tree : ∃ m', m'.g = m.g ∧ RtAt h wr (ms.set i m') (l.set i { n with todo := n.todo ++ (ls.take j).filter s.may }) vN cl ∧ (¬ RtS h (ms.set i m') vN sb) ∧ (¬ RtS h (ms.set i m') vN stb) ∧ (∀ x, sa = some x → ¬ RtS h (ms.set i m') vN x.block) ∧ (∀ x ∈ m'.blks, x ∈ m.blks ∨ w.heap.size ≤ x)
  state : RefAt wr sb stb h.a h.cap stc s
  nums : NumsAt wr sa ls
  lt : ∀ x, sa = some x → x.block < wr.heap.size
  below : Below h.base w wr
  only : OnlyS (RtS h ms vN) w wr
theorem OnlyS.thenR {S T : Nat → Prop} {u v w : World} (h : OnlyS S u v) (k : OnlyS T v w) (hst : ∀ x, x < u.heap.size → T x → S x) : OnlyS S u w :=
  ⟨k.os.trans h.os, k.tape.trans h.tape, k.output.trans h.output, Nat.le_trans h.size k.size, fun i hi hs => (k.block i (Nat.lt_of_lt_of_le hi h.size) fun ht => hs (hst i hi ht)).trans (h.block i hi hs)⟩
theorem MkJ.later {i : Nat} {m : NM} {n : RNd} {sb stb stc : Nat} {s : St} {sa : Option Addr} {ls : List Int} {j : Nat} {wr wr' : World} (k : MkJ h ms l vN cl i m n sb stb stc s sa ls w j wr) (hb : Below wr.heap.size wr wr') : MkJ h ms l vN cl i m n sb stb stc s sa ls w j wr' := by
  obtain ⟨⟨m', e, t, a1, a2, a3, a4⟩, k2, k3, k4, k5, k6⟩ := k
  exact ⟨⟨m', e, t.later hb, a1, a2, a3, a4⟩, k2.later hb, k3.later hb, fun x hx => Nat.lt_of_lt_of_le (k4 x hx) hb.size, k5.trans (hb.mono t.size), k6.trans (OnlyS.of_below hb)⟩
/-- No more is marked. -/
theorem MkJ.no {i : Nat} {m : NM} {n : RNd} {sb stb stc : Nat} {s : St} {sa : Option Addr} {ls : List Int} {j : Nat} {wr : World} (k : MkJ h ms l vN cl i m n sb stb stc s sa ls w j wr) (hj : j < ls.length) (e : s.may ls[j] = false) : MkJ h ms l vN cl i m n sb stb stc s sa ls w (j + 1) wr := by
  have : (ls.take (j + 1)).filter s.may = (ls.take j).filter s.may := by
    rw [List.take_succ_eq_append_getElem hj, List.filter_append]
    simp [e]
  obtain ⟨k1, k2, k3, k4, k5, k6⟩ := k
  exact ⟨by rw [this]; exact k1, k2, k3, k4, k5, k6⟩
theorem rtS_set {i : Nat} (hi : i < ms.length) {m : NM} (eg : m.g = ms[i].g) {x : Nat} (hb : ∀ x ∈ m.blks, x ∈ ms[i].blks ∨ w.heap.size ≤ x) (hx : RtS h (ms.set i m) vN x) : RtS h ms vN x ∨ w.heap.size ≤ x := by
  rcases hx with rfl | hx | ⟨m', hm', hx⟩
  · exact .inl (.inl rfl)
  · exact .inl (.inr (.inl hx))
  · rcases List.mem_or_eq_of_mem_set hm' with h1 | rfl
    · exact .inl (.inr (.inr ⟨_, h1, hx⟩))
    · rcases hx with hx | hx
      · exact .inl (.inr (.inr ⟨_, List.getElem_mem hi, .inl (hx.trans eg)⟩))
      · rcases hb x hx with h2 | h2
        · exact .inl (.inr (.inr ⟨_, List.getElem_mem hi, .inr h2⟩))
        · exact .inr h2
/-- One more is marked. -/
theorem MkJ.yes {i : Nat} (hi : i < ms.length) (hil : i < l.length) {sb stb stc : Nat} {s : St} {sa : Option Addr} {ls : List Int} {j : Nat} {wr w7 : World} {m' : NM} (e : m'.g = ms[i].g) (t : RtAt h wr (ms.set i m') (l.set i { l[i] with todo := l[i].todo ++ (ls.take j).filter s.may }) vN cl) (a1 : ¬ RtS h (ms.set i m') vN sb) (a2 : ¬ RtS h (ms.set i m') vN stb) (a3 : ∀ x, sa = some x → ¬ RtS h (ms.set i m') vN x.block)
    (k2 : RefAt wr sb stb h.a h.cap stc s) (k3 : NumsAt wr sa ls) (k4 : ∀ x, sa = some x → x.block < wr.heap.size) (k5 : Below h.base w wr) (a4 : ∀ x ∈ m'.blks, x ∈ ms[i].blks ∨ w.heap.size ≤ x) (k6 : OnlyS (RtS h ms vN) w wr) (hj : j < ls.length) (hm : s.may ls[j] = true) {o : Obj} {v' : Value}
    (hown : OwnN w7 h.base v' (l[i].todo ++ (ls.take j).filter s.may ++ [ls[j]])) (hg : (wr.alloc o).grownBy w7 m'.vt.ownBlock) (hv : v'.ownBlock = m'.vt.ownBlock ∨ v'.ownBlock = some (wr.alloc o).heap.size) :
    MkJ h ms l vN cl i ms[i] l[i] sb stb stc s sa ls w (j + 1) (w7.setCell ⟨m'.g, 3, none⟩ v') ∧ w7.frozen? ⟨m'.g, 3, none⟩ = false ∧ w7.cell? ⟨m'.g, 3, none⟩ = some m'.vt := by
  have hi' : i < (ms.set i m').length := by simpa using hi
  have hil' : i < (l.set i { l[i] with todo := l[i].todo ++ (ls.take j).filter s.may }).length := by simpa using hil
  have hf : (ls.take (j + 1)).filter s.may = (ls.take j).filter s.may ++ [ls[j]] := by
    rw [List.take_succ_eq_append_getElem hj, List.filter_append]
    simp [hm]
  have T := t.todoMore hi' hil' (x := ls[j]) (v' := v') (o := o) (w7 := w7) (by simpa using hown) (by simpa using hg) (by simpa using hv)
  simp only [List.getElem_set_self, List.set_set] at T
  obtain ⟨t8, o8, f8, c8⟩ := T
  have sub : ∀ y, RtS h (ms.set i { m' with vt := v' }) vN y → RtS h (ms.set i m') vN y ∨ wr.heap.size ≤ y := fun y hy => by
    refine rtS_set (w := wr) (ms := ms.set i m') hi' (m := { m' with vt := v' }) (by simp) (fun x hx => ?_) (by rw [List.set_set]; exact hy)
    rw [List.getElem_set_self]
    rw [NM.blks_mem] at hx
    rcases hx with hx | hx | hx
    · exact .inl (NM.blks_mem.2 (.inl hx))
    · rcases hv with hv | hv
      · exact .inl (NM.blks_mem.2 (.inr (.inl (hv ▸ hx))))
      · right
        have hx2 : v'.ownBlock = some x := hx
        rw [hv] at hx2; injection hx2 with hx2; rw [World.size_alloc] at hx2; omega
    · exact .inl (NM.blks_mem.2 (.inr (.inr hx)))
  obtain ⟨l1, l2⟩ := k2.lt
  refine ⟨⟨⟨{ m' with vt := v' }, e, ?_, fun hc => ?_, fun hc => ?_, fun x hx hc => ?_, fun x hx => ?_⟩, ?_, ?_, fun x hx => Nat.lt_of_lt_of_le (k4 x hx) o8.size, k5.trans (o8.below t.size t.low), k6.thenR o8 fun x hx hr => ?_⟩, f8, c8⟩
  · rw [hf, ← List.append_assoc]; exact t8
  · rcases sub _ hc with h1 | h1
    · exact a1 h1
    · omega
  · rcases sub _ hc with h1 | h1
    · exact a2 h1
    · omega
  · rcases sub _ hc with h1 | h1
    · exact a3 x hx h1
    · have := k4 x hx; omega
  · rw [NM.blks_mem] at hx
    rcases hx with hx | hx | hx
    · exact a4 x (NM.blks_mem.2 (.inl hx))
    · rcases hv with hv | hv
      · exact a4 x (NM.blks_mem.2 (.inr (.inl (hv ▸ hx))))
      · right
        have hx2 : v'.ownBlock = some x := hx
        rw [hv] at hx2; injection hx2 with hx2; rw [World.size_alloc] at hx2; have := k5.size; omega
    · exact a4 x (NM.blks_mem.2 (.inr (.inr hx)))
  · obtain ⟨g1, g0, cur, g2, g3⟩ := k2
    exact ⟨(o8.block sb l1 a1).trans g1, g0, cur, (o8.block stb l2 a2).trans g2, g3⟩
  · refine ⟨k3.1, fun hne => ?_⟩
    obtain ⟨b, o', rfl, hc⟩ := k3.2 hne
    exact ⟨b, o', rfl, fun q hq => o8.cell (hc q hq) (fun hh => a3 ⟨b, o', none⟩ rfl hh)⟩
  · rcases rtS_set (w := w) hi e a4 hr with h1 | h1
    · exact h1
    · omega
set_option maxRecDepth 100000 in
set_option maxHeartbeats 4000000 in
theorem rtMark_ok (t : RtAt h w ms l vN cl) {k : Pfx} (hk : k.length ≤ 1000) (hl : l.length ≤ 1000000) {i : Nat} (hi : idxR l k = some i) (him : i < ms.length) (hil : i < l.length) {es : List Ev} {s : St} (hrep : rep h.p h.F (rowK k) = (0, es, some s)) (sa : Option Addr) (sc : Nat) (ls : List Int) (hlm : l[i].todo.length + ls.length ≤ 1000) (hls : NumsAt w sa ls) (hsl : ∀ x, sa = some x → x.block < w.heap.size) (hsn : ∀ x, sa = some x → ¬ RtS h ms vN x.block) :
    Calls Try.prog 19 #[.pointer (some ⟨h.b, 0, none⟩), .string ⟨k.toArray⟩, .slice sa ls.length sc] w fun r w' => r = .returned (.int .i64 0) ∧ (∃ m', m'.g = ms[i].g ∧ RtAt h w' (ms.set i m') (l.set i { l[i] with todo := l[i].todo ++ ls.filter s.may }) vN cl) ∧ Below h.base w w' ∧ OnlyS (RtS h ms vN) w w' := by
  have HF := Lib.hid (refFind_any t k hl)
  have HBK := Lib.hid (blkR_some hi him)
  have HAT := Lib.hid (rtAt_any t hk)
  have HREP := Lib.hid hrep
  have HT := Lib.hid t
  have HLS := Lib.hid hls
  have HSL := Lib.hid hsl
  have HSN := Lib.hid hsn
  have hwz := t.size
  clear t hi hrep hls hsl hsn
  go_enter Try.func19, Try.ntmps19
  go_wp2_with fail
  refine HF.out.mono ?_
  rw [HBK.out]
  rintro r w' ⟨rfl, rfl⟩
  unfold ptrV
  simp only [Option.map]
  go_wp2_with fail
  refine HAT.out.mono ?_
  rintro r w3 hr
  unfold RefAtR at hr
  rw [HREP.out] at hr
  obtain ⟨hb4, sb, stb, stc, rfl, hsb, hstb, hsr, hsp, hsok⟩ := hr
  have HJ0 : Hid (MkJ h ms l vN cl i ms[i] l[i] sb stb stc s sa ls w 0 w3) := by
    have ht3 := HT.out.later hb4
    have e1 : ms.set i ms[i] = ms := List.set_getElem_self _
    have e2 : l.set i { l[i] with todo := l[i].todo ++ (ls.take 0).filter s.may } = l := by
      rw [List.take_zero, List.filter_nil, List.append_nil]
      exact List.set_getElem_self _
    refine ⟨⟨ms[i], rfl, by rw [e1, e2]; exact ht3, ?_, ?_, ?_, fun x hx => .inl hx⟩, hsr, HLS.out.later hb4, fun x hx => Nat.lt_of_lt_of_le (HSL.out x hx) hb4.size, hb4.mono hwz, OnlyS.of_below hb4⟩
    · rw [e1]; intro hc; have := HT.out.lt _ hc; omega
    · rw [e1]; intro hc; have := HT.out.lt _ hc; omega
    · rw [e1]; exact HSN.out
  have HSP := Lib.hid hsp
  have HOK := Lib.hid hsok
  clear hb4 hsb hstb hsr hsp hsok HAT HBK HF
  go_wp2_with fail
  go_loopw [10] (fun i9 wr => ∃ j : Nat, j ≤ ls.length ∧ i9 = .int .i64 j ∧ Hid (MkJ h ms l vN cl i ms[i] l[i] sb stb stc s sa ls w j wr)) (fun i9 _ => ls.length - (intOf i9).toNat)
  case atStart => exact ⟨0, Nat.zero_le _, rfl, HJ0⟩
  case round =>
    clear HJ0
    obtain ⟨j, hj, rfl, HJ⟩ := hrel
    by_cases hlt : j < ls.length
    · obtain ⟨b, o, rfl, hc⟩ := HJ.out.nums.2 (by intro e; rw [e] at hlt; exact absurd hlt (Nat.not_lt_zero _))
      have d0 := hc j hlt
      clear hc
      obtain ⟨m0, _, t0, _⟩ := HJ.out.tree
      have hth := t0.thrW
      clear t0
      go_wp2_with fail
      refine (refEnabled_any HJ.out.state (by rw [HSP.out]; exact hth) HOK.out ls[j]).mono ?_
      rintro r w5 ⟨rfl, hb5⟩
      have HJ5 := Lib.hid (HJ.out.later hb5)
      have d5 := cell_later hb5 d0
      clear d0 hth hb5
      cases hm : s.may ls[j]
      · have HN := Lib.hid (HJ5.out.no hlt hm)
        go_wp2_with fail
        go_roundw
        case rel => exact ⟨j + 1, by omega, by go_num, HN⟩
        case measure => simp [intOf]; omega
      · obtain ⟨⟨m', e, t', a1, a2, a3, a4⟩, k2, k3, k4, k5, k6⟩ := HJ5.out
        have hi' : i < (ms.set i m').length := by simpa using him
        have hil' : i < (l.set i { l[i] with todo := l[i].todo ++ (ls.take j).filter s.may }).length := by simpa using hil
        have hn := t'.nodes i hi' hil'
        simp only [List.getElem_set_self] at hn
        obtain ⟨at_, ct, et, _, _⟩ := OwnN.form hn.todo (by have := List.length_filter_le s.may (ls.take j); rw [List.length_take] at this; simp; omega)
        obtain ⟨_, _, _, c3, _⟩ := hn.cells
        have htd := hn.todo
        rw [et] at c3 htd
        rw [e] at c3
        have hlt9 : (l[i].todo ++ (ls.take j).filter s.may).length ≤ 1000 := by have := List.length_filter_le s.may (ls.take j); rw [List.length_take] at this; simp; omega
        have HY := Lib.hid (fun (v' : Value) (w7 : World) (C : Obj) h1 h2 h3 => MkJ.yes (w7 := w7) (o := C) (v' := v') him hil e t' a1 a2 a3 k2 k3 k4 k5 a4 k6 hlt hm h1 h2 h3)
        have hba := below_alloc1 w5 (.cells #[.int .i64 ls[j]] 3)
        have c3a := cell_later hba c3
        have d5a := cell_later hba d5
        have HTD : Hid (OwnN (w5.alloc (.cells #[.int .i64 ls[j]] 3)).drew h.base (.slice at_ (l[i].todo ++ (ls.take j).filter s.may).length ct) (l[i].todo ++ (ls.take j).filter s.may)) := htd.alloc _
        have hcl : (w5.alloc (.cells #[.int .i64 ls[j]] 3)).drew.cell? ⟨w5.heap.size, 0, none⟩ = some (.int .i64 ls[j]) := by
          show (w5.alloc (.cells #[.int .i64 ls[j]] 3)).cell? _ = _
          simp
        have hzc : h.base ≤ (w5.alloc (.cells #[.int .i64 ls[j]] 3)).drew.heap.size := by
          show _ ≤ (w5.alloc (.cells #[.int .i64 ls[j]] 3)).heap.size
          rw [World.size_alloc]; have := t'.size; omega
        have E := Lib.hid e
        have ET := Lib.hid et
        clear hn htd hba t' a1 a2 a3 a4 k2 k3 k4 k5 k6 hm hi' hil' HJ5 HJ et
        generalize ls[j] = y at *
        generalize l[i].todo ++ (ls.take j).filter s.may = TL at *
        go_wp2_with fail
        go_region_law ((refine step_appendNx (by rfl) (.tmp 38) (.tmp 43) (by rfl) h.base _ TL (by rfl) HTD.out ⟨w5.heap.size, 0, none⟩ (by rfl) y hcl (by omega) hzc ?_; intro v7 w7 hown7 _ hg7 hv7; obtain ⟨b7, c7, hv7e, _⟩ := OwnN.form hown7 (by rw [List.length_append, List.length_singleton]; omega); rw [List.length_append, List.length_singleton] at hv7e; subst hv7e; rw [← ET.out] at hg7 hv7; have hyes := HY.out _ w7 (.cells #[.int .i64 y] 3) hown7 ⟨hg7.os, hg7.tape, hg7.output, hg7.size, hg7.block⟩ hv7; rw [E.out] at hyes; obtain ⟨hj8, f8, c8⟩ := hyes; have HJ8 := Lib.hid hj8; clear hj8 hown7 hg7 hv7))
        all_goals go_wp2_with fail
        all_goals go_roundw
        all_goals first
          | exact ⟨j + 1, by omega, by go_num, HJ8⟩
          | (simp [intOf]; omega)
    · obtain rfl : j = ls.length := by omega
      have ht := HJ.out.tree
      have hbl := HJ.out.below
      have hon := Lib.hid HJ.out.only
      go_wp2
      go_ret
      obtain ⟨m', e, t', _⟩ := ht
      rw [List.take_length] at t'
      exact ⟨rfl, ⟨m', e, t'⟩, hbl, hon.out⟩
end

end Go.Proofs.Ytkphdmfcmfojeaa

/- The document's tree in memory: a node more. -/
namespace Go.Proofs.Ytkphdmfcmfojeaa
open Go.RowKit

section
variable {h : RtH} {w w' : World} {ms : List NM} {l : List RNd} {vN vN' : Value} {cl : Int}
/-- A node more: its block is new, its asleep's row is none of the tree's, its other rows are empty. -/
theorem RtAt.more (t : RtAt h w ms l vN cl) {m : NM} {n : RNd} (ho : OnlyS (fun x => x = h.b ∨ vN.ownBlock = some x) w w') (hg : w.heap.size ≤ m.g) (hbox : w'.heap[h.b]? = some (.cells #[.pointer (some ⟨h.rb, 0, none⟩), vN', .int .i64 cl] 38 (0, 0)))
    (hrow : OwnRow w' h.base 55 1 ptrCell vN' (ms.map NM.g ++ [m.g])) (hn : NdAt w' h.base m n) (hd : m.blks.Nodup) (hs : ∀ x ∈ m.blks, ¬ RtS h ms vN x) : RtAt h w' (ms ++ [m]) (l ++ [n]) vN' cl := by
  have hS : ∀ x, (x = h.b ∨ vN.ownBlock = some x) → RtS h ms vN x := fun x hx => hx.elim .inl fun h => .inr (.inl h)
  have hnot : ∀ x, (∃ m' ∈ ms, x = m'.g ∨ x ∈ m'.blks) → ¬ (x = h.b ∨ vN.ownBlock = some x) := by
    rintro x hx (hc | hc)
    · exact t.noBox (.inr hx) hc
    · obtain ⟨_, c, h1⟩ := rtRow_kind t hc
      obtain ⟨m', hm', hx | hx⟩ := hx
      · obtain ⟨n', hn'⟩ := t.node hm'
        have h2 := hn'.box
        rw [← hx, h1] at h2; injection h2 with h2; injection h2 with _ h2; exact absurd h2 (by decide)
      · obtain ⟨n', hn'⟩ := t.node hm'
        obtain ⟨_, c', h2⟩ := hn'.kind hx
        rw [h1] at h2; injection h2 with h2; injection h2 with _ h2; exact absurd h2 (by decide)
  have hlen := t.len
  refine ⟨t.thr, t.below.trans ((ho.below t.size fun x hx => t.low x (hS x hx)).mono t.wb), t.wb, Nat.le_trans t.size ho.size, t.good, t.root.onlyR ho (fun hc => t.rootS.1 (hS _ hc)) (fun hc => t.rootS.2 (hS _ hc)), t.lowb, ?_, hbox, by rw [List.map_append]; exact hrow, by simp [hlen], ?_, ?_, ?_, ?_⟩
  · intro m' hm'
    rw [List.mem_append, List.mem_singleton] at hm'
    rcases hm' with hm' | rfl
    · exact t.lowg _ hm'
    · exact Nat.le_trans t.size hg
  · intro i h1 h2
    by_cases hi : i < ms.length
    · rw [List.getElem_append_left hi, List.getElem_append_left (by omega)]
      exact (t.nodes i hi (by omega)).keep ho (hnot _ ⟨_, List.getElem_mem hi, .inl rfl⟩) fun x hx => hnot _ ⟨_, List.getElem_mem hi, .inr hx⟩
    · rw [List.length_append, List.length_singleton] at h1
      obtain rfl : i = ms.length := by omega
      rw [List.getElem_append_right (by omega), List.getElem_append_right (by omega)]
      simpa using hn
  · rw [List.map_append, List.nodup_append]
    refine ⟨t.nodup, by simp, fun y hy z hz => ?_⟩
    simp at hz
    subst hz
    obtain ⟨m', hm', rfl⟩ := List.mem_map.1 hy
    have := t.lt _ (.inr (.inr ⟨_, hm', .inl rfl⟩))
    omega
  · intro m' hm'
    rw [List.mem_append, List.mem_singleton] at hm'
    rcases hm' with hm' | rfl
    · exact t.own _ hm'
    · exact hd
  · intro a b ha hb x hxa hxb
    rw [List.length_append, List.length_singleton] at ha hb
    by_cases ea : a < ms.length
    · rw [List.getElem_append_left ea] at hxa
      by_cases eb : b < ms.length
      · rw [List.getElem_append_left eb] at hxb
        exact t.apart a b ea eb x hxa hxb
      · obtain rfl : b = ms.length := by omega
        rw [List.getElem_append_right (by omega)] at hxb
        exact absurd (.inr (.inr ⟨_, List.getElem_mem ea, .inr hxa⟩)) (hs x (by simpa using hxb))
    · obtain rfl : a = ms.length := by omega
      rw [List.getElem_append_right (by omega)] at hxa
      by_cases eb : b < ms.length
      · rw [List.getElem_append_left eb] at hxb
        exact absurd (.inr (.inr ⟨_, List.getElem_mem eb, .inr hxb⟩)) (hs x (by simpa using hxa))
      · omega
end

end Go.Proofs.Ytkphdmfcmfojeaa

/- The contract of the document's tree's Make. -/
namespace Go.Proofs.Ytkphdmfcmfojeaa
open Go.RowKit

/-- The step that led to a prefix was gone into. -/
def wasR (l : List RNd) (k : Pfx) : Bool := match idxR l k.dropLast with
  | some i => decide (((k.getLast?.getD 0).toNat : Int) ∈ (l.getD i ⟨[], 0, [], [], []⟩).done)
  | none => false
theorem wasR_snoc (l : List RNd) (k : Pfx) (c : UInt8) : wasR l (k ++ [c]) = match idxR l k with
  | some i => decide ((c.toNat : Int) ∈ (l.getD i ⟨[], 0, [], [], []⟩).done)
  | none => false := by
  unfold wasR
  rw [List.dropLast_concat]
  simp
/-- Make: an error, the nodes. -/
def makeRn (p : Pg) (F : Int) (l : List RNd) (k : Pfx) (asl : List Int) (own : Int) : Int × List RNd :=
  match rep p F (rowK k) with
  | (e, _, none) => (e, l)
  | (_, _, some _) => if (idxR l k).isSome then (7, l) else if k ≠ [] ∧ wasR l k = false then (6, l) else (0, l ++ [⟨k, own, asl, [], []⟩])
theorem OwnRow.kindP {T : Type} {f : T → List Value} {n : Nat} {w : World} {B : Nat} {t : TypeId} {v : Value} {l : List T} (h : OwnRow w B t n f v l) {g : Nat} (hg : v.ownBlock = some g) : B ≤ g ∧ ∃ c, w.heap[g]? = some (.cells c t (0, 0)) := by
  obtain ⟨h1, ⟨rfl, _⟩ | ⟨g', cap, cur, rfl, h3, h4, h5⟩⟩ := h
  · simp [Value.ownBlock] at hg
  · simp [Value.ownBlock] at hg
    subst hg
    exact ⟨h3, cur, h4⟩
theorem OwnRow.keepP {T : Type} {f : T → List Value} {n : Nat} {w w' : World} {B : Nat} {t : TypeId} {v : Value} {l : List T} (h : OwnRow w B t n f v l) (hs : ∀ g, v.ownBlock = some g → w'.heap[g]? = w.heap[g]?) : OwnRow w' B t n f v l := by
  obtain ⟨h1, h2 | ⟨g, cap, cur, h2, h3, h4, h5⟩⟩ := h
  · exact ⟨h1, .inl h2⟩
  · exact ⟨h1, .inr ⟨g, cap, cur, h2, h3, (hs g (by rw [h2]; rfl)).trans h4, h5⟩⟩
section
variable {h : RtH} {w w7 : World} {ms : List NM} {l : List RNd} {vN vN' : Value} {cl : Int}
theorem infoNd : (Try.prog.info? 55).map (fun i => (i.zero, i.size, i.bytes)) = some (some (.pointer none), 1, 8) := by kernel_rfl
theorem wp_appendP {w : World} {ops : Array Oper} {rest : List Oper} {o : Oper} {a : Act} {Q : Exit → Act → World → Prop} (hgd : o.guard = none) (s x : Operand)
    (ho : o.op = .call { callee := .builtin .append, args := #[s, x], argTypes := #[36, 36] }) (B : Nat) (v : Value) (l : List Nat) (hs : a.eval s = v) (hown : OwnRow w B 55 1 ptrCell v l)
    (ad : Addr) (hx : a.eval x = .slice (some ad) 1 1) (e : Nat) (hnews : ∀ j u, (ptrCell e)[j]? = some u → w.cell? (ad.add j) = some u) (hlen : l.length ≤ 1000000) (hB : B ≤ w.heap.size)
    (h : ∀ v' w', OwnRow w' B 55 1 ptrCell v' (l ++ [e]) → w.grownBy w' v.ownBlock → wpList Try.prog ops Q rest (a.put o.dst v') w') : wpList Try.prog ops Q (o :: rest) a w :=
  wp_appendR (f := ptrCell) (n := 1) 36 55 8 (.pointer none) Try.underlying36 infoNd rfl (by omega) (by omega) ptrCell_len hgd s x ho B v l hs hown ad hx e (ptrCell_one e) hnews hlen hB fun v' w' h1 _ h3 => h v' w' h1 h3
/-- A node is made: where it lies, and what it has. -/
theorem RtAt.made (t : RtAt h w ms l vN cl) {k : Pfx} {own : Int} {va : Value} {asl : List Int} (hva : OwnN w h.base va asl) (hvs : ∀ x, va.ownBlock = some x → ¬ RtS h ms vN x) {o1 o2 : Obj} (e1 : o1 = .cells #[.string ⟨k.toArray⟩, .int .i64 own, va, .slice none 0 0, .slice none 0 0] 58)
    (hrow : OwnRow w7 h.base 55 1 ptrCell vN' (ms.map NM.g ++ [w.heap.size])) (hg : ((w.alloc o1).alloc o2).grownBy w7 vN.ownBlock) :
    RtAt h (w7.setCell ⟨h.b, 1, none⟩ vN') (ms ++ [⟨w.heap.size, va, .slice none 0 0, .slice none 0 0⟩]) (l ++ [⟨k, own, asl, [], []⟩]) vN' cl ∧ OnlyS (RtS h ms vN) w (w7.setCell ⟨h.b, 1, none⟩ vN') ∧ w7.frozen? ⟨h.b, 1, none⟩ = false ∧ w7.cell? ⟨h.b, 1, none⟩ = some vN := by
  subst e1
  have hz : ((w.alloc (.cells #[.string ⟨k.toArray⟩, .int .i64 own, va, .slice none 0 0, .slice none 0 0] 58)).alloc o2).heap.size = w.heap.size + 2 := by rw [World.size_alloc, World.size_alloc]
  have hb2 : Below w.heap.size w ((w.alloc (.cells #[.string ⟨k.toArray⟩, .int .i64 own, va, .slice none 0 0, .slice none 0 0] 58)).alloc o2) := below_alloc2 w _ _
  have hz7 := hg.size
  have hbl := t.lt _ (.inl rfl)
  have hnb : ∀ x, vN.ownBlock = some x → x ≠ h.b := fun x hx => t.noBox (.inl hx)
  have hbox7 : w7.heap[h.b]? = some (.cells #[.pointer (some ⟨h.rb, 0, none⟩), vN, .int .i64 cl] 38 (0, 0)) := by
    rw [hg.block h.b (by omega) (fun e => hnb _ e.symm rfl), hb2.block h.b hbl]
    exact t.box
  have hnode7 : w7.heap[w.heap.size]? = some (.cells #[.string ⟨k.toArray⟩, .int .i64 own, va, .slice none 0 0, .slice none 0 0] 58 (0, 0)) := by
    rw [hg.block _ (by omega) (fun e => by have := t.lt _ (.inr (.inl e.symm)); omega), (below_alloc1 (w.alloc _) o2).block _ (by rw [World.size_alloc]; omega)]
    exact heap_alloc_new w _
  have ho : OnlyS (fun x => x = h.b ∨ vN.ownBlock = some x) w (w7.setCell ⟨h.b, 1, none⟩ vN') := by
    refine OnlyS.setCell ⟨hg.os.trans hb2.os, hg.tape.trans hb2.tape, hg.output.trans hb2.output, by omega, fun x hx hn => ?_⟩ (p := ⟨h.b, 1, none⟩) (.inl rfl) _
    rw [hg.block x (by omega) (fun e => hn (.inr e.symm)), hb2.block x hx]
  have hne : ∀ x, x ≠ h.b → (w7.setCell ⟨h.b, 1, none⟩ vN').heap[x]? = w7.heap[x]? := fun x hx => Below.heap_setCell _ _ _ _ hx
  refine ⟨t.more (m := ⟨w.heap.size, va, .slice none 0 0, .slice none 0 0⟩) (n := ⟨k, own, asl, [], []⟩) ho (Nat.le_refl _) ?_ ?_ ⟨?_, ?_, ownN_nil _ _, ownN_nil _ _⟩ ?_ ?_, ho.mono fun x _ hx => ?_, by simp [World.frozen?, hbox7], by rw [cell_of_row w7 h.b 1 _ _ _ hbox7]; rfl⟩
  · rw [heap_setCell_same w7 h.b 1 _ _ _ hbox7]; rfl
  · refine hrow.keepP fun x hx => hne x ?_
    rintro rfl
    obtain ⟨_, c, hc⟩ := hrow.kindP hx
    rw [hbox7] at hc; injection hc with hc; injection hc with _ hc; exact absurd hc (by decide)
  · rw [hne _ (by show w.heap.size ≠ h.b; omega)]; exact hnode7
  · refine hva.onlyS ho fun x hx hn => ?_
    rcases hn with hn | hn
    · exact hvs x hx (.inl hn)
    · exact hvs x hx (.inr (.inl hn))
  · show (va.ownBlock.toList ++ [] ++ []).Nodup
    cases va.ownBlock <;> simp
  · intro x hx
    have hx2 : x ∈ va.ownBlock.toList ++ [] ++ [] := hx
    simp at hx2
    exact hvs x hx2
  · rcases hx with rfl | hx
    · exact .inl rfl
    · exact .inr (.inl hx)
/-- What Make leaves. -/
def RtMakeR (h : RtH) (ms : List NM) (vN : Value) (l : List RNd) (cl : Int) (k : Pfx) (asl : List Int) (own : Int) (w : World) (r : Ending) (w' : World) : Prop :=
  ∃ ms' vN', r = .returned (.int .i64 (makeRn h.p h.F l k asl own).1) ∧ RtAt h w' ms' (makeRn h.p h.F l k asl own).2 vN' cl ∧ OnlyS (RtS h ms vN) w w'
theorem rtMakeR_no {k : Pfx} {asl : List Int} {own e : Int} {w' : World} (he : makeRn h.p h.F l k asl own = (e, l)) (t : RtAt h w ms l vN cl) (hb : Below w.heap.size w w') : RtMakeR h ms vN l cl k asl own w (.returned (.int .i64 e)) w' :=
  ⟨ms, vN, by rw [he], by rw [he]; exact t.later hb, OnlyS.of_below hb⟩
theorem rtMakeR_yes {k : Pfx} {asl : List Int} {own : Int} {w1 w' : World} {ms' : List NM} (he : makeRn h.p h.F l k asl own = (0, l ++ [⟨k, own, asl, [], []⟩])) (hb : Below w.heap.size w w1) (t : RtAt h w' ms' (l ++ [⟨k, own, asl, [], []⟩]) vN' cl) (hb2 : OnlyS (RtS h ms vN) w1 w') : RtMakeR h ms vN l cl k asl own w (.returned (.int .i64 0)) w' :=
  ⟨ms', vN', by rw [he], by rw [he]; exact t, OnlyS.after hb hb2⟩
theorem ptr_new (w : World) (k : Nat) (g : Nat) (hg : g = w.heap.size) : ∀ j u, (ptrCell k)[j]? = some u → (w.alloc (.cells #[.pointer (some ⟨k, 0, none⟩)] 55)).cell? (Addr.add ⟨g, 0, none⟩ j) = some u := cells_new w (ptrCell k) 55 g hg
set_option maxRecDepth 100000 in
set_option maxHeartbeats 4000000 in
theorem rtMake_any (t : RtAt h w ms l vN cl) {k : Pfx} (hk : k.length ≤ 900) (own : Int) {aa : Option Addr} {ca : Nat} {asl : List Int} (hva : OwnN w h.base (.slice aa asl.length ca) asl) (hvs : ∀ x, (Value.slice aa asl.length ca).ownBlock = some x → ¬ RtS h ms vN x) (hl : l.length ≤ 100000) (hd : ∀ n ∈ l, n.done.length ≤ 1000) :
    Calls Try.prog 17 #[.pointer (some ⟨h.b, 0, none⟩), .string ⟨k.toArray⟩, .slice aa asl.length ca, .int .i64 own] w (RtMakeR h ms vN l cl k asl own w) := by
  have HT := Lib.hid t
  have HAT := Lib.hid (rtAt_any t (k := k) (by omega))
  have hqs : (⟨k.toArray⟩ : ByteArray).size = k.length := by simp [ByteArray.size]
  have HF : Hid (∀ W, Below w.heap.size w W → Calls Try.prog 25 #[.pointer (some ⟨h.b, 0, none⟩), .string ⟨k.toArray⟩] W fun r w' => r = .returned (ptrV (blkR ms l k)) ∧ W = w') := fun W hb => refFind_any (t.later hb) k (by omega)
  rcases hr : rep h.p h.F (rowK k) with ⟨e0, es, _ | s⟩
  · have HE : Hid (makeRn h.p h.F l k asl own = (e0, l)) := by show _ = _; unfold makeRn; rw [hr]
    have he0 := rep_none hr
    have hne : (e0 != 0) = true := by simpa using he0
    have HR := Lib.hid hr
    clear t hr he0 hva hvs
    go_enter Try.func17, Try.ntmps17
    go_wp2_with fail
    refine HAT.out.mono ?_
    rintro r w3 h3
    unfold RefAtR at h3
    rw [HR.out] at h3
    obtain ⟨hb3, rfl⟩ := h3
    have HB := Lib.hid hb3
    clear hb3
    go_wp2
    go_ret
    exact rtMakeR_no HE.out HT.out HB.out
  obtain ⟨rfl, _⟩ := rep_some hr
  have HR := Lib.hid hr
  cases hi : idxR l k with
  | some i =>
    have HE : Hid (makeRn h.p h.F l k asl own = (7, l)) := by show _ = _; unfold makeRn; rw [hr, hi]; rfl
    obtain ⟨hil, _⟩ := idxR_some hi
    have him : i < ms.length := by rw [t.len]; exact hil
    have HB := Lib.hid (blkR_some (ms := ms) hi him)
    generalize ms[i].g = g at *
    clear t hr hva hvs hi
    go_enter Try.func17, Try.ntmps17
    go_wp2_with fail
    refine HAT.out.mono ?_
    rintro r w3 h3
    unfold RefAtR at h3
    rw [HR.out] at h3
    obtain ⟨hb3, _, _, _, rfl, _⟩ := h3
    have HB3 := Lib.hid hb3
    clear hb3
    go_wp2_with fail
    refine (HF.out w3 HB3.out).mono ?_
    rw [HB.out]
    rintro r w' ⟨rfl, rfl⟩
    unfold ptrV
    simp only [Option.map]
    go_wp2
    go_ret
    exact rtMakeR_no HE.out HT.out HB3.out
  | none =>
    have HB := Lib.hid (blkR_none (ms := ms) hi)
    have HVA0 := Lib.hid hva
    have HVS := Lib.hid hvs
    have hmk0 : ∀ (_ : k = [] ∨ wasR l k = true), makeRn h.p h.F l k asl own = (0, l ++ [⟨k, own, asl, [], []⟩]) := fun hc => by
      unfold makeRn
      rw [hr, hi]
      dsimp only
      rw [if_neg (by simp), if_neg]
      rintro ⟨h1, h2⟩
      rcases hc with hc | hc
      · exact h1 hc
      · rw [h2] at hc; cases hc
    by_cases hk0 : k = []
    · have HE := Lib.hid (hmk0 (.inl hk0))
      have qe : List.isEmpty k = true := by rw [hk0]; rfl
      clear t hr hva hvs hi hmk0 hk0
      go_enter Try.func17, Try.ntmps17
      go_wp2_with fail
      refine HAT.out.mono ?_
      rintro r w3 h3
      unfold RefAtR at h3
      rw [HR.out] at h3
      obtain ⟨hb3, _, _, _, rfl, _⟩ := h3
      have HB3 := Lib.hid hb3
      clear hb3
      go_wp2_with fail
      refine (HF.out w3 HB3.out).mono ?_
      rw [HB.out]
      rintro r w' ⟨rfl, rfl⟩
      unfold ptrV
      simp only [Option.map]
      have HTW := Lib.hid (HT.out.later HB3.out)
      have HVA := Lib.hid (HVA0.out.later HB3.out)
      obtain ⟨c0, c1, c2⟩ := HTW.out.cells
      obtain ⟨ra, rc, hvN, _, _⟩ := OwnRow.form HTW.out.row ptrCell_len (by rw [List.length_map]; have := HTW.out.len; omega)
      have hrow := HTW.out.row
      have HVN := Lib.hid hvN
      rw [List.length_map] at hvN HVN
      rw [hvN] at c1 hrow
      have HROW := Lib.hid hrow
      have hml : ms.length ≤ 100000 := by have := HTW.out.len; omega
      have hzW := HTW.out.size
      have HMD : Hid (∀ (v' : Value) (w7 : World), OwnRow w7 h.base 55 1 ptrCell v' (ms.map NM.g ++ [w3.heap.size]) → ((w3.alloc (.cells #[.string ⟨k.toArray⟩, .int .i64 own, .slice aa asl.length ca, .slice none 0 0, .slice none 0 0] 58)).alloc (.cells #[.pointer (some ⟨w3.heap.size, 0, none⟩)] 55)).grownBy w7 vN.ownBlock → _) := fun v' w7 h1 h2 => HTW.out.made (own := own) HVA.out HVS.out rfl h1 h2
      clear c0 c2 hvN hrow
      go_wp2_with (at_builtin; refine wp_appendP rfl (.tmp 54) (.tmp 60) rfl h.base _ (ms.map NM.g) rfl ((HROW.out.alloc _).alloc _) ⟨_, 0, none⟩ rfl w3.heap.size (ptr_new (w3.alloc _) w3.heap.size _ (by rw [World.size_alloc])) (by rw [List.length_map]; omega) (by rw [World.size_alloc, World.size_alloc]; omega) ?_; intro v7 w7 hown7 hg7; obtain ⟨b7, c7, hv7e, _⟩ := OwnRow.form hown7 ptrCell_len (by rw [List.length_append, List.length_map, List.length_singleton]; omega); rw [List.length_append, List.length_map, List.length_singleton] at hv7e; subst hv7e; rw [← HVN.out] at hg7; obtain ⟨t8, b8, f8, d8⟩ := HMD.out _ w7 hown7 hg7; rw [HVN.out] at d8; have HT8 := Lib.hid t8; have HB8 := Lib.hid b8; clear t8 b8 hown7 hg7)
      go_ret
      exact rtMakeR_yes HE.out HB3.out HT8.out HB8.out
    · obtain ⟨k', c, hkc⟩ : ∃ (k' : Pfx) (c : UInt8), k = k' ++ [c] := by
        rcases List.eq_nil_or_concat k with h0 | ⟨k', c, h0⟩
        · exact absurd h0 hk0
        · exact ⟨k', c, by simpa using h0⟩
      have hke : List.isEmpty k = false := by rw [hkc]; simp
      have hkl : k.length = k'.length + 1 := by rw [hkc]; simp
      have hsl : (⟨k.toArray⟩ : ByteArray).extract 0 k'.length = ⟨k'.toArray⟩ := by rw [hkc, cut_pre]; simp
      have hix : ∀ h' : k'.length < (⟨k.toArray⟩ : ByteArray).size, (⟨k.toArray⟩ : ByteArray)[k'.length] = c := fun h' => by
        have e : (⟨k.toArray⟩ : ByteArray)[k'.length] = k[k'.length]'(by rw [hkc]; simp) := rfl
        rw [e]; simp [hkc]
      have hwas : wasR l k = match idxR l k' with
        | some i => decide ((c.toNat : Int) ∈ (l.getD i ⟨[], 0, [], [], []⟩).done)
        | none => false := by rw [hkc]; exact wasR_snoc l k' c
      have hno0 : ∀ (_ : wasR l k = false), makeRn h.p h.F l k asl own = (6, l) := fun hc => by
        unfold makeRn
        rw [hr, hi]
        dsimp only
        rw [if_neg (by simp), if_pos ⟨hk0, hc⟩]
      have bc := UInt8.toNat_lt c
      have vc : IntKind.i64.wrap (c.toNat : Int) = c.toNat := IntWalk.i64_in _ (by omega)
      have hk' : k'.length ≤ 900 := by omega
      have HF2 : Hid (∀ W, Below w.heap.size w W → Calls Try.prog 25 #[.pointer (some ⟨h.b, 0, none⟩), .string ⟨k'.toArray⟩] W fun r w' => r = .returned (ptrV (blkR ms l k')) ∧ W = w') := fun W hb => refFind_any (t.later hb) k' (by omega)
      rw [hkl] at hqs
      clear hkl
      cases hi2 : idxR l k' with
      | none =>
        rw [hi2] at hwas
        have HE := Lib.hid (hno0 hwas)
        have HB2 := Lib.hid (blkR_none (ms := ms) hi2)
        clear t hr hva hvs hi hmk0 hk0 hno0 hwas hi2 hkc
        go_enter Try.func17, Try.ntmps17
        go_wp2_with fail
        refine HAT.out.mono ?_
        rintro r w3 h3
        unfold RefAtR at h3
        rw [HR.out] at h3
        obtain ⟨hb3, _, _, _, rfl, _⟩ := h3
        have HB3 := Lib.hid hb3
        clear hb3
        go_wp2_with fail
        refine (HF.out w3 HB3.out).mono ?_
        rw [HB.out]
        rintro r w' ⟨rfl, rfl⟩
        unfold ptrV
        simp only [Option.map]
        go_wp2_with fail
        refine (HF2.out w3 HB3.out).mono ?_
        rw [HB2.out]
        rintro r w' ⟨rfl, rfl⟩
        unfold ptrV
        simp only [Option.map]
        go_wp2_with fail
        go_quiet (fail)
        go_wp2
        go_ret
        exact rtMakeR_no HE.out HT.out HB3.out.drewN
      | some i =>
        rw [hi2] at hwas
        obtain ⟨hil, _⟩ := idxR_some hi2
        have him : i < ms.length := by rw [t.len]; exact hil
        have HB2 := Lib.hid (blkR_some (ms := ms) hi2 him)
        simp only [List.getD, List.getElem?_eq_getElem hil, Option.getD_some] at hwas
        have hn := t.nodes i him hil
        have hdl := hd _ (List.getElem_mem hil)
        obtain ⟨ad, cd, ed, _, _⟩ := OwnN.form hn.done (by omega)
        have HC4 : Hid (∀ W, Below w.heap.size w W → W.cell? ⟨ms[i].g, 4, none⟩ = some (.slice ad l[i].done.length cd) ∧ NumsAt W ad l[i].done) := fun W hb => by
          have hnW := (t.later hb).nodes i him hil
          obtain ⟨_, _, _, _, c4⟩ := hnW.cells
          rw [ed] at c4
          obtain ⟨ad', cd', ed', na, _⟩ := OwnN.form hnW.done (by omega)
          rw [ed] at ed'
          injection ed' with e1 _ _
          subst e1
          exact ⟨c4, na⟩
        have HIN : Hid (∀ W, Below w.heap.size w W → ∀ n, Calls Try.prog 52 #[.slice ad l[i].done.length cd, .int .i64 (c.toNat : Int)] (W.drewN n) fun r w' => r = .returned (.bool (wasR l k)) ∧ W.drewN n = w') := fun W hb n => by
          rw [hwas]
          exact refIn_any ad cd l[i].done (c.toNat : Int) _ ((HC4.out W hb).2.later (Below.refl _ _).drewN) hdl
        cases hw : wasR l k
        · have HE := Lib.hid (hno0 hw)
          rw [hw] at HIN
          generalize l[i].done.length = dl at *
          generalize ms[i].g = g at *
          clear t hr hva hvs hi hmk0 hk0 hno0 hwas hi2 hkc hw hn ed
          go_enter Try.func17, Try.ntmps17
          go_wp2_with fail
          refine HAT.out.mono ?_
          rintro r w3 h3
          unfold RefAtR at h3
          rw [HR.out] at h3
          obtain ⟨hb3, _, _, _, rfl, _⟩ := h3
          have HB3 := Lib.hid hb3
          clear hb3
          go_wp2_with fail
          refine (HF.out w3 HB3.out).mono ?_
          rw [HB.out]
          rintro r w' ⟨rfl, rfl⟩
          unfold ptrV
          simp only [Option.map]
          go_wp2_with fail
          refine (HF2.out w3 HB3.out).mono ?_
          rw [HB2.out]
          rintro r w' ⟨rfl, rfl⟩
          unfold ptrV
          simp only [Option.map]
          obtain ⟨hc4, hna⟩ := HC4.out w3 HB3.out
          go_wp2_with fail
          go_quiet ((go_at_call 52; exact Calls.quiet_of_same ((HIN.out w3 HB3.out _).mono fun _ _ ⟨h1, h2⟩ => ⟨h1, h2.symm⟩)))
          go_wp2
          go_ret
          exact rtMakeR_no HE.out HT.out HB3.out.drewN
        · have HE := Lib.hid (hmk0 (.inr hw))
          rw [hw] at HIN
          generalize l[i].done.length = dl at *
          generalize ms[i].g = g at *
          clear t hr hva hvs hi hmk0 hk0 hno0 hwas hi2 hkc hw hn ed
          go_enter Try.func17, Try.ntmps17
          go_wp2_with fail
          refine HAT.out.mono ?_
          rintro r w3 h3
          unfold RefAtR at h3
          rw [HR.out] at h3
          obtain ⟨hb3, _, _, _, rfl, _⟩ := h3
          have HB3 := Lib.hid hb3
          clear hb3
          go_wp2_with fail
          refine (HF.out w3 HB3.out).mono ?_
          rw [HB.out]
          rintro r w' ⟨rfl, rfl⟩
          unfold ptrV
          simp only [Option.map]
          go_wp2_with fail
          refine (HF2.out w3 HB3.out).mono ?_
          rw [HB2.out]
          rintro r w' ⟨rfl, rfl⟩
          unfold ptrV
          simp only [Option.map]
          obtain ⟨hc4, hna⟩ := HC4.out w3 HB3.out
          go_wp2_with fail
          go_quiet ((go_at_call 52; exact Calls.quiet_of_same ((HIN.out w3 HB3.out _).mono fun _ _ ⟨h1, h2⟩ => ⟨h1, h2.symm⟩)))
          obtain ⟨W9, hW9⟩ : ∃ W9, W9 = w3.drewN nq := ⟨_, rfl⟩
          have HB9 : Hid (Below w.heap.size w W9) := by rw [hW9]; exact HB3.out.drewN
          rw [← hW9]
          clear hW9 hc4 hna
          have HTW := Lib.hid (HT.out.later HB9.out)
          have HVA := Lib.hid (HVA0.out.later HB9.out)
          obtain ⟨c0, c1, c2⟩ := HTW.out.cells
          obtain ⟨ra, rc, hvN, _, _⟩ := OwnRow.form HTW.out.row ptrCell_len (by rw [List.length_map]; have := HTW.out.len; omega)
          have hrow := HTW.out.row
          have HVN := Lib.hid hvN
          rw [List.length_map] at hvN HVN
          rw [hvN] at c1 hrow
          have HROW := Lib.hid hrow
          have hml : ms.length ≤ 100000 := by have := HTW.out.len; omega
          have hzW := HTW.out.size
          have HMD : Hid (∀ (v' : Value) (w7 : World), OwnRow w7 h.base 55 1 ptrCell v' (ms.map NM.g ++ [W9.heap.size]) → ((W9.alloc (.cells #[.string ⟨k.toArray⟩, .int .i64 own, .slice aa asl.length ca, .slice none 0 0, .slice none 0 0] 58)).alloc (.cells #[.pointer (some ⟨W9.heap.size, 0, none⟩)] 55)).grownBy w7 vN.ownBlock → _) := fun v' w7 h1 h2 => HTW.out.made (own := own) HVA.out HVS.out rfl h1 h2
          clear c0 c2 hvN hrow
          go_wp2_with (at_builtin; refine wp_appendP rfl (.tmp 54) (.tmp 60) rfl h.base _ (ms.map NM.g) rfl ((HROW.out.alloc _).alloc _) ⟨_, 0, none⟩ rfl W9.heap.size (ptr_new (W9.alloc _) W9.heap.size _ (by rw [World.size_alloc])) (by rw [List.length_map]; omega) (by rw [World.size_alloc, World.size_alloc]; omega) ?_; intro v7 w7 hown7 hg7; obtain ⟨b7, c7, hv7e, _⟩ := OwnRow.form hown7 ptrCell_len (by rw [List.length_append, List.length_map, List.length_singleton]; omega); rw [List.length_append, List.length_map, List.length_singleton] at hv7e; subst hv7e; rw [← HVN.out] at hg7; obtain ⟨t8, b8, f8, d8⟩ := HMD.out _ w7 hown7 hg7; rw [HVN.out] at d8; have HT8 := Lib.hid t8; have HB8 := Lib.hid b8; clear t8 b8 hown7 hg7)
          go_ret
          exact rtMakeR_yes HE.out HB9.out HT8.out HB8.out
end

end Go.Proofs.Ytkphdmfcmfojeaa
