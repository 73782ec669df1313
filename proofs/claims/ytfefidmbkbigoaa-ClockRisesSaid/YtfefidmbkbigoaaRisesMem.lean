/- What ClockRises holds: a block of four clocks, one a thread. -/
import Derived.Test.YtfefidmbkbigoaaWake4
import Derived.Test.YtfefidmbkbigoaaLastPlain
import Derived.Test.YtfefidmbkbigoaaWrapU
namespace Go.Proofs.Ytfefidmbkbigoaa
open Go.RowKit

/-- The row of clocks in block g, whatever its type. -/
def CksAt (w : World) (g : Nat) (t : TypeId) (cs : List (Nat → Nat)) : Prop := MidAt w g t (cellsL ckCell cs)
theorem CksAt.cell {w : World} {g : Nat} {ty : TypeId} {cs : List (Nat → Nat)} (h : CksAt w g ty cs) {k t : Nat} (hk : k < cs.length) (ht : t < 4) : w.cell? ⟨g, k * 4 + t, none⟩ = some (.int .i64 (cs[k] t)) := by
  rw [MidAt.cell h, cellsL_get ckCell_len cs k t hk ht]
  exact nums4_get _ ht
theorem CksAt.four {w : World} {g : Nat} {ty : TypeId} {cs : List (Nat → Nat)} (h : CksAt w g ty cs) {k : Nat} (hk : k < cs.length) : (w.cell? ⟨g, k * 4, none⟩ = some (.int .i64 (cs[k] 0)) ∧ w.cell? ⟨g, k * 4 + 1, none⟩ = some (.int .i64 (cs[k] 1)) ∧ w.cell? ⟨g, k * 4 + 2, none⟩ = some (.int .i64 (cs[k] 2)) ∧ w.cell? ⟨g, k * 4 + 3, none⟩ = some (.int .i64 (cs[k] 3))) ∧
    w.frozen? ⟨g, k * 4, none⟩ = false ∧ w.frozen? ⟨g, k * 4 + 1, none⟩ = false ∧ w.frozen? ⟨g, k * 4 + 2, none⟩ = false ∧ w.frozen? ⟨g, k * 4 + 3, none⟩ = false :=
  ⟨⟨h.cell (t := 0) hk (by omega), h.cell hk (by omega), h.cell hk (by omega), h.cell hk (by omega)⟩, MidAt.frozen h _, MidAt.frozen h _, MidAt.frozen h _, MidAt.frozen h _⟩
theorem CksAt.later {w w' : World} {g : Nat} {ty : TypeId} {cs : List (Nat → Nat)} (h : CksAt w g ty cs) (hb : Below w.heap.size w w') : CksAt w' g ty cs := MidAt.later h hb
theorem CksAt.below {w w' : World} {B g : Nat} {ty : TypeId} {cs : List (Nat → Nat)} (h : CksAt w g ty cs) (hb : Below B w w') (hg : g < B) : CksAt w' g ty cs := (hb.block g hg).trans h
theorem CksAt.set4 {w : World} {g : Nat} {ty : TypeId} {cs : List (Nat → Nat)} (h : CksAt w g ty cs) {k : Nat} (hk : k < cs.length) (c : Nat → Nat) :
    CksAt ((((w.setCell ⟨g, k * 4, none⟩ (.int .i64 (c 0))).setCell ⟨g, k * 4 + 1, none⟩ (.int .i64 (c 1))).setCell ⟨g, k * 4 + 2, none⟩ (.int .i64 (c 2))).setCell ⟨g, k * 4 + 3, none⟩ (.int .i64 (c 3))) g ty (cs.set k c) := by
  unfold CksAt
  rw [← ck_set4 cs k c hk]
  exact MidAt.set (MidAt.set (MidAt.set (MidAt.set h _ _) _ _) _ _) _ _

/-- Every thread's last clock among the first k events. -/
def lasts (l : List Ev) (k : Nat) : List (Nat → Nat) := [lastP l 0 k, lastP l 1 k, lastP l 2 k, lastP l 3 k]
theorem lasts_len (l : List Ev) (k : Nat) : (lasts l k).length = 4 := rfl
theorem lasts_get (l : List Ev) (k t : Nat) (ht : t < (lasts l k).length) : (lasts l k)[t] = lastP l t k := by
  rw [lasts_len] at ht
  match t, ht with
  | 0, _ => rfl
  | 1, _ => rfl
  | 2, _ => rfl
  | 3, _ => rfl
theorem lasts_step {l : List Ev} {k th : Nat} (hth : (evI l k).thread = th) (_h4 : th < 4) : (lasts l k).set th (fun u : Nat => clk l k u) = lasts l (k + 1) := by
  refine List.ext_getElem (by simp [lasts_len]) fun i h1 h2 => ?_
  rw [lasts_get, List.getElem_set, lastP]
  by_cases e : th = i
  · subst e
    rw [if_pos rfl, if_pos hth]
  · rw [if_neg e, lasts_get, if_neg]
    intro h
    rw [hth] at h
    exact e (by omega)
theorem last_le {l : List Ev} {k th : Nat} (hth : (evI l k).thread = th) (u : Nat) : lastP l th k u ≤ clk l k u := by
  rcases lastP_is (l := l) (t := (th : Int)) k with ⟨j, h1, h2, _, h4⟩ | ⟨_, h2⟩
  · rw [h4]
    exact clk_mono (hb_thread (by omega) (by rw [h2, hth])) _
  · rw [h2]
    exact Nat.zero_le _
theorem own_num {l : List Ev} {k th : Nat} (hth : (evI l k).thread = th) (hr : rightL l = true) (hk : k < l.length) : clk l k th = numO l (k : Int) := by
  rw [numO_at hr hk, ← hth, clk_own]
  rfl
theorem lasts_end {l : List Ev} (hr : rightL l = true) {t : Nat} {c : Nat → Nat} (h : LastIs l (t : Int) c) : c = lastP l t l.length := h.eq hr
theorem lasts_new (w : World) (l : List Ev) (ty : TypeId) : CksAt (w.alloc (.cells #[.int .i64 0, .int .i64 0, .int .i64 0, .int .i64 0, .int .i64 0, .int .i64 0, .int .i64 0, .int .i64 0, .int .i64 0, .int .i64 0, .int .i64 0, .int .i64 0, .int .i64 0, .int .i64 0, .int .i64 0, .int .i64 0] ty)) w.heap.size ty (lasts l 0) := heap_alloc_new w _
/-- A beginning's clocks are the clocks' beginning. -/
theorem cks_begin {l : List Ev} (hr : rightL l = true) {n k : Nat} (hn : n ≤ l.length) (hk : k < n) (h : k < (cks (l.take n)).length) : (cks (l.take n))[k] = fun t : Nat => clk l k t := by
  rw [cks_get (rightL_of_take hr n) (by simp; omega)]
  funext t
  exact clk_take hk hn _

end Go.Proofs.Ytfefidmbkbigoaa
