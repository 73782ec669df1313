/-
  ReportMerges: whatever lists the same keys stand in, and however often, merged they are the same, and unlike sets of keys are not: the law answers true, and its arguments read as they did.
  For every input, whatever its size and however its parts share memory; nothing is asked of it but what the statement's own form asks.
-/
import Derived.Deep.RegionHeld3
import Derived.WalkKit
import Derived.ProofKit
import Derived.OpenShut
import Derived.Test.YtopklnehhebhmaaRows
import Derived.Test.YtopklnehhebhmaaPk05
import Derived.Test.YtopklnehhebhmaaPk07

/- Layer 15: the same keys in three lists, turned by numbers, some of them twice. -/
namespace Go.Proofs.Ytopklnehhebhmaa

def turnK (ts : List Nat) (i : Nat) : Nat := if i < ts.length then ts.getD i 0 % 3 else 0
/-- One key, laid into its list, and into the next one, too, if its number is high. -/
def turnR (ts : List Nat) (i : Nat) (s : Key) (ls : List (List Key)) : List (List Key) :=
  if i < ts.length ∧ 128 < ts.getD i 0 then
    (ls.set (turnK ts i) (s :: ls.getD (turnK ts i) [])).set ((turnK ts i + 1) % 3) ((ls.set (turnK ts i) (s :: ls.getD (turnK ts i) [])).getD ((turnK ts i + 1) % 3) [] ++ [s])
  else ls.set (turnK ts i) (s :: ls.getD (turnK ts i) [])
def turnsR (ts : List Nat) (a : List Key) : Nat → List (List Key)
  | 0 => [[], [], []]
  | i + 1 => turnR ts i (a.getD i []) (turnsR ts a i)
theorem turnK_lt (ts : List Nat) (i : Nat) : turnK ts i < 3 := by unfold turnK; split <;> omega
theorem turnR_len (ts : List Nat) (i : Nat) (s : Key) (ls : List (List Key)) : (turnR ts i s ls).length = ls.length := by unfold turnR; split <;> simp
theorem turnsR_len (ts : List Nat) (a : List Key) : ∀ i, (turnsR ts a i).length = 3
  | 0 => rfl
  | i + 1 => by rw [turnsR, turnR_len, turnsR_len]
theorem flat_set {ls : List (List Key)} {k : Nat} {m : List Key} (hk : k < ls.length) (s : Key) (hm : ∀ x, x ∈ m ↔ x = s ∨ x ∈ ls.getD k []) (x : Key) : x ∈ (ls.set k m).flatten ↔ x = s ∨ x ∈ ls.flatten := by
  induction ls generalizing k with
  | nil => exact absurd hk (Nat.not_lt_zero _)
  | cons a l ih =>
    cases k with
    | zero =>
      simp only [List.set_cons_zero, List.flatten_cons, List.mem_append]
      rw [hm]
      simp only [List.getD_cons_zero]
      rw [or_assoc]
    | succ k =>
      simp only [List.set_cons_succ, List.flatten_cons, List.mem_append]
      rw [ih (k := k) (by simpa using hk) (by simpa using hm)]
      exact ⟨fun h => by rcases h with h | h | h <;> simp [h], fun h => by rcases h with h | h | h <;> simp [h]⟩
theorem turnR_mem {ts : List Nat} {i : Nat} {s : Key} {ls : List (List Key)} (h : ls.length = 3) (x : Key) : x ∈ (turnR ts i s ls).flatten ↔ x = s ∨ x ∈ ls.flatten := by
  have hk : turnK ts i < ls.length := by rw [h]; exact turnK_lt ts i
  have h1 := flat_set hk s (m := s :: ls.getD (turnK ts i) []) (fun x => by simp) x
  unfold turnR
  split
  · rw [flat_set (by rw [List.length_set]; omega) s (fun x => by simp [or_comm]) x, h1]
    exact ⟨fun h => h.elim .inl id, .inr⟩
  · exact h1
/-- What was turned are the keys, each at least once. -/
theorem turnsR_mem (ts : List Nat) (a : List Key) (x : Key) : ∀ i, i ≤ a.length → (x ∈ (turnsR ts a i).flatten ↔ x ∈ a.take i)
  | 0, _ => by simp [turnsR]
  | i + 1, h => by
    rw [turnsR, turnR_mem (turnsR_len ts a i), turnsR_mem ts a x i (by omega), List.take_succ_eq_append_getElem (by omega), List.mem_append, List.mem_singleton, List.getD_eq_getElem?_getD, List.getElem?_eq_getElem (by omega), Option.getD_some]
    exact or_comm
theorem turnsR_merge (ts : List Nat) (a : List Key) : mergeR (turnsR ts a a.length) = mergeR [a] := by
  unfold mergeR
  exact sortK_congr fun x => by rw [turnsR_mem ts a x _ (Nat.le_refl _), List.take_length]; simp
theorem turnR_size (ts : List Nat) (i : Nat) (s : Key) (ls : List (List Key)) {n : Nat} (h : ∀ l ∈ ls, l.length ≤ n) : ∀ l ∈ turnR ts i s ls, l.length ≤ n + 2 := by
  have hg : ∀ (ls : List (List Key)) k {n : Nat}, (∀ l ∈ ls, l.length ≤ n) → (ls.getD k []).length ≤ n := fun ls k n h => by
    rw [List.getD_eq_getElem?_getD]
    cases e : ls[k]? with
    | none => exact Nat.zero_le _
    | some l => exact h l (List.mem_of_getElem? e)
  have h1 : ∀ l ∈ ls.set (turnK ts i) (s :: ls.getD (turnK ts i) []), l.length ≤ n + 1 := fun l hl => by
    rcases List.mem_or_eq_of_mem_set hl with hl | rfl
    · exact Nat.le_succ_of_le (h l hl)
    · have := hg ls (turnK ts i) h; simp only [List.length_cons]; omega
  intro l hl
  unfold turnR at hl
  split at hl
  · rcases List.mem_or_eq_of_mem_set hl with hl | rfl
    · exact Nat.le_succ_of_le (h1 l hl)
    · have := hg _ ((turnK ts i + 1) % 3) h1; simp only [List.length_append, List.length_singleton]; omega
  · exact Nat.le_succ_of_le (h1 l hl)
theorem turnsR_size (ts : List Nat) (a : List Key) : ∀ i, ∀ l ∈ turnsR ts a i, l.length ≤ 2 * i
  | 0, l, h => by simp [turnsR] at h; simp [h]
  | i + 1, l, h => by have := turnR_size ts i _ _ (turnsR_size ts a i) l h; omega
end Go.Proofs.Ytopklnehhebhmaa

/- Three lists in one row, each one's own: one key more ahead of a list, or behind it. -/
namespace Go.Proofs.Ytopklnehhebhmaa
open Go.RowKit

/-- The row of lists lies at g; each list in a block of its own behind it. -/
structure LsM (w : World) (g : Nat) (V : Nat → Value) (ls : List (List Key)) (wr : World) : Prop where
  box : wr.heap[g]? = some (.cells #[V 0, V 1, V 2] 22 (0, 0))
  len : ls.length = 3
  rows : ∀ k, k < 3 → OwnRow wr (g + 1) 9 1 strCell (V k) (ls.getD k [])
  apart : ∀ i j, i < 3 → j < 3 → i ≠ j → ∀ y, (V i).ownBlock = some y → (V j).ownBlock ≠ some y
  below : Below w.heap.size w wr
  ge : w.heap.size ≤ g
theorem LsM.lt {w wr : World} {g : Nat} {V : Nat → Value} {ls : List (List Key)} (h : LsM w g V ls wr) : g < wr.heap.size := (Array.getElem?_eq_some_iff.1 h.box).1
theorem lsM_start (w : World) : LsM w w.heap.size (fun _ => .slice none 0 0) [[], [], []] (w.alloc (.cells #[.slice none 0 0, .slice none 0 0, .slice none 0 0] 22)) where
  box := heap_alloc_new w _
  len := rfl
  rows := fun k hk => by
    have : k = 0 ∨ k = 1 ∨ k = 2 := by omega
    rcases this with rfl | rfl | rfl <;> exact ownRow_nil _ _ _ _ _
  apart := fun _ _ _ _ _ _ h => by cases h
  below := below_alloc1 _ _
  ge := Nat.le_refl _
theorem three_get (V : Nat → Value) {k : Nat} (hk : k < 3) : (#[V 0, V 1, V 2] : Array Value)[k]? = some (V k) := by
  have : k = 0 ∨ k = 1 ∨ k = 2 := by omega
  rcases this with rfl | rfl | rfl <;> rfl
theorem three_set (V : Nat → Value) {k : Nat} (hk : k < 3) (v : Value) : (#[V 0, V 1, V 2] : Array Value).setIfInBounds k v = #[updF V k v 0, updF V k v 1, updF V k v 2] := by
  have : k = 0 ∨ k = 1 ∨ k = 2 := by omega
  rcases this with rfl | rfl | rfl <;> rfl
theorem LsM.later {w wr w1 : World} {g : Nat} {V : Nat → Value} {ls : List (List Key)} (h : LsM w g V ls wr) (hb : Below wr.heap.size wr w1) : LsM w g V ls w1 :=
  ⟨(hb.block _ h.lt).trans h.box, h.len, fun k hk => (h.rows k hk).later hb, h.apart, h.below.trans (hb.mono h.below.size), h.ge⟩
theorem LsM.cell {w wr : World} {g : Nat} {V : Nat → Value} {ls : List (List Key)} (h : LsM w g V ls wr) {k : Nat} (hk : k < 3) : wr.cell? ⟨g, k, none⟩ = some (V k) ∧ wr.frozen? ⟨g, k, none⟩ = false :=
  ⟨by rw [cell_of_row _ _ _ _ _ _ h.box]; exact three_get V hk, by simp [World.frozen?, h.box]⟩
theorem LsM.form {w wr : World} {g : Nat} {V : Nat → Value} {ls : List (List Key)} (h : LsM w g V ls wr) {k : Nat} (hk : k < 3) (hl : (ls.getD k []).length ≤ 1000) : ∃ a c, V k = .slice a (ls.getD k []).length c ∧ RowAt wr a 1 strCell (ls.getD k []) ∧ (a = none → c = 0) := (h.rows k hk).form strCell_len (by omega)
theorem LsM.rowsN {w wr : World} {g : Nat} {V : Nat → Value} {ls : List (List Key)} (h : LsM w g V ls wr) (hl : ∀ l ∈ ls, l.length ≤ 1000) : RowsN wr (some ⟨g, 0, none⟩) ls := fun i hi => by
  have h3 := h.len
  have e : ls.getD i [] = ls[i] := by rw [List.getD_eq_getElem?_getD, List.getElem?_eq_getElem hi]; rfl
  obtain ⟨a, c, e1, e2, e3⟩ := h.form (k := i) (by omega) (by rw [e]; exact hl _ (List.getElem_mem hi))
  rw [e] at e1 e2
  refine ⟨g, 0, a, c, rfl, ?_, e2, e3⟩
  rw [Nat.zero_add, (h.cell (by omega)).1, e1]
theorem setK_get {ls : List (List Key)} {k j : Nat} {m : List Key} (hk : k < ls.length) : (ls.set k m).getD j [] = if j = k then m else ls.getD j [] := by
  rw [List.getD_eq_getElem?_getD, List.getElem?_set]
  by_cases e : k = j
  · subst e; simp [hk]
  · simp [e, Ne.symm e, List.getD_eq_getElem?_getD]
theorem own_block {w : World} {B : Nat} {v : Value} {l : List Key} (h : OwnRow w B 9 1 strCell v l) {y : Nat} (e : v.ownBlock = some y) : B ≤ y ∧ y < w.heap.size := World.ownsRow.lt h y e
/-- A list is laid anew: what else there is stays. -/
theorem LsM.put {w wr w1 : World} {g k : Nat} {V : Nat → Value} {ls : List (List Key)} (h : LsM w g V ls wr) (hk : k < 3) {v : Value} {m : List Key} {B : Nat} (hB : g + 1 ≤ B) (hr : OwnRow w1 B 9 1 strCell v m)
    (hbox : w1.heap[g]? = wr.heap[g]?) (hrows : ∀ j, j < 3 → j ≠ k → OwnRow w1 (g + 1) 9 1 strCell (V j) (ls.getD j [])) (hap : ∀ j, j < 3 → j ≠ k → ∀ y, (V j).ownBlock = some y → v.ownBlock ≠ some y) (hbel : Below w.heap.size w w1) :
    w1.cell? ⟨g, k, none⟩ = some (V k) ∧ w1.frozen? ⟨g, k, none⟩ = false ∧ LsM w g (updF V k v) (ls.set k m) (w1.setCell ⟨g, k, none⟩ v) := by
  have hb1 := hbox.trans h.box
  refine ⟨by rw [cell_of_row _ _ _ _ _ _ hb1]; exact three_get V hk, by simp [World.frozen?, hb1], ?_, by rw [List.length_set]; exact h.len, fun j hj => ?_, fun i j hi hj hij y => ?_, hbel.setCell (p := ⟨g, k, none⟩) h.ge v, h.ge⟩
  · rw [heap_setCell_same _ _ k _ _ _ hb1, three_set V hk]
  · rw [setK_get (by rw [h.len]; exact hk)]
    by_cases e : j = k
    · subst e
      rw [if_pos rfl, updF_same]
      exact ownsRow_setCell_below (a := ⟨g, j, none⟩) (ownsRow_base hr hB) (Nat.lt_succ_self g) v
    · rw [if_neg e, updF_ne _ _ e]
      exact ownsRow_setCell_below (a := ⟨g, k, none⟩) (hrows j hj e) (Nat.lt_succ_self g) v
  · by_cases e1 : i = k
    · subst e1
      rw [updF_same, updF_ne _ _ (Ne.symm hij)]
      intro e2 e3
      exact hap j hj (Ne.symm hij) y e3 e2
    · rw [updF_ne _ _ e1]
      by_cases e2 : j = k
      · subst e2
        rw [updF_same]
        exact hap i hi e1 y
      · rw [updF_ne _ _ e2]
        exact h.apart i j hi hj hij y
theorem own_one1 (w : World) (s : Key) : OwnRow (w.alloc (.cells #[.string ⟨s.toArray⟩] 9)) w.heap.size 9 1 strCell (.slice (some ⟨w.heap.size, 0, none⟩) 1 1) [s] :=
  ⟨rfl, .inr ⟨w.heap.size, 1, #[.string ⟨s.toArray⟩], rfl, Nat.le_refl _, heap_alloc_new w _, Nat.le_refl _, by simp [maxLen], rfl, rfl⟩⟩
/-- One key more ahead of a list: a new row. -/
theorem LsM.front {w wr : World} {g k : Nat} {V : Nat → Value} {ls : List (List Key)} (h : LsM w g V ls wr) (hk : k < 3) (s : Key) :
    ∀ v' w', OwnRow w' wr.heap.size 9 1 strCell v' (s :: ls.getD k []) → Below wr.heap.size (wr.alloc (.cells #[.string ⟨s.toArray⟩] 9)) w' → w'.cell? ⟨g, k, none⟩ = some (V k) ∧ w'.frozen? ⟨g, k, none⟩ = false ∧ LsM w g (updF V k v') (ls.set k (s :: ls.getD k [])) (w'.setCell ⟨g, k, none⟩ v') := by
  intro v' w' hr hb
  have hb2 : Below wr.heap.size wr w' := (below_alloc1 wr _).trans hb
  refine h.put hk (B := wr.heap.size) h.lt hr (hb2.block _ h.lt) (fun j hj _ => (h.rows j hj).later hb2) (fun j hj hne y e1 e2 => ?_) (h.below.trans (hb2.mono h.below.size))
  have h1 := (own_block hr e2).1
  have h2 := (own_block (h.rows j hj) e1).2
  omega
/-- One key more behind a list: in place, or moved. -/
theorem LsM.back {w wr : World} {g k : Nat} {V : Nat → Value} {ls : List (List Key)} (h : LsM w g V ls wr) (hk : k < 3) (s : Key) :
    ∀ v' w', OwnRow w' (g + 1) 9 1 strCell v' (ls.getD k [] ++ [s]) → (wr.alloc (.cells #[.string ⟨s.toArray⟩] 9)).grownBy w' (V k).ownBlock → (v'.ownBlock = (V k).ownBlock ∨ v'.ownBlock = some (wr.alloc (.cells #[.string ⟨s.toArray⟩] 9)).heap.size) → w'.cell? ⟨g, k, none⟩ = some (V k) ∧ w'.frozen? ⟨g, k, none⟩ = false ∧ LsM w g (updF V k v') (ls.set k (ls.getD k [] ++ [s])) (w'.setCell ⟨g, k, none⟩ v') := by
  intro v' w' hr hg hv
  have h1 := h.later (below_alloc1 wr (.cells #[.string ⟨s.toArray⟩] 9))
  generalize wr.alloc (.cells #[.string ⟨s.toArray⟩] 9) = W1 at *
  have hb2 : Below (g + 1) W1 w' := (Below.refl _ W1).grown hg h1.lt fun y e => (own_block (h1.rows k hk) e).1
  refine h1.put hk (B := g + 1) (Nat.le_refl _) hr (hb2.block _ (Nat.lt_succ_self _)) (fun j hj hne => (h1.rows j hj).keepQ fun y e => ?_) (fun j hj hne y e1 e2 => ?_) (h1.below.trans (hb2.mono (by have := h1.ge; omega)))
  · exact hg.block y (own_block (h1.rows j hj) e).2 fun e2 => h1.apart j k hj hk hne y e e2.symm
  · rcases hv with hv | hv
    · rw [hv] at e2
      exact h1.apart j k hj hk hne y e1 e2
    · rw [hv] at e2
      injection e2 with e2
      have := (own_block (h1.rows j hj) e1).2
      omega
theorem wpl_appendAt {P : Program} {T : Type} {f : T → List Value} {n : Nat} {w : World} {ops : Array Oper} {rest : List Oper} {o : Oper} {a : Act} {Q : Exit → Act → World → Prop} (st et : TypeId) (bytes : Nat) (z : Value) (hu : P.underlying st = some (.slice et))
    (hinfo : (P.info? et).map (fun i => (i.zero, i.size, i.bytes)) = some (some z, n, bytes)) (hz : z.cells.size = n) (hn : 0 < n) (hby : bytes ≤ 1000) (hf : ∀ x, (f x).length = n) (hgd : o.guard = none)
    (s x : Operand) (ho : o.op = .call { callee := .builtin .append, args := #[s, x], argTypes := #[st, st] }) (B : Nat) (v : Value) (l : List T) (hs : a.eval s = v) (hown : OwnRow w B et n f v l)
    (ad : Addr) (hx : a.eval x = .slice (some ad) 1 1) (e : T) (h1 : ∀ v ∈ f e, v.oneCell' = true) (hnews : ∀ j u, (f e)[j]? = some u → w.cell? (ad.add j) = some u) (hlen : l.length ≤ 1000000) (hB : B ≤ w.heap.size)
    (h : ∀ v' w', OwnRow w' B et n f v' (l ++ [e]) → Below B w w' → w.grownBy w' v.ownBlock → (v'.ownBlock = v.ownBlock ∨ v'.ownBlock = some w.heap.size) → wpList P ops Q rest (a.put o.dst v') w') : wpList P ops Q (o :: rest) a w :=
  wpList_plain hgd fun _ hK => wp_appendAt st et bytes z hu hinfo hz hn hby hf s x ho B v l hs hown ad hx e h1 hnews hlen hB fun v' w' h1 h2 h3 h4 => hK _ _ (h v' w' h1 h2 h3 h4)
end Go.Proofs.Ytopklnehhebhmaa

/- The law ReportMerges, walked. -/
namespace Go.Proofs.Ytopklnehhebhmaa
open Go.RowKit

theorem byCell_at {w : World} {a : Option Addr} {ts : List Nat} (h : RowAt w a 1 byCell ts) {j : Nat} (hj : j < ts.length) : ∃ b o, a = some ⟨b, o, none⟩ ∧ w.cell? ⟨b, o + j, none⟩ = some (.int .u8 (ts[j] : Nat)) := by
  obtain ⟨b, o, rfl, hc⟩ := h.2 (by intro e; simp [e] at hj)
  have h1 := hc j hj 0 _ rfl
  rw [Nat.mul_one, Nat.add_zero] at h1
  exact ⟨b, o, rfl, h1⟩
/-- Three boxes, one behind the other. -/
theorem boxes3 (w : World) (ty : TypeId) (x0 x1 y0 y1 z0 z1 : Value) : (((w.alloc (.cells #[x0, x1] ty)).alloc (.cells #[y0, y1] ty)).alloc (.cells #[z0, z1] ty)).cell? ⟨w.heap.size, 0, none⟩ = some x0 ∧ (((w.alloc (.cells #[x0, x1] ty)).alloc (.cells #[y0, y1] ty)).alloc (.cells #[z0, z1] ty)).cell? ⟨w.heap.size, 1, none⟩ = some x1 ∧ (((w.alloc (.cells #[x0, x1] ty)).alloc (.cells #[y0, y1] ty)).alloc (.cells #[z0, z1] ty)).cell? ⟨w.heap.size + 1, 0, none⟩ = some y0 ∧
    (((w.alloc (.cells #[x0, x1] ty)).alloc (.cells #[y0, y1] ty)).alloc (.cells #[z0, z1] ty)).cell? ⟨w.heap.size + 1 + 1, 0, none⟩ = some z0 ∧ (((w.alloc (.cells #[x0, x1] ty)).alloc (.cells #[y0, y1] ty)).alloc (.cells #[z0, z1] ty)).cell? ⟨w.heap.size + 1 + 1, 1, none⟩ = some z1 := by
  have h1 := below_alloc2 (w.alloc (.cells #[x0, x1] ty)) (.cells #[y0, y1] ty) (.cells #[z0, z1] ty)
  have h2 := below_alloc1 ((w.alloc (.cells #[x0, x1] ty)).alloc (.cells #[y0, y1] ty)) (.cells #[z0, z1] ty)
  have s1 : (w.alloc (.cells #[x0, x1] ty)).heap.size = w.heap.size + 1 := World.size_alloc _ _
  have s2 : ((w.alloc (.cells #[x0, x1] ty)).alloc (.cells #[y0, y1] ty)).heap.size = w.heap.size + 1 + 1 := by rw [World.size_alloc, World.size_alloc]
  refine ⟨cell_later h1 (by simp), cell_later h1 (by simp), cell_later h2 ?_, ?_, ?_⟩
  · rw [← s1]; simp
  · rw [← s2, World.cell?_alloc_new]; rfl
  · rw [← s2, World.cell?_alloc_new]; rfl
theorem turnR_no {ts : List Nat} {i : Nat} {s : Key} {ls : List (List Key)} (h : ts.length ≤ i) : turnK ts i = 0 ∧ turnR ts i s ls = ls.set 0 (s :: ls.getD 0 []) := by
  have e : turnK ts i = 0 := by unfold turnK; rw [if_neg (by omega)]
  refine ⟨e, ?_⟩
  unfold turnR
  rw [if_neg (fun h2 => by have := h2.1; omega), e]
theorem turnR_yes {ts : List Nat} {i : Nat} {s : Key} {ls : List (List Key)} (h : i < ts.length) : turnK ts i = ts[i] % 3 ∧ turnR ts i s ls = if 128 < ts[i] then (ls.set (ts[i] % 3) (s :: ls.getD (ts[i] % 3) [])).set ((ts[i] % 3 + 1) % 3) ((ls.set (ts[i] % 3) (s :: ls.getD (ts[i] % 3) [])).getD ((ts[i] % 3 + 1) % 3) [] ++ [s]) else ls.set (ts[i] % 3) (s :: ls.getD (ts[i] % 3) []) := by
  have g : ts.getD i 0 = ts[i] := by rw [List.getD_eq_getElem?_getD, List.getElem?_eq_getElem h]; rfl
  have e : turnK ts i = ts[i] % 3 := by unfold turnK; rw [if_pos h, g]
  refine ⟨e, ?_⟩
  unfold turnR
  rw [e, g]
  by_cases h2 : 128 < ts[i]
  · rw [if_pos ⟨h, h2⟩, if_pos h2]
  · rw [if_neg (fun h3 => h2 h3.2), if_neg h2]

set_option maxRecDepth 100000 in
set_option maxHeartbeats 16000000 in
theorem reportMerges_any (a : Option Addr) (ks : List Key) (cap : Nat) (b : Option Addr) (ls : List Key) (dap : Nat) (ta : Option Addr) (ts : List Nat) (tc : Nat) (w : World) (hk : RowAt w a 1 strCell ks) (hcap : a = none → cap = 0) (hl : RowAt w b 1 strCell ls) (hdap : b = none → dap = 0) (ht : RowAt w ta 1 byCell ts) (htb : ∀ y ∈ ts, y < 256) :
    Calls Try.prog 4 #[.slice a ks.length cap, .slice b ls.length dap, .slice ta ts.length tc] w fun r w' => r = .returned (.bool true) ∧ Below w.heap.size w w' := by
  have HK := Lib.hid hk
  have HL := Lib.hid hl
  have HT := Lib.hid ht
  have HTB := Lib.hid htb
  have htm := ht.1
  unfold maxLen at htm
  have HF := Lib.hid fun W hW => few15_any a cap ks W (hk.later hW) hk.1
  have HG := Lib.hid fun W hW => few15_any b dap ls W (hl.later hW) hl.1
  clear hk hl ht htb
  go_enter Try.func4, Try.ntmps4
  go_wp2_with fail
  refine (awake15_any w).mono ?_
  rintro r w1 ⟨rfl, hb1⟩
  go_wp2_with fail
  refine (HF.out _ hb1).mono ?_
  rintro r w2 ⟨rfl, hb2⟩
  have hb := hb1.trans (hb2.mono hb1.size)
  clear hb1 hb2 HF
  cases hf : fewK ks
  · clear hf
    go_wp2_with fail
    refine (awake15_any _).mono ?_
    rintro r w3 ⟨rfl, hb3⟩
    go_wp2
    go_ret
    exact ⟨rfl, hb.trans (hb3.mono hb.size)⟩
  obtain ⟨hkl, hkk⟩ := fewK_yes hf
  have HKK : Hid (∀ k ∈ ks, k.length ≤ 1000) := fun k h => Nat.le_trans (hkk k h) (by omega)
  clear hf hkk
  go_wp2_with fail
  refine (HG.out _ hb).mono ?_
  rintro r w3 ⟨rfl, hb3⟩
  have hbc := hb.trans (hb3.mono hb.size)
  clear hb hb3 HG
  cases hf : fewK ls
  · clear hf
    go_wp2_with fail
    refine (awake15_any _).mono ?_
    rintro r w3 ⟨rfl, hb3⟩
    go_wp2
    go_ret
    exact ⟨rfl, hbc.trans (hb3.mono hbc.size)⟩
  obtain ⟨hll, hlk⟩ := fewK_yes hf
  have HLK : Hid (∀ k ∈ ls, k.length ≤ 1000) := fun k h => Nat.le_trans (hlk k h) (by omega)
  clear hf hlk
  by_cases ht100 : 100 < ts.length
  · have hq : decide ((100 : Int) < (ts.length : Int)) = true := by simp; omega
    go_wp2_with fail
    refine (awake15_any _).mono ?_
    rintro r w3 ⟨rfl, hb3⟩
    go_wp2
    go_ret
    exact ⟨rfl, hbc.trans (hb3.mono hbc.size)⟩
  have hq : decide ((100 : Int) < (ts.length : Int)) = false := by simp; omega
  have HB3 := Lib.hid hbc
  have HK3 := Lib.hid (HK.out.later hbc)
  have HL3 := Lib.hid (HL.out.later hbc)
  have HT3 := Lib.hid (HT.out.later hbc)
  have HM0 := Lib.hid (lsM_start w3)
  clear hbc HK HL HT
  go_wp2_with fail
  clear hq
  go_loopw [37] (fun i wr => ∃ (k : Nat) (V : Nat → Value), k ≤ ks.length ∧ i = .int .i64 k ∧ Hid (LsM w3 w3.heap.size V (turnsR ts ks k) wr)) (fun i _ => ks.length - (intOf i).toNat)
  case atStart => exact ⟨0, _, Nat.zero_le _, rfl, HM0.out⟩
  case round =>
    clear HM0
    obtain ⟨i, V, hi, rfl, HM⟩ := hrel
    by_cases hlt : i < ks.length
    · obtain ⟨kb, ko, rfl, z0⟩ := (HK3.out.later HM.out.below).str hlt
      have hstep : turnsR ts ks (i + 1) = turnR ts i ks[i] (turnsR ts ks i) := by
        rw [turnsR, List.getD_eq_getElem?_getD, List.getElem?_eq_getElem hlt]; rfl
      have hsize := turnsR_size ts ks i
      have hln := turnsR_len ts ks i
      have HST := Lib.hid hstep
      have HSZ : Hid (∀ k, k < 3 → ((turnsR ts ks i).getD k []).length ≤ 120) := fun k hk => by
        rw [List.getD_eq_getElem?_getD, List.getElem?_eq_getElem (by omega)]
        have := hsize _ (List.getElem_mem (show k < (turnsR ts ks i).length by omega))
        show (turnsR ts ks i)[k].length ≤ 120
        omega
      have HNX : Hid (∀ wr2 V2 L, LsM w3 w3.heap.size V2 L wr2 → turnR ts i ks[i] (turnsR ts ks i) = L → LsM w3 w3.heap.size V2 (turnsR ts ks (i + 1)) wr2) := fun wr2 V2 L h e => by rw [HST.out, e]; exact h
      clear hstep hsize hln HST
      generalize ks[i] = s at *
      generalize turnsR ts ks i = M at *
      by_cases hit : i < ts.length
      case neg =>
        have hq : decide ((i : Int) < (ts.length : Int)) = false := by simp; omega
        have HTU := Lib.hid (turnR_no (s := s) (ls := M) (show ts.length ≤ i by omega)).2
        obtain ⟨va, vc, hv, hrow, hnn⟩ := HM.out.form (k := 0) (by omega) (by have := HSZ.out 0 (by omega); omega)
        have hc0 := (HM.out.cell (k := 0) (by omega)).1
        have hfr := HM.out.front (k := 0) (by omega) s
        have HFR := Lib.hid hfr
        rw [hv] at hc0
        have hc1 := cell_later (below_alloc1 wr (.cells #[.string ⟨s.toArray⟩] 9)) hc0
        have HRW := Lib.hid (hrow.later (below_alloc1 wr (.cells #[.string ⟨s.toArray⟩] 9)))
        have HRN : Hid (va = none → vc = 0 ∧ M.getD 0 [] = []) := fun e => ⟨hnn e, by rw [e] at hrow; exact row_none hrow⟩
        have HOW := Lib.hid (own_one1 wr s)
        have hml := HSZ.out 0 (by omega)
        clear hfr hrow hnn
        rw [hv] at HFR
        generalize M.getD 0 [] = m at *
        go_wp2_with (at_builtin; refine wpl_copyR (f := strCell) (n := 1) 22 9 16 (.string ByteArray.empty) Try.underlying22 infoStr rfl (by omega) (by omega) strCell_len strCell_one rfl _ _ rfl wr.heap.size _ [s] rfl HOW.out va vc m rfl HRW.out HRN.out (by simp; omega) (below_alloc1 wr _).size ?_; intro v4 w4 h3 hb3 _; obtain ⟨ca, cc, hv3, _, _⟩ := h3.form strCell_len (by simp; omega); rw [List.singleton_append, List.length_cons] at hv3; subst hv3; obtain ⟨q0, q1, q2⟩ := HFR.out _ _ h3 hb3; have HQ := Lib.hid (HNX.out _ _ _ q2 HTU.out); clear q2 h3 hb3)
        go_roundw
        case rel => exact ⟨i + 1, _, by omega, by go_num, HQ.out⟩
        case measure => simp [intOf]; omega
      obtain ⟨tb, to', rfl, t0⟩ := byCell_at (HT3.out.later HM.out.below) hit
      have HTC : Hid (∀ W, Below w3.heap.size w3 W → W.cell? ⟨tb, to' + i, none⟩ = some (.int .u8 (ts[i] : Nat))) := fun W hW => by
        obtain ⟨_, _, e, e2⟩ := byCell_at (HT3.out.later hW) hit
        cases e
        exact e2
      have hq : decide ((i : Int) < (ts.length : Int)) = true := by simp; omega
      have hit1 : (i : Int) < (ts.length : Int) := by omega
      have htl := HTB.out _ (List.getElem_mem hit)
      have HTU := Lib.hid (turnR_yes (s := s) (ls := M) hit).2
      generalize ts[i] = t at *
      have hm3 : t % 3 < 3 := Nat.mod_lt _ (by omega)
      have vt : IntKind.i64.wrap (t : Int) = t := IntWalk.i64_in _ (by omega)
      have hmod : (t : Int) % 3 = ((t % 3 : Nat) : Int) := by omega
      have hn3 : (t % 3 + 1) % 3 < 3 := Nat.mod_lt _ (by omega)
      have vk : IntKind.i64.wrap (((t % 3 : Nat) : Int) + 1) = ((t % 3 : Nat) : Int) + 1 := IntWalk.i64_in _ (by omega)
      have hmod2 : (((t % 3 : Nat) : Int) + 1) % 3 = (((t % 3 + 1) % 3 : Nat) : Int) := by omega
      have HNE : Hid ((t % 3 + 1) % 3 ≠ t % 3) := by show _ ≠ _; omega
      generalize (t % 3 + 1) % 3 = kn at *
      generalize t % 3 = kk at *
      have hkk : (kk : Int) < 3 := by omega
      have hkk0 : (0 : Int) ≤ kk := by omega
      have hkn : (kn : Int) < 3 := by omega
      have hkn0 : (0 : Int) ≤ kn := by omega
      obtain ⟨va, vc, hv, hrow, hnn⟩ := HM.out.form hm3 (by have := HSZ.out kk hm3; omega)
      have hc0 := (HM.out.cell hm3).1
      have hfr := HM.out.front hm3 s
      rw [hv] at hc0
      have hc1 := cell_later (below_alloc1 wr (.cells #[.string ⟨s.toArray⟩] 9)) hc0
      have HRW := Lib.hid (hrow.later (below_alloc1 wr (.cells #[.string ⟨s.toArray⟩] 9)))
      have HRN : Hid (va = none → vc = 0 ∧ M.getD kk [] = []) := fun e => ⟨hnn e, by rw [e] at hrow; exact row_none hrow⟩
      have HOW := Lib.hid (own_one1 wr s)
      have hml := HSZ.out kk hm3
      have HS2 : Hid (((M.set kk (s :: M.getD kk [])).getD kn []).length ≤ 200) := by
        show _ ≤ _
        rw [setK_get (by rw [HM.out.len]; exact hm3), if_neg HNE.out]
        exact Nat.le_trans (HSZ.out kn hn3) (by omega)
      obtain ⟨M1, hM1⟩ : ∃ M1, M1 = M.set kk (s :: M.getD kk []) := ⟨_, rfl⟩
      rw [← hM1] at HS2 hfr
      have htu := HTU.out
      rw [← hM1] at htu
      rw [hv] at hfr
      have HFR := Lib.hid hfr
      clear hfr hrow hnn hM1 HTU
      have hgw := HM.out.lt
      generalize M.getD kk [] = m at *
      by_cases h128 : 128 < t
      · rw [if_pos h128] at htu
        have HTU := Lib.hid htu
        have hd : decide ((128 : Int) < (t : Int)) = true := by simp; omega
        clear htu
        go_wp2_with (first
          | (at_builtin; refine wpl_appendAt (f := strCell) (n := 1) 22 9 16 (.string ByteArray.empty) Try.underlying22 infoStr rfl (by omega) (by omega) strCell_len rfl _ _ rfl (w3.heap.size + 1) _ m2 rfl HOW2.out ⟨w4.heap.size, 0, none⟩ rfl s (strCell_one _) (cells_new _ (strCell s) _ _ (by simp)) (by omega) hz2 ?_; intro v5 w5 h5 _ hg5 hv5; obtain ⟨g5, cap5, hv6, _, _⟩ := OwnRow.block h5 (by simp); rw [List.length_append, List.length_singleton] at hv6; subst hv6; obtain ⟨p0, p1, p2⟩ := HBK.out _ _ h5 hg5 hv5; have HQ := Lib.hid (HNX.out _ _ _ p2 HTU2.out); clear p2 h5 hg5 hv5)
          | (at_builtin; refine wpl_copyR (f := strCell) (n := 1) 22 9 16 (.string ByteArray.empty) Try.underlying22 infoStr rfl (by omega) (by omega) strCell_len strCell_one rfl _ _ rfl wr.heap.size _ [s] rfl HOW.out va vc m rfl HRW.out HRN.out (by simp; omega) (below_alloc1 wr _).size ?_; intro v4 w4 h3 hb3 _; obtain ⟨ca, cc, hv3, _, _⟩ := h3.form strCell_len (by simp; omega); rw [List.singleton_append, List.length_cons] at hv3; subst hv3; obtain ⟨q0, q1, q2⟩ := HFR.out _ _ h3 hb3; obtain ⟨ea, ec, he, _, _⟩ := q2.form hn3 (by have := HS2.out; omega); have e0 := (q2.cell hn3).1; have hlow := (q2.later (below_alloc1 _ (.cells #[.string ⟨s.toArray⟩] 9))).rows kn hn3; have hbk := q2.back hn3 s; rw [he] at e0 hlow hbk; have e1 := cell_later (below_alloc1 _ (.cells #[.string ⟨s.toArray⟩] 9)) e0; have hz2 := (q2.later (below_alloc1 _ (.cells #[.string ⟨s.toArray⟩] 9))).lt; have HOW2 := Lib.hid hlow; have HBK := Lib.hid hbk; have HTU2 := HTU; have hm2 := HS2.out; generalize M1.getD kn [] = m2 at *; have t1 := HTC.out _ q2.below; clear q2 h3 hb3 hlow hbk he))
        go_roundw
        case rel => exact ⟨i + 1, _, by omega, by go_num, HQ.out⟩
        case measure => simp [intOf]; omega
      · rw [if_neg h128] at htu
        have HTU := Lib.hid htu
        have hd : decide ((128 : Int) < (t : Int)) = false := by simp; omega
        clear htu
        go_wp2_with (at_builtin; refine wpl_copyR (f := strCell) (n := 1) 22 9 16 (.string ByteArray.empty) Try.underlying22 infoStr rfl (by omega) (by omega) strCell_len strCell_one rfl _ _ rfl wr.heap.size _ [s] rfl HOW.out va vc m rfl HRW.out HRN.out (by simp; omega) (below_alloc1 wr _).size ?_; intro v4 w4 h3 hb3 _; obtain ⟨ca, cc, hv3, _, _⟩ := h3.form strCell_len (by simp; omega); rw [List.singleton_append, List.length_cons] at hv3; subst hv3; obtain ⟨q0, q1, q2⟩ := HFR.out _ _ h3 hb3; have t1 := HTC.out _ q2.below; have HQ := Lib.hid (HNX.out _ _ _ q2 HTU.out); clear q2 h3 hb3)
        go_roundw
        case rel => exact ⟨i + 1, _, by omega, by go_num, HQ.out⟩
        case measure => simp [intOf]; omega
    · obtain rfl : i = ks.length := by omega
      have hrn := HM.out.rowsN (fun l hl => by have := turnsR_size ts ks ks.length l hl; omega)
      have hbw := HM.out.below
      have hll3 := turnsR_len ts ks ks.length
      have HKW := Lib.hid (HK3.out.later hbw)
      have HLW := Lib.hid (HL3.out.later hbw)
      have HBW := Lib.hid (HB3.out.trans (hbw.mono HB3.out.size))
      have hflat : (turnsR ts ks ks.length).flatten.length ≤ 1000 := by
        have hsz := turnsR_size ts ks ks.length
        generalize turnsR ts ks ks.length = M at *
        match M, hll3, hsz with
        | [m0, m1, m2], _, hsz =>
          have h0 := hsz m0 (by simp)
          have h1 := hsz m1 (by simp)
          have h2 := hsz m2 (by simp)
          simp only [List.flatten_cons, List.flatten_nil, List.length_append, List.length_nil]
          omega
      have hfk : ∀ k ∈ (turnsR ts ks ks.length).flatten, k.length ≤ 1000 := fun k hk => by
        have := (turnsR_mem ts ks k ks.length (Nat.le_refl _)).1 hk
        rw [List.take_length] at this
        exact HKK.out k this
      have HMY : Hid (∀ W, Below wr.heap.size wr W → Calls Try.prog 15 #[.bool true, .slice (some ⟨w3.heap.size, 0, none⟩) 3 3] W (MgdR true (sortK ks) W)) := fun W hW => by
        have h := merge15_any true (some ⟨w3.heap.size, 0, none⟩) 3 (turnsR ts ks ks.length) W (hrn.later hW) (by omega) (by omega) (fun k hk => by have := hfk k hk; omega)
        rw [turnsR_merge, mergeR_one, hll3] at h
        exact h.mono fun r w' h => mg_of (by have := sortK_len ks; omega) (Below.refl _ _) h
      obtain ⟨hsl, hsk⟩ := sortK_short (n := 60) hkl HKK.out
      obtain ⟨htl, htk⟩ := sortK_short (n := 60) hll HLK.out
      have HSK := Lib.hid hsk
      have HTK := Lib.hid htk
      have HM1 := Lib.hid (mg_one true HKW.out hcap (by omega) HKK.out)
      clear HM hrn hbw hll3 hflat hfk hsk htk HB3 HK3 HL3 HT3 HTB
      go_wp2_with fail
      refine HM1.out.mono ?_
      rintro r w4 ⟨xa, xc, rfl, hx4, _, hb4⟩
      have HX4 := Lib.hid hx4
      have HB4 := Lib.hid hb4
      clear HM1 hx4 hb4
      go_wp2_with fail
      refine (HMY.out _ HB4.out).mono ?_
      rintro r w5 ⟨ya, yc, rfl, hy5, _, hb5⟩
      have hb6 := HB4.out.trans (hb5.mono HB4.out.size)
      have HX5 := Lib.hid (HX4.out.later hb5)
      have HY5 := Lib.hid hy5
      have HB5 := Lib.hid hb6
      have HM3 := Lib.hid (mg_one true (HLW.out.later hb6) hdap (by omega) HLK.out)
      clear HMY HX4 HB4 hy5 hb5 hb6
      go_wp2_with fail
      refine HM3.out.mono ?_
      rintro r w6 ⟨za, zc, rfl, hz6, _, hb6⟩
      have hba := below_alloc2 w6 (.cells #[.slice xa (sortK ks).length xc, .bool true] 26) (.cells #[.slice ya (sortK ks).length yc, .bool true] 26)
      have hbb := hba.alloc hba.size (.cells #[.slice za (sortK ls).length zc, .bool true] 26)
      have hb7 := hb6.trans (hbb.mono hb6.size)
      have hb8 := HB5.out.trans (hb7.mono HB5.out.size)
      have HX7 := Lib.hid (HX5.out.later hb7)
      have HY7 := Lib.hid (HY5.out.later hb7)
      have HZ7 := Lib.hid (hz6.later hbb)
      have HK7 := Lib.hid (HKW.out.later hb8)
      have HL7 := Lib.hid (HLW.out.later hb8)
      have HB7 := Lib.hid (HBW.out.trans (hb8.mono HBW.out.size))
      obtain ⟨c0, c1, c2, c3, c4⟩ := boxes3 w6 26 (.slice xa (sortK ks).length xc) (.bool true) (.slice ya (sortK ks).length yc) (.bool true) (.slice za (sortK ls).length zc) (.bool true)
      have HR1 := rg_one (w := ((w6.alloc (.cells #[.slice xa (sortK ks).length xc, .bool true] 26)).alloc (.cells #[.slice ya (sortK ks).length yc, .bool true] 26)).alloc (.cells #[.slice za (sortK ls).length zc, .bool true] 26)) true HK7.out hcap (by omega)
      rw [World.size_alloc, World.size_alloc, World.size_alloc] at HR1
      have HR1 := Lib.hid HR1
      clear HM3 HX5 HY5 hz6 HKW HLW HBW HB5 hb6 hba hbb hb7 hb8
      go_wp2_with fail
      refine HR1.out.mono ?_
      rintro r w8 ⟨wa, wc, rfl, hw8, hb8⟩
      have HR2 := Lib.hid (rg_one true (HL7.out.later hb8) hdap (by omega))
      have HB8 := Lib.hid hb8
      have HW8 := Lib.hid hw8
      clear HR1 hb8 hw8
      go_wp2_with fail
      refine HR2.out.mono ?_
      rintro r w9 ⟨va, vc, rfl, hv9, hb9⟩
      have hb10 := HB8.out.trans (hb9.mono HB8.out.size)
      have hba := below_alloc2 w9 (.cells #[.slice wa (sortK ks).length wc, .bool true] 28) (.cells #[.slice va (sortK ls).length vc, .bool true] 28)
      have hb11 := hb10.trans (hba.mono hb10.size)
      have HX := Lib.hid (HX7.out.later hb11)
      have HY := Lib.hid (HY7.out.later hb11)
      have HZ := Lib.hid (HZ7.out.later hb11)
      have HW := Lib.hid ((HW8.out.later hb9).later hba)
      have HV := Lib.hid (hv9.later hba)
      have HBZ := Lib.hid (HB7.out.trans (hb11.mono HB7.out.size))
      have d0 : ((w9.alloc (.cells #[.slice wa (sortK ks).length wc, .bool true] 28)).alloc (.cells #[.slice va (sortK ls).length vc, .bool true] 28)).cell? ⟨w9.heap.size, 0, none⟩ = some (.slice wa (sortK ks).length wc) := by simp
      have d1 : ((w9.alloc (.cells #[.slice wa (sortK ks).length wc, .bool true] 28)).alloc (.cells #[.slice va (sortK ls).length vc, .bool true] 28)).cell? ⟨w9.heap.size + 1, 0, none⟩ = some (.slice va (sortK ls).length vc) := by simp
      have HCEL : Hid (∀ W, Below ((w9.alloc (.cells #[.slice wa (sortK ks).length wc, .bool true] 28)).alloc (.cells #[.slice va (sortK ls).length vc, .bool true] 28)).heap.size ((w9.alloc (.cells #[.slice wa (sortK ks).length wc, .bool true] 28)).alloc (.cells #[.slice va (sortK ls).length vc, .bool true] 28)) W → (W.cell? ⟨w6.heap.size, 0, none⟩ = some (.slice xa (sortK ks).length xc) ∧ W.cell? ⟨w6.heap.size, 1, none⟩ = some (.bool true)) ∧ W.cell? ⟨w6.heap.size + 1, 0, none⟩ = some (.slice ya (sortK ks).length yc) ∧ (W.cell? ⟨w6.heap.size + 1 + 1, 0, none⟩ = some (.slice za (sortK ls).length zc) ∧ W.cell? ⟨w6.heap.size + 1 + 1, 1, none⟩ = some (.bool true)) ∧ W.cell? ⟨w9.heap.size, 0, none⟩ = some (.slice wa (sortK ks).length wc) ∧ W.cell? ⟨w9.heap.size + 1, 0, none⟩ = some (.slice va (sortK ls).length vc)) := fun W hW =>
        have hv := hb11.trans (hW.mono hb11.size)
        ⟨⟨cell_later hv c0, cell_later hv c1⟩, cell_later hv c2, ⟨cell_later hv c3, cell_later hv c4⟩, cell_later hW d0, cell_later hW d1⟩
      clear c0 c1 c2 c3 c4 d0 d1 hb9 hb10 hb11 hba hv9 HR2 HB7 HX7 HY7 HZ7 HK7 HL7 HB8 HW8
      go_wp2_with fail
      have HRA : Hid (∀ W, RowAt W xa 1 strCell (sortK ks) → Calls Try.prog 12 #[.agg #[.slice xa (sortK ks).length xc, .bool true]] W fun r w' => r = .returned (.bool (rightR isK (sortK ks))) ∧ Below W.heap.size W w') := fun W h => right15_any xa xc (sortK ks) true W h (by omega) (fun k hk => by have := HSK.out k hk; omega)
      have HRB : Hid (∀ W, RowAt W za 1 strCell (sortK ls) → Calls Try.prog 12 #[.agg #[.slice za (sortK ls).length zc, .bool true]] W fun r w' => r = .returned (.bool (rightR isK (sortK ls))) ∧ Below W.heap.size W w') := fun W h => right15_any za zc (sortK ls) true W h (by omega) (fun k hk => by have := HTK.out k hk; omega)
      have HPA : Hid (∀ W, RowAt W xa 1 strCell (sortK ks) → Calls Try.prog 8 #[.agg #[.slice xa (sortK ks).length xc, .bool true]] W fun r w' => r = .returned (.string ⟨(printR isK (sortK ks) true).toArray⟩) ∧ Below W.heap.size W w') := fun W h => print15_any xa xc (sortK ks) true W h (by omega) HSK.out
      have HPB : Hid (∀ W, RowAt W za 1 strCell (sortK ls) → Calls Try.prog 8 #[.agg #[.slice za (sortK ls).length zc, .bool true]] W fun r w' => r = .returned (.string ⟨(printR isK (sortK ls) true).toArray⟩) ∧ Below W.heap.size W w') := fun W h => print15_any za zc (sortK ls) true W h (by omega) HTK.out
      have HINJ : Hid (sortK ks ≠ sortK ls → rightR isK (sortK ks) = true → rightR isK (sortK ls) = true → (printR isK (sortK ks) true == printR isK (sortK ls) true) = false) := fun hne h1 h2 => by
        rw [beq_eq_false_iff_ne]
        exact fun e => hne (printR_inj h1 h2 (fun k hk => by have := HSK.out k hk; omega) (fun k hk => by have := HTK.out k hk; omega) e).1
      clear HSK HTK
      generalize printR isK (sortK ks) true = P1 at *
      generalize printR isK (sortK ls) true = P2 at *
      generalize rightR isK (sortK ks) = R1 at *
      generalize rightR isK (sortK ls) = R2 at *
      generalize sortK ks = SA at *
      generalize sortK ls = SB at *
      generalize w6.heap.size = Bx at *
      generalize w9.heap.size = Bw at *
      generalize (w9.alloc (.cells #[.slice wa SA.length wc, .bool true] 28)).alloc (.cells #[.slice va SB.length vc, .bool true] 28) = W8 at *
      have hB0 : Below W8.heap.size W8 W8.drew := (Below.refl _ _).drew
      have hS0 := HCEL.out _ hB0
      have HS := HCEL
      have HS1 : Hid (∀ W, Below W8.heap.size W8 W → Calls Try.prog 14 #[.slice xa SA.length xc, .slice wa SA.length wc] W fun r w' => r = .returned (.bool true) ∧ Below W.heap.size W w') := fun W hW =>
        (sameK_any xa wa xc wc SA SA W (HX.out.later hW) (HW.out.later hW) (by omega) (by omega)).mono fun r w' h => ⟨by rw [h.1]; simp, h.2⟩
      have HS2 : Hid (∀ W, Below W8.heap.size W8 W → Calls Try.prog 14 #[.slice ya SA.length yc, .slice wa SA.length wc] W fun r w' => r = .returned (.bool true) ∧ Below W.heap.size W w') := fun W hW =>
        (sameK_any ya wa yc wc SA SA W (HY.out.later hW) (HW.out.later hW) (by omega) (by omega)).mono fun r w' h => ⟨by rw [h.1]; simp, h.2⟩
      have HS3 : Hid (∀ W, Below W8.heap.size W8 W → Calls Try.prog 14 #[.slice za SB.length zc, .slice va SB.length vc] W fun r w' => r = .returned (.bool true) ∧ Below W.heap.size W w') := fun W hW =>
        (sameK_any za va zc vc SB SB W (HZ.out.later hW) (HV.out.later hW) (by omega) (by omega)).mono fun r w' h => ⟨by rw [h.1]; simp, h.2⟩
      have HS4' : Hid (∀ W, Below W8.heap.size W8 W → Calls Try.prog 14 #[.slice xa SA.length xc, .slice za SB.length zc] W fun r w' => r = .returned (.bool (decide (SA = SB))) ∧ Below W.heap.size W w') := fun W hW => sameK_any xa za xc zc SA SB W (HX.out.later hW) (HZ.out.later hW) (by omega) (by omega)
      have HRX : Hid (∀ W, Below W8.heap.size W8 W → _) := fun W hW => HRA.out W (HX.out.later hW)
      have HRZ : Hid (∀ W, Below W8.heap.size W8 W → _) := fun W hW => HRB.out W (HZ.out.later hW)
      have HPX : Hid (∀ W, Below W8.heap.size W8 W → _) := fun W hW => HPA.out W (HX.out.later hW)
      have HPZ : Hid (∀ W, Below W8.heap.size W8 W → _) := fun W hW => HPB.out W (HZ.out.later hW)
      clear HCEL HRA HRB HPA HPB HX HY HZ HW HV
      by_cases hsame : SA = SB
      case' pos =>
        have HS4 := HS4'
        rw [decide_eq_true hsame] at HS4
        clear HS4' hsame HINJ HRX HRZ HPX HPZ
        (
          refine wp_region_held_drew (S := fun W => (W.cell? ⟨Bx, 0, none⟩ = some (.slice xa SA.length xc) ∧ W.cell? ⟨Bx, 1, none⟩ = some (.bool true)) ∧ W.cell? ⟨Bx + 1, 0, none⟩ = some (.slice ya SA.length yc) ∧ (W.cell? ⟨Bx + 1 + 1, 0, none⟩ = some (.slice za SB.length zc) ∧ W.cell? ⟨Bx + 1 + 1, 1, none⟩ = some (.bool true)) ∧ W.cell? ⟨Bw, 0, none⟩ = some (.slice wa SA.length wc) ∧ W.cell? ⟨Bw + 1, 0, none⟩ = some (.slice va SB.length vc)) (by kernel_rfl) (by with_reducible exact hS0) (fun hHeld => ?_)
          refine wpAnyH_take (i := 0) (oi := { dst := some 102, op := Op.fieldAddr 26 (Operand.tmp 11) 0, type := 0, pos := "law.go:66", after := #[], guard := none }) (v := ?_) rfl (by kernel_rfl) (by kernel_rfl) (by kernel_rfl) (fun _ _ _ h => h) (Or.inl ⟨by kernel_rfl, ?_⟩) hHeld ?_
          rotate_left
          · intro w hSw
            try dsimp only at hSw
            go_simp
            with_reducible rfl
          try simp only [Act.put, List.setIfInBounds_toArray, List.set_cons_zero, List.set_cons_succ]
          refine wpAnyH_take (i := 1) (oi := { dst := some 103, op := Op.load 22 (Operand.tmp 102), type := 22, pos := "law.go:66", after := #[{ on := 0, ground := Ground.data }], guard := none }) (v := ?_) rfl (by kernel_rfl) (by kernel_rfl) (by kernel_rfl) (fun _ _ _ h => h) (Or.inl ⟨by kernel_rfl, ?_⟩) hHeld ?_
          rotate_left
          · intro w hSw
            try dsimp only at hSw
            go_simp
            with_reducible rfl
          try simp only [Act.put, List.setIfInBounds_toArray, List.set_cons_zero, List.set_cons_succ]
          refine wpAnyH_take (i := 2) (oi := { dst := some 104, op := Op.fieldAddr 28 (Operand.tmp 14) 0, type := 0, pos := "law.go:66", after := #[], guard := none }) (v := ?_) rfl (by kernel_rfl) (by kernel_rfl) (by kernel_rfl) (fun _ _ _ h => h) (Or.inl ⟨by kernel_rfl, ?_⟩) hHeld ?_
          rotate_left
          · intro w hSw
            try dsimp only at hSw
            go_simp
            with_reducible rfl
          try simp only [Act.put, List.setIfInBounds_toArray, List.set_cons_zero, List.set_cons_succ]
          refine wpAnyH_take (i := 3) (oi := { dst := some 105, op := Op.load 22 (Operand.tmp 104), type := 22, pos := "law.go:66", after := #[{ on := 2, ground := Ground.data }], guard := none }) (v := ?_) rfl (by kernel_rfl) (by kernel_rfl) (by kernel_rfl) (fun _ _ _ h => h) (Or.inl ⟨by kernel_rfl, ?_⟩) hHeld ?_
          rotate_left
          · intro w hSw
            try dsimp only at hSw
            go_simp
            with_reducible rfl
          try simp only [Act.put, List.setIfInBounds_toArray, List.set_cons_zero, List.set_cons_succ]
          refine wpAnyH_ready (rs := [4]) (by kernel_rfl) (by simp) ?_
          refine AllReadyH.cons (o := { dst := some 106, op := Op.call { callee := Callee.value (Operand.func 14), args := #[Operand.tmp 103, Operand.tmp 105], argTypes := #[22, 22] }, type := 4, pos := "law.go:66", after := #[{ on := 1, ground := Ground.data }, { on := 3, ground := Ground.data }], guard := none }) rfl (fun K hK => ?_) AllReadyH.nil
          go_simp
          refine (HS1.out _ hB0).mono ?_
          rintro r Wn0 ⟨rfl, hbn0⟩
          have hB1 := hB0.trans (hbn0.mono hB0.size)
          clear hB0 hbn0
          clear hHeld
          refine hK.out _ _ (HS.out _ hB1) (fun hHeld => ?_)
          clear hK K
          try simp only [Act.put, List.setIfInBounds_toArray, List.set_cons_zero, List.set_cons_succ]
          refine wpAnyH_take (i := 5) (oi := { dst := some 107, op := Op.move (Operand.tmp 106), type := 4, pos := "law.go:66", after := #[{ on := 4, ground := Ground.data }, { on := 4, ground := Ground.chain }], guard := none }) (v := ?_) rfl (by kernel_rfl) (by kernel_rfl) (by kernel_rfl) (fun _ _ _ h => h) (Or.inl ⟨by kernel_rfl, ?_⟩) hHeld ?_
          rotate_left
          · intro w hSw
            try dsimp only at hSw
            go_simp
            with_reducible rfl
          try simp only [Act.put, List.setIfInBounds_toArray, List.set_cons_zero, List.set_cons_succ]
          refine wpAnyH_take (i := 6) (oi := { dst := some 108, op := Op.fieldAddr 26 (Operand.tmp 12) 0, type := 0, pos := "law.go:66", after := #[{ on := 5, ground := Ground.guard }], guard := some (5, true) }) (v := ?_) rfl (by kernel_rfl) (by kernel_rfl) (by kernel_rfl) (fun _ _ _ h => h) (Or.inl ⟨by kernel_rfl, ?_⟩) hHeld ?_
          rotate_left
          · intro w hSw
            try dsimp only at hSw
            go_simp
            with_reducible rfl
          try simp only [Act.put, List.setIfInBounds_toArray, List.set_cons_zero, List.set_cons_succ]
          refine wpAnyH_take (i := 7) (oi := { dst := some 109, op := Op.load 22 (Operand.tmp 108), type := 22, pos := "law.go:66", after := #[{ on := 6, ground := Ground.data }, { on := 5, ground := Ground.guard }], guard := some (5, true) }) (v := ?_) rfl (by kernel_rfl) (by kernel_rfl) (by kernel_rfl) (fun _ _ _ h => h) (Or.inl ⟨by kernel_rfl, ?_⟩) hHeld ?_
          rotate_left
          · intro w hSw
            try dsimp only at hSw
            go_simp
            with_reducible rfl
          try simp only [Act.put, List.setIfInBounds_toArray, List.set_cons_zero, List.set_cons_succ]
          refine wpAnyH_take (i := 8) (oi := { dst := some 110, op := Op.fieldAddr 28 (Operand.tmp 14) 0, type := 0, pos := "law.go:66", after := #[{ on := 5, ground := Ground.guard }], guard := some (5, true) }) (v := ?_) rfl (by kernel_rfl) (by kernel_rfl) (by kernel_rfl) (fun _ _ _ h => h) (Or.inl ⟨by kernel_rfl, ?_⟩) hHeld ?_
          rotate_left
          · intro w hSw
            try dsimp only at hSw
            go_simp
            with_reducible rfl
          try simp only [Act.put, List.setIfInBounds_toArray, List.set_cons_zero, List.set_cons_succ]
          refine wpAnyH_take (i := 9) (oi := { dst := some 111, op := Op.load 22 (Operand.tmp 110), type := 22, pos := "law.go:66", after := #[{ on := 8, ground := Ground.data }, { on := 5, ground := Ground.guard }], guard := some (5, true) }) (v := ?_) rfl (by kernel_rfl) (by kernel_rfl) (by kernel_rfl) (fun _ _ _ h => h) (Or.inl ⟨by kernel_rfl, ?_⟩) hHeld ?_
          rotate_left
          · intro w hSw
            try dsimp only at hSw
            go_simp
            with_reducible rfl
          try simp only [Act.put, List.setIfInBounds_toArray, List.set_cons_zero, List.set_cons_succ]
          refine wpAnyH_ready (rs := [10]) (by kernel_rfl) (by simp) ?_
          refine AllReadyH.cons (o := { dst := some 112, op := Op.call { callee := Callee.value (Operand.func 14), args := #[Operand.tmp 109, Operand.tmp 111], argTypes := #[22, 22] }, type := 4, pos := "law.go:66", after := #[{ on := 7, ground := Ground.data }, { on := 9, ground := Ground.data }, { on := 5, ground := Ground.chain }, { on := 5, ground := Ground.guard }], guard := some (5, true) }) rfl (fun K hK => ?_) AllReadyH.nil
          go_simp
          refine (HS2.out _ hB1).mono ?_
          rintro r Wn1 ⟨rfl, hbn1⟩
          have hB2 := hB1.trans (hbn1.mono hB1.size)
          clear hB1 hbn1
          clear hHeld
          refine hK.out _ _ (HS.out _ hB2) (fun hHeld => ?_)
          clear hK K
          try simp only [Act.put, List.setIfInBounds_toArray, List.set_cons_zero, List.set_cons_succ]
          refine wpAnyH_take (i := 11) (oi := { dst := some 113, op := Op.pick (Operand.tmp 107) (Operand.tmp 112) (Operand.const (Value.bool false)), type := 4, pos := "law.go:66", after := #[{ on := 5, ground := Ground.data }, { on := 10, ground := Ground.data }], guard := none }) (v := ?_) rfl (by kernel_rfl) (by kernel_rfl) (by kernel_rfl) (fun _ _ _ h => h) (Or.inl ⟨by kernel_rfl, ?_⟩) hHeld ?_
          rotate_left
          · intro w hSw
            try dsimp only at hSw
            go_simp
            with_reducible rfl
          try simp only [Act.put, List.setIfInBounds_toArray, List.set_cons_zero, List.set_cons_succ]
          refine wpAnyH_take (i := 12) (oi := { dst := some 114, op := Op.move (Operand.tmp 113), type := 4, pos := "law.go:66", after := #[{ on := 11, ground := Ground.data }, { on := 10, ground := Ground.chain }], guard := none }) (v := ?_) rfl (by kernel_rfl) (by kernel_rfl) (by kernel_rfl) (fun _ _ _ h => h) (Or.inl ⟨by kernel_rfl, ?_⟩) hHeld ?_
          rotate_left
          · intro w hSw
            try dsimp only at hSw
            go_simp
            with_reducible rfl
          try simp only [Act.put, List.setIfInBounds_toArray, List.set_cons_zero, List.set_cons_succ]
          refine wpAnyH_take (i := 13) (oi := { dst := some 115, op := Op.fieldAddr 26 (Operand.tmp 13) 0, type := 0, pos := "law.go:66", after := #[{ on := 12, ground := Ground.guard }], guard := some (12, true) }) (v := ?_) rfl (by kernel_rfl) (by kernel_rfl) (by kernel_rfl) (fun _ _ _ h => h) (Or.inl ⟨by kernel_rfl, ?_⟩) hHeld ?_
          rotate_left
          · intro w hSw
            try dsimp only at hSw
            go_simp
            with_reducible rfl
          try simp only [Act.put, List.setIfInBounds_toArray, List.set_cons_zero, List.set_cons_succ]
          refine wpAnyH_take (i := 14) (oi := { dst := some 116, op := Op.load 22 (Operand.tmp 115), type := 22, pos := "law.go:66", after := #[{ on := 13, ground := Ground.data }, { on := 12, ground := Ground.guard }], guard := some (12, true) }) (v := ?_) rfl (by kernel_rfl) (by kernel_rfl) (by kernel_rfl) (fun _ _ _ h => h) (Or.inl ⟨by kernel_rfl, ?_⟩) hHeld ?_
          rotate_left
          · intro w hSw
            try dsimp only at hSw
            go_simp
            with_reducible rfl
          try simp only [Act.put, List.setIfInBounds_toArray, List.set_cons_zero, List.set_cons_succ]
          refine wpAnyH_take (i := 15) (oi := { dst := some 117, op := Op.fieldAddr 28 (Operand.tmp 15) 0, type := 0, pos := "law.go:66", after := #[{ on := 12, ground := Ground.guard }], guard := some (12, true) }) (v := ?_) rfl (by kernel_rfl) (by kernel_rfl) (by kernel_rfl) (fun _ _ _ h => h) (Or.inl ⟨by kernel_rfl, ?_⟩) hHeld ?_
          rotate_left
          · intro w hSw
            try dsimp only at hSw
            go_simp
            with_reducible rfl
          try simp only [Act.put, List.setIfInBounds_toArray, List.set_cons_zero, List.set_cons_succ]
          refine wpAnyH_take (i := 16) (oi := { dst := some 118, op := Op.load 22 (Operand.tmp 117), type := 22, pos := "law.go:66", after := #[{ on := 15, ground := Ground.data }, { on := 12, ground := Ground.guard }], guard := some (12, true) }) (v := ?_) rfl (by kernel_rfl) (by kernel_rfl) (by kernel_rfl) (fun _ _ _ h => h) (Or.inl ⟨by kernel_rfl, ?_⟩) hHeld ?_
          rotate_left
          · intro w hSw
            try dsimp only at hSw
            go_simp
            with_reducible rfl
          try simp only [Act.put, List.setIfInBounds_toArray, List.set_cons_zero, List.set_cons_succ]
          refine wpAnyH_ready (rs := [17]) (by kernel_rfl) (by simp) ?_
          refine AllReadyH.cons (o := { dst := some 119, op := Op.call { callee := Callee.value (Operand.func 14), args := #[Operand.tmp 116, Operand.tmp 118], argTypes := #[22, 22] }, type := 4, pos := "law.go:66", after := #[{ on := 14, ground := Ground.data }, { on := 16, ground := Ground.data }, { on := 12, ground := Ground.chain }, { on := 12, ground := Ground.guard }], guard := some (12, true) }) rfl (fun K hK => ?_) AllReadyH.nil
          go_simp
          refine (HS3.out _ hB2).mono ?_
          rintro r Wn2 ⟨rfl, hbn2⟩
          have hB3 := hB2.trans (hbn2.mono hB2.size)
          clear hB2 hbn2
          clear hHeld
          refine hK.out _ _ (HS.out _ hB3) (fun hHeld => ?_)
          clear hK K
          try simp only [Act.put, List.setIfInBounds_toArray, List.set_cons_zero, List.set_cons_succ]
          refine wpAnyH_take (i := 18) (oi := { dst := some 120, op := Op.pick (Operand.tmp 114) (Operand.tmp 119) (Operand.const (Value.bool false)), type := 4, pos := "law.go:66", after := #[{ on := 12, ground := Ground.data }, { on := 17, ground := Ground.data }], guard := none }) (v := ?_) rfl (by kernel_rfl) (by kernel_rfl) (by kernel_rfl) (fun _ _ _ h => h) (Or.inl ⟨by kernel_rfl, ?_⟩) hHeld ?_
          rotate_left
          · intro w hSw
            try dsimp only at hSw
            go_simp
            with_reducible rfl
          try simp only [Act.put, List.setIfInBounds_toArray, List.set_cons_zero, List.set_cons_succ]
          refine wpAnyH_take (i := 19) (oi := { dst := some 121, op := Op.move (Operand.tmp 120), type := 4, pos := "law.go:66", after := #[{ on := 18, ground := Ground.data }, { on := 17, ground := Ground.chain }], guard := none }) (v := ?_) rfl (by kernel_rfl) (by kernel_rfl) (by kernel_rfl) (fun _ _ _ h => h) (Or.inl ⟨by kernel_rfl, ?_⟩) hHeld ?_
          rotate_left
          · intro w hSw
            try dsimp only at hSw
            go_simp
            with_reducible rfl
          try simp only [Act.put, List.setIfInBounds_toArray, List.set_cons_zero, List.set_cons_succ]
          refine wpAnyH_take (i := 20) (oi := { dst := some 122, op := Op.fieldAddr 26 (Operand.tmp 11) 0, type := 0, pos := "law.go:66", after := #[{ on := 19, ground := Ground.guard }], guard := some (19, true) }) (v := ?_) rfl (by kernel_rfl) (by kernel_rfl) (by kernel_rfl) (fun _ _ _ h => h) (Or.inl ⟨by kernel_rfl, ?_⟩) hHeld ?_
          rotate_left
          · intro w hSw
            try dsimp only at hSw
            go_simp
            with_reducible rfl
          try simp only [Act.put, List.setIfInBounds_toArray, List.set_cons_zero, List.set_cons_succ]
          refine wpAnyH_take (i := 21) (oi := { dst := some 123, op := Op.load 22 (Operand.tmp 122), type := 22, pos := "law.go:66", after := #[{ on := 20, ground := Ground.data }, { on := 19, ground := Ground.guard }], guard := some (19, true) }) (v := ?_) rfl (by kernel_rfl) (by kernel_rfl) (by kernel_rfl) (fun _ _ _ h => h) (Or.inl ⟨by kernel_rfl, ?_⟩) hHeld ?_
          rotate_left
          · intro w hSw
            try dsimp only at hSw
            go_simp
            with_reducible rfl
          try simp only [Act.put, List.setIfInBounds_toArray, List.set_cons_zero, List.set_cons_succ]
          refine wpAnyH_take (i := 22) (oi := { dst := some 124, op := Op.fieldAddr 26 (Operand.tmp 13) 0, type := 0, pos := "law.go:66", after := #[{ on := 19, ground := Ground.guard }], guard := some (19, true) }) (v := ?_) rfl (by kernel_rfl) (by kernel_rfl) (by kernel_rfl) (fun _ _ _ h => h) (Or.inl ⟨by kernel_rfl, ?_⟩) hHeld ?_
          rotate_left
          · intro w hSw
            try dsimp only at hSw
            go_simp
            with_reducible rfl
          try simp only [Act.put, List.setIfInBounds_toArray, List.set_cons_zero, List.set_cons_succ]
          refine wpAnyH_take (i := 23) (oi := { dst := some 125, op := Op.load 22 (Operand.tmp 124), type := 22, pos := "law.go:66", after := #[{ on := 22, ground := Ground.data }, { on := 19, ground := Ground.guard }], guard := some (19, true) }) (v := ?_) rfl (by kernel_rfl) (by kernel_rfl) (by kernel_rfl) (fun _ _ _ h => h) (Or.inl ⟨by kernel_rfl, ?_⟩) hHeld ?_
          rotate_left
          · intro w hSw
            try dsimp only at hSw
            go_simp
            with_reducible rfl
          try simp only [Act.put, List.setIfInBounds_toArray, List.set_cons_zero, List.set_cons_succ]
          refine wpAnyH_ready (rs := [24]) (by kernel_rfl) (by simp) ?_
          refine AllReadyH.cons (o := { dst := some 126, op := Op.call { callee := Callee.value (Operand.func 14), args := #[Operand.tmp 123, Operand.tmp 125], argTypes := #[22, 22] }, type := 4, pos := "law.go:66", after := #[{ on := 21, ground := Ground.data }, { on := 23, ground := Ground.data }, { on := 19, ground := Ground.chain }, { on := 19, ground := Ground.guard }], guard := some (19, true) }) rfl (fun K hK => ?_) AllReadyH.nil
          go_simp
          refine (HS4.out _ hB3).mono ?_
          rintro r Wn3 ⟨rfl, hbn3⟩
          have hB4 := hB3.trans (hbn3.mono hB3.size)
          clear hB3 hbn3
          clear hHeld
          refine hK.out _ _ (HS.out _ hB4) (fun hHeld => ?_)
          clear hK K
          try simp only [Act.put, List.setIfInBounds_toArray, List.set_cons_zero, List.set_cons_succ]
          refine wpAnyH_take (i := 25) (oi := { dst := some 127, op := Op.move (Operand.tmp 126), type := 4, pos := "law.go:66", after := #[{ on := 24, ground := Ground.data }, { on := 24, ground := Ground.chain }, { on := 19, ground := Ground.guard }], guard := some (19, true) }) (v := ?_) rfl (by kernel_rfl) (by kernel_rfl) (by kernel_rfl) (fun _ _ _ h => h) (Or.inl ⟨by kernel_rfl, ?_⟩) hHeld ?_
          rotate_left
          · intro w hSw
            try dsimp only at hSw
            go_simp
            with_reducible rfl
          try simp only [Act.put, List.setIfInBounds_toArray, List.set_cons_zero, List.set_cons_succ]
          refine wpAnyH_take (i := 26) (oi := { dst := some 128, op := Op.load 26 (Operand.tmp 11), type := 26, pos := "law.go:66", after := #[{ on := 25, ground := Ground.guard }], guard := some (25, false) }) (v := undef) rfl (by kernel_rfl) (by kernel_rfl) (by kernel_rfl) (fun _ _ _ h => h) (Or.inr ⟨by kernel_rfl, rfl⟩) hHeld ?_
          try simp only [Act.put, List.setIfInBounds_toArray, List.set_cons_zero, List.set_cons_succ]
          refine wpAnyH_ready (rs := [27]) (by kernel_rfl) (by simp) ?_
          refine AllReadyH.cons (o := { dst := some 129, op := Op.call { callee := Callee.value (Operand.func 12), args := #[Operand.tmp 128], argTypes := #[26] }, type := 4, pos := "law.go:66", after := #[{ on := 26, ground := Ground.data }, { on := 25, ground := Ground.chain }, { on := 25, ground := Ground.guard }], guard := some (25, false) }) rfl (fun K hK => ?_) AllReadyH.nil
          go_simp
          refine hK.out _ _ hHeld (fun hHeld => ?_)
          clear hK K
          try simp only [Act.put, List.setIfInBounds_toArray, List.set_cons_zero, List.set_cons_succ]
          refine wpAnyH_take (i := 28) (oi := { dst := some 130, op := Op.unOp UnOp.not 4 (Operand.tmp 129), type := 4, pos := "law.go:66", after := #[{ on := 27, ground := Ground.data }, { on := 25, ground := Ground.guard }], guard := some (25, false) }) (v := undef) rfl (by kernel_rfl) (by kernel_rfl) (by kernel_rfl) (fun _ _ _ h => h) (Or.inr ⟨by kernel_rfl, rfl⟩) hHeld ?_
          try simp only [Act.put, List.setIfInBounds_toArray, List.set_cons_zero, List.set_cons_succ]
          refine wpAnyH_take (i := 29) (oi := { dst := some 131, op := Op.pick (Operand.tmp 127) (Operand.const (Value.bool true)) (Operand.tmp 130), type := 4, pos := "law.go:66", after := #[{ on := 25, ground := Ground.data }, { on := 28, ground := Ground.data }, { on := 19, ground := Ground.guard }], guard := some (19, true) }) (v := ?_) rfl (by kernel_rfl) (by kernel_rfl) (by kernel_rfl) (fun _ _ _ h => h) (Or.inl ⟨by kernel_rfl, ?_⟩) hHeld ?_
          rotate_left
          · intro w hSw
            try dsimp only at hSw
            go_simp
            with_reducible rfl
          try simp only [Act.put, List.setIfInBounds_toArray, List.set_cons_zero, List.set_cons_succ]
          refine wpAnyH_take (i := 30) (oi := { dst := some 132, op := Op.move (Operand.tmp 131), type := 4, pos := "law.go:66", after := #[{ on := 29, ground := Ground.data }, { on := 27, ground := Ground.chain }, { on := 19, ground := Ground.guard }], guard := some (19, true) }) (v := ?_) rfl (by kernel_rfl) (by kernel_rfl) (by kernel_rfl) (fun _ _ _ h => h) (Or.inl ⟨by kernel_rfl, ?_⟩) hHeld ?_
          rotate_left
          · intro w hSw
            try dsimp only at hSw
            go_simp
            with_reducible rfl
          try simp only [Act.put, List.setIfInBounds_toArray, List.set_cons_zero, List.set_cons_succ]
          refine wpAnyH_take (i := 31) (oi := { dst := some 133, op := Op.load 26 (Operand.tmp 13), type := 26, pos := "law.go:66", after := #[{ on := 30, ground := Ground.guard }], guard := some (30, false) }) (v := undef) rfl (by kernel_rfl) (by kernel_rfl) (by kernel_rfl) (fun _ _ _ h => h) (Or.inr ⟨by kernel_rfl, rfl⟩) hHeld ?_
          try simp only [Act.put, List.setIfInBounds_toArray, List.set_cons_zero, List.set_cons_succ]
          refine wpAnyH_ready (rs := [32]) (by kernel_rfl) (by simp) ?_
          refine AllReadyH.cons (o := { dst := some 134, op := Op.call { callee := Callee.value (Operand.func 12), args := #[Operand.tmp 133], argTypes := #[26] }, type := 4, pos := "law.go:66", after := #[{ on := 31, ground := Ground.data }, { on := 30, ground := Ground.chain }, { on := 30, ground := Ground.guard }], guard := some (30, false) }) rfl (fun K hK => ?_) AllReadyH.nil
          go_simp
          refine hK.out _ _ hHeld (fun hHeld => ?_)
          clear hK K
          try simp only [Act.put, List.setIfInBounds_toArray, List.set_cons_zero, List.set_cons_succ]
          refine wpAnyH_take (i := 33) (oi := { dst := some 135, op := Op.unOp UnOp.not 4 (Operand.tmp 134), type := 4, pos := "law.go:66", after := #[{ on := 32, ground := Ground.data }, { on := 30, ground := Ground.guard }], guard := some (30, false) }) (v := undef) rfl (by kernel_rfl) (by kernel_rfl) (by kernel_rfl) (fun _ _ _ h => h) (Or.inr ⟨by kernel_rfl, rfl⟩) hHeld ?_
          try simp only [Act.put, List.setIfInBounds_toArray, List.set_cons_zero, List.set_cons_succ]
          refine wpAnyH_take (i := 34) (oi := { dst := some 136, op := Op.pick (Operand.tmp 132) (Operand.const (Value.bool true)) (Operand.tmp 135), type := 4, pos := "law.go:66", after := #[{ on := 30, ground := Ground.data }, { on := 33, ground := Ground.data }, { on := 19, ground := Ground.guard }], guard := some (19, true) }) (v := ?_) rfl (by kernel_rfl) (by kernel_rfl) (by kernel_rfl) (fun _ _ _ h => h) (Or.inl ⟨by kernel_rfl, ?_⟩) hHeld ?_
          rotate_left
          · intro w hSw
            try dsimp only at hSw
            go_simp
            with_reducible rfl
          try simp only [Act.put, List.setIfInBounds_toArray, List.set_cons_zero, List.set_cons_succ]
          refine wpAnyH_take (i := 35) (oi := { dst := some 137, op := Op.move (Operand.tmp 136), type := 4, pos := "law.go:66", after := #[{ on := 34, ground := Ground.data }, { on := 32, ground := Ground.chain }, { on := 19, ground := Ground.guard }], guard := some (19, true) }) (v := ?_) rfl (by kernel_rfl) (by kernel_rfl) (by kernel_rfl) (fun _ _ _ h => h) (Or.inl ⟨by kernel_rfl, ?_⟩) hHeld ?_
          rotate_left
          · intro w hSw
            try dsimp only at hSw
            go_simp
            with_reducible rfl
          try simp only [Act.put, List.setIfInBounds_toArray, List.set_cons_zero, List.set_cons_succ]
          refine wpAnyH_take (i := 36) (oi := { dst := some 138, op := Op.load 26 (Operand.tmp 11), type := 26, pos := "law.go:66", after := #[{ on := 35, ground := Ground.guard }], guard := some (35, false) }) (v := undef) rfl (by kernel_rfl) (by kernel_rfl) (by kernel_rfl) (fun _ _ _ h => h) (Or.inr ⟨by kernel_rfl, rfl⟩) hHeld ?_
          try simp only [Act.put, List.setIfInBounds_toArray, List.set_cons_zero, List.set_cons_succ]
          refine wpAnyH_take (i := 38) (oi := { dst := some 140, op := Op.load 26 (Operand.tmp 13), type := 26, pos := "law.go:66", after := #[{ on := 35, ground := Ground.guard }], guard := some (35, false) }) (v := undef) rfl (by kernel_rfl) (by kernel_rfl) (by kernel_rfl) (fun _ _ _ h => h) (Or.inr ⟨by kernel_rfl, rfl⟩) hHeld ?_
          try simp only [Act.put, List.setIfInBounds_toArray, List.set_cons_zero, List.set_cons_succ]
          refine wpAnyH_ready (rs := [37]) (by kernel_rfl) (by simp) ?_
          refine AllReadyH.cons (o := { dst := some 139, op := Op.call { callee := Callee.value (Operand.func 8), args := #[Operand.tmp 138], argTypes := #[26] }, type := 9, pos := "law.go:66", after := #[{ on := 36, ground := Ground.data }, { on := 35, ground := Ground.chain }, { on := 35, ground := Ground.guard }], guard := some (35, false) }) rfl (fun K hK => ?_) AllReadyH.nil
          go_simp
          refine hK.out _ _ hHeld (fun hHeld => ?_)
          clear hK K
          try simp only [Act.put, List.setIfInBounds_toArray, List.set_cons_zero, List.set_cons_succ]
          refine wpAnyH_ready (rs := [39]) (by kernel_rfl) (by simp) ?_
          refine AllReadyH.cons (o := { dst := some 141, op := Op.call { callee := Callee.value (Operand.func 8), args := #[Operand.tmp 140], argTypes := #[26] }, type := 9, pos := "law.go:66", after := #[{ on := 38, ground := Ground.data }, { on := 37, ground := Ground.chain }, { on := 35, ground := Ground.guard }], guard := some (35, false) }) rfl (fun K hK => ?_) AllReadyH.nil
          go_simp
          refine hK.out _ _ hHeld (fun hHeld => ?_)
          clear hK K
          try simp only [Act.put, List.setIfInBounds_toArray, List.set_cons_zero, List.set_cons_succ]
          refine wpAnyH_take (i := 40) (oi := { dst := some 142, op := Op.binOp BinOp.neq 9 (Operand.tmp 139) (Operand.tmp 141) 9, type := 4, pos := "law.go:66", after := #[{ on := 37, ground := Ground.data }, { on := 39, ground := Ground.data }, { on := 35, ground := Ground.guard }], guard := some (35, false) }) (v := undef) rfl (by kernel_rfl) (by kernel_rfl) (by kernel_rfl) (fun _ _ _ h => h) (Or.inr ⟨by kernel_rfl, rfl⟩) hHeld ?_
          try simp only [Act.put, List.setIfInBounds_toArray, List.set_cons_zero, List.set_cons_succ]
          refine wpAnyH_take (i := 41) (oi := { dst := some 143, op := Op.pick (Operand.tmp 137) (Operand.const (Value.bool true)) (Operand.tmp 142), type := 4, pos := "law.go:66", after := #[{ on := 35, ground := Ground.data }, { on := 40, ground := Ground.data }, { on := 19, ground := Ground.guard }], guard := some (19, true) }) (v := ?_) rfl (by kernel_rfl) (by kernel_rfl) (by kernel_rfl) (fun _ _ _ h => h) (Or.inl ⟨by kernel_rfl, ?_⟩) hHeld ?_
          rotate_left
          · intro w hSw
            try dsimp only at hSw
            go_simp
            with_reducible rfl
          try simp only [Act.put, List.setIfInBounds_toArray, List.set_cons_zero, List.set_cons_succ]
          refine wpAnyH_take (i := 42) (oi := { dst := some 144, op := Op.pick (Operand.tmp 121) (Operand.tmp 143) (Operand.const (Value.bool false)), type := 4, pos := "law.go:66", after := #[{ on := 19, ground := Ground.data }, { on := 41, ground := Ground.data }], guard := none }) (v := ?_) rfl (by kernel_rfl) (by kernel_rfl) (by kernel_rfl) (fun _ _ _ h => h) (Or.inl ⟨by kernel_rfl, ?_⟩) hHeld ?_
          rotate_left
          · intro w hSw
            try dsimp only at hSw
            go_simp
            with_reducible rfl
          try simp only [Act.put, List.setIfInBounds_toArray, List.set_cons_zero, List.set_cons_succ]
          refine wpAnyH_take (i := 43) (oi := { dst := some 6, op := Op.assign (Operand.tmp 144), type := 4, pos := "law.go:66", after := #[{ on := 42, ground := Ground.data }, { on := 39, ground := Ground.chain }, { on := 0, ground := Ground.phase }, { on := 1, ground := Ground.phase }, { on := 2, ground := Ground.phase }, { on := 3, ground := Ground.phase }, { on := 4, ground := Ground.phase }, { on := 5, ground := Ground.phase }, { on := 6, ground := Ground.phase }, { on := 7, ground := Ground.phase }, { on := 8, ground := Ground.phase }, { on := 9, ground := Ground.phase }, { on := 10, ground := Ground.phase }, { on := 11, ground := Ground.phase }, { on := 12, ground := Ground.phase }, { on := 13, ground := Ground.phase }, { on := 14, ground := Ground.phase }, { on := 15, ground := Ground.phase }, { on := 16, ground := Ground.phase }, { on := 17, ground := Ground.phase }, { on := 18, ground := Ground.phase }, { on := 19, ground := Ground.phase }, { on := 20, ground := Ground.phase }, { on := 21, ground := Ground.phase }, { on := 22, ground := Ground.phase }, { on := 23, ground := Ground.phase }, { on := 24, ground := Ground.phase }, { on := 25, ground := Ground.phase }, { on := 26, ground := Ground.phase }, { on := 27, ground := Ground.phase }, { on := 28, ground := Ground.phase }, { on := 29, ground := Ground.phase }, { on := 30, ground := Ground.phase }, { on := 31, ground := Ground.phase }, { on := 32, ground := Ground.phase }, { on := 33, ground := Ground.phase }, { on := 34, ground := Ground.phase }, { on := 35, ground := Ground.phase }, { on := 36, ground := Ground.phase }, { on := 37, ground := Ground.phase }, { on := 38, ground := Ground.phase }, { on := 39, ground := Ground.phase }, { on := 40, ground := Ground.phase }, { on := 41, ground := Ground.phase }, { on := 42, ground := Ground.phase }], guard := none }) (v := ?_) rfl (by kernel_rfl) (by kernel_rfl) (by kernel_rfl) (fun _ _ _ h => h) (Or.inl ⟨by kernel_rfl, ?_⟩) hHeld ?_
          rotate_left
          · intro w hSw
            try dsimp only at hSw
            go_simp
            with_reducible rfl
          try simp only [Act.put, List.setIfInBounds_toArray, List.set_cons_zero, List.set_cons_succ]
          refine wpAnyH_done (by kernel_rfl) ?_ _
        )
        have HBQ := Lib.hid hB4
        clear hHeld
      case' neg =>
        have HS4 := HS4'
        rw [decide_eq_false hsame] at HS4
        clear HS4'
        cases hr1 : R1
        case' false =>
          rw [hr1] at HRX
          clear hsame HINJ HRZ HPX HPZ
          (
          refine wp_region_held_drew (S := fun W => (W.cell? ⟨Bx, 0, none⟩ = some (.slice xa SA.length xc) ∧ W.cell? ⟨Bx, 1, none⟩ = some (.bool true)) ∧ W.cell? ⟨Bx + 1, 0, none⟩ = some (.slice ya SA.length yc) ∧ (W.cell? ⟨Bx + 1 + 1, 0, none⟩ = some (.slice za SB.length zc) ∧ W.cell? ⟨Bx + 1 + 1, 1, none⟩ = some (.bool true)) ∧ W.cell? ⟨Bw, 0, none⟩ = some (.slice wa SA.length wc) ∧ W.cell? ⟨Bw + 1, 0, none⟩ = some (.slice va SB.length vc)) (by kernel_rfl) (by with_reducible exact hS0) (fun hHeld => ?_)
          refine wpAnyH_take (i := 0) (oi := { dst := some 102, op := Op.fieldAddr 26 (Operand.tmp 11) 0, type := 0, pos := "law.go:66", after := #[], guard := none }) (v := ?_) rfl (by kernel_rfl) (by kernel_rfl) (by kernel_rfl) (fun _ _ _ h => h) (Or.inl ⟨by kernel_rfl, ?_⟩) hHeld ?_
          rotate_left
          · intro w hSw
            try dsimp only at hSw
            go_simp
            with_reducible rfl
          try simp only [Act.put, List.setIfInBounds_toArray, List.set_cons_zero, List.set_cons_succ]
          refine wpAnyH_take (i := 1) (oi := { dst := some 103, op := Op.load 22 (Operand.tmp 102), type := 22, pos := "law.go:66", after := #[{ on := 0, ground := Ground.data }], guard := none }) (v := ?_) rfl (by kernel_rfl) (by kernel_rfl) (by kernel_rfl) (fun _ _ _ h => h) (Or.inl ⟨by kernel_rfl, ?_⟩) hHeld ?_
          rotate_left
          · intro w hSw
            try dsimp only at hSw
            go_simp
            with_reducible rfl
          try simp only [Act.put, List.setIfInBounds_toArray, List.set_cons_zero, List.set_cons_succ]
          refine wpAnyH_take (i := 2) (oi := { dst := some 104, op := Op.fieldAddr 28 (Operand.tmp 14) 0, type := 0, pos := "law.go:66", after := #[], guard := none }) (v := ?_) rfl (by kernel_rfl) (by kernel_rfl) (by kernel_rfl) (fun _ _ _ h => h) (Or.inl ⟨by kernel_rfl, ?_⟩) hHeld ?_
          rotate_left
          · intro w hSw
            try dsimp only at hSw
            go_simp
            with_reducible rfl
          try simp only [Act.put, List.setIfInBounds_toArray, List.set_cons_zero, List.set_cons_succ]
          refine wpAnyH_take (i := 3) (oi := { dst := some 105, op := Op.load 22 (Operand.tmp 104), type := 22, pos := "law.go:66", after := #[{ on := 2, ground := Ground.data }], guard := none }) (v := ?_) rfl (by kernel_rfl) (by kernel_rfl) (by kernel_rfl) (fun _ _ _ h => h) (Or.inl ⟨by kernel_rfl, ?_⟩) hHeld ?_
          rotate_left
          · intro w hSw
            try dsimp only at hSw
            go_simp
            with_reducible rfl
          try simp only [Act.put, List.setIfInBounds_toArray, List.set_cons_zero, List.set_cons_succ]
          refine wpAnyH_ready (rs := [4]) (by kernel_rfl) (by simp) ?_
          refine AllReadyH.cons (o := { dst := some 106, op := Op.call { callee := Callee.value (Operand.func 14), args := #[Operand.tmp 103, Operand.tmp 105], argTypes := #[22, 22] }, type := 4, pos := "law.go:66", after := #[{ on := 1, ground := Ground.data }, { on := 3, ground := Ground.data }], guard := none }) rfl (fun K hK => ?_) AllReadyH.nil
          go_simp
          refine (HS1.out _ hB0).mono ?_
          rintro r Wn0 ⟨rfl, hbn0⟩
          have hB1 := hB0.trans (hbn0.mono hB0.size)
          clear hB0 hbn0
          clear hHeld
          refine hK.out _ _ (HS.out _ hB1) (fun hHeld => ?_)
          clear hK K
          try simp only [Act.put, List.setIfInBounds_toArray, List.set_cons_zero, List.set_cons_succ]
          refine wpAnyH_take (i := 5) (oi := { dst := some 107, op := Op.move (Operand.tmp 106), type := 4, pos := "law.go:66", after := #[{ on := 4, ground := Ground.data }, { on := 4, ground := Ground.chain }], guard := none }) (v := ?_) rfl (by kernel_rfl) (by kernel_rfl) (by kernel_rfl) (fun _ _ _ h => h) (Or.inl ⟨by kernel_rfl, ?_⟩) hHeld ?_
          rotate_left
          · intro w hSw
            try dsimp only at hSw
            go_simp
            with_reducible rfl
          try simp only [Act.put, List.setIfInBounds_toArray, List.set_cons_zero, List.set_cons_succ]
          refine wpAnyH_take (i := 6) (oi := { dst := some 108, op := Op.fieldAddr 26 (Operand.tmp 12) 0, type := 0, pos := "law.go:66", after := #[{ on := 5, ground := Ground.guard }], guard := some (5, true) }) (v := ?_) rfl (by kernel_rfl) (by kernel_rfl) (by kernel_rfl) (fun _ _ _ h => h) (Or.inl ⟨by kernel_rfl, ?_⟩) hHeld ?_
          rotate_left
          · intro w hSw
            try dsimp only at hSw
            go_simp
            with_reducible rfl
          try simp only [Act.put, List.setIfInBounds_toArray, List.set_cons_zero, List.set_cons_succ]
          refine wpAnyH_take (i := 7) (oi := { dst := some 109, op := Op.load 22 (Operand.tmp 108), type := 22, pos := "law.go:66", after := #[{ on := 6, ground := Ground.data }, { on := 5, ground := Ground.guard }], guard := some (5, true) }) (v := ?_) rfl (by kernel_rfl) (by kernel_rfl) (by kernel_rfl) (fun _ _ _ h => h) (Or.inl ⟨by kernel_rfl, ?_⟩) hHeld ?_
          rotate_left
          · intro w hSw
            try dsimp only at hSw
            go_simp
            with_reducible rfl
          try simp only [Act.put, List.setIfInBounds_toArray, List.set_cons_zero, List.set_cons_succ]
          refine wpAnyH_take (i := 8) (oi := { dst := some 110, op := Op.fieldAddr 28 (Operand.tmp 14) 0, type := 0, pos := "law.go:66", after := #[{ on := 5, ground := Ground.guard }], guard := some (5, true) }) (v := ?_) rfl (by kernel_rfl) (by kernel_rfl) (by kernel_rfl) (fun _ _ _ h => h) (Or.inl ⟨by kernel_rfl, ?_⟩) hHeld ?_
          rotate_left
          · intro w hSw
            try dsimp only at hSw
            go_simp
            with_reducible rfl
          try simp only [Act.put, List.setIfInBounds_toArray, List.set_cons_zero, List.set_cons_succ]
          refine wpAnyH_take (i := 9) (oi := { dst := some 111, op := Op.load 22 (Operand.tmp 110), type := 22, pos := "law.go:66", after := #[{ on := 8, ground := Ground.data }, { on := 5, ground := Ground.guard }], guard := some (5, true) }) (v := ?_) rfl (by kernel_rfl) (by kernel_rfl) (by kernel_rfl) (fun _ _ _ h => h) (Or.inl ⟨by kernel_rfl, ?_⟩) hHeld ?_
          rotate_left
          · intro w hSw
            try dsimp only at hSw
            go_simp
            with_reducible rfl
          try simp only [Act.put, List.setIfInBounds_toArray, List.set_cons_zero, List.set_cons_succ]
          refine wpAnyH_ready (rs := [10]) (by kernel_rfl) (by simp) ?_
          refine AllReadyH.cons (o := { dst := some 112, op := Op.call { callee := Callee.value (Operand.func 14), args := #[Operand.tmp 109, Operand.tmp 111], argTypes := #[22, 22] }, type := 4, pos := "law.go:66", after := #[{ on := 7, ground := Ground.data }, { on := 9, ground := Ground.data }, { on := 5, ground := Ground.chain }, { on := 5, ground := Ground.guard }], guard := some (5, true) }) rfl (fun K hK => ?_) AllReadyH.nil
          go_simp
          refine (HS2.out _ hB1).mono ?_
          rintro r Wn1 ⟨rfl, hbn1⟩
          have hB2 := hB1.trans (hbn1.mono hB1.size)
          clear hB1 hbn1
          clear hHeld
          refine hK.out _ _ (HS.out _ hB2) (fun hHeld => ?_)
          clear hK K
          try simp only [Act.put, List.setIfInBounds_toArray, List.set_cons_zero, List.set_cons_succ]
          refine wpAnyH_take (i := 11) (oi := { dst := some 113, op := Op.pick (Operand.tmp 107) (Operand.tmp 112) (Operand.const (Value.bool false)), type := 4, pos := "law.go:66", after := #[{ on := 5, ground := Ground.data }, { on := 10, ground := Ground.data }], guard := none }) (v := ?_) rfl (by kernel_rfl) (by kernel_rfl) (by kernel_rfl) (fun _ _ _ h => h) (Or.inl ⟨by kernel_rfl, ?_⟩) hHeld ?_
          rotate_left
          · intro w hSw
            try dsimp only at hSw
            go_simp
            with_reducible rfl
          try simp only [Act.put, List.setIfInBounds_toArray, List.set_cons_zero, List.set_cons_succ]
          refine wpAnyH_take (i := 12) (oi := { dst := some 114, op := Op.move (Operand.tmp 113), type := 4, pos := "law.go:66", after := #[{ on := 11, ground := Ground.data }, { on := 10, ground := Ground.chain }], guard := none }) (v := ?_) rfl (by kernel_rfl) (by kernel_rfl) (by kernel_rfl) (fun _ _ _ h => h) (Or.inl ⟨by kernel_rfl, ?_⟩) hHeld ?_
          rotate_left
          · intro w hSw
            try dsimp only at hSw
            go_simp
            with_reducible rfl
          try simp only [Act.put, List.setIfInBounds_toArray, List.set_cons_zero, List.set_cons_succ]
          refine wpAnyH_take (i := 13) (oi := { dst := some 115, op := Op.fieldAddr 26 (Operand.tmp 13) 0, type := 0, pos := "law.go:66", after := #[{ on := 12, ground := Ground.guard }], guard := some (12, true) }) (v := ?_) rfl (by kernel_rfl) (by kernel_rfl) (by kernel_rfl) (fun _ _ _ h => h) (Or.inl ⟨by kernel_rfl, ?_⟩) hHeld ?_
          rotate_left
          · intro w hSw
            try dsimp only at hSw
            go_simp
            with_reducible rfl
          try simp only [Act.put, List.setIfInBounds_toArray, List.set_cons_zero, List.set_cons_succ]
          refine wpAnyH_take (i := 14) (oi := { dst := some 116, op := Op.load 22 (Operand.tmp 115), type := 22, pos := "law.go:66", after := #[{ on := 13, ground := Ground.data }, { on := 12, ground := Ground.guard }], guard := some (12, true) }) (v := ?_) rfl (by kernel_rfl) (by kernel_rfl) (by kernel_rfl) (fun _ _ _ h => h) (Or.inl ⟨by kernel_rfl, ?_⟩) hHeld ?_
          rotate_left
          · intro w hSw
            try dsimp only at hSw
            go_simp
            with_reducible rfl
          try simp only [Act.put, List.setIfInBounds_toArray, List.set_cons_zero, List.set_cons_succ]
          refine wpAnyH_take (i := 15) (oi := { dst := some 117, op := Op.fieldAddr 28 (Operand.tmp 15) 0, type := 0, pos := "law.go:66", after := #[{ on := 12, ground := Ground.guard }], guard := some (12, true) }) (v := ?_) rfl (by kernel_rfl) (by kernel_rfl) (by kernel_rfl) (fun _ _ _ h => h) (Or.inl ⟨by kernel_rfl, ?_⟩) hHeld ?_
          rotate_left
          · intro w hSw
            try dsimp only at hSw
            go_simp
            with_reducible rfl
          try simp only [Act.put, List.setIfInBounds_toArray, List.set_cons_zero, List.set_cons_succ]
          refine wpAnyH_take (i := 16) (oi := { dst := some 118, op := Op.load 22 (Operand.tmp 117), type := 22, pos := "law.go:66", after := #[{ on := 15, ground := Ground.data }, { on := 12, ground := Ground.guard }], guard := some (12, true) }) (v := ?_) rfl (by kernel_rfl) (by kernel_rfl) (by kernel_rfl) (fun _ _ _ h => h) (Or.inl ⟨by kernel_rfl, ?_⟩) hHeld ?_
          rotate_left
          · intro w hSw
            try dsimp only at hSw
            go_simp
            with_reducible rfl
          try simp only [Act.put, List.setIfInBounds_toArray, List.set_cons_zero, List.set_cons_succ]
          refine wpAnyH_ready (rs := [17]) (by kernel_rfl) (by simp) ?_
          refine AllReadyH.cons (o := { dst := some 119, op := Op.call { callee := Callee.value (Operand.func 14), args := #[Operand.tmp 116, Operand.tmp 118], argTypes := #[22, 22] }, type := 4, pos := "law.go:66", after := #[{ on := 14, ground := Ground.data }, { on := 16, ground := Ground.data }, { on := 12, ground := Ground.chain }, { on := 12, ground := Ground.guard }], guard := some (12, true) }) rfl (fun K hK => ?_) AllReadyH.nil
          go_simp
          refine (HS3.out _ hB2).mono ?_
          rintro r Wn2 ⟨rfl, hbn2⟩
          have hB3 := hB2.trans (hbn2.mono hB2.size)
          clear hB2 hbn2
          clear hHeld
          refine hK.out _ _ (HS.out _ hB3) (fun hHeld => ?_)
          clear hK K
          try simp only [Act.put, List.setIfInBounds_toArray, List.set_cons_zero, List.set_cons_succ]
          refine wpAnyH_take (i := 18) (oi := { dst := some 120, op := Op.pick (Operand.tmp 114) (Operand.tmp 119) (Operand.const (Value.bool false)), type := 4, pos := "law.go:66", after := #[{ on := 12, ground := Ground.data }, { on := 17, ground := Ground.data }], guard := none }) (v := ?_) rfl (by kernel_rfl) (by kernel_rfl) (by kernel_rfl) (fun _ _ _ h => h) (Or.inl ⟨by kernel_rfl, ?_⟩) hHeld ?_
          rotate_left
          · intro w hSw
            try dsimp only at hSw
            go_simp
            with_reducible rfl
          try simp only [Act.put, List.setIfInBounds_toArray, List.set_cons_zero, List.set_cons_succ]
          refine wpAnyH_take (i := 19) (oi := { dst := some 121, op := Op.move (Operand.tmp 120), type := 4, pos := "law.go:66", after := #[{ on := 18, ground := Ground.data }, { on := 17, ground := Ground.chain }], guard := none }) (v := ?_) rfl (by kernel_rfl) (by kernel_rfl) (by kernel_rfl) (fun _ _ _ h => h) (Or.inl ⟨by kernel_rfl, ?_⟩) hHeld ?_
          rotate_left
          · intro w hSw
            try dsimp only at hSw
            go_simp
            with_reducible rfl
          try simp only [Act.put, List.setIfInBounds_toArray, List.set_cons_zero, List.set_cons_succ]
          refine wpAnyH_take (i := 20) (oi := { dst := some 122, op := Op.fieldAddr 26 (Operand.tmp 11) 0, type := 0, pos := "law.go:66", after := #[{ on := 19, ground := Ground.guard }], guard := some (19, true) }) (v := ?_) rfl (by kernel_rfl) (by kernel_rfl) (by kernel_rfl) (fun _ _ _ h => h) (Or.inl ⟨by kernel_rfl, ?_⟩) hHeld ?_
          rotate_left
          · intro w hSw
            try dsimp only at hSw
            go_simp
            with_reducible rfl
          try simp only [Act.put, List.setIfInBounds_toArray, List.set_cons_zero, List.set_cons_succ]
          refine wpAnyH_take (i := 21) (oi := { dst := some 123, op := Op.load 22 (Operand.tmp 122), type := 22, pos := "law.go:66", after := #[{ on := 20, ground := Ground.data }, { on := 19, ground := Ground.guard }], guard := some (19, true) }) (v := ?_) rfl (by kernel_rfl) (by kernel_rfl) (by kernel_rfl) (fun _ _ _ h => h) (Or.inl ⟨by kernel_rfl, ?_⟩) hHeld ?_
          rotate_left
          · intro w hSw
            try dsimp only at hSw
            go_simp
            with_reducible rfl
          try simp only [Act.put, List.setIfInBounds_toArray, List.set_cons_zero, List.set_cons_succ]
          refine wpAnyH_take (i := 22) (oi := { dst := some 124, op := Op.fieldAddr 26 (Operand.tmp 13) 0, type := 0, pos := "law.go:66", after := #[{ on := 19, ground := Ground.guard }], guard := some (19, true) }) (v := ?_) rfl (by kernel_rfl) (by kernel_rfl) (by kernel_rfl) (fun _ _ _ h => h) (Or.inl ⟨by kernel_rfl, ?_⟩) hHeld ?_
          rotate_left
          · intro w hSw
            try dsimp only at hSw
            go_simp
            with_reducible rfl
          try simp only [Act.put, List.setIfInBounds_toArray, List.set_cons_zero, List.set_cons_succ]
          refine wpAnyH_take (i := 23) (oi := { dst := some 125, op := Op.load 22 (Operand.tmp 124), type := 22, pos := "law.go:66", after := #[{ on := 22, ground := Ground.data }, { on := 19, ground := Ground.guard }], guard := some (19, true) }) (v := ?_) rfl (by kernel_rfl) (by kernel_rfl) (by kernel_rfl) (fun _ _ _ h => h) (Or.inl ⟨by kernel_rfl, ?_⟩) hHeld ?_
          rotate_left
          · intro w hSw
            try dsimp only at hSw
            go_simp
            with_reducible rfl
          try simp only [Act.put, List.setIfInBounds_toArray, List.set_cons_zero, List.set_cons_succ]
          refine wpAnyH_ready (rs := [24]) (by kernel_rfl) (by simp) ?_
          refine AllReadyH.cons (o := { dst := some 126, op := Op.call { callee := Callee.value (Operand.func 14), args := #[Operand.tmp 123, Operand.tmp 125], argTypes := #[22, 22] }, type := 4, pos := "law.go:66", after := #[{ on := 21, ground := Ground.data }, { on := 23, ground := Ground.data }, { on := 19, ground := Ground.chain }, { on := 19, ground := Ground.guard }], guard := some (19, true) }) rfl (fun K hK => ?_) AllReadyH.nil
          go_simp
          refine (HS4.out _ hB3).mono ?_
          rintro r Wn3 ⟨rfl, hbn3⟩
          have hB4 := hB3.trans (hbn3.mono hB3.size)
          clear hB3 hbn3
          clear hHeld
          refine hK.out _ _ (HS.out _ hB4) (fun hHeld => ?_)
          clear hK K
          try simp only [Act.put, List.setIfInBounds_toArray, List.set_cons_zero, List.set_cons_succ]
          refine wpAnyH_take (i := 25) (oi := { dst := some 127, op := Op.move (Operand.tmp 126), type := 4, pos := "law.go:66", after := #[{ on := 24, ground := Ground.data }, { on := 24, ground := Ground.chain }, { on := 19, ground := Ground.guard }], guard := some (19, true) }) (v := ?_) rfl (by kernel_rfl) (by kernel_rfl) (by kernel_rfl) (fun _ _ _ h => h) (Or.inl ⟨by kernel_rfl, ?_⟩) hHeld ?_
          rotate_left
          · intro w hSw
            try dsimp only at hSw
            go_simp
            with_reducible rfl
          try simp only [Act.put, List.setIfInBounds_toArray, List.set_cons_zero, List.set_cons_succ]
          refine wpAnyH_take (i := 26) (oi := { dst := some 128, op := Op.load 26 (Operand.tmp 11), type := 26, pos := "law.go:66", after := #[{ on := 25, ground := Ground.guard }], guard := some (25, false) }) (v := ?_) rfl (by kernel_rfl) (by kernel_rfl) (by kernel_rfl) (fun _ _ _ h => h) (Or.inl ⟨by kernel_rfl, ?_⟩) hHeld ?_
          rotate_left
          · intro w hSw
            try dsimp only at hSw
            go_simp
            with_reducible rfl
          try simp only [Act.put, List.setIfInBounds_toArray, List.set_cons_zero, List.set_cons_succ]
          refine wpAnyH_ready (rs := [27]) (by kernel_rfl) (by simp) ?_
          refine AllReadyH.cons (o := { dst := some 129, op := Op.call { callee := Callee.value (Operand.func 12), args := #[Operand.tmp 128], argTypes := #[26] }, type := 4, pos := "law.go:66", after := #[{ on := 26, ground := Ground.data }, { on := 25, ground := Ground.chain }, { on := 25, ground := Ground.guard }], guard := some (25, false) }) rfl (fun K hK => ?_) AllReadyH.nil
          go_simp
          refine (HRX.out _ hB4).mono ?_
          rintro r Wn4 ⟨rfl, hbn4⟩
          have hB5 := hB4.trans (hbn4.mono hB4.size)
          clear hB4 hbn4
          clear hHeld
          refine hK.out _ _ (HS.out _ hB5) (fun hHeld => ?_)
          clear hK K
          try simp only [Act.put, List.setIfInBounds_toArray, List.set_cons_zero, List.set_cons_succ]
          refine wpAnyH_take (i := 28) (oi := { dst := some 130, op := Op.unOp UnOp.not 4 (Operand.tmp 129), type := 4, pos := "law.go:66", after := #[{ on := 27, ground := Ground.data }, { on := 25, ground := Ground.guard }], guard := some (25, false) }) (v := ?_) rfl (by kernel_rfl) (by kernel_rfl) (by kernel_rfl) (fun _ _ _ h => h) (Or.inl ⟨by kernel_rfl, ?_⟩) hHeld ?_
          rotate_left
          · intro w hSw
            try dsimp only at hSw
            go_simp
            with_reducible rfl
          try simp only [Act.put, List.setIfInBounds_toArray, List.set_cons_zero, List.set_cons_succ]
          refine wpAnyH_take (i := 29) (oi := { dst := some 131, op := Op.pick (Operand.tmp 127) (Operand.const (Value.bool true)) (Operand.tmp 130), type := 4, pos := "law.go:66", after := #[{ on := 25, ground := Ground.data }, { on := 28, ground := Ground.data }, { on := 19, ground := Ground.guard }], guard := some (19, true) }) (v := ?_) rfl (by kernel_rfl) (by kernel_rfl) (by kernel_rfl) (fun _ _ _ h => h) (Or.inl ⟨by kernel_rfl, ?_⟩) hHeld ?_
          rotate_left
          · intro w hSw
            try dsimp only at hSw
            go_simp
            with_reducible rfl
          try simp only [Act.put, List.setIfInBounds_toArray, List.set_cons_zero, List.set_cons_succ]
          refine wpAnyH_take (i := 30) (oi := { dst := some 132, op := Op.move (Operand.tmp 131), type := 4, pos := "law.go:66", after := #[{ on := 29, ground := Ground.data }, { on := 27, ground := Ground.chain }, { on := 19, ground := Ground.guard }], guard := some (19, true) }) (v := ?_) rfl (by kernel_rfl) (by kernel_rfl) (by kernel_rfl) (fun _ _ _ h => h) (Or.inl ⟨by kernel_rfl, ?_⟩) hHeld ?_
          rotate_left
          · intro w hSw
            try dsimp only at hSw
            go_simp
            with_reducible rfl
          try simp only [Act.put, List.setIfInBounds_toArray, List.set_cons_zero, List.set_cons_succ]
          refine wpAnyH_take (i := 31) (oi := { dst := some 133, op := Op.load 26 (Operand.tmp 13), type := 26, pos := "law.go:66", after := #[{ on := 30, ground := Ground.guard }], guard := some (30, false) }) (v := undef) rfl (by kernel_rfl) (by kernel_rfl) (by kernel_rfl) (fun _ _ _ h => h) (Or.inr ⟨by kernel_rfl, rfl⟩) hHeld ?_
          try simp only [Act.put, List.setIfInBounds_toArray, List.set_cons_zero, List.set_cons_succ]
          refine wpAnyH_ready (rs := [32]) (by kernel_rfl) (by simp) ?_
          refine AllReadyH.cons (o := { dst := some 134, op := Op.call { callee := Callee.value (Operand.func 12), args := #[Operand.tmp 133], argTypes := #[26] }, type := 4, pos := "law.go:66", after := #[{ on := 31, ground := Ground.data }, { on := 30, ground := Ground.chain }, { on := 30, ground := Ground.guard }], guard := some (30, false) }) rfl (fun K hK => ?_) AllReadyH.nil
          go_simp
          refine hK.out _ _ hHeld (fun hHeld => ?_)
          clear hK K
          try simp only [Act.put, List.setIfInBounds_toArray, List.set_cons_zero, List.set_cons_succ]
          refine wpAnyH_take (i := 33) (oi := { dst := some 135, op := Op.unOp UnOp.not 4 (Operand.tmp 134), type := 4, pos := "law.go:66", after := #[{ on := 32, ground := Ground.data }, { on := 30, ground := Ground.guard }], guard := some (30, false) }) (v := undef) rfl (by kernel_rfl) (by kernel_rfl) (by kernel_rfl) (fun _ _ _ h => h) (Or.inr ⟨by kernel_rfl, rfl⟩) hHeld ?_
          try simp only [Act.put, List.setIfInBounds_toArray, List.set_cons_zero, List.set_cons_succ]
          refine wpAnyH_take (i := 34) (oi := { dst := some 136, op := Op.pick (Operand.tmp 132) (Operand.const (Value.bool true)) (Operand.tmp 135), type := 4, pos := "law.go:66", after := #[{ on := 30, ground := Ground.data }, { on := 33, ground := Ground.data }, { on := 19, ground := Ground.guard }], guard := some (19, true) }) (v := ?_) rfl (by kernel_rfl) (by kernel_rfl) (by kernel_rfl) (fun _ _ _ h => h) (Or.inl ⟨by kernel_rfl, ?_⟩) hHeld ?_
          rotate_left
          · intro w hSw
            try dsimp only at hSw
            go_simp
            with_reducible rfl
          try simp only [Act.put, List.setIfInBounds_toArray, List.set_cons_zero, List.set_cons_succ]
          refine wpAnyH_take (i := 35) (oi := { dst := some 137, op := Op.move (Operand.tmp 136), type := 4, pos := "law.go:66", after := #[{ on := 34, ground := Ground.data }, { on := 32, ground := Ground.chain }, { on := 19, ground := Ground.guard }], guard := some (19, true) }) (v := ?_) rfl (by kernel_rfl) (by kernel_rfl) (by kernel_rfl) (fun _ _ _ h => h) (Or.inl ⟨by kernel_rfl, ?_⟩) hHeld ?_
          rotate_left
          · intro w hSw
            try dsimp only at hSw
            go_simp
            with_reducible rfl
          try simp only [Act.put, List.setIfInBounds_toArray, List.set_cons_zero, List.set_cons_succ]
          refine wpAnyH_take (i := 36) (oi := { dst := some 138, op := Op.load 26 (Operand.tmp 11), type := 26, pos := "law.go:66", after := #[{ on := 35, ground := Ground.guard }], guard := some (35, false) }) (v := undef) rfl (by kernel_rfl) (by kernel_rfl) (by kernel_rfl) (fun _ _ _ h => h) (Or.inr ⟨by kernel_rfl, rfl⟩) hHeld ?_
          try simp only [Act.put, List.setIfInBounds_toArray, List.set_cons_zero, List.set_cons_succ]
          refine wpAnyH_take (i := 38) (oi := { dst := some 140, op := Op.load 26 (Operand.tmp 13), type := 26, pos := "law.go:66", after := #[{ on := 35, ground := Ground.guard }], guard := some (35, false) }) (v := undef) rfl (by kernel_rfl) (by kernel_rfl) (by kernel_rfl) (fun _ _ _ h => h) (Or.inr ⟨by kernel_rfl, rfl⟩) hHeld ?_
          try simp only [Act.put, List.setIfInBounds_toArray, List.set_cons_zero, List.set_cons_succ]
          refine wpAnyH_ready (rs := [37]) (by kernel_rfl) (by simp) ?_
          refine AllReadyH.cons (o := { dst := some 139, op := Op.call { callee := Callee.value (Operand.func 8), args := #[Operand.tmp 138], argTypes := #[26] }, type := 9, pos := "law.go:66", after := #[{ on := 36, ground := Ground.data }, { on := 35, ground := Ground.chain }, { on := 35, ground := Ground.guard }], guard := some (35, false) }) rfl (fun K hK => ?_) AllReadyH.nil
          go_simp
          refine hK.out _ _ hHeld (fun hHeld => ?_)
          clear hK K
          try simp only [Act.put, List.setIfInBounds_toArray, List.set_cons_zero, List.set_cons_succ]
          refine wpAnyH_ready (rs := [39]) (by kernel_rfl) (by simp) ?_
          refine AllReadyH.cons (o := { dst := some 141, op := Op.call { callee := Callee.value (Operand.func 8), args := #[Operand.tmp 140], argTypes := #[26] }, type := 9, pos := "law.go:66", after := #[{ on := 38, ground := Ground.data }, { on := 37, ground := Ground.chain }, { on := 35, ground := Ground.guard }], guard := some (35, false) }) rfl (fun K hK => ?_) AllReadyH.nil
          go_simp
          refine hK.out _ _ hHeld (fun hHeld => ?_)
          clear hK K
          try simp only [Act.put, List.setIfInBounds_toArray, List.set_cons_zero, List.set_cons_succ]
          refine wpAnyH_take (i := 40) (oi := { dst := some 142, op := Op.binOp BinOp.neq 9 (Operand.tmp 139) (Operand.tmp 141) 9, type := 4, pos := "law.go:66", after := #[{ on := 37, ground := Ground.data }, { on := 39, ground := Ground.data }, { on := 35, ground := Ground.guard }], guard := some (35, false) }) (v := undef) rfl (by kernel_rfl) (by kernel_rfl) (by kernel_rfl) (fun _ _ _ h => h) (Or.inr ⟨by kernel_rfl, rfl⟩) hHeld ?_
          try simp only [Act.put, List.setIfInBounds_toArray, List.set_cons_zero, List.set_cons_succ]
          refine wpAnyH_take (i := 41) (oi := { dst := some 143, op := Op.pick (Operand.tmp 137) (Operand.const (Value.bool true)) (Operand.tmp 142), type := 4, pos := "law.go:66", after := #[{ on := 35, ground := Ground.data }, { on := 40, ground := Ground.data }, { on := 19, ground := Ground.guard }], guard := some (19, true) }) (v := ?_) rfl (by kernel_rfl) (by kernel_rfl) (by kernel_rfl) (fun _ _ _ h => h) (Or.inl ⟨by kernel_rfl, ?_⟩) hHeld ?_
          rotate_left
          · intro w hSw
            try dsimp only at hSw
            go_simp
            with_reducible rfl
          try simp only [Act.put, List.setIfInBounds_toArray, List.set_cons_zero, List.set_cons_succ]
          refine wpAnyH_take (i := 42) (oi := { dst := some 144, op := Op.pick (Operand.tmp 121) (Operand.tmp 143) (Operand.const (Value.bool false)), type := 4, pos := "law.go:66", after := #[{ on := 19, ground := Ground.data }, { on := 41, ground := Ground.data }], guard := none }) (v := ?_) rfl (by kernel_rfl) (by kernel_rfl) (by kernel_rfl) (fun _ _ _ h => h) (Or.inl ⟨by kernel_rfl, ?_⟩) hHeld ?_
          rotate_left
          · intro w hSw
            try dsimp only at hSw
            go_simp
            with_reducible rfl
          try simp only [Act.put, List.setIfInBounds_toArray, List.set_cons_zero, List.set_cons_succ]
          refine wpAnyH_take (i := 43) (oi := { dst := some 6, op := Op.assign (Operand.tmp 144), type := 4, pos := "law.go:66", after := #[{ on := 42, ground := Ground.data }, { on := 39, ground := Ground.chain }, { on := 0, ground := Ground.phase }, { on := 1, ground := Ground.phase }, { on := 2, ground := Ground.phase }, { on := 3, ground := Ground.phase }, { on := 4, ground := Ground.phase }, { on := 5, ground := Ground.phase }, { on := 6, ground := Ground.phase }, { on := 7, ground := Ground.phase }, { on := 8, ground := Ground.phase }, { on := 9, ground := Ground.phase }, { on := 10, ground := Ground.phase }, { on := 11, ground := Ground.phase }, { on := 12, ground := Ground.phase }, { on := 13, ground := Ground.phase }, { on := 14, ground := Ground.phase }, { on := 15, ground := Ground.phase }, { on := 16, ground := Ground.phase }, { on := 17, ground := Ground.phase }, { on := 18, ground := Ground.phase }, { on := 19, ground := Ground.phase }, { on := 20, ground := Ground.phase }, { on := 21, ground := Ground.phase }, { on := 22, ground := Ground.phase }, { on := 23, ground := Ground.phase }, { on := 24, ground := Ground.phase }, { on := 25, ground := Ground.phase }, { on := 26, ground := Ground.phase }, { on := 27, ground := Ground.phase }, { on := 28, ground := Ground.phase }, { on := 29, ground := Ground.phase }, { on := 30, ground := Ground.phase }, { on := 31, ground := Ground.phase }, { on := 32, ground := Ground.phase }, { on := 33, ground := Ground.phase }, { on := 34, ground := Ground.phase }, { on := 35, ground := Ground.phase }, { on := 36, ground := Ground.phase }, { on := 37, ground := Ground.phase }, { on := 38, ground := Ground.phase }, { on := 39, ground := Ground.phase }, { on := 40, ground := Ground.phase }, { on := 41, ground := Ground.phase }, { on := 42, ground := Ground.phase }], guard := none }) (v := ?_) rfl (by kernel_rfl) (by kernel_rfl) (by kernel_rfl) (fun _ _ _ h => h) (Or.inl ⟨by kernel_rfl, ?_⟩) hHeld ?_
          rotate_left
          · intro w hSw
            try dsimp only at hSw
            go_simp
            with_reducible rfl
          try simp only [Act.put, List.setIfInBounds_toArray, List.set_cons_zero, List.set_cons_succ]
          refine wpAnyH_done (by kernel_rfl) ?_ _
          )
          have HBQ := Lib.hid hB5
          clear hHeld
        case' true =>
          rw [hr1] at HRX
          cases hr2 : R2
          case' false =>
            rw [hr2] at HRZ
            clear hsame HINJ HPX HPZ
            (
          refine wp_region_held_drew (S := fun W => (W.cell? ⟨Bx, 0, none⟩ = some (.slice xa SA.length xc) ∧ W.cell? ⟨Bx, 1, none⟩ = some (.bool true)) ∧ W.cell? ⟨Bx + 1, 0, none⟩ = some (.slice ya SA.length yc) ∧ (W.cell? ⟨Bx + 1 + 1, 0, none⟩ = some (.slice za SB.length zc) ∧ W.cell? ⟨Bx + 1 + 1, 1, none⟩ = some (.bool true)) ∧ W.cell? ⟨Bw, 0, none⟩ = some (.slice wa SA.length wc) ∧ W.cell? ⟨Bw + 1, 0, none⟩ = some (.slice va SB.length vc)) (by kernel_rfl) (by with_reducible exact hS0) (fun hHeld => ?_)
          refine wpAnyH_take (i := 0) (oi := { dst := some 102, op := Op.fieldAddr 26 (Operand.tmp 11) 0, type := 0, pos := "law.go:66", after := #[], guard := none }) (v := ?_) rfl (by kernel_rfl) (by kernel_rfl) (by kernel_rfl) (fun _ _ _ h => h) (Or.inl ⟨by kernel_rfl, ?_⟩) hHeld ?_
          rotate_left
          · intro w hSw
            try dsimp only at hSw
            go_simp
            with_reducible rfl
          try simp only [Act.put, List.setIfInBounds_toArray, List.set_cons_zero, List.set_cons_succ]
          refine wpAnyH_take (i := 1) (oi := { dst := some 103, op := Op.load 22 (Operand.tmp 102), type := 22, pos := "law.go:66", after := #[{ on := 0, ground := Ground.data }], guard := none }) (v := ?_) rfl (by kernel_rfl) (by kernel_rfl) (by kernel_rfl) (fun _ _ _ h => h) (Or.inl ⟨by kernel_rfl, ?_⟩) hHeld ?_
          rotate_left
          · intro w hSw
            try dsimp only at hSw
            go_simp
            with_reducible rfl
          try simp only [Act.put, List.setIfInBounds_toArray, List.set_cons_zero, List.set_cons_succ]
          refine wpAnyH_take (i := 2) (oi := { dst := some 104, op := Op.fieldAddr 28 (Operand.tmp 14) 0, type := 0, pos := "law.go:66", after := #[], guard := none }) (v := ?_) rfl (by kernel_rfl) (by kernel_rfl) (by kernel_rfl) (fun _ _ _ h => h) (Or.inl ⟨by kernel_rfl, ?_⟩) hHeld ?_
          rotate_left
          · intro w hSw
            try dsimp only at hSw
            go_simp
            with_reducible rfl
          try simp only [Act.put, List.setIfInBounds_toArray, List.set_cons_zero, List.set_cons_succ]
          refine wpAnyH_take (i := 3) (oi := { dst := some 105, op := Op.load 22 (Operand.tmp 104), type := 22, pos := "law.go:66", after := #[{ on := 2, ground := Ground.data }], guard := none }) (v := ?_) rfl (by kernel_rfl) (by kernel_rfl) (by kernel_rfl) (fun _ _ _ h => h) (Or.inl ⟨by kernel_rfl, ?_⟩) hHeld ?_
          rotate_left
          · intro w hSw
            try dsimp only at hSw
            go_simp
            with_reducible rfl
          try simp only [Act.put, List.setIfInBounds_toArray, List.set_cons_zero, List.set_cons_succ]
          refine wpAnyH_ready (rs := [4]) (by kernel_rfl) (by simp) ?_
          refine AllReadyH.cons (o := { dst := some 106, op := Op.call { callee := Callee.value (Operand.func 14), args := #[Operand.tmp 103, Operand.tmp 105], argTypes := #[22, 22] }, type := 4, pos := "law.go:66", after := #[{ on := 1, ground := Ground.data }, { on := 3, ground := Ground.data }], guard := none }) rfl (fun K hK => ?_) AllReadyH.nil
          go_simp
          refine (HS1.out _ hB0).mono ?_
          rintro r Wn0 ⟨rfl, hbn0⟩
          have hB1 := hB0.trans (hbn0.mono hB0.size)
          clear hB0 hbn0
          clear hHeld
          refine hK.out _ _ (HS.out _ hB1) (fun hHeld => ?_)
          clear hK K
          try simp only [Act.put, List.setIfInBounds_toArray, List.set_cons_zero, List.set_cons_succ]
          refine wpAnyH_take (i := 5) (oi := { dst := some 107, op := Op.move (Operand.tmp 106), type := 4, pos := "law.go:66", after := #[{ on := 4, ground := Ground.data }, { on := 4, ground := Ground.chain }], guard := none }) (v := ?_) rfl (by kernel_rfl) (by kernel_rfl) (by kernel_rfl) (fun _ _ _ h => h) (Or.inl ⟨by kernel_rfl, ?_⟩) hHeld ?_
          rotate_left
          · intro w hSw
            try dsimp only at hSw
            go_simp
            with_reducible rfl
          try simp only [Act.put, List.setIfInBounds_toArray, List.set_cons_zero, List.set_cons_succ]
          refine wpAnyH_take (i := 6) (oi := { dst := some 108, op := Op.fieldAddr 26 (Operand.tmp 12) 0, type := 0, pos := "law.go:66", after := #[{ on := 5, ground := Ground.guard }], guard := some (5, true) }) (v := ?_) rfl (by kernel_rfl) (by kernel_rfl) (by kernel_rfl) (fun _ _ _ h => h) (Or.inl ⟨by kernel_rfl, ?_⟩) hHeld ?_
          rotate_left
          · intro w hSw
            try dsimp only at hSw
            go_simp
            with_reducible rfl
          try simp only [Act.put, List.setIfInBounds_toArray, List.set_cons_zero, List.set_cons_succ]
          refine wpAnyH_take (i := 7) (oi := { dst := some 109, op := Op.load 22 (Operand.tmp 108), type := 22, pos := "law.go:66", after := #[{ on := 6, ground := Ground.data }, { on := 5, ground := Ground.guard }], guard := some (5, true) }) (v := ?_) rfl (by kernel_rfl) (by kernel_rfl) (by kernel_rfl) (fun _ _ _ h => h) (Or.inl ⟨by kernel_rfl, ?_⟩) hHeld ?_
          rotate_left
          · intro w hSw
            try dsimp only at hSw
            go_simp
            with_reducible rfl
          try simp only [Act.put, List.setIfInBounds_toArray, List.set_cons_zero, List.set_cons_succ]
          refine wpAnyH_take (i := 8) (oi := { dst := some 110, op := Op.fieldAddr 28 (Operand.tmp 14) 0, type := 0, pos := "law.go:66", after := #[{ on := 5, ground := Ground.guard }], guard := some (5, true) }) (v := ?_) rfl (by kernel_rfl) (by kernel_rfl) (by kernel_rfl) (fun _ _ _ h => h) (Or.inl ⟨by kernel_rfl, ?_⟩) hHeld ?_
          rotate_left
          · intro w hSw
            try dsimp only at hSw
            go_simp
            with_reducible rfl
          try simp only [Act.put, List.setIfInBounds_toArray, List.set_cons_zero, List.set_cons_succ]
          refine wpAnyH_take (i := 9) (oi := { dst := some 111, op := Op.load 22 (Operand.tmp 110), type := 22, pos := "law.go:66", after := #[{ on := 8, ground := Ground.data }, { on := 5, ground := Ground.guard }], guard := some (5, true) }) (v := ?_) rfl (by kernel_rfl) (by kernel_rfl) (by kernel_rfl) (fun _ _ _ h => h) (Or.inl ⟨by kernel_rfl, ?_⟩) hHeld ?_
          rotate_left
          · intro w hSw
            try dsimp only at hSw
            go_simp
            with_reducible rfl
          try simp only [Act.put, List.setIfInBounds_toArray, List.set_cons_zero, List.set_cons_succ]
          refine wpAnyH_ready (rs := [10]) (by kernel_rfl) (by simp) ?_
          refine AllReadyH.cons (o := { dst := some 112, op := Op.call { callee := Callee.value (Operand.func 14), args := #[Operand.tmp 109, Operand.tmp 111], argTypes := #[22, 22] }, type := 4, pos := "law.go:66", after := #[{ on := 7, ground := Ground.data }, { on := 9, ground := Ground.data }, { on := 5, ground := Ground.chain }, { on := 5, ground := Ground.guard }], guard := some (5, true) }) rfl (fun K hK => ?_) AllReadyH.nil
          go_simp
          refine (HS2.out _ hB1).mono ?_
          rintro r Wn1 ⟨rfl, hbn1⟩
          have hB2 := hB1.trans (hbn1.mono hB1.size)
          clear hB1 hbn1
          clear hHeld
          refine hK.out _ _ (HS.out _ hB2) (fun hHeld => ?_)
          clear hK K
          try simp only [Act.put, List.setIfInBounds_toArray, List.set_cons_zero, List.set_cons_succ]
          refine wpAnyH_take (i := 11) (oi := { dst := some 113, op := Op.pick (Operand.tmp 107) (Operand.tmp 112) (Operand.const (Value.bool false)), type := 4, pos := "law.go:66", after := #[{ on := 5, ground := Ground.data }, { on := 10, ground := Ground.data }], guard := none }) (v := ?_) rfl (by kernel_rfl) (by kernel_rfl) (by kernel_rfl) (fun _ _ _ h => h) (Or.inl ⟨by kernel_rfl, ?_⟩) hHeld ?_
          rotate_left
          · intro w hSw
            try dsimp only at hSw
            go_simp
            with_reducible rfl
          try simp only [Act.put, List.setIfInBounds_toArray, List.set_cons_zero, List.set_cons_succ]
          refine wpAnyH_take (i := 12) (oi := { dst := some 114, op := Op.move (Operand.tmp 113), type := 4, pos := "law.go:66", after := #[{ on := 11, ground := Ground.data }, { on := 10, ground := Ground.chain }], guard := none }) (v := ?_) rfl (by kernel_rfl) (by kernel_rfl) (by kernel_rfl) (fun _ _ _ h => h) (Or.inl ⟨by kernel_rfl, ?_⟩) hHeld ?_
          rotate_left
          · intro w hSw
            try dsimp only at hSw
            go_simp
            with_reducible rfl
          try simp only [Act.put, List.setIfInBounds_toArray, List.set_cons_zero, List.set_cons_succ]
          refine wpAnyH_take (i := 13) (oi := { dst := some 115, op := Op.fieldAddr 26 (Operand.tmp 13) 0, type := 0, pos := "law.go:66", after := #[{ on := 12, ground := Ground.guard }], guard := some (12, true) }) (v := ?_) rfl (by kernel_rfl) (by kernel_rfl) (by kernel_rfl) (fun _ _ _ h => h) (Or.inl ⟨by kernel_rfl, ?_⟩) hHeld ?_
          rotate_left
          · intro w hSw
            try dsimp only at hSw
            go_simp
            with_reducible rfl
          try simp only [Act.put, List.setIfInBounds_toArray, List.set_cons_zero, List.set_cons_succ]
          refine wpAnyH_take (i := 14) (oi := { dst := some 116, op := Op.load 22 (Operand.tmp 115), type := 22, pos := "law.go:66", after := #[{ on := 13, ground := Ground.data }, { on := 12, ground := Ground.guard }], guard := some (12, true) }) (v := ?_) rfl (by kernel_rfl) (by kernel_rfl) (by kernel_rfl) (fun _ _ _ h => h) (Or.inl ⟨by kernel_rfl, ?_⟩) hHeld ?_
          rotate_left
          · intro w hSw
            try dsimp only at hSw
            go_simp
            with_reducible rfl
          try simp only [Act.put, List.setIfInBounds_toArray, List.set_cons_zero, List.set_cons_succ]
          refine wpAnyH_take (i := 15) (oi := { dst := some 117, op := Op.fieldAddr 28 (Operand.tmp 15) 0, type := 0, pos := "law.go:66", after := #[{ on := 12, ground := Ground.guard }], guard := some (12, true) }) (v := ?_) rfl (by kernel_rfl) (by kernel_rfl) (by kernel_rfl) (fun _ _ _ h => h) (Or.inl ⟨by kernel_rfl, ?_⟩) hHeld ?_
          rotate_left
          · intro w hSw
            try dsimp only at hSw
            go_simp
            with_reducible rfl
          try simp only [Act.put, List.setIfInBounds_toArray, List.set_cons_zero, List.set_cons_succ]
          refine wpAnyH_take (i := 16) (oi := { dst := some 118, op := Op.load 22 (Operand.tmp 117), type := 22, pos := "law.go:66", after := #[{ on := 15, ground := Ground.data }, { on := 12, ground := Ground.guard }], guard := some (12, true) }) (v := ?_) rfl (by kernel_rfl) (by kernel_rfl) (by kernel_rfl) (fun _ _ _ h => h) (Or.inl ⟨by kernel_rfl, ?_⟩) hHeld ?_
          rotate_left
          · intro w hSw
            try dsimp only at hSw
            go_simp
            with_reducible rfl
          try simp only [Act.put, List.setIfInBounds_toArray, List.set_cons_zero, List.set_cons_succ]
          refine wpAnyH_ready (rs := [17]) (by kernel_rfl) (by simp) ?_
          refine AllReadyH.cons (o := { dst := some 119, op := Op.call { callee := Callee.value (Operand.func 14), args := #[Operand.tmp 116, Operand.tmp 118], argTypes := #[22, 22] }, type := 4, pos := "law.go:66", after := #[{ on := 14, ground := Ground.data }, { on := 16, ground := Ground.data }, { on := 12, ground := Ground.chain }, { on := 12, ground := Ground.guard }], guard := some (12, true) }) rfl (fun K hK => ?_) AllReadyH.nil
          go_simp
          refine (HS3.out _ hB2).mono ?_
          rintro r Wn2 ⟨rfl, hbn2⟩
          have hB3 := hB2.trans (hbn2.mono hB2.size)
          clear hB2 hbn2
          clear hHeld
          refine hK.out _ _ (HS.out _ hB3) (fun hHeld => ?_)
          clear hK K
          try simp only [Act.put, List.setIfInBounds_toArray, List.set_cons_zero, List.set_cons_succ]
          refine wpAnyH_take (i := 18) (oi := { dst := some 120, op := Op.pick (Operand.tmp 114) (Operand.tmp 119) (Operand.const (Value.bool false)), type := 4, pos := "law.go:66", after := #[{ on := 12, ground := Ground.data }, { on := 17, ground := Ground.data }], guard := none }) (v := ?_) rfl (by kernel_rfl) (by kernel_rfl) (by kernel_rfl) (fun _ _ _ h => h) (Or.inl ⟨by kernel_rfl, ?_⟩) hHeld ?_
          rotate_left
          · intro w hSw
            try dsimp only at hSw
            go_simp
            with_reducible rfl
          try simp only [Act.put, List.setIfInBounds_toArray, List.set_cons_zero, List.set_cons_succ]
          refine wpAnyH_take (i := 19) (oi := { dst := some 121, op := Op.move (Operand.tmp 120), type := 4, pos := "law.go:66", after := #[{ on := 18, ground := Ground.data }, { on := 17, ground := Ground.chain }], guard := none }) (v := ?_) rfl (by kernel_rfl) (by kernel_rfl) (by kernel_rfl) (fun _ _ _ h => h) (Or.inl ⟨by kernel_rfl, ?_⟩) hHeld ?_
          rotate_left
          · intro w hSw
            try dsimp only at hSw
            go_simp
            with_reducible rfl
          try simp only [Act.put, List.setIfInBounds_toArray, List.set_cons_zero, List.set_cons_succ]
          refine wpAnyH_take (i := 20) (oi := { dst := some 122, op := Op.fieldAddr 26 (Operand.tmp 11) 0, type := 0, pos := "law.go:66", after := #[{ on := 19, ground := Ground.guard }], guard := some (19, true) }) (v := ?_) rfl (by kernel_rfl) (by kernel_rfl) (by kernel_rfl) (fun _ _ _ h => h) (Or.inl ⟨by kernel_rfl, ?_⟩) hHeld ?_
          rotate_left
          · intro w hSw
            try dsimp only at hSw
            go_simp
            with_reducible rfl
          try simp only [Act.put, List.setIfInBounds_toArray, List.set_cons_zero, List.set_cons_succ]
          refine wpAnyH_take (i := 21) (oi := { dst := some 123, op := Op.load 22 (Operand.tmp 122), type := 22, pos := "law.go:66", after := #[{ on := 20, ground := Ground.data }, { on := 19, ground := Ground.guard }], guard := some (19, true) }) (v := ?_) rfl (by kernel_rfl) (by kernel_rfl) (by kernel_rfl) (fun _ _ _ h => h) (Or.inl ⟨by kernel_rfl, ?_⟩) hHeld ?_
          rotate_left
          · intro w hSw
            try dsimp only at hSw
            go_simp
            with_reducible rfl
          try simp only [Act.put, List.setIfInBounds_toArray, List.set_cons_zero, List.set_cons_succ]
          refine wpAnyH_take (i := 22) (oi := { dst := some 124, op := Op.fieldAddr 26 (Operand.tmp 13) 0, type := 0, pos := "law.go:66", after := #[{ on := 19, ground := Ground.guard }], guard := some (19, true) }) (v := ?_) rfl (by kernel_rfl) (by kernel_rfl) (by kernel_rfl) (fun _ _ _ h => h) (Or.inl ⟨by kernel_rfl, ?_⟩) hHeld ?_
          rotate_left
          · intro w hSw
            try dsimp only at hSw
            go_simp
            with_reducible rfl
          try simp only [Act.put, List.setIfInBounds_toArray, List.set_cons_zero, List.set_cons_succ]
          refine wpAnyH_take (i := 23) (oi := { dst := some 125, op := Op.load 22 (Operand.tmp 124), type := 22, pos := "law.go:66", after := #[{ on := 22, ground := Ground.data }, { on := 19, ground := Ground.guard }], guard := some (19, true) }) (v := ?_) rfl (by kernel_rfl) (by kernel_rfl) (by kernel_rfl) (fun _ _ _ h => h) (Or.inl ⟨by kernel_rfl, ?_⟩) hHeld ?_
          rotate_left
          · intro w hSw
            try dsimp only at hSw
            go_simp
            with_reducible rfl
          try simp only [Act.put, List.setIfInBounds_toArray, List.set_cons_zero, List.set_cons_succ]
          refine wpAnyH_ready (rs := [24]) (by kernel_rfl) (by simp) ?_
          refine AllReadyH.cons (o := { dst := some 126, op := Op.call { callee := Callee.value (Operand.func 14), args := #[Operand.tmp 123, Operand.tmp 125], argTypes := #[22, 22] }, type := 4, pos := "law.go:66", after := #[{ on := 21, ground := Ground.data }, { on := 23, ground := Ground.data }, { on := 19, ground := Ground.chain }, { on := 19, ground := Ground.guard }], guard := some (19, true) }) rfl (fun K hK => ?_) AllReadyH.nil
          go_simp
          refine (HS4.out _ hB3).mono ?_
          rintro r Wn3 ⟨rfl, hbn3⟩
          have hB4 := hB3.trans (hbn3.mono hB3.size)
          clear hB3 hbn3
          clear hHeld
          refine hK.out _ _ (HS.out _ hB4) (fun hHeld => ?_)
          clear hK K
          try simp only [Act.put, List.setIfInBounds_toArray, List.set_cons_zero, List.set_cons_succ]
          refine wpAnyH_take (i := 25) (oi := { dst := some 127, op := Op.move (Operand.tmp 126), type := 4, pos := "law.go:66", after := #[{ on := 24, ground := Ground.data }, { on := 24, ground := Ground.chain }, { on := 19, ground := Ground.guard }], guard := some (19, true) }) (v := ?_) rfl (by kernel_rfl) (by kernel_rfl) (by kernel_rfl) (fun _ _ _ h => h) (Or.inl ⟨by kernel_rfl, ?_⟩) hHeld ?_
          rotate_left
          · intro w hSw
            try dsimp only at hSw
            go_simp
            with_reducible rfl
          try simp only [Act.put, List.setIfInBounds_toArray, List.set_cons_zero, List.set_cons_succ]
          refine wpAnyH_take (i := 26) (oi := { dst := some 128, op := Op.load 26 (Operand.tmp 11), type := 26, pos := "law.go:66", after := #[{ on := 25, ground := Ground.guard }], guard := some (25, false) }) (v := ?_) rfl (by kernel_rfl) (by kernel_rfl) (by kernel_rfl) (fun _ _ _ h => h) (Or.inl ⟨by kernel_rfl, ?_⟩) hHeld ?_
          rotate_left
          · intro w hSw
            try dsimp only at hSw
            go_simp
            with_reducible rfl
          try simp only [Act.put, List.setIfInBounds_toArray, List.set_cons_zero, List.set_cons_succ]
          refine wpAnyH_ready (rs := [27]) (by kernel_rfl) (by simp) ?_
          refine AllReadyH.cons (o := { dst := some 129, op := Op.call { callee := Callee.value (Operand.func 12), args := #[Operand.tmp 128], argTypes := #[26] }, type := 4, pos := "law.go:66", after := #[{ on := 26, ground := Ground.data }, { on := 25, ground := Ground.chain }, { on := 25, ground := Ground.guard }], guard := some (25, false) }) rfl (fun K hK => ?_) AllReadyH.nil
          go_simp
          refine (HRX.out _ hB4).mono ?_
          rintro r Wn4 ⟨rfl, hbn4⟩
          have hB5 := hB4.trans (hbn4.mono hB4.size)
          clear hB4 hbn4
          clear hHeld
          refine hK.out _ _ (HS.out _ hB5) (fun hHeld => ?_)
          clear hK K
          try simp only [Act.put, List.setIfInBounds_toArray, List.set_cons_zero, List.set_cons_succ]
          refine wpAnyH_take (i := 28) (oi := { dst := some 130, op := Op.unOp UnOp.not 4 (Operand.tmp 129), type := 4, pos := "law.go:66", after := #[{ on := 27, ground := Ground.data }, { on := 25, ground := Ground.guard }], guard := some (25, false) }) (v := ?_) rfl (by kernel_rfl) (by kernel_rfl) (by kernel_rfl) (fun _ _ _ h => h) (Or.inl ⟨by kernel_rfl, ?_⟩) hHeld ?_
          rotate_left
          · intro w hSw
            try dsimp only at hSw
            go_simp
            with_reducible rfl
          try simp only [Act.put, List.setIfInBounds_toArray, List.set_cons_zero, List.set_cons_succ]
          refine wpAnyH_take (i := 29) (oi := { dst := some 131, op := Op.pick (Operand.tmp 127) (Operand.const (Value.bool true)) (Operand.tmp 130), type := 4, pos := "law.go:66", after := #[{ on := 25, ground := Ground.data }, { on := 28, ground := Ground.data }, { on := 19, ground := Ground.guard }], guard := some (19, true) }) (v := ?_) rfl (by kernel_rfl) (by kernel_rfl) (by kernel_rfl) (fun _ _ _ h => h) (Or.inl ⟨by kernel_rfl, ?_⟩) hHeld ?_
          rotate_left
          · intro w hSw
            try dsimp only at hSw
            go_simp
            with_reducible rfl
          try simp only [Act.put, List.setIfInBounds_toArray, List.set_cons_zero, List.set_cons_succ]
          refine wpAnyH_take (i := 30) (oi := { dst := some 132, op := Op.move (Operand.tmp 131), type := 4, pos := "law.go:66", after := #[{ on := 29, ground := Ground.data }, { on := 27, ground := Ground.chain }, { on := 19, ground := Ground.guard }], guard := some (19, true) }) (v := ?_) rfl (by kernel_rfl) (by kernel_rfl) (by kernel_rfl) (fun _ _ _ h => h) (Or.inl ⟨by kernel_rfl, ?_⟩) hHeld ?_
          rotate_left
          · intro w hSw
            try dsimp only at hSw
            go_simp
            with_reducible rfl
          try simp only [Act.put, List.setIfInBounds_toArray, List.set_cons_zero, List.set_cons_succ]
          refine wpAnyH_take (i := 31) (oi := { dst := some 133, op := Op.load 26 (Operand.tmp 13), type := 26, pos := "law.go:66", after := #[{ on := 30, ground := Ground.guard }], guard := some (30, false) }) (v := ?_) rfl (by kernel_rfl) (by kernel_rfl) (by kernel_rfl) (fun _ _ _ h => h) (Or.inl ⟨by kernel_rfl, ?_⟩) hHeld ?_
          rotate_left
          · intro w hSw
            try dsimp only at hSw
            go_simp
            with_reducible rfl
          try simp only [Act.put, List.setIfInBounds_toArray, List.set_cons_zero, List.set_cons_succ]
          refine wpAnyH_ready (rs := [32]) (by kernel_rfl) (by simp) ?_
          refine AllReadyH.cons (o := { dst := some 134, op := Op.call { callee := Callee.value (Operand.func 12), args := #[Operand.tmp 133], argTypes := #[26] }, type := 4, pos := "law.go:66", after := #[{ on := 31, ground := Ground.data }, { on := 30, ground := Ground.chain }, { on := 30, ground := Ground.guard }], guard := some (30, false) }) rfl (fun K hK => ?_) AllReadyH.nil
          go_simp
          refine (HRZ.out _ hB5).mono ?_
          rintro r Wn5 ⟨rfl, hbn5⟩
          have hB6 := hB5.trans (hbn5.mono hB5.size)
          clear hB5 hbn5
          clear hHeld
          refine hK.out _ _ (HS.out _ hB6) (fun hHeld => ?_)
          clear hK K
          try simp only [Act.put, List.setIfInBounds_toArray, List.set_cons_zero, List.set_cons_succ]
          refine wpAnyH_take (i := 33) (oi := { dst := some 135, op := Op.unOp UnOp.not 4 (Operand.tmp 134), type := 4, pos := "law.go:66", after := #[{ on := 32, ground := Ground.data }, { on := 30, ground := Ground.guard }], guard := some (30, false) }) (v := ?_) rfl (by kernel_rfl) (by kernel_rfl) (by kernel_rfl) (fun _ _ _ h => h) (Or.inl ⟨by kernel_rfl, ?_⟩) hHeld ?_
          rotate_left
          · intro w hSw
            try dsimp only at hSw
            go_simp
            with_reducible rfl
          try simp only [Act.put, List.setIfInBounds_toArray, List.set_cons_zero, List.set_cons_succ]
          refine wpAnyH_take (i := 34) (oi := { dst := some 136, op := Op.pick (Operand.tmp 132) (Operand.const (Value.bool true)) (Operand.tmp 135), type := 4, pos := "law.go:66", after := #[{ on := 30, ground := Ground.data }, { on := 33, ground := Ground.data }, { on := 19, ground := Ground.guard }], guard := some (19, true) }) (v := ?_) rfl (by kernel_rfl) (by kernel_rfl) (by kernel_rfl) (fun _ _ _ h => h) (Or.inl ⟨by kernel_rfl, ?_⟩) hHeld ?_
          rotate_left
          · intro w hSw
            try dsimp only at hSw
            go_simp
            with_reducible rfl
          try simp only [Act.put, List.setIfInBounds_toArray, List.set_cons_zero, List.set_cons_succ]
          refine wpAnyH_take (i := 35) (oi := { dst := some 137, op := Op.move (Operand.tmp 136), type := 4, pos := "law.go:66", after := #[{ on := 34, ground := Ground.data }, { on := 32, ground := Ground.chain }, { on := 19, ground := Ground.guard }], guard := some (19, true) }) (v := ?_) rfl (by kernel_rfl) (by kernel_rfl) (by kernel_rfl) (fun _ _ _ h => h) (Or.inl ⟨by kernel_rfl, ?_⟩) hHeld ?_
          rotate_left
          · intro w hSw
            try dsimp only at hSw
            go_simp
            with_reducible rfl
          try simp only [Act.put, List.setIfInBounds_toArray, List.set_cons_zero, List.set_cons_succ]
          refine wpAnyH_take (i := 36) (oi := { dst := some 138, op := Op.load 26 (Operand.tmp 11), type := 26, pos := "law.go:66", after := #[{ on := 35, ground := Ground.guard }], guard := some (35, false) }) (v := undef) rfl (by kernel_rfl) (by kernel_rfl) (by kernel_rfl) (fun _ _ _ h => h) (Or.inr ⟨by kernel_rfl, rfl⟩) hHeld ?_
          try simp only [Act.put, List.setIfInBounds_toArray, List.set_cons_zero, List.set_cons_succ]
          refine wpAnyH_take (i := 38) (oi := { dst := some 140, op := Op.load 26 (Operand.tmp 13), type := 26, pos := "law.go:66", after := #[{ on := 35, ground := Ground.guard }], guard := some (35, false) }) (v := undef) rfl (by kernel_rfl) (by kernel_rfl) (by kernel_rfl) (fun _ _ _ h => h) (Or.inr ⟨by kernel_rfl, rfl⟩) hHeld ?_
          try simp only [Act.put, List.setIfInBounds_toArray, List.set_cons_zero, List.set_cons_succ]
          refine wpAnyH_ready (rs := [37]) (by kernel_rfl) (by simp) ?_
          refine AllReadyH.cons (o := { dst := some 139, op := Op.call { callee := Callee.value (Operand.func 8), args := #[Operand.tmp 138], argTypes := #[26] }, type := 9, pos := "law.go:66", after := #[{ on := 36, ground := Ground.data }, { on := 35, ground := Ground.chain }, { on := 35, ground := Ground.guard }], guard := some (35, false) }) rfl (fun K hK => ?_) AllReadyH.nil
          go_simp
          refine hK.out _ _ hHeld (fun hHeld => ?_)
          clear hK K
          try simp only [Act.put, List.setIfInBounds_toArray, List.set_cons_zero, List.set_cons_succ]
          refine wpAnyH_ready (rs := [39]) (by kernel_rfl) (by simp) ?_
          refine AllReadyH.cons (o := { dst := some 141, op := Op.call { callee := Callee.value (Operand.func 8), args := #[Operand.tmp 140], argTypes := #[26] }, type := 9, pos := "law.go:66", after := #[{ on := 38, ground := Ground.data }, { on := 37, ground := Ground.chain }, { on := 35, ground := Ground.guard }], guard := some (35, false) }) rfl (fun K hK => ?_) AllReadyH.nil
          go_simp
          refine hK.out _ _ hHeld (fun hHeld => ?_)
          clear hK K
          try simp only [Act.put, List.setIfInBounds_toArray, List.set_cons_zero, List.set_cons_succ]
          refine wpAnyH_take (i := 40) (oi := { dst := some 142, op := Op.binOp BinOp.neq 9 (Operand.tmp 139) (Operand.tmp 141) 9, type := 4, pos := "law.go:66", after := #[{ on := 37, ground := Ground.data }, { on := 39, ground := Ground.data }, { on := 35, ground := Ground.guard }], guard := some (35, false) }) (v := undef) rfl (by kernel_rfl) (by kernel_rfl) (by kernel_rfl) (fun _ _ _ h => h) (Or.inr ⟨by kernel_rfl, rfl⟩) hHeld ?_
          try simp only [Act.put, List.setIfInBounds_toArray, List.set_cons_zero, List.set_cons_succ]
          refine wpAnyH_take (i := 41) (oi := { dst := some 143, op := Op.pick (Operand.tmp 137) (Operand.const (Value.bool true)) (Operand.tmp 142), type := 4, pos := "law.go:66", after := #[{ on := 35, ground := Ground.data }, { on := 40, ground := Ground.data }, { on := 19, ground := Ground.guard }], guard := some (19, true) }) (v := ?_) rfl (by kernel_rfl) (by kernel_rfl) (by kernel_rfl) (fun _ _ _ h => h) (Or.inl ⟨by kernel_rfl, ?_⟩) hHeld ?_
          rotate_left
          · intro w hSw
            try dsimp only at hSw
            go_simp
            with_reducible rfl
          try simp only [Act.put, List.setIfInBounds_toArray, List.set_cons_zero, List.set_cons_succ]
          refine wpAnyH_take (i := 42) (oi := { dst := some 144, op := Op.pick (Operand.tmp 121) (Operand.tmp 143) (Operand.const (Value.bool false)), type := 4, pos := "law.go:66", after := #[{ on := 19, ground := Ground.data }, { on := 41, ground := Ground.data }], guard := none }) (v := ?_) rfl (by kernel_rfl) (by kernel_rfl) (by kernel_rfl) (fun _ _ _ h => h) (Or.inl ⟨by kernel_rfl, ?_⟩) hHeld ?_
          rotate_left
          · intro w hSw
            try dsimp only at hSw
            go_simp
            with_reducible rfl
          try simp only [Act.put, List.setIfInBounds_toArray, List.set_cons_zero, List.set_cons_succ]
          refine wpAnyH_take (i := 43) (oi := { dst := some 6, op := Op.assign (Operand.tmp 144), type := 4, pos := "law.go:66", after := #[{ on := 42, ground := Ground.data }, { on := 39, ground := Ground.chain }, { on := 0, ground := Ground.phase }, { on := 1, ground := Ground.phase }, { on := 2, ground := Ground.phase }, { on := 3, ground := Ground.phase }, { on := 4, ground := Ground.phase }, { on := 5, ground := Ground.phase }, { on := 6, ground := Ground.phase }, { on := 7, ground := Ground.phase }, { on := 8, ground := Ground.phase }, { on := 9, ground := Ground.phase }, { on := 10, ground := Ground.phase }, { on := 11, ground := Ground.phase }, { on := 12, ground := Ground.phase }, { on := 13, ground := Ground.phase }, { on := 14, ground := Ground.phase }, { on := 15, ground := Ground.phase }, { on := 16, ground := Ground.phase }, { on := 17, ground := Ground.phase }, { on := 18, ground := Ground.phase }, { on := 19, ground := Ground.phase }, { on := 20, ground := Ground.phase }, { on := 21, ground := Ground.phase }, { on := 22, ground := Ground.phase }, { on := 23, ground := Ground.phase }, { on := 24, ground := Ground.phase }, { on := 25, ground := Ground.phase }, { on := 26, ground := Ground.phase }, { on := 27, ground := Ground.phase }, { on := 28, ground := Ground.phase }, { on := 29, ground := Ground.phase }, { on := 30, ground := Ground.phase }, { on := 31, ground := Ground.phase }, { on := 32, ground := Ground.phase }, { on := 33, ground := Ground.phase }, { on := 34, ground := Ground.phase }, { on := 35, ground := Ground.phase }, { on := 36, ground := Ground.phase }, { on := 37, ground := Ground.phase }, { on := 38, ground := Ground.phase }, { on := 39, ground := Ground.phase }, { on := 40, ground := Ground.phase }, { on := 41, ground := Ground.phase }, { on := 42, ground := Ground.phase }], guard := none }) (v := ?_) rfl (by kernel_rfl) (by kernel_rfl) (by kernel_rfl) (fun _ _ _ h => h) (Or.inl ⟨by kernel_rfl, ?_⟩) hHeld ?_
          rotate_left
          · intro w hSw
            try dsimp only at hSw
            go_simp
            with_reducible rfl
          try simp only [Act.put, List.setIfInBounds_toArray, List.set_cons_zero, List.set_cons_succ]
          refine wpAnyH_done (by kernel_rfl) ?_ _
            )
            have HBQ := Lib.hid hB6
            clear hHeld
          case' true =>
            rw [hr2] at HRZ
            have hpp := HINJ.out hsame hr1 hr2
            clear hsame HINJ
            (
          refine wp_region_held_drew (S := fun W => (W.cell? ⟨Bx, 0, none⟩ = some (.slice xa SA.length xc) ∧ W.cell? ⟨Bx, 1, none⟩ = some (.bool true)) ∧ W.cell? ⟨Bx + 1, 0, none⟩ = some (.slice ya SA.length yc) ∧ (W.cell? ⟨Bx + 1 + 1, 0, none⟩ = some (.slice za SB.length zc) ∧ W.cell? ⟨Bx + 1 + 1, 1, none⟩ = some (.bool true)) ∧ W.cell? ⟨Bw, 0, none⟩ = some (.slice wa SA.length wc) ∧ W.cell? ⟨Bw + 1, 0, none⟩ = some (.slice va SB.length vc)) (by kernel_rfl) (by with_reducible exact hS0) (fun hHeld => ?_)
          refine wpAnyH_take (i := 0) (oi := { dst := some 102, op := Op.fieldAddr 26 (Operand.tmp 11) 0, type := 0, pos := "law.go:66", after := #[], guard := none }) (v := ?_) rfl (by kernel_rfl) (by kernel_rfl) (by kernel_rfl) (fun _ _ _ h => h) (Or.inl ⟨by kernel_rfl, ?_⟩) hHeld ?_
          rotate_left
          · intro w hSw
            try dsimp only at hSw
            go_simp
            with_reducible rfl
          try simp only [Act.put, List.setIfInBounds_toArray, List.set_cons_zero, List.set_cons_succ]
          refine wpAnyH_take (i := 1) (oi := { dst := some 103, op := Op.load 22 (Operand.tmp 102), type := 22, pos := "law.go:66", after := #[{ on := 0, ground := Ground.data }], guard := none }) (v := ?_) rfl (by kernel_rfl) (by kernel_rfl) (by kernel_rfl) (fun _ _ _ h => h) (Or.inl ⟨by kernel_rfl, ?_⟩) hHeld ?_
          rotate_left
          · intro w hSw
            try dsimp only at hSw
            go_simp
            with_reducible rfl
          try simp only [Act.put, List.setIfInBounds_toArray, List.set_cons_zero, List.set_cons_succ]
          refine wpAnyH_take (i := 2) (oi := { dst := some 104, op := Op.fieldAddr 28 (Operand.tmp 14) 0, type := 0, pos := "law.go:66", after := #[], guard := none }) (v := ?_) rfl (by kernel_rfl) (by kernel_rfl) (by kernel_rfl) (fun _ _ _ h => h) (Or.inl ⟨by kernel_rfl, ?_⟩) hHeld ?_
          rotate_left
          · intro w hSw
            try dsimp only at hSw
            go_simp
            with_reducible rfl
          try simp only [Act.put, List.setIfInBounds_toArray, List.set_cons_zero, List.set_cons_succ]
          refine wpAnyH_take (i := 3) (oi := { dst := some 105, op := Op.load 22 (Operand.tmp 104), type := 22, pos := "law.go:66", after := #[{ on := 2, ground := Ground.data }], guard := none }) (v := ?_) rfl (by kernel_rfl) (by kernel_rfl) (by kernel_rfl) (fun _ _ _ h => h) (Or.inl ⟨by kernel_rfl, ?_⟩) hHeld ?_
          rotate_left
          · intro w hSw
            try dsimp only at hSw
            go_simp
            with_reducible rfl
          try simp only [Act.put, List.setIfInBounds_toArray, List.set_cons_zero, List.set_cons_succ]
          refine wpAnyH_ready (rs := [4]) (by kernel_rfl) (by simp) ?_
          refine AllReadyH.cons (o := { dst := some 106, op := Op.call { callee := Callee.value (Operand.func 14), args := #[Operand.tmp 103, Operand.tmp 105], argTypes := #[22, 22] }, type := 4, pos := "law.go:66", after := #[{ on := 1, ground := Ground.data }, { on := 3, ground := Ground.data }], guard := none }) rfl (fun K hK => ?_) AllReadyH.nil
          go_simp
          refine (HS1.out _ hB0).mono ?_
          rintro r Wn0 ⟨rfl, hbn0⟩
          have hB1 := hB0.trans (hbn0.mono hB0.size)
          clear hB0 hbn0
          clear hHeld
          refine hK.out _ _ (HS.out _ hB1) (fun hHeld => ?_)
          clear hK K
          try simp only [Act.put, List.setIfInBounds_toArray, List.set_cons_zero, List.set_cons_succ]
          refine wpAnyH_take (i := 5) (oi := { dst := some 107, op := Op.move (Operand.tmp 106), type := 4, pos := "law.go:66", after := #[{ on := 4, ground := Ground.data }, { on := 4, ground := Ground.chain }], guard := none }) (v := ?_) rfl (by kernel_rfl) (by kernel_rfl) (by kernel_rfl) (fun _ _ _ h => h) (Or.inl ⟨by kernel_rfl, ?_⟩) hHeld ?_
          rotate_left
          · intro w hSw
            try dsimp only at hSw
            go_simp
            with_reducible rfl
          try simp only [Act.put, List.setIfInBounds_toArray, List.set_cons_zero, List.set_cons_succ]
          refine wpAnyH_take (i := 6) (oi := { dst := some 108, op := Op.fieldAddr 26 (Operand.tmp 12) 0, type := 0, pos := "law.go:66", after := #[{ on := 5, ground := Ground.guard }], guard := some (5, true) }) (v := ?_) rfl (by kernel_rfl) (by kernel_rfl) (by kernel_rfl) (fun _ _ _ h => h) (Or.inl ⟨by kernel_rfl, ?_⟩) hHeld ?_
          rotate_left
          · intro w hSw
            try dsimp only at hSw
            go_simp
            with_reducible rfl
          try simp only [Act.put, List.setIfInBounds_toArray, List.set_cons_zero, List.set_cons_succ]
          refine wpAnyH_take (i := 7) (oi := { dst := some 109, op := Op.load 22 (Operand.tmp 108), type := 22, pos := "law.go:66", after := #[{ on := 6, ground := Ground.data }, { on := 5, ground := Ground.guard }], guard := some (5, true) }) (v := ?_) rfl (by kernel_rfl) (by kernel_rfl) (by kernel_rfl) (fun _ _ _ h => h) (Or.inl ⟨by kernel_rfl, ?_⟩) hHeld ?_
          rotate_left
          · intro w hSw
            try dsimp only at hSw
            go_simp
            with_reducible rfl
          try simp only [Act.put, List.setIfInBounds_toArray, List.set_cons_zero, List.set_cons_succ]
          refine wpAnyH_take (i := 8) (oi := { dst := some 110, op := Op.fieldAddr 28 (Operand.tmp 14) 0, type := 0, pos := "law.go:66", after := #[{ on := 5, ground := Ground.guard }], guard := some (5, true) }) (v := ?_) rfl (by kernel_rfl) (by kernel_rfl) (by kernel_rfl) (fun _ _ _ h => h) (Or.inl ⟨by kernel_rfl, ?_⟩) hHeld ?_
          rotate_left
          · intro w hSw
            try dsimp only at hSw
            go_simp
            with_reducible rfl
          try simp only [Act.put, List.setIfInBounds_toArray, List.set_cons_zero, List.set_cons_succ]
          refine wpAnyH_take (i := 9) (oi := { dst := some 111, op := Op.load 22 (Operand.tmp 110), type := 22, pos := "law.go:66", after := #[{ on := 8, ground := Ground.data }, { on := 5, ground := Ground.guard }], guard := some (5, true) }) (v := ?_) rfl (by kernel_rfl) (by kernel_rfl) (by kernel_rfl) (fun _ _ _ h => h) (Or.inl ⟨by kernel_rfl, ?_⟩) hHeld ?_
          rotate_left
          · intro w hSw
            try dsimp only at hSw
            go_simp
            with_reducible rfl
          try simp only [Act.put, List.setIfInBounds_toArray, List.set_cons_zero, List.set_cons_succ]
          refine wpAnyH_ready (rs := [10]) (by kernel_rfl) (by simp) ?_
          refine AllReadyH.cons (o := { dst := some 112, op := Op.call { callee := Callee.value (Operand.func 14), args := #[Operand.tmp 109, Operand.tmp 111], argTypes := #[22, 22] }, type := 4, pos := "law.go:66", after := #[{ on := 7, ground := Ground.data }, { on := 9, ground := Ground.data }, { on := 5, ground := Ground.chain }, { on := 5, ground := Ground.guard }], guard := some (5, true) }) rfl (fun K hK => ?_) AllReadyH.nil
          go_simp
          refine (HS2.out _ hB1).mono ?_
          rintro r Wn1 ⟨rfl, hbn1⟩
          have hB2 := hB1.trans (hbn1.mono hB1.size)
          clear hB1 hbn1
          clear hHeld
          refine hK.out _ _ (HS.out _ hB2) (fun hHeld => ?_)
          clear hK K
          try simp only [Act.put, List.setIfInBounds_toArray, List.set_cons_zero, List.set_cons_succ]
          refine wpAnyH_take (i := 11) (oi := { dst := some 113, op := Op.pick (Operand.tmp 107) (Operand.tmp 112) (Operand.const (Value.bool false)), type := 4, pos := "law.go:66", after := #[{ on := 5, ground := Ground.data }, { on := 10, ground := Ground.data }], guard := none }) (v := ?_) rfl (by kernel_rfl) (by kernel_rfl) (by kernel_rfl) (fun _ _ _ h => h) (Or.inl ⟨by kernel_rfl, ?_⟩) hHeld ?_
          rotate_left
          · intro w hSw
            try dsimp only at hSw
            go_simp
            with_reducible rfl
          try simp only [Act.put, List.setIfInBounds_toArray, List.set_cons_zero, List.set_cons_succ]
          refine wpAnyH_take (i := 12) (oi := { dst := some 114, op := Op.move (Operand.tmp 113), type := 4, pos := "law.go:66", after := #[{ on := 11, ground := Ground.data }, { on := 10, ground := Ground.chain }], guard := none }) (v := ?_) rfl (by kernel_rfl) (by kernel_rfl) (by kernel_rfl) (fun _ _ _ h => h) (Or.inl ⟨by kernel_rfl, ?_⟩) hHeld ?_
          rotate_left
          · intro w hSw
            try dsimp only at hSw
            go_simp
            with_reducible rfl
          try simp only [Act.put, List.setIfInBounds_toArray, List.set_cons_zero, List.set_cons_succ]
          refine wpAnyH_take (i := 13) (oi := { dst := some 115, op := Op.fieldAddr 26 (Operand.tmp 13) 0, type := 0, pos := "law.go:66", after := #[{ on := 12, ground := Ground.guard }], guard := some (12, true) }) (v := ?_) rfl (by kernel_rfl) (by kernel_rfl) (by kernel_rfl) (fun _ _ _ h => h) (Or.inl ⟨by kernel_rfl, ?_⟩) hHeld ?_
          rotate_left
          · intro w hSw
            try dsimp only at hSw
            go_simp
            with_reducible rfl
          try simp only [Act.put, List.setIfInBounds_toArray, List.set_cons_zero, List.set_cons_succ]
          refine wpAnyH_take (i := 14) (oi := { dst := some 116, op := Op.load 22 (Operand.tmp 115), type := 22, pos := "law.go:66", after := #[{ on := 13, ground := Ground.data }, { on := 12, ground := Ground.guard }], guard := some (12, true) }) (v := ?_) rfl (by kernel_rfl) (by kernel_rfl) (by kernel_rfl) (fun _ _ _ h => h) (Or.inl ⟨by kernel_rfl, ?_⟩) hHeld ?_
          rotate_left
          · intro w hSw
            try dsimp only at hSw
            go_simp
            with_reducible rfl
          try simp only [Act.put, List.setIfInBounds_toArray, List.set_cons_zero, List.set_cons_succ]
          refine wpAnyH_take (i := 15) (oi := { dst := some 117, op := Op.fieldAddr 28 (Operand.tmp 15) 0, type := 0, pos := "law.go:66", after := #[{ on := 12, ground := Ground.guard }], guard := some (12, true) }) (v := ?_) rfl (by kernel_rfl) (by kernel_rfl) (by kernel_rfl) (fun _ _ _ h => h) (Or.inl ⟨by kernel_rfl, ?_⟩) hHeld ?_
          rotate_left
          · intro w hSw
            try dsimp only at hSw
            go_simp
            with_reducible rfl
          try simp only [Act.put, List.setIfInBounds_toArray, List.set_cons_zero, List.set_cons_succ]
          refine wpAnyH_take (i := 16) (oi := { dst := some 118, op := Op.load 22 (Operand.tmp 117), type := 22, pos := "law.go:66", after := #[{ on := 15, ground := Ground.data }, { on := 12, ground := Ground.guard }], guard := some (12, true) }) (v := ?_) rfl (by kernel_rfl) (by kernel_rfl) (by kernel_rfl) (fun _ _ _ h => h) (Or.inl ⟨by kernel_rfl, ?_⟩) hHeld ?_
          rotate_left
          · intro w hSw
            try dsimp only at hSw
            go_simp
            with_reducible rfl
          try simp only [Act.put, List.setIfInBounds_toArray, List.set_cons_zero, List.set_cons_succ]
          refine wpAnyH_ready (rs := [17]) (by kernel_rfl) (by simp) ?_
          refine AllReadyH.cons (o := { dst := some 119, op := Op.call { callee := Callee.value (Operand.func 14), args := #[Operand.tmp 116, Operand.tmp 118], argTypes := #[22, 22] }, type := 4, pos := "law.go:66", after := #[{ on := 14, ground := Ground.data }, { on := 16, ground := Ground.data }, { on := 12, ground := Ground.chain }, { on := 12, ground := Ground.guard }], guard := some (12, true) }) rfl (fun K hK => ?_) AllReadyH.nil
          go_simp
          refine (HS3.out _ hB2).mono ?_
          rintro r Wn2 ⟨rfl, hbn2⟩
          have hB3 := hB2.trans (hbn2.mono hB2.size)
          clear hB2 hbn2
          clear hHeld
          refine hK.out _ _ (HS.out _ hB3) (fun hHeld => ?_)
          clear hK K
          try simp only [Act.put, List.setIfInBounds_toArray, List.set_cons_zero, List.set_cons_succ]
          refine wpAnyH_take (i := 18) (oi := { dst := some 120, op := Op.pick (Operand.tmp 114) (Operand.tmp 119) (Operand.const (Value.bool false)), type := 4, pos := "law.go:66", after := #[{ on := 12, ground := Ground.data }, { on := 17, ground := Ground.data }], guard := none }) (v := ?_) rfl (by kernel_rfl) (by kernel_rfl) (by kernel_rfl) (fun _ _ _ h => h) (Or.inl ⟨by kernel_rfl, ?_⟩) hHeld ?_
          rotate_left
          · intro w hSw
            try dsimp only at hSw
            go_simp
            with_reducible rfl
          try simp only [Act.put, List.setIfInBounds_toArray, List.set_cons_zero, List.set_cons_succ]
          refine wpAnyH_take (i := 19) (oi := { dst := some 121, op := Op.move (Operand.tmp 120), type := 4, pos := "law.go:66", after := #[{ on := 18, ground := Ground.data }, { on := 17, ground := Ground.chain }], guard := none }) (v := ?_) rfl (by kernel_rfl) (by kernel_rfl) (by kernel_rfl) (fun _ _ _ h => h) (Or.inl ⟨by kernel_rfl, ?_⟩) hHeld ?_
          rotate_left
          · intro w hSw
            try dsimp only at hSw
            go_simp
            with_reducible rfl
          try simp only [Act.put, List.setIfInBounds_toArray, List.set_cons_zero, List.set_cons_succ]
          refine wpAnyH_take (i := 20) (oi := { dst := some 122, op := Op.fieldAddr 26 (Operand.tmp 11) 0, type := 0, pos := "law.go:66", after := #[{ on := 19, ground := Ground.guard }], guard := some (19, true) }) (v := ?_) rfl (by kernel_rfl) (by kernel_rfl) (by kernel_rfl) (fun _ _ _ h => h) (Or.inl ⟨by kernel_rfl, ?_⟩) hHeld ?_
          rotate_left
          · intro w hSw
            try dsimp only at hSw
            go_simp
            with_reducible rfl
          try simp only [Act.put, List.setIfInBounds_toArray, List.set_cons_zero, List.set_cons_succ]
          refine wpAnyH_take (i := 21) (oi := { dst := some 123, op := Op.load 22 (Operand.tmp 122), type := 22, pos := "law.go:66", after := #[{ on := 20, ground := Ground.data }, { on := 19, ground := Ground.guard }], guard := some (19, true) }) (v := ?_) rfl (by kernel_rfl) (by kernel_rfl) (by kernel_rfl) (fun _ _ _ h => h) (Or.inl ⟨by kernel_rfl, ?_⟩) hHeld ?_
          rotate_left
          · intro w hSw
            try dsimp only at hSw
            go_simp
            with_reducible rfl
          try simp only [Act.put, List.setIfInBounds_toArray, List.set_cons_zero, List.set_cons_succ]
          refine wpAnyH_take (i := 22) (oi := { dst := some 124, op := Op.fieldAddr 26 (Operand.tmp 13) 0, type := 0, pos := "law.go:66", after := #[{ on := 19, ground := Ground.guard }], guard := some (19, true) }) (v := ?_) rfl (by kernel_rfl) (by kernel_rfl) (by kernel_rfl) (fun _ _ _ h => h) (Or.inl ⟨by kernel_rfl, ?_⟩) hHeld ?_
          rotate_left
          · intro w hSw
            try dsimp only at hSw
            go_simp
            with_reducible rfl
          try simp only [Act.put, List.setIfInBounds_toArray, List.set_cons_zero, List.set_cons_succ]
          refine wpAnyH_take (i := 23) (oi := { dst := some 125, op := Op.load 22 (Operand.tmp 124), type := 22, pos := "law.go:66", after := #[{ on := 22, ground := Ground.data }, { on := 19, ground := Ground.guard }], guard := some (19, true) }) (v := ?_) rfl (by kernel_rfl) (by kernel_rfl) (by kernel_rfl) (fun _ _ _ h => h) (Or.inl ⟨by kernel_rfl, ?_⟩) hHeld ?_
          rotate_left
          · intro w hSw
            try dsimp only at hSw
            go_simp
            with_reducible rfl
          try simp only [Act.put, List.setIfInBounds_toArray, List.set_cons_zero, List.set_cons_succ]
          refine wpAnyH_ready (rs := [24]) (by kernel_rfl) (by simp) ?_
          refine AllReadyH.cons (o := { dst := some 126, op := Op.call { callee := Callee.value (Operand.func 14), args := #[Operand.tmp 123, Operand.tmp 125], argTypes := #[22, 22] }, type := 4, pos := "law.go:66", after := #[{ on := 21, ground := Ground.data }, { on := 23, ground := Ground.data }, { on := 19, ground := Ground.chain }, { on := 19, ground := Ground.guard }], guard := some (19, true) }) rfl (fun K hK => ?_) AllReadyH.nil
          go_simp
          refine (HS4.out _ hB3).mono ?_
          rintro r Wn3 ⟨rfl, hbn3⟩
          have hB4 := hB3.trans (hbn3.mono hB3.size)
          clear hB3 hbn3
          clear hHeld
          refine hK.out _ _ (HS.out _ hB4) (fun hHeld => ?_)
          clear hK K
          try simp only [Act.put, List.setIfInBounds_toArray, List.set_cons_zero, List.set_cons_succ]
          refine wpAnyH_take (i := 25) (oi := { dst := some 127, op := Op.move (Operand.tmp 126), type := 4, pos := "law.go:66", after := #[{ on := 24, ground := Ground.data }, { on := 24, ground := Ground.chain }, { on := 19, ground := Ground.guard }], guard := some (19, true) }) (v := ?_) rfl (by kernel_rfl) (by kernel_rfl) (by kernel_rfl) (fun _ _ _ h => h) (Or.inl ⟨by kernel_rfl, ?_⟩) hHeld ?_
          rotate_left
          · intro w hSw
            try dsimp only at hSw
            go_simp
            with_reducible rfl
          try simp only [Act.put, List.setIfInBounds_toArray, List.set_cons_zero, List.set_cons_succ]
          refine wpAnyH_take (i := 26) (oi := { dst := some 128, op := Op.load 26 (Operand.tmp 11), type := 26, pos := "law.go:66", after := #[{ on := 25, ground := Ground.guard }], guard := some (25, false) }) (v := ?_) rfl (by kernel_rfl) (by kernel_rfl) (by kernel_rfl) (fun _ _ _ h => h) (Or.inl ⟨by kernel_rfl, ?_⟩) hHeld ?_
          rotate_left
          · intro w hSw
            try dsimp only at hSw
            go_simp
            with_reducible rfl
          try simp only [Act.put, List.setIfInBounds_toArray, List.set_cons_zero, List.set_cons_succ]
          refine wpAnyH_ready (rs := [27]) (by kernel_rfl) (by simp) ?_
          refine AllReadyH.cons (o := { dst := some 129, op := Op.call { callee := Callee.value (Operand.func 12), args := #[Operand.tmp 128], argTypes := #[26] }, type := 4, pos := "law.go:66", after := #[{ on := 26, ground := Ground.data }, { on := 25, ground := Ground.chain }, { on := 25, ground := Ground.guard }], guard := some (25, false) }) rfl (fun K hK => ?_) AllReadyH.nil
          go_simp
          refine (HRX.out _ hB4).mono ?_
          rintro r Wn4 ⟨rfl, hbn4⟩
          have hB5 := hB4.trans (hbn4.mono hB4.size)
          clear hB4 hbn4
          clear hHeld
          refine hK.out _ _ (HS.out _ hB5) (fun hHeld => ?_)
          clear hK K
          try simp only [Act.put, List.setIfInBounds_toArray, List.set_cons_zero, List.set_cons_succ]
          refine wpAnyH_take (i := 28) (oi := { dst := some 130, op := Op.unOp UnOp.not 4 (Operand.tmp 129), type := 4, pos := "law.go:66", after := #[{ on := 27, ground := Ground.data }, { on := 25, ground := Ground.guard }], guard := some (25, false) }) (v := ?_) rfl (by kernel_rfl) (by kernel_rfl) (by kernel_rfl) (fun _ _ _ h => h) (Or.inl ⟨by kernel_rfl, ?_⟩) hHeld ?_
          rotate_left
          · intro w hSw
            try dsimp only at hSw
            go_simp
            with_reducible rfl
          try simp only [Act.put, List.setIfInBounds_toArray, List.set_cons_zero, List.set_cons_succ]
          refine wpAnyH_take (i := 29) (oi := { dst := some 131, op := Op.pick (Operand.tmp 127) (Operand.const (Value.bool true)) (Operand.tmp 130), type := 4, pos := "law.go:66", after := #[{ on := 25, ground := Ground.data }, { on := 28, ground := Ground.data }, { on := 19, ground := Ground.guard }], guard := some (19, true) }) (v := ?_) rfl (by kernel_rfl) (by kernel_rfl) (by kernel_rfl) (fun _ _ _ h => h) (Or.inl ⟨by kernel_rfl, ?_⟩) hHeld ?_
          rotate_left
          · intro w hSw
            try dsimp only at hSw
            go_simp
            with_reducible rfl
          try simp only [Act.put, List.setIfInBounds_toArray, List.set_cons_zero, List.set_cons_succ]
          refine wpAnyH_take (i := 30) (oi := { dst := some 132, op := Op.move (Operand.tmp 131), type := 4, pos := "law.go:66", after := #[{ on := 29, ground := Ground.data }, { on := 27, ground := Ground.chain }, { on := 19, ground := Ground.guard }], guard := some (19, true) }) (v := ?_) rfl (by kernel_rfl) (by kernel_rfl) (by kernel_rfl) (fun _ _ _ h => h) (Or.inl ⟨by kernel_rfl, ?_⟩) hHeld ?_
          rotate_left
          · intro w hSw
            try dsimp only at hSw
            go_simp
            with_reducible rfl
          try simp only [Act.put, List.setIfInBounds_toArray, List.set_cons_zero, List.set_cons_succ]
          refine wpAnyH_take (i := 31) (oi := { dst := some 133, op := Op.load 26 (Operand.tmp 13), type := 26, pos := "law.go:66", after := #[{ on := 30, ground := Ground.guard }], guard := some (30, false) }) (v := ?_) rfl (by kernel_rfl) (by kernel_rfl) (by kernel_rfl) (fun _ _ _ h => h) (Or.inl ⟨by kernel_rfl, ?_⟩) hHeld ?_
          rotate_left
          · intro w hSw
            try dsimp only at hSw
            go_simp
            with_reducible rfl
          try simp only [Act.put, List.setIfInBounds_toArray, List.set_cons_zero, List.set_cons_succ]
          refine wpAnyH_ready (rs := [32]) (by kernel_rfl) (by simp) ?_
          refine AllReadyH.cons (o := { dst := some 134, op := Op.call { callee := Callee.value (Operand.func 12), args := #[Operand.tmp 133], argTypes := #[26] }, type := 4, pos := "law.go:66", after := #[{ on := 31, ground := Ground.data }, { on := 30, ground := Ground.chain }, { on := 30, ground := Ground.guard }], guard := some (30, false) }) rfl (fun K hK => ?_) AllReadyH.nil
          go_simp
          refine (HRZ.out _ hB5).mono ?_
          rintro r Wn5 ⟨rfl, hbn5⟩
          have hB6 := hB5.trans (hbn5.mono hB5.size)
          clear hB5 hbn5
          clear hHeld
          refine hK.out _ _ (HS.out _ hB6) (fun hHeld => ?_)
          clear hK K
          try simp only [Act.put, List.setIfInBounds_toArray, List.set_cons_zero, List.set_cons_succ]
          refine wpAnyH_take (i := 33) (oi := { dst := some 135, op := Op.unOp UnOp.not 4 (Operand.tmp 134), type := 4, pos := "law.go:66", after := #[{ on := 32, ground := Ground.data }, { on := 30, ground := Ground.guard }], guard := some (30, false) }) (v := ?_) rfl (by kernel_rfl) (by kernel_rfl) (by kernel_rfl) (fun _ _ _ h => h) (Or.inl ⟨by kernel_rfl, ?_⟩) hHeld ?_
          rotate_left
          · intro w hSw
            try dsimp only at hSw
            go_simp
            with_reducible rfl
          try simp only [Act.put, List.setIfInBounds_toArray, List.set_cons_zero, List.set_cons_succ]
          refine wpAnyH_take (i := 34) (oi := { dst := some 136, op := Op.pick (Operand.tmp 132) (Operand.const (Value.bool true)) (Operand.tmp 135), type := 4, pos := "law.go:66", after := #[{ on := 30, ground := Ground.data }, { on := 33, ground := Ground.data }, { on := 19, ground := Ground.guard }], guard := some (19, true) }) (v := ?_) rfl (by kernel_rfl) (by kernel_rfl) (by kernel_rfl) (fun _ _ _ h => h) (Or.inl ⟨by kernel_rfl, ?_⟩) hHeld ?_
          rotate_left
          · intro w hSw
            try dsimp only at hSw
            go_simp
            with_reducible rfl
          try simp only [Act.put, List.setIfInBounds_toArray, List.set_cons_zero, List.set_cons_succ]
          refine wpAnyH_take (i := 35) (oi := { dst := some 137, op := Op.move (Operand.tmp 136), type := 4, pos := "law.go:66", after := #[{ on := 34, ground := Ground.data }, { on := 32, ground := Ground.chain }, { on := 19, ground := Ground.guard }], guard := some (19, true) }) (v := ?_) rfl (by kernel_rfl) (by kernel_rfl) (by kernel_rfl) (fun _ _ _ h => h) (Or.inl ⟨by kernel_rfl, ?_⟩) hHeld ?_
          rotate_left
          · intro w hSw
            try dsimp only at hSw
            go_simp
            with_reducible rfl
          try simp only [Act.put, List.setIfInBounds_toArray, List.set_cons_zero, List.set_cons_succ]
          refine wpAnyH_take (i := 36) (oi := { dst := some 138, op := Op.load 26 (Operand.tmp 11), type := 26, pos := "law.go:66", after := #[{ on := 35, ground := Ground.guard }], guard := some (35, false) }) (v := ?_) rfl (by kernel_rfl) (by kernel_rfl) (by kernel_rfl) (fun _ _ _ h => h) (Or.inl ⟨by kernel_rfl, ?_⟩) hHeld ?_
          rotate_left
          · intro w hSw
            try dsimp only at hSw
            go_simp
            with_reducible rfl
          try simp only [Act.put, List.setIfInBounds_toArray, List.set_cons_zero, List.set_cons_succ]
          refine wpAnyH_take (i := 38) (oi := { dst := some 140, op := Op.load 26 (Operand.tmp 13), type := 26, pos := "law.go:66", after := #[{ on := 35, ground := Ground.guard }], guard := some (35, false) }) (v := ?_) rfl (by kernel_rfl) (by kernel_rfl) (by kernel_rfl) (fun _ _ _ h => h) (Or.inl ⟨by kernel_rfl, ?_⟩) hHeld ?_
          rotate_left
          · intro w hSw
            try dsimp only at hSw
            go_simp
            with_reducible rfl
          try simp only [Act.put, List.setIfInBounds_toArray, List.set_cons_zero, List.set_cons_succ]
          refine wpAnyH_ready (rs := [37]) (by kernel_rfl) (by simp) ?_
          refine AllReadyH.cons (o := { dst := some 139, op := Op.call { callee := Callee.value (Operand.func 8), args := #[Operand.tmp 138], argTypes := #[26] }, type := 9, pos := "law.go:66", after := #[{ on := 36, ground := Ground.data }, { on := 35, ground := Ground.chain }, { on := 35, ground := Ground.guard }], guard := some (35, false) }) rfl (fun K hK => ?_) AllReadyH.nil
          go_simp
          refine (HPX.out _ hB6).mono ?_
          rintro r Wn6 ⟨rfl, hbn6⟩
          have hB7 := hB6.trans (hbn6.mono hB6.size)
          clear hB6 hbn6
          clear hHeld
          refine hK.out _ _ (HS.out _ hB7) (fun hHeld => ?_)
          clear hK K
          try simp only [Act.put, List.setIfInBounds_toArray, List.set_cons_zero, List.set_cons_succ]
          refine wpAnyH_ready (rs := [39]) (by kernel_rfl) (by simp) ?_
          refine AllReadyH.cons (o := { dst := some 141, op := Op.call { callee := Callee.value (Operand.func 8), args := #[Operand.tmp 140], argTypes := #[26] }, type := 9, pos := "law.go:66", after := #[{ on := 38, ground := Ground.data }, { on := 37, ground := Ground.chain }, { on := 35, ground := Ground.guard }], guard := some (35, false) }) rfl (fun K hK => ?_) AllReadyH.nil
          go_simp
          refine (HPZ.out _ hB7).mono ?_
          rintro r Wn7 ⟨rfl, hbn7⟩
          have hB8 := hB7.trans (hbn7.mono hB7.size)
          clear hB7 hbn7
          clear hHeld
          refine hK.out _ _ (HS.out _ hB8) (fun hHeld => ?_)
          clear hK K
          try simp only [Act.put, List.setIfInBounds_toArray, List.set_cons_zero, List.set_cons_succ]
          refine wpAnyH_take (i := 40) (oi := { dst := some 142, op := Op.binOp BinOp.neq 9 (Operand.tmp 139) (Operand.tmp 141) 9, type := 4, pos := "law.go:66", after := #[{ on := 37, ground := Ground.data }, { on := 39, ground := Ground.data }, { on := 35, ground := Ground.guard }], guard := some (35, false) }) (v := ?_) rfl (by kernel_rfl) (by kernel_rfl) (by kernel_rfl) (fun _ _ _ h => h) (Or.inl ⟨by kernel_rfl, ?_⟩) hHeld ?_
          rotate_left
          · intro w hSw
            try dsimp only at hSw
            go_simp
            with_reducible rfl
          try simp only [Act.put, List.setIfInBounds_toArray, List.set_cons_zero, List.set_cons_succ]
          refine wpAnyH_take (i := 41) (oi := { dst := some 143, op := Op.pick (Operand.tmp 137) (Operand.const (Value.bool true)) (Operand.tmp 142), type := 4, pos := "law.go:66", after := #[{ on := 35, ground := Ground.data }, { on := 40, ground := Ground.data }, { on := 19, ground := Ground.guard }], guard := some (19, true) }) (v := ?_) rfl (by kernel_rfl) (by kernel_rfl) (by kernel_rfl) (fun _ _ _ h => h) (Or.inl ⟨by kernel_rfl, ?_⟩) hHeld ?_
          rotate_left
          · intro w hSw
            try dsimp only at hSw
            go_simp
            with_reducible rfl
          try simp only [Act.put, List.setIfInBounds_toArray, List.set_cons_zero, List.set_cons_succ]
          refine wpAnyH_take (i := 42) (oi := { dst := some 144, op := Op.pick (Operand.tmp 121) (Operand.tmp 143) (Operand.const (Value.bool false)), type := 4, pos := "law.go:66", after := #[{ on := 19, ground := Ground.data }, { on := 41, ground := Ground.data }], guard := none }) (v := ?_) rfl (by kernel_rfl) (by kernel_rfl) (by kernel_rfl) (fun _ _ _ h => h) (Or.inl ⟨by kernel_rfl, ?_⟩) hHeld ?_
          rotate_left
          · intro w hSw
            try dsimp only at hSw
            go_simp
            with_reducible rfl
          try simp only [Act.put, List.setIfInBounds_toArray, List.set_cons_zero, List.set_cons_succ]
          refine wpAnyH_take (i := 43) (oi := { dst := some 6, op := Op.assign (Operand.tmp 144), type := 4, pos := "law.go:66", after := #[{ on := 42, ground := Ground.data }, { on := 39, ground := Ground.chain }, { on := 0, ground := Ground.phase }, { on := 1, ground := Ground.phase }, { on := 2, ground := Ground.phase }, { on := 3, ground := Ground.phase }, { on := 4, ground := Ground.phase }, { on := 5, ground := Ground.phase }, { on := 6, ground := Ground.phase }, { on := 7, ground := Ground.phase }, { on := 8, ground := Ground.phase }, { on := 9, ground := Ground.phase }, { on := 10, ground := Ground.phase }, { on := 11, ground := Ground.phase }, { on := 12, ground := Ground.phase }, { on := 13, ground := Ground.phase }, { on := 14, ground := Ground.phase }, { on := 15, ground := Ground.phase }, { on := 16, ground := Ground.phase }, { on := 17, ground := Ground.phase }, { on := 18, ground := Ground.phase }, { on := 19, ground := Ground.phase }, { on := 20, ground := Ground.phase }, { on := 21, ground := Ground.phase }, { on := 22, ground := Ground.phase }, { on := 23, ground := Ground.phase }, { on := 24, ground := Ground.phase }, { on := 25, ground := Ground.phase }, { on := 26, ground := Ground.phase }, { on := 27, ground := Ground.phase }, { on := 28, ground := Ground.phase }, { on := 29, ground := Ground.phase }, { on := 30, ground := Ground.phase }, { on := 31, ground := Ground.phase }, { on := 32, ground := Ground.phase }, { on := 33, ground := Ground.phase }, { on := 34, ground := Ground.phase }, { on := 35, ground := Ground.phase }, { on := 36, ground := Ground.phase }, { on := 37, ground := Ground.phase }, { on := 38, ground := Ground.phase }, { on := 39, ground := Ground.phase }, { on := 40, ground := Ground.phase }, { on := 41, ground := Ground.phase }, { on := 42, ground := Ground.phase }], guard := none }) (v := ?_) rfl (by kernel_rfl) (by kernel_rfl) (by kernel_rfl) (fun _ _ _ h => h) (Or.inl ⟨by kernel_rfl, ?_⟩) hHeld ?_
          rotate_left
          · intro w hSw
            try dsimp only at hSw
            go_simp
            with_reducible rfl
          try simp only [Act.put, List.setIfInBounds_toArray, List.set_cons_zero, List.set_cons_succ]
          refine wpAnyH_done (by kernel_rfl) ?_ _
            )
            have HBQ := Lib.hid hB8
            clear hHeld
      all_goals (
        have hbq := HBZ.out.trans (HBQ.out.mono HBZ.out.size)
        go_wp2
        go_ret
        exact ⟨rfl, hbq⟩)
end Go.Proofs.Ytopklnehhebhmaa

/-
  ReportMerges: whatever lists the same keys stand in, and however often, merged they are the same, and unlike sets of keys are not: the law answers true, and its arguments read as they did.
  For every input, whatever its size and however its parts share memory; nothing is asked of it but what the statement's own form asks.
-/
namespace Go.Proofs.Ytopklnehhebhmaa.reportMerges
open Go.ChangeShapes Go.WideShapes Go.ChangeAt Go.RowKit

theorem own : ownKnob Try.prog.godebug = none := by kernel_rfl
theorem laidOut : laidOutB Try.prog = true := by kernel_rfl

set_option maxRecDepth 100000 in
theorem lifted (os : Os) (started : os.Started) (H : Type) (enc : TypeId × Value → H) :
    ReturnsInHanded {} Try.checked os 4 .any (Rows.reportMergesSpec.pre6 enc Try.prog Try.f4 Rows.reportMergesRow.domain false) (Rows.reportMergesSpec.post enc Try.prog Try.f4 false true false false) := by
  refine returnsInHanded_of_change (C := Try.checked) own started (by kernel_rfl) Try.func4
    (ChangeSpec.witness6 (enc := enc) (C := Try.checked) false ⟨#[], #[.slice none 0 0, .slice none 0 0, .slice none 0 0], []⟩ 8 (by kernel_rfl) (by kernel_rfl) (by kernel_rfl) (by kernel_rfl)) ?_
  intro W base args ds gs before hval0 hW hcnd _
  have hval : ∀ (j : Nat) t v, Try.f4.params[j]? = some t → args[j]? = some v → Value.okWide Try.prog W .any base t v := hval0
  have hW' := hW
  obtain ⟨p, q, hA0, hV, rfl, hfz, hnd⟩ := hW
  have hA : DataW.TrodAll enc Try.prog W 0 (fun _ => true) true Try.f4.params.toList args.toList ds p := hA0
  rw [Try.params4] at hA hval
  obtain ⟨v0, vs0, d0, ds0, p0, q0, hargs, rfl, rfl, h0, r0⟩ := trodAll_cons hA
  obtain ⟨v1, vs1, d1, ds1, p1, q1, rfl, rfl, rfl, h1, r1⟩ := trodAll_cons r0
  obtain ⟨v2, vs2, d2, ds2, p2, q2, rfl, rfl, rfl, h2, r2⟩ := trodAll_cons r1
  obtain ⟨rfl, rfl, rfl⟩ := trodAll_nil r2
  obtain rfl : args = #[v0, v1, v2] := by cases args; simp_all
  obtain ⟨rfl, rfl⟩ := trodVars_none hV
  have k0 := h0
  have lt0 : ∀ x ∈ p0, x.block < W.heap.size := by obtain ⟨m, hm⟩ := k0; exact DataW.trod_lt m _ _ _ hm
  have k1 := h1
  have lt1 : ∀ x ∈ p1, x.block < W.heap.size := by obtain ⟨m, hm⟩ := k1; exact DataW.trod_lt m _ _ _ hm
  have k2 := h2
  have lt2 : ∀ x ∈ p2, x.block < W.heap.size := by obtain ⟨m, hm⟩ := k2; exact DataW.trod_lt m _ _ _ hm
  obtain ⟨a0, l0, cap0, rfl, hx0, hn0, hm0⟩ := txts_of_trod (hval 0 22 v0 rfl rfl) h0
  obtain ⟨a1, l1, cap1, rfl, hx1, hn1, hm1⟩ := txts_of_trod (hval 1 22 v1 rfl rfl) h1
  obtain ⟨a2, l2, cap2, rfl, hx2, hn2, hm2⟩ := bys_of_trod (hval 2 39 v2 rfl rfl) h2
  clear hA0 hval0
  refine (reportMerges_any a0 l0 cap0 a1 l1 cap1 a2 l2 cap2 W hx0 hn0 hx1 hn1 hx2 hm2).mono fun e W' ⟨he, bel⟩ => ?_
  subst he
  exact ⟨_, rfl, _, _, _, [], _, [], hW', trodAll_mk1 (shut_bool Try.underlying4 _), (trodAll_cons_mk (Below.trod laidOut (by kernel_rfl) (of_decide_eq_true (by kernel_rfl)) k0 bel lt0) (trodAll_cons_mk (Below.trod laidOut (by kernel_rfl) (of_decide_eq_true (by kernel_rfl)) k1 bel lt1) (trodAll_cons_mk (Below.trod laidOut (by kernel_rfl) (of_decide_eq_true (by kernel_rfl)) k2 bel lt2) trodAll_mk0))), rfl, bel.frame _, fun h => by cases h⟩

theorem over : Rows.reportMergesRow.holds Try.pinned (OpenSpec.ofChange Rows.reportMergesSpec) :=
  OpenClaim.holds_of_wide 4 Try.f4 rfl rfl rfl rfl rfl rfl rfl ⟨rfl, rfl, rfl, rfl, rfl⟩ rfl rfl rfl rfl rfl (by kernel_rfl) Try.func4 (by kernel_rfl)
    (of_decide_eq_true (by kernel_rfl)) (by unfold Func.isWrapper; first | (rw [if_pos (by decide +kernel)]; kernel_rfl) | (rw [if_neg (by decide +kernel)]; exact ⟨rfl, rfl⟩))
    (fun os started H enc _ => lifted os started H enc)

theorem proved : Rows.ReportMergesSaid := over
end Go.Proofs.Ytopklnehhebhmaa.reportMerges
