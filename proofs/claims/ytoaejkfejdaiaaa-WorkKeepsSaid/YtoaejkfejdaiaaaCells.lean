/- Rows of elements of several cells each, whatever they are. -/
import Derived.Test.YtoaejkfejdaiaaaGen
import Derived.Laws.OwnMore
import Derived.Maps.AppendAt
namespace Go.Proofs.Ytoaejkfejdaiaaa
open Go.RowKit

section
variable {T : Type} {f : T → List Value} {n : Nat}

def cellsL (f : T → List Value) (l : List T) : List Value := l.flatMap f
theorem cellsL_length (hf : ∀ x, (f x).length = n) (l : List T) : (cellsL f l).length = l.length * n := by
  induction l with
  | nil => simp [cellsL]
  | cons x l ih =>
    unfold cellsL at *
    rw [List.flatMap_cons, List.length_append, ih, hf, List.length_cons, Nat.add_mul, Nat.one_mul]
    omega
theorem cellsL_append (f : T → List Value) (a b : List T) : cellsL f (a ++ b) = cellsL f a ++ cellsL f b := by simp [cellsL]
theorem cellsL_get (hf : ∀ x, (f x).length = n) (l : List T) (i j : Nat) (h : i < l.length) (hj : j < n) : (cellsL f l)[i * n + j]? = (f l[i])[j]? := by
  induction l generalizing i with
  | nil => simp at h
  | cons x l ih =>
    cases i with
    | zero =>
      simp only [cellsL, List.flatMap_cons, Nat.zero_mul, Nat.zero_add, List.getElem_cons_zero]
      rw [List.getElem?_append_left (by rw [hf]; exact hj)]
    | succ i =>
      have := ih i (by simpa using h)
      have e : (i + 1) * n + j - (f x).length = i * n + j := by rw [hf, Nat.add_mul]; omega
      simp only [cellsL, List.flatMap_cons, List.getElem_cons_succ] at *
      rw [List.getElem?_append_right (by rw [hf, Nat.add_mul]; omega), e, this]
theorem cellsL_one (h1 : ∀ x, ∀ v ∈ f x, v.oneCell' = true) (l : List T) : ∀ v ∈ cellsL f l, v.oneCell' = true := by
  intro v hv
  simp only [cellsL, List.mem_flatMap] at hv
  obtain ⟨x, _, hv⟩ := hv
  exact h1 x v hv
theorem cellsL_single (f : T → List Value) (x : T) : cellsL f [x] = f x := by simp [cellsL]
/-- Where a place of the cells stands. -/
theorem cellsL_ext (hf : ∀ x, (f x).length = n) (hn : 0 < n) {l : List T} {xs : List Value} (hl : xs.length = l.length * n) (h : ∀ i (h : i < l.length), ∀ j, j < n → xs[i * n + j]? = (f l[i])[j]?) : xs = cellsL f l := by
  apply List.ext_getElem?
  intro p
  by_cases hp : p < l.length * n
  · have h1 : p / n < l.length := Nat.div_lt_of_lt_mul (by rw [Nat.mul_comm]; exact hp)
    have h2 : p % n < n := Nat.mod_lt _ hn
    have e : p = p / n * n + p % n := by rw [Nat.mul_comm]; exact (Nat.div_add_mod p n).symm
    rw [e, h _ h1 _ h2, cellsL_get hf _ _ _ h1 h2]
  · rw [List.getElem?_eq_none (by omega), List.getElem?_eq_none (by rw [cellsL_length hf]; omega)]

/-- From the place a on lie, in w, the elements l. -/
def RowAt (w : World) (a : Option Addr) (n : Nat) (f : T → List Value) (l : List T) : Prop :=
  l.length ≤ maxLen ∧ (l ≠ [] → ∃ b o, a = some ⟨b, o, none⟩ ∧ ∀ i (h : i < l.length) j u, (f l[i])[j]? = some u → w.cell? ⟨b, o + i * n + j, none⟩ = some u)
theorem RowAt.later {w w' : World} {a : Option Addr} {l : List T} (h : RowAt w a n f l) (hb : Below w.heap.size w w') : RowAt w' a n f l := by
  refine ⟨h.1, fun hn => ?_⟩
  obtain ⟨b, o, rfl, hc⟩ := h.2 hn
  exact ⟨b, o, rfl, fun i hi j u hj => cell_later hb (hc i hi j u hj)⟩
theorem rowAt_nil (w : World) (a : Option Addr) (n : Nat) (f : T → List Value) : RowAt w a n f [] := ⟨by simp [maxLen], fun h => absurd rfl h⟩
/-- A piece of a row. -/
theorem RowAt.part {w : World} {b o : Nat} {l : List T} (h : RowAt w (some ⟨b, o, none⟩) n f l) (i m : Nat) : RowAt w (some ⟨b, o + i * n, none⟩) n f ((l.drop i).take m) := by
  refine ⟨Nat.le_trans (List.length_take_le' _ _) (Nat.le_trans (by simp) h.1), fun hn => ⟨b, o + i * n, rfl, fun k hk j u hj => ?_⟩⟩
  have hk' : i + k < l.length := by simp at hk; omega
  obtain ⟨b', o', e, hc⟩ := h.2 (by intro e; simp [e] at hk')
  cases e
  have h1 := hc (i + k) hk' j u (by simpa using hj)
  rw [Nat.add_mul, ← Nat.add_assoc] at h1
  exact h1

/-- A row of the call's own. -/
def OwnRow (w : World) (B : Nat) (t : TypeId) (n : Nat) (f : T → List Value) (v : Value) (l : List T) : Prop := w.ownsRow B t n v l.length (cellsL f l)
theorem OwnRow.alloc {w : World} {B : Nat} {t : TypeId} {v : Value} {l : List T} (h : OwnRow w B t n f v l) (o : Obj) : OwnRow (w.alloc o) B t n f v l := World.ownsRow.alloc h o
theorem ownRow_nil (w : World) (B : Nat) (t : TypeId) (n : Nat) (f : T → List Value) : OwnRow w B t n f (.slice none 0 0) [] := World.ownsRow_nil w B _ _
theorem OwnRow.later {w w' : World} {B : Nat} {t : TypeId} {v : Value} {l : List T} (h : OwnRow w B t n f v l) (hb : Below w.heap.size w w') : OwnRow w' B t n f v l := ownsRow_later h hb
theorem OwnRow.only {w w' : World} {B g : Nat} {t : TypeId} {v : Value} {l : List T} (h : OwnRow w B t n f v l) (ho : Only g w w') (hg : g < B) : OwnRow w' B t n f v l := ownsRow_only h ho hg
theorem OwnRow.form {w : World} {B : Nat} {t : TypeId} {v : Value} {l : List T} (h : OwnRow w B t n f v l) (hf : ∀ x, (f x).length = n) (hm : l.length ≤ 1000000) : ∃ a cap, v = .slice a l.length cap ∧ RowAt w a n f l ∧ (a = none → cap = 0) := by
  obtain ⟨h1, ⟨h2, h3⟩ | ⟨g, cap, cur, h2, h3, h4, h5, h6, h7, h8⟩⟩ := h
  · have e : l = [] := List.eq_nil_of_length_eq_zero h3
    subst e
    exact ⟨none, 0, h2, rowAt_nil _ _ _ _, fun _ => rfl⟩
  · refine ⟨some ⟨g, 0, none⟩, cap, h2, ⟨by unfold maxLen; omega, fun _ => ⟨g, 0, rfl, fun i hi j u hj => ?_⟩⟩, by simp⟩
    have hjn : j < n := by rw [← hf l[i]]; exact (List.getElem?_eq_some_iff.1 hj).1
    rw [← cellsL_get hf l i j hi hjn, ← h8] at hj
    have hlt : i * n + j < l.length * n := by
      have : (i + 1) * n ≤ l.length * n := Nat.mul_le_mul_right n hi
      rw [Nat.add_mul, Nat.one_mul] at this
      omega
    rw [List.getElem?_take_of_lt hlt] at hj
    simp [World.cell?, h4]
    simpa using hj
/-- A row that is not empty lies in a block of its own. -/
theorem OwnRow.block {w : World} {B : Nat} {t : TypeId} {v : Value} {l : List T} (h : OwnRow w B t n f v l) (hn : l ≠ []) : ∃ g cap, v = .slice (some ⟨g, 0, none⟩) l.length cap ∧ B ≤ g ∧ g < w.heap.size := by
  obtain ⟨h1, ⟨h2, h3⟩ | ⟨g, cap, cur, h2, h3, h4, h5, h6, h7, h8⟩⟩ := h
  · exact absurd (List.eq_nil_of_length_eq_zero h3) hn
  · exact ⟨g, cap, h2, h3, (Array.getElem?_eq_some_iff.1 h4).1⟩

theorem cells_new (w : World) (cs : List Value) (t : TypeId) (g : Nat) (hg : g = w.heap.size) : ∀ j u, cs[j]? = some u → (w.alloc (.cells cs.toArray t)).cell? (Addr.add ⟨g, 0, none⟩ j) = some u := by
  subst hg
  intro j u hj
  have e : Addr.add ⟨w.heap.size, 0, none⟩ j = ⟨w.heap.size, j, none⟩ := by rw [add_row, Nat.zero_add]
  rw [e, World.cell?_alloc_new]
  simpa using hj

/-- One element more. -/
theorem wp_appendR {P : Program} {w : World} {ops : Array Oper} {rest : List Oper} {o : Oper} {a : Act} {Q : Exit → Act → World → Prop} (st et : TypeId) (bytes : Nat) (z : Value) (hu : P.underlying st = some (.slice et))
    (hinfo : (P.info? et).map (fun i => (i.zero, i.size, i.bytes)) = some (some z, n, bytes)) (hz : z.cells.size = n) (hn : 0 < n) (hby : bytes ≤ 1000) (hf : ∀ x, (f x).length = n)
    (hgd : o.guard = none) (s x : Operand) (ho : o.op = .call { callee := .builtin .append, args := #[s, x], argTypes := #[st, st] }) (B : Nat) (v : Value) (l : List T) (hs : a.eval s = v) (hown : OwnRow w B et n f v l)
    (ad : Addr) (hx : a.eval x = .slice (some ad) 1 1) (e : T) (h1 : ∀ v ∈ f e, v.oneCell' = true) (hnews : ∀ j u, (f e)[j]? = some u → w.cell? (ad.add j) = some u) (hlen : l.length ≤ 1000000) (hB : B ≤ w.heap.size)
    (h : ∀ v' w', OwnRow w' B et n f v' (l ++ [e]) → Below B w w' → w.grownBy w' v.ownBlock → wpList P ops Q rest (a.put o.dst v') w') : wpList P ops Q (o :: rest) a w := by
  obtain ⟨i, hi, hzz⟩ := Option.map_eq_some_iff.1 hinfo
  simp only [Prod.mk.injEq] at hzz
  obtain ⟨hiz, hisz, hiby⟩ := hzz
  refine wpList_append_own w hgd s x st ho B et i z n bytes hu hi hiz hisz hiby hz hn v l.length (cellsL f l) hs hown ad 1 1 (f e) hx (by rw [hf, Nat.one_mul]) hnews
    h1 (by unfold maxLen; omega) ?_ hB ?_
  · have : (l.length + 1) * bytes ≤ 1000001 * 1000 := Nat.mul_le_mul (by omega) hby
    omega
  intro v' w' h2 h3 _
  refine h v' w' ?_ ((Below.refl B w).grown h3 hB (fun k hk => (World.ownsRow.lt hown k hk).1)) h3
  unfold OwnRow
  rw [List.length_append, cellsL_append, cellsL_single]
  exact h2

/-- One element more, and where the row lies then. -/
theorem wp_appendAt {P : Program} {w : World} {o : Oper} {a : Act} {K : Act → World → Prop} {Q : Exit → Act → World → Prop} (st et : TypeId) (bytes : Nat) (z : Value) (hu : P.underlying st = some (.slice et))
    (hinfo : (P.info? et).map (fun i => (i.zero, i.size, i.bytes)) = some (some z, n, bytes)) (hz : z.cells.size = n) (hn : 0 < n) (hby : bytes ≤ 1000) (hf : ∀ x, (f x).length = n)
    (s x : Operand) (ho : o.op = .call { callee := .builtin .append, args := #[s, x], argTypes := #[st, st] }) (B : Nat) (v : Value) (l : List T) (hs : a.eval s = v) (hown : OwnRow w B et n f v l)
    (ad : Addr) (hx : a.eval x = .slice (some ad) 1 1) (e : T) (h1 : ∀ v ∈ f e, v.oneCell' = true) (hnews : ∀ j u, (f e)[j]? = some u → w.cell? (ad.add j) = some u) (hlen : l.length ≤ 1000000) (hB : B ≤ w.heap.size)
    (h : ∀ v' w', OwnRow w' B et n f v' (l ++ [e]) → Below B w w' → w.grownBy w' v.ownBlock → (v'.ownBlock = v.ownBlock ∨ v'.ownBlock = some w.heap.size) → K (a.put o.dst v') w') : Oper.wp P o a w K Q := by
  obtain ⟨i, hi, hzz⟩ := Option.map_eq_some_iff.1 hinfo
  simp only [Prod.mk.injEq] at hzz
  obtain ⟨hiz, hisz, hiby⟩ := hzz
  have hbb : (l.length + 1) * bytes ≤ 140737488355328 := by
    have : (l.length + 1) * bytes ≤ 1000001 * 1000 := Nat.mul_le_mul (by omega) hby
    omega
  obtain ⟨v', w', hrun, r1, r2, _, r4⟩ := run_append_own_at (P := P) w B st o.type et i z n bytes hu hi hiz hisz hiby hz hn v l.length (cellsL f l) hown ad 1 1 (f e) (by rw [hf, Nat.one_mul]) hnews h1 (by unfold maxLen; omega) hbb hB
  have hK := h v' w' (by unfold OwnRow; rw [List.length_append, cellsL_append, cellsL_single]; exact r1) ((Below.refl B w).grown r2 hB (fun k hk => (World.ownsRow.lt hown k hk).1)) r2 r4
  unfold Oper.wp
  simp [execOp, ho, resolve, invoke, builtin, hs, hx, hrun, Result.andThen]
  exact hK
/-- The same in a region whose order is drawn. -/
theorem step_appendAt {P : Program} {w : World} {ops : Array Oper} {o : Oper} {a : Act} {K : Act → World → Prop} {Q : Exit → Act → World → Prop} {E : Prop} (st et : TypeId) (bytes : Nat) (z : Value) (hu : P.underlying st = some (.slice et))
    (hinfo : (P.info? et).map (fun i => (i.zero, i.size, i.bytes)) = some (some z, n, bytes)) (hz : z.cells.size = n) (hn : 0 < n) (hby : bytes ≤ 1000) (hf : ∀ x, (f x).length = n) (hgd : o.guard = none)
    (s x : Operand) (ho : o.op = .call { callee := .builtin .append, args := #[s, x], argTypes := #[st, st] }) (B : Nat) (v : Value) (l : List T) (hs : a.eval s = v) (hown : OwnRow w B et n f v l)
    (ad : Addr) (hx : a.eval x = .slice (some ad) 1 1) (e : T) (h1 : ∀ v ∈ f e, v.oneCell' = true) (hnews : ∀ j u, (f e)[j]? = some u → w.cell? (ad.add j) = some u) (hlen : l.length ≤ 1000000) (hB : B ≤ w.heap.size)
    (h : ∀ v' w', OwnRow w' B et n f v' (l ++ [e]) → Below B w w' → w.grownBy w' v.ownBlock → (v'.ownBlock = v.ownBlock ∨ v'.ownBlock = some w.heap.size) → K (a.put o.dst v') w') : if Region.wanted o (yielded ops a.tmps) = true then Oper.wp P o a w K Q else E := by
  have hw : Region.wanted o (yielded ops a.tmps) = true := by simp [Region.wanted, hgd]
  rw [if_pos hw]
  exact wp_appendAt st et bytes z hu hinfo hz hn hby hf s x ho B v l hs hown ad hx e h1 hnews hlen hB h

/-- Four numbers in a block. -/
def nums4 (c : Nat → Int) : List Value := [.int .i64 (c 0), .int .i64 (c 1), .int .i64 (c 2), .int .i64 (c 3)]
theorem nums4_congr {c d : Nat → Int} (h : ∀ t, t < 4 → c t = d t) : nums4 c = nums4 d := by
  unfold nums4
  rw [h 0 (by omega), h 1 (by omega), h 2 (by omega), h 3 (by omega)]
theorem nums4_get (c : Nat → Int) {t : Nat} (h : t < 4) : (nums4 c)[t]? = some (.int .i64 (c t)) := by
  rcases (by omega : t = 0 ∨ t = 1 ∨ t = 2 ∨ t = 3) with rfl | rfl | rfl | rfl <;> rfl
theorem nums4_set (c : Nat → Int) (v : Int) {t : Nat} (h : t < 4) : (nums4 c).set t (.int .i64 v) = nums4 (fun j => if j = t then v else c j) := by
  rcases (by omega : t = 0 ∨ t = 1 ∨ t = 2 ∨ t = 3) with rfl | rfl | rfl | rfl <;> rfl

theorem run_index4 {P : Program} (w : World) {t elem : TypeId} {d : TypeDesc} (c : Nat → Int) (q : Nat) (hu : P.underlying t = some (.array 4 elem)) (he : P.underlying elem = some d)
    (hd : (match d with | .struct _ | .array _ _ => true | _ => false) = false) (hs : (P.info? elem).map (·.size) = some 1) (hq : q < 4) : (Instr.index t (.agg #[.int .i64 (c 0), .int .i64 (c 1), .int .i64 (c 2), .int .i64 (c 3)]) (.int .i64 (q : Int))).run P w = .ok (.int .i64 (c q)) w :=
  run_index_one w q hu he hd hs hq (by rcases (by omega : q = 0 ∨ q = 1 ∨ q = 2 ∨ q = 3) with rfl | rfl | rfl | rfl <;> rfl)
end
theorem OwnRow.kindQ {T : Type} {f : T → List Value} {n : Nat} {w : World} {B : Nat} {t : TypeId} {v : Value} {l : List T} (h : OwnRow w B t n f v l) {g : Nat} (hg : v.ownBlock = some g) : B ≤ g ∧ ∃ c, w.heap[g]? = some (.cells c t (0, 0)) := by
  obtain ⟨h1, ⟨rfl, _⟩ | ⟨g', cap, cur, rfl, h3, h4, h5⟩⟩ := h
  · simp [Value.ownBlock] at hg
  · simp [Value.ownBlock] at hg
    subst hg
    exact ⟨h3, cur, h4⟩
theorem OwnRow.keepQ {T : Type} {f : T → List Value} {n : Nat} {w w' : World} {B : Nat} {t : TypeId} {v : Value} {l : List T} (h : OwnRow w B t n f v l) (hs : ∀ g, v.ownBlock = some g → w'.heap[g]? = w.heap[g]?) : OwnRow w' B t n f v l := by
  obtain ⟨h1, h2 | ⟨g, cap, cur, h2, h3, h4, h5⟩⟩ := h
  · exact ⟨h1, .inl h2⟩
  · exact ⟨h1, .inr ⟨g, cap, cur, h2, h3, (hs g (by rw [h2]; rfl)).trans h4, h5⟩⟩

/-- Numbered values in an array. -/
def cxA (n : Nat) (cx : Nat → Value) : Array Value := ((List.range n).map cx).toArray
theorem cxA_get {n i : Nat} (cx : Nat → Value) (h : i < n) : (cxA n cx)[i]? = some (cx i) := by simp [cxA, h]
theorem cxA_set {n i : Nat} (cx : Nat → Value) (v : Value) : (cxA n cx).setIfInBounds i v = cxA n (updF cx i v) := by
  apply Array.ext_getElem?
  intro j
  by_cases hj : j < n
  · by_cases e : i = j
    · subst e
      rw [cxA_get _ hj, updF_same]
      simp [cxA, hj]
    · rw [cxA_get _ hj, updF_ne _ _ (Ne.symm e), Array.getElem?_setIfInBounds_ne e, cxA_get _ hj]
  · rw [Array.getElem?_eq_none (by simp [cxA]; omega), Array.getElem?_eq_none (by simp [cxA]; omega)]
theorem cxA_const {n : Nat} (z : Array Value) (cx : Nat → Value) (hz : z.size = n) (h : ∀ i, i < n → z[i]? = some (cx i)) : z = cxA n cx := by
  apply Array.ext_getElem?
  intro j
  by_cases hj : j < n
  · rw [cxA_get _ hj, h j hj]
  · rw [Array.getElem?_eq_none (by omega), Array.getElem?_eq_none (by simp [cxA]; omega)]
end Go.Proofs.Ytoaejkfejdaiaaa
