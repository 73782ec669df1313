/- Rows of events: append, SameEvents. -/
import Derived.Test.YtfhndbibabbnlaaSameRows
namespace Go.Proofs.Ytfhndbibabbnlaa
open Go.RowKit

def evCell (e : Ev) : List Value := [.int .i64 e.thread, .int .i64 e.kind, .int .i64 e.obj, .bool e.fail]
def evCells (l : List Ev) : List Value := l.flatMap evCell
theorem evCells_length (l : List Ev) : (evCells l).length = l.length * 4 := by
  induction l with
  | nil => rfl
  | cons i l ih => simp only [evCells, evCell, List.flatMap_cons, List.length_append, List.length_cons, List.length_nil] at *; omega
theorem evCells_append (a b : List Ev) : evCells (a ++ b) = evCells a ++ evCells b := by simp [evCells]
theorem evCells_get (l : List Ev) (i j : Nat) (h : i < l.length) (hj : j < 4) : (evCells l)[i * 4 + j]? = (evCell l[i])[j]? := by
  induction l generalizing i with
  | nil => simp at h
  | cons x l ih =>
    cases i with
    | zero =>
      simp only [evCells, List.flatMap_cons, Nat.zero_mul, Nat.zero_add, List.getElem_cons_zero]
      rw [List.getElem?_append_left (by simpa [evCell] using hj)]
    | succ i =>
      have := ih i (by simpa using h)
      simp only [evCells, List.flatMap_cons, List.getElem_cons_succ] at *
      rw [List.getElem?_append_right (by simp [evCell]; omega), ← this]
      congr 1
      simp [evCell]
      omega
theorem evCells_one (l : List Ev) : ∀ v ∈ evCells l, v.oneCell' = true := by
  intro v hv
  simp only [evCells, List.mem_flatMap] at hv
  obtain ⟨i, _, hv⟩ := hv
  simp [evCell] at hv
  rcases hv with rfl | rfl | rfl | rfl <;> rfl

/-- A row of events of the call's own. -/
def OwnE (w : World) (B : Nat) (v : Value) (es : List Ev) : Prop := w.ownsRow B 23 4 v es.length (evCells es)
theorem OwnE.alloc {w : World} {B : Nat} {v : Value} {l : List Ev} (h : OwnE w B v l) (o : Obj) : OwnE (w.alloc o) B v l := World.ownsRow.alloc h o
theorem ownE_nil (w : World) (B : Nat) : OwnE w B (.slice none 0 0) [] := World.ownsRow_nil w B _ _
theorem OwnE.later {w w' : World} {B : Nat} {v : Value} {l : List Ev} (h : OwnE w B v l) (hb : Below w.heap.size w w') : OwnE w' B v l := ownsRow_later h hb
theorem ownsRow_only {w w' : World} {g base : Nat} {e : TypeId} {size : Nat} {v : Value} {n : Nat} {xs : List Value} (h : w.ownsRow base e size v n xs) (ho : Only g w w') (hg : g < base) : w'.ownsRow base e size v n xs := by
  obtain ⟨h1, h2 | ⟨b, cap, cur, h2, h3, h4, h5⟩⟩ := h
  · exact ⟨h1, .inl h2⟩
  · exact ⟨h1, .inr ⟨b, cap, cur, h2, h3, (ho.block b (Array.getElem?_eq_some_iff.1 h4).1 (by omega)).trans h4, h5⟩⟩
theorem OwnE.only {w w' : World} {B g : Nat} {v : Value} {l : List Ev} (h : OwnE w B v l) (ho : Only g w w') (hg : g < B) : OwnE w' B v l := ownsRow_only h ho hg

theorem ev_new (w : World) (e : Ev) (t : TypeId) (g : Nat) (hg : g = w.heap.size) : ∀ j u, (evCells [e])[j]? = some u → (w.alloc (.cells #[.int .i64 e.thread, .int .i64 e.kind, .int .i64 e.obj, .bool e.fail] t)).cell? (Addr.add ⟨g, 0, none⟩ j) = some u := by
  subst hg
  intro j u hj
  have e : Addr.add ⟨w.heap.size, 0, none⟩ j = ⟨w.heap.size, j, none⟩ := by
    unfold Addr.add
    split
    · rename_i h0; subst h0; rfl
    · simp
  rw [e, World.cell?_alloc_new]
  simpa [evCells, evCell] using hj

theorem wp_appendE {w : World} {ops : Array Oper} {rest : List Oper} {o : Oper} {a : Act} {Q : Exit → Act → World → Prop} (hgd : o.guard = none) (s x : Operand)
    (ho : o.op = .call { callee := .builtin .append, args := #[s, x], argTypes := #[27, 27] }) (B : Nat) (v : Value) (es : List Ev) (hs : a.eval s = v) (hown : OwnE w B v es)
    (ad : Addr) (hx : a.eval x = .slice (some ad) 1 1) (e : Ev) (hnews : ∀ j u, (evCells [e])[j]? = some u → w.cell? (ad.add j) = some u)
    (hlen : es.length ≤ 1000000) (hB : B ≤ w.heap.size)
    (h : ∀ v' w', OwnE w' B v' (es ++ [e]) → Below B w w' → wpList Try.prog ops Q rest (a.put o.dst v') w') : wpList Try.prog ops Q (o :: rest) a w := by
  have hinfo : (Try.prog.info? 23).map (fun i => (i.zero, i.size, i.bytes)) = some (some (.agg #[.int .i64 0, .int .i64 0, .int .i64 0, .bool false]), 4, 32) := by kernel_rfl
  obtain ⟨t, hi, hzz⟩ := Option.map_eq_some_iff.1 hinfo
  simp only [Prod.mk.injEq] at hzz
  obtain ⟨hz, hsz, hby⟩ := hzz
  refine wpList_append_own w hgd s x 27 ho B 23 t (.agg #[.int .i64 0, .int .i64 0, .int .i64 0, .bool false]) 4 32 Try.underlying27 hi hz hsz hby rfl (by decide) v es.length (evCells es) hs hown ad 1 1 (evCells [e]) hx rfl hnews
    (evCells_one _) (by unfold maxLen; omega) (by omega) hB ?_
  intro v' w' h1 h2 _
  refine h v' w' ?_ ((Below.refl B w).grown h2 hB (fun k hk => (World.ownsRow.lt hown k hk).1))
  unfold OwnE
  rw [List.length_append, evCells_append]
  exact h1

/-- From the place a on lie, in w, the events es. -/
def EvsAt (w : World) (a : Option Addr) (es : List Ev) : Prop :=
  es.length ≤ maxLen ∧ (es ≠ [] → ∃ b o, a = some ⟨b, o, none⟩ ∧ ∀ i (h : i < es.length), w.cell? ⟨b, o + i * 4, none⟩ = some (.int .i64 es[i].thread) ∧ w.cell? ⟨b, o + i * 4 + 1, none⟩ = some (.int .i64 es[i].kind) ∧
    w.cell? ⟨b, o + i * 4 + 2, none⟩ = some (.int .i64 es[i].obj) ∧ w.cell? ⟨b, o + i * 4 + 3, none⟩ = some (.bool es[i].fail))
theorem EvsAt.later {w w' : World} {a : Option Addr} {es : List Ev} (h : EvsAt w a es) (hb : Below w.heap.size w w') : EvsAt w' a es := by
  refine ⟨h.1, fun hn => ?_⟩
  obtain ⟨b, o, rfl, hc⟩ := h.2 hn
  refine ⟨b, o, rfl, fun i hi => ?_⟩
  obtain ⟨h0, h1, h2, h3⟩ := hc i hi
  exact ⟨cell_later hb h0, cell_later hb h1, cell_later hb h2, cell_later hb h3⟩
theorem evsAt_nil (w : World) (a : Option Addr) : EvsAt w a [] := ⟨by simp [maxLen], fun h => absurd rfl h⟩

theorem OwnE.form {w : World} {B : Nat} {v : Value} {es : List Ev} (h : OwnE w B v es) (hm : es.length ≤ 1000000) : ∃ a cap, v = .slice a es.length cap ∧ EvsAt w a es := by
  obtain ⟨h1, ⟨h2, h3⟩ | ⟨g, cap, cur, h2, h3, h4, h5, h6, h7, h8⟩⟩ := h
  · have e : es = [] := List.eq_nil_of_length_eq_zero h3
    subst e
    exact ⟨none, 0, h2, evsAt_nil _ _⟩
  · have hcell : ∀ j u, (evCells es)[j]? = some u → w.cell? ⟨g, j, none⟩ = some u := by
      intro j u hj
      have hjl : j < es.length * 4 := by
        have := (List.getElem?_eq_some_iff.1 hj).1
        rw [evCells_length] at this
        exact this
      rw [← h8, List.getElem?_take_of_lt (by omega)] at hj
      simp [World.cell?, h4]
      simpa using hj
    refine ⟨some ⟨g, 0, none⟩, cap, h2, ⟨by unfold maxLen; omega, fun _ => ⟨g, 0, rfl, fun i hi => ?_⟩⟩⟩
    simp only [Nat.zero_add]
    exact ⟨hcell _ _ (evCells_get es i 0 hi (by omega)), hcell _ _ (evCells_get es i 1 hi (by omega)), hcell _ _ (evCells_get es i 2 hi (by omega)), hcell _ _ (evCells_get es i 3 hi (by omega))⟩

set_option maxRecDepth 100000 in
set_option maxHeartbeats 1000000 in
theorem sameEvents_any (a a' : Option Addr) (cap cap' : Nat) (l l' : List Ev) (w : World) (hl : EvsAt w a l) (hl' : EvsAt w a' l') :
    Calls Try.prog 18 #[.slice a l.length cap, .slice a' l'.length cap'] w fun r w' => r = .returned (.bool (decide (l = l'))) ∧ Below w.heap.size w w' := by
  have hm := hl.1
  have hm' := hl'.1
  unfold maxLen at hm hm'
  have HL := Lib.hid hl
  have HL' := Lib.hid hl'
  clear hl hl'
  by_cases hne : l.length = l'.length
  · have HE := Lib.hid hne
    have hq : ((l.length : Int) != l'.length) = false := by simp [hne]
    have hm2 : l.length ≤ l'.length := by omega
    have hm3 : l'.length ≤ l.length := by omega
    clear hne
    go_enter Try.func18, Try.ntmps18
    go_wp2
    go_loopw [5] (fun i wr => ∃ k : Nat, k ≤ l.length ∧ i = .int .i64 k ∧ Hid (l.take k = l'.take k) ∧ Below w.heap.size w wr) (fun i _ => l.length - (intOf i).toNat)
    case atStart => exact ⟨0, Nat.zero_le _, rfl, rfl, Below.refl _ _⟩
    case round =>
      obtain ⟨k, hk, rfl, hall, hb⟩ := hrel
      by_cases hlt : k < l.length
      · have hlt' : k < l'.length := by omega
        obtain ⟨b, o, rfl, hc⟩ := HL.out.2 (by intro e; simp [e] at hlt)
        obtain ⟨b', o', rfl, hc'⟩ := HL'.out.2 (by intro e; simp [e] at hlt')
        obtain ⟨c0, c1, c2, c3⟩ := hc k hlt
        obtain ⟨c0', c1', c2', c3'⟩ := hc' k hlt'
        have d0 := cell_later hb c0
        have d1 := cell_later hb c1
        have d2 := cell_later hb c2
        have d3 := cell_later hb c3
        have d0' := cell_later hb c0'
        have d1' := cell_later hb c1'
        have d2' := cell_later hb c2'
        have d3' := cell_later hb c3'
        clear hc hc' c0 c1 c2 c3 c0' c1' c2' c3'
        have HT := Lib.hid (List.take_succ_eq_append_getElem hlt : l.take (k + 1) = l.take k ++ [l[k]])
        have HT' := Lib.hid (List.take_succ_eq_append_getElem hlt' : l'.take (k + 1) = l'.take k ++ [l'[k]])
        have heq := run_equal_ev l[k] l'[k]
        by_cases he : l[k] = l'[k]
        · have hq2 : decide (l[k] = l'[k]) = true := by simp [he]
          rw [hq2] at heq
          have HR : Hid (l.take (k + 1) = l'.take (k + 1)) := by show _ = _; rw [HT.out, HT'.out, hall.out, he]
          clear he hq2 HT HT'
          generalize l[k] = x at *
          generalize l'[k] = x' at *
          go_wp2
          go_quiet (fail)
          go_wp2
          go_roundw
          case rel => exact ⟨k + 1, by omega, by go_num, HR, hb.drewN⟩
          case measure => simp [intOf]; omega
        · have hq2 : decide (l[k] = l'[k]) = false := by simpa using he
          rw [hq2] at heq
          have HR : Hid (decide (l = l') = false) := by show _ = _; simp; rintro rfl; exact he rfl
          clear he hq2 HT HT'
          generalize l[k] = x at *
          generalize l'[k] = x' at *
          go_wp2
          go_quiet (fail)
          go_wp2
          go_ret
          exact ⟨ret_bool HR.out.symm, hb.drewN⟩
      · obtain rfl : k = l.length := by omega
        have HR : Hid (decide (l = l') = true) := by
          show _ = _
          have h := hall.out
          rw [List.take_length, HE.out, List.take_length] at h
          simp [h]
        go_wp2
        go_ret
        exact ⟨ret_bool HR.out.symm, hb⟩
  · have hq : ((l.length : Int) != l'.length) = true := by simp; omega
    have H : Hid (decide (l = l') = false) := by show _ = _; simp; intro e; exact hne (by rw [e])
    clear hne
    go_enter Try.func18, Try.ntmps18
    go_wp2
    go_ret
    exact ⟨ret_bool H.out.symm, Below.refl _ _⟩

end Go.Proofs.Ytfhndbibabbnlaa
