/- The contract of the document's Order: a row of rows of bools. -/
import Derived.Test.YtfefidmbkbigoaaSameDef
import Derived.Test.YtfefidmbkbigoaaCells
import Derived.Test.YtfefidmbkbigoaaMidRow
import Derived.Test.YtfefidmbkbigoaaNumber
import Derived.Deep.RegionHeld3
namespace Go.Proofs.Ytfefidmbkbigoaa
open Go.RowKit

theorem OwnRow.heap {T : Type} {w : World} {B g len cap : Nat} {t : TypeId} {n : Nat} {f : T → List Value} {l : List T} (h : OwnRow w B t n f (.slice (some ⟨g, 0, none⟩) len cap) l) : ∃ cur, w.heap[g]? = some (.cells cur t (0, 0)) := by
  obtain ⟨h1, ⟨h2, h3⟩ | ⟨g', cap', cur, h2, h3, h4, _⟩⟩ := h
  · simp at h2
  · simp at h2
    obtain ⟨rfl, _⟩ := h2
    exact ⟨cur, h4⟩
theorem OwnRow.ne {T : Type} {w : World} {B g : Nat} {t t' : TypeId} {n : Nat} {f : T → List Value} {v : Value} {l : List T} {xs : List Value} (h : OwnRow w B t n f v l) (hm : MidAt w g t' xs) (ht : t' ≠ t) : v.ownBlock ≠ some g := by
  intro e
  obtain ⟨h1, ⟨h2, h3⟩ | ⟨g', cap', cur, h2, h3, h4, _⟩⟩ := h
  · subst h2
    simp [Value.ownBlock] at e
  · subst h2
    simp [Value.ownBlock] at e
    subst e
    unfold MidAt at hm
    rw [hm] at h4
    simp at h4
    exact ht h4.2
/-- A row of another type is not the row's own block. -/
theorem OwnRow.other {T : Type} {w w' : World} {B g : Nat} {t t' : TypeId} {n : Nat} {f : T → List Value} {v : Value} {l : List T} {xs : List Value} (h : OwnRow w B t n f v l) (hm : MidAt w g t' xs) (ht : t' ≠ t) (ho : Only g w w') : OwnRow w' B t n f v l := by
  have hne := h.ne hm ht
  obtain ⟨h1, ⟨h2, h3⟩ | ⟨g', cap', cur, h2, h3, h4, h5⟩⟩ := h
  · exact ⟨h1, .inl ⟨h2, h3⟩⟩
  · refine ⟨h1, .inr ⟨g', cap', cur, h2, h3, (ho.block g' (Array.getElem?_eq_some_iff.1 h4).1 ?_).trans h4, h5⟩⟩
    rintro rfl
    apply hne
    rw [h2]
    rfl
theorem MidAt.grown {T : Type} {w w' : World} {B g : Nat} {t t' : TypeId} {n : Nat} {f : T → List Value} {v : Value} {l : List T} {xs : List Value} (hm : MidAt w g t' xs) (h : OwnRow w B t n f v l) (ht : t' ≠ t) (hg : w.grownBy w' v.ownBlock) : MidAt w' g t' xs :=
  (hg.block g hm.lt (fun e => h.ne hm ht e.symm)).trans hm


/-- A row of bools. -/
def rowB (n : Nat) (r : Nat → Bool) : List Value := (List.range n).map fun j => .bool (r j)
theorem rowB_len (n : Nat) (r : Nat → Bool) : (rowB n r).length = n := by simp [rowB]
theorem rowB_get (n : Nat) (r : Nat → Bool) {j : Nat} (h : j < n) : (rowB n r)[j]? = some (.bool (r j)) := by simp [rowB, h]
theorem rowB_congr {n : Nat} {r s : Nat → Bool} (h : ∀ j, j < n → r j = s j) : rowB n r = rowB n s := by
  unfold rowB
  apply List.map_congr_left
  intro j hj
  rw [h j (by simpa using hj)]
theorem rowB_set (n : Nat) (r : Nat → Bool) (j : Nat) (v : Bool) : (rowB n r).set j (.bool v) = rowB n (fun i => if i = j then v else r i) := by
  apply List.ext_getElem?
  intro i
  rw [List.getElem?_set]
  by_cases hi : i < n
  · rw [rowB_len]
    by_cases e : j = i
    · subst e
      rw [if_pos rfl, if_pos hi, rowB_get _ _ hi, if_pos rfl]
    · rw [if_neg e, rowB_get _ _ hi, rowB_get _ _ hi, if_neg (fun h => e h.symm)]
  · rw [List.getElem?_eq_none (by rw [rowB_len]; omega), List.getElem?_eq_none (by rw [rowB_len]; omega), rowB_len]
    split
    · rw [if_neg (by omega)]
    · rfl
theorem rowB_made (n : Nat) : rowB n (fun _ => false) = List.replicate n (.bool false) := by
  unfold rowB
  rw [List.map_const']
  simp

/-- What happens before event k, by those ahead from m on. -/
def ordR (l : List Ev) (k m j : Nat) : Bool := decide (j = k) || (List.range k).any (fun i => decide (m ≤ i) && (dep (evI l i) (evI l k) && hb l j i))
theorem ordR_top (l : List Ev) (k j : Nat) : ordR l k k j = decide (j = k) := by
  unfold ordR
  rw [Bool.eq_iff_iff, Bool.or_eq_true, List.any_eq_true]
  constructor
  · rintro (h | ⟨i, hi, h⟩)
    · exact h
    · simp at hi h
      omega
  · exact .inl
theorem ordR_zero (l : List Ev) (k j : Nat) : ordR l k 0 j = hb l j k := by
  unfold ordR
  rw [Bool.eq_iff_iff, hb_def, Bool.or_eq_true, List.any_eq_true, decide_eq_true_eq]
  constructor
  · rintro (h | ⟨i, hi, h⟩)
    · exact .inl h
    · rw [Bool.and_eq_true, Bool.and_eq_true] at h
      exact .inr ⟨i, by simpa using hi, h.2⟩
  · rintro (h | ⟨i, hi, h⟩)
    · exact .inl h
    · exact .inr ⟨i, by simpa using hi, by rw [Bool.and_eq_true, Bool.and_eq_true]; exact ⟨by simp, h⟩⟩
theorem ordR_step {l : List Ev} {k m j : Nat} (hm : m < k) : ordR l k m j = (ordR l k (m + 1) j || (dep (evI l m) (evI l k) && hb l j m)) := by
  unfold ordR
  rw [Bool.eq_iff_iff, Bool.or_eq_true, Bool.or_eq_true, Bool.or_eq_true, List.any_eq_true, List.any_eq_true]
  constructor
  · rintro (h | ⟨i, hi, h⟩)
    · exact .inl (.inl h)
    · rw [Bool.and_eq_true, decide_eq_true_eq] at h
      by_cases e : i = m
      · subst e; exact .inr h.2
      · exact .inl (.inr ⟨i, hi, by rw [Bool.and_eq_true, decide_eq_true_eq]; exact ⟨by omega, h.2⟩⟩)
  · rintro ((h | ⟨i, hi, h⟩) | h)
    · exact .inl h
    · rw [Bool.and_eq_true, decide_eq_true_eq] at h
      exact .inr ⟨i, hi, by rw [Bool.and_eq_true, decide_eq_true_eq]; exact ⟨by omega, h.2⟩⟩
    · exact .inr ⟨m, by simpa using hm, by rw [Bool.and_eq_true, decide_eq_true_eq]; exact ⟨Nat.le_refl _, h⟩⟩
/-- The first j places of event m's have been looked at. -/
def ordM (l : List Ev) (k m q j : Nat) : Bool := if j < q then ordR l k m j else ordR l k (m + 1) j
theorem ordM_zero (l : List Ev) (k m j : Nat) : ordM l k m 0 j = ordR l k (m + 1) j := if_neg (by omega)
theorem ordM_all {l : List Ev} {k m : Nat} (hm : m < k) (j : Nat) : ordM l k m (m + 1) j = ordR l k m j := by
  unfold ordM
  split
  · rfl
  · rw [ordR_step hm]
    cases h : hb l j m
    · simp
    · have := hb_le h
      omega
theorem ordR_skip {l : List Ev} {k m : Nat} (hm : m < k) (hd : dep (evI l m) (evI l k) = false) (j : Nat) : ordR l k m j = ordR l k (m + 1) j := by
  rw [ordR_step hm, hd]
  simp
theorem ordM_set {l : List Ev} {k m q : Nat} (hm : m < k) (hd : dep (evI l m) (evI l k) = true) (j : Nat) : ordM l k m (q + 1) j = if j = q then (ordM l k m q q || hb l q m) else ordM l k m q j := by
  unfold ordM
  by_cases e : j = q
  · subst e
    rw [if_pos (show j < j + 1 by omega), if_pos rfl, if_neg (show ¬ j < j by omega), ordR_step hm, hd]
    rfl
  · rw [if_neg e]
    by_cases h : j < q
    · rw [if_pos h, if_pos (show j < q + 1 by omega)]
    · rw [if_neg h, if_neg (show ¬ j < q + 1 by omega)]

/-- The rows that are there. -/
def OrdAt (w : World) (l : List Ev) (rows : List Value) (k G : Nat) : Prop :=
  rows.length = k ∧ ∀ i (h : i < rows.length), ∃ g, rows[i] = .slice (some ⟨g, 0, none⟩) l.length l.length ∧ MidAt w g 4 (rowB l.length fun j => hb l j i) ∧ g < G
theorem OrdAt.later {w w' : World} {l : List Ev} {rows : List Value} {k G : Nat} (h : OrdAt w l rows k G) (hb : Below w.heap.size w w') : OrdAt w' l rows k G :=
  ⟨h.1, fun i hi => by obtain ⟨g, h1, h2, h3⟩ := h.2 i hi; exact ⟨g, h1, h2.later hb, h3⟩⟩
theorem OrdAt.only {w w' : World} {l : List Ev} {rows : List Value} {k G : Nat} (h : OrdAt w l rows k G) (ho : Only G w w') : OrdAt w' l rows k G :=
  ⟨h.1, fun i hi => by obtain ⟨g, h1, h2, h3⟩ := h.2 i hi; exact ⟨g, h1, (ho.block g h2.lt (by omega)).trans h2, h3⟩⟩
theorem OrdAt.get {w : World} {l : List Ev} {rows : List Value} {k G : Nat} (h : OrdAt w l rows k G) {i : Nat} (hi : i < k) : ∃ g, rows[i]? = some (.slice (some ⟨g, 0, none⟩) l.length l.length) ∧ (∀ j, j < l.length → w.cell? ⟨g, j, none⟩ = some (.bool (hb l j i))) ∧ g < G := by
  obtain ⟨g, h1, h2, h3⟩ := h.2 i (by rw [h.1]; exact hi)
  refine ⟨g, by rw [List.getElem?_eq_getElem (by rw [h.1]; exact hi), h1], fun j hj => ?_, h3⟩
  rw [h2.cell, rowB_get _ _ hj]

def one (v : Value) : List Value := [v]
theorem one_len (v : Value) : (one v).length = 1 := rfl

/-- What Order answers: a row of rows. -/
def OrdR (l : List Ev) (w : World) (r : Ending) (w' : World) : Prop :=
  ∃ a cap rows, r = .returned (.slice a l.length cap) ∧ RowAt w' a 1 one rows ∧ OrdAt w' l rows l.length w'.heap.size ∧ Below w.heap.size w w'

theorem OwnRow.cell1 {w : World} {B g len cap : Nat} {t : TypeId} {rows : List Value} (h : OwnRow w B t 1 one (.slice (some ⟨g, 0, none⟩) len cap) rows) {i : Nat} {u : Value} (hu : rows[i]? = some u) : w.cell? ⟨g, i, none⟩ = some u := by
  have hi : i < rows.length := (List.getElem?_eq_some_iff.1 hu).1
  obtain ⟨a, cap', e, hr, _⟩ : ∃ a cap', Value.slice (some ⟨g, 0, none⟩) len cap = .slice a rows.length cap' ∧ (∀ i (h : i < rows.length), ∃ b o, a = some ⟨b, o, none⟩ ∧ w.cell? ⟨b, o + i, none⟩ = some rows[i]) ∧ True := by
    obtain ⟨h1, ⟨h2, h3⟩ | ⟨g', cap', cur, h2, h3, h4, h5, h6, h7, h8⟩⟩ := h
    · simp at h2
    · refine ⟨some ⟨g', 0, none⟩, cap', h2, fun i hi => ⟨g', 0, rfl, ?_⟩, trivial⟩
      have hj := cellsL_get one_len rows i 0 hi (by omega)
      rw [← h8, List.getElem?_take_of_lt (by omega)] at hj
      simp [World.cell?, h4]
      simpa [one] using hj
  simp at e
  obtain ⟨rfl, _⟩ := e
  obtain ⟨b, o, e2, hc⟩ := hr i hi
  cases e2
  rw [Nat.zero_add] at hc
  rw [hc, ← hu, List.getElem?_eq_getElem hi]

/-- What Order holds in memory while it fills the row of event k. -/
def OrdW (w : World) (l : List Ev) (k gr : Nat) (v : Value) (rows : List Value) (r : Nat → Bool) (w' : World) : Prop :=
  MidAt w' gr 4 (rowB l.length r) ∧ OwnRow w' w.heap.size 65 1 one v rows ∧ OrdAt w' l rows k gr ∧ Below w.heap.size w w'
theorem OrdW.later {w w1 w' : World} {l : List Ev} {k gr : Nat} {v : Value} {rows : List Value} {r : Nat → Bool} (h : OrdW w l k gr v rows r w1) (hb : Below w1.heap.size w1 w') : OrdW w l k gr v rows r w' :=
  ⟨h.1.later hb, h.2.1.later hb, h.2.2.1.later hb, h.2.2.2.trans (hb.mono h.2.2.2.size)⟩
theorem OrdW.set {w w1 : World} {l : List Ev} {k gr : Nat} {v : Value} {rows : List Value} {r s : Nat → Bool} (h : OrdW w l k gr v rows r w1) (hgr : w.heap.size ≤ gr) (j : Nat) (b : Bool) (hs : ∀ i, i < l.length → (if i = j then b else r i) = s i) : OrdW w l k gr v rows s (w1.setCell ⟨gr, j, none⟩ (.bool b)) := by
  have ho : Only gr w1 (w1.setCell ⟨gr, j, none⟩ (.bool b)) := (Only.refl _ _).setCell _ _
  refine ⟨?_, h.2.1.other h.1 (by decide) ho, h.2.2.1.only ho, h.2.2.2.setCell (p := ⟨gr, j, none⟩) hgr _⟩
  have h1 := h.1.set j (.bool b)
  rw [rowB_set, rowB_congr hs] at h1
  exact h1
theorem OrdW.congr {w w' : World} {l : List Ev} {k gr : Nat} {v : Value} {rows : List Value} {r s : Nat → Bool} (h : OrdW w l k gr v rows r w') (hs : ∀ i, i < l.length → r i = s i) : OrdW w l k gr v rows s w' := by
  refine ⟨?_, h.2⟩
  rw [← rowB_congr hs]
  exact h.1

theorem OrdW.push {w w1 w2 : World} {l : List Ev} {k gr : Nat} {v : Value} {rows : List Value} (h : OrdW w l k gr v rows (fun j => hb l j k) w1) (hg : w1.grownBy w2 v.ownBlock) : OrdAt w2 l (rows ++ [.slice (some ⟨gr, 0, none⟩) l.length l.length]) (k + 1) w2.heap.size := by
  have hk := h.2.2.1.1
  have hgr := h.1.lt
  have hs := hg.size
  refine ⟨by simp [hk], fun i hi => ?_⟩
  rw [List.length_append, List.length_singleton] at hi
  by_cases e : i < rows.length
  · obtain ⟨g, h1, h2, h3⟩ := h.2.2.1.2 i e
    exact ⟨g, by rw [List.getElem_append_left e, h1], h2.grown h.2.1 (by decide) hg, by omega⟩
  · obtain rfl : i = rows.length := by omega
    refine ⟨gr, by simp, ?_, by omega⟩
    rw [hk]
    exact h.1.grown h.2.1 (by decide) hg
theorem ordW_new {w wr : World} {l : List Ev} {k : Nat} {v : Value} {rows : List Value} (h1 : OwnRow wr w.heap.size 65 1 one v rows) (h2 : OrdAt wr l rows k wr.heap.size) (h3 : Below w.heap.size w wr) :
    OrdW w l k wr.heap.size v rows (ordR l k k) (wr.alloc (.cells ((madeCells #[.bool false] l.length).setIfInBounds k (.bool true)) 4)) := by
  have hba := below_alloc1 wr (.cells ((madeCells #[.bool false] l.length).setIfInBounds k (.bool true)) 4)
  refine ⟨?_, h1.later hba, h2.later hba, h3.trans (hba.mono h3.size)⟩
  have e : (madeCells #[.bool false] l.length) = (rowB l.length fun _ => false).toArray := by
    rw [rowB_made]
    simp [madeCells]
    apply Array.ext <;> simp [Nat.mod_one]
  have h := heap_alloc_new wr (.cells ((madeCells #[.bool false] l.length).setIfInBounds k (.bool true)) 4)
  unfold MidAt
  rw [h, e, List.setIfInBounds_toArray, rowB_set, rowB_congr]
  intro j _
  rw [ordR_top]
  by_cases e : j = k <;> simp [e]
theorem infoRow : (Try.prog.info? 65).map (fun i => (i.zero, i.size, i.bytes)) = some (some (.slice none 0 0), 1, 24) := by kernel_rfl
theorem one_one (v : Value) (h : v.oneCell' = true) : ∀ u ∈ one v, u.oneCell' = true := by
  intro u hu
  simp [one] at hu
  rw [hu]
  exact h

set_option maxRecDepth 100000 in
set_option maxHeartbeats 4000000 in
theorem order_any (a : Option Addr) (cap : Nat) (l : List Ev) (w : World) (hl : EvsAt w a l) (hm : l.length ≤ 1000) :
    Calls Try.prog 37 #[.slice a l.length cap] w (OrdR l w) := by
  have hmk := run_make_k (P := Try.prog) 65 4 (.bool false) 1 1 Try.underlying65 (by kernel_rfl) l.length (by omega) (by omega)
  have HL := Lib.hid hl
  clear hl
  go_enter Try.func37, Try.ntmps37
  go_wp2
  go_loopw [3, 4] (fun v i wr => ∃ (k : Nat) (rows : List Value), k ≤ l.length ∧ i = .int .i64 k ∧ Hid (OwnRow wr w.heap.size 65 1 one v rows ∧ OrdAt wr l rows k wr.heap.size ∧ Below w.heap.size w wr)) (fun _ i _ => l.length - (intOf i).toNat)
  case atStart => exact ⟨0, [], Nat.zero_le _, rfl, ownRow_nil _ _ _ _ _, ⟨rfl, fun i h => by simp at h⟩, Below.refl _ _⟩
  case round =>
    obtain ⟨k, rows, hk, rfl, HW⟩ := hrel
    obtain ⟨a', cap', rfl, hrow, _⟩ := HW.out.1.form one_len (by have := HW.out.2.1.1; omega)
    by_cases hlt : k < l.length
    · have hbw := HW.out.2.2
      obtain ⟨b, o, rfl, t0, t1, t2, t3⟩ := HL.out.one hlt
      have HM2 := Lib.hid (ordW_new HW.out.1 HW.out.2.1 hbw)
      have hrl := Nat.le_of_eq HW.out.2.1.1
      have hrl2 := Nat.le_of_eq HW.out.2.1.1.symm
      have hmc : (madeCells #[Value.bool false] l.length)[k]? = some (.bool false) := by simp [madeCells, hlt, Nat.mod_one]
      have hg := hbw.size
      go_wp2
      clear hmc hmk
      generalize hGR : wr.heap.size = gr at *
      go_loopw [6] (fun i wr => ∃ (m : Nat) (z : Int), m ≤ k ∧ i = .int .i64 z ∧ Hid (z = (m : Int) - 1) ∧ Hid (OrdW w l k gr (.slice a' rows.length cap') rows (ordR l k m) wr)) (fun i _ => (intOf i + 1).toNat)
      case atStart => exact ⟨k, _, Nat.le_refl _, rfl, rfl, HM2⟩
      case round =>
        clear HM2
        obtain ⟨m, z, hmk, rfl, HZ, HS⟩ := hrel
        cases m with
        | zero =>
          obtain rfl : z = -1 := by have := HZ.out; omega
          have HS0 := Lib.hid (HS.out.congr (s := fun j => hb l j k) (fun j _ => ordR_zero l k j))
          clear HS
          have hbz := HS0.out.2.2.2.size
          go_wp2_with (at_builtin; refine wp_appendR (f := one) (n := 1) 61 65 24 (.slice none 0 0) Try.underlying61 infoRow rfl (by omega) (by omega) one_len rfl (.tmp 56) (.tmp 58) rfl w.heap.size _ rows rfl (OwnRow.alloc HS0.out.2.1 _) ⟨wr.heap.size, 0, none⟩ rfl (.slice (some ⟨gr, 0, none⟩) l.length l.length) (one_one _ rfl) (cells_new wr (one (.slice (some ⟨gr, 0, none⟩) l.length l.length)) _ _ rfl) (by omega) (by simp; omega) ?_; intro v1 w2 hown2 hb3 hgrow)
          have HP := Lib.hid (OrdW.push (HS0.out.later (below_alloc1 wr _)) hgrow)
          have hb4 := ((HS0.out.2.2.2.alloc hbz _).trans hb3)
          clear hgrow hb3 HS0
          go_roundw
          case rel => exact ⟨k + 1, _, by omega, by go_num, hown2, HP.out, hb4⟩
          case measure => simp [intOf]; omega
        | succ m =>
          obtain rfl : z = (m : Int) := by have := HZ.out; omega
          have hml : m < l.length := by omega
          obtain ⟨b', o', e, s0, s1, s2, s3⟩ := HL.out.one hml
          cases e
          have hbz := HS.out.2.2.2
          have HQ : Hid (∀ w', Below wr.heap.size wr w' → (w'.cell? ⟨b, o + m * 4, none⟩ = some (.int .i64 (evI l m).thread) ∧ w'.cell? ⟨b, o + m * 4 + 1, none⟩ = some (.int .i64 (evI l m).kind) ∧ w'.cell? ⟨b, o + m * 4 + 2, none⟩ = some (.int .i64 (evI l m).obj) ∧ w'.cell? ⟨b, o + m * 4 + 3, none⟩ = some (.bool (evI l m).fail)) ∧
              (w'.cell? ⟨b, o + k * 4, none⟩ = some (.int .i64 (evI l k).thread) ∧ w'.cell? ⟨b, o + k * 4 + 1, none⟩ = some (.int .i64 (evI l k).kind) ∧ w'.cell? ⟨b, o + k * 4 + 2, none⟩ = some (.int .i64 (evI l k).obj) ∧ w'.cell? ⟨b, o + k * 4 + 3, none⟩ = some (.bool (evI l k).fail)) ∧ Below wr.heap.size wr w') := by
            intro w' h
            have h9 := hbz.trans (h.mono hbz.size)
            exact ⟨⟨cell_later h9 s0, cell_later h9 s1, cell_later h9 s2, cell_later h9 s3⟩, ⟨cell_later h9 t0, cell_later h9 t1, cell_later h9 t2, cell_later h9 t3⟩, h⟩
          have hB9 : Below wr.heap.size wr wr.drew := (Below.refl _ _).drew
          obtain ⟨D, hD⟩ : ∃ D, dep (evI l m) (evI l k) = D := ⟨_, rfl⟩
          have HD1 : Hid (∀ w', Calls Try.prog 12 #[.agg #[.int .i64 (evI l m).thread, .int .i64 (evI l m).kind, .int .i64 (evI l m).obj, .bool (evI l m).fail], .agg #[.int .i64 (evI l k).thread, .int .i64 (evI l k).kind, .int .i64 (evI l k).obj, .bool (evI l k).fail]] w' fun r w'' => r = .returned (.bool D) ∧ Below w'.heap.size w' w'') := fun w' => by rw [← hD]; exact refDepends_any (evI l m) (evI l k) w'
          have HDD := Lib.hid hD
          have hz0 : (0 : Int) ≤ m := by omega
          clear hD s0 s1 s2 s3 HZ
          generalize evI l m = x at HQ HD1
          generalize evI l k = y at HQ HD1
          go_wp2_with fail
          go_region_held3 (fun w' => (w'.cell? ⟨b, o + m * 4, none⟩ = some (.int .i64 x.thread) ∧ w'.cell? ⟨b, o + m * 4 + 1, none⟩ = some (.int .i64 x.kind) ∧ w'.cell? ⟨b, o + m * 4 + 2, none⟩ = some (.int .i64 x.obj) ∧ w'.cell? ⟨b, o + m * 4 + 3, none⟩ = some (.bool x.fail)) ∧
              (w'.cell? ⟨b, o + k * 4, none⟩ = some (.int .i64 y.thread) ∧ w'.cell? ⟨b, o + k * 4 + 1, none⟩ = some (.int .i64 y.kind) ∧ w'.cell? ⟨b, o + k * 4 + 2, none⟩ = some (.int .i64 y.obj) ∧ w'.cell? ⟨b, o + k * 4 + 3, none⟩ = some (.bool y.fail)) ∧ Below wr.heap.size wr w') (first | exact HQ.out _ hB9 | exact HQ.out _ hB10)
            (first | (go_at_call 12; ((with_reducible refine (HD1.out _).mono ?_); rintro r w10 ⟨rfl, hb10⟩; have hB10 := below_step2 hB9 hb10; clear hB9)))
          have HS2 := Lib.hid (HS.out.later hB10)
          clear HS HQ HD1 hB10 hbz
          cases D
          · have HS3 := Lib.hid (HS2.out.congr (s := ordR l k m) (fun j _ => (ordR_skip (by omega) HDD.out j).symm))
            clear HS2
            go_wp2
            go_roundw
            case rel => exact ⟨m, (m : Int) - 1, by omega, by go_num, rfl, HS3⟩
            case measure => simp [intOf]
          · obtain ⟨gv, capv, hv, _, _⟩ := HS2.out.2.1.block (by intro e; simp [e] at hrl2; omega)
            obtain ⟨rfl, rfl⟩ : a' = some ⟨gv, 0, none⟩ ∧ cap' = capv := by simpa using hv
            clear hv
            have HS3 := Lib.hid (HS2.out.congr (s := ordM l k m 0) (fun j _ => (ordM_zero l k m j).symm))
            clear HS2
            go_wp2
            go_loopw [7] (fun j wr => ∃ q : Nat, q ≤ m + 1 ∧ j = .int .i64 q ∧ Hid (OrdW w l k gr (.slice (some ⟨gv, 0, none⟩) rows.length cap') rows (ordM l k m q) wr)) (fun j _ => m + 1 - (intOf j).toNat)
            case atStart => exact ⟨0, by omega, rfl, HS3⟩
            case round =>
              clear HS3
              obtain ⟨q, hq, rfl, HS⟩ := hrel
              by_cases hqm : q ≤ m
              · have hql : q < l.length := by omega
                have hcell := HS.out.1.cell q
                rw [rowB_get _ _ hql] at hcell
                have hfr := HS.out.1.frozen q
                have HST := Lib.hid (HS.out.set (s := ordM l k m (q + 1)) hg q (ordM l k m q q || hb l q m) (fun i _ => (ordM_set (by omega) HDD.out i).symm))
                obtain ⟨gm, hrm, hcm, _⟩ := HS.out.2.2.1.get (i := m) (by omega)
                have hcr := HS.out.2.1.cell1 hrm
                have hcq := hcm q hql
                clear HS hrm hcm
                cases hV : ordM l k m q q
                · rw [hV] at hcell HST
                  rw [Bool.false_or] at HST
                  clear hV
                  go_wp2
                  go_roundw
                  case rel => exact ⟨q + 1, by omega, by go_num, HST⟩
                  case measure => simp [intOf]; omega
                · rw [hV] at hcell HST
                  rw [Bool.true_or] at HST
                  clear hV hcr hcq
                  go_wp2
                  go_roundw
                  case rel => exact ⟨q + 1, by omega, by go_num, HST⟩
                  case measure => simp [intOf]; omega
              · obtain rfl : q = m + 1 := by omega
                have HS4 := Lib.hid (HS.out.congr (s := ordR l k m) (fun j _ => ordM_all (by omega) j))
                clear HS
                have hqm2 : m < m + 1 := by omega
                go_wp2
                go_roundw
                case rel => exact ⟨m, (m : Int) - 1, by omega, by go_num, rfl, HS4⟩
                case measure => simp [intOf]
    · obtain rfl : k = l.length := by omega
      have hrl := HW.out.2.1.1
      have HF : Hid (∃ a cap rows', Value.slice a' rows.length cap' = .slice a l.length cap ∧ RowAt wr a 1 one rows' ∧ OrdAt wr l rows' l.length wr.heap.size ∧ Below w.heap.size w wr) := ⟨a', cap', rows, by rw [hrl], hrow, HW.out.2.1, HW.out.2.2⟩
      clear hrl hrow HW
      go_wp2
      go_ret
      obtain ⟨a1, cap1, rows', e, h1, h2, h3⟩ := HF.out
      exact ⟨a1, cap1, rows', congrArg Ending.returned e, h1, h2, h3⟩

end Go.Proofs.Ytfefidmbkbigoaa
