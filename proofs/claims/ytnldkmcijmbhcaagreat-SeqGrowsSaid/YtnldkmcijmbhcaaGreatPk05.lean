import Derived.Deep.DeepCutAuto
import Derived.Laws.OwnMore
import Derived.Deep.RegionHeld3
import Derived.RangeFuncNested
import Derived.RangeFuncBound
import Derived.RangeFuncCalls
import Derived.RangeFuncLeaves
import Derived.RangeFuncBox
import Derived.Shelf.Abstract
import Derived.Shelf.RegionOpen
import Derived.WalkKit
import Derived.OwnWalkIn
import Derived.TacticsInMore
import Derived.LoopNIn
import Derived.LoopIn
import Derived.Sort.QuietIn
import Derived.Test.YtnldkmcijmbhcaaGreatPk01
import Derived.Test.YtnldkmcijmbhcaaGreatPk04

/-
  Plain data for layer 5: levels are apart from one another; one event more. Nothing of the translation.
-/
namespace Go.Proofs.YtnldkmcijmbhcaaGreat

/-- Levels as they may be: none is empty, by rising threads, apart, each on the one ahead. -/
structure LvOk (m : List (List Ev)) : Prop where
  full : ∀ i, i < m.length → m.getD i [] ≠ []
  apart : ∀ i, i < m.length → (m.getD i []).Pairwise fun a b => dep a b = false
  rise : ∀ i, i < m.length → (m.getD i []).Pairwise fun a b => a.thread < b.thread
  on : ∀ i, i + 1 < m.length → ∀ e ∈ m.getD (i + 1) [], ∃ x ∈ m.getD i [], dep x e = true

theorem insE_pairwise {R : Ev → Ev → Prop} {e : Ev} {r : List Ev} (h : r.Pairwise R) (h1 : ∀ x ∈ r, R x e) (h2 : ∀ x ∈ r, R e x) : (insE e r).Pairwise R := by
  induction r with
  | nil => simp [insE]
  | cons y r ih =>
    rw [List.pairwise_cons] at h
    unfold insE
    split
    · rw [List.pairwise_cons, List.pairwise_cons]
      exact ⟨h2, h⟩
    · rw [List.pairwise_cons]
      refine ⟨fun x hx => ?_, ih h.2 (fun x hx => h1 x (by simp [hx])) (fun x hx => h2 x (by simp [hx]))⟩
      rcases mem_insE.1 hx with rfl | hx
      · exact h1 y (by simp)
      · exact h.1 x hx
theorem insE_rise {e : Ev} {r : List Ev} (h : r.Pairwise fun a b => a.thread < b.thread) (h1 : ∀ x ∈ r, x.thread ≠ e.thread) : (insE e r).Pairwise fun a b => a.thread < b.thread := by
  induction r with
  | nil => simp [insE]
  | cons y r ih =>
    have hy := h1 y (by simp)
    have hc := h
    rw [List.pairwise_cons] at h
    unfold insE
    split
    · rename_i hlt
      rw [List.pairwise_cons]
      refine ⟨fun x hx => ?_, hc⟩
      rcases List.mem_cons.1 hx with rfl | hx
      · exact hlt
      · have := h.1 x hx
        omega
    · rw [List.pairwise_cons]
      refine ⟨fun x hx => ?_, ih h.2 (fun x hx => h1 x (by simp [hx]))⟩
      rcases mem_insE.1 hx with rfl | hx
      · omega
      · exact h.1 x hx

theorem addL_get {m : List (List Ev)} {e : Ev} (i : Nat) : (addL m e).getD i [] = if i = lvN m e then insE e (m.getD i []) else m.getD i [] := by
  unfold addL putL
  by_cases h : lvN m e < m.length
  · rw [if_pos h, getD_set _ _ _ _ _ h]
    split
    · rename_i hi; rw [hi]
    · rfl
  · have hn : lvN m e = m.length := by have := lvN_le m e; omega
    rw [if_neg h, hn]
    by_cases hi : i = m.length
    · subst hi
      rw [if_pos rfl]
      simp [List.getD, insE]
    · rw [if_neg hi]
      rcases Nat.lt_or_gt_of_ne hi with hlt | hgt
      · simp [List.getD, List.getElem?_append_left hlt]
      · simp [List.getD, List.getElem?_append_right (Nat.le_of_lt hgt), List.getElem?_eq_none (Nat.le_of_lt hgt), show i - m.length ≠ 0 by omega]
theorem addL_length (m : List (List Ev)) (e : Ev) : (addL m e).length = if lvN m e < m.length then m.length else m.length + 1 := putL_length m _ e
theorem insE_ne (e : Ev) (r : List Ev) : insE e r ≠ [] := by
  intro h
  have := insE_length e r
  rw [h] at this
  simp at this

theorem LvOk.add {m : List (List Ev)} (h : LvOk m) (e : Ev) : LvOk (addL m e) := by
  have hle := lvN_le m e
  have hlen := addL_length m e
  have hin : ∀ i, i < (addL m e).length → i ≠ lvN m e → i < m.length := by
    intro i hi hne
    rw [hlen] at hi
    split at hi <;> omega
  have hmem : ∀ x ∈ m.getD (lvN m e) [], dep x e = false ∧ dep e x = false ∧ x.thread ≠ e.thread := by
    intro x hx
    have h1 := lvN_free (Nat.le_refl _) hx
    refine ⟨h1, by rw [dep_symm]; exact h1, fun ht => ?_⟩
    rw [dep_thread ht] at h1
    cases h1
  have hold : ∀ (R : Ev → Ev → Prop), (∀ i, i < m.length → (m.getD i []).Pairwise R) → (m.getD (lvN m e) []).Pairwise R := by
    intro R hR
    by_cases hl : lvN m e < m.length
    · exact hR _ hl
    · have : m.getD (lvN m e) [] = [] := by simp [List.getD, List.getElem?_eq_none (Nat.le_of_not_lt hl)]
      rw [this]
      exact List.Pairwise.nil
  refine ⟨fun i hi => ?_, fun i hi => ?_, fun i hi => ?_, fun i hi x hx => ?_⟩
  · rw [addL_get]
    split
    · exact insE_ne _ _
    · rename_i hne; exact h.full i (hin i hi hne)
  · rw [addL_get]
    split
    · rename_i he
      subst he
      exact insE_pairwise (hold _ h.apart) (fun x hx => (hmem x hx).1) (fun x hx => (hmem x hx).2.1)
    · rename_i hne; exact h.apart i (hin i hi hne)
  · rw [addL_get]
    split
    · rename_i he
      subst he
      exact insE_rise (hold _ h.rise) (fun x hx => (hmem x hx).2.2)
    · rename_i hne; exact h.rise i (hin i hi hne)
  · have hsup : ∀ y ∈ m.getD i [], y ∈ (addL m e).getD i [] := by
      intro y hy
      rw [addL_get]
      split
      · exact mem_insE.2 (.inr hy)
      · exact hy
    rw [addL_get] at hx
    split at hx
    · rename_i he
      rcases mem_insE.1 hx with rfl | hx
      · obtain ⟨y, hy, hd⟩ := lvN_some he.symm
        exact ⟨y, hsup y hy, hd⟩
      · have hl : i + 1 < m.length := by
          apply Classical.byContradiction
          intro hn
          simp [List.getD, List.getElem?_eq_none (Nat.le_of_not_lt hn)] at hx
        obtain ⟨y, hy, hd⟩ := h.on i hl x hx
        exact ⟨y, hsup y hy, hd⟩
    · rename_i hne
      obtain ⟨y, hy, hd⟩ := h.on i (hin _ hi hne) x hx
      exact ⟨y, hsup y hy, hd⟩

theorem lvls_ok (l : List Ev) : LvOk (lvls l) := by
  have : ∀ (y : List Ev) (m : List (List Ev)), LvOk m → LvOk (y.foldl addL m) := by
    intro y
    induction y with
    | nil => intro m h; exact h
    | cons e y ih => intro m h; exact ih _ (h.add e)
  exact this l [] ⟨fun i hi => by simp at hi, fun i hi => by simp at hi, fun i hi => by simp at hi, fun i hi => by simp at hi⟩

theorem flatten_add (m : List (List Ev)) (e : Ev) : (addL m e).flatten.length = m.flatten.length + 1 := by
  unfold addL putL
  by_cases h : lvN m e < m.length
  · rw [if_pos h]
    generalize lvN m e = n at *
    have hm : m = m.take n ++ m.getD n [] :: m.drop (n + 1) := by
      conv => lhs; rw [← List.take_append_drop n m, List.drop_eq_getElem_cons h]
      rw [getD_lt _ h]
    rw [List.set_eq_take_append_cons_drop, if_pos h]
    conv => rhs; rw [hm]
    simp only [List.flatten_append, List.flatten_cons, List.length_append, insE_length]
    omega
  · rw [if_neg h]
    simp
theorem lvls_count (l : List Ev) : (lvls l).flatten.length = l.length := by
  have : ∀ (y : List Ev) (m : List (List Ev)), (y.foldl addL m).flatten.length = m.flatten.length + y.length := by
    intro y
    induction y with
    | nil => intro m; simp
    | cons e y ih => intro m; rw [List.foldl_cons, ih, flatten_add, List.length_cons]; omega
  have h := this l []
  rw [List.flatten_nil, List.length_nil, Nat.zero_add] at h
  exact h
theorem mem_lvls {l : List Ev} {e : Ev} (h : e ∈ (lvls l).flatten) : e ∈ l := by
  have : ∀ (y : List Ev) (m : List (List Ev)), e ∈ (y.foldl addL m).flatten → e ∈ m.flatten ∨ e ∈ y := by
    intro y
    induction y with
    | nil => intro m h; exact .inl h
    | cons f y ih =>
      intro m h
      rcases ih _ h with h | h
      · obtain ⟨row, hrow, her⟩ := List.mem_flatten.1 h
        obtain ⟨i, hi, hie⟩ := List.mem_iff_getElem.1 hrow
        have hg : (addL m f).getD i [] = row := by rw [getD_lt _ hi, hie]
        rw [addL_get] at hg
        split at hg
        · rw [← hg] at her
          rcases mem_insE.1 her with rfl | her
          · exact .inr (by simp)
          · refine .inl (List.mem_flatten.2 ?_)
            by_cases hl : i < m.length
            · rw [getD_lt _ hl] at her
              exact ⟨_, List.getElem_mem hl, her⟩
            · simp [List.getD, List.getElem?_eq_none (Nat.le_of_not_lt hl)] at her
        · rw [← hg] at her
          refine .inl (List.mem_flatten.2 ?_)
          by_cases hl : i < m.length
          · rw [getD_lt _ hl] at her
            exact ⟨_, List.getElem_mem hl, her⟩
          · simp [List.getD, List.getElem?_eq_none (Nat.le_of_not_lt hl)] at her
      · exact .inr (by simp [h])
  rcases this l [] h with h | h
  · simp at h
  · exact h

end Go.Proofs.YtnldkmcijmbhcaaGreat

/- The contract of foata's byThread: an event put into a level. -/
namespace Go.Proofs.YtnldkmcijmbhcaaGreat
open Go.RowKit

theorem insE_at {e : Ev} : ∀ (es : List Ev) (k : Nat), k ≤ es.length → (∀ j (h : j < es.length), j < k → es[j].thread < e.thread) → (∀ h : k < es.length, e.thread < es[k].thread) → insE e es = insAt es k e
  | [], 0, _, _, _ => rfl
  | x :: r, 0, _, _, h => by
    have h1 := h (by simp)
    rw [insE_cons_lt r (by simpa using h1)]
    rfl
  | x :: r, k + 1, hk, ha, h => by
    have h0 := ha 0 (by simp) (by omega)
    rw [insE_cons_ge r (by simp at h0; omega), insE_at r k (by simpa using hk) (fun j hj hjk => by have := ha (j + 1) (by simpa using hj) (by omega); simpa using this) (fun hk' => by have := h (by simpa using hk'); simpa using this)]
    rfl

/-- What putting into a level answers. -/
def LayR (B : Nat) (w : World) (v : Value) (es : List Ev) (r : Ending) (w' : World) : Prop :=
  ∃ v', r = .returned v' ∧ OwnE w' B v' es ∧ Below B w w' ∧ w.grownBy w' v.ownBlock ∧ (∀ g, v'.ownBlock = some g → v.ownBlock = some g ∨ w.heap.size ≤ g)

theorem grown_below {w w' : World} (h : Below w.heap.size w w') (row : Option Nat) : w.grownBy w' row := ⟨h.os, h.tape, h.output, h.size, fun k hk _ => h.block k hk⟩

theorem LayR.from {B : Nat} {w W1 w' : World} {v : Value} {es : List Ev} {r : Ending} (h : LayR B W1 v es r w') (hb : Below w.heap.size w W1) (hB : B ≤ w.heap.size) : LayR B w v es r w' := by
  obtain ⟨v', h1, h2, h3, h4, h5⟩ := h
  exact ⟨v', h1, h2, (hb.mono hB).trans h3, (grown_below hb _).trans h4, fun g hg => (h5 g hg).imp id (fun h => Nat.le_trans hb.size h)⟩
theorem insert_new (B : Nat) (v : Value) (k : Nat) (es : List Ev) (e : Ev) (w : World) (hk : k ≤ es.length) (hm : es.length ≤ 1000) (hB : B ≤ w.heap.size) (hown : OwnE w B v es) :
    Calls Tryz.prog 122 #[v, .int .i64 k, .slice (some ⟨w.heap.size, 0, none⟩) 1 1] (w.alloc (.cells #[.int .i64 e.thread, .int .i64 e.kind, .int .i64 e.obj, .bool e.fail] 81)) (LayR B w v (insAt es k e)) := by
  have hb := below_alloc1 w (.cells #[.int .i64 e.thread, .int .i64 e.kind, .int .i64 e.obj, .bool e.fail] 81)
  refine (insert_any B v k w.heap.size es e _ _ _ hk hm (Nat.le_trans hB hb.size) (hown.later hb) (heap_alloc_new w _) (fun j u hj => by simpa [evCell] using hj) (fun e => by have := (World.ownsRow.lt hown _ e).2; omega)).mono ?_
  rintro r w' ⟨v', h1, h2, h3, h4, h5⟩
  refine LayR.from ⟨v', h1, h2, h3, h4, fun g hg => ?_⟩ hb hB
  rcases h5 with h5 | h5
  · left; rw [← h5]; exact hg
  · right; rw [h5] at hg; injection hg with hg; omega

set_option maxHeartbeats 4000000 in
set_option maxRecDepth 100000 in
theorem lay_any (B : Nat) (v : Value) (es : List Ev) (e : Ev) (w : World) (hB : B ≤ w.heap.size) (hm : es.length ≤ 1000) (hown : OwnE w B v es) (hne : ∀ x ∈ es, x.thread ≠ e.thread) :
    Calls Tryz.prog 102 #[v, .agg #[.int .i64 e.thread, .int .i64 e.kind, .int .i64 e.obj, .bool e.fail]] w (LayR B w v (insE e es)) := by
  obtain ⟨a, cap, rfl, hev⟩ := OwnE.form hown (by omega)
  have HO := Lib.hid hown
  have HE := Lib.hid hev
  have HN := Lib.hid hne
  clear hown hev hne
  have HBX := Lib.hid (EvBox.new w e)
  have hb0 := below_alloc1 w (.cells #[.int .i64 e.thread, .int .i64 e.kind, .int .i64 e.obj, .bool e.fail] 81)
  go_enter Tryz.func102, Tryz.ntmps102
  go_wp2_with fail
  generalize w.alloc (.cells #[.int .i64 e.thread, .int .i64 e.kind, .int .i64 e.obj, .bool e.fail] 81) = W0 at *
  go_loopw [5] (fun i wr => ∃ k : Nat, k ≤ es.length ∧ i = .int .i64 k ∧ Hid (∀ j (h : j < es.length), j < k → es[j].thread < e.thread) ∧ Hid (Below W0.heap.size W0 wr)) (fun i _ => es.length - (intOf i).toNat)
  case atStart => exact ⟨0, Nat.zero_le _, rfl, (fun j _ h => absurd h (by omega)), Below.refl _ _⟩
  case round =>
    obtain ⟨k, hk, rfl, HA, HB⟩ := hrel
    by_cases hlt : k < es.length
    · obtain ⟨b, o, rfl, t0, t1, t2, t3⟩ := HE.out.one hlt
      have hbx := hb0.trans (HB.out.mono hb0.size)
      have d0 := cell_later hbx t0
      obtain ⟨c0, c1, c2, c3⟩ := (HBX.out.later HB.out).cells
      have HX := Lib.hid hbx
      clear t0 t1 t2 t3 hbx
      have hkl : decide ((k : Int) < (es.length : Int)) = true := by simp; omega
      have hki : (k : Int) < (es.length : Int) := by omega
      have hki0 : (0 : Int) ≤ k := by omega
      by_cases hth : (evI es k).thread < e.thread
      · have hq : decide ((evI es k).thread < e.thread) = true := by simp; omega
        have HA2 : Hid (∀ j (h : j < es.length), j < k + 1 → es[j].thread < e.thread) := fun j h hj => by
          by_cases e' : j = k
          · subst e'
            rw [← evI_get h]
            exact hth
          · exact HA.out j h (by omega)
        go_wp2_with fail
        go_quiet (fail)
        go_wp2
        go_roundw
        case rel => exact ⟨k + 1, by omega, by go_num, HA2, HB.out.drewN⟩
        case measure => simp [intOf]; omega
      · have hq : decide ((evI es k).thread < e.thread) = false := by simp; omega
        have HI : Hid (insE e es = insAt es k e) := insE_at es k hk HA.out (fun h => by
          have h1 := HN.out es[k] (List.getElem_mem h)
          rw [evI_get h] at hth
          omega)
        have HC : Hid (∀ W, Below w.heap.size w W → Calls Tryz.prog 122 #[.slice (some ⟨b, o, none⟩) es.length cap, .int .i64 k, .slice (some ⟨W.heap.size, 0, none⟩) 1 1] (W.alloc (.cells #[.int .i64 e.thread, .int .i64 e.kind, .int .i64 e.obj, .bool e.fail] 81)) (LayR B w (.slice (some ⟨b, o, none⟩) es.length cap) (insE e es))) := fun W hW => by
          rw [HI.out]
          exact (insert_new B _ k es e W hk hm (Nat.le_trans hB hW.size) (HO.out.later hW)).mono fun r w' h => h.from hW hB
        go_wp2_with fail
        go_quiet (fail)
        go_wp2_with fail
        refine (HC.out _ HX.out.drewN).mono ?_
        rintro r w' ⟨v', rfl, h2, h3, h4, h5⟩
        go_wp2
        go_ret
        exact ⟨v', rfl, h2, h3, h4, h5⟩
    · obtain rfl : k = es.length := by omega
      have hbx := hb0.trans (HB.out.mono hb0.size)
      obtain ⟨c0, c1, c2, c3⟩ := (HBX.out.later HB.out).cells
      have HX := Lib.hid hbx
      have hkl : decide ((es.length : Int) < (es.length : Int)) = false := by simp
      have HI : Hid (insE e es = insAt es es.length e) := insE_at es es.length hk HA.out (fun h => absurd h (by omega))
      have HC : Hid (∀ W, Below w.heap.size w W → Calls Tryz.prog 122 #[.slice a es.length cap, .int .i64 es.length, .slice (some ⟨W.heap.size, 0, none⟩) 1 1] (W.alloc (.cells #[.int .i64 e.thread, .int .i64 e.kind, .int .i64 e.obj, .bool e.fail] 81)) (LayR B w (.slice a es.length cap) (insE e es))) := fun W hW => by
        rw [HI.out]
        exact (insert_new B _ es.length es e W hk hm (Nat.le_trans hB hW.size) (HO.out.later hW)).mono fun r w' h => h.from hW hB
      clear hbx
      go_wp2_with fail
      go_quiet (fail)
      go_wp2_with fail
      refine (HC.out _ HX.out.drewN).mono ?_
      rintro r w' ⟨v', rfl, h2, h3, h4, h5⟩
      go_wp2
      go_ret
      exact ⟨v', rfl, h2, h3, h4, h5⟩

end Go.Proofs.YtnldkmcijmbhcaaGreat

/- Levels in memory: a row of rows of events. -/
namespace Go.Proofs.YtnldkmcijmbhcaaGreat
open Go.RowKit

/-- A slice. -/
structure Sl where
  a : Option Addr
  n : Nat
  c : Nat
instance : Inhabited Sl := ⟨⟨none, 0, 0⟩⟩
def slV (s : Sl) : Value := .slice s.a s.n s.c
def slCell (s : Sl) : List Value := [.slice s.a s.n s.c]
theorem slCell_len (s : Sl) : (slCell s).length = 1 := rfl
theorem slCell_one (s : Sl) : ∀ v ∈ slCell s, v.oneCell' = true := by
  intro v hv
  simp [slCell] at hv
  subst hv
  rfl

/-- Levels to be read. -/
def LvAt (w : World) (a : Option Addr) (m : List (List Ev)) : Prop :=
  ∃ ss : List Sl, ss.length = m.length ∧ RowAt w a 1 slCell ss ∧ ∀ i (h : i < ss.length), ss[i].n = (m.getD i []).length ∧ EvsAt w ss[i].a (m.getD i []) ∧ (ss[i].a = none → ss[i].c = 0) ∧ ss[i].n ≤ ss[i].c
theorem LvAt.later {w w' : World} {a : Option Addr} {m : List (List Ev)} (h : LvAt w a m) (hb : Below w.heap.size w w') : LvAt w' a m := by
  obtain ⟨ss, h1, h2, h3⟩ := h
  exact ⟨ss, h1, h2.later hb, fun i hi => ⟨(h3 i hi).1, (h3 i hi).2.1.later hb, (h3 i hi).2.2⟩⟩

/-- Levels of one's own. -/
structure OwnLv (w : World) (B : Nat) (v : Value) (ss : List Sl) (m : List (List Ev)) : Prop where
  len : ss.length = m.length
  outer : OwnRow w B 57 1 slCell v ss
  inner : ∀ i (h : i < ss.length), OwnE w B (slV ss[i]) (m.getD i [])
  apart : ∀ i j (hi : i < ss.length) (hj : j < ss.length), i ≠ j → (slV ss[i]).ownBlock = none ∨ (slV ss[i]).ownBlock ≠ (slV ss[j]).ownBlock
theorem OwnLv.later {w w' : World} {B : Nat} {v : Value} {ss : List Sl} {m : List (List Ev)} (h : OwnLv w B v ss m) (hb : Below w.heap.size w w') : OwnLv w' B v ss m :=
  ⟨h.len, h.outer.later hb, fun i hi => (h.inner i hi).later hb, h.apart⟩
theorem ownLv_nil (w : World) (B : Nat) : OwnLv w B (.slice none 0 0) [] [] := ⟨rfl, ownRow_nil _ _ _ _ _, fun i hi => absurd hi (by simp), fun i _ hi => absurd hi (by simp)⟩
theorem OwnE.sl {w : World} {B : Nat} {s : Sl} {es : List Ev} (h : OwnE w B (slV s) es) (hm : es.length ≤ 1000000) : s.n = es.length ∧ EvsAt w s.a es ∧ (s.a = none → s.c = 0) ∧ s.n ≤ s.c := by
  have h0 := h
  obtain ⟨a, cap, e, he⟩ := OwnE.form h hm
  unfold slV at e
  injection e with e1 e2 e3
  refine ⟨e2, by rw [e1]; exact he, fun hn => ?_, ?_⟩
  · obtain ⟨_, ⟨h2, _⟩ | ⟨g, cap', cur, h2, _⟩⟩ := h0
    · unfold slV at h2
      injection h2
    · unfold slV at h2
      injection h2 with h2
      rw [hn] at h2
      cases h2
  · obtain ⟨_, ⟨h2, _⟩ | ⟨g, cap', cur, h2, _, _, h5, _⟩⟩ := h0
    · unfold slV at h2
      injection h2 with _ h3 h4
      omega
    · unfold slV at h2
      injection h2 with _ h3 h4
      omega
theorem OwnLv.form {w : World} {B : Nat} {v : Value} {ss : List Sl} {m : List (List Ev)} (h : OwnLv w B v ss m) (hm : m.length ≤ 1000) (hi : ∀ i, i < m.length → (m.getD i []).length ≤ 1000) :
    ∃ a cap, v = .slice a m.length cap ∧ LvAt w a m ∧ (a = none → cap = 0) := by
  obtain ⟨a, cap, h1, h2, h3⟩ := OwnRow.form h.outer slCell_len (by rw [h.len]; omega)
  rw [h.len] at h1
  refine ⟨a, cap, h1, ⟨ss, h.len, h2, fun i hi' => ?_⟩, h3⟩
  exact OwnE.sl (h.inner i hi') (by have := hi i (by rw [← h.len]; exact hi'); omega)

end Go.Proofs.YtnldkmcijmbhcaaGreat

/- append(.., row...) of events onto a row of the call's own. -/
namespace Go.Proofs.YtnldkmcijmbhcaaGreat
open Go.RowKit

theorem EvsAt.cellAt {w : World} {b o : Nat} {es : List Ev} (h : EvsAt w (some ⟨b, o, none⟩) es) (j : Nat) (u : Value) (hj : (evCells es)[j]? = some u) : w.cell? (Addr.add ⟨b, o, none⟩ j) = some u := by
  have hjl : j < es.length * 4 := by
    have := (List.getElem?_eq_some_iff.1 hj).1
    rw [evCells_length] at this
    exact this
  obtain ⟨b', o', e, hc⟩ := h.2 (by rintro rfl; simp at hjl)
  injection e with e
  injection e with e1 e2
  subst e1 e2
  have hi : j / 4 < es.length := by omega
  have hg := evCells_get es (j / 4) (j % 4) hi (by omega)
  rw [show j / 4 * 4 + j % 4 = j by omega, hj] at hg
  have ha : Addr.add ⟨b, o, none⟩ j = ⟨b, o + j, none⟩ := by unfold Addr.add; split <;> simp_all
  rw [ha]
  obtain ⟨c0, c1, c2, c3⟩ := hc (j / 4) hi
  rcases (by omega : j % 4 = 0 ∨ j % 4 = 1 ∨ j % 4 = 2 ∨ j % 4 = 3) with hr | hr | hr | hr <;> rw [hr] at hg <;> simp [evCell] at hg <;> subst hg
  · rw [← c0]; congr 2; omega
  · rw [← c1]; congr 2; omega
  · rw [← c2]; congr 2; omega
  · rw [← c3]; congr 2; omega

theorem wp_copyE {w : World} {o : Oper} {a : Act} {K : Act → World → Prop} {Q : Exit → Act → World → Prop} (s x : Operand)
    (ho : o.op = .call { callee := .builtin .append, args := #[s, x], argTypes := #[57, 57] }) (B : Nat) (v : Value) (es : List Ev) (hs : a.eval s = v) (hown : OwnE w B v es)
    (ra : Option Addr) (rcap : Nat) (row : List Ev) (hx : a.eval x = .slice ra row.length rcap) (hrow : EvsAt w ra row) (hra : ra = none → rcap = 0 ∧ row = [])
    (hlen : es.length + row.length ≤ 1000000) (hB : B ≤ w.heap.size)
    (h : ∀ v' w', OwnE w' B v' (es ++ row) → Below B w w' → K (a.put o.dst v') w') : Oper.wp Tryz.prog o a w K Q := by
  have hinfo : (Tryz.prog.info? 81).map (fun i => (i.zero, i.size, i.bytes)) = some (some (.agg #[.int .i64 0, .int .i64 0, .int .i64 0, .bool false]), 4, 32) := by kernel_rfl
  obtain ⟨i, hi, hzz⟩ := Option.map_eq_some_iff.1 hinfo
  simp only [Prod.mk.injEq] at hzz
  obtain ⟨hz, hsz, hby⟩ := hzz
  cases ra with
  | none =>
    obtain ⟨rfl, rfl⟩ := hra rfl
    have hrun := run_append_owned_none (P := Tryz.prog) (w := w) B 57 o.type 81 i 4 Tryz.underlying57 hi v es.length (evCells es) hown
    have hK := h v w (by rw [List.append_nil]; exact hown) (Below.refl _ _)
    unfold Oper.wp
    simp [execOp, ho, resolve, invoke, builtin, hs, hx, hrun, Result.andThen]
    exact hK
  | some ad =>
    by_cases hne : row = []
    · subst hne
      refine wp_append_own w s x 57 ho B 81 i (.agg #[.int .i64 0, .int .i64 0, .int .i64 0, .bool false]) 4 32 Tryz.underlying57 hi hz hsz hby rfl (by decide) v es.length (evCells es) hs hown ad 0 rcap [] hx (by simp) (by simp) (by simp) (by unfold maxLen; omega) (by omega) hB ?_
      intro v' w' h1 h2 _
      refine h v' w' ?_ ((Below.refl B w).grown h2 hB (fun k hk => (World.ownsRow.lt hown k hk).1))
      unfold OwnE
      simpa using h1
    · obtain ⟨b, o', e, hc⟩ := hrow.2 hne
      injection e with e
      subst e
      refine wp_append_own w s x 57 ho B 81 i (.agg #[.int .i64 0, .int .i64 0, .int .i64 0, .bool false]) 4 32 Tryz.underlying57 hi hz hsz hby rfl (by decide) v es.length (evCells es) hs hown ⟨b, o', none⟩ row.length rcap (evCells row) hx (by rw [evCells_length]) (fun j u hj => hrow.cellAt j u hj)
        (evCells_one _) (by unfold maxLen; omega) (by omega) hB ?_
      intro v' w' h1 h2 _
      refine h v' w' ?_ ((Below.refl B w).grown h2 hB (fun k hk => (World.ownsRow.lt hown k hk).1))
      unfold OwnE
      rw [List.length_append, evCells_append]
      exact h1

theorem wpList_copyE {w : World} {ops : Array Oper} {rest : List Oper} {o : Oper} {a : Act} {Q : Exit → Act → World → Prop} (hgd : o.guard = none) (s x : Operand)
    (ho : o.op = .call { callee := .builtin .append, args := #[s, x], argTypes := #[57, 57] }) (B : Nat) (v : Value) (es : List Ev) (hs : a.eval s = v) (hown : OwnE w B v es)
    (ra : Option Addr) (rcap : Nat) (row : List Ev) (hx : a.eval x = .slice ra row.length rcap) (hrow : EvsAt w ra row) (hra : ra = none → rcap = 0 ∧ row = [])
    (hlen : es.length + row.length ≤ 1000000) (hB : B ≤ w.heap.size)
    (h : ∀ v' w', OwnE w' B v' (es ++ row) → Below B w w' → wpList Tryz.prog ops Q rest (a.put o.dst v') w') : wpList Tryz.prog ops Q (o :: rest) a w :=
  wpList_plain hgd fun _ hK => wp_copyE s x ho B v es hs hown ra rcap row hx hrow hra hlen hB fun v' w' h1 h2 => hK _ _ (h v' w' h1 h2)

theorem ownE_empty (w W : World) (h : W.heap = (w.alloc (.cells #[] 81)).heap) : OwnE W w.heap.size (.slice (some ⟨w.heap.size, 0, none⟩) 0 0) [] := by
  have h0 : (w.alloc (.cells #[] 81)).ownsRow w.heap.size 81 4 (.slice (some ⟨w.heap.size, 0, none⟩) 0 0) 0 [] := World.ownsRow_made w #[] 0 (Nat.le_refl _) (by simp [maxLen]) rfl
  obtain ⟨h1, h2 | ⟨g, cap, cur, h2, h3, h4, h5⟩⟩ := h0
  · exact ⟨h1, .inl h2⟩
  · exact ⟨h1, .inr ⟨g, cap, cur, h2, h3, by rw [h]; exact h4, h5⟩⟩

end Go.Proofs.YtnldkmcijmbhcaaGreat

/- The contracts of slices.Grow of nothing, of slices.Concat, and of foata's Row. -/
namespace Go.Proofs.YtnldkmcijmbhcaaGreat
open Go.RowKit

theorem LvAt.one {w : World} {a : Option Addr} {m : List (List Ev)} (h : LvAt w a m) {k : Nat} (hk : k < m.length) :
    ∃ b o sa sc, a = some ⟨b, o, none⟩ ∧ w.cell? ⟨b, o + k, none⟩ = some (.slice sa (m.getD k []).length sc) ∧ EvsAt w sa (m.getD k []) ∧ (sa = none → sc = 0) := by
  obtain ⟨ss, h1, h2, h3⟩ := h
  have hks : k < ss.length := by omega
  obtain ⟨b, o, rfl, hc⟩ := h2.2 (by intro e; simp [e] at hks)
  have h4 := hc k hks 0 _ rfl
  rw [Nat.mul_one, Nat.add_zero] at h4
  obtain ⟨h5, h6, h7, _⟩ := h3 k hks
  rw [h5] at h4
  exact ⟨b, o, _, _, rfl, h4, h6, h7⟩
/-- The same, with its room. -/
theorem LvAt.room {w : World} {a : Option Addr} {m : List (List Ev)} (h : LvAt w a m) {k : Nat} (hk : k < m.length) :
    ∃ b o sa sc, a = some ⟨b, o, none⟩ ∧ w.cell? ⟨b, o + k, none⟩ = some (.slice sa (m.getD k []).length sc) ∧ EvsAt w sa (m.getD k []) ∧ (m.getD k []).length ≤ sc := by
  obtain ⟨ss, h1, h2, h3⟩ := h
  have hks : k < ss.length := by omega
  obtain ⟨b, o, rfl, hc⟩ := h2.2 (by intro e; simp [e] at hks)
  have h4 := hc k hks 0 _ rfl
  rw [Nat.mul_one, Nat.add_zero] at h4
  obtain ⟨h5, h6, _, h8⟩ := h3 k hks
  rw [h5] at h4 h8
  exact ⟨b, o, _, _, rfl, h4, h6, h8⟩
theorem evsAt_none {w : World} {l : List Ev} (h : EvsAt w none l) : l = [] := by
  apply Classical.byContradiction
  intro hn
  obtain ⟨b, o, e, _⟩ := h.2 hn
  cases e
theorem flat_take (m : List (List Ev)) {k : Nat} (hk : k < m.length) : (m.take (k + 1)).flatten = (m.take k).flatten ++ m.getD k [] := by
  rw [List.take_add_one, List.getElem?_eq_getElem hk, List.flatten_append, getD_lt _ hk]
  simp
theorem flat_le (m : List (List Ev)) (k : Nat) : (m.take k).flatten.length ≤ m.flatten.length := by
  conv => rhs; rw [← List.take_append_drop k m]
  rw [List.flatten_append, List.length_append]
  omega

end Go.Proofs.YtnldkmcijmbhcaaGreat

/- The contracts of slices.Concat, and of foata's Row. -/
namespace Go.Proofs.YtnldkmcijmbhcaaGreat
open Go.RowKit

theorem ownsRow_base {w : World} {B B' : Nat} {t : TypeId} {n m : Nat} {v : Value} {xs : List Value} (h : w.ownsRow B t n v m xs) (hB : B' ≤ B) : w.ownsRow B' t n v m xs := by
  obtain ⟨h1, h2 | ⟨g, cap, cur, h2, h3, h4⟩⟩ := h
  · exact ⟨h1, .inl h2⟩
  · exact ⟨h1, .inr ⟨g, cap, cur, h2, Nat.le_trans hB h3, h4⟩⟩

def RowR (w : World) (l : List Ev) (r : Ending) (w' : World) : Prop := ∃ v, r = .returned v ∧ OwnE w' w.heap.size v l ∧ Below w.heap.size w w'

end Go.Proofs.YtnldkmcijmbhcaaGreat

/- The contracts of event's Read and of the document's, once more: the row is the call's own. -/
namespace Go.Proofs.YtnldkmcijmbhcaaGreat
open Go.RowKit

theorem ERow.own {w : World} {B n : Nat} {es : List Ev} (h : ERow w B n es) (hn : es.length = n) (hm : n ≤ 1000000) : OwnE w B (.slice (some ⟨B, 0, none⟩) n n) es := by
  obtain ⟨h1, zs, h2, h3⟩ := h
  have hz : zs = [] := List.eq_nil_of_length_eq_zero (by omega)
  subst hz
  rw [List.append_nil] at h3
  refine ⟨by rw [evCells_length], .inr ⟨B, n, (evCells es).toArray, by rw [hn], Nat.le_refl _, h3, by omega, by unfold maxLen; omega, by simp [evCells_length, hn], ?_⟩⟩
  rw [hn, List.take_of_length_le]
  simp [evCells_length, hn]
end Go.Proofs.YtnldkmcijmbhcaaGreat

/- The contracts of levelOf's closure, of slices.IndexFunc and of slices.ContainsFunc with it. -/
namespace Go.Proofs.YtnldkmcijmbhcaaGreat
open Go.RowKit

set_option maxRecDepth 100000 in
set_option maxHeartbeats 1000000 in
theorem ahead_any (x e : Ev) (g : Nat) (w : World) (hb : EvBox w g e) :
    Calls Tryz.prog 121 #[.agg #[.int .i64 x.thread, .int .i64 x.kind, .int .i64 x.obj, .bool x.fail], .pointer (some ⟨g, 0, none⟩)] w fun r w' => r = .returned (.bool (dep x e)) ∧ Below w.heap.size w w' := by
  have hba := below_alloc1 w (.cells #[.int .i64 x.thread, .int .i64 x.kind, .int .i64 x.obj, .bool x.fail] 81)
  obtain ⟨c0, c1, c2, c3⟩ := (hb.later hba).cells
  obtain ⟨d0, d1, d2, d3⟩ := (EvBox.new w x).cells
  clear hb
  go_enter Tryz.func121, Tryz.ntmps121
  go_wp2_with fail
  refine (depends_any x e _).mono ?_
  rintro r w' ⟨rfl, hb'⟩
  have hB := hba.trans (hb'.mono hba.size)
  go_wp2
  go_ret
  exact ⟨rfl, hB⟩

def IdxR (es : List Ev) (e : Ev) (w : World) (r : Ending) (w' : World) : Prop := ∃ z : Int, r = .returned (.int .i64 z) ∧ decide (0 ≤ z) = es.any (fun x => dep x e) ∧ Below w.heap.size w w'

set_option maxRecDepth 100000 in
set_option maxHeartbeats 2000000 in
theorem indexE_any (a : Option Addr) (cap : Nat) (es : List Ev) (e : Ev) (g : Nat) (w : World) (hl : EvsAt w a es) (hb : EvBox w g e) :
    Calls Tryz.prog 141 #[.slice a es.length cap, .func (.func 121) #[] #[.pointer (some ⟨g, 0, none⟩)]] w (IdxR es e w) := by
  have hm := hl.1
  unfold maxLen at hm
  have HL := Lib.hid hl
  have HB := Lib.hid hb
  clear hl hb
  go_enter Tryz.func141, Tryz.ntmps141
  go_wp2
  go_loopw [8] (fun i wr => ∃ k : Nat, k ≤ es.length ∧ i = .int .i64 k ∧ Hid (∀ j (h : j < es.length), j < k → dep es[j] e = false) ∧ Below w.heap.size w wr) (fun i _ => es.length - (intOf i).toNat)
  case atStart => exact ⟨0, Nat.zero_le _, rfl, (fun j _ h => absurd h (by omega)), Below.refl _ _⟩
  case round =>
    obtain ⟨k, hk, rfl, HA, hbw⟩ := hrel
    by_cases hlt : k < es.length
    · obtain ⟨b, o, rfl, hc⟩ := HL.out.2 (by intro e; simp [e] at hlt)
      obtain ⟨c0, c1, c2, c3⟩ := hc k hlt
      have d0 := cell_later hbw c0
      have d1 := cell_later hbw c1
      have d2 := cell_later hbw c2
      have d3 := cell_later hbw c3
      have HX := Lib.hid (HB.out.later hbw)
      have h1 : Hid (dep es[k] e = true → es.any (fun x => dep x e) = true) := fun h => List.any_eq_true.2 ⟨_, List.getElem_mem hlt, h⟩
      have h2 : Hid (dep es[k] e = false → ∀ j (h : j < es.length), j < k + 1 → dep es[j] e = false) := fun h j hj hjk => by
        by_cases e' : j = k
        · subst e'; exact h
        · exact HA.out j hj (by omega)
      clear hc c0 c1 c2 c3
      generalize es[k] = x at *
      go_wp2_with fail
      refine (ahead_any x e g _ HX.out).mono ?_
      rintro r w2 ⟨rfl, hb5⟩
      have hb6 := hbw.trans (hb5.mono hbw.size)
      clear hb5
      cases hr : dep x e
      · have HN := Lib.hid (h2.out hr)
        clear h1 h2
        go_wp2
        go_roundw
        case rel => exact ⟨k + 1, by omega, by go_num, HN, hb6⟩
        case measure => simp [intOf]; omega
      · have HN := Lib.hid (h1.out hr)
        clear h1 h2
        go_wp2
        go_ret
        exact ⟨k, rfl, by rw [HN.out]; simp, hb6⟩
    · have HN : Hid (es.any (fun x => dep x e) = false) := by
        show _ = _
        rw [List.any_eq_false]
        intro x hx
        obtain ⟨j, hj, rfl⟩ := List.mem_iff_getElem.1 hx
        rw [HA.out j hj (by omega)]
        simp
      obtain rfl : k = es.length := by omega
      go_wp2
      go_ret
      exact ⟨-1, rfl, by rw [HN.out]; simp, hbw⟩

set_option maxRecDepth 100000 in
set_option maxHeartbeats 1000000 in
theorem containsE_any (a : Option Addr) (cap : Nat) (es : List Ev) (e : Ev) (g : Nat) (w : World) (hl : EvsAt w a es) (hb : EvBox w g e) :
    Calls Tryz.prog 120 #[.slice a es.length cap, .func (.func 121) #[] #[.pointer (some ⟨g, 0, none⟩)]] w fun r w' => r = .returned (.bool (es.any fun x => dep x e)) ∧ Below w.heap.size w w' := by
  have H := Lib.hid (indexE_any a cap es e g w hl hb)
  clear hl hb
  go_enter Tryz.func120, Tryz.ntmps120
  go_wp2_with fail
  refine H.out.mono ?_
  rintro r w' ⟨z, rfl, hz, hb'⟩
  have HZ := Lib.hid hz
  clear hz
  go_wp2
  go_ret
  exact ⟨ret_bool HZ.out, hb'⟩

end Go.Proofs.YtnldkmcijmbhcaaGreat

/- A range from the end on: which rounds have come. -/
namespace Go.Proofs.YtnldkmcijmbhcaaGreat
open Go.RowKit Go.Shelf

/-- What has come when k rounds are over: f 0, .., f (k - 1). -/
def upto {T : Type} (f : Nat → T) (k : Nat) : List T := (List.range k).map f
theorem upto_succ {T : Type} (f : Nat → T) (k : Nat) : upto f (k + 1) = upto f k ++ [f k] := by simp [upto, List.range_succ]
theorem upto_length {T : Type} (f : Nat → T) (k : Nat) : (upto f k).length = k := by simp [upto]

/-- The rounds' places, from the end on. -/
def Backs (n k : Nat) (pre : List (Fin n)) : Prop := pre.map (fun q => q.val) = upto (fun k => n - 1 - k) k
theorem backs_nil (n : Nat) : Backs n 0 [] := rfl
theorem Backs.len {n k : Nat} {pre : List (Fin n)} (h : Backs n k pre) : pre.length = k := by
  have := congrArg List.length h
  simpa [upto_length] using this
theorem Backs.snoc {n k : Nat} {pre : List (Fin n)} (h : Backs n k pre) {q : Fin n} (hq : q.val = n - 1 - k) : Backs n (k + 1) (pre ++ [q]) := by
  unfold Backs at *
  rw [List.map_append, h, upto_succ]
  simp [hq]
theorem Backs.mem {n k : Nat} {pre : List (Fin n)} (h : Backs n k pre) {j : Nat} (hj : n - k ≤ j) (hjn : j < n) (hk : k ≤ n) : (⟨j, hjn⟩ : Fin n) ∈ pre := by
  have h1 : j ∈ pre.map (fun q => q.val) := by
    unfold Backs at h
    rw [h]
    unfold upto
    rw [List.mem_map]
    exact ⟨n - 1 - j, by rw [List.mem_range]; omega, by omega⟩
  obtain ⟨q, hq, e⟩ := List.mem_map.1 h1
  have : q = ⟨j, hjn⟩ := Fin.ext e
  rw [← this]
  exact hq
theorem MidAt.keptRow {w w' : World} {g : Nat} {t : TypeId} {xs : List Value} {row : Option Nat} (h : MidAt w g t xs) (hg : w.grownBy w' row) (hr : ∀ r, row = some r → ∃ o : Obj, w.heap[r]? = some o ∧ o.isCells = false) : MidAt w' g t xs := by
  refine (hg.block g h.lt fun e => ?_).trans h
  obtain ⟨o, ho, hc⟩ := hr g e.symm
  unfold MidAt at h
  rw [h] at ho
  cases ho
  cases hc

end Go.Proofs.YtnldkmcijmbhcaaGreat

/- The contracts of slices.Backward over a row of levels, and of what it hands back. -/
namespace Go.Proofs.YtnldkmcijmbhcaaGreat
open Go.RowKit Go.Shelf

attribute [local go_sem] Oper.semAt_some

def backL (cs : List Sl) (q : Fin cs.length) : Array Value := #[.int .i64 (q.val : Int), .slice cs[q.val].a cs[q.val].n cs[q.val].c]

set_option maxRecDepth 100000 in
set_option maxHeartbeats 2000000 in
theorem backL1_in (F : Fence) (n : Nat) (h7 : F.fn 140) (hro : F.round = none) (hn : 1 ≤ n) (l Bs n₀ : Nat) (a : Option Addr) (cap : Nat) (cs : List Sl) (hreach : cs.length ≤ 1000) (hbs : Bs < n₀)
    (J Jx : List (Fin cs.length) → World → Prop)
    (hY : ∀ pre x W, J pre W → pre.length < cs.length → YieldAt F (n - 1) Tryz.prog l (backL cs x) W fun e W' => (e = .returned (.bool true) ∧ J (pre ++ [x]) W' ∧ Below n₀ W W') ∨ (e = .returned (.bool false) ∧ Jx (pre ++ [x]) W'))
    (W : World) (hBs : W.cell? ⟨Bs, 0, none⟩ = some (.slice a cs.length cap)) (hrow : RowAt W a 1 slCell cs) (hb : 0 < cs.length → ∀ b o, a = some ⟨b, o, none⟩ → b < n₀) (h0 : J [] W) :
    CallsIn F n Tryz.prog 140 #[.func (.yield l) #[] #[], .pointer (some ⟨Bs, 0, none⟩)] W fun e W' => (∃ v, e = .returned v) ∧
      ((∃ ys, Backs cs.length cs.length ys ∧ J ys W') ∨ (∃ pre, (∃ k, k ≤ cs.length ∧ Backs cs.length k pre) ∧ Jx pre W')) := by
  refine callsIn_of_wp Tryz.func140 rfl h7 ?_ hro
  simp only [Tryz.ntmps140, List.size_toArray, List.length_cons, List.length_nil, Nat.reduceAdd, Nat.reduceSub, Array.replicate_succ, Array.replicate_zero, List.push_toArray, List.append_toArray, List.nil_append, List.cons_append]
  gi_wp2
  gi_loopw [3] (fun i wr => ∃ (k : Nat) (z : Int) (pre : List (Fin cs.length)), k ≤ cs.length ∧ i = .int .i64 z ∧ Hid (z = (cs.length : Int) - 1 - k) ∧ Hid (Backs cs.length k pre) ∧ J pre wr ∧ Below n₀ W wr) (fun i _ => (intOf i + 1).toNat)
  case atStart => exact ⟨0, _, [], Nat.zero_le _, rfl, (by show _ = _; omega), backs_nil _, h0, Below.refl _ _⟩
  case round =>
    obtain ⟨k, z, pre, hk, rfl, HZ, HP, hJs, hnx⟩ := hrel
    have cBs := (hnx.cell (p := ⟨Bs, 0, none⟩) hbs).trans hBs
    by_cases hlt : k < cs.length
    · obtain ⟨b, o, rfl, hcell⟩ := hrow.2 (by intro e; simp [e] at hlt)
      have hbn := hb (by omega) b o rfl
      obtain ⟨q, hq⟩ : ∃ q : Nat, q = cs.length - 1 - k := ⟨_, rfl⟩
      obtain rfl : z = (q : Int) := by have := HZ.out; omega
      have hql : q < cs.length := by omega
      have c0 : wr.cell? ⟨b, o + q, none⟩ = some (.slice cs[q].a cs[q].n cs[q].c) := by
        have h := (hnx.cell (p := ⟨b, o + q * 1 + 0, none⟩) hbn).trans (hcell q hql 0 _ rfl)
        rw [Nat.mul_one, Nat.add_zero] at h
        exact h
      obtain ⟨fn, tmps, assign, body, hy, hR⟩ := hY pre ⟨q, hql⟩ wr hJs (by rw [HP.out.len]; exact hlt)
      dsimp only [backL] at hy
      have HQ := Lib.hid hq
      have HP2 : Hid (Backs cs.length (k + 1) (pre ++ [⟨q, hql⟩])) := HP.out.snoc hq
      clear hcell hq
      gi_wp2
      refine hR.mono ?_
      rintro e W3 (⟨rfl, hJ3, hk3⟩ | ⟨rfl, hJx3⟩)
      · gi_wp2
        go_roundw
        case rel => exact ⟨k + 1, (q : Int) - 1, _, by omega, by go_num, (by show _ = _; have := HQ.out; omega), HP2, hJ3, hnx.trans hk3⟩
        case measure => simp [intOf]
      · gi_wp2
        refine bodyPost_ret (results_none rfl _ _ _) rfl ?_
        exact ⟨⟨_, rfl⟩, .inr ⟨_, ⟨k + 1, by omega, HP2.out⟩, hJx3⟩⟩
    · obtain rfl : k = cs.length := by omega
      obtain rfl : z = -1 := by have := HZ.out; omega
      gi_wp2
      go_end0
      exact ⟨⟨_, rfl⟩, .inl ⟨_, HP.out, hJs⟩⟩

set_option maxHeartbeats 1000000 in
theorem backL_in (F : Fence) (n : Nat) (h5 : F.fn 119) (hro : F.round = none) (a : Option Addr) (len cap : Nat) (w : World) :
    CallsIn F n Tryz.prog 119 #[.slice a len cap] w fun e w' => e = .returned (.func (.func 140) #[] #[.pointer (some ⟨w.heap.size, 0, none⟩)]) ∧ w' = w.alloc (.cells #[.slice a len cap] 114) := by
  refine callsIn_of_wp Tryz.func119 rfl h5 ?_ hro
  simp only [Tryz.ntmps119, List.size_toArray, List.length_cons, List.length_nil, Nat.reduceAdd, Nat.reduceSub, Array.replicate_succ, Array.replicate_zero, List.push_toArray, List.append_toArray, List.nil_append, List.cons_append]
  gi_wp2
  go_ret
  exact ⟨rfl, rfl⟩

theorem backL_stops (F : Fence) (n : Nat) (h7 : F.fn 140) (hro : F.round = none) (hn : 1 ≤ n) (Bs n₀ : Nat) (a : Option Addr) (cap : Nat) (cs : List Sl) (hreach : cs.length ≤ 1000) (w : World) (hbs : Bs < n₀) (hn₀ : n₀ ≤ w.heap.size)
    (hc : w.cell? ⟨Bs, 0, none⟩ = some (.slice a cs.length cap)) (hrow : RowAt w a 1 slCell cs) (hb : 0 < cs.length → ∀ b o, a = some ⟨b, o, none⟩ → b < n₀) :
    SeqStopsK F n Tryz.prog 140 #[.pointer (some ⟨Bs, 0, none⟩)] (backL cs) (Below n₀) (fun ys => Backs cs.length cs.length ys) (fun pre => ∃ k, k ≤ cs.length ∧ Backs cs.length k pre) cs.length w := fun l J Jx W hW _ _ hY h0 => by
  have hc' := (hW.cell (p := ⟨Bs, 0, none⟩) (show Bs < w.heap.size by omega)).trans hc
  exact backL1_in F n h7 hro hn l Bs n₀ a cap cs hreach hbs J Jx hY W hc' (hrow.later hW) hb h0

end Go.Proofs.YtnldkmcijmbhcaaGreat

/- The contract of foata's levelOf. -/
namespace Go.Proofs.YtnldkmcijmbhcaaGreat
open Go.RowKit Go.Shelf

attribute [local go_sem] Oper.semAt_some

/-- Has level i one that e depends on? -/
def hasD (m : List (List Ev)) (e : Ev) (i : Nat) : Bool := (m.getD i []).any fun x => dep x e
theorem lvN_is {m : List (List Ev)} {e : Ev} {q : Nat} (hq : q < m.length) (h : hasD m e q = true) (h2 : ∀ j, q < j → j < m.length → hasD m e j = false) : lvN m e = q + 1 := by
  have h1 : q < lvN m e := top_ge (f := fun i => i + 1) (q := fun i => (m.getD i []).any fun x => dep x e) hq h
  rcases top_zero_or (f := fun i => i + 1) (q := fun i => (m.getD i []).any fun x => dep x e) (n := m.length) with h0 | ⟨j, hj, hj2, hj3⟩
  · have : lvN m e = 0 := h0
    omega
  · have h3 : lvN m e = j + 1 := hj3
    by_cases e' : j = q
    · omega
    · have h4 := h2 j (by omega) hj
      unfold hasD at h4
      rw [h4] at hj2
      cases hj2
theorem lvN_zero {m : List (List Ev)} {e : Ev} (h : ∀ j, j < m.length → hasD m e j = false) : lvN m e = 0 := by
  rcases top_zero_or (f := fun i => i + 1) (q := fun i => (m.getD i []).any fun x => dep x e) (n := m.length) with h0 | ⟨j, hj, hj2, _⟩
  · exact h0
  · have h4 := h j hj
    unfold hasD at h4
    rw [h4] at hj2
    cases hj2

/-- None of the levels that came has one. -/
def NoD (m : List (List Ev)) (e : Ev) {n : Nat} (pre : List (Fin n)) : Prop := ∀ q ∈ pre, hasD m e q.val = false
theorem NoD.snoc {m : List (List Ev)} {e : Ev} {n : Nat} {pre : List (Fin n)} (h : NoD m e pre) {q : Fin n} (hq : hasD m e q.val = false) : NoD m e (pre ++ [q]) := by
  intro x hx
  rcases List.mem_append.1 hx with hx | hx
  · exact h x hx
  · simp at hx
    rw [hx]
    exact hq

theorem keepsO_below {W W' : World} (h : Below W.heap.size W W') : KeepsOthers W W' := ⟨h.size, fun k _ ho _ => (h.block k (Array.getElem?_eq_some_iff.1 ho).1).trans ho⟩

set_option maxRecDepth 100000 in
set_option maxHeartbeats 4000000 in
theorem levelOf_any (a : Option Addr) (cap : Nat) (m : List (List Ev)) (e : Ev) (w : World) (hl : LvAt w a m) (hm : m.length ≤ 1000) :
    Calls Tryz.prog 101 #[.slice a m.length cap, .agg #[.int .i64 e.thread, .int .i64 e.kind, .int .i64 e.obj, .bool e.fail]] w fun r w' => r = .returned (.int .i64 (lvN m e)) ∧ Below w.heap.size w w' := by
  obtain ⟨ss, hsl, hrow, hin⟩ := hl
  have HIN := Lib.hid hin
  have HSL := Lib.hid hsl
  clear hin
  have hsm : ss.length ≤ 1000 := by omega
  rw [← hsl]
  clear hsl hm
  refine (callsIn_wide (n := 3)).1 ?_
  have h1 : 1 ≤ 3 := by omega
  refine callsIn_of_wp_marks Tryz.func101 rfl trivial ?_ rfl
  simp only [Tryz.ntmps101, List.size_toArray, List.length_cons, List.length_nil, Nat.reduceAdd, Nat.reduceSub, Array.replicate_succ, Array.replicate_zero, List.push_toArray, List.append_toArray, List.nil_append, List.cons_append]
  have hb0 := below_alloc2 w (.cells #[.int .i64 e.thread, .int .i64 e.kind, .int .i64 e.obj, .bool e.fail] 81) (.cells #[.int .i64 0] 3)
  have hsz : ((w.alloc (.cells #[.int .i64 e.thread, .int .i64 e.kind, .int .i64 e.obj, .bool e.fail] 81)).alloc (.cells #[.int .i64 0] 3)).heap.size = w.heap.size + 1 + 1 := by simp
  have HBX : Hid (EvBox ((w.alloc (.cells #[.int .i64 e.thread, .int .i64 e.kind, .int .i64 e.obj, .bool e.fail] 81)).alloc (.cells #[.int .i64 0] 3)) w.heap.size e) := (EvBox.new w e).later (below_alloc1 _ _)
  have HR : Hid (MidAt ((w.alloc (.cells #[.int .i64 e.thread, .int .i64 e.kind, .int .i64 e.obj, .bool e.fail] 81)).alloc (.cells #[.int .i64 0] 3)) (w.heap.size + 1) 3 [.int .i64 0]) := heap_alloc2_new w _ _
  gi_wp2_with fail
  generalize (w.alloc (.cells #[.int .i64 e.thread, .int .i64 e.kind, .int .i64 e.obj, .bool e.fail] 81)).alloc (.cells #[.int .i64 0] 3) = W0 at *
  refine ⟨trivial, ?_⟩
  refine (backL_in Fence.wide _ trivial rfl _ _ _ _).mono ?_
  rintro r w' ⟨rfl, rfl⟩
  have hb2 := below_alloc1 W0 (.cells #[.slice a ss.length cap] 114)
  have hB2 : Below w.heap.size w (W0.alloc (.cells #[.slice a ss.length cap] 114)) := hb0.trans (hb2.mono hb0.size)
  have hbs : (W0.alloc (.cells #[.slice a ss.length cap] 114)).cell? ⟨W0.heap.size, 0, none⟩ = some (.slice a ss.length cap) := by simp
  have hrow2 := hrow.later hB2
  have hbk : 0 < ss.length → ∀ b o, a = some ⟨b, o, none⟩ → b < W0.heap.size + 1 := by
    rintro h b o rfl
    obtain ⟨b', o', e, hc⟩ := hrow.2 (by intro e; rw [e] at h; simp at h)
    cases e
    have h2 : b < w.heap.size := cell_block (hc 0 h 0 _ rfl)
    have := hb0.size
    omega
  have HR0 := Lib.hid (HR.out.later hb2)
  have HBX0 := Lib.hid (HBX.out.later hb2)
  have hsl : (W0.alloc (.cells #[.slice a ss.length cap] 114)).heap.size = W0.heap.size + 1 := by simp
  gi_wp2
  generalize W0.alloc (.cells #[.slice a ss.length cap] 114) = Wl at *
  rw [hsz] at hbs hsl
  refine wpIn_rangeFunc_ownH rfl h1 (gf := 140) (lb := #[.pointer (some ⟨w.heap.size + 1 + 1, 0, none⟩)]) rfl trivial (enters_of Tryz.func140 (by kernel_rfl) rfl)
    (backL_stops Fence.wide (3 - 1) trivial rfl (by omega) (w.heap.size + 1 + 1) (w.heap.size + 1 + 1 + 1) a cap ss hsm Wl (by omega) (by omega) hbs hrow2 (fun h b o hb => by have := hbk h b o hb; omega)) belowK_t (belowK_b (by omega)) (Below.refl _ _) (fun _ => rfl)
    (fun pre W => NoD m e pre ∧ Below Wl.heap.size Wl W)
    (fun c pre W => (c = .ret ∧ ∃ ini last, pre = ini ++ [last] ∧ NoD m e ini ∧ hasD m e last.val = true ∧ MidAt W (w.heap.size + 1) 3 [.int .i64 ((last.val : Int) + 1)]) ∧ Below w.heap.size w W)
    (OwnFrom.and (ownFrom_pure _ (fun pre => NoD m e pre)) (ownFrom_below (Nat.le_refl _) (by omega)))
    (fun c => OwnFrom.and (Own.from (fun s A B row hs hg hr => by obtain ⟨hc, ini, last, e1, e2, e3, e4⟩ := hs; exact ⟨hc, ini, last, e1, e2, e3, e4.keptRow hg hr⟩) _) (ownFrom_below (Nat.le_refl _) (by omega)))
    ⟨(fun q hq => absurd hq (by simp)), Below.refl _ _⟩
    (fun x a'' _ => a'' = { tmps := #[.slice a ss.length cap, .agg #[.int .i64 e.thread, .int .i64 e.kind, .int .i64 e.obj, .bool e.fail], undef, .pointer (some ⟨w.heap.size, 0, none⟩), .pointer (some ⟨w.heap.size + 1, 0, none⟩), .int .i64 (x.val : Int), .slice ss[x.val].a ss[x.val].n ss[x.val].c, .slice a ss.length cap, .func (.func 140) #[] #[.pointer (some ⟨w.heap.size + 1 + 1, 0, none⟩)], .int .i64 (x.val : Int), .slice ss[x.val].a ss[x.val].n ss[x.val].c, undef, undef, undef, undef, undef], defers := [] })
    (fun x a'' _ X Y row hs hg hr => hs)
    ?assign ?body ?done ?stop
  case assign =>
    rintro l1 pre x W K ⟨hN, hB⟩ hK
    dsimp only [backL]
    gi_wp2
    exact hK _ _ ((KeepsOthers.refl W).from _) (Below.refl _ W) ⟨hN, hB⟩ rfl
  case body =>
    rintro l1 pre x a'' W hl ⟨r, hr⟩ ⟨hN, hB⟩ rfl hlt
    have HX := Lib.hid (HBX0.out.later hB)
    have HRX := Lib.hid (HR0.out.later hB)
    have hBw := hB2.trans (hB.mono hB2.size)
    obtain ⟨hn1, hn2, _⟩ := HIN.out x.val x.isLt
    have HC := Lib.hid (containsE_any ss[x.val].a ss[x.val].c (m.getD x.val []) e w.heap.size W (hn2.later hBw) HX.out)
    rw [← hn1] at HC
    have HN := Lib.hid hN
    have hf := HRX.out.frozen 0
    have hz := HRX.out.cell 0
    clear hN hn1 hn2
    gi_wp2_with fail
    refine ⟨trivial, ?_⟩
    refine (callsIn_wide.2 HC.out).mono ?_
    rintro r W2 ⟨rfl, hb3⟩
    have hks : KeepsOthers W W2 := keepsO_below hb3
    have hB3 := hB.trans (hb3.mono hB.size)
    have hBw3 := hB2.trans (hB3.mono hB2.size)
    have HRX3 := Lib.hid (HRX.out.later hb3)
    have hf3 := HRX3.out.frozen 0
    have hz3 : W2.cell? ⟨w.heap.size + 1, 0, none⟩ = some (.int .i64 0) := HRX3.out.cell 0
    have hx1000 : (x.val : Int) < 1000 := by have := x.isLt; omega
    have hx0 : (0 : Int) ≤ x.val := by omega
    clear hf hz
    cases hd : (m.getD x.val []).any fun x => dep x e
    · have HN2 : Hid (NoD m e (pre ++ [x])) := HN.out.snoc hd
      clear hd
      gi_wp2
      exact ⟨hks.from _, hb3.mono (by have := hB.size; omega), HN2.out, hB3⟩
    · have HD : Hid (hasD m e x.val = true) := hd
      clear hd
      gi_wp2
      refine ⟨(hks.trans (KeepsOthers.setCell _ _ _)).from _, ⟨rfl, pre, x, rfl, HN.out, HD.out, ?_⟩, hBw3.setCell (p := ⟨w.heap.size + 1, 0, none⟩) (by simp) _⟩
      exact MidAt.set HRX3.out 0 _
  case done =>
    rintro D ys W hD hys ⟨hN, hB⟩ hK
    have HZ := Lib.hid (HR0.out.later hB)
    have hBw := hB2.trans (hB.mono hB2.size)
    have z0 : W.cell? ⟨w.heap.size + 1, 0, none⟩ = some (.int .i64 0) := HZ.out.cell 0
    have f0 := HZ.out.frozen 0
    have HIS : Hid (lvN m e = 0) := lvN_zero fun j hj => by
      have hjs : j < ss.length := by rw [HSL.out]; exact hj
      exact hN _ (hys.mem (j := j) (by omega) hjs (Nat.le_refl _))
    clear hN hys
    gi_wp2
    have hK' := (KeepsOthers.setCell W ⟨w.heap.size + 1, 0, none⟩ (.int .i64 0)).same D _ hK rfl
    have hM : MidAt (W.setCell ⟨w.heap.size + 1, 0, none⟩ (.int .i64 0)) (w.heap.size + 1) 3 [.int .i64 0] := MidAt.set HZ.out 0 _
    have y0 := (hM.keptRow (grownBy_putObj' _ D (.deferred none)) (fun r e => by cases e; exact ⟨_, hK', rfl⟩)).cell 0
    refine ⟨by simp, .inl ⟨_, _, rfl, run_takeDeferred hK', ?_⟩⟩
    refine ⟨.int .i64 0, ?_, (by rw [HIS.out]; rfl), (hBw.setCell (p := ⟨w.heap.size + 1, 0, none⟩) (by simp) _).trans (belowK_b (w := w) (Nat.le_refl _) _ D _ _ (by omega) hK' rfl rfl)⟩
    simp [results, Tryz.f101, go_sem, y0]
  case stop =>
    rintro D c pre W hD ⟨k, hk, hbk2⟩ ⟨⟨rfl, ini, last, e1, e2, e3, e4⟩, hB⟩ hK
    have HIS : Hid (lvN m e = last.val + 1) := by
      have hlen := hbk2.len
      rw [e1, List.length_append, List.length_singleton] at hlen
      have hm2 : pre.map (fun q => q.val) = upto (fun k => ss.length - 1 - k) k := hbk2
      obtain ⟨k', rfl⟩ : ∃ k', k = k' + 1 := ⟨ini.length, by omega⟩
      rw [e1, List.map_append, upto_succ] at hm2
      obtain ⟨h5, h6⟩ := List.append_inj' hm2 rfl
      have hlv : last.val = ss.length - 1 - k' := by simpa using h6
      have hbi : Backs ss.length k' ini := h5
      have hlt := last.isLt
      refine lvN_is (by rw [← HSL.out]; exact hlt) e3 fun j hj hjl => ?_
      have hjc : j < ss.length := by rw [HSL.out]; exact hjl
      exact e2 _ (hbi.mem (j := j) (by omega) hjc (by omega))
    clear e1 e2 e3 hbk2
    gi_wp2
    have y0 := (e4.keptRow (grownBy_putObj' _ D (.deferred none)) (fun r e => by cases e; exact ⟨_, hK, rfl⟩)).cell 0
    refine ⟨by simp, .inl ⟨_, _, rfl, run_takeDeferred hK, ?_⟩⟩
    refine ⟨.int .i64 ((last.val : Int) + 1), ?_, (by rw [HIS.out]; rfl), hB.trans (belowK_b (w := w) (Nat.le_refl _) W D _ _ (by omega) hK rfl rfl)⟩
    simp [results, Tryz.f101, go_sem, y0]

end Go.Proofs.YtnldkmcijmbhcaaGreat

/- Levels of one's own: one level more, and one level changed. -/
namespace Go.Proofs.YtnldkmcijmbhcaaGreat
open Go.RowKit

theorem infoSl : (Tryz.prog.info? 57).map (fun i => (i.zero, i.size, i.bytes)) = some (some (.slice none 0 0), 1, 24) := by kernel_rfl
theorem tyNe : 57 ≠ 81 := by decide
theorem rows_apart {w : World} {B B' n n' m m' : Nat} {t t' : TypeId} {v v' : Value} {xs xs' : List Value} (h : w.ownsRow B t n v m xs) (h' : w.ownsRow B' t' n' v' m' xs') (hne : t ≠ t') : v.ownBlock = none ∨ v.ownBlock ≠ v'.ownBlock := by
  obtain ⟨_, ⟨rfl, _⟩ | ⟨g, cap, cur, rfl, _, hg, _⟩⟩ := h
  · exact .inl rfl
  · right
    obtain ⟨_, ⟨rfl, _⟩ | ⟨g', cap', cur', rfl, _, hg', _⟩⟩ := h'
    · simp [Value.ownBlock]
    · intro e
      injection e with e
      have e2 : g = g' := e
      subst e2
      rw [hg] at hg'
      injection hg' with hg'
      injection hg' with _ h2
      exact hne h2

/-- A level more, still empty. -/
theorem OwnLv.more {w w' : World} {B : Nat} {v v' : Value} {ss : List Sl} {m : List (List Ev)} (h : OwnLv w B v ss m) (ho : OwnRow w' B 57 1 slCell v' (ss ++ [⟨none, 0, 0⟩])) (hg : w.grownBy w' v.ownBlock) :
    OwnLv w' B v' (ss ++ [⟨none, 0, 0⟩]) (m ++ [[]]) := by
  refine ⟨by simp [h.len], ho, fun i hi => ?_, fun i j hi hj hne => ?_⟩
  · by_cases hlt : i < ss.length
    · have e1 : (ss ++ [(⟨none, 0, 0⟩ : Sl)])[i] = ss[i] := List.getElem_append_left hlt
      have e2 : (m ++ [[]]).getD i [] = m.getD i [] := by simp [List.getD, List.getElem?_append_left (show i < m.length by rw [← h.len]; exact hlt)]
      rw [e1, e2]
      refine World.ownsRow.kept (h.inner i hlt) hg ?_
      exact rows_apart (h.inner i hlt) h.outer (Ne.symm tyNe)
    · have e0 : i = ss.length := by simp at hi; omega
      subst e0
      have e1 : (ss ++ [(⟨none, 0, 0⟩ : Sl)])[ss.length] = ⟨none, 0, 0⟩ := by simp
      have e2 : (m ++ [[]]).getD ss.length [] = [] := by rw [h.len]; simp [List.getD]
      rw [e1, e2]
      exact ownE_nil _ _
  · by_cases hlt : i < ss.length
    · have e1 : (ss ++ [(⟨none, 0, 0⟩ : Sl)])[i] = ss[i] := List.getElem_append_left hlt
      rw [e1]
      by_cases hlj : j < ss.length
      · have e2 : (ss ++ [(⟨none, 0, 0⟩ : Sl)])[j] = ss[j] := List.getElem_append_left hlj
        rw [e2]
        exact h.apart i j hlt hlj hne
      · have e0 : j = ss.length := by simp at hj; omega
        subst e0
        have e2 : (ss ++ [(⟨none, 0, 0⟩ : Sl)])[ss.length] = ⟨none, 0, 0⟩ := by simp
        rw [e2]
        cases hb : (slV ss[i]).ownBlock
        · exact .inl rfl
        · exact .inr (by simp [slV, Value.ownBlock])
    · have e0 : i = ss.length := by simp at hi; omega
      subst e0
      left
      have e1 : (ss ++ [(⟨none, 0, 0⟩ : Sl)])[ss.length] = ⟨none, 0, 0⟩ := by simp
      rw [e1]
      rfl

theorem cellsL_one_set (ss : List Sl) (n : Nat) (s : Sl) : (cellsL slCell ss).set n (.slice s.a s.n s.c) = cellsL slCell (ss.set n s) := by
  induction ss generalizing n with
  | nil => rfl
  | cons x ss ih =>
    cases n with
    | zero => rfl
    | succ n =>
      show slCell x ++ _ = _
      simp only [cellsL, List.flatMap_cons, List.set_cons_succ] at *
      rw [← ih]
      rfl

/-- One level, changed. -/
theorem OwnLv.put {w w3 : World} {B g N cap n : Nat} {ss : List Sl} {m : List (List Ev)} {s' : Sl} {es' : List Ev} (h : OwnLv w B (.slice (some ⟨g, 0, none⟩) N cap) ss m) (hN : N = m.length) (_hn : n < N) (hn2 : n < ss.length)
    (ho : OwnE w3 B (slV s') es') (hg : w.grownBy w3 (slV ss[n]).ownBlock) (hb : ∀ b, (slV s').ownBlock = some b → (slV ss[n]).ownBlock = some b ∨ w.heap.size ≤ b) :
    OwnLv (w3.setCell ⟨g, n, none⟩ (.slice s'.a s'.n s'.c)) B (.slice (some ⟨g, 0, none⟩) N cap) (ss.set n s') (m.set n es') ∧ (w3.cell? ⟨g, n, none⟩).isSome = true ∧ w3.frozen? ⟨g, n, none⟩ = false := by
  have hout : w3.ownsRow B 57 1 (.slice (some ⟨g, 0, none⟩) N cap) ss.length (cellsL slCell ss) := World.ownsRow.kept h.outer hg (rows_apart h.outer (h.inner n hn2) tyNe)
  have hsN : ss.length = N := by rw [h.len, hN]
  rw [hsN] at hout
  have hst := hout.stored n (.slice s'.a s'.n s'.c)
  rw [cellsL_one_set] at hst
  have hgs : w3.grownBy (w3.setCell ⟨g, n, none⟩ (.slice s'.a s'.n s'.c)) (some g) := hst.2
  have hkeep : ∀ {v2 : Value} {es : List Ev}, OwnE w3 B v2 es → OwnE (w3.setCell ⟨g, n, none⟩ (.slice s'.a s'.n s'.c)) B v2 es := fun {v2 es} hv => World.ownsRow.kept hv hgs (rows_apart hv hout (Ne.symm tyNe))
  have hold : ∀ i (hi : i < ss.length), i ≠ n → OwnE w3 B (slV ss[i]) (m.getD i []) := fun i hi hne => World.ownsRow.kept (h.inner i hi) hg (h.apart i n hi hn2 hne)
  refine ⟨⟨by simp [h.len], ?_, fun i hi => ?_, fun i j hi hj hne => ?_⟩, ?_, hout.frozenAt n⟩
  · unfold OwnRow
    rw [List.length_set, hsN]
    exact hst.1
  · simp only [List.length_set] at hi
    by_cases e : n = i
    · subst e
      have e1 : (ss.set n s')[n]'(by simpa using hi) = s' := by simp
      have e2 : (m.set n es').getD n [] = es' := by simp [List.getD, show n < m.length by omega]
      rw [e1, e2]
      exact hkeep ho
    · have e1 : (ss.set n s')[i]'(by simpa using hi) = ss[i] := List.getElem_set_ne e _
      have e2 : (m.set n es').getD i [] = m.getD i [] := by simp [List.getD, List.getElem?_set_ne e]
      rw [e1, e2]
      exact hkeep (hold i hi (fun e' => e e'.symm))
  · simp only [List.length_set] at hi hj
    have hnew : ∀ i (hi : i < ss.length), i ≠ n → (slV s').ownBlock = none ∨ (slV s').ownBlock ≠ (slV ss[i]).ownBlock := fun i hi hne => by
      cases hb' : (slV s').ownBlock with
      | none => exact .inl rfl
      | some b =>
        right
        intro e
        rcases hb b hb' with h1 | h1
        · rcases h.apart n i hn2 hi (fun e => hne e.symm) with h2 | h2
          · rw [h1] at h2; cases h2
          · exact h2 (h1.trans e)
        · have := (World.ownsRow.lt (h.inner i hi) b e.symm).2
          omega
    by_cases e : n = i
    · subst e
      have e1 : (ss.set n s')[n]'(by simpa using hi) = s' := by simp
      have e2 : (ss.set n s')[j]'(by simpa using hj) = ss[j] := List.getElem_set_ne hne _
      rw [e1, e2]
      exact hnew j hj (fun e => hne e.symm)
    · have e1 : (ss.set n s')[i]'(by simpa using hi) = ss[i] := List.getElem_set_ne e _
      rw [e1]
      by_cases e' : n = j
      · subst e'
        have e2 : (ss.set n s')[n]'(by simpa using hj) = s' := by simp
        rw [e2]
        rcases hnew i hi hne with h1 | h1
        · cases hb2 : (slV ss[i]).ownBlock
          · exact .inl rfl
          · right; rw [h1]; simp
        · exact .inr (fun e => h1 e.symm)
      · have e2 : (ss.set n s')[j]'(by simpa using hj) = ss[j] := List.getElem_set_ne e' _
        rw [e2]
        exact h.apart i j hi hj hne
  · rw [hout.cellAt n (by omega), List.getElem?_eq_getElem (by rw [cellsL_length slCell_len]; omega)]
    rfl
theorem OwnLv.cell {w : World} {B g N cap n : Nat} {ss : List Sl} {m : List (List Ev)} (h : OwnLv w B (.slice (some ⟨g, 0, none⟩) N cap) ss m) (hN : N = m.length) (hn2 : n < ss.length) : w.cell? ⟨g, n, none⟩ = some (.slice ss[n].a ss[n].n ss[n].c) := by
  have hsN : ss.length = N := by rw [h.len, hN]
  have hout : w.ownsRow B 57 1 (.slice (some ⟨g, 0, none⟩) N cap) ss.length (cellsL slCell ss) := h.outer
  rw [hsN] at hout
  rw [hout.cellAt n (by omega)]
  have := cellsL_get slCell_len ss n 0 hn2 (by omega)
  rw [Nat.mul_one, Nat.add_zero] at this
  rw [this]
  rfl

/-- Putting an event in, in two steps. -/
def extL (m : List (List Ev)) (n : Nat) : List (List Ev) := if n < m.length then m else m ++ [[]]
theorem addL_ext (m : List (List Ev)) (e : Ev) : addL m e = (extL m (lvN m e)).set (lvN m e) (insE e ((extL m (lvN m e)).getD (lvN m e) [])) := by
  have hle := lvN_le m e
  unfold addL putL extL
  by_cases h : lvN m e < m.length
  · rw [if_pos h, if_pos h]
  · have h0 : lvN m e = m.length := by omega
    rw [if_neg h, if_neg h, h0]
    simp [List.getD, insE]
theorem extL_get (m : List (List Ev)) (n : Nat) : (extL m n).getD n [] = m.getD n [] := by
  unfold extL
  by_cases h : n < m.length
  · rw [if_pos h]
  · rw [if_neg h]
    simp only [List.getD]
    rw [List.getElem?_eq_none (Nat.le_of_not_lt h)]
    by_cases h0 : n = m.length
    · subst h0; simp
    · rw [List.getElem?_eq_none (by simp; omega)]
theorem lv_other {m : List (List Ev)} {e x : Ev} (hx : x ∈ m.getD (lvN m e) []) : x.thread ≠ e.thread := by
  intro ht
  have h1 := lvN_free (Nat.le_refl _) hx
  rw [dep_thread ht] at h1
  cases h1
theorem lv_small (l : List Ev) (i : Nat) : ((lvls l).getD i []).length ≤ l.length := by
  rw [← lvls_count l]
  by_cases h : i < (lvls l).length
  · rw [getD_lt _ h]
    exact List.Sublist.length_le (List.sublist_flatten_of_mem (List.getElem_mem h))
  · simp [List.getD, List.getElem?_eq_none (Nat.le_of_not_lt h)]
theorem lv_count (l : List Ev) : (lvls l).length ≤ l.length := by
  have : ∀ n (l : List Ev), l.length = n → (lvls l).length ≤ l.length := by
    intro n
    induction n with
    | zero =>
      intro l hl
      obtain rfl := List.eq_nil_of_length_eq_zero hl
      exact Nat.le_refl _
    | succ n ih =>
      intro l hl
      have hne : l ≠ [] := by rintro rfl; simp at hl
      obtain ⟨l', e, rfl⟩ : ∃ l' e, l = l' ++ [e] := ⟨l.dropLast, l.getLast hne, (List.dropLast_concat_getLast hne).symm⟩
      have h1 := ih l' (by simpa using hl)
      rw [lvls_snoc, addL_length, List.length_append, List.length_singleton]
      split <;> omega
  exact this _ l rfl


/-- Has a row levels? -/
def rightF (l : List Ev) : Bool := decide (l.length ≤ 200) && rightL l
/-- Its levels, or none. -/
def levelsF (l : List Ev) : List (List Ev) := if rightF l then lvls l else []

set_option maxRecDepth 100000 in
set_option maxHeartbeats 1000000 in
theorem fRight_any (a : Option Addr) (cap : Nat) (l : List Ev) (w : World) (hl : EvsAt w a l) :
    Calls Tryz.prog 63 #[.slice a l.length cap] w fun r w' => r = .returned (.bool (rightF l)) ∧ Below w.heap.size w w' := by
  have hm := hl.1
  unfold maxLen at hm
  have HL := Lib.hid hl
  clear hl
  by_cases h200 : l.length ≤ 200
  case neg =>
    have HE : Hid (rightF l = false) := by show _ = _; unfold rightF; simp; omega
    have hq : decide ((200 : Int) < (l.length : Int)) = true := by simp; omega
    have hq2 : 200 < l.length := by omega
    clear h200
    go_enter Tryz.func63, Tryz.ntmps63
    go_wp2
    go_ret
    exact ⟨ret_bool HE.out.symm, Below.refl _ _⟩
  have hq : decide ((200 : Int) < (l.length : Int)) = false := by simp; omega
  have hq2 : ¬ 200 < l.length := by omega
  go_enter Tryz.func63, Tryz.ntmps63
  go_wp2
  go_loopw [10] (fun i wr => ∃ k : Nat, k ≤ l.length ∧ i = .int .i64 k ∧ Hid (rightL (l.take k) = true) ∧ Below w.heap.size w wr) (fun i _ => l.length - (intOf i).toNat)
  case atStart => exact ⟨0, Nat.zero_le _, rfl, rfl, Below.refl _ _⟩
  case round =>
    obtain ⟨k, hk, rfl, HR, hb⟩ := hrel
    by_cases hlt : k < l.length
    · obtain ⟨b, o, rfl, hc⟩ := HL.out.2 (by intro e; simp [e] at hlt)
      obtain ⟨c0, c1, c2, c3⟩ := hc k hlt
      have d0 := cell_later hb c0
      have d1 := cell_later hb c1
      have d2 := cell_later hb c2
      have d3 := cell_later hb c3
      have HT := Lib.hid (rightL_take l k hlt)
      have hx1 : Hid (rightEv l[k] = false → rightF l = false) := fun h => by unfold rightF; rw [rightL_no hlt h]; simp
      have hb4 := hb.alloc hb.size (.cells #[.int .i64 l[k].thread, .int .i64 l[k].kind, .int .i64 l[k].obj, .bool l[k].fail] 81)
      clear hc c0 c1 c2 c3
      generalize l[k] = x at *
      go_wp2_with fail
      refine (evRight_any x _).mono ?_
      rintro r w2 ⟨rfl, hb5⟩
      have hb6 := hb4.trans (hb5.mono hb4.size)
      clear hb4 hb5
      cases hr : rightEv x
      · have HN := Lib.hid (hx1.out hr)
        clear hx1 HT
        go_wp2
        go_ret
        exact ⟨ret_bool HN.out.symm, hb6⟩
      · have HN : Hid (rightL (l.take (k + 1)) = true) := by show _ = _; rw [HT.out, HR.out, hr]; rfl
        clear hx1 HT
        go_wp2
        go_roundw
        case rel => exact ⟨k + 1, by omega, by go_num, HN, hb6⟩
        case measure => simp [intOf]; omega
    · obtain rfl : k = l.length := by omega
      have HE : Hid (rightF l = true) := by have h := HR.out; rw [List.take_length] at h; show _ = _; unfold rightF; rw [h]; simp; omega
      go_wp2
      go_ret
      exact ⟨ret_bool HE.out.symm, hb⟩

end Go.Proofs.YtnldkmcijmbhcaaGreat
