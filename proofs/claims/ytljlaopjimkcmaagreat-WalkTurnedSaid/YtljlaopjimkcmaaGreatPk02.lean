import Derived.Deep.DeepCutAuto
import Derived.Laws.OwnMore
import Derived.Deep.RegionHeld3
import Derived.Maps.AppendAt
import Derived.Test.YtljlaopjimkcmaaGreatPk01

/- The contracts of event's below, ofVariable, ofMutex, Depends, Right, toByte, fromByte, and of the document's Depends, Right, Byte. -/
namespace Go.Proofs.YtljlaopjimkcmaaGreat
open Go.RowKit

theorem eBelow_any (n e : Int) (w : World) : Calls Tryz.prog 37 #[.int .i64 n, .int .i64 e] w fun r w' => r = .returned (.bool (belowB n e)) ∧ w = w' := by
  go_enter Tryz.func37, Tryz.ntmps37
  go_wp2
  all_goals
    go_ret
    refine ⟨ret_bool ?_, rfl⟩
    simp [belowB]
    try omega

theorem ofVariable_any (e : Ev) (w : World) : Calls Tryz.prog 100 #[.agg #[.int .i64 e.thread, .int .i64 e.kind, .int .i64 e.obj, .bool e.fail]] w fun r w' => r = .returned (.bool (memE e)) ∧ Below w.heap.size w w' := by
  obtain ⟨t, k, o, f⟩ := e
  dsimp only
  go_enter Tryz.func100, Tryz.ntmps100
  go_wp2
  all_goals
    go_ret
    refine ⟨ret_bool ?_, below_alloc1 _ _⟩
    rw [Bool.eq_iff_iff]
    simp [memE]
    try omega

theorem ofMutex_any (e : Ev) (w : World) : Calls Tryz.prog 101 #[.agg #[.int .i64 e.thread, .int .i64 e.kind, .int .i64 e.obj, .bool e.fail]] w fun r w' => r = .returned (.bool (mutE e)) ∧ Below w.heap.size w w' := by
  obtain ⟨t, k, o, f⟩ := e
  dsimp only
  go_enter Tryz.func101, Tryz.ntmps101
  go_wp2
  all_goals
    go_ret
    refine ⟨ret_bool ?_, below_alloc1 _ _⟩
    rw [Bool.eq_iff_iff]
    simp [mutE]
    try omega

set_option maxRecDepth 100000 in
set_option maxHeartbeats 1000000 in
theorem evRight_any (e : Ev) (w : World) : Calls Tryz.prog 17 #[.agg #[.int .i64 e.thread, .int .i64 e.kind, .int .i64 e.obj, .bool e.fail]] w fun r w' => r = .returned (.bool (rightEv e)) ∧ Below w.heap.size w w' := by
  obtain ⟨t, k, o, f⟩ := e
  dsimp only
  go_enter Tryz.func17, Tryz.ntmps17
  go_wp2_with (go_at_call 37; refine (eBelow_any _ _ _).mono ?_; rintro r w' ⟨rfl, rfl⟩)
  all_goals
    go_ret
    refine ⟨ret_bool ?_, below_alloc1 _ _⟩
    simp [belowB] at *
    rw [Bool.eq_iff_iff]
    simp [rightEv, *]
    try (first | omega | (cases f <;> simp <;> omega))

set_option maxRecDepth 100000 in
set_option maxHeartbeats 1000000 in
theorem refEvRight_any (e : Ev) (w : World) : Calls Tryz.prog 94 #[.agg #[.int .i64 e.thread, .int .i64 e.kind, .int .i64 e.obj, .bool e.fail]] w fun r w' => r = .returned (.bool (rightEv e)) ∧ Below w.heap.size w w' := by
  obtain ⟨t, k, o, f⟩ := e
  dsimp only
  go_enter Tryz.func94, Tryz.ntmps94
  go_wp2
  all_goals
    go_ret
    refine ⟨ret_bool ?_, below_alloc1 _ _⟩
    simp at *
    rw [Bool.eq_iff_iff]
    simp [rightEv, *]
    try (first | omega | (cases f <;> simp <;> omega))

theorem two_boxes (e f : Ev) (w : World) : EvBox ((w.alloc (.cells #[.int .i64 e.thread, .int .i64 e.kind, .int .i64 e.obj, .bool e.fail] 51)).alloc (.cells #[.int .i64 f.thread, .int .i64 f.kind, .int .i64 f.obj, .bool f.fail] 51)) w.heap.size e ∧ EvBox ((w.alloc (.cells #[.int .i64 e.thread, .int .i64 e.kind, .int .i64 e.obj, .bool e.fail] 51)).alloc (.cells #[.int .i64 f.thread, .int .i64 f.kind, .int .i64 f.obj, .bool f.fail] 51)) (w.heap.size + 1) f :=
  ⟨heap_alloc2_old w _ _, heap_alloc2_new w _ _⟩

set_option maxRecDepth 100000 in
set_option maxHeartbeats 1000000 in
theorem depends_any (e f : Ev) (w : World) : Calls Tryz.prog 81 #[.agg #[.int .i64 e.thread, .int .i64 e.kind, .int .i64 e.obj, .bool e.fail], .agg #[.int .i64 f.thread, .int .i64 f.kind, .int .i64 f.obj, .bool f.fail]] w fun r w' => r = .returned (.bool (dep e f)) ∧ Below w.heap.size w w' := by
  obtain ⟨he, hf⟩ := two_boxes e f w
  have HE := Lib.hid he
  have HF := Lib.hid hf
  have hb0 := below_alloc2 w (.cells #[.int .i64 e.thread, .int .i64 e.kind, .int .i64 e.obj, .bool e.fail] 51) (.cells #[.int .i64 f.thread, .int .i64 f.kind, .int .i64 f.obj, .bool f.fail] 51)
  clear he hf
  by_cases h1 : e.thread = f.thread
  · have HD : Hid (dep e f = true) := by show _ = _; simp [dep, h1]
    have q1 : (e.thread == f.thread) = true := by simp [h1]
    clear h1 HE HF
    go_enter Tryz.func81, Tryz.ntmps81
    go_wp2
    go_ret
    exact ⟨ret_bool HD.out.symm, hb0⟩
  by_cases h2 : e.obj = f.obj
  case neg =>
    have HD : Hid (dep e f = false) := by show _ = _; simp [dep, h1, h2]
    have q1 : (e.thread == f.thread) = false := by simp [h1]
    have q2 : (e.obj != f.obj) = true := by simp [h2]
    clear h1 h2 HE HF
    go_enter Tryz.func81, Tryz.ntmps81
    go_wp2
    go_ret
    exact ⟨ret_bool HD.out.symm, hb0⟩
  have q1 : (e.thread == f.thread) = false := by simp [h1]
  have q2 : (e.obj != f.obj) = false := by simp [h2]
  have HT := Lib.hid h1
  have HO := Lib.hid h2
  clear h1 h2
  go_enter Tryz.func81, Tryz.ntmps81
  go_wp2_with fail
  generalize (w.alloc (.cells #[.int .i64 e.thread, .int .i64 e.kind, .int .i64 e.obj, .bool e.fail] 51)).alloc (.cells #[.int .i64 f.thread, .int .i64 f.kind, .int .i64 f.obj, .bool f.fail] 51) = W0 at *
  refine (ofVariable_any e _).mono ?_
  rintro r w1 ⟨rfl, hb1⟩
  have HE1 := Lib.hid (HE.out.later hb1)
  have HF1 := Lib.hid (HF.out.later hb1)
  have hw1 : Below w.heap.size w w1 := hb0.trans (hb1.mono hb0.size)
  clear HE HF hb0 hb1
  obtain ⟨e0, e1, e2, e3⟩ := HE1.out.cells
  obtain ⟨f0, f1, f2, f3⟩ := HF1.out.cells
  have le := HE1.out.lt
  have lf := HF1.out.lt
  generalize hm : memE e = m
  cases m
  · go_wp2_with fail
    refine (ofMutex_any e _).mono ?_
    rintro r w2 ⟨rfl, hb2⟩
    have hw2 : Below w.heap.size w w2 := hw1.trans (hb2.mono hw1.size)
    have g0 := cell_later hb2 f0
    have g1 := cell_later hb2 f1
    have g2 := cell_later hb2 f2
    have g3 := cell_later hb2 f3
    have lg := Nat.lt_of_lt_of_le lf hb2.size
    generalize hx : mutE e = x
    cases x
    · go_wp2
      go_ret
      refine ⟨ret_bool ?_, hw2⟩
      unfold memE at hm
      unfold mutE at hx
      simp at hm hx
      simp [dep, HT.out, HO.out, hm, hx]
    · clear e0 e1 e2 e3 f0 f1 f2 f3 le lf hb2
      go_wp2_with fail
      refine (ofMutex_any f _).mono ?_
      rintro r w3 ⟨rfl, hb3⟩
      have hw3 : Below w.heap.size w w3 := hw2.trans (hb3.mono hw2.size)
      go_wp2
      go_ret
      refine ⟨ret_bool ?_, hw3⟩
      unfold memE at hm
      unfold mutE at hx ⊢
      simp at hm hx
      simp [dep, HT.out, HO.out, hm, hx]
  · go_wp2_with fail
    refine (ofVariable_any f _).mono ?_
    rintro r w2 ⟨rfl, hb2⟩
    have hw2 : Below w.heap.size w w2 := hw1.trans (hb2.mono hw1.size)
    have d0 := cell_later hb2 e0
    have d1 := cell_later hb2 e1
    have d2 := cell_later hb2 e2
    have d3 := cell_later hb2 e3
    have ld := Nat.lt_of_lt_of_le le hb2.size
    have g0 := cell_later hb2 f0
    have g1 := cell_later hb2 f1
    have g2 := cell_later hb2 f2
    have g3 := cell_later hb2 f3
    have lg := Nat.lt_of_lt_of_le lf hb2.size
    clear e0 e1 e2 e3 f0 f1 f2 f3 le lf hb2
    generalize hx : memE f = x
    cases x
    · go_wp2_with fail
      refine (ofMutex_any e _).mono ?_
      rintro r w3 ⟨rfl, hb3⟩
      have hx3 : mutE e = false := by
        unfold memE at hm
        unfold mutE
        simp at hm ⊢
        omega
      rw [hx3]
      have hw3 : Below w.heap.size w w3 := hw2.trans (hb3.mono hw2.size)
      go_wp2
      go_ret
      refine ⟨ret_bool ?_, hw3⟩
      unfold memE at hm hx
      unfold mutE at hx3
      simp at hm hx hx3
      simp [dep, HT.out, HO.out, hm, hx, hx3]
    · go_wp2
      all_goals
        go_ret
        refine ⟨ret_bool ?_, hw2⟩
        unfold memE at hm hx
        simp at *
        rw [Bool.eq_iff_iff]
        simp [dep, HT.out, HO.out, *]
        try omega

set_option maxRecDepth 100000 in
set_option maxHeartbeats 1000000 in
theorem refDepends_any (e f : Ev) (w : World) : Calls Tryz.prog 97 #[.agg #[.int .i64 e.thread, .int .i64 e.kind, .int .i64 e.obj, .bool e.fail], .agg #[.int .i64 f.thread, .int .i64 f.kind, .int .i64 f.obj, .bool f.fail]] w fun r w' => r = .returned (.bool (dep e f)) ∧ Below w.heap.size w w' := by
  go_enter Tryz.func97, Tryz.ntmps97
  go_wp2
  all_goals
    go_ret
    refine ⟨ret_bool ?_, below_alloc2 _ _ _⟩
    simp at *
    rw [Bool.eq_iff_iff]
    simp [dep, *]
    try omega

end Go.Proofs.YtljlaopjimkcmaaGreat

/- Rows that may be, and the contract of the document's Rows. -/
namespace Go.Proofs.YtljlaopjimkcmaaGreat
open Go.RowKit

/-- May all events be? -/
def rightL (l : List Ev) : Bool := l.all rightEv
theorem rightL_take (l : List Ev) (k : Nat) (h : k < l.length) : rightL (l.take (k + 1)) = (rightL (l.take k) && rightEv l[k]) := by
  unfold rightL
  rw [List.take_succ_eq_append_getElem h, List.all_append]
  simp
theorem rightL_no {l : List Ev} {k : Nat} (h : k < l.length) (hr : rightEv l[k] = false) : rightL l = false := by
  unfold rightL
  rw [List.all_eq_false]
  exact ⟨l[k], List.getElem_mem h, by simp [hr]⟩
theorem rightL_get {l : List Ev} (h : rightL l = true) {k : Nat} (hk : k < l.length) : rightEv l[k] = true := by
  unfold rightL at h
  exact List.all_eq_true.1 h _ (List.getElem_mem hk)

set_option maxRecDepth 100000 in
set_option maxHeartbeats 1000000 in
theorem rows_any (a : Option Addr) (cap : Nat) (l : List Ev) (w : World) (hl : EvsAt w a l) :
    Calls Tryz.prog 65 #[.slice a l.length cap] w fun r w' => r = .returned (.bool (rightL l)) ∧ Below w.heap.size w w' := by
  have hm := hl.1
  unfold maxLen at hm
  have HL := Lib.hid hl
  clear hl
  go_enter Tryz.func65, Tryz.ntmps65
  go_wp2
  go_loopw [3] (fun i wr => ∃ k : Nat, k ≤ l.length ∧ i = .int .i64 k ∧ Hid (rightL (l.take k) = true) ∧ Below w.heap.size w wr) (fun i _ => l.length - (intOf i).toNat)
  case atStart => exact ⟨0, Nat.zero_le _, rfl, rfl, Below.refl _ _⟩
  case round =>
    obtain ⟨k, hk, rfl, HR, hb⟩ := hrel
    by_cases hlt : k < l.length
    · obtain ⟨b, o, rfl, hc⟩ := HL.out.2 (by intro e; simp [e] at hlt)
      obtain ⟨c0, c1, c2, c3⟩ := hc k hlt
      have d0 := cell_later hb c0
      have d1 := cell_later hb c1
      have d2 := cell_later hb c2
      have d3 := cell_later hb c3
      have HT := Lib.hid (rightL_take l k hlt)
      have hx1 : Hid (rightEv l[k] = false → rightL l = false) := fun h => rightL_no hlt h
      clear hc c0 c1 c2 c3
      generalize l[k] = x at *
      go_wp2_with fail
      refine (refEvRight_any x _).mono ?_
      rintro r w2 ⟨rfl, hb5⟩
      have hb6 := hb.trans (hb5.mono hb.size)
      clear hb5
      cases hr : rightEv x
      · have HN := Lib.hid (hx1.out hr)
        clear hx1 HT
        go_wp2
        go_ret
        exact ⟨ret_bool HN.out.symm, hb6⟩
      · have HN : Hid (rightL (l.take (k + 1)) = true) := by show _ = _; rw [HT.out, HR.out, hr]; rfl
        clear hx1 HT
        go_wp2
        go_roundw
        case rel => exact ⟨k + 1, by omega, by go_num, HN, hb6⟩
        case measure => simp [intOf]; omega
    · obtain rfl : k = l.length := by omega
      have HE : Hid (rightL l = true) := by have h := HR.out; rw [List.take_length] at h; exact h
      go_wp2
      go_ret
      exact ⟨ret_bool HE.out.symm, hb⟩

end Go.Proofs.YtljlaopjimkcmaaGreat

/-
  Plain data for layer 4: which event happens before which, numbers, clocks. Nothing of the translation.
-/
namespace Go.Proofs.YtljlaopjimkcmaaGreat

/-- The event at a place. -/
def evI (l : List Ev) (i : Nat) : Ev := l.getD i ev0

/-- What happens before what, up to a place. -/
def hbT (l : List Ev) : Nat → Nat → Nat → Bool
  | 0, _, _ => false
  | n + 1, j, m => if m < n then hbT l n j m else if m = n then decide (j = n) || (List.range n).any (fun i => dep (evI l i) (evI l n) && hbT l n j i) else false
def hb (l : List Ev) (j k : Nat) : Bool := hbT l (k + 1) j k

theorem hbT_eq (l : List Ev) (n j m : Nat) (h : m < n) : hbT l n j m = hb l j m := by
  induction n with
  | zero => omega
  | succ n ih =>
    by_cases h1 : m < n
    · rw [hbT, if_pos h1, ih h1]
    · obtain rfl : m = n := by omega
      rfl

theorem hb_def (l : List Ev) (j k : Nat) : hb l j k = true ↔ (j = k ∨ ∃ i, i < k ∧ dep (evI l i) (evI l k) = true ∧ hb l j i = true) := by
  unfold hb
  rw [hbT, if_neg (by omega), if_pos rfl, Bool.or_eq_true, decide_eq_true_eq, List.any_eq_true]
  constructor
  · rintro (h | ⟨i, hi, h⟩)
    · exact .inl h
    · rw [List.mem_range] at hi
      rw [Bool.and_eq_true, hbT_eq l k j i hi] at h
      exact .inr ⟨i, hi, h⟩
  · rintro (h | ⟨i, hi, h⟩)
    · exact .inl h
    · refine .inr ⟨i, List.mem_range.2 hi, ?_⟩
      rw [Bool.and_eq_true, hbT_eq l k j i hi]
      exact h

theorem hb_self (l : List Ev) (k : Nat) : hb l k k = true := (hb_def l k k).2 (.inl rfl)
theorem hb_dep {l : List Ev} {i k : Nat} (h : i < k) (hd : dep (evI l i) (evI l k) = true) : hb l i k = true := (hb_def l i k).2 (.inr ⟨i, h, hd, hb_self l i⟩)
theorem hb_le {l : List Ev} {k : Nat} : ∀ {j : Nat}, hb l j k = true → j ≤ k := by
  induction k using Nat.strongRecOn with
  | _ k ih =>
    intro j h
    rcases (hb_def l j k).1 h with rfl | ⟨i, hi, _, h⟩
    · exact Nat.le_refl _
    · have := ih i hi h
      omega
theorem hb_trans {l : List Ev} {k : Nat} : ∀ {i j : Nat}, hb l i j = true → hb l j k = true → hb l i k = true := by
  induction k using Nat.strongRecOn with
  | _ k ih =>
    intro i j h1 h2
    rcases (hb_def l j k).1 h2 with rfl | ⟨m, hm, hd, h3⟩
    · exact h1
    · exact (hb_def l i k).2 (.inr ⟨m, hm, hd, ih m hm h1 h3⟩)
theorem dep_thread {a b : Ev} (h : a.thread = b.thread) : dep a b = true := by unfold dep; simp [h]
/-- Of one thread: in order. -/
theorem hb_thread {l : List Ev} {i k : Nat} (h : i ≤ k) (ht : (evI l i).thread = (evI l k).thread) : hb l i k = true := by
  rcases Nat.lt_or_eq_of_le h with h | rfl
  · exact hb_dep h (dep_thread ht)
  · exact hb_self l i

theorem evI_append {l m : List Ev} {i : Nat} (h : i < l.length) : evI (l ++ m) i = evI l i := by
  unfold evI
  simp only [List.getD]
  rw [List.getElem?_append_left h]
theorem evI_get {l : List Ev} {i : Nat} (h : i < l.length) : evI l i = l[i] := getD_lt _ h
theorem evI_mem {l : List Ev} {i : Nat} (h : i < l.length) : evI l i ∈ l := by rw [evI_get h]; exact List.getElem_mem h
/-- A beginning has its own order. -/
theorem hb_append {l m : List Ev} {k : Nat} : ∀ {j : Nat}, k < l.length → (hb (l ++ m) j k = true ↔ hb l j k = true) := by
  induction k using Nat.strongRecOn with
  | _ k ih =>
    intro j hk
    rw [hb_def, hb_def]
    constructor
    · rintro (h | ⟨i, hi, hd, h⟩)
      · exact .inl h
      · refine .inr ⟨i, hi, ?_, (ih i hi (by omega)).1 h⟩
        rw [evI_append hk, evI_append (by omega)] at hd
        exact hd
    · rintro (h | ⟨i, hi, hd, h⟩)
      · exact .inl h
      · refine .inr ⟨i, hi, ?_, (ih i hi (by omega)).2 h⟩
        rw [evI_append hk, evI_append (by omega)]
        exact hd
theorem hb_append_eq {l m : List Ev} {k : Nat} (j : Nat) (hk : k < l.length) : hb (l ++ m) j k = hb l j k := by
  rw [Bool.eq_iff_iff]
  exact hb_append hk

/-- How many of the first n places have q. -/
def cnt (q : Nat → Bool) (n : Nat) : Nat := ((List.range n).filter q).length
theorem cnt_zero (q : Nat → Bool) : cnt q 0 = 0 := rfl
theorem cnt_succ (q : Nat → Bool) (n : Nat) : cnt q (n + 1) = cnt q n + if q n = true then 1 else 0 := by
  unfold cnt
  rw [List.range_succ, List.filter_append, List.length_append]
  congr 1
  cases h : q n <;> simp [h]
theorem cnt_le {q r : Nat → Bool} (n : Nat) (h : ∀ i, i < n → q i = true → r i = true) : cnt q n ≤ cnt r n := by
  induction n with
  | zero => exact Nat.le_refl _
  | succ n ih =>
    have := ih (fun i hi => h i (by omega))
    rw [cnt_succ, cnt_succ]
    by_cases hq : q n = true
    · rw [if_pos hq, if_pos (h n (by omega) hq)]
      omega
    · rw [if_neg hq]
      omega
theorem cnt_congr {q r : Nat → Bool} (n : Nat) (h : ∀ i, i < n → q i = r i) : cnt q n = cnt r n :=
  Nat.le_antisymm (cnt_le n fun i hi hq => by rw [← h i hi]; exact hq) (cnt_le n fun i hi hq => by rw [h i hi]; exact hq)
theorem cnt_mono (q : Nat → Bool) {m n : Nat} (h : m ≤ n) : cnt q m ≤ cnt q n := by
  induction n with
  | zero => obtain rfl : m = 0 := by omega
            exact Nat.le_refl _
  | succ n ih =>
    rcases Nat.lt_or_eq_of_le h with h | rfl
    · have := ih (by omega)
      rw [cnt_succ]
      omega
    · exact Nat.le_refl _
theorem cnt_lt (q : Nat → Bool) {m n : Nat} (h : m < n) (hq : q m = true) : cnt q m < cnt q n := by
  have h1 := cnt_mono q (show m + 1 ≤ n by omega)
  rw [cnt_succ, if_pos hq] at h1
  omega
/-- A set that is a beginning of another one. -/
theorem cnt_begin {q r : Nat → Bool} {n : Nat} (h1 : ∀ i, i < n → q i = true → r i = true) (h2 : ∀ i j, i < j → j < n → r i = true → q j = true → q i = true) {i : Nat} (hi : i < n) (hr : r i = true) : q i = true ↔ cnt r (i + 1) ≤ cnt q n := by
  constructor
  · intro hq
    have e : cnt r (i + 1) = cnt q (i + 1) := cnt_congr _ fun j hj => by
      by_cases hji : j = i
      · rw [hji, hq, hr]
      · rw [Bool.eq_iff_iff]
        exact ⟨fun hrj => h2 j i (by omega) hi hrj hq, fun hqj => h1 j (by omega) hqj⟩
    rw [e]
    exact cnt_mono q (by omega)
  · intro hle
    cases hq : q i
    · exfalso
      have e : cnt q n ≤ cnt r i := by
        have hno : ∀ j, i ≤ j → j < n → q j = false := by
          intro j hj hjn
          cases hqj : q j
          · rfl
          · rcases Nat.lt_or_eq_of_le hj with hj | rfl
            · rw [h2 i j hj hjn hr hqj] at hq; cases hq
            · rw [hqj] at hq; cases hq
        have e1 : ∀ m, i ≤ m → m ≤ n → cnt q m = cnt q i := by
          intro m
          induction m with
          | zero => intro him _; obtain rfl : i = 0 := by omega
                    rfl
          | succ m ih =>
            intro him hmn
            rcases Nat.lt_or_eq_of_le him with him | him
            · rw [cnt_succ, hno m (by omega) (by omega), ih (by omega) (by omega)]
              rfl
            · rw [← him]
        rw [e1 n (by omega) (Nat.le_refl _)]
        exact cnt_le i fun j hj => h1 j (by omega)
      rw [cnt_succ, if_pos hr] at hle
      omega
    · rfl

/-- Which number of its thread's events an event is. -/
def isT (l : List Ev) (t : Int) (i : Nat) : Bool := decide ((evI l i).thread = t)
def num (l : List Ev) (i : Nat) : Nat := cnt (isT l (evI l i).thread) (i + 1)
/-- A clock. -/
def clk (l : List Ev) (k : Nat) (t : Int) : Nat := cnt (fun i => hb l i k && isT l t i) (k + 1)

/-- P4.3. -/
theorem hb_iff_num {l : List Ev} {i k : Nat} : hb l i k = true ↔ num l i ≤ clk l k (evI l i).thread := by
  by_cases hik : i ≤ k
  · have h := cnt_begin (q := fun j => hb l j k && isT l (evI l i).thread j) (r := isT l (evI l i).thread) (n := k + 1)
      (fun j _ hq => by rw [Bool.and_eq_true] at hq; exact hq.2)
      (fun j m hjm hm hr hq => by
        rw [Bool.and_eq_true] at hq ⊢
        refine ⟨hb_trans (hb_thread (by omega) ?_) hq.1, hr⟩
        unfold isT at hr hq
        rw [decide_eq_true_eq] at hr hq
        rw [hr, hq.2])
      (i := i) (by omega) (by simp [isT])
    rw [Bool.and_eq_true] at h
    unfold num clk
    rw [← h]
    simp [isT]
  · constructor
    · intro h; exact absurd (hb_le h) hik
    · intro h
      exfalso
      unfold num clk at h
      have h1 : cnt (fun j => hb l j k && isT l (evI l i).thread j) (k + 1) ≤ cnt (isT l (evI l i).thread) (k + 1) := cnt_le _ fun j _ hq => by rw [Bool.and_eq_true] at hq; exact hq.2
      have h3 := cnt_mono (isT l (evI l i).thread) (show k + 1 ≤ i by omega)
      have h4 : cnt (isT l (evI l i).thread) (i + 1) = cnt (isT l (evI l i).thread) i + 1 := by rw [cnt_succ, if_pos (by simp [isT])]
      omega

/-- An event's clock tells its own number of its thread. -/
theorem clk_own (l : List Ev) (k : Nat) : clk l k (evI l k).thread = num l k := by
  unfold clk num
  refine cnt_congr _ fun i hi => ?_
  rw [Bool.eq_iff_iff, Bool.and_eq_true]
  refine ⟨fun h => h.2, fun h => ⟨hb_thread (by omega) ?_, h⟩⟩
  unfold isT at h
  rw [decide_eq_true_eq] at h
  exact h

theorem clk_le_cnt (l : List Ev) (k : Nat) (t : Int) : clk l k t ≤ cnt (isT l t) (k + 1) := cnt_le _ fun j _ hq => by rw [Bool.and_eq_true] at hq; exact hq.2

theorem clk_mono {l : List Ev} {i k : Nat} (h : hb l i k = true) (t : Int) : clk l i t ≤ clk l k t := by
  have hik := hb_le h
  unfold clk
  refine Nat.le_trans (cnt_le (r := fun j => hb l j k && isT l t j) (i + 1) fun j _ hq => ?_) (cnt_mono _ (by omega))
  rw [Bool.and_eq_true] at hq ⊢
  exact ⟨hb_trans hq.1 h, hq.2⟩

theorem num_append {l m : List Ev} {i : Nat} (h : i < l.length) : num (l ++ m) i = num l i := by
  unfold num
  rw [evI_append h]
  refine cnt_congr _ fun j hj => ?_
  unfold isT
  rw [evI_append (by omega)]
theorem clk_append {l m : List Ev} {k : Nat} (h : k < l.length) (t : Int) : clk (l ++ m) k t = clk l k t := by
  unfold clk
  refine cnt_congr _ fun j hj => ?_
  unfold isT
  rw [evI_append (by omega), hb_append_eq j h]

/-- The greatest of the clocks of those ahead that an event depends on. -/
def top (f : Nat → Nat) (q : Nat → Bool) : Nat → Nat
  | 0 => 0
  | n + 1 => if q n = true then max (top f q n) (f n) else top f q n
theorem top_ge {f : Nat → Nat} {q : Nat → Bool} {n i : Nat} (hi : i < n) (hq : q i = true) : f i ≤ top f q n := by
  induction n with
  | zero => omega
  | succ n ih =>
    unfold top
    by_cases hin : i = n
    · subst hin
      rw [if_pos hq]
      exact Nat.le_max_right _ _
    · have := ih (by omega)
      split <;> omega
theorem top_le {f : Nat → Nat} {q : Nat → Bool} {n b : Nat} (h : ∀ i, i < n → q i = true → f i ≤ b) : top f q n ≤ b := by
  induction n with
  | zero => exact Nat.zero_le _
  | succ n ih =>
    have h1 := ih (fun i hi => h i (by omega))
    unfold top
    split
    · rename_i hq
      have := h n (by omega) hq
      omega
    · exact h1
theorem top_zero_or {f : Nat → Nat} {q : Nat → Bool} {n : Nat} : top f q n = 0 ∨ ∃ i, i < n ∧ q i = true ∧ top f q n = f i := by
  induction n with
  | zero => exact .inl rfl
  | succ n ih =>
    unfold top
    split
    · rename_i hq
      rcases Nat.le_total (top f q n) (f n) with h | h
      · exact .inr ⟨n, by omega, hq, by omega⟩
      · rcases ih with h0 | ⟨i, hi, hqi, e⟩
        · exact .inr ⟨n, by omega, hq, by omega⟩
        · exact .inr ⟨i, by omega, hqi, by omega⟩
    · rcases ih with h0 | ⟨i, hi, hqi, e⟩
      · exact .inl h0
      · exact .inr ⟨i, by omega, hqi, e⟩

/-- A clock, by those ahead. -/
theorem clk_top (l : List Ev) (k : Nat) (t : Int) : clk l k t = top (fun i => clk l i t) (fun i => dep (evI l i) (evI l k)) k + if (evI l k).thread = t then 1 else 0 := by
  by_cases ht : (evI l k).thread = t
  · subst ht
    rw [if_pos rfl, clk_own]
    have e : num l k = cnt (isT l (evI l k).thread) k + 1 := by unfold num; rw [cnt_succ, if_pos (by simp [isT])]
    rw [e]
    congr 1
    apply Nat.le_antisymm
    · -- the last one of the thread ahead
      by_cases h0 : cnt (isT l (evI l k).thread) k = 0
      · omega
      · have hex : ∀ n, n ≤ k → cnt (isT l (evI l k).thread) n ≠ 0 → ∃ i, i < n ∧ isT l (evI l k).thread i = true ∧ cnt (isT l (evI l k).thread) (i + 1) = cnt (isT l (evI l k).thread) n := by
          intro n
          induction n with
          | zero => intro _ h; exact absurd (cnt_zero _) h
          | succ n ih =>
            intro hn h
            cases hq : isT l (evI l k).thread n
            · rw [cnt_succ, hq] at h ⊢
              simp only [Bool.false_eq_true, if_false, Nat.add_zero] at h ⊢
              obtain ⟨i, hi, h1, h2⟩ := ih (by omega) h
              exact ⟨i, by omega, h1, h2⟩
            · exact ⟨n, by omega, hq, rfl⟩
        obtain ⟨i, hi, h1, h2⟩ := hex k (Nat.le_refl _) h0
        rw [← h2]
        have ht : (evI l i).thread = (evI l k).thread := by unfold isT at h1; rw [decide_eq_true_eq] at h1; exact h1
        have h3 := top_ge (f := fun i => clk l i (evI l k).thread) (q := fun i => dep (evI l i) (evI l k)) hi (dep_thread ht)
        have h4 := clk_own l i
        unfold num at h4
        rw [ht] at h4
        omega
    · refine top_le fun i hi _ => Nat.le_trans (clk_le_cnt l i _) (cnt_mono _ (by omega))
  · rw [if_neg ht, Nat.add_zero]
    apply Nat.le_antisymm
    · -- the last one that happens before
      have e : clk l k t = cnt (fun i => hb l i k && isT l t i) k := by
        unfold clk
        rw [cnt_succ, if_neg (by simp [isT, ht])]
        rfl
      rw [e]
      have hex : ∀ n, n ≤ k → cnt (fun i => hb l i k && isT l t i) n ≤ top (fun i => clk l i t) (fun i => dep (evI l i) (evI l k)) k := by
        intro n
        induction n with
        | zero => intro _; exact Nat.zero_le _
        | succ n ih =>
          intro hn
          rw [cnt_succ]
          by_cases hq : (hb l n k && isT l t n) = true
          · rw [if_pos hq]
            rw [Bool.and_eq_true] at hq
            have htn : (evI l n).thread = t := by have := hq.2; unfold isT at this; rw [decide_eq_true_eq] at this; exact this
            rcases (hb_def l n k).1 hq.1 with h | ⟨i, hi, hd, h⟩
            · omega
            · refine Nat.le_trans ?_ (top_ge (f := fun i => clk l i t) (q := fun i => dep (evI l i) (evI l k)) hi hd)
              have h1 := hb_iff_num.1 h
              rw [htn] at h1
              refine Nat.le_trans ?_ h1
              unfold num
              rw [htn, cnt_succ, if_pos hq.2]
              have := cnt_le (q := fun i => hb l i k && isT l t i) (r := isT l t) n fun j _ hq => by rw [Bool.and_eq_true] at hq; exact hq.2
              omega
          · rw [if_neg hq, Nat.add_zero]
            exact ih (by omega)
      exact hex k (Nat.le_refl _)
    · exact top_le fun i hi hd => clk_mono (hb_dep hi hd) t

end Go.Proofs.YtljlaopjimkcmaaGreat

/-
  Plain data for layer 4: rows that are the same, but for an order that doesn't matter. Nothing of the translation.
-/
namespace Go.Proofs.YtljlaopjimkcmaaGreat

/-- The events of a row with their clocks, and those of one thread. -/
def prs (l : List Ev) : List (Ev × (Int → Nat)) := (List.range l.length).map fun k => (evI l k, clk l k)
def psi (l : List Ev) (t : Int) : List (Ev × (Int → Nat)) := (prs l).filter fun p => decide (p.1.thread = t)
/-- Each thread has the same events, with the same clocks. -/
def Sim (a b : List Ev) : Prop := ∀ t, psi a t = psi b t

theorem Sim.refl (a : List Ev) : Sim a a := fun _ => rfl
theorem Sim.symm {a b : List Ev} (h : Sim a b) : Sim b a := fun t => (h t).symm
theorem Sim.trans {a b c : List Ev} (h : Sim a b) (k : Sim b c) : Sim a c := fun t => (h t).trans (k t)

/-- The clock of an event behind those that are there. -/
def topL (ps : List (Ev × (Int → Nat))) (t : Int) : Nat := ps.foldr (fun p m => max (p.2 t) m) 0
def nxt (ps : List (Ev × (Int → Nat))) (e : Ev) : Int → Nat := fun t => topL (ps.filter fun p => dep p.1 e) t + if e.thread = t then 1 else 0

theorem topL_le {ps : List (Ev × (Int → Nat))} {t : Int} {b : Nat} : topL ps t ≤ b ↔ ∀ p ∈ ps, p.2 t ≤ b := by
  induction ps with
  | nil => simp [topL]
  | cons p ps ih =>
    have e : topL (p :: ps) t = max (p.2 t) (topL ps t) := rfl
    rw [e, Nat.max_le, ih]
    simp
theorem topL_append (ps qs : List (Ev × (Int → Nat))) (t : Int) : topL (ps ++ qs) t = max (topL ps t) (topL qs t) := by
  induction ps with
  | nil => simp [topL]
  | cons p ps ih =>
    have e : topL (p :: ps ++ qs) t = max (p.2 t) (topL (ps ++ qs) t) := rfl
    have e2 : topL (p :: ps) t = max (p.2 t) (topL ps t) := rfl
    rw [e, ih, e2, Nat.max_assoc]
theorem topL_mem {ps qs : List (Ev × (Int → Nat))} (h : ∀ p, p ∈ ps ↔ p ∈ qs) (t : Int) : topL ps t = topL qs t :=
  Nat.le_antisymm (topL_le.2 fun p hp => topL_le.1 (Nat.le_refl _) p ((h p).1 hp)) (topL_le.2 fun p hp => topL_le.1 (Nat.le_refl _) p ((h p).2 hp))
theorem nxt_mem {ps qs : List (Ev × (Int → Nat))} (h : ∀ p, p ∈ ps ↔ p ∈ qs) (e : Ev) : nxt ps e = nxt qs e := by
  funext t
  unfold nxt
  rw [topL_mem (qs := qs.filter fun p => dep p.1 e) (fun p => by rw [List.mem_filter, List.mem_filter, h])]

theorem top_succ (f : Nat → Nat) (q : Nat → Bool) (n : Nat) : top f q (n + 1) = if q n = true then max (top f q n) (f n) else top f q n := rfl
theorem top_topL (l : List Ev) (e : Ev) (t : Int) (n : Nat) : top (fun i => clk l i t) (fun i => dep (evI l i) e) n = topL (((List.range n).map fun k => (evI l k, clk l k)).filter fun p => dep p.1 e) t := by
  induction n with
  | zero => rfl
  | succ n ih =>
    rw [List.range_succ, List.map_append, List.filter_append, topL_append, ← ih, top_succ]
    by_cases h : dep (evI l n) e = true
    · rw [if_pos h]
      simp [h, topL]
    · rw [if_neg h]
      simp [h, topL]

theorem prs_snoc (l : List Ev) (e : Ev) : prs (l ++ [e]) = prs l ++ [(e, nxt (prs l) e)] := by
  unfold prs
  rw [List.length_append, List.length_singleton, List.range_succ, List.map_append]
  have h1 : (List.range l.length).map (fun k => (evI (l ++ [e]) k, clk (l ++ [e]) k)) = (List.range l.length).map fun k => (evI l k, clk l k) := by
    apply List.map_congr_left
    intro k hk
    rw [List.mem_range] at hk
    have : clk (l ++ [e]) k = clk l k := funext fun t => clk_append hk t
    rw [this, evI_append hk]
  have h2 : evI (l ++ [e]) l.length = e := by unfold evI; simp [List.getD]
  have h3 : clk (l ++ [e]) l.length = nxt ((List.range l.length).map fun k => (evI l k, clk l k)) e := by
    funext t
    rw [clk_top, h2, top_topL (l ++ [e]) e t, h1]
    rfl
  rw [h1, List.map_singleton, h2, h3]

/-- A row goes on. -/
def grow (ps : List (Ev × (Int → Nat))) : List Ev → List (Ev × (Int → Nat))
  | [] => ps
  | e :: y => grow (ps ++ [(e, nxt ps e)]) y
theorem grow_cons (ps : List (Ev × (Int → Nat))) (e : Ev) (y : List Ev) : grow ps (e :: y) = grow (ps ++ [(e, nxt ps e)]) y := rfl
theorem prs_grow (y : List Ev) : ∀ x : List Ev, prs (x ++ y) = grow (prs x) y := by
  induction y with
  | nil => intro x; rw [List.append_nil]; rfl
  | cons e y ih =>
    intro x
    rw [show x ++ e :: y = (x ++ [e]) ++ y by simp, ih, prs_snoc]
    rfl
theorem grow_same (y : List Ev) : ∀ {ps qs : List (Ev × (Int → Nat))}, (∀ p, p ∈ ps ↔ p ∈ qs) → ∃ z, grow ps y = ps ++ z ∧ grow qs y = qs ++ z := by
  induction y with
  | nil => intro ps qs _; exact ⟨[], by simp [grow], by simp [grow]⟩
  | cons e y ih =>
    intro ps qs h
    have hn := nxt_mem h e
    obtain ⟨z, h1, h2⟩ := ih (ps := ps ++ [(e, nxt ps e)]) (qs := qs ++ [(e, nxt ps e)]) (fun p => by rw [List.mem_append, List.mem_append, h])
    refine ⟨(e, nxt ps e) :: z, ?_, ?_⟩
    · unfold grow
      rw [h1]
      simp
    · unfold grow
      rw [← hn, h2]
      simp

/-- Two neighbours that don't depend on one another swapped: the same. -/
theorem sim_swap {x y : List Ev} {e f : Ev} (hd : dep e f = false) : Sim (x ++ e :: f :: y) (x ++ f :: e :: y) := by
  have hd' : dep f e = false := by rw [dep_symm]; exact hd
  have hne : e.thread ≠ f.thread := by
    intro h
    rw [dep_thread h] at hd
    cases hd
  have n1 : nxt (prs x ++ [(e, nxt (prs x) e)]) f = nxt (prs x) f := by
    funext t
    unfold nxt
    rw [List.filter_append]
    simp [hd]
  have n2 : nxt (prs x ++ [(f, nxt (prs x) f)]) e = nxt (prs x) e := by
    funext t
    unfold nxt
    rw [List.filter_append]
    simp [hd']
  have e1 : prs (x ++ e :: f :: y) = grow (prs x ++ [(e, nxt (prs x) e), (f, nxt (prs x) f)]) y := by
    rw [prs_grow, grow_cons, grow_cons, n1, List.append_assoc]
    rfl
  have e2 : prs (x ++ f :: e :: y) = grow (prs x ++ [(f, nxt (prs x) f), (e, nxt (prs x) e)]) y := by
    rw [prs_grow, grow_cons, grow_cons, n2, List.append_assoc]
    rfl
  obtain ⟨z, h1, h2⟩ := grow_same y (ps := prs x ++ [(e, nxt (prs x) e), (f, nxt (prs x) f)]) (qs := prs x ++ [(f, nxt (prs x) f), (e, nxt (prs x) e)]) (fun p => by simp only [List.mem_append, List.mem_cons, List.not_mem_nil, or_false]; constructor <;> (rintro (h | h | h) <;> simp [h]))
  intro t
  unfold psi
  rw [e1, e2, h1, h2]
  simp only [List.filter_append]
  congr 2
  by_cases he : e.thread = t
  · have hf : f.thread ≠ t := by omega
    simp [he, hf]
  · simp [List.filter_cons, he]

theorem prs_take {x l : List Ev} {a b : Ev} (hlt : x.length + 1 < (x ++ l).length) (hl : ∀ i, i < x.length → evI (x ++ l) i = evI x i) (h0 : evI (x ++ l) x.length = a) (h1 : evI (x ++ l) (x.length + 1) = b) :
    (prs (x ++ l)).take (x.length + 2) = prs x ++ [(a, clk (x ++ l) x.length), (b, clk (x ++ l) (x.length + 1))] := by
  unfold prs
  rw [← List.map_take, List.take_range, show min (x.length + 2) (x ++ l).length = x.length + 1 + 1 by omega, List.range_succ, List.range_succ, List.map_append, List.map_append, List.append_assoc]
  congr 1
  · apply List.map_congr_left
    intro k hk
    rw [List.mem_range] at hk
    have : clk (x ++ l) k = clk x k := funext fun t => clk_append hk t
    rw [this, hl k hk]
  · simp [h0, h1]

/-- Two neighbours of unlike threads that depend on one another swapped: not the same. -/
theorem sim_swap_dep {x y : List Ev} {e f : Ev} (hd : dep e f = true) (hne : e.thread ≠ f.thread) : ¬ Sim (x ++ f :: e :: y) (x ++ e :: f :: y) := by
  intro h
  have hl : ∀ (a b : Ev) (i : Nat), i < x.length → evI (x ++ a :: b :: y) i = evI x i := fun a b i hi => evI_append hi
  have h0 : ∀ (a b : Ev), evI (x ++ a :: b :: y) x.length = a := fun a b => by unfold evI; simp [List.getD]
  have h1 : ∀ (a b : Ev), evI (x ++ a :: b :: y) (x.length + 1) = b := fun a b => by
    unfold evI
    simp only [List.getD]
    rw [List.getElem?_append_right (by omega), show x.length + 1 - x.length = 1 by omega]
    rfl
  have hlt : ∀ (a b : Ev), x.length + 1 < (x ++ a :: b :: y).length := fun a b => by simp
  -- the clock of e, in the one and in the other
  have c1 : clk (x ++ e :: f :: y) x.length f.thread ≤ cnt (isT x f.thread) x.length := by
    refine Nat.le_trans (clk_le_cnt _ _ _) ?_
    rw [cnt_succ, if_neg (by unfold isT; rw [h0]; simpa using hne)]
    exact Nat.le_of_eq (cnt_congr _ fun i hi => by unfold isT; rw [hl _ _ i hi])
  have c2 : cnt (isT x f.thread) x.length + 1 ≤ clk (x ++ f :: e :: y) (x.length + 1) f.thread := by
    have hb1 : hb (x ++ f :: e :: y) x.length (x.length + 1) = true := hb_dep (by omega) (by rw [h0, h1, dep_symm]; exact hd)
    have h2 := hb_iff_num.1 hb1
    rw [h0] at h2
    refine Nat.le_trans ?_ h2
    unfold num
    rw [h0, cnt_succ, if_pos (by unfold isT; rw [h0]; simp)]
    exact Nat.add_le_add_right (Nat.le_of_eq (cnt_congr _ fun i hi => by unfold isT; rw [hl _ _ i hi])) 1
  -- both stand at one place of the thread's events
  have ht := h e.thread
  have hp1 : prs (x ++ f :: e :: y) = prs x ++ ((f, clk (x ++ f :: e :: y) x.length) :: (e, clk (x ++ f :: e :: y) (x.length + 1)) :: (prs (x ++ f :: e :: y)).drop (x.length + 2)) := by
    conv => lhs; rw [← List.take_append_drop (x.length + 2) (prs (x ++ f :: e :: y))]
    rw [show prs x ++ ((f, clk (x ++ f :: e :: y) x.length) :: (e, clk (x ++ f :: e :: y) (x.length + 1)) :: (prs (x ++ f :: e :: y)).drop (x.length + 2)) = (prs x ++ [(f, clk (x ++ f :: e :: y) x.length), (e, clk (x ++ f :: e :: y) (x.length + 1))]) ++ (prs (x ++ f :: e :: y)).drop (x.length + 2) by simp]
    congr 1
    exact prs_take (hlt f e) (hl f e) (h0 f e) (h1 f e)
  have hp2 : prs (x ++ e :: f :: y) = prs x ++ ((e, clk (x ++ e :: f :: y) x.length) :: (f, clk (x ++ e :: f :: y) (x.length + 1)) :: (prs (x ++ e :: f :: y)).drop (x.length + 2)) := by
    conv => lhs; rw [← List.take_append_drop (x.length + 2) (prs (x ++ e :: f :: y))]
    rw [show prs x ++ ((e, clk (x ++ e :: f :: y) x.length) :: (f, clk (x ++ e :: f :: y) (x.length + 1)) :: (prs (x ++ e :: f :: y)).drop (x.length + 2)) = (prs x ++ [(e, clk (x ++ e :: f :: y) x.length), (f, clk (x ++ e :: f :: y) (x.length + 1))]) ++ (prs (x ++ e :: f :: y)).drop (x.length + 2) by simp]
    congr 1
    exact prs_take (hlt e f) (hl e f) (h0 e f) (h1 e f)
  unfold psi at ht
  rw [hp1, hp2, List.filter_append, List.filter_append] at ht
  have ht2 := List.append_cancel_left ht
  simp only [List.filter_cons, decide_eq_true_eq] at ht2
  rw [if_neg (Ne.symm hne)] at ht2
  simp only [if_true] at ht2
  injection ht2 with ht3 _
  injection ht3 with _ ht4
  have := congrFun ht4 f.thread
  omega

end Go.Proofs.YtljlaopjimkcmaaGreat

/-
  Plain data for layer 4: the document's words of rows that are the same, and the clocks'. Nothing of the translation.
-/
namespace Go.Proofs.YtljlaopjimkcmaaGreat

theorem filter_range_get (q : Nat → Bool) {n i : Nat} (hi : i < n) (hq : q i = true) : ((List.range n).filter q)[cnt q i]? = some i := by
  induction n with
  | zero => omega
  | succ n ih =>
    rw [List.range_succ, List.filter_append]
    by_cases h : i < n
    · have h1 := ih h
      rw [List.getElem?_append_left (List.getElem?_eq_some_iff.1 h1).1]
      exact h1
    · obtain rfl : i = n := by omega
      have e : cnt q i = ((List.range i).filter q).length := rfl
      rw [e, List.getElem?_append_right (Nat.le_refl _)]
      simp [hq]
theorem filter_range_inv (q : Nat → Bool) {n i j : Nat} (h : ((List.range n).filter q)[j]? = some i) : i < n ∧ q i = true ∧ cnt q i = j := by
  induction n with
  | zero => simp at h
  | succ n ih =>
    rw [List.range_succ, List.filter_append] at h
    by_cases hj : j < ((List.range n).filter q).length
    · rw [List.getElem?_append_left hj] at h
      obtain ⟨h1, h2, h3⟩ := ih h
      exact ⟨by omega, h2, h3⟩
    · rw [List.getElem?_append_right (by omega)] at h
      cases hq : q n
      · simp [hq] at h
      · have e : [n].filter q = [n] := by simp [hq]
        rw [e] at h
        obtain ⟨h1, h2⟩ := List.getElem?_eq_some_iff.1 h
        simp at h1 h2
        subst h2
        refine ⟨by omega, hq, ?_⟩
        unfold cnt
        omega

theorem psi_eq (l : List Ev) (t : Int) : psi l t = ((List.range l.length).filter (isT l t)).map fun k => (evI l k, clk l k) := by
  unfold psi prs
  rw [List.filter_map]
  rfl
theorem psi_len (l : List Ev) (t : Int) : (psi l t).length = cnt (isT l t) l.length := by rw [psi_eq, List.length_map]; rfl
theorem psi_get {l : List Ev} {t : Int} {i : Nat} (hi : i < l.length) (ht : isT l t i = true) : (psi l t)[cnt (isT l t) i]? = some (evI l i, clk l i) := by
  rw [psi_eq, List.getElem?_map, filter_range_get _ hi ht]
  rfl
theorem psi_inv {l : List Ev} {t : Int} {j : Nat} {p : Ev × (Int → Nat)} (h : (psi l t)[j]? = some p) : ∃ i, i < l.length ∧ isT l t i = true ∧ cnt (isT l t) i = j ∧ p = (evI l i, clk l i) := by
  rw [psi_eq, List.getElem?_map] at h
  obtain ⟨i, h1, h2⟩ := Option.map_eq_some_iff.1 h
  obtain ⟨h3, h4, h5⟩ := filter_range_inv _ h1
  exact ⟨i, h3, h4, h5, h2.symm⟩

/-- The place of a thread's event behind m others. -/
def At (l : List Ev) (t : Int) (m i : Nat) : Prop := i < l.length ∧ isT l t i = true ∧ cnt (isT l t) i = m
theorem At.uniq {l : List Ev} {t : Int} {m i j : Nat} (h : At l t m i) (k : At l t m j) : i = j := by
  rcases Nat.lt_trichotomy i j with hl | he | hl
  · have := cnt_lt _ hl h.2.1
    have := h.2.2
    have := k.2.2
    omega
  · exact he
  · have := cnt_lt _ hl k.2.1
    have := h.2.2
    have := k.2.2
    omega
theorem at_ex {l : List Ev} {t : Int} {m : Nat} (h : m < cnt (isT l t) l.length) : ∃ i, At l t m i := by
  rw [← psi_len] at h
  obtain ⟨i, h1, h2, h3, _⟩ := psi_inv (List.getElem?_eq_getElem h)
  exact ⟨i, h1, h2, h3⟩
theorem At.lt {l : List Ev} {t : Int} {m i : Nat} (h : At l t m i) : m < cnt (isT l t) l.length := by
  have := cnt_lt _ h.1 h.2.1
  rw [h.2.2] at this
  exact this
theorem isT_iff {l : List Ev} {t : Int} {i : Nat} : isT l t i = true ↔ (evI l i).thread = t := by unfold isT; rw [decide_eq_true_eq]
theorem at_self {l : List Ev} {i : Nat} (h : i < l.length) : At l (evI l i).thread (cnt (isT l (evI l i).thread) i) i := ⟨h, isT_iff.2 rfl, rfl⟩
theorem num_eq (l : List Ev) (i : Nat) : num l i = cnt (isT l (evI l i).thread) i + 1 := by unfold num; rw [cnt_succ, if_pos (isT_iff.2 rfl)]

theorem clk_iff {l : List Ev} {i m : Nat} {u : Int} (hi : i < l.length) : m < clk l i u ↔ ∃ k, At l u m k ∧ hb l k i = true := by
  constructor
  · intro h
    have h1 := clk_le_cnt l i u
    have h2 := cnt_mono (isT l u) (show i + 1 ≤ l.length by omega)
    obtain ⟨k, hk⟩ := at_ex (l := l) (t := u) (m := m) (by omega)
    refine ⟨k, hk, hb_iff_num.2 ?_⟩
    have ht := isT_iff.1 hk.2.1
    rw [num_eq, ht, hk.2.2]
    omega
  · rintro ⟨k, hk, hh⟩
    have h1 := hb_iff_num.1 hh
    have ht := isT_iff.1 hk.2.1
    rw [num_eq, ht, hk.2.2] at h1
    omega

/-- P4.2: the same events of each thread, in order, and of each pair of them the one before the other alike. -/
def SameD (a b : List Ev) : Prop := a.length = b.length ∧ ∃ tw : Nat → Nat, (∀ i, i < a.length → At b (evI a i).thread (cnt (isT a (evI a i).thread) i) (tw i) ∧ evI b (tw i) = evI a i) ∧
  ∀ i k, i < a.length → k < a.length → hb a k i = hb b (tw k) (tw i)

/-- All threads are 0 to 3. -/
def In4 (l : List Ev) : Prop := ∀ e ∈ l, 0 ≤ e.thread ∧ e.thread ≤ 3
theorem len_sum {l : List Ev} (h : In4 l) (n : Nat) (hn : n ≤ l.length) : n = cnt (isT l 0) n + cnt (isT l 1) n + cnt (isT l 2) n + cnt (isT l 3) n := by
  induction n with
  | zero => rfl
  | succ n ih =>
    have h1 := ih (by omega)
    have h2 := h _ (evI_mem (l := l) (i := n) (by omega))
    simp only [cnt_succ, isT_iff]
    rcases (by omega : (evI l n).thread = 0 ∨ (evI l n).thread = 1 ∨ (evI l n).thread = 2 ∨ (evI l n).thread = 3) with e | e | e | e <;> simp [e] <;> omega
theorem cnt_none {l : List Ev} (h : In4 l) {t : Int} (ht : ¬ (0 ≤ t ∧ t ≤ 3)) : cnt (isT l t) l.length = 0 := by
  have : ∀ n, n ≤ l.length → cnt (isT l t) n = 0 := by
    intro n
    induction n with
    | zero => intro _; rfl
    | succ n ih =>
      intro hn
      have h2 := h _ (evI_mem (l := l) (i := n) (by omega))
      rw [cnt_succ, ih (by omega), if_neg]
      rw [isT_iff]
      intro e
      exact ht (by omega)
  exact this _ (Nat.le_refl _)

theorem Sim.cnt {a b : List Ev} (h : Sim a b) (t : Int) : cnt (isT a t) a.length = cnt (isT b t) b.length := by rw [← psi_len, ← psi_len, h t]
theorem Sim.len {a b : List Ev} (h : Sim a b) (ha : In4 a) (hb : In4 b) : a.length = b.length := by
  have h1 := len_sum ha a.length (Nat.le_refl _)
  have h2 := len_sum hb b.length (Nat.le_refl _)
  have := h.cnt 0
  have := h.cnt 1
  have := h.cnt 2
  have := h.cnt 3
  omega
/-- Where an event of the one stands in the other. -/
theorem Sim.at {a b : List Ev} (h : Sim a b) {i : Nat} (hi : i < a.length) : ∃ k, At b (evI a i).thread (Proofs.YtljlaopjimkcmaaGreat.cnt (isT a (evI a i).thread) i) k ∧ evI b k = evI a i ∧ clk b k = clk a i := by
  have h1 := psi_get hi (isT_iff.2 rfl)
  rw [h] at h1
  obtain ⟨k, h2, h3, h4, h5⟩ := psi_inv h1
  injection h5 with h5 h6
  exact ⟨k, ⟨h2, h3, h4⟩, h5.symm, h6.symm⟩

theorem sameD_of_sim {a b : List Ev} (h : Sim a b) (ha : In4 a) (hb4 : In4 b) : SameD a b := by
  refine ⟨h.len ha hb4, ?_⟩
  have hx : ∀ i, ∃ k, i < a.length → At b (evI a i).thread (cnt (isT a (evI a i).thread) i) k ∧ evI b k = evI a i ∧ clk b k = clk a i := fun i => by
    by_cases hi : i < a.length
    · obtain ⟨k, hk⟩ := h.at hi
      exact ⟨k, fun _ => hk⟩
    · exact ⟨0, fun hi' => absurd hi' hi⟩
  obtain ⟨tw, hto⟩ := Classical.skolem.1 hx
  refine ⟨tw, fun i hi => ⟨(hto i hi).1, (hto i hi).2.1⟩, fun i k hi hk => ?_⟩
  have h1 := hto i hi
  have h2 := hto k hk
  rw [Bool.eq_iff_iff, hb_iff_num, hb_iff_num, h1.2.2, num_eq, num_eq, h2.2.1, h2.1.2.2]

theorem sim_of_sameD {a b : List Ev} (h : SameD a b) (ha : In4 a) (hb4 : In4 b) : Sim a b := by
  obtain ⟨hl, tw, h1, h2⟩ := h
  -- no thread has more events in the one than in the other
  have hle : ∀ t, cnt (isT a t) a.length ≤ cnt (isT b t) b.length := by
    intro t
    apply Classical.byContradiction
    intro hn
    obtain ⟨i, hi⟩ := at_ex (l := a) (t := t) (m := cnt (isT b t) b.length) (by omega)
    have h3 := (h1 i hi.1).1
    have ht := isT_iff.1 hi.2.1
    rw [ht, hi.2.2] at h3
    have := h3.lt
    omega
  have heq : ∀ t, cnt (isT a t) a.length = cnt (isT b t) b.length := by
    intro t
    by_cases ht : 0 ≤ t ∧ t ≤ 3
    · have s1 := len_sum ha a.length (Nat.le_refl _)
      have s2 := len_sum hb4 b.length (Nat.le_refl _)
      have l0 := hle 0
      have l1 := hle 1
      have l2 := hle 2
      have l3 := hle 3
      rcases (by omega : t = 0 ∨ t = 1 ∨ t = 2 ∨ t = 3) with rfl | rfl | rfl | rfl <;> omega
    · rw [cnt_none ha ht, cnt_none hb4 ht]
  have hclk : ∀ i, i < a.length → clk b (tw i) = clk a i := by
    intro i hi
    funext u
    obtain ⟨g1, g2⟩ := h1 i hi
    have key : ∀ m, m < clk a i u ↔ m < clk b (tw i) u := by
      intro m
      rw [clk_iff hi, clk_iff g1.1]
      constructor
      · rintro ⟨k, hk, hh⟩
        have h3 := (h1 k hk.1).1
        have ht := isT_iff.1 hk.2.1
        rw [ht, hk.2.2] at h3
        exact ⟨tw k, h3, by rw [← h2 i k hi hk.1]; exact hh⟩
      · rintro ⟨k', hk', hh⟩
        obtain ⟨k, hk⟩ := at_ex (l := a) (t := u) (m := m) (by rw [heq]; exact hk'.lt)
        have h3 := (h1 k hk.1).1
        have ht := isT_iff.1 hk.2.1
        rw [ht, hk.2.2] at h3
        obtain rfl := h3.uniq hk'
        exact ⟨k, hk, by rw [h2 i k hi hk.1]; exact hh⟩
    apply Nat.le_antisymm
    · apply Nat.le_of_not_lt
      intro hc
      have := (key _).2 hc
      omega
    · apply Nat.le_of_not_lt
      intro hc
      have := (key _).1 hc
      omega
  intro t
  apply List.ext_getElem?
  intro j
  by_cases hj : j < cnt (isT a t) a.length
  · obtain ⟨i, hi⟩ := at_ex hj
    obtain ⟨g1, g2⟩ := h1 i hi.1
    have ht := isT_iff.1 hi.2.1
    rw [ht, hi.2.2] at g1
    have e1 := psi_get hi.1 hi.2.1
    have e2 := psi_get g1.1 g1.2.1
    rw [hi.2.2] at e1
    rw [g1.2.2] at e2
    rw [e1, e2, g2, hclk i hi.1]
  · rw [List.getElem?_eq_none (by rw [psi_len]; omega), List.getElem?_eq_none (by rw [psi_len, ← heq]; omega)]

theorem sameD_iff {a b : List Ev} (ha : In4 a) (hb4 : In4 b) : SameD a b ↔ Sim a b := ⟨fun h => sim_of_sameD h ha hb4, fun h => sameD_of_sim h ha hb4⟩

/-- One event more behind both. -/
theorem psi_snoc (l : List Ev) (e : Ev) (t : Int) : psi (l ++ [e]) t = psi l t ++ if e.thread = t then [(e, nxt (prs l) e)] else [] := by
  unfold psi
  rw [prs_snoc, List.filter_append]
  congr 1
  by_cases h : e.thread = t <;> simp [h]
theorem mem_prs {l : List Ev} {p : Ev × (Int → Nat)} : p ∈ prs l ↔ p ∈ psi l p.1.thread := by
  unfold psi
  rw [List.mem_filter]
  simp
theorem sim_snoc (a b : List Ev) (e : Ev) : Sim (a ++ [e]) (b ++ [e]) ↔ Sim a b := by
  constructor
  · intro h t
    have ht := h t
    rw [psi_snoc, psi_snoc] at ht
    by_cases he : e.thread = t
    · rw [if_pos he, if_pos he] at ht
      exact (List.append_inj' ht rfl).1
    · rw [if_neg he, if_neg he, List.append_nil, List.append_nil] at ht
      exact ht
  · intro h t
    have hn : nxt (prs a) e = nxt (prs b) e := nxt_mem (fun p => by rw [mem_prs, mem_prs, h]) e
    rw [psi_snoc, psi_snoc, h t, hn]

/-- Two places of a row, one behind the other. -/
theorem split_two {l : List Ev} {i : Nat} (h : i + 1 < l.length) : l = l.take i ++ l[i] :: l[i + 1] :: l.drop (i + 2) ∧ (l.set i l[i + 1]).set (i + 1) l[i] = l.take i ++ l[i + 1] :: l[i] :: l.drop (i + 2) := by
  have e1 : l = l.take i ++ l[i] :: l[i + 1] :: l.drop (i + 2) := by
    conv => lhs; rw [← List.take_append_drop i l, List.drop_eq_getElem_cons (show i < l.length by omega), List.drop_eq_getElem_cons h]
  refine ⟨e1, ?_⟩
  have hi : (l.take i).length = i := by simp; omega
  generalize l[i] = x at *
  generalize l[i + 1] = y at *
  generalize l.take i = p at *
  generalize l.drop (i + 2) = q at *
  subst e1
  subst hi
  rw [List.set_append_right _ _ (by omega), List.set_append_right _ _ (by omega)]
  simp

end Go.Proofs.YtljlaopjimkcmaaGreat

/- A part of a row, and one of its events. -/
namespace Go.Proofs.YtljlaopjimkcmaaGreat
open Go.RowKit

theorem EvsAt.take {w : World} {a : Option Addr} {l : List Ev} (h : EvsAt w a l) (k : Nat) : EvsAt w a (l.take k) := by
  refine ⟨Nat.le_trans (List.length_take_le' _ _) h.1, fun hn => ?_⟩
  obtain ⟨b, o, rfl, hc⟩ := h.2 (by intro e; simp [e] at hn)
  refine ⟨b, o, rfl, fun i hi => ?_⟩
  have hi' : i < l.length := by simp at hi; omega
  have h1 := hc i hi'
  simpa using h1
theorem EvsAt.one {w : World} {a : Option Addr} {l : List Ev} (h : EvsAt w a l) {k : Nat} (hk : k < l.length) : ∃ b o, a = some ⟨b, o, none⟩ ∧ w.cell? ⟨b, o + k * 4, none⟩ = some (.int .i64 (evI l k).thread) ∧ w.cell? ⟨b, o + k * 4 + 1, none⟩ = some (.int .i64 (evI l k).kind) ∧
    w.cell? ⟨b, o + k * 4 + 2, none⟩ = some (.int .i64 (evI l k).obj) ∧ w.cell? ⟨b, o + k * 4 + 3, none⟩ = some (.bool (evI l k).fail) := by
  obtain ⟨b, o, rfl, hc⟩ := h.2 (by intro e; simp [e] at hk)
  refine ⟨b, o, rfl, ?_⟩
  rw [evI_get hk]
  exact hc k hk
theorem cnt_le_k (q : Nat → Bool) (n : Nat) : cnt q n ≤ n := by
  induction n with
  | zero => exact Nat.le_refl _
  | succ n ih => rw [cnt_succ]; split <;> omega

end Go.Proofs.YtljlaopjimkcmaaGreat

/-
  Plain data for layer 5: what swaps of neighbours that don't depend on one another leave as it is, is alike for rows that are the same. Nothing of the translation.
-/
namespace Go.Proofs.YtljlaopjimkcmaaGreat

/-- A thing that is told of rows, whatever neighbours that don't depend on one another are swapped. -/
def Blind {T : Type} (F : List Ev → T) : Prop := ∀ (x y : List Ev) (e f : Ev), dep e f = false → F (x ++ e :: f :: y) = F (x ++ f :: e :: y)

theorem Blind.move {T : Type} {F : List Ev → T} (h : Blind F) (e : Ev) (y : List Ev) : ∀ x : List Ev, (∀ f ∈ y, dep e f = false) → F (x ++ e :: y) = F (x ++ y ++ [e]) := by
  induction y with
  | nil => intro x _; rw [List.append_nil]
  | cons f y ih =>
    intro x hy
    rw [h x y e f (hy f (by simp)), show x ++ f :: e :: y = (x ++ [f]) ++ e :: y by simp, ih (x ++ [f]) (fun g hg => hy g (by simp [hg]))]
    congr 1
    simp
theorem sim_move (e : Ev) (y : List Ev) : ∀ x : List Ev, (∀ f ∈ y, dep e f = false) → Sim (x ++ e :: y) (x ++ y ++ [e]) := by
  induction y with
  | nil => intro x _; rw [List.append_nil]; exact Sim.refl _
  | cons f y ih =>
    intro x hy
    have h1 : Sim (x ++ e :: f :: y) (x ++ f :: e :: y) := sim_swap (hy f (by simp))
    have h2 := ih (x ++ [f]) (fun g hg => hy g (by simp [hg]))
    rw [show (x ++ [f]) ++ e :: y = x ++ f :: e :: y by simp, show x ++ [f] ++ y ++ [e] = x ++ f :: y ++ [e] by simp] at h2
    exact h1.trans h2

theorem mem_prs_inv {l : List Ev} {p : Ev × (Int → Nat)} (h : p ∈ prs l) : ∃ i, i < l.length ∧ p = (evI l i, clk l i) := by
  unfold prs at h
  obtain ⟨i, hi, e⟩ := List.mem_map.1 h
  exact ⟨i, List.mem_range.1 hi, e.symm⟩
theorem prs_mem {l : List Ev} {i : Nat} (h : i < l.length) : (evI l i, clk l i) ∈ prs l := List.mem_map.2 ⟨i, List.mem_range.2 h, rfl⟩
theorem split_at {l : List Ev} {k : Nat} (h : k < l.length) : l = l.take k ++ evI l k :: l.drop (k + 1) := by
  conv => lhs; rw [← List.take_append_drop k l, List.drop_eq_getElem_cons h]
  rw [evI_get h]

/-- The last event of the one row stands in the other one, and nothing behind it depends on it. -/
theorem sim_last {a b : List Ev} {e : Ev} (h : Sim (a ++ [e]) b) : ∃ x y, b = x ++ e :: y ∧ ∀ f ∈ y, dep e f = false := by
  have hp : psi (a ++ [e]) e.thread = psi a e.thread ++ [(e, nxt (prs a) e)] := by rw [psi_snoc, if_pos rfl]
  have hq := h e.thread
  have hl := congrArg List.length hq
  have hN : cnt (isT (a ++ [e]) e.thread) (a ++ [e]).length = cnt (isT a e.thread) a.length + 1 := by
    rw [← psi_len, hp, List.length_append, psi_len]
    rfl
  rw [psi_len, psi_len, hN] at hl
  have hg : (psi b e.thread)[cnt (isT a e.thread) a.length]? = some (e, nxt (prs a) e) := by
    rw [← hq, hp, List.getElem?_append_right (by rw [psi_len]; exact Nat.le_refl _), psi_len, Nat.sub_self]
    rfl
  obtain ⟨k, hk, hkt, hkc, hke⟩ := psi_inv hg
  injection hke with hke _
  refine ⟨b.take k, b.drop (k + 1), by rw [hke]; exact split_at hk, fun f hf => ?_⟩
  cases hd : dep e f
  · rfl
  · exfalso
    obtain ⟨m, hm, hfm⟩ := List.mem_iff_getElem.1 hf
    rw [List.length_drop] at hm
    have hj : k + 1 + m < b.length := by omega
    have hfj : evI b (k + 1 + m) = f := by rw [evI_get hj, ← hfm, List.getElem_drop]
    have hbj : hb b k (k + 1 + m) = true := hb_dep (by omega) (by rw [← hke, hfj]; exact hd)
    have h1 := hb_iff_num.1 hbj
    rw [num_eq, ← hke, hkc] at h1
    have hmem : (evI b (k + 1 + m), clk b (k + 1 + m)) ∈ prs (a ++ [e]) := by rw [mem_prs, h, ← mem_prs]; exact prs_mem hj
    obtain ⟨i, hi, hie⟩ := mem_prs_inv hmem
    injection hie with hie1 hie2
    rw [hie2] at h1
    have h2 := clk_le_cnt (a ++ [e]) i e.thread
    rw [List.length_append, List.length_singleton] at hi
    rcases Nat.lt_or_eq_of_le (show i ≤ a.length by omega) with hia | hia
    · have h3 := cnt_mono (isT (a ++ [e]) e.thread) (show i + 1 ≤ a.length by omega)
      have h4 : cnt (isT (a ++ [e]) e.thread) a.length = cnt (isT a e.thread) a.length := cnt_congr _ fun j hj => by unfold isT; rw [evI_append hj]
      omega
    · have he2 : evI (a ++ [e]) i = e := by rw [hia]; unfold evI; simp [List.getD]
      rw [he2] at hie1
      have h5 : isT b e.thread (k + 1 + m) = true := isT_iff.2 (by rw [hie1])
      have h6 := (show At b e.thread _ _ from ⟨hj, h5, rfl⟩).lt
      have h7 := cnt_lt (isT b e.thread) (show k < k + 1 + m by omega) hkt
      omega

theorem psi_nil (t : Int) : psi [] t = [] := rfl

/-- Rows that are the same are alike in all that such swaps leave. -/
theorem sim_fun {T : Type} (n : Nat) : ∀ (a b : List Ev) (F : List Ev → T), a.length = n → Sim a b → Blind F → F a = F b := by
  induction n with
  | zero =>
    intro a b F hn h _
    obtain rfl := List.eq_nil_of_length_eq_zero hn
    rcases b with _ | ⟨e, b⟩
    · rfl
    · exfalso
      have h1 := psi_get (l := e :: b) (t := e.thread) (i := 0) (by simp) (isT_iff.2 rfl)
      rw [← h, psi_nil] at h1
      simp at h1
  | succ n ih =>
    intro a b F hn h hF
    have hne : a ≠ [] := by rintro rfl; simp at hn
    obtain ⟨a', e, rfl⟩ : ∃ a' e, a = a' ++ [e] := ⟨a.dropLast, a.getLast hne, (List.dropLast_concat_getLast hne).symm⟩
    obtain ⟨x, y, rfl, hy⟩ := sim_last h
    rw [hF.move e y x hy]
    have h2 : Sim (a' ++ [e]) (x ++ y ++ [e]) := h.trans (sim_move e y x hy)
    have h3 := (sim_snoc a' (x ++ y) e).1 h2
    refine ih a' (x ++ y) (fun l => F (l ++ [e])) (by simpa using hn) h3 (fun p q u v huv => ?_)
    have := hF p (q ++ [e]) u v huv
    simpa using this

end Go.Proofs.YtljlaopjimkcmaaGreat

/-
  Plain data for layer 5: the levels of a row. Nothing of the translation.
-/
namespace Go.Proofs.YtljlaopjimkcmaaGreat

/-- The level of one event more. -/
def lvN (m : List (List Ev)) (e : Ev) : Nat := top (fun i => i + 1) (fun i => (m.getD i []).any fun x => dep x e) m.length
/-- By rising threads. -/
def insE (e : Ev) : List Ev → List Ev
  | [] => [e]
  | x :: r => if e.thread < x.thread then e :: x :: r else x :: insE e r
def putL (m : List (List Ev)) (n : Nat) (e : Ev) : List (List Ev) := if n < m.length then m.set n (insE e (m.getD n [])) else m ++ [[e]]
def addL (m : List (List Ev)) (e : Ev) : List (List Ev) := putL m (lvN m e) e
def lvls (l : List Ev) : List (List Ev) := l.foldl addL []

theorem lvls_snoc (l : List Ev) (e : Ev) : lvls (l ++ [e]) = addL (lvls l) e := by unfold lvls; rw [List.foldl_append]; rfl
theorem lvN_le (m : List (List Ev)) (e : Ev) : lvN m e ≤ m.length := top_le fun _ hi _ => hi
theorem lvN_ge {m : List (List Ev)} {e : Ev} {i : Nat} (hi : i < m.length) (h : ∃ x ∈ m.getD i [], dep x e = true) : i < lvN m e :=
  top_ge (f := fun i => i + 1) (q := fun i => (m.getD i []).any fun x => dep x e) hi (List.any_eq_true.2 h)
theorem lvN_some {m : List (List Ev)} {e : Ev} {i : Nat} (h : lvN m e = i + 1) : ∃ x ∈ m.getD i [], dep x e = true := by
  rcases top_zero_or (f := fun i => i + 1) (q := fun i => (m.getD i []).any fun x => dep x e) (n := m.length) with h0 | ⟨j, _, hq, hj⟩
  · have h1 : lvN m e = 0 := h0
    omega
  · have h1 : lvN m e = j + 1 := hj
    obtain rfl : i = j := by omega
    exact List.any_eq_true.1 hq
/-- Nothing from its level on depends on it. -/
theorem lvN_free {m : List (List Ev)} {e : Ev} {i : Nat} (hi : lvN m e ≤ i) {x : Ev} (hx : x ∈ m.getD i []) : dep x e = false := by
  cases hd : dep x e
  · rfl
  · exfalso
    by_cases hl : i < m.length
    · have := lvN_ge hl ⟨x, hx, hd⟩
      omega
    · simp [List.getD, List.getElem?_eq_none (Nat.le_of_not_lt hl)] at hx

theorem top_congr {f : Nat → Nat} {q r : Nat → Bool} {n : Nat} (h : ∀ i, i < n → q i = r i) : top f q n = top f r n := by
  induction n with
  | zero => rfl
  | succ n ih => rw [top_succ, top_succ, ih (fun i hi => h i (by omega)), h n (by omega)]

theorem mem_insE {e x : Ev} {r : List Ev} : x ∈ insE e r ↔ x = e ∨ x ∈ r := by
  induction r with
  | nil => simp [insE]
  | cons y r ih =>
    unfold insE
    split
    · simp
    · rw [List.mem_cons, ih, List.mem_cons]
      constructor
      · rintro (h | h | h) <;> simp [h]
      · rintro (h | h | h) <;> simp [h]
theorem insE_length (e : Ev) (r : List Ev) : (insE e r).length = r.length + 1 := by
  induction r with
  | nil => rfl
  | cons y r ih =>
    unfold insE
    split
    · rfl
    · rw [List.length_cons, ih, List.length_cons]
theorem insE_split (e : Ev) (r : List Ev) : ∃ r1 r2, r = r1 ++ r2 ∧ insE e r = r1 ++ e :: r2 := by
  induction r with
  | nil => exact ⟨[], [], rfl, rfl⟩
  | cons y r ih =>
    unfold insE
    split
    · exact ⟨[], y :: r, rfl, rfl⟩
    · obtain ⟨r1, r2, h1, h2⟩ := ih
      exact ⟨y :: r1, r2, by rw [h1]; rfl, by rw [h2]; rfl⟩
theorem insE_cons_lt {e x : Ev} (r : List Ev) (h : e.thread < x.thread) : insE e (x :: r) = e :: x :: r := by rw [insE, if_pos h]
theorem insE_cons_ge {e x : Ev} (r : List Ev) (h : ¬ e.thread < x.thread) : insE e (x :: r) = x :: insE e r := by rw [insE, if_neg h]
theorem insE_comm {e f : Ev} (h : e.thread ≠ f.thread) (r : List Ev) : insE e (insE f r) = insE f (insE e r) := by
  induction r with
  | nil =>
    rcases (by omega : e.thread < f.thread ∨ f.thread < e.thread) with hl | hl
    · have : ¬ f.thread < e.thread := by omega
      simp [insE, hl, this]
    · have : ¬ e.thread < f.thread := by omega
      simp [insE, hl, this]
  | cons x r ih =>
    by_cases he : e.thread < x.thread
    · by_cases hf : f.thread < x.thread
      · rw [insE_cons_lt r he, insE_cons_lt r hf]
        rcases (by omega : e.thread < f.thread ∨ f.thread < e.thread) with hl | hl
        · rw [insE_cons_lt _ hl, insE_cons_ge _ (by omega), insE_cons_lt r hf]
        · rw [insE_cons_ge _ (by omega), insE_cons_lt r he, insE_cons_lt _ hl]
      · rw [insE_cons_lt r he, insE_cons_ge r hf, insE_cons_lt _ he, insE_cons_ge _ (by omega), insE_cons_ge r hf]
    · by_cases hf : f.thread < x.thread
      · rw [insE_cons_ge r he, insE_cons_lt r hf, insE_cons_lt _ hf, insE_cons_ge _ (by omega), insE_cons_ge r he]
      · rw [insE_cons_ge r he, insE_cons_ge r hf, insE_cons_ge _ he, insE_cons_ge _ hf, ih]

theorem putL_length (m : List (List Ev)) (n : Nat) (e : Ev) : (putL m n e).length = if n < m.length then m.length else m.length + 1 := by
  unfold putL
  split <;> simp
theorem lvN_put {m : List (List Ev)} {n : Nat} {e f : Ev} (hd : dep e f = false) : lvN (putL m n e) f = lvN m f := by
  unfold lvN
  rw [putL_length]
  by_cases h : n < m.length
  · rw [if_pos h]
    refine top_congr fun i hi => ?_
    have e1 : (putL m n e).getD i [] = if i = n then insE e (m.getD n []) else m.getD i [] := by
      unfold putL
      rw [if_pos h, getD_set _ _ _ _ _ h]
    rw [e1]
    split
    · rename_i hin
      subst hin
      rw [Bool.eq_iff_iff, List.any_eq_true, List.any_eq_true]
      constructor
      · rintro ⟨x, hx, h2⟩
        rcases mem_insE.1 hx with rfl | hx
        · rw [hd] at h2; cases h2
        · exact ⟨x, hx, h2⟩
      · rintro ⟨x, hx, h2⟩
        exact ⟨x, mem_insE.2 (.inr hx), h2⟩
    · rfl
  · rw [if_neg h, top_succ]
    have e1 : putL m n e = m ++ [[e]] := by unfold putL; rw [if_neg h]
    rw [e1, if_neg]
    · refine top_congr fun i hi => ?_
      simp [List.getD, List.getElem?_append_left hi]
    · simp [List.getD, hd]

theorem putL_comm {m : List (List Ev)} {n k : Nat} {e f : Ev} (hn : n ≤ m.length) (hk : k ≤ m.length) (h : e.thread ≠ f.thread) : putL (putL m n e) k f = putL (putL m k f) n e := by
  by_cases h1 : n < m.length
  · by_cases h2 : k < m.length
    · have e1 : putL m n e = m.set n (insE e (m.getD n [])) := by unfold putL; rw [if_pos h1]
      have e2 : putL m k f = m.set k (insE f (m.getD k [])) := by unfold putL; rw [if_pos h2]
      rw [e1, e2]
      unfold putL
      rw [if_pos (by simpa using h2), if_pos (by simpa using h1), getD_set _ _ _ _ _ h1, getD_set _ _ _ _ _ h2]
      by_cases hnk : n = k
      · subst hnk
        rw [if_pos rfl, if_pos rfl, List.set_set, List.set_set, insE_comm h]
      · rw [if_neg (fun e => hnk e.symm), if_neg hnk, List.set_comm _ _ hnk]
    · have e1 : putL m n e = m.set n (insE e (m.getD n [])) := by unfold putL; rw [if_pos h1]
      have e2 : putL m k f = m ++ [[f]] := by unfold putL; rw [if_neg h2]
      rw [e1, e2]
      unfold putL
      rw [if_neg (by simpa using h2), if_pos (by simp; omega), List.set_append_left _ _ h1]
      simp [List.getD, List.getElem?_append_left h1]
  · by_cases h2 : k < m.length
    · have e1 : putL m n e = m ++ [[e]] := by unfold putL; rw [if_neg h1]
      have e2 : putL m k f = m.set k (insE f (m.getD k [])) := by unfold putL; rw [if_pos h2]
      rw [e1, e2]
      unfold putL
      rw [if_pos (by simp; omega), if_neg (by simpa using h1), List.set_append_left _ _ h2]
      simp [List.getD, List.getElem?_append_left h2]
    · obtain rfl : n = m.length := by omega
      obtain rfl : k = m.length := by omega
      have e1 : putL m m.length e = m ++ [[e]] := by unfold putL; rw [if_neg h1]
      have e2 : putL m m.length f = m ++ [[f]] := by unfold putL; rw [if_neg h1]
      rw [e1, e2]
      unfold putL
      rw [if_pos (by simp), if_pos (by simp), List.set_append_right _ _ (Nat.le_refl _), List.set_append_right _ _ (Nat.le_refl _)]
      have hc := insE_comm (Ne.symm h) []
      simp only [insE] at hc
      simp [List.getD, insE, hc]

/-- The levels stay whatever such neighbours are swapped. -/
theorem lvls_blind : Blind lvls := by
  intro x y e f hd
  have hd' : dep f e = false := by rw [dep_symm]; exact hd
  have hne : e.thread ≠ f.thread := by
    intro h
    rw [dep_thread h] at hd
    cases hd
  unfold lvls
  rw [List.foldl_append, List.foldl_append, List.foldl_cons, List.foldl_cons, List.foldl_cons, List.foldl_cons]
  congr 1
  generalize x.foldl addL [] = m
  have e1 : addL (addL m e) f = putL (putL m (lvN m e) e) (lvN m f) f := by
    show putL (addL m e) (lvN (addL m e) f) f = _
    have : lvN (addL m e) f = lvN m f := lvN_put hd
    rw [this]
    rfl
  have e2 : addL (addL m f) e = putL (putL m (lvN m f) f) (lvN m e) e := by
    show putL (addL m f) (lvN (addL m f) e) e = _
    have : lvN (addL m f) e = lvN m e := lvN_put hd'
    rw [this]
    rfl
  rw [e1, e2]
  exact putL_comm (lvN_le m e) (lvN_le m f) hne

/-- One event more, level by level. -/
theorem sim_put (m : List (List Ev)) (e : Ev) : Sim (addL m e).flatten (m.flatten ++ [e]) := by
  unfold addL putL
  by_cases h : lvN m e < m.length
  · rw [if_pos h]
    have hfree : ∀ i, lvN m e ≤ i → ∀ x ∈ m.getD i [], dep e x = false := fun i hi x hx => by rw [dep_symm]; exact lvN_free hi hx
    generalize lvN m e = n at *
    have hm : m = m.take n ++ m.getD n [] :: m.drop (n + 1) := by
      conv => lhs; rw [← List.take_append_drop n m, List.drop_eq_getElem_cons h]
      rw [getD_lt _ h]
    have hs : m.set n (insE e (m.getD n [])) = m.take n ++ insE e (m.getD n []) :: m.drop (n + 1) := by
      rw [List.set_eq_take_append_cons_drop, if_pos h]
    obtain ⟨r1, r2, hr, hi⟩ := insE_split e (m.getD n [])
    have hy : ∀ f ∈ r2 ++ (m.drop (n + 1)).flatten, dep e f = false := by
      intro f hf
      rcases List.mem_append.1 hf with hf | hf
      · exact hfree n (Nat.le_refl _) f (by rw [hr]; exact List.mem_append_right _ hf)
      · obtain ⟨row, hrow, hfr⟩ := List.mem_flatten.1 hf
        obtain ⟨j, hj, hje⟩ := List.mem_iff_getElem.1 hrow
        rw [List.length_drop] at hj
        rw [List.getElem_drop] at hje
        refine hfree (n + 1 + j) (by omega) f ?_
        rw [getD_lt _ (by omega), hje]
        exact hfr
    have h1 := sim_move e (r2 ++ (m.drop (n + 1)).flatten) ((m.take n).flatten ++ r1) hy
    have e1 : (m.set n (insE e (m.getD n []))).flatten = (m.take n).flatten ++ r1 ++ e :: (r2 ++ (m.drop (n + 1)).flatten) := by
      rw [hs, hi]
      simp
    have e2 : m.flatten = (m.take n).flatten ++ r1 ++ (r2 ++ (m.drop (n + 1)).flatten) := by
      conv => lhs; rw [hm]
      rw [List.flatten_append, List.flatten_cons, hr]
      simp
    rw [e1, e2]
    exact h1
  · rw [if_neg h, List.flatten_append]
    exact Sim.refl _

/-- P5.2: the row of a row's levels is the same as it. -/
theorem sim_row (l : List Ev) : Sim (lvls l).flatten l := by
  have : ∀ n (l : List Ev), l.length = n → Sim (lvls l).flatten l := by
    intro n
    induction n with
    | zero =>
      intro l hl
      obtain rfl := List.eq_nil_of_length_eq_zero hl
      exact Sim.refl _
    | succ n ih =>
      intro l hl
      have hne : l ≠ [] := by rintro rfl; simp at hl
      obtain ⟨l', e, rfl⟩ : ∃ l' e, l = l' ++ [e] := ⟨l.dropLast, l.getLast hne, (List.dropLast_concat_getLast hne).symm⟩
      rw [lvls_snoc]
      exact (sim_put _ e).trans ((sim_snoc _ _ e).2 (ih l' (by simpa using hl)))
  exact this _ l rfl

/-- P5.2: two rows are the same just if their levels are. -/
theorem lvls_iff (a b : List Ev) : lvls a = lvls b ↔ Sim a b := by
  constructor
  · intro h
    have h1 := sim_row a
    rw [h] at h1
    exact h1.symm.trans (sim_row b)
  · intro h
    exact sim_fun _ a b lvls rfl h lvls_blind

end Go.Proofs.YtljlaopjimkcmaaGreat

/-
  Plain data for layer 5: levels are apart from one another; one event more. Nothing of the translation.
-/
namespace Go.Proofs.YtljlaopjimkcmaaGreat

/-- Levels as they may be: none is empty, by rising threads, apart, each on the one ahead. -/
structure LvOk (m : List (List Ev)) : Prop where
  full : ∀ i, i < m.length → m.getD i [] ≠ []
  apart : ∀ i, i < m.length → (m.getD i []).Pairwise fun a b => dep a b = false
  rise : ∀ i, i < m.length → (m.getD i []).Pairwise fun a b => a.thread < b.thread
  on : ∀ i, i + 1 < m.length → ∀ e ∈ m.getD (i + 1) [], ∃ x ∈ m.getD i [], dep x e = true

theorem insE_pairwise {R : Ev → Ev → Prop} {e : Ev} {r : List Ev} (h : r.Pairwise R) (h1 : ∀ x ∈ r, R x e) (h2 : ∀ x ∈ r, R e x) : (insE e r).Pairwise R := by
  induction r with
  | nil => simp [insE]
  | cons y r ih =>
    rw [List.pairwise_cons] at h
    unfold insE
    split
    · rw [List.pairwise_cons, List.pairwise_cons]
      exact ⟨h2, h⟩
    · rw [List.pairwise_cons]
      refine ⟨fun x hx => ?_, ih h.2 (fun x hx => h1 x (by simp [hx])) (fun x hx => h2 x (by simp [hx]))⟩
      rcases mem_insE.1 hx with rfl | hx
      · exact h1 y (by simp)
      · exact h.1 x hx
theorem insE_rise {e : Ev} {r : List Ev} (h : r.Pairwise fun a b => a.thread < b.thread) (h1 : ∀ x ∈ r, x.thread ≠ e.thread) : (insE e r).Pairwise fun a b => a.thread < b.thread := by
  induction r with
  | nil => simp [insE]
  | cons y r ih =>
    have hy := h1 y (by simp)
    have hc := h
    rw [List.pairwise_cons] at h
    unfold insE
    split
    · rename_i hlt
      rw [List.pairwise_cons]
      refine ⟨fun x hx => ?_, hc⟩
      rcases List.mem_cons.1 hx with rfl | hx
      · exact hlt
      · have := h.1 x hx
        omega
    · rw [List.pairwise_cons]
      refine ⟨fun x hx => ?_, ih h.2 (fun x hx => h1 x (by simp [hx]))⟩
      rcases mem_insE.1 hx with rfl | hx
      · omega
      · exact h.1 x hx

theorem addL_get {m : List (List Ev)} {e : Ev} (i : Nat) : (addL m e).getD i [] = if i = lvN m e then insE e (m.getD i []) else m.getD i [] := by
  unfold addL putL
  by_cases h : lvN m e < m.length
  · rw [if_pos h, getD_set _ _ _ _ _ h]
    split
    · rename_i hi; rw [hi]
    · rfl
  · have hn : lvN m e = m.length := by have := lvN_le m e; omega
    rw [if_neg h, hn]
    by_cases hi : i = m.length
    · subst hi
      rw [if_pos rfl]
      simp [List.getD, insE]
    · rw [if_neg hi]
      rcases Nat.lt_or_gt_of_ne hi with hlt | hgt
      · simp [List.getD, List.getElem?_append_left hlt]
      · simp [List.getD, List.getElem?_append_right (Nat.le_of_lt hgt), List.getElem?_eq_none (Nat.le_of_lt hgt), show i - m.length ≠ 0 by omega]
theorem addL_length (m : List (List Ev)) (e : Ev) : (addL m e).length = if lvN m e < m.length then m.length else m.length + 1 := putL_length m _ e
theorem insE_ne (e : Ev) (r : List Ev) : insE e r ≠ [] := by
  intro h
  have := insE_length e r
  rw [h] at this
  simp at this

theorem LvOk.add {m : List (List Ev)} (h : LvOk m) (e : Ev) : LvOk (addL m e) := by
  have hle := lvN_le m e
  have hlen := addL_length m e
  have hin : ∀ i, i < (addL m e).length → i ≠ lvN m e → i < m.length := by
    intro i hi hne
    rw [hlen] at hi
    split at hi <;> omega
  have hmem : ∀ x ∈ m.getD (lvN m e) [], dep x e = false ∧ dep e x = false ∧ x.thread ≠ e.thread := by
    intro x hx
    have h1 := lvN_free (Nat.le_refl _) hx
    refine ⟨h1, by rw [dep_symm]; exact h1, fun ht => ?_⟩
    rw [dep_thread ht] at h1
    cases h1
  have hold : ∀ (R : Ev → Ev → Prop), (∀ i, i < m.length → (m.getD i []).Pairwise R) → (m.getD (lvN m e) []).Pairwise R := by
    intro R hR
    by_cases hl : lvN m e < m.length
    · exact hR _ hl
    · have : m.getD (lvN m e) [] = [] := by simp [List.getD, List.getElem?_eq_none (Nat.le_of_not_lt hl)]
      rw [this]
      exact List.Pairwise.nil
  refine ⟨fun i hi => ?_, fun i hi => ?_, fun i hi => ?_, fun i hi x hx => ?_⟩
  · rw [addL_get]
    split
    · exact insE_ne _ _
    · rename_i hne; exact h.full i (hin i hi hne)
  · rw [addL_get]
    split
    · rename_i he
      subst he
      exact insE_pairwise (hold _ h.apart) (fun x hx => (hmem x hx).1) (fun x hx => (hmem x hx).2.1)
    · rename_i hne; exact h.apart i (hin i hi hne)
  · rw [addL_get]
    split
    · rename_i he
      subst he
      exact insE_rise (hold _ h.rise) (fun x hx => (hmem x hx).2.2)
    · rename_i hne; exact h.rise i (hin i hi hne)
  · have hsup : ∀ y ∈ m.getD i [], y ∈ (addL m e).getD i [] := by
      intro y hy
      rw [addL_get]
      split
      · exact mem_insE.2 (.inr hy)
      · exact hy
    rw [addL_get] at hx
    split at hx
    · rename_i he
      rcases mem_insE.1 hx with rfl | hx
      · obtain ⟨y, hy, hd⟩ := lvN_some he.symm
        exact ⟨y, hsup y hy, hd⟩
      · have hl : i + 1 < m.length := by
          apply Classical.byContradiction
          intro hn
          simp [List.getD, List.getElem?_eq_none (Nat.le_of_not_lt hn)] at hx
        obtain ⟨y, hy, hd⟩ := h.on i hl x hx
        exact ⟨y, hsup y hy, hd⟩
    · rename_i hne
      obtain ⟨y, hy, hd⟩ := h.on i (hin _ hi hne) x hx
      exact ⟨y, hsup y hy, hd⟩

theorem lvls_ok (l : List Ev) : LvOk (lvls l) := by
  have : ∀ (y : List Ev) (m : List (List Ev)), LvOk m → LvOk (y.foldl addL m) := by
    intro y
    induction y with
    | nil => intro m h; exact h
    | cons e y ih => intro m h; exact ih _ (h.add e)
  exact this l [] ⟨fun i hi => by simp at hi, fun i hi => by simp at hi, fun i hi => by simp at hi, fun i hi => by simp at hi⟩

theorem flatten_add (m : List (List Ev)) (e : Ev) : (addL m e).flatten.length = m.flatten.length + 1 := by
  unfold addL putL
  by_cases h : lvN m e < m.length
  · rw [if_pos h]
    generalize lvN m e = n at *
    have hm : m = m.take n ++ m.getD n [] :: m.drop (n + 1) := by
      conv => lhs; rw [← List.take_append_drop n m, List.drop_eq_getElem_cons h]
      rw [getD_lt _ h]
    rw [List.set_eq_take_append_cons_drop, if_pos h]
    conv => rhs; rw [hm]
    simp only [List.flatten_append, List.flatten_cons, List.length_append, insE_length]
    omega
  · rw [if_neg h]
    simp
theorem lvls_count (l : List Ev) : (lvls l).flatten.length = l.length := by
  have : ∀ (y : List Ev) (m : List (List Ev)), (y.foldl addL m).flatten.length = m.flatten.length + y.length := by
    intro y
    induction y with
    | nil => intro m; simp
    | cons e y ih => intro m; rw [List.foldl_cons, ih, flatten_add, List.length_cons]; omega
  have h := this l []
  rw [List.flatten_nil, List.length_nil, Nat.zero_add] at h
  exact h
theorem mem_lvls {l : List Ev} {e : Ev} (h : e ∈ (lvls l).flatten) : e ∈ l := by
  have : ∀ (y : List Ev) (m : List (List Ev)), e ∈ (y.foldl addL m).flatten → e ∈ m.flatten ∨ e ∈ y := by
    intro y
    induction y with
    | nil => intro m h; exact .inl h
    | cons f y ih =>
      intro m h
      rcases ih _ h with h | h
      · obtain ⟨row, hrow, her⟩ := List.mem_flatten.1 h
        obtain ⟨i, hi, hie⟩ := List.mem_iff_getElem.1 hrow
        have hg : (addL m f).getD i [] = row := by rw [getD_lt _ hi, hie]
        rw [addL_get] at hg
        split at hg
        · rw [← hg] at her
          rcases mem_insE.1 her with rfl | her
          · exact .inr (by simp)
          · refine .inl (List.mem_flatten.2 ?_)
            by_cases hl : i < m.length
            · rw [getD_lt _ hl] at her
              exact ⟨_, List.getElem_mem hl, her⟩
            · simp [List.getD, List.getElem?_eq_none (Nat.le_of_not_lt hl)] at her
        · rw [← hg] at her
          refine .inl (List.mem_flatten.2 ?_)
          by_cases hl : i < m.length
          · rw [getD_lt _ hl] at her
            exact ⟨_, List.getElem_mem hl, her⟩
          · simp [List.getD, List.getElem?_eq_none (Nat.le_of_not_lt hl)] at her
      · exact .inr (by simp [h])
  rcases this l [] h with h | h
  · simp at h
  · exact h

end Go.Proofs.YtljlaopjimkcmaaGreat

/- The contract of foata's byThread: an event put into a level. -/
namespace Go.Proofs.YtljlaopjimkcmaaGreat
open Go.RowKit

theorem insE_at {e : Ev} : ∀ (es : List Ev) (k : Nat), k ≤ es.length → (∀ j (h : j < es.length), j < k → es[j].thread < e.thread) → (∀ h : k < es.length, e.thread < es[k].thread) → insE e es = insAt es k e
  | [], 0, _, _, _ => rfl
  | x :: r, 0, _, _, h => by
    have h1 := h (by simp)
    rw [insE_cons_lt r (by simpa using h1)]
    rfl
  | x :: r, k + 1, hk, ha, h => by
    have h0 := ha 0 (by simp) (by omega)
    rw [insE_cons_ge r (by simp at h0; omega), insE_at r k (by simpa using hk) (fun j hj hjk => by have := ha (j + 1) (by simpa using hj) (by omega); simpa using this) (fun hk' => by have := h (by simpa using hk'); simpa using this)]
    rfl

/-- What putting into a level answers. -/
def LayR (B : Nat) (w : World) (v : Value) (es : List Ev) (r : Ending) (w' : World) : Prop :=
  ∃ v', r = .returned v' ∧ OwnE w' B v' es ∧ Below B w w' ∧ w.grownBy w' v.ownBlock ∧ (∀ g, v'.ownBlock = some g → v.ownBlock = some g ∨ w.heap.size ≤ g)

theorem grown_below {w w' : World} (h : Below w.heap.size w w') (row : Option Nat) : w.grownBy w' row := ⟨h.os, h.tape, h.output, h.size, fun k hk _ => h.block k hk⟩

theorem LayR.from {B : Nat} {w W1 w' : World} {v : Value} {es : List Ev} {r : Ending} (h : LayR B W1 v es r w') (hb : Below w.heap.size w W1) (hB : B ≤ w.heap.size) : LayR B w v es r w' := by
  obtain ⟨v', h1, h2, h3, h4, h5⟩ := h
  exact ⟨v', h1, h2, (hb.mono hB).trans h3, (grown_below hb _).trans h4, fun g hg => (h5 g hg).imp id (fun h => Nat.le_trans hb.size h)⟩
theorem insert_new (B : Nat) (v : Value) (k : Nat) (es : List Ev) (e : Ev) (w : World) (hk : k ≤ es.length) (hm : es.length ≤ 1000) (hB : B ≤ w.heap.size) (hown : OwnE w B v es) :
    Calls Tryz.prog 82 #[v, .int .i64 k, .slice (some ⟨w.heap.size, 0, none⟩) 1 1] (w.alloc (.cells #[.int .i64 e.thread, .int .i64 e.kind, .int .i64 e.obj, .bool e.fail] 51)) (LayR B w v (insAt es k e)) := by
  have hb := below_alloc1 w (.cells #[.int .i64 e.thread, .int .i64 e.kind, .int .i64 e.obj, .bool e.fail] 51)
  refine (insert_any B v k w.heap.size es e _ _ _ hk hm (Nat.le_trans hB hb.size) (hown.later hb) (heap_alloc_new w _) (fun j u hj => by simpa [evCell] using hj) (fun e => by have := (World.ownsRow.lt hown _ e).2; omega)).mono ?_
  rintro r w' ⟨v', h1, h2, h3, h4, h5⟩
  refine LayR.from ⟨v', h1, h2, h3, h4, fun g hg => ?_⟩ hb hB
  rcases h5 with h5 | h5
  · left; rw [← h5]; exact hg
  · right; rw [h5] at hg; injection hg with hg; omega

set_option maxHeartbeats 4000000 in
set_option maxRecDepth 100000 in
theorem lay_any (B : Nat) (v : Value) (es : List Ev) (e : Ev) (w : World) (hB : B ≤ w.heap.size) (hm : es.length ≤ 1000) (hown : OwnE w B v es) (hne : ∀ x ∈ es, x.thread ≠ e.thread) :
    Calls Tryz.prog 60 #[v, .agg #[.int .i64 e.thread, .int .i64 e.kind, .int .i64 e.obj, .bool e.fail]] w (LayR B w v (insE e es)) := by
  obtain ⟨a, cap, rfl, hev⟩ := OwnE.form hown (by omega)
  have HO := Lib.hid hown
  have HE := Lib.hid hev
  have HN := Lib.hid hne
  clear hown hev hne
  have HBX := Lib.hid (EvBox.new w e)
  have hb0 := below_alloc1 w (.cells #[.int .i64 e.thread, .int .i64 e.kind, .int .i64 e.obj, .bool e.fail] 51)
  go_enter Tryz.func60, Tryz.ntmps60
  go_wp2_with fail
  generalize w.alloc (.cells #[.int .i64 e.thread, .int .i64 e.kind, .int .i64 e.obj, .bool e.fail] 51) = W0 at *
  go_loopw [5] (fun i wr => ∃ k : Nat, k ≤ es.length ∧ i = .int .i64 k ∧ Hid (∀ j (h : j < es.length), j < k → es[j].thread < e.thread) ∧ Hid (Below W0.heap.size W0 wr)) (fun i _ => es.length - (intOf i).toNat)
  case atStart => exact ⟨0, Nat.zero_le _, rfl, (fun j _ h => absurd h (by omega)), Below.refl _ _⟩
  case round =>
    obtain ⟨k, hk, rfl, HA, HB⟩ := hrel
    by_cases hlt : k < es.length
    · obtain ⟨b, o, rfl, t0, t1, t2, t3⟩ := HE.out.one hlt
      have hbx := hb0.trans (HB.out.mono hb0.size)
      have d0 := cell_later hbx t0
      obtain ⟨c0, c1, c2, c3⟩ := (HBX.out.later HB.out).cells
      have HX := Lib.hid hbx
      clear t0 t1 t2 t3 hbx
      have hkl : decide ((k : Int) < (es.length : Int)) = true := by simp; omega
      have hki : (k : Int) < (es.length : Int) := by omega
      have hki0 : (0 : Int) ≤ k := by omega
      by_cases hth : (evI es k).thread < e.thread
      · have hq : decide ((evI es k).thread < e.thread) = true := by simp; omega
        have HA2 : Hid (∀ j (h : j < es.length), j < k + 1 → es[j].thread < e.thread) := fun j h hj => by
          by_cases e' : j = k
          · subst e'
            rw [← evI_get h]
            exact hth
          · exact HA.out j h (by omega)
        go_wp2_with fail
        go_quiet (fail)
        go_wp2
        go_roundw
        case rel => exact ⟨k + 1, by omega, by go_num, HA2, HB.out.drewN⟩
        case measure => simp [intOf]; omega
      · have hq : decide ((evI es k).thread < e.thread) = false := by simp; omega
        have HI : Hid (insE e es = insAt es k e) := insE_at es k hk HA.out (fun h => by
          have h1 := HN.out es[k] (List.getElem_mem h)
          rw [evI_get h] at hth
          omega)
        have HC : Hid (∀ W, Below w.heap.size w W → Calls Tryz.prog 82 #[.slice (some ⟨b, o, none⟩) es.length cap, .int .i64 k, .slice (some ⟨W.heap.size, 0, none⟩) 1 1] (W.alloc (.cells #[.int .i64 e.thread, .int .i64 e.kind, .int .i64 e.obj, .bool e.fail] 51)) (LayR B w (.slice (some ⟨b, o, none⟩) es.length cap) (insE e es))) := fun W hW => by
          rw [HI.out]
          exact (insert_new B _ k es e W hk hm (Nat.le_trans hB hW.size) (HO.out.later hW)).mono fun r w' h => h.from hW hB
        go_wp2_with fail
        go_quiet (fail)
        go_wp2_with fail
        refine (HC.out _ HX.out.drewN).mono ?_
        rintro r w' ⟨v', rfl, h2, h3, h4, h5⟩
        go_wp2
        go_ret
        exact ⟨v', rfl, h2, h3, h4, h5⟩
    · obtain rfl : k = es.length := by omega
      have hbx := hb0.trans (HB.out.mono hb0.size)
      obtain ⟨c0, c1, c2, c3⟩ := (HBX.out.later HB.out).cells
      have HX := Lib.hid hbx
      have hkl : decide ((es.length : Int) < (es.length : Int)) = false := by simp
      have HI : Hid (insE e es = insAt es es.length e) := insE_at es es.length hk HA.out (fun h => absurd h (by omega))
      have HC : Hid (∀ W, Below w.heap.size w W → Calls Tryz.prog 82 #[.slice a es.length cap, .int .i64 es.length, .slice (some ⟨W.heap.size, 0, none⟩) 1 1] (W.alloc (.cells #[.int .i64 e.thread, .int .i64 e.kind, .int .i64 e.obj, .bool e.fail] 51)) (LayR B w (.slice a es.length cap) (insE e es))) := fun W hW => by
        rw [HI.out]
        exact (insert_new B _ es.length es e W hk hm (Nat.le_trans hB hW.size) (HO.out.later hW)).mono fun r w' h => h.from hW hB
      clear hbx
      go_wp2_with fail
      go_quiet (fail)
      go_wp2_with fail
      refine (HC.out _ HX.out.drewN).mono ?_
      rintro r w' ⟨v', rfl, h2, h3, h4, h5⟩
      go_wp2
      go_ret
      exact ⟨v', rfl, h2, h3, h4, h5⟩

end Go.Proofs.YtljlaopjimkcmaaGreat

/- Levels in memory: a row of rows of events. -/
namespace Go.Proofs.YtljlaopjimkcmaaGreat
open Go.RowKit

/-- A slice. -/
structure Sl where
  a : Option Addr
  n : Nat
  c : Nat
instance : Inhabited Sl := ⟨⟨none, 0, 0⟩⟩
def slV (s : Sl) : Value := .slice s.a s.n s.c
def slCell (s : Sl) : List Value := [.slice s.a s.n s.c]
theorem slCell_len (s : Sl) : (slCell s).length = 1 := rfl
theorem slCell_one (s : Sl) : ∀ v ∈ slCell s, v.oneCell' = true := by
  intro v hv
  simp [slCell] at hv
  subst hv
  rfl

/-- Levels to be read. -/
def LvAt (w : World) (a : Option Addr) (m : List (List Ev)) : Prop :=
  ∃ ss : List Sl, ss.length = m.length ∧ RowAt w a 1 slCell ss ∧ ∀ i (h : i < ss.length), ss[i].n = (m.getD i []).length ∧ EvsAt w ss[i].a (m.getD i []) ∧ (ss[i].a = none → ss[i].c = 0) ∧ ss[i].n ≤ ss[i].c
theorem LvAt.later {w w' : World} {a : Option Addr} {m : List (List Ev)} (h : LvAt w a m) (hb : Below w.heap.size w w') : LvAt w' a m := by
  obtain ⟨ss, h1, h2, h3⟩ := h
  exact ⟨ss, h1, h2.later hb, fun i hi => ⟨(h3 i hi).1, (h3 i hi).2.1.later hb, (h3 i hi).2.2⟩⟩

/-- Levels of one's own. -/
structure OwnLv (w : World) (B : Nat) (v : Value) (ss : List Sl) (m : List (List Ev)) : Prop where
  len : ss.length = m.length
  outer : OwnRow w B 47 1 slCell v ss
  inner : ∀ i (h : i < ss.length), OwnE w B (slV ss[i]) (m.getD i [])
  apart : ∀ i j (hi : i < ss.length) (hj : j < ss.length), i ≠ j → (slV ss[i]).ownBlock = none ∨ (slV ss[i]).ownBlock ≠ (slV ss[j]).ownBlock
theorem OwnLv.later {w w' : World} {B : Nat} {v : Value} {ss : List Sl} {m : List (List Ev)} (h : OwnLv w B v ss m) (hb : Below w.heap.size w w') : OwnLv w' B v ss m :=
  ⟨h.len, h.outer.later hb, fun i hi => (h.inner i hi).later hb, h.apart⟩
theorem ownLv_nil (w : World) (B : Nat) : OwnLv w B (.slice none 0 0) [] [] := ⟨rfl, ownRow_nil _ _ _ _ _, fun i hi => absurd hi (by simp), fun i _ hi => absurd hi (by simp)⟩
theorem OwnE.sl {w : World} {B : Nat} {s : Sl} {es : List Ev} (h : OwnE w B (slV s) es) (hm : es.length ≤ 1000000) : s.n = es.length ∧ EvsAt w s.a es ∧ (s.a = none → s.c = 0) ∧ s.n ≤ s.c := by
  have h0 := h
  obtain ⟨a, cap, e, he⟩ := OwnE.form h hm
  unfold slV at e
  injection e with e1 e2 e3
  refine ⟨e2, by rw [e1]; exact he, fun hn => ?_, ?_⟩
  · obtain ⟨_, ⟨h2, _⟩ | ⟨g, cap', cur, h2, _⟩⟩ := h0
    · unfold slV at h2
      injection h2
    · unfold slV at h2
      injection h2 with h2
      rw [hn] at h2
      cases h2
  · obtain ⟨_, ⟨h2, _⟩ | ⟨g, cap', cur, h2, _, _, h5, _⟩⟩ := h0
    · unfold slV at h2
      injection h2 with _ h3 h4
      omega
    · unfold slV at h2
      injection h2 with _ h3 h4
      omega
theorem OwnLv.form {w : World} {B : Nat} {v : Value} {ss : List Sl} {m : List (List Ev)} (h : OwnLv w B v ss m) (hm : m.length ≤ 1000) (hi : ∀ i, i < m.length → (m.getD i []).length ≤ 1000) :
    ∃ a cap, v = .slice a m.length cap ∧ LvAt w a m ∧ (a = none → cap = 0) := by
  obtain ⟨a, cap, h1, h2, h3⟩ := OwnRow.form h.outer slCell_len (by rw [h.len]; omega)
  rw [h.len] at h1
  refine ⟨a, cap, h1, ⟨ss, h.len, h2, fun i hi' => ?_⟩, h3⟩
  exact OwnE.sl (h.inner i hi') (by have := hi i (by rw [← h.len]; exact hi'); omega)

end Go.Proofs.YtljlaopjimkcmaaGreat

/- append(.., row...) of events onto a row of the call's own. -/
namespace Go.Proofs.YtljlaopjimkcmaaGreat
open Go.RowKit

theorem EvsAt.cellAt {w : World} {b o : Nat} {es : List Ev} (h : EvsAt w (some ⟨b, o, none⟩) es) (j : Nat) (u : Value) (hj : (evCells es)[j]? = some u) : w.cell? (Addr.add ⟨b, o, none⟩ j) = some u := by
  have hjl : j < es.length * 4 := by
    have := (List.getElem?_eq_some_iff.1 hj).1
    rw [evCells_length] at this
    exact this
  obtain ⟨b', o', e, hc⟩ := h.2 (by rintro rfl; simp at hjl)
  injection e with e
  injection e with e1 e2
  subst e1 e2
  have hi : j / 4 < es.length := by omega
  have hg := evCells_get es (j / 4) (j % 4) hi (by omega)
  rw [show j / 4 * 4 + j % 4 = j by omega, hj] at hg
  have ha : Addr.add ⟨b, o, none⟩ j = ⟨b, o + j, none⟩ := by unfold Addr.add; split <;> simp_all
  rw [ha]
  obtain ⟨c0, c1, c2, c3⟩ := hc (j / 4) hi
  rcases (by omega : j % 4 = 0 ∨ j % 4 = 1 ∨ j % 4 = 2 ∨ j % 4 = 3) with hr | hr | hr | hr <;> rw [hr] at hg <;> simp [evCell] at hg <;> subst hg
  · rw [← c0]; congr 2; omega
  · rw [← c1]; congr 2; omega
  · rw [← c2]; congr 2; omega
  · rw [← c3]; congr 2; omega

theorem wp_copyE {w : World} {o : Oper} {a : Act} {K : Act → World → Prop} {Q : Exit → Act → World → Prop} (s x : Operand)
    (ho : o.op = .call { callee := .builtin .append, args := #[s, x], argTypes := #[47, 47] }) (B : Nat) (v : Value) (es : List Ev) (hs : a.eval s = v) (hown : OwnE w B v es)
    (ra : Option Addr) (rcap : Nat) (row : List Ev) (hx : a.eval x = .slice ra row.length rcap) (hrow : EvsAt w ra row) (hra : ra = none → rcap = 0 ∧ row = [])
    (hlen : es.length + row.length ≤ 1000000) (hB : B ≤ w.heap.size)
    (h : ∀ v' w', OwnE w' B v' (es ++ row) → Below B w w' → K (a.put o.dst v') w') : Oper.wp Tryz.prog o a w K Q := by
  have hinfo : (Tryz.prog.info? 51).map (fun i => (i.zero, i.size, i.bytes)) = some (some (.agg #[.int .i64 0, .int .i64 0, .int .i64 0, .bool false]), 4, 32) := by kernel_rfl
  obtain ⟨i, hi, hzz⟩ := Option.map_eq_some_iff.1 hinfo
  simp only [Prod.mk.injEq] at hzz
  obtain ⟨hz, hsz, hby⟩ := hzz
  cases ra with
  | none =>
    obtain ⟨rfl, rfl⟩ := hra rfl
    have hrun := run_append_owned_none (P := Tryz.prog) (w := w) B 47 o.type 51 i 4 Tryz.underlying47 hi v es.length (evCells es) hown
    have hK := h v w (by rw [List.append_nil]; exact hown) (Below.refl _ _)
    unfold Oper.wp
    simp [execOp, ho, resolve, invoke, builtin, hs, hx, hrun, Result.andThen]
    exact hK
  | some ad =>
    by_cases hne : row = []
    · subst hne
      refine wp_append_own w s x 47 ho B 51 i (.agg #[.int .i64 0, .int .i64 0, .int .i64 0, .bool false]) 4 32 Tryz.underlying47 hi hz hsz hby rfl (by decide) v es.length (evCells es) hs hown ad 0 rcap [] hx (by simp) (by simp) (by simp) (by unfold maxLen; omega) (by omega) hB ?_
      intro v' w' h1 h2 _
      refine h v' w' ?_ ((Below.refl B w).grown h2 hB (fun k hk => (World.ownsRow.lt hown k hk).1))
      unfold OwnE
      simpa using h1
    · obtain ⟨b, o', e, hc⟩ := hrow.2 hne
      injection e with e
      subst e
      refine wp_append_own w s x 47 ho B 51 i (.agg #[.int .i64 0, .int .i64 0, .int .i64 0, .bool false]) 4 32 Tryz.underlying47 hi hz hsz hby rfl (by decide) v es.length (evCells es) hs hown ⟨b, o', none⟩ row.length rcap (evCells row) hx (by rw [evCells_length]) (fun j u hj => hrow.cellAt j u hj)
        (evCells_one _) (by unfold maxLen; omega) (by omega) hB ?_
      intro v' w' h1 h2 _
      refine h v' w' ?_ ((Below.refl B w).grown h2 hB (fun k hk => (World.ownsRow.lt hown k hk).1))
      unfold OwnE
      rw [List.length_append, evCells_append]
      exact h1

/-- The same in a region whose order is drawn. -/
theorem step_copyE {w : World} {ops : Array Oper} {o : Oper} {a : Act} {K : Act → World → Prop} {Q : Exit → Act → World → Prop} {E : Prop} (hgd : o.guard = none) (s x : Operand)
    (ho : o.op = .call { callee := .builtin .append, args := #[s, x], argTypes := #[47, 47] }) (B : Nat) (v : Value) (es : List Ev) (hs : a.eval s = v) (hown : OwnE w B v es)
    (ra : Option Addr) (rcap : Nat) (row : List Ev) (hx : a.eval x = .slice ra row.length rcap) (hrow : EvsAt w ra row) (hra : ra = none → rcap = 0 ∧ row = [])
    (hlen : es.length + row.length ≤ 1000000) (hB : B ≤ w.heap.size)
    (h : ∀ v' w', OwnE w' B v' (es ++ row) → Below B w w' → K (a.put o.dst v') w') : if Region.wanted o (yielded ops a.tmps) = true then Oper.wp Tryz.prog o a w K Q else E := by
  have hw : Region.wanted o (yielded ops a.tmps) = true := by simp [Region.wanted, hgd]
  rw [if_pos hw]
  exact wp_copyE s x ho B v es hs hown ra rcap row hx hrow hra hlen hB h

theorem wpList_copyE {w : World} {ops : Array Oper} {rest : List Oper} {o : Oper} {a : Act} {Q : Exit → Act → World → Prop} (hgd : o.guard = none) (s x : Operand)
    (ho : o.op = .call { callee := .builtin .append, args := #[s, x], argTypes := #[47, 47] }) (B : Nat) (v : Value) (es : List Ev) (hs : a.eval s = v) (hown : OwnE w B v es)
    (ra : Option Addr) (rcap : Nat) (row : List Ev) (hx : a.eval x = .slice ra row.length rcap) (hrow : EvsAt w ra row) (hra : ra = none → rcap = 0 ∧ row = [])
    (hlen : es.length + row.length ≤ 1000000) (hB : B ≤ w.heap.size)
    (h : ∀ v' w', OwnE w' B v' (es ++ row) → Below B w w' → wpList Tryz.prog ops Q rest (a.put o.dst v') w') : wpList Tryz.prog ops Q (o :: rest) a w :=
  wpList_plain hgd fun _ hK => wp_copyE s x ho B v es hs hown ra rcap row hx hrow hra hlen hB fun v' w' h1 h2 => hK _ _ (h v' w' h1 h2)

theorem ownE_empty (w W : World) (h : W.heap = (w.alloc (.cells #[] 51)).heap) : OwnE W w.heap.size (.slice (some ⟨w.heap.size, 0, none⟩) 0 0) [] := by
  have h0 : (w.alloc (.cells #[] 51)).ownsRow w.heap.size 51 4 (.slice (some ⟨w.heap.size, 0, none⟩) 0 0) 0 [] := World.ownsRow_made w #[] 0 (Nat.le_refl _) (by simp [maxLen]) rfl
  obtain ⟨h1, h2 | ⟨g, cap, cur, h2, h3, h4, h5⟩⟩ := h0
  · exact ⟨h1, .inl h2⟩
  · exact ⟨h1, .inr ⟨g, cap, cur, h2, h3, by rw [h]; exact h4, h5⟩⟩

end Go.Proofs.YtljlaopjimkcmaaGreat

/- The contracts of slices.Grow of nothing, of slices.Concat, and of foata's Row. -/
namespace Go.Proofs.YtljlaopjimkcmaaGreat
open Go.RowKit

theorem LvAt.one {w : World} {a : Option Addr} {m : List (List Ev)} (h : LvAt w a m) {k : Nat} (hk : k < m.length) :
    ∃ b o sa sc, a = some ⟨b, o, none⟩ ∧ w.cell? ⟨b, o + k, none⟩ = some (.slice sa (m.getD k []).length sc) ∧ EvsAt w sa (m.getD k []) ∧ (sa = none → sc = 0) := by
  obtain ⟨ss, h1, h2, h3⟩ := h
  have hks : k < ss.length := by omega
  obtain ⟨b, o, rfl, hc⟩ := h2.2 (by intro e; simp [e] at hks)
  have h4 := hc k hks 0 _ rfl
  rw [Nat.mul_one, Nat.add_zero] at h4
  obtain ⟨h5, h6, h7, _⟩ := h3 k hks
  rw [h5] at h4
  exact ⟨b, o, _, _, rfl, h4, h6, h7⟩
/-- The same, with its room. -/
theorem LvAt.room {w : World} {a : Option Addr} {m : List (List Ev)} (h : LvAt w a m) {k : Nat} (hk : k < m.length) :
    ∃ b o sa sc, a = some ⟨b, o, none⟩ ∧ w.cell? ⟨b, o + k, none⟩ = some (.slice sa (m.getD k []).length sc) ∧ EvsAt w sa (m.getD k []) ∧ (m.getD k []).length ≤ sc := by
  obtain ⟨ss, h1, h2, h3⟩ := h
  have hks : k < ss.length := by omega
  obtain ⟨b, o, rfl, hc⟩ := h2.2 (by intro e; simp [e] at hks)
  have h4 := hc k hks 0 _ rfl
  rw [Nat.mul_one, Nat.add_zero] at h4
  obtain ⟨h5, h6, _, h8⟩ := h3 k hks
  rw [h5] at h4 h8
  exact ⟨b, o, _, _, rfl, h4, h6, h8⟩
theorem evsAt_none {w : World} {l : List Ev} (h : EvsAt w none l) : l = [] := by
  apply Classical.byContradiction
  intro hn
  obtain ⟨b, o, e, _⟩ := h.2 hn
  cases e
theorem flat_take (m : List (List Ev)) {k : Nat} (hk : k < m.length) : (m.take (k + 1)).flatten = (m.take k).flatten ++ m.getD k [] := by
  rw [List.take_add_one, List.getElem?_eq_getElem hk, List.flatten_append, getD_lt _ hk]
  simp
theorem flat_le (m : List (List Ev)) (k : Nat) : (m.take k).flatten.length ≤ m.flatten.length := by
  conv => rhs; rw [← List.take_append_drop k m]
  rw [List.flatten_append, List.length_append]
  omega

end Go.Proofs.YtljlaopjimkcmaaGreat

/- The contracts of slices.Concat, and of foata's Row. -/
namespace Go.Proofs.YtljlaopjimkcmaaGreat
open Go.RowKit

theorem ownsRow_base {w : World} {B B' : Nat} {t : TypeId} {n m : Nat} {v : Value} {xs : List Value} (h : w.ownsRow B t n v m xs) (hB : B' ≤ B) : w.ownsRow B' t n v m xs := by
  obtain ⟨h1, h2 | ⟨g, cap, cur, h2, h3, h4⟩⟩ := h
  · exact ⟨h1, .inl h2⟩
  · exact ⟨h1, .inr ⟨g, cap, cur, h2, Nat.le_trans hB h3, h4⟩⟩

def RowR (w : World) (l : List Ev) (r : Ending) (w' : World) : Prop := ∃ v, r = .returned v ∧ OwnE w' w.heap.size v l ∧ Below w.heap.size w w'

end Go.Proofs.YtljlaopjimkcmaaGreat

/- What the walk may change in memory; a row that is appended to where it lies, and read as it was. -/
namespace Go.Proofs.YtljlaopjimkcmaaGreat
open Go.RowKit

/-- All but the blocks of S is as it was. -/
structure OnlyS (S : Nat → Prop) (w w' : World) : Prop where
  os : w'.os = w.os
  tape : w'.tape = w.tape
  output : w'.output = w.output
  size : w.heap.size ≤ w'.heap.size
  block : ∀ k, k < w.heap.size → ¬ S k → w'.heap[k]? = w.heap[k]?
theorem OnlyS.refl (S : Nat → Prop) (w : World) : OnlyS S w w := ⟨rfl, rfl, rfl, Nat.le_refl _, fun _ _ _ => rfl⟩
theorem OnlyS.trans {S : Nat → Prop} {u v w : World} (h : OnlyS S u v) (k : OnlyS S v w) : OnlyS S u w :=
  ⟨k.os.trans h.os, k.tape.trans h.tape, k.output.trans h.output, Nat.le_trans h.size k.size, fun i hi hs => (k.block i (Nat.lt_of_lt_of_le hi h.size) hs).trans (h.block i hi hs)⟩
theorem OnlyS.of_below {S : Nat → Prop} {w w' : World} (h : Below w.heap.size w w') : OnlyS S w w' := ⟨h.os, h.tape, h.output, h.size, fun k hk _ => h.block k hk⟩
theorem OnlyS.of_only {S : Nat → Prop} {b : Nat} {w w' : World} (h : Only b w w') (hb : S b) : OnlyS S w w' := ⟨h.os, h.tape, h.output, h.size, fun k hk hs => h.block k hk (fun e => hs (by rw [e]; exact hb))⟩
theorem OnlyS.drew {S : Nat → Prop} {w w' : World} (h : OnlyS S w w') : OnlyS S w w'.drew := ⟨h.os, h.tape, h.output, h.size, h.block⟩
theorem OnlyS.drewN {S : Nat → Prop} {w w' : World} (h : OnlyS S w w') (n : Nat) : OnlyS S w (w'.drewN n) := ⟨h.os, h.tape, h.output, h.size, h.block⟩
theorem OnlyS.alloc {S : Nat → Prop} {w w' : World} (h : OnlyS S w w') (o : Obj) : OnlyS S w (w'.alloc o) := h.trans (.of_below ((Below.refl _ _).alloc (Nat.le_refl _) _))
theorem OnlyS.setCell {S : Nat → Prop} {w w' : World} (h : OnlyS S w w') {p : Addr} (hp : S p.block) (v : Value) : OnlyS S w (w'.setCell p v) :=
  h.trans ⟨rfl, rfl, rfl, by simp [World.setCell], fun k _ hs => Below.heap_setCell _ _ _ _ (fun e => hs (by rw [e]; exact hp))⟩
theorem OnlyS.mono {S T : Nat → Prop} {w w' : World} (h : OnlyS S w w') (hst : ∀ k, k < w.heap.size → S k → T k) : OnlyS T w w' := ⟨h.os, h.tape, h.output, h.size, fun k hk ht => h.block k hk (fun hs => ht (hst k hk hs))⟩
theorem OnlyS.below {S : Nat → Prop} {w w' : World} {B : Nat} (h : OnlyS S w w') (hB : B ≤ w.heap.size) (hS : ∀ k, S k → B ≤ k) : Below B w w' := ⟨h.os, h.tape, h.output, h.size, fun k hk => h.block k (by omega) (fun hs => by have := hS k hs; omega)⟩
/-- First one step that leaves all as it was, then others. -/
theorem OnlyS.after {S : Nat → Prop} {u v w : World} (h : Below u.heap.size u v) (k : OnlyS S v w) : OnlyS S u w := (OnlyS.of_below h).trans k
theorem OnlyS.cell {S : Nat → Prop} {w w' : World} (h : OnlyS S w w') {a : Addr} {v : Value} (hc : w.cell? a = some v) (hs : ¬ S a.block) : w'.cell? a = some v := by
  rw [World.cell?_of_block (w := w) (h.block a.block (cell_block hc) hs)]
  exact hc
theorem OnlyS.frozen {S : Nat → Prop} {w w' : World} (h : OnlyS S w w') {a : Addr} (ha : a.block < w.heap.size) (hs : ¬ S a.block) : w'.frozen? a = w.frozen? a := World.frozen?_of_block (w := w) (h.block a.block ha hs)
theorem StAt.onlyS {S : Nat → Prop} {w w' : World} {b : Nat} {s : St} (h : StAt w b s) (ho : OnlyS S w w') (hs : ¬ S b) : StAt w' b s := (ho.block b h.lt hs).trans h
theorem OwnN.onlyS {S : Nat → Prop} {w w' : World} {B : Nat} {v : Value} {l : List Int} (h : OwnN w B v l) (ho : OnlyS S w w') (hs : ∀ g, v.ownBlock = some g → ¬ S g) : OwnN w' B v l := by
  obtain ⟨h1, h2 | ⟨g, cap, cur, h2, h3, h4, h5⟩⟩ := h
  · exact ⟨h1, .inl h2⟩
  · refine ⟨h1, .inr ⟨g, cap, cur, h2, h3, (ho.block g (Array.getElem?_eq_some_iff.1 h4).1 (hs g (by rw [h2]; rfl))).trans h4, h5⟩⟩
theorem OwnE.onlyS {S : Nat → Prop} {w w' : World} {B : Nat} {v : Value} {l : List Ev} (h : OwnE w B v l) (ho : OnlyS S w w') (hs : ∀ g, v.ownBlock = some g → ¬ S g) : OwnE w' B v l := by
  obtain ⟨h1, h2 | ⟨g, cap, cur, h2, h3, h4, h5⟩⟩ := h
  · exact ⟨h1, .inl h2⟩
  · refine ⟨h1, .inr ⟨g, cap, cur, h2, h3, (ho.block g (Array.getElem?_eq_some_iff.1 h4).1 (hs g (by rw [h2]; rfl))).trans h4, h5⟩⟩
/-- What one event more lies behind is as it was. -/
theorem OwnE.back {w : World} {B g n cap : Nat} {row : List Ev} {e : Ev} (hn : n = row.length) (h : OwnE w B (.slice (some ⟨g, 0, none⟩) (n + 1) cap) (row ++ [e])) : OwnE w B (.slice (some ⟨g, 0, none⟩) n cap) row := by
  subst hn
  obtain ⟨k1, ⟨k2, k3⟩ | ⟨g', cap', cur', k2, k3, k4, k5, k6, k7, k8⟩⟩ := h
  · simp at k3
  · injection k2 with k2 _ k2'
    injection k2 with k2
    injection k2 with k2
    subst k2 k2'
    refine ⟨by rw [evCells_length], .inr ⟨g, cap, cur', rfl, k3, k4, by simp at k5; omega, k6, k7, ?_⟩⟩
    rw [evCells_append, List.length_append] at k8
    have h1 := congrArg (List.take (row.length * 4)) k8
    rw [List.take_take, List.take_left' (evCells_length row)] at h1
    rw [← h1]
    congr 1
    simp
/-- One event appended: where it comes to lie. -/
theorem append_at {w : World} {B : Nat} {v : Value} {es : List Ev} (ty : TypeId) (hown : OwnE w B v es) (ad : Addr) (e : Ev) (hnews : ∀ j u, (evCells [e])[j]? = some u → w.cell? (ad.add j) = some u) (hlen : es.length ≤ 1000000) (hB : B ≤ w.heap.size) :
    ∃ v' w', (Builtin.append_ #[47, 47] ty #[v, .slice (some ad) 1 1]).run Tryz.prog w = .ok v' w' ∧ OwnE w' B v' (es ++ [e]) ∧ w.grownBy w' v.ownBlock ∧ OwnE w' B v es ∧
      ((∃ g cap, v = .slice (some ⟨g, 0, none⟩) es.length cap ∧ v' = .slice (some ⟨g, 0, none⟩) (es.length + 1) cap) ∨ v'.ownBlock = some w.heap.size) := by
  have hinfo : (Tryz.prog.info? 51).map (fun i => (i.zero, i.size, i.bytes)) = some (some (.agg #[.int .i64 0, .int .i64 0, .int .i64 0, .bool false]), 4, 32) := by kernel_rfl
  obtain ⟨t, hi, hzz⟩ := Option.map_eq_some_iff.1 hinfo
  simp only [Prod.mk.injEq] at hzz
  obtain ⟨hz, hsz, hby⟩ := hzz
  obtain ⟨v', w', hr, h2, h3, h4, h5⟩ := run_append_own_at (P := Tryz.prog) w B 47 ty 51 t (.agg #[.int .i64 0, .int .i64 0, .int .i64 0, .bool false]) 4 32 Tryz.underlying47 hi hz hsz hby rfl (by decide) v es.length (evCells es) hown ad 1 1 (evCells [e]) rfl hnews
    (evCells_one _) (by unfold maxLen; omega) (by omega) hB
  have hnew : OwnE w' B v' (es ++ [e]) := by
    unfold OwnE
    rw [List.length_append, evCells_append]
    exact h2
  refine ⟨v', w', hr, hnew, h3, ?_⟩
  have hown0 := hown
  obtain ⟨k1, ⟨k2, k3⟩ | ⟨g, cap, cur, k2, k3, k4, k5, k6, k7, k8⟩⟩ := hown
  · refine ⟨⟨k1, .inl ⟨k2, k3⟩⟩, .inr ?_⟩
    rcases h5 with h5 | h5
    · obtain ⟨_, ⟨_, m3⟩ | ⟨g', cap', cur', m2, _⟩⟩ := h2
      · omega
      · rw [k2, m2] at h5
        cases h5
    · exact h5
  · by_cases hroom : es.length + 1 ≤ cap
    · subst k2
      have hr2 := run_append_room (P := Tryz.prog) w 47 ty 51 t Tryz.underlying47 hi g es.length cap cur k4 ad 1 1 (evCells [e]) (by rw [hsz]; rfl) hnews (evCells_one _) hroom (by rw [k7, hsz]; simp [evCells_length]; omega)
      rw [hr2] at hr
      injection hr with hr _
      subst hr
      exact ⟨OwnE.back rfl hnew, .inl ⟨g, cap, rfl, rfl⟩⟩
    · · subst k2
        have holds : ∀ j u, (evCells es)[j]? = some u → w.cell? ((⟨g, 0, none⟩ : Addr).add j) = some u := World.ownsRow.cells (g := g) (⟨k1, .inr ⟨g, cap, cur, rfl, k3, k4, k5, k6, k7, k8⟩⟩ : w.ownsRow B 51 4 (.slice (some ⟨g, 0, none⟩) es.length cap) es.length (evCells es)) rfl
        have hr2 := run_append_grow (P := Tryz.prog) w 47 ty 51 t _ Tryz.underlying47 hi hz ⟨g, 0, none⟩ es.length cap (evCells es) (by rw [hsz]; exact k1) holds ad 1 1 (evCells [e]) (by rw [hsz]; rfl) hnews (by omega) (by omega) (by rw [hby]; exact growslice_fits (by omega) (by omega))
        rw [hr2] at hr
        injection hr with hr hr3
        subst hr hr3
        exact ⟨OwnE.alloc (show OwnE w.drew B _ es from hown0) _, .inr rfl⟩
theorem step_appendEg {w : World} {ops : Array Oper} {o : Oper} {a : Act} {K : Act → World → Prop} {Q : Exit → Act → World → Prop} {E : Prop} (hgd : o.guard = none) (s x : Operand)
    (ho : o.op = .call { callee := .builtin .append, args := #[s, x], argTypes := #[47, 47] }) (B : Nat) (v : Value) (es : List Ev) (hs : a.eval s = v) (hown : OwnE w B v es)
    (ad : Addr) (hx : a.eval x = .slice (some ad) 1 1) (e : Ev) (hnews : ∀ j u, (evCells [e])[j]? = some u → w.cell? (ad.add j) = some u)
    (hlen : es.length ≤ 1000000) (hB : B ≤ w.heap.size)
    (h : ∀ v' w', OwnE w' B v' (es ++ [e]) → w.grownBy w' v.ownBlock → OwnE w' B v es → ((∃ g cap, v = .slice (some ⟨g, 0, none⟩) es.length cap ∧ v' = .slice (some ⟨g, 0, none⟩) (es.length + 1) cap) ∨ v'.ownBlock = some w.heap.size) → K (a.put o.dst v') w') :
    if Region.wanted o (yielded ops a.tmps) = true then Oper.wp Tryz.prog o a w K Q else E := by
  have hw : Region.wanted o (yielded ops a.tmps) = true := by simp [Region.wanted, hgd]
  rw [if_pos hw]
  obtain ⟨v', w', hr, h1, h2, h3, h4⟩ := append_at o.type hown ad e hnews hlen hB
  unfold Oper.wp
  simp [execOp, ho, resolve, invoke, builtin, hs, hx, hr, Result.andThen]
  exact h v' w' h1 h2 h3 h4

end Go.Proofs.YtljlaopjimkcmaaGreat
