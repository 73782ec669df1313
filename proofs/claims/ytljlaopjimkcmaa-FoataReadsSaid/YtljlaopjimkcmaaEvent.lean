/- The contracts of event's below, ofVariable, ofMutex, Depends, Right, toByte, fromByte, and of the document's Depends, Right, Byte. -/
import Derived.Test.YtljlaopjimkcmaaEvBox
import Derived.Test.YtljlaopjimkcmaaEvPlain
namespace Go.Proofs.Ytljlaopjimkcmaa
open Go.RowKit

theorem eBelow_any (n e : Int) (w : World) : Calls Try.prog 42 #[.int .i64 n, .int .i64 e] w fun r w' => r = .returned (.bool (belowB n e)) ∧ w = w' := by
  go_enter Try.func42, Try.ntmps42
  go_wp2
  all_goals
    go_ret
    refine ⟨ret_bool ?_, rfl⟩
    simp [belowB]
    try omega

theorem ofVariable_any (e : Ev) (w : World) : Calls Try.prog 45 #[.agg #[.int .i64 e.thread, .int .i64 e.kind, .int .i64 e.obj, .bool e.fail]] w fun r w' => r = .returned (.bool (memE e)) ∧ Below w.heap.size w w' := by
  obtain ⟨t, k, o, f⟩ := e
  dsimp only
  go_enter Try.func45, Try.ntmps45
  go_wp2
  all_goals
    go_ret
    refine ⟨ret_bool ?_, below_alloc1 _ _⟩
    rw [Bool.eq_iff_iff]
    simp [memE]
    try omega

theorem ofMutex_any (e : Ev) (w : World) : Calls Try.prog 46 #[.agg #[.int .i64 e.thread, .int .i64 e.kind, .int .i64 e.obj, .bool e.fail]] w fun r w' => r = .returned (.bool (mutE e)) ∧ Below w.heap.size w w' := by
  obtain ⟨t, k, o, f⟩ := e
  dsimp only
  go_enter Try.func46, Try.ntmps46
  go_wp2
  all_goals
    go_ret
    refine ⟨ret_bool ?_, below_alloc1 _ _⟩
    rw [Bool.eq_iff_iff]
    simp [mutE]
    try omega

set_option maxRecDepth 100000 in
set_option maxHeartbeats 1000000 in
theorem evRight_any (e : Ev) (w : World) : Calls Try.prog 31 #[.agg #[.int .i64 e.thread, .int .i64 e.kind, .int .i64 e.obj, .bool e.fail]] w fun r w' => r = .returned (.bool (rightEv e)) ∧ Below w.heap.size w w' := by
  obtain ⟨t, k, o, f⟩ := e
  dsimp only
  go_enter Try.func31, Try.ntmps31
  go_wp2_with (go_at_call 42; refine (eBelow_any _ _ _).mono ?_; rintro r w' ⟨rfl, rfl⟩)
  all_goals
    go_ret
    refine ⟨ret_bool ?_, below_alloc1 _ _⟩
    simp [belowB] at *
    rw [Bool.eq_iff_iff]
    simp [rightEv, *]
    try (first | omega | (cases f <;> simp <;> omega))

set_option maxRecDepth 100000 in
set_option maxHeartbeats 1000000 in
theorem refEvRight_any (e : Ev) (w : World) : Calls Try.prog 38 #[.agg #[.int .i64 e.thread, .int .i64 e.kind, .int .i64 e.obj, .bool e.fail]] w fun r w' => r = .returned (.bool (rightEv e)) ∧ Below w.heap.size w w' := by
  obtain ⟨t, k, o, f⟩ := e
  dsimp only
  go_enter Try.func38, Try.ntmps38
  go_wp2
  all_goals
    go_ret
    refine ⟨ret_bool ?_, below_alloc1 _ _⟩
    simp at *
    rw [Bool.eq_iff_iff]
    simp [rightEv, *]
    try (first | omega | (cases f <;> simp <;> omega))

theorem two_boxes (e f : Ev) (w : World) : EvBox ((w.alloc (.cells #[.int .i64 e.thread, .int .i64 e.kind, .int .i64 e.obj, .bool e.fail] 39)).alloc (.cells #[.int .i64 f.thread, .int .i64 f.kind, .int .i64 f.obj, .bool f.fail] 39)) w.heap.size e ∧ EvBox ((w.alloc (.cells #[.int .i64 e.thread, .int .i64 e.kind, .int .i64 e.obj, .bool e.fail] 39)).alloc (.cells #[.int .i64 f.thread, .int .i64 f.kind, .int .i64 f.obj, .bool f.fail] 39)) (w.heap.size + 1) f :=
  ⟨heap_alloc2_old w _ _, heap_alloc2_new w _ _⟩

set_option maxRecDepth 100000 in
set_option maxHeartbeats 1000000 in
theorem depends_any (e f : Ev) (w : World) : Calls Try.prog 35 #[.agg #[.int .i64 e.thread, .int .i64 e.kind, .int .i64 e.obj, .bool e.fail], .agg #[.int .i64 f.thread, .int .i64 f.kind, .int .i64 f.obj, .bool f.fail]] w fun r w' => r = .returned (.bool (dep e f)) ∧ Below w.heap.size w w' := by
  obtain ⟨he, hf⟩ := two_boxes e f w
  have HE := Lib.hid he
  have HF := Lib.hid hf
  have hb0 := below_alloc2 w (.cells #[.int .i64 e.thread, .int .i64 e.kind, .int .i64 e.obj, .bool e.fail] 39) (.cells #[.int .i64 f.thread, .int .i64 f.kind, .int .i64 f.obj, .bool f.fail] 39)
  clear he hf
  by_cases h1 : e.thread = f.thread
  · have HD : Hid (dep e f = true) := by show _ = _; simp [dep, h1]
    have q1 : (e.thread == f.thread) = true := by simp [h1]
    clear h1 HE HF
    go_enter Try.func35, Try.ntmps35
    go_wp2
    go_ret
    exact ⟨ret_bool HD.out.symm, hb0⟩
  by_cases h2 : e.obj = f.obj
  case neg =>
    have HD : Hid (dep e f = false) := by show _ = _; simp [dep, h1, h2]
    have q1 : (e.thread == f.thread) = false := by simp [h1]
    have q2 : (e.obj != f.obj) = true := by simp [h2]
    clear h1 h2 HE HF
    go_enter Try.func35, Try.ntmps35
    go_wp2
    go_ret
    exact ⟨ret_bool HD.out.symm, hb0⟩
  have q1 : (e.thread == f.thread) = false := by simp [h1]
  have q2 : (e.obj != f.obj) = false := by simp [h2]
  have HT := Lib.hid h1
  have HO := Lib.hid h2
  clear h1 h2
  go_enter Try.func35, Try.ntmps35
  go_wp2_with fail
  generalize (w.alloc (.cells #[.int .i64 e.thread, .int .i64 e.kind, .int .i64 e.obj, .bool e.fail] 39)).alloc (.cells #[.int .i64 f.thread, .int .i64 f.kind, .int .i64 f.obj, .bool f.fail] 39) = W0 at *
  refine (ofVariable_any e _).mono ?_
  rintro r w1 ⟨rfl, hb1⟩
  have HE1 := Lib.hid (HE.out.later hb1)
  have HF1 := Lib.hid (HF.out.later hb1)
  have hw1 : Below w.heap.size w w1 := hb0.trans (hb1.mono hb0.size)
  clear HE HF hb0 hb1
  obtain ⟨e0, e1, e2, e3⟩ := HE1.out.cells
  obtain ⟨f0, f1, f2, f3⟩ := HF1.out.cells
  have le := HE1.out.lt
  have lf := HF1.out.lt
  generalize hm : memE e = m
  cases m
  · go_wp2_with fail
    refine (ofMutex_any e _).mono ?_
    rintro r w2 ⟨rfl, hb2⟩
    have hw2 : Below w.heap.size w w2 := hw1.trans (hb2.mono hw1.size)
    have g0 := cell_later hb2 f0
    have g1 := cell_later hb2 f1
    have g2 := cell_later hb2 f2
    have g3 := cell_later hb2 f3
    have lg := Nat.lt_of_lt_of_le lf hb2.size
    generalize hx : mutE e = x
    cases x
    · go_wp2
      go_ret
      refine ⟨ret_bool ?_, hw2⟩
      unfold memE at hm
      unfold mutE at hx
      simp at hm hx
      simp [dep, HT.out, HO.out, hm, hx]
    · clear e0 e1 e2 e3 f0 f1 f2 f3 le lf hb2
      go_wp2_with fail
      refine (ofMutex_any f _).mono ?_
      rintro r w3 ⟨rfl, hb3⟩
      have hw3 : Below w.heap.size w w3 := hw2.trans (hb3.mono hw2.size)
      go_wp2
      go_ret
      refine ⟨ret_bool ?_, hw3⟩
      unfold memE at hm
      unfold mutE at hx ⊢
      simp at hm hx
      simp [dep, HT.out, HO.out, hm, hx]
  · go_wp2_with fail
    refine (ofVariable_any f _).mono ?_
    rintro r w2 ⟨rfl, hb2⟩
    have hw2 : Below w.heap.size w w2 := hw1.trans (hb2.mono hw1.size)
    have d0 := cell_later hb2 e0
    have d1 := cell_later hb2 e1
    have d2 := cell_later hb2 e2
    have d3 := cell_later hb2 e3
    have ld := Nat.lt_of_lt_of_le le hb2.size
    have g0 := cell_later hb2 f0
    have g1 := cell_later hb2 f1
    have g2 := cell_later hb2 f2
    have g3 := cell_later hb2 f3
    have lg := Nat.lt_of_lt_of_le lf hb2.size
    clear e0 e1 e2 e3 f0 f1 f2 f3 le lf hb2
    generalize hx : memE f = x
    cases x
    · go_wp2_with fail
      refine (ofMutex_any e _).mono ?_
      rintro r w3 ⟨rfl, hb3⟩
      have hx3 : mutE e = false := by
        unfold memE at hm
        unfold mutE
        simp at hm ⊢
        omega
      rw [hx3]
      have hw3 : Below w.heap.size w w3 := hw2.trans (hb3.mono hw2.size)
      go_wp2
      go_ret
      refine ⟨ret_bool ?_, hw3⟩
      unfold memE at hm hx
      unfold mutE at hx3
      simp at hm hx hx3
      simp [dep, HT.out, HO.out, hm, hx, hx3]
    · go_wp2
      all_goals
        go_ret
        refine ⟨ret_bool ?_, hw2⟩
        unfold memE at hm hx
        simp at *
        rw [Bool.eq_iff_iff]
        simp [dep, HT.out, HO.out, *]
        try omega

set_option maxRecDepth 100000 in
set_option maxHeartbeats 1000000 in
theorem refDepends_any (e f : Ev) (w : World) : Calls Try.prog 23 #[.agg #[.int .i64 e.thread, .int .i64 e.kind, .int .i64 e.obj, .bool e.fail], .agg #[.int .i64 f.thread, .int .i64 f.kind, .int .i64 f.obj, .bool f.fail]] w fun r w' => r = .returned (.bool (dep e f)) ∧ Below w.heap.size w w' := by
  go_enter Try.func23, Try.ntmps23
  go_wp2
  all_goals
    go_ret
    refine ⟨ret_bool ?_, below_alloc2 _ _ _⟩
    simp at *
    rw [Bool.eq_iff_iff]
    simp [dep, *]
    try omega

end Go.Proofs.Ytljlaopjimkcmaa
