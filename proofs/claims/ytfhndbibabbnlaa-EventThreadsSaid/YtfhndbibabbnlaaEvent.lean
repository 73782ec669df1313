/- The contracts of event's below, ofVariable, ofMutex, Depends, Right, toByte, fromByte, and of the document's Depends, Right, Byte. -/
import Derived.Test.YtfhndbibabbnlaaEvBox
import Derived.Test.YtfhndbibabbnlaaEvPlain
namespace Go.Proofs.Ytfhndbibabbnlaa
open Go.RowKit

theorem eBelow_any (n e : Int) (w : World) : Calls Try.prog 36 #[.int .i64 n, .int .i64 e] w fun r w' => r = .returned (.bool (belowB n e)) ∧ w = w' := by
  go_enter Try.func36, Try.ntmps36
  go_wp2
  all_goals
    go_ret
    refine ⟨ret_bool ?_, rfl⟩
    simp [belowB]
    try omega

theorem ofVariable_any (e : Ev) (w : World) : Calls Try.prog 34 #[.agg #[.int .i64 e.thread, .int .i64 e.kind, .int .i64 e.obj, .bool e.fail]] w fun r w' => r = .returned (.bool (memE e)) ∧ Below w.heap.size w w' := by
  obtain ⟨t, k, o, f⟩ := e
  dsimp only
  go_enter Try.func34, Try.ntmps34
  go_wp2
  all_goals
    go_ret
    refine ⟨ret_bool ?_, below_alloc1 _ _⟩
    rw [Bool.eq_iff_iff]
    simp [memE]
    try omega

theorem ofMutex_any (e : Ev) (w : World) : Calls Try.prog 35 #[.agg #[.int .i64 e.thread, .int .i64 e.kind, .int .i64 e.obj, .bool e.fail]] w fun r w' => r = .returned (.bool (mutE e)) ∧ Below w.heap.size w w' := by
  obtain ⟨t, k, o, f⟩ := e
  dsimp only
  go_enter Try.func35, Try.ntmps35
  go_wp2
  all_goals
    go_ret
    refine ⟨ret_bool ?_, below_alloc1 _ _⟩
    rw [Bool.eq_iff_iff]
    simp [mutE]
    try omega

set_option maxRecDepth 100000 in
set_option maxHeartbeats 1000000 in
theorem evRight_any (e : Ev) (w : World) : Calls Try.prog 12 #[.agg #[.int .i64 e.thread, .int .i64 e.kind, .int .i64 e.obj, .bool e.fail]] w fun r w' => r = .returned (.bool (rightEv e)) ∧ Below w.heap.size w w' := by
  obtain ⟨t, k, o, f⟩ := e
  dsimp only
  go_enter Try.func12, Try.ntmps12
  go_wp2_with (go_at_call 36; refine (eBelow_any _ _ _).mono ?_; rintro r w' ⟨rfl, rfl⟩)
  all_goals
    go_ret
    refine ⟨ret_bool ?_, below_alloc1 _ _⟩
    simp [belowB] at *
    rw [Bool.eq_iff_iff]
    simp [rightEv, *]
    try (first | omega | (cases f <;> simp <;> omega))

set_option maxRecDepth 100000 in
set_option maxHeartbeats 1000000 in
theorem refEvRight_any (e : Ev) (w : World) : Calls Try.prog 13 #[.agg #[.int .i64 e.thread, .int .i64 e.kind, .int .i64 e.obj, .bool e.fail]] w fun r w' => r = .returned (.bool (rightEv e)) ∧ Below w.heap.size w w' := by
  obtain ⟨t, k, o, f⟩ := e
  dsimp only
  go_enter Try.func13, Try.ntmps13
  go_wp2
  all_goals
    go_ret
    refine ⟨ret_bool ?_, below_alloc1 _ _⟩
    simp at *
    rw [Bool.eq_iff_iff]
    simp [rightEv, *]
    try (first | omega | (cases f <;> simp <;> omega))

set_option maxRecDepth 100000 in
set_option maxHeartbeats 1000000 in
theorem toByte_any (e : Ev) (h : rightEv e = true) (w : World) : Calls Try.prog 37 #[.agg #[.int .i64 e.thread, .int .i64 e.kind, .int .i64 e.obj, .bool e.fail]] w fun r w' => r = .returned (.int .u8 (evB e)) ∧ Below w.heap.size w w' := by
  have bd := rightEv_bd h
  clear h
  obtain ⟨t, k, o, f⟩ := e
  dsimp only at bd ⊢
  obtain ⟨b0, b1, b2, b3, b4, b5⟩ := bd
  unfold evB
  cases f
  · go_enter Try.func37, Try.ntmps37
    go_wp2
    go_ret
    refine ⟨?_, below_alloc1 _ _⟩
    simp
  · go_enter Try.func37, Try.ntmps37
    go_wp2
    go_ret
    refine ⟨?_, below_alloc1 _ _⟩
    simp

set_option maxRecDepth 100000 in
set_option maxHeartbeats 1000000 in
theorem refByte_any (e : Ev) (h : rightEv e = true) (w : World) : Calls Try.prog 39 #[.agg #[.int .i64 e.thread, .int .i64 e.kind, .int .i64 e.obj, .bool e.fail]] w fun r w' => r = .returned (.int .i64 (evB e)) ∧ Below w.heap.size w w' := by
  have bd := rightEv_bd h
  clear h
  obtain ⟨t, k, o, f⟩ := e
  dsimp only at bd ⊢
  obtain ⟨b0, b1, b2, b3, b4, b5⟩ := bd
  unfold evB
  cases f
  · go_enter Try.func39, Try.ntmps39
    go_wp2
    go_ret
    refine ⟨?_, below_alloc1 _ _⟩
    simp
  · go_enter Try.func39, Try.ntmps39
    go_wp2
    go_ret
    refine ⟨?_, below_alloc1 _ _⟩
    simp


set_option maxRecDepth 100000 in
set_option maxHeartbeats 1000000 in
theorem fromByte_any (n : Int) (h0 : 0 ≤ n) (h1 : n < 256) (w : World) : Calls Try.prog 38 #[.int .u8 n] w fun r w' => r = .returned (.agg #[.int .i64 (evOf n).thread, .int .i64 (evOf n).kind, .int .i64 (evOf n).obj, .bool (evOf n).fail]) ∧ Below w.heap.size w w' := by
  have hw : IntKind.i64.wrap n = n := IntWalk.i64_in (by omega) (by omega)
  go_enter Try.func38, Try.ntmps38
  go_wp2
  exact bodyPost_ret (v := .agg #[.int .i64 (evOf n).thread, .int .i64 (evOf n).kind, .int .i64 (evOf n).obj, .bool (evOf n).fail]) (by
    simp [results, Try.results38, go_sem]
    simp only [evOf]
    exact ⟨trivial, by omega, by omega, trivial⟩) rfl ⟨rfl, below_alloc1 _ _⟩

theorem two_boxes (e f : Ev) (w : World) : EvBox ((w.alloc (.cells #[.int .i64 e.thread, .int .i64 e.kind, .int .i64 e.obj, .bool e.fail] 23)).alloc (.cells #[.int .i64 f.thread, .int .i64 f.kind, .int .i64 f.obj, .bool f.fail] 23)) w.heap.size e ∧ EvBox ((w.alloc (.cells #[.int .i64 e.thread, .int .i64 e.kind, .int .i64 e.obj, .bool e.fail] 23)).alloc (.cells #[.int .i64 f.thread, .int .i64 f.kind, .int .i64 f.obj, .bool f.fail] 23)) (w.heap.size + 1) f :=
  ⟨heap_alloc2_old w _ _, heap_alloc2_new w _ _⟩

set_option maxRecDepth 100000 in
set_option maxHeartbeats 1000000 in
theorem depends_any (e f : Ev) (w : World) : Calls Try.prog 10 #[.agg #[.int .i64 e.thread, .int .i64 e.kind, .int .i64 e.obj, .bool e.fail], .agg #[.int .i64 f.thread, .int .i64 f.kind, .int .i64 f.obj, .bool f.fail]] w fun r w' => r = .returned (.bool (dep e f)) ∧ Below w.heap.size w w' := by
  obtain ⟨he, hf⟩ := two_boxes e f w
  have HE := Lib.hid he
  have HF := Lib.hid hf
  have hb0 := below_alloc2 w (.cells #[.int .i64 e.thread, .int .i64 e.kind, .int .i64 e.obj, .bool e.fail] 23) (.cells #[.int .i64 f.thread, .int .i64 f.kind, .int .i64 f.obj, .bool f.fail] 23)
  clear he hf
  by_cases h1 : e.thread = f.thread
  · have HD : Hid (dep e f = true) := by show _ = _; simp [dep, h1]
    have q1 : (e.thread == f.thread) = true := by simp [h1]
    clear h1 HE HF
    go_enter Try.func10, Try.ntmps10
    go_wp2
    go_ret
    exact ⟨ret_bool HD.out.symm, hb0⟩
  by_cases h2 : e.obj = f.obj
  case neg =>
    have HD : Hid (dep e f = false) := by show _ = _; simp [dep, h1, h2]
    have q1 : (e.thread == f.thread) = false := by simp [h1]
    have q2 : (e.obj != f.obj) = true := by simp [h2]
    clear h1 h2 HE HF
    go_enter Try.func10, Try.ntmps10
    go_wp2
    go_ret
    exact ⟨ret_bool HD.out.symm, hb0⟩
  have q1 : (e.thread == f.thread) = false := by simp [h1]
  have q2 : (e.obj != f.obj) = false := by simp [h2]
  have HT := Lib.hid h1
  have HO := Lib.hid h2
  clear h1 h2
  go_enter Try.func10, Try.ntmps10
  go_wp2_with fail
  generalize (w.alloc (.cells #[.int .i64 e.thread, .int .i64 e.kind, .int .i64 e.obj, .bool e.fail] 23)).alloc (.cells #[.int .i64 f.thread, .int .i64 f.kind, .int .i64 f.obj, .bool f.fail] 23) = W0 at *
  refine (ofVariable_any e _).mono ?_
  rintro r w1 ⟨rfl, hb1⟩
  have HE1 := Lib.hid (HE.out.later hb1)
  have HF1 := Lib.hid (HF.out.later hb1)
  have hw1 : Below w.heap.size w w1 := hb0.trans (hb1.mono hb0.size)
  clear HE HF hb0 hb1
  obtain ⟨e0, e1, e2, e3⟩ := HE1.out.cells
  obtain ⟨f0, f1, f2, f3⟩ := HF1.out.cells
  have le := HE1.out.lt
  have lf := HF1.out.lt
  generalize hm : memE e = m
  cases m
  · go_wp2_with fail
    refine (ofMutex_any e _).mono ?_
    rintro r w2 ⟨rfl, hb2⟩
    have hw2 : Below w.heap.size w w2 := hw1.trans (hb2.mono hw1.size)
    have g0 := cell_later hb2 f0
    have g1 := cell_later hb2 f1
    have g2 := cell_later hb2 f2
    have g3 := cell_later hb2 f3
    have lg := Nat.lt_of_lt_of_le lf hb2.size
    generalize hx : mutE e = x
    cases x
    · go_wp2
      go_ret
      refine ⟨ret_bool ?_, hw2⟩
      unfold memE at hm
      unfold mutE at hx
      simp at hm hx
      simp [dep, HT.out, HO.out, hm, hx]
    · clear e0 e1 e2 e3 f0 f1 f2 f3 le lf hb2
      go_wp2_with fail
      refine (ofMutex_any f _).mono ?_
      rintro r w3 ⟨rfl, hb3⟩
      have hw3 : Below w.heap.size w w3 := hw2.trans (hb3.mono hw2.size)
      go_wp2
      go_ret
      refine ⟨ret_bool ?_, hw3⟩
      unfold memE at hm
      unfold mutE at hx ⊢
      simp at hm hx
      simp [dep, HT.out, HO.out, hm, hx]
  · go_wp2_with fail
    refine (ofVariable_any f _).mono ?_
    rintro r w2 ⟨rfl, hb2⟩
    have hw2 : Below w.heap.size w w2 := hw1.trans (hb2.mono hw1.size)
    have d0 := cell_later hb2 e0
    have d1 := cell_later hb2 e1
    have d2 := cell_later hb2 e2
    have d3 := cell_later hb2 e3
    have ld := Nat.lt_of_lt_of_le le hb2.size
    have g0 := cell_later hb2 f0
    have g1 := cell_later hb2 f1
    have g2 := cell_later hb2 f2
    have g3 := cell_later hb2 f3
    have lg := Nat.lt_of_lt_of_le lf hb2.size
    clear e0 e1 e2 e3 f0 f1 f2 f3 le lf hb2
    generalize hx : memE f = x
    cases x
    · go_wp2_with fail
      refine (ofMutex_any e _).mono ?_
      rintro r w3 ⟨rfl, hb3⟩
      have hx3 : mutE e = false := by
        unfold memE at hm
        unfold mutE
        simp at hm ⊢
        omega
      rw [hx3]
      have hw3 : Below w.heap.size w w3 := hw2.trans (hb3.mono hw2.size)
      go_wp2
      go_ret
      refine ⟨ret_bool ?_, hw3⟩
      unfold memE at hm hx
      unfold mutE at hx3
      simp at hm hx hx3
      simp [dep, HT.out, HO.out, hm, hx, hx3]
    · go_wp2
      all_goals
        go_ret
        refine ⟨ret_bool ?_, hw2⟩
        unfold memE at hm hx
        simp at *
        rw [Bool.eq_iff_iff]
        simp [dep, HT.out, HO.out, *]
        try omega

set_option maxRecDepth 100000 in
set_option maxHeartbeats 1000000 in
theorem refDepends_any (e f : Ev) (w : World) : Calls Try.prog 11 #[.agg #[.int .i64 e.thread, .int .i64 e.kind, .int .i64 e.obj, .bool e.fail], .agg #[.int .i64 f.thread, .int .i64 f.kind, .int .i64 f.obj, .bool f.fail]] w fun r w' => r = .returned (.bool (dep e f)) ∧ Below w.heap.size w w' := by
  go_enter Try.func11, Try.ntmps11
  go_wp2
  all_goals
    go_ret
    refine ⟨ret_bool ?_, below_alloc2 _ _ _⟩
    simp at *
    rw [Bool.eq_iff_iff]
    simp [dep, *]
    try omega

end Go.Proofs.Ytfhndbibabbnlaa
