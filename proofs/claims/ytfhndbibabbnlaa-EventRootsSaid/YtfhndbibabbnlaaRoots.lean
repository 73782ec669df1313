/- EventRoots: events that depend are of one thread, or of one object of one kind of objects. -/
import Derived.Test.YtfhndbibabbnlaaWake3
import Derived.Deep.RegionHeld3
namespace Go.Proofs.Ytfhndbibabbnlaa
open Go.RowKit

/-- Two events in their boxes. -/
def TwoBox (w : World) (g : Nat) (e f : Ev) : Prop := EvBox w g e ∧ EvBox w (g + 1) f
theorem TwoBox.later {w w' : World} {g : Nat} {e f : Ev} (h : TwoBox w g e f) (hb : Below w.heap.size w w') : TwoBox w' g e f := ⟨h.1.later hb, h.2.later hb⟩
theorem TwoBox.cells {w : World} {g : Nat} {e f : Ev} (h : TwoBox w g e f) : w.cell? ⟨g, 0, none⟩ = some (.int .i64 e.thread) ∧ w.cell? ⟨g, 1, none⟩ = some (.int .i64 e.kind) ∧ w.cell? ⟨g, 2, none⟩ = some (.int .i64 e.obj) ∧ w.cell? ⟨g, 3, none⟩ = some (.bool e.fail) ∧
    w.cell? ⟨g + 1, 0, none⟩ = some (.int .i64 f.thread) ∧ w.cell? ⟨g + 1, 1, none⟩ = some (.int .i64 f.kind) ∧ w.cell? ⟨g + 1, 2, none⟩ = some (.int .i64 f.obj) ∧ w.cell? ⟨g + 1, 3, none⟩ = some (.bool f.fail) ∧ g + 1 < w.heap.size := by
  obtain ⟨h0, h1, h2, h3⟩ := h.1.cells
  obtain ⟨k0, k1, k2, k3⟩ := h.2.cells
  exact ⟨h0, h1, h2, h3, k0, k1, k2, k3, h.2.lt⟩

theorem memLaw_any (e : Ev) (w : World) : Calls Try.prog 32 #[.agg #[.int .i64 e.thread, .int .i64 e.kind, .int .i64 e.obj, .bool e.fail]] w fun r w' => r = .returned (.bool (memE e)) ∧ Below w.heap.size w w' := by
  obtain ⟨t, k, o, f⟩ := e
  dsimp only
  go_enter Try.func32, Try.ntmps32
  go_wp2
  all_goals
    go_ret
    refine ⟨ret_bool ?_, below_alloc1 _ _⟩
    rw [Bool.eq_iff_iff]
    simp [memE]
    try omega

theorem below_step {w8 W w' : World} (h1 : Below w8.heap.size w8 W) (hb : Below W.heap.size W w') : Below w8.heap.size w8 w' := h1.trans (hb.mono h1.size)

set_option maxRecDepth 100000 in
set_option maxHeartbeats 4000000 in
theorem roots_any (e f : Ev) (w : World) : Calls Try.prog 7 #[.agg #[.int .i64 e.thread, .int .i64 e.kind, .int .i64 e.obj, .bool e.fail], .agg #[.int .i64 f.thread, .int .i64 f.kind, .int .i64 f.obj, .bool f.fail]] w fun r w' => r = .returned (.bool true) ∧ Below w.heap.size w w' := by
  have HX0 := Lib.hid (show TwoBox _ _ e f from two_boxes e f w)
  have hw0 := below_alloc2 w (.cells #[.int .i64 e.thread, .int .i64 e.kind, .int .i64 e.obj, .bool e.fail] 23) (.cells #[.int .i64 f.thread, .int .i64 f.kind, .int .i64 f.obj, .bool f.fail] 23)
  go_enter Try.func7, Try.ntmps7
  go_wp2_with fail
  generalize (w.alloc (.cells #[.int .i64 e.thread, .int .i64 e.kind, .int .i64 e.obj, .bool e.fail] 23)).alloc (.cells #[.int .i64 f.thread, .int .i64 f.kind, .int .i64 f.obj, .bool f.fail] 23) = W0 at *
  refine (awake_any _).mono ?_
  rintro r w1 ⟨rfl, hb⟩
  have HX1 := Lib.hid (HX0.out.later hb)
  have hw1 := hw0.trans (hb.mono hw0.size)
  clear HX0 hw0 hb
  obtain ⟨c0, c1, c2, c3, d0, d1, d2, d3, lz⟩ := HX1.out.cells
  go_wp2_with fail
  refine (depends_any e f _).mono ?_
  rintro r w2 ⟨rfl, hb⟩
  have HX2 := Lib.hid (HX1.out.later hb)
  have hw2 := hw1.trans (hb.mono hw1.size)
  clear HX1 hw1 hb c0 c1 c2 c3 d0 d1 d2 d3 lz
  obtain ⟨D, hD⟩ : ∃ D, dep e f = D := ⟨_, rfl⟩
  rw [hD]
  cases D
  · clear hD
    go_wp2_with fail
    refine (awake_any _).mono ?_
    rintro r w3 ⟨rfl, hb⟩
    have hw3 := hw2.trans (hb.mono hw2.size)
    go_wp2
    go_ret
    exact ⟨rfl, hw3⟩
  have HD := Lib.hid hD
  clear hD
  obtain ⟨c0, c1, c2, c3, d0, d1, d2, d3, lz⟩ := HX2.out.cells
  by_cases ht : e.thread = f.thread
  · have q1 : (e.thread == f.thread) = true := by simp [ht]
    clear ht
    go_wp2_with fail
    refine (awake_any _).mono ?_
    rintro r w3 ⟨rfl, hb⟩
    have hw3 := hw2.trans (hb.mono hw2.size)
    go_wp2
    go_ret
    exact ⟨rfl, hw3⟩
  have q1 : (e.thread == f.thread) = false := by simp [ht]
  have HT := Lib.hid ht
  clear ht
  have q2 : (e.obj == f.obj) = true := by have h := HD.out; unfold dep at h; rw [decide_eq_true_eq] at h; simp; have := HT.out; omega
  have q3 : (e.kind != 1) = true := by have h := HD.out; unfold dep at h; rw [decide_eq_true_eq] at h; simp; have := HT.out; omega
  have q4 : (f.kind != 1) = true := by have h := HD.out; unfold dep at h; rw [decide_eq_true_eq] at h; simp; have := HT.out; omega
  have hm : memE e = memE f := by
    have h := HD.out
    unfold dep at h
    rw [decide_eq_true_eq] at h
    unfold memE
    rw [decide_eq_decide]
    have := HT.out
    omega
  have hq5 : (e.kind == 2) = true ∧ (f.kind == 2) = false ∨ (e.kind == 2) = false := by
    have h := HD.out
    unfold dep at h
    rw [decide_eq_true_eq] at h
    simp
    have := HT.out
    omega
  obtain ⟨M, hM⟩ : ∃ M, memE e = M := ⟨_, rfl⟩
  have HM1 : Hid (∀ w', Calls Try.prog 32 #[.agg #[.int .i64 e.thread, .int .i64 e.kind, .int .i64 e.obj, .bool e.fail]] w' fun r w'' => r = .returned (.bool M) ∧ Below w'.heap.size w' w'') := fun w' => by rw [← hM]; exact memLaw_any e w'
  have HM2 : Hid (∀ w', Calls Try.prog 32 #[.agg #[.int .i64 f.thread, .int .i64 f.kind, .int .i64 f.obj, .bool f.fail]] w' fun r w'' => r = .returned (.bool M) ∧ Below w'.heap.size w' w'') := fun w' => by rw [← hM, hm]; exact memLaw_any f w'
  have hMM : (M == M) = true := by simp
  have HK : Hid (∀ w', Below w2.heap.size w2 w' → w'.cell? ⟨w.heap.size, 0, none⟩ = some (.int .i64 e.thread) ∧ w'.cell? ⟨w.heap.size, 1, none⟩ = some (.int .i64 e.kind) ∧ w'.cell? ⟨w.heap.size, 2, none⟩ = some (.int .i64 e.obj) ∧ w'.cell? ⟨w.heap.size, 3, none⟩ = some (.bool e.fail) ∧ w'.cell? ⟨w.heap.size + 1, 0, none⟩ = some (.int .i64 f.thread) ∧ w'.cell? ⟨w.heap.size + 1, 1, none⟩ = some (.int .i64 f.kind) ∧ w'.cell? ⟨w.heap.size + 1, 2, none⟩ = some (.int .i64 f.obj) ∧ w'.cell? ⟨w.heap.size + 1, 3, none⟩ = some (.bool f.fail) ∧ Below w2.heap.size w2 w') := by
    intro w' h
    obtain ⟨x0, x1, x2, x3⟩ := (HX2.out.1.later h).cells
    obtain ⟨y0, y1, y2, y3⟩ := (HX2.out.2.later h).cells
    exact ⟨x0, x1, x2, x3, y0, y1, y2, y3, h⟩
  clear hm hM HD HT HX2
  have hq7 : ((e.kind == 2) = true ∧ (decide (e.kind = 2)) = true ∧ (f.kind == 2) = false ∧ (decide (f.kind = 2)) = false) ∨ ((e.kind == 2) = false ∧ (decide (e.kind = 2)) = false) := by simpa using hq5
  clear hq5
  rcases hq7 with ⟨q5, q5', q6, q6'⟩ | ⟨q5, q5'⟩
  · go_wp2_with fail
    have hB1 : Below w2.heap.size w2 w2.drew := (Below.refl _ _).drew
    clear c0 c1 c2 c3 d0 d1 d2 d3 lz
    go_region_held3 (fun w' => w'.cell? ⟨w.heap.size, 0, none⟩ = some (.int .i64 e.thread) ∧ w'.cell? ⟨w.heap.size, 1, none⟩ = some (.int .i64 e.kind) ∧ w'.cell? ⟨w.heap.size, 2, none⟩ = some (.int .i64 e.obj) ∧ w'.cell? ⟨w.heap.size, 3, none⟩ = some (.bool e.fail) ∧ w'.cell? ⟨w.heap.size + 1, 0, none⟩ = some (.int .i64 f.thread) ∧ w'.cell? ⟨w.heap.size + 1, 1, none⟩ = some (.int .i64 f.kind) ∧ w'.cell? ⟨w.heap.size + 1, 2, none⟩ = some (.int .i64 f.obj) ∧ w'.cell? ⟨w.heap.size + 1, 3, none⟩ = some (.bool f.fail) ∧ Below w2.heap.size w2 w') (first | exact HK.out _ hB1 | exact HK.out _ hB2 | exact HK.out _ hB3)
      (first
        | (go_at_call 32; ((with_reducible refine (HM1.out _).mono ?_); rintro r w3 ⟨rfl, hb3⟩; have hB2 := below_step hB1 hb3; clear hB1))
        | (go_at_call 32; ((with_reducible refine (HM2.out _).mono ?_); rintro r w4 ⟨rfl, hb4⟩; have hB3 := below_step hB2 hb4; clear hB2)))
    go_wp2
    go_ret
    exact ⟨rfl, hw2.trans (hB3.mono hw2.size)⟩
  · go_wp2_with fail
    have hB1 : Below w2.heap.size w2 w2.drew := (Below.refl _ _).drew
    first
      | go_region_with (first
        | (go_at_call 32; ((with_reducible refine (HM1.out _).mono ?_); rintro r w3 ⟨rfl, hb3⟩; have hB2 := below_step hB1 hb3; clear hB1 hb3; obtain ⟨u0, u1, u2, u3, v0, v1, v2, v3, _⟩ := HK.out _ hB2))
        | (go_at_call 32; ((with_reducible refine (HM2.out _).mono ?_); rintro r w4 ⟨rfl, hb4⟩; have hB3 := below_step hB2 hb4; clear hB2 hb4; obtain ⟨x0, x1, x2, x3, y0, y1, y2, y3, _⟩ := HK.out _ hB3)))
      | fail
    all_goals
      go_wp2
      go_ret
      exact ⟨rfl, hw2.trans (hB3.mono hw2.size)⟩

end Go.Proofs.Ytfhndbibabbnlaa
