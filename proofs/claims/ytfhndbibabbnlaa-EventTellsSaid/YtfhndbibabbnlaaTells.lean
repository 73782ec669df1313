/- EventTells: of any two events whether they depend, and may be, is the document's; the same both ways. -/
import Derived.Test.YtfhndbibabbnlaaWake3
import Derived.Deep.RegionHeld3
namespace Go.Proofs.Ytfhndbibabbnlaa
open Go.RowKit

theorem below_step {w8 W w' : World} (h1 : Below w8.heap.size w8 W) (hb : Below W.heap.size W w') : Below w8.heap.size w8 w' := h1.trans (hb.mono h1.size)

set_option maxRecDepth 100000 in
set_option maxHeartbeats 4000000 in
theorem tells_any (e f : Ev) (w : World) : Calls Try.prog 3 #[.agg #[.int .i64 e.thread, .int .i64 e.kind, .int .i64 e.obj, .bool e.fail], .agg #[.int .i64 f.thread, .int .i64 f.kind, .int .i64 f.obj, .bool f.fail]] w fun r w' => r = .returned (.bool true) ∧ Below w.heap.size w w' := by
  have hbx := two_boxes e f w
  have hw0 := below_alloc2 w (.cells #[.int .i64 e.thread, .int .i64 e.kind, .int .i64 e.obj, .bool e.fail] 23) (.cells #[.int .i64 f.thread, .int .i64 f.kind, .int .i64 f.obj, .bool f.fail] 23)
  go_enter Try.func3, Try.ntmps3
  go_wp2_with fail
  generalize (w.alloc (.cells #[.int .i64 e.thread, .int .i64 e.kind, .int .i64 e.obj, .bool e.fail] 23)).alloc (.cells #[.int .i64 f.thread, .int .i64 f.kind, .int .i64 f.obj, .bool f.fail] 23) = W at *
  have HBX := Lib.hid hbx
  clear hbx
  have HK : Hid (∀ w', Below W.heap.size W w' → w'.cell? ⟨w.heap.size, 0, none⟩ = some (.int .i64 e.thread) ∧ w'.cell? ⟨w.heap.size, 1, none⟩ = some (.int .i64 e.kind) ∧ w'.cell? ⟨w.heap.size, 2, none⟩ = some (.int .i64 e.obj) ∧ w'.cell? ⟨w.heap.size, 3, none⟩ = some (.bool e.fail) ∧ w'.cell? ⟨w.heap.size + 1, 0, none⟩ = some (.int .i64 f.thread) ∧ w'.cell? ⟨w.heap.size + 1, 1, none⟩ = some (.int .i64 f.kind) ∧ w'.cell? ⟨w.heap.size + 1, 2, none⟩ = some (.int .i64 f.obj) ∧ w'.cell? ⟨w.heap.size + 1, 3, none⟩ = some (.bool f.fail) ∧ Below W.heap.size W w') := by
    intro w' h
    obtain ⟨x0, x1, x2, x3⟩ := (HBX.out.1.later h).cells
    obtain ⟨y0, y1, y2, y3⟩ := (HBX.out.2.later h).cells
    exact ⟨x0, x1, x2, x3, y0, y1, y2, y3, h⟩
  have hB9 : Below W.heap.size W W.drew := (Below.refl _ _).drew
  obtain ⟨D, hD⟩ : ∃ D, dep e f = D := ⟨_, rfl⟩
  obtain ⟨R, hR⟩ : ∃ R, rightEv e = R := ⟨_, rfl⟩
  have HAW : Hid (∀ w', Calls Try.prog 9 #[] w' fun r w'' => r = .returned (.bool true) ∧ Below w'.heap.size w' w'') := fun w' => awake_any w'
  have HD1 : Hid (∀ w', Calls Try.prog 10 #[.agg #[.int .i64 e.thread, .int .i64 e.kind, .int .i64 e.obj, .bool e.fail], .agg #[.int .i64 f.thread, .int .i64 f.kind, .int .i64 f.obj, .bool f.fail]] w' fun r w'' => r = .returned (.bool D) ∧ Below w'.heap.size w' w'') := fun w' => by rw [← hD]; exact depends_any e f w'
  have HD2 : Hid (∀ w', Calls Try.prog 11 #[.agg #[.int .i64 e.thread, .int .i64 e.kind, .int .i64 e.obj, .bool e.fail], .agg #[.int .i64 f.thread, .int .i64 f.kind, .int .i64 f.obj, .bool f.fail]] w' fun r w'' => r = .returned (.bool D) ∧ Below w'.heap.size w' w'') := fun w' => by rw [← hD]; exact refDepends_any e f w'
  have HD3 : Hid (∀ w', Calls Try.prog 10 #[.agg #[.int .i64 f.thread, .int .i64 f.kind, .int .i64 f.obj, .bool f.fail], .agg #[.int .i64 e.thread, .int .i64 e.kind, .int .i64 e.obj, .bool e.fail]] w' fun r w'' => r = .returned (.bool D) ∧ Below w'.heap.size w' w'') := fun w' => by rw [← hD, dep_symm]; exact depends_any f e w'
  have HR1 : Hid (∀ w', Calls Try.prog 12 #[.agg #[.int .i64 e.thread, .int .i64 e.kind, .int .i64 e.obj, .bool e.fail]] w' fun r w'' => r = .returned (.bool R) ∧ Below w'.heap.size w' w'') := fun w' => by rw [← hR]; exact evRight_any e w'
  have HR2 : Hid (∀ w', Calls Try.prog 13 #[.agg #[.int .i64 e.thread, .int .i64 e.kind, .int .i64 e.obj, .bool e.fail]] w' fun r w'' => r = .returned (.bool R) ∧ Below w'.heap.size w' w'') := fun w' => by rw [← hR]; exact refEvRight_any e w'
  have hDD : (D == D) = true := by simp
  have hRR : (R == R) = true := by simp
  clear hD hR HBX
  go_region_held3 (fun w' => w'.cell? ⟨w.heap.size, 0, none⟩ = some (.int .i64 e.thread) ∧ w'.cell? ⟨w.heap.size, 1, none⟩ = some (.int .i64 e.kind) ∧ w'.cell? ⟨w.heap.size, 2, none⟩ = some (.int .i64 e.obj) ∧ w'.cell? ⟨w.heap.size, 3, none⟩ = some (.bool e.fail) ∧ w'.cell? ⟨w.heap.size + 1, 0, none⟩ = some (.int .i64 f.thread) ∧ w'.cell? ⟨w.heap.size + 1, 1, none⟩ = some (.int .i64 f.kind) ∧ w'.cell? ⟨w.heap.size + 1, 2, none⟩ = some (.int .i64 f.obj) ∧ w'.cell? ⟨w.heap.size + 1, 3, none⟩ = some (.bool f.fail) ∧ Below W.heap.size W w') (first | exact HK.out _ hB9 | exact HK.out _ hB10 | exact HK.out _ hB11 | exact HK.out _ hB12 | exact HK.out _ hB13 | exact HK.out _ hB14 | exact HK.out _ hB15 | exact HK.out _ hB16)
    (first
      | (go_at_call 9; ((with_reducible refine (HAW.out _).mono ?_); rintro r w10 ⟨rfl, hb10⟩; have hB10 := below_step hB9 hb10; clear hB9))
      | (go_at_call 10; ((with_reducible refine (HD1.out _).mono ?_); rintro r w11 ⟨rfl, hb11⟩; have hB11 := below_step hB10 hb11; clear hB10))
      | (go_at_call 11; ((with_reducible refine (HD2.out _).mono ?_); rintro r w12 ⟨rfl, hb12⟩; have hB12 := below_step hB11 hb12; clear hB11))
      | (go_at_call 10; ((with_reducible refine (HD1.out _).mono ?_); rintro r w13 ⟨rfl, hb13⟩; have hB13 := below_step hB12 hb13; clear hB12))
      | (go_at_call 10; ((with_reducible refine (HD3.out _).mono ?_); rintro r w14 ⟨rfl, hb14⟩; have hB14 := below_step hB13 hb14; clear hB13))
      | (go_at_call 12; ((with_reducible refine (HR1.out _).mono ?_); rintro r w15 ⟨rfl, hb15⟩; have hB15 := below_step hB14 hb15; clear hB14))
      | (go_at_call 13; ((with_reducible refine (HR2.out _).mono ?_); rintro r w16 ⟨rfl, hb16⟩; have hB16 := below_step hB15 hb16; clear hB15)))
  go_wp2
  go_ret
  exact ⟨rfl, hw0.trans (hB16.mono hw0.size)⟩

end Go.Proofs.Ytfhndbibabbnlaa
