/- The law's awake of layer 5. -/
import Derived.Test.YtfefidmbkbigoaaWake5a
namespace Go.Proofs.Ytfefidmbkbigoaa
open Go.RowKit

set_option maxRecDepth 100000 in
set_option maxHeartbeats 4000000 in
theorem awake5_any (w : World) : Calls Try.prog 18 #[] w fun r w' => r = .returned (.bool true) ∧ Below w.heap.size w w' := by
  have hW1 : ∃ W1, W1 = w.alloc (.cells #[.int .i64 1, .int .i64 1, .int .i64 0, .bool false, .int .i64 0, .int .i64 1, .int .i64 0, .bool false, .int .i64 0, .int .i64 3, .int .i64 0, .bool false] 28) ∧ EvsAt W1 (some ⟨w.heap.size, 0, none⟩) wl5 ∧ Below w.heap.size w W1 := ⟨_, rfl, evs_three5 w v50 v51 v52, below_alloc1 _ _⟩
  obtain ⟨W1, hW1, hE1, hb1⟩ := hW1
  have HE1 := Lib.hid hE1
  have HW := Lib.hid hW1
  clear hW1 hE1
  go_enter Try.func18, Try.ntmps18
  go_wp2_with fail
  rw [← HW.out]
  clear HW
  refine (wk5_levels W1 _ HE1.out).mono ?_
  rintro r W2 ⟨b, o, cap, sa, so, sc, rfl, hl2, x0, y0, hb2⟩
  have HL2 := Lib.hid hl2
  have HXY := Lib.hid (And.intro x0 y0)
  have HE2 := Lib.hid (HE1.out.later hb2)
  have hB2 := hb1.trans (hb2.mono hb1.size)
  clear hl2 x0 y0 HE1 hb1 hb2
  go_wp2_with fail
  refine (wk5_key W2 _ HE2.out).mono ?_
  rintro r W3 ⟨rfl, hb3⟩
  have HL3 := Lib.hid (HL2.out.later hb3)
  have HXY3 := Lib.hid (And.intro (cell_later hb3 HXY.out.1) (cell_later hb3 HXY.out.2))
  have hB3 := hB2.trans (hb3.mono hB2.size)
  clear HL2 HXY HE2 hB2 hb3
  go_wp2_with fail
  refine (wk5_read W3).mono ?_
  rintro r W4 ⟨a4, cap4, rfl, hl4, hb4⟩
  have HM4 := Lib.hid hl4
  have HL4 := Lib.hid (HL3.out.later hb4)
  have HXY4 := Lib.hid (And.intro (cell_later hb4 HXY3.out.1) (cell_later hb4 HXY3.out.2))
  have hB4 := hB3.trans (hb4.mono hB3.size)
  clear HL3 HXY3 hl4 hB3 hb4
  go_wp2_with fail
  refine (wk5_read0 W4).mono ?_
  rintro r W5 ⟨rfl, hb5⟩
  have hB5 := hB4.trans (hb5.mono hB4.size)
  have HQ : Hid (∀ w', Below W5.heap.size W5 w' → (w'.cell? ⟨b, o, none⟩ = some (.slice (some ⟨sa, so, none⟩) 2 sc) ∧ w'.cell? ⟨sa, so, none⟩ = some (.int .i64 0)) ∧ LvAt w' (some ⟨b, o, none⟩) lw5 ∧ LvAt w' a4 lw5 ∧ Below W5.heap.size W5 w') := by
    intro w' h
    have h9 := hb5.trans (h.mono hb5.size)
    exact ⟨⟨cell_later h9 HXY4.out.1, cell_later h9 HXY4.out.2⟩, HL4.out.later h9, HM4.out.later h9, h⟩
  have x5 := cell_later hb5 HXY4.out.1
  have y5 := cell_later hb5 HXY4.out.2
  clear HL4 HM4 HXY4 hB4 hb5
  go_wp2_with fail
  have h9 := HQ.out _ (Below.refl _ _)
  refine (wk5_same W5 _ _ _ _ h9.2.1 h9.2.2.1).mono ?_
  rintro r w10 ⟨rfl, hb10⟩
  have h10 := HQ.out _ hb10
  clear h9 x5 y5
  go_wp2_with fail
  refine (wk5_row w10 _ _ h10.2.1).mono ?_
  rintro r w11 ⟨a11, cap11, rfl, hb11⟩
  have hB11 := below_step5 hb10 hb11
  clear h10 hb10 hb11
  go_wp2_with fail
  refine (wk5_key0 w11).mono ?_
  rintro r w12 ⟨rfl, hb12⟩
  have hB12 := below_step5 hB11 hb12
  clear hB11 hb12
  go_wp2_with fail
  refine (wk5_key1 _ _ (evs_zev w12)).mono ?_
  rintro r w13 ⟨rfl, hb13⟩
  have hB13 := below_step5 (hB12.alloc hB12.size _) hb13
  clear hB12 hb13
  have hl : LvAt ((w13.alloc (.cells #[] 28)).alloc (.cells #[.slice (some ⟨w13.heap.size, 0, none⟩) 0 0] 22)) (some ⟨w13.heap.size + 1, 0, none⟩) [[]] := by
    have h := lv_nil1 (w13.alloc (.cells #[] 28)) (some ⟨w13.heap.size, 0, none⟩) (by simp)
    rwa [World.size_alloc] at h
  have hba := below_alloc2 w13 (.cells #[] 28) (.cells #[.slice (some ⟨w13.heap.size, 0, none⟩) 0 0] 22)
  have HL := Lib.hid hl
  have hBa := below_step5 hB13 hba
  clear hl hba hB13
  go_wp2_with fail
  generalize (w13.alloc (.cells #[] 28)).alloc (.cells #[.slice (some ⟨w13.heap.size, 0, none⟩) 0 0] 22) = W14 at *
  refine (wk5_print W14 _ HL.out).mono ?_
  rintro r w14 ⟨rfl, hb14⟩
  have hB14 := below_step5 hBa hb14
  clear hBa hb14
  go_wp2
  go_ret
  exact ⟨rfl, hB5.trans (hB14.mono hB5.size)⟩

end Go.Proofs.Ytfefidmbkbigoaa
