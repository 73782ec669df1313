/- The law's awake of layer 5. -/
import Derived.Test.YtljlaopjimkcmaaReadF
import Derived.Test.YtljlaopjimkcmaaRefLvSame
namespace Go.Proofs.Ytljlaopjimkcmaa
open Go.RowKit

def v50 : Ev := ⟨1, 1, 0, false⟩
def v51 : Ev := ⟨0, 1, 0, false⟩
def v52 : Ev := ⟨0, 3, 0, false⟩
def wl5 : List Ev := [v50, v51, v52]
def lw5 : List (List Ev) := [[v51, v50], [v52]]
def zev : Ev := ⟨0, 0, 0, false⟩
def key5 : List UInt8 := [2, 4, 5, 1, 12, 0]
theorem wl5_levels : levelsF wl5 = lw5 := by decide
theorem wl5_key : bstr (keyF wl5) = ⟨#[2, 4, 5, 1, 12, 0]⟩ := by decide
theorem nil_key : bstr (keyF []) = ⟨#[0]⟩ := by decide
theorem zev_key : bstr (keyF [zev]) = ⟨#[]⟩ := by decide
theorem key5_parse : parseN 200 key5 = lw5 := by decide
theorem lw5_print : bstr (printF lw5) = ⟨key5.toArray⟩ := by decide
theorem nil_print : bstr (printF [[]]) = ⟨#[]⟩ := by decide
theorem nil_parse : parseN 200 [] = [] := by decide
theorem nil_bad : ¬ keyOk [] := by
  unfold keyOk
  rw [nil_parse]
  decide
theorem key5_ok : keyOk key5 := by
  unfold keyOk
  rw [key5_parse]
  exact lw5_print

theorem below_step5 {w8 W w' : World} (h1 : Below w8.heap.size w8 W) (hb : Below W.heap.size W w') : Below w8.heap.size w8 w' := h1.trans (hb.mono h1.size)
theorem evs_three5 (w : World) (e f d : Ev) : EvsAt (w.alloc (.cells #[.int .i64 e.thread, .int .i64 e.kind, .int .i64 e.obj, .bool e.fail, .int .i64 f.thread, .int .i64 f.kind, .int .i64 f.obj, .bool f.fail, .int .i64 d.thread, .int .i64 d.kind, .int .i64 d.obj, .bool d.fail] 39)) (some ⟨w.heap.size, 0, none⟩) [e, f, d] := by
  refine ⟨by simp [maxLen], fun _ => ⟨w.heap.size, 0, rfl, fun i hi => ?_⟩⟩
  have : i = 0 ∨ i = 1 ∨ i = 2 := by simp at hi; omega
  rcases this with rfl | rfl | rfl <;> simp
theorem evs_zev (w : World) : EvsAt (w.alloc (.cells #[.int .i64 0, .int .i64 0, .int .i64 0, .bool false] 39)) (some ⟨w.heap.size, 0, none⟩) [zev] := by
  refine ⟨by simp [maxLen], fun _ => ⟨w.heap.size, 0, rfl, fun i hi => ?_⟩⟩
  obtain rfl : i = 0 := by simp at hi; omega
  simp [zev]
theorem lv_nil1 (w : World) (a : Option Addr) (_ha : a = none → False) : LvAt (w.alloc (.cells #[.slice a 0 0] 22)) (some ⟨w.heap.size, 0, none⟩) [[]] := by
  refine ⟨[⟨a, 0, 0⟩], rfl, ⟨by simp [maxLen], fun _ => ⟨w.heap.size, 0, rfl, fun i hi j u hj => ?_⟩⟩, fun i hi => ?_⟩
  · obtain rfl : i = 0 := by simp at hi; omega
    have hj0 : j = 0 := by
      have := (List.getElem?_eq_some_iff.1 hj).1
      simp [slCell] at this
      exact this
    subst hj0
    simp [slCell] at hj
    subst hj
    simp
  · obtain rfl : i = 0 := by simp at hi; omega
    exact ⟨rfl, evsAt_nil _ _, fun _ => rfl, Nat.le_refl _⟩
theorem wk5_levels (w : World) (a : Option Addr) (h : EvsAt w a wl5) : Calls Try.prog 6 #[.slice a 3 3] w fun r w' => ∃ b o cap sa so sc, r = .returned (.slice (some ⟨b, o, none⟩) 2 cap) ∧ LvAt w' (some ⟨b, o, none⟩) lw5 ∧
    w'.cell? ⟨b, o, none⟩ = some (.slice (some ⟨sa, so, none⟩) 2 sc) ∧ w'.cell? ⟨sa, so, none⟩ = some (.int .i64 0) ∧ Below w.heap.size w w' :=
  (levels_any a 3 wl5 w h).mono fun r w' ⟨v, ss, h1, h2, h3⟩ => by
    obtain ⟨a2, cap2, rfl, hat, _⟩ := OwnLv.formF h2
    rw [wl5_levels] at hat h1
    obtain ⟨b, o, sa, sc, rfl, c0, he, _⟩ := hat.one (k := 0) (by decide)
    obtain ⟨sb, so, rfl, x0, _⟩ := he.one (k := 0) (by decide)
    simp only [Nat.zero_mul, Nat.add_zero] at x0 c0
    exact ⟨b, o, cap2, sb, so, sc, h1, hat, c0, x0, h3⟩
theorem wk5_key (w : World) (a : Option Addr) (h : EvsAt w a wl5) : Calls Try.prog 7 #[.slice a 3 3] w fun r w' => r = .returned (.string ⟨#[2, 4, 5, 1, 12, 0]⟩) ∧ Below w.heap.size w w' :=
  (key_any a 3 wl5 w h).mono fun r w' ⟨h1, h2⟩ => ⟨by rw [h1, wl5_key], h2⟩
theorem wk5_key0 (w : World) : Calls Try.prog 7 #[.slice none 0 0] w fun r w' => r = .returned (.string ⟨#[0]⟩) ∧ Below w.heap.size w w' :=
  (key_any none 0 [] w (evsAt_nil _ _)).mono fun r w' ⟨h1, h2⟩ => ⟨by rw [h1, nil_key], h2⟩
theorem wk5_key1 (w : World) (a : Option Addr) (h : EvsAt w a [zev]) : Calls Try.prog 7 #[.slice a 1 1] w fun r w' => r = .returned (.string ⟨#[]⟩) ∧ Below w.heap.size w w' :=
  (key_any a 1 [zev] w h).mono fun r w' ⟨h1, h2⟩ => ⟨by rw [h1, zev_key], h2⟩
theorem wk5_print (w : World) (a : Option Addr) (h : LvAt w a [[]]) : Calls Try.prog 15 #[.slice a 1 1] w fun r w' => r = .returned (.string ⟨#[]⟩) ∧ Below w.heap.size w w' :=
  (print_any a 1 [[]] w h (by decide) (by decide)).mono fun r w' ⟨h1, h2⟩ => ⟨by rw [h1, nil_print], h2⟩
theorem wk5_read (w : World) : Calls Try.prog 11 #[.string ⟨#[2, 4, 5, 1, 12, 0]⟩] w fun r w' => ∃ a cap, r = .returned (.tuple #[.slice a 2 cap, .int .i64 0]) ∧ LvAt w' a lw5 ∧ Below w.heap.size w w' :=
  (readF_any key5 w (by decide)).mono fun r w' ⟨h1, h2⟩ => by
    rcases h1 with ⟨_, v, ss, h3, h4⟩ | ⟨h3, _⟩
    · rw [key5_parse] at h4
      obtain ⟨a, cap, rfl, hat, _⟩ := OwnLv.form h4 (by decide) (by decide)
      exact ⟨a, cap, h3, hat, h2⟩
    · exact absurd key5_ok h3
theorem wk5_read0 (w : World) : Calls Try.prog 11 #[.string ⟨#[]⟩] w fun r w' => r = .returned (.tuple #[.slice none 0 0, .int .i64 3]) ∧ Below w.heap.size w w' :=
  (readF_any [] w (by decide)).mono fun r w' ⟨h1, h2⟩ => by
    rcases h1 with ⟨h3, _⟩ | ⟨_, h3⟩
    · exact absurd h3 nil_bad
    · exact ⟨h3, h2⟩
theorem wk5_same (w : World) (a b : Option Addr) (cap cap' : Nat) (h : LvAt w a lw5) (h' : LvAt w b lw5) : Calls Try.prog 8 #[.slice a 2 cap, .slice b 2 cap'] w fun r w' => r = .returned (.bool true) ∧ Below w.heap.size w w' :=
  have hs : ∀ i, (lw5.getD i []).length ≤ 1000000 := fun i => by
    rcases (by omega : i = 0 ∨ i = 1 ∨ 2 ≤ i) with rfl | rfl | hi
    · decide
    · decide
    · have e : lw5.getD i [] = [] := by simp [List.getD, lw5, List.getElem?_eq_none (l := [[v51, v50], [v52]]) (by simpa using hi)]
      rw [e]
      exact Nat.zero_le _
  (refLvSame_any a b cap cap' lw5 lw5 w h h' (by decide) (by decide) hs hs).mono fun r w' ⟨h1, h2⟩ => ⟨by rw [h1]; simp, h2⟩
theorem wk5_row (w : World) (a : Option Addr) (cap : Nat) (h : LvAt w a lw5) : Calls Try.prog 13 #[.slice a 2 cap] w fun r w' => ∃ a' cap', r = .returned (.slice a' 3 cap') ∧ Below w.heap.size w w' :=
  (row_any a cap lw5 w h (by decide) (by decide)).mono fun r w' ⟨v, h1, h2, h3⟩ => by
    obtain ⟨a', cap', rfl, _⟩ := OwnE.form h2 (by decide)
    exact ⟨a', cap', h1, h3⟩


set_option maxRecDepth 100000 in
set_option maxHeartbeats 4000000 in
theorem awake5_any (w : World) : Calls Try.prog 5 #[] w fun r w' => r = .returned (.bool true) ∧ Below w.heap.size w w' := by
  have hW1 : ∃ W1, W1 = w.alloc (.cells #[.int .i64 1, .int .i64 1, .int .i64 0, .bool false, .int .i64 0, .int .i64 1, .int .i64 0, .bool false, .int .i64 0, .int .i64 3, .int .i64 0, .bool false] 39) ∧ EvsAt W1 (some ⟨w.heap.size, 0, none⟩) wl5 ∧ Below w.heap.size w W1 := ⟨_, rfl, evs_three5 w v50 v51 v52, below_alloc1 _ _⟩
  obtain ⟨W1, hW1, hE1, hb1⟩ := hW1
  have HE1 := Lib.hid hE1
  have HW := Lib.hid hW1
  clear hW1 hE1
  go_enter Try.func5, Try.ntmps5
  go_wp2_with fail
  rw [← HW.out]
  clear HW
  refine (wk5_levels W1 _ HE1.out).mono ?_
  rintro r W2 ⟨b, o, cap, sa, so, sc, rfl, hl2, x0, y0, hb2⟩
  have HL2 := Lib.hid hl2
  have HXY := Lib.hid (And.intro x0 y0)
  have HE2 := Lib.hid (HE1.out.later hb2)
  have hB2 := hb1.trans (hb2.mono hb1.size)
  clear hl2 x0 y0 HE1 hb1 hb2
  go_wp2_with fail
  refine (wk5_key W2 _ HE2.out).mono ?_
  rintro r W3 ⟨rfl, hb3⟩
  have HL3 := Lib.hid (HL2.out.later hb3)
  have HXY3 := Lib.hid (And.intro (cell_later hb3 HXY.out.1) (cell_later hb3 HXY.out.2))
  have hB3 := hB2.trans (hb3.mono hB2.size)
  clear HL2 HXY HE2 hB2 hb3
  go_wp2_with fail
  refine (wk5_read W3).mono ?_
  rintro r W4 ⟨a4, cap4, rfl, hl4, hb4⟩
  have HM4 := Lib.hid hl4
  have HL4 := Lib.hid (HL3.out.later hb4)
  have HXY4 := Lib.hid (And.intro (cell_later hb4 HXY3.out.1) (cell_later hb4 HXY3.out.2))
  have hB4 := hB3.trans (hb4.mono hB3.size)
  clear HL3 HXY3 hl4 hB3 hb4
  go_wp2_with fail
  refine (wk5_read0 W4).mono ?_
  rintro r W5 ⟨rfl, hb5⟩
  have hB5 := hB4.trans (hb5.mono hB4.size)
  have HQ : Hid (∀ w', Below W5.heap.size W5 w' → (w'.cell? ⟨b, o, none⟩ = some (.slice (some ⟨sa, so, none⟩) 2 sc) ∧ w'.cell? ⟨sa, so, none⟩ = some (.int .i64 0)) ∧ LvAt w' (some ⟨b, o, none⟩) lw5 ∧ LvAt w' a4 lw5 ∧ Below W5.heap.size W5 w') := by
    intro w' h
    have h9 := hb5.trans (h.mono hb5.size)
    exact ⟨⟨cell_later h9 HXY4.out.1, cell_later h9 HXY4.out.2⟩, HL4.out.later h9, HM4.out.later h9, h⟩
  have x5 := cell_later hb5 HXY4.out.1
  have y5 := cell_later hb5 HXY4.out.2
  clear HL4 HM4 HXY4 hB4 hb5
  go_wp2_with fail
  have h9 := HQ.out _ (Below.refl _ _)
  refine (wk5_same W5 _ _ _ _ h9.2.1 h9.2.2.1).mono ?_
  rintro r w10 ⟨rfl, hb10⟩
  have h10 := HQ.out _ hb10
  clear h9 x5 y5
  go_wp2_with fail
  refine (wk5_row w10 _ _ h10.2.1).mono ?_
  rintro r w11 ⟨a11, cap11, rfl, hb11⟩
  have hB11 := below_step5 hb10 hb11
  clear h10 hb10 hb11
  go_wp2_with fail
  refine (wk5_key0 w11).mono ?_
  rintro r w12 ⟨rfl, hb12⟩
  have hB12 := below_step5 hB11 hb12
  clear hB11 hb12
  go_wp2_with fail
  refine (wk5_key1 _ _ (evs_zev w12)).mono ?_
  rintro r w13 ⟨rfl, hb13⟩
  have hB13 := below_step5 (hB12.alloc hB12.size _) hb13
  clear hB12 hb13
  have hl : LvAt ((w13.alloc (.cells #[] 39)).alloc (.cells #[.slice (some ⟨w13.heap.size, 0, none⟩) 0 0] 22)) (some ⟨w13.heap.size + 1, 0, none⟩) [[]] := by
    have h := lv_nil1 (w13.alloc (.cells #[] 39)) (some ⟨w13.heap.size, 0, none⟩) (by simp)
    rwa [World.size_alloc] at h
  have hba := below_alloc2 w13 (.cells #[] 39) (.cells #[.slice (some ⟨w13.heap.size, 0, none⟩) 0 0] 22)
  have HL := Lib.hid hl
  have hBa := below_step5 hB13 hba
  clear hl hba hB13
  go_wp2_with fail
  generalize (w13.alloc (.cells #[] 39)).alloc (.cells #[.slice (some ⟨w13.heap.size, 0, none⟩) 0 0] 22) = W14 at *
  refine (wk5_print W14 _ HL.out).mono ?_
  rintro r w14 ⟨rfl, hb14⟩
  have hB14 := below_step5 hBa hb14
  clear hBa hb14
  go_wp2
  go_ret
  exact ⟨rfl, hB5.trans (hB14.mono hB5.size)⟩

end Go.Proofs.Ytljlaopjimkcmaa
