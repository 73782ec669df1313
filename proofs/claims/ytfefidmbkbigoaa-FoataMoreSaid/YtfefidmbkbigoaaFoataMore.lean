/- FoataMore: one event more behind a row stands in one level more of it, or in one further level; all else stays. -/
import Derived.Test.YtfefidmbkbigoaaMoreReg
import Derived.Deep.DeepCutAuto
import Derived.Deep.RegionHeld3
namespace Go.Proofs.Ytfefidmbkbigoaa
open Go.RowKit

theorem levelsF_right2 {l : List Ev} (h : rightL l = true) (hl : l.length ≤ 200) : levelsF l = lvls l := by
  unfold levelsF rightF
  rw [h]
  simp [hl]
/-- Two levels' lists that a region leaves. -/
def TwoLv (w4 : World) (m m2 : List (List Ev)) (s5 s6 : Value) (wx : World) : Prop :=
  ∃ a5 c5 a8 c8, s5 = .slice a5 m.length c5 ∧ s6 = .slice a8 m2.length c8 ∧ LvAt wx a5 m ∧ LvAt wx a8 m2 ∧ Below w4.heap.size w4 wx
theorem insE_not {e : Ev} (r : List Ev) (h : ∀ x ∈ r, x ≠ e) : (insE e r).filter (fun x => decide (x ≠ e)) = r := by
  have hr : ∀ r : List Ev, (∀ x ∈ r, x ≠ e) → r.filter (fun x => decide (x ≠ e)) = r := fun r hr => List.filter_eq_self.2 fun x hx => by simp [hr x hx]
  induction r with
  | nil => simp [insE]
  | cons y r ih =>
    unfold insE
    split
    · rw [List.filter_cons_of_neg (by simp), hr _ h]
    · rw [List.filter_cons_of_pos (by simp [h y (by simp)]), ih fun x hx => h x (by simp [hx])]

set_option maxRecDepth 100000 in
set_option maxHeartbeats 8000000 in
theorem foataMore_any (a : Option Addr) (l : List Ev) (cap : Nat) (e : Ev) (w : World) (hl : EvsAt w a l) (hna : a = none → cap = 0) :
    Calls Try.prog 9 #[.slice a l.length cap, .agg #[.int .i64 e.thread, .int .i64 e.kind, .int .i64 e.obj, .bool e.fail]] w fun r w' => r = .returned (.bool true) ∧ Below w.heap.size w w' := by
  have hmx := hl.1
  unfold maxLen at hmx
  have HL := Lib.hid hl
  have HNA : Hid (a = none → cap = 0 ∧ l = []) := fun h => ⟨hna h, by subst h; exact evsAt_none hl⟩
  clear hl hna
  have HBX0 := Lib.hid (EvBox.new w e)
  have hb0 := below_alloc1 w (.cells #[.int .i64 e.thread, .int .i64 e.kind, .int .i64 e.obj, .bool e.fail] 28)
  obtain ⟨W0, hW0⟩ : ∃ W0, W0 = w.alloc (.cells #[.int .i64 e.thread, .int .i64 e.kind, .int .i64 e.obj, .bool e.fail] 28) := ⟨_, rfl⟩
  rw [← hW0] at HBX0 hb0
  have HW0 := Lib.hid hW0
  clear hW0
  by_cases hlen : l.length ≤ 60
  case neg =>
    have hq : 60 < l.length := by omega
    clear hlen
    go_enter Try.func9, Try.ntmps9
    go_wp2_with fail
    rw [← HW0.out]
    refine (awake5_any W0).mono ?_
    rintro r w1 ⟨rfl, hb1⟩
    go_wp2_with fail
    refine (awake5_any w1).mono ?_
    rintro r w2 ⟨rfl, hb2⟩
    go_wp2
    go_ret
    have hb3 := hb0.trans (hb1.mono hb0.size)
    exact ⟨rfl, hb3.trans (hb2.mono hb3.size)⟩
  have hq40 : decide ((60 : Int) < (l.length : Int)) = false := by simp; omega
  have hq41 : decide (60 < l.length) = false := by simp; omega
  cases hr : rightL l
  case false =>
    have HR := Lib.hid hr
    clear hr
    go_enter Try.func9, Try.ntmps9
    go_wp2_with fail
    rw [← HW0.out]
    refine (awake5_any W0).mono ?_
    rintro r w1 ⟨rfl, hb1⟩
    have hb2 := hb0.trans (hb1.mono hb0.size)
    go_wp2_with fail
    refine (rows_any a cap l w1 (HL.out.later hb2)).mono ?_
    rintro r w2 ⟨rfl, hb3⟩
    rw [HR.out]
    have hb4 := hb2.trans (hb3.mono hb2.size)
    go_wp2_with fail
    refine (awake5_any w2).mono ?_
    rintro r w3 ⟨rfl, hb5⟩
    go_wp2
    go_ret
    exact ⟨rfl, hb4.trans (hb5.mono hb4.size)⟩
  have HR := Lib.hid hr
  clear hr
  go_enter Try.func9, Try.ntmps9
  go_wp2_with fail
  rw [← HW0.out]
  clear HW0
  refine (awake5_any W0).mono ?_
  rintro r w1 ⟨rfl, hb1⟩
  have hb2 := hb0.trans (hb1.mono hb0.size)
  have HBX1 := Lib.hid (HBX0.out.later hb1)
  clear hb0 hb1 HBX0
  go_wp2_with fail
  refine (rows_any a cap l w1 (HL.out.later hb2)).mono ?_
  rintro r w2 ⟨rfl, hb3⟩
  rw [HR.out]
  have hb4 := hb2.trans (hb3.mono hb2.size)
  have HBX2 := Lib.hid (HBX1.out.later hb3)
  clear hb2 hb3 HBX1
  obtain ⟨x0, x1, x2, x3⟩ := HBX2.out.cells
  go_wp2_with fail
  refine (refEvRight_any e w2).mono ?_
  rintro r w4 ⟨rfl, hb5⟩
  have hb6 := hb4.trans (hb5.mono hb4.size)
  have HBX4 := Lib.hid (HBX2.out.later hb5)
  clear hb4 hb5 HBX2 x0 x1 x2 x3
  cases hre : rightEv e
  case false =>
    clear hre
    go_wp2_with fail
    refine (awake5_any w4).mono ?_
    rintro r w5 ⟨rfl, hb7⟩
    go_wp2
    go_ret
    exact ⟨rfl, hb6.trans (hb7.mono hb6.size)⟩
  have HRE := Lib.hid hre
  clear hre
  obtain ⟨L2, hL2, hem⟩ := em_more l e (by omega)
  have HEM := Lib.hid hem
  have hl2 : L2.length ≤ 61 := by rw [hL2]; simp; omega
  have HLV1 : Hid (∀ W, Below w4.heap.size w4 W → Calls Try.prog 19 #[.slice a l.length cap] W fun r w' => ∃ a5 c5, r = .returned (.slice a5 (lvls l).length c5) ∧ LvAt w' a5 (lvls l) ∧ Below W.heap.size W w') := fun W hW =>
    (levels_any a cap l W (HL.out.later (hb6.trans (hW.mono hb6.size)))).mono fun r w' ⟨v, ss, h1, h2, h3⟩ => by
      obtain ⟨a6, c6, rfl, hat, _⟩ := OwnLv.formF h2
      rw [levelsF_right2 HR.out (by omega)] at h1 hat
      exact ⟨a6, c6, h1, hat, h3⟩
  have HLV2 : Hid (∀ a7 c7 W, EvsAt W a7 L2 → Calls Try.prog 19 #[.slice a7 L2.length c7] W fun r w' => ∃ a8 c8, r = .returned (.slice a8 (addL (lvls l) e).length c8) ∧ LvAt w' a8 (addL (lvls l) e) ∧ Below W.heap.size W w') := fun a7 c7 W hW =>
    (levels_any a7 c7 L2 W hW).mono fun r w' ⟨v, ss, h1, h2, h3⟩ => by
      obtain ⟨a6, c6, rfl, hat, _⟩ := OwnLv.formF h2
      have hr2 : rightL L2 = true := by
        have h := HR.out
        unfold rightL at *
        rw [hL2, List.all_append, h]
        simp [HRE.out]
      rw [levelsF_right2 hr2 (by omega), hL2, lvls_snoc] at h1 hat
      exact ⟨a6, c6, h1, hat, h3⟩
  have HLW : Hid (∀ W, Below w4.heap.size w4 W → EvsAt W a l) := fun W hW => HL.out.later (hb6.trans (hW.mono hb6.size))
  have HGET : Hid (∀ i, (addL (lvls l) e).getD i [] = if i = lvN (lvls l) e then insE e ((lvls l).getD i []) else (lvls l).getD i []) := fun i => addL_get i
  have HLN : Hid ((addL (lvls l) e).length = if lvN (lvls l) e < (lvls l).length then (lvls l).length else (lvls l).length + 1) := addL_length _ _
  have HOTH : Hid (∀ x ∈ (lvls l).getD (lvN (lvls l) e) [], x ≠ e) := fun x hx h => lv_other hx (by rw [h])
  have HSM : Hid (∀ i, ((lvls l).getD i []).length ≤ 60) := fun i => by have := lv_small l i; omega
  have hml : (lvls l).length ≤ 60 := by have := lv_count l; omega
  have hle := lvN_le (lvls l) e
  clear hL2 hem
  generalize addL (lvls l) e = m2 at *
  generalize lvN (lvls l) e = n at *
  generalize lvls l = m at *
  have HQ : Hid (∀ w', Below w4.heap.size w4 w' → w'.cell? ⟨w.heap.size, 0, none⟩ = some (.int .i64 e.thread) ∧ w'.cell? ⟨w.heap.size, 1, none⟩ = some (.int .i64 e.kind) ∧ w'.cell? ⟨w.heap.size, 2, none⟩ = some (.int .i64 e.obj) ∧ w'.cell? ⟨w.heap.size, 3, none⟩ = some (.bool e.fail)) := fun w' h => (HBX4.out.later h).cells
  go_upto_region 3 with (fail)
  go_cut [5, 6] (fun s5 s6 wx => TwoLv w4 m m2 s5 s6 wx)
  case first =>
    have hB9 : Below w4.heap.size w4 w4.drew := (Below.refl _ _).drew
    have hBA : Below w4.heap.size w4 (w4.alloc (.cells #[] 28)).drew := (below_alloc1 w4 _).drew
    have hBE : Below w4.heap.size w4 (w4.alloc (.cells #[.int .i64 e.thread, .int .i64 e.kind, .int .i64 e.obj, .bool e.fail] 28)).drew := (below_alloc1 w4 _).drew
    have hBAE : Below w4.heap.size w4 ((w4.alloc (.cells #[] 28)).alloc (.cells #[.int .i64 e.thread, .int .i64 e.kind, .int .i64 e.obj, .bool e.fail] 28)).drew := (below_alloc2 w4 _ _).drew
    have hBEA : Below w4.heap.size w4 ((w4.alloc (.cells #[.int .i64 e.thread, .int .i64 e.kind, .int .i64 e.obj, .bool e.fail] 28)).alloc (.cells #[] 28)).drew := (below_alloc2 w4 _ _).drew
    have HTE : Hid (EvsAt (w4.alloc (.cells #[.int .i64 e.thread, .int .i64 e.kind, .int .i64 e.obj, .bool e.fail] 28)).drew (some ⟨w4.heap.size, 0, none⟩) [e]) := evs_one1 w4 e
    have HTAE : Hid (EvsAt ((w4.alloc (.cells #[] 28)).alloc (.cells #[.int .i64 e.thread, .int .i64 e.kind, .int .i64 e.obj, .bool e.fail] 28)).drew (some ⟨w4.heap.size + 1, 0, none⟩) [e]) := evs_one2 w4 _ e
    have HTEA : Hid (EvsAt ((w4.alloc (.cells #[.int .i64 e.thread, .int .i64 e.kind, .int .i64 e.obj, .bool e.fail] 28)).alloc (.cells #[] 28)).drew (some ⟨w4.heap.size, 0, none⟩) [e]) := by
      have h := (evs_one1 w4 e).later (below_alloc1 _ (.cells #[] 28))
      exact h
    have hzl : ([] : List Ev).length + l.length ≤ 1000000 := by simp; omega
    have hzl2 : ([] ++ l : List Ev).length + [e].length ≤ 1000000 := by simp; omega
    go_wp2_with fail
    go_region_held3 (fun w' => w'.cell? ⟨w.heap.size, 0, none⟩ = some (.int .i64 e.thread) ∧ w'.cell? ⟨w.heap.size, 1, none⟩ = some (.int .i64 e.kind) ∧ w'.cell? ⟨w.heap.size, 2, none⟩ = some (.int .i64 e.obj) ∧ w'.cell? ⟨w.heap.size, 3, none⟩ = some (.bool e.fail))
      (first | exact HQ.out _ hB9 | exact HQ.out _ hBA | exact HQ.out _ hBE | exact HQ.out _ hBAE | exact HQ.out _ hBEA | exact HQ.out _ hB5 | exact HQ.out _ (hB5.alloc hB5.size _) | exact HQ.out _ ((hB5.alloc hB5.size _).alloc (hB5.alloc hB5.size _).size _) | exact HQ.out _ hB6 | exact HQ.out _ (hB6.alloc hB6.size _) | exact HQ.out _ hB7 | exact HQ.out _ hB8)
      (first
        | (go_at_call 19; ((with_reducible refine (HLV1.out _ hB9).mono ?_); rintro r w5 ⟨a5, c5, rfl, hl5, hb5⟩; have hB5 := below_step5 hB9 hb5; have HL5 := Lib.hid hl5; clear hl5 hb5))
        | (go_at_call 19; ((with_reducible refine (HLV1.out _ hBA).mono ?_); rintro r w5 ⟨a5, c5, rfl, hl5, hb5⟩; have hB5 := below_step5 hBA hb5; have HL5 := Lib.hid hl5; clear hl5 hb5))
        | (go_at_call 19; ((with_reducible refine (HLV1.out _ hBE).mono ?_); rintro r w5 ⟨a5, c5, rfl, hl5, hb5⟩; have hB5 := below_step5 hBE hb5; have HL5 := Lib.hid hl5; have HT5 := Lib.hid (HTE.out.later hb5); clear hl5 hb5))
        | (go_at_call 19; ((with_reducible refine (HLV1.out _ hBAE).mono ?_); rintro r w5 ⟨a5, c5, rfl, hl5, hb5⟩; have hB5 := below_step5 hBAE hb5; have HL5 := Lib.hid hl5; have HT5 := Lib.hid (HTAE.out.later hb5); clear hl5 hb5))
        | (go_at_call 19; ((with_reducible refine (HLV1.out _ hBEA).mono ?_); rintro r w5 ⟨a5, c5, rfl, hl5, hb5⟩; have hB5 := below_step5 hBEA hb5; have HL5 := Lib.hid hl5; have HT5 := Lib.hid (HTEA.out.later hb5); clear hl5 hb5))
        | (refine step_copyEm (w := w5) (by rfl) (.tmp 33) (.tmp 34) (by rfl) (World.heap w5).size _ [] (by rfl) (.inr ⟨rfl, _, rfl⟩) a cap l (by rfl) (HLW.out w5 hB5) HNA.out hzl (Nat.le_refl _) ?_; intro v6 w6 h6 hb6; have H6 := Lib.hid h6; have hsW : w4.heap.size ≤ (World.heap w5).size := (show Below w4.heap.size w4 w5 from hB5).size; have HLP : Hid (LvAt w5 a5 m) := HL5.out; have HB6 : Hid (Below (World.heap w5).size w5 w6) := hb6; have hB6 : Below w4.heap.size w4 w6 := below_step5 (show Below w4.heap.size w4 w5 from hB5) hb6; (try (have HT6 := Lib.hid (HT5.out.later hb6))); clear h6 hb6)
        | (refine step_copyEm (w := (w5.alloc (.cells #[.int .i64 e.thread, .int .i64 e.kind, .int .i64 e.obj, .bool e.fail] 28))) (by rfl) (.tmp 33) (.tmp 34) (by rfl) (World.heap (w5.alloc (.cells #[.int .i64 e.thread, .int .i64 e.kind, .int .i64 e.obj, .bool e.fail] 28))).size _ [] (by rfl) (.inr ⟨rfl, _, rfl⟩) a cap l (by rfl) (HLW.out (w5.alloc (.cells #[.int .i64 e.thread, .int .i64 e.kind, .int .i64 e.obj, .bool e.fail] 28)) (hB5.alloc hB5.size _)) HNA.out hzl (Nat.le_refl _) ?_; intro v6 w6 h6 hb6; have H6 := Lib.hid h6; have hsW : w4.heap.size ≤ (World.heap (w5.alloc (.cells #[.int .i64 e.thread, .int .i64 e.kind, .int .i64 e.obj, .bool e.fail] 28))).size := (show Below w4.heap.size w4 (w5.alloc (.cells #[.int .i64 e.thread, .int .i64 e.kind, .int .i64 e.obj, .bool e.fail] 28)) from (hB5.alloc hB5.size _)).size; have HLP : Hid (LvAt (w5.alloc (.cells #[.int .i64 e.thread, .int .i64 e.kind, .int .i64 e.obj, .bool e.fail] 28)) a5 m) := (HL5.out.later (below_alloc1 w5 _)); have HB6 : Hid (Below (World.heap (w5.alloc (.cells #[.int .i64 e.thread, .int .i64 e.kind, .int .i64 e.obj, .bool e.fail] 28))).size (w5.alloc (.cells #[.int .i64 e.thread, .int .i64 e.kind, .int .i64 e.obj, .bool e.fail] 28)) w6) := hb6; have hB6 : Below w4.heap.size w4 w6 := below_step5 (show Below w4.heap.size w4 (w5.alloc (.cells #[.int .i64 e.thread, .int .i64 e.kind, .int .i64 e.obj, .bool e.fail] 28)) from (hB5.alloc hB5.size _)) hb6; have HT6 := Lib.hid ((evs_one1 w5 e).later hb6); clear h6 hb6)
        | (refine step_copyEm (w := (w5.alloc (.cells #[] 28))) (by rfl) (.tmp 33) (.tmp 34) (by rfl) (World.heap (w5.alloc (.cells #[] 28))).size _ [] (by rfl) (.inr ⟨rfl, _, rfl⟩) a cap l (by rfl) (HLW.out (w5.alloc (.cells #[] 28)) (hB5.alloc hB5.size _)) HNA.out hzl (Nat.le_refl _) ?_; intro v6 w6 h6 hb6; have H6 := Lib.hid h6; have hsW : w4.heap.size ≤ (World.heap (w5.alloc (.cells #[] 28))).size := (show Below w4.heap.size w4 (w5.alloc (.cells #[] 28)) from (hB5.alloc hB5.size _)).size; have HLP : Hid (LvAt (w5.alloc (.cells #[] 28)) a5 m) := (HL5.out.later (below_alloc1 w5 _)); have HB6 : Hid (Below (World.heap (w5.alloc (.cells #[] 28))).size (w5.alloc (.cells #[] 28)) w6) := hb6; have hB6 : Below w4.heap.size w4 w6 := below_step5 (show Below w4.heap.size w4 (w5.alloc (.cells #[] 28)) from (hB5.alloc hB5.size _)) hb6; (try (have HT6 := Lib.hid ((HT5.out.later (below_alloc1 w5 _)).later hb6))); clear h6 hb6)
        | (refine step_copyEm (w := ((w5.alloc (.cells #[] 28)).alloc (.cells #[.int .i64 e.thread, .int .i64 e.kind, .int .i64 e.obj, .bool e.fail] 28))) (by rfl) (.tmp 33) (.tmp 34) (by rfl) (World.heap ((w5.alloc (.cells #[] 28)).alloc (.cells #[.int .i64 e.thread, .int .i64 e.kind, .int .i64 e.obj, .bool e.fail] 28))).size _ [] (by rfl) (.inr ⟨rfl, _, rfl⟩) a cap l (by rfl) (HLW.out ((w5.alloc (.cells #[] 28)).alloc (.cells #[.int .i64 e.thread, .int .i64 e.kind, .int .i64 e.obj, .bool e.fail] 28)) ((hB5.alloc hB5.size _).alloc (hB5.alloc hB5.size _).size _)) HNA.out hzl (Nat.le_refl _) ?_; intro v6 w6 h6 hb6; have H6 := Lib.hid h6; have hsW : w4.heap.size ≤ (World.heap ((w5.alloc (.cells #[] 28)).alloc (.cells #[.int .i64 e.thread, .int .i64 e.kind, .int .i64 e.obj, .bool e.fail] 28))).size := (show Below w4.heap.size w4 ((w5.alloc (.cells #[] 28)).alloc (.cells #[.int .i64 e.thread, .int .i64 e.kind, .int .i64 e.obj, .bool e.fail] 28)) from ((hB5.alloc hB5.size _).alloc (hB5.alloc hB5.size _).size _)).size; have HLP : Hid (LvAt ((w5.alloc (.cells #[] 28)).alloc (.cells #[.int .i64 e.thread, .int .i64 e.kind, .int .i64 e.obj, .bool e.fail] 28)) a5 m) := (HL5.out.later (below_alloc2 w5 _ _)); have HB6 : Hid (Below (World.heap ((w5.alloc (.cells #[] 28)).alloc (.cells #[.int .i64 e.thread, .int .i64 e.kind, .int .i64 e.obj, .bool e.fail] 28))).size ((w5.alloc (.cells #[] 28)).alloc (.cells #[.int .i64 e.thread, .int .i64 e.kind, .int .i64 e.obj, .bool e.fail] 28)) w6) := hb6; have hB6 : Below w4.heap.size w4 w6 := below_step5 (show Below w4.heap.size w4 ((w5.alloc (.cells #[] 28)).alloc (.cells #[.int .i64 e.thread, .int .i64 e.kind, .int .i64 e.obj, .bool e.fail] 28)) from ((hB5.alloc hB5.size _).alloc (hB5.alloc hB5.size _).size _)) hb6; have HT6 := Lib.hid ((evs_one2 w5 _ e).later hb6); clear h6 hb6)
        | (refine step_copyEm (w := ((w5.alloc (.cells #[.int .i64 e.thread, .int .i64 e.kind, .int .i64 e.obj, .bool e.fail] 28)).alloc (.cells #[] 28))) (by rfl) (.tmp 33) (.tmp 34) (by rfl) (World.heap ((w5.alloc (.cells #[.int .i64 e.thread, .int .i64 e.kind, .int .i64 e.obj, .bool e.fail] 28)).alloc (.cells #[] 28))).size _ [] (by rfl) (.inr ⟨rfl, _, rfl⟩) a cap l (by rfl) (HLW.out ((w5.alloc (.cells #[.int .i64 e.thread, .int .i64 e.kind, .int .i64 e.obj, .bool e.fail] 28)).alloc (.cells #[] 28)) ((hB5.alloc hB5.size _).alloc (hB5.alloc hB5.size _).size _)) HNA.out hzl (Nat.le_refl _) ?_; intro v6 w6 h6 hb6; have H6 := Lib.hid h6; have hsW : w4.heap.size ≤ (World.heap ((w5.alloc (.cells #[.int .i64 e.thread, .int .i64 e.kind, .int .i64 e.obj, .bool e.fail] 28)).alloc (.cells #[] 28))).size := (show Below w4.heap.size w4 ((w5.alloc (.cells #[.int .i64 e.thread, .int .i64 e.kind, .int .i64 e.obj, .bool e.fail] 28)).alloc (.cells #[] 28)) from ((hB5.alloc hB5.size _).alloc (hB5.alloc hB5.size _).size _)).size; have HLP : Hid (LvAt ((w5.alloc (.cells #[.int .i64 e.thread, .int .i64 e.kind, .int .i64 e.obj, .bool e.fail] 28)).alloc (.cells #[] 28)) a5 m) := (HL5.out.later (below_alloc2 w5 _ _)); have HB6 : Hid (Below (World.heap ((w5.alloc (.cells #[.int .i64 e.thread, .int .i64 e.kind, .int .i64 e.obj, .bool e.fail] 28)).alloc (.cells #[] 28))).size ((w5.alloc (.cells #[.int .i64 e.thread, .int .i64 e.kind, .int .i64 e.obj, .bool e.fail] 28)).alloc (.cells #[] 28)) w6) := hb6; have hB6 : Below w4.heap.size w4 w6 := below_step5 (show Below w4.heap.size w4 ((w5.alloc (.cells #[.int .i64 e.thread, .int .i64 e.kind, .int .i64 e.obj, .bool e.fail] 28)).alloc (.cells #[] 28)) from ((hB5.alloc hB5.size _).alloc (hB5.alloc hB5.size _).size _)) hb6; have HT6 := Lib.hid (((evs_one1 w5 e).later (below_alloc1 _ _)).later hb6); clear h6 hb6)
        | (refine step_copyEm (w := w6) (by rfl) (.tmp 35) (.tmp 37) (by rfl) _ _ ([] ++ l) (by rfl) H6.out (some ⟨_, 0, none⟩) 1 [e] (by rfl) HT6.out (by intro h; cases h) hzl2 HB6.out.size ?_; intro v7 w7 h7 hb7; obtain ⟨a7, c7, hv7, he7⟩ := HEM.out _ _ _ h7; subst hv7; have HE7 := Lib.hid he7; have hB7 : Below w4.heap.size w4 w7 := hB6.trans (hb7.mono hsW); have HL7 := Lib.hid (HLP.out.later (HB6.out.trans hb7)); clear h7 hb7 he7)
        | (refine step_copyEm (w := w6.alloc (.cells #[.int .i64 e.thread, .int .i64 e.kind, .int .i64 e.obj, .bool e.fail] 28)) (by rfl) (.tmp 35) (.tmp 37) (by rfl) _ _ ([] ++ l) (by rfl) (H6.out.alloc _) (some ⟨w6.heap.size, 0, none⟩) 1 [e] (by rfl) (evs_one1 w6 e) (by intro h; cases h) hzl2 (Nat.le_trans HB6.out.size (below_alloc1 w6 _).size) ?_; intro v7 w7 h7 hb7; obtain ⟨a7, c7, hv7, he7⟩ := HEM.out _ _ _ h7; subst hv7; have HE7 := Lib.hid he7; have hB7 : Below w4.heap.size w4 w7 := (hB6.alloc hB6.size _).trans (hb7.mono hsW); have HL7 := Lib.hid (HLP.out.later ((HB6.out.alloc HB6.out.size _).trans hb7)); clear h7 hb7 he7)
        | (go_at_call 19; ((with_reducible refine (HLV2.out _ _ _ HE7.out).mono ?_); rintro r w8 ⟨a8, c8, rfl, hl8, hb8⟩; have hB8 := below_step5 hB7 hb8; have HL8 := Lib.hid hl8; have HL58 := Lib.hid (HL7.out.later hb8); clear hl8 hb8)))
    all_goals go_wp2_with fail
    all_goals go_meet
    all_goals exact ⟨a5, c5, a8, c8, rfl, rfl, HL58.out, HL8.out, hB8⟩
  case rest =>
    obtain ⟨a5, c5, a8, c8, rfl, rfl, hl5, hl8, hbc⟩ := hcut
    generalize wc = wA at *
    have HL5 := Lib.hid hl5
    have HL8 := Lib.hid hl8
    have HBC := Lib.hid (hb6.trans (hbc.mono hb6.size))
    have HBXC := Lib.hid (HBX4.out.later hbc)
    clear hl5 hl8 hbc hb6 HBX4 HQ HLV1 HLV2 HLW HEM hq40 hq41
    have hm2 : m2.length ≤ 61 := by rw [HLN.out]; split <;> omega
    have hnm2 : n < m2.length := by rw [HLN.out]; split <;> omega
    have HG4 : Hid (((m2.length : Int) != m.length) = false ∨ (((m2.length : Int) != m.length) = true ∧ ((m2.length : Int) != (m.length : Int) + 1) = false)) := by
      show _ ∨ _
      rw [HLN.out]
      by_cases h : n < m.length
      · left; rw [if_pos h]; simp
      · right; rw [if_neg h]; simp; omega
    have hw1 : IntKind.i64.wrap ((m.length : Int) + 1) = (m.length : Int) + 1 := IntWalk.i64_in _ (by omega)
    have HMM : Hid (∀ k, k < m2.length → ¬ k < m.length → k = n) := fun k h1 h2 => by
      have h := HLN.out
      by_cases hn : n < m.length
      · rw [if_pos hn] at h; omega
      · rw [if_neg hn] at h; omega
    go_upto_region 4 with (fail)
    go_cut [52] (fun s52 wx => s52 = .bool false ∧ wA = wx)
    case first =>
      rcases HG4.out with hq | ⟨hq, hq2⟩
      · go_wp2_with fail
        go_meet
        exact ⟨rfl, rfl⟩
      · go_wp2_with fail
        go_meet
        exact ⟨rfl, rfl⟩
    case rest =>
      obtain ⟨rfl, rfl⟩ := hcut
      clear HG4 hw1
      go_wp2_with fail
      go_loopw [7, 55] (fun s7 i wr => ∃ (k G : Nat), k ≤ m2.length ∧ i = .int .i64 k ∧ s7 = .int .i64 G ∧ Hid (G = if n < k then 1 else 0) ∧ Hid (Below wA.heap.size wA wr)) (fun _ i _ => m2.length - (intOf i).toNat)
      case atStart => exact ⟨0, 0, Nat.zero_le _, rfl, rfl, (by show _ = _; simp), Below.refl _ _⟩
      case round =>
        obtain ⟨k, G, hk, rfl, rfl, HGK, HB⟩ := hrel
        by_cases hlt : k < m2.length
        · obtain ⟨b8, o8, sb, sbc, rfl, t8, he8, _⟩ := HL8.out.one hlt
          have hold := HSM.out k
          have HLEN : Hid (m2.getD k [] = if k = n then insE e (m.getD k []) else m.getD k []) := HGET.out k
          obtain ⟨old, hold2⟩ : ∃ old, old = m.getD k [] := ⟨_, rfl⟩
          obtain ⟨R, hR⟩ : ∃ R, R = m2.getD k [] := ⟨_, rfl⟩
          rw [← hold2] at hold HLEN
          rw [← hR] at HLEN t8 he8
          have HOLD := Lib.hid hold2
          have HE8 := Lib.hid he8
          have HT8 := Lib.hid t8
          clear hold2 hR t8 he8
          have HOLE : Hid (¬ k < m.length → old = []) := fun h => by rw [HOLD.out]; simp [List.getD, List.getElem?_eq_none (Nat.le_of_not_lt h)]
          go_upto_if 61 with (fail)
          go_cut [9] (fun s9 wx => ∃ so sco, s9 = .slice so old.length sco ∧ Hid (EvsAt wx so old) ∧ wr = wx)
          case first =>
            by_cases hkm : k < m.length
            · obtain ⟨b5, o5, so, sco, rfl, t5, he5, _⟩ := HL5.out.one hkm
              rw [← HOLD.out] at t5 he5
              have d5 := cell_later HB.out t5
              have HE5 := Lib.hid (he5.later HB.out)
              have hq : decide ((k : Int) < (m.length : Int)) = true := by simp; omega
              clear t5 he5
              go_wp2_with fail
              go_meet
              exact ⟨_, _, rfl, HE5.out, rfl⟩
            · have hq : decide ((k : Int) < (m.length : Int)) = false := by simp; omega
              have h0 := HOLE.out hkm
              have HZ : Hid (old.length = 0) := by rw [h0]; rfl
              have HEZ : Hid (EvsAt wr none old) := by rw [h0]; exact evsAt_nil _ _
              clear h0
              go_wp2_with fail
              go_meet
              exact ⟨none, 0, by rw [HZ.out], HEZ.out, rfl⟩
          case rest =>
            obtain ⟨so, sco, rfl, HEO, rfl⟩ := hcut
            have d8 := cell_later HB.out HT8.out
            have HE9 := Lib.hid (HE8.out.later HB.out)
            by_cases hkn : k = n
            · have HRI : Hid (R = insE e old) := by have h := HLEN.out; rw [if_pos hkn] at h; exact h
              have HRL : Hid (R.length = old.length + 1) := by show _ = _; rw [HRI.out, insE_length]
              have hr1 : old.length + 1 ≤ R.length := by rw [HRL.out]; exact Nat.le_refl _
              have hr2 : R.length ≤ old.length + 1 := by rw [HRL.out]; exact Nat.le_refl _
              have hq1 : ((R.length : Int) == old.length) = false := by simp; omega
              have hq2 : ((R.length : Int) != (old.length : Int) + 1) = false := by simp; omega
              have hwl : IntKind.i64.wrap ((old.length : Int) + 1) = (old.length : Int) + 1 := IntWalk.i64_in _ (by omega)
              have HG0 : Hid (G = 0) := by have h := HGK.out; rw [if_neg (by omega)] at h; exact h
              have hG1 : G ≤ 1 := by rw [HG0.out]; omega
              have hwG : IntKind.i64.wrap ((G : Int) + 1) = (G : Int) + 1 := IntWalk.i64_in _ (by omega)
              have HFL : Hid (R.filter (fun x => decide (x ≠ e)) = old) := by
                show _ = _
                rw [HRI.out]
                exact insE_not old fun x hx => HOTH.out x (by rw [← hkn, ← HOLD.out]; exact hx)
              have HKN := Lib.hid hkn
              clear hkn
              have HBXR := Lib.hid (HBXC.out.later HB.out)
              have HE10 : Hid (EvsAt wr sb R) := HE9.out
              have HWC : Hid (∀ W, Below wr.heap.size wr W → Below wA.heap.size wA W) := fun W hW => HB.out.trans (hW.mono HB.out.size)
              have hRm : R.length ≤ 61 := by omega
              have HDE : Hid (∀ W, Below wr.heap.size wr W → W.cell? ⟨b8, o8 + k, none⟩ = some (.slice sb R.length sbc) ∧ EvsAt W so old) := fun W hW => ⟨cell_later hW d8, HEO.out.later hW⟩
              go_wp2_with fail
              go_loopw [10, 88] (fun s10 i wr2 => ∃ (j : Nat) (rs : List Ev), j ≤ R.length ∧ i = .int .i64 j ∧ Hid (rs = (R.take j).filter (fun x => decide (x ≠ e))) ∧ rs.length ≤ j ∧ Hid (OwnE wr2 wr.heap.size s10 rs) ∧ Hid (Below wr.heap.size wr wr2)) (fun _ i _ => R.length - (intOf i).toNat)
              case atStart => exact ⟨0, [], Nat.zero_le _, rfl, rfl, Nat.le_refl _, ownE_nil _ _, Below.refl _ _⟩
              case round =>
                obtain ⟨j, rs, hj, rfl, HRS, hrs, HO, HB2⟩ := hrel
                by_cases hjl : j < R.length
                · obtain ⟨b9, o9, rfl, x0, x1, x2, x3⟩ := HE10.out.one hjl
                  have y0 := cell_later HB2.out x0
                  have y1 := cell_later HB2.out x1
                  have y2 := cell_later HB2.out x2
                  have y3 := cell_later HB2.out x3
                  obtain ⟨z0, z1, z2, z3⟩ := (HBXR.out.later HB2.out).cells
                  have hz := (HBXR.out.later HB2.out).lt
                  have HTK : Hid ((R.take (j + 1)).filter (fun x => decide (x ≠ e)) = rs ++ if evI R j = e then [] else [evI R j]) := by
                    show _ = _
                    rw [List.take_succ_eq_append_getElem hjl, List.filter_append, ← HRS.out, ← evI_get hjl]
                    by_cases h : evI R j = e
                    · rw [if_pos h, List.filter_cons_of_neg (by simp [h])]
                      rfl
                    · rw [if_neg h, List.filter_cons_of_pos (by simp [h])]
                      rfl
                  have hB2s := HB2.out.size
                  clear x0 x1 x2 x3
                  generalize evI R j = x at *
                  have heq := run_equal_ev x e
                  by_cases hxe : x = e
                  · have hq5 : decide (x = e) = true := by simp [hxe]
                    rw [hq5] at heq
                    have HTK2 : Hid ((R.take (j + 1)).filter (fun x => decide (x ≠ e)) = rs) := by have h := HTK.out; rw [if_pos hxe, List.append_nil] at h; exact h
                    have HO2 := Lib.hid (HO.out.alloc (.cells #[.int .i64 x.thread, .int .i64 x.kind, .int .i64 x.obj, .bool x.fail] 28))
                    have HB3 := Lib.hid (HB2.out.alloc hB2s (.cells #[.int .i64 x.thread, .int .i64 x.kind, .int .i64 x.obj, .bool x.fail] 28))
                    clear hxe hq5
                    go_wp2
                    go_roundw
                    case rel => exact ⟨j + 1, rs, by omega, by go_num, HTK2.out.symm, by omega, HO2.out, HB3.out⟩
                    case measure => simp [intOf]; omega
                  · have hq5 : decide (x = e) = false := by simp [hxe]
                    rw [hq5] at heq
                    have HTK2 : Hid ((R.take (j + 1)).filter (fun x => decide (x ≠ e)) = rs ++ [x]) := by have h := HTK.out; rw [if_neg hxe] at h; exact h
                    have HO2 := Lib.hid ((HO.out.alloc (.cells #[.int .i64 x.thread, .int .i64 x.kind, .int .i64 x.obj, .bool x.fail] 28)).alloc (.cells #[.int .i64 x.thread, .int .i64 x.kind, .int .i64 x.obj, .bool x.fail] 28))
                    have HB3 := Lib.hid ((HB2.out.alloc hB2s (.cells #[.int .i64 x.thread, .int .i64 x.kind, .int .i64 x.obj, .bool x.fail] 28)).alloc (Nat.le_trans hB2s (below_alloc1 _ _).size) (.cells #[.int .i64 x.thread, .int .i64 x.kind, .int .i64 x.obj, .bool x.fail] 28))
                    clear hxe hq5
                    go_wp2_with (at_builtin; refine wp_appendE rfl _ _ rfl _ _ rs rfl HO2.out ⟨wr.heap.size + 1, 0, none⟩ rfl x (ev_new (wr.alloc (.cells #[.int .i64 x.thread, .int .i64 x.kind, .int .i64 x.obj, .bool x.fail] 28)) x _ _ (by simp)) (by omega) HB3.out.size ?_; intro v1 w9 hown9 hb9; have HO9 := Lib.hid hown9; have HB9 := Lib.hid (HB3.out.trans hb9); clear hown9 hb9)
                    go_roundw
                    case rel => exact ⟨j + 1, rs ++ [x], by omega, by go_num, HTK2.out.symm, by simp; omega, HO9.out, HB9.out⟩
                    case measure => simp [intOf]; omega
                · have HRO : Hid (rs = old) := by
                    show _ = _
                    rw [HRS.out, List.take_of_length_le (by omega)]
                    exact HFL.out
                  obtain rfl : rs = old := HRO.out
                  obtain ⟨ar, cr, rfl, her⟩ := HO.out.form (by omega)
                  have HER := Lib.hid her
                  have d9 := (HDE.out _ HB2.out).1
                  have HOO := Lib.hid (HDE.out _ HB2.out).2
                  have hG2 : Hid (G + 1 = if n < k + 1 then 1 else 0) := by show _ = _; rw [if_pos (by have := HKN.out; omega), HG0.out]
                  have HBW := Lib.hid (HWC.out _ HB2.out)
                  clear her
                  go_wp2_with fail
                  refine (sameEvents_any ar so cr sco rs rs _ HER.out HOO.out).mono ?_
                  rintro r w9 ⟨rfl, hb9⟩
                  have HB9 := Lib.hid (HBW.out.trans (hb9.mono HBW.out.size))
                  have hdd : decide (rs = rs) = true := by simp
                  rw [hdd]
                  clear hb9
                  go_wp2
                  go_roundw
                  case rel => exact ⟨k + 1, G + 1, by omega, by go_num, by go_num, hG2.out, HB9.out⟩
                  case measure => simp [intOf]; omega
            · have HRO : Hid (R = old) := by have h := HLEN.out; rw [if_neg hkn] at h; exact h
              obtain rfl : R = old := HRO.out
              have hq1 : ((R.length : Int) == R.length) = true := by simp
              have hG2 : Hid (G = if n < k + 1 then 1 else 0) := by
                show _ = _
                rw [HGK.out]
                by_cases h : n < k
                · rw [if_pos h, if_pos (by omega)]
                · rw [if_neg h, if_neg (by omega)]
              clear hkn
              go_wp2_with fail
              refine (sameEvents_any sb so sbc sco R R _ HE9.out HEO.out).mono ?_
              rintro r w9 ⟨rfl, hb9⟩
              have HB9 := Lib.hid (HB.out.trans (hb9.mono HB.out.size))
              have hdd : decide (R = R) = true := by simp
              rw [hdd]
              clear hb9
              go_wp2
              go_roundw
              case rel => exact ⟨k + 1, G, by omega, by go_num, rfl, hG2.out, HB9.out⟩
              case measure => simp [intOf]; omega
        · obtain rfl : k = m2.length := by omega
          obtain rfl : G = 1 := by have h := HGK.out; rw [if_pos hnm2] at h; exact h
          go_wp2
          go_ret
          exact ⟨rfl, HBC.out.trans (HB.out.mono HBC.out.size)⟩

end Go.Proofs.Ytfefidmbkbigoaa
