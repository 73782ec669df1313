/- The contract of the document's Key. -/
import Derived.Test.YtljlaopjimkcmaaRefPrint5
namespace Go.Proofs.Ytljlaopjimkcmaa
open Go.RowKit

/-- A row of a row's levels has these levels. -/
theorem levelsF_row_self {l : List Ev} (hr : rightF l = true) : levelsF (lvls l).flatten = lvls l := by
  have h1 : rightL l = true ∧ l.length ≤ 200 := by
    unfold rightF at hr
    simp at hr
    exact ⟨hr.2, hr.1⟩
  have h2 : rightF (lvls l).flatten = true := by
    unfold rightF
    rw [lvls_count]
    simp only [Bool.and_eq_true, decide_eq_true_eq]
    refine ⟨h1.2, ?_⟩
    have h := h1.1
    unfold rightL at *
    exact List.all_eq_true.2 fun e he => List.all_eq_true.1 h e (mem_lvls he)
  unfold levelsF
  rw [if_pos h2]
  exact (lvls_iff _ _).2 (sim_row l)
theorem printF_levels (l : List Ev) (hr : rightF l = true) : printF (levelsF l) = keyF l := by
  have h0 : levelsF l = lvls l := by unfold levelsF; rw [if_pos hr]
  unfold printF keyF
  rw [h0, levelsF_row_self hr, if_pos rfl, if_pos hr]

set_option maxRecDepth 100000 in
set_option maxHeartbeats 2000000 in
theorem refKey_any (a : Option Addr) (cap : Nat) (l : List Ev) (w : World) (hl : EvsAt w a l) :
    Calls Try.prog 10 #[.slice a l.length cap] w fun r w' => r = .returned (.string (bstr (keyF l))) ∧ Below w.heap.size w w' := by
  have hm := hl.1
  unfold maxLen at hm
  have HRC := Lib.hid (rows_any a cap l w hl)
  have HL := Lib.hid hl
  clear hl
  have HRF : Hid (rightF l = (decide (l.length ≤ 200) && rightL l)) := rfl
  have HE : Hid (rightF l = false → keyF l = []) := fun h => by unfold keyF; rw [h]; rfl
  have HE2 : Hid (rightF l = true → printF (levelsF l) = keyF l) := printF_levels l
  cases hr : rightL l
  · have HE3 := Lib.hid (HE.out (by rw [HRF.out, hr]; simp))
    rw [hr] at HRC
    clear hr HE2 HE
    go_enter Try.func10, Try.ntmps10
    go_wp2_with fail
    refine HRC.out.mono ?_
    rintro r w1 ⟨rfl, hb1⟩
    clear HRC
    go_wp2
    go_ret
    exact ⟨ret_str (by rw [HE3.out]; rfl), hb1⟩
  rw [hr] at HRC
  by_cases h200 : l.length ≤ 200
  case neg =>
    have HE3 := Lib.hid (HE.out (by rw [HRF.out, hr]; simp; omega))
    have hq : decide ((200 : Int) < (l.length : Int)) = true := by simp; omega
    have hq2 : 200 < l.length := by omega
    clear hr HE2 HE h200
    go_enter Try.func10, Try.ntmps10
    go_wp2_with fail
    refine HRC.out.mono ?_
    rintro r w1 ⟨rfl, hb1⟩
    clear HRC
    go_wp2
    go_ret
    exact ⟨ret_str (by rw [HE3.out]; rfl), hb1⟩
  have HE3 := Lib.hid (HE2.out (by rw [HRF.out, hr]; simp; omega))
  have hq : decide ((200 : Int) < (l.length : Int)) = false := by simp; omega
  have hq2 : ¬ 200 < l.length := by omega
  clear hr HE2 HE h200
  go_enter Try.func10, Try.ntmps10
  go_wp2_with fail
  refine HRC.out.mono ?_
  rintro r w1 ⟨rfl, hb1⟩
  clear HRC
  have HLC := Lib.hid (refLevels_any a cap l w1 (HL.out.later hb1))
  go_wp2_with fail
  refine HLC.out.mono ?_
  rintro r w2 ⟨v, ss, rfl, hv, hb2⟩
  obtain ⟨a2, cap2, rfl, hat, _⟩ := OwnLv.formF hv
  have HC := Lib.hid (refLvPrint_any a2 cap2 (levelsF l) w2 hat (by have := levelsF_len l; omega) (by have := levelsF_flat l; omega) (fun i => by have := levelsF_row l i; omega))
  rw [HE3.out] at HC
  have hb3 := hb1.trans (hb2.mono hb1.size)
  clear hv hat hb1 hb2 HLC HE3
  generalize levelsF l = m at *
  go_wp2_with fail
  refine HC.out.mono ?_
  rintro r w3 ⟨rfl, hb4⟩
  have hb5 := hb3.trans (hb4.mono hb3.size)
  clear HC hb3 hb4
  go_wp2
  go_ret
  exact ⟨rfl, hb5⟩

end Go.Proofs.Ytljlaopjimkcmaa
