/- The contract of the document's Right of levels. -/
import Derived.Test.YtljlaopjimkcmaaRefLevels
import Derived.Test.YtljlaopjimkcmaaRefRow5
import Derived.Test.YtljlaopjimkcmaaRefLvSame
import Derived.Test.YtljlaopjimkcmaaKeyF
namespace Go.Proofs.Ytljlaopjimkcmaa
open Go.RowKit

theorem levelsF_ne (l : List Ev) (i : Nat) (hi : i < (levelsF l).length) : (levelsF l).getD i [] ≠ [] := by
  unfold levelsF at *
  split at hi
  · rw [if_pos (by assumption)]
    exact (lvls_ok l).full i hi
  · simp at hi
theorem levelsF_bad {m : List (List Ev)} (h : rightF m.flatten = false) : levelsF m.flatten ≠ m := by
  intro e
  have h0 : levelsF m.flatten = [] := by unfold levelsF; rw [h]; rfl
  rw [h0] at e
  subst e
  revert h
  decide

set_option maxRecDepth 100000 in
set_option maxHeartbeats 4000000 in
theorem refLvRight_any (a : Option Addr) (cap : Nat) (m : List (List Ev)) (w : World) (hl : LvAt w a m) (hm : m.length ≤ 1000000) (hf : m.flatten.length ≤ 1000000) (hr : ∀ i, (m.getD i []).length ≤ 1000000) :
    Calls Try.prog 29 #[.slice a m.length cap] w fun r w' => r = .returned (.bool (decide (levelsF m.flatten = m))) ∧ Below w.heap.size w w' := by
  have HL := Lib.hid hl
  have HF := Lib.hid hf
  have HC : Hid (∀ W, Below w.heap.size w W → Calls Try.prog 14 #[.slice a m.length cap] W (RowR W m.flatten)) := fun W hW => refRow_any a cap m W (hl.later hW) hm hf
  have HE0 : Hid (∀ i, i < m.length → m.getD i [] = [] → decide (levelsF m.flatten = m) = false) := fun i hi h => by
    simp only [decide_eq_false_iff_not]
    intro e
    refine levelsF_ne m.flatten i (by rw [e]; exact hi) ?_
    rw [e]
    exact h
  have HB0 : Hid (rightF m.flatten = false → decide (levelsF m.flatten = m) = false) := fun h => by simp only [decide_eq_false_iff_not]; exact levelsF_bad h
  have HSM : Hid (∀ a2 cap2 W, LvAt W a2 (levelsF m.flatten) → Below w.heap.size w W → Calls Try.prog 8 #[.slice a2 (levelsF m.flatten).length cap2, .slice a m.length cap] W fun r w' => r = .returned (.bool (decide (levelsF m.flatten = m))) ∧ Below W.heap.size W w') := fun a2 cap2 W h1 hW =>
    refLvSame_any a2 a cap2 cap (levelsF m.flatten) m W h1 (hl.later hW) (by have := levelsF_len m.flatten; omega) hm (fun i => by have := levelsF_row m.flatten i; omega) hr
  clear hl hf hr
  obtain ⟨D, hD⟩ : ∃ D, D = decide (levelsF m.flatten = m) := ⟨_, rfl⟩
  rw [← hD] at HE0 HB0 HSM ⊢
  clear hD
  go_enter Try.func29, Try.ntmps29
  go_wp2
  go_loopw [3] (fun i wr => ∃ k : Nat, k ≤ m.length ∧ i = .int .i64 k ∧ Hid (Below w.heap.size w wr)) (fun i _ => m.length - (intOf i).toNat)
  case atStart => exact ⟨0, Nat.zero_le _, rfl, Below.refl _ _⟩
  case round =>
    obtain ⟨k, hk, rfl, HB⟩ := hrel
    by_cases hlt : k < m.length
    · obtain ⟨b, o, sa, sc, rfl, c0, _, _⟩ := HL.out.one hlt
      have c1 := cell_later HB.out c0
      have HK0 := Lib.hid (HE0.out k hlt)
      clear c0
      by_cases h0 : m.getD k [] = []
      · have HR := Lib.hid (HK0.out h0)
        have hq : (((m.getD k []).length : Int) == 0) = true := by rw [h0]; rfl
        clear h0 HK0
        generalize m.getD k [] = row at *
        go_wp2
        go_ret
        exact ⟨ret_bool HR.out.symm, HB.out⟩
      · have hq : (((m.getD k []).length : Int) == 0) = false := by
          have := List.length_pos_iff.2 h0
          simp
          exact h0
        clear h0 HK0
        generalize m.getD k [] = row at *
        go_wp2
        go_roundw
        case rel => exact ⟨k + 1, by omega, by go_num, HB.out⟩
        case measure => simp [intOf]; omega
    · obtain rfl : k = m.length := by omega
      have HC1 := Lib.hid (HC.out _ HB.out)
      have hBB := HB.out.size
      clear HE0 HC hlt
      go_wp2_with fail
      refine HC1.out.mono ?_
      rintro r w1 ⟨v1, rfl, h1, hb1⟩
      have hb1' := HB.out.trans (hb1.mono hBB)
      obtain ⟨a1, cap1, rfl, he1⟩ := OwnE.form h1 HF.out
      have HE1 := Lib.hid he1
      clear h1 he1 HC1 hb1
      have HRF : Hid (rightF m.flatten = (decide (m.flatten.length ≤ 200) && rightL m.flatten)) := rfl
      generalize m.flatten = fl at *
      by_cases h200 : fl.length ≤ 200
      case neg =>
        have hq : decide ((fl.length : Int) ≤ 200) = false := by simp; omega
        have hq2 : decide (fl.length ≤ 200) = false := by simp; omega
        have HR := Lib.hid (HB0.out (by rw [HRF.out, hq2]; rfl))
        clear h200 HB0
        go_wp2
        go_ret
        exact ⟨ret_bool HR.out.symm, hb1'⟩
      have hq : decide ((fl.length : Int) ≤ 200) = true := by simp; omega
      have hq2 : decide (fl.length ≤ 200) = true := by simp; omega
      have HRC := Lib.hid (rows_any a1 cap1 fl w1 HE1.out)
      cases hr : rightL fl
      · have HR := Lib.hid (HB0.out (by rw [HRF.out, hr]; simp))
        rw [hr] at HRC
        clear HB0 hr
        go_wp2_with fail
        refine HRC.out.mono ?_
        rintro r w2 ⟨rfl, hb2⟩
        have hb2' := hb1'.trans (hb2.mono hb1'.size)
        go_wp2
        go_ret
        exact ⟨ret_bool HR.out.symm, hb2'⟩
      · rw [hr] at HRC
        clear HB0 hr
        go_wp2_with fail
        refine HRC.out.mono ?_
        rintro r w2 ⟨rfl, hb2⟩
        have hb2' := hb1'.trans (hb2.mono hb1'.size)
        have HLC := Lib.hid (refLevels_any a1 cap1 fl w2 (HE1.out.later hb2))
        clear hb2
        go_wp2_with fail
        refine HLC.out.mono ?_
        rintro r w3 ⟨v3, ss, rfl, h3, hb3⟩
        obtain ⟨a3, cap3, rfl, hat, _⟩ := OwnLv.formF h3
        have hb3' := hb2'.trans (hb3.mono hb2'.size)
        have HSM2 := Lib.hid (HSM.out a3 cap3 w3 hat hb3')
        clear hat h3 hb3
        go_wp2_with fail
        refine HSM2.out.mono ?_
        rintro r w4 ⟨rfl, hb4⟩
        have hb4' := hb3'.trans (hb4.mono hb3'.size)
        go_wp2
        go_ret
        exact ⟨rfl, hb4'⟩

end Go.Proofs.Ytljlaopjimkcmaa
