/- The contracts of foata's Key and Print. -/
import Derived.Test.YtljlaopjimkcmaaLevels
import Derived.Test.YtljlaopjimkcmaaSpell
import Derived.Test.YtljlaopjimkcmaaLvEq
namespace Go.Proofs.Ytljlaopjimkcmaa
open Go.RowKit

def keyF (l : List Ev) : List Int := if rightF l then spellB (lvls l) else []
def printF (m : List (List Ev)) : List Int := if levelsF m.flatten = m then spellB m else []
theorem levelsF_len (l : List Ev) : (levelsF l).length ≤ 200 := by
  unfold levelsF
  cases h : rightF l
  · simp
  · simp only [if_pos]
    have := lv_count l
    unfold rightF at h
    simp at h
    omega
theorem levelsF_row (l : List Ev) (i : Nat) : ((levelsF l).getD i []).length ≤ 200 := by
  unfold levelsF
  cases h : rightF l
  · simp [List.getD]
  · simp only [if_pos]
    have := lv_small l i
    unfold rightF at h
    simp at h
    omega
theorem levelsF_flat (l : List Ev) : (levelsF l).flatten.length ≤ 200 := by
  unfold levelsF
  cases h : rightF l
  · simp
  · simp only [if_pos]
    have := lvls_count l
    unfold rightF at h
    simp at h
    omega
theorem OwnLv.formF {w : World} {B : Nat} {v : Value} {ss : List Sl} {l : List Ev} (h : OwnLv w B v ss (levelsF l)) : ∃ a cap, v = .slice a (levelsF l).length cap ∧ LvAt w a (levelsF l) ∧ (a = none → cap = 0) :=
  OwnLv.form h (by have := levelsF_len l; omega) (fun i _ => by have := levelsF_row l i; omega)

set_option maxRecDepth 100000 in
set_option maxHeartbeats 2000000 in
theorem key_any (a : Option Addr) (cap : Nat) (l : List Ev) (w : World) (hl : EvsAt w a l) :
    Calls Try.prog 7 #[.slice a l.length cap] w fun r w' => r = .returned (.string (bstr (keyF l))) ∧ Below w.heap.size w w' := by
  have HRC := Lib.hid (fRight_any a cap l w hl)
  have HL := Lib.hid hl
  clear hl
  cases hr : rightF l
  · have HE : Hid (keyF l = []) := by show _ = _; unfold keyF; rw [hr]; rfl
    rw [hr] at HRC
    clear hr
    go_enter Try.func7, Try.ntmps7
    go_wp2_with fail
    refine HRC.out.mono ?_
    rintro r w1 ⟨rfl, hb1⟩
    clear HRC
    go_wp2
    go_ret
    exact ⟨ret_str (by rw [HE.out]; rfl), hb1⟩
  · have HE : Hid (keyF l = spellB (levelsF l)) := by show _ = _; unfold keyF levelsF; rw [hr]; rfl
    rw [hr] at HRC
    clear hr
    go_enter Try.func7, Try.ntmps7
    go_wp2_with fail
    refine HRC.out.mono ?_
    rintro r w1 ⟨rfl, hb1⟩
    clear HRC
    go_wp2_with fail
    refine (levels_any a cap l w1 (HL.out.later hb1)).mono ?_
    rintro r w2 ⟨v, ss, rfl, hv, hb2⟩
    obtain ⟨a2, cap2, rfl, hat, _⟩ := OwnLv.formF hv
    have HC := Lib.hid (spell_any a2 cap2 (levelsF l) w2 hat (by have := levelsF_len l; omega) (by have := levelsF_flat l; omega) (fun i => by have := levelsF_row l i; omega))
    have hb3 := hb1.trans (hb2.mono hb1.size)
    clear hv hat hb1 hb2
    generalize levelsF l = m at *
    go_wp2_with fail
    refine HC.out.mono ?_
    rintro r w3 ⟨rfl, hb4⟩
    have hb5 := hb3.trans (hb4.mono hb3.size)
    clear HC hb3 hb4
    go_wp2
    go_ret
    exact ⟨ret_str (by rw [HE.out]), hb5⟩

set_option maxRecDepth 100000 in
set_option maxHeartbeats 2000000 in
theorem print_any (a : Option Addr) (cap : Nat) (m : List (List Ev)) (w : World) (hl : LvAt w a m) (hm : m.length ≤ 1000000) (hf : m.flatten.length ≤ 1000000) :
    Calls Try.prog 15 #[.slice a m.length cap] w fun r w' => r = .returned (.string (bstr (printF m))) ∧ Below w.heap.size w w' := by
  have HL := Lib.hid hl
  have HF := Lib.hid hf
  have HC0 := Lib.hid (row_any a cap m w hl hm hf)
  have HSP : Hid (∀ w', LvAt w' a m → (∀ i, (m.getD i []).length ≤ 255) → Calls Try.prog 21 #[.slice a m.length cap] w' fun r w'' => r = .returned (.string (bstr (spellB m))) ∧ Below w'.heap.size w' w'') := fun w' h1 h2 => spell_any a cap m w' h1 hm hf h2
  clear hl hf
  have HS : Hid (levelsF m.flatten = m → ∀ i, (m.getD i []).length ≤ 255) := fun h i => by
    have := levelsF_row m.flatten i
    rw [h] at this
    omega
  have HP : Hid (printF m = if decide (levelsF m.flatten = m) = true then spellB m else []) := by show _ = _; unfold printF; simp
  have HLF : Hid ((levelsF m.flatten).length ≤ 200) := levelsF_len _
  go_enter Try.func15, Try.ntmps15
  go_wp2_with fail
  refine HC0.out.mono ?_
  rintro r w1 ⟨v1, rfl, h1, hb1⟩
  obtain ⟨a1, cap1, rfl, he1⟩ := OwnE.form h1 HF.out
  have HC1 := Lib.hid (levels_any a1 cap1 m.flatten w1 he1)
  have HL1 := Lib.hid (HL.out.later hb1)
  clear h1 he1 HC0 HF
  generalize m.flatten = fl at *
  go_wp2_with fail
  refine HC1.out.mono ?_
  rintro r w2 ⟨v2, ss, rfl, hv, hb2⟩
  obtain ⟨a2, cap2, rfl, hat, _⟩ := OwnLv.formF hv
  have HC2 := Lib.hid (lvEq_any a2 a cap2 cap (levelsF fl) m w2 hat (HL1.out.later hb2) (by have := HLF.out; omega) hm)
  have hb3 := hb1.trans (hb2.mono hb1.size)
  clear hv hat hb1 hb2 HC1
  generalize levelsF fl = m2 at *
  go_wp2_with fail
  refine HC2.out.mono ?_
  rintro r w3 ⟨rfl, hb4⟩
  have hb5 := hb3.trans (hb4.mono hb3.size)
  clear HC2 hb3 hb4
  by_cases h : m2 = m
  · have hq : decide (m2 = m) = true := by simp [h]
    have HS2 := Lib.hid (HS.out h)
    have HP2 : Hid (printF m = spellB m) := by show _ = _; rw [HP.out, if_pos hq]
    rw [hq]
    clear h hq HP HS
    go_wp2_with fail
    refine (HSP.out _ (HL.out.later hb5) HS2.out).mono ?_
    rintro r w4 ⟨rfl, hb6⟩
    have hb7 := hb5.trans (hb6.mono hb5.size)
    clear hb6
    go_wp2
    go_ret
    exact ⟨ret_str (by rw [HP2.out]), hb7⟩
  · have hq : decide (m2 = m) = false := by simp [h]
    have HP2 : Hid (printF m = []) := by show _ = _; rw [HP.out, hq]; rfl
    rw [hq]
    clear h hq HP HS
    go_wp2
    go_ret
    exact ⟨ret_str (by rw [HP2.out]; rfl), hb5⟩

end Go.Proofs.Ytljlaopjimkcmaa
