/- FoataTells: of any events the levels, and the key, are the document's; read they are the same. -/
import Derived.Test.YtljlaopjimkcmaaWake5
import Derived.Test.YtljlaopjimkcmaaKeyPlain
import Derived.Test.YtljlaopjimkcmaaRefKey5
import Derived.Test.YtljlaopjimkcmaaEvRows
import Derived.Test.YtljlaopjimkcmaaEvCopy
namespace Go.Proofs.Ytljlaopjimkcmaa
open Go.RowKit

/-- Levels that some call answers, wherever they lie. -/
def LvAny (m : List (List Ev)) (w : World) (r : Ending) (w' : World) : Prop := ∃ a c, r = .returned (.slice a m.length c) ∧ LvAt w' a m ∧ Below w.heap.size w w'
theorem LvAny.of {l : List Ev} {w : World} {r : Ending} {w' : World} (h : LvR w.heap.size w (levelsF l) r w') : LvAny (levelsF l) w r w' := by
  obtain ⟨v, ss, h1, h2, h3⟩ := h
  obtain ⟨a, c, rfl, hat, _⟩ := OwnLv.formF h2
  exact ⟨a, c, h1, hat, h3⟩
/-- A row that some call answers. -/
def EvAny (l : List Ev) (w : World) (r : Ending) (w' : World) : Prop := ∃ a c, r = .returned (.slice a l.length c) ∧ EvsAt w' a l ∧ Below w.heap.size w w'
theorem EvAny.of {l : List Ev} (hl : l.length ≤ 1000000) {w : World} {r : Ending} {w' : World} (h : RowR w l r w') : EvAny l w r w' := by
  obtain ⟨v, h1, h2, h3⟩ := h
  obtain ⟨a, c, rfl, hat⟩ := OwnE.form h2 hl
  exact ⟨a, c, h1, hat, h3⟩
theorem keyOk_key {l : List Ev} (hr : rightL l = true) (hl : l.length ≤ 200) : keyOk (u8s (keyF l)) := by
  have hf : rightF l = true := by unfold rightF; rw [hr]; simp [hl]
  have h0 : levelsF l = lvls l := by unfold levelsF; rw [if_pos hf]
  unfold keyOk
  rw [parse_key hr hl, ← h0, printF_levels l hf]
  rfl

set_option maxRecDepth 100000 in
set_option maxHeartbeats 8000000 in
theorem foataTells_any (a : Option Addr) (l : List Ev) (cap : Nat) (w : World) (hl : EvsAt w a l) (hna : a = none → cap = 0) :
    Calls Try.prog 3 #[.slice a l.length cap] w fun r w' => r = .returned (.bool true) ∧ Below w.heap.size w w' := by
  have hmx := hl.1
  unfold maxLen at hmx
  have HL := Lib.hid hl
  have HNA : Hid (a = none → cap = 0 ∧ l = []) := fun h => ⟨hna h, by subst h; exact evsAt_none hl⟩
  clear hl hna
  by_cases hlen : l.length ≤ 60
  case neg =>
    have hq : 60 < l.length := by omega
    clear hlen
    go_enter Try.func3, Try.ntmps3
    go_wp2_with fail
    refine (awake5_any w).mono ?_
    rintro r w1 ⟨rfl, hb1⟩
    go_wp2_with fail
    refine (awake5_any w1).mono ?_
    rintro r w2 ⟨rfl, hb2⟩
    go_wp2
    go_ret
    exact ⟨rfl, hb1.trans (hb2.mono hb1.size)⟩
  have hq60 : decide ((60 : Int) < (l.length : Int)) = false := by simp; omega
  have hq61 : ¬ 60 < l.length := by omega
  have HLEV : Hid (∀ W a2 c2, EvsAt W a2 l → Calls Try.prog 6 #[.slice a2 l.length c2] W (LvAny (levelsF l) W)) := fun W a2 c2 h => (levels_any a2 c2 l W h).mono fun _ _ h => .of h
  have HRLEV : Hid (∀ W a2 c2, EvsAt W a2 l → Calls Try.prog 9 #[.slice a2 l.length c2] W (LvAny (levelsF l) W)) := fun W a2 c2 h => (refLevels_any a2 c2 l W h).mono fun _ _ h => .of h
  have HKEY : Hid (∀ W a2 c2, EvsAt W a2 l → Calls Try.prog 7 #[.slice a2 l.length c2] W fun r w' => r = .returned (.string ⟨(u8s (keyF l)).toArray⟩) ∧ Below W.heap.size W w') := fun W a2 c2 h => (key_any a2 c2 l W h)
  have HRKEY : Hid (∀ W a2 c2, EvsAt W a2 l → Calls Try.prog 10 #[.slice a2 l.length c2] W fun r w' => r = .returned (.string ⟨(u8s (keyF l)).toArray⟩) ∧ Below W.heap.size W w') := fun W a2 c2 h => (refKey_any a2 c2 l W h)
  have HSAME : Hid (∀ W a2 c2 a3 c3, LvAt W a2 (levelsF l) → LvAt W a3 (levelsF l) → Calls Try.prog 8 #[.slice a2 (levelsF l).length c2, .slice a3 (levelsF l).length c3] W fun r w' => r = .returned (.bool true) ∧ Below W.heap.size W w') := fun W a2 c2 a3 c3 h2 h3 =>
    (refLvSame_any a2 a3 c2 c3 _ _ W h2 h3 (by have := levelsF_len l; omega) (by have := levelsF_len l; omega) (fun i => by have := levelsF_row l i; omega) (fun i => by have := levelsF_row l i; omega)).mono fun r w' h => ⟨by rw [h.1]; simp, h.2⟩
  have HROW : Hid (∀ W a2 c2, LvAt W a2 (levelsF l) → Calls Try.prog 13 #[.slice a2 (levelsF l).length c2] W (EvAny (levelsF l).flatten W)) := fun W a2 c2 h =>
    (row_any a2 c2 _ W h (by have := levelsF_len l; omega) (by have := levelsF_flat l; omega)).mono fun _ _ h => .of (by have := levelsF_flat l; omega) h
  have HRROW : Hid (∀ W a2 c2, LvAt W a2 (levelsF l) → Calls Try.prog 14 #[.slice a2 (levelsF l).length c2] W (EvAny (levelsF l).flatten W)) := fun W a2 c2 h =>
    (refRow_any a2 c2 _ W h (by have := levelsF_len l; omega) (by have := levelsF_flat l; omega)).mono fun _ _ h => .of (by have := levelsF_flat l; omega) h
  have HSE : Hid (∀ W a2 c2 a3 c3, EvsAt W a2 (levelsF l).flatten → EvsAt W a3 (levelsF l).flatten → Calls Try.prog 12 #[.slice a2 (levelsF l).flatten.length c2, .slice a3 (levelsF l).flatten.length c3] W fun r w' => r = .returned (.bool true) ∧ Below W.heap.size W w') := fun W a2 c2 a3 c3 h2 h3 =>
    (sameEvents_any a2 a3 c2 c3 _ _ W h2 h3).mono fun r w' h => ⟨by rw [h.1]; simp, h.2⟩
  have HPR : Hid (rightL l = true → ∀ W a2 c2, LvAt W a2 (levelsF l) → Calls Try.prog 15 #[.slice a2 (levelsF l).length c2] W fun r w' => r = .returned (.string ⟨(u8s (keyF l)).toArray⟩) ∧ Below W.heap.size W w') := fun hr W a2 c2 h =>
    (print_any a2 c2 _ W h (by have := levelsF_len l; omega) (by have := levelsF_flat l; omega)).mono fun r w' h => ⟨by rw [h.1, printF_levels l (by unfold rightF; rw [hr]; simp; omega)]; rfl, h.2⟩
  have HRD1 : Hid (rightL l = true → ∀ W, Calls Try.prog 11 #[.string ⟨(u8s (keyF l)).toArray⟩] W fun r w' => ∃ a2 c2, r = .returned (.tuple #[.slice a2 (levelsF l).length c2, .int .i64 0]) ∧ LvAt w' a2 (levelsF l) ∧ Below W.heap.size W w') := fun hr W => by
    have hf : rightF l = true := by unfold rightF; rw [hr]; simp; omega
    have h0 : levelsF l = lvls l := by unfold levelsF; rw [if_pos hf]
    have hk : (u8s (keyF l)).length ≤ 1000000 := by
      rw [u8s_length, keyF_right hr (by omega)]
      unfold spellB
      have := lvB_len (lvls l) (lvls l).length
      rw [List.take_length] at this
      have := lvls_count l
      have := lv_count l
      rw [List.length_append, List.length_singleton]
      omega
    refine (readF_any _ W hk).mono fun r w' ⟨h, hb⟩ => ?_
    rcases h with ⟨_, v, ss, h1, h2⟩ | ⟨h1, _⟩
    · rw [parse_key hr (by omega), ← h0] at h2
      obtain ⟨a2, c2, rfl, hat, _⟩ := OwnLv.formF h2
      exact ⟨a2, c2, h1, hat, hb⟩
    · exact absurd (keyOk_key hr (by omega)) h1
  have HRD0 : Hid (rightL l = false → u8s (keyF l) = []) := fun hr => by rw [keyF_wrong hr]; rfl
  have HNE : Hid (rightL l = true → u8s (keyF l) ≠ []) := fun hr => by rw [keyF_right hr (by omega)]; exact spell_ne _
  have hml : (levelsF l).length ≤ 200 := levelsF_len l
  have hfl : (levelsF l).flatten.length ≤ 200 := levelsF_flat l
  have HLV0 : Hid (rightL l = false → levelsF l = []) := fun hr => by unfold levelsF rightF; rw [hr]; simp
  generalize rightL l = d at *
  generalize u8s (keyF l) = s at *
  generalize (levelsF l).flatten = fl at *
  generalize levelsF l = m at *
  go_enter Try.func3, Try.ntmps3
  go_wp2_with fail
  refine (awake5_any w).mono ?_
  rintro r w3 ⟨rfl, hb5⟩
  have hba := below_alloc1 w3 (.cells #[] 39)
  have HLA4 := Lib.hid (HL.out.later (hb5.trans (hba.mono hb5.size)))
  have HOE : Hid (OwnE (w3.alloc (.cells #[] 39)) w3.heap.size (.slice (some ⟨w3.heap.size, 0, none⟩) 0 0) []) := ownE_empty w3 _ rfl
  go_wp2_with (at_builtin; refine wpList_copyE rfl _ _ rfl w3.heap.size _ [] rfl HOE.out a cap l rfl HLA4.out HNA.out (by simp <;> omega) hba.size ?_; intro v4 w4 h4 hb6; have HO4 : Hid (OwnE w4 w3.heap.size v4 l) := h4; obtain ⟨a4, c4, hv4, he4⟩ := OwnE.form HO4.out (by omega); subst hv4; have HE4 := Lib.hid he4; have hb7 := hb5.trans ((hba.trans hb6).mono hb5.size); clear h4 hb6 he4)
  refine (HLEV.out _ _ _ HE4.out).mono ?_
  rintro r w5 ⟨am, cm, rfl, hat, hb8⟩
  have hb9 := hb7.trans (hb8.mono hb7.size)
  have HM5 := Lib.hid hat
  have HL5 := Lib.hid (HL.out.later hb9)
  clear HLEV HOE HLA4 hb5 hba hb7 hb8 hat
  go_wp2_with fail
  refine (HKEY.out _ _ _ HL5.out).mono ?_
  rintro r w6 ⟨rfl, hb10⟩
  have hb11 := hb9.trans (hb10.mono hb9.size)
  have HM6 := Lib.hid (HM5.out.later hb10)
  have HL6 := Lib.hid (HL.out.later hb11)
  clear hb9 hb10 HM5 HL5 HKEY
  go_wp2_with fail
  refine (HRLEV.out _ _ _ HL6.out).mono ?_
  rintro r w7 ⟨an, cn, rfl, hat, hb12⟩
  have hb13 := hb11.trans (hb12.mono hb11.size)
  have HM7 := Lib.hid (HM6.out.later hb12)
  have HN7 := Lib.hid hat
  clear hb11 hb12 hat HM6 HL6 HRLEV
  go_wp2_with fail
  refine (HSAME.out _ _ _ _ _ HM7.out HN7.out).mono ?_
  rintro r w8 ⟨rfl, hb14⟩
  have hb15 := hb13.trans (hb14.mono hb13.size)
  have HM8 := Lib.hid (HM7.out.later hb14)
  have HL8 := Lib.hid (HL.out.later hb15)
  clear hb13 hb14 HM7 HN7
  go_wp2_with fail
  refine (HRKEY.out _ _ _ HL8.out).mono ?_
  rintro r w9 ⟨rfl, hb16⟩
  have hb17 := hb15.trans (hb16.mono hb15.size)
  have HM9 := Lib.hid (HM8.out.later hb16)
  have hss : (s == s) = true := by simp
  clear hb15 hb16 HM8 HRKEY
  cases d
  · have h0 := HRD0.out rfl
    subst h0
    clear HRD1 HPR HNE
    go_wp2_with fail
    refine (readF_any [] w9 (by simp)).mono ?_
    rintro r w10 ⟨h, hb18⟩
    rcases h with ⟨h1, _⟩ | ⟨_, rfl⟩
    · exact absurd h1 nil_bad
    go_wp2
    go_ret
    exact ⟨rfl, hb17.trans (hb18.mono hb17.size)⟩
  · have hne := HNE.out rfl
    have hne2 : (s == []) = false := by simpa using hne
    have hne3 : s.isEmpty = false := by simpa using hne
    have HRD := Lib.hid (HRD1.out rfl)
    have HPRI := Lib.hid (HPR.out rfl)
    clear HRD1 HPR HNE HRD0 HLV0
    go_wp2_with fail
    refine (HRD.out w9).mono ?_
    rintro r w10 ⟨ar, cr, rfl, hat, hb18⟩
    have hb19 := hb17.trans (hb18.mono hb17.size)
    have HM10 := Lib.hid (HM9.out.later hb18)
    have HR10 := Lib.hid hat
    clear hb17 hb18 hat HM9
    go_wp2_with fail
    refine (HSAME.out _ _ _ _ _ HR10.out HM10.out).mono ?_
    rintro r w11 ⟨rfl, hb20⟩
    have hb21 := hb19.trans (hb20.mono hb19.size)
    have HM11 := Lib.hid (HM10.out.later hb20)
    clear hb19 hb20 HM10 HR10
    go_wp2_with fail
    refine (HROW.out _ _ _ HM11.out).mono ?_
    rintro r w12 ⟨ap, cp, rfl, hat, hb22⟩
    have hb23 := hb21.trans (hb22.mono hb21.size)
    have HM12 := Lib.hid (HM11.out.later hb22)
    have HP12 := Lib.hid hat
    clear hb21 hb22 hat HM11
    go_wp2_with fail
    refine (HRROW.out _ _ _ HM12.out).mono ?_
    rintro r w13 ⟨aq, cq, rfl, hat, hb24⟩
    have hb25 := hb23.trans (hb24.mono hb23.size)
    have HM13 := Lib.hid (HM12.out.later hb24)
    have HP13 := Lib.hid (HP12.out.later hb24)
    have HQ13 := Lib.hid hat
    clear hb23 hb24 hat HM12 HP12
    go_wp2_with fail
    refine (HSE.out _ _ _ _ _ HP13.out HQ13.out).mono ?_
    rintro r w14 ⟨rfl, hb26⟩
    have hb27 := hb25.trans (hb26.mono hb25.size)
    have HM14 := Lib.hid (HM13.out.later hb26)
    clear hb25 hb26 HM13 HP13 HQ13
    go_wp2_with fail
    refine (HPRI.out _ _ _ HM14.out).mono ?_
    rintro r w15 ⟨rfl, hb28⟩
    go_wp2
    go_ret
    exact ⟨rfl, hb27.trans (hb28.mono hb27.size)⟩

end Go.Proofs.Ytljlaopjimkcmaa
