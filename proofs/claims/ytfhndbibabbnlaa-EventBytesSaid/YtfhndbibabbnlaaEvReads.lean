/- EventReads: any events have the bytes that the document says, or none, and any bytes are the events that it says, or none. -/
import Derived.Test.YtfhndbibabbnlaaWake3
import Derived.Test.YtfhndbibabbnlaaRefEvPrint
import Derived.Test.YtfhndbibabbnlaaEvCopy
import Derived.Deep.RegionHeld3
namespace Go.Proofs.Ytfhndbibabbnlaa
open Go.RowKit

/-- The text of events, as letters. -/
def txt (l : List Ev) : List UInt8 := (printE l).map fun n => UInt8.ofNat n.toNat
theorem bstr_txt (l : List Ev) : bstr (printE l) = ⟨(txt l).toArray⟩ := rfl
theorem evsOf_txt {l : List Ev} (h : l.all rightEv = true) : evsOf (txt l) = l := by
  unfold txt printE
  rw [if_pos h]
  induction l with
  | nil => rfl
  | cons e l ih =>
    simp only [List.all_cons, Bool.and_eq_true] at h
    simp only [evsOf, List.map_cons] at ih ⊢
    rw [ih h.2]
    have hb := evB_bd h.1
    have e1 : ((UInt8.ofNat (evB e).toNat).toNat : Int) = evB e := by
      simp
      omega
    rw [e1, evOf_evB h.1]
theorem readOk_txt (l : List Ev) : readOk (txt l) = true := by
  unfold readOk
  by_cases h : l.all rightEv = true
  · rw [evsOf_txt h, h]
  · have : txt l = [] := by unfold txt printE; rw [if_neg h]; rfl
    rw [this]
    rfl
theorem readE_txt {l : List Ev} (h : txt l ≠ []) : readE (txt l) = l := by
  have h1 : l.all rightEv = true := by
    apply Classical.byContradiction
    intro hn
    apply h
    unfold txt printE
    rw [if_neg hn]
    rfl
  unfold readE
  rw [readOk_txt, if_pos rfl, evsOf_txt h1]
theorem txt_len (l : List Ev) : (txt l).length ≤ l.length := by
  unfold txt printE
  split <;> simp
theorem txt_read {s : List UInt8} (h : readOk s = true) : txt (readE s) = s := by
  have h1 : readE s = evsOf s := by unfold readE; rw [h]; rfl
  have h2 : (evsOf s).all rightEv = true := h
  rw [h1]
  unfold txt printE
  rw [if_pos h2]
  unfold evsOf
  rw [List.map_map, List.map_map]
  conv => rhs; rw [← List.map_id s]
  apply List.map_congr_left
  intro b _
  have hb := UInt8.toNat_lt b
  simp only [Function.comp]
  rw [evB_evOf (by omega) (by omega)]
  simp
theorem readE_len (s : List UInt8) : (readE s).length ≤ s.length := by
  unfold readE evsOf
  split <;> simp

theorem sameThreads (a a' : Option Addr) (cap cap' : Nat) (l : List Ev) (W : World) (h : NumsAt W a (l.map Ev.thread)) (h' : NumsAt W a' (l.map Ev.thread)) : Calls Try.prog 19 #[.slice a l.length cap, .slice a' l.length cap'] W
    fun r w' => r = .returned (.bool true) ∧ Below W.heap.size W w' := by
  have := sameInts_any a a' cap cap' (l.map Ev.thread) (l.map Ev.thread) W h h'
  simpa using this

set_option maxRecDepth 100000 in
set_option maxHeartbeats 4000000 in
theorem evReads_any (a : Option Addr) (l : List Ev) (cap : Nat) (s : List UInt8) (w : World) (hl : EvsAt w a l) (hra : a = none → cap = 0) (hs : s.length ≤ maxLen) :
    Calls Try.prog 4 #[.slice a l.length cap, .string ⟨s.toArray⟩] w fun r w' => r = .returned (.bool true) ∧ Below w.heap.size w w' := by
  have hlm := hl.1
  unfold maxLen at hlm hs
  have hsz : (⟨s.toArray⟩ : ByteArray).size = s.length := rfl
  have HL := Lib.hid hl
  have HRA : Hid (a = none → cap = 0 ∧ l = []) := fun e => ⟨hra e, by rcases l with _ | ⟨x, l⟩; rfl; obtain ⟨b, o, e', _⟩ := hl.2 (by simp); rw [e] at e'; cases e'⟩
  clear hl hra
  go_enter Try.func4, Try.ntmps4
  go_wp2_with fail
  refine (awake_any _).mono ?_
  rintro r w1 ⟨rfl, hw1⟩
  by_cases h1 : 100 < l.length
  · go_wp2_with fail
    refine (awake_any _).mono ?_
    rintro r w2 ⟨rfl, hb⟩
    have hw2 := hw1.trans (hb.mono hw1.size)
    go_wp2
    go_ret
    exact ⟨rfl, hw2⟩
  by_cases h3 : 300 < s.length
  · go_wp2_with fail
    refine (awake_any _).mono ?_
    rintro r w2 ⟨rfl, hb⟩
    have hw2 := hw1.trans (hb.mono hw1.size)
    go_wp2
    go_ret
    exact ⟨rfl, hw2⟩
  have HE := Lib.hid (ownE_empty w1 (w1.alloc (.cells #[] 23)) rfl)
  have hb2 := below_alloc1 w1 (.cells #[] 23)
  go_wp2_with (at_builtin; refine wpList_copyE rfl (.tmp 25) (.tmp 26) rfl w1.heap.size _ [] rfl HE.out a cap l rfl (HL.out.later (hw1.trans (hb2.mono hw1.size))) HRA.out (by simp; omega) (by simp) ?_; intro v2 w2 hown2 hb3)
  clear HE
  rw [List.nil_append] at hown2
  obtain ⟨a2, cap2, rfl, he2⟩ := hown2.form (by omega)
  have hw2 : Below w.heap.size w w2 := hw1.trans ((hb2.trans hb3).mono hw1.size)
  have HE2 := Lib.hid he2
  clear hown2 he2 hb2 hb3
  refine (evPrint_any a2 cap2 l w2 HE2.out (by omega)).mono ?_
  rintro r w3 ⟨rfl, hb⟩
  have hw3 := hw2.trans (hb.mono hw2.size)
  clear HE2 hb
  have htl := txt_len l
  have HT1 := Lib.hid (readOk_txt l)
  have HT2 := Lib.hid (@readE_txt l)
  have HP := Lib.hid (bstr_txt l)
  rw [HP.out]
  generalize txt l = T at *
  have hTsz : (⟨T.toArray⟩ : ByteArray).size = T.length := rfl
  have hrl := readE_len s
  have HS1 := Lib.hid (@txt_read s)
  rcases hq : readOk s with _ | _
  · have HQ := Lib.hid hq
    clear hq
    go_wp2_with fail
    refine (evRead_any s _ (by omega)).mono ?_
    rintro r w4 ⟨a4, cap4, rfl, he4, hb⟩
    rw [HQ.out]
    have hw4 := hw3.trans (hb.mono hw3.size)
    have HE4 := Lib.hid he4
    clear he4 hb
    go_wp2_with fail
    refine (refEvRead_any s _ (by omega)).mono ?_
    rintro r w5 ⟨a5, cap5, rfl, he5, hb⟩
    rw [HQ.out]
    have hw5 := hw4.trans (hb.mono hw4.size)
    have HE5 := Lib.hid he5
    have HE4b := Lib.hid (HE4.out.later hb)
    clear he5 hb HE4
    go_wp2_with fail
    refine (refEvPrint_any a cap l _ (HL.out.later hw5) (by omega)).mono ?_
    rintro r w6 ⟨rfl, hb⟩
    rw [HP.out]
    have hw6 := hw5.trans (hb.mono hw5.size)
    have HE5b := Lib.hid (HE5.out.later hb)
    have HE4c := Lib.hid (HE4b.out.later hb)
    clear hb HE5 HE4b
    go_wp2_with fail
    refine (sameEvents_any a4 a5 cap4 cap5 (readE s) (readE s) _ HE4c.out HE5b.out).mono ?_
    rw [show decide (readE s = readE s) = true by simp]
    rintro r w7 ⟨rfl, hb⟩
    have hw7 := hw6.trans (hb.mono hw6.size)
    clear hb HE5b HE4c
    have hw8 := hw7
    go_wp2_with fail
    refine (evRead_any T _ (by omega)).mono ?_
    rintro r w9 ⟨a9, cap9, rfl, he9, hb⟩
    rw [HT1.out]
    have hw9 := hw8.trans (hb.mono hw8.size)
    have HE9 := Lib.hid he9
    clear he9 hb
    go_wp2_with fail
    refine (evThreads_any a cap l _ (HL.out.later hw9) (by omega)).mono ?_
    rintro r w10 ⟨g10, rfl, hn10, hb⟩
    have hw10 := hw9.trans (hb.mono hw9.size)
    have HE10 := Lib.hid (HE9.out.later hb)
    have HN10 := Lib.hid hn10
    clear hn10 hb HE9
    go_wp2_with fail
    refine (refThreads_any a cap l _ (HL.out.later hw10) (by omega)).mono ?_
    rintro r w11 ⟨a11, cap11, rfl, hn11, hb⟩
    have hw11 := hw10.trans (hb.mono hw10.size)
    have HE11 := Lib.hid (HE10.out.later hb)
    have HN11 := Lib.hid (HN10.out.later hb)
    have HM11 := Lib.hid hn11
    clear hn11 hb HE10 HN10
    go_wp2_with fail
    refine (sameThreads (some ⟨g10, 0, none⟩) a11 _ _ l _ HN11.out HM11.out).mono ?_
    rintro r w12 ⟨rfl, hb⟩
    have hw12 := hw11.trans (hb.mono hw11.size)
    have HE12 := Lib.hid (HE11.out.later hb)
    clear hb HE11 HN11 HM11
    by_cases hte : T = []
    · subst hte
      go_wp2
      go_ret
      exact ⟨rfl, hw12⟩
    · have q1 : decide (T = []) = false := by simp [hte]
      have q2 : T.isEmpty = false := by simp [hte]
      have HR := Lib.hid (HT2.out hte)
      clear hte
      go_wp2_with fail
      rw [HR.out] at HE12
      rw [HR.out]
      refine (sameEvents_any a9 a cap9 cap l l _ HE12.out (HL.out.later hw12)).mono ?_
      rw [show decide (l = l) = true by simp]
      rintro r w13 ⟨rfl, hb⟩
      have hw13 := hw12.trans (hb.mono hw12.size)
      go_wp2
      go_ret
      exact ⟨rfl, hw13⟩
  · have HQ := Lib.hid hq
    clear hq
    go_wp2_with fail
    refine (evRead_any s _ (by omega)).mono ?_
    rintro r w4 ⟨a4, cap4, rfl, he4, hb⟩
    rw [HQ.out]
    have hw4 := hw3.trans (hb.mono hw3.size)
    have HE4 := Lib.hid he4
    clear he4 hb
    go_wp2_with fail
    refine (refEvRead_any s _ (by omega)).mono ?_
    rintro r w5 ⟨a5, cap5, rfl, he5, hb⟩
    rw [HQ.out]
    have hw5 := hw4.trans (hb.mono hw4.size)
    have HE5 := Lib.hid he5
    have HE4b := Lib.hid (HE4.out.later hb)
    clear he5 hb HE4
    go_wp2_with fail
    refine (refEvPrint_any a cap l _ (HL.out.later hw5) (by omega)).mono ?_
    rintro r w6 ⟨rfl, hb⟩
    rw [HP.out]
    have hw6 := hw5.trans (hb.mono hw5.size)
    have HE5b := Lib.hid (HE5.out.later hb)
    have HE4c := Lib.hid (HE4b.out.later hb)
    clear hb HE5 HE4b
    go_wp2_with fail
    refine (sameEvents_any a4 a5 cap4 cap5 (readE s) (readE s) _ HE4c.out HE5b.out).mono ?_
    rw [show decide (readE s = readE s) = true by simp]
    rintro r w7 ⟨rfl, hb⟩
    have hw7 := hw6.trans (hb.mono hw6.size)
    have HE4d := Lib.hid (HE4c.out.later hb)
    clear hb HE5b HE4c
    go_wp2_with fail
    refine (evPrint_any a4 cap4 (readE s) _ HE4d.out (by omega)).mono ?_
    rintro r w8 ⟨rfl, hb⟩
    rw [bstr_txt, HS1.out HQ.out]
    have hw8 := hw7.trans (hb.mono hw7.size)
    clear hb HE4d
    go_wp2_with fail
    refine (evRead_any T _ (by omega)).mono ?_
    rintro r w9 ⟨a9, cap9, rfl, he9, hb⟩
    rw [HT1.out]
    have hw9 := hw8.trans (hb.mono hw8.size)
    have HE9 := Lib.hid he9
    clear he9 hb
    go_wp2_with fail
    refine (evThreads_any a cap l _ (HL.out.later hw9) (by omega)).mono ?_
    rintro r w10 ⟨g10, rfl, hn10, hb⟩
    have hw10 := hw9.trans (hb.mono hw9.size)
    have HE10 := Lib.hid (HE9.out.later hb)
    have HN10 := Lib.hid hn10
    clear hn10 hb HE9
    go_wp2_with fail
    refine (refThreads_any a cap l _ (HL.out.later hw10) (by omega)).mono ?_
    rintro r w11 ⟨a11, cap11, rfl, hn11, hb⟩
    have hw11 := hw10.trans (hb.mono hw10.size)
    have HE11 := Lib.hid (HE10.out.later hb)
    have HN11 := Lib.hid (HN10.out.later hb)
    have HM11 := Lib.hid hn11
    clear hn11 hb HE10 HN10
    go_wp2_with fail
    refine (sameThreads (some ⟨g10, 0, none⟩) a11 _ _ l _ HN11.out HM11.out).mono ?_
    rintro r w12 ⟨rfl, hb⟩
    have hw12 := hw11.trans (hb.mono hw11.size)
    have HE12 := Lib.hid (HE11.out.later hb)
    clear hb HE11 HN11 HM11
    by_cases hte : T = []
    · subst hte
      go_wp2
      go_ret
      exact ⟨rfl, hw12⟩
    · have q1 : decide (T = []) = false := by simp [hte]
      have q2 : T.isEmpty = false := by simp [hte]
      have HR := Lib.hid (HT2.out hte)
      clear hte
      go_wp2_with fail
      rw [HR.out] at HE12
      rw [HR.out]
      refine (sameEvents_any a9 a cap9 cap l l _ HE12.out (HL.out.later hw12)).mono ?_
      rw [show decide (l = l) = true by simp]
      rintro r w13 ⟨rfl, hb⟩
      have hw13 := hw12.trans (hb.mono hw12.size)
      go_wp2
      go_ret
      exact ⟨rfl, hw13⟩

end Go.Proofs.Ytfhndbibabbnlaa
