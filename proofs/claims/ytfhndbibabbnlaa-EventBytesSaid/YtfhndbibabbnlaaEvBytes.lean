/- EventBytes: unlike rows of events that may be have unlike bytes, one a byte. -/
import Derived.Test.YtfhndbibabbnlaaEvReads
namespace Go.Proofs.Ytfhndbibabbnlaa
open Go.RowKit

theorem txt_all {l : List Ev} (h : ∀ e ∈ l, rightEv e = true) : txt l = l.map fun e => UInt8.ofNat (evB e).toNat := by
  unfold txt printE
  rw [if_pos (List.all_eq_true.2 h), List.map_map]
  rfl
theorem txt_all_len {l : List Ev} (h : ∀ e ∈ l, rightEv e = true) : (txt l).length = l.length := by rw [txt_all h]; simp
theorem txt_inj {l m : List Ev} (hl : ∀ e ∈ l, rightEv e = true) (hm : ∀ e ∈ m, rightEv e = true) : decide (txt l = txt m) = decide (l = m) := by
  rw [decide_eq_decide]
  constructor
  · intro h
    have h1 := evsOf_txt (List.all_eq_true.2 hl)
    rw [h, evsOf_txt (List.all_eq_true.2 hm)] at h1
    exact h1.symm
  · rintro rfl
    rfl

theorem hra_nil {w : World} {a : Option Addr} {cap : Nat} {l : List Ev} (hl : EvsAt w a l) (hra : a = none → cap = 0) : a = none → cap = 0 ∧ l = [] :=
  fun e => ⟨hra e, by rcases l with _ | ⟨x, l⟩; rfl; obtain ⟨b, o, e', _⟩ := hl.2 (by simp); rw [e] at e'; cases e'⟩

set_option maxRecDepth 100000 in
set_option maxHeartbeats 4000000 in
theorem evBytes_any (a : Option Addr) (l : List Ev) (cap : Nat) (a' : Option Addr) (m : List Ev) (cap' : Nat) (w : World) (hl : EvsAt w a l) (hra : a = none → cap = 0) (hm : EvsAt w a' m) (hra' : a' = none → cap' = 0) :
    Calls Try.prog 6 #[.slice a l.length cap, .slice a' m.length cap'] w fun r w' => r = .returned (.bool true) ∧ Below w.heap.size w w' := by
  have hlm := hl.1
  have hmm := hm.1
  unfold maxLen at hlm hmm
  have HL := Lib.hid hl
  have HM := Lib.hid hm
  have HRA := Lib.hid (hra_nil hl hra)
  have HRM := Lib.hid (hra_nil hm hra')
  clear hl hra hm hra'
  go_enter Try.func6, Try.ntmps6
  go_wp2_with fail
  refine (awake_any _).mono ?_
  rintro r w1 ⟨rfl, hw1⟩
  by_cases h1 : 100 < l.length
  · go_wp2_with fail
    refine (awake_any _).mono ?_
    rintro r w2 ⟨rfl, hb⟩
    have hw2 := hw1.trans (hb.mono hw1.size)
    go_wp2
    go_ret
    exact ⟨rfl, hw2⟩
  by_cases h3 : 100 < m.length
  · go_wp2_with fail
    refine (awake_any _).mono ?_
    rintro r w2 ⟨rfl, hb⟩
    have hw2 := hw1.trans (hb.mono hw1.size)
    go_wp2
    go_ret
    exact ⟨rfl, hw2⟩
  go_wp2_with fail
  refine (evPrint_any a cap l _ (HL.out.later hw1) (by omega)).mono ?_
  rintro r w2 ⟨rfl, hb⟩
  rw [bstr_txt]
  have hw2 := hw1.trans (hb.mono hw1.size)
  clear hb
  go_wp2_with fail
  refine (evPrint_any a' cap' m _ (HM.out.later hw2) (by omega)).mono ?_
  rintro r w3 ⟨rfl, hb⟩
  rw [bstr_txt]
  have hw3 := hw2.trans (hb.mono hw2.size)
  clear hb
  have HT1 := Lib.hid (@txt_all_len l)
  have HT2 := Lib.hid (@txt_all_len m)
  have HT3 := Lib.hid (@txt_inj l m)
  generalize txt l = T at *
  generalize txt m = U at *
  have HE := Lib.hid (ownE_empty w3 (w3.alloc (.cells #[] 23)) rfl)
  have hb2 := below_alloc1 w3 (.cells #[] 23)
  go_wp2_with (first
    | (at_builtin; refine wpList_copyE rfl (.tmp 26) (.tmp 27) rfl w3.heap.size _ [] rfl HE.out a cap l rfl (HL.out.later (hw3.trans (hb2.mono hw3.size))) HRA.out (by simp; omega) (by simp) ?_; intro v2 w4 hown2 hb3; rw [List.nil_append] at hown2; have hb4 := hb2.trans hb3; clear hb2 hb3)
    | (at_builtin; refine wpList_copyE rfl (.tmp 28) (.tmp 29) rfl w3.heap.size _ l rfl hown2 a' cap' m rfl (HM.out.later (hw3.trans (hb4.mono hw3.size))) HRM.out (by omega) hb4.size ?_; intro v3 w5 hown3 hb5; have hb6 := hb4.trans hb5; clear hb4 hb5; obtain ⟨N, hN⟩ : ∃ N, l ++ m = N := ⟨_, rfl⟩; rw [hN] at hown3; have HNN := Lib.hid hN; have hnm : N.length ≤ 200 := (by rw [← hN, List.length_append]; omega); clear hN; obtain ⟨g, c, rfl, he⟩ := hown3.form (by omega); clear hown3; have HN := Lib.hid he; clear he))
  clear HE
  have hw5 := hw3.trans (hb6.mono hw3.size)
  clear hb6
  have HX : Hid ((∀ e ∈ N, rightEv e = true) → T.length = l.length ∧ U.length = m.length ∧ decide (T = U) = decide (l = m)) := by
    intro h
    rw [← HNN.out] at h
    have h1 := fun e he => h e (List.mem_append_left _ he)
    have h2 := fun e he => h e (List.mem_append_right _ he)
    exact ⟨HT1.out h1, HT2.out h2, HT3.out h1 h2⟩
  clear HT1 HT2 HT3
  go_loopw [32] (fun i wr => ∃ k : Nat, k ≤ N.length ∧ i = .int .i64 k ∧ Hid (∀ e ∈ N.take k, rightEv e = true) ∧ Below w5.heap.size w5 wr) (fun i _ => N.length - (intOf i).toNat)
  case atStart => exact ⟨0, Nat.zero_le _, rfl, by simp [Hid], Below.refl _ _⟩
  case round =>
    obtain ⟨k, hk, rfl, HA, hb⟩ := hrel
    by_cases hlt : k < N.length
    · obtain ⟨b, o, rfl, hc⟩ := HN.out.2 (by intro e; simp [e] at hlt)
      obtain ⟨c0, c1, c2, c3⟩ := hc k hlt
      have d0 := cell_later hb c0
      have d1 := cell_later hb c1
      have d2 := cell_later hb c2
      have d3 := cell_later hb c3
      clear hc c0 c1 c2 c3
      have HT := Lib.hid (List.take_succ_eq_append_getElem hlt : N.take (k + 1) = N.take k ++ [N[k]])
      have hb1 : Below w5.heap.size w5 (wr.alloc (.cells #[.int .i64 N[k].thread, .int .i64 N[k].kind, .int .i64 N[k].obj, .bool N[k].fail] 23)) := hb.alloc hb.size _
      generalize N[k] = x at *
      go_wp2_with fail
      generalize wr.alloc (.cells #[.int .i64 x.thread, .int .i64 x.kind, .int .i64 x.obj, .bool x.fail] 23) = W1 at *
      clear d0 d1 d2 d3 hb
      refine (evRight_any x _).mono ?_
      rintro r w6 ⟨rfl, hb⟩
      have hb2 := hb1.trans (hb.mono hb1.size)
      clear hb hb1
      cases hr : rightEv x
      · clear hr
        go_wp2
        go_ret
        exact ⟨rfl, hw5.trans (hb2.mono hw5.size)⟩
      · have HR := Lib.hid hr
        clear hr
        go_wp2
        go_roundw
        case rel => exact ⟨k + 1, by omega, by go_num, (by show ∀ e ∈ _, _; rw [HT.out]; intro e he; rcases List.mem_append.1 he with h | h; exact HA.out e h; rw [List.mem_singleton.1 h]; exact HR.out), hb2⟩
        case measure => simp [intOf]; omega
    · obtain rfl : k = N.length := by omega
      have h := HA.out
      rw [List.take_length] at h
      obtain ⟨e1, e2, e3⟩ := HX.out h
      clear h HX
      have s1 : (⟨T.toArray⟩ : ByteArray).size = T.length := rfl
      have s2 : (⟨U.toArray⟩ : ByteArray).size = U.length := rfl
      have q1 : ((T.length : Int) == l.length) = true := by simp [e1]
      have q2 : ((U.length : Int) == m.length) = true := by simp [e2]
      have hw6 := hw5.trans (hb.mono hw5.size)
      obtain ⟨D, hD⟩ : ∃ D, decide (l = m) = D := ⟨_, rfl⟩
      rw [hD] at e3
      have e4 : (T == U) = D := by rw [← e3, Bool.eq_iff_iff]; simp
      have HD := Lib.hid hD
      have q3 : (D == D) = true := by simp
      clear e1 e2 e3 hD
      go_wp2_with fail
      refine (sameEvents_any a a' cap cap' l m _ (HL.out.later hw6) (HM.out.later hw6)).mono ?_
      rw [HD.out]
      rintro r w7 ⟨rfl, hb7⟩
      have hw7 := hw6.trans (hb7.mono hw6.size)
      go_wp2
      go_ret
      exact ⟨rfl, hw7⟩

end Go.Proofs.Ytfhndbibabbnlaa
