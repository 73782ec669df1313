/- The contract of clock's Same. -/
import Derived.Test.YtfefidmbkbigoaaByThread
import Derived.Test.YtfefidmbkbigoaaAlike
import Derived.Test.YtfefidmbkbigoaaSameDef
namespace Go.Proofs.Ytfefidmbkbigoaa
open Go.RowKit

theorem clk_out {l : List Ev} (h : In4 l) {k : Nat} (hk : k < l.length) {t : Int} (ht : ¬ (0 ≤ t ∧ t ≤ 3)) : clk l k t = 0 := by
  have h1 := clk_le_cnt l k t
  have h2 := cnt_mono (isT l t) (show k + 1 ≤ l.length by omega)
  have h3 := cnt_none h ht
  omega
theorem thrM_all_len (l : List Ev) (t : Nat) : (thrM l l.length t).length = (psi l t).length := by
  rw [psi_eq]
  unfold thrM
  simp
theorem thrM_get {l : List Ev} {t i : Nat} (h : i < (thrM l l.length t).length) : ∃ k, k < l.length ∧ (thrM l l.length t)[i] = mkOf l k ∧ (psi l t)[i]? = some (evI l k, clk l k) := by
  have h2 : i < ((List.range l.length).filter (isT l t)).length := by unfold thrM at h; simpa using h
  refine ⟨((List.range l.length).filter (isT l t))[i], ?_, ?_, ?_⟩
  · have := (List.mem_filter.1 (List.getElem_mem h2)).1
    simpa using this
  · have e : (thrM l l.length t)[i]? = some (mkOf l ((List.range l.length).filter (isT l t))[i]) := by
      unfold thrM
      rw [List.getElem?_map, List.getElem?_eq_getElem h2]
      rfl
    exact (List.getElem?_eq_some_iff.1 e).2
  · rw [psi_eq, List.getElem?_map, List.getElem?_eq_getElem h2]
    rfl

/-- Of one thread: the same events, of the same clocks. -/
def EqT (a b : List Ev) (t : Nat) : Prop := (thrM a a.length t).length = (thrM b b.length t).length ∧ AllA (thrM a a.length t) (thrM b b.length t) (thrM a a.length t).length
theorem eqT_iff {a b : List Ev} (ha : In4 a) (hb4 : In4 b) (t : Nat) : EqT a b t ↔ psi a t = psi b t := by
  constructor
  · rintro ⟨h1, h2⟩
    apply List.ext_getElem?
    intro i
    by_cases hi : i < (thrM a a.length t).length
    · have hi' : i < (thrM b b.length t).length := by omega
      obtain ⟨k, hk, e1, e2⟩ := thrM_get hi
      obtain ⟨k', hk', e1', e2'⟩ := thrM_get hi'
      have h3 := alikeB_iff.1 (h2 i hi hi hi')
      rw [e1, e1'] at h3
      rw [e2, e2']
      congr 2
      · exact h3.1
      · funext u
        by_cases hu : 0 ≤ u ∧ u ≤ 3
        · obtain ⟨v, rfl⟩ : ∃ v : Nat, u = v := ⟨u.toNat, by omega⟩
          exact h3.2 v (by omega)
        · rw [clk_out ha hk hu, clk_out hb4 hk' hu]
    · rw [List.getElem?_eq_none (by rw [← thrM_all_len]; omega), List.getElem?_eq_none (by rw [← thrM_all_len]; omega)]
  · intro h
    have hl : (thrM a a.length t).length = (thrM b b.length t).length := by rw [thrM_all_len, thrM_all_len, h]
    refine ⟨hl, fun i _ hi hi' => ?_⟩
    obtain ⟨k, hk, e1, e2⟩ := thrM_get hi
    obtain ⟨k', hk', e1', e2'⟩ := thrM_get hi'
    rw [h, e2'] at e2
    rw [e1, e1', alikeB_iff]
    injection e2 with e2
    injection e2 with e3 e4
    exact ⟨e3.symm, fun u _ => by show clk a k u = clk b k' u; rw [e4]⟩
theorem sim_eqT {a b : List Ev} (ha : In4 a) (hb4 : In4 b) : Sim a b ↔ ∀ t : Nat, t < 4 → EqT a b t := by
  constructor
  · intro h t _
    exact (eqT_iff ha hb4 t).2 (h t)
  · intro h t
    by_cases ht : 0 ≤ t ∧ t ≤ 3
    · obtain ⟨v, rfl⟩ : ∃ v : Nat, t = v := ⟨t.toNat, by omega⟩
      exact (eqT_iff ha hb4 v).1 (h v (by omega))
    · have h1 : psi a t = [] := List.eq_nil_of_length_eq_zero (by rw [psi_len]; exact cnt_none ha ht)
      have h2 : psi b t = [] := List.eq_nil_of_length_eq_zero (by rw [psi_len]; exact cnt_none hb4 ht)
      rw [h1, h2]
theorem SameO.of_all {a b : List Ev} (ha : rightL a = true) (hb4 : rightL b = true) (h : ∀ t, t < 4 → EqT a b t) : SameO a b := ⟨ha, hb4, (sim_eqT (in4_of_right ha) (in4_of_right hb4)).2 h⟩
theorem not_same_thr {a b : List Ev} {t : Nat} (ht : t < 4) (h : ¬ EqT a b t) : ¬ SameO a b := fun hs => h ((sim_eqT (in4_of_right hs.1) (in4_of_right hs.2.1)).1 hs.2.2 t ht)

set_option maxRecDepth 100000 in
set_option maxHeartbeats 4000000 in
theorem same_any (aa ab : Option Addr) (ca cb : Nat) (a b : List Ev) (w : World) (hl : EvsAt w aa a) (hl' : EvsAt w ab b) (hm : a.length ≤ 1000) (hm' : b.length ≤ 1000) :
    Calls Try.prog 13 #[.slice aa a.length ca, .slice ab b.length cb] w (SameR a b w) := by
  have HL := Lib.hid hl
  have HL' := Lib.hid hl'
  have HCa := Lib.hid (cRight_any aa ca a w hl)
  clear hl hl'
  cases hra : rightL a
  · have HN : Hid (¬ SameO a b) := fun h => by rw [h.1] at hra; cases hra
    rw [hra] at HCa
    clear hra
    go_enter Try.func13, Try.ntmps13
    go_wp2_with fail
    refine HCa.out.mono ?_
    rintro r w1 ⟨rfl, hbw⟩
    clear HCa
    go_wp2
    go_ret
    exact ⟨false, rfl, by simp [HN.out], hbw⟩
  rw [hra] at HCa
  have HRA := Lib.hid hra
  cases hrb : rightL b
  · have HN : Hid (¬ SameO a b) := fun h => by rw [h.2.1] at hrb; cases hrb
    have HRB := Lib.hid hrb
    clear hra hrb
    go_enter Try.func13, Try.ntmps13
    go_wp2_with fail
    refine HCa.out.mono ?_
    rintro r w1 ⟨rfl, hbw⟩
    clear HCa
    go_wp2_with fail
    refine (cRight_any ab cb b w1 (HL'.out.later hbw)).mono ?_
    rintro r w2 ⟨rfl, hbw2⟩
    rw [HRB.out]
    have hb3 := hbw.trans (hbw2.mono hbw.size)
    clear HRB hbw hbw2
    go_wp2
    go_ret
    exact ⟨false, rfl, by simp [HN.out], hb3⟩
  have HRB := Lib.hid hrb
  clear hra hrb
  go_enter Try.func13, Try.ntmps13
  go_wp2_with fail
  refine HCa.out.mono ?_
  rintro r w1 ⟨rfl, hbw⟩
  clear HCa
  go_wp2_with fail
  refine (cRight_any ab cb b w1 (HL'.out.later hbw)).mono ?_
  rintro r w2 ⟨rfl, hbw2⟩
  rw [HRB.out]
  have hb3 := hbw.trans (hbw2.mono hbw.size)
  clear hbw hbw2
  go_wp2_with fail
  refine (byThread_any aa ca a w2 (HL.out.later hb3) hm HRA.out).mono ?_
  rintro r w3 ⟨ada, csa, rfl, hrowa, hb4⟩
  have hb5 := hb3.trans (hb4.mono hb3.size)
  have HROWA := Lib.hid hrowa
  clear hb4 hb3 hrowa
  go_wp2_with fail
  refine (byThread_any ab cb b w3 (HL'.out.later hb5) hm' HRB.out).mono ?_
  rintro r w4 ⟨adb, csb, rfl, hrowb, hb6⟩
  have hb7 := hb5.trans (hb6.mono hb5.size)
  have HRA4 : Hid (∀ t, t < 4 → RowAt w4 (ada t) 8 mkCell (thrM a a.length t)) := fun t ht => (HROWA.out t ht).later hb6
  have HRB4 := Lib.hid hrowb
  clear hb6 hb5 hrowb HROWA HL HL'
  have HMA : Hid (MidAt ((w4.alloc (.cells #[.slice (ada 0) (thrM a a.length 0).length (csa 0), .slice (ada 1) (thrM a a.length 1).length (csa 1), .slice (ada 2) (thrM a a.length 2).length (csa 2), .slice (ada 3) (thrM a a.length 3).length (csa 3)] 55)).alloc (.cells #[.slice (adb 0) (thrM b b.length 0).length (csb 0), .slice (adb 1) (thrM b b.length 1).length (csb 1), .slice (adb 2) (thrM b b.length 2).length (csb 2), .slice (adb 3) (thrM b b.length 3).length (csb 3)] 55)) w4.heap.size 55 (vals4 fun t => .slice (ada t) (thrM a a.length t).length (csa t))) := heap_alloc2_old _ _ _
  have HMB : Hid (MidAt ((w4.alloc (.cells #[.slice (ada 0) (thrM a a.length 0).length (csa 0), .slice (ada 1) (thrM a a.length 1).length (csa 1), .slice (ada 2) (thrM a a.length 2).length (csa 2), .slice (ada 3) (thrM a a.length 3).length (csa 3)] 55)).alloc (.cells #[.slice (adb 0) (thrM b b.length 0).length (csb 0), .slice (adb 1) (thrM b b.length 1).length (csb 1), .slice (adb 2) (thrM b b.length 2).length (csb 2), .slice (adb 3) (thrM b b.length 3).length (csb 3)] 55)) (w4.heap.size + 1) 55 (vals4 fun t => .slice (adb t) (thrM b b.length t).length (csb t))) := heap_alloc2_new _ _ _
  have hba : Below w4.heap.size w4 ((w4.alloc (.cells #[.slice (ada 0) (thrM a a.length 0).length (csa 0), .slice (ada 1) (thrM a a.length 1).length (csa 1), .slice (ada 2) (thrM a a.length 2).length (csa 2), .slice (ada 3) (thrM a a.length 3).length (csa 3)] 55)).alloc (.cells #[.slice (adb 0) (thrM b b.length 0).length (csb 0), .slice (adb 1) (thrM b b.length 1).length (csb 1), .slice (adb 2) (thrM b b.length 2).length (csb 2), .slice (adb 3) (thrM b b.length 3).length (csb 3)] 55)) := below_alloc2 _ _ _
  have hb8 := hb7.trans (hba.mono hb7.size)
  have HRA5 : Hid (∀ t, t < 4 → RowAt ((w4.alloc (.cells #[.slice (ada 0) (thrM a a.length 0).length (csa 0), .slice (ada 1) (thrM a a.length 1).length (csa 1), .slice (ada 2) (thrM a a.length 2).length (csa 2), .slice (ada 3) (thrM a a.length 3).length (csa 3)] 55)).alloc (.cells #[.slice (adb 0) (thrM b b.length 0).length (csb 0), .slice (adb 1) (thrM b b.length 1).length (csb 1), .slice (adb 2) (thrM b b.length 2).length (csb 2), .slice (adb 3) (thrM b b.length 3).length (csb 3)] 55)) (ada t) 8 mkCell (thrM a a.length t)) := fun t ht => (HRA4.out t ht).later hba
  have HRB5 : Hid (∀ t, t < 4 → RowAt ((w4.alloc (.cells #[.slice (ada 0) (thrM a a.length 0).length (csa 0), .slice (ada 1) (thrM a a.length 1).length (csa 1), .slice (ada 2) (thrM a a.length 2).length (csa 2), .slice (ada 3) (thrM a a.length 3).length (csa 3)] 55)).alloc (.cells #[.slice (adb 0) (thrM b b.length 0).length (csb 0), .slice (adb 1) (thrM b b.length 1).length (csb 1), .slice (adb 2) (thrM b b.length 2).length (csb 2), .slice (adb 3) (thrM b b.length 3).length (csb 3)] 55)) (adb t) 8 mkCell (thrM b b.length t)) := fun t ht => (HRB4.out t ht).later hba
  clear hba hb7 HRA4 HRB4
  go_wp2
  generalize ((w4.alloc (.cells #[.slice (ada 0) (thrM a a.length 0).length (csa 0), .slice (ada 1) (thrM a a.length 1).length (csa 1), .slice (ada 2) (thrM a a.length 2).length (csa 2), .slice (ada 3) (thrM a a.length 3).length (csa 3)] 55)).alloc (.cells #[.slice (adb 0) (thrM b b.length 0).length (csb 0), .slice (adb 1) (thrM b b.length 1).length (csb 1), .slice (adb 2) (thrM b b.length 2).length (csb 2), .slice (adb 3) (thrM b b.length 3).length (csb 3)] 55)) = W5 at *
  go_loopw [20] (fun i wr => ∃ t : Nat, t ≤ 4 ∧ i = .int .i64 t ∧ Hid (∀ s, s < t → EqT a b s) ∧ Below W5.heap.size W5 wr) (fun i _ => 4 - (intOf i).toNat)
  case atStart => exact ⟨0, by omega, rfl, (fun s h => absurd h (by omega)), Below.refl _ _⟩
  case round =>
    obtain ⟨t, ht, rfl, HE, hbw⟩ := hrel
    by_cases ht4 : t < 4
    · have q1 := cell_later hbw (by have := HMA.out.cell t; rw [vals4_get _ ht4] at this; exact this)
      have q2 := cell_later hbw (by have := HMB.out.cell t; rw [vals4_get _ ht4] at this; exact this)
      have hti : (t : Int) < 4 := by omega
      have hti0 : (0 : Int) ≤ t := by omega
      have HQ : Hid (∀ w', Below wr.heap.size wr w' → w'.cell? ⟨w4.heap.size, t, none⟩ = some (.slice (ada t) (thrM a a.length t).length (csa t)) ∧ w'.cell? ⟨w4.heap.size + 1, t, none⟩ = some (.slice (adb t) (thrM b b.length t).length (csb t)) ∧ Below wr.heap.size wr w') := fun w' h => ⟨cell_later h q1, cell_later h q2, h⟩
      have hB9 : Below wr.heap.size wr wr.drew := (Below.refl _ _).drew
      have HF1 : Hid (∀ w', Below wr.heap.size wr w' → Calls Try.prog 35 #[.slice (ada t) (thrM a a.length t).length (csa t), .slice (adb t) (thrM b b.length t).length (csb t), .func (.func 36) #[] #[]] w' (EqR (thrM a a.length t) (thrM b b.length t) w')) := fun w' h => by
        have h9 := hbw.trans (h.mono hbw.size)
        exact equalFunc_any _ _ _ _ _ _ w' ((HRA5.out t ht4).later h9) ((HRB5.out t ht4).later h9)
      clear q1 q2
      go_wp2_with fail
      go_region_held3 (fun w' => w'.cell? ⟨w4.heap.size, t, none⟩ = some (.slice (ada t) (thrM a a.length t).length (csa t)) ∧ w'.cell? ⟨w4.heap.size + 1, t, none⟩ = some (.slice (adb t) (thrM b b.length t).length (csb t)) ∧ Below wr.heap.size wr w') (first | exact HQ.out _ hB9 | exact HQ.out _ hB10)
        (first | (go_at_call 35; ((with_reducible refine (HF1.out _ hB9).mono ?_); rintro r w10 ⟨c, rfl, hcc, hb10⟩; have HC := Lib.hid hcc; have hB10 := below_step2 hB9 hb10; clear hB9 hcc)))
      all_goals
        have hb11 := hbw.trans (hB10.mono hbw.size)
        cases c
        · have HN := Lib.hid (not_same_thr ht4 (fun h => by have := HC.out.2 h; cases this))
          clear HC
          go_wp2
          go_ret
          exact ⟨false, rfl, ⟨fun h => (by cases h), fun h => absurd h HN.out⟩, hb8.trans (hb11.mono hb8.size)⟩
        · have HE2 : Hid (∀ s, s < t + 1 → EqT a b s) := by
            intro s hs
            by_cases e : s = t
            · subst e; exact HC.out.1 rfl
            · exact HE.out s (by omega)
          clear HC HE
          go_wp2
          go_roundw
          case rel => exact ⟨t + 1, by omega, by go_num, HE2, hb11⟩
          case measure => simp [intOf]; omega
    · obtain rfl : t = 4 := by omega
      have HS := Lib.hid (SameO.of_all HRA.out HRB.out HE.out)
      clear HE
      go_wp2
      go_ret
      exact ⟨true, rfl, ⟨fun _ => HS.out, fun _ => rfl⟩, hb8.trans (hbw.mono hb8.size)⟩

end Go.Proofs.Ytfefidmbkbigoaa
