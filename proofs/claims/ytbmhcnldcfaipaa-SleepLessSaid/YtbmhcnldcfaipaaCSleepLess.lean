/-
  SleepLess: behind a step no more sleep than slept, or were gone into, who sleeps still would do the same next as ahead of the step, and with more asleep ahead no fewer sleep: the law answers true, and its arguments read as they did.
  For every input, whatever its size and however its parts share memory; nothing is asked of it but what the statement's own form asks.
-/
import Derived.WalkKit
import Derived.ProofKit
import Derived.OpenShut
import Derived.Test.YtbmhcnldcfaipaaRows
import Derived.Test.YtbmhcnldcfaipaaPk04
import Derived.Test.YtbmhcnldcfaipaaPk05
import Derived.Test.YtbmhcnldcfaipaaPk06

/- SleepLess: behind a step no more sleep than slept, or were gone into; who sleeps still would do the same next as ahead of the step; with more asleep ahead no fewer sleep. -/
namespace Go.Proofs.Ytbmhcnldcfaipaa
open Go.RowKit

theorem childN_more (nx : Int → Option Ev) (asl ear : Nat) (t : Int) : childN nx (asl ||| ear) ear t = childN nx asl ear t := by
  refine set_ext (childN_lt _ _ _ _) (childN_lt _ _ _ _) fun i hi => ?_
  rw [testBit_childN _ _ _ _ hi, testBit_childN _ _ _ _ hi]
  unfold childO
  have h : ((asl ||| ear).testBit i || ear.testBit i) = (asl.testBit i || ear.testBit i) := by
    rw [Nat.testBit_or]
    cases asl.testBit i <;> cases ear.testBit i <;> rfl
  rw [h]
theorem childO_yes {nx : Int → Option Ev} {asl ear : Nat} {t : Int} {i : Nat} (h : childO nx asl ear t i = true) : (i : Int) ≠ t ∧ (asl ||| ear).testBit i = true := by
  unfold childO at h
  split at h
  · cases h
  · split at h
    · cases h
    · simp only [Bool.and_eq_true, decide_eq_true_eq] at h
      exact ⟨h.1.1, by rw [Nat.testBit_or]; exact h.1.2⟩
theorem childN_sub (nx : Int → Option Ev) {asl ear : Nat} (ha : asl < 256) (he : ear < 256) (t : Int) : wo (childN nx asl ear t) (asl ||| ear) = 0 := by
  refine set_ext (wo_lt _ _ (childN_lt _ _ _ _)) (by omega) fun i hi => ?_
  rw [testBit_wo (childN_lt _ _ _ _) (or_lt8 ha he), testBit_childN _ _ _ _ hi, Nat.zero_testBit]
  cases hc : childO nx asl ear t i
  · rfl
  · rw [(childO_yes hc).2]; rfl
theorem childN_self (nx : Int → Option Ev) (asl ear : Nat) (t : Int) : hasB (childN nx asl ear t) t = false := by
  unfold hasB
  by_cases h : 0 ≤ t ∧ t < 8
  · obtain ⟨i, rfl⟩ : ∃ i : Nat, t = i := ⟨t.toNat, by omega⟩
    have hi : i < 8 := by omega
    simp only [h, and_self, decide_true, Bool.true_and, Int.toNat_natCast]
    rw [testBit_childN _ _ _ _ hi]
    cases hc : childO nx asl ear (i : Int) i
    · rfl
    · exact absurd rfl (childO_yes hc).1
  · simp [h]

set_option maxRecDepth 100000 in
set_option maxHeartbeats 8000000 in
theorem sleepLess_any (p : Pg) (a : Option Addr) (cap : Nat) (fuel : Int) (ra : Option Addr) (row : List Int) (rcap : Nat) (n m : Nat) (t : Int) (w : World) (hp : ThreadsAt w a p.threads) (hrow : NumsAt w ra row) (hn : n < 256) (hm : m < 256) :
    Calls Try.prog 5 #[.agg #[.int .i64 p.vars, .int .i64 p.mutexes, .slice a p.threads.length cap], .int .i64 fuel, .slice ra row.length rcap, .int .u8 n, .int .u8 m, .int .i64 t] w fun r w' => r = .returned (.bool true) ∧ Below w.heap.size w w' := by
  have HP := Lib.hid hp
  have HROW := Lib.hid hrow
  clear hp hrow
  go_enter Try.func5, Try.ntmps5
  go_wp2_with fail
  refine (awake8_any _).mono ?_
  rintro r w1 ⟨rfl, hb1⟩
  have hc1 : ∀ o, w1.cell? ⟨w.heap.size, o, none⟩ = (w.alloc (.cells #[.int .i64 p.vars, .int .i64 p.mutexes, .slice a p.threads.length cap] 37)).cell? ⟨w.heap.size, o, none⟩ := fun o => hb1.cell (p := ⟨w.heap.size, o, none⟩) (by simp)
  have hw1 : Below w.heap.size w w1 := (below_alloc1 w _).trans (hb1.mono (by simp))
  have hz1 : w.heap.size < w1.heap.size := by have := hb1.size; simp at this; omega
  clear hb1
  go_wp2_with fail
  refine (few_any p a cap w1 (HP.out.later hw1)).mono ?_
  rintro r w2 ⟨rfl, hb2⟩
  have hc2 : ∀ o, w2.cell? ⟨w.heap.size, o, none⟩ = w1.cell? ⟨w.heap.size, o, none⟩ := fun o => hb2.cell (p := ⟨w.heap.size, o, none⟩) hz1
  have hw2 : Below w.heap.size w w2 := hw1.trans (hb2.mono hw1.size)
  have hz2 : w.heap.size < w2.heap.size := by have := hb2.size; omega
  clear hb2
  cases hf : fewPg p
  · clear hf hc1 hc2
    go_wp2_with fail
    refine (awake8_any _).mono ?_
    rintro r w3 ⟨rfl, hb3⟩
    have hw3 : Below w.heap.size w w3 := hw2.trans (hb3.mono hw2.size)
    go_wp2
    go_ret
    exact ⟨rfl, hw3⟩
  clear hf
  by_cases hN : 40 < row.length
  · clear hc1 hc2
    go_wp2_with fail
    refine (awake8_any _).mono ?_
    rintro r w3 ⟨rfl, hb3⟩
    have hw3 : Below w.heap.size w w3 := hw2.trans (hb3.mono hw2.size)
    go_wp2
    go_ret
    exact ⟨rfl, hw3⟩
  have c0 : w2.cell? ⟨w.heap.size, 0, none⟩ = some (.int .i64 p.vars) := by rw [hc2, hc1]; simp
  have c1 : w2.cell? ⟨w.heap.size, 1, none⟩ = some (.int .i64 p.mutexes) := by rw [hc2, hc1]; simp
  have c2 : w2.cell? ⟨w.heap.size, 2, none⟩ = some (.slice a p.threads.length cap) := by rw [hc2, hc1]; simp
  clear hc1 hc2
  go_wp2_with fail
  refine (replay_any p a cap fuel ra rcap row w2 (HP.out.later hw2) (HROW.out.later hw2) (by omega)).mono ?_
  rintro r w3 ⟨hb3, hmt⟩
  have HW3 := Lib.hid (hw2.trans (hb3.mono hw2.size))
  clear c0 c1 c2 hb3 hw1 hw2
  have hz3 : w.heap.size ≤ w3.heap.size := HW3.out.size
  rcases hrep : rep p fuel row with ⟨e, es, _ | s⟩
  · have q0 : (e == 0) = false := by simpa using rep_none hrep
    have q1 : (e != 0) = true := by simpa using rep_none hrep
    rw [hrep] at hmt
    dsimp only at hmt
    obtain rfl := hmt
    clear hrep
    go_wp2
    go_ret
    exact ⟨rfl, HW3.out⟩
  obtain ⟨rfl, _, _⟩ := rep_some hrep
  rw [hrep] at hmt
  dsimp only at hmt
  obtain ⟨g, v, rfl, hg, hs, ok, ho⟩ := hmt
  have HS := Lib.hid hs
  have OK := Lib.hid ok
  have h4 := ok.len4
  clear hs ok ho hrep hg
  go_wp2_with fail
  refine (enabled_any HS.out OK.out t).mono ?_
  rintro r w4 ⟨rfl, hb4⟩
  have HB4 := Lib.hid hb4
  clear hb4
  cases hmay : s.may t
  · clear hmay
    go_wp2
    go_ret
    exact ⟨rfl, HW3.out.trans (HB4.out.mono hz3)⟩
  obtain ⟨x, s', _, hst, _, _⟩ := may_next hmay
  have hok' := OK.out.step_ok t
  rw [hst] at hok'
  have OK2 : Hid (s'.Ok fuel.toNat) := hok'
  have HST := Lib.hid hst
  have HCH : Hid (∀ k (h : k < (childTo s.next n m t 8).length), ∃ y, s.next ((childTo s.next n m t 8)[k] : Int) = some y ∧ s'.next ((childTo s.next n m t 8)[k] : Int) = some y ∧ s'.may ((childTo s.next n m t 8)[k] : Int) = s.may ((childTo s.next n m t 8)[k] : Int)) := by
    intro k h
    have hu : childO s.next n m t (childTo s.next n m t 8)[k] = true := (List.mem_filter.1 (show (childTo s.next n m t 8)[k] ∈ childTo s.next n m t 8 from List.getElem_mem h)).2
    exact child_same OK.out hst hu
  have HL8 := childTo_len s.next n m t 8
  clear hmay hst hok'
  go_wp2_with fail
  refine (child_gen (some ⟨g, 0, none⟩) s.next hn hm t w4 (fun W hb t => next_any ((HS.out.later HB4.out).later hb) OK.out t)).mono ?_
  rintro r w5 ⟨rfl, hb5⟩
  have HB5 := Lib.hid (HB4.out.trans (hb5.mono HB4.out.size))
  clear hb5 HB4
  have HQ := Lib.hid (bits_or_u8 n m hn hm)
  go_wp2_with fail
  rw [HQ.out]
  refine (child_gen (some ⟨g, 0, none⟩) s.next (or_lt8 hn hm) hm t w5 (fun W hb t => next_any ((HS.out.later HB5.out).later hb) OK.out t)).mono ?_
  rw [childN_more]
  rintro r w6 ⟨rfl, hb6⟩
  have HB6 := Lib.hid (HB5.out.trans (hb6.mono HB5.out.size))
  clear hb6 HB5
  go_wp2_with fail
  refine (copy_state (HS.out.later HB6.out)).mono ?_
  rintro r w' ⟨rfl, rfl⟩
  have HC := Lib.hid (heap_new_st w6 s)
  have HS7 := Lib.hid ((HS.out.later HB6.out).later (below_alloc1 w6 (.cells (numA (stNum s)) 81)))
  have HB7 := Lib.hid (HB6.out.alloc HB6.out.size (.cells (numA (stNum s)) 81))
  have hgC : g ≠ w6.heap.size := by have := (HS.out.later HB6.out).lt; omega
  have hC : w3.heap.size ≤ w6.heap.size := HB6.out.size
  clear HB6
  go_wp2_with fail
  generalize w6.alloc (.cells (numA (stNum s)) 81) = W7 at *
  generalize w6.heap.size = C at *
  refine (step_any HC.out OK.out t).mono ?_
  rw [HST.out]
  rintro r w8 ⟨rfl, hs, ho⟩
  dsimp only at hs
  have HY := Lib.hid hs
  have HX := Lib.hid (ho.stAt HS7.out hgC)
  have HB8 := Lib.hid (HB7.out.trans (ho.below hC HB7.out.size))
  clear hs ho HC HS7 HB7
  unfold stepV evV
  dsimp only
  go_wp2_with fail
  refine (setAll_any (childN_lt _ _ _ _) w8).mono ?_
  rw [bits_childN]
  rintro r w9 ⟨v9, rfl, ho9, hb9⟩
  obtain ⟨a9, c9, rfl, hr9, _⟩ := ho9.form (by rw [ints_len]; omega)
  rw [ints_len]
  have HR := Lib.hid hr9
  have HX9 := Lib.hid (HX.out.later hb9)
  have HY9 := Lib.hid (HY.out.later hb9)
  have HB9 := Lib.hid (HB8.out.trans (hb9.mono HB8.out.size))
  clear ho9 hb9 hr9 HX HY HB8
  have HCN := Lib.hid (childN_lt s.next n m t)
  have HSELF := Lib.hid (childN_self s.next n m t)
  have hq : (bits .andNot .u8 ((childN s.next n m t : Nat) : Int) (bits .or .u8 (n : Int) (m : Int)) == 0) = true := by
    rw [HQ.out, bits_andNot_u8 _ _ (childN_lt _ _ _ _) (or_lt8 hn hm), childN_sub _ hn hm]; rfl
  generalize childN s.next n m t = cN at *
  generalize childTo s.next n m t 8 = l at *
  go_wp2
  go_loopw [74] (fun i wr => ∃ k : Nat, k ≤ l.length ∧ i = .int .i64 k ∧ Hid (Below w9.heap.size w9 wr)) (fun i _ => l.length - (intOf i).toNat)
  case atStart => exact ⟨0, Nat.zero_le _, rfl, Below.refl _ _⟩
  case round =>
    obtain ⟨k, hk, rfl, HW⟩ := hrel
    have hzw := HW.out.size
    by_cases hlt : k < l.length
    · obtain ⟨b, o3, rfl, hck⟩ := num_at (HR.out.later HW.out) (k := k) (by rw [ints_len]; exact hlt)
      rw [ints_get hlt] at hck
      obtain ⟨y, hy1, hy2, hy3⟩ := HCH.out k hlt
      have HY1 := Lib.hid hy1
      have HY2 := Lib.hid hy2
      have HY3 := Lib.hid hy3
      clear hy1 hy2 hy3
      go_wp2_with fail
      refine (next_any (HX9.out.later HW.out) OK.out _).mono ?_
      rw [HY1.out, evR_some]
      rintro r w10 ⟨rfl, hb10⟩
      have HW11 := Lib.hid ((HW.out.trans (hb10.mono hzw)).alloc (by have := hb10.size; omega) (.cells #[.int .i64 y.thread, .int .i64 y.kind, .int .i64 y.obj, .bool y.fail] 54))
      have HE1 := Lib.hid (EvBox.new w10 y)
      clear hb10 hck
      go_wp2_with fail
      refine (next_any (HY9.out.later HW11.out) OK2.out _).mono ?_
      rw [HY2.out, evR_some]
      rintro r w12 ⟨rfl, hb12⟩
      have hb13 := hb12.alloc hb12.size (.cells #[.int .i64 y.thread, .int .i64 y.kind, .int .i64 y.obj, .bool y.fail] 54)
      have HW13 := Lib.hid (HW11.out.trans (hb13.mono HW11.out.size))
      obtain ⟨x0, x1, x2, x3⟩ := (HE1.out.later hb13).cells
      obtain ⟨y0, y1, y2, y3⟩ := (EvBox.new w12 y).cells
      have heq := run_equal_ev y y
      clear hb12 hb13 HE1
      go_wp2_with fail
      refine (enabled_any (HX9.out.later HW13.out) OK.out _).mono ?_
      rintro r w14 ⟨rfl, hb14⟩
      have HW14 := Lib.hid (HW13.out.trans (hb14.mono HW13.out.size))
      clear hb14 heq x0 x1 x2 x3 y0 y1 y2 y3
      go_wp2_with fail
      refine (enabled_any (HY9.out.later HW14.out) OK2.out _).mono ?_
      rw [HY3.out]
      rintro r w15 ⟨rfl, hb15⟩
      have HW15 := Lib.hid (HW14.out.trans (hb15.mono HW14.out.size))
      clear hb15 HW14
      go_wp2
      go_roundw
      case rel => exact ⟨k + 1, by omega, by go_num, HW15.out⟩
      case measure => simp [intOf]; omega
    · obtain rfl : k = l.length := by omega
      go_wp2_with fail
      refine (has_any HCN.out t wr).mono ?_
      rw [HSELF.out]
      rintro r w' ⟨rfl, rfl⟩
      go_wp2
      go_ret
      exact ⟨rfl, HW3.out.trans ((HB9.out.trans (HW.out.mono HB9.out.size)).mono hz3)⟩

end Go.Proofs.Ytbmhcnldcfaipaa

/-
  SleepLess: behind a step no more sleep than slept, or were gone into, who sleeps still would do the same next as ahead of the step, and with more asleep ahead no fewer sleep: the law answers true, and its arguments read as they did.
  For every input, whatever its size and however its parts share memory; nothing is asked of it but what the statement's own form asks.
-/
namespace Go.Proofs.Ytbmhcnldcfaipaa.sleepLess
open Go.ChangeShapes Go.WideShapes Go.ChangeAt Go.RowKit

theorem own : ownKnob Try.prog.godebug = none := by kernel_rfl
theorem laidOut : laidOutB Try.prog = true := by kernel_rfl

set_option maxRecDepth 100000 in
theorem lifted (os : Os) (started : os.Started) (H : Type) (enc : TypeId × Value → H) :
    ReturnsInHanded {} Try.checked os 5 .any (Rows.sleepLessSpec.pre6 enc Try.prog Try.f5 Rows.sleepLessRow.domain false) (Rows.sleepLessSpec.post enc Try.prog Try.f5 false true false false) := by
  refine returnsInHanded_of_change (C := Try.checked) own started (by kernel_rfl) Try.func5
    (ChangeSpec.witness6 (enc := enc) (C := Try.checked) false ⟨#[], #[.agg #[.int .i64 0, .int .i64 0, .slice none 0 0], .int .i64 0, .slice none 0 0, .int .u8 0, .int .u8 0, .int .i64 0], []⟩ 8 (by kernel_rfl) (by kernel_rfl) (by kernel_rfl) (by kernel_rfl)) ?_
  intro W base args ds gs before hval0 hW hcnd _
  have hval : ∀ (j : Nat) t v, Try.f5.params[j]? = some t → args[j]? = some v → Value.okWide Try.prog W .any base t v := hval0
  have hW' := hW
  obtain ⟨p, q, hA0, hV, rfl, hfz, hnd⟩ := hW
  have hA : DataW.TrodAll enc Try.prog W 0 (fun _ => true) true Try.f5.params.toList args.toList ds p := hA0
  rw [Try.params5] at hA hval
  obtain ⟨v0, vs0, d0, ds0, p0, q0, hargs, rfl, rfl, h0, r0⟩ := trodAll_cons hA
  obtain ⟨v1, vs1, d1, ds1, p1, q1, rfl, rfl, rfl, h1, r1⟩ := trodAll_cons r0
  obtain ⟨v2, vs2, d2, ds2, p2, q2, rfl, rfl, rfl, h2, r2⟩ := trodAll_cons r1
  obtain ⟨v3, vs3, d3, ds3, p3, q3, rfl, rfl, rfl, h3, r3⟩ := trodAll_cons r2
  obtain ⟨v4, vs4, d4, ds4, p4, q4, rfl, rfl, rfl, h4, r4⟩ := trodAll_cons r3
  obtain ⟨v5, vs5, d5, ds5, p5, q5, rfl, rfl, rfl, h5, r5⟩ := trodAll_cons r4
  obtain ⟨rfl, rfl, rfl⟩ := trodAll_nil r5
  obtain rfl : args = #[v0, v1, v2, v3, v4, v5] := by cases args; simp_all
  obtain ⟨rfl, rfl⟩ := trodVars_none hV
  have k0 := h0
  have lt0 : ∀ x ∈ p0, x.block < W.heap.size := by obtain ⟨m, hm⟩ := k0; exact DataW.trod_lt m _ _ _ hm
  have k1 := h1
  have lt1 : ∀ x ∈ p1, x.block < W.heap.size := by obtain ⟨m, hm⟩ := k1; exact DataW.trod_lt m _ _ _ hm
  have k2 := h2
  have lt2 : ∀ x ∈ p2, x.block < W.heap.size := by obtain ⟨m, hm⟩ := k2; exact DataW.trod_lt m _ _ _ hm
  have k3 := h3
  have lt3 : ∀ x ∈ p3, x.block < W.heap.size := by obtain ⟨m, hm⟩ := k3; exact DataW.trod_lt m _ _ _ hm
  have k4 := h4
  have lt4 : ∀ x ∈ p4, x.block < W.heap.size := by obtain ⟨m, hm⟩ := k4; exact DataW.trod_lt m _ _ _ hm
  have k5 := h5
  have lt5 : ∀ x ∈ p5, x.block < W.heap.size := by obtain ⟨m, hm⟩ := k5; exact DataW.trod_lt m _ _ _ hm
  obtain ⟨pg0, a0, cap0, rfl, hx0, _⟩ := prog_of_trod (hval 0 37 v0 rfl rfl) h0
  obtain ⟨n1, rfl, hx1⟩ := int_of_trod (hval 1 3 v1 rfl rfl) h1
  obtain ⟨a2, ns2, cap2, rfl, hx2, _, hr2⟩ := nums_of_trod (hval 2 22 v2 rfl rfl) h2
  obtain ⟨n3, rfl, hx3⟩ := u8_of_trod (hval 3 5 v3 rfl rfl) h3
  obtain ⟨n4, rfl, hx4⟩ := u8_of_trod (hval 4 5 v4 rfl rfl) h4
  obtain ⟨n5, rfl, hx5⟩ := int_of_trod (hval 5 3 v5 rfl rfl) h5
  clear hA0 hval0
  refine (sleepLess_any pg0 a0 cap0 n1 a2 ns2 cap2 n3 n4 n5 W hx0 hx2 hx3 hx4).mono fun e W' ⟨he, bel⟩ => ?_
  subst he
  exact ⟨_, rfl, _, _, _, [], _, [], hW', trodAll_mk1 (shut_bool Try.underlying4 _), (trodAll_cons_mk (Below.trod laidOut (by kernel_rfl) (of_decide_eq_true (by kernel_rfl)) k0 bel lt0) (trodAll_cons_mk (Below.trod laidOut (by kernel_rfl) (of_decide_eq_true (by kernel_rfl)) k1 bel lt1) (trodAll_cons_mk (Below.trod laidOut (by kernel_rfl) (of_decide_eq_true (by kernel_rfl)) k2 bel lt2) (trodAll_cons_mk (Below.trod laidOut (by kernel_rfl) (of_decide_eq_true (by kernel_rfl)) k3 bel lt3) (trodAll_cons_mk (Below.trod laidOut (by kernel_rfl) (of_decide_eq_true (by kernel_rfl)) k4 bel lt4) (trodAll_cons_mk (Below.trod laidOut (by kernel_rfl) (of_decide_eq_true (by kernel_rfl)) k5 bel lt5) trodAll_mk0)))))), rfl, bel.frame _, fun h => by cases h⟩

theorem over : Rows.sleepLessRow.holds Try.pinned (OpenSpec.ofChange Rows.sleepLessSpec) :=
  OpenClaim.holds_of_wide 5 Try.f5 rfl rfl rfl rfl rfl rfl rfl ⟨rfl, rfl, rfl, rfl, rfl⟩ rfl rfl rfl rfl rfl (by kernel_rfl) Try.func5 (by kernel_rfl)
    (of_decide_eq_true (by kernel_rfl)) (by unfold Func.isWrapper; first | (rw [if_pos (by decide +kernel)]; kernel_rfl) | (rw [if_neg (by decide +kernel)]; exact ⟨rfl, rfl⟩))
    (fun os started H enc _ => lifted os started H enc)

theorem proved : Rows.SleepLessSaid := over
end Go.Proofs.Ytbmhcnldcfaipaa.sleepLess
