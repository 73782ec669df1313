/-
  SleepSets: of any two sets all that is told is what the document says: the law answers true, and its arguments read as they did.
  For every input, whatever its size and however its parts share memory; nothing is asked of it but what the statement's own form asks.
-/
import Derived.WalkKit
import Derived.ProofKit
import Derived.OpenShut
import Derived.Test.YtbmhcnldcfaipaaRows
import Derived.Test.YtbmhcnldcfaipaaPk05
import Derived.Test.YtbmhcnldcfaipaaPk06

/- SleepSets: of any two sets all that is told is what the document says. -/
namespace Go.Proofs.Ytbmhcnldcfaipaa
open Go.RowKit

theorem same_bits {n : Nat} (a b : Option Addr) (ca cb : Nat) (w : World) (h : NumsAt w a (ints (bitsL n))) (h2 : NumsAt w b (ints (bitsL n))) :
    Calls Try.prog 16 #[.slice a (bitsL n).length ca, .slice b (bitsL n).length cb] w fun r w' => r = .returned (.bool true) ∧ Below w.heap.size w w' := by
  have := sameInts_any a b ca cb _ _ w h h2
  rw [ints_len, decide_eq_true rfl] at this
  exact this

set_option maxRecDepth 100000 in
set_option maxHeartbeats 8000000 in
theorem sleepSets_any (n m : Nat) (t : Int) (a3 : Option Addr) (ns : List Int) (cap3 : Nat) (w : World) (hn : n < 256) (hm : m < 256) (hns : NumsAt w a3 ns) :
    Calls Try.prog 3 #[.int .u8 n, .int .u8 m, .int .i64 t, .slice a3 ns.length cap3] w fun r w' => r = .returned (.bool true) ∧ Below w.heap.size w w' := by
  have HNS := Lib.hid hns
  clear hns
  go_enter Try.func3, Try.ntmps3
  go_wp2_with fail
  refine (awake8_any w).mono ?_
  rintro r w1 ⟨rfl, hb1⟩
  have HB1 := Lib.hid hb1
  clear hb1
  by_cases h50 : 50 < ns.length
  · go_wp2_with fail
    refine (awake8_any w1).mono ?_
    rintro r w2 ⟨rfl, hb2⟩
    go_wp2
    go_ret
    exact ⟨rfl, HB1.out.trans (hb2.mono HB1.out.size)⟩
  have hl1 := bitsL_len n
  have hl2 := bitsL_len m
  go_wp2_with fail
  refine (refBits_any hn w1).mono ?_
  rintro r w2 ⟨v1, rfl, ho1, hb2⟩
  obtain ⟨a1, c1, rfl, hr1, _⟩ := ho1.form (by rw [ints_len]; omega)
  rw [ints_len]
  have HB2 := Lib.hid (HB1.out.trans (hb2.mono HB1.out.size))
  have HL2 := Lib.hid hr1
  clear ho1 hb2 hr1
  go_wp2_with fail
  refine (refBits_any hm w2).mono ?_
  rintro r w3 ⟨v2, rfl, ho2, hb3⟩
  obtain ⟨a2, c2, rfl, hr2, _⟩ := ho2.form (by rw [ints_len]; omega)
  rw [ints_len]
  have HB0 := Lib.hid (HB2.out.trans (hb3.mono HB2.out.size))
  have HL := Lib.hid (HL2.out.later hb3)
  have HM := Lib.hid hr2
  have hz0 := HB0.out.size
  clear ho2 hb3 hr2 HL2 HB2
  go_wp2
  go_loopw [30] (fun i wr => ∃ k : Nat, k ≤ 8 ∧ i = .int .i64 k ∧ Hid (Below w3.heap.size w3 wr)) (fun i _ => 8 - (intOf i).toNat)
  case atStart => exact ⟨0, Nat.zero_le _, rfl, Below.refl _ _⟩
  case round =>
    obtain ⟨k, hk, rfl, HB⟩ := hrel
    by_cases hlt : k < 8
    · have H5 : Hid (hasB (ofN ns) (k : Int) = decide ((k : Int) ∈ ns)) := by
        show _ = _
        rw [hasB_nat _ hlt, testBit_ofN _ hlt]
      cases hA : n.testBit k
      · have HN : Hid (hasB n (k : Int) = false) := by
          show _ = _
          rw [hasB_nat _ hlt, hA]
        have H2 : Hid (hasB (n ||| m) (k : Int) = hasB m (k : Int)) := by
          show _ = _
          rw [hasB_nat _ hlt, hasB_nat _ hlt, Nat.testBit_or, hA]; rfl
        have H3 : Hid (hasB (wt n t) (k : Int) = ((k : Int) == t)) := by
          show _ = _
          rw [hasB_nat _ hlt, testBit_wt hlt, hA, Bool.false_or, Bool.eq_iff_iff, decide_eq_true_eq, beq_iff_eq]
          exact ⟨fun h => h.symm, fun h => h.symm⟩
        have H4 : Hid (hasB (wl n t) (k : Int) = false) := by
          show _ = _
          rw [hasB_nat _ hlt, testBit_wl hn hlt, hA]; rfl
        clear hA
        go_wp2_with fail
        refine (has_any hn (k : Int) _).mono ?_
        rw [HN.out]
        rintro r w' ⟨rfl, rfl⟩
        go_wp2_with fail
        refine (refInBits_any a1 c1 (k : Int) _ (HL.out.later HB.out)).mono ?_
        rw [HN.out]
        rintro r w' ⟨rfl, rfl⟩
        go_wp2_with fail
        refine (union_any hn hm _).mono ?_
        rintro r w' ⟨rfl, rfl⟩
        go_wp2_with fail
        refine (has_any (or_lt8 hn hm) (k : Int) _).mono ?_
        rw [H2.out]
        rintro r w' ⟨rfl, rfl⟩
        go_wp2_with fail
        refine (refInBits_any a1 c1 (k : Int) _ (HL.out.later HB.out)).mono ?_
        rw [HN.out]
        rintro r w' ⟨rfl, rfl⟩
        go_wp2_with fail
        refine (refInBits_any a2 c2 (k : Int) _ (HM.out.later HB.out)).mono ?_
        rintro r w' ⟨rfl, rfl⟩
        go_wp2_with fail
        refine (with_any hn t _).mono ?_
        rintro r w' ⟨rfl, rfl⟩
        go_wp2_with fail
        refine (has_any (wt_lt hn t) (k : Int) _).mono ?_
        rw [H3.out]
        rintro r w' ⟨rfl, rfl⟩
        go_wp2_with fail
        refine (refInBits_any a1 c1 (k : Int) _ (HL.out.later HB.out)).mono ?_
        rw [HN.out]
        rintro r w' ⟨rfl, rfl⟩
        go_wp2_with fail
        refine (without_any hn t _).mono ?_
        rintro r w' ⟨rfl, rfl⟩
        go_wp2_with fail
        refine (has_any (wl_lt hn t) (k : Int) _).mono ?_
        rw [H4.out]
        rintro r w' ⟨rfl, rfl⟩
        go_wp2_with fail
        refine (refInBits_any a1 c1 (k : Int) _ (HL.out.later HB.out)).mono ?_
        rw [HN.out]
        rintro r w' ⟨rfl, rfl⟩
        go_wp2_with fail
        refine (of_any a3 cap3 ns _ (HNS.out.later (HB0.out.trans (HB.out.mono hz0))) (by omega)).mono ?_
        rintro r w' ⟨rfl, rfl⟩
        go_wp2_with fail
        refine (has_any (ofN_lt ns) (k : Int) _).mono ?_
        rw [H5.out]
        rintro r w' ⟨rfl, rfl⟩
        go_wp2_with fail
        refine (refIn_any a3 cap3 ns (k : Int) _ (HNS.out.later (HB0.out.trans (HB.out.mono hz0))) (by omega)).mono ?_
        rintro r w' ⟨rfl, rfl⟩
        go_wp2
        go_roundw
        case rel => exact ⟨k + 1, by omega, by go_num, HB.out⟩
        case measure => simp [intOf]; omega
      · have HN : Hid (hasB n (k : Int) = true) := by
          show _ = _
          rw [hasB_nat _ hlt, hA]
        have H2 : Hid (hasB (n ||| m) (k : Int) = true) := by
          show _ = _
          rw [hasB_nat _ hlt, Nat.testBit_or, hA]; rfl
        have H3 : Hid (hasB (wt n t) (k : Int) = true) := by
          show _ = _
          rw [hasB_nat _ hlt, testBit_wt hlt, hA]; rfl
        have H4 : Hid (hasB (wl n t) (k : Int) = ((k : Int) != t)) := by
          show _ = _
          rw [hasB_nat _ hlt, testBit_wl hn hlt, hA, Bool.true_and, Bool.eq_iff_iff, Bool.not_eq_true', decide_eq_false_iff_not, bne_iff_ne]
          exact ⟨fun h e => h e.symm, fun h e => h e.symm⟩
        clear hA
        go_wp2_with fail
        refine (has_any hn (k : Int) _).mono ?_
        rw [HN.out]
        rintro r w' ⟨rfl, rfl⟩
        go_wp2_with fail
        refine (refInBits_any a1 c1 (k : Int) _ (HL.out.later HB.out)).mono ?_
        rw [HN.out]
        rintro r w' ⟨rfl, rfl⟩
        go_wp2_with fail
        refine (union_any hn hm _).mono ?_
        rintro r w' ⟨rfl, rfl⟩
        go_wp2_with fail
        refine (has_any (or_lt8 hn hm) (k : Int) _).mono ?_
        rw [H2.out]
        rintro r w' ⟨rfl, rfl⟩
        go_wp2_with fail
        refine (refInBits_any a1 c1 (k : Int) _ (HL.out.later HB.out)).mono ?_
        rw [HN.out]
        rintro r w' ⟨rfl, rfl⟩
        go_wp2_with fail
        refine (with_any hn t _).mono ?_
        rintro r w' ⟨rfl, rfl⟩
        go_wp2_with fail
        refine (has_any (wt_lt hn t) (k : Int) _).mono ?_
        rw [H3.out]
        rintro r w' ⟨rfl, rfl⟩
        go_wp2_with fail
        refine (refInBits_any a1 c1 (k : Int) _ (HL.out.later HB.out)).mono ?_
        rw [HN.out]
        rintro r w' ⟨rfl, rfl⟩
        go_wp2_with fail
        refine (without_any hn t _).mono ?_
        rintro r w' ⟨rfl, rfl⟩
        go_wp2_with fail
        refine (has_any (wl_lt hn t) (k : Int) _).mono ?_
        rw [H4.out]
        rintro r w' ⟨rfl, rfl⟩
        go_wp2_with fail
        refine (refInBits_any a1 c1 (k : Int) _ (HL.out.later HB.out)).mono ?_
        rw [HN.out]
        rintro r w' ⟨rfl, rfl⟩
        go_wp2_with fail
        refine (of_any a3 cap3 ns _ (HNS.out.later (HB0.out.trans (HB.out.mono hz0))) (by omega)).mono ?_
        rintro r w' ⟨rfl, rfl⟩
        go_wp2_with fail
        refine (has_any (ofN_lt ns) (k : Int) _).mono ?_
        rw [H5.out]
        rintro r w' ⟨rfl, rfl⟩
        go_wp2_with fail
        refine (refIn_any a3 cap3 ns (k : Int) _ (HNS.out.later (HB0.out.trans (HB.out.mono hz0))) (by omega)).mono ?_
        rintro r w' ⟨rfl, rfl⟩
        go_wp2
        go_roundw
        case rel => exact ⟨k + 1, by omega, by go_num, HB.out⟩
        case measure => simp [intOf]; omega
    · obtain rfl : k = 8 := by omega
      go_wp2_with fail
      refine (setAll_any hn _).mono ?_
      rintro r w4 ⟨v4, rfl, ho4, hb4⟩
      obtain ⟨a4, c4, rfl, hr4, _⟩ := ho4.form (by rw [ints_len]; omega)
      rw [ints_len]
      have HR4 := Lib.hid hr4
      have HB4 := Lib.hid (HB.out.trans (hb4.mono HB.out.size))
      clear ho4 hb4 hr4
      go_wp2_with fail
      refine (same_bits a4 a1 c4 c1 _ HR4.out (HL.out.later HB4.out)).mono ?_
      rintro r w5 ⟨rfl, hb5⟩
      have HB5 := Lib.hid (HB4.out.trans (hb5.mono HB4.out.size))
      clear hb5
      go_wp2_with fail
      refine (len_any hn _).mono ?_
      rintro r w' ⟨rfl, rfl⟩
      go_wp2_with fail
      refine (has_any hn t _).mono ?_
      rintro r w' ⟨rfl, rfl⟩
      go_wp2_with fail
      refine (refInBits_any a1 c1 t _ (HL.out.later HB5.out)).mono ?_
      rintro r w' ⟨rfl, rfl⟩
      go_wp2
      go_ret
      exact ⟨rfl, HB0.out.trans (HB5.out.mono hz0)⟩

end Go.Proofs.Ytbmhcnldcfaipaa

/-
  SleepSets: of any two sets all that is told is what the document says: the law answers true, and its arguments read as they did.
  For every input, whatever its size and however its parts share memory; nothing is asked of it but what the statement's own form asks.
-/
namespace Go.Proofs.Ytbmhcnldcfaipaa.sleepSets
open Go.ChangeShapes Go.WideShapes Go.ChangeAt Go.RowKit

theorem own : ownKnob Try.prog.godebug = none := by kernel_rfl
theorem laidOut : laidOutB Try.prog = true := by kernel_rfl

set_option maxRecDepth 100000 in
theorem lifted (os : Os) (started : os.Started) (H : Type) (enc : TypeId × Value → H) :
    ReturnsInHanded {} Try.checked os 3 .any (Rows.sleepSetsSpec.pre6 enc Try.prog Try.f3 Rows.sleepSetsRow.domain false) (Rows.sleepSetsSpec.post enc Try.prog Try.f3 false true false false) := by
  refine returnsInHanded_of_change (C := Try.checked) own started (by kernel_rfl) Try.func3
    (ChangeSpec.witness6 (enc := enc) (C := Try.checked) false ⟨#[], #[.int .u8 0, .int .u8 0, .int .i64 0, .slice none 0 0], []⟩ 8 (by kernel_rfl) (by kernel_rfl) (by kernel_rfl) (by kernel_rfl)) ?_
  intro W base args ds gs before hval0 hW hcnd _
  have hval : ∀ (j : Nat) t v, Try.f3.params[j]? = some t → args[j]? = some v → Value.okWide Try.prog W .any base t v := hval0
  have hW' := hW
  obtain ⟨p, q, hA0, hV, rfl, hfz, hnd⟩ := hW
  have hA : DataW.TrodAll enc Try.prog W 0 (fun _ => true) true Try.f3.params.toList args.toList ds p := hA0
  rw [Try.params3] at hA hval
  obtain ⟨v0, vs0, d0, ds0, p0, q0, hargs, rfl, rfl, h0, r0⟩ := trodAll_cons hA
  obtain ⟨v1, vs1, d1, ds1, p1, q1, rfl, rfl, rfl, h1, r1⟩ := trodAll_cons r0
  obtain ⟨v2, vs2, d2, ds2, p2, q2, rfl, rfl, rfl, h2, r2⟩ := trodAll_cons r1
  obtain ⟨v3, vs3, d3, ds3, p3, q3, rfl, rfl, rfl, h3, r3⟩ := trodAll_cons r2
  obtain ⟨rfl, rfl, rfl⟩ := trodAll_nil r3
  obtain rfl : args = #[v0, v1, v2, v3] := by cases args; simp_all
  obtain ⟨rfl, rfl⟩ := trodVars_none hV
  have k0 := h0
  have lt0 : ∀ x ∈ p0, x.block < W.heap.size := by obtain ⟨m, hm⟩ := k0; exact DataW.trod_lt m _ _ _ hm
  have k1 := h1
  have lt1 : ∀ x ∈ p1, x.block < W.heap.size := by obtain ⟨m, hm⟩ := k1; exact DataW.trod_lt m _ _ _ hm
  have k2 := h2
  have lt2 : ∀ x ∈ p2, x.block < W.heap.size := by obtain ⟨m, hm⟩ := k2; exact DataW.trod_lt m _ _ _ hm
  have k3 := h3
  have lt3 : ∀ x ∈ p3, x.block < W.heap.size := by obtain ⟨m, hm⟩ := k3; exact DataW.trod_lt m _ _ _ hm
  obtain ⟨n0, rfl, hx0⟩ := u8_of_trod (hval 0 5 v0 rfl rfl) h0
  obtain ⟨n1, rfl, hx1⟩ := u8_of_trod (hval 1 5 v1 rfl rfl) h1
  obtain ⟨n2, rfl, hx2⟩ := int_of_trod (hval 2 3 v2 rfl rfl) h2
  obtain ⟨a3, ns3, cap3, rfl, hx3, _, hr3⟩ := nums_of_trod (hval 3 22 v3 rfl rfl) h3
  clear hA0 hval0
  refine (sleepSets_any n0 n1 n2 a3 ns3 cap3 W hx0 hx1 hx3).mono fun e W' ⟨he, bel⟩ => ?_
  subst he
  exact ⟨_, rfl, _, _, _, [], _, [], hW', trodAll_mk1 (shut_bool Try.underlying4 _), (trodAll_cons_mk (Below.trod laidOut (by kernel_rfl) (of_decide_eq_true (by kernel_rfl)) k0 bel lt0) (trodAll_cons_mk (Below.trod laidOut (by kernel_rfl) (of_decide_eq_true (by kernel_rfl)) k1 bel lt1) (trodAll_cons_mk (Below.trod laidOut (by kernel_rfl) (of_decide_eq_true (by kernel_rfl)) k2 bel lt2) (trodAll_cons_mk (Below.trod laidOut (by kernel_rfl) (of_decide_eq_true (by kernel_rfl)) k3 bel lt3) trodAll_mk0)))), rfl, bel.frame _, fun h => by cases h⟩

theorem over : Rows.sleepSetsRow.holds Try.pinned (OpenSpec.ofChange Rows.sleepSetsSpec) :=
  OpenClaim.holds_of_wide 3 Try.f3 rfl rfl rfl rfl rfl rfl rfl ⟨rfl, rfl, rfl, rfl, rfl⟩ rfl rfl rfl rfl rfl (by kernel_rfl) Try.func3 (by kernel_rfl)
    (of_decide_eq_true (by kernel_rfl)) (by unfold Func.isWrapper; first | (rw [if_pos (by decide +kernel)]; kernel_rfl) | (rw [if_neg (by decide +kernel)]; exact ⟨rfl, rfl⟩))
    (fun os started H enc _ => lifted os started H enc)

theorem proved : Rows.SleepSetsSaid := over
end Go.Proofs.Ytbmhcnldcfaipaa.sleepSets
