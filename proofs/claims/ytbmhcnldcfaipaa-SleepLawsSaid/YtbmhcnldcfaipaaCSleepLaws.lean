/-
  SleepLaws: a set with one more, and one less, is told by its members alone: the law answers true, and its arguments read as they did.
  For every input, whatever its size and however its parts share memory; nothing is asked of it but what the statement's own form asks.
-/
import Derived.WalkKit
import Derived.ProofKit
import Derived.OpenShut
import Derived.Test.YtbmhcnldcfaipaaRows
import Derived.Test.YtbmhcnldcfaipaaPk05
import Derived.Test.YtbmhcnldcfaipaaPk06

/- SleepLaws: a set with one more, and one less, is told by its members alone. -/
namespace Go.Proofs.Ytbmhcnldcfaipaa
open Go.RowKit

theorem wt_wt {n : Nat} (hn : n < 256) (t : Int) : wt (wt n t) t = wt n t := by
  refine set_ext (wt_lt (wt_lt hn t) t) (wt_lt hn t) fun i hi => ?_
  rw [testBit_wt hi, testBit_wt hi]
  cases n.testBit i <;> cases decide (t = (i : Int)) <;> rfl
theorem wl_wl {n : Nat} (hn : n < 256) (t : Int) : wl (wl n t) t = wl n t := by
  refine set_ext (wl_lt (wl_lt hn t) t) (wl_lt hn t) fun i hi => ?_
  rw [testBit_wl (wl_lt hn t) hi, testBit_wl hn hi]
  cases n.testBit i <;> cases decide (t = (i : Int)) <;> rfl
theorem wl_wt {n : Nat} (hn : n < 256) (t : Int) : wl (wt n t) t = wl n t := by
  refine set_ext (wl_lt (wt_lt hn t) t) (wl_lt hn t) fun i hi => ?_
  rw [testBit_wl (wt_lt hn t) hi, testBit_wl hn hi, testBit_wt hi]
  cases n.testBit i <;> cases decide (t = (i : Int)) <;> rfl
/-- Which ones of a set, and the set of these. -/
theorem of_all {n : Nat} (hn : n < 256) {W : World} {B : Nat} {v : Value} (h : OwnN W B v (ints (bitsL n))) : Calls Try.prog 15 #[v] W fun r w' => r = .returned (.int .u8 n) ∧ W = w' := by
  have h8 := bitsL_len n
  obtain ⟨a, cap, rfl, hn2, _⟩ := h.form (by rw [ints_len]; omega)
  have := of_any a cap (ints (bitsL n)) W hn2 (by rw [ints_len]; omega)
  rw [of_bits hn] at this
  exact this

set_option maxRecDepth 100000 in
set_option maxHeartbeats 4000000 in
theorem sleepLaws_any (n m : Nat) (t : Int) (w : World) (hn : n < 256) (hm : m < 256) :
    Calls Try.prog 7 #[.int .u8 n, .int .u8 m, .int .i64 t] w fun r w' => r = .returned (.bool true) ∧ Below w.heap.size w w' := by
  have E1 := Lib.hid (wt_wt hn t)
  have E2 := Lib.hid (wl_wl hn t)
  have E3 := Lib.hid (wl_wt hn t)
  have E4 := Lib.hid (Nat.or_comm m n)
  have E5 := Lib.hid (Nat.or_self n)
  have hu := union_len n m
  have l1 := bitsL_len n
  have l2 := bitsL_len m
  have l3 := bitsL_len (n ||| m)
  go_enter Try.func7, Try.ntmps7
  go_wp2_with fail
  refine (awake8_any w).mono ?_
  rintro r w1 ⟨rfl, hb1⟩
  have HB1 := Lib.hid hb1
  clear hb1
  go_wp2_with fail
  refine (with_any hn t _).mono ?_
  rintro r w' ⟨rfl, rfl⟩
  go_wp2_with fail
  refine (with_any (wt_lt hn t) t _).mono ?_
  rw [E1.out]
  rintro r w' ⟨rfl, rfl⟩
  go_wp2_with fail
  refine (with_any hn t _).mono ?_
  rintro r w' ⟨rfl, rfl⟩
  go_wp2_with fail
  refine (without_any hn t _).mono ?_
  rintro r w' ⟨rfl, rfl⟩
  go_wp2_with fail
  refine (without_any (wl_lt hn t) t _).mono ?_
  rw [E2.out]
  rintro r w' ⟨rfl, rfl⟩
  go_wp2_with fail
  refine (without_any hn t _).mono ?_
  rintro r w' ⟨rfl, rfl⟩
  go_wp2_with fail
  refine (with_any hn t _).mono ?_
  rintro r w' ⟨rfl, rfl⟩
  go_wp2_with fail
  refine (without_any (wt_lt hn t) t _).mono ?_
  rw [E3.out]
  rintro r w' ⟨rfl, rfl⟩
  go_wp2_with fail
  refine (without_any hn t _).mono ?_
  rintro r w' ⟨rfl, rfl⟩
  go_wp2_with fail
  refine (union_any hn hm _).mono ?_
  rintro r w' ⟨rfl, rfl⟩
  go_wp2_with fail
  refine (union_any hm hn _).mono ?_
  rw [E4.out]
  rintro r w' ⟨rfl, rfl⟩
  go_wp2_with fail
  refine (union_any hn hn _).mono ?_
  rw [E5.out]
  rintro r w' ⟨rfl, rfl⟩
  go_wp2_with fail
  refine (union_any hn hm _).mono ?_
  rintro r w' ⟨rfl, rfl⟩
  go_wp2_with fail
  refine (len_any (or_lt8 hn hm) _).mono ?_
  rintro r w' ⟨rfl, rfl⟩
  go_wp2_with fail
  refine (len_any hn _).mono ?_
  rintro r w' ⟨rfl, rfl⟩
  go_wp2_with fail
  refine (len_any hm _).mono ?_
  rintro r w' ⟨rfl, rfl⟩
  have hq : decide ((((bitsL (n ||| m)).length : Nat) : Int) ≤ ((bitsL n).length : Nat) + ((bitsL m).length : Nat)) = true := by
    rw [decide_eq_true_eq]; omega
  go_wp2_with fail
  refine (setAll_any hn _).mono ?_
  rintro r w2 ⟨v, rfl, ho, hb2⟩
  have HB2 := Lib.hid (HB1.out.trans (hb2.mono HB1.out.size))
  have HO := Lib.hid ho
  clear hb2 ho
  go_wp2_with fail
  refine (of_all hn HO.out).mono ?_
  rintro r w' ⟨rfl, rfl⟩
  go_wp2_with fail
  refine (setAll_any hm _).mono ?_
  rintro r w3 ⟨v3, rfl, ho, hb3⟩
  have HB3 := Lib.hid (HB2.out.trans (hb3.mono HB2.out.size))
  have HO3 := Lib.hid ho
  clear hb3 ho
  go_wp2_with fail
  refine (of_all hm HO3.out).mono ?_
  rintro r w' ⟨rfl, rfl⟩
  go_wp2_with fail
  refine (union_any hn hm _).mono ?_
  rintro r w' ⟨rfl, rfl⟩
  go_wp2_with fail
  refine (union_any hn hm _).mono ?_
  rintro r w' ⟨rfl, rfl⟩
  go_wp2
  go_ret
  exact ⟨rfl, HB3.out⟩

end Go.Proofs.Ytbmhcnldcfaipaa

/-
  SleepLaws: a set with one more, and one less, is told by its members alone: the law answers true, and its arguments read as they did.
  For every input, whatever its size and however its parts share memory; nothing is asked of it but what the statement's own form asks.
-/
namespace Go.Proofs.Ytbmhcnldcfaipaa.sleepLaws
open Go.ChangeShapes Go.WideShapes Go.ChangeAt Go.RowKit

theorem own : ownKnob Try.prog.godebug = none := by kernel_rfl
theorem laidOut : laidOutB Try.prog = true := by kernel_rfl

set_option maxRecDepth 100000 in
theorem lifted (os : Os) (started : os.Started) (H : Type) (enc : TypeId × Value → H) :
    ReturnsInHanded {} Try.checked os 7 .any (Rows.sleepLawsSpec.pre6 enc Try.prog Try.f7 Rows.sleepLawsRow.domain false) (Rows.sleepLawsSpec.post enc Try.prog Try.f7 false true false false) := by
  refine returnsInHanded_of_change (C := Try.checked) own started (by kernel_rfl) Try.func7
    (ChangeSpec.witness6 (enc := enc) (C := Try.checked) false ⟨#[], #[.int .u8 0, .int .u8 0, .int .i64 0], []⟩ 8 (by kernel_rfl) (by kernel_rfl) (by kernel_rfl) (by kernel_rfl)) ?_
  intro W base args ds gs before hval0 hW hcnd _
  have hval : ∀ (j : Nat) t v, Try.f7.params[j]? = some t → args[j]? = some v → Value.okWide Try.prog W .any base t v := hval0
  have hW' := hW
  obtain ⟨p, q, hA0, hV, rfl, hfz, hnd⟩ := hW
  have hA : DataW.TrodAll enc Try.prog W 0 (fun _ => true) true Try.f7.params.toList args.toList ds p := hA0
  rw [Try.params7] at hA hval
  obtain ⟨v0, vs0, d0, ds0, p0, q0, hargs, rfl, rfl, h0, r0⟩ := trodAll_cons hA
  obtain ⟨v1, vs1, d1, ds1, p1, q1, rfl, rfl, rfl, h1, r1⟩ := trodAll_cons r0
  obtain ⟨v2, vs2, d2, ds2, p2, q2, rfl, rfl, rfl, h2, r2⟩ := trodAll_cons r1
  obtain ⟨rfl, rfl, rfl⟩ := trodAll_nil r2
  obtain rfl : args = #[v0, v1, v2] := by cases args; simp_all
  obtain ⟨rfl, rfl⟩ := trodVars_none hV
  have k0 := h0
  have lt0 : ∀ x ∈ p0, x.block < W.heap.size := by obtain ⟨m, hm⟩ := k0; exact DataW.trod_lt m _ _ _ hm
  have k1 := h1
  have lt1 : ∀ x ∈ p1, x.block < W.heap.size := by obtain ⟨m, hm⟩ := k1; exact DataW.trod_lt m _ _ _ hm
  have k2 := h2
  have lt2 : ∀ x ∈ p2, x.block < W.heap.size := by obtain ⟨m, hm⟩ := k2; exact DataW.trod_lt m _ _ _ hm
  obtain ⟨n0, rfl, hx0⟩ := u8_of_trod (hval 0 5 v0 rfl rfl) h0
  obtain ⟨n1, rfl, hx1⟩ := u8_of_trod (hval 1 5 v1 rfl rfl) h1
  obtain ⟨n2, rfl, hx2⟩ := int_of_trod (hval 2 3 v2 rfl rfl) h2
  clear hA0 hval0
  refine (sleepLaws_any n0 n1 n2 W hx0 hx1).mono fun e W' ⟨he, bel⟩ => ?_
  subst he
  exact ⟨_, rfl, _, _, _, [], _, [], hW', trodAll_mk1 (shut_bool Try.underlying4 _), (trodAll_cons_mk (Below.trod laidOut (by kernel_rfl) (of_decide_eq_true (by kernel_rfl)) k0 bel lt0) (trodAll_cons_mk (Below.trod laidOut (by kernel_rfl) (of_decide_eq_true (by kernel_rfl)) k1 bel lt1) (trodAll_cons_mk (Below.trod laidOut (by kernel_rfl) (of_decide_eq_true (by kernel_rfl)) k2 bel lt2) trodAll_mk0))), rfl, bel.frame _, fun h => by cases h⟩

theorem over : Rows.sleepLawsRow.holds Try.pinned (OpenSpec.ofChange Rows.sleepLawsSpec) :=
  OpenClaim.holds_of_wide 7 Try.f7 rfl rfl rfl rfl rfl rfl rfl ⟨rfl, rfl, rfl, rfl, rfl⟩ rfl rfl rfl rfl rfl (by kernel_rfl) Try.func7 (by kernel_rfl)
    (of_decide_eq_true (by kernel_rfl)) (by unfold Func.isWrapper; first | (rw [if_pos (by decide +kernel)]; kernel_rfl) | (rw [if_neg (by decide +kernel)]; exact ⟨rfl, rfl⟩))
    (fun os started H enc _ => lifted os started H enc)

theorem proved : Rows.SleepLawsSaid := over
end Go.Proofs.Ytbmhcnldcfaipaa.sleepLaws
