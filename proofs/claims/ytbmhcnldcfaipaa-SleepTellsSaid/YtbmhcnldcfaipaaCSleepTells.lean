/-
  SleepTells: who sleeps behind a step, and whether all sleep, is what the document says: the law answers true, and its arguments read as they did.
  For every input, whatever its size and however its parts share memory; nothing is asked of it but what the statement's own form asks.
-/
import Derived.WalkKit
import Derived.ProofKit
import Derived.OpenShut
import Derived.Test.YtbmhcnldcfaipaaRows
import Derived.Test.YtbmhcnldcfaipaaPk02
import Derived.Test.YtbmhcnldcfaipaaPk04
import Derived.Test.YtbmhcnldcfaipaaPk05
import Derived.Test.YtbmhcnldcfaipaaPk06

/- SleepTells: who sleeps behind a step, and whether all sleep, is what the document says. -/
namespace Go.Proofs.Ytbmhcnldcfaipaa
open Go.RowKit

/-- Two rows of one's own that are equal. -/
theorem same_own {W : World} {B C : Nat} {v v' : Value} {l : List Int} (h : OwnN W B v l) (h' : OwnN W C v' l) (hm : l.length ≤ 1000) :
    Calls Try.prog 16 #[v, v'] W fun r w' => r = .returned (.bool true) ∧ Below W.heap.size W w' := by
  obtain ⟨a, c, rfl, h1, _⟩ := h.form (by omega)
  obtain ⟨b, d, rfl, h2, _⟩ := h'.form (by omega)
  have := sameInts_any a b c d l l W h1 h2
  rw [decide_eq_true rfl] at this
  exact this

set_option maxRecDepth 100000 in
set_option maxHeartbeats 8000000 in
theorem sleepTells_any (p : Pg) (a : Option Addr) (cap : Nat) (fuel : Int) (ra : Option Addr) (row : List Int) (rcap : Nat) (n m : Nat) (t : Int) (w : World) (hp : ThreadsAt w a p.threads) (hrow : NumsAt w ra row) (hn : n < 256) (hm : m < 256) :
    Calls Try.prog 4 #[.agg #[.int .i64 p.vars, .int .i64 p.mutexes, .slice a p.threads.length cap], .int .i64 fuel, .slice ra row.length rcap, .int .u8 n, .int .u8 m, .int .i64 t] w fun r w' => r = .returned (.bool true) ∧ Below w.heap.size w w' := by
  have HP := Lib.hid hp
  have HROW := Lib.hid hrow
  have hl1 := bitsL_len n
  have hl2 := bitsL_len m
  clear hp hrow
  go_enter Try.func4, Try.ntmps4
  go_wp2_with fail
  refine (awake8_any _).mono ?_
  rintro r w1 ⟨rfl, hb1⟩
  have hc1 : ∀ o, w1.cell? ⟨w.heap.size, o, none⟩ = (w.alloc (.cells #[.int .i64 p.vars, .int .i64 p.mutexes, .slice a p.threads.length cap] 37)).cell? ⟨w.heap.size, o, none⟩ := fun o => hb1.cell (p := ⟨w.heap.size, o, none⟩) (by simp)
  have hw1 : Below w.heap.size w w1 := (below_alloc1 w _).trans (hb1.mono (by simp))
  have hz1 : w.heap.size < w1.heap.size := by have := hb1.size; simp at this; omega
  clear hb1
  go_wp2_with fail
  refine (few_any p a cap w1 (HP.out.later hw1)).mono ?_
  rintro r w2 ⟨rfl, hb2⟩
  have hc2 : ∀ o, w2.cell? ⟨w.heap.size, o, none⟩ = w1.cell? ⟨w.heap.size, o, none⟩ := fun o => hb2.cell (p := ⟨w.heap.size, o, none⟩) hz1
  have hw2 : Below w.heap.size w w2 := hw1.trans (hb2.mono hw1.size)
  have hz2 : w.heap.size < w2.heap.size := by have := hb2.size; omega
  clear hb2
  cases hf : fewPg p
  · clear hf hc1 hc2
    go_wp2_with fail
    refine (awake8_any _).mono ?_
    rintro r w3 ⟨rfl, hb3⟩
    have hw3 : Below w.heap.size w w3 := hw2.trans (hb3.mono hw2.size)
    go_wp2
    go_ret
    exact ⟨rfl, hw3⟩
  clear hf
  by_cases hN : 40 < row.length
  · clear hc1 hc2
    go_wp2_with fail
    refine (awake8_any _).mono ?_
    rintro r w3 ⟨rfl, hb3⟩
    have hw3 : Below w.heap.size w w3 := hw2.trans (hb3.mono hw2.size)
    go_wp2
    go_ret
    exact ⟨rfl, hw3⟩
  have c0 : w2.cell? ⟨w.heap.size, 0, none⟩ = some (.int .i64 p.vars) := by rw [hc2, hc1]; simp
  have c1 : w2.cell? ⟨w.heap.size, 1, none⟩ = some (.int .i64 p.mutexes) := by rw [hc2, hc1]; simp
  have c2 : w2.cell? ⟨w.heap.size, 2, none⟩ = some (.slice a p.threads.length cap) := by rw [hc2, hc1]; simp
  clear hc1 hc2
  go_wp2_with fail
  refine (replay_any p a cap fuel ra rcap row w2 (HP.out.later hw2) (HROW.out.later hw2) (by omega)).mono ?_
  rintro r w3 ⟨hb3, hmt⟩
  have HW3 := Lib.hid (hw2.trans (hb3.mono hw2.size))
  have HC0 := Lib.hid (cell_later hb3 c0)
  have HC1 := Lib.hid (cell_later hb3 c1)
  have HC2 := Lib.hid (cell_later hb3 c2)
  clear c0 c1 c2 hb3 hw1 hw2
  have hz3 : w.heap.size ≤ w3.heap.size := HW3.out.size
  rcases hrep : rep p fuel row with ⟨e, es, _ | s⟩
  · have HREP := Lib.hid hrep
    rw [hrep] at hmt
    dsimp only at hmt
    obtain rfl := hmt
    clear hrep
    have c0 := HC0.out
    have c1 := HC1.out
    have c2 := HC2.out
    go_wp2_with fail
    refine (refReplay_any p a cap fuel ra rcap row w3 (HP.out.later HW3.out) (HROW.out.later HW3.out) (by omega)).mono ?_
    rintro r w4 ⟨hb4, hmt⟩
    rw [HREP.out] at hmt
    dsimp only at hmt
    obtain rfl := hmt
    have HW4 := Lib.hid (HW3.out.trans (hb4.mono hz3))
    clear hb4 c0 c1 c2 HC0 HC1 HC2 HREP
    go_wp2_with fail
    refine (refBits_any hn _).mono ?_
    rintro r w5 ⟨v1, rfl, ho1, hb5⟩
    obtain ⟨a1, d1, rfl, hr1, _⟩ := ho1.form (by rw [ints_len]; omega)
    rw [ints_len]
    have HL5 := Lib.hid hr1
    have HK5 := Lib.hid hb5
    clear ho1 hb5 hr1
    go_wp2_with fail
    refine (refBits_any hm _).mono ?_
    rintro r w6 ⟨v2, rfl, ho2, hb6⟩
    obtain ⟨a2, d2, rfl, hr2, _⟩ := ho2.form (by rw [ints_len]; omega)
    rw [ints_len]
    have HL := Lib.hid (HL5.out.later hb6)
    have HM := Lib.hid hr2
    have HK := Lib.hid (HK5.out.trans (hb6.mono HK5.out.size))
    clear ho2 hb6 hr2 HL5 HK5
    go_wp2_with fail
    refine (child_gen none (fun _ => none) hn hm t w6 (fun W _ t => nil_next t W)).mono ?_
    have HCN : Hid (ints (bitsL (childN (fun _ => none) n m t)) = []) := by
      show _ = _
      rw [bits_childN, child_none rfl]; rfl
    rintro r w7 ⟨rfl, hb7⟩
    have HK7 := Lib.hid (HK.out.trans (hb7.mono HK.out.size))
    clear hb7
    go_wp2_with fail
    refine (setAll_any (childN_lt _ _ _ _) w7).mono ?_
    rw [HCN.out]
    rintro r w8 ⟨v8, rfl, ho8, hb8⟩
    have HO8 := Lib.hid ho8
    have HK8 := Lib.hid (HK7.out.trans (hb8.mono HK7.out.size))
    clear ho8 hb8 HK7
    go_wp2_with fail
    refine (refChild_nil _ _ t w8).mono ?_
    rintro r w' ⟨rfl, rfl⟩
    go_wp2_with fail
    refine (same_own HO8.out (ownN_nil w8 0) (by simp)).mono ?_
    rintro r w9 ⟨rfl, hb9⟩
    have HK9 := Lib.hid (HK8.out.trans (hb9.mono HK8.out.size))
    clear hb9
    go_wp2_with fail
    refine (blocked_nil hn w9).mono ?_
    rintro r w10 ⟨rfl, hb10⟩
    have HK10 := Lib.hid (HK9.out.trans (hb10.mono HK9.out.size))
    clear hb10
    go_wp2_with fail
    refine (refBlocked_nil _ w10).mono ?_
    rintro r w' ⟨rfl, rfl⟩
    go_wp2
    go_ret
    exact ⟨rfl, HW4.out.trans (HK10.out.mono HW4.out.size)⟩
  · obtain ⟨rfl, _, _⟩ := rep_some hrep
    have HREP := Lib.hid hrep
    rw [hrep] at hmt
    dsimp only at hmt
    obtain ⟨g, v, rfl, hg, hs, ok, ho⟩ := hmt
    have HS3 := Lib.hid hs
    have OK := Lib.hid ok
    have h4 := all_len8 ok
    have HSM := Lib.hid (all_small ok)
    clear hrep hs ok ho hg
    have c0 := HC0.out
    have c1 := HC1.out
    have c2 := HC2.out
    go_wp2_with fail
    refine (refReplay_any p a cap fuel ra rcap row w3 (HP.out.later HW3.out) (HROW.out.later HW3.out) (by omega)).mono ?_
    rintro r w4 ⟨hb4, hmt⟩
    rw [HREP.out] at hmt
    dsimp only at hmt
    obtain ⟨b, tb, tcap, v', rfl, href, hsp, _, _⟩ := hmt
    have HW4 := Lib.hid (HW3.out.trans (hb4.mono hz3))
    have HS := Lib.hid (HS3.out.later hb4)
    have HREF := Lib.hid href
    have HTH : Hid (ThreadsAt w4 a s.p.threads) := by
      show ThreadsAt _ _ _
      rw [hsp]
      exact HP.out.later HW4.out
    clear hb4 c0 c1 c2 HC0 HC1 HC2 HREP href hsp HS3
    go_wp2_with fail
    refine (refBits_any hn _).mono ?_
    rintro r w5 ⟨v1, rfl, ho1, hb5⟩
    obtain ⟨a1, d1, rfl, hr1, _⟩ := ho1.form (by rw [ints_len]; omega)
    rw [ints_len]
    have HL5 := Lib.hid hr1
    have HK5 := Lib.hid hb5
    clear ho1 hb5 hr1
    go_wp2_with fail
    refine (refBits_any hm _).mono ?_
    rintro r w6 ⟨v2, rfl, ho2, hb6⟩
    obtain ⟨a2, d2, rfl, hr2, _⟩ := ho2.form (by rw [ints_len]; omega)
    rw [ints_len]
    have HL := Lib.hid (HL5.out.later hb6)
    have HM := Lib.hid hr2
    have HK := Lib.hid (HK5.out.trans (hb6.mono HK5.out.size))
    clear ho2 hb6 hr2 HL5 HK5
    go_wp2_with fail
    refine (child_gen (some ⟨g, 0, none⟩) s.next hn hm t w6 (fun W hb t => next_any ((HS.out.later HK.out).later hb) OK.out t)).mono ?_
    rintro r w7 ⟨rfl, hb7⟩
    have HB7 := Lib.hid hb7
    clear hb7
    go_wp2_with fail
    refine (setAll_any (childN_lt _ _ _ _) w7).mono ?_
    rw [bits_childN]
    rintro r w8 ⟨v8, rfl, ho8, hb8⟩
    have HO8 := Lib.hid ho8
    have HB8 := Lib.hid (HB7.out.trans (hb8.mono HB7.out.size))
    have HK8 := Lib.hid (HK.out.trans (HB8.out.mono HK.out.size))
    clear ho8 hb8 HB7
    go_wp2_with fail
    refine (refChild_gen ⟨b, 0, none⟩ s.next n m a1 a2 d1 d2 t w8 (HL.out.later HB8.out) (HM.out.later HB8.out) (fun W hb t => refNext_any ((HREF.out.later HK8.out).later hb) ((HTH.out.later HK8.out).later hb) OK.out t)).mono ?_
    rintro r w9 ⟨v9, rfl, ho9, hb9⟩
    have HO9 := Lib.hid ho9
    have HO89 := Lib.hid (HO8.out.later hb9)
    have HB9 := Lib.hid (HB8.out.trans (hb9.mono HB8.out.size))
    clear ho9 hb9 HO8 HK8
    go_wp2_with fail
    refine (same_own HO89.out HO9.out (by rw [ints_len]; have := childTo_len s.next n m t 8; omega)).mono ?_
    rintro r w10 ⟨rfl, hb10⟩
    have HB10 := Lib.hid (HB9.out.trans (hb10.mono HB9.out.size))
    have HK10 := Lib.hid (HK.out.trans (HB10.out.mono HK.out.size))
    clear hb10 HB9
    go_wp2_with fail
    refine (blocked_gen (some ⟨g, 0, none⟩) s.all HSM.out (by omega) hn w10 (all_any (HS.out.later HK10.out) OK.out)).mono ?_
    rintro r w11 ⟨rfl, hb11⟩
    have HB11 := Lib.hid (HB10.out.trans (hb11.mono HB10.out.size))
    have HK11 := Lib.hid (HK.out.trans (HB11.out.mono HK.out.size))
    clear hb11 HB10 HK10
    go_wp2_with fail
    refine (refBlocked_gen ⟨b, 0, none⟩ s.all (by omega) n a1 d1 w11 (HL.out.later HB11.out) (refAll_any (HREF.out.later HK11.out) (HTH.out.later HK11.out) OK.out)).mono ?_
    rintro r w12 ⟨rfl, hb12⟩
    have HK12 := Lib.hid (HK11.out.trans (hb12.mono HK11.out.size))
    clear hb12
    go_wp2
    go_ret
    exact ⟨rfl, HW4.out.trans (HK12.out.mono HW4.out.size)⟩

end Go.Proofs.Ytbmhcnldcfaipaa

/-
  SleepTells: who sleeps behind a step, and whether all sleep, is what the document says: the law answers true, and its arguments read as they did.
  For every input, whatever its size and however its parts share memory; nothing is asked of it but what the statement's own form asks.
-/
namespace Go.Proofs.Ytbmhcnldcfaipaa.sleepTells
open Go.ChangeShapes Go.WideShapes Go.ChangeAt Go.RowKit

theorem own : ownKnob Try.prog.godebug = none := by kernel_rfl
theorem laidOut : laidOutB Try.prog = true := by kernel_rfl

set_option maxRecDepth 100000 in
theorem lifted (os : Os) (started : os.Started) (H : Type) (enc : TypeId × Value → H) :
    ReturnsInHanded {} Try.checked os 4 .any (Rows.sleepTellsSpec.pre6 enc Try.prog Try.f4 Rows.sleepTellsRow.domain false) (Rows.sleepTellsSpec.post enc Try.prog Try.f4 false true false false) := by
  refine returnsInHanded_of_change (C := Try.checked) own started (by kernel_rfl) Try.func4
    (ChangeSpec.witness6 (enc := enc) (C := Try.checked) false ⟨#[], #[.agg #[.int .i64 0, .int .i64 0, .slice none 0 0], .int .i64 0, .slice none 0 0, .int .u8 0, .int .u8 0, .int .i64 0], []⟩ 8 (by kernel_rfl) (by kernel_rfl) (by kernel_rfl) (by kernel_rfl)) ?_
  intro W base args ds gs before hval0 hW hcnd _
  have hval : ∀ (j : Nat) t v, Try.f4.params[j]? = some t → args[j]? = some v → Value.okWide Try.prog W .any base t v := hval0
  have hW' := hW
  obtain ⟨p, q, hA0, hV, rfl, hfz, hnd⟩ := hW
  have hA : DataW.TrodAll enc Try.prog W 0 (fun _ => true) true Try.f4.params.toList args.toList ds p := hA0
  rw [Try.params4] at hA hval
  obtain ⟨v0, vs0, d0, ds0, p0, q0, hargs, rfl, rfl, h0, r0⟩ := trodAll_cons hA
  obtain ⟨v1, vs1, d1, ds1, p1, q1, rfl, rfl, rfl, h1, r1⟩ := trodAll_cons r0
  obtain ⟨v2, vs2, d2, ds2, p2, q2, rfl, rfl, rfl, h2, r2⟩ := trodAll_cons r1
  obtain ⟨v3, vs3, d3, ds3, p3, q3, rfl, rfl, rfl, h3, r3⟩ := trodAll_cons r2
  obtain ⟨v4, vs4, d4, ds4, p4, q4, rfl, rfl, rfl, h4, r4⟩ := trodAll_cons r3
  obtain ⟨v5, vs5, d5, ds5, p5, q5, rfl, rfl, rfl, h5, r5⟩ := trodAll_cons r4
  obtain ⟨rfl, rfl, rfl⟩ := trodAll_nil r5
  obtain rfl : args = #[v0, v1, v2, v3, v4, v5] := by cases args; simp_all
  obtain ⟨rfl, rfl⟩ := trodVars_none hV
  have k0 := h0
  have lt0 : ∀ x ∈ p0, x.block < W.heap.size := by obtain ⟨m, hm⟩ := k0; exact DataW.trod_lt m _ _ _ hm
  have k1 := h1
  have lt1 : ∀ x ∈ p1, x.block < W.heap.size := by obtain ⟨m, hm⟩ := k1; exact DataW.trod_lt m _ _ _ hm
  have k2 := h2
  have lt2 : ∀ x ∈ p2, x.block < W.heap.size := by obtain ⟨m, hm⟩ := k2; exact DataW.trod_lt m _ _ _ hm
  have k3 := h3
  have lt3 : ∀ x ∈ p3, x.block < W.heap.size := by obtain ⟨m, hm⟩ := k3; exact DataW.trod_lt m _ _ _ hm
  have k4 := h4
  have lt4 : ∀ x ∈ p4, x.block < W.heap.size := by obtain ⟨m, hm⟩ := k4; exact DataW.trod_lt m _ _ _ hm
  have k5 := h5
  have lt5 : ∀ x ∈ p5, x.block < W.heap.size := by obtain ⟨m, hm⟩ := k5; exact DataW.trod_lt m _ _ _ hm
  obtain ⟨pg0, a0, cap0, rfl, hx0, _⟩ := prog_of_trod (hval 0 37 v0 rfl rfl) h0
  obtain ⟨n1, rfl, hx1⟩ := int_of_trod (hval 1 3 v1 rfl rfl) h1
  obtain ⟨a2, ns2, cap2, rfl, hx2, _, hr2⟩ := nums_of_trod (hval 2 22 v2 rfl rfl) h2
  obtain ⟨n3, rfl, hx3⟩ := u8_of_trod (hval 3 5 v3 rfl rfl) h3
  obtain ⟨n4, rfl, hx4⟩ := u8_of_trod (hval 4 5 v4 rfl rfl) h4
  obtain ⟨n5, rfl, hx5⟩ := int_of_trod (hval 5 3 v5 rfl rfl) h5
  clear hA0 hval0
  refine (sleepTells_any pg0 a0 cap0 n1 a2 ns2 cap2 n3 n4 n5 W hx0 hx2 hx3 hx4).mono fun e W' ⟨he, bel⟩ => ?_
  subst he
  exact ⟨_, rfl, _, _, _, [], _, [], hW', trodAll_mk1 (shut_bool Try.underlying4 _), (trodAll_cons_mk (Below.trod laidOut (by kernel_rfl) (of_decide_eq_true (by kernel_rfl)) k0 bel lt0) (trodAll_cons_mk (Below.trod laidOut (by kernel_rfl) (of_decide_eq_true (by kernel_rfl)) k1 bel lt1) (trodAll_cons_mk (Below.trod laidOut (by kernel_rfl) (of_decide_eq_true (by kernel_rfl)) k2 bel lt2) (trodAll_cons_mk (Below.trod laidOut (by kernel_rfl) (of_decide_eq_true (by kernel_rfl)) k3 bel lt3) (trodAll_cons_mk (Below.trod laidOut (by kernel_rfl) (of_decide_eq_true (by kernel_rfl)) k4 bel lt4) (trodAll_cons_mk (Below.trod laidOut (by kernel_rfl) (of_decide_eq_true (by kernel_rfl)) k5 bel lt5) trodAll_mk0)))))), rfl, bel.frame _, fun h => by cases h⟩

theorem over : Rows.sleepTellsRow.holds Try.pinned (OpenSpec.ofChange Rows.sleepTellsSpec) :=
  OpenClaim.holds_of_wide 4 Try.f4 rfl rfl rfl rfl rfl rfl rfl ⟨rfl, rfl, rfl, rfl, rfl⟩ rfl rfl rfl rfl rfl (by kernel_rfl) Try.func4 (by kernel_rfl)
    (of_decide_eq_true (by kernel_rfl)) (by unfold Func.isWrapper; first | (rw [if_pos (by decide +kernel)]; kernel_rfl) | (rw [if_neg (by decide +kernel)]; exact ⟨rfl, rfl⟩))
    (fun os started H enc _ => lifted os started H enc)

theorem proved : Rows.SleepTellsSaid := over
end Go.Proofs.Ytbmhcnldcfaipaa.sleepTells
