/-
  SleepSwap: of two that do not depend on one another, gone into one behind the other, the first one sleeps behind the second one, and by it is nobody woken who does not depend on both: the law answers true, and its arguments read as they did.
  For every input, whatever its size and however its parts share memory; nothing is asked of it but what the statement's own form asks.
-/
import Derived.Deep.RegionHeld3
import Derived.Deep.DeepCutAuto
import Derived.WalkKit
import Derived.ProofKit
import Derived.OpenShut
import Derived.Test.YtbmhcnldcfaipaaRows
import Derived.Test.YtbmhcnldcfaipaaPk01
import Derived.Test.YtbmhcnldcfaipaaPk04
import Derived.Test.YtbmhcnldcfaipaaPk05

/- Conversions to uint, and remainders. -/
namespace Go.Proofs.Ytbmhcnldcfaipaa
open Go.RowKit

theorem wrap_u (n : Int) : ∃ m : Int, IntKind.u64.wrap n = m ∧ 0 ≤ m := by
  refine ⟨_, rfl, ?_⟩
  unfold IntKind.wrap
  simp [IntKind.signed, IntKind.bits]
  omega
theorem wrap_u_small (n : Int) (h0 : 0 ≤ n) (h1 : n ≤ 1000000) : IntKind.u64.wrap n = n := by
  unfold IntKind.wrap
  simp [IntKind.signed, IntKind.bits]
  omega
theorem tmod_nat (m : Int) (h0 : 0 ≤ m) (n : Nat) (h1 : 1 ≤ n) : ∃ k : Nat, m.tmod (n : Int) = k ∧ k < n := by
  rw [Int.tmod_eq_emod_of_nonneg h0]
  have a := Int.emod_nonneg m (b := (n : Int)) (by omega)
  have b := Int.emod_lt_of_pos m (b := (n : Int)) (by omega)
  exact ⟨(m % (n : Int)).toNat, by omega, by omega⟩

end Go.Proofs.Ytbmhcnldcfaipaa

/- A state has a thread. -/
namespace Go.Proofs.Ytbmhcnldcfaipaa
open Go.RowKit

theorem St.Ok.len1 {F : Nat} {s : St} (h : s.Ok F) : 1 ≤ s.ts.length := by
  have h1 := h.right
  have h2 := h.len
  unfold rightPg at h1
  rw [Bool.and_eq_true, decide_eq_true_eq] at h1
  omega

end Go.Proofs.Ytbmhcnldcfaipaa

/- SleepSwap: of two that don't depend on one another, gone into one behind the other, the first one sleeps behind the second one, and nobody else. -/
namespace Go.Proofs.Ytbmhcnldcfaipaa
open Go.RowKit

theorem swap_evR (o : Option Ev) : evR o = .tuple #[.agg #[.int .i64 (o.getD ev0).thread, .int .i64 (o.getD ev0).kind, .int .i64 (o.getD ev0).obj, .bool (o.getD ev0).fail], .bool o.isSome] := rfl
theorem childN_zero (nx : Int → Option Ev) (t : Int) : childN nx 0 0 t = 0 := by
  refine set_ext (childN_lt _ _ _ _) (by omega) fun i hi => ?_
  rw [testBit_childN _ _ _ _ hi, Nat.zero_testBit]
  unfold childO
  split
  · rfl
  · split
    · rfl
    · simp [Nat.zero_testBit]
theorem testBit_one {A i : Nat} (hi : i < 8) : (ofN [(A : Int)]).testBit i = decide (i = A) := by
  rw [testBit_ofN _ hi]
  by_cases h : i = A
  · simp [h]
  · have h2 : ¬ ((i : Int) = (A : Int)) := by omega
    simp [h, h2]
theorem second_has {nx : Int → Option Ev} {A B : Nat} {x y : Ev} (hA : A < 8) (hAB : A ≠ B) (hx : nx (A : Int) = some x) (hy : nx (B : Int) = some y) : hasB (childN nx 0 (ofN [(A : Int)]) (B : Int)) (A : Int) = !dep x y := by
  have h2 : ¬ ((A : Int) = (B : Int)) := by omega
  rw [hasB_nat _ hA, testBit_childN _ _ _ _ hA]
  unfold childO
  rw [hx, hy]
  dsimp only
  rw [testBit_one hA]
  simp [h2]
theorem second_less {nx : Int → Option Ev} {A : Nat} {t : Int} : wl (childN nx 0 (ofN [(A : Int)]) t) (A : Int) = 0 := by
  refine set_ext (wl_lt (childN_lt _ _ _ _) _) (by omega) fun i hi => ?_
  rw [testBit_wl (childN_lt _ _ _ _) hi, testBit_childN _ _ _ _ hi, Nat.zero_testBit]
  by_cases h : i = A
  · subst h; simp
  · have hc : childO nx 0 (ofN [(A : Int)]) t i = false := by
      unfold childO
      split
      · rfl
      · split
        · rfl
        · rw [testBit_one hi]
          simp [h]
    rw [hc]; rfl

set_option maxRecDepth 100000 in
set_option maxHeartbeats 8000000 in
theorem sleepSwap_any (p : Pg) (a : Option Addr) (cap : Nat) (fuel : Int) (ra : Option Addr) (row : List Int) (rcap : Nat) (ta tb : Int) (w : World) (hp : ThreadsAt w a p.threads) (hrow : NumsAt w ra row) :
    Calls Try.prog 6 #[.agg #[.int .i64 p.vars, .int .i64 p.mutexes, .slice a p.threads.length cap], .int .i64 fuel, .slice ra row.length rcap, .int .i64 ta, .int .i64 tb] w fun r w' => r = .returned (.bool true) ∧ Below w.heap.size w w' := by
  have HP := Lib.hid hp
  have HROW := Lib.hid hrow
  clear hp hrow
  go_enter Try.func6, Try.ntmps6
  go_wp2_with fail
  refine (awake8_any _).mono ?_
  rintro r w1 ⟨rfl, hb1⟩
  have hc1 : ∀ o, w1.cell? ⟨w.heap.size, o, none⟩ = (w.alloc (.cells #[.int .i64 p.vars, .int .i64 p.mutexes, .slice a p.threads.length cap] 37)).cell? ⟨w.heap.size, o, none⟩ := fun o => hb1.cell (p := ⟨w.heap.size, o, none⟩) (by simp)
  have hw1 : Below w.heap.size w w1 := (below_alloc1 w _).trans (hb1.mono (by simp))
  have hz1 : w.heap.size < w1.heap.size := by have := hb1.size; simp at this; omega
  clear hb1
  go_wp2_with fail
  refine (few_any p a cap w1 (HP.out.later hw1)).mono ?_
  rintro r w2 ⟨rfl, hb2⟩
  have hc2 : ∀ o, w2.cell? ⟨w.heap.size, o, none⟩ = w1.cell? ⟨w.heap.size, o, none⟩ := fun o => hb2.cell (p := ⟨w.heap.size, o, none⟩) hz1
  have hw2 : Below w.heap.size w w2 := hw1.trans (hb2.mono hw1.size)
  have hz2 : w.heap.size < w2.heap.size := by have := hb2.size; omega
  clear hb2
  cases hf : fewPg p
  · clear hf hc1 hc2
    go_wp2_with fail
    refine (awake8_any _).mono ?_
    rintro r w3 ⟨rfl, hb3⟩
    have hw3 : Below w.heap.size w w3 := hw2.trans (hb3.mono hw2.size)
    go_wp2
    go_ret
    exact ⟨rfl, hw3⟩
  clear hf
  by_cases hN : 40 < row.length
  · clear hc1 hc2
    go_wp2_with fail
    refine (awake8_any _).mono ?_
    rintro r w3 ⟨rfl, hb3⟩
    have hw3 : Below w.heap.size w w3 := hw2.trans (hb3.mono hw2.size)
    go_wp2
    go_ret
    exact ⟨rfl, hw3⟩
  have c0 : w2.cell? ⟨w.heap.size, 0, none⟩ = some (.int .i64 p.vars) := by rw [hc2, hc1]; simp
  have c1 : w2.cell? ⟨w.heap.size, 1, none⟩ = some (.int .i64 p.mutexes) := by rw [hc2, hc1]; simp
  have c2 : w2.cell? ⟨w.heap.size, 2, none⟩ = some (.slice a p.threads.length cap) := by rw [hc2, hc1]; simp
  clear hc1 hc2
  go_wp2_with fail
  refine (replay_any p a cap fuel ra rcap row w2 (HP.out.later hw2) (HROW.out.later hw2) (by omega)).mono ?_
  rintro r w3 ⟨hb3, hmt⟩
  have HW3 := Lib.hid (hw2.trans (hb3.mono hw2.size))
  clear c0 c1 c2 hb3 hw1 hw2
  have hz3 : w.heap.size ≤ w3.heap.size := HW3.out.size
  rcases hrep : rep p fuel row with ⟨e, es, _ | s⟩
  · have q0 : (e == 0) = false := by simpa using rep_none hrep
    have q1 : (e != 0) = true := by simpa using rep_none hrep
    rw [hrep] at hmt
    dsimp only at hmt
    obtain rfl := hmt
    clear hrep
    go_wp2
    go_ret
    exact ⟨rfl, HW3.out⟩
  obtain ⟨rfl, _, _⟩ := rep_some hrep
  rw [hrep] at hmt
  dsimp only at hmt
  obtain ⟨g, v, rfl, hg, hs, ok, ho⟩ := hmt
  have HS := Lib.hid hs
  have OK := Lib.hid ok
  have h4 := ok.len4
  clear hs ok ho hrep hg
  go_wp2_with fail
  refine (threads_any HS.out).mono ?_
  rintro r w' ⟨rfl, rfl⟩
  have h1 : 1 ≤ s.ts.length := OK.out.len1
  obtain ⟨A0, e1, hA0⟩ := wrap_u ta
  obtain ⟨B0, e2, hB0⟩ := wrap_u tb
  have e3 : IntKind.u64.wrap (s.ts.length : Int) = s.ts.length := wrap_u_small _ (by omega) (by omega)
  obtain ⟨A, e4, hA1⟩ := tmod_nat A0 hA0 s.ts.length h1
  obtain ⟨B, e5, hB1⟩ := tmod_nat B0 hB0 s.ts.length h1
  have e6 : IntKind.i64.wrap (A : Int) = A := IntWalk.i64_in _ (by omega)
  have e7 : IntKind.i64.wrap (B : Int) = B := IntWalk.i64_in _ (by omega)
  have e8 : A0 % (s.ts.length : Int) = A := by rw [← e4, Int.tmod_eq_emod_of_nonneg hA0]
  have e9 : B0 % (s.ts.length : Int) = B := by rw [← e5, Int.tmod_eq_emod_of_nonneg hB0]
  have hz : ((s.ts.length : Int) == 0) = false := by rw [beq_eq_false_iff_ne]; omega
  go_wp2
  go_region
  clear e1 e2 e3 e4 e5 e6 e7 e8 e9 hz hA0 hB0
  have HS0 := Lib.hid (HS.out.drew)
  have HB0 : Hid (Below w3.heap.size w3 w3.drew) := (Below.refl _ _).drew
  have HW0 : Hid (Below w.heap.size w w3.drew) := HW3.out.drew
  clear HS HW3
  obtain ⟨x, hx⟩ : ∃ x, (s.next A).getD ev0 = x := ⟨_, rfl⟩
  obtain ⟨y, hy⟩ : ∃ y, (s.next B).getD ev0 = y := ⟨_, rfl⟩
  go_wp2_with fail
  generalize w3.drew = V at *
  refine (next_any HS0.out OK.out A).mono ?_
  rw [swap_evR, hx]
  rintro r w5 ⟨rfl, hb⟩
  have HB5 := Lib.hid (hb.alloc hb.size (.cells #[.int .i64 x.thread, .int .i64 x.kind, .int .i64 x.obj, .bool x.fail] 54))
  have HX5 := Lib.hid (EvBox.new w5 x)
  clear hb
  go_wp2_with fail
  refine (next_any (HS0.out.later HB5.out) OK.out B).mono ?_
  rw [swap_evR, hy]
  rintro r w6 ⟨rfl, hb⟩
  have hb2 := hb.alloc hb.size (.cells #[.int .i64 y.thread, .int .i64 y.kind, .int .i64 y.obj, .bool y.fail] 54)
  have HB6 := Lib.hid (HB5.out.trans (hb2.mono HB5.out.size))
  have HX6 := Lib.hid (HX5.out.later hb2)
  have HY6 := Lib.hid (EvBox.new w6 y)
  have HHX := HX6.out.lt
  clear hb hb2 HX5 HB5
  by_cases hAB : A = B
  · have hq : ((A : Int) == (B : Int)) = true := by simp [hAB]
    clear hAB
    go_wp2
    go_ret
    exact ⟨rfl, HW0.out.trans (HB6.out.mono HW0.out.size)⟩
  have hq : ((A : Int) == (B : Int)) = false := by rw [beq_eq_false_iff_ne]; omega
  cases hi : (s.next A).isSome
  · go_wp2
    go_ret
    exact ⟨rfl, HW0.out.trans (HB6.out.mono HW0.out.size)⟩
  cases hj : (s.next B).isSome
  · go_wp2
    go_ret
    exact ⟨rfl, HW0.out.trans (HB6.out.mono HW0.out.size)⟩
  obtain ⟨x', hx'⟩ := Option.isSome_iff_exists.1 hi
  obtain ⟨y', hy'⟩ := Option.isSome_iff_exists.1 hj
  rw [hx'] at hx
  rw [hy'] at hy
  have hx2 : x' = x := hx
  have hy2 : y' = y := hy
  subst hx2 hy2
  have HHAS := Lib.hid (second_has (nx := s.next) (by omega) hAB hx' hy')
  have HLESS := Lib.hid (second_less (nx := s.next) (A := A) (t := (B : Int)))
  clear hi hj hx' hy' hx hy hAB
  go_wp2_with fail
  generalize w6.alloc (.cells #[.int .i64 y'.thread, .int .i64 y'.kind, .int .i64 y'.obj, .bool y'.fail] 54) = W6 at *
  generalize w6.heap.size = Y at *
  generalize w5.heap.size = X at *
  refine (child_gen (asl := 0) (ear := 0) (some ⟨g, 0, none⟩) s.next (by omega) (by omega) A W6 (fun W hb t => next_any ((HS0.out.later HB6.out).later hb) OK.out t)).mono ?_
  rw [childN_zero]
  rintro r w7 ⟨rfl, hb7⟩
  have HB7 := Lib.hid (HB6.out.trans (hb7.mono HB6.out.size))
  have HX7 := Lib.hid (HX6.out.later hb7)
  have HY7 := Lib.hid (HY6.out.later hb7)
  clear hb7 HB6 HX6 HY6 HHX
  go_wp2_with fail
  refine (of_lit w7 [(A : Int)] _ _ _ (by rfl) 1 rfl (by omega) rfl).mono ?_
  rintro r w8 ⟨rfl, hb8⟩
  have HB8 := Lib.hid (HB7.out.trans (hb8.mono HB7.out.size))
  have HX8 := Lib.hid (HX7.out.later hb8)
  have HY8 := Lib.hid (HY7.out.later hb8)
  clear hb8 HB7 HX7 HY7
  go_wp2_with fail
  refine (child_gen (asl := 0) (some ⟨g, 0, none⟩) s.next (by omega) (ofN_lt [(A : Int)]) B w8 (fun W hb t => next_any ((HS0.out.later HB8.out).later hb) OK.out t)).mono ?_
  rintro r w9 ⟨rfl, hb9⟩
  have HB9 := Lib.hid (HB8.out.trans (hb9.mono HB8.out.size))
  have HX9 := Lib.hid (HX8.out.later hb9)
  have HY9 := Lib.hid (HY8.out.later hb9)
  have HCN := childN_lt s.next 0 (ofN [(A : Int)]) B
  clear hb9 HB8 HX8 HY8
  generalize childN s.next 0 (ofN [(A : Int)]) B = cN at *
  obtain ⟨D, hD⟩ : ∃ D, dep x' y' = D := ⟨_, rfl⟩
  rw [hD] at HHAS
  have HHS : Hid (∀ W, Calls Try.prog 10 #[.int .u8 cN, .int .i64 A] W fun r w' => r = .returned (.bool (!D)) ∧ W = w') := fun W => by rw [← HHAS.out]; exact has_any HCN A W
  have HDP : Hid (∀ w', Calls Try.prog 31 #[.agg #[.int .i64 x'.thread, .int .i64 x'.kind, .int .i64 x'.obj, .bool x'.fail], .agg #[.int .i64 y'.thread, .int .i64 y'.kind, .int .i64 y'.obj, .bool y'.fail]] w' fun r w'' => r = .returned (.bool D) ∧ Below w'.heap.size w' w'') := fun w' => by rw [← hD]; exact depends_any x' y' w'
  have HWO : Hid (∀ W, Calls Try.prog 14 #[.int .u8 cN, .int .i64 A] W fun r w' => r = .returned (.int .u8 0) ∧ W = w') := fun W => by
    have := without_any HCN A W
    rw [HLESS.out] at this
    exact this
  have hDD : ((!D) == (!D)) = true := by simp
  have HK : Hid (∀ W, Below w9.heap.size w9 W → (W.cell? ⟨X, 0, none⟩ = some (.int .i64 x'.thread) ∧ W.cell? ⟨X, 1, none⟩ = some (.int .i64 x'.kind) ∧ W.cell? ⟨X, 2, none⟩ = some (.int .i64 x'.obj) ∧ W.cell? ⟨X, 3, none⟩ = some (.bool x'.fail)) ∧ (W.cell? ⟨Y, 0, none⟩ = some (.int .i64 y'.thread) ∧ W.cell? ⟨Y, 1, none⟩ = some (.int .i64 y'.kind) ∧ W.cell? ⟨Y, 2, none⟩ = some (.int .i64 y'.obj) ∧ W.cell? ⟨Y, 3, none⟩ = some (.bool y'.fail)) ∧ Below w9.heap.size w9 W) := fun W h => ⟨(HX9.out.later h).cells, (HY9.out.later h).cells, h⟩
  have hB10 : Below w9.heap.size w9 w9.drew := (Below.refl _ _).drew
  clear hD HHAS HLESS HX9 HY9 HCN
  go_wp2_with fail
  go_region_held3 (fun W => (W.cell? ⟨X, 0, none⟩ = some (.int .i64 x'.thread) ∧ W.cell? ⟨X, 1, none⟩ = some (.int .i64 x'.kind) ∧ W.cell? ⟨X, 2, none⟩ = some (.int .i64 x'.obj) ∧ W.cell? ⟨X, 3, none⟩ = some (.bool x'.fail)) ∧ (W.cell? ⟨Y, 0, none⟩ = some (.int .i64 y'.thread) ∧ W.cell? ⟨Y, 1, none⟩ = some (.int .i64 y'.kind) ∧ W.cell? ⟨Y, 2, none⟩ = some (.int .i64 y'.obj) ∧ W.cell? ⟨Y, 3, none⟩ = some (.bool y'.fail)) ∧ Below w9.heap.size w9 W) (first | exact HK.out _ hB10 | exact HK.out _ hB11)
    (first
      | (go_at_call 10; ((with_reducible refine (HHS.out _).mono ?_); rintro r w' ⟨rfl, rfl⟩))
      | (go_at_call 31; ((with_reducible refine (HDP.out _).mono ?_); rintro r w11 ⟨rfl, hb11⟩; have hB11 := hB10.trans (hb11.mono hB10.size); clear hB10))
      | (go_at_call 14; ((with_reducible refine (HWO.out _).mono ?_); rintro r w' ⟨rfl, rfl⟩)))
  go_wp2
  go_ret
  exact ⟨rfl, HW0.out.trans ((HB9.out.trans (hB11.mono HB9.out.size)).mono HW0.out.size)⟩

end Go.Proofs.Ytbmhcnldcfaipaa

/-
  SleepSwap: of two that do not depend on one another, gone into one behind the other, the first one sleeps behind the second one, and by it is nobody woken who does not depend on both: the law answers true, and its arguments read as they did.
  For every input, whatever its size and however its parts share memory; nothing is asked of it but what the statement's own form asks.
-/
namespace Go.Proofs.Ytbmhcnldcfaipaa.sleepSwap
open Go.ChangeShapes Go.WideShapes Go.ChangeAt Go.RowKit

theorem own : ownKnob Try.prog.godebug = none := by kernel_rfl
theorem laidOut : laidOutB Try.prog = true := by kernel_rfl

set_option maxRecDepth 100000 in
theorem lifted (os : Os) (started : os.Started) (H : Type) (enc : TypeId × Value → H) :
    ReturnsInHanded {} Try.checked os 6 .any (Rows.sleepSwapSpec.pre6 enc Try.prog Try.f6 Rows.sleepSwapRow.domain false) (Rows.sleepSwapSpec.post enc Try.prog Try.f6 false true false false) := by
  refine returnsInHanded_of_change (C := Try.checked) own started (by kernel_rfl) Try.func6
    (ChangeSpec.witness6 (enc := enc) (C := Try.checked) false ⟨#[], #[.agg #[.int .i64 0, .int .i64 0, .slice none 0 0], .int .i64 0, .slice none 0 0, .int .i64 0, .int .i64 0], []⟩ 8 (by kernel_rfl) (by kernel_rfl) (by kernel_rfl) (by kernel_rfl)) ?_
  intro W base args ds gs before hval0 hW hcnd _
  have hval : ∀ (j : Nat) t v, Try.f6.params[j]? = some t → args[j]? = some v → Value.okWide Try.prog W .any base t v := hval0
  have hW' := hW
  obtain ⟨p, q, hA0, hV, rfl, hfz, hnd⟩ := hW
  have hA : DataW.TrodAll enc Try.prog W 0 (fun _ => true) true Try.f6.params.toList args.toList ds p := hA0
  rw [Try.params6] at hA hval
  obtain ⟨v0, vs0, d0, ds0, p0, q0, hargs, rfl, rfl, h0, r0⟩ := trodAll_cons hA
  obtain ⟨v1, vs1, d1, ds1, p1, q1, rfl, rfl, rfl, h1, r1⟩ := trodAll_cons r0
  obtain ⟨v2, vs2, d2, ds2, p2, q2, rfl, rfl, rfl, h2, r2⟩ := trodAll_cons r1
  obtain ⟨v3, vs3, d3, ds3, p3, q3, rfl, rfl, rfl, h3, r3⟩ := trodAll_cons r2
  obtain ⟨v4, vs4, d4, ds4, p4, q4, rfl, rfl, rfl, h4, r4⟩ := trodAll_cons r3
  obtain ⟨rfl, rfl, rfl⟩ := trodAll_nil r4
  obtain rfl : args = #[v0, v1, v2, v3, v4] := by cases args; simp_all
  obtain ⟨rfl, rfl⟩ := trodVars_none hV
  have k0 := h0
  have lt0 : ∀ x ∈ p0, x.block < W.heap.size := by obtain ⟨m, hm⟩ := k0; exact DataW.trod_lt m _ _ _ hm
  have k1 := h1
  have lt1 : ∀ x ∈ p1, x.block < W.heap.size := by obtain ⟨m, hm⟩ := k1; exact DataW.trod_lt m _ _ _ hm
  have k2 := h2
  have lt2 : ∀ x ∈ p2, x.block < W.heap.size := by obtain ⟨m, hm⟩ := k2; exact DataW.trod_lt m _ _ _ hm
  have k3 := h3
  have lt3 : ∀ x ∈ p3, x.block < W.heap.size := by obtain ⟨m, hm⟩ := k3; exact DataW.trod_lt m _ _ _ hm
  have k4 := h4
  have lt4 : ∀ x ∈ p4, x.block < W.heap.size := by obtain ⟨m, hm⟩ := k4; exact DataW.trod_lt m _ _ _ hm
  obtain ⟨pg0, a0, cap0, rfl, hx0, _⟩ := prog_of_trod (hval 0 37 v0 rfl rfl) h0
  obtain ⟨n1, rfl, hx1⟩ := int_of_trod (hval 1 3 v1 rfl rfl) h1
  obtain ⟨a2, ns2, cap2, rfl, hx2, _, hr2⟩ := nums_of_trod (hval 2 22 v2 rfl rfl) h2
  obtain ⟨n3, rfl, hx3⟩ := int_of_trod (hval 3 3 v3 rfl rfl) h3
  obtain ⟨n4, rfl, hx4⟩ := int_of_trod (hval 4 3 v4 rfl rfl) h4
  clear hA0 hval0
  refine (sleepSwap_any pg0 a0 cap0 n1 a2 ns2 cap2 n3 n4 W hx0 hx2).mono fun e W' ⟨he, bel⟩ => ?_
  subst he
  exact ⟨_, rfl, _, _, _, [], _, [], hW', trodAll_mk1 (shut_bool Try.underlying4 _), (trodAll_cons_mk (Below.trod laidOut (by kernel_rfl) (of_decide_eq_true (by kernel_rfl)) k0 bel lt0) (trodAll_cons_mk (Below.trod laidOut (by kernel_rfl) (of_decide_eq_true (by kernel_rfl)) k1 bel lt1) (trodAll_cons_mk (Below.trod laidOut (by kernel_rfl) (of_decide_eq_true (by kernel_rfl)) k2 bel lt2) (trodAll_cons_mk (Below.trod laidOut (by kernel_rfl) (of_decide_eq_true (by kernel_rfl)) k3 bel lt3) (trodAll_cons_mk (Below.trod laidOut (by kernel_rfl) (of_decide_eq_true (by kernel_rfl)) k4 bel lt4) trodAll_mk0))))), rfl, bel.frame _, fun h => by cases h⟩

theorem over : Rows.sleepSwapRow.holds Try.pinned (OpenSpec.ofChange Rows.sleepSwapSpec) :=
  OpenClaim.holds_of_wide 6 Try.f6 rfl rfl rfl rfl rfl rfl rfl ⟨rfl, rfl, rfl, rfl, rfl⟩ rfl rfl rfl rfl rfl (by kernel_rfl) Try.func6 (by kernel_rfl)
    (of_decide_eq_true (by kernel_rfl)) (by unfold Func.isWrapper; first | (rw [if_pos (by decide +kernel)]; kernel_rfl) | (rw [if_neg (by decide +kernel)]; exact ⟨rfl, rfl⟩))
    (fun os started H enc _ => lifted os started H enc)

theorem proved : Rows.SleepSwapSaid := over
end Go.Proofs.Ytbmhcnldcfaipaa.sleepSwap
