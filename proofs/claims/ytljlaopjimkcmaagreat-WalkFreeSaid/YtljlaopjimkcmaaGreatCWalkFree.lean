/-
  WalkFree: without instructions that take a mutex nobody ever waits at an end, and two threads of local instructions alone have one class: the law answers true, and its arguments read as they did.
  For every input, whatever its size and however its parts share memory; nothing is asked of it but what the statement's own form asks.
-/
import Derived.WalkKit
import Derived.ProofKit
import Derived.OpenShut
import Derived.Test.YtljlaopjimkcmaaGreatRows
import Derived.Test.YtljlaopjimkcmaaGreatPk04
import Derived.Test.YtljlaopjimkcmaaGreatPk09
import Derived.Test.YtljlaopjimkcmaaGreatPk10

/- Walks, plainly: without instructions that take a mutex nobody waits at an end. -/
namespace Go.Proofs.YtljlaopjimkcmaaGreat

theorem step_p (s : St) (t : Int) : (s.step t).2.2.p = s.p := by
  rcases s.step_cases t with ⟨i, _, _, e⟩ | ⟨e, _, e'⟩
  · rw [e]; rfl
  · rw [e']
theorem runs_done (n : Nat) : ∀ (s : St) (row : List Ev) (x : St × List Ev), x ∈ s.runs n row → s.fuel ≤ n → x.1.all = [] ∧ x.1.p = s.p := by
  induction n with
  | zero =>
    intro s row x hx hf
    obtain rfl := List.mem_singleton.1 hx
    exact ⟨all_none (s := s) (by omega), rfl⟩
  | succ n ih =>
    intro s row x hx hf
    by_cases h : s.all = []
    · rw [(runs_end (n + 1) s row h).1] at hx
      obtain rfl := List.mem_singleton.1 hx
      exact ⟨h, rfl⟩
    · have hx' : x ∈ (if s.all = [] then [(s, row)] else s.all.flatMap fun t => St.runs n (s.step t).2.2 (row ++ [(s.step t).2.1])) := hx
      rw [if_neg h, List.mem_flatMap] at hx'
      obtain ⟨t, ht, hx2⟩ := hx'
      obtain ⟨e, s1, h1, h2⟩ := all_step' ht
      rw [h1] at hx2
      have hp := step_p s t
      rw [h1] at hp
      obtain ⟨g1, g2⟩ := ih s1 _ x hx2 (by omega)
      exact ⟨g1, g2.trans hp⟩
def noLock (p : Pg) : Prop := ∀ l ∈ p.threads, ∀ i ∈ l, i.kind ≠ 5
theorem waits_free {s : St} (h : noLock s.p) (ha : s.all = []) : waits s = false := by
  rw [Bool.eq_false_iff]
  intro hw
  unfold waits at hw
  obtain ⟨k, hk, hn⟩ := List.any_eq_true.1 hw
  unfold St.next at hn
  rw [Option.isSome_map] at hn
  obtain ⟨i, hi⟩ := Option.isSome_iff_exists.1 hn
  have hc := (St.ins_has hi).2.2
  have hmem : i ∈ s.code (Int.toNat k) := List.mem_of_getElem? hc
  have h5 : i.kind ≠ 5 := by
    unfold St.code at hmem
    by_cases hl : Int.toNat k < s.p.threads.length
    · rw [getD_lt _ hl] at hmem
      exact h _ (List.getElem_mem hl) i hmem
    · have hl' : s.p.threads.length ≤ k := by have e : Int.toNat (k : Int) = k := Int.toNat_natCast k; omega
      have e : s.p.threads.getD (Int.toNat (k : Int)) [] = [] := by rw [Int.toNat_natCast]; simp [List.getD, List.getElem?_eq_none hl']
      rw [e] at hmem
      cases hmem
  have hm : s.may k = true := by
    unfold St.may
    rw [hi]
    simp [h5]
  have : (k : Int) ∈ s.all := by
    unfold St.all
    exact List.mem_filter.2 ⟨List.mem_map.2 ⟨k, hk, rfl⟩, hm⟩
  rw [ha] at this
  cases this
theorem stuck_free {p : Pg} {fuel : Int} {F : Nat} (ok : (s0 p fuel).Ok F) (h : noLock p) : stuckN (runsW p fuel) = 0 := by
  have hf := fuel_le ok
  unfold stuckN
  rw [List.length_eq_zero_iff, List.filter_eq_nil_iff]
  intro x hx
  obtain ⟨h1, h2⟩ := runs_done 33 (s0 p fuel) [] x hx (by omega)
  have h3 : noLock x.1.p := by rw [h2]; exact h
  rw [waits_free h3 h1]
  simp
theorem ways2_le : ∀ a, a < 5 → ∀ i, i < 5 → ways2 a i ≤ 100 := by decide
theorem ways2_quo (a i : Nat) : ((ways2 a i : Int) * ((a : Int) + (i : Int) + 1)).tdiv ((i : Int) + 1) = (ways2 a (i + 1) : Nat) := by
  have e1 : (ways2 a i : Int) * ((a : Int) + (i : Int) + 1) = ((ways2 a i * (a + i + 1) : Nat) : Int) := by simp
  have e2 : (i : Int) + 1 = ((i + 1 : Nat) : Int) := by simp
  rw [e1, e2, ← Int.ofNat_tdiv]
  rfl

end Go.Proofs.YtljlaopjimkcmaaGreat

/- The law WalkFree, walked. -/
namespace Go.Proofs.YtljlaopjimkcmaaGreat
open Go.RowKit

set_option maxRecDepth 100000 in
set_option maxHeartbeats 8000000 in
theorem walkFree_any (p : Pg) (a : Option Addr) (cap : Nat) (fuel x y : Int) (w : World) (hp : ThreadsAt w a p.threads) :
    Calls Tryz.prog 6 #[.agg #[.int .i64 p.vars, .int .i64 p.mutexes, .slice a p.threads.length cap], .int .i64 fuel, .int .i64 x, .int .i64 y] w fun r w' => r = .returned (.bool true) ∧ Below w.heap.size w w' := by
  have HP := Lib.hid hp
  have HBX : Hid (∀ W, Below (w.alloc (.cells #[.int .i64 p.vars, .int .i64 p.mutexes, .slice a p.threads.length cap] 24)).heap.size (w.alloc (.cells #[.int .i64 p.vars, .int .i64 p.mutexes, .slice a p.threads.length cap] 24)) W → W.cell? ⟨w.heap.size, 0, none⟩ = some (.int .i64 p.vars) ∧ W.cell? ⟨w.heap.size, 1, none⟩ = some (.int .i64 p.mutexes) ∧ W.cell? ⟨w.heap.size, 2, none⟩ = some (.slice a p.threads.length cap)) := fun W h => ⟨cell_later h (by simp), cell_later h (by simp), cell_later h (by simp)⟩
  have hb1 : Below w.heap.size w (w.alloc (.cells #[.int .i64 p.vars, .int .i64 p.mutexes, .slice a p.threads.length cap] 24)) := below_alloc1 w _
  clear hp
  obtain ⟨I0, e1, hI0⟩ := wrap_u x
  obtain ⟨A, e2, hA⟩ := tmod_nat I0 hI0 5 (by omega)
  have e3 : IntKind.i64.wrap (A : Int) = A := IntWalk.i64_in _ (by omega)
  have e4 : I0 % (5 : Int) = A := by rw [← e2]; exact (Int.tmod_eq_emod_of_nonneg hI0).symm
  have e5 : I0.tmod 5 = A := e2
  obtain ⟨J0, f1, hJ0⟩ := wrap_u y
  obtain ⟨C, f2, hC⟩ := tmod_nat J0 hJ0 5 (by omega)
  have f3 : IntKind.i64.wrap (C : Int) = C := IntWalk.i64_in _ (by omega)
  have f4 : J0 % (5 : Int) = C := by rw [← f2]; exact (Int.tmod_eq_emod_of_nonneg hJ0).symm
  have f5 : J0.tmod 5 = C := f2
  go_enter Tryz.func6, Tryz.ntmps6
  go_wp2_with fail
  generalize w.alloc (.cells #[.int .i64 p.vars, .int .i64 p.mutexes, .slice a p.threads.length cap] 24) = W1 at *
  refine (awake6_any W1).mono ?_
  rintro r W2 ⟨rfl, hb2⟩
  clear e1 e2 e3 e4 e5 hI0 f1 f2 f3 f4 f5 hJ0
  obtain ⟨gok, gle, grn, gky⟩ := loc_ok hA hC
  go_wp2_with fail
  refine (local_any A W2 (by omega)).mono ?_
  rintro r W3 ⟨c, k, rfl, hc, en, hb3⟩
  have HC := Lib.hid hc
  clear hc
  go_wp2_with fail
  refine (local_any C W3 (by omega)).mono ?_
  rintro r W4 ⟨d, k2, rfl, hd, en2, hb4⟩
  have HT := Lib.hid (threads2 W4 c d k k2 (locL A) (locL C) A C (locL_len A) (locL_len C) (HC.out.later hb4) hd en en2)
  have hbT := below_alloc1 W4 (.cells #[.slice c A k, .slice d C k2] 57)
  have hB4 : Below W1.heap.size W1 W4 := hb2.trans ((hb3.trans (hb4.mono hb3.size)).mono hb2.size)
  have hB5 := hB4.trans (hbT.mono hB4.size)
  clear HC hd en en2 hb2 hb3 hb4 hbT hB4
  have HALL := Lib.hid (all_yes (locP A C) (some ⟨W4.heap.size, 0, none⟩) 2 8 600 _ HT.out (by omega) gok gle)
  rw [gky, grn] at HALL
  generalize preW (locP A C) 8 = M at *
  clear gok grn gky HT
  go_wp2_with fail
  refine HALL.out.mono ?_
  rintro r W6 ⟨v4, k4, rfl, ho4, hb6⟩
  have hB6 := hB5.trans (hb6.mono hB5.size)
  have hB7 := hB6.alloc hB6.size (.cells #[.slice v4 1 k4, .int .i64 (ways2 A C : Int), .int .i64 (M : Int)] 30)
  have HX : Hid (∀ W, Below (W6.alloc (.cells #[.slice v4 1 k4, .int .i64 (ways2 A C : Int), .int .i64 (M : Int)] 30)).heap.size (W6.alloc (.cells #[.slice v4 1 k4, .int .i64 (ways2 A C : Int), .int .i64 (M : Int)] 30)) W → W.cell? ⟨W6.heap.size, 0, none⟩ = some (.slice v4 1 k4) ∧ W.cell? ⟨W6.heap.size, 1, none⟩ = some (.int .i64 (ways2 A C : Int))) := fun W h => ⟨cell_later h (by simp), cell_later h (by simp)⟩
  clear HALL hb6 hB5 hB6 ho4
  go_wp2_with fail
  generalize W6.alloc (.cells #[.slice v4 1 k4, .int .i64 (ways2 A C : Int), .int .i64 (M : Int)] 30) = W7 at *
  go_loopw [11, 40] (fun s i wr => ∃ j : Nat, j ≤ C ∧ i = .int .i64 j ∧ s = .int .i64 (ways2 A j : Nat) ∧ Hid (Below W7.heap.size W7 wr)) (fun _ i _ => C - (intOf i).toNat)
  case atStart => exact ⟨0, Nat.zero_le _, rfl, rfl, Below.refl _ _⟩
  case round =>
    obtain ⟨j, hj, rfl, rfl, HB⟩ := hrel
    by_cases hlt : j < C
    · have hq := ways2_quo A j
      have hw1 := ways2_le A hA j (by omega)
      have hw2 := ways2_le A hA (j + 1) (by omega)
      have hm1 : (ways2 A j : Int) * ((A : Int) + (j : Int) + 1) ≤ 100 * 9 := by
        have : (ways2 A j) * (A + j + 1) ≤ 100 * 9 := Nat.mul_le_mul hw1 (by omega)
        have e : ((ways2 A j * (A + j + 1) : Nat) : Int) = (ways2 A j : Int) * ((A : Int) + (j : Int) + 1) := by simp
        omega
      have hm0 : 0 ≤ (ways2 A j : Int) * ((A : Int) + (j : Int) + 1) := Int.mul_nonneg (by omega) (by omega)
      have g1 : IntKind.i64.wrap ((A : Int) + (j : Int)) = (A : Int) + (j : Int) := IntWalk.i64_in _ (by omega)
      have g2 : IntKind.i64.wrap ((A : Int) + (j : Int) + 1) = (A : Int) + (j : Int) + 1 := IntWalk.i64_in _ (by omega)
      have g3 : IntKind.i64.wrap ((ways2 A j : Int) * ((A : Int) + (j : Int) + 1)) = (ways2 A j : Int) * ((A : Int) + (j : Int) + 1) := IntWalk.i64_in _ (by omega)
      have g4 : IntKind.i64.wrap ((j : Int) + 1) = (j : Int) + 1 := IntWalk.i64_in _ (by omega)
      have g5 : IntKind.i64.wrap ((ways2 A (j + 1) : Nat) : Int) = ((ways2 A (j + 1) : Nat) : Int) := IntWalk.i64_in _ (by omega)
      have g6 : ¬ ((j : Int) + 1 = 0) := by omega
      clear hm1 hm0
      go_wp2_with fail
      go_roundw
      case rel => exact ⟨j + 1, by omega, by go_num, by first | rw [hq, g5] | rfl | (rw [← hq]), HB.out⟩
      case measure => simp [intOf]; omega
    · obtain rfl : j = C := by omega
      obtain ⟨x0, x1⟩ := HX.out wr HB.out
      have hB8 := hB7.trans (HB.out.mono hB7.size)
      have hbw := hb1.trans (hB8.mono hb1.size)
      obtain ⟨c0, c1, c2⟩ := HBX.out wr hB8
      have hqn : ((ways2 A j : Int) != (ways2 A j : Int)) = false := by simp
      clear HX
      go_wp2_with fail
      refine (small_any p a cap fuel wr (HP.out.later hbw)).mono ?_
      rintro r W9 ⟨rfl, hb9⟩
      have hB9 := hB8.trans (hb9.mono hB8.size)
      have hbw9 := hbw.trans (hb9.mono hbw.size)
      clear x0 x1 c0 c1 c2 hqn
      cases hf : smallPg p fuel
      · clear hf
        go_wp2_with fail
        go_ret
        exact ⟨rfl, hbw9⟩
      obtain ⟨_, hok, hle⟩ := small_yes hf
      have hOK := Lib.hid hok
      have hp4 : p.threads.length ≤ 4 := by
        have h := hok.1
        unfold rightPg at h
        rw [Bool.and_eq_true, decide_eq_true_eq] at h
        omega
      have HLE := Lib.hid hle
      have HSO : Hid (St.Ok fuel.toNat (s0 p fuel)) := by have h := new_ok hok.1 fuel.toNat (by have := hok.2; omega); exact h
      have HST : Hid (noLock p → stuckN (runsW p fuel) = 0) := fun h => stuck_free HSO.out h
      obtain ⟨c0, c1, c2⟩ := HBX.out W9 hB9
      clear hf hok hle HB hB8 hbw hb9 hB7 HSO
      go_wp2_with fail
      go_loopw [74] (fun i w' => ∃ t : Nat, t ≤ p.threads.length ∧ i = .int .i64 t ∧ Hid (∀ l ∈ p.threads.take t, ∀ i ∈ l, i.kind ≠ 5) ∧ Hid (Below W9.heap.size W9 w')) (fun i _ => p.threads.length - (intOf i).toNat)
      case atStart => exact ⟨0, Nat.zero_le _, rfl, by simp [Hid], Below.refl _ _⟩
      case round =>
        obtain ⟨t, ht, rfl, HN, HB⟩ := hrel
        have HBW := Lib.hid (hbw9.trans (HB.out.mono hbw9.size))
        clear c0 c1 c2
        by_cases hlt : t < p.threads.length
        · obtain ⟨b, o, rfl, hc⟩ := HP.out.2 (by intro e; simp [e] at hlt)
          obtain ⟨cc, ccap, t0, hcode, _⟩ := hc t hlt
          have d0 := cell_later HBW.out t0
          have HCD := Lib.hid hcode
          have HN2 : Hid ((∀ i ∈ p.threads[t], i.kind ≠ 5) → ∀ l ∈ p.threads.take (t + 1), ∀ i ∈ l, i.kind ≠ 5) := fun h l hl => by
            rw [List.take_succ_eq_append_getElem hlt, List.mem_append, List.mem_singleton] at hl
            rcases hl with hl | rfl
            · exact HN.out l hl
            · exact h
          have hcm := hcode.1
          unfold maxLen at hcm
          clear hc t0 hcode
          generalize p.threads[t] = l at *
          go_wp2_with fail
          go_loopw [80] (fun i w' => ∃ q : Nat, q ≤ l.length ∧ i = .int .i64 q ∧ Hid (∀ i ∈ l.take q, i.kind ≠ 5) ∧ Hid (Below W9.heap.size W9 w')) (fun i _ => l.length - (intOf i).toNat)
          case atStart => exact ⟨0, Nat.zero_le _, rfl, by simp [Hid], HB.out⟩
          case round =>
            obtain ⟨q, hq, rfl, HQ, HB2⟩ := hrel
            have HBW2 := Lib.hid (hbw9.trans (HB2.out.mono hbw9.size))
            clear d0
            by_cases hql : q < l.length
            · obtain ⟨b2, o2, rfl, hcc⟩ := HCD.out.2 (by intro e; simp [e] at hql)
              obtain ⟨i0, i1, i2, i3⟩ := hcc q hql
              have k0 := cell_later HBW2.out i0
              have k1 := cell_later HBW2.out i1
              have k2 := cell_later HBW2.out i2
              have k3 := cell_later HBW2.out i3
              have HQ2 : Hid (l[q].kind ≠ 5 → ∀ i ∈ l.take (q + 1), i.kind ≠ 5) := fun h i hi => by
                rw [List.take_succ_eq_append_getElem hql, List.mem_append, List.mem_singleton] at hi
                rcases hi with hi | rfl
                · exact HQ.out i hi
                · exact h
              clear hcc i0 i1 i2 i3
              generalize l[q] = ins at *
              obtain ⟨kd, rg, xx, nn⟩ := ins
              dsimp only at k0 k1 k2 k3 HQ2
              have HB3 := Lib.hid (HB2.out.alloc HB2.out.size (.cells #[.int .i64 kd, .int .i64 rg, .int .i64 xx, .int .i64 nn] 60))
              have HBW3 := Lib.hid (HBW2.out.alloc HBW2.out.size (.cells #[.int .i64 kd, .int .i64 rg, .int .i64 xx, .int .i64 nn] 60))
              by_cases h5 : kd = 5
              · subst h5
                go_wp2_with fail
                go_ret
                exact ⟨rfl, HBW3.out⟩
              · have hq5 : (kd == 5) = false := by simp [h5]
                have HN3 := Lib.hid (HQ2.out h5)
                clear h5 HQ2
                go_wp2_with fail
                go_roundw
                case rel => exact ⟨q + 1, by omega, by go_num, HN3.out, HB3.out⟩
                case measure => simp [intOf]; omega
            · obtain rfl : q = l.length := by omega
              have HN3 : Hid (∀ l ∈ p.threads.take (t + 1), ∀ i ∈ l, i.kind ≠ 5) := HN2.out (by have h := HQ.out; rw [List.take_length] at h; exact h)
              go_wp2_with fail
              go_roundw
              case rel => exact ⟨t + 1, by omega, by go_num, HN3.out, HB2.out⟩
              case measure => simp [intOf]; omega
        · obtain rfl : t = p.threads.length := by omega
          have HNL : Hid (noLock p) := by have h := HN.out; rw [List.take_length] at h; exact h
          have h0 := HST.out HNL.out
          have HDD := Lib.hid (dead_yes p a cap fuel 600 wr (HP.out.later HBW.out) (by omega) hOK.out HLE.out)
          rw [h0] at HDD
          obtain ⟨c0, c1, c2⟩ := HBX.out wr (hB9.trans (HB.out.mono hB9.size))
          clear h0
          go_wp2_with fail
          refine HDD.out.mono ?_
          rintro r W10 ⟨rfl, hb10⟩
          have HFIN := Lib.hid (HBW.out.trans (hb10.mono HBW.out.size))
          go_wp2_with fail
          go_ret
          exact ⟨rfl, HFIN.out⟩

end Go.Proofs.YtljlaopjimkcmaaGreat

/-
  WalkFree: without instructions that take a mutex nobody ever waits at an end, and two threads of local instructions alone have one class: the law answers true, and its arguments read as they did.
  For every input, whatever its size and however its parts share memory; nothing is asked of it but what the statement's own form asks.
-/
namespace Go.Proofs.YtljlaopjimkcmaaGreat.walkFree
open Go.ChangeShapes Go.WideShapes Go.ChangeAt Go.RowKit

theorem own : ownKnob Tryz.prog.godebug = none := by kernel_rfl
theorem laidOut : laidOutB Tryz.prog = true := by kernel_rfl

set_option maxRecDepth 100000 in
theorem lifted (os : Os) (started : os.Started) (H : Type) (enc : TypeId × Value → H) :
    ReturnsInHanded {} Tryz.checked os 6 .any (Rows.walkFreeSpec.pre6 enc Tryz.prog Tryz.f6 Rows.walkFreeRow.domain false) (Rows.walkFreeSpec.post enc Tryz.prog Tryz.f6 false true false false) := by
  refine returnsInHanded_of_change (C := Tryz.checked) own started (by kernel_rfl) Tryz.func6
    (ChangeSpec.witness6 (enc := enc) (C := Tryz.checked) false ⟨#[], #[.agg #[.int .i64 0, .int .i64 0, .slice none 0 0], .int .i64 0, .int .i64 0, .int .i64 0], []⟩ 8 (by kernel_rfl) (by kernel_rfl) (by kernel_rfl) (by kernel_rfl)) ?_
  intro W base args ds gs before hval0 hW hcnd _
  have hval : ∀ (j : Nat) t v, Tryz.f6.params[j]? = some t → args[j]? = some v → Value.okWide Tryz.prog W .any base t v := hval0
  have hW' := hW
  obtain ⟨p, q, hA0, hV, rfl, hfz, hnd⟩ := hW
  have hA : DataW.TrodAll enc Tryz.prog W 0 (fun _ => true) true Tryz.f6.params.toList args.toList ds p := hA0
  rw [Tryz.params6] at hA hval
  obtain ⟨v0, vs0, d0, ds0, p0, q0, hargs, rfl, rfl, h0, r0⟩ := trodAll_cons hA
  obtain ⟨v1, vs1, d1, ds1, p1, q1, rfl, rfl, rfl, h1, r1⟩ := trodAll_cons r0
  obtain ⟨v2, vs2, d2, ds2, p2, q2, rfl, rfl, rfl, h2, r2⟩ := trodAll_cons r1
  obtain ⟨v3, vs3, d3, ds3, p3, q3, rfl, rfl, rfl, h3, r3⟩ := trodAll_cons r2
  obtain ⟨rfl, rfl, rfl⟩ := trodAll_nil r3
  obtain rfl : args = #[v0, v1, v2, v3] := by cases args; simp_all
  obtain ⟨rfl, rfl⟩ := trodVars_none hV
  have k0 := h0
  have lt0 : ∀ x ∈ p0, x.block < W.heap.size := by obtain ⟨m, hm⟩ := k0; exact DataW.trod_lt m _ _ _ hm
  have k1 := h1
  have lt1 : ∀ x ∈ p1, x.block < W.heap.size := by obtain ⟨m, hm⟩ := k1; exact DataW.trod_lt m _ _ _ hm
  have k2 := h2
  have lt2 : ∀ x ∈ p2, x.block < W.heap.size := by obtain ⟨m, hm⟩ := k2; exact DataW.trod_lt m _ _ _ hm
  have k3 := h3
  have lt3 : ∀ x ∈ p3, x.block < W.heap.size := by obtain ⟨m, hm⟩ := k3; exact DataW.trod_lt m _ _ _ hm
  obtain ⟨pg0, a0, cap0, rfl, hx0, _⟩ := prog_of_trod (hval 0 24 v0 rfl rfl) h0
  obtain ⟨n1, rfl, hx1⟩ := int_of_trod (hval 1 3 v1 rfl rfl) h1
  obtain ⟨n2, rfl, hx2⟩ := int_of_trod (hval 2 3 v2 rfl rfl) h2
  obtain ⟨n3, rfl, hx3⟩ := int_of_trod (hval 3 3 v3 rfl rfl) h3
  clear hA0 hval0
  refine (walkFree_any pg0 a0 cap0 n1 n2 n3 W hx0).mono fun e W' ⟨he, bel⟩ => ?_
  subst he
  exact ⟨_, rfl, _, _, _, [], _, [], hW', trodAll_mk1 (shut_bool Tryz.underlying4 _), (trodAll_cons_mk (Below.trod laidOut (by kernel_rfl) (of_decide_eq_true (by kernel_rfl)) k0 bel lt0) (trodAll_cons_mk (Below.trod laidOut (by kernel_rfl) (of_decide_eq_true (by kernel_rfl)) k1 bel lt1) (trodAll_cons_mk (Below.trod laidOut (by kernel_rfl) (of_decide_eq_true (by kernel_rfl)) k2 bel lt2) (trodAll_cons_mk (Below.trod laidOut (by kernel_rfl) (of_decide_eq_true (by kernel_rfl)) k3 bel lt3) trodAll_mk0)))), rfl, bel.frame _, fun h => by cases h⟩

theorem over : Rows.walkFreeRow.holds Tryz.pinned (OpenSpec.ofChange Rows.walkFreeSpec) :=
  OpenClaim.holds_of_wide 6 Tryz.f6 rfl rfl rfl rfl rfl rfl rfl ⟨rfl, rfl, rfl, rfl, rfl⟩ rfl rfl rfl rfl rfl (by kernel_rfl) Tryz.func6 (by kernel_rfl)
    (of_decide_eq_true (by kernel_rfl)) (by unfold Func.isWrapper; first | (rw [if_pos (by decide +kernel)]; kernel_rfl) | (rw [if_neg (by decide +kernel)]; exact ⟨rfl, rfl⟩))
    (fun os started H enc _ => lifted os started H enc)

theorem proved : Rows.WalkFreeSaid := over
end Go.Proofs.YtljlaopjimkcmaaGreat.walkFree
