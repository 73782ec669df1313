/- EventSwaps: two threads whose next events are independent, and who both may, come to the same in either order. -/
import Derived.Test.YtfhndbibabbnlaaWake3
import Derived.Test.YtfhndbibabbnlaaFew
import Derived.Test.YtfhndbibabbnlaaOpen
import Derived.Test.YtfhndbibabbnlaaNew
import Derived.Test.YtfhndbibabbnlaaStep
import Derived.Test.YtfhndbibabbnlaaCopyState
import Derived.Test.YtfhndbibabbnlaaStateAll
import Derived.Test.YtfhndbibabbnlaaSwapPlain
namespace Go.Proofs.Ytfhndbibabbnlaa
open Go.RowKit

theorem wrap_u (n : Int) : ∃ m : Int, IntKind.u64.wrap n = m ∧ 0 ≤ m := by
  refine ⟨_, rfl, ?_⟩
  unfold IntKind.wrap
  simp [IntKind.signed, IntKind.bits]
  omega
theorem wrap_u_small (n : Int) (h0 : 0 ≤ n) (h1 : n ≤ 1000000) : IntKind.u64.wrap n = n := by
  unfold IntKind.wrap
  simp [IntKind.signed, IntKind.bits]
  omega
theorem tmod_nat (m : Int) (h0 : 0 ≤ m) (n : Nat) (h1 : 1 ≤ n) : ∃ k : Nat, m.tmod (n : Int) = k ∧ k < n := by
  rw [Int.tmod_eq_emod_of_nonneg h0]
  have a := Int.emod_nonneg m (b := (n : Int)) (by omega)
  have b := Int.emod_lt_of_pos m (b := (n : Int)) (by omega)
  exact ⟨(m % (n : Int)).toNat, by omega, by omega⟩
theorem evR_eq (n : Option Ev) : evR n = .tuple #[.agg #[.int .i64 (n.getD ev0).thread, .int .i64 (n.getD ev0).kind, .int .i64 (n.getD ev0).obj, .bool (n.getD ev0).fail], .bool n.isSome] := rfl
theorem next_getD {s : St} {t : Int} {x : Ev} (hm : s.may t = true) (hx : (s.next t).getD ev0 = x) : s.next t = some x := by
  unfold St.may at hm
  unfold St.next at hx ⊢
  split at hm
  · cases hm
  · rename_i i hi
    rw [hi] at hx ⊢
    simpa using hx
theorem heap_new_st (w : World) (s : St) : StAt (w.alloc (.cells (numA (stNum s)) 77)) w.heap.size s := heap_alloc_new w _
theorem St.Ok.len1 {F : Nat} {s : St} (h : s.Ok F) : 1 ≤ s.ts.length := by
  have h1 := h.right
  have h2 := h.len
  unfold rightPg at h1
  rw [Bool.and_eq_true, decide_eq_true_eq] at h1
  omega

set_option maxRecDepth 100000 in
set_option maxHeartbeats 4000000 in
theorem swaps_any (p : Pg) (a : Option Addr) (cap : Nat) (fuel : Int) (ra : Option Addr) (row : List Int) (rcap : Nat) (ta tb : Int) (w : World) (hp : ThreadsAt w a p.threads) (hrow : NumsAt w ra row) (hta : in64 ta) (htb : in64 tb) :
    Calls Try.prog 5 #[.agg #[.int .i64 p.vars, .int .i64 p.mutexes, .slice a p.threads.length cap], .int .i64 fuel, .slice ra row.length rcap, .int .i64 ta, .int .i64 tb] w fun r w' => r = .returned (.bool true) ∧ Below w.heap.size w w' := by
  have hrm := hrow.1
  unfold maxLen at hrm
  have HP := Lib.hid hp
  have HROW := Lib.hid hrow
  clear hp hrow
  go_enter Try.func5, Try.ntmps5
  go_wp2_with fail
  refine (awake_any _).mono ?_
  rintro r w1 ⟨rfl, hb1⟩
  have hc1 : ∀ o, w1.cell? ⟨w.heap.size, o, none⟩ = (w.alloc (.cells #[.int .i64 p.vars, .int .i64 p.mutexes, .slice a p.threads.length cap] 41)).cell? ⟨w.heap.size, o, none⟩ := fun o => hb1.cell (p := ⟨w.heap.size, o, none⟩) (by simp)
  have hw1 : Below w.heap.size w w1 := (below_alloc1 w _).trans (hb1.mono (by simp))
  have hz1 : w.heap.size < w1.heap.size := by have := hb1.size; simp at this; omega
  clear hb1
  go_wp2_with fail
  refine (few_any p a cap w1 (HP.out.later hw1)).mono ?_
  rintro r w2 ⟨rfl, hb2⟩
  have hc2 : ∀ o, w2.cell? ⟨w.heap.size, o, none⟩ = w1.cell? ⟨w.heap.size, o, none⟩ := fun o => hb2.cell (p := ⟨w.heap.size, o, none⟩) hz1
  have hw2 : Below w.heap.size w w2 := hw1.trans (hb2.mono hw1.size)
  have hz2 : w.heap.size < w2.heap.size := by have := hb2.size; omega
  clear hb2
  cases hf : fewPg p
  · clear hf hc1 hc2
    go_wp2_with fail
    refine (awake_any _).mono ?_
    rintro r w3 ⟨rfl, hb3⟩
    have hw3 : Below w.heap.size w w3 := hw2.trans (hb3.mono hw2.size)
    go_wp2
    go_ret
    exact ⟨rfl, hw3⟩
  clear hf
  by_cases hN : 50 < row.length
  · clear hc1 hc2
    go_wp2_with fail
    refine (awake_any _).mono ?_
    rintro r w3 ⟨rfl, hb3⟩
    have hw3 : Below w.heap.size w w3 := hw2.trans (hb3.mono hw2.size)
    go_wp2
    go_ret
    exact ⟨rfl, hw3⟩
  go_wp2_with fail
  refine (new_any p a cap fuel w2 (HP.out.later hw2)).mono ?_
  rintro r w3 hr
  unfold NewR at hr
  by_cases hgood : rightPg p = true ∧ 0 ≤ fuel ∧ fuel ≤ 8
  case neg =>
    rw [if_neg hgood] at hr
    obtain ⟨rfl, hb3⟩ := hr
    have hw3 : Below w.heap.size w w3 := hw2.trans (hb3.mono hw2.size)
    clear hb3 hgood hc1 hc2
    go_wp2
    go_ret
    exact ⟨rfl, hw3⟩
  rw [if_pos hgood] at hr
  obtain ⟨g, rfl, hg, hs, hb3⟩ := hr
  obtain ⟨hr1, hf0, hf8⟩ := hgood
  obtain ⟨F, rfl⟩ : ∃ F : Nat, fuel = F := ⟨fuel.toNat, by omega⟩
  simp only [Int.toNat_natCast] at hs
  have hw3 : Below w.heap.size w w3 := hw2.trans (hb3.mono hw2.size)
  have hgw : w.heap.size ≤ g := by omega
  have HS := Lib.hid hs
  have HOK := Lib.hid (new_ok hr1 F (by omega))
  have HR1 := Lib.hid hr1
  clear hs hb3 hc1 hc2 hr1 hg
  have hta := Lib.hid hta
  have htb := Lib.hid htb
  go_wp2_with fail
  go_loopw [58] (fun i wr => ∃ (k : Nat) (s : St), k ≤ row.length ∧ i = .int .i64 k ∧ StAt wr g s ∧ s.Ok F ∧ Below w.heap.size w wr) (fun i _ => row.length - (intOf i).toNat)
  case atStart => exact ⟨0, _, Nat.zero_le _, rfl, HS.out, HOK.out, hw3⟩
  case round =>
    clear hw3 HS HOK
    obtain ⟨k, s, hk, rfl, hs, ok, hb⟩ := hrel
    have HS := Lib.hid hs
    have OK := Lib.hid ok
    have hgr := hs.lt
    have h4 := ok.len4
    clear hs ok
    by_cases hlt : k < row.length
    · obtain ⟨rb, ro, rfl, hc⟩ := HROW.out.2 (by intro e; simp [e] at hlt)
      have d0 := cell_later hb (hc k hlt)
      clear hc
      generalize row[k] = t at *
      go_wp2_with fail
      refine (step_any HS.out OK.out t).mono ?_
      rintro r w5 ⟨rfl, hs5, ho5⟩
      have hok5 := OK.out.step_ok t
      have hw5 := hb.trans (ho5.below hgw hb.size)
      unfold stepV evV
      clear hb ho5 HS OK d0
      go_wp2
      go_roundw
      case rel => exact ⟨k + 1, _, by omega, by go_num, hs5, hok5, hw5⟩
      case measure => simp [intOf]; omega
    · obtain rfl : k = row.length := by omega
      go_wp2_with (go_at_call 25; refine (threads_any HS.out).mono ?_; rintro r w' ⟨rfl, rfl⟩)
      have h1 : 1 ≤ s.ts.length := OK.out.len1
      obtain ⟨A0, e1, hA0⟩ := wrap_u ta
      obtain ⟨B0, e2, hB0⟩ := wrap_u tb
      have e3 : IntKind.u64.wrap (s.ts.length : Int) = s.ts.length := wrap_u_small _ (by omega) (by omega)
      obtain ⟨A, e4, hA1⟩ := tmod_nat A0 hA0 s.ts.length h1
      obtain ⟨B, e5, hB1⟩ := tmod_nat B0 hB0 s.ts.length h1
      have e6 : IntKind.i64.wrap (A : Int) = A := IntWalk.i64_in _ (by omega)
      have e7 : IntKind.i64.wrap (B : Int) = B := IntWalk.i64_in _ (by omega)
      have e8 : A0 % (s.ts.length : Int) = A := by rw [← e4, Int.tmod_eq_emod_of_nonneg hA0]
      have e9 : B0 % (s.ts.length : Int) = B := by rw [← e5, Int.tmod_eq_emod_of_nonneg hB0]
      have hz : ((s.ts.length : Int) == 0) = false := by rw [beq_eq_false_iff_ne]; omega
      go_region
      clear e1 e2 e3 e4 e5 e6 e7 e8 e9 hz hA0 hB0
      have HS0 := Lib.hid (HS.out.drew)
      have hw0 : Below w.heap.size w wr.drew := hb.drew
      clear HS hb
      obtain ⟨x, hx⟩ : ∃ x, (s.next A).getD ev0 = x := ⟨_, rfl⟩
      obtain ⟨y, hy⟩ : ∃ y, (s.next B).getD ev0 = y := ⟨_, rfl⟩
      go_wp2_with fail
      refine (next_any HS0.out OK.out A).mono ?_
      rw [evR_eq, hx]
      rintro r w5 ⟨rfl, hb⟩
      have hw5' := hw0.trans (hb.mono hw0.size)
      have hw5 : Below w.heap.size w (w5.alloc (.cells #[.int .i64 x.thread, .int .i64 x.kind, .int .i64 x.obj, .bool x.fail] 23)) := hw5'.alloc hw5'.size _
      have HS5 := Lib.hid ((HS0.out.later hb).later (below_alloc1 w5 (.cells #[.int .i64 x.thread, .int .i64 x.kind, .int .i64 x.obj, .bool x.fail] 23)))
      have HX5 := Lib.hid (EvBox.new w5 x)
      clear hb hw5' HS0 hw0
      have hzx : w5.heap.size < (w5.alloc (.cells #[.int .i64 x.thread, .int .i64 x.kind, .int .i64 x.obj, .bool x.fail] 23)).heap.size := by simp
      go_wp2_with fail
      generalize w5.alloc (.cells #[.int .i64 x.thread, .int .i64 x.kind, .int .i64 x.obj, .bool x.fail] 23) = W5 at *
      generalize w5.heap.size = X at *
      refine (next_any HS5.out OK.out B).mono ?_
      rw [evR_eq, hy]
      rintro r w6 ⟨rfl, hb⟩
      have hw6' := hw5.trans (hb.mono hw5.size)
      have hw6 : Below w.heap.size w (w6.alloc (.cells #[.int .i64 y.thread, .int .i64 y.kind, .int .i64 y.obj, .bool y.fail] 23)) := hw6'.alloc hw6'.size _
      have HS6 := Lib.hid ((HS5.out.later hb).later (below_alloc1 w6 (.cells #[.int .i64 y.thread, .int .i64 y.kind, .int .i64 y.obj, .bool y.fail] 23)))
      have HX6 := Lib.hid ((HX5.out.later hb).later (below_alloc1 w6 (.cells #[.int .i64 y.thread, .int .i64 y.kind, .int .i64 y.obj, .bool y.fail] 23)))
      have HY6 := Lib.hid (EvBox.new w6 y)
      clear hb hw6' HS5 HX5 hw5 hzx
      by_cases hab : A = B
      · have q : ((A : Int) == B) = true := by simp [hab]
        clear hab hx hy
        go_wp2
        go_ret
        exact ⟨rfl, hw6⟩
      have q : ((A : Int) == B) = false := by rw [beq_eq_false_iff_ne]; omega
      have HAB : Hid ((A : Int) ≠ B) := by show _ ≠ _; omega
      have HNX := Lib.hid hx
      have HNY := Lib.hid hy
      clear hab hx hy
      go_wp2_with fail
      generalize w6.alloc (.cells #[.int .i64 y.thread, .int .i64 y.kind, .int .i64 y.obj, .bool y.fail] 23) = W6 at *
      generalize w6.heap.size = Y at *
      refine (enabled_any HS6.out OK.out A).mono ?_
      obtain ⟨MA, hma⟩ : ∃ M, s.may A = M := ⟨_, rfl⟩
      rw [hma]
      rintro r w7 ⟨rfl, hb⟩
      have hw7 := hw6.trans (hb.mono hw6.size)
      have HS7 := Lib.hid (HS6.out.later hb)
      have HX7 := Lib.hid (HX6.out.later hb)
      have HY7 := Lib.hid (HY6.out.later hb)
      clear hb HS6 HX6 HY6 hw6
      cases MA
      · clear hma
        go_wp2
        go_ret
        exact ⟨rfl, hw7⟩
      have HMA := Lib.hid hma
      clear hma
      go_wp2_with fail
      refine (enabled_any HS7.out OK.out B).mono ?_
      obtain ⟨MB, hmb⟩ : ∃ M, s.may B = M := ⟨_, rfl⟩
      rw [hmb]
      rintro r w8 ⟨rfl, hb⟩
      have hw8 := hw7.trans (hb.mono hw7.size)
      have HS8 := Lib.hid (HS7.out.later hb)
      have HX8 := Lib.hid (HX7.out.later hb)
      have HY8 := Lib.hid (HY7.out.later hb)
      clear hb HS7 HX7 HY7 hw7
      cases MB
      · clear hmb
        go_wp2
        go_ret
        exact ⟨rfl, hw8⟩
      have HMB := Lib.hid hmb
      clear hmb
      obtain ⟨x0, x1, x2, x3⟩ := HX8.out.cells
      obtain ⟨y0, y1, y2, y3⟩ := HY8.out.cells
      go_wp2_with fail
      refine (depends_any x y _).mono ?_
      obtain ⟨MD, hmd⟩ : ∃ M, dep x y = M := ⟨_, rfl⟩
      rw [hmd]
      rintro r w9 ⟨rfl, hb⟩
      have hw9 := hw8.trans (hb.mono hw8.size)
      have HS9 := Lib.hid (HS8.out.later hb)
      clear hb HS8 HX8 HY8 hw8 x0 x1 x2 x3 y0 y1 y2 y3
      cases MD
      case true =>
        clear hmd
        go_wp2
        go_ret
        exact ⟨rfl, hw9⟩
      obtain ⟨c, d, z, s1, s2, s3, s4, okc, okd, okz⟩ := OK.out.swap (next_getD HMA.out HNX.out) (next_getD HMB.out HNY.out) HMA.out HMB.out HAB.out hmd
      have HT1 := Lib.hid s1
      have HT2 := Lib.hid s2
      have HT3 := Lib.hid s3
      have HT4 := Lib.hid s4
      have OKC := Lib.hid okc
      have OKD := Lib.hid okd
      have OKZ := Lib.hid okz
      clear s1 s2 s3 s4 okc okd okz hmd HMA HMB HNX HNY HAB
      go_wp2_with fail
      refine (copy_state HS9.out).mono ?_
      rintro r w' ⟨rfl, rfl⟩
      have HC := Lib.hid (heap_new_st w9 s)
      have HS10 := Lib.hid (HS9.out.later (below_alloc1 w9 (.cells (numA (stNum s)) 77)))
      have hw10 : Below w.heap.size w (w9.alloc (.cells (numA (stNum s)) 77)) := hw9.alloc hw9.size _
      have hC : w.heap.size ≤ w9.heap.size := hw9.size
      clear HS9 hw9
      go_wp2_with fail
      generalize w9.alloc (.cells (numA (stNum s)) 77) = W10 at *
      generalize w9.heap.size = C at *
      refine (copy_state HS10.out).mono ?_
      rintro r w' ⟨rfl, rfl⟩
      have HD1 := Lib.hid (heap_new_st W10 s)
      have HC1 := Lib.hid (HC.out.later (below_alloc1 W10 (.cells (numA (stNum s)) 77)))
      have hw11 : Below w.heap.size w (W10.alloc (.cells (numA (stNum s)) 77)) := hw10.alloc hw10.size _
      have hD : w.heap.size ≤ W10.heap.size := hw10.size
      have hCD : C ≠ W10.heap.size := by have := HC.out.lt; omega
      clear HS10 HC hw10
      go_wp2_with fail
      generalize W10.alloc (.cells (numA (stNum s)) 77) = W11 at *
      generalize W10.heap.size = D at *
      refine (step_any HC1.out OK.out A).mono ?_
      rw [HT1.out]
      rintro r w12 ⟨rfl, hs, ho⟩
      dsimp only at hs
      have hw12' := hw11.trans (ho.below hC hw11.size)
      have hw12 : Below w.heap.size w (w12.alloc (.cells #[.int .i64 x.thread, .int .i64 x.kind, .int .i64 x.obj, .bool x.fail] 23)) := hw12'.alloc hw12'.size _
      have HC2 := Lib.hid (hs.later (below_alloc1 w12 (.cells #[.int .i64 x.thread, .int .i64 x.kind, .int .i64 x.obj, .bool x.fail] 23)))
      have HD2 := Lib.hid ((ho.stAt HD1.out (Ne.symm hCD)).later (below_alloc1 w12 (.cells #[.int .i64 x.thread, .int .i64 x.kind, .int .i64 x.obj, .bool x.fail] 23)))
      have HE1 := Lib.hid (EvBox.new w12 x)
      have hE1 : w12.heap.size ≠ C ∧ w12.heap.size ≠ D := by have := hs.lt; have := (ho.stAt HD1.out (Ne.symm hCD)).lt; omega
      clear hs ho hw12' hw11 HC1 HD1
      unfold stepV evV
      dsimp only
      go_wp2_with fail
      generalize w12.alloc (.cells #[.int .i64 x.thread, .int .i64 x.kind, .int .i64 x.obj, .bool x.fail] 23) = W12 at *
      generalize w12.heap.size = E1 at *
      refine (step_any HC2.out OKC.out B).mono ?_
      rw [HT2.out]
      rintro r w13 ⟨rfl, hs, ho⟩
      dsimp only at hs
      have hw13' := hw12.trans (ho.below hC hw12.size)
      have hw13 : Below w.heap.size w (w13.alloc (.cells #[.int .i64 y.thread, .int .i64 y.kind, .int .i64 y.obj, .bool y.fail] 23)) := hw13'.alloc hw13'.size _
      have HC13 := Lib.hid (hs.later (below_alloc1 w13 (.cells #[.int .i64 y.thread, .int .i64 y.kind, .int .i64 y.obj, .bool y.fail] 23)))
      have ho2 := ho.stAt HD2.out (Ne.symm hCD)
      have HD13 := Lib.hid (ho2.later (below_alloc1 w13 (.cells #[.int .i64 y.thread, .int .i64 y.kind, .int .i64 y.obj, .bool y.fail] 23)))
      have HE1_13 := Lib.hid ((EvBox.only HE1.out ho hE1.1).later (below_alloc1 w13 (.cells #[.int .i64 y.thread, .int .i64 y.kind, .int .i64 y.obj, .bool y.fail] 23)))
      have HE2 := Lib.hid (EvBox.new w13 y)
      have hE2 : w13.heap.size ≠ C ∧ w13.heap.size ≠ D := by have := hs.lt; have := ho2.lt; omega
      clear hs ho ho2 hw13' hw12 HC2 HD2 HE1
      unfold stepV evV
      dsimp only
      go_wp2_with fail
      generalize w13.alloc (.cells #[.int .i64 y.thread, .int .i64 y.kind, .int .i64 y.obj, .bool y.fail] 23) = W13 at *
      generalize w13.heap.size = E2 at *
      refine (step_any HD13.out OK.out B).mono ?_
      rw [HT3.out]
      rintro r w14 ⟨rfl, hs, ho⟩
      dsimp only at hs
      have hw14' := hw13.trans (ho.below hD hw13.size)
      have hw14 : Below w.heap.size w (w14.alloc (.cells #[.int .i64 y.thread, .int .i64 y.kind, .int .i64 y.obj, .bool y.fail] 23)) := hw14'.alloc hw14'.size _
      have HD14 := Lib.hid (hs.later (below_alloc1 w14 (.cells #[.int .i64 y.thread, .int .i64 y.kind, .int .i64 y.obj, .bool y.fail] 23)))
      have ho2 := ho.stAt HC13.out hCD
      have HC14 := Lib.hid (ho2.later (below_alloc1 w14 (.cells #[.int .i64 y.thread, .int .i64 y.kind, .int .i64 y.obj, .bool y.fail] 23)))
      have HE1_13_14 := Lib.hid ((EvBox.only HE1_13.out ho hE1.2).later (below_alloc1 w14 (.cells #[.int .i64 y.thread, .int .i64 y.kind, .int .i64 y.obj, .bool y.fail] 23)))
      have HE2_14 := Lib.hid ((EvBox.only HE2.out ho hE2.2).later (below_alloc1 w14 (.cells #[.int .i64 y.thread, .int .i64 y.kind, .int .i64 y.obj, .bool y.fail] 23)))
      have HE3 := Lib.hid (EvBox.new w14 y)
      have hE3 : w14.heap.size ≠ C ∧ w14.heap.size ≠ D := by have := hs.lt; have := ho2.lt; omega
      clear hs ho ho2 hw14' hw13 HC13 HD13 HE1_13 HE2
      unfold stepV evV
      dsimp only
      go_wp2_with fail
      generalize w14.alloc (.cells #[.int .i64 y.thread, .int .i64 y.kind, .int .i64 y.obj, .bool y.fail] 23) = W14 at *
      generalize w14.heap.size = E3 at *
      refine (step_any HD14.out OKD.out A).mono ?_
      rw [HT4.out]
      rintro r w15 ⟨rfl, hs, ho⟩
      dsimp only at hs
      have hw15 := hw14.trans (ho.below hD hw14.size)
      have HD15 := Lib.hid hs
      have HC15 := Lib.hid (ho.stAt HC14.out hCD)
      have HX1 := Lib.hid (EvBox.only HE1_13_14.out ho hE1.2)
      have HX2 := Lib.hid (EvBox.only HE2_14.out ho hE2.2)
      have HX3 := Lib.hid (EvBox.only HE3.out ho hE3.2)
      clear hs ho hw14 HC14 HD14 HE1_13_14 HE2_14 HE3
      unfold stepV evV
      dsimp only
      obtain ⟨c0, c1, c2, c3⟩ := HX1.out.cells
      obtain ⟨e0, e1, e2, e3⟩ := HX2.out.cells
      obtain ⟨f0, f1, f2, f3⟩ := HX3.out.cells
      have l1 := HX1.out.lt
      have l2 := HX2.out.lt
      have l3 := HX3.out.lt
      have heq1 := run_equal_ev x x
      have hdt : decide (x = x) = true := by simp
      rw [hdt] at heq1
      clear hdt
      have heq2 := run_equal_ev y y
      have hdt : decide (y = y) = true := by simp
      rw [hdt] at heq2
      clear hdt
      clear HT1 HT2 HT3 HT4 OKC OKD hE1 hE2 hE3 HX1 HX2 HX3
      have hal : z.all.length ≤ 4 := by
        have := OKZ.out.len4
        unfold St.all
        exact Nat.le_trans (List.length_filter_le _ _) (by simp; omega)
      go_wp2_with fail
      clear c0 c1 c2 c3 e0 e1 e2 e3 f0 f1 f2 f3 heq1 heq2 l1 l2 l3
      have HC16' := Lib.hid (HC15.out.later (below_alloc1 w15 (.cells #[.int .i64 x.thread, .int .i64 x.kind, .int .i64 x.obj, .bool x.fail] 23)))
      have HD16' := Lib.hid (HD15.out.later (below_alloc1 w15 (.cells #[.int .i64 x.thread, .int .i64 x.kind, .int .i64 x.obj, .bool x.fail] 23)))
      have hw16' : Below w.heap.size w (w15.alloc (.cells #[.int .i64 x.thread, .int .i64 x.kind, .int .i64 x.obj, .bool x.fail] 23)) := hw15.alloc hw15.size _
      clear HC15 HD15 hw15
      generalize w15.alloc (.cells #[.int .i64 x.thread, .int .i64 x.kind, .int .i64 x.obj, .bool x.fail] 23) = W15 at *
      refine (all_any HC16'.out OKZ.out).mono ?_
      rintro r w16 ⟨v1, rfl, hn1, hb⟩
      obtain ⟨a1, cap1, rfl, hN1, _⟩ := hn1.form (by omega)
      have HN1 := Lib.hid hN1
      have hw16 := hw16'.trans (hb.mono hw16'.size)
      have HC16 := Lib.hid (HC16'.out.later hb)
      have HD16 := Lib.hid (HD16'.out.later hb)
      clear hb hn1 hN1 HC16' HD16' hw16'
      go_wp2_with fail
      refine (all_any HD16.out OKZ.out).mono ?_
      rintro r w17 ⟨v2, rfl, hn2, hb⟩
      obtain ⟨a2, cap2, rfl, hN2, _⟩ := hn2.form (by omega)
      have HN2 := Lib.hid hN2
      have HN1b := Lib.hid (HN1.out.later hb)
      have hw17 := hw16.trans (hb.mono hw16.size)
      have HC17 := Lib.hid (HC16.out.later hb)
      have HD17 := Lib.hid (HD16.out.later hb)
      clear hb hn2 hN2 HC16 HD16 hw16 HN1
      go_wp2_with fail
      refine (sameInts_any a1 a2 cap1 cap2 z.all z.all _ HN1b.out HN2.out).mono ?_
      rw [show decide (z.all = z.all) = true by simp]
      rintro r w18 ⟨rfl, hb⟩
      have hw18 := hw17.trans (hb.mono hw17.size)
      have HC18 := Lib.hid (HC17.out.later hb)
      have HD18 := Lib.hid (HD17.out.later hb)
      clear hb HC17 HD17 hw17 HN1b HN2 hal
      go_wp2_with fail
      go_loopw [172] (fun i wr => ∃ k : Nat, k ≤ 4 ∧ i = .int .i64 k ∧ StAt wr C z ∧ StAt wr D z ∧ Below w.heap.size w wr) (fun i _ => 4 - (intOf i).toNat)
      case atStart => exact ⟨0, by omega, rfl, HC18.out, HD18.out, hw18⟩
      case round =>
        clear HC18 HD18 hw18
        obtain ⟨k, hk, rfl, hc, hd, hw0⟩ := hrel
        by_cases hlt : k < 4
        · have HC0 := Lib.hid hc
          have HD0 := Lib.hid hd
          clear hc hd
          obtain ⟨u, hu⟩ : ∃ u, (z.next k).getD ev0 = u := ⟨_, rfl⟩
          obtain ⟨o, ho⟩ : ∃ o, (z.next k).isSome = o := ⟨_, rfl⟩
          obtain ⟨V, hv⟩ : ∃ V, z.var k = V := ⟨_, rfl⟩
          obtain ⟨M, hm⟩ : ∃ M, z.who k = M := ⟨_, rfl⟩
          have HU := Lib.hid hu
          have HO := Lib.hid ho
          have HV := Lib.hid hv
          have HM := Lib.hid hm
          clear hu ho hv hm
          go_wp2_with fail
          refine (next_any HC0.out OKZ.out k).mono ?_
          rw [evR_eq, HU.out, HO.out]
          rintro r w20 ⟨rfl, hb⟩
          have hw20' := hw0.trans (hb.mono hw0.size)
          have hw20 : Below w.heap.size w (w20.alloc (.cells #[.int .i64 u.thread, .int .i64 u.kind, .int .i64 u.obj, .bool u.fail] 23)) := hw20'.alloc hw20'.size _
          have HC20 := Lib.hid ((HC0.out.later hb).later (below_alloc1 w20 (.cells #[.int .i64 u.thread, .int .i64 u.kind, .int .i64 u.obj, .bool u.fail] 23)))
          have HD20 := Lib.hid ((HD0.out.later hb).later (below_alloc1 w20 (.cells #[.int .i64 u.thread, .int .i64 u.kind, .int .i64 u.obj, .bool u.fail] 23)))
          have HX20 := Lib.hid (EvBox.new w20 u)
          clear hb hw20' HC0 HD0 hw0
          go_wp2_with fail
          generalize w20.alloc (.cells #[.int .i64 u.thread, .int .i64 u.kind, .int .i64 u.obj, .bool u.fail] 23) = W20 at *
          generalize w20.heap.size = X20 at *
          refine (next_any HD20.out OKZ.out k).mono ?_
          rw [evR_eq, HU.out, HO.out]
          rintro r w21 ⟨rfl, hb⟩
          have hw21' := hw20.trans (hb.mono hw20.size)
          have hw21 : Below w.heap.size w (w21.alloc (.cells #[.int .i64 u.thread, .int .i64 u.kind, .int .i64 u.obj, .bool u.fail] 23)) := hw21'.alloc hw21'.size _
          have HC21 := Lib.hid ((HC20.out.later hb).later (below_alloc1 w21 (.cells #[.int .i64 u.thread, .int .i64 u.kind, .int .i64 u.obj, .bool u.fail] 23)))
          have HD21 := Lib.hid ((HD20.out.later hb).later (below_alloc1 w21 (.cells #[.int .i64 u.thread, .int .i64 u.kind, .int .i64 u.obj, .bool u.fail] 23)))
          have HX21 := Lib.hid ((HX20.out.later hb).later (below_alloc1 w21 (.cells #[.int .i64 u.thread, .int .i64 u.kind, .int .i64 u.obj, .bool u.fail] 23)))
          have HY21 := Lib.hid (EvBox.new w21 u)
          clear hb hw21' HC20 HD20 HX20 hw20
          go_wp2_with fail
          generalize w21.alloc (.cells #[.int .i64 u.thread, .int .i64 u.kind, .int .i64 u.obj, .bool u.fail] 23) = W21 at *
          generalize w21.heap.size = X21 at *
          obtain ⟨c0, c1, c2, c3⟩ := HX21.out.cells
          obtain ⟨d0, d1, d2, d3⟩ := HY21.out.cells
          have heq := run_equal_ev u u
          have hdt : decide (u = u) = true := by simp
          rw [hdt] at heq
          have hoo : (o != o) = false := by simp
          have hvv : (V != V) = false := by simp
          have hmm : (M != M) = false := by simp
          clear hdt HX21 HY21
          refine (var_any HC21.out k hlt).mono ?_
          rw [HV.out]
          rintro r w' ⟨rfl, rfl⟩
          go_wp2_with fail
          refine (var_any HD21.out k hlt).mono ?_
          rw [HV.out]
          rintro r w' ⟨rfl, rfl⟩
          go_wp2_with fail
          refine (holder_any HC21.out OKZ.out k).mono ?_
          rw [HM.out]
          rintro r w' ⟨rfl, rfl⟩
          go_wp2_with fail
          refine (holder_any HD21.out OKZ.out k).mono ?_
          rw [HM.out]
          rintro r w' ⟨rfl, rfl⟩
          go_wp2
          go_roundw
          case rel => exact ⟨k + 1, by omega, by go_num, HC21.out, HD21.out, hw21⟩
          case measure => simp [intOf]; omega
        · obtain rfl : k = 4 := by omega
          go_wp2
          go_ret
          exact ⟨rfl, hw0⟩

end Go.Proofs.Ytfhndbibabbnlaa
