/- StateLocks: a mutex goes from nobody to who does an ELock of it, and from that one to nobody by its EUnlock; by nothing else. -/
import Derived.Test.YtgofbejohihljaaWake
import Derived.Test.YtgofbejohihljaaFew
import Derived.Test.YtgofbejohihljaaQuiet
import Derived.ChangeKeysEq
namespace Go.Proofs.Ytgofbejohihljaa
open Go.RowKit

theorem holder_0 {F : Nat} {s : St} {b : Nat} {w : World} (h : StAt w b s) (ok : s.Ok F) : Calls Try.prog 26 #[.pointer (some ⟨b, 0, none⟩), .int .i64 0] w fun r w' => r = .returned (.int .i64 (s.who 0)) ∧ w = w' := holder_any h ok 0
theorem holder_1 {F : Nat} {s : St} {b : Nat} {w : World} (h : StAt w b s) (ok : s.Ok F) : Calls Try.prog 26 #[.pointer (some ⟨b, 0, none⟩), .int .i64 1] w fun r w' => r = .returned (.int .i64 (s.who 1)) ∧ w = w' := holder_any h ok 1
theorem holderq_0 {F : Nat} {s : St} {b : Nat} {w : World} (h : StAt w b s) (ok : s.Ok F) (n : Nat) : Calls Try.prog 26 #[.pointer (some ⟨b, 0, none⟩), .int .i64 0] (w.drewN n) fun r w' => r = .returned (.int .i64 (s.who 0)) ∧ ∃ m, w' = w.drewN m := holder_quiet h ok 0 n
theorem holderq_1 {F : Nat} {s : St} {b : Nat} {w : World} (h : StAt w b s) (ok : s.Ok F) (n : Nat) : Calls Try.prog 26 #[.pointer (some ⟨b, 0, none⟩), .int .i64 1] (w.drewN n) fun r w' => r = .returned (.int .i64 (s.who 1)) ∧ ∃ m, w' = w.drewN m := holder_quiet h ok 1 n

theorem run_equal_two (a b c d : Int) (w : World) (ha : a = c) (hb : b = d) : (Op.equalIn 10000 49 (.agg #[.int .i64 a, .int .i64 b]) (.agg #[.int .i64 c, .int .i64 d])).run Try.prog w = .ok true w := by
  subst ha hb
  have hi : (Try.prog.info? 3).map (·.size) = some 1 := by kernel_rfl
  have hc : Try.prog.cellsOf 3 = 1 := by kernel_rfl
  obtain ⟨i, hi, _⟩ := Option.map_eq_some_iff.1 hi
  rw [run_equalIn_array (P := Try.prog) w 9999 _ _ Try.underlying49 hi, hc]
  have e0 : (part 3 #[Value.int .i64 a, .int .i64 b] 0).run Try.prog w = .ok (.int .i64 a) w := run_part_one w Try.underlying3 rfl rfl
  have e1 : (part 3 #[Value.int .i64 a, .int .i64 b] 1).run Try.prog w = .ok (.int .i64 b) w := run_part_one w Try.underlying3 rfl rfl
  have f0 := run_equalIn_int (P := Try.prog) w 9998 3 .i64 .i64 a a Try.underlying3
  have f1 := run_equalIn_int (P := Try.prog) w 9998 3 .i64 .i64 b b Try.underlying3
  simp only [show List.range 2 = [0, 1] from rfl, Op.eqItems, Sem.run_bind, Nat.zero_mul, Nat.one_mul, e0, f0, Result.andThen_ok]
  simp [e1, f1]

def Two (w : World) (b : Nat) (x y : Int) : Prop := w.heap[b]? = some (.cells #[.int .i64 x, .int .i64 y] 49 (0, 0))
theorem Two.lt {w : World} {b : Nat} {x y : Int} (h : Two w b x y) : b < w.heap.size := (Array.getElem?_eq_some_iff.1 h).1
theorem Two.cells {w : World} {b : Nat} {x y : Int} (h : Two w b x y) : w.cell? ⟨b, 0, none⟩ = some (.int .i64 x) ∧ w.cell? ⟨b, 1, none⟩ = some (.int .i64 y) ∧ ∀ o, w.frozen? ⟨b, o, none⟩ = false := by
  simp [World.cell?, World.frozen?, show w.heap[b]? = _ from h]
theorem Two.only {w w' : World} {b g : Nat} {x y : Int} (h : Two w b x y) (ho : Only g w w') (hb : b ≠ g) : Two w' b x y := (ho.block b h.lt hb).trans h
theorem Two.later {w w' : World} {b : Nat} {x y : Int} (h : Two w b x y) (hb : Below w.heap.size w w') : Two w' b x y := (hb.block b h.lt).trans h

set_option maxRecDepth 100000 in
set_option maxHeartbeats 4000000 in
theorem locks_any (p : Pg) (a : Option Addr) (cap : Nat) (fuel : Int) (ra : Option Addr) (rcap : Nat) (row : List Int) (w : World) (hp : ThreadsAt w a p.threads) (hrow : NumsAt w ra row) :
    Calls Try.prog 8 #[.agg #[.int .i64 p.vars, .int .i64 p.mutexes, .slice a p.threads.length cap], .int .i64 fuel, .slice ra row.length rcap] w fun r w' => r = .returned (.bool true) ∧ Below w.heap.size w w' := by
  have hrm := hrow.1
  unfold maxLen at hrm
  have HP := Lib.hid hp
  have HROW := Lib.hid hrow
  clear hp hrow
  go_enter Try.func8, Try.ntmps8
  go_wp2_with fail
  refine (awake_any _).mono ?_
  rintro r w1 ⟨rfl, hb1⟩
  have hc1 : ∀ o, w1.cell? ⟨w.heap.size, o, none⟩ = (w.alloc (.cells #[.int .i64 p.vars, .int .i64 p.mutexes, .slice a p.threads.length cap] 24)).cell? ⟨w.heap.size, o, none⟩ := fun o => hb1.cell (p := ⟨w.heap.size, o, none⟩) (by simp)
  have hw1 : Below w.heap.size w w1 := (below_alloc1 w _).trans (hb1.mono (by simp))
  have hz1 : w.heap.size < w1.heap.size := by have := hb1.size; simp at this; omega
  clear hb1
  go_wp2_with fail
  refine (few_any p a cap w1 (HP.out.later hw1)).mono ?_
  rintro r w2 ⟨rfl, hb2⟩
  have hc2 : ∀ o, w2.cell? ⟨w.heap.size, o, none⟩ = w1.cell? ⟨w.heap.size, o, none⟩ := fun o => hb2.cell (p := ⟨w.heap.size, o, none⟩) hz1
  have hw2 : Below w.heap.size w w2 := hw1.trans (hb2.mono hw1.size)
  have hz2 : w.heap.size < w2.heap.size := by have := hb2.size; omega
  clear hb2
  cases hf : fewPg p
  · clear hf hc1 hc2
    go_wp2_with fail
    refine (awake_any _).mono ?_
    rintro r w3 ⟨rfl, hb3⟩
    have hw3 : Below w.heap.size w w3 := hw2.trans (hb3.mono hw2.size)
    go_wp2
    go_ret
    exact ⟨rfl, hw3⟩
  clear hf
  by_cases hN : 200 < row.length
  · clear hc1 hc2
    go_wp2_with fail
    refine (awake_any _).mono ?_
    rintro r w3 ⟨rfl, hb3⟩
    have hw3 : Below w.heap.size w w3 := hw2.trans (hb3.mono hw2.size)
    go_wp2
    go_ret
    exact ⟨rfl, hw3⟩
  go_wp2_with fail
  refine (new_any p a cap fuel w2 (HP.out.later hw2)).mono ?_
  rintro r w3 hr
  unfold NewR at hr
  by_cases hgood : rightPg p = true ∧ 0 ≤ fuel ∧ fuel ≤ 8
  case neg =>
    rw [if_neg hgood] at hr
    obtain ⟨rfl, hb3⟩ := hr
    have hw3 : Below w.heap.size w w3 := hw2.trans (hb3.mono hw2.size)
    clear hb3 hgood hc1 hc2
    go_wp2
    go_ret
    exact ⟨rfl, hw3⟩
  rw [if_pos hgood] at hr
  obtain ⟨g, rfl, hg, hs, hb3⟩ := hr
  obtain ⟨hr1, hf0, hf8⟩ := hgood
  obtain ⟨F, rfl⟩ : ∃ F : Nat, fuel = F := ⟨fuel.toNat, by omega⟩
  simp only [Int.toNat_natCast] at hs
  have hw3 : Below w.heap.size w w3 := hw2.trans (hb3.mono hw2.size)
  have hgw : w.heap.size ≤ g := by omega
  have HS := Lib.hid hs
  have HOK := Lib.hid (new_ok hr1 F (by omega))
  have HR1 := Lib.hid hr1
  clear hs hb3 hc1 hc2 hr1 hg
  go_wp2_with fail
  go_loopw [38] (fun i wr => ∃ (k : Nat) (s : St), k ≤ row.length ∧ i = .int .i64 k ∧ StAt wr g s ∧ s.Ok F ∧ Below w.heap.size w wr) (fun i _ => row.length - (intOf i).toNat)
  case atStart => exact ⟨0, _, Nat.zero_le _, rfl, HS.out, HOK.out, hw3⟩
  case round =>
    clear hw3 HS HOK
    obtain ⟨k, s, hk, rfl, hs, ok, hb⟩ := hrel
    have HS := Lib.hid hs
    have OK := Lib.hid ok
    have hgr := hs.lt
    clear hs ok
    by_cases hlt : k < row.length
    · obtain ⟨rb, ro, rfl, hc⟩ := HROW.out.2 (by intro e; simp [e] at hlt)
      have d0 := cell_later hb (hc k hlt)
      clear hc
      generalize row[k] = t at *
      go_wp2_with fail
      refine (holder_0 HS.out OK.out).mono ?_
      rintro r w' ⟨rfl, rfl⟩
      go_wp2_with fail
      refine (holder_1 HS.out OK.out).mono ?_
      rintro r w' ⟨rfl, rfl⟩
      go_wp2_with fail
      have hA : Two (wr.alloc (.cells #[.int .i64 (s.who 0), .int .i64 (s.who 1)] 49)) wr.heap.size (s.who 0) (s.who 1) := heap_alloc_new wr _
      have HS0 := Lib.hid (HS.out.later (below_alloc1 wr (.cells #[.int .i64 (s.who 0), .int .i64 (s.who 1)] 49)))
      have hb0 : Below w.heap.size w (wr.alloc (.cells #[.int .i64 (s.who 0), .int .i64 (s.who 1)] 49)) := hb.alloc hb.size _
      have hwa : w.heap.size ≤ wr.heap.size := hb.size
      have hga : wr.heap.size ≠ g := by omega
      clear hb HS d0 hgr
      refine (step_any HS0.out OK.out t).mono ?_
      rintro r w5 ⟨rfl, hs5, ho5⟩
      have hok5 := OK.out.step_ok t
      have HLK := Lib.hid (OK.out.locks t)
      have HA5 := Lib.hid ((hA.only ho5 hga))
      have hb5 := hb0.trans (ho5.below hgw hb0.size)
      have hzA := (hA.only ho5 hga).lt
      unfold stepV evV
      generalize s.step t = st at *
      obtain ⟨e, x, s'⟩ := st
      dsimp only at *
      clear hA HS0 hb0 ho5
      generalize wr.heap.size = A at *
      obtain ⟨a0, a1, af⟩ := HA5.out.cells
      have HS5 := Lib.hid hs5
      have HOK5 := Lib.hid hok5
      clear hs5 hok5
      obtain ⟨xt, xk, xo, xf⟩ := x
      have hand0 : bits .and .i64 0 1 = 0 := by decide
      have hand1 : bits .and .i64 1 1 = 1 := by decide
      dsimp only at *
      rcases HLK.out with ⟨hne, hss⟩ | ⟨h0, ⟨hk4, ho0, ho2, hfree, hwho⟩ | ⟨hk5, ho0, ho2, hmine, hwho⟩ | ⟨hn4, hn5, hwho⟩⟩
      · clear HLK
        have q0 : (e == 0) = false := by simpa using hne
        have HSS := Lib.hid hss
        clear hne hss
        have heq := fun w => run_equal_two (s.who 0) (s.who 1) (s'.who 0) (s'.who 1) w (by rw [HSS.out]) (by rw [HSS.out])
        have HSq := Lib.hid ((HS5.out.later (below_alloc1 w5 (.cells #[.int .i64 xt, .int .i64 xk, .int .i64 xo, .bool xf] 35))).later (below_alloc1 _ (.cells #[.int .i64 (s.who 0), .int .i64 (s.who 1)] 49)))
        have hbq : Below w.heap.size w ((w5.alloc (.cells #[.int .i64 xt, .int .i64 xk, .int .i64 xo, .bool xf] 35)).alloc (.cells #[.int .i64 (s.who 0), .int .i64 (s.who 1)] 49)) := (hb5.alloc hb5.size _).alloc (by have := hb5.size; simp; omega) _
        clear hb5
        go_wp2
        go_quiet ((go_at_call 26; first | (with_reducible exact holderq_0 HSq.out HOK5.out _) | (with_reducible exact holderq_1 HSq.out HOK5.out _)))
        go_wp2
        go_roundw
        case rel => exact ⟨k + 1, s', by omega, by go_num, HSq.out, HOK5.out, hbq.drewN⟩
        case measure => simp [intOf]; omega
      · clear HLK
        subst h0
        subst hk4
        obtain rfl | rfl : xo = 0 ∨ xo = 1 := by omega
        · have HE : Hid (s'.who 0 = t ∧ s'.who 1 = s.who 1) := by
            refine ⟨?_, ?_⟩
            · rw [hwho 0 (by omega)]; simp
            · rw [hwho 1 (by omega)]; simp
          have q1 : (s.who 0 != -1) = false := by simp [hfree]
          clear hwho hfree ho0 ho2
          have heq := fun w => run_equal_two t (s.who 1) (s'.who 0) (s'.who 1) w (HE.out.1).symm (HE.out.2).symm
          have HSq := Lib.hid ((HS5.out.later (below_alloc1 w5 (.cells #[.int .i64 xt, .int .i64 4, .int .i64 0, .bool xf] 35))).later (below_alloc1 _ (.cells #[.int .i64 t, .int .i64 (s.who 1)] 49)))
          have hbq : Below w.heap.size w ((w5.alloc (.cells #[.int .i64 xt, .int .i64 4, .int .i64 0, .bool xf] 35)).alloc (.cells #[.int .i64 t, .int .i64 (s.who 1)] 49)) := (hb5.alloc hb5.size _).alloc (by have := hb5.size; simp; omega) _
          clear hb5
          go_wp2
          go_quiet ((go_at_call 26; first | (with_reducible exact holderq_0 HSq.out HOK5.out _) | (with_reducible exact holderq_1 HSq.out HOK5.out _)))
          go_wp2
          go_roundw
          case rel => exact ⟨k + 1, s', by omega, by go_num, HSq.out, HOK5.out, hbq.drewN⟩
          case measure => simp [intOf]; omega
        · have HE : Hid (s'.who 0 = s.who 0 ∧ s'.who 1 = t) := by
            refine ⟨?_, ?_⟩
            · rw [hwho 0 (by omega)]; simp
            · rw [hwho 1 (by omega)]; simp
          have q1 : (s.who 1 != -1) = false := by simp [hfree]
          clear hwho hfree ho0 ho2
          have heq := fun w => run_equal_two (s.who 0) t (s'.who 0) (s'.who 1) w (HE.out.1).symm (HE.out.2).symm
          have HSq := Lib.hid ((HS5.out.later (below_alloc1 w5 (.cells #[.int .i64 xt, .int .i64 4, .int .i64 1, .bool xf] 35))).later (below_alloc1 _ (.cells #[.int .i64 (s.who 0), .int .i64 t] 49)))
          have hbq : Below w.heap.size w ((w5.alloc (.cells #[.int .i64 xt, .int .i64 4, .int .i64 1, .bool xf] 35)).alloc (.cells #[.int .i64 (s.who 0), .int .i64 t] 49)) := (hb5.alloc hb5.size _).alloc (by have := hb5.size; simp; omega) _
          clear hb5
          go_wp2
          go_quiet ((go_at_call 26; first | (with_reducible exact holderq_0 HSq.out HOK5.out _) | (with_reducible exact holderq_1 HSq.out HOK5.out _)))
          go_wp2
          go_roundw
          case rel => exact ⟨k + 1, s', by omega, by go_num, HSq.out, HOK5.out, hbq.drewN⟩
          case measure => simp [intOf]; omega
      · clear HLK
        subst h0
        subst hk5
        obtain rfl | rfl : xo = 0 ∨ xo = 1 := by omega
        · have HE : Hid (s'.who 0 = (-1) ∧ s'.who 1 = s.who 1) := by
            refine ⟨?_, ?_⟩
            · rw [hwho 0 (by omega)]; simp
            · rw [hwho 1 (by omega)]; simp
          have q1 : (s.who 0 != t) = false := by simp [hmine]
          clear hwho hmine ho0 ho2
          have heq := fun w => run_equal_two (-1) (s.who 1) (s'.who 0) (s'.who 1) w (HE.out.1).symm (HE.out.2).symm
          have HSq := Lib.hid ((HS5.out.later (below_alloc1 w5 (.cells #[.int .i64 xt, .int .i64 5, .int .i64 0, .bool xf] 35))).later (below_alloc1 _ (.cells #[.int .i64 (-1), .int .i64 (s.who 1)] 49)))
          have hbq : Below w.heap.size w ((w5.alloc (.cells #[.int .i64 xt, .int .i64 5, .int .i64 0, .bool xf] 35)).alloc (.cells #[.int .i64 (-1), .int .i64 (s.who 1)] 49)) := (hb5.alloc hb5.size _).alloc (by have := hb5.size; simp; omega) _
          clear hb5
          go_wp2
          go_quiet ((go_at_call 26; first | (with_reducible exact holderq_0 HSq.out HOK5.out _) | (with_reducible exact holderq_1 HSq.out HOK5.out _)))
          go_wp2
          go_roundw
          case rel => exact ⟨k + 1, s', by omega, by go_num, HSq.out, HOK5.out, hbq.drewN⟩
          case measure => simp [intOf]; omega
        · have HE : Hid (s'.who 0 = s.who 0 ∧ s'.who 1 = (-1)) := by
            refine ⟨?_, ?_⟩
            · rw [hwho 0 (by omega)]; simp
            · rw [hwho 1 (by omega)]; simp
          have q1 : (s.who 1 != t) = false := by simp [hmine]
          clear hwho hmine ho0 ho2
          have heq := fun w => run_equal_two (s.who 0) (-1) (s'.who 0) (s'.who 1) w (HE.out.1).symm (HE.out.2).symm
          have HSq := Lib.hid ((HS5.out.later (below_alloc1 w5 (.cells #[.int .i64 xt, .int .i64 5, .int .i64 1, .bool xf] 35))).later (below_alloc1 _ (.cells #[.int .i64 (s.who 0), .int .i64 (-1)] 49)))
          have hbq : Below w.heap.size w ((w5.alloc (.cells #[.int .i64 xt, .int .i64 5, .int .i64 1, .bool xf] 35)).alloc (.cells #[.int .i64 (s.who 0), .int .i64 (-1)] 49)) := (hb5.alloc hb5.size _).alloc (by have := hb5.size; simp; omega) _
          clear hb5
          go_wp2
          go_quiet ((go_at_call 26; first | (with_reducible exact holderq_0 HSq.out HOK5.out _) | (with_reducible exact holderq_1 HSq.out HOK5.out _)))
          go_wp2
          go_roundw
          case rel => exact ⟨k + 1, s', by omega, by go_num, HSq.out, HOK5.out, hbq.drewN⟩
          case measure => simp [intOf]; omega
      · clear HLK
        subst h0
        have q4 : (xk == 4) = false := by simpa using hn4
        have q5 : (xk == 5) = false := by simpa using hn5
        have HSS := Lib.hid hwho
        clear hn4 hn5 hwho
        have heq := fun w => run_equal_two (s.who 0) (s.who 1) (s'.who 0) (s'.who 1) w (HSS.out 0).symm (HSS.out 1).symm
        have HSq := Lib.hid ((HS5.out.later (below_alloc1 w5 (.cells #[.int .i64 xt, .int .i64 xk, .int .i64 xo, .bool xf] 35))).later (below_alloc1 _ (.cells #[.int .i64 (s.who 0), .int .i64 (s.who 1)] 49)))
        have hbq : Below w.heap.size w ((w5.alloc (.cells #[.int .i64 xt, .int .i64 xk, .int .i64 xo, .bool xf] 35)).alloc (.cells #[.int .i64 (s.who 0), .int .i64 (s.who 1)] 49)) := (hb5.alloc hb5.size _).alloc (by have := hb5.size; simp; omega) _
        clear hb5
        go_wp2
        go_quiet ((go_at_call 26; first | (with_reducible exact holderq_0 HSq.out HOK5.out _) | (with_reducible exact holderq_1 HSq.out HOK5.out _)))
        go_wp2
        go_roundw
        case rel => exact ⟨k + 1, s', by omega, by go_num, HSq.out, HOK5.out, hbq.drewN⟩
        case measure => simp [intOf]; omega
    · obtain rfl : k = row.length := by omega
      go_wp2
      go_ret
      exact ⟨rfl, hb⟩

end Go.Proofs.Ytgofbejohihljaa
