/- StateWrites: a variable changes by an EWrite of it alone. -/
import Derived.Test.YtgofbejohihljaaWake
import Derived.Test.YtgofbejohihljaaQuiet
import Derived.Test.YtgofbejohihljaaFew
namespace Go.Proofs.Ytgofbejohihljaa
open Go.RowKit

/-- Four numbers. -/
def arr4 (f : Nat → Int) : Array Value := #[.int .i64 (f 0), .int .i64 (f 1), .int .i64 (f 2), .int .i64 (f 3)]
theorem arr4_get (f : Nat → Int) (j : Nat) (h : j < 4) : (arr4 f)[j]? = some (.int .i64 (f j)) := by
  obtain rfl | rfl | rfl | rfl : j = 0 ∨ j = 1 ∨ j = 2 ∨ j = 3 := by omega
  all_goals rfl
theorem arr4_set (f : Nat → Int) (j : Nat) (n : Int) (h : j < 4) : (arr4 f).setIfInBounds j (.int .i64 n) = arr4 fun i => if i = j then n else f i := by
  obtain rfl | rfl | rfl | rfl : j = 0 ∨ j = 1 ∨ j = 2 ∨ j = 3 := by omega
  all_goals rfl
def Arr4At (w : World) (b : Nat) (f : Nat → Int) : Prop := w.heap[b]? = some (.cells (arr4 f) 48 (0, 0))
theorem Arr4At.lt {w : World} {b : Nat} {f : Nat → Int} (h : Arr4At w b f) : b < w.heap.size := (Array.getElem?_eq_some_iff.1 h).1
theorem Arr4At.cell {w : World} {b : Nat} {f : Nat → Int} (h : Arr4At w b f) (j : Nat) (hj : j < 4) : w.cell? ⟨b, j, none⟩ = some (.int .i64 (f j)) := by
  rw [cell_of_row w b j _ _ _ h, arr4_get _ _ hj]
theorem Arr4At.frozen {w : World} {b : Nat} {f : Nat → Int} (h : Arr4At w b f) (o : Nat) : w.frozen? ⟨b, o, none⟩ = false := by
  simp [World.frozen?, show w.heap[b]? = _ from h]
theorem Arr4At.set {w : World} {b : Nat} {f : Nat → Int} (h : Arr4At w b f) (j : Nat) (hj : j < 4) (n : Int) : Arr4At (w.setCell ⟨b, j, none⟩ (.int .i64 n)) b fun i => if i = j then n else f i := by
  have := heap_setCell_same w b j _ _ (.int .i64 n) h
  rw [arr4_set f j n hj] at this
  exact this
theorem Arr4At.only {w w' : World} {b g : Nat} {f : Nat → Int} (h : Arr4At w b f) (ho : Only g w w') (hb : b ≠ g) : Arr4At w' b f := (ho.block b h.lt hb).trans h
theorem Arr4At.later {w w' : World} {b : Nat} {f : Nat → Int} (h : Arr4At w b f) (hb : Below w.heap.size w w') : Arr4At w' b f := (hb.block b h.lt).trans h

set_option maxRecDepth 100000 in
set_option maxHeartbeats 4000000 in
theorem writes_any (p : Pg) (a : Option Addr) (cap : Nat) (fuel : Int) (ra : Option Addr) (rcap : Nat) (row : List Int) (w : World) (hp : ThreadsAt w a p.threads) (hrow : NumsAt w ra row) :
    Calls Try.prog 9 #[.agg #[.int .i64 p.vars, .int .i64 p.mutexes, .slice a p.threads.length cap], .int .i64 fuel, .slice ra row.length rcap] w fun r w' => r = .returned (.bool true) ∧ Below w.heap.size w w' := by
  have hrm := hrow.1
  unfold maxLen at hrm
  have HP := Lib.hid hp
  have HROW := Lib.hid hrow
  clear hp hrow
  go_enter Try.func9, Try.ntmps9
  go_wp2_with fail
  refine (awake_any _).mono ?_
  rintro r w1 ⟨rfl, hb1⟩
  have hc1 : ∀ o, w1.cell? ⟨w.heap.size, o, none⟩ = (w.alloc (.cells #[.int .i64 p.vars, .int .i64 p.mutexes, .slice a p.threads.length cap] 24)).cell? ⟨w.heap.size, o, none⟩ := fun o => hb1.cell (p := ⟨w.heap.size, o, none⟩) (by simp)
  have hw1 : Below w.heap.size w w1 := (below_alloc1 w _).trans (hb1.mono (by simp))
  have hz1 : w.heap.size < w1.heap.size := by have := hb1.size; simp at this; omega
  clear hb1
  go_wp2_with fail
  refine (few_any p a cap w1 (HP.out.later hw1)).mono ?_
  rintro r w2 ⟨rfl, hb2⟩
  have hc2 : ∀ o, w2.cell? ⟨w.heap.size, o, none⟩ = w1.cell? ⟨w.heap.size, o, none⟩ := fun o => hb2.cell (p := ⟨w.heap.size, o, none⟩) hz1
  have hw2 : Below w.heap.size w w2 := hw1.trans (hb2.mono hw1.size)
  have hz2 : w.heap.size < w2.heap.size := by have := hb2.size; omega
  clear hb2
  cases hf : fewPg p
  · clear hf hc1 hc2
    go_wp2_with fail
    refine (awake_any _).mono ?_
    rintro r w3 ⟨rfl, hb3⟩
    have hw3 : Below w.heap.size w w3 := hw2.trans (hb3.mono hw2.size)
    go_wp2
    go_ret
    exact ⟨rfl, hw3⟩
  clear hf
  by_cases hN : 200 < row.length
  · clear hc1 hc2
    go_wp2_with fail
    refine (awake_any _).mono ?_
    rintro r w3 ⟨rfl, hb3⟩
    have hw3 : Below w.heap.size w w3 := hw2.trans (hb3.mono hw2.size)
    go_wp2
    go_ret
    exact ⟨rfl, hw3⟩
  go_wp2_with fail
  refine (new_any p a cap fuel w2 (HP.out.later hw2)).mono ?_
  rintro r w3 hr
  unfold NewR at hr
  by_cases hgood : rightPg p = true ∧ 0 ≤ fuel ∧ fuel ≤ 8
  case neg =>
    rw [if_neg hgood] at hr
    obtain ⟨rfl, hb3⟩ := hr
    have hw3 : Below w.heap.size w w3 := hw2.trans (hb3.mono hw2.size)
    clear hb3 hgood hc1 hc2
    go_wp2
    go_ret
    exact ⟨rfl, hw3⟩
  rw [if_pos hgood] at hr
  obtain ⟨g, rfl, hg, hs, hb3⟩ := hr
  obtain ⟨hr1, hf0, hf8⟩ := hgood
  obtain ⟨F, rfl⟩ : ∃ F : Nat, fuel = F := ⟨fuel.toNat, by omega⟩
  simp only [Int.toNat_natCast] at hs
  have hw3 : Below w.heap.size w w3 := hw2.trans (hb3.mono hw2.size)
  have hgw : w.heap.size ≤ g := by omega
  have HS := Lib.hid hs
  have HOK := Lib.hid (new_ok hr1 F (by omega))
  have HR1 := Lib.hid hr1
  clear hs hb3 hc1 hc2 hr1 hg
  go_wp2_with fail
  go_loopw [39] (fun i wr => ∃ (k : Nat) (s : St), k ≤ row.length ∧ i = .int .i64 k ∧ StAt wr g s ∧ s.Ok F ∧ Below w.heap.size w wr) (fun i _ => row.length - (intOf i).toNat)
  case atStart => exact ⟨0, _, Nat.zero_le _, rfl, HS.out, HOK.out, hw3⟩
  case round =>
    clear hw3 HS HOK
    obtain ⟨k, s, hk, rfl, hs, ok, hb⟩ := hrel
    have HS := Lib.hid hs
    have OK := Lib.hid ok
    have hgr := hs.lt
    clear hs ok
    by_cases hlt : k < row.length
    · obtain ⟨rb, ro, rfl, hc⟩ := HROW.out.2 (by intro e; simp [e] at hlt)
      have d0 := cell_later hb (hc k hlt)
      clear hc
      generalize row[k] = t at *
      go_wp2_with fail
      have hA : Arr4At (wr.alloc (.cells #[.int .i64 0, .int .i64 0, .int .i64 0, .int .i64 0] 48)) wr.heap.size (fun _ => 0) := heap_alloc_new wr _
      have HS0 := Lib.hid (HS.out.later (below_alloc1 wr (.cells #[.int .i64 0, .int .i64 0, .int .i64 0, .int .i64 0] 48)))
      have hb0 : Below w.heap.size w (wr.alloc (.cells #[.int .i64 0, .int .i64 0, .int .i64 0, .int .i64 0] 48)) := hb.alloc hb.size _
      have hwa : w.heap.size ≤ wr.heap.size := hb.size
      have hga : wr.heap.size ≠ g := by omega
      clear hb HS d0 hgr
      generalize wr.alloc (.cells #[.int .i64 0, .int .i64 0, .int .i64 0, .int .i64 0] 48) = W0 at *
      generalize wr.heap.size = A at *
      go_loopw [43] (fun i wq => ∃ (j : Nat) (f : Nat → Int), j ≤ 4 ∧ i = .int .i64 j ∧ Arr4At wq A f ∧ Hid (∀ i, i < j → f i = s.var i) ∧ StAt wq g s ∧ Below w.heap.size w wq) (fun i _ => 4 - (intOf i).toNat)
      case atStart => exact ⟨0, _, by omega, rfl, hA, (fun i hi => absurd hi (by omega)), HS0.out, hb0⟩
      case round =>
        clear hb0 HS0 hA
        obtain ⟨j, f, hj, rfl, hA, HF, hs, hb⟩ := hrel
        have HA := Lib.hid hA
        have HS := Lib.hid hs
        clear hA hs
        by_cases hj4 : j < 4
        · have c0 := HA.out.cell j hj4
          have f0 := HA.out.frozen j
          go_wp2_with (go_at_call 25; refine (var_any HS.out j hj4).mono ?_; rintro r w' ⟨rfl, rfl⟩)
          have HA1 := Lib.hid (HA.out.set j hj4 (s.var j))
          have HS1 := Lib.hid (HS.out.other (g := A) (fun e => hga e.symm) j (.int .i64 (s.var j)))
          have hb1 := hb.setCell (p := ⟨A, j, none⟩) hwa (.int .i64 (s.var j))
          clear c0 f0 hb HA HS
          go_roundw
          case rel => exact ⟨j + 1, _, by omega, by go_num, HA1.out, (fun i hi => by
            by_cases e : i = j
            · simp [e]
            · rw [if_neg e]; exact HF.out i (by omega)), HS1.out, hb1⟩
          case measure => simp [intOf]; omega
        · obtain rfl : j = 4 := by omega
          go_wp2_with fail
          refine (step_any HS.out OK.out t).mono ?_
          rintro r w5 ⟨rfl, hs5, ho5⟩
          have hok5 := OK.out.step_ok t
          have HWR := Lib.hid (fun x hx => OK.out.writes t x hx)
          unfold stepV evV
          generalize s.step t = st at *
          obtain ⟨e, x, s'⟩ := st
          dsimp only at *
          have HA5 := Lib.hid ((HA.out.only ho5 hga).later (below_alloc1 w5 (.cells #[.int .i64 x.thread, .int .i64 x.kind, .int .i64 x.obj, .bool x.fail] 35)))
          have HS5 := Lib.hid (hs5.later (below_alloc1 w5 (.cells #[.int .i64 x.thread, .int .i64 x.kind, .int .i64 x.obj, .bool x.fail] 35)))
          have HX5 := Lib.hid (EvBox.new w5 x)
          have hb5' := hb.trans (ho5.below hgw hb.size)
          have hb5 : Below w.heap.size w (w5.alloc (.cells #[.int .i64 x.thread, .int .i64 x.kind, .int .i64 x.obj, .bool x.fail] 35)) := hb5'.alloc hb5'.size _
          have HOK5 := Lib.hid hok5
          clear HA HS hb hs5 ho5 hb5' hok5
          go_wp2_with fail
          generalize w5.alloc (.cells #[.int .i64 x.thread, .int .i64 x.kind, .int .i64 x.obj, .bool x.fail] 35) = W5 at *
          generalize w5.heap.size = E at *
          go_loopw [58] (fun i wq => ∃ (j : Nat), j ≤ 4 ∧ i = .int .i64 j ∧ Hid (Below W5.heap.size W5 wq)) (fun i _ => 4 - (intOf i).toNat)
          case atStart => exact ⟨0, by omega, rfl, Below.refl _ _⟩
          case round =>
            obtain ⟨j, hj, rfl, hbq⟩ := hrel
            have hbw := hb5.trans (hbq.out.mono hb5.size)
            by_cases hj4 : j < 4
            · have HSq := Lib.hid (HS5.out.later hbq.out)
              have c0 := (HA5.out.later hbq.out).cell j hj4
              obtain ⟨x0, x1, x2, x3⟩ := (HX5.out.later hbq.out).cells
              by_cases hv : s'.var j = f j
              · have hq : (s'.var j != f j) = false := by simp [hv]
                clear hv
                go_wp2
                go_quiet ((go_at_call 25; exact var_quiet HSq.out j hj4 _))
                go_wp2
                go_roundw
                case rel => exact ⟨j + 1, by omega, by go_num, hbq.out.drewN⟩
                case measure => simp [intOf]; omega
              · have hq : (s'.var j != f j) = true := by simpa using hv
                obtain ⟨h0, h3, ho⟩ := HWR.out j (by omega) (by rw [← HF.out j hj4]; exact hv)
                have q0 : (e != 0) = false := by simp [h0]
                have q3 : (x.kind != 3) = false := by simp [h3]
                have q4 : (x.obj != (j : Int)) = false := by simp [ho]
                clear hv h0 h3 ho
                go_wp2
                go_quiet ((go_at_call 25; exact var_quiet HSq.out j hj4 _))
                go_wp2
                go_roundw
                case rel => exact ⟨j + 1, by omega, by go_num, hbq.out.drewN⟩
                case measure => simp [intOf]; omega
            · obtain rfl : j = 4 := by omega
              have HSq := Lib.hid (HS5.out.later hbq.out)
              go_wp2
              go_roundw
              case rel => exact ⟨k + 1, s', by omega, by go_num, HSq.out, HOK5.out, hbw⟩
              case measure => simp [intOf]; omega
    · obtain rfl : k = row.length := by omega
      go_wp2
      go_ret
      exact ⟨rfl, hb⟩

end Go.Proofs.Ytgofbejohihljaa
