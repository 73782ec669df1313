/- The contract of New. -/
import Derived.Test.YtfhndbibabbnlaaNewPlain
import Derived.Test.YtfhndbibabbnlaaRight
import Derived.Deep.WholeRow
import Derived.Test.YtfhndbibabbnlaaStateRead
namespace Go.Proofs.Ytfhndbibabbnlaa
open Go.RowKit

/-- A new state, or none. -/
def NewR (p : Pg) (fuel : Int) (w : World) (r : Ending) (w' : World) : Prop :=
  if rightPg p = true ∧ 0 ≤ fuel ∧ fuel ≤ 8 then ∃ g, r = .returned (.tuple #[.pointer (some ⟨g, 0, none⟩), .int .i64 0]) ∧ w.heap.size ≤ g ∧ StAt w' g (St.new p fuel.toNat) ∧ Below w.heap.size w w'
  else r = .returned (.tuple #[.pointer none, .int .i64 1]) ∧ Below w.heap.size w w'

set_option maxRecDepth 100000 in
set_option maxHeartbeats 2000000 in
theorem new_no (p : Pg) (a : Option Addr) (cap : Nat) (fuel : Int) (w : World) (hp : ThreadsAt w a p.threads) (hr : rightPg p = false) :
    Calls Try.prog 23 #[.agg #[.int .i64 p.vars, .int .i64 p.mutexes, .slice a p.threads.length cap], .int .i64 fuel] w fun r w' => r = .returned (.tuple #[.pointer none, .int .i64 1]) ∧ Below w.heap.size w w' := by
  have HR := Lib.hid hr
  have HP := Lib.hid hp
  clear hr hp
  go_enter Try.func23, Try.ntmps23
  go_wp2_with fail
  refine (right_any p a cap _ (HP.out.later (below_alloc1 w _))).mono ?_
  rw [HR.out]
  rintro r w1 ⟨rfl, hb⟩
  have hb1 : Below w.heap.size w w1 := (below_alloc1 w _).trans (hb.mono (by simp))
  clear hb
  go_wp2
  go_ret2
  exact ⟨rfl, hb1⟩

set_option maxRecDepth 100000 in
set_option maxHeartbeats 2000000 in
theorem new_fuel (p : Pg) (a : Option Addr) (cap : Nat) (fuel : Int) (w : World) (hp : ThreadsAt w a p.threads) (hr : rightPg p = true) (hf : belowB fuel 9 = false) :
    Calls Try.prog 23 #[.agg #[.int .i64 p.vars, .int .i64 p.mutexes, .slice a p.threads.length cap], .int .i64 fuel] w fun r w' => r = .returned (.tuple #[.pointer none, .int .i64 1]) ∧ Below w.heap.size w w' := by
  have HR := Lib.hid hr
  have HP := Lib.hid hp
  clear hr hp
  go_enter Try.func23, Try.ntmps23
  go_wp2_with fail
  refine (right_any p a cap _ (HP.out.later (below_alloc1 w _))).mono ?_
  rw [HR.out]
  rintro r w1 ⟨rfl, hb⟩
  have hb1 : Below w.heap.size w w1 := (below_alloc1 w _).trans (hb.mono (by simp))
  clear hb
  go_wp2_with (go_at_call 41; refine (sbelow_any _ _ _).mono ?_; rintro r w' ⟨rfl, rfl⟩)
  go_ret2
  exact ⟨rfl, hb1⟩

theorem zero_state : ∃ Z : Array Value, Z = numA (fun _ => 0) ∧ ∀ w, (zeroValue 77).run Try.prog w = .ok (.agg Z) w :=
  ⟨_, rfl, (zero_of_info (P := Try.prog) (t := 77) (v := .agg (numA fun _ => 0)) (n := 156) (by kernel_rfl)).1⟩

set_option maxRecDepth 100000 in
set_option maxHeartbeats 4000000 in
theorem new_yes (p : Pg) (a : Option Addr) (cap F : Nat) (w : World) (hp : ThreadsAt w a p.threads) (hr : rightPg p = true) (hF : F ≤ 8) :
    Calls Try.prog 23 #[.agg #[.int .i64 p.vars, .int .i64 p.mutexes, .slice a p.threads.length cap], .int .i64 F] w
      fun r w' => ∃ g, r = .returned (.tuple #[.pointer (some ⟨g, 0, none⟩), .int .i64 0]) ∧ w.heap.size ≤ g ∧ StAt w' g (St.new p F) ∧ Below w.heap.size w w' := by
  have hf : belowB F 9 = true := by simp [belowB]; omega
  have hn4 : p.threads.length ≤ 4 := by
    unfold rightPg at hr
    rw [Bool.and_eq_true, decide_eq_true_eq] at hr
    omega
  have HR := Lib.hid hr
  have HP := Lib.hid hp
  obtain ⟨Z, hZ, hzv⟩ := zero_state
  have hne : ¬ Z = #[] := fun e => by have := congrArg Array.size e; rw [hZ, numA_size] at this; simp at this
  have hsz : Z.size = 156 := by rw [hZ, numA_size]
  have hset : (Z.setIfInBounds 0 (.int .i64 p.threads.length)).setIfInBounds 1 (.int .i64 p.mutexes) = numA (newNum p F 0) := by
    rw [hZ, numA_set (fun _ => 0) (fun j => if j = 0 then (p.threads.length : Int) else 0) 0 _ (by omega) (fun j _ => rfl)]
    refine numA_set _ _ 1 _ (by omega) (fun j _ => ?_)
    rw [newNum_zero]
    by_cases h0 : j = 0
    · simp [h0]
    · simp [h0]
  clear hZ
  clear hr hp
  go_enter Try.func23, Try.ntmps23
  go_wp2_with fail
  refine (right_any p a cap _ (HP.out.later (below_alloc1 w _))).mono ?_
  rw [HR.out]
  rintro r w1 ⟨rfl, hb⟩
  have hb1 : Below w.heap.size w w1 := (below_alloc1 w _).trans (hb.mono (by simp))
  have hc : ∀ o, w1.cell? ⟨w.heap.size, o, none⟩ = (w.alloc (.cells #[.int .i64 p.vars, .int .i64 p.mutexes, .slice a p.threads.length cap] 41)).cell? ⟨w.heap.size, o, none⟩ := fun o => hb.cell (p := ⟨w.heap.size, o, none⟩) (by simp)
  have hz : w.heap.size < w1.heap.size := by have := hb.size; simp at this; omega
  clear hb
  go_wp2_with (go_at_call 41; refine (sbelow_any _ _ _).mono ?_; rintro r w' ⟨rfl, rfl⟩)
  clear hset hsz hne hzv hc hf
  go_loopw [29] (fun i wr => ∃ k : Nat, k ≤ p.threads.length ∧ i = .int .i64 k ∧ NumAt wr w1.heap.size (newNum p F k) ∧ Below w1.heap.size w1 wr) (fun i _ => p.threads.length - (intOf i).toNat)
  case atStart => exact ⟨0, Nat.zero_le _, rfl, heap_alloc_last w1 _, below_alloc1 _ _⟩
  case round =>
    obtain ⟨k, hk, rfl, hnum, hb2⟩ := hrel
    by_cases hlt : k < p.threads.length
    · obtain ⟨b, o, rfl, hc⟩ := HP.out.2 (by intro e; simp [e] at hlt)
      obtain ⟨c, ccap, c0, c1, _⟩ := hc k hlt
      have hbw : Below w.heap.size w wr := hb1.trans (hb2.mono (by omega))
      have d0 := cell_later hbw c0
      have D1 := c1.later hbw
      have h8 := (rightPg_code HR.out hlt).1
      obtain ⟨f1, hf1⟩ : ∃ f1 : Nat → Int, ∀ j, f1 j = if 2 + k * 37 ≤ j ∧ j < 2 + k * 37 + p.threads[k].length * 4 then insNum (p.threads[k].getD ((j - (2 + k * 37)) / 4) ins0) ((j - (2 + k * 37)) % 4) else newNum p F k j := ⟨_, fun _ => rfl⟩
      have hcp := run_copy_code wr w1.heap.size (2 + k * 37) _ f1 hnum c ccap p.threads[k] D1 h8 (by omega) (fun j _ => hf1 j)
      have hn1 : NumAt (wr.setRow w1.heap.size (numA f1)) w1.heap.size f1 := setRow_heap wr _ _ _ _ _ hnum
      have hbs : Below w1.heap.size w1 (wr.setRow w1.heap.size (numA f1)) := hb2.trans ⟨rfl, rfl, rfl, by simp, fun q hq => setRow_other _ _ _ _ (by omega)⟩
      generalize wr.setRow w1.heap.size (numA f1) = W1 at *
      have hn2 : NumAt (W1.setCell ⟨w1.heap.size, 2 + k * 37 + 32, none⟩ (.int .i64 p.threads[k].length)) w1.heap.size (fun j => if j = 2 + k * 37 + 32 then (p.threads[k].length : Int) else f1 j) := hn1.set _ _ _ (by omega) (fun j _ => rfl)
      have hn3 : NumAt ((W1.setCell ⟨w1.heap.size, 2 + k * 37 + 32, none⟩ (.int .i64 p.threads[k].length)).setCell ⟨w1.heap.size, 2 + k * 37 + 34, none⟩ (.int .i64 F)) w1.heap.size (newNum p F (k + 1)) :=
        hn2.set _ _ _ (by omega) (newNum_succ p F k hlt hn4 h8 f1 _ (fun j _ => hf1 j) (fun j _ => rfl))
      have hb3 : Below w1.heap.size w1 ((W1.setCell ⟨w1.heap.size, 2 + k * 37 + 32, none⟩ (.int .i64 p.threads[k].length)).setCell ⟨w1.heap.size, 2 + k * 37 + 34, none⟩ (.int .i64 F)) := (hbs.setCell (p := ⟨w1.heap.size, 2 + k * 37 + 32, none⟩) (Nat.le_refl _) _).setCell (p := ⟨w1.heap.size, 2 + k * 37 + 34, none⟩) (Nat.le_refl _) _
      have e0 := hn1.cell (2 + k * 37 + 32) (by omega)
      have e1 := hn1.frozen (2 + k * 37 + 32)
      have e2 := hn1.cell (2 + k * 37 + 34) (by omega)
      have e3 := hn1.frozen (2 + k * 37 + 34)
      have HN3 := Lib.hid hn3
      have hk4 : k < 4 := by omega
      clear c0 c1 hc D1 hf1 hn1 hn2 hn3 hbs hnum hb2 hbw
      go_wp2
      go_roundw
      case rel => exact ⟨k + 1, by omega, by go_num, HN3.out, hb3⟩
      case measure => simp [intOf]; omega
    · obtain rfl : k = p.threads.length := by omega
      have hnum2 : NumAt wr w1.heap.size (newNum2 p F 0) := by
        unfold NumAt
        rw [← numA_congr _ _ (newNum_all p F)]
        exact hnum
      clear hnum
      go_wp2
      go_loopw [53] (fun i wq => ∃ k : Nat, k ≤ 2 ∧ i = .int .i64 k ∧ NumAt wq w1.heap.size (newNum2 p F k) ∧ Below w1.heap.size w1 wq) (fun i _ => 2 - (intOf i).toNat)
      case atStart => exact ⟨0, by omega, rfl, hnum2, hb2⟩
      case round =>
        clear hnum2 hb2
        obtain ⟨k, hk, rfl, hnum, hb2⟩ := hrel
        by_cases hlt : k < 2
        · have e0 := hnum.cell (154 + k) (by omega)
          have e1 := hnum.frozen (154 + k)
          have HN := Lib.hid (hnum.set _ (154 + k) (-1) (by omega) (newNum2_succ p F k hlt))
          have hb3 := hb2.setCell (p := ⟨w1.heap.size, 154 + k, none⟩) (Nat.le_refl _) (.int .i64 (-1))
          clear hnum hb2
          go_wp2
          go_roundw
          case rel => exact ⟨k + 1, by omega, by go_num, HN.out, hb3⟩
          case measure => simp [intOf]; omega
        · obtain rfl : k = 2 := by omega
          have HN : Hid (StAt wr w1.heap.size (St.new p F)) := by
            show _ = _
            rw [← numA_congr _ _ (newNum2_all p F)]
            exact hnum
          clear hnum
          go_wp2
          go_ret2
          exact ⟨_, rfl, by omega, HN.out, hb1.trans (hb2.mono (by omega))⟩

theorem new_any (p : Pg) (a : Option Addr) (cap : Nat) (fuel : Int) (w : World) (hp : ThreadsAt w a p.threads) :
    Calls Try.prog 23 #[.agg #[.int .i64 p.vars, .int .i64 p.mutexes, .slice a p.threads.length cap], .int .i64 fuel] w (NewR p fuel w) := by
  cases hr : rightPg p
  · refine (new_no p a cap fuel w hp hr).mono fun r w' h => ?_
    unfold NewR
    rw [if_neg (by simp [hr])]
    exact h
  · cases hf : belowB fuel 9
    · refine (new_fuel p a cap fuel w hp hr hf).mono fun r w' h => ?_
      unfold NewR
      rw [if_neg (by simp [belowB] at hf; omega)]
      exact h
    · have hf' : 0 ≤ fuel ∧ fuel < 9 := by simpa [belowB] using hf
      obtain ⟨F, rfl⟩ : ∃ F : Nat, fuel = F := ⟨fuel.toNat, by omega⟩
      refine (new_yes p a cap F w hp hr (by omega)).mono fun r w' h => ?_
      unfold NewR
      rw [if_pos ⟨hr, by omega, by omega⟩]
      exact h

end Go.Proofs.Ytfhndbibabbnlaa
