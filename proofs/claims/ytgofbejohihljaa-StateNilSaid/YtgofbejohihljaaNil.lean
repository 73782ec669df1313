/- StateNil: a state that is none does nothing. -/
import Derived.Test.YtgofbejohihljaaWake
import Derived.Test.YtgofbejohihljaaCopyState
namespace Go.Proofs.Ytgofbejohihljaa
open Go.RowKit

theorem nil_threads (w : World) : Calls Try.prog 27 #[.pointer none] w fun r w' => r = .returned (.int .i64 0) ∧ w = w' := by
  go_enter Try.func27, Try.ntmps27
  go_wp2
  go_ret
  exact ⟨rfl, rfl⟩
theorem nil_var (x : Int) (w : World) : Calls Try.prog 25 #[.pointer none, .int .i64 x] w fun r w' => r = .returned (.int .i64 0) ∧ w = w' := by
  go_enter Try.func25, Try.ntmps25
  go_wp2
  go_ret
  exact ⟨rfl, rfl⟩
theorem nil_holder (x : Int) (w : World) : Calls Try.prog 26 #[.pointer none, .int .i64 x] w fun r w' => r = .returned (.int .i64 (-1)) ∧ w = w' := by
  go_enter Try.func26, Try.ntmps26
  go_wp2
  go_ret
  exact ⟨rfl, rfl⟩
theorem nil_copy (w : World) : Calls Try.prog 17 #[.pointer none] w fun r w' => r = .returned (.pointer none) ∧ w = w' := by
  go_enter Try.func17, Try.ntmps17
  go_wp2
  go_ret
  exact ⟨rfl, rfl⟩
theorem nil_instr (t : Int) (w : World) : Calls Try.prog 34 #[.pointer none, .int .i64 t] w fun r w' => r = .returned (.tuple #[.agg #[.int .i64 0, .int .i64 0, .int .i64 0, .int .i64 0], .bool false]) ∧ Below w.heap.size w w' := by
  have hb : belowB t 0 = false := decide_eq_false (by omega)
  go_enter Try.func34, Try.ntmps34
  go_wp2_with (first
    | (go_at_call 32; refine (sbelow_any _ _ _).mono ?_; rintro r w' ⟨rfl, rfl⟩)
    | (go_at_call 27; refine (nil_threads _).mono ?_; rintro r w' ⟨rfl, rfl⟩))
  exact bodyPost_ret (v := .tuple #[.agg #[.int .i64 0, .int .i64 0, .int .i64 0, .int .i64 0], .bool false]) (by simp [results, Try.results34, go_sem]) rfl ⟨rfl, below_alloc1 w _⟩
theorem nil_next (t : Int) (w : World) : Calls Try.prog 15 #[.pointer none, .int .i64 t] w fun r w' => r = .returned (.tuple #[.agg #[.int .i64 0, .int .i64 0, .int .i64 0, .bool false], .bool false]) ∧ Below w.heap.size w w' := by
  go_enter Try.func15, Try.ntmps15
  go_wp2_with fail
  refine (nil_instr t _).mono ?_
  rintro r w1 ⟨rfl, hb1⟩
  have hw1 : Below w.heap.size w w1 := (below_alloc1 w _).trans (hb1.mono (by simp))
  have hz : w.heap.size < w1.heap.size := by have := hb1.size; simp at this; omega
  have hc : ∀ o, w1.cell? ⟨w.heap.size, o, none⟩ = (w.alloc (.cells #[.int .i64 0, .int .i64 0, .int .i64 0, .bool false] 35)).cell? ⟨w.heap.size, o, none⟩ := fun o => hb1.cell (p := ⟨w.heap.size, o, none⟩) (by simp)
  have hf : ∀ o, w1.frozen? ⟨w.heap.size, o, none⟩ = (w.alloc (.cells #[.int .i64 0, .int .i64 0, .int .i64 0, .bool false] 35)).frozen? ⟨w.heap.size, o, none⟩ := fun o => hb1.frozen (p := ⟨w.heap.size, o, none⟩) (by simp)
  clear hb1
  go_wp2
  refine bodyPost_ret (v := .tuple #[.agg #[.int .i64 0, .int .i64 0, .int .i64 0, .bool false], .bool false]) (by simp [results, Try.results15, go_sem, hc, hz]) rfl ⟨rfl, ?_⟩
  exact (below_set4 hw1 (Nat.le_refl _) _ _ _ _).alloc (by simp [World.setCell]; omega) _
theorem nil_enabled (t : Int) (w : World) : Calls Try.prog 18 #[.pointer none, .int .i64 t] w fun r w' => r = .returned (.bool false) ∧ Below w.heap.size w w' := by
  go_enter Try.func18, Try.ntmps18
  go_wp2_with fail
  refine (nil_next t w).mono ?_
  rintro r w1 ⟨rfl, hb1⟩
  have hz := hb1.size
  go_wp2
  go_ret
  exact ⟨rfl, hb1.alloc hz _⟩
theorem nil_all (w : World) : Calls Try.prog 23 #[.pointer none] w fun r w' => r = .returned (.slice none 0 0) ∧ w = w' := by
  go_enter Try.func23, Try.ntmps23
  go_wp2_with (go_at_call 27; refine (nil_threads _).mono ?_; rintro r w' ⟨rfl, rfl⟩)
  go_loop [3, 7] (fun l i => l = .slice none 0 0 ∧ i = .int .i64 0) (fun _ _ => 0)
  case atStart => exact ⟨rfl, rfl⟩
  case round =>
    obtain ⟨rfl, rfl⟩ := hrel
    go_wp2
    go_ret
    exact ⟨rfl, rfl⟩
theorem nil_step (t : Int) (w : World) : Calls Try.prog 20 #[.pointer none, .int .i64 t] w fun r w' => r = .returned (.tuple #[.agg #[.int .i64 0, .int .i64 0, .int .i64 0, .bool false], .int .i64 8]) ∧ Below w.heap.size w w' := by
  go_enter Try.func20, Try.ntmps20
  go_wp2
  exact bodyPost_ret (v := .tuple #[.agg #[.int .i64 0, .int .i64 0, .int .i64 0, .bool false], .int .i64 8]) (by simp [results, Try.results20, go_sem]) rfl ⟨rfl, below_alloc1 w _⟩

set_option maxRecDepth 100000 in
set_option maxHeartbeats 4000000 in
theorem nil_any (t : Int) (w : World) : Calls Try.prog 6 #[.int .i64 t] w fun r w' => r = .returned (.bool true) ∧ Below w.heap.size w w' := by
  go_enter Try.func6, Try.ntmps6
  go_wp2_with fail
  refine (nil_next t w).mono ?_
  rintro r w1 ⟨rfl, hb1⟩
  have hw1 : Below w.heap.size w (w1.alloc (.cells #[.int .i64 0, .int .i64 0, .int .i64 0, .bool false] 35)) := hb1.alloc hb1.size _
  clear hb1
  go_wp2_with fail
  refine (nil_step t _).mono ?_
  rintro r w2 ⟨rfl, hb2⟩
  have hw2' := hw1.trans (hb2.mono hw1.size)
  have hw2 : Below w.heap.size w (w2.alloc (.cells #[.int .i64 0, .int .i64 0, .int .i64 0, .bool false] 35)) := hw2'.alloc hw2'.size _
  clear hb2 hw1 hw2'
  go_wp2_with fail
  refine (awake_any _).mono ?_
  rintro r w3 ⟨rfl, hb3⟩
  have hw3 := hw2.trans (hb3.mono hw2.size)
  clear hb3 hw2
  go_wp2_with fail
  refine (nil_enabled t w3).mono ?_
  rintro r w4 ⟨rfl, hb4⟩
  have hw4 := hw3.trans (hb4.mono hw3.size)
  clear hb4 hw3
  go_wp2_with (first
    | (go_at_call 23; refine (nil_all _).mono ?_; rintro r w' ⟨rfl, rfl⟩)
    | (go_at_call 27; refine (nil_threads _).mono ?_; rintro r w' ⟨rfl, rfl⟩)
    | (go_at_call 25; refine (nil_var _ _).mono ?_; rintro r w' ⟨rfl, rfl⟩)
    | (go_at_call 26; refine (nil_holder _ _).mono ?_; rintro r w' ⟨rfl, rfl⟩)
    | (go_at_call 17; refine (nil_copy _).mono ?_; rintro r w' ⟨rfl, rfl⟩))
  go_ret
  exact ⟨rfl, hw4⟩

end Go.Proofs.Ytgofbejohihljaa
