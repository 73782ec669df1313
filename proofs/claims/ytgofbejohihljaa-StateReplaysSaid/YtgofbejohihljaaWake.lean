/- The contract of awake: true. -/
import Derived.Test.YtgofbejohihljaaSameRows
import Derived.Test.YtgofbejohihljaaStep
import Derived.Test.YtgofbejohihljaaNew
namespace Go.Proofs.Ytgofbejohihljaa
open Go.RowKit

def wakeLock : List Ins := [⟨5, 0, 0, 0⟩, ⟨6, 0, 0, 0⟩, ⟨6, 0, 0, 0⟩]
def wakePg : Pg := ⟨0, 1, [wakeLock, wakeLock]⟩
def zeroPg : Pg := ⟨0, 0, []⟩
theorem wake_right : rightPg wakePg = true := by decide
theorem zero_wrong : rightPg zeroPg = false := by decide
def wk0 : St := St.new wakePg 3
def wk1 : St := (wk0.step 0).2.2
def wk2 : St := (wk1.step 0).2.2
def wk3 : St := (wk2.step 0).2.2
theorem wk0_ok : wk0.Ok 3 := new_ok wake_right 3 (by omega)
theorem wk1_ok : wk1.Ok 3 := wk0_ok.step_ok 0
theorem wk2_ok : wk2.Ok 3 := wk1_ok.step_ok 0
theorem wk3_ok : wk3.Ok 3 := wk2_ok.step_ok 0

theorem wake_new (w : World) (a : Option Addr) (h : ThreadsAt w a wakePg.threads) : Calls Try.prog 13 #[.agg #[.int .i64 0, .int .i64 1, .slice a 2 2], .int .i64 3] w
    fun r w' => ∃ g, r = .returned (.tuple #[.pointer (some ⟨g, 0, none⟩), .int .i64 0]) ∧ w.heap.size ≤ g ∧ StAt w' g wk0 ∧ Below w.heap.size w w' := new_yes wakePg a 2 3 w h wake_right (by omega)
theorem zero_new (w : World) : Calls Try.prog 13 #[.agg #[.int .i64 0, .int .i64 0, .slice none 0 0], .int .i64 3] w
    fun r w' => r = .returned (.tuple #[.pointer none, .int .i64 1]) ∧ Below w.heap.size w w' := new_no zeroPg none 0 3 w ⟨by simp [zeroPg, maxLen], fun h => absurd rfl h⟩ zero_wrong
theorem wake_step0 {w : World} {g : Nat} (h : StAt w g wk0) : Calls Try.prog 20 #[.pointer (some ⟨g, 0, none⟩), .int .i64 0] w
    fun r w' => r = .returned (.tuple #[.agg #[.int .i64 0, .int .i64 4, .int .i64 0, .bool false], .int .i64 0]) ∧ StAt w' g wk1 ∧ Only g w w' := step_any h wk0_ok 0
theorem wake_step1 {w : World} {g : Nat} (h : StAt w g wk1) : Calls Try.prog 20 #[.pointer (some ⟨g, 0, none⟩), .int .i64 1] w
    fun r w' => r = .returned (.tuple #[.agg #[.int .i64 0, .int .i64 0, .int .i64 0, .bool false], .int .i64 9]) ∧ StAt w' g wk1 ∧ Only g w w' := step_any h wk1_ok 1
theorem wake_step2 {w : World} {g : Nat} (h : StAt w g wk1) : Calls Try.prog 20 #[.pointer (some ⟨g, 0, none⟩), .int .i64 0] w
    fun r w' => r = .returned (.tuple #[.agg #[.int .i64 0, .int .i64 5, .int .i64 0, .bool false], .int .i64 0]) ∧ StAt w' g wk2 ∧ Only g w w' := step_any h wk1_ok 0
theorem wake_step3 {w : World} {g : Nat} (h : StAt w g wk2) : Calls Try.prog 20 #[.pointer (some ⟨g, 0, none⟩), .int .i64 0] w
    fun r w' => r = .returned (.tuple #[.agg #[.int .i64 0, .int .i64 1, .int .i64 0, .bool true], .int .i64 0]) ∧ StAt w' g wk3 ∧ Only g w w' := step_any h wk2_ok 0
theorem wake_step4 {w : World} {g : Nat} (h : StAt w g wk3) : Calls Try.prog 20 #[.pointer (some ⟨g, 0, none⟩), .int .i64 0] w
    fun r w' => r = .returned (.tuple #[.agg #[.int .i64 0, .int .i64 0, .int .i64 0, .bool false], .int .i64 6]) ∧ StAt w' g wk3 ∧ Only g w w' := step_any h wk3_ok 0
theorem wake_step5 {w : World} {g : Nat} (h : StAt w g wk3) : Calls Try.prog 20 #[.pointer (some ⟨g, 0, none⟩), .int .i64 2] w
    fun r w' => r = .returned (.tuple #[.agg #[.int .i64 0, .int .i64 0, .int .i64 0, .bool false], .int .i64 2]) ∧ StAt w' g wk3 ∧ Only g w w' := step_any h wk3_ok 2
theorem wake_enabled {w : World} {g : Nat} (h : StAt w g wk1) : Calls Try.prog 18 #[.pointer (some ⟨g, 0, none⟩), .int .i64 1] w
    fun r w' => r = .returned (.bool false) ∧ Below w.heap.size w w' := enabled_any h wk1_ok 1
theorem wake_threads {w : World} {g : Nat} (h : StAt w g wk3) : Calls Try.prog 27 #[.pointer (some ⟨g, 0, none⟩)] w
    fun r w' => r = .returned (.int .i64 2) ∧ w = w' := threads_any h
theorem wake_holder {w : World} {g : Nat} (h : StAt w g wk3) : Calls Try.prog 26 #[.pointer (some ⟨g, 0, none⟩), .int .i64 0] w
    fun r w' => r = .returned (.int .i64 (-1)) ∧ w = w' := holder_any h wk3_ok 0
theorem wake_var {w : World} {g : Nat} (h : StAt w g wk3) : Calls Try.prog 25 #[.pointer (some ⟨g, 0, none⟩), .int .i64 0] w
    fun r w' => r = .returned (.int .i64 0) ∧ w = w' := var_any h 0 (by omega)
theorem wake_all {w : World} {g : Nat} (h : StAt w g wk3) : Calls Try.prog 23 #[.pointer (some ⟨g, 0, none⟩)] w
    fun r w' => ∃ a cap, r = .returned (.slice a 1 cap) ∧ NumsAt w' a [1] ∧ Below w.heap.size w w' := by
  refine (all_any h wk3_ok).mono ?_
  rintro r w' ⟨v, rfl, ho, hb⟩
  have e : wk3.all = [1] := by decide
  rw [e] at ho
  obtain ⟨a, cap, rfl, hn, _⟩ := ho.form (by simp)
  exact ⟨a, cap, rfl, hn, hb⟩
theorem wake_same {w : World} (a a' : Option Addr) (cap cap' : Nat) (h : NumsAt w a [1]) (h' : NumsAt w a' [1]) : Calls Try.prog 22 #[.slice a 1 cap, .slice a' 1 cap'] w
    fun r w' => r = .returned (.bool true) ∧ Below w.heap.size w w' := sameInts_any a a' cap cap' [1] [1] w h h'

/-- An event in a box. -/
def EvBox (w : World) (g : Nat) (e : Ev) : Prop := w.heap[g]? = some (.cells #[.int .i64 e.thread, .int .i64 e.kind, .int .i64 e.obj, .bool e.fail] 35 (0, 0))
theorem EvBox.lt {w : World} {g : Nat} {e : Ev} (h : EvBox w g e) : g < w.heap.size := (Array.getElem?_eq_some_iff.1 h).1
theorem EvBox.only {w w' : World} {b g : Nat} {e : Ev} (h : EvBox w g e) (ho : Only b w w') (hb : g ≠ b) : EvBox w' g e := (ho.block g h.lt hb).trans h
theorem EvBox.later {w w' : World} {g : Nat} {e : Ev} (h : EvBox w g e) (hb : Below w.heap.size w w') : EvBox w' g e := (hb.block g h.lt).trans h
theorem EvBox.new (w : World) (e : Ev) : EvBox (w.alloc (.cells #[.int .i64 e.thread, .int .i64 e.kind, .int .i64 e.obj, .bool e.fail] 35)) w.heap.size e := heap_alloc_new w _
theorem EvBox.cells {w : World} {g : Nat} {e : Ev} (h : EvBox w g e) : w.cell? ⟨g, 0, none⟩ = some (.int .i64 e.thread) ∧ w.cell? ⟨g, 1, none⟩ = some (.int .i64 e.kind) ∧ w.cell? ⟨g, 2, none⟩ = some (.int .i64 e.obj) ∧ w.cell? ⟨g, 3, none⟩ = some (.bool e.fail) := by
  simp [World.cell?, show w.heap[g]? = _ from h]

theorem wake_mem (w : World) : ThreadsAt ((w.alloc (.cells #[.int .i64 5, .int .i64 0, .int .i64 0, .int .i64 0, .int .i64 6, .int .i64 0, .int .i64 0, .int .i64 0, .int .i64 6, .int .i64 0, .int .i64 0, .int .i64 0] 66)).alloc (.cells #[.slice (some ⟨w.heap.size, 0, none⟩) 3 3, .slice (some ⟨w.heap.size, 0, none⟩) 3 3] 67)) (some ⟨w.heap.size + 1, 0, none⟩) wakePg.threads := by
  have h1 : ((w.alloc (.cells #[.int .i64 5, .int .i64 0, .int .i64 0, .int .i64 0, .int .i64 6, .int .i64 0, .int .i64 0, .int .i64 0, .int .i64 6, .int .i64 0, .int .i64 0, .int .i64 0] 66)).alloc (.cells #[.slice (some ⟨w.heap.size, 0, none⟩) 3 3, .slice (some ⟨w.heap.size, 0, none⟩) 3 3] 67)).heap[w.heap.size]? = some (.cells #[.int .i64 5, .int .i64 0, .int .i64 0, .int .i64 0, .int .i64 6, .int .i64 0, .int .i64 0, .int .i64 0, .int .i64 6, .int .i64 0, .int .i64 0, .int .i64 0] 66 (0, 0)) := heap_alloc2_old w _ _
  have h2 : ((w.alloc (.cells #[.int .i64 5, .int .i64 0, .int .i64 0, .int .i64 0, .int .i64 6, .int .i64 0, .int .i64 0, .int .i64 0, .int .i64 6, .int .i64 0, .int .i64 0, .int .i64 0] 66)).alloc (.cells #[.slice (some ⟨w.heap.size, 0, none⟩) 3 3, .slice (some ⟨w.heap.size, 0, none⟩) 3 3] 67)).heap[w.heap.size + 1]? = some (.cells #[.slice (some ⟨w.heap.size, 0, none⟩) 3 3, .slice (some ⟨w.heap.size, 0, none⟩) 3 3] 67 (0, 0)) := heap_alloc2_new w _ _
  refine ⟨by simp [wakePg, maxLen], fun _ => ⟨w.heap.size + 1, 0, rfl, fun i hi => ⟨some ⟨w.heap.size, 0, none⟩, 3, ?_, ⟨?_, fun _ => ⟨w.heap.size, 0, rfl, fun j hj => ?_⟩⟩, by simp⟩⟩⟩
  · have : i = 0 ∨ i = 1 := by simp [wakePg] at hi; omega
    rcases this with rfl | rfl
    · simp only [World.cell?, h2]; rfl
    · simp only [World.cell?, h2]; rfl
  · have : i = 0 ∨ i = 1 := by simp [wakePg] at hi; omega
    rcases this with rfl | rfl <;> simp [wakePg, wakeLock, maxLen]
  · have : i = 0 ∨ i = 1 := by simp [wakePg] at hi; omega
    have hj3 : j < 3 := by rcases this with rfl | rfl <;> simpa [wakePg, wakeLock] using hj
    have e : wakePg.threads[i] = wakeLock := by rcases this with rfl | rfl <;> rfl
    obtain rfl | rfl | rfl : j = 0 ∨ j = 1 ∨ j = 2 := by omega
    all_goals
      simp only [World.cell?, h1]
      simp [e, wakeLock]

set_option maxRecDepth 100000 in
set_option maxHeartbeats 4000000 in
theorem awake_any (w : World) : Calls Try.prog 11 #[] w fun r w' => r = .returned (.bool true) ∧ Below w.heap.size w w' := by
  have HM := Lib.hid (wake_mem w)
  have hb0 : Below w.heap.size w ((w.alloc (.cells #[.int .i64 5, .int .i64 0, .int .i64 0, .int .i64 0, .int .i64 6, .int .i64 0, .int .i64 0, .int .i64 0, .int .i64 6, .int .i64 0, .int .i64 0, .int .i64 0] 66)).alloc (.cells #[.slice (some ⟨w.heap.size, 0, none⟩) 3 3, .slice (some ⟨w.heap.size, 0, none⟩) 3 3] 67)) := below_alloc2 w _ _
  go_enter Try.func11, Try.ntmps11
  go_wp2_with fail
  generalize (w.alloc (.cells #[.int .i64 5, .int .i64 0, .int .i64 0, .int .i64 0, .int .i64 6, .int .i64 0, .int .i64 0, .int .i64 0, .int .i64 6, .int .i64 0, .int .i64 0, .int .i64 0] 66)).alloc (.cells #[.slice (some ⟨w.heap.size, 0, none⟩) 3 3, .slice (some ⟨w.heap.size, 0, none⟩) 3 3] 67) = W0 at *
  refine (wake_new W0 _ HM.out).mono ?_
  rintro r w1 ⟨g, rfl, hg, hs, hb1⟩
  have HS1 := Lib.hid hs
  have hw1 : Below w.heap.size w w1 := hb0.trans (hb1.mono hb0.size)
  have hgw : w.heap.size ≤ g := Nat.le_trans hb0.size hg
  clear hs hb1 hb0 HM hg
  go_wp2_with fail
  refine (zero_new w1).mono ?_
  rintro r w2 ⟨rfl, hb2⟩
  have HS2 := Lib.hid (HS1.out.later hb2)
  have hw2 : Below w.heap.size w w2 := hw1.trans (hb2.mono hw1.size)
  have hg2 := HS2.out.lt
  clear HS1 hw1 hb2
  go_wp2_with fail
  refine (wake_step0 HS2.out).mono ?_
  rintro r w3 ⟨rfl, hs3, ho3⟩
  have HS3 := Lib.hid (hs3.later (below_alloc1 w3 (.cells #[.int .i64 0, .int .i64 4, .int .i64 0, .bool false] 35)))
  have hw3 : Below w.heap.size w (w3.alloc (.cells #[.int .i64 0, .int .i64 4, .int .i64 0, .bool false] 35)) := (hw2.trans (ho3.below hgw hw2.size)).alloc (Nat.le_trans hw2.size ho3.size) _
  have HB0_3 := Lib.hid (EvBox.new w3 ⟨0, 4, 0, false⟩)
  have hne0 : w3.heap.size ≠ g := by have := hs3.lt; omega
  clear hs3 ho3 HS2 hw2 
  go_wp2_with fail
  refine (wake_enabled HS3.out).mono ?_
  rintro r w4 ⟨rfl, hb4⟩
  have HS4 := Lib.hid (HS3.out.later hb4)
  have hw4 : Below w.heap.size w w4 := hw3.trans (hb4.mono hw3.size)
  have HB0_4 := Lib.hid (HB0_3.out.later hb4)
  clear hb4 HS3 hw3 HB0_3
  go_wp2_with fail
  refine (wake_step1 HS4.out).mono ?_
  rintro r w5 ⟨rfl, hs5, ho5⟩
  have HS5 := Lib.hid (hs5.later (below_alloc1 w5 (.cells #[.int .i64 0, .int .i64 0, .int .i64 0, .bool false] 35)))
  have hw5 : Below w.heap.size w (w5.alloc (.cells #[.int .i64 0, .int .i64 0, .int .i64 0, .bool false] 35)) := (hw4.trans (ho5.below hgw hw4.size)).alloc (Nat.le_trans hw4.size ho5.size) _
  have HB0_5 := Lib.hid ((HB0_4.out.only ho5 hne0).later (below_alloc1 w5 (.cells #[.int .i64 0, .int .i64 0, .int .i64 0, .bool false] 35)))
  clear hs5 ho5 HS4 hw4 HB0_4
  go_wp2_with fail
  refine (wake_step2 HS5.out).mono ?_
  rintro r w6 ⟨rfl, hs6, ho6⟩
  have HS6 := Lib.hid (hs6.later (below_alloc1 w6 (.cells #[.int .i64 0, .int .i64 5, .int .i64 0, .bool false] 35)))
  have hw6 : Below w.heap.size w (w6.alloc (.cells #[.int .i64 0, .int .i64 5, .int .i64 0, .bool false] 35)) := (hw5.trans (ho6.below hgw hw5.size)).alloc (Nat.le_trans hw5.size ho6.size) _
  have HB0_6 := Lib.hid ((HB0_5.out.only ho6 hne0).later (below_alloc1 w6 (.cells #[.int .i64 0, .int .i64 5, .int .i64 0, .bool false] 35)))
  have HB2_6 := Lib.hid (EvBox.new w6 ⟨0, 5, 0, false⟩)
  have hne2 : w6.heap.size ≠ g := by have := hs6.lt; omega
  clear hs6 ho6 HS5 hw5 HB0_5
  go_wp2_with fail
  refine (wake_step3 HS6.out).mono ?_
  rintro r w7 ⟨rfl, hs7, ho7⟩
  have HS7 := Lib.hid (hs7.later (below_alloc1 w7 (.cells #[.int .i64 0, .int .i64 1, .int .i64 0, .bool true] 35)))
  have hw7 : Below w.heap.size w (w7.alloc (.cells #[.int .i64 0, .int .i64 1, .int .i64 0, .bool true] 35)) := (hw6.trans (ho7.below hgw hw6.size)).alloc (Nat.le_trans hw6.size ho7.size) _
  have HB0_7 := Lib.hid ((HB0_6.out.only ho7 hne0).later (below_alloc1 w7 (.cells #[.int .i64 0, .int .i64 1, .int .i64 0, .bool true] 35)))
  have HB2_7 := Lib.hid ((HB2_6.out.only ho7 hne2).later (below_alloc1 w7 (.cells #[.int .i64 0, .int .i64 1, .int .i64 0, .bool true] 35)))
  have HB3_7 := Lib.hid (EvBox.new w7 ⟨0, 1, 0, true⟩)
  have hne3 : w7.heap.size ≠ g := by have := hs7.lt; omega
  clear hs7 ho7 HS6 hw6 HB0_6 HB2_6
  go_wp2_with fail
  refine (wake_step4 HS7.out).mono ?_
  rintro r w8 ⟨rfl, hs8, ho8⟩
  have HS8 := Lib.hid (hs8.later (below_alloc1 w8 (.cells #[.int .i64 0, .int .i64 0, .int .i64 0, .bool false] 35)))
  have hw8 : Below w.heap.size w (w8.alloc (.cells #[.int .i64 0, .int .i64 0, .int .i64 0, .bool false] 35)) := (hw7.trans (ho8.below hgw hw7.size)).alloc (Nat.le_trans hw7.size ho8.size) _
  have HB0_8 := Lib.hid ((HB0_7.out.only ho8 hne0).later (below_alloc1 w8 (.cells #[.int .i64 0, .int .i64 0, .int .i64 0, .bool false] 35)))
  have HB2_8 := Lib.hid ((HB2_7.out.only ho8 hne2).later (below_alloc1 w8 (.cells #[.int .i64 0, .int .i64 0, .int .i64 0, .bool false] 35)))
  have HB3_8 := Lib.hid ((HB3_7.out.only ho8 hne3).later (below_alloc1 w8 (.cells #[.int .i64 0, .int .i64 0, .int .i64 0, .bool false] 35)))
  clear hs8 ho8 HS7 hw7 HB0_7 HB2_7 HB3_7
  go_wp2_with fail
  refine (wake_step5 HS8.out).mono ?_
  rintro r w9 ⟨rfl, hs9, ho9⟩
  have HS9 := Lib.hid (hs9.later (below_alloc1 w9 (.cells #[.int .i64 0, .int .i64 0, .int .i64 0, .bool false] 35)))
  have hw9 : Below w.heap.size w (w9.alloc (.cells #[.int .i64 0, .int .i64 0, .int .i64 0, .bool false] 35)) := (hw8.trans (ho9.below hgw hw8.size)).alloc (Nat.le_trans hw8.size ho9.size) _
  have HB0_9 := Lib.hid ((HB0_8.out.only ho9 hne0).later (below_alloc1 w9 (.cells #[.int .i64 0, .int .i64 0, .int .i64 0, .bool false] 35)))
  have HB2_9 := Lib.hid ((HB2_8.out.only ho9 hne2).later (below_alloc1 w9 (.cells #[.int .i64 0, .int .i64 0, .int .i64 0, .bool false] 35)))
  have HB3_9 := Lib.hid ((HB3_8.out.only ho9 hne3).later (below_alloc1 w9 (.cells #[.int .i64 0, .int .i64 0, .int .i64 0, .bool false] 35)))
  have hq0 := HB0_8.out.only ho9 hne0
  have hl0 := hq0.lt
  obtain ⟨p00, p01, p02, p03⟩ := hq0.cells
  dsimp only at p00 p01 p02 p03
  clear hq0
  have hq2 := HB2_8.out.only ho9 hne2
  have hl2 := hq2.lt
  obtain ⟨p20, p21, p22, p23⟩ := hq2.cells
  dsimp only at p20 p21 p22 p23
  clear hq2
  have hq3 := HB3_8.out.only ho9 hne3
  have hl3 := hq3.lt
  obtain ⟨p30, p31, p32, p33⟩ := hq3.cells
  dsimp only at p30 p31 p32 p33
  clear hq3
  clear hs9 ho9 HS8 hw8 HB0_8 HB2_8 HB3_8 HB0_9 HB2_9 HB3_9
  go_wp2_with fail
  refine (wake_all HS9.out).mono ?_
  rintro r w10 ⟨a, cap, rfl, hn, hb10⟩
  have HN := Lib.hid (hn.later (below_alloc1 w10 (.cells #[.int .i64 1] 3)))
  have HS10 := Lib.hid ((HS9.out.later hb10).later (below_alloc1 w10 (.cells #[.int .i64 1] 3)))
  have hw10 : Below w.heap.size w (w10.alloc (.cells #[.int .i64 1] 3)) := (hw9.trans (hb10.mono hw9.size)).alloc (Nat.le_trans hw9.size hb10.size) _
  have HN1 : Hid (NumsAt (w10.alloc (.cells #[.int .i64 1] 3)) (some ⟨w10.heap.size, 0, none⟩) [1]) := ⟨by simp [maxLen], fun _ => ⟨w10.heap.size, 0, rfl, fun i hi => by
    have : i = 0 := by simp at hi; omega
    subst this
    simp⟩⟩
  clear hn hb10 hw9 HS9 p00 p01 p02 p03 p20 p21 p22 p23 p30 p31 p32 p33
  go_wp2_with fail
  refine (wake_same _ _ _ _ HN.out HN1.out).mono ?_
  rintro r w11 ⟨rfl, hb11⟩
  have HS11 := Lib.hid (HS10.out.later hb11)
  have hw11 : Below w.heap.size w w11 := hw10.trans (hb11.mono hw10.size)
  clear hb11 hw10 HS10 HN HN1
  go_wp2_with (first
    | (go_at_call 27; refine (wake_threads HS11.out).mono ?_; rintro r w' ⟨rfl, rfl⟩)
    | (go_at_call 26; refine (wake_holder HS11.out).mono ?_; rintro r w' ⟨rfl, rfl⟩)
    | (go_at_call 25; refine (wake_var HS11.out).mono ?_; rintro r w' ⟨rfl, rfl⟩))
  go_ret
  exact ⟨rfl, hw11⟩

end Go.Proofs.Ytgofbejohihljaa
