/- The contract of the document's Step, where it is refused. -/
import Derived.Test.YtgofbejohihljaaRefAll
import Derived.Test.YtgofbejohihljaaStep
namespace Go.Proofs.Ytgofbejohihljaa
open Go.RowKit

theorem RefAt.go {w : World} {b tb : Nat} {a : Option Addr} {cap tcap : Nat} {s : St} (h : RefAt w b tb a cap tcap s) (t f n : Nat) (ht : t < s.ts.length) (hf : (s.th t).fuel = f + 1) (hn : (s.th t).at_ = n) :
    RefAt ((w.setCell ⟨tb, t * 4 + 1, none⟩ (.int .i64 f)).setCell ⟨tb, t * 4, none⟩ (.int .i64 ((n + 1 : Nat) : Int))) b tb a cap tcap (s.go t) := by
  have h1 := h.setFuel t f ht
  have h2 := h1.setAt t (n + 1) (by rw [St.put_len]; exact ht)
  rw [St.put_th _ _ _ ht, St.put_put] at h2
  unfold St.go
  rw [hf, hn]
  exact h2
theorem RefAt.other4 {w : World} {b tb g : Nat} {a : Option Addr} {cap tcap : Nat} {s : St} (h : RefAt w b tb a cap tcap s) (hb : b ≠ g) (ht : tb ≠ g) (v0 v1 v2 v3 : Value) :
    RefAt ((((w.setCell ⟨g, 0, none⟩ v0).setCell ⟨g, 1, none⟩ v1).setCell ⟨g, 2, none⟩ v2).setCell ⟨g, 3, none⟩ v3) b tb a cap tcap s :=
  (((h.other hb ht 0 v0).other hb ht 1 v1).other hb ht 2 v2).other hb ht 3 v3

section
variable {F : Nat} {w : World} {b tb : Nat} {a : Option Addr} {cap tcap : Nat} {s : St}

set_option maxRecDepth 100000 in
set_option maxHeartbeats 4000000 in
theorem refStep_range (h : RefAt w b tb a cap tcap s) (t : Int) (hb : belowB t s.ts.length = false) : Calls Try.prog 21 #[.pointer (some ⟨b, 0, none⟩), .int .i64 t] w fun e w' => e = .returned (stepV (s.step t)) ∧ RefAt w' b tb a cap tcap (s.step t).2.2 ∧ Only2 b tb w w' := by
  have hst : s.step t = (2, ev0, s) := by
    unfold St.step
    rw [if_neg (fun e => by unfold St.has at e; simp [belowB] at hb; omega)]
  rw [hst, stepV_err]
  have hb' : ¬ (0 ≤ t ∧ t < s.ts.length) := by simpa [belowB] using hb
  have p1 := h.prog.2
  have hb1 := h.lt.1
  have HB := Lib.hid (h.later (below_alloc1 w (.cells #[.int .i64 0, .int .i64 0, .int .i64 0, .bool false] 35)))
  clear hst h hb
  by_cases h0 : t < 0
  · have q0 : decide (t < 0) = true := by simpa using h0
    clear hb'
    go_enter Try.func21, Try.ntmps21
    go_wp2
    refine bodyPost_ret (v := .tuple #[.agg #[.int .i64 0, .int .i64 0, .int .i64 0, .bool false], .int .i64 2]) (by simp [results, Try.results21, go_sem]) rfl ⟨rfl, HB.out, ?_⟩
    exact (Only2.refl b tb w).alloc _
  · have q0 : decide (t < 0) = false := by simpa using h0
    have q1 : decide ((s.ts.length : Int) ≤ t) = true := by simp; omega
    clear hb'
    go_enter Try.func21, Try.ntmps21
    go_wp2
    refine bodyPost_ret (v := .tuple #[.agg #[.int .i64 0, .int .i64 0, .int .i64 0, .bool false], .int .i64 2]) (by simp [results, Try.results21, go_sem]) rfl ⟨rfl, HB.out, ?_⟩
    exact (Only2.refl b tb w).alloc _

set_option maxRecDepth 100000 in
set_option maxHeartbeats 4000000 in
theorem refStep_none (h : RefAt w b tb a cap tcap s) (hth : ThreadsAt w a s.p.threads) (ok : s.Ok F) (t : Nat) (ht : t < s.ts.length) (hi : s.ins t = none) : Calls Try.prog 21 #[.pointer (some ⟨b, 0, none⟩), .int .i64 t] w fun e w' => e = .returned (stepV (s.step t)) ∧ RefAt w' b tb a cap tcap (s.step t).2.2 ∧ Only2 b tb w w' := by
  have hst : s.step t = (6, ev0, s) := by
    unfold St.step
    rw [if_pos (by unfold St.has; omega), hi]
  have hn : s.next t = none := by unfold St.next; rw [hi]; rfl
  rw [hst, stepV_err]
  have p1 := h.prog.2
  have hl := h.lt
  obtain ⟨hb1, hb2⟩ := hl
  have h4 := ok.len4
  have q0 : decide ((t : Int) < 0) = false := by simp
  have q1 : decide ((s.ts.length : Int) ≤ t) = false := by simp; omega
  have q2 : decide (s.ts.length ≤ t) = false := by simp; omega
  have HB := Lib.hid (h.later (below_alloc1 w (.cells #[.int .i64 0, .int .i64 0, .int .i64 0, .bool false] 35)))
  have HTH := Lib.hid (hth.later (below_alloc1 w (.cells #[.int .i64 0, .int .i64 0, .int .i64 0, .bool false] 35)))
  have OK := Lib.hid ok
  have HN := Lib.hid hn
  clear hst h hth ok hi hn
  go_enter Try.func21, Try.ntmps21
  go_wp2_with fail
  refine (refNext_any HB.out HTH.out OK.out t).mono ?_
  rw [HN.out, evR_none]
  rintro r w1 ⟨rfl, hb3⟩
  have hz : w.heap.size < w1.heap.size := by have := hb3.size; simp at this; omega
  have hc : ∀ o, w1.cell? ⟨w.heap.size, o, none⟩ = (w.alloc (.cells #[.int .i64 0, .int .i64 0, .int .i64 0, .bool false] 35)).cell? ⟨w.heap.size, o, none⟩ := fun o => hb3.cell (p := ⟨w.heap.size, o, none⟩) (by simp)
  have hf : ∀ o, w1.frozen? ⟨w.heap.size, o, none⟩ = (w.alloc (.cells #[.int .i64 0, .int .i64 0, .int .i64 0, .bool false] 35)).frozen? ⟨w.heap.size, o, none⟩ := fun o => hb3.frozen (p := ⟨w.heap.size, o, none⟩) (by simp)
  have H1 := Lib.hid (HB.out.later hb3)
  have B1 : Hid (Below w.heap.size w w1) := (below_alloc1 w _).trans (hb3.mono (by simp))
  clear hb3 p1
  go_wp2
  refine bodyPost_ret (v := .tuple #[.agg #[.int .i64 0, .int .i64 0, .int .i64 0, .bool false], .int .i64 6]) (by simp [results, Try.results21, go_sem, hc, hz]) rfl ⟨rfl, ?_, ?_⟩
  · exact (H1.out.other4 (by omega) (by omega) _ _ _ _).later (below_alloc1 _ _)
  · exact ((Only2.of_below B1.out).set4 (Nat.le_refl _) _ _ _ _).alloc _

set_option maxRecDepth 100000 in
set_option maxHeartbeats 4000000 in
theorem refStep_state (h : RefAt w b tb a cap tcap s) (hth : ThreadsAt w a s.p.threads) (ok : s.Ok F) (t : Nat) (i : Ins) (hi : s.ins t = some i) (hm : s.may t = false) : Calls Try.prog 21 #[.pointer (some ⟨b, 0, none⟩), .int .i64 t] w fun e w' => e = .returned (stepV (s.step t)) ∧ RefAt w' b tb a cap tcap (s.step t).2.2 ∧ Only2 b tb w w' := by
  obtain ⟨k, hkk, ht⟩ := St.ins_nat hi
  obtain rfl : t = k := by omega
  have hst : s.step t = (9, ev0, s) := by
    unfold St.step
    rw [if_pos (by unfold St.has; omega), hi]
    simp only [hm]
    rfl
  have hn : s.next t = some (s.ev t i) := by unfold St.next; rw [hi]; rfl
  rw [hst, stepV_err]
  obtain ⟨e, he⟩ : ∃ e, e = s.ev t i := ⟨_, rfl⟩
  rw [← he] at hn
  have p1 := h.prog.2
  have hl := h.lt
  obtain ⟨hb1, hb2⟩ := hl
  have h4 := ok.len4
  have q0 : decide ((t : Int) < 0) = false := by simp
  have q1 : decide ((s.ts.length : Int) ≤ t) = false := by simp; omega
  have q2 : decide (s.ts.length ≤ t) = false := by simp; omega
  have HB := Lib.hid (h.later (below_alloc1 w (.cells #[.int .i64 0, .int .i64 0, .int .i64 0, .bool false] 35)))
  have HTH := Lib.hid (hth.later (below_alloc1 w (.cells #[.int .i64 0, .int .i64 0, .int .i64 0, .bool false] 35)))
  have OK := Lib.hid ok
  have HN := Lib.hid hn
  have HM := Lib.hid hm
  clear hst h hth ok hi hn he hkk hm
  go_enter Try.func21, Try.ntmps21
  go_wp2_with fail
  refine (refNext_any HB.out HTH.out OK.out t).mono ?_
  rw [HN.out, evR_some]
  rintro r w1 ⟨rfl, hb3⟩
  have hz : w.heap.size < w1.heap.size := by have := hb3.size; simp at this; omega
  have hc : ∀ o, w1.cell? ⟨w.heap.size, o, none⟩ = (w.alloc (.cells #[.int .i64 0, .int .i64 0, .int .i64 0, .bool false] 35)).cell? ⟨w.heap.size, o, none⟩ := fun o => hb3.cell (p := ⟨w.heap.size, o, none⟩) (by simp)
  have hf : ∀ o, w1.frozen? ⟨w.heap.size, o, none⟩ = (w.alloc (.cells #[.int .i64 0, .int .i64 0, .int .i64 0, .bool false] 35)).frozen? ⟨w.heap.size, o, none⟩ := fun o => hb3.frozen (p := ⟨w.heap.size, o, none⟩) (by simp)
  have H1 := Lib.hid ((HB.out.later hb3).later (below_alloc1 w1 (.cells #[.int .i64 e.thread, .int .i64 e.kind, .int .i64 e.obj, .bool e.fail] 35)))
  have T1 := Lib.hid ((HTH.out.later hb3).later (below_alloc1 w1 (.cells #[.int .i64 e.thread, .int .i64 e.kind, .int .i64 e.obj, .bool e.fail] 35)))
  have B1 : Hid (Below w.heap.size w w1) := (below_alloc1 w _).trans (hb3.mono (by simp))
  clear hb3 p1
  go_wp2_with fail
  refine (refEnabled_any H1.out T1.out OK.out t).mono ?_
  rw [HM.out]
  rintro r w2 ⟨rfl, hb4⟩
  have B2 : Hid (Below w1.heap.size w1 w2) := (below_alloc1 w1 _).trans (hb4.mono (by simp))
  have hz2 : w.heap.size < w2.heap.size := by have := B2.out.size; omega
  have hc2 : ∀ o, w2.cell? ⟨w.heap.size, o, none⟩ = w1.cell? ⟨w.heap.size, o, none⟩ := fun o => B2.out.cell (p := ⟨w.heap.size, o, none⟩) hz
  have hf2 : ∀ o, w2.frozen? ⟨w.heap.size, o, none⟩ = w1.frozen? ⟨w.heap.size, o, none⟩ := fun o => B2.out.frozen (p := ⟨w.heap.size, o, none⟩) hz
  have H2 := Lib.hid (H1.out.later hb4)
  clear hb4
  go_wp2
  refine bodyPost_ret (v := .tuple #[.agg #[.int .i64 0, .int .i64 0, .int .i64 0, .bool false], .int .i64 9]) (by simp [results, Try.results21, go_sem, hc, hc2]) rfl ⟨rfl, ?_, ?_⟩
  · exact H2.out.other4 (by omega) (by omega) _ _ _ _
  · exact (Only2.of_below (B1.out.trans (B2.out.mono (by omega)))).set4 (Nat.le_refl _) _ _ _ _
end
end Go.Proofs.Ytgofbejohihljaa
