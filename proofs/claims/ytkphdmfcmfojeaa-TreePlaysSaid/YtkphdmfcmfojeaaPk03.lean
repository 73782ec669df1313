import Derived.Laws.CopyOwn
import Derived.Deep.WholeRow
import Derived.Maps.OwnOps
import Derived.Maps.OwnSet
import Derived.Maps.Views
import Derived.Lib.SliceRun
import Derived.Deep.OwnRows
import Derived.Test.YtkphdmfcmfojeaaPk01
import Derived.Test.YtkphdmfcmfojeaaPk02

/- The contract of Step. -/
namespace Go.Proofs.Ytkphdmfcmfojeaa
open Go.RowKit

def stepV (x : Int × Ev × St) : Value := .tuple #[evV x.2.1, .int .i64 x.1]
theorem stepV_err (e : Int) (s : St) : stepV (e, ev0, s) = .tuple #[.agg #[.int .i64 0, .int .i64 0, .int .i64 0, .bool false], .int .i64 e] := rfl
theorem stepV_ok (e : Ev) (s : St) : stepV (0, e, s) = .tuple #[.agg #[.int .i64 e.thread, .int .i64 e.kind, .int .i64 e.obj, .bool e.fail], .int .i64 0] := rfl

set_option maxRecDepth 100000 in
set_option maxHeartbeats 2000000 in
theorem step_range {F : Nat} {s : St} {b : Nat} {w : World} (h : StAt w b s) (_ok : s.Ok F) (t : Int) (hb : belowB t s.ts.length = false) :
    Calls Try.prog 84 #[.pointer (some ⟨b, 0, none⟩), .int .i64 t] w fun e w' => e = .returned (stepV (s.step t)) ∧ StAt w' b (s.step t).2.2 ∧ Only b w w' := by
  have hst : s.step t = (2, ev0, s) := by
    unfold St.step
    rw [if_neg (fun e => by unfold St.has at e; simp [belowB] at hb; omega)]
  rw [hst, stepV_err]
  have hbl := h.lt
  have c0 := h.num 0 (by omega)
  rw [stNum_threads] at c0
  have HB := Lib.hid (h.later (below_alloc1 w (.cells #[.int .i64 0, .int .i64 0, .int .i64 0, .bool false] 128)))
  clear hst h
  go_enter Try.func84, Try.ntmps84
  go_wp2_with (go_at_call 74; refine (sbelow_any _ _ _).mono ?_; rintro r w' ⟨rfl, rfl⟩)
  refine bodyPost_ret (v := .tuple #[.agg #[.int .i64 0, .int .i64 0, .int .i64 0, .bool false], .int .i64 2]) (by simp [results, Try.results84, go_sem]) rfl ⟨rfl, ?_, ?_⟩
  · exact HB.out
  · exact only_alloc b w _

set_option maxRecDepth 100000 in
set_option maxHeartbeats 2000000 in
theorem step_none {F : Nat} {s : St} {b : Nat} {w : World} (h : StAt w b s) (ok : s.Ok F) (t : Int) (hb : belowB t s.ts.length = true) (hi : s.ins t = none) :
    Calls Try.prog 84 #[.pointer (some ⟨b, 0, none⟩), .int .i64 t] w fun e w' => e = .returned (stepV (s.step t)) ∧ StAt w' b (s.step t).2.2 ∧ Only b w w' := by
  have hst : s.step t = (6, ev0, s) := by
    unfold St.step
    rw [if_pos (by unfold St.has; simpa [belowB] using hb), hi]
  rw [hst, stepV_err]
  have hbl := h.lt
  have c0 := h.num 0 (by omega)
  rw [stNum_threads] at c0
  have HB := Lib.hid (h.later (below_alloc1 w (.cells #[.int .i64 0, .int .i64 0, .int .i64 0, .bool false] 128)))
  have OK := Lib.hid ok
  have HI := Lib.hid hi
  clear hst h ok hi
  go_enter Try.func84, Try.ntmps84
  go_wp2_with (go_at_call 74; refine (sbelow_any _ _ _).mono ?_; rintro r w' ⟨rfl, rfl⟩)
  refine (instr_any HB.out OK.out t).mono ?_
  rw [HI.out, insR_none]
  rintro r w1 ⟨rfl, hb1⟩
  have hz : w.heap.size < w1.heap.size := by have := hb1.size; simp at this; omega
  have hc : ∀ o, w1.cell? ⟨w.heap.size, o, none⟩ = (w.alloc (.cells #[.int .i64 0, .int .i64 0, .int .i64 0, .bool false] 128)).cell? ⟨w.heap.size, o, none⟩ := fun o => hb1.cell (p := ⟨w.heap.size, o, none⟩) (by simp)
  have hf : ∀ o, w1.frozen? ⟨w.heap.size, o, none⟩ = (w.alloc (.cells #[.int .i64 0, .int .i64 0, .int .i64 0, .bool false] 128)).frozen? ⟨w.heap.size, o, none⟩ := fun o => hb1.frozen (p := ⟨w.heap.size, o, none⟩) (by simp)
  have H1 := Lib.hid (HB.out.later hb1)
  have O1 := Lib.hid ((only_alloc b w (.cells #[.int .i64 0, .int .i64 0, .int .i64 0, .bool false] 128)).trans (.of_below hb1))
  have B1 : Hid (Below w.heap.size w w1) := (below_alloc1 w _).trans (hb1.mono (by simp))
  clear hb1 c0
  go_wp2
  refine bodyPost_ret (v := .tuple #[.agg #[.int .i64 0, .int .i64 0, .int .i64 0, .bool false], .int .i64 6]) (by simp [results, Try.results84, go_sem, hc, hz]) rfl ⟨rfl, ?_, ?_⟩
  · exact (H1.out.other4 (by omega) _ _ _ _).later (below_alloc1 _ _)
  · exact (O1.out.set4 (Nat.le_refl _) _ _ _ _).alloc _

set_option maxRecDepth 100000 in
set_option maxHeartbeats 4000000 in
theorem step_state {F : Nat} {s : St} {b : Nat} {w : World} (h : StAt w b s) (ok : s.Ok F) (t : Nat) (i : Ins) (hi : s.ins t = some i) (hm : s.may t = false) :
    Calls Try.prog 84 #[.pointer (some ⟨b, 0, none⟩), .int .i64 t] w fun e w' => e = .returned (stepV (s.step t)) ∧ StAt w' b (s.step t).2.2 ∧ Only b w w' := by
  obtain ⟨k, hkk, ht⟩ := St.ins_nat hi
  obtain rfl : t = k := by omega
  have hb : belowB t s.ts.length = true := by simp [belowB]; omega
  have hn : s.next t = some (s.ev t i) := by unfold St.next; rw [hi]; rfl
  have hst : s.step t = (9, ev0, s) := by
    unfold St.step
    rw [if_pos (by unfold St.has; omega), hi]
    simp only [hm]
    rfl
  rw [hst, stepV_err]
  clear hst
  have hbl := h.lt
  have c0 := h.num 0 (by omega)
  rw [stNum_threads] at c0
  have HB := Lib.hid (h.later (below_alloc1 w (.cells #[.int .i64 0, .int .i64 0, .int .i64 0, .bool false] 128)))
  have OK := Lib.hid ok
  have HI := Lib.hid hi
  have HM := Lib.hid hm
  obtain ⟨e, he⟩ : ∃ e, e = s.ev t i := ⟨_, rfl⟩
  rw [← he] at hn
  have HE := Lib.hid he
  have HN := Lib.hid hn
  clear h ok hi hkk hm he hn
  go_enter Try.func84, Try.ntmps84
  go_wp2_with (go_at_call 74; refine (sbelow_any _ _ _).mono ?_; rintro r w' ⟨rfl, rfl⟩)
  refine (instr_any HB.out OK.out t).mono ?_
  rw [HI.out, insR_some]
  rintro r w1 ⟨rfl, hb1⟩
  have hz : w.heap.size < w1.heap.size := by have := hb1.size; simp at this; omega
  have hc : ∀ o, w1.cell? ⟨w.heap.size, o, none⟩ = (w.alloc (.cells #[.int .i64 0, .int .i64 0, .int .i64 0, .bool false] 128)).cell? ⟨w.heap.size, o, none⟩ := fun o => hb1.cell (p := ⟨w.heap.size, o, none⟩) (by simp)
  have hf : ∀ o, w1.frozen? ⟨w.heap.size, o, none⟩ = (w.alloc (.cells #[.int .i64 0, .int .i64 0, .int .i64 0, .bool false] 128)).frozen? ⟨w.heap.size, o, none⟩ := fun o => hb1.frozen (p := ⟨w.heap.size, o, none⟩) (by simp)
  have H1 := Lib.hid ((HB.out.later hb1).later (below_alloc1 w1 (.cells #[.int .i64 i.kind, .int .i64 i.r, .int .i64 i.x, .int .i64 i.n] 94)))
  have B1 : Hid (Below w.heap.size w w1) := (below_alloc1 w _).trans (hb1.mono (by simp))
  clear hb1 c0 HB
  go_wp2_with fail
  refine (event_of H1.out OK.out HI.out).mono ?_
  rw [← HE.out, evV]
  rintro r w2 ⟨rfl, hb2⟩
  have hz2 : w1.heap.size < w2.heap.size := by have := hb2.size; simp at this; omega
  have hz3 : w.heap.size < w2.heap.size := by omega
  have B2 : Hid (Below w1.heap.size w1 w2) := (below_alloc1 w1 _).trans (hb2.mono (by simp))
  have hc2 : ∀ o, w2.cell? ⟨w.heap.size, o, none⟩ = w1.cell? ⟨w.heap.size, o, none⟩ := fun o => B2.out.cell (p := ⟨w.heap.size, o, none⟩) hz
  have hf2 : ∀ o, w2.frozen? ⟨w.heap.size, o, none⟩ = w1.frozen? ⟨w.heap.size, o, none⟩ := fun o => B2.out.frozen (p := ⟨w.heap.size, o, none⟩) hz
  have hd2 : ∀ o, w2.cell? ⟨w1.heap.size, o, none⟩ = (w1.alloc (.cells #[.int .i64 i.kind, .int .i64 i.r, .int .i64 i.x, .int .i64 i.n] 94)).cell? ⟨w1.heap.size, o, none⟩ := fun o => hb2.cell (p := ⟨w1.heap.size, o, none⟩) (by simp)
  have H2 := Lib.hid ((H1.out.later hb2).later (below_alloc1 w2 (.cells #[.int .i64 e.thread, .int .i64 e.kind, .int .i64 e.obj, .bool e.fail] 128)))
  clear hb2 H1
  go_wp2_with fail
  refine (may_of H2.out OK.out HN.out).mono ?_
  rw [HM.out]
  rintro r w3 ⟨rfl, hb3⟩
  have hz4 : w2.heap.size < w3.heap.size := by have := hb3.size; simp at this; omega
  have hz5 : w1.heap.size < w3.heap.size := by omega
  have hz6 : w.heap.size < w3.heap.size := by omega
  have B3 : Hid (Below w2.heap.size w2 w3) := (below_alloc1 w2 _).trans (hb3.mono (by simp))
  have hc3 : ∀ o, w3.cell? ⟨w.heap.size, o, none⟩ = w2.cell? ⟨w.heap.size, o, none⟩ := fun o => B3.out.cell (p := ⟨w.heap.size, o, none⟩) hz3
  have hf3 : ∀ o, w3.frozen? ⟨w.heap.size, o, none⟩ = w2.frozen? ⟨w.heap.size, o, none⟩ := fun o => B3.out.frozen (p := ⟨w.heap.size, o, none⟩) hz3
  have hd3 : ∀ o, w3.cell? ⟨w1.heap.size, o, none⟩ = w2.cell? ⟨w1.heap.size, o, none⟩ := fun o => B3.out.cell (p := ⟨w1.heap.size, o, none⟩) hz2
  have he3 : ∀ o, w3.cell? ⟨w2.heap.size, o, none⟩ = (w2.alloc (.cells #[.int .i64 e.thread, .int .i64 e.kind, .int .i64 e.obj, .bool e.fail] 128)).cell? ⟨w2.heap.size, o, none⟩ := fun o => hb3.cell (p := ⟨w2.heap.size, o, none⟩) (by simp)
  have H3 := Lib.hid (H2.out.later hb3)
  have W3 : Hid (Below w.heap.size w w3) := (B1.out.trans (B2.out.mono (by omega))).trans (B3.out.mono (by omega))
  clear hb3 H2
  go_wp2
  refine bodyPost_ret (v := .tuple #[.agg #[.int .i64 0, .int .i64 0, .int .i64 0, .bool false], .int .i64 9]) (by simp [results, Try.results84, go_sem, hc, hc2, hc3]) rfl ⟨rfl, ?_, ?_⟩
  · exact H3.out.other4 (by omega) _ _ _ _
  · exact (Only.of_below W3.out).set4 (Nat.le_refl _) _ _ _ _

set_option maxRecDepth 100000 in
set_option maxHeartbeats 4000000 in
theorem step_done {F : Nat} {s : St} {b : Nat} {w : World} (h : StAt w b s) (ok : s.Ok F) (t : Nat) (i : Ins) (hi : s.ins t = some i) (hm : s.may t = true) :
    Calls Try.prog 84 #[.pointer (some ⟨b, 0, none⟩), .int .i64 t] w fun e w' => e = .returned (stepV (s.step t)) ∧ StAt w' b (s.step t).2.2 ∧ Only b w w' := by
  obtain ⟨k, hkk, ht⟩ := St.ins_nat hi
  obtain rfl : t = k := by omega
  have hb : belowB t s.ts.length = true := by simp [belowB]; omega
  have hn : s.next t = some (s.ev t i) := by unfold St.next; rw [hi]; rfl
  have hst : s.step t = (0, s.ev t i, s.do_ t i) := by
    unfold St.step
    rw [if_pos (by unfold St.has; omega), hi]
    simp only [hm]
    rfl
  rw [hst, stepV_ok]
  clear hst
  dsimp only
  have hbl := h.lt
  have c0 := h.num 0 (by omega)
  rw [stNum_threads] at c0
  have HB := Lib.hid (h.later (below_alloc1 w (.cells #[.int .i64 0, .int .i64 0, .int .i64 0, .bool false] 128)))
  have OK := Lib.hid ok
  have HI := Lib.hid hi
  have HM := Lib.hid hm
  obtain ⟨e, he⟩ : ∃ e, e = s.ev t i := ⟨_, rfl⟩
  rw [← he] at hn ⊢
  have HE := Lib.hid he
  have HN := Lib.hid hn
  clear h ok hi hkk hm he hn
  go_enter Try.func84, Try.ntmps84
  go_wp2_with (go_at_call 74; refine (sbelow_any _ _ _).mono ?_; rintro r w' ⟨rfl, rfl⟩)
  refine (instr_any HB.out OK.out t).mono ?_
  rw [HI.out, insR_some]
  rintro r w1 ⟨rfl, hb1⟩
  have hz : w.heap.size < w1.heap.size := by have := hb1.size; simp at this; omega
  have hc : ∀ o, w1.cell? ⟨w.heap.size, o, none⟩ = (w.alloc (.cells #[.int .i64 0, .int .i64 0, .int .i64 0, .bool false] 128)).cell? ⟨w.heap.size, o, none⟩ := fun o => hb1.cell (p := ⟨w.heap.size, o, none⟩) (by simp)
  have hf : ∀ o, w1.frozen? ⟨w.heap.size, o, none⟩ = (w.alloc (.cells #[.int .i64 0, .int .i64 0, .int .i64 0, .bool false] 128)).frozen? ⟨w.heap.size, o, none⟩ := fun o => hb1.frozen (p := ⟨w.heap.size, o, none⟩) (by simp)
  have H1 := Lib.hid ((HB.out.later hb1).later (below_alloc1 w1 (.cells #[.int .i64 i.kind, .int .i64 i.r, .int .i64 i.x, .int .i64 i.n] 94)))
  have B1 : Hid (Below w.heap.size w w1) := (below_alloc1 w _).trans (hb1.mono (by simp))
  clear hb1 c0 HB
  go_wp2_with fail
  refine (event_of H1.out OK.out HI.out).mono ?_
  rw [← HE.out, evV]
  rintro r w2 ⟨rfl, hb2⟩
  have hz2 : w1.heap.size < w2.heap.size := by have := hb2.size; simp at this; omega
  have hz3 : w.heap.size < w2.heap.size := by omega
  have B2 : Hid (Below w1.heap.size w1 w2) := (below_alloc1 w1 _).trans (hb2.mono (by simp))
  have hc2 : ∀ o, w2.cell? ⟨w.heap.size, o, none⟩ = w1.cell? ⟨w.heap.size, o, none⟩ := fun o => B2.out.cell (p := ⟨w.heap.size, o, none⟩) hz
  have hf2 : ∀ o, w2.frozen? ⟨w.heap.size, o, none⟩ = w1.frozen? ⟨w.heap.size, o, none⟩ := fun o => B2.out.frozen (p := ⟨w.heap.size, o, none⟩) hz
  have hd2 : ∀ o, w2.cell? ⟨w1.heap.size, o, none⟩ = (w1.alloc (.cells #[.int .i64 i.kind, .int .i64 i.r, .int .i64 i.x, .int .i64 i.n] 94)).cell? ⟨w1.heap.size, o, none⟩ := fun o => hb2.cell (p := ⟨w1.heap.size, o, none⟩) (by simp)
  have H2 := Lib.hid ((H1.out.later hb2).later (below_alloc1 w2 (.cells #[.int .i64 e.thread, .int .i64 e.kind, .int .i64 e.obj, .bool e.fail] 128)))
  clear hb2 H1
  go_wp2_with fail
  refine (may_of H2.out OK.out HN.out).mono ?_
  rw [HM.out]
  rintro r w3 ⟨rfl, hb3⟩
  have hz4 : w2.heap.size < w3.heap.size := by have := hb3.size; simp at this; omega
  have hz5 : w1.heap.size < w3.heap.size := by omega
  have hz6 : w.heap.size < w3.heap.size := by omega
  have B3 : Hid (Below w2.heap.size w2 w3) := (below_alloc1 w2 _).trans (hb3.mono (by simp))
  have hc3 : ∀ o, w3.cell? ⟨w.heap.size, o, none⟩ = w2.cell? ⟨w.heap.size, o, none⟩ := fun o => B3.out.cell (p := ⟨w.heap.size, o, none⟩) hz3
  have hf3 : ∀ o, w3.frozen? ⟨w.heap.size, o, none⟩ = w2.frozen? ⟨w.heap.size, o, none⟩ := fun o => B3.out.frozen (p := ⟨w.heap.size, o, none⟩) hz3
  have hd3 : ∀ o, w3.cell? ⟨w1.heap.size, o, none⟩ = w2.cell? ⟨w1.heap.size, o, none⟩ := fun o => B3.out.cell (p := ⟨w1.heap.size, o, none⟩) hz2
  have he3 : ∀ o, w3.cell? ⟨w2.heap.size, o, none⟩ = (w2.alloc (.cells #[.int .i64 e.thread, .int .i64 e.kind, .int .i64 e.obj, .bool e.fail] 128)).cell? ⟨w2.heap.size, o, none⟩ := fun o => hb3.cell (p := ⟨w2.heap.size, o, none⟩) (by simp)
  have H3 := Lib.hid (H2.out.later hb3)
  have W3 : Hid (Below w.heap.size w w3) := (B1.out.trans (B2.out.mono (by omega))).trans (B3.out.mono (by omega))
  clear hb3 H2
  go_wp2_with fail
  refine (do_any H3.out OK.out t i HI.out).mono ?_
  rintro r w4 ⟨rfl, hs4, ho4⟩
  have hz7 : w2.heap.size < w4.heap.size := by have := ho4.size; omega
  have hz8 : w.heap.size < w4.heap.size := by omega
  have cl : ∀ g o, g < w3.heap.size → g ≠ b → w4.cell? ⟨g, o, none⟩ = w3.cell? ⟨g, o, none⟩ := fun g o hg hgb => World.cell?_of_block (w := w3) (ho4.block g hg hgb)
  have fl : ∀ g o, g < w3.heap.size → g ≠ b → w4.frozen? ⟨g, o, none⟩ = w3.frozen? ⟨g, o, none⟩ := fun g o hg hgb => World.frozen?_of_block (w := w3) (ho4.block g hg hgb)
  have hc4 : ∀ o, w4.cell? ⟨w.heap.size, o, none⟩ = w3.cell? ⟨w.heap.size, o, none⟩ := fun o => cl _ o hz6 (by omega)
  have hf4 : ∀ o, w4.frozen? ⟨w.heap.size, o, none⟩ = w3.frozen? ⟨w.heap.size, o, none⟩ := fun o => fl _ o hz6 (by omega)
  have he4 : ∀ o, w4.cell? ⟨w2.heap.size, o, none⟩ = w3.cell? ⟨w2.heap.size, o, none⟩ := fun o => cl _ o hz4 (by omega)
  have HS := Lib.hid hs4
  have HO := Lib.hid ho4
  clear hs4 ho4 cl fl
  go_wp2
  refine bodyPost_ret (v := .tuple #[.agg #[.int .i64 e.thread, .int .i64 e.kind, .int .i64 e.obj, .bool e.fail], .int .i64 0]) (by simp [results, Try.results84, go_sem, hc, hc2, hc3, hc4]) rfl ⟨rfl, ?_, ?_⟩
  · exact HS.out.other4 (by omega) _ _ _ _
  · exact (Only.trans (.of_below W3.out) HO.out).set4 (Nat.le_refl _) _ _ _ _

theorem step_any {F : Nat} {s : St} {b : Nat} {w : World} (h : StAt w b s) (ok : s.Ok F) (t : Int) :
    Calls Try.prog 84 #[.pointer (some ⟨b, 0, none⟩), .int .i64 t] w fun e w' => e = .returned (stepV (s.step t)) ∧ StAt w' b (s.step t).2.2 ∧ Only b w w' := by
  cases hb : belowB t s.ts.length
  · exact step_range h ok t hb
  · cases hi : s.ins t with
    | none => exact step_none h ok t hb hi
    | some i =>
      obtain ⟨k, rfl, _⟩ := St.ins_nat hi
      cases hm : s.may k
      · exact step_state h ok k i hi hm
      · exact step_done h ok k i hi hm

end Go.Proofs.Ytkphdmfcmfojeaa

/- The cells of rows of instructions. -/
namespace Go.Proofs.Ytkphdmfcmfojeaa
open Go.RowKit

def insCells (l : List Ins) : List Value := l.flatMap fun i => [.int .i64 i.kind, .int .i64 i.r, .int .i64 i.x, .int .i64 i.n]

theorem insCells_length (l : List Ins) : (insCells l).length = l.length * 4 := by
  induction l with
  | nil => rfl
  | cons i l ih => simp only [insCells, List.flatMap_cons, List.length_append, List.length_cons, List.length_nil] at *; omega

theorem insCells_get (l : List Ins) (i j : Nat) (h : i < l.length) (hj : j < 4) :
    (insCells l)[i * 4 + j]? = [Value.int .i64 l[i].kind, .int .i64 l[i].r, .int .i64 l[i].x, .int .i64 l[i].n][j]? := by
  induction l generalizing i with
  | nil => simp at h
  | cons x l ih =>
    cases i with
    | zero =>
      simp only [insCells, List.flatMap_cons, Nat.zero_mul, Nat.zero_add, List.getElem_cons_zero]
      rw [List.getElem?_append_left (by simpa using hj)]
    | succ i =>
      have := ih i (by simpa using h)
      simp only [insCells, List.flatMap_cons, List.getElem_cons_succ] at *
      rw [List.getElem?_append_right (by simp; omega), ← this]
      congr 1
      simp
      omega

theorem insCells_one (l : List Ins) : ∀ v ∈ insCells l, v.oneCell' = true := by
  intro v hv
  simp only [insCells, List.mem_flatMap] at hv
  obtain ⟨i, _, hv⟩ := hv
  simp at hv
  rcases hv with rfl | rfl | rfl | rfl <;> rfl

/-- The cells of a code that lies in memory. -/
theorem CodeAt.cells {w : World} {b o : Nat} {l : List Ins} (h : CodeAt w (some ⟨b, o, none⟩) l) :
    ∀ j v, (insCells l)[j]? = some v → w.cell? (Addr.add ⟨b, o, none⟩ j) = some v := by
  intro j v hv
  have hj : j < (insCells l).length := (List.getElem?_eq_some_iff.1 hv).1
  rw [insCells_length] at hj
  have hlt : j / 4 < l.length := by omega
  obtain ⟨b', o', e, hc⟩ := h.2 (by intro e; simp [e] at hlt)
  obtain ⟨rfl, rfl⟩ : b = b' ∧ o = o' := by simpa using e
  obtain ⟨c0, c1, c2, c3⟩ := hc (j / 4) hlt
  have ej : j / 4 * 4 + j % 4 = j := by omega
  have hm : j % 4 < 4 := by omega
  have := insCells_get l (j / 4) (j % 4) hlt hm
  rw [ej, hv] at this
  have ha : Addr.add ⟨b, o, none⟩ j = ⟨b, o + j / 4 * 4 + j % 4, none⟩ := by
    unfold Addr.add
    split
    · rename_i h0; subst h0; rfl
    · simp; omega
  rw [ha]
  obtain h | h | h | h : j % 4 = 0 ∨ j % 4 = 1 ∨ j % 4 = 2 ∨ j % 4 = 3 := by omega
  all_goals
    rw [h] at this ⊢
    simp at this
    subst this
    first | exact c0 | exact c1 | exact c2 | exact c3

/-- A row of the cells of a code is that code. -/
theorem codeAt_row {w : World} {g : Nat} {l : List Ins} {t : TypeId} {fr : Nat × Nat} (hm : l.length ≤ maxLen) (h : w.heap[g]? = some (.cells (insCells l).toArray t fr)) : CodeAt w (some ⟨g, 0, none⟩) l := by
  refine ⟨hm, fun _ => ⟨g, 0, rfl, fun i hi => ?_⟩⟩
  have e : ∀ j, w.cell? ⟨g, j, none⟩ = (insCells l)[j]? := by intro j; simp [World.cell?, h]
  refine ⟨?_, ?_, ?_, ?_⟩
  · rw [e]; simpa using insCells_get l i 0 hi (by omega)
  · rw [e]; simpa using insCells_get l i 1 hi (by omega)
  · rw [e]; simpa using insCells_get l i 2 hi (by omega)
  · rw [e]; simpa using insCells_get l i 3 hi (by omega)

end Go.Proofs.Ytkphdmfcmfojeaa

/- Plain numbers for New: a state that is being laid. -/
namespace Go.Proofs.Ytkphdmfcmfojeaa
open Go.RowKit

def insNums (l : List Ins) : List Int := l.flatMap fun i => [i.kind, i.r, i.x, i.n]
theorem insNums_cells (l : List Ins) : insCells l = (insNums l).map (Value.int .i64) := by
  simp [insCells, insNums, List.map_flatMap]
theorem insNums_length (l : List Ins) : (insNums l).length = l.length * 4 := by
  have := insCells_length l
  rw [insNums_cells] at this
  simpa using this
theorem insNums_get (l : List Ins) (j : Nat) : (insNums l).getD j 0 = insNum (l.getD (j / 4) ins0) (j % 4) := by
  induction l generalizing j with
  | nil =>
    simp [insNums]
    unfold insNum ins0
    repeat' split
    all_goals rfl
  | cons i l ih =>
    by_cases h : j < 4
    · rw [show j / 4 = 0 by omega, show j % 4 = j by omega]
      obtain rfl | rfl | rfl | rfl : j = 0 ∨ j = 1 ∨ j = 2 ∨ j = 3 := by omega
      all_goals rfl
    · obtain ⟨k, rfl⟩ : ∃ k, j = k + 4 := ⟨j - 4, by omega⟩
      rw [show (k + 4) / 4 = k / 4 + 1 by omega, show (k + 4) % 4 = k % 4 by omega]
      exact ih k

/-- In block g lie the numbers f. -/
def NumAt (w : World) (g : Nat) (f : Nat → Int) : Prop := w.heap[g]? = some (.cells (numA f) 153 (0, 0))
theorem NumAt.lt {w : World} {g : Nat} {f : Nat → Int} (h : NumAt w g f) : g < w.heap.size := (Array.getElem?_eq_some_iff.1 h).1
theorem NumAt.cell {w : World} {g : Nat} {f : Nat → Int} (h : NumAt w g f) (o : Nat) (ho : o < 156) : w.cell? ⟨g, o, none⟩ = some (.int .i64 (f o)) := by
  rw [cell_of_row w g o _ _ _ h, numA_get _ _ ho]
theorem NumAt.frozen {w : World} {g : Nat} {f : Nat → Int} (h : NumAt w g f) (o : Nat) : w.frozen? ⟨g, o, none⟩ = false := by
  simp [World.frozen?, show w.heap[g]? = _ from h]
theorem NumAt.set {w : World} {g : Nat} {f : Nat → Int} (h : NumAt w g f) (f' : Nat → Int) (o : Nat) (n : Int) (ho : o < 156) (hs : ∀ j, j < 156 → f' j = if j = o then n else f j) : NumAt (w.setCell ⟨g, o, none⟩ (.int .i64 n)) g f' := by
  have := heap_setCell_same w g o _ _ (.int .i64 n) h
  rw [numA_set _ _ o n ho hs] at this
  exact this

theorem numA_splice (f f1 : Nat → Int) (o : Nat) (vs : List Int) (h : ∀ j, j < 156 → f1 j = if o ≤ j ∧ j < o + vs.length then vs.getD (j - o) 0 else f j) (ho : o + vs.length ≤ 156) :
    ((numA f).toList.take o ++ vs.map (Value.int .i64) ++ (numA f).toList.drop (o + vs.length)).toArray = numA f1 := by
  have hl : (numA f).toList.length = 156 := by simp [numA]
  apply Array.ext_getElem?
  intro j
  rw [List.getElem?_toArray]
  by_cases hj : j < 156
  · rw [numA_get f1 j hj, h j hj]
    by_cases h1 : j < o
    · rw [if_neg (by omega), List.append_assoc, List.getElem?_append_left (by simp [hl]; omega), List.getElem?_take_of_lt h1]
      have := numA_get f j hj
      simpa using this
    · by_cases h2 : j < o + vs.length
      · rw [if_pos ⟨by omega, h2⟩, List.getElem?_append_left (by simp [hl]; omega), List.getElem?_append_right (by simp [hl]; omega)]
        have e : j - ((numA f).toList.take o).length = j - o := by simp [hl]; omega
        rw [e, List.getElem?_map, List.getElem?_eq_getElem (by omega), getD_lt _ (by omega)]
        rfl
      · rw [if_neg (by omega), List.getElem?_append_right (by simp [hl]; omega), List.getElem?_drop]
        have e : o + vs.length + (j - ((numA f).toList.take o ++ vs.map (Value.int .i64)).length) = j := by simp [hl]; omega
        rw [e]
        have := numA_get f j hj
        simpa using this
  · have h1 : (numA f1)[j]? = none := Array.getElem?_eq_none (by rw [numA_size]; omega)
    rw [h1, List.getElem?_eq_none]
    simp [hl]
    omega

/-- copy(dst, src) into the middle of the block: elements of four numbers. -/
theorem run_copy_code (w : World) (g o : Nat) (f f1 : Nat → Int) (hg : NumAt w g f) (c : Option Addr) (cap : Nat) (l : List Ins) (hl : CodeAt w c l) (h8 : l.length ≤ 8) (ho : o + 32 ≤ 156)
    (h : ∀ j, j < 156 → f1 j = if o ≤ j ∧ j < o + l.length * 4 then insNum (l.getD ((j - o) / 4) ins0) ((j - o) % 4) else f j) :
    (Builtin.copy_ #[95, 95] 3 #[.slice (some ⟨g, o, none⟩) 8 8, .slice c l.length cap]).run Try.prog w = .ok (.int .i64 l.length) (w.setRow g (numA f1)) := by
  have hs : (Try.prog.info? 94).map (·.size) = some 4 := by kernel_rfl
  have hm : Nat.min l.length 8 = l.length := Nat.min_eq_left h8
  cases hq : Try.prog.info? 94 with
  | none => simp [hq] at hs
  | some i =>
    have hi : i.size = 4 := by simpa [hq] using hs
    have hst := run_storeCells_at (P := Try.prog) g o 153 (insCells l) 0 _ w hg (by rw [insCells_length, numA_size]; omega) (insCells_one l)
    have hsp := numA_splice f f1 o (insNums l) (fun j hj => by rw [h j hj, insNums_length, insNums_get]) (by rw [insNums_length]; omega)
    rw [Nat.add_zero, insNums_cells, List.length_map, hsp] at hst
    by_cases h0 : l = []
    · subst h0
      have hlc : ∀ (x : Addr), (loadCells x 0).run Try.prog w = .ok #[] w := fun x => by simpa using run_loadCells_list (P := Try.prog) w x [] (by simp)
      have hst' : (storeCells ⟨g, o, none⟩ ([] : List Value)).run Try.prog w = .ok () (w.setRow g (numA f1)) := hst
      cases c <;> simp [Builtin.copy_, run_underlying Try.underlying95, Builtin.lenOf, Builtin.firstCells, sizeOf, typeInfo, hq, hlc, hst', goInt]
    · obtain ⟨b', o', rfl, _⟩ := hl.2 h0
      have hld := run_loadCells_list (P := Try.prog) w ⟨b', o', none⟩ (insCells l) hl.cells
      rw [insCells_length] at hld
      rw [← insNums_cells] at hst
      simp [Builtin.copy_, run_underlying Try.underlying95, Builtin.lenOf, Builtin.firstCells, sizeOf, typeInfo, hq, hi, hm, hld, hst, goInt]

/-- The numbers when the first k threads are laid. -/
def newNum (p : Pg) (F k o : Nat) : Int := if o < 2 + k * 37 ∧ o < 150 then stNum (St.new p F) o else 0
/-- The numbers when all threads are, and k mutexes. -/
def newNum2 (p : Pg) (F k o : Nat) : Int := if o < 154 + k then stNum (St.new p F) o else 0

theorem new_th (p : Pg) (F k : Nat) (hk : k < p.threads.length) : (St.new p F).th k = ⟨0, F, [0, 0]⟩ := by
  unfold St.th St.new
  dsimp only
  rw [getD_lt _ (by simpa using hk)]
  simp
theorem new_th_out (p : Pg) (F k : Nat) (hk : p.threads.length ≤ k) : (St.new p F).th k = thr0 := by
  unfold St.th St.new
  simp [List.getD, hk]
theorem new_code (p : Pg) (F k : Nat) (hk : k < p.threads.length) : (St.new p F).code k = p.threads[k] := by
  unfold St.code St.new
  exact getD_lt _ hk
theorem new_code_out (p : Pg) (F k : Nat) (hk : p.threads.length ≤ k) : (St.new p F).code k = [] := by
  unfold St.code St.new
  simp [List.getD, hk]
theorem thrNum_out (k : Nat) : thrNum [] thr0 k = 0 := by
  unfold thrNum
  have e : ∀ n, insNum ins0 n = 0 := fun n => by unfold insNum ins0; repeat' split
                                                 all_goals rfl
  have e2 : ∀ n : Nat, ([0, 0] : List Int).getD n 0 = 0 := fun n => match n with | 0 => rfl | 1 => rfl | n + 2 => rfl
  dsimp only [thr0]
  by_cases h : k < 32
  · rw [if_pos h]; exact e _
  rw [if_neg h]
  by_cases h : k = 32
  · rw [if_pos h]; rfl
  rw [if_neg h]
  by_cases h : k = 33
  · rw [if_pos h]; rfl
  rw [if_neg h]
  by_cases h : k = 34
  · rw [if_pos h]; rfl
  rw [if_neg h]
  exact e2 _

theorem newNum_zero (p : Pg) (F o : Nat) : newNum p F 0 o = if o = 0 then (p.threads.length : Int) else if o = 1 then p.mutexes else 0 := by
  unfold newNum
  by_cases h0 : o = 0
  · subst h0; simp [stNum_threads, St.new]
  · by_cases h1 : o = 1
    · subst h1; simp [stNum_mutexes, St.new]
    · rw [if_neg (by omega), if_neg h0, if_neg h1]

/-- The thread k is laid: its code, then its size, then its fuel. -/
theorem newNum_succ (p : Pg) (F k : Nat) (hk : k < p.threads.length) (h4 : p.threads.length ≤ 4) (h8 : p.threads[k].length ≤ 8) (f1 f2 : Nat → Int)
    (h1 : ∀ j, j < 156 → f1 j = if 2 + k * 37 ≤ j ∧ j < 2 + k * 37 + p.threads[k].length * 4 then insNum (p.threads[k].getD ((j - (2 + k * 37)) / 4) ins0) ((j - (2 + k * 37)) % 4) else newNum p F k j)
    (h2 : ∀ j, j < 156 → f2 j = if j = 2 + k * 37 + 32 then (p.threads[k].length : Int) else f1 j) :
    ∀ j, j < 156 → newNum p F (k + 1) j = if j = 2 + k * 37 + 34 then (F : Int) else f2 j := by
  intro j hj
  rw [h2 j hj, h1 j hj]
  unfold newNum
  by_cases a : j < 2 + k * 37
  · rw [if_pos (by omega), if_neg (by omega), if_neg (by omega), if_neg (by omega), if_pos (by omega)]
  · by_cases b : j < 2 + (k + 1) * 37
    · obtain ⟨d, rfl⟩ : ∃ d, j = 2 + k * 37 + d := ⟨j - (2 + k * 37), by omega⟩
      rw [if_pos (by omega), stNum_thr _ _ _ (by omega) (by omega), new_th p F k hk, new_code p F k hk]
      have ed : 2 + k * 37 + d - (2 + k * 37) = d := by omega
      rw [ed]
      unfold thrNum
      by_cases c1 : d < 32
      · rw [if_pos c1, if_neg (by omega), if_neg (by omega)]
        by_cases c2 : d < p.threads[k].length * 4
        · rw [if_pos (by omega)]
        · rw [if_neg (by omega), if_neg (by omega)]
          have e : p.threads[k].getD (d / 4) ins0 = ins0 := by
            rw [List.getD, List.getElem?_eq_none (by omega)]; rfl
          rw [e]
          unfold insNum ins0
          repeat' split
          all_goals rfl
      · rw [if_neg c1, if_neg (c := 2 + k * 37 ≤ 2 + k * 37 + d ∧ 2 + k * 37 + d < 2 + k * 37 + p.threads[k].length * 4) (by omega), if_neg (c := 2 + k * 37 + d < 2 + k * 37 ∧ 2 + k * 37 + d < 150) (by omega)]
        obtain rfl | rfl | rfl | rfl | rfl : d = 32 ∨ d = 33 ∨ d = 34 ∨ d = 35 ∨ d = 36 := by omega
        all_goals simp
    · rw [if_neg (by omega), if_neg (by omega), if_neg (by omega), if_neg (by omega), if_neg (by omega)]

theorem newNum_all (p : Pg) (F : Nat) : ∀ j, j < 156 → newNum p F p.threads.length j = newNum2 p F 0 j := by
  intro j hj
  unfold newNum newNum2
  by_cases a : j < 2 + p.threads.length * 37 ∧ j < 150
  · rw [if_pos a, if_pos (by omega)]
  · rw [if_neg a]
    by_cases b : j < 150
    · rw [if_pos (by omega)]
      obtain ⟨d, t, rfl, ht⟩ : ∃ d t, j = 2 + t * 37 + d ∧ d < 37 := ⟨(j - 2) % 37, (j - 2) / 37, by omega, by omega⟩
      rw [stNum_thr _ _ _ (by omega) ht, new_th_out _ _ _ (by omega), new_code_out _ _ _ (by omega), thrNum_out]
    · by_cases c : j < 154
      · rw [if_pos (by omega)]
        obtain ⟨d, rfl⟩ : ∃ d, j = 150 + d := ⟨j - 150, by omega⟩
        rw [stNum_var _ _ (by omega)]
        obtain rfl | rfl | rfl | rfl : d = 0 ∨ d = 1 ∨ d = 2 ∨ d = 3 := by omega
        all_goals rfl
      · rw [if_neg (by omega)]

theorem newNum2_succ (p : Pg) (F k : Nat) (hk : k < 2) : ∀ j, j < 156 → newNum2 p F (k + 1) j = if j = 154 + k then -1 else newNum2 p F k j := by
  intro j hj
  unfold newNum2
  by_cases a : j = 154 + k
  · rw [if_pos (by omega), if_pos a, a, stNum_who]
    obtain rfl | rfl : k = 0 ∨ k = 1 := by omega
    all_goals rfl
  · rw [if_neg a]
    by_cases b : j < 154 + k
    · rw [if_pos (by omega), if_pos b]
    · rw [if_neg (by omega), if_neg b]

theorem newNum2_all (p : Pg) (F : Nat) : ∀ j, j < 156 → newNum2 p F 2 j = stNum (St.new p F) j := by
  intro j hj
  unfold newNum2
  rw [if_pos (by omega)]

end Go.Proofs.Ytkphdmfcmfojeaa

/- The contract of rightCode. -/
namespace Go.Proofs.Ytkphdmfcmfojeaa
open Go.RowKit

set_option maxRecDepth 100000 in
set_option maxHeartbeats 1000000 in
theorem rightCode_any (V M : Int) (t : Value) (a : Option Addr) (cap : Nat) (l : List Ins) (w : World) (hl : CodeAt w a l) :
    Calls Try.prog 91 #[.agg #[.int .i64 V, .int .i64 M, t], .slice a l.length cap] w fun r w' => r = .returned (.bool (rightCode V M l)) ∧ Below w.heap.size w w' := by
  have hm := hl.1
  unfold maxLen at hm
  by_cases h8 : l.length ≤ 8
  · have H : Hid (rightCode V M l = l.all (rightIns V M l.length)) := by show _ = _; simp [rightCode, h8]
    have HL := Lib.hid hl
    have h9 : decide (8 < l.length) = false := by simp; omega
    clear hl
    go_enter Try.func91, Try.ntmps91
    go_wp2
    go_loopw [12] (fun i wr => ∃ k : Nat, k ≤ l.length ∧ i = .int .i64 k ∧ Hid ((l.take k).all (rightIns V M l.length) = true) ∧ Below (w.heap.size + 1) (w.alloc (.cells #[.int .i64 V, .int .i64 M, t] 24)) wr) (fun i _ => l.length - (intOf i).toNat)
    case atStart => exact ⟨0, Nat.zero_le _, rfl, rfl, Below.refl _ _⟩
    case round =>
      obtain ⟨k, hk, rfl, hall, hb⟩ := hrel
      by_cases hlt : k < l.length
      · obtain ⟨b, o, rfl, hc⟩ := HL.out.2 (by intro e; simp [e] at hlt)
        have hbw : Below w.heap.size w wr := ((Below.refl _ _).alloc (Nat.le_refl _) _).trans (hb.mono (by omega))
        obtain ⟨c0, c1, c2, c3⟩ := hc k hlt
        have d0 := cell_later hbw c0
        have d1 := cell_later hbw c1
        have d2 := cell_later hbw c2
        have d3 := cell_later hbw c3
        have p0 : wr.cell? ⟨w.heap.size, 0, none⟩ = some (.int .i64 V) := by rw [hb.cell (p := ⟨w.heap.size, 0, none⟩) (by simp)]; simp
        have p1 : wr.cell? ⟨w.heap.size, 1, none⟩ = some (.int .i64 M) := by rw [hb.cell (p := ⟨w.heap.size, 1, none⟩) (by simp)]; simp
        have p2 : wr.cell? ⟨w.heap.size, 2, none⟩ = some t := by rw [hb.cell (p := ⟨w.heap.size, 2, none⟩) (by simp)]; simp
        have hz : w.heap.size < wr.heap.size := by have := hb.size; simp at this; omega
        clear c0 c1 c2 c3 hc
        go_wp2_with fail
        refine (rightInstr_any V M l.length (by omega) (by omega) t l[k] _).mono ?_
        rintro r w1 ⟨rfl, hb1⟩
        have hb2 : Below (w.heap.size + 1) (w.alloc (.cells #[.int .i64 V, .int .i64 M, t] 24)) w1 := (hb.alloc (by omega) _).trans (hb1.mono (by simp; omega))
        have hb3 : Below w.heap.size w w1 := ((Below.refl _ _).alloc (Nat.le_refl _) _).trans (hb2.mono (by omega))
        have ht : (l.take (k + 1)) = l.take k ++ [l[k]] := List.take_succ_eq_append_getElem hlt
        cases hr : rightIns V M l.length l[k]
        · have HR : Hid (rightCode V M l = false) := by
            show _ = _
            rw [H.out, List.all_eq_false]; exact ⟨l[k], List.getElem_mem _, by simp [hr]⟩
          clear hr ht
          go_wp2
          go_ret
          exact ⟨ret_bool HR.out.symm, hb3⟩
        · have HR : Hid ((l.take (k + 1)).all (rightIns V M l.length) = true) := by
            show _ = _
            rw [ht, List.all_append, hall.out]; simp [hr]
          clear hr ht
          go_wp2
          go_roundw
          case rel => exact ⟨k + 1, by omega, by go_num, HR, hb2⟩
          case measure => simp [intOf]; omega
      · obtain rfl : k = l.length := by omega
        have HR : Hid (rightCode V M l = true) := by
          show _ = _
          rw [H.out, ← hall.out, List.take_length]
        have hbw : Below w.heap.size w wr := ((Below.refl _ _).alloc (Nat.le_refl _) _).trans (hb.mono (by omega))
        go_wp2
        go_ret
        exact ⟨ret_bool HR.out.symm, hbw⟩
  · have H : Hid (rightCode V M l = false) := by show _ = _; simp [rightCode]; omega
    have h9 : 8 < l.length := by omega
    clear hl
    go_enter Try.func91, Try.ntmps91
    go_wp2
    go_ret
    exact ⟨ret_bool H.out.symm, below_alloc1 _ _⟩
end Go.Proofs.Ytkphdmfcmfojeaa

/- The contract of Right. -/
namespace Go.Proofs.Ytkphdmfcmfojeaa
open Go.RowKit

set_option maxRecDepth 100000 in
set_option maxHeartbeats 1000000 in
theorem right_any (p : Pg) (a : Option Addr) (cap : Nat) (w : World) (hp : ThreadsAt w a p.threads) :
    Calls Try.prog 73 #[pgV p a cap] w fun r w' => r = .returned (.bool (rightPg p)) ∧ Below w.heap.size w w' := by
  obtain ⟨V, M, ts⟩ := p
  unfold pgV
  dsimp only at *
  have hm := hp.1
  unfold maxLen at hm
  cases hV : belowB V 5
  · have H : Hid (rightPg ⟨V, M, ts⟩ = false) := by
      show _ = _
      simp [belowB] at hV
      simp [rightPg]; omega
    have HL := Lib.hid hp
    clear hp
    go_enter Try.func73, Try.ntmps73
    go_wp2_with (go_at_call 90; refine (below_any _ _ _).mono ?_; rintro r w' ⟨rfl, rfl⟩)
    go_ret
    exact ⟨ret_bool H.out.symm, below_alloc1 _ _⟩
  cases hM : belowB M 3
  · have H : Hid (rightPg ⟨V, M, ts⟩ = false) := by
      show _ = _
      simp [belowB] at hM
      simp [rightPg]; omega
    have HL := Lib.hid hp
    clear hp
    go_enter Try.func73, Try.ntmps73
    go_wp2_with (go_at_call 90; refine (below_any _ _ _).mono ?_; rintro r w' ⟨rfl, rfl⟩)
    go_ret
    exact ⟨ret_bool H.out.symm, below_alloc1 _ _⟩
  by_cases h1 : ts.length < 1
  · have H : Hid (rightPg ⟨V, M, ts⟩ = false) := by
      show _ = _
      simp [rightPg]; omega
    have HL := Lib.hid hp
    clear hp
    go_enter Try.func73, Try.ntmps73
    go_wp2_with (go_at_call 90; refine (below_any _ _ _).mono ?_; rintro r w' ⟨rfl, rfl⟩)
    go_ret
    exact ⟨ret_bool H.out.symm, below_alloc1 _ _⟩
  by_cases h4 : 4 < ts.length
  · have H : Hid (rightPg ⟨V, M, ts⟩ = false) := by
      show _ = _
      simp [rightPg]; omega
    have HL := Lib.hid hp
    clear hp
    go_enter Try.func73, Try.ntmps73
    go_wp2_with (go_at_call 90; refine (below_any _ _ _).mono ?_; rintro r w' ⟨rfl, rfl⟩)
    go_ret
    exact ⟨ret_bool H.out.symm, below_alloc1 _ _⟩
  have H : Hid (rightPg ⟨V, M, ts⟩ = ts.all (rightCode V M)) := by
    show _ = _
    simp [belowB] at hV hM
    have : decide (0 ≤ V ∧ V ≤ 4 ∧ 0 ≤ M ∧ M ≤ 2 ∧ 1 ≤ ts.length ∧ ts.length ≤ 4) = true := by simp; omega
    unfold rightPg
    dsimp only
    rw [this, Bool.true_and]
  have HL := Lib.hid hp
  clear hp
  go_enter Try.func73, Try.ntmps73
  go_wp2_with (go_at_call 90; refine (below_any _ _ _).mono ?_; rintro r w' ⟨rfl, rfl⟩)
  go_loopw [28] (fun i wr => ∃ k : Nat, k ≤ ts.length ∧ i = .int .i64 k ∧ Hid ((ts.take k).all (rightCode V M) = true) ∧ Below (w.heap.size + 1) (w.alloc (.cells #[.int .i64 V, .int .i64 M, .slice a ts.length cap] 24)) wr) (fun i _ => ts.length - (intOf i).toNat)
  case atStart => exact ⟨0, Nat.zero_le _, rfl, rfl, Below.refl _ _⟩
  case round =>
    obtain ⟨k, hk, rfl, hall, hb⟩ := hrel
    by_cases hlt : k < ts.length
    · obtain ⟨b, o, rfl, hc⟩ := HL.out.2 (by intro e; simp [e] at hlt)
      have hbw : Below w.heap.size w wr := ((Below.refl _ _).alloc (Nat.le_refl _) _).trans (hb.mono (by omega))
      obtain ⟨c, ccap, c0, c1, _⟩ := hc k hlt
      have d0 := cell_later hbw c0
      have D1 := Lib.hid (c1.later hbw)
      have p0 : wr.cell? ⟨w.heap.size, 0, none⟩ = some (.int .i64 V) := by rw [hb.cell (p := ⟨w.heap.size, 0, none⟩) (by simp)]; simp
      have p1 : wr.cell? ⟨w.heap.size, 1, none⟩ = some (.int .i64 M) := by rw [hb.cell (p := ⟨w.heap.size, 1, none⟩) (by simp)]; simp
      have p2 : wr.cell? ⟨w.heap.size, 2, none⟩ = some (.slice (some ⟨b, o, none⟩) ts.length cap) := by rw [hb.cell (p := ⟨w.heap.size, 2, none⟩) (by simp)]; simp
      have hz : w.heap.size < wr.heap.size := by have := hb.size; simp at this; omega
      clear c0 c1 hc
      go_wp2_with fail
      refine (rightCode_any V M _ c ccap ts[k] _ D1.out).mono ?_
      rintro r w1 ⟨rfl, hb1⟩
      have hb2 : Below (w.heap.size + 1) (w.alloc (.cells #[.int .i64 V, .int .i64 M, .slice (some ⟨b, o, none⟩) ts.length cap] 24)) w1 := hb.trans (hb1.mono (by omega))
      have hb3 : Below w.heap.size w w1 := ((Below.refl _ _).alloc (Nat.le_refl _) _).trans (hb2.mono (by omega))
      have ht : (ts.take (k + 1)) = ts.take k ++ [ts[k]] := List.take_succ_eq_append_getElem hlt
      cases hr : rightCode V M ts[k]
      · have HR : Hid (rightPg ⟨V, M, ts⟩ = false) := by
          show _ = _
          rw [H.out, List.all_eq_false]; exact ⟨ts[k], List.getElem_mem _, by simp [hr]⟩
        clear hr ht
        go_wp2
        go_ret
        exact ⟨ret_bool HR.out.symm, hb3⟩
      · have HR : Hid ((ts.take (k + 1)).all (rightCode V M) = true) := by
          show _ = _
          rw [ht, List.all_append, hall.out]; simp [hr]
        clear hr ht
        go_wp2
        go_roundw
        case rel => exact ⟨k + 1, by omega, by go_num, HR, hb2⟩
        case measure => simp [intOf]; omega
    · obtain rfl : k = ts.length := by omega
      have HR : Hid (rightPg ⟨V, M, ts⟩ = true) := by
        show _ = _
        rw [H.out, ← hall.out, List.take_length]
      have hbw : Below w.heap.size w wr := ((Below.refl _ _).alloc (Nat.le_refl _) _).trans (hb.mono (by omega))
      go_wp2
      go_ret
      exact ⟨ret_bool HR.out.symm, hbw⟩
end Go.Proofs.Ytkphdmfcmfojeaa

/- The contract of New. -/
namespace Go.Proofs.Ytkphdmfcmfojeaa
open Go.RowKit

/-- A new state, or none. -/
def NewR (p : Pg) (fuel : Int) (w : World) (r : Ending) (w' : World) : Prop :=
  if rightPg p = true ∧ 0 ≤ fuel ∧ fuel ≤ 8 then ∃ g, r = .returned (.tuple #[.pointer (some ⟨g, 0, none⟩), .int .i64 0]) ∧ w.heap.size ≤ g ∧ StAt w' g (St.new p fuel.toNat) ∧ Below w.heap.size w w'
  else r = .returned (.tuple #[.pointer none, .int .i64 1]) ∧ Below w.heap.size w w'

set_option maxRecDepth 100000 in
set_option maxHeartbeats 2000000 in
theorem new_no (p : Pg) (a : Option Addr) (cap : Nat) (fuel : Int) (w : World) (hp : ThreadsAt w a p.threads) (hr : rightPg p = false) :
    Calls Try.prog 47 #[.agg #[.int .i64 p.vars, .int .i64 p.mutexes, .slice a p.threads.length cap], .int .i64 fuel] w fun r w' => r = .returned (.tuple #[.pointer none, .int .i64 1]) ∧ Below w.heap.size w w' := by
  have HR := Lib.hid hr
  have HP := Lib.hid hp
  clear hr hp
  go_enter Try.func47, Try.ntmps47
  go_wp2_with fail
  refine (right_any p a cap _ (HP.out.later (below_alloc1 w _))).mono ?_
  rw [HR.out]
  rintro r w1 ⟨rfl, hb⟩
  have hb1 : Below w.heap.size w w1 := (below_alloc1 w _).trans (hb.mono (by simp))
  clear hb
  go_wp2
  go_ret2
  exact ⟨rfl, hb1⟩

set_option maxRecDepth 100000 in
set_option maxHeartbeats 2000000 in
theorem new_fuel (p : Pg) (a : Option Addr) (cap : Nat) (fuel : Int) (w : World) (hp : ThreadsAt w a p.threads) (hr : rightPg p = true) (hf : belowB fuel 9 = false) :
    Calls Try.prog 47 #[.agg #[.int .i64 p.vars, .int .i64 p.mutexes, .slice a p.threads.length cap], .int .i64 fuel] w fun r w' => r = .returned (.tuple #[.pointer none, .int .i64 1]) ∧ Below w.heap.size w w' := by
  have HR := Lib.hid hr
  have HP := Lib.hid hp
  clear hr hp
  go_enter Try.func47, Try.ntmps47
  go_wp2_with fail
  refine (right_any p a cap _ (HP.out.later (below_alloc1 w _))).mono ?_
  rw [HR.out]
  rintro r w1 ⟨rfl, hb⟩
  have hb1 : Below w.heap.size w w1 := (below_alloc1 w _).trans (hb.mono (by simp))
  clear hb
  go_wp2_with (go_at_call 74; refine (sbelow_any _ _ _).mono ?_; rintro r w' ⟨rfl, rfl⟩)
  go_ret2
  exact ⟨rfl, hb1⟩

theorem zero_state : ∃ Z : Array Value, Z = numA (fun _ => 0) ∧ ∀ w, (zeroValue 153).run Try.prog w = .ok (.agg Z) w :=
  ⟨_, rfl, (zero_of_info (P := Try.prog) (t := 153) (v := .agg (numA fun _ => 0)) (n := 156) (by kernel_rfl)).1⟩

set_option maxRecDepth 100000 in
set_option maxHeartbeats 4000000 in
theorem new_yes (p : Pg) (a : Option Addr) (cap F : Nat) (w : World) (hp : ThreadsAt w a p.threads) (hr : rightPg p = true) (hF : F ≤ 8) :
    Calls Try.prog 47 #[.agg #[.int .i64 p.vars, .int .i64 p.mutexes, .slice a p.threads.length cap], .int .i64 F] w
      fun r w' => ∃ g, r = .returned (.tuple #[.pointer (some ⟨g, 0, none⟩), .int .i64 0]) ∧ w.heap.size ≤ g ∧ StAt w' g (St.new p F) ∧ Below w.heap.size w w' := by
  have hf : belowB F 9 = true := by simp [belowB]; omega
  have hn4 : p.threads.length ≤ 4 := by
    unfold rightPg at hr
    rw [Bool.and_eq_true, decide_eq_true_eq] at hr
    omega
  have HR := Lib.hid hr
  have HP := Lib.hid hp
  obtain ⟨Z, hZ, hzv⟩ := zero_state
  have hne : ¬ Z = #[] := fun e => by have := congrArg Array.size e; rw [hZ, numA_size] at this; simp at this
  have hsz : Z.size = 156 := by rw [hZ, numA_size]
  have hset : (Z.setIfInBounds 0 (.int .i64 p.threads.length)).setIfInBounds 1 (.int .i64 p.mutexes) = numA (newNum p F 0) := by
    rw [hZ, numA_set (fun _ => 0) (fun j => if j = 0 then (p.threads.length : Int) else 0) 0 _ (by omega) (fun j _ => rfl)]
    refine numA_set _ _ 1 _ (by omega) (fun j _ => ?_)
    rw [newNum_zero]
    by_cases h0 : j = 0
    · simp [h0]
    · simp [h0]
  clear hZ
  clear hr hp
  go_enter Try.func47, Try.ntmps47
  go_wp2_with fail
  refine (right_any p a cap _ (HP.out.later (below_alloc1 w _))).mono ?_
  rw [HR.out]
  rintro r w1 ⟨rfl, hb⟩
  have hb1 : Below w.heap.size w w1 := (below_alloc1 w _).trans (hb.mono (by simp))
  have hc : ∀ o, w1.cell? ⟨w.heap.size, o, none⟩ = (w.alloc (.cells #[.int .i64 p.vars, .int .i64 p.mutexes, .slice a p.threads.length cap] 24)).cell? ⟨w.heap.size, o, none⟩ := fun o => hb.cell (p := ⟨w.heap.size, o, none⟩) (by simp)
  have hz : w.heap.size < w1.heap.size := by have := hb.size; simp at this; omega
  clear hb
  go_wp2_with (go_at_call 74; refine (sbelow_any _ _ _).mono ?_; rintro r w' ⟨rfl, rfl⟩)
  clear hset hsz hne hzv hc hf
  go_loopw [29] (fun i wr => ∃ k : Nat, k ≤ p.threads.length ∧ i = .int .i64 k ∧ NumAt wr w1.heap.size (newNum p F k) ∧ Below w1.heap.size w1 wr) (fun i _ => p.threads.length - (intOf i).toNat)
  case atStart => exact ⟨0, Nat.zero_le _, rfl, heap_alloc_last w1 _, below_alloc1 _ _⟩
  case round =>
    obtain ⟨k, hk, rfl, hnum, hb2⟩ := hrel
    by_cases hlt : k < p.threads.length
    · obtain ⟨b, o, rfl, hc⟩ := HP.out.2 (by intro e; simp [e] at hlt)
      obtain ⟨c, ccap, c0, c1, _⟩ := hc k hlt
      have hbw : Below w.heap.size w wr := hb1.trans (hb2.mono (by omega))
      have d0 := cell_later hbw c0
      have D1 := c1.later hbw
      have h8 := (rightPg_code HR.out hlt).1
      obtain ⟨f1, hf1⟩ : ∃ f1 : Nat → Int, ∀ j, f1 j = if 2 + k * 37 ≤ j ∧ j < 2 + k * 37 + p.threads[k].length * 4 then insNum (p.threads[k].getD ((j - (2 + k * 37)) / 4) ins0) ((j - (2 + k * 37)) % 4) else newNum p F k j := ⟨_, fun _ => rfl⟩
      have hcp := run_copy_code wr w1.heap.size (2 + k * 37) _ f1 hnum c ccap p.threads[k] D1 h8 (by omega) (fun j _ => hf1 j)
      have hn1 : NumAt (wr.setRow w1.heap.size (numA f1)) w1.heap.size f1 := setRow_heap wr _ _ _ _ _ hnum
      have hbs : Below w1.heap.size w1 (wr.setRow w1.heap.size (numA f1)) := hb2.trans ⟨rfl, rfl, rfl, by simp, fun q hq => setRow_other _ _ _ _ (by omega)⟩
      generalize wr.setRow w1.heap.size (numA f1) = W1 at *
      have hn2 : NumAt (W1.setCell ⟨w1.heap.size, 2 + k * 37 + 32, none⟩ (.int .i64 p.threads[k].length)) w1.heap.size (fun j => if j = 2 + k * 37 + 32 then (p.threads[k].length : Int) else f1 j) := hn1.set _ _ _ (by omega) (fun j _ => rfl)
      have hn3 : NumAt ((W1.setCell ⟨w1.heap.size, 2 + k * 37 + 32, none⟩ (.int .i64 p.threads[k].length)).setCell ⟨w1.heap.size, 2 + k * 37 + 34, none⟩ (.int .i64 F)) w1.heap.size (newNum p F (k + 1)) :=
        hn2.set _ _ _ (by omega) (newNum_succ p F k hlt hn4 h8 f1 _ (fun j _ => hf1 j) (fun j _ => rfl))
      have hb3 : Below w1.heap.size w1 ((W1.setCell ⟨w1.heap.size, 2 + k * 37 + 32, none⟩ (.int .i64 p.threads[k].length)).setCell ⟨w1.heap.size, 2 + k * 37 + 34, none⟩ (.int .i64 F)) := (hbs.setCell (p := ⟨w1.heap.size, 2 + k * 37 + 32, none⟩) (Nat.le_refl _) _).setCell (p := ⟨w1.heap.size, 2 + k * 37 + 34, none⟩) (Nat.le_refl _) _
      have e0 := hn1.cell (2 + k * 37 + 32) (by omega)
      have e1 := hn1.frozen (2 + k * 37 + 32)
      have e2 := hn1.cell (2 + k * 37 + 34) (by omega)
      have e3 := hn1.frozen (2 + k * 37 + 34)
      have HN3 := Lib.hid hn3
      have hk4 : k < 4 := by omega
      clear c0 c1 hc D1 hf1 hn1 hn2 hn3 hbs hnum hb2 hbw
      go_wp2
      go_roundw
      case rel => exact ⟨k + 1, by omega, by go_num, HN3.out, hb3⟩
      case measure => simp [intOf]; omega
    · obtain rfl : k = p.threads.length := by omega
      have hnum2 : NumAt wr w1.heap.size (newNum2 p F 0) := by
        unfold NumAt
        rw [← numA_congr _ _ (newNum_all p F)]
        exact hnum
      clear hnum
      go_wp2
      go_loopw [53] (fun i wq => ∃ k : Nat, k ≤ 2 ∧ i = .int .i64 k ∧ NumAt wq w1.heap.size (newNum2 p F k) ∧ Below w1.heap.size w1 wq) (fun i _ => 2 - (intOf i).toNat)
      case atStart => exact ⟨0, by omega, rfl, hnum2, hb2⟩
      case round =>
        clear hnum2 hb2
        obtain ⟨k, hk, rfl, hnum, hb2⟩ := hrel
        by_cases hlt : k < 2
        · have e0 := hnum.cell (154 + k) (by omega)
          have e1 := hnum.frozen (154 + k)
          have HN := Lib.hid (hnum.set _ (154 + k) (-1) (by omega) (newNum2_succ p F k hlt))
          have hb3 := hb2.setCell (p := ⟨w1.heap.size, 154 + k, none⟩) (Nat.le_refl _) (.int .i64 (-1))
          clear hnum hb2
          go_wp2
          go_roundw
          case rel => exact ⟨k + 1, by omega, by go_num, HN.out, hb3⟩
          case measure => simp [intOf]; omega
        · obtain rfl : k = 2 := by omega
          have HN : Hid (StAt wr w1.heap.size (St.new p F)) := by
            show _ = _
            rw [← numA_congr _ _ (newNum2_all p F)]
            exact hnum
          clear hnum
          go_wp2
          go_ret2
          exact ⟨_, rfl, by omega, HN.out, hb1.trans (hb2.mono (by omega))⟩

theorem new_any (p : Pg) (a : Option Addr) (cap : Nat) (fuel : Int) (w : World) (hp : ThreadsAt w a p.threads) :
    Calls Try.prog 47 #[.agg #[.int .i64 p.vars, .int .i64 p.mutexes, .slice a p.threads.length cap], .int .i64 fuel] w (NewR p fuel w) := by
  cases hr : rightPg p
  · refine (new_no p a cap fuel w hp hr).mono fun r w' h => ?_
    unfold NewR
    rw [if_neg (by simp [hr])]
    exact h
  · cases hf : belowB fuel 9
    · refine (new_fuel p a cap fuel w hp hr hf).mono fun r w' h => ?_
      unfold NewR
      rw [if_neg (by simp [belowB] at hf; omega)]
      exact h
    · have hf' : 0 ≤ fuel ∧ fuel < 9 := by simpa [belowB] using hf
      obtain ⟨F, rfl⟩ : ∃ F : Nat, fuel = F := ⟨fuel.toNat, by omega⟩
      refine (new_yes p a cap F w hp hr (by omega)).mono fun r w' h => ?_
      unfold NewR
      rw [if_pos ⟨hr, by omega, by omega⟩]
      exact h

end Go.Proofs.Ytkphdmfcmfojeaa

/- The contract of Replay. -/
namespace Go.Proofs.Ytkphdmfcmfojeaa
open Go.RowKit

/-- Steps one behind the other: an error, the events, the state. -/
def St.run (s : St) : List Int → Int × List Ev × St
  | [] => (0, [], s)
  | t :: row => if (s.step t).1 = 0 then
      (if ((s.step t).2.2.run row).1 = 0 then (0, (s.step t).2.1 :: ((s.step t).2.2.run row).2.1, ((s.step t).2.2.run row).2.2) else (((s.step t).2.2.run row).1, [], s))
    else ((s.step t).1, [], s)

/-- Steps behind events that are done. -/
def comb (es : List Ev) (x : Int × List Ev × St) : Int × List Ev × Option St := if x.1 = 0 then (0, es ++ x.2.1, some x.2.2) else (x.1, [], none)

theorem comb_ok (es : List Ev) (s : St) (t : Int) (row : List Int) (h : (s.step t).1 = 0) : comb es (s.run (t :: row)) = comb (es ++ [(s.step t).2.1]) ((s.step t).2.2.run row) := by
  unfold comb
  rw [St.run, if_pos h]
  by_cases h2 : ((s.step t).2.2.run row).1 = 0
  · rw [if_pos h2, if_pos h2]; simp
  · rw [if_neg h2, if_neg h2, if_neg h2]
theorem comb_err (es : List Ev) (s : St) (t : Int) (row : List Int) (h : (s.step t).1 ≠ 0) : comb es (s.run (t :: row)) = ((s.step t).1, [], none) := by
  unfold comb
  rw [St.run, if_neg h, if_neg h]
theorem comb_nil (es : List Ev) (s : St) : comb es (s.run []) = (0, es, some s) := by
  unfold comb
  simp [St.run]

def goodPg (p : Pg) (fuel : Int) : Bool := rightPg p && decide (0 ≤ fuel ∧ fuel ≤ 8)
/-- What Replay answers: an error, the events, the state. -/
def rep (p : Pg) (fuel : Int) (row : List Int) : Int × List Ev × Option St := if goodPg p fuel = true then comb [] ((St.new p fuel.toNat).run row) else (1, [], none)

theorem step_code {s : St} (t : Int) : 0 ≤ (s.step t).1 ∧ (s.step t).1 ≤ 9 := by
  rcases s.step_cases t with ⟨i, _, _, e⟩ | ⟨e, he, e'⟩
  · rw [e]; simp
  · rw [e']; dsimp only; omega

def ReplayR (p : Pg) (fuel : Int) (row : List Int) (w : World) (r : Ending) (w' : World) : Prop :=
  Below w.heap.size w w' ∧ match rep p fuel row with
  | (_, es, some s) => ∃ g v, r = .returned (.tuple #[.pointer (some ⟨g, 0, none⟩), v, .int .i64 0]) ∧ w.heap.size ≤ g ∧ StAt w' g s ∧ s.Ok fuel.toNat ∧ OwnE w' w.heap.size v es
  | (e, _, none) => r = .returned (.tuple #[.pointer none, .slice none 0 0, .int .i64 e])

theorem replayR_some {p : Pg} {fuel : Int} {row : List Int} {w w' : World} {es : List Ev} {s : St} (h : rep p fuel row = (0, es, some s)) {g : Nat} {v : Value} (hb : Below w.heap.size w w') (hg : w.heap.size ≤ g) (hs : StAt w' g s) (ok : s.Ok fuel.toNat) (ho : OwnE w' w.heap.size v es) :
    ReplayR p fuel row w (.returned (.tuple #[.pointer (some ⟨g, 0, none⟩), v, .int .i64 0])) w' := by
  unfold ReplayR
  rw [h]
  exact ⟨hb, g, v, rfl, hg, hs, ok, ho⟩
theorem replayR_none {p : Pg} {fuel : Int} {row : List Int} {w w' : World} {e : Int} (h : rep p fuel row = (e, [], none)) (hb : Below w.heap.size w w') :
    ReplayR p fuel row w (.returned (.tuple #[.pointer none, .slice none 0 0, .int .i64 e])) w' := by
  unfold ReplayR
  rw [h]
  exact ⟨hb, rfl⟩

theorem ownE_base {w : World} {B B' : Nat} {v : Value} {l : List Ev} (h : OwnE w B v l) (hB : B' ≤ B) : OwnE w B' v l := by
  obtain ⟨h1, h2 | ⟨g, cap, cur, h2, h3, h4⟩⟩ := h
  · exact ⟨h1, .inl h2⟩
  · exact ⟨h1, .inr ⟨g, cap, cur, h2, by omega, h4⟩⟩

set_option maxRecDepth 100000 in
set_option maxHeartbeats 4000000 in
theorem replay_any (p : Pg) (a : Option Addr) (cap : Nat) (fuel : Int) (ra : Option Addr) (rcap : Nat) (row : List Int) (w : World) (hp : ThreadsAt w a p.threads) (hrow : NumsAt w ra row) (hr1000 : row.length ≤ 1000) :
    Calls Try.prog 60 #[.agg #[.int .i64 p.vars, .int .i64 p.mutexes, .slice a p.threads.length cap], .int .i64 fuel, .slice ra row.length rcap] w (ReplayR p fuel row w) := by
  have HP := Lib.hid hp
  have HROW := Lib.hid hrow
  clear hp hrow
  go_enter Try.func60, Try.ntmps60
  go_wp2_with fail
  refine (new_any p a cap fuel _ (HP.out.later (below_alloc1 w _))).mono ?_
  rintro r w3 hr
  unfold NewR at hr
  by_cases hgood : rightPg p = true ∧ 0 ≤ fuel ∧ fuel ≤ 8
  case neg =>
    rw [if_neg hgood] at hr
    obtain ⟨rfl, hb3⟩ := hr
    have hw3 : Below w.heap.size w w3 := (below_alloc1 w _).trans (hb3.mono (by simp))
    have HRP : Hid (rep p fuel row = (1, [], none)) := by
      show _ = _
      unfold rep goodPg
      rw [if_neg]
      simpa using hgood
    clear hb3 hgood
    go_wp2
    refine bodyPost_ret (v := .tuple #[.pointer none, .slice none 0 0, .int .i64 1]) (by simp [results, Try.results60, go_sem]) rfl ?_
    exact replayR_none HRP.out hw3
  rw [if_pos hgood] at hr
  obtain ⟨g, rfl, hg, hs, hb3⟩ := hr
  obtain ⟨hr1, hf0, hf8⟩ := hgood
  obtain ⟨F, rfl⟩ : ∃ F : Nat, fuel = F := ⟨fuel.toNat, by omega⟩
  have HRP : Hid (rep p F row = comb [] ((St.new p F).run row)) := by
    show _ = _
    unfold rep goodPg
    rw [if_pos (by simp [hr1]; omega)]
    rfl
  simp only [Int.toNat_natCast] at hs
  have hw3 : Below w.heap.size w w3 := (below_alloc1 w _).trans (hb3.mono (by simp))
  have hgw : w.heap.size ≤ g := by have : (w.alloc (.cells #[.int .i64 p.vars, .int .i64 p.mutexes, .slice a p.threads.length cap] 24)).heap.size ≤ g := hg; simp at this; omega
  have hg3 := hs.lt
  have HS := Lib.hid hs
  have HOK := Lib.hid (new_ok hr1 F (by omega))
  clear hs hb3 hr1 hg
  go_wp2_with fail
  go_loopw [11, 27] (fun l i wr => ∃ (k : Nat) (s : St) (es : List Ev), k ≤ row.length ∧ i = .int .i64 k ∧ es.length ≤ k ∧ Hid (rep p F row = comb es (s.run (row.drop k))) ∧ OwnE wr w3.heap.size l es ∧ StAt wr g s ∧ s.Ok F ∧ Below w.heap.size w wr ∧ w3.heap.size ≤ wr.heap.size) (fun _ i _ => row.length - (intOf i).toNat)
  case atStart => exact ⟨0, _, [], Nat.zero_le _, rfl, Nat.zero_le _, HRP, ownE_nil _ _, HS.out, HOK.out, hw3, Nat.le_refl _⟩
  case round =>
    clear HS HOK HRP
    obtain ⟨k, s, es, hk, rfl, hel, HRP, hown, hs, ok, hb, hz⟩ := hrel
    have HS := Lib.hid hs
    have OK := Lib.hid ok
    have hgr := hs.lt
    clear hs ok
    by_cases hlt : k < row.length
    · obtain ⟨rb, ro, rfl, hc⟩ := HROW.out.2 (by intro e; simp [e] at hlt)
      have d0 := cell_later hb (hc k hlt)
      have hdr : row.drop k = row[k] :: row.drop (k + 1) := List.drop_eq_getElem_cons hlt
      have HDR := Lib.hid hdr
      clear hc hdr
      generalize row[k] = t at *
      go_wp2_with fail
      refine (step_any HS.out OK.out t).mono ?_
      rintro r w5 ⟨rfl, hs5, ho5⟩
      have hok5 := OK.out.step_ok t
      have HCE := Lib.hid (comb_err es s t (row.drop (k + 1)))
      have HCO := Lib.hid (comb_ok es s t (row.drop (k + 1)))
      have hb5 := hb.trans (ho5.below hgw hb.size)
      have hown5 := hown.only ho5 hg3
      have hz5 : w3.heap.size ≤ w5.heap.size := Nat.le_trans hz ho5.size
      unfold stepV evV
      generalize s.step t = st at *
      obtain ⟨e, x, s'⟩ := st
      dsimp only at *
      have HS5 := Lib.hid (hs5.later (below_alloc1 w5 (.cells #[.int .i64 x.thread, .int .i64 x.kind, .int .i64 x.obj, .bool x.fail] 128)))
      have HOK5 := Lib.hid hok5
      have hbe : Below w.heap.size w (w5.alloc (.cells #[.int .i64 x.thread, .int .i64 x.kind, .int .i64 x.obj, .bool x.fail] 128)) := hb5.alloc hb5.size _
      clear hb hown ho5 hs5 hok5 hb5 HS d0 hgr
      by_cases he : e = 0
      · subst he
        have HR2 : Hid (rep p F row = comb (es ++ [x]) (s'.run (row.drop (k + 1)))) := by
          show _ = _
          rw [HRP.out, HDR.out]
          exact HCO.out rfl
        clear HCE HCO
        go_wp2_with (at_builtin; refine wp_appendE rfl (.tmp 40) (.tmp 42) rfl w3.heap.size _ es rfl ((hown5.alloc _).alloc _) ⟨w5.heap.size + 1, 0, none⟩ rfl x (ev_new (w5.alloc (.cells #[.int .i64 x.thread, .int .i64 x.kind, .int .i64 x.obj, .bool x.fail] 128)) x _ _ (by simp)) (by omega) (by simp; omega) ?_; intro v7 w7 hown7 hb7)
        have hb7' : Below w3.heap.size (w5.alloc (.cells #[.int .i64 x.thread, .int .i64 x.kind, .int .i64 x.obj, .bool x.fail] 128)) w7 := ((Below.refl _ _).alloc (by simp; omega) _).trans hb7
        have HS7 : Hid (StAt w7 g s') := (hb7'.block g hg3).trans HS5.out
        have hw7 : Below w.heap.size w w7 := hbe.trans (hb7'.mono (by omega))
        have hz7 : w3.heap.size ≤ w7.heap.size := by have := hb7'.size; simp at this; omega
        clear hb7 hb7' hown5
        go_roundw
        case rel => exact ⟨k + 1, s', es ++ [x], by omega, by go_num, by simp; omega, HR2, hown7, HS7.out, HOK5.out, hw7, hz7⟩
        case measure => simp [intOf]; omega
      · have q0 : (e != 0) = true := by simpa using he
        have HR2 : Hid (rep p F row = (e, [], none)) := by
          show _ = _
          rw [HRP.out, HDR.out]
          exact HCE.out he
        clear he HCE HCO
        go_wp2
        refine bodyPost_ret (v := .tuple #[.pointer none, .slice none 0 0, .int .i64 e]) (by simp [results, Try.results60, go_sem]) rfl ?_
        exact replayR_none HR2.out hbe
    · obtain rfl : k = row.length := by omega
      have HR2 : Hid (rep p F row = (0, es, some s)) := by
        show _ = _
        rw [HRP.out, List.drop_length]
        exact comb_nil es s
      go_wp2
      refine bodyPost_ret (v := .tuple #[.pointer (some ⟨g, 0, none⟩), _, .int .i64 0]) (by simp [results, Try.results60, go_sem]; rfl) rfl ?_
      exact replayR_some HR2.out hb hgw HS.out OK.out (ownE_base hown (by have := hw3.size; omega))

end Go.Proofs.Ytkphdmfcmfojeaa

/- What Replay answers, in plain words: lengths, errors, more fuel. -/
namespace Go.Proofs.Ytkphdmfcmfojeaa

theorem more_run {d : Nat} (row : List Int) : ∀ s s' : St, s.More d s' → (s.run row).1 = 0 → (s'.run row).1 = 0 ∧ (s'.run row).2.1 = (s.run row).2.1 := by
  induction row with
  | nil => intro s s' _ _; exact ⟨rfl, rfl⟩
  | cons t row ih =>
    intro s s' h h0
    have h1 : (s.step t).1 = 0 := by
      rcases Decidable.em ((s.step t).1 = 0) with h1 | h1
      · exact h1
      · rw [St.run, if_neg h1] at h0; exact absurd h0 h1
    obtain ⟨g0, g1, g2⟩ := h.step h1
    have h2 : ((s.step t).2.2.run row).1 = 0 := by
      rcases Decidable.em (((s.step t).2.2.run row).1 = 0) with h2 | h2
      · exact h2
      · rw [St.run, if_pos h1, if_neg h2] at h0; exact absurd h0 h2
    obtain ⟨e0, e1⟩ := ih _ _ g2 h2
    rw [St.run, if_pos g0, if_pos e0, St.run, if_pos h1, if_pos h2]
    exact ⟨rfl, by dsimp only; rw [g1, e1]⟩

theorem rep_none {p : Pg} {fuel : Int} {row : List Int} {e : Int} {es : List Ev} (h : rep p fuel row = (e, es, none)) : e ≠ 0 := by
  unfold rep at h
  split at h
  · unfold comb at h
    split at h
    · injection h with _ h; injection h with _ h; cases h
    · rename_i h0
      injection h with h1 _
      rw [← h1]; exact h0
  · injection h with h1 _
    rw [← h1]; simp
theorem rep_some {p : Pg} {fuel : Int} {row : List Int} {e : Int} {es : List Ev} {s : St} (h : rep p fuel row = (e, es, some s)) : e = 0 ∧ goodPg p fuel = true ∧ ((St.new p fuel.toNat).run row).1 = 0 ∧ ((St.new p fuel.toNat).run row).2.1 = es := by
  unfold rep at h
  split at h
  · rename_i hg
    unfold comb at h
    split at h
    · rename_i h0
      injection h with h1 h; injection h with h2 h
      exact ⟨h1.symm, hg, h0, by simpa using h2⟩
    · injection h with _ h; injection h with _ h; cases h
  · injection h with _ h; injection h with _ h; cases h

theorem run_len (row : List Int) : ∀ s : St, ((s.run row).2.1).length ≤ row.length := by
  induction row with
  | nil => intro s; simp [St.run]
  | cons t row ih =>
    intro s
    rw [St.run]
    split
    · split
      · have := ih (s.step t).2.2; simp; omega
      · simp
    · simp

theorem rep_len {p : Pg} {fuel : Int} {row : List Int} {e : Int} {es : List Ev} {s : St} (h : rep p fuel row = (e, es, some s)) : es.length ≤ row.length := by
  obtain ⟨_, _, _, rfl⟩ := rep_some h
  exact run_len row _

theorem rep_more {p : Pg} {f m : Int} {row : List Int} {e : Int} {es : List Ev} {s : St} (h : rep p f row = (e, es, some s)) (h1 : f ≤ m) (h2 : m ≤ 8) : ∃ s', rep p m row = (0, es, some s') := by
  obtain ⟨_, hg, h0, rfl⟩ := rep_some h
  unfold goodPg at hg
  rw [Bool.and_eq_true, decide_eq_true_eq] at hg
  obtain ⟨d, hd⟩ : ∃ d : Nat, m.toNat = f.toNat + d := ⟨m.toNat - f.toNat, by omega⟩
  have hm := more_run row _ _ (new_more p f.toNat d) h0
  rw [← hd] at hm
  refine ⟨((St.new p m.toNat).run row).2.2, ?_⟩
  unfold rep goodPg
  rw [if_pos (by simp [hg.1]; omega)]
  unfold comb
  rw [if_pos hm.1, hm.2]
  simp

end Go.Proofs.Ytkphdmfcmfojeaa

/- What a step does may be: an event that is right. -/
namespace Go.Proofs.Ytkphdmfcmfojeaa

theorem ev_right {F : Nat} {s : St} (ok : s.Ok F) {t : Int} {e : Ev} {s1 : St} (h : s.step t = (0, e, s1)) : rightEv e = true := by
  obtain ⟨i, hi, _, rfl, _⟩ := St.step_ok0 h
  have hh := (St.ins_has hi).1
  have h4 : s.ts.length ≤ 4 := by
    have h1 := ok.len
    have h2 := ok.right
    unfold rightPg at h2
    rw [Bool.and_eq_true, decide_eq_true_eq] at h2
    omega
  unfold St.has at hh
  obtain ⟨o1, o2, _, _, _, _⟩ := ok.obj hi
  unfold rightEv St.ev
  rw [decide_eq_true_eq]
  repeat' split
  all_goals dsimp only
  all_goals (refine ⟨hh.1, by omega, ?_⟩)
  · exact .inr (.inl ⟨.inl rfl, by omega, by omega, rfl⟩)
  · exact .inr (.inl ⟨.inr rfl, by omega, by omega, rfl⟩)
  · exact .inr (.inr ⟨.inl rfl, by omega, by omega, rfl⟩)
  · exact .inr (.inr ⟨.inr rfl, by omega, by omega, rfl⟩)
  · exact .inl ⟨rfl, rfl⟩
  · exact .inl ⟨rfl, rfl⟩
  · exact .inl ⟨rfl, rfl⟩

end Go.Proofs.Ytkphdmfcmfojeaa

/- An event in a box of its own. -/
namespace Go.Proofs.Ytkphdmfcmfojeaa
open Go.RowKit

end Go.Proofs.Ytkphdmfcmfojeaa

/- The contracts of event's below, ofVariable, ofMutex, Depends, Right, toByte, fromByte, and of the document's Depends, Right, Byte. -/
namespace Go.Proofs.Ytkphdmfcmfojeaa
open Go.RowKit

theorem ofVariable_any (e : Ev) (w : World) : Calls Try.prog 92 #[.agg #[.int .i64 e.thread, .int .i64 e.kind, .int .i64 e.obj, .bool e.fail]] w fun r w' => r = .returned (.bool (memE e)) ∧ Below w.heap.size w w' := by
  obtain ⟨t, k, o, f⟩ := e
  dsimp only
  go_enter Try.func92, Try.ntmps92
  go_wp2
  all_goals
    go_ret
    refine ⟨ret_bool ?_, below_alloc1 _ _⟩
    rw [Bool.eq_iff_iff]
    simp [memE]
    try omega

theorem ofMutex_any (e : Ev) (w : World) : Calls Try.prog 93 #[.agg #[.int .i64 e.thread, .int .i64 e.kind, .int .i64 e.obj, .bool e.fail]] w fun r w' => r = .returned (.bool (mutE e)) ∧ Below w.heap.size w w' := by
  obtain ⟨t, k, o, f⟩ := e
  dsimp only
  go_enter Try.func93, Try.ntmps93
  go_wp2
  all_goals
    go_ret
    refine ⟨ret_bool ?_, below_alloc1 _ _⟩
    rw [Bool.eq_iff_iff]
    simp [mutE]
    try omega

theorem two_boxes (e f : Ev) (w : World) : EvBox ((w.alloc (.cells #[.int .i64 e.thread, .int .i64 e.kind, .int .i64 e.obj, .bool e.fail] 128)).alloc (.cells #[.int .i64 f.thread, .int .i64 f.kind, .int .i64 f.obj, .bool f.fail] 128)) w.heap.size e ∧ EvBox ((w.alloc (.cells #[.int .i64 e.thread, .int .i64 e.kind, .int .i64 e.obj, .bool e.fail] 128)).alloc (.cells #[.int .i64 f.thread, .int .i64 f.kind, .int .i64 f.obj, .bool f.fail] 128)) (w.heap.size + 1) f :=
  ⟨heap_alloc2_old w _ _, heap_alloc2_new w _ _⟩

set_option maxRecDepth 100000 in
set_option maxHeartbeats 1000000 in
theorem depends_any (e f : Ev) (w : World) : Calls Try.prog 82 #[.agg #[.int .i64 e.thread, .int .i64 e.kind, .int .i64 e.obj, .bool e.fail], .agg #[.int .i64 f.thread, .int .i64 f.kind, .int .i64 f.obj, .bool f.fail]] w fun r w' => r = .returned (.bool (dep e f)) ∧ Below w.heap.size w w' := by
  obtain ⟨he, hf⟩ := two_boxes e f w
  have HE := Lib.hid he
  have HF := Lib.hid hf
  have hb0 := below_alloc2 w (.cells #[.int .i64 e.thread, .int .i64 e.kind, .int .i64 e.obj, .bool e.fail] 128) (.cells #[.int .i64 f.thread, .int .i64 f.kind, .int .i64 f.obj, .bool f.fail] 128)
  clear he hf
  by_cases h1 : e.thread = f.thread
  · have HD : Hid (dep e f = true) := by show _ = _; simp [dep, h1]
    have q1 : (e.thread == f.thread) = true := by simp [h1]
    clear h1 HE HF
    go_enter Try.func82, Try.ntmps82
    go_wp2
    go_ret
    exact ⟨ret_bool HD.out.symm, hb0⟩
  by_cases h2 : e.obj = f.obj
  case neg =>
    have HD : Hid (dep e f = false) := by show _ = _; simp [dep, h1, h2]
    have q1 : (e.thread == f.thread) = false := by simp [h1]
    have q2 : (e.obj != f.obj) = true := by simp [h2]
    clear h1 h2 HE HF
    go_enter Try.func82, Try.ntmps82
    go_wp2
    go_ret
    exact ⟨ret_bool HD.out.symm, hb0⟩
  have q1 : (e.thread == f.thread) = false := by simp [h1]
  have q2 : (e.obj != f.obj) = false := by simp [h2]
  have HT := Lib.hid h1
  have HO := Lib.hid h2
  clear h1 h2
  go_enter Try.func82, Try.ntmps82
  go_wp2_with fail
  generalize (w.alloc (.cells #[.int .i64 e.thread, .int .i64 e.kind, .int .i64 e.obj, .bool e.fail] 128)).alloc (.cells #[.int .i64 f.thread, .int .i64 f.kind, .int .i64 f.obj, .bool f.fail] 128) = W0 at *
  refine (ofVariable_any e _).mono ?_
  rintro r w1 ⟨rfl, hb1⟩
  have HE1 := Lib.hid (HE.out.later hb1)
  have HF1 := Lib.hid (HF.out.later hb1)
  have hw1 : Below w.heap.size w w1 := hb0.trans (hb1.mono hb0.size)
  clear HE HF hb0 hb1
  obtain ⟨e0, e1, e2, e3⟩ := HE1.out.cells
  obtain ⟨f0, f1, f2, f3⟩ := HF1.out.cells
  have le := HE1.out.lt
  have lf := HF1.out.lt
  generalize hm : memE e = m
  cases m
  · go_wp2_with fail
    refine (ofMutex_any e _).mono ?_
    rintro r w2 ⟨rfl, hb2⟩
    have hw2 : Below w.heap.size w w2 := hw1.trans (hb2.mono hw1.size)
    have g0 := cell_later hb2 f0
    have g1 := cell_later hb2 f1
    have g2 := cell_later hb2 f2
    have g3 := cell_later hb2 f3
    have lg := Nat.lt_of_lt_of_le lf hb2.size
    generalize hx : mutE e = x
    cases x
    · go_wp2
      go_ret
      refine ⟨ret_bool ?_, hw2⟩
      unfold memE at hm
      unfold mutE at hx
      simp at hm hx
      simp [dep, HT.out, HO.out, hm, hx]
    · clear e0 e1 e2 e3 f0 f1 f2 f3 le lf hb2
      go_wp2_with fail
      refine (ofMutex_any f _).mono ?_
      rintro r w3 ⟨rfl, hb3⟩
      have hw3 : Below w.heap.size w w3 := hw2.trans (hb3.mono hw2.size)
      go_wp2
      go_ret
      refine ⟨ret_bool ?_, hw3⟩
      unfold memE at hm
      unfold mutE at hx ⊢
      simp at hm hx
      simp [dep, HT.out, HO.out, hm, hx]
  · go_wp2_with fail
    refine (ofVariable_any f _).mono ?_
    rintro r w2 ⟨rfl, hb2⟩
    have hw2 : Below w.heap.size w w2 := hw1.trans (hb2.mono hw1.size)
    have d0 := cell_later hb2 e0
    have d1 := cell_later hb2 e1
    have d2 := cell_later hb2 e2
    have d3 := cell_later hb2 e3
    have ld := Nat.lt_of_lt_of_le le hb2.size
    have g0 := cell_later hb2 f0
    have g1 := cell_later hb2 f1
    have g2 := cell_later hb2 f2
    have g3 := cell_later hb2 f3
    have lg := Nat.lt_of_lt_of_le lf hb2.size
    clear e0 e1 e2 e3 f0 f1 f2 f3 le lf hb2
    generalize hx : memE f = x
    cases x
    · go_wp2_with fail
      refine (ofMutex_any e _).mono ?_
      rintro r w3 ⟨rfl, hb3⟩
      have hx3 : mutE e = false := by
        unfold memE at hm
        unfold mutE
        simp at hm ⊢
        omega
      rw [hx3]
      have hw3 : Below w.heap.size w w3 := hw2.trans (hb3.mono hw2.size)
      go_wp2
      go_ret
      refine ⟨ret_bool ?_, hw3⟩
      unfold memE at hm hx
      unfold mutE at hx3
      simp at hm hx hx3
      simp [dep, HT.out, HO.out, hm, hx, hx3]
    · go_wp2
      all_goals
        go_ret
        refine ⟨ret_bool ?_, hw2⟩
        unfold memE at hm hx
        simp at *
        rw [Bool.eq_iff_iff]
        simp [dep, HT.out, HO.out, *]
        try omega

set_option maxRecDepth 100000 in
set_option maxHeartbeats 1000000 in
theorem refDepends_any (e f : Ev) (w : World) : Calls Try.prog 83 #[.agg #[.int .i64 e.thread, .int .i64 e.kind, .int .i64 e.obj, .bool e.fail], .agg #[.int .i64 f.thread, .int .i64 f.kind, .int .i64 f.obj, .bool f.fail]] w fun r w' => r = .returned (.bool (dep e f)) ∧ Below w.heap.size w w' := by
  go_enter Try.func83, Try.ntmps83
  go_wp2
  all_goals
    go_ret
    refine ⟨ret_bool ?_, below_alloc2 _ _ _⟩
    simp at *
    rw [Bool.eq_iff_iff]
    simp [dep, *]
    try omega

end Go.Proofs.Ytkphdmfcmfojeaa

/- Rows that may be, and the contract of the document's Rows. -/
namespace Go.Proofs.Ytkphdmfcmfojeaa
open Go.RowKit

/-- May all events be? -/
def rightL (l : List Ev) : Bool := l.all rightEv
theorem rightL_take (l : List Ev) (k : Nat) (h : k < l.length) : rightL (l.take (k + 1)) = (rightL (l.take k) && rightEv l[k]) := by
  unfold rightL
  rw [List.take_succ_eq_append_getElem h, List.all_append]
  simp
theorem rightL_no {l : List Ev} {k : Nat} (h : k < l.length) (hr : rightEv l[k] = false) : rightL l = false := by
  unfold rightL
  rw [List.all_eq_false]
  exact ⟨l[k], List.getElem_mem h, by simp [hr]⟩
theorem rightL_get {l : List Ev} (h : rightL l = true) {k : Nat} (hk : k < l.length) : rightEv l[k] = true := by
  unfold rightL at h
  exact List.all_eq_true.1 h _ (List.getElem_mem hk)

end Go.Proofs.Ytkphdmfcmfojeaa

/- The events of a row that may be done are right; who may does something next. -/
namespace Go.Proofs.Ytkphdmfcmfojeaa
open Go.RowKit

theorem run_right {F : Nat} (row : List Int) : ∀ {s : St}, s.Ok F → (s.run row).2.1.all rightEv = true := by
  induction row with
  | nil => intro s _; rfl
  | cons t row ih =>
    intro s ok
    rw [St.run]
    split
    · rename_i h0
      split
      · have h1 : rightEv (s.step t).2.1 = true := ev_right ok (t := t) (e := (s.step t).2.1) (s1 := (s.step t).2.2) (by rw [← h0])
        have h2 := ih (ok.step_ok t)
        simp only [List.all_cons, h1, h2, Bool.and_self]
      · rfl
    · rfl
theorem rep_right {p : Pg} {fuel : Int} {row : List Int} {e : Int} {es : List Ev} {s : St} (h : rep p fuel row = (e, es, some s)) : rightL es = true := by
  obtain ⟨_, hg, _, rfl⟩ := rep_some h
  unfold goodPg at hg
  rw [Bool.and_eq_true, decide_eq_true_eq] at hg
  exact run_right row (new_ok hg.1 fuel.toNat (by omega))
theorem may_does {s : St} {t : Int} (h : s.may t = true) : ∃ x s', s.next t = some x ∧ s.step t = (0, x, s') ∧ 0 ≤ t ∧ t < s.ts.length := by
  unfold St.may at h
  cases hi : s.ins t with
  | none => rw [hi] at h; cases h
  | some i =>
    have hm : s.may t = true := by unfold St.may; exact h
    have hh := (St.ins_has hi).1
    unfold St.has at hh
    exact ⟨s.ev t i, s.do_ t i, by unfold St.next; rw [hi]; rfl, St.step_may hi hm, hh⟩


end Go.Proofs.Ytkphdmfcmfojeaa

/- Layer 10's tree, plainly: nodes by their prefixes, each with an owner and sets. -/
namespace Go.Proofs.Ytkphdmfcmfojeaa
open Go.RowKit

abbrev Pfx := List UInt8
/-- A prefix's threads. -/
def rowK (k : Pfx) : List Int := k.map fun c => (c.toNat : Int)
theorem rowK_len (k : Pfx) : (rowK k).length = k.length := by simp [rowK]
theorem rowK_take (k : Pfx) (n : Nat) : rowK (k.take n) = (rowK k).take n := by simp [rowK, List.map_take]

theorem fuel_zero_step {s : St} {t : Int} (h : s.fuel = 0) : (s.step t).1 ≠ 0 := by
  rcases s.step_cases t with ⟨i, hi, _, _⟩ | ⟨e, he, e'⟩
  · have := St.fuel_do hi; omega
  · rw [e']; dsimp only; omega
theorem fuel_step {s : St} {t : Int} (h : (s.step t).1 = 0) : (s.step t).2.2.fuel + 1 = s.fuel := by
  rcases s.step_cases t with ⟨i, hi, _, e⟩ | ⟨e, he, e'⟩
  · rw [e]; exact St.fuel_do hi
  · rw [e'] at h; dsimp only at h; omega
theorem comb_cut (n : Nat) : ∀ (es : List Ev) (s : St) (row : List Int), s.fuel ≤ n → comb es (s.run (row.take (n + 1))) = comb es (s.run row) := by
  induction n with
  | zero =>
    intro es s row h
    cases row with
    | nil => rfl
    | cons t row =>
      have h1 := fuel_zero_step (t := t) (by omega : s.fuel = 0)
      rw [List.take_succ_cons, comb_err _ _ _ _ h1, comb_err _ _ _ _ h1]
  | succ n ih =>
    intro es s row h
    cases row with
    | nil => rfl
    | cons t row =>
      rw [List.take_succ_cons]
      by_cases h1 : (s.step t).1 = 0
      · have h2 := fuel_step h1
        rw [comb_ok _ _ _ _ h1, comb_ok _ _ _ _ h1, ih _ _ row (by omega)]
      · rw [comb_err _ _ _ _ h1, comb_err _ _ _ _ h1]
theorem new_fuel_le {p : Pg} (h : rightPg p = true) {F : Nat} (hF : F ≤ 8) : (St.new p F).fuel ≤ 32 := by
  have h4 : p.threads.length ≤ 4 := by
    unfold rightPg at h
    rw [Bool.and_eq_true, decide_eq_true_eq] at h
    omega
  have e : (St.new p F).fuel = p.threads.length * F := by
    unfold St.fuel St.new
    simp [List.map_const']
  rw [e]
  have := Nat.mul_le_mul h4 hF
  omega
/-- No execution is longer: what comes behind tells nothing. -/
theorem rep_cut (p : Pg) (fuel : Int) (row : List Int) : rep p fuel (row.take 33) = rep p fuel row := by
  unfold rep
  by_cases hg : goodPg p fuel = true
  · rw [if_pos hg, if_pos hg]
    unfold goodPg at hg
    rw [Bool.and_eq_true, decide_eq_true_eq] at hg
    exact comb_cut 32 [] _ row (new_fuel_le hg.1 (by omega))
  · rw [if_neg hg, if_neg hg]

/-- A node. -/
structure TNd where
  pre : Pfx
  own : Int
  may : Nat
  asl : Nat
  todo : Nat
  gone : Nat

structure TNd.Ok (n : TNd) : Prop where
  may : n.may < 256
  asl : n.asl < 256
  todo : n.todo < 256
  gone : n.gone < 256
/-- Who is left. -/
def TNd.left (n : TNd) : Nat := wo (wo n.todo n.gone) n.asl
theorem TNd.Ok.left {n : TNd} (h : n.Ok) : n.left < 256 := wo_lt _ _ (wo_lt _ _ h.todo)

/-- Where a prefix's node stands. -/
def idxT (l : List TNd) (k : Pfx) : Option Nat := l.findIdx? fun n => decide (n.pre = k)
theorem idxT_some {l : List TNd} {k : Pfx} {i : Nat} (h : idxT l k = some i) : ∃ hi : i < l.length, l[i].pre = k := by
  unfold idxT at h
  rw [List.findIdx?_eq_some_iff_getElem] at h
  obtain ⟨hi, h1, _⟩ := h
  exact ⟨hi, by simpa using h1⟩
theorem idxT_none {l : List TNd} {k : Pfx} (h : idxT l k = none) : ∀ n ∈ l, n.pre ≠ k := by
  unfold idxT at h
  rw [List.findIdx?_eq_none_iff] at h
  intro n hn
  simpa using h n hn
theorem idxT_of {l : List TNd} (hd : (l.map TNd.pre).Nodup) {i : Nat} (hi : i < l.length) : idxT l l[i].pre = some i := by
  cases h : idxT l l[i].pre with
  | none => exact absurd rfl (idxT_none h l[i] (List.getElem_mem hi))
  | some j =>
    obtain ⟨hj, e⟩ := idxT_some h
    have : i = j := by
      have h1 : (l.map TNd.pre)[i]'(by simpa using hi) = (l.map TNd.pre)[j]'(by simpa using hj) := by simp [e]
      exact (List.getElem_inj hd).1 h1
    rw [this]
theorem idxT_snoc {l : List TNd} {n : TNd} (h : idxT l n.pre = none) (k : Pfx) : idxT (l ++ [n]) k = if k = n.pre then some l.length else idxT l k := by
  unfold idxT at *
  rw [List.findIdx?_append]
  by_cases e : k = n.pre
  · subst e
    rw [h, if_pos rfl]
    simp
  · rw [if_neg e]
    have : ([n].findIdx? fun m => decide (m.pre = k)) = none := by
      simp [List.findIdx?_cons, Ne.symm e]
    rw [this]
    simp
theorem idxT_set {l : List TNd} {i : Nat} {n : TNd} (hi : i < l.length) (e : n.pre = l[i].pre) (k : Pfx) : idxT (l.set i n) k = idxT l k := by
  unfold idxT
  have key : ∀ (l : List TNd) (i : Nat) (hi : i < l.length), n.pre = l[i].pre → (l.set i n).findIdx? (fun m => decide (m.pre = k)) = l.findIdx? (fun m => decide (m.pre = k)) := by
    intro l
    induction l with
    | nil => intro i hi; simp at hi
    | cons a l ih =>
      intro i hi e
      cases i with
      | zero =>
        simp only [List.getElem_cons_zero] at e
        simp [List.findIdx?_cons, e]
      | succ i =>
        simp only [List.getElem_cons_succ] at e
        have := ih i (by simpa using hi) e
        simp [List.findIdx?_cons, this]
  exact key l i hi e

/-- The step that led to a prefix was gone into. -/
def wasT (l : List TNd) (k : Pfx) : Bool := match idxT l k.dropLast with
  | some i => hasB (l.getD i ⟨[], 0, 0, 0, 0, 0⟩).gone ((k.getLast?.getD 0).toNat : Int)
  | none => false
/-- Make: an error, the nodes. -/
def makeT (p : Pg) (fuel : Int) (l : List TNd) (k : Pfx) (asl : Nat) (own : Int) : Int × List TNd :=
  match rep p fuel (rowK k) with
  | (e, _, none) => (e, l)
  | (_, _, some s) => if (idxT l k).isSome then (7, l) else if k ≠ [] ∧ wasT l k = false then (6, l) else (0, l ++ [⟨k, own, ofN s.all, asl, 0, 0⟩])
/-- Mark: an error, the nodes. -/
def markT (l : List TNd) (k : Pfx) (set : Nat) : Int × List TNd := match idxT l k with
  | none => (6, l)
  | some i => (0, l.set i { l.getD i ⟨[], 0, 0, 0, 0, 0⟩ with todo := (l.getD i ⟨[], 0, 0, 0, 0, 0⟩).todo ||| (set &&& (l.getD i ⟨[], 0, 0, 0, 0, 0⟩).may) })
/-- Hand: an error, the nodes. -/
def handT (l : List TNd) (k : Pfx) (own : Int) : Int × List TNd := match idxT l k with
  | none => (6, l)
  | some i => (0, l.set i { l.getD i ⟨[], 0, 0, 0, 0, 0⟩ with own := own })
/-- A draw's place among n, as 64 bits without a sign. -/
def drawN (d : Int) (n : Nat) : Nat := ((d % 18446744073709551616) % (n : Int)).toNat
theorem drawN_lt (d : Int) {n : Nat} (h : 0 < n) : drawN d n < n := by
  unfold drawN
  have h1 := Int.emod_lt_of_pos (d % 18446744073709551616) (by omega : (0 : Int) < n)
  have h2 := Int.emod_nonneg (d % 18446744073709551616) (by omega : (n : Int) ≠ 0)
  omega
/-- What a prefix's threads come to do next. -/
def nextT (p : Pg) (fuel : Int) (k : Pfx) : Int → Option Ev := match rep p fuel (rowK k) with
  | (_, _, some s) => s.next
  | (_, _, none) => fun _ => none
/-- Claim: an error, the thread, who sleeps behind it, the nodes. -/
def claimT (p : Pg) (fuel : Int) (l : List TNd) (k : Pfx) (d : Int) : Int × Int × Nat × List TNd := match idxT l k with
  | none => (6, 0, 0, l)
  | some i => if bitsL (l.getD i ⟨[], 0, 0, 0, 0, 0⟩).left = [] then (6, 0, 0, l) else
      (0, ((bitsL (l.getD i ⟨[], 0, 0, 0, 0, 0⟩).left).getD (drawN d (bitsL (l.getD i ⟨[], 0, 0, 0, 0, 0⟩).left).length) 0 : Nat),
        childN (nextT p fuel k) (l.getD i ⟨[], 0, 0, 0, 0, 0⟩).asl (l.getD i ⟨[], 0, 0, 0, 0, 0⟩).gone ((bitsL (l.getD i ⟨[], 0, 0, 0, 0, 0⟩).left).getD (drawN d (bitsL (l.getD i ⟨[], 0, 0, 0, 0, 0⟩).left).length) 0 : Nat),
        l.set i { l.getD i ⟨[], 0, 0, 0, 0, 0⟩ with gone := wt (l.getD i ⟨[], 0, 0, 0, 0, 0⟩).gone ((bitsL (l.getD i ⟨[], 0, 0, 0, 0, 0⟩).left).getD (drawN d (bitsL (l.getD i ⟨[], 0, 0, 0, 0, 0⟩).left).length) 0 : Nat) })

/-- What the tree's nodes are like: unlike prefixes that can be done, sets below 256, who may as the state says, who is to be gone into may. -/
structure TrOk (p : Pg) (fuel : Int) (l : List TNd) : Prop where
  nodup : (l.map TNd.pre).Nodup
  ok : ∀ n ∈ l, n.Ok
  row : ∀ n ∈ l, ∃ es s, rep p fuel (rowK n.pre) = (0, es, some s) ∧ n.may = ofN s.all
  todo : ∀ n ∈ l, ∀ i, n.todo.testBit i = true → n.may.testBit i = true
theorem trOk_nil (p : Pg) (fuel : Int) : TrOk p fuel [] := ⟨by simp, by simp, by simp, by simp⟩
theorem TrOk.set {p : Pg} {fuel : Int} {l : List TNd} (h : TrOk p fuel l) {i : Nat} (hi : i < l.length) {n : TNd} (e : n.pre = l[i].pre) (em : n.may = l[i].may) (hn : n.Ok) (ht : ∀ i, n.todo.testBit i = true → n.may.testBit i = true) : TrOk p fuel (l.set i n) := by
  have hm : l[i] ∈ l := List.getElem_mem hi
  refine ⟨?_, ?_, ?_, ?_⟩
  · have : (l.set i n).map TNd.pre = l.map TNd.pre := by
      rw [List.map_set, e]
      apply List.ext_getElem
      · simp
      · intro j h1 h2
        rw [List.getElem_set]
        split
        · rename_i e2; subst e2; simp
        · rfl
    rw [this]; exact h.nodup
  · intro m hm'
    rcases List.mem_or_eq_of_mem_set hm' with h1 | rfl
    · exact h.ok m h1
    · exact hn
  · intro m hm'
    rcases List.mem_or_eq_of_mem_set hm' with h1 | rfl
    · exact h.row m h1
    · rw [e, em]; exact h.row _ hm
  · intro m hm'
    rcases List.mem_or_eq_of_mem_set hm' with h1 | rfl
    · exact h.todo m h1
    · exact ht
theorem TrOk.snoc {p : Pg} {fuel : Int} {l : List TNd} (h : TrOk p fuel l) {k : Pfx} (hk : idxT l k = none) {es : List Ev} {s : St} (hr : rep p fuel (rowK k) = (0, es, some s)) {asl : Nat} (ha : asl < 256) (own : Int) : TrOk p fuel (l ++ [⟨k, own, ofN s.all, asl, 0, 0⟩]) := by
  refine ⟨?_, ?_, ?_, ?_⟩
  · rw [List.map_append, List.nodup_append]
    refine ⟨h.nodup, by simp, ?_⟩
    intro a ha b hb
    simp at hb
    subst hb
    obtain ⟨n, hn, rfl⟩ := List.mem_map.1 ha
    exact idxT_none hk n hn
  · intro n hn
    rw [List.mem_append, List.mem_singleton] at hn
    rcases hn with hn | rfl
    · exact h.ok n hn
    · exact ⟨ofN_lt _, ha, by simp, by simp⟩
  · intro n hn
    rw [List.mem_append, List.mem_singleton] at hn
    rcases hn with hn | rfl
    · exact h.row n hn
    · exact ⟨es, s, hr, rfl⟩
  · intro n hn
    rw [List.mem_append, List.mem_singleton] at hn
    rcases hn with hn | rfl
    · exact h.todo n hn
    · intro i hi; simp at hi

end Go.Proofs.Ytkphdmfcmfojeaa

/- Worlds that differ in some blocks. -/
namespace Go.Proofs.Ytkphdmfcmfojeaa
open Go.RowKit

/-- All but the blocks of S is as it was. -/
structure OnlyS (S : Nat → Prop) (w w' : World) : Prop where
  os : w'.os = w.os
  tape : w'.tape = w.tape
  output : w'.output = w.output
  size : w.heap.size ≤ w'.heap.size
  block : ∀ k, k < w.heap.size → ¬ S k → w'.heap[k]? = w.heap[k]?
theorem OnlyS.refl (S : Nat → Prop) (w : World) : OnlyS S w w := ⟨rfl, rfl, rfl, Nat.le_refl _, fun _ _ _ => rfl⟩
theorem OnlyS.trans {S : Nat → Prop} {u v w : World} (h : OnlyS S u v) (k : OnlyS S v w) : OnlyS S u w :=
  ⟨k.os.trans h.os, k.tape.trans h.tape, k.output.trans h.output, Nat.le_trans h.size k.size, fun i hi hs => (k.block i (Nat.lt_of_lt_of_le hi h.size) hs).trans (h.block i hi hs)⟩
theorem OnlyS.of_below {S : Nat → Prop} {w w' : World} (h : Below w.heap.size w w') : OnlyS S w w' := ⟨h.os, h.tape, h.output, h.size, fun k hk _ => h.block k hk⟩
theorem OnlyS.of_only {S : Nat → Prop} {b : Nat} {w w' : World} (h : Only b w w') (hb : S b) : OnlyS S w w' := ⟨h.os, h.tape, h.output, h.size, fun k hk hs => h.block k hk (fun e => hs (by rw [e]; exact hb))⟩
theorem OnlyS.drew {S : Nat → Prop} {w w' : World} (h : OnlyS S w w') : OnlyS S w w'.drew := ⟨h.os, h.tape, h.output, h.size, h.block⟩
theorem OnlyS.drewN {S : Nat → Prop} {w w' : World} (h : OnlyS S w w') (n : Nat) : OnlyS S w (w'.drewN n) := ⟨h.os, h.tape, h.output, h.size, h.block⟩
theorem OnlyS.alloc {S : Nat → Prop} {w w' : World} (h : OnlyS S w w') (o : Obj) : OnlyS S w (w'.alloc o) := h.trans (.of_below ((Below.refl _ _).alloc (Nat.le_refl _) _))
theorem OnlyS.setCell {S : Nat → Prop} {w w' : World} (h : OnlyS S w w') {p : Addr} (hp : S p.block) (v : Value) : OnlyS S w (w'.setCell p v) :=
  h.trans ⟨rfl, rfl, rfl, by simp [World.setCell], fun k _ hs => Below.heap_setCell _ _ _ _ (fun e => hs (by rw [e]; exact hp))⟩
theorem OnlyS.mono {S T : Nat → Prop} {w w' : World} (h : OnlyS S w w') (hst : ∀ k, k < w.heap.size → S k → T k) : OnlyS T w w' := ⟨h.os, h.tape, h.output, h.size, fun k hk ht => h.block k hk (fun hs => ht (hst k hk hs))⟩
theorem OnlyS.below {S : Nat → Prop} {w w' : World} {B : Nat} (h : OnlyS S w w') (hB : B ≤ w.heap.size) (hS : ∀ k, S k → B ≤ k) : Below B w w' := ⟨h.os, h.tape, h.output, h.size, fun k hk => h.block k (by omega) (fun hs => by have := hS k hs; omega)⟩
/-- First one step that leaves all as it was, then others. -/
theorem OnlyS.after {S : Nat → Prop} {u v w : World} (h : Below u.heap.size u v) (k : OnlyS S v w) : OnlyS S u w := (OnlyS.of_below h).trans k
theorem OnlyS.cell {S : Nat → Prop} {w w' : World} (h : OnlyS S w w') {a : Addr} {v : Value} (hc : w.cell? a = some v) (hs : ¬ S a.block) : w'.cell? a = some v := by
  rw [World.cell?_of_block (w := w) (h.block a.block (cell_block hc) hs)]
  exact hc
theorem OnlyS.frozen {S : Nat → Prop} {w w' : World} (h : OnlyS S w w') {a : Addr} (ha : a.block < w.heap.size) (hs : ¬ S a.block) : w'.frozen? a = w.frozen? a := World.frozen?_of_block (w := w) (h.block a.block ha hs)
theorem StAt.onlyS {S : Nat → Prop} {w w' : World} {b : Nat} {s : St} (h : StAt w b s) (ho : OnlyS S w w') (hs : ¬ S b) : StAt w' b s := (ho.block b h.lt hs).trans h
theorem OwnN.onlyS {S : Nat → Prop} {w w' : World} {B : Nat} {v : Value} {l : List Int} (h : OwnN w B v l) (ho : OnlyS S w w') (hs : ∀ g, v.ownBlock = some g → ¬ S g) : OwnN w' B v l := by
  obtain ⟨h1, h2 | ⟨g, cap, cur, h2, h3, h4, h5⟩⟩ := h
  · exact ⟨h1, .inl h2⟩
  · refine ⟨h1, .inr ⟨g, cap, cur, h2, h3, (ho.block g (Array.getElem?_eq_some_iff.1 h4).1 (hs g (by rw [h2]; rfl))).trans h4, h5⟩⟩
theorem OwnE.onlyS {S : Nat → Prop} {w w' : World} {B : Nat} {v : Value} {l : List Ev} (h : OwnE w B v l) (ho : OnlyS S w w') (hs : ∀ g, v.ownBlock = some g → ¬ S g) : OwnE w' B v l := by
  obtain ⟨h1, h2 | ⟨g, cap, cur, h2, h3, h4, h5⟩⟩ := h
  · exact ⟨h1, .inl h2⟩
  · refine ⟨h1, .inr ⟨g, cap, cur, h2, h3, (ho.block g (Array.getElem?_eq_some_iff.1 h4).1 (hs g (by rw [h2]; rfl))).trans h4, h5⟩⟩

end Go.Proofs.Ytkphdmfcmfojeaa

/- The program's tree in memory: a box, a map from prefixes to nodes' blocks, the nodes. -/
namespace Go.Proofs.Ytkphdmfcmfojeaa
open Go.RowKit Go.Maps

/-- A node's block, or none, as a datum. -/
def ptrD : Option Nat → DataW Unit
  | none => .lit (.int .i64 (-1))
  | some g => .lit (.int .i64 (g : Int))
theorem ptrD_inj {a b : Option Nat} (h : ptrD a = ptrD b) : a = b := by
  cases a with
  | none =>
    cases b with
    | none => rfl
    | some g => unfold ptrD at h; injection h with h; injection h with _ h; omega
  | some f =>
    cases b with
    | none => unfold ptrD at h; injection h with h; injection h with _ h; omega
    | some g => unfold ptrD at h; injection h with h; injection h with _ h; rw [Int.ofNat.inj h]
def ptrV (o : Option Nat) : Value := .pointer (o.map fun g => ⟨g, 0, none⟩)
/-- How a node's pointer in a map reads. -/
def ptrElem : Value → Option (DataW Unit × List MemPlace)
  | .pointer none => some (ptrD none, [])
  | .pointer (some ⟨g, 0, none⟩) => some (ptrD (some g), [])
  | _ => none
theorem ptrElem_mk (o : Option Nat) : ptrElem (ptrV o) = some (ptrD o, []) := by cases o <;> rfl
theorem ptrElem_inv {v : Value} {o : Option Nat} {ps : List MemPlace} (h : ptrElem v = some (ptrD o, ps)) : v = ptrV o := by
  unfold ptrElem at h
  split at h
  · injection h with h
    injection h with h _
    rw [← ptrD_inj h]; rfl
  · injection h with h
    injection h with h _
    rw [← ptrD_inj h]; rfl
  · cases h
theorem trLaw : Keyed Try.prog 9 := string_keyed Try.underlying9
theorem trZero (w : World) : (zeroValue 111).run Try.prog w = .ok (ptrV none) w := by kernel_rfl
theorem trKey {k : Pfx} (h : k.length ≤ 1000) : keyOf Try.prog 9 (.string ⟨k.toArray⟩) = some (.string k) := by
  have := WideMaps.keyOf_string_mk (P := Try.prog) Try.underlying9 (s := ⟨k.toArray⟩) (by unfold maxLen; simp [ByteArray.size]; omega)
  simpa using this
theorem tr_block {k : TypeId} {R : Value → Option (DataW Unit × List MemPlace)} {b n : Nat} {D : DataW Unit} {w w' : World} (h : w.ownsMap Try.prog k R b n D) (e : w'.heap[b]? = w.heap[b]?) : w'.ownsMap Try.prog k R b n D := by
  obtain ⟨es, c, h1, h2⟩ := h
  exact ⟨es, c, e.trans h1, h2⟩

/-- A node's cells. -/
def ndA (n : TNd) : Array Value := #[.int .i64 n.own, .int .u8 (n.may : Nat), .int .u8 (n.asl : Nat), .int .u8 (n.todo : Nat), .int .u8 (n.gone : Nat)]
/-- Which block a prefix's node has. -/
def blkT (l : List TNd) (gs : List Nat) (k : Pfx) : Option Nat := (idxT l k).bind fun i => gs[i]?
/-- What never changes of a tree. -/
structure TrH where
  b : Nat
  mb : Nat
  a : Option Addr
  cap : Nat
  wc : World
  p : Pg
  fuel : Int
/-- Its blocks. -/
def TrS (h : TrH) (gs : List Nat) (x : Nat) : Prop := x = h.b ∨ x = h.mb ∨ x ∈ gs
/-- The tree's box. -/
def trA (h : TrH) (cl : Int) : Array Value := #[.int .i64 h.p.vars, .int .i64 h.p.mutexes, .slice h.a h.p.threads.length h.cap, .int .i64 h.fuel, .map (some h.mb), .int .i64 cl]
structure TrAt (h : TrH) (w : World) (gs : List Nat) (l : List TNd) (cl : Int) : Prop where
  thr : ThreadsAt h.wc h.a h.p.threads
  below : Below h.wc.heap.size h.wc w
  low : ∀ x, TrS h gs x → h.wc.heap.size ≤ x
  box : w.heap[h.b]? = some (.cells (trA h cl) 102 (0, 0))
  map : ∃ D, w.ownsMap Try.prog 9 ptrElem h.mb l.length D ∧ (∀ k, D.atKey (.string k) (ptrD none) = ptrD (blkT l gs k) ∧ Maps.has D (.string k) = (blkT l gs k).isSome) ∧ Maps.size D = l.length
  len : gs.length = l.length
  nodup : gs.Nodup
  nodes : ∀ i (h1 : i < l.length) (h2 : i < gs.length), w.heap[gs[i]]? = some (.cells (ndA l[i]) 114 (0, 0))
  ok : TrOk h.p h.fuel l
  fuel : goodPg h.p h.fuel = true
theorem TrAt.thrW {h : TrH} {w : World} {gs : List Nat} {l : List TNd} {cl : Int} (t : TrAt h w gs l cl) : ThreadsAt w h.a h.p.threads := t.thr.later t.below
theorem TrAt.lt {h : TrH} {w : World} {gs : List Nat} {l : List TNd} {cl : Int} (t : TrAt h w gs l cl) : ∀ x, TrS h gs x → x < w.heap.size := by
  rintro x (rfl | rfl | hx)
  · exact (Array.getElem?_eq_some_iff.1 t.box).1
  · obtain ⟨D, hD, _⟩ := t.map
    exact hD.lt
  · obtain ⟨i, hi, rfl⟩ := List.getElem_of_mem hx
    exact (Array.getElem?_eq_some_iff.1 (t.nodes i (by have := t.len; omega) hi)).1
theorem TrAt.keep {h : TrH} {w w' : World} {gs : List Nat} {l : List TNd} {cl : Int} (t : TrAt h w gs l cl) (hb : Below h.wc.heap.size w w') (hk : ∀ x, TrS h gs x → w'.heap[x]? = w.heap[x]?) : TrAt h w' gs l cl := by
  obtain ⟨D, hD, h2, h3⟩ := t.map
  exact ⟨t.thr, t.below.trans hb, t.low, (hk _ (.inl rfl)).trans t.box, ⟨D, tr_block hD (hk _ (.inr (.inl rfl))), h2, h3⟩, t.len, t.nodup, fun i h1 h2 => (hk _ (.inr (.inr (List.getElem_mem h2)))).trans (t.nodes i h1 h2), t.ok, t.fuel⟩
theorem TrAt.later {h : TrH} {w w' : World} {gs : List Nat} {l : List TNd} {cl : Int} (t : TrAt h w gs l cl) (hb : Below w.heap.size w w') : TrAt h w' gs l cl :=
  t.keep (hb.mono t.below.size) fun x hx => hb.block x (t.lt x hx)
theorem TrAt.drew {h : TrH} {w : World} {gs : List Nat} {l : List TNd} {cl : Int} (t : TrAt h w gs l cl) : TrAt h w.drew gs l cl := t.keep (Below.refl _ _).drew fun _ _ => rfl
theorem TrAt.onlyS {h : TrH} {w w' : World} {S : Nat → Prop} {gs : List Nat} {l : List TNd} {cl : Int} (t : TrAt h w gs l cl) (ho : OnlyS S w w') (hS : ∀ x, TrS h gs x → ¬ S x) (hl : ∀ x, S x → h.wc.heap.size ≤ x) : TrAt h w' gs l cl :=
  t.keep (ho.below t.below.size hl) fun x hx => ho.block x (t.lt x hx) (hS x hx)
theorem TrAt.cells {h : TrH} {w : World} {gs : List Nat} {l : List TNd} {cl : Int} (t : TrAt h w gs l cl) : w.cell? ⟨h.b, 0, none⟩ = some (.int .i64 h.p.vars) ∧ w.cell? ⟨h.b, 1, none⟩ = some (.int .i64 h.p.mutexes) ∧ w.cell? ⟨h.b, 2, none⟩ = some (.slice h.a h.p.threads.length h.cap) ∧
    w.cell? ⟨h.b, 3, none⟩ = some (.int .i64 h.fuel) ∧ w.cell? ⟨h.b, 4, none⟩ = some (.map (some h.mb)) ∧ w.cell? ⟨h.b, 5, none⟩ = some (.int .i64 cl) :=
  ⟨by rw [cell_of_row w h.b 0 _ _ _ t.box]; rfl, by rw [cell_of_row w h.b 1 _ _ _ t.box]; rfl, by rw [cell_of_row w h.b 2 _ _ _ t.box]; rfl, by rw [cell_of_row w h.b 3 _ _ _ t.box]; rfl, by rw [cell_of_row w h.b 4 _ _ _ t.box]; rfl, by rw [cell_of_row w h.b 5 _ _ _ t.box]; rfl⟩
/-- A node's block, and its cells. -/
theorem TrAt.node {h : TrH} {w : World} {gs : List Nat} {l : List TNd} {cl : Int} (t : TrAt h w gs l cl) {i : Nat} (hi : i < l.length) : ∃ hg : i < gs.length, w.cell? ⟨gs[i], 0, none⟩ = some (.int .i64 l[i].own) ∧ w.cell? ⟨gs[i], 1, none⟩ = some (.int .u8 (l[i].may : Nat)) ∧ w.cell? ⟨gs[i], 2, none⟩ = some (.int .u8 (l[i].asl : Nat)) ∧
    w.cell? ⟨gs[i], 3, none⟩ = some (.int .u8 (l[i].todo : Nat)) ∧ w.cell? ⟨gs[i], 4, none⟩ = some (.int .u8 (l[i].gone : Nat)) := by
  have hg : i < gs.length := by have := t.len; omega
  have hn := t.nodes i hi hg
  exact ⟨hg, by rw [cell_of_row w _ 0 _ _ _ hn]; rfl, by rw [cell_of_row w _ 1 _ _ _ hn]; rfl, by rw [cell_of_row w _ 2 _ _ _ hn]; rfl, by rw [cell_of_row w _ 3 _ _ _ hn]; rfl, by rw [cell_of_row w _ 4 _ _ _ hn]; rfl⟩
/-- What a look-up in the map tells. -/
theorem TrAt.look {h : TrH} {w : World} {gs : List Nat} {l : List TNd} {cl : Int} (t : TrAt h w gs l cl) {k : Pfx} (hk : k.length ≤ 1000) : (Instr.lookup 100 (.map (some h.mb)) (.string ⟨k.toArray⟩) false).run Try.prog w = .ok (ptrV (blkT l gs k)) w := by
  obtain ⟨D, hD, h2, _⟩ := t.map
  obtain ⟨v, ps, hr, hv⟩ := hD.lookup trLaw Try.underlying100 (trZero w) (ptrElem_mk none) (trKey hk)
  rw [(h2 k).1] at hv
  rw [hr, ptrElem_inv hv]
theorem blkT_some {l : List TNd} {gs : List Nat} {k : Pfx} {i : Nat} (h : idxT l k = some i) (hg : i < gs.length) : blkT l gs k = some gs[i] := by
  unfold blkT; rw [h]; simp [hg]
theorem blkT_none {l : List TNd} {gs : List Nat} {k : Pfx} (h : idxT l k = none) : blkT l gs k = none := by
  unfold blkT; rw [h]; rfl

/-- A node is changed in its place. -/
theorem TrAt.put {h : TrH} {w w' : World} {gs : List Nat} {l : List TNd} {cl : Int} (t : TrAt h w gs l cl) {i : Nat} (hi : i < l.length) (hg : i < gs.length) {n : TNd} (e : n.pre = l[i].pre) (em : n.may = l[i].may) (hn : n.Ok) (ht : ∀ i, n.todo.testBit i = true → n.may.testBit i = true)
    (ho : OnlyS (fun x => x = gs[i]) w w') (hc : w'.heap[gs[i]]? = some (.cells (ndA n) 114 (0, 0))) : TrAt h w' gs (l.set i n) cl := by
  have hbn : gs[i] ≠ h.b := by
    intro e2
    have h1 := t.nodes i hi hg
    rw [e2, t.box] at h1
    injection h1 with h1
    injection h1 with h1
    unfold trA ndA at h1
    simp at h1
  have hmn : gs[i] ≠ h.mb := by
    intro e2
    have h1 := t.nodes i hi hg
    obtain ⟨D, ⟨es, c, h3, _⟩, _⟩ := t.map
    rw [e2, h3] at h1
    cases h1
  have hb : Below h.wc.heap.size w w' := ho.below t.below.size fun x hx => by subst hx; exact t.low _ (.inr (.inr (List.getElem_mem hg)))
  obtain ⟨D, hD, h2, h3⟩ := t.map
  refine ⟨t.thr, t.below.trans hb, t.low, (ho.block _ (t.lt _ (.inl rfl)) (Ne.symm hbn)).trans t.box, ⟨D, ?_, ?_, ?_⟩, ?_, t.nodup, ?_, t.ok.set hi e em hn ht, t.fuel⟩
  · rw [List.length_set]
    exact tr_block hD (ho.block _ (t.lt _ (.inr (.inl rfl))) (Ne.symm hmn))
  · intro k
    have := h2 k
    unfold blkT at *
    rw [idxT_set hi e]
    exact this
  · rw [List.length_set]; exact h3
  · rw [List.length_set]; exact t.len
  · intro j h1 h4
    rw [List.length_set] at h1
    rw [List.getElem_set]
    split
    · rename_i e2; subst e2; exact hc
    · rename_i e2
      have hne : gs[j] ≠ gs[i] := fun e3 => e2 ((List.getElem_inj t.nodup).1 e3).symm
      exact (ho.block _ (t.lt _ (.inr (.inr (List.getElem_mem h4)))) hne).trans (t.nodes j h1 h4)
/-- A node more, behind the others. -/
theorem TrAt.more {h : TrH} {w w' : World} {gs : List Nat} {l : List TNd} {cl : Int} (t : TrAt h w gs l cl) {n : TNd} {g : Nat} (hg : w.heap.size ≤ g) (ho : OnlyS (fun x => x = h.mb) w w') (hc : w'.heap[g]? = some (.cells (ndA n) 114 (0, 0)))
    {D : DataW Unit} (hD : w'.ownsMap Try.prog 9 ptrElem h.mb (l.length + 1) D) (h2 : ∀ k, D.atKey (.string k) (ptrD none) = ptrD (if k = n.pre then some g else blkT l gs k) ∧ Maps.has D (.string k) = (if k = n.pre then some g else blkT l gs k).isSome) (h3 : Maps.size D = l.length + 1) (hk : idxT l n.pre = none) (ok : TrOk h.p h.fuel (l ++ [n])) :
    TrAt h w' (gs ++ [g]) (l ++ [n]) cl := by
  have hb : Below h.wc.heap.size w w' := ho.below t.below.size fun x hx => by subst hx; exact t.low _ (.inr (.inl rfl))
  have hbm : h.b ≠ h.mb := by
    intro e
    have h1 := t.box
    obtain ⟨D, ⟨es, c, h3, _⟩, _⟩ := t.map
    rw [e, h3] at h1
    cases h1
  have hln := t.len
  refine ⟨t.thr, t.below.trans hb, ?_, (ho.block _ (t.lt _ (.inl rfl)) hbm).trans t.box, ⟨D, ?_, ?_, ?_⟩, ?_, ?_, ?_, ok, t.fuel⟩
  · rintro x (hx | hx | hx)
    · exact t.low x (.inl hx)
    · exact t.low x (.inr (.inl hx))
    · rw [List.mem_append, List.mem_singleton] at hx
      rcases hx with hx | rfl
      · exact t.low x (.inr (.inr hx))
      · exact Nat.le_trans t.below.size hg
  · rw [List.length_append]; exact hD
  · intro k
    have e2 : blkT (l ++ [n]) (gs ++ [g]) k = if k = n.pre then some g else blkT l gs k := by
      unfold blkT
      rw [idxT_snoc hk]
      by_cases e : k = n.pre
      · rw [if_pos e, if_pos e]
        simp [← hln]
      · rw [if_neg e, if_neg e]
        cases hi : idxT l k with
        | none => rfl
        | some i =>
          obtain ⟨hi2, _⟩ := idxT_some hi
          simp only [Option.bind_some]
          rw [List.getElem?_append_left (by omega)]
    rw [e2]
    exact h2 k
  · rw [List.length_append]; exact h3
  · rw [List.length_append, List.length_append, hln]; rfl
  · rw [List.nodup_append]
    refine ⟨t.nodup, by simp, ?_⟩
    intro a ha b hb e
    simp at hb
    subst hb e
    have := t.lt a (.inr (.inr ha))
    omega
  · intro i h1 h4
    rw [List.length_append] at h1 h4
    simp only [List.length_singleton] at h1 h4
    by_cases e : i < l.length
    · rw [List.getElem_append_left (by omega), List.getElem_append_left e]
      have hmn : gs[i]'(by omega) ≠ h.mb := by
        intro e2
        have h1 := t.nodes i e (by omega)
        obtain ⟨D, ⟨es, c, h3, _⟩, _⟩ := t.map
        rw [e2, h3] at h1
        cases h1
      exact (ho.block _ (t.lt _ (.inr (.inr (List.getElem_mem _)))) hmn).trans (t.nodes i e (by omega))
    · obtain rfl : i = l.length := by omega
      simp only [← hln]
      rw [List.getElem_append_right (by omega), List.getElem_append_right (by omega)]
      simpa using hc
/-- One more was gone into. -/
theorem TrAt.count {h : TrH} {w w' : World} {gs : List Nat} {l : List TNd} {cl cl' : Int} (t : TrAt h w gs l cl) (ho : OnlyS (fun x => x = h.b) w w') (hc : w'.heap[h.b]? = some (.cells (trA h cl') 102 (0, 0))) : TrAt h w' gs l cl' := by
  have hb : Below h.wc.heap.size w w' := ho.below t.below.size fun x hx => by subst hx; exact t.low _ (.inl rfl)
  have hbm : h.b ≠ h.mb := by
    intro e
    have h1 := t.box
    obtain ⟨D, ⟨es, c, h3, _⟩, _⟩ := t.map
    rw [e, h3] at h1
    cases h1
  obtain ⟨D, hD, h2, h3⟩ := t.map
  refine ⟨t.thr, t.below.trans hb, t.low, hc, ⟨D, tr_block hD (ho.block _ (t.lt _ (.inr (.inl rfl))) (Ne.symm hbm)), h2, h3⟩, t.len, t.nodup, fun i h1 h2 => ?_, t.ok, t.fuel⟩
  have hbn : gs[i] ≠ h.b := by
    intro e2
    have h1 := t.nodes i h1 h2
    rw [e2, t.box] at h1
    injection h1 with h1
    injection h1 with h1
    unfold trA ndA at h1
    simp at h1
  exact (ho.block _ (t.lt _ (.inr (.inr (List.getElem_mem h2)))) hbn).trans (t.nodes i h1 h2)

end Go.Proofs.Ytkphdmfcmfojeaa

/- A row that the call has made, and fills place by place. -/
namespace Go.Proofs.Ytkphdmfcmfojeaa
open Go.RowKit

theorem run_make_k {P : Program} (t e : TypeId) (z : Value) (k bytes : Nat) (ht : P.underlying t = some (.slice e)) (hinfo : (P.info? e).map (fun i => (i.zero, i.size, i.bytes)) = some (some z, k, bytes))
    (n : Nat) (hbytes : bytes * n ≤ 281474976710656) (h63 : n ≤ 9223372036854775807) (w : World) :
    (Instr.makeSlice t (.int .i64 (n : Int)) (.int .i64 (n : Int))).run P w = .ok (.slice (some ⟨w.heap.size, 0, none⟩) n n) (w.alloc (.cells (madeCells z.cells (n * k)) e)) := by
  obtain ⟨i, hi, hzz⟩ := Option.map_eq_some_iff.1 hinfo
  simp only [Prod.mk.injEq] at hzz
  obtain ⟨hz, hs, hb⟩ := hzz
  have hb' : (i.bytes : Int) * (n : Int) ≤ 281474976710656 := by
    rw [hb, ← Int.natCast_mul]; omega
  have h := run_make (P := P) w t e i z ht hi hz .i64 .i64 n n (by omega) (by omega) hb' (by omega)
  rw [hs] at h
  simpa using h

/-- In w the block g is the row xs. -/
def MidAt (w : World) (g : Nat) (t : TypeId) (xs : List Value) : Prop := w.heap[g]? = some (.cells xs.toArray t (0, 0))
theorem MidAt.lt {w : World} {g : Nat} {t : TypeId} {xs : List Value} (h : MidAt w g t xs) : g < w.heap.size := (Array.getElem?_eq_some_iff.1 h).1
theorem MidAt.later {w w' : World} {g : Nat} {t : TypeId} {xs : List Value} (h : MidAt w g t xs) (hb : Below w.heap.size w w') : MidAt w' g t xs := (hb.block g h.lt).trans h
theorem MidAt.cell {w : World} {g : Nat} {t : TypeId} {xs : List Value} (h : MidAt w g t xs) (j : Nat) : w.cell? ⟨g, j, none⟩ = xs[j]? := by
  simp [World.cell?, show w.heap[g]? = _ from h]
theorem MidAt.frozen {w : World} {g : Nat} {t : TypeId} {xs : List Value} (h : MidAt w g t xs) (j : Nat) : w.frozen? ⟨g, j, none⟩ = false := by
  simp [World.frozen?, show w.heap[g]? = _ from h]
theorem MidAt.set {w : World} {g : Nat} {t : TypeId} {xs : List Value} (h : MidAt w g t xs) (j : Nat) (v : Value) : MidAt (w.setCell ⟨g, j, none⟩ v) g t (xs.set j v) := by
  have := heap_setCell_same w g j _ _ v h
  unfold MidAt
  rw [this]
  simp
theorem MidAt.made (w : World) (t : TypeId) (z : Value) (n : Nat) : MidAt (w.alloc (.cells (madeCells #[z] n) t)) w.heap.size t (List.replicate n z) := by
  have := heap_alloc_new w (.cells (madeCells #[z] n) t)
  unfold MidAt
  rw [this]
  simp [madeCells]
  apply Array.ext <;> simp [Nat.mod_one]

/-- The first k places are filled. -/
def fill {T : Type} (f : T → Value) (z : Value) (l : List T) (k : Nat) : List Value := (l.take k).map f ++ List.replicate (l.length - k) z
theorem fill_zero {T : Type} (f : T → Value) (z : Value) (l : List T) : fill f z l 0 = List.replicate l.length z := by simp [fill]
theorem fill_all {T : Type} (f : T → Value) (z : Value) (l : List T) : fill f z l l.length = l.map f := by simp [fill]
theorem fill_length {T : Type} (f : T → Value) (z : Value) (l : List T) (k : Nat) (h : k ≤ l.length) : (fill f z l k).length = l.length := by simp [fill]; omega
theorem fill_set {T : Type} (f : T → Value) (z : Value) (l : List T) (k : Nat) (h : k < l.length) : (fill f z l k).set k (f l[k]) = fill f z l (k + 1) := by
  unfold fill
  have e : k - ((l.take k).map f).length = 0 := by simp; omega
  rw [List.set_append_right _ _ (by simp; omega), e, List.take_succ_eq_append_getElem h, show l.length - k = (l.length - (k + 1)) + 1 by omega, List.replicate_succ, List.map_append, List.append_assoc]
  rfl

theorem MidAt.nums {w : World} {g : Nat} {t : TypeId} {ns : List Int} (h : MidAt w g t (ns.map (Value.int .i64))) (hm : ns.length ≤ 1000000) : NumsAt w (some ⟨g, 0, none⟩) ns := by
  refine ⟨by unfold maxLen; omega, fun _ => ⟨g, 0, rfl, fun i hi => ?_⟩⟩
  rw [Nat.zero_add, h.cell]
  simp [hi]

end Go.Proofs.Ytkphdmfcmfojeaa
