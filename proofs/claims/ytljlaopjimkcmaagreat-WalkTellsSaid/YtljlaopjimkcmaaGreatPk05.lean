import Derived.Deep.RegionHeld3
import Derived.Laws.CopyOwn
import Derived.Deep.WholeRow
import Derived.Test.YtljlaopjimkcmaaGreatPk01
import Derived.Test.YtljlaopjimkcmaaGreatPk03
import Derived.Test.YtljlaopjimkcmaaGreatPk04

/- The contract of Step. -/
namespace Go.Proofs.YtljlaopjimkcmaaGreat
open Go.RowKit

def stepV (x : Int × Ev × St) : Value := .tuple #[evV x.2.1, .int .i64 x.1]
theorem stepV_err (e : Int) (s : St) : stepV (e, ev0, s) = .tuple #[.agg #[.int .i64 0, .int .i64 0, .int .i64 0, .bool false], .int .i64 e] := rfl
theorem stepV_ok (e : Ev) (s : St) : stepV (0, e, s) = .tuple #[.agg #[.int .i64 e.thread, .int .i64 e.kind, .int .i64 e.obj, .bool e.fail], .int .i64 0] := rfl

set_option maxRecDepth 100000 in
set_option maxHeartbeats 2000000 in
theorem step_range {F : Nat} {s : St} {b : Nat} {w : World} (h : StAt w b s) (_ok : s.Ok F) (t : Int) (hb : belowB t s.ts.length = false) :
    Calls Tryz.prog 16 #[.pointer (some ⟨b, 0, none⟩), .int .i64 t] w fun e w' => e = .returned (stepV (s.step t)) ∧ StAt w' b (s.step t).2.2 ∧ Only b w w' := by
  have hst : s.step t = (2, ev0, s) := by
    unfold St.step
    rw [if_neg (fun e => by unfold St.has at e; simp [belowB] at hb; omega)]
  rw [hst, stepV_err]
  have hbl := h.lt
  have c0 := h.num 0 (by omega)
  rw [stNum_threads] at c0
  have HB := Lib.hid (h.later (below_alloc1 w (.cells #[.int .i64 0, .int .i64 0, .int .i64 0, .bool false] 51)))
  clear hst h
  go_enter Tryz.func16, Tryz.ntmps16
  go_wp2_with (go_at_call 30; refine (sbelow_any _ _ _).mono ?_; rintro r w' ⟨rfl, rfl⟩)
  refine bodyPost_ret (v := .tuple #[.agg #[.int .i64 0, .int .i64 0, .int .i64 0, .bool false], .int .i64 2]) (by simp [results, Tryz.results16, go_sem]) rfl ⟨rfl, ?_, ?_⟩
  · exact HB.out
  · exact only_alloc b w _

set_option maxRecDepth 100000 in
set_option maxHeartbeats 2000000 in
theorem step_none {F : Nat} {s : St} {b : Nat} {w : World} (h : StAt w b s) (ok : s.Ok F) (t : Int) (hb : belowB t s.ts.length = true) (hi : s.ins t = none) :
    Calls Tryz.prog 16 #[.pointer (some ⟨b, 0, none⟩), .int .i64 t] w fun e w' => e = .returned (stepV (s.step t)) ∧ StAt w' b (s.step t).2.2 ∧ Only b w w' := by
  have hst : s.step t = (6, ev0, s) := by
    unfold St.step
    rw [if_pos (by unfold St.has; simpa [belowB] using hb), hi]
  rw [hst, stepV_err]
  have hbl := h.lt
  have c0 := h.num 0 (by omega)
  rw [stNum_threads] at c0
  have HB := Lib.hid (h.later (below_alloc1 w (.cells #[.int .i64 0, .int .i64 0, .int .i64 0, .bool false] 51)))
  have OK := Lib.hid ok
  have HI := Lib.hid hi
  clear hst h ok hi
  go_enter Tryz.func16, Tryz.ntmps16
  go_wp2_with (go_at_call 30; refine (sbelow_any _ _ _).mono ?_; rintro r w' ⟨rfl, rfl⟩)
  refine (instr_any HB.out OK.out t).mono ?_
  rw [HI.out, insR_none]
  rintro r w1 ⟨rfl, hb1⟩
  have hz : w.heap.size < w1.heap.size := by have := hb1.size; simp at this; omega
  have hc : ∀ o, w1.cell? ⟨w.heap.size, o, none⟩ = (w.alloc (.cells #[.int .i64 0, .int .i64 0, .int .i64 0, .bool false] 51)).cell? ⟨w.heap.size, o, none⟩ := fun o => hb1.cell (p := ⟨w.heap.size, o, none⟩) (by simp)
  have hf : ∀ o, w1.frozen? ⟨w.heap.size, o, none⟩ = (w.alloc (.cells #[.int .i64 0, .int .i64 0, .int .i64 0, .bool false] 51)).frozen? ⟨w.heap.size, o, none⟩ := fun o => hb1.frozen (p := ⟨w.heap.size, o, none⟩) (by simp)
  have H1 := Lib.hid (HB.out.later hb1)
  have O1 := Lib.hid ((only_alloc b w (.cells #[.int .i64 0, .int .i64 0, .int .i64 0, .bool false] 51)).trans (.of_below hb1))
  have B1 : Hid (Below w.heap.size w w1) := (below_alloc1 w _).trans (hb1.mono (by simp))
  clear hb1 c0
  go_wp2
  refine bodyPost_ret (v := .tuple #[.agg #[.int .i64 0, .int .i64 0, .int .i64 0, .bool false], .int .i64 6]) (by simp [results, Tryz.results16, go_sem, hc, hz]) rfl ⟨rfl, ?_, ?_⟩
  · exact (H1.out.other4 (by omega) _ _ _ _).later (below_alloc1 _ _)
  · exact (O1.out.set4 (Nat.le_refl _) _ _ _ _).alloc _

set_option maxRecDepth 100000 in
set_option maxHeartbeats 4000000 in
theorem step_state {F : Nat} {s : St} {b : Nat} {w : World} (h : StAt w b s) (ok : s.Ok F) (t : Nat) (i : Ins) (hi : s.ins t = some i) (hm : s.may t = false) :
    Calls Tryz.prog 16 #[.pointer (some ⟨b, 0, none⟩), .int .i64 t] w fun e w' => e = .returned (stepV (s.step t)) ∧ StAt w' b (s.step t).2.2 ∧ Only b w w' := by
  obtain ⟨k, hkk, ht⟩ := St.ins_nat hi
  obtain rfl : t = k := by omega
  have hb : belowB t s.ts.length = true := by simp [belowB]; omega
  have hn : s.next t = some (s.ev t i) := by unfold St.next; rw [hi]; rfl
  have hst : s.step t = (9, ev0, s) := by
    unfold St.step
    rw [if_pos (by unfold St.has; omega), hi]
    simp only [hm]
    rfl
  rw [hst, stepV_err]
  clear hst
  have hbl := h.lt
  have c0 := h.num 0 (by omega)
  rw [stNum_threads] at c0
  have HB := Lib.hid (h.later (below_alloc1 w (.cells #[.int .i64 0, .int .i64 0, .int .i64 0, .bool false] 51)))
  have OK := Lib.hid ok
  have HI := Lib.hid hi
  have HM := Lib.hid hm
  obtain ⟨e, he⟩ : ∃ e, e = s.ev t i := ⟨_, rfl⟩
  rw [← he] at hn
  have HE := Lib.hid he
  have HN := Lib.hid hn
  clear h ok hi hkk hm he hn
  go_enter Tryz.func16, Tryz.ntmps16
  go_wp2_with (go_at_call 30; refine (sbelow_any _ _ _).mono ?_; rintro r w' ⟨rfl, rfl⟩)
  refine (instr_any HB.out OK.out t).mono ?_
  rw [HI.out, insR_some]
  rintro r w1 ⟨rfl, hb1⟩
  have hz : w.heap.size < w1.heap.size := by have := hb1.size; simp at this; omega
  have hc : ∀ o, w1.cell? ⟨w.heap.size, o, none⟩ = (w.alloc (.cells #[.int .i64 0, .int .i64 0, .int .i64 0, .bool false] 51)).cell? ⟨w.heap.size, o, none⟩ := fun o => hb1.cell (p := ⟨w.heap.size, o, none⟩) (by simp)
  have hf : ∀ o, w1.frozen? ⟨w.heap.size, o, none⟩ = (w.alloc (.cells #[.int .i64 0, .int .i64 0, .int .i64 0, .bool false] 51)).frozen? ⟨w.heap.size, o, none⟩ := fun o => hb1.frozen (p := ⟨w.heap.size, o, none⟩) (by simp)
  have H1 := Lib.hid ((HB.out.later hb1).later (below_alloc1 w1 (.cells #[.int .i64 i.kind, .int .i64 i.r, .int .i64 i.x, .int .i64 i.n] 60)))
  have B1 : Hid (Below w.heap.size w w1) := (below_alloc1 w _).trans (hb1.mono (by simp))
  clear hb1 c0 HB
  go_wp2_with fail
  refine (event_of H1.out OK.out HI.out).mono ?_
  rw [← HE.out, evV]
  rintro r w2 ⟨rfl, hb2⟩
  have hz2 : w1.heap.size < w2.heap.size := by have := hb2.size; simp at this; omega
  have hz3 : w.heap.size < w2.heap.size := by omega
  have B2 : Hid (Below w1.heap.size w1 w2) := (below_alloc1 w1 _).trans (hb2.mono (by simp))
  have hc2 : ∀ o, w2.cell? ⟨w.heap.size, o, none⟩ = w1.cell? ⟨w.heap.size, o, none⟩ := fun o => B2.out.cell (p := ⟨w.heap.size, o, none⟩) hz
  have hf2 : ∀ o, w2.frozen? ⟨w.heap.size, o, none⟩ = w1.frozen? ⟨w.heap.size, o, none⟩ := fun o => B2.out.frozen (p := ⟨w.heap.size, o, none⟩) hz
  have hd2 : ∀ o, w2.cell? ⟨w1.heap.size, o, none⟩ = (w1.alloc (.cells #[.int .i64 i.kind, .int .i64 i.r, .int .i64 i.x, .int .i64 i.n] 60)).cell? ⟨w1.heap.size, o, none⟩ := fun o => hb2.cell (p := ⟨w1.heap.size, o, none⟩) (by simp)
  have H2 := Lib.hid ((H1.out.later hb2).later (below_alloc1 w2 (.cells #[.int .i64 e.thread, .int .i64 e.kind, .int .i64 e.obj, .bool e.fail] 51)))
  clear hb2 H1
  go_wp2_with fail
  refine (may_of H2.out OK.out HN.out).mono ?_
  rw [HM.out]
  rintro r w3 ⟨rfl, hb3⟩
  have hz4 : w2.heap.size < w3.heap.size := by have := hb3.size; simp at this; omega
  have hz5 : w1.heap.size < w3.heap.size := by omega
  have hz6 : w.heap.size < w3.heap.size := by omega
  have B3 : Hid (Below w2.heap.size w2 w3) := (below_alloc1 w2 _).trans (hb3.mono (by simp))
  have hc3 : ∀ o, w3.cell? ⟨w.heap.size, o, none⟩ = w2.cell? ⟨w.heap.size, o, none⟩ := fun o => B3.out.cell (p := ⟨w.heap.size, o, none⟩) hz3
  have hf3 : ∀ o, w3.frozen? ⟨w.heap.size, o, none⟩ = w2.frozen? ⟨w.heap.size, o, none⟩ := fun o => B3.out.frozen (p := ⟨w.heap.size, o, none⟩) hz3
  have hd3 : ∀ o, w3.cell? ⟨w1.heap.size, o, none⟩ = w2.cell? ⟨w1.heap.size, o, none⟩ := fun o => B3.out.cell (p := ⟨w1.heap.size, o, none⟩) hz2
  have he3 : ∀ o, w3.cell? ⟨w2.heap.size, o, none⟩ = (w2.alloc (.cells #[.int .i64 e.thread, .int .i64 e.kind, .int .i64 e.obj, .bool e.fail] 51)).cell? ⟨w2.heap.size, o, none⟩ := fun o => hb3.cell (p := ⟨w2.heap.size, o, none⟩) (by simp)
  have H3 := Lib.hid (H2.out.later hb3)
  have W3 : Hid (Below w.heap.size w w3) := (B1.out.trans (B2.out.mono (by omega))).trans (B3.out.mono (by omega))
  clear hb3 H2
  go_wp2
  refine bodyPost_ret (v := .tuple #[.agg #[.int .i64 0, .int .i64 0, .int .i64 0, .bool false], .int .i64 9]) (by simp [results, Tryz.results16, go_sem, hc, hc2, hc3]) rfl ⟨rfl, ?_, ?_⟩
  · exact H3.out.other4 (by omega) _ _ _ _
  · exact (Only.of_below W3.out).set4 (Nat.le_refl _) _ _ _ _

set_option maxRecDepth 100000 in
set_option maxHeartbeats 4000000 in
theorem step_done {F : Nat} {s : St} {b : Nat} {w : World} (h : StAt w b s) (ok : s.Ok F) (t : Nat) (i : Ins) (hi : s.ins t = some i) (hm : s.may t = true) :
    Calls Tryz.prog 16 #[.pointer (some ⟨b, 0, none⟩), .int .i64 t] w fun e w' => e = .returned (stepV (s.step t)) ∧ StAt w' b (s.step t).2.2 ∧ Only b w w' := by
  obtain ⟨k, hkk, ht⟩ := St.ins_nat hi
  obtain rfl : t = k := by omega
  have hb : belowB t s.ts.length = true := by simp [belowB]; omega
  have hn : s.next t = some (s.ev t i) := by unfold St.next; rw [hi]; rfl
  have hst : s.step t = (0, s.ev t i, s.do_ t i) := by
    unfold St.step
    rw [if_pos (by unfold St.has; omega), hi]
    simp only [hm]
    rfl
  rw [hst, stepV_ok]
  clear hst
  dsimp only
  have hbl := h.lt
  have c0 := h.num 0 (by omega)
  rw [stNum_threads] at c0
  have HB := Lib.hid (h.later (below_alloc1 w (.cells #[.int .i64 0, .int .i64 0, .int .i64 0, .bool false] 51)))
  have OK := Lib.hid ok
  have HI := Lib.hid hi
  have HM := Lib.hid hm
  obtain ⟨e, he⟩ : ∃ e, e = s.ev t i := ⟨_, rfl⟩
  rw [← he] at hn ⊢
  have HE := Lib.hid he
  have HN := Lib.hid hn
  clear h ok hi hkk hm he hn
  go_enter Tryz.func16, Tryz.ntmps16
  go_wp2_with (go_at_call 30; refine (sbelow_any _ _ _).mono ?_; rintro r w' ⟨rfl, rfl⟩)
  refine (instr_any HB.out OK.out t).mono ?_
  rw [HI.out, insR_some]
  rintro r w1 ⟨rfl, hb1⟩
  have hz : w.heap.size < w1.heap.size := by have := hb1.size; simp at this; omega
  have hc : ∀ o, w1.cell? ⟨w.heap.size, o, none⟩ = (w.alloc (.cells #[.int .i64 0, .int .i64 0, .int .i64 0, .bool false] 51)).cell? ⟨w.heap.size, o, none⟩ := fun o => hb1.cell (p := ⟨w.heap.size, o, none⟩) (by simp)
  have hf : ∀ o, w1.frozen? ⟨w.heap.size, o, none⟩ = (w.alloc (.cells #[.int .i64 0, .int .i64 0, .int .i64 0, .bool false] 51)).frozen? ⟨w.heap.size, o, none⟩ := fun o => hb1.frozen (p := ⟨w.heap.size, o, none⟩) (by simp)
  have H1 := Lib.hid ((HB.out.later hb1).later (below_alloc1 w1 (.cells #[.int .i64 i.kind, .int .i64 i.r, .int .i64 i.x, .int .i64 i.n] 60)))
  have B1 : Hid (Below w.heap.size w w1) := (below_alloc1 w _).trans (hb1.mono (by simp))
  clear hb1 c0 HB
  go_wp2_with fail
  refine (event_of H1.out OK.out HI.out).mono ?_
  rw [← HE.out, evV]
  rintro r w2 ⟨rfl, hb2⟩
  have hz2 : w1.heap.size < w2.heap.size := by have := hb2.size; simp at this; omega
  have hz3 : w.heap.size < w2.heap.size := by omega
  have B2 : Hid (Below w1.heap.size w1 w2) := (below_alloc1 w1 _).trans (hb2.mono (by simp))
  have hc2 : ∀ o, w2.cell? ⟨w.heap.size, o, none⟩ = w1.cell? ⟨w.heap.size, o, none⟩ := fun o => B2.out.cell (p := ⟨w.heap.size, o, none⟩) hz
  have hf2 : ∀ o, w2.frozen? ⟨w.heap.size, o, none⟩ = w1.frozen? ⟨w.heap.size, o, none⟩ := fun o => B2.out.frozen (p := ⟨w.heap.size, o, none⟩) hz
  have hd2 : ∀ o, w2.cell? ⟨w1.heap.size, o, none⟩ = (w1.alloc (.cells #[.int .i64 i.kind, .int .i64 i.r, .int .i64 i.x, .int .i64 i.n] 60)).cell? ⟨w1.heap.size, o, none⟩ := fun o => hb2.cell (p := ⟨w1.heap.size, o, none⟩) (by simp)
  have H2 := Lib.hid ((H1.out.later hb2).later (below_alloc1 w2 (.cells #[.int .i64 e.thread, .int .i64 e.kind, .int .i64 e.obj, .bool e.fail] 51)))
  clear hb2 H1
  go_wp2_with fail
  refine (may_of H2.out OK.out HN.out).mono ?_
  rw [HM.out]
  rintro r w3 ⟨rfl, hb3⟩
  have hz4 : w2.heap.size < w3.heap.size := by have := hb3.size; simp at this; omega
  have hz5 : w1.heap.size < w3.heap.size := by omega
  have hz6 : w.heap.size < w3.heap.size := by omega
  have B3 : Hid (Below w2.heap.size w2 w3) := (below_alloc1 w2 _).trans (hb3.mono (by simp))
  have hc3 : ∀ o, w3.cell? ⟨w.heap.size, o, none⟩ = w2.cell? ⟨w.heap.size, o, none⟩ := fun o => B3.out.cell (p := ⟨w.heap.size, o, none⟩) hz3
  have hf3 : ∀ o, w3.frozen? ⟨w.heap.size, o, none⟩ = w2.frozen? ⟨w.heap.size, o, none⟩ := fun o => B3.out.frozen (p := ⟨w.heap.size, o, none⟩) hz3
  have hd3 : ∀ o, w3.cell? ⟨w1.heap.size, o, none⟩ = w2.cell? ⟨w1.heap.size, o, none⟩ := fun o => B3.out.cell (p := ⟨w1.heap.size, o, none⟩) hz2
  have he3 : ∀ o, w3.cell? ⟨w2.heap.size, o, none⟩ = (w2.alloc (.cells #[.int .i64 e.thread, .int .i64 e.kind, .int .i64 e.obj, .bool e.fail] 51)).cell? ⟨w2.heap.size, o, none⟩ := fun o => hb3.cell (p := ⟨w2.heap.size, o, none⟩) (by simp)
  have H3 := Lib.hid (H2.out.later hb3)
  have W3 : Hid (Below w.heap.size w w3) := (B1.out.trans (B2.out.mono (by omega))).trans (B3.out.mono (by omega))
  clear hb3 H2
  go_wp2_with fail
  refine (do_any H3.out OK.out t i HI.out).mono ?_
  rintro r w4 ⟨rfl, hs4, ho4⟩
  have hz7 : w2.heap.size < w4.heap.size := by have := ho4.size; omega
  have hz8 : w.heap.size < w4.heap.size := by omega
  have cl : ∀ g o, g < w3.heap.size → g ≠ b → w4.cell? ⟨g, o, none⟩ = w3.cell? ⟨g, o, none⟩ := fun g o hg hgb => World.cell?_of_block (w := w3) (ho4.block g hg hgb)
  have fl : ∀ g o, g < w3.heap.size → g ≠ b → w4.frozen? ⟨g, o, none⟩ = w3.frozen? ⟨g, o, none⟩ := fun g o hg hgb => World.frozen?_of_block (w := w3) (ho4.block g hg hgb)
  have hc4 : ∀ o, w4.cell? ⟨w.heap.size, o, none⟩ = w3.cell? ⟨w.heap.size, o, none⟩ := fun o => cl _ o hz6 (by omega)
  have hf4 : ∀ o, w4.frozen? ⟨w.heap.size, o, none⟩ = w3.frozen? ⟨w.heap.size, o, none⟩ := fun o => fl _ o hz6 (by omega)
  have he4 : ∀ o, w4.cell? ⟨w2.heap.size, o, none⟩ = w3.cell? ⟨w2.heap.size, o, none⟩ := fun o => cl _ o hz4 (by omega)
  have HS := Lib.hid hs4
  have HO := Lib.hid ho4
  clear hs4 ho4 cl fl
  go_wp2
  refine bodyPost_ret (v := .tuple #[.agg #[.int .i64 e.thread, .int .i64 e.kind, .int .i64 e.obj, .bool e.fail], .int .i64 0]) (by simp [results, Tryz.results16, go_sem, hc, hc2, hc3, hc4]) rfl ⟨rfl, ?_, ?_⟩
  · exact HS.out.other4 (by omega) _ _ _ _
  · exact (Only.trans (.of_below W3.out) HO.out).set4 (Nat.le_refl _) _ _ _ _

theorem step_any {F : Nat} {s : St} {b : Nat} {w : World} (h : StAt w b s) (ok : s.Ok F) (t : Int) :
    Calls Tryz.prog 16 #[.pointer (some ⟨b, 0, none⟩), .int .i64 t] w fun e w' => e = .returned (stepV (s.step t)) ∧ StAt w' b (s.step t).2.2 ∧ Only b w w' := by
  cases hb : belowB t s.ts.length
  · exact step_range h ok t hb
  · cases hi : s.ins t with
    | none => exact step_none h ok t hb hi
    | some i =>
      obtain ⟨k, rfl, _⟩ := St.ins_nat hi
      cases hm : s.may k
      · exact step_state h ok k i hi hm
      · exact step_done h ok k i hi hm

end Go.Proofs.YtljlaopjimkcmaaGreat

/- The contracts of Enabled, All. -/
namespace Go.Proofs.YtljlaopjimkcmaaGreat
open Go.RowKit

set_option maxRecDepth 100000 in
set_option maxHeartbeats 1000000 in
theorem enabled_any {F : Nat} {s : St} {b : Nat} {w : World} (h : StAt w b s) (ok : s.Ok F) (t : Int) :
    Calls Tryz.prog 32 #[.pointer (some ⟨b, 0, none⟩), .int .i64 t] w fun r w' => r = .returned (.bool (s.may t)) ∧ Below w.heap.size w w' := by
  have H := Lib.hid h
  have OK := Lib.hid ok
  clear h ok
  cases hn : s.next t with
  | none =>
    have hm : s.may t = false := by rw [St.may_eq OK.out, hn]
    rw [hm]
    have HN := Lib.hid hn
    clear hn hm
    go_enter Tryz.func32, Tryz.ntmps32
    go_wp2_with fail
    refine (next_any H.out OK.out t).mono ?_
    rw [HN.out, evR_none]
    rintro r w1 ⟨rfl, hb1⟩
    have hz := hb1.size
    go_wp2
    go_ret
    exact ⟨rfl, hb1.alloc hz _⟩
  | some e =>
    have HN := Lib.hid hn
    clear hn
    go_enter Tryz.func32, Tryz.ntmps32
    go_wp2_with fail
    refine (next_any H.out OK.out t).mono ?_
    rw [HN.out, evR_some]
    rintro r w1 ⟨rfl, hb1⟩
    have hz := hb1.size
    have H2 := Lib.hid ((H.out.later hb1).later (below_alloc1 w1 (.cells #[.int .i64 e.thread, .int .i64 e.kind, .int .i64 e.obj, .bool e.fail] 51)))
    have hb2 := hb1.alloc hz (.cells #[.int .i64 e.thread, .int .i64 e.kind, .int .i64 e.obj, .bool e.fail] 51)
    clear hb1
    go_wp2_with fail
    refine (may_of H2.out OK.out HN.out).mono ?_
    rintro r w2 ⟨rfl, hb3⟩
    have hb4 := hb2.trans (hb3.mono (by simp; omega))
    clear hb2 hb3
    go_wp2
    go_ret
    exact ⟨rfl, hb4⟩

def St.allTo (s : St) (k : Nat) : List Int := ((List.range k).map Int.ofNat).filter s.may
theorem St.allTo_succ (s : St) (k : Nat) : s.allTo (k + 1) = s.allTo k ++ if s.may k = true then [(k : Int)] else [] := by
  unfold St.allTo
  rw [List.range_succ, List.map_append, List.filter_append]
  congr 1
  have e : Int.ofNat k = (k : Int) := rfl
  by_cases h : s.may k = true
  · simp [h]
  · simp [h]
theorem St.allTo_le (s : St) (k : Nat) : (s.allTo k).length ≤ k := by
  unfold St.allTo
  exact Nat.le_trans (List.length_filter_le _ _) (by simp)

set_option maxRecDepth 100000 in
set_option maxHeartbeats 1000000 in
theorem all_any {F : Nat} {s : St} {b : Nat} {w : World} (h : StAt w b s) (ok : s.Ok F) :
    Calls Tryz.prog 15 #[.pointer (some ⟨b, 0, none⟩)] w fun r w' => ∃ v, r = .returned v ∧ OwnN w' w.heap.size v s.all ∧ Below w.heap.size w w' := by
  have h4 := ok.len4
  have H := Lib.hid h
  have OK := Lib.hid ok
  clear h ok
  go_enter Tryz.func15, Tryz.ntmps15
  go_wp2_with (go_at_call 31; refine (threads_any H.out).mono ?_; rintro r w' ⟨rfl, rfl⟩)
  go_loopw [3, 7] (fun l i wr => ∃ k : Nat, k ≤ s.ts.length ∧ i = .int .i64 k ∧ OwnN wr w.heap.size l (s.allTo k) ∧ Below w.heap.size w wr) (fun _ i _ => s.ts.length - (intOf i).toNat)
  case atStart => exact ⟨0, Nat.zero_le _, rfl, ownN_nil _ _, Below.refl _ _⟩
  case round =>
    obtain ⟨k, hk, rfl, hown, hb⟩ := hrel
    by_cases hlt : k < s.ts.length
    · have hle := s.allTo_le k
      have HS := Lib.hid (s.allTo_succ k)
      go_wp2_with fail
      refine (enabled_any (H.out.later hb) OK.out k).mono ?_
      rintro r w1 ⟨rfl, hb1⟩
      have hb2 := hb.trans (hb1.mono hb.size)
      have hown1 := hown.later hb1
      have hz := hb2.size
      clear hown hb hb1
      cases hm : s.may k
      · have HR : Hid (s.allTo (k + 1) = s.allTo k) := by
          show _ = _
          rw [HS.out, hm]; simp
        clear hm
        go_wp2
        go_roundw
        case rel => exact ⟨k + 1, by omega, by go_num, by rw [HR.out]; exact hown1, hb2⟩
        case measure => simp [intOf]; omega
      · have HR : Hid (s.allTo (k + 1) = s.allTo k ++ [(k : Int)]) := by
          show _ = _
          rw [HS.out, hm]; simp
        clear hm
        go_wp2_with (at_builtin; refine wp_appendN rfl (.tmp 13) (.tmp 15) rfl w.heap.size _ (s.allTo k) rfl (hown1.alloc _) ⟨w1.heap.size, 0, none⟩ 1 1 rfl [(k : Int)] rfl (nums_new w1 [(k : Int)] _ _ rfl) (by simp; omega) (by simp; omega) ?_; intro v1 w2 hown2 hb3 _)
        have hb4 := (hb2.alloc hz _).trans hb3
        go_roundw
        case rel => exact ⟨k + 1, by omega, by go_num, by rw [HR.out]; exact hown2, hb4⟩
        case measure => simp [intOf]; omega
    · obtain rfl : k = s.ts.length := by omega
      go_wp2
      go_ret
      exact ⟨_, rfl, hown, hb⟩

end Go.Proofs.YtljlaopjimkcmaaGreat

/- The contract of goOver's closure, that tells ends to one function. -/
namespace Go.Proofs.YtljlaopjimkcmaaGreat
open Go.RowKit

def fnVA (kb rb : Nat) : Value := .func (.func 21) #[] #[.pointer (some ⟨kb, 0, none⟩), .pointer (some ⟨rb, 0, none⟩)]
def argsA (kb rb : Nat) (p r : Value) : Array Value := #[p, r, .pointer (some ⟨kb, 0, none⟩), .pointer (some ⟨rb, 0, none⟩)]

section
variable {F : Nat} {X : Nat → Prop} {I : Ends → World → Prop} {B P M A G most kb rb : Nat}
set_option maxRecDepth 100000 in
set_option maxHeartbeats 8000000 in
theorem goOnA_end (hA : Apart X B P M A G) (hK : KeepC X I) (hE : EndC F X I 21 (argsA kb rb)) (n : Nat)
    (s : St) (row : List Ev) (v : Value) (W : World) (b : Nat) (acc : Ends) (c : Nat) (ok : s.Ok F) (hall : s.all = []) (hl : row.length ≤ 100) (hv : OwnE W B v row) (hB : B ≤ W.heap.size) (hs : StAt W b s) (hbP : b ≠ P) (hbX : ¬ X b)
    (hc : CapC W P M A G most (fnVA kb rb)) (cp : W.cell? ⟨P, 0, none⟩ = some (.int .i64 (c : Int))) (fp : W.frozen? ⟨P, 0, none⟩ = false) (hcm : c < most) (hmost : most ≤ 1000) (hac : acc.length ≤ c) (hI : I acc W) :
    Calls Tryz.prog 41 #[.pointer (some ⟨b, 0, none⟩), v, .pointer (some ⟨P, 0, none⟩), .pointer (some ⟨M, 0, none⟩), .pointer (some ⟨A, 0, none⟩), .pointer (some ⟨G, 0, none⟩)] W (GoR X I B P most n s row v acc c W) := by
  obtain ⟨a, cap, rfl, hat⟩ := OwnE.form hv (by omega)
  have hgv : ∀ g, (Value.slice a row.length cap).ownBlock = some g → B ≤ g ∧ g < W.heap.size := fun g h => own_range hv h
  have HA := Lib.hid hA
  have HK := Lib.hid hK
  have HOK := Lib.hid ok
  have hP := hA.p
  have hnS : ¬ SV X P (.slice a row.length cap) b := by
    rintro (e | e | e)
    · exact hbP e
    · exact hbX e
    · exact st_not_row hs hv e
  -- behind the count
  have o1 : OnlyS (SV X P (.slice a row.length cap)) W (W.setCell ⟨P, 0, none⟩ (.int .i64 ((c : Int) + 1))) := (OnlyS.refl _ _).setCell (p := ⟨P, 0, none⟩) (.inl rfl) _
  have o1P : OnlyS (fun k => k = P) W (W.setCell ⟨P, 0, none⟩ (.int .i64 ((c : Int) + 1))) := (OnlyS.refl (fun k => k = P) _).setCell (p := ⟨P, 0, none⟩) rfl _
  have C1 : CapC (W.setCell ⟨P, 0, none⟩ (.int .i64 ((c : Int) + 1))) P M A G most (fnVA kb rb) := hc.onlyS o1P (fun e => hA.pm e.symm) (fun e => hA.pa e.symm) (fun e => hA.pg e.symm)
  have S1 : StAt (W.setCell ⟨P, 0, none⟩ (.int .i64 ((c : Int) + 1))) b s := hs.onlyS o1P hbP
  have V1 : OwnE (W.setCell ⟨P, 0, none⟩ (.int .i64 ((c : Int) + 1))) B (.slice a row.length cap) row := hv.onlyS o1P (fun g h e => by have := (hgv g h).1; omega)
  have I1 : I acc (W.setCell ⟨P, 0, none⟩ (.int .i64 ((c : Int) + 1))) := hK acc W _ hI o1.size (fun k hk hkw => o1P.block k hkw (fun e => hA.xp (by rw [← e]; exact hk)))
  have P1 : (W.setCell ⟨P, 0, none⟩ (.int .i64 ((c : Int) + 1))).cell? ⟨P, 0, none⟩ = some (.int .i64 ((c : Int) + 1)) := World.cell?_setCell_same _ _ _ cp
  have F1 : (W.setCell ⟨P, 0, none⟩ (.int .i64 ((c : Int) + 1))).frozen? ⟨P, 0, none⟩ = false := (World.frozen?_setCell _ _ _ _).trans fp
  have hb1 : B ≤ (W.setCell ⟨P, 0, none⟩ (.int .i64 ((c : Int) + 1))).heap.size := Nat.le_trans hB o1.size
  have hz1 : (W.setCell ⟨P, 0, none⟩ (.int .i64 ((c : Int) + 1))).heap.size = W.heap.size := by simp [World.setCell]
  have cm := hc.m
  have hq1 : decide ((most : Int) ≤ (c : Int)) = false := by simp; omega
  have hw1 : IntKind.i64.wrap ((c : Int) + 1) = (c : Int) + 1 := IntWalk.i64_in _ (by omega)
  have HS1 := Lib.hid S1
  have HV1 := Lib.hid V1
  have HI1 := Lib.hid I1
  have HC1 := Lib.hid C1
  have HO1 := Lib.hid o1
  have HP1 := Lib.hid (And.intro P1 F1)
  clear hs hv hat hI o1P o1 S1 V1 I1 C1 P1 F1 hA hK ok hc hbP
  go_enter Tryz.func41, Tryz.ntmps41
  go_wp2_with fail
  generalize W.setCell ⟨P, 0, none⟩ (.int .i64 ((c : Int) + 1)) = W1 at *
  refine (all_any HS1.out HOK.out).mono ?_
  rintro r W2 ⟨va, rfl, hva, hb2⟩
  have hal : s.all.length ≤ 4 := Nat.le_trans s.all_len HOK.out.len4
  obtain ⟨aa, ca, rfl, hna, _⟩ := OwnN.form hva (by omega)
  have hz2 := hb2.size
  have HN2 := Lib.hid hva
  have HO2 : Hid (OnlyS (SV X P (.slice a row.length cap)) W W2) := HO1.out.trans (.of_below hb2)
  have HS2 := Lib.hid (HS1.out.later hb2)
  have HV2 := Lib.hid (HV1.out.later hb2)
  have HC2 : Hid (CapC W2 P M A G most (fnVA kb rb)) := HC1.out.onlyS (S := fun _ => False) (.of_below hb2) (fun h => h) (fun h => h) (fun h => h)
  have HI2 : Hid (I acc W2) := HK.out acc W1 W2 HI1.out hb2.size (fun k _ hk => hb2.block k hk)
  have HP2 : Hid (W2.cell? ⟨P, 0, none⟩ = some (.int .i64 ((c + 1 : Nat) : Int)) ∧ W2.frozen? ⟨P, 0, none⟩ = false) := ⟨(cell_later hb2 HP1.out.1).trans (by rfl), (hb2.frozen (p := ⟨P, 0, none⟩) (by show P < _; omega)).trans HP1.out.2⟩
  have hln : s.all.length = 0 := by rw [hall]; rfl
  have hPR := runs_end n s row hall
  have HAT2 := Lib.hid (OwnE.form HV2.out (by omega))
  clear HS1 HV1 HC1 HI1 HP1 HO1 hva hna
  rw [hln]
  have c4 := HC2.out.a
  have HEA : Hid (EvsAt W2 a row) := by
    obtain ⟨a', cap', hv', h⟩ := HAT2.out
    injection hv' with h1 _ _
    subst h1
    exact h
  have HCL := Lib.hid (hE acc W2 b s row a cap HI2.out HOK.out HS2.out hbX HEA.out (by omega) (by omega))
  unfold fnVA at c4
  unfold argsA at HCL
  have HPR := Lib.hid hPR
  clear hPR
  clear hall
  go_wp2_with fail
  refine HCL.out.mono ?_
  rintro r W3 ⟨rfl, hi3, ho3⟩
  have HI3 := Lib.hid hi3
  have HO3 : Hid (OnlyS (SV X P (.slice a row.length cap)) W W3) := HO2.out.trans (ho3.mono fun k _ h => .inr (.inl h))
  have HV3 := Lib.hid (HV2.out.onlyS ho3 fun g hg hx => by have := (own_range HV2.out hg).1; have := HA.out.xb _ hx; omega)
  have HP3 : Hid (W3.cell? ⟨P, 0, none⟩ = some (.int .i64 ((c + 1 : Nat) : Int)) ∧ W3.frozen? ⟨P, 0, none⟩ = false) := ⟨ho3.cell HP2.out.1 HA.out.xp, (ho3.frozen (a := ⟨P, 0, none⟩) (by show P < _; omega) HA.out.xp).trans HP2.out.2⟩
  clear hi3 ho3 HI2 HO2 HV2 HP2
  go_wp2_with fail
  go_loopw [31] (fun i wr => i = .int .i64 0 ∧ Hid (I (acc ++ [(s, row)]) wr) ∧ Hid (OnlyS (SV X P (.slice a row.length cap)) W wr) ∧ Hid (OwnE wr B (.slice a row.length cap) row) ∧ Hid (wr.cell? ⟨P, 0, none⟩ = some (.int .i64 ((c + 1 : Nat) : Int)) ∧ wr.frozen? ⟨P, 0, none⟩ = false)) (fun _ _ => 0)
  case atStart => exact ⟨rfl, HI3.out, HO3.out, HV3.out, HP3.out⟩
  case round =>
    clear HI3 HO3 HV3 HP3
    obtain ⟨rfl, HI4, HO4, HV4, HP4⟩ := hrel
    go_wp2_with fail
    go_ret
    exact ⟨.inl ⟨by rw [HPR.out.2]; omega, rfl, by rw [HPR.out.2]; exact HP4.out.1, HP4.out.2, by rw [HPR.out.1]; exact HI4.out, HV4.out⟩, HO4.out⟩

set_option maxRecDepth 100000 in
set_option maxHeartbeats 8000000 in
theorem goOnA_step (hA : Apart X B P M A G) (hK : KeepC X I) (n : Nat) (ih : GoH F X I B P M A G most (fnVA kb rb) n)
    (s : St) (row : List Ev) (v : Value) (W : World) (b : Nat) (acc : Ends) (c : Nat) (ok : s.Ok F) (hall : s.all ≠ []) (hf : s.fuel ≤ n + 1) (hl : row.length + 1 + n ≤ 100) (hv : OwnE W B v row) (hB : B ≤ W.heap.size) (hs : StAt W b s) (hbP : b ≠ P) (hbX : ¬ X b)
    (hc : CapC W P M A G most (fnVA kb rb)) (cp : W.cell? ⟨P, 0, none⟩ = some (.int .i64 (c : Int))) (fp : W.frozen? ⟨P, 0, none⟩ = false) (hcm : c < most) (hmost : most ≤ 1000) (hac : acc.length ≤ c) (hI : I acc W) :
    Calls Tryz.prog 41 #[.pointer (some ⟨b, 0, none⟩), v, .pointer (some ⟨P, 0, none⟩), .pointer (some ⟨M, 0, none⟩), .pointer (some ⟨A, 0, none⟩), .pointer (some ⟨G, 0, none⟩)] W (GoR X I B P most (n + 1) s row v acc c W) := by
  obtain ⟨a, cap, rfl, hat⟩ := OwnE.form hv (by omega)
  have hgv : ∀ g, (Value.slice a row.length cap).ownBlock = some g → B ≤ g ∧ g < W.heap.size := fun g h => own_range hv h
  have HA := Lib.hid hA
  have HK := Lib.hid hK
  have HIH := Lib.hid ih
  have HOK := Lib.hid ok
  have hP := hA.p
  have hnS : ¬ SV X P (.slice a row.length cap) b := by
    rintro (e | e | e)
    · exact hbP e
    · exact hbX e
    · exact st_not_row hs hv e
  -- behind the count
  have o1 : OnlyS (SV X P (.slice a row.length cap)) W (W.setCell ⟨P, 0, none⟩ (.int .i64 ((c : Int) + 1))) := (OnlyS.refl _ _).setCell (p := ⟨P, 0, none⟩) (.inl rfl) _
  have o1P : OnlyS (fun k => k = P) W (W.setCell ⟨P, 0, none⟩ (.int .i64 ((c : Int) + 1))) := (OnlyS.refl (fun k => k = P) _).setCell (p := ⟨P, 0, none⟩) rfl _
  have C1 : CapC (W.setCell ⟨P, 0, none⟩ (.int .i64 ((c : Int) + 1))) P M A G most (fnVA kb rb) := hc.onlyS o1P (fun e => hA.pm e.symm) (fun e => hA.pa e.symm) (fun e => hA.pg e.symm)
  have S1 : StAt (W.setCell ⟨P, 0, none⟩ (.int .i64 ((c : Int) + 1))) b s := hs.onlyS o1P hbP
  have V1 : OwnE (W.setCell ⟨P, 0, none⟩ (.int .i64 ((c : Int) + 1))) B (.slice a row.length cap) row := hv.onlyS o1P (fun g h e => by have := (hgv g h).1; omega)
  have I1 : I acc (W.setCell ⟨P, 0, none⟩ (.int .i64 ((c : Int) + 1))) := hK acc W _ hI o1.size (fun k hk hkw => o1P.block k hkw (fun e => hA.xp (by rw [← e]; exact hk)))
  have P1 : (W.setCell ⟨P, 0, none⟩ (.int .i64 ((c : Int) + 1))).cell? ⟨P, 0, none⟩ = some (.int .i64 ((c : Int) + 1)) := World.cell?_setCell_same _ _ _ cp
  have F1 : (W.setCell ⟨P, 0, none⟩ (.int .i64 ((c : Int) + 1))).frozen? ⟨P, 0, none⟩ = false := (World.frozen?_setCell _ _ _ _).trans fp
  have hb1 : B ≤ (W.setCell ⟨P, 0, none⟩ (.int .i64 ((c : Int) + 1))).heap.size := Nat.le_trans hB o1.size
  have hz1 : (W.setCell ⟨P, 0, none⟩ (.int .i64 ((c : Int) + 1))).heap.size = W.heap.size := by simp [World.setCell]
  have cm := hc.m
  have hq1 : decide ((most : Int) ≤ (c : Int)) = false := by simp; omega
  have hw1 : IntKind.i64.wrap ((c : Int) + 1) = (c : Int) + 1 := IntWalk.i64_in _ (by omega)
  have HS1 := Lib.hid S1
  have HV1 := Lib.hid V1
  have HI1 := Lib.hid I1
  have HC1 := Lib.hid C1
  have HO1 := Lib.hid o1
  have HP1 := Lib.hid (And.intro P1 F1)
  clear hs hv hat hI o1P o1 S1 V1 I1 C1 P1 F1 hA hK ih ok hc hbP
  go_enter Tryz.func41, Tryz.ntmps41
  go_wp2_with fail
  generalize W.setCell ⟨P, 0, none⟩ (.int .i64 ((c : Int) + 1)) = W1 at *
  refine (all_any HS1.out HOK.out).mono ?_
  rintro r W2 ⟨va, rfl, hva, hb2⟩
  have hal : s.all.length ≤ 4 := Nat.le_trans s.all_len HOK.out.len4
  obtain ⟨aa, ca, rfl, hna, _⟩ := OwnN.form hva (by omega)
  have hz2 := hb2.size
  have HN2 := Lib.hid hva
  have HO2 : Hid (OnlyS (SV X P (.slice a row.length cap)) W W2) := HO1.out.trans (.of_below hb2)
  have HS2 := Lib.hid (HS1.out.later hb2)
  have HV2 := Lib.hid (HV1.out.later hb2)
  have HC2 : Hid (CapC W2 P M A G most (fnVA kb rb)) := HC1.out.onlyS (S := fun _ => False) (.of_below hb2) (fun h => h) (fun h => h) (fun h => h)
  have HI2 : Hid (I acc W2) := HK.out acc W1 W2 HI1.out hb2.size (fun k _ hk => hb2.block k hk)
  have HP2 : Hid (W2.cell? ⟨P, 0, none⟩ = some (.int .i64 ((c + 1 : Nat) : Int)) ∧ W2.frozen? ⟨P, 0, none⟩ = false) := ⟨(cell_later hb2 HP1.out.1).trans (by rfl), (hb2.frozen (p := ⟨P, 0, none⟩) (by show P < _; omega)).trans HP1.out.2⟩
  have hln : ((s.all.length : Int) == 0) = false := by have := List.length_pos_iff.2 hall; simp; exact hall
  have HALL := Lib.hid hall
  clear HS1 HV1 HC1 HI1 HP1 HO1 hva hna hall
  go_wp2_with fail
  go_loopw [31] (fun i wr => ∃ (j c' : Nat), j ≤ s.all.length ∧ i = .int .i64 j ∧ c' ≤ most ∧ Hid (c' = c + 1 + preTo n s j) ∧ Hid (wr.cell? ⟨P, 0, none⟩ = some (.int .i64 (c' : Int)) ∧ wr.frozen? ⟨P, 0, none⟩ = false) ∧ Hid (I (acc ++ runsTo n s row j) wr) ∧ Hid (OnlyS (SV X P (.slice a row.length cap)) W2 wr) ∧ Hid (OwnE wr B (.slice a row.length cap) row)) (fun i _ => s.all.length - (intOf i).toNat)
  case atStart => exact ⟨0, c + 1, Nat.zero_le _, rfl, by omega, (by show _ = _; simp [preTo]), HP2.out, (by have h := HI2.out; show I (acc ++ []) W2; rw [List.append_nil]; exact h), OnlyS.refl _ _, HV2.out⟩
  case round =>
    clear HI2 HP2
    obtain ⟨j, c', hj, rfl, hcm', HCJ, HPJ, HIJ, HOJ, HVJ⟩ := hrel
    have hzr := HOJ.out.size
    by_cases hlt : j < s.all.length
    · have hmem := List.getElem_mem hlt
      obtain ⟨e, s1, hst, hfu⟩ := all_step' hmem
      have HPT : Hid (preTo n s (j + 1) = preTo n s j + s1.pre n) := by have h := preTo_succ n s hlt; rw [hst] at h; exact h
      have HRT : Hid (runsTo n s row (j + 1) = runsTo n s row j ++ s1.runs n (row ++ [e])) := by have h := runsTo_succ n s row hlt; rw [hst] at h; exact h
      have HLE : Hid (c + 1 + preTo n s (j + 1) ≤ c + s.pre (n + 1)) := by have h := preTo_le n s (j + 1); rw [preTo_all]; show _ ≤ _; omega
      have hNr : ∀ g, (Value.slice aa s.all.length ca).ownBlock = some g → ¬ SV X P (.slice a row.length cap) g := by
        intro g hg
        have := (World.ownsRow.lt HN2.out g hg).1
        rintro (e | e | e)
        · omega
        · have := HA.out.xb _ e; omega
        · have := (hgv _ e).2; omega
      obtain ⟨_, _, hv9, hna, _⟩ := OwnN.form (HN2.out.onlyS HOJ.out hNr) (by omega)
      injection hv9 with hv1 _ hv3
      subst hv1 hv3
      obtain ⟨ba, oa, rfl, hca⟩ := hna.2 (by intro e; rw [e] at hlt; simp at hlt)
      have ct := hca j hlt
      have HST := Lib.hid hst
      have hok1 : s1.Ok F := by have h := HOK.out.step_ok s.all[j]; rw [hst] at h; exact h
      have HOK1 := Lib.hid hok1
      have HSR := Lib.hid (HS2.out.onlyS HOJ.out hnS)
      clear hca hna hNr hst hmem hok1
      generalize s.all[j] = t at *
      go_wp2_with fail
      refine (copy_state HSR.out).mono ?_
      rintro r W3 ⟨rfl, hW3⟩
      have hs3 : StAt W3 wr.heap.size s := by rw [← hW3]; exact heap_alloc_new _ _
      have hb3 : Below wr.heap.size wr W3 := by rw [← hW3]; exact below_alloc1 _ _
      have HS3 := Lib.hid hs3
      clear hs3 hW3
      go_wp2_with fail
      refine (step_any HS3.out HOK.out t).mono ?_
      rintro r W4 ⟨rfl, hs4, ho4⟩
      rw [HST.out] at hs4 ⊢
      rw [stepV_ok]
      have hb4 : Below wr.heap.size wr W4 := hb3.trans (ho4.below (Nat.le_refl _) hb3.size)
      have HS4 := Lib.hid hs4
      clear hs4 ho4 hb3 HS3
      go_wp2_with fail
      have hbx := EvBox.new W4 e
      have hb5 : Below wr.heap.size wr (W4.alloc (.cells #[.int .i64 e.thread, .int .i64 e.kind, .int .i64 e.obj, .bool e.fail] 51)) := hb4.alloc hb4.size _
      have hs5 := HS4.out.later (below_alloc1 W4 (.cells #[.int .i64 e.thread, .int .i64 e.kind, .int .i64 e.obj, .bool e.fail] 51))
      have hnd : wr.heap.size ≤ W4.heap.size := hb4.size
      have hnd5 : W4.heap.size < (W4.alloc (.cells #[.int .i64 e.thread, .int .i64 e.kind, .int .i64 e.obj, .bool e.fail] 51)).heap.size := by simp
      generalize W4.alloc (.cells #[.int .i64 e.thread, .int .i64 e.kind, .int .i64 e.obj, .bool e.fail] 51) = W5 at *
      have hzB : B ≤ wr.heap.size := by omega
      have HAC : Hid ((acc ++ runsTo n s row j).length ≤ c') := by have h1 := runsTo_le n s row j; have h2 := HCJ.out; show _ ≤ _; rw [List.length_append]; omega
      have hCr : CapC wr P M A G most (fnVA kb rb) := HC2.out.sv HA.out HV2.out HOJ.out
      have hgV : ∀ g, (Value.slice a row.length cap).ownBlock = some g → B ≤ g ∧ g < wr.heap.size := fun g h => own_range HVJ.out h
      have hb8 : Below wr.heap.size wr (W5.alloc (.cells #[.int .i64 e.thread, .int .i64 e.kind, .int .i64 e.obj, .bool e.fail] 51)).drew := (hb5.alloc hb5.size _).drew
      have hs8 : StAt (W5.alloc (.cells #[.int .i64 e.thread, .int .i64 e.kind, .int .i64 e.obj, .bool e.fail] 51)).drew wr.heap.size s1 := hs5.later (below_alloc1 W5 _).drew
      have hbx8 : EvBox (W5.alloc (.cells #[.int .i64 e.thread, .int .i64 e.kind, .int .i64 e.obj, .bool e.fail] 51)).drew W4.heap.size e := hbx.later (below_alloc1 W5 _).drew
      have hC8 : CapC (W5.alloc (.cells #[.int .i64 e.thread, .int .i64 e.kind, .int .i64 e.obj, .bool e.fail] 51)).drew P M A G most (fnVA kb rb) := hCr.onlyS (S := fun _ => False) (.of_below hb8) (fun h => h) (fun h => h) (fun h => h)
      have HV8 : Hid (OwnE (W5.alloc (.cells #[.int .i64 e.thread, .int .i64 e.kind, .int .i64 e.obj, .bool e.fail] 51)).drew B (.slice a row.length cap) row) := HVJ.out.later hb8
      have hsz8 : B ≤ (W5.alloc (.cells #[.int .i64 e.thread, .int .i64 e.kind, .int .i64 e.obj, .bool e.fail] 51)).drew.heap.size := Nat.le_trans hzB hb8.size
      have h58 : W5.heap.size < (W5.alloc (.cells #[.int .i64 e.thread, .int .i64 e.kind, .int .i64 e.obj, .bool e.fail] 51)).drew.heap.size := by show _ < (W5.alloc _).heap.size; simp
      have HQS : Hid (∀ W' (T : Nat → Prop), OnlyS T (W5.alloc (.cells #[.int .i64 e.thread, .int .i64 e.kind, .int .i64 e.obj, .bool e.fail] 51)).drew W' → (∀ k, T k → SV X P (.slice a row.length cap) k ∨ (W5.alloc (.cells #[.int .i64 e.thread, .int .i64 e.kind, .int .i64 e.obj, .bool e.fail] 51)).drew.heap.size ≤ k) →
          W'.cell? ⟨G, 0, none⟩ = some (.func (.func 41) #[] #[.pointer (some ⟨P, 0, none⟩), .pointer (some ⟨M, 0, none⟩), .pointer (some ⟨A, 0, none⟩), .pointer (some ⟨G, 0, none⟩)]) ∧ W'.cell? ⟨W4.heap.size, 0, none⟩ = some (.int .i64 e.thread) ∧ W'.cell? ⟨W4.heap.size, 1, none⟩ = some (.int .i64 e.kind) ∧ W'.cell? ⟨W4.heap.size, 2, none⟩ = some (.int .i64 e.obj) ∧ W'.cell? ⟨W4.heap.size, 3, none⟩ = some (.bool e.fail)) := fun W' T ho hT => by
        have hTn : ∀ k, ¬ SV X P (.slice a row.length cap) k → k < W5.heap.size → ¬ T k := fun k h1 h2 h3 => by
          rcases hT k h3 with h | h
          · exact h1 h
          · omega
        have hG : ¬ T G := hTn G (by
          rintro (e | e | e)
          · exact HA.out.pg e.symm
          · exact HA.out.xg e
          · have := (hgV _ e).1; have := HA.out.g; omega) (by have := HA.out.g; have := hb5.size; omega)
        have hN : ¬ T W4.heap.size := hTn W4.heap.size (by
          rintro (e | e | e)
          · omega
          · have := HA.out.xb _ e; omega
          · have := (hgV _ e).2; omega) hnd5
        obtain ⟨x0, x1, x2, x3⟩ := hbx8.cells
        exact ⟨ho.cell hC8.g hG, ho.cell x0 hN, ho.cell x1 hN, ho.cell x2 hN, ho.cell x3 hN⟩
      have HQ8 := Lib.hid (HQS.out _ (fun _ => False) (OnlyS.refl _ _) (fun _ h => h.elim))
      have HQ5 : Hid (W5.drew.cell? ⟨G, 0, none⟩ = some (.func (.func 41) #[] #[.pointer (some ⟨P, 0, none⟩), .pointer (some ⟨M, 0, none⟩), .pointer (some ⟨A, 0, none⟩), .pointer (some ⟨G, 0, none⟩)]) ∧ W5.drew.cell? ⟨W4.heap.size, 0, none⟩ = some (.int .i64 e.thread) ∧ W5.drew.cell? ⟨W4.heap.size, 1, none⟩ = some (.int .i64 e.kind) ∧ W5.drew.cell? ⟨W4.heap.size, 2, none⟩ = some (.int .i64 e.obj) ∧ W5.drew.cell? ⟨W4.heap.size, 3, none⟩ = some (.bool e.fail)) := by
        obtain ⟨x0, x1, x2, x3⟩ := hbx.cells
        exact ⟨cell_later hb5 hCr.g, x0, x1, x2, x3⟩
      have HQ9 : Hid (∀ W9, (W5.alloc (.cells #[.int .i64 e.thread, .int .i64 e.kind, .int .i64 e.obj, .bool e.fail] 51)).drew.grownBy W9 (Value.slice a row.length cap).ownBlock → _) := fun W9 h2 => HQS.out W9 (fun k => (Value.slice a row.length cap).ownBlock = some k) ⟨h2.os, h2.tape, h2.output, h2.size, fun k hk hs => h2.block k hk (fun e => hs e.symm)⟩ (fun k h => .inl (.inr (.inr h)))
      have HCH : Hid (∀ v' W9, OwnE W9 B v' (row ++ [e]) → (W5.alloc (.cells #[.int .i64 e.thread, .int .i64 e.kind, .int .i64 e.obj, .bool e.fail] 51)).drew.grownBy W9 (Value.slice a row.length cap).ownBlock → OwnE W9 B (.slice a row.length cap) row → ((∃ g cap', Value.slice a row.length cap = .slice (some ⟨g, 0, none⟩) row.length cap' ∧ v' = .slice (some ⟨g, 0, none⟩) (row.length + 1) cap') ∨ v'.ownBlock = some (W5.alloc (.cells #[.int .i64 e.thread, .int .i64 e.kind, .int .i64 e.obj, .bool e.fail] 51)).drew.heap.size) → _) :=
        fun v' W9 h1 h2 h3 h4 => go_child HA.out HK.out HIH.out HOK1.out (by omega) (by omega) hzB hCr HPJ.out.1 HPJ.out.2 hcm' HAC.out HIJ.out HVJ.out hb8 hs8 (Nat.le_refl _) h1 h2 h3 h4
      clear hbx hs5 hbx8 hC8 hCr hs8 HS4
      by_cases hfit : c' + s1.pre n ≤ most
      · have HFT : Hid (∀ v' W9, OwnE W9 B v' (row ++ [e]) → (W5.alloc (.cells #[.int .i64 e.thread, .int .i64 e.kind, .int .i64 e.obj, .bool e.fail] 51)).drew.grownBy W9 (Value.slice a row.length cap).ownBlock → OwnE W9 B (.slice a row.length cap) row → ((∃ g cap', Value.slice a row.length cap = .slice (some ⟨g, 0, none⟩) row.length cap' ∧ v' = .slice (some ⟨g, 0, none⟩) (row.length + 1) cap') ∨ v'.ownBlock = some (W5.alloc (.cells #[.int .i64 e.thread, .int .i64 e.kind, .int .i64 e.obj, .bool e.fail] 51)).drew.heap.size) →
            Calls Tryz.prog 41 #[.pointer (some ⟨wr.heap.size, 0, none⟩), v', .pointer (some ⟨P, 0, none⟩), .pointer (some ⟨M, 0, none⟩), .pointer (some ⟨A, 0, none⟩), .pointer (some ⟨G, 0, none⟩)] W9 fun r W10 => r = .returned (.bool true) ∧ (W10.cell? ⟨P, 0, none⟩ = some (.int .i64 ((c' + s1.pre n : Nat) : Int)) ∧ W10.frozen? ⟨P, 0, none⟩ = false) ∧ I ((acc ++ runsTo n s row j) ++ s1.runs n (row ++ [e])) W10 ∧ OwnE W10 B (.slice a row.length cap) row ∧ OnlyS (SV X P (.slice a row.length cap)) wr W10 ∧ OnlyS (fun k => SV X P (.slice a row.length cap) k ∨ (W5.alloc (.cells #[.int .i64 e.thread, .int .i64 e.kind, .int .i64 e.obj, .bool e.fail] 51)).drew.heap.size ≤ k) (W5.alloc (.cells #[.int .i64 e.thread, .int .i64 e.kind, .int .i64 e.obj, .bool e.fail] 51)).drew W10) :=
          fun v' W9 h1 h2 h3 h4 => (HCH.out v' W9 h1 h2 h3 h4).mono fun r W10 ⟨h, ho, ho8⟩ => by
            rcases h with ⟨_, q2, q3, q4, q5, q6⟩ | ⟨q1, _⟩
            · exact ⟨q2, ⟨q3, q4⟩, q5, q6, ho, ho8⟩
            · omega
        clear HCH
        go_wp2_with fail
        go_region_held3 (fun W' => W'.cell? ⟨G, 0, none⟩ = some (.func (.func 41) #[] #[.pointer (some ⟨P, 0, none⟩), .pointer (some ⟨M, 0, none⟩), .pointer (some ⟨A, 0, none⟩), .pointer (some ⟨G, 0, none⟩)]) ∧ W'.cell? ⟨W4.heap.size, 0, none⟩ = some (.int .i64 e.thread) ∧ W'.cell? ⟨W4.heap.size, 1, none⟩ = some (.int .i64 e.kind) ∧ W'.cell? ⟨W4.heap.size, 2, none⟩ = some (.int .i64 e.obj) ∧ W'.cell? ⟨W4.heap.size, 3, none⟩ = some (.bool e.fail))
          (first | exact HQ5.out | exact HQ8.out | exact HQA.out | exact HQB.out)
          (first
            | (refine step_appendEg (by rfl) (.tmp 45) (.tmp 47) (by rfl) B _ row (by rfl) HV8.out ⟨W5.heap.size, 0, none⟩ (by rfl) e (ev_new W5 e _ _ rfl) (by omega) hsz8 ?_; intro v' W9 h1 h2 h3 h4; have HF := Lib.hid (HFT.out v' W9 h1 h2 h3 h4); have HQA := Lib.hid (HQ9.out W9 h2); clear h1 h2 h3 h4)
            | (go_at_call 41; ((with_reducible refine HF.out.mono ?_); rintro r W10 ⟨rfl, hp10, hi10, hv10, ho10, ho8⟩; have HQB := Lib.hid (HQS.out W10 _ ho8 (fun _ h => h)); have HP10 := Lib.hid hp10; have HI10 := Lib.hid hi10; have HV10 := Lib.hid hv10; have HO10 := Lib.hid ho10; clear hp10 hi10 hv10 ho10 ho8)))
        go_wp2_with fail
        go_roundw
        case rel => exact ⟨j + 1, c' + s1.pre n, by omega, by go_num, hfit, (by show _ = _; rw [HCJ.out, HPT.out]; omega), HP10.out, (by rw [HRT.out, ← List.append_assoc]; exact HI10.out), HOJ.out.trans HO10.out, HV10.out⟩
        case measure => simp [intOf]; omega
      · have HFT : Hid (∀ v' W9, OwnE W9 B v' (row ++ [e]) → (W5.alloc (.cells #[.int .i64 e.thread, .int .i64 e.kind, .int .i64 e.obj, .bool e.fail] 51)).drew.grownBy W9 (Value.slice a row.length cap).ownBlock → OwnE W9 B (.slice a row.length cap) row → ((∃ g cap', Value.slice a row.length cap = .slice (some ⟨g, 0, none⟩) row.length cap' ∧ v' = .slice (some ⟨g, 0, none⟩) (row.length + 1) cap') ∨ v'.ownBlock = some (W5.alloc (.cells #[.int .i64 e.thread, .int .i64 e.kind, .int .i64 e.obj, .bool e.fail] 51)).drew.heap.size) →
            Calls Tryz.prog 41 #[.pointer (some ⟨wr.heap.size, 0, none⟩), v', .pointer (some ⟨P, 0, none⟩), .pointer (some ⟨M, 0, none⟩), .pointer (some ⟨A, 0, none⟩), .pointer (some ⟨G, 0, none⟩)] W9 fun r W10 => r = .returned (.bool false) ∧ OnlyS (SV X P (.slice a row.length cap)) wr W10 ∧ OnlyS (fun k => SV X P (.slice a row.length cap) k ∨ (W5.alloc (.cells #[.int .i64 e.thread, .int .i64 e.kind, .int .i64 e.obj, .bool e.fail] 51)).drew.heap.size ≤ k) (W5.alloc (.cells #[.int .i64 e.thread, .int .i64 e.kind, .int .i64 e.obj, .bool e.fail] 51)).drew W10) :=
          fun v' W9 h1 h2 h3 h4 => (HCH.out v' W9 h1 h2 h3 h4).mono fun r W10 ⟨h, ho, ho8⟩ => by
            rcases h with ⟨q1, _⟩ | ⟨_, q2⟩
            · omega
            · exact ⟨q2, ho, ho8⟩
        have HMO : Hid (most < c + s.pre (n + 1)) := by have h1 := HLE.out; have h2 := HPT.out; have h3 := HCJ.out; show _ < _; omega
        clear HCH
        go_wp2_with fail
        go_region_held3 (fun W' => W'.cell? ⟨G, 0, none⟩ = some (.func (.func 41) #[] #[.pointer (some ⟨P, 0, none⟩), .pointer (some ⟨M, 0, none⟩), .pointer (some ⟨A, 0, none⟩), .pointer (some ⟨G, 0, none⟩)]) ∧ W'.cell? ⟨W4.heap.size, 0, none⟩ = some (.int .i64 e.thread) ∧ W'.cell? ⟨W4.heap.size, 1, none⟩ = some (.int .i64 e.kind) ∧ W'.cell? ⟨W4.heap.size, 2, none⟩ = some (.int .i64 e.obj) ∧ W'.cell? ⟨W4.heap.size, 3, none⟩ = some (.bool e.fail))
          (first | exact HQ5.out | exact HQ8.out | exact HQA.out | exact HQB.out)
          (first
            | (refine step_appendEg (by rfl) (.tmp 45) (.tmp 47) (by rfl) B _ row (by rfl) HV8.out ⟨W5.heap.size, 0, none⟩ (by rfl) e (ev_new W5 e _ _ rfl) (by omega) hsz8 ?_; intro v' W9 h1 h2 h3 h4; have HF := Lib.hid (HFT.out v' W9 h1 h2 h3 h4); have HQA := Lib.hid (HQ9.out W9 h2); clear h1 h2 h3 h4)
            | (go_at_call 41; ((with_reducible refine HF.out.mono ?_); rintro r W10 ⟨rfl, ho10, ho8⟩; have HQB := Lib.hid (HQS.out W10 _ ho8 (fun _ h => h)); have HO10 := Lib.hid ho10; clear ho10 ho8)))
        go_wp2_with fail
        go_ret
        exact ⟨.inr ⟨HMO.out, rfl⟩, HO2.out.trans (HOJ.out.trans HO10.out)⟩
    · obtain rfl : j = s.all.length := by omega
      have HCE : Hid (c' = c + s.pre (n + 1)) := by have h1 := preTo_all n s; have h2 := HCJ.out; show _ = _; omega
      have HRE := Lib.hid (runsTo_all n s row HALL.out)
      go_wp2_with fail
      go_ret
      exact ⟨.inl ⟨by rw [← HCE.out]; exact hcm', rfl, by rw [← HCE.out]; exact HPJ.out.1, HPJ.out.2, by rw [HRE.out]; exact HIJ.out, HVJ.out⟩, HO2.out.trans HOJ.out⟩
end

end Go.Proofs.YtljlaopjimkcmaaGreat

/- The cells of rows of instructions. -/
namespace Go.Proofs.YtljlaopjimkcmaaGreat
open Go.RowKit

def insCells (l : List Ins) : List Value := l.flatMap fun i => [.int .i64 i.kind, .int .i64 i.r, .int .i64 i.x, .int .i64 i.n]

theorem insCells_length (l : List Ins) : (insCells l).length = l.length * 4 := by
  induction l with
  | nil => rfl
  | cons i l ih => simp only [insCells, List.flatMap_cons, List.length_append, List.length_cons, List.length_nil] at *; omega

theorem insCells_get (l : List Ins) (i j : Nat) (h : i < l.length) (hj : j < 4) :
    (insCells l)[i * 4 + j]? = [Value.int .i64 l[i].kind, .int .i64 l[i].r, .int .i64 l[i].x, .int .i64 l[i].n][j]? := by
  induction l generalizing i with
  | nil => simp at h
  | cons x l ih =>
    cases i with
    | zero =>
      simp only [insCells, List.flatMap_cons, Nat.zero_mul, Nat.zero_add, List.getElem_cons_zero]
      rw [List.getElem?_append_left (by simpa using hj)]
    | succ i =>
      have := ih i (by simpa using h)
      simp only [insCells, List.flatMap_cons, List.getElem_cons_succ] at *
      rw [List.getElem?_append_right (by simp; omega), ← this]
      congr 1
      simp
      omega

theorem insCells_one (l : List Ins) : ∀ v ∈ insCells l, v.oneCell' = true := by
  intro v hv
  simp only [insCells, List.mem_flatMap] at hv
  obtain ⟨i, _, hv⟩ := hv
  simp at hv
  rcases hv with rfl | rfl | rfl | rfl <;> rfl

/-- The cells of a code that lies in memory. -/
theorem CodeAt.cells {w : World} {b o : Nat} {l : List Ins} (h : CodeAt w (some ⟨b, o, none⟩) l) :
    ∀ j v, (insCells l)[j]? = some v → w.cell? (Addr.add ⟨b, o, none⟩ j) = some v := by
  intro j v hv
  have hj : j < (insCells l).length := (List.getElem?_eq_some_iff.1 hv).1
  rw [insCells_length] at hj
  have hlt : j / 4 < l.length := by omega
  obtain ⟨b', o', e, hc⟩ := h.2 (by intro e; simp [e] at hlt)
  obtain ⟨rfl, rfl⟩ : b = b' ∧ o = o' := by simpa using e
  obtain ⟨c0, c1, c2, c3⟩ := hc (j / 4) hlt
  have ej : j / 4 * 4 + j % 4 = j := by omega
  have hm : j % 4 < 4 := by omega
  have := insCells_get l (j / 4) (j % 4) hlt hm
  rw [ej, hv] at this
  have ha : Addr.add ⟨b, o, none⟩ j = ⟨b, o + j / 4 * 4 + j % 4, none⟩ := by
    unfold Addr.add
    split
    · rename_i h0; subst h0; rfl
    · simp; omega
  rw [ha]
  obtain h | h | h | h : j % 4 = 0 ∨ j % 4 = 1 ∨ j % 4 = 2 ∨ j % 4 = 3 := by omega
  all_goals
    rw [h] at this ⊢
    simp at this
    subst this
    first | exact c0 | exact c1 | exact c2 | exact c3

/-- A row of the cells of a code is that code. -/
theorem codeAt_row {w : World} {g : Nat} {l : List Ins} {t : TypeId} {fr : Nat × Nat} (hm : l.length ≤ maxLen) (h : w.heap[g]? = some (.cells (insCells l).toArray t fr)) : CodeAt w (some ⟨g, 0, none⟩) l := by
  refine ⟨hm, fun _ => ⟨g, 0, rfl, fun i hi => ?_⟩⟩
  have e : ∀ j, w.cell? ⟨g, j, none⟩ = (insCells l)[j]? := by intro j; simp [World.cell?, h]
  refine ⟨?_, ?_, ?_, ?_⟩
  · rw [e]; simpa using insCells_get l i 0 hi (by omega)
  · rw [e]; simpa using insCells_get l i 1 hi (by omega)
  · rw [e]; simpa using insCells_get l i 2 hi (by omega)
  · rw [e]; simpa using insCells_get l i 3 hi (by omega)

end Go.Proofs.YtljlaopjimkcmaaGreat

/- Plain numbers for New: a state that is being laid. -/
namespace Go.Proofs.YtljlaopjimkcmaaGreat
open Go.RowKit

def insNums (l : List Ins) : List Int := l.flatMap fun i => [i.kind, i.r, i.x, i.n]
theorem insNums_cells (l : List Ins) : insCells l = (insNums l).map (Value.int .i64) := by
  simp [insCells, insNums, List.map_flatMap]
theorem insNums_length (l : List Ins) : (insNums l).length = l.length * 4 := by
  have := insCells_length l
  rw [insNums_cells] at this
  simpa using this
theorem insNums_get (l : List Ins) (j : Nat) : (insNums l).getD j 0 = insNum (l.getD (j / 4) ins0) (j % 4) := by
  induction l generalizing j with
  | nil =>
    simp [insNums]
    unfold insNum ins0
    repeat' split
    all_goals rfl
  | cons i l ih =>
    by_cases h : j < 4
    · rw [show j / 4 = 0 by omega, show j % 4 = j by omega]
      obtain rfl | rfl | rfl | rfl : j = 0 ∨ j = 1 ∨ j = 2 ∨ j = 3 := by omega
      all_goals rfl
    · obtain ⟨k, rfl⟩ : ∃ k, j = k + 4 := ⟨j - 4, by omega⟩
      rw [show (k + 4) / 4 = k / 4 + 1 by omega, show (k + 4) % 4 = k % 4 by omega]
      exact ih k

/-- In block g lie the numbers f. -/
def NumAt (w : World) (g : Nat) (f : Nat → Int) : Prop := w.heap[g]? = some (.cells (numA f) 84 (0, 0))
theorem NumAt.lt {w : World} {g : Nat} {f : Nat → Int} (h : NumAt w g f) : g < w.heap.size := (Array.getElem?_eq_some_iff.1 h).1
theorem NumAt.cell {w : World} {g : Nat} {f : Nat → Int} (h : NumAt w g f) (o : Nat) (ho : o < 156) : w.cell? ⟨g, o, none⟩ = some (.int .i64 (f o)) := by
  rw [cell_of_row w g o _ _ _ h, numA_get _ _ ho]
theorem NumAt.frozen {w : World} {g : Nat} {f : Nat → Int} (h : NumAt w g f) (o : Nat) : w.frozen? ⟨g, o, none⟩ = false := by
  simp [World.frozen?, show w.heap[g]? = _ from h]
theorem NumAt.set {w : World} {g : Nat} {f : Nat → Int} (h : NumAt w g f) (f' : Nat → Int) (o : Nat) (n : Int) (ho : o < 156) (hs : ∀ j, j < 156 → f' j = if j = o then n else f j) : NumAt (w.setCell ⟨g, o, none⟩ (.int .i64 n)) g f' := by
  have := heap_setCell_same w g o _ _ (.int .i64 n) h
  rw [numA_set _ _ o n ho hs] at this
  exact this

theorem numA_splice (f f1 : Nat → Int) (o : Nat) (vs : List Int) (h : ∀ j, j < 156 → f1 j = if o ≤ j ∧ j < o + vs.length then vs.getD (j - o) 0 else f j) (ho : o + vs.length ≤ 156) :
    ((numA f).toList.take o ++ vs.map (Value.int .i64) ++ (numA f).toList.drop (o + vs.length)).toArray = numA f1 := by
  have hl : (numA f).toList.length = 156 := by simp [numA]
  apply Array.ext_getElem?
  intro j
  rw [List.getElem?_toArray]
  by_cases hj : j < 156
  · rw [numA_get f1 j hj, h j hj]
    by_cases h1 : j < o
    · rw [if_neg (by omega), List.append_assoc, List.getElem?_append_left (by simp [hl]; omega), List.getElem?_take_of_lt h1]
      have := numA_get f j hj
      simpa using this
    · by_cases h2 : j < o + vs.length
      · rw [if_pos ⟨by omega, h2⟩, List.getElem?_append_left (by simp [hl]; omega), List.getElem?_append_right (by simp [hl]; omega)]
        have e : j - ((numA f).toList.take o).length = j - o := by simp [hl]; omega
        rw [e, List.getElem?_map, List.getElem?_eq_getElem (by omega), getD_lt _ (by omega)]
        rfl
      · rw [if_neg (by omega), List.getElem?_append_right (by simp [hl]; omega), List.getElem?_drop]
        have e : o + vs.length + (j - ((numA f).toList.take o ++ vs.map (Value.int .i64)).length) = j := by simp [hl]; omega
        rw [e]
        have := numA_get f j hj
        simpa using this
  · have h1 : (numA f1)[j]? = none := Array.getElem?_eq_none (by rw [numA_size]; omega)
    rw [h1, List.getElem?_eq_none]
    simp [hl]
    omega

/-- copy(dst, src) into the middle of the block: elements of four numbers. -/
theorem run_copy_code (w : World) (g o : Nat) (f f1 : Nat → Int) (hg : NumAt w g f) (c : Option Addr) (cap : Nat) (l : List Ins) (hl : CodeAt w c l) (h8 : l.length ≤ 8) (ho : o + 32 ≤ 156)
    (h : ∀ j, j < 156 → f1 j = if o ≤ j ∧ j < o + l.length * 4 then insNum (l.getD ((j - o) / 4) ins0) ((j - o) % 4) else f j) :
    (Builtin.copy_ #[57, 57] 3 #[.slice (some ⟨g, o, none⟩) 8 8, .slice c l.length cap]).run Tryz.prog w = .ok (.int .i64 l.length) (w.setRow g (numA f1)) := by
  have hs : (Tryz.prog.info? 60).map (·.size) = some 4 := by kernel_rfl
  have hm : Nat.min l.length 8 = l.length := Nat.min_eq_left h8
  cases hq : Tryz.prog.info? 60 with
  | none => simp [hq] at hs
  | some i =>
    have hi : i.size = 4 := by simpa [hq] using hs
    have hst := run_storeCells_at (P := Tryz.prog) g o 84 (insCells l) 0 _ w hg (by rw [insCells_length, numA_size]; omega) (insCells_one l)
    have hsp := numA_splice f f1 o (insNums l) (fun j hj => by rw [h j hj, insNums_length, insNums_get]) (by rw [insNums_length]; omega)
    rw [Nat.add_zero, insNums_cells, List.length_map, hsp] at hst
    by_cases h0 : l = []
    · subst h0
      have hlc : ∀ (x : Addr), (loadCells x 0).run Tryz.prog w = .ok #[] w := fun x => by simpa using run_loadCells_list (P := Tryz.prog) w x [] (by simp)
      have hst' : (storeCells ⟨g, o, none⟩ ([] : List Value)).run Tryz.prog w = .ok () (w.setRow g (numA f1)) := hst
      cases c <;> simp [Builtin.copy_, run_underlying Tryz.underlying57, Builtin.lenOf, Builtin.firstCells, sizeOf, typeInfo, hq, hlc, hst', goInt]
    · obtain ⟨b', o', rfl, _⟩ := hl.2 h0
      have hld := run_loadCells_list (P := Tryz.prog) w ⟨b', o', none⟩ (insCells l) hl.cells
      rw [insCells_length] at hld
      rw [← insNums_cells] at hst
      simp [Builtin.copy_, run_underlying Tryz.underlying57, Builtin.lenOf, Builtin.firstCells, sizeOf, typeInfo, hq, hi, hm, hld, hst, goInt]

/-- The numbers when the first k threads are laid. -/
def newNum (p : Pg) (F k o : Nat) : Int := if o < 2 + k * 37 ∧ o < 150 then stNum (St.new p F) o else 0
/-- The numbers when all threads are, and k mutexes. -/
def newNum2 (p : Pg) (F k o : Nat) : Int := if o < 154 + k then stNum (St.new p F) o else 0

theorem new_th (p : Pg) (F k : Nat) (hk : k < p.threads.length) : (St.new p F).th k = ⟨0, F, [0, 0]⟩ := by
  unfold St.th St.new
  dsimp only
  rw [getD_lt _ (by simpa using hk)]
  simp
theorem new_th_out (p : Pg) (F k : Nat) (hk : p.threads.length ≤ k) : (St.new p F).th k = thr0 := by
  unfold St.th St.new
  simp [List.getD, hk]
theorem new_code (p : Pg) (F k : Nat) (hk : k < p.threads.length) : (St.new p F).code k = p.threads[k] := by
  unfold St.code St.new
  exact getD_lt _ hk
theorem new_code_out (p : Pg) (F k : Nat) (hk : p.threads.length ≤ k) : (St.new p F).code k = [] := by
  unfold St.code St.new
  simp [List.getD, hk]
theorem thrNum_out (k : Nat) : thrNum [] thr0 k = 0 := by
  unfold thrNum
  have e : ∀ n, insNum ins0 n = 0 := fun n => by unfold insNum ins0; repeat' split
                                                 all_goals rfl
  have e2 : ∀ n : Nat, ([0, 0] : List Int).getD n 0 = 0 := fun n => match n with | 0 => rfl | 1 => rfl | n + 2 => rfl
  dsimp only [thr0]
  by_cases h : k < 32
  · rw [if_pos h]; exact e _
  rw [if_neg h]
  by_cases h : k = 32
  · rw [if_pos h]; rfl
  rw [if_neg h]
  by_cases h : k = 33
  · rw [if_pos h]; rfl
  rw [if_neg h]
  by_cases h : k = 34
  · rw [if_pos h]; rfl
  rw [if_neg h]
  exact e2 _

theorem newNum_zero (p : Pg) (F o : Nat) : newNum p F 0 o = if o = 0 then (p.threads.length : Int) else if o = 1 then p.mutexes else 0 := by
  unfold newNum
  by_cases h0 : o = 0
  · subst h0; simp [stNum_threads, St.new]
  · by_cases h1 : o = 1
    · subst h1; simp [stNum_mutexes, St.new]
    · rw [if_neg (by omega), if_neg h0, if_neg h1]

/-- The thread k is laid: its code, then its size, then its fuel. -/
theorem newNum_succ (p : Pg) (F k : Nat) (hk : k < p.threads.length) (h4 : p.threads.length ≤ 4) (h8 : p.threads[k].length ≤ 8) (f1 f2 : Nat → Int)
    (h1 : ∀ j, j < 156 → f1 j = if 2 + k * 37 ≤ j ∧ j < 2 + k * 37 + p.threads[k].length * 4 then insNum (p.threads[k].getD ((j - (2 + k * 37)) / 4) ins0) ((j - (2 + k * 37)) % 4) else newNum p F k j)
    (h2 : ∀ j, j < 156 → f2 j = if j = 2 + k * 37 + 32 then (p.threads[k].length : Int) else f1 j) :
    ∀ j, j < 156 → newNum p F (k + 1) j = if j = 2 + k * 37 + 34 then (F : Int) else f2 j := by
  intro j hj
  rw [h2 j hj, h1 j hj]
  unfold newNum
  by_cases a : j < 2 + k * 37
  · rw [if_pos (by omega), if_neg (by omega), if_neg (by omega), if_neg (by omega), if_pos (by omega)]
  · by_cases b : j < 2 + (k + 1) * 37
    · obtain ⟨d, rfl⟩ : ∃ d, j = 2 + k * 37 + d := ⟨j - (2 + k * 37), by omega⟩
      rw [if_pos (by omega), stNum_thr _ _ _ (by omega) (by omega), new_th p F k hk, new_code p F k hk]
      have ed : 2 + k * 37 + d - (2 + k * 37) = d := by omega
      rw [ed]
      unfold thrNum
      by_cases c1 : d < 32
      · rw [if_pos c1, if_neg (by omega), if_neg (by omega)]
        by_cases c2 : d < p.threads[k].length * 4
        · rw [if_pos (by omega)]
        · rw [if_neg (by omega), if_neg (by omega)]
          have e : p.threads[k].getD (d / 4) ins0 = ins0 := by
            rw [List.getD, List.getElem?_eq_none (by omega)]; rfl
          rw [e]
          unfold insNum ins0
          repeat' split
          all_goals rfl
      · rw [if_neg c1, if_neg (c := 2 + k * 37 ≤ 2 + k * 37 + d ∧ 2 + k * 37 + d < 2 + k * 37 + p.threads[k].length * 4) (by omega), if_neg (c := 2 + k * 37 + d < 2 + k * 37 ∧ 2 + k * 37 + d < 150) (by omega)]
        obtain rfl | rfl | rfl | rfl | rfl : d = 32 ∨ d = 33 ∨ d = 34 ∨ d = 35 ∨ d = 36 := by omega
        all_goals simp
    · rw [if_neg (by omega), if_neg (by omega), if_neg (by omega), if_neg (by omega), if_neg (by omega)]

theorem newNum_all (p : Pg) (F : Nat) : ∀ j, j < 156 → newNum p F p.threads.length j = newNum2 p F 0 j := by
  intro j hj
  unfold newNum newNum2
  by_cases a : j < 2 + p.threads.length * 37 ∧ j < 150
  · rw [if_pos a, if_pos (by omega)]
  · rw [if_neg a]
    by_cases b : j < 150
    · rw [if_pos (by omega)]
      obtain ⟨d, t, rfl, ht⟩ : ∃ d t, j = 2 + t * 37 + d ∧ d < 37 := ⟨(j - 2) % 37, (j - 2) / 37, by omega, by omega⟩
      rw [stNum_thr _ _ _ (by omega) ht, new_th_out _ _ _ (by omega), new_code_out _ _ _ (by omega), thrNum_out]
    · by_cases c : j < 154
      · rw [if_pos (by omega)]
        obtain ⟨d, rfl⟩ : ∃ d, j = 150 + d := ⟨j - 150, by omega⟩
        rw [stNum_var _ _ (by omega)]
        obtain rfl | rfl | rfl | rfl : d = 0 ∨ d = 1 ∨ d = 2 ∨ d = 3 := by omega
        all_goals rfl
      · rw [if_neg (by omega)]

theorem newNum2_succ (p : Pg) (F k : Nat) (hk : k < 2) : ∀ j, j < 156 → newNum2 p F (k + 1) j = if j = 154 + k then -1 else newNum2 p F k j := by
  intro j hj
  unfold newNum2
  by_cases a : j = 154 + k
  · rw [if_pos (by omega), if_pos a, a, stNum_who]
    obtain rfl | rfl : k = 0 ∨ k = 1 := by omega
    all_goals rfl
  · rw [if_neg a]
    by_cases b : j < 154 + k
    · rw [if_pos (by omega), if_pos b]
    · rw [if_neg (by omega), if_neg b]

theorem newNum2_all (p : Pg) (F : Nat) : ∀ j, j < 156 → newNum2 p F 2 j = stNum (St.new p F) j := by
  intro j hj
  unfold newNum2
  rw [if_pos (by omega)]

end Go.Proofs.YtljlaopjimkcmaaGreat

/- The contract of rightCode. -/
namespace Go.Proofs.YtljlaopjimkcmaaGreat
open Go.RowKit

set_option maxRecDepth 100000 in
set_option maxHeartbeats 1000000 in
theorem rightCode_any (V M : Int) (t : Value) (a : Option Addr) (cap : Nat) (l : List Ins) (w : World) (hl : CodeAt w a l) :
    Calls Tryz.prog 56 #[.agg #[.int .i64 V, .int .i64 M, t], .slice a l.length cap] w fun r w' => r = .returned (.bool (rightCode V M l)) ∧ Below w.heap.size w w' := by
  have hm := hl.1
  unfold maxLen at hm
  by_cases h8 : l.length ≤ 8
  · have H : Hid (rightCode V M l = l.all (rightIns V M l.length)) := by show _ = _; simp [rightCode, h8]
    have HL := Lib.hid hl
    have h9 : decide (8 < l.length) = false := by simp; omega
    clear hl
    go_enter Tryz.func56, Tryz.ntmps56
    go_wp2
    go_loopw [12] (fun i wr => ∃ k : Nat, k ≤ l.length ∧ i = .int .i64 k ∧ Hid ((l.take k).all (rightIns V M l.length) = true) ∧ Below (w.heap.size + 1) (w.alloc (.cells #[.int .i64 V, .int .i64 M, t] 24)) wr) (fun i _ => l.length - (intOf i).toNat)
    case atStart => exact ⟨0, Nat.zero_le _, rfl, rfl, Below.refl _ _⟩
    case round =>
      obtain ⟨k, hk, rfl, hall, hb⟩ := hrel
      by_cases hlt : k < l.length
      · obtain ⟨b, o, rfl, hc⟩ := HL.out.2 (by intro e; simp [e] at hlt)
        have hbw : Below w.heap.size w wr := ((Below.refl _ _).alloc (Nat.le_refl _) _).trans (hb.mono (by omega))
        obtain ⟨c0, c1, c2, c3⟩ := hc k hlt
        have d0 := cell_later hbw c0
        have d1 := cell_later hbw c1
        have d2 := cell_later hbw c2
        have d3 := cell_later hbw c3
        have p0 : wr.cell? ⟨w.heap.size, 0, none⟩ = some (.int .i64 V) := by rw [hb.cell (p := ⟨w.heap.size, 0, none⟩) (by simp)]; simp
        have p1 : wr.cell? ⟨w.heap.size, 1, none⟩ = some (.int .i64 M) := by rw [hb.cell (p := ⟨w.heap.size, 1, none⟩) (by simp)]; simp
        have p2 : wr.cell? ⟨w.heap.size, 2, none⟩ = some t := by rw [hb.cell (p := ⟨w.heap.size, 2, none⟩) (by simp)]; simp
        have hz : w.heap.size < wr.heap.size := by have := hb.size; simp at this; omega
        clear c0 c1 c2 c3 hc
        go_wp2_with fail
        refine (rightInstr_any V M l.length (by omega) (by omega) t l[k] _).mono ?_
        rintro r w1 ⟨rfl, hb1⟩
        have hb2 : Below (w.heap.size + 1) (w.alloc (.cells #[.int .i64 V, .int .i64 M, t] 24)) w1 := (hb.alloc (by omega) _).trans (hb1.mono (by simp; omega))
        have hb3 : Below w.heap.size w w1 := ((Below.refl _ _).alloc (Nat.le_refl _) _).trans (hb2.mono (by omega))
        have ht : (l.take (k + 1)) = l.take k ++ [l[k]] := List.take_succ_eq_append_getElem hlt
        cases hr : rightIns V M l.length l[k]
        · have HR : Hid (rightCode V M l = false) := by
            show _ = _
            rw [H.out, List.all_eq_false]; exact ⟨l[k], List.getElem_mem _, by simp [hr]⟩
          clear hr ht
          go_wp2
          go_ret
          exact ⟨ret_bool HR.out.symm, hb3⟩
        · have HR : Hid ((l.take (k + 1)).all (rightIns V M l.length) = true) := by
            show _ = _
            rw [ht, List.all_append, hall.out]; simp [hr]
          clear hr ht
          go_wp2
          go_roundw
          case rel => exact ⟨k + 1, by omega, by go_num, HR, hb2⟩
          case measure => simp [intOf]; omega
      · obtain rfl : k = l.length := by omega
        have HR : Hid (rightCode V M l = true) := by
          show _ = _
          rw [H.out, ← hall.out, List.take_length]
        have hbw : Below w.heap.size w wr := ((Below.refl _ _).alloc (Nat.le_refl _) _).trans (hb.mono (by omega))
        go_wp2
        go_ret
        exact ⟨ret_bool HR.out.symm, hbw⟩
  · have H : Hid (rightCode V M l = false) := by show _ = _; simp [rightCode]; omega
    have h9 : 8 < l.length := by omega
    clear hl
    go_enter Tryz.func56, Tryz.ntmps56
    go_wp2
    go_ret
    exact ⟨ret_bool H.out.symm, below_alloc1 _ _⟩
end Go.Proofs.YtljlaopjimkcmaaGreat

/- The contract of Right. -/
namespace Go.Proofs.YtljlaopjimkcmaaGreat
open Go.RowKit

set_option maxRecDepth 100000 in
set_option maxHeartbeats 1000000 in
theorem right_any (p : Pg) (a : Option Addr) (cap : Nat) (w : World) (hp : ThreadsAt w a p.threads) :
    Calls Tryz.prog 29 #[pgV p a cap] w fun r w' => r = .returned (.bool (rightPg p)) ∧ Below w.heap.size w w' := by
  obtain ⟨V, M, ts⟩ := p
  unfold pgV
  dsimp only at *
  have hm := hp.1
  unfold maxLen at hm
  cases hV : belowB V 5
  · have H : Hid (rightPg ⟨V, M, ts⟩ = false) := by
      show _ = _
      simp [belowB] at hV
      simp [rightPg]; omega
    have HL := Lib.hid hp
    clear hp
    go_enter Tryz.func29, Tryz.ntmps29
    go_wp2_with (go_at_call 55; refine (below_any _ _ _).mono ?_; rintro r w' ⟨rfl, rfl⟩)
    go_ret
    exact ⟨ret_bool H.out.symm, below_alloc1 _ _⟩
  cases hM : belowB M 3
  · have H : Hid (rightPg ⟨V, M, ts⟩ = false) := by
      show _ = _
      simp [belowB] at hM
      simp [rightPg]; omega
    have HL := Lib.hid hp
    clear hp
    go_enter Tryz.func29, Tryz.ntmps29
    go_wp2_with (go_at_call 55; refine (below_any _ _ _).mono ?_; rintro r w' ⟨rfl, rfl⟩)
    go_ret
    exact ⟨ret_bool H.out.symm, below_alloc1 _ _⟩
  by_cases h1 : ts.length < 1
  · have H : Hid (rightPg ⟨V, M, ts⟩ = false) := by
      show _ = _
      simp [rightPg]; omega
    have HL := Lib.hid hp
    clear hp
    go_enter Tryz.func29, Tryz.ntmps29
    go_wp2_with (go_at_call 55; refine (below_any _ _ _).mono ?_; rintro r w' ⟨rfl, rfl⟩)
    go_ret
    exact ⟨ret_bool H.out.symm, below_alloc1 _ _⟩
  by_cases h4 : 4 < ts.length
  · have H : Hid (rightPg ⟨V, M, ts⟩ = false) := by
      show _ = _
      simp [rightPg]; omega
    have HL := Lib.hid hp
    clear hp
    go_enter Tryz.func29, Tryz.ntmps29
    go_wp2_with (go_at_call 55; refine (below_any _ _ _).mono ?_; rintro r w' ⟨rfl, rfl⟩)
    go_ret
    exact ⟨ret_bool H.out.symm, below_alloc1 _ _⟩
  have H : Hid (rightPg ⟨V, M, ts⟩ = ts.all (rightCode V M)) := by
    show _ = _
    simp [belowB] at hV hM
    have : decide (0 ≤ V ∧ V ≤ 4 ∧ 0 ≤ M ∧ M ≤ 2 ∧ 1 ≤ ts.length ∧ ts.length ≤ 4) = true := by simp; omega
    unfold rightPg
    dsimp only
    rw [this, Bool.true_and]
  have HL := Lib.hid hp
  clear hp
  go_enter Tryz.func29, Tryz.ntmps29
  go_wp2_with (go_at_call 55; refine (below_any _ _ _).mono ?_; rintro r w' ⟨rfl, rfl⟩)
  go_loopw [28] (fun i wr => ∃ k : Nat, k ≤ ts.length ∧ i = .int .i64 k ∧ Hid ((ts.take k).all (rightCode V M) = true) ∧ Below (w.heap.size + 1) (w.alloc (.cells #[.int .i64 V, .int .i64 M, .slice a ts.length cap] 24)) wr) (fun i _ => ts.length - (intOf i).toNat)
  case atStart => exact ⟨0, Nat.zero_le _, rfl, rfl, Below.refl _ _⟩
  case round =>
    obtain ⟨k, hk, rfl, hall, hb⟩ := hrel
    by_cases hlt : k < ts.length
    · obtain ⟨b, o, rfl, hc⟩ := HL.out.2 (by intro e; simp [e] at hlt)
      have hbw : Below w.heap.size w wr := ((Below.refl _ _).alloc (Nat.le_refl _) _).trans (hb.mono (by omega))
      obtain ⟨c, ccap, c0, c1, _⟩ := hc k hlt
      have d0 := cell_later hbw c0
      have D1 := Lib.hid (c1.later hbw)
      have p0 : wr.cell? ⟨w.heap.size, 0, none⟩ = some (.int .i64 V) := by rw [hb.cell (p := ⟨w.heap.size, 0, none⟩) (by simp)]; simp
      have p1 : wr.cell? ⟨w.heap.size, 1, none⟩ = some (.int .i64 M) := by rw [hb.cell (p := ⟨w.heap.size, 1, none⟩) (by simp)]; simp
      have p2 : wr.cell? ⟨w.heap.size, 2, none⟩ = some (.slice (some ⟨b, o, none⟩) ts.length cap) := by rw [hb.cell (p := ⟨w.heap.size, 2, none⟩) (by simp)]; simp
      have hz : w.heap.size < wr.heap.size := by have := hb.size; simp at this; omega
      clear c0 c1 hc
      go_wp2_with fail
      refine (rightCode_any V M _ c ccap ts[k] _ D1.out).mono ?_
      rintro r w1 ⟨rfl, hb1⟩
      have hb2 : Below (w.heap.size + 1) (w.alloc (.cells #[.int .i64 V, .int .i64 M, .slice (some ⟨b, o, none⟩) ts.length cap] 24)) w1 := hb.trans (hb1.mono (by omega))
      have hb3 : Below w.heap.size w w1 := ((Below.refl _ _).alloc (Nat.le_refl _) _).trans (hb2.mono (by omega))
      have ht : (ts.take (k + 1)) = ts.take k ++ [ts[k]] := List.take_succ_eq_append_getElem hlt
      cases hr : rightCode V M ts[k]
      · have HR : Hid (rightPg ⟨V, M, ts⟩ = false) := by
          show _ = _
          rw [H.out, List.all_eq_false]; exact ⟨ts[k], List.getElem_mem _, by simp [hr]⟩
        clear hr ht
        go_wp2
        go_ret
        exact ⟨ret_bool HR.out.symm, hb3⟩
      · have HR : Hid ((ts.take (k + 1)).all (rightCode V M) = true) := by
          show _ = _
          rw [ht, List.all_append, hall.out]; simp [hr]
        clear hr ht
        go_wp2
        go_roundw
        case rel => exact ⟨k + 1, by omega, by go_num, HR, hb2⟩
        case measure => simp [intOf]; omega
    · obtain rfl : k = ts.length := by omega
      have HR : Hid (rightPg ⟨V, M, ts⟩ = true) := by
        show _ = _
        rw [H.out, ← hall.out, List.take_length]
      have hbw : Below w.heap.size w wr := ((Below.refl _ _).alloc (Nat.le_refl _) _).trans (hb.mono (by omega))
      go_wp2
      go_ret
      exact ⟨ret_bool HR.out.symm, hbw⟩
end Go.Proofs.YtljlaopjimkcmaaGreat

/- The contract of New. -/
namespace Go.Proofs.YtljlaopjimkcmaaGreat
open Go.RowKit

/-- A new state, or none. -/
def NewR (p : Pg) (fuel : Int) (w : World) (r : Ending) (w' : World) : Prop :=
  if rightPg p = true ∧ 0 ≤ fuel ∧ fuel ≤ 8 then ∃ g, r = .returned (.tuple #[.pointer (some ⟨g, 0, none⟩), .int .i64 0]) ∧ w.heap.size ≤ g ∧ StAt w' g (St.new p fuel.toNat) ∧ Below w.heap.size w w'
  else r = .returned (.tuple #[.pointer none, .int .i64 1]) ∧ Below w.heap.size w w'

set_option maxRecDepth 100000 in
set_option maxHeartbeats 2000000 in
theorem new_no (p : Pg) (a : Option Addr) (cap : Nat) (fuel : Int) (w : World) (hp : ThreadsAt w a p.threads) (hr : rightPg p = false) :
    Calls Tryz.prog 14 #[.agg #[.int .i64 p.vars, .int .i64 p.mutexes, .slice a p.threads.length cap], .int .i64 fuel] w fun r w' => r = .returned (.tuple #[.pointer none, .int .i64 1]) ∧ Below w.heap.size w w' := by
  have HR := Lib.hid hr
  have HP := Lib.hid hp
  clear hr hp
  go_enter Tryz.func14, Tryz.ntmps14
  go_wp2_with fail
  refine (right_any p a cap _ (HP.out.later (below_alloc1 w _))).mono ?_
  rw [HR.out]
  rintro r w1 ⟨rfl, hb⟩
  have hb1 : Below w.heap.size w w1 := (below_alloc1 w _).trans (hb.mono (by simp))
  clear hb
  go_wp2
  go_ret2
  exact ⟨rfl, hb1⟩

set_option maxRecDepth 100000 in
set_option maxHeartbeats 2000000 in
theorem new_fuel (p : Pg) (a : Option Addr) (cap : Nat) (fuel : Int) (w : World) (hp : ThreadsAt w a p.threads) (hr : rightPg p = true) (hf : belowB fuel 9 = false) :
    Calls Tryz.prog 14 #[.agg #[.int .i64 p.vars, .int .i64 p.mutexes, .slice a p.threads.length cap], .int .i64 fuel] w fun r w' => r = .returned (.tuple #[.pointer none, .int .i64 1]) ∧ Below w.heap.size w w' := by
  have HR := Lib.hid hr
  have HP := Lib.hid hp
  clear hr hp
  go_enter Tryz.func14, Tryz.ntmps14
  go_wp2_with fail
  refine (right_any p a cap _ (HP.out.later (below_alloc1 w _))).mono ?_
  rw [HR.out]
  rintro r w1 ⟨rfl, hb⟩
  have hb1 : Below w.heap.size w w1 := (below_alloc1 w _).trans (hb.mono (by simp))
  clear hb
  go_wp2_with (go_at_call 30; refine (sbelow_any _ _ _).mono ?_; rintro r w' ⟨rfl, rfl⟩)
  go_ret2
  exact ⟨rfl, hb1⟩

theorem zero_state : ∃ Z : Array Value, Z = numA (fun _ => 0) ∧ ∀ w, (zeroValue 84).run Tryz.prog w = .ok (.agg Z) w :=
  ⟨_, rfl, (zero_of_info (P := Tryz.prog) (t := 84) (v := .agg (numA fun _ => 0)) (n := 156) (by kernel_rfl)).1⟩

set_option maxRecDepth 100000 in
set_option maxHeartbeats 4000000 in
theorem new_yes (p : Pg) (a : Option Addr) (cap F : Nat) (w : World) (hp : ThreadsAt w a p.threads) (hr : rightPg p = true) (hF : F ≤ 8) :
    Calls Tryz.prog 14 #[.agg #[.int .i64 p.vars, .int .i64 p.mutexes, .slice a p.threads.length cap], .int .i64 F] w
      fun r w' => ∃ g, r = .returned (.tuple #[.pointer (some ⟨g, 0, none⟩), .int .i64 0]) ∧ w.heap.size ≤ g ∧ StAt w' g (St.new p F) ∧ Below w.heap.size w w' := by
  have hf : belowB F 9 = true := by simp [belowB]; omega
  have hn4 : p.threads.length ≤ 4 := by
    unfold rightPg at hr
    rw [Bool.and_eq_true, decide_eq_true_eq] at hr
    omega
  have HR := Lib.hid hr
  have HP := Lib.hid hp
  obtain ⟨Z, hZ, hzv⟩ := zero_state
  have hne : ¬ Z = #[] := fun e => by have := congrArg Array.size e; rw [hZ, numA_size] at this; simp at this
  have hsz : Z.size = 156 := by rw [hZ, numA_size]
  have hset : (Z.setIfInBounds 0 (.int .i64 p.threads.length)).setIfInBounds 1 (.int .i64 p.mutexes) = numA (newNum p F 0) := by
    rw [hZ, numA_set (fun _ => 0) (fun j => if j = 0 then (p.threads.length : Int) else 0) 0 _ (by omega) (fun j _ => rfl)]
    refine numA_set _ _ 1 _ (by omega) (fun j _ => ?_)
    rw [newNum_zero]
    by_cases h0 : j = 0
    · simp [h0]
    · simp [h0]
  clear hZ
  clear hr hp
  go_enter Tryz.func14, Tryz.ntmps14
  go_wp2_with fail
  refine (right_any p a cap _ (HP.out.later (below_alloc1 w _))).mono ?_
  rw [HR.out]
  rintro r w1 ⟨rfl, hb⟩
  have hb1 : Below w.heap.size w w1 := (below_alloc1 w _).trans (hb.mono (by simp))
  have hc : ∀ o, w1.cell? ⟨w.heap.size, o, none⟩ = (w.alloc (.cells #[.int .i64 p.vars, .int .i64 p.mutexes, .slice a p.threads.length cap] 24)).cell? ⟨w.heap.size, o, none⟩ := fun o => hb.cell (p := ⟨w.heap.size, o, none⟩) (by simp)
  have hz : w.heap.size < w1.heap.size := by have := hb.size; simp at this; omega
  clear hb
  go_wp2_with (go_at_call 30; refine (sbelow_any _ _ _).mono ?_; rintro r w' ⟨rfl, rfl⟩)
  clear hset hsz hne hzv hc hf
  go_loopw [29] (fun i wr => ∃ k : Nat, k ≤ p.threads.length ∧ i = .int .i64 k ∧ NumAt wr w1.heap.size (newNum p F k) ∧ Below w1.heap.size w1 wr) (fun i _ => p.threads.length - (intOf i).toNat)
  case atStart => exact ⟨0, Nat.zero_le _, rfl, heap_alloc_last w1 _, below_alloc1 _ _⟩
  case round =>
    obtain ⟨k, hk, rfl, hnum, hb2⟩ := hrel
    by_cases hlt : k < p.threads.length
    · obtain ⟨b, o, rfl, hc⟩ := HP.out.2 (by intro e; simp [e] at hlt)
      obtain ⟨c, ccap, c0, c1, _⟩ := hc k hlt
      have hbw : Below w.heap.size w wr := hb1.trans (hb2.mono (by omega))
      have d0 := cell_later hbw c0
      have D1 := c1.later hbw
      have h8 := (rightPg_code HR.out hlt).1
      obtain ⟨f1, hf1⟩ : ∃ f1 : Nat → Int, ∀ j, f1 j = if 2 + k * 37 ≤ j ∧ j < 2 + k * 37 + p.threads[k].length * 4 then insNum (p.threads[k].getD ((j - (2 + k * 37)) / 4) ins0) ((j - (2 + k * 37)) % 4) else newNum p F k j := ⟨_, fun _ => rfl⟩
      have hcp := run_copy_code wr w1.heap.size (2 + k * 37) _ f1 hnum c ccap p.threads[k] D1 h8 (by omega) (fun j _ => hf1 j)
      have hn1 : NumAt (wr.setRow w1.heap.size (numA f1)) w1.heap.size f1 := setRow_heap wr _ _ _ _ _ hnum
      have hbs : Below w1.heap.size w1 (wr.setRow w1.heap.size (numA f1)) := hb2.trans ⟨rfl, rfl, rfl, by simp, fun q hq => setRow_other _ _ _ _ (by omega)⟩
      generalize wr.setRow w1.heap.size (numA f1) = W1 at *
      have hn2 : NumAt (W1.setCell ⟨w1.heap.size, 2 + k * 37 + 32, none⟩ (.int .i64 p.threads[k].length)) w1.heap.size (fun j => if j = 2 + k * 37 + 32 then (p.threads[k].length : Int) else f1 j) := hn1.set _ _ _ (by omega) (fun j _ => rfl)
      have hn3 : NumAt ((W1.setCell ⟨w1.heap.size, 2 + k * 37 + 32, none⟩ (.int .i64 p.threads[k].length)).setCell ⟨w1.heap.size, 2 + k * 37 + 34, none⟩ (.int .i64 F)) w1.heap.size (newNum p F (k + 1)) :=
        hn2.set _ _ _ (by omega) (newNum_succ p F k hlt hn4 h8 f1 _ (fun j _ => hf1 j) (fun j _ => rfl))
      have hb3 : Below w1.heap.size w1 ((W1.setCell ⟨w1.heap.size, 2 + k * 37 + 32, none⟩ (.int .i64 p.threads[k].length)).setCell ⟨w1.heap.size, 2 + k * 37 + 34, none⟩ (.int .i64 F)) := (hbs.setCell (p := ⟨w1.heap.size, 2 + k * 37 + 32, none⟩) (Nat.le_refl _) _).setCell (p := ⟨w1.heap.size, 2 + k * 37 + 34, none⟩) (Nat.le_refl _) _
      have e0 := hn1.cell (2 + k * 37 + 32) (by omega)
      have e1 := hn1.frozen (2 + k * 37 + 32)
      have e2 := hn1.cell (2 + k * 37 + 34) (by omega)
      have e3 := hn1.frozen (2 + k * 37 + 34)
      have HN3 := Lib.hid hn3
      have hk4 : k < 4 := by omega
      clear c0 c1 hc D1 hf1 hn1 hn2 hn3 hbs hnum hb2 hbw
      go_wp2
      go_roundw
      case rel => exact ⟨k + 1, by omega, by go_num, HN3.out, hb3⟩
      case measure => simp [intOf]; omega
    · obtain rfl : k = p.threads.length := by omega
      have hnum2 : NumAt wr w1.heap.size (newNum2 p F 0) := by
        unfold NumAt
        rw [← numA_congr _ _ (newNum_all p F)]
        exact hnum
      clear hnum
      go_wp2
      go_loopw [53] (fun i wq => ∃ k : Nat, k ≤ 2 ∧ i = .int .i64 k ∧ NumAt wq w1.heap.size (newNum2 p F k) ∧ Below w1.heap.size w1 wq) (fun i _ => 2 - (intOf i).toNat)
      case atStart => exact ⟨0, by omega, rfl, hnum2, hb2⟩
      case round =>
        clear hnum2 hb2
        obtain ⟨k, hk, rfl, hnum, hb2⟩ := hrel
        by_cases hlt : k < 2
        · have e0 := hnum.cell (154 + k) (by omega)
          have e1 := hnum.frozen (154 + k)
          have HN := Lib.hid (hnum.set _ (154 + k) (-1) (by omega) (newNum2_succ p F k hlt))
          have hb3 := hb2.setCell (p := ⟨w1.heap.size, 154 + k, none⟩) (Nat.le_refl _) (.int .i64 (-1))
          clear hnum hb2
          go_wp2
          go_roundw
          case rel => exact ⟨k + 1, by omega, by go_num, HN.out, hb3⟩
          case measure => simp [intOf]; omega
        · obtain rfl : k = 2 := by omega
          have HN : Hid (StAt wr w1.heap.size (St.new p F)) := by
            show _ = _
            rw [← numA_congr _ _ (newNum2_all p F)]
            exact hnum
          clear hnum
          go_wp2
          go_ret2
          exact ⟨_, rfl, by omega, HN.out, hb1.trans (hb2.mono (by omega))⟩

theorem new_any (p : Pg) (a : Option Addr) (cap : Nat) (fuel : Int) (w : World) (hp : ThreadsAt w a p.threads) :
    Calls Tryz.prog 14 #[.agg #[.int .i64 p.vars, .int .i64 p.mutexes, .slice a p.threads.length cap], .int .i64 fuel] w (NewR p fuel w) := by
  cases hr : rightPg p
  · refine (new_no p a cap fuel w hp hr).mono fun r w' h => ?_
    unfold NewR
    rw [if_neg (by simp [hr])]
    exact h
  · cases hf : belowB fuel 9
    · refine (new_fuel p a cap fuel w hp hr hf).mono fun r w' h => ?_
      unfold NewR
      rw [if_neg (by simp [belowB] at hf; omega)]
      exact h
    · have hf' : 0 ≤ fuel ∧ fuel < 9 := by simpa [belowB] using hf
      obtain ⟨F, rfl⟩ : ∃ F : Nat, fuel = F := ⟨fuel.toNat, by omega⟩
      refine (new_yes p a cap F w hp hr (by omega)).mono fun r w' h => ?_
      unfold NewR
      rw [if_pos ⟨hr, by omega, by omega⟩]
      exact h

end Go.Proofs.YtljlaopjimkcmaaGreat

/- The contract of goOver, that tells ends to one function. -/
namespace Go.Proofs.YtljlaopjimkcmaaGreat
open Go.RowKit

section
variable {F : Nat} {X : Nat → Prop} {I : Ends → World → Prop} {B P M A G most kb rb : Nat}
set_option maxRecDepth 100000 in
set_option maxHeartbeats 8000000 in
theorem goOnA_full (n : Nat) (s : St) (row : List Ev) (v : Value) (W : World) (b : Nat) (acc : Ends) (c : Nat)
    (hc : CapC W P M A G most (fnVA kb rb)) (cp : W.cell? ⟨P, 0, none⟩ = some (.int .i64 (c : Int))) (hcm : most ≤ c) :
    Calls Tryz.prog 41 #[.pointer (some ⟨b, 0, none⟩), v, .pointer (some ⟨P, 0, none⟩), .pointer (some ⟨M, 0, none⟩), .pointer (some ⟨A, 0, none⟩), .pointer (some ⟨G, 0, none⟩)] W (GoR X I B P most n s row v acc c W) := by
  have cm := hc.m
  have hq1 : decide ((most : Int) ≤ (c : Int)) = true := by simp; omega
  have HM : Hid (most < c + s.pre n) := by have := pre_pos n s; show _ < _; omega
  clear hc
  go_enter Tryz.func41, Tryz.ntmps41
  go_wp2_with fail
  go_ret
  exact ⟨.inr ⟨HM.out, rfl⟩, OnlyS.refl _ _⟩

theorem goOnA_any (hA : Apart X B P M A G) (hK : KeepC X I) (hE : EndC F X I 21 (argsA kb rb)) (hmost : most ≤ 1000) : ∀ n, GoH F X I B P M A G most (fnVA kb rb) n := by
  intro n
  induction n with
  | zero =>
    intro s row v W b acc c ok hf hl hv hB hs hbP hbX hc cp fp hcm hac hI
    by_cases h : c < most
    · exact goOnA_end hA hK hE 0 s row v W b acc c ok (all_none (by omega)) (by omega) hv hB hs hbP hbX hc cp fp h hmost hac hI
    · exact goOnA_full 0 s row v W b acc c hc cp (by omega)
  | succ n ih =>
    intro s row v W b acc c ok hf hl hv hB hs hbP hbX hc cp fp hcm hac hI
    by_cases h : c < most
    · by_cases hall : s.all = []
      · exact goOnA_end hA hK hE (n + 1) s row v W b acc c ok hall (by omega) hv hB hs hbP hbX hc cp fp h hmost hac hI
      · exact goOnA_step hA hK n ih s row v W b acc c ok hall hf (by omega) hv hB hs hbP hbX hc cp fp h hmost hac hI
    · exact goOnA_full (n + 1) s row v W b acc c hc cp (by omega)
end

/-- What goOver answers. -/
def OverRA (X : Nat → Prop) (I : Ends → World → Prop) (p : Pg) (fuel : Int) (most : Nat) (w : World) (r : Ending) (w' : World) : Prop :=
  (if okPg p fuel then
    ((St.new p fuel.toNat).pre 33 ≤ most ∧ r = .returned (.tuple #[.int .i64 ((St.new p fuel.toNat).pre 33 : Nat), .int .i64 0]) ∧ I ((St.new p fuel.toNat).runs 33 []) w') ∨ (most < (St.new p fuel.toNat).pre 33 ∧ r = .returned (.tuple #[.int .i64 0, .int .i64 5]))
  else r = .returned (.tuple #[.int .i64 0, .int .i64 1])) ∧ OnlyS X w w'

set_option maxRecDepth 100000 in
set_option maxHeartbeats 8000000 in
theorem goOverA_any {X : Nat → Prop} {I : Ends → World → Prop} {kb rb : Nat} (p : Pg) (a : Option Addr) (cap : Nat) (fuel : Int) (most : Nat) (w : World) (hp : ThreadsAt w a p.threads) (hmost : most ≤ 1000) (hX : ∀ k, X k → k < w.heap.size) (hK : KeepC X I)
    (hE : EndC fuel.toNat X I 21 (argsA kb rb)) (hI : I [] w) :
    Calls Tryz.prog 20 #[.agg #[.int .i64 p.vars, .int .i64 p.mutexes, .slice a p.threads.length cap], .int .i64 fuel, .int .i64 (most : Int), fnVA kb rb] w (OverRA X I p fuel most w) := by
  have HP := Lib.hid hp
  have HK := Lib.hid hK
  have HE := Lib.hid hE
  have HI := Lib.hid hI
  have HX := Lib.hid hX
  clear hp hK hE hI hX
  unfold fnVA
  go_enter Tryz.func20, Tryz.ntmps20
  go_wp2_with fail
  have hb3 : Below w.heap.size w (((w.alloc (.cells #[.int .i64 p.vars, .int .i64 p.mutexes, .slice a p.threads.length cap] 24)).alloc (.cells #[.int .i64 (most : Int)] 3)).alloc (.cells #[.func (.func 21) #[] #[.pointer (some ⟨kb, 0, none⟩), .pointer (some ⟨rb, 0, none⟩)]] 65)) := below_alloc3 w _ _ _
  have cm : (((w.alloc (.cells #[.int .i64 p.vars, .int .i64 p.mutexes, .slice a p.threads.length cap] 24)).alloc (.cells #[.int .i64 (most : Int)] 3)).alloc (.cells #[.func (.func 21) #[] #[.pointer (some ⟨kb, 0, none⟩), .pointer (some ⟨rb, 0, none⟩)]] 65)).cell? ⟨w.heap.size + 1, 0, none⟩ = some (.int .i64 (most : Int)) := cell_later (below_alloc1 _ _) (cell_top1 w _ _ _)
  have ca : (((w.alloc (.cells #[.int .i64 p.vars, .int .i64 p.mutexes, .slice a p.threads.length cap] 24)).alloc (.cells #[.int .i64 (most : Int)] 3)).alloc (.cells #[.func (.func 21) #[] #[.pointer (some ⟨kb, 0, none⟩), .pointer (some ⟨rb, 0, none⟩)]] 65)).cell? ⟨w.heap.size + 1 + 1, 0, none⟩ = some (.func (.func 21) #[] #[.pointer (some ⟨kb, 0, none⟩), .pointer (some ⟨rb, 0, none⟩)]) := cell_top2 w _ _ _ _
  have hz3 : w.heap.size + 3 ≤ (((w.alloc (.cells #[.int .i64 p.vars, .int .i64 p.mutexes, .slice a p.threads.length cap] 24)).alloc (.cells #[.int .i64 (most : Int)] 3)).alloc (.cells #[.func (.func 21) #[] #[.pointer (some ⟨kb, 0, none⟩), .pointer (some ⟨rb, 0, none⟩)]] 65)).heap.size := by rw [World.size_alloc, World.size_alloc, World.size_alloc]; omega
  generalize (((w.alloc (.cells #[.int .i64 p.vars, .int .i64 p.mutexes, .slice a p.threads.length cap] 24)).alloc (.cells #[.int .i64 (most : Int)] 3)).alloc (.cells #[.func (.func 21) #[] #[.pointer (some ⟨kb, 0, none⟩), .pointer (some ⟨rb, 0, none⟩)]] 65)) = W3 at *
  refine (new_any p a cap fuel W3 (HP.out.later hb3)).mono ?_
  rintro r W4 hn
  unfold NewR at hn
  by_cases hok : rightPg p = true ∧ 0 ≤ fuel ∧ fuel ≤ 8
  · rw [if_pos hok] at hn
    obtain ⟨g, rfl, hg3, hs4, hb4⟩ := hn
    have HOKN : Hid ((St.new p fuel.toNat).Ok fuel.toNat) := new_ok hok.1 _ (by omega)
    have HRF : Hid (∀ r w', OverRA X I p fuel most w r w' ↔ (((St.new p fuel.toNat).pre 33 ≤ most ∧ r = .returned (.tuple #[.int .i64 ((St.new p fuel.toNat).pre 33 : Nat), .int .i64 0]) ∧ I ((St.new p fuel.toNat).runs 33 []) w') ∨ (most < (St.new p fuel.toNat).pre 33 ∧ r = .returned (.tuple #[.int .i64 0, .int .i64 5]))) ∧ OnlyS X w w') := fun r w' => by unfold OverRA; rw [if_pos (show okPg p fuel from hok)]
    have HSN := Lib.hid hs4
    generalize St.new p fuel.toNat = s0 at *
    have cm4 := cell_later hb4 cm
    have ca4 := cell_later hb4 ca
    have hz4 := hb4.size
    clear hs4 hok
    go_wp2_with fail
    have hb6 : Below W4.heap.size W4 ((W4.alloc (.cells #[.int .i64 0] 3)).alloc (.cells #[.func (.func 41) #[] #[.pointer (some ⟨W4.heap.size, 0, none⟩), .pointer (some ⟨w.heap.size + 1, 0, none⟩), .pointer (some ⟨w.heap.size + 1 + 1, 0, none⟩), .pointer (some ⟨W4.heap.size + 1, 0, none⟩)]] 96)) := below_alloc2 W4 _ _
    have cp6 := cell_later (below_alloc1 (W4.alloc (.cells #[.int .i64 0] 3)) (.cells #[.func (.func 41) #[] #[.pointer (some ⟨W4.heap.size, 0, none⟩), .pointer (some ⟨w.heap.size + 1, 0, none⟩), .pointer (some ⟨w.heap.size + 1 + 1, 0, none⟩), .pointer (some ⟨W4.heap.size + 1, 0, none⟩)]] 96)) (cell_top W4 (.int .i64 0) 3)
    have fp6 := ((below_alloc1 (W4.alloc (.cells #[.int .i64 0] 3)) (.cells #[.func (.func 41) #[] #[.pointer (some ⟨W4.heap.size, 0, none⟩), .pointer (some ⟨w.heap.size + 1, 0, none⟩), .pointer (some ⟨w.heap.size + 1 + 1, 0, none⟩), .pointer (some ⟨W4.heap.size + 1, 0, none⟩)]] 96)).frozen (p := ⟨W4.heap.size, 0, none⟩) (by rw [World.size_alloc]; exact Nat.lt_succ_self _)).trans (frozen_top W4 (.int .i64 0) 3)
    have cg6 := cell_top1 W4 (.cells #[.int .i64 0] 3) (.func (.func 41) #[] #[.pointer (some ⟨W4.heap.size, 0, none⟩), .pointer (some ⟨w.heap.size + 1, 0, none⟩), .pointer (some ⟨w.heap.size + 1 + 1, 0, none⟩), .pointer (some ⟨W4.heap.size + 1, 0, none⟩)]) 96
    have hz6 : ((W4.alloc (.cells #[.int .i64 0] 3)).alloc (.cells #[.func (.func 41) #[] #[.pointer (some ⟨W4.heap.size, 0, none⟩), .pointer (some ⟨w.heap.size + 1, 0, none⟩), .pointer (some ⟨w.heap.size + 1 + 1, 0, none⟩), .pointer (some ⟨W4.heap.size + 1, 0, none⟩)]] 96)).heap.size = W4.heap.size + 2 := by rw [World.size_alloc, World.size_alloc]
    generalize ((W4.alloc (.cells #[.int .i64 0] 3)).alloc (.cells #[.func (.func 41) #[] #[.pointer (some ⟨W4.heap.size, 0, none⟩), .pointer (some ⟨w.heap.size + 1, 0, none⟩), .pointer (some ⟨w.heap.size + 1 + 1, 0, none⟩), .pointer (some ⟨W4.heap.size + 1, 0, none⟩)]] 96)) = W6 at *
    have hb46 : Below w.heap.size w W6 := (hb3.trans (hb4.mono hb3.size)).trans (hb6.mono (by omega))
    have hAp : Apart X W6.heap.size W4.heap.size (w.heap.size + 1) (w.heap.size + 1 + 1) (W4.heap.size + 1) := by
      have hx := HX.out
      refine ⟨by omega, by omega, by omega, by omega, by omega, by omega, by omega, fun h => ?_, fun h => ?_, fun h => ?_, fun h => ?_, fun k h => ?_⟩
      · have := hx _ h; omega
      · have := hx _ h; omega
      · have := hx _ h; omega
      · have := hx _ h; omega
      · have := hx _ h; omega
    have hgs := HSN.out.lt
    have hC6 : CapC W6 W4.heap.size (w.heap.size + 1) (w.heap.size + 1 + 1) (W4.heap.size + 1) most (fnVA kb rb) := ⟨cell_later hb6 cm4, cell_later hb6 ca4, cg6⟩
    have hI6 : I [] W6 := HK.out [] w W6 HI.out hb46.size (fun k _ hk => hb46.block k hk)
    have HCALL := Lib.hid (goOnA_any hAp HK.out HE.out hmost 33 s0 [] (.slice none 0 0) W6 g [] 0 HOKN.out (by have := fuel_le HOKN.out; omega) (by simp) (ownE_nil _ _) (Nat.le_refl _) (HSN.out.later hb6) (by omega) (fun h => by have := HX.out _ h; omega) hC6 cp6 fp6 (Nat.zero_le _) (Nat.le_refl _) hI6)
    clear hC6 hI6 hAp
    refine HCALL.out.mono ?_
    rintro r W7 ⟨h, ho⟩
    have HOX : Hid (OnlyS X w W7) := by
      have h1 : OnlyS (fun k => X k ∨ k = W4.heap.size) W6 W7 := ho.mono fun k _ hk => by
        rcases hk with h | h | h
        · exact .inr h
        · exact .inl h
        · cases h
      have h2 := (OnlyS.after hb46 ?_ : OnlyS (fun k => X k ∨ k = W4.heap.size) w W7)
      · exact h2.mono fun k hk h => h.resolve_right (by omega)
      · exact h1
    rw [Nat.zero_add] at h
    rcases h with ⟨q1, rfl, q3, q4, q5, _⟩ | ⟨q1, rfl⟩
    · have HFIN : Hid (OverRA X I p fuel most w (.returned (.tuple #[.int .i64 (s0.pre 33 : Nat), .int .i64 0])) W7) := (HRF.out _ _).2 ⟨.inl ⟨q1, rfl, q5⟩, HOX.out⟩
      clear q5
      go_wp2_with fail
      go_ret2
      exact HFIN.out
    · have HFIN : Hid (OverRA X I p fuel most w (.returned (.tuple #[.int .i64 0, .int .i64 5])) W7) := (HRF.out _ _).2 ⟨.inr ⟨q1, rfl⟩, HOX.out⟩
      go_wp2_with fail
      go_ret2
      exact HFIN.out
  · rw [if_neg hok] at hn
    obtain ⟨rfl, hb4⟩ := hn
    have HRF : Hid (OverRA X I p fuel most w (.returned (.tuple #[.int .i64 0, .int .i64 1])) W4) := by
      unfold OverRA
      rw [if_neg (show ¬ okPg p fuel from hok)]
      exact ⟨rfl, .of_below (hb3.trans (hb4.mono hb3.size))⟩
    clear hok
    go_wp2_with fail
    go_ret2
    exact HRF.out

end Go.Proofs.YtljlaopjimkcmaaGreat

/- The contract of what All is told of ends. -/
namespace Go.Proofs.YtljlaopjimkcmaaGreat
open Go.RowKit Go.Maps Go.Sort

def AX (kb mb rb : Nat) (k : Nat) : Prop := k = kb ∨ k = mb ∨ k = rb
def AI (kb mb rb : Nat) (acc : Ends) (W : World) : Prop :=
  acc.length ≤ 1000000 ∧ W.cell? ⟨kb, 0, none⟩ = some (.map (some mb)) ∧ W.ownsMap Tryz.prog 9 unitElem mb acc.length (setK (keysOf acc)) ∧ W.cell? ⟨rb, 0, none⟩ = some (.int .i64 (acc.length : Int)) ∧ W.frozen? ⟨rb, 0, none⟩ = false
theorem map_keptBy {w w' : World} {mb n : Nat} {D : DataW Unit} (h : w.ownsMap Tryz.prog 9 unitElem mb n D) (hk : w'.heap[mb]? = w.heap[mb]?) : w'.ownsMap Tryz.prog 9 unitElem mb n D := by
  obtain ⟨es, clock, hb, h2⟩ := h
  exact ⟨es, clock, hk.trans hb, h2⟩
theorem AI_keep (kb mb rb : Nat) : KeepC (AX kb mb rb) (AI kb mb rb) := by
  intro acc W W' ⟨h0, h1, h2, h3, h4⟩ hs hb
  have k1 := hb kb (.inl rfl) (cell_block h1)
  have k2 := hb mb (.inr (.inl rfl)) h2.lt
  have k3 := hb rb (.inr (.inr rfl)) (cell_block h3)
  exact ⟨h0, by rw [World.cell?_of_block (w := W) (a := ⟨kb, 0, none⟩) k1]; exact h1, map_keptBy h2 k2, by rw [World.cell?_of_block (w := W) (a := ⟨rb, 0, none⟩) k3]; exact h3, by rw [World.frozen?_of_block (w := W) (a := ⟨rb, 0, none⟩) k3]; exact h4⟩

set_option maxRecDepth 100000 in
set_option maxHeartbeats 4000000 in
theorem allEnd_any (kb mb rb : Nat) (h1 : kb ≠ mb) (h2 : kb ≠ rb) (h3 : mb ≠ rb) (acc : Ends) (W : World) (b : Nat) (s : St) (row : List Ev) (a : Option Addr) (cap : Nat) (hI : AI kb mb rb acc W) (hacc : acc.length ≤ 999999) (hrow : EvsAt W a row) :
    Calls Tryz.prog 21 #[.pointer (some ⟨b, 0, none⟩), .slice a row.length cap, .pointer (some ⟨kb, 0, none⟩), .pointer (some ⟨rb, 0, none⟩)] W fun r W' => r = .returned (.tuple #[]) ∧ AI kb mb rb (acc ++ [(s, row)]) W' ∧ OnlyS (AX kb mb rb) W W' := by
  have HI := Lib.hid hI
  have hkb := cell_block hI.2.1
  have hmb := hI.2.2.1.lt
  have hrb := cell_block hI.2.2.2.1
  have ck := hI.2.1
  have HKY : Hid (∀ w1, Below W.heap.size W w1 → Calls Tryz.prog 18 #[.slice a row.length cap] w1 fun r w' => r = .returned (.string ⟨(keyB row).toArray⟩) ∧ Below w1.heap.size w1 w') := fun w1 hb => key_any a cap row w1 (hrow.later hb)
  have hkl : (keyB row).length ≤ maxLen := by have := keyB_len row; unfold maxLen; omega
  have HU : Hid (∀ w1, Below W.heap.size W w1 → ∃ w2, (Instr.mapUpdate 62 (.map (some mb)) (.string ⟨(keyB row).toArray⟩) (.agg #[])).run Tryz.prog w1 = .ok () w2 ∧ w2.ownsMap Tryz.prog 9 unitElem mb (acc.length + 1) (setK (keysOf (acc ++ [(s, row)]))) ∧ w1.grownBy w2 (some mb)) := fun w1 hb => by
    have ho := map_keptBy hI.2.2.1 (hb.block mb hmb)
    obtain ⟨w2, r1, r2, r3⟩ := ho.update (string_keyed Tryz.underlying9) Tryz.underlying62 (by unfold maxLen; omega) (key := .string ⟨(keyB row).toArray⟩) (kl := .string (keyB row)) (by simp [keyOf, Tryz.underlying9, mapKey]; exact hkl) (unitElem_mk (H := Unit))
    refine ⟨w2, r1, ?_, r3⟩
    have e : keysOf (acc ++ [(s, row)]) = keysOf acc ++ [keyB row] := by simp [keysOf]
    rw [e, setK_snoc]
    exact r2
  clear hI hrow
  generalize keyB row = K at *
  have hB9 : Below W.heap.size W W.drew := (Below.refl _ _).drew
  go_enter Tryz.func21, Tryz.ntmps21
  go_wp2_with fail
  go_region_held3 (fun W' => W'.cell? ⟨kb, 0, none⟩ = some (.map (some mb)))
    (first | exact ck | exact ck10 | exact ck11)
    (first
      | (go_at_call 18; ((with_reducible refine (HKY.out _ hB9).mono ?_); rintro r w10 ⟨rfl, hb10⟩; have hB10 := hB9.trans (hb10.mono hB9.size); obtain ⟨w11, hmu, hown11, hg11⟩ := HU.out w10 hB10; have ck10 := cell_later hB10 ck; have ck11 : w11.cell? ⟨kb, 0, none⟩ = some (.map (some mb)) := (by rw [World.cell?_of_block (w := w10) (a := ⟨kb, 0, none⟩) (hg11.block kb (Nat.lt_of_lt_of_le hkb hB10.size) (by simpa using h1))]; exact ck10); have HOWN := Lib.hid hown11; have HG := Lib.hid hg11; clear hown11 hg11 hb10)))
  have hbr : w11.heap[rb]? = W.heap[rb]? := by rw [HG.out.block rb (Nat.lt_of_lt_of_le hrb hB10.size) (by simpa using (Ne.symm h3)), hB10.block rb hrb]
  have cr : w11.cell? ⟨rb, 0, none⟩ = some (.int .i64 (acc.length : Int)) := by rw [World.cell?_of_block (w := W) (a := ⟨rb, 0, none⟩) hbr]; exact HI.out.2.2.2.1
  have fr : w11.frozen? ⟨rb, 0, none⟩ = false := by rw [World.frozen?_of_block (w := W) (a := ⟨rb, 0, none⟩) hbr]; exact HI.out.2.2.2.2
  have hw : IntKind.i64.wrap ((acc.length : Int) + 1) = (acc.length : Int) + 1 := IntWalk.i64_in _ (by omega)
  have HO : Hid (OnlyS (AX kb mb rb) W (w11.setCell ⟨rb, 0, none⟩ (.int .i64 ((acc.length : Int) + 1)))) := by
    have o1 : OnlyS (AX kb mb rb) W w10 := .of_below hB10
    have o2 : OnlyS (AX kb mb rb) w10 w11 := ⟨HG.out.os, HG.out.tape, HG.out.output, HG.out.size, fun k hk hs => HG.out.block k hk (fun e => hs (.inr (.inl (by injection e))))⟩
    exact (o1.trans o2).setCell (p := ⟨rb, 0, none⟩) (.inr (.inr rfl)) _
  have HA : Hid (AI kb mb rb (acc ++ [(s, row)]) (w11.setCell ⟨rb, 0, none⟩ (.int .i64 ((acc.length : Int) + 1)))) := by
    refine ⟨by rw [List.length_append, List.length_singleton]; omega, ?_, ?_, ?_, (World.frozen?_setCell _ _ _ _).trans fr⟩
    · rw [World.cell?_of_block (w := w11) (a := ⟨kb, 0, none⟩) (Below.heap_setCell _ _ _ _ h2)]
      exact ck11
    · rw [List.length_append, List.length_singleton]
      exact map_keptBy HOWN.out (Below.heap_setCell _ _ _ _ h3)
    · rw [List.length_append, List.length_singleton]
      exact World.cell?_setCell_same _ _ _ cr
  clear hmu
  go_wp2_with fail
  go_end0
  exact ⟨rfl, HA.out, HO.out⟩

end Go.Proofs.YtljlaopjimkcmaaGreat
