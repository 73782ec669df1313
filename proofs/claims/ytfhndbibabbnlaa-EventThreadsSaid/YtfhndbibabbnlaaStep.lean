/- The contract of Step. -/
import Derived.Test.YtfhndbibabbnlaaDo
namespace Go.Proofs.Ytfhndbibabbnlaa
open Go.RowKit

def stepV (x : Int × Ev × St) : Value := .tuple #[evV x.2.1, .int .i64 x.1]
theorem stepV_err (e : Int) (s : St) : stepV (e, ev0, s) = .tuple #[.agg #[.int .i64 0, .int .i64 0, .int .i64 0, .bool false], .int .i64 e] := rfl
theorem stepV_ok (e : Ev) (s : St) : stepV (0, e, s) = .tuple #[.agg #[.int .i64 e.thread, .int .i64 e.kind, .int .i64 e.obj, .bool e.fail], .int .i64 0] := rfl

set_option maxRecDepth 100000 in
set_option maxHeartbeats 2000000 in
theorem step_range {F : Nat} {s : St} {b : Nat} {w : World} (h : StAt w b s) (_ok : s.Ok F) (t : Int) (hb : belowB t s.ts.length = false) :
    Calls Try.prog 24 #[.pointer (some ⟨b, 0, none⟩), .int .i64 t] w fun e w' => e = .returned (stepV (s.step t)) ∧ StAt w' b (s.step t).2.2 ∧ Only b w w' := by
  have hst : s.step t = (2, ev0, s) := by
    unfold St.step
    rw [if_neg (fun e => by unfold St.has at e; simp [belowB] at hb; omega)]
  rw [hst, stepV_err]
  have hbl := h.lt
  have c0 := h.num 0 (by omega)
  rw [stNum_threads] at c0
  have HB := Lib.hid (h.later (below_alloc1 w (.cells #[.int .i64 0, .int .i64 0, .int .i64 0, .bool false] 23)))
  clear hst h
  go_enter Try.func24, Try.ntmps24
  go_wp2_with (go_at_call 41; refine (sbelow_any _ _ _).mono ?_; rintro r w' ⟨rfl, rfl⟩)
  refine bodyPost_ret (v := .tuple #[.agg #[.int .i64 0, .int .i64 0, .int .i64 0, .bool false], .int .i64 2]) (by simp [results, Try.results24, go_sem]) rfl ⟨rfl, ?_, ?_⟩
  · exact HB.out
  · exact only_alloc b w _

set_option maxRecDepth 100000 in
set_option maxHeartbeats 2000000 in
theorem step_none {F : Nat} {s : St} {b : Nat} {w : World} (h : StAt w b s) (ok : s.Ok F) (t : Int) (hb : belowB t s.ts.length = true) (hi : s.ins t = none) :
    Calls Try.prog 24 #[.pointer (some ⟨b, 0, none⟩), .int .i64 t] w fun e w' => e = .returned (stepV (s.step t)) ∧ StAt w' b (s.step t).2.2 ∧ Only b w w' := by
  have hst : s.step t = (6, ev0, s) := by
    unfold St.step
    rw [if_pos (by unfold St.has; simpa [belowB] using hb), hi]
  rw [hst, stepV_err]
  have hbl := h.lt
  have c0 := h.num 0 (by omega)
  rw [stNum_threads] at c0
  have HB := Lib.hid (h.later (below_alloc1 w (.cells #[.int .i64 0, .int .i64 0, .int .i64 0, .bool false] 23)))
  have OK := Lib.hid ok
  have HI := Lib.hid hi
  clear hst h ok hi
  go_enter Try.func24, Try.ntmps24
  go_wp2_with (go_at_call 41; refine (sbelow_any _ _ _).mono ?_; rintro r w' ⟨rfl, rfl⟩)
  refine (instr_any HB.out OK.out t).mono ?_
  rw [HI.out, insR_none]
  rintro r w1 ⟨rfl, hb1⟩
  have hz : w.heap.size < w1.heap.size := by have := hb1.size; simp at this; omega
  have hc : ∀ o, w1.cell? ⟨w.heap.size, o, none⟩ = (w.alloc (.cells #[.int .i64 0, .int .i64 0, .int .i64 0, .bool false] 23)).cell? ⟨w.heap.size, o, none⟩ := fun o => hb1.cell (p := ⟨w.heap.size, o, none⟩) (by simp)
  have hf : ∀ o, w1.frozen? ⟨w.heap.size, o, none⟩ = (w.alloc (.cells #[.int .i64 0, .int .i64 0, .int .i64 0, .bool false] 23)).frozen? ⟨w.heap.size, o, none⟩ := fun o => hb1.frozen (p := ⟨w.heap.size, o, none⟩) (by simp)
  have H1 := Lib.hid (HB.out.later hb1)
  have O1 := Lib.hid ((only_alloc b w (.cells #[.int .i64 0, .int .i64 0, .int .i64 0, .bool false] 23)).trans (.of_below hb1))
  have B1 : Hid (Below w.heap.size w w1) := (below_alloc1 w _).trans (hb1.mono (by simp))
  clear hb1 c0
  go_wp2
  refine bodyPost_ret (v := .tuple #[.agg #[.int .i64 0, .int .i64 0, .int .i64 0, .bool false], .int .i64 6]) (by simp [results, Try.results24, go_sem, hc, hz]) rfl ⟨rfl, ?_, ?_⟩
  · exact (H1.out.other4 (by omega) _ _ _ _).later (below_alloc1 _ _)
  · exact (O1.out.set4 (Nat.le_refl _) _ _ _ _).alloc _

set_option maxRecDepth 100000 in
set_option maxHeartbeats 4000000 in
theorem step_state {F : Nat} {s : St} {b : Nat} {w : World} (h : StAt w b s) (ok : s.Ok F) (t : Nat) (i : Ins) (hi : s.ins t = some i) (hm : s.may t = false) :
    Calls Try.prog 24 #[.pointer (some ⟨b, 0, none⟩), .int .i64 t] w fun e w' => e = .returned (stepV (s.step t)) ∧ StAt w' b (s.step t).2.2 ∧ Only b w w' := by
  obtain ⟨k, hkk, ht⟩ := St.ins_nat hi
  obtain rfl : t = k := by omega
  have hb : belowB t s.ts.length = true := by simp [belowB]; omega
  have hn : s.next t = some (s.ev t i) := by unfold St.next; rw [hi]; rfl
  have hst : s.step t = (9, ev0, s) := by
    unfold St.step
    rw [if_pos (by unfold St.has; omega), hi]
    simp only [hm]
    rfl
  rw [hst, stepV_err]
  clear hst
  have hbl := h.lt
  have c0 := h.num 0 (by omega)
  rw [stNum_threads] at c0
  have HB := Lib.hid (h.later (below_alloc1 w (.cells #[.int .i64 0, .int .i64 0, .int .i64 0, .bool false] 23)))
  have OK := Lib.hid ok
  have HI := Lib.hid hi
  have HM := Lib.hid hm
  obtain ⟨e, he⟩ : ∃ e, e = s.ev t i := ⟨_, rfl⟩
  rw [← he] at hn
  have HE := Lib.hid he
  have HN := Lib.hid hn
  clear h ok hi hkk hm he hn
  go_enter Try.func24, Try.ntmps24
  go_wp2_with (go_at_call 41; refine (sbelow_any _ _ _).mono ?_; rintro r w' ⟨rfl, rfl⟩)
  refine (instr_any HB.out OK.out t).mono ?_
  rw [HI.out, insR_some]
  rintro r w1 ⟨rfl, hb1⟩
  have hz : w.heap.size < w1.heap.size := by have := hb1.size; simp at this; omega
  have hc : ∀ o, w1.cell? ⟨w.heap.size, o, none⟩ = (w.alloc (.cells #[.int .i64 0, .int .i64 0, .int .i64 0, .bool false] 23)).cell? ⟨w.heap.size, o, none⟩ := fun o => hb1.cell (p := ⟨w.heap.size, o, none⟩) (by simp)
  have hf : ∀ o, w1.frozen? ⟨w.heap.size, o, none⟩ = (w.alloc (.cells #[.int .i64 0, .int .i64 0, .int .i64 0, .bool false] 23)).frozen? ⟨w.heap.size, o, none⟩ := fun o => hb1.frozen (p := ⟨w.heap.size, o, none⟩) (by simp)
  have H1 := Lib.hid ((HB.out.later hb1).later (below_alloc1 w1 (.cells #[.int .i64 i.kind, .int .i64 i.r, .int .i64 i.x, .int .i64 i.n] 68)))
  have B1 : Hid (Below w.heap.size w w1) := (below_alloc1 w _).trans (hb1.mono (by simp))
  clear hb1 c0 HB
  go_wp2_with fail
  refine (event_of H1.out OK.out HI.out).mono ?_
  rw [← HE.out, evV]
  rintro r w2 ⟨rfl, hb2⟩
  have hz2 : w1.heap.size < w2.heap.size := by have := hb2.size; simp at this; omega
  have hz3 : w.heap.size < w2.heap.size := by omega
  have B2 : Hid (Below w1.heap.size w1 w2) := (below_alloc1 w1 _).trans (hb2.mono (by simp))
  have hc2 : ∀ o, w2.cell? ⟨w.heap.size, o, none⟩ = w1.cell? ⟨w.heap.size, o, none⟩ := fun o => B2.out.cell (p := ⟨w.heap.size, o, none⟩) hz
  have hf2 : ∀ o, w2.frozen? ⟨w.heap.size, o, none⟩ = w1.frozen? ⟨w.heap.size, o, none⟩ := fun o => B2.out.frozen (p := ⟨w.heap.size, o, none⟩) hz
  have hd2 : ∀ o, w2.cell? ⟨w1.heap.size, o, none⟩ = (w1.alloc (.cells #[.int .i64 i.kind, .int .i64 i.r, .int .i64 i.x, .int .i64 i.n] 68)).cell? ⟨w1.heap.size, o, none⟩ := fun o => hb2.cell (p := ⟨w1.heap.size, o, none⟩) (by simp)
  have H2 := Lib.hid ((H1.out.later hb2).later (below_alloc1 w2 (.cells #[.int .i64 e.thread, .int .i64 e.kind, .int .i64 e.obj, .bool e.fail] 23)))
  clear hb2 H1
  go_wp2_with fail
  refine (may_of H2.out OK.out HN.out).mono ?_
  rw [HM.out]
  rintro r w3 ⟨rfl, hb3⟩
  have hz4 : w2.heap.size < w3.heap.size := by have := hb3.size; simp at this; omega
  have hz5 : w1.heap.size < w3.heap.size := by omega
  have hz6 : w.heap.size < w3.heap.size := by omega
  have B3 : Hid (Below w2.heap.size w2 w3) := (below_alloc1 w2 _).trans (hb3.mono (by simp))
  have hc3 : ∀ o, w3.cell? ⟨w.heap.size, o, none⟩ = w2.cell? ⟨w.heap.size, o, none⟩ := fun o => B3.out.cell (p := ⟨w.heap.size, o, none⟩) hz3
  have hf3 : ∀ o, w3.frozen? ⟨w.heap.size, o, none⟩ = w2.frozen? ⟨w.heap.size, o, none⟩ := fun o => B3.out.frozen (p := ⟨w.heap.size, o, none⟩) hz3
  have hd3 : ∀ o, w3.cell? ⟨w1.heap.size, o, none⟩ = w2.cell? ⟨w1.heap.size, o, none⟩ := fun o => B3.out.cell (p := ⟨w1.heap.size, o, none⟩) hz2
  have he3 : ∀ o, w3.cell? ⟨w2.heap.size, o, none⟩ = (w2.alloc (.cells #[.int .i64 e.thread, .int .i64 e.kind, .int .i64 e.obj, .bool e.fail] 23)).cell? ⟨w2.heap.size, o, none⟩ := fun o => hb3.cell (p := ⟨w2.heap.size, o, none⟩) (by simp)
  have H3 := Lib.hid (H2.out.later hb3)
  have W3 : Hid (Below w.heap.size w w3) := (B1.out.trans (B2.out.mono (by omega))).trans (B3.out.mono (by omega))
  clear hb3 H2
  go_wp2
  refine bodyPost_ret (v := .tuple #[.agg #[.int .i64 0, .int .i64 0, .int .i64 0, .bool false], .int .i64 9]) (by simp [results, Try.results24, go_sem, hc, hc2, hc3]) rfl ⟨rfl, ?_, ?_⟩
  · exact H3.out.other4 (by omega) _ _ _ _
  · exact (Only.of_below W3.out).set4 (Nat.le_refl _) _ _ _ _

set_option maxRecDepth 100000 in
set_option maxHeartbeats 4000000 in
theorem step_done {F : Nat} {s : St} {b : Nat} {w : World} (h : StAt w b s) (ok : s.Ok F) (t : Nat) (i : Ins) (hi : s.ins t = some i) (hm : s.may t = true) :
    Calls Try.prog 24 #[.pointer (some ⟨b, 0, none⟩), .int .i64 t] w fun e w' => e = .returned (stepV (s.step t)) ∧ StAt w' b (s.step t).2.2 ∧ Only b w w' := by
  obtain ⟨k, hkk, ht⟩ := St.ins_nat hi
  obtain rfl : t = k := by omega
  have hb : belowB t s.ts.length = true := by simp [belowB]; omega
  have hn : s.next t = some (s.ev t i) := by unfold St.next; rw [hi]; rfl
  have hst : s.step t = (0, s.ev t i, s.do_ t i) := by
    unfold St.step
    rw [if_pos (by unfold St.has; omega), hi]
    simp only [hm]
    rfl
  rw [hst, stepV_ok]
  clear hst
  dsimp only
  have hbl := h.lt
  have c0 := h.num 0 (by omega)
  rw [stNum_threads] at c0
  have HB := Lib.hid (h.later (below_alloc1 w (.cells #[.int .i64 0, .int .i64 0, .int .i64 0, .bool false] 23)))
  have OK := Lib.hid ok
  have HI := Lib.hid hi
  have HM := Lib.hid hm
  obtain ⟨e, he⟩ : ∃ e, e = s.ev t i := ⟨_, rfl⟩
  rw [← he] at hn ⊢
  have HE := Lib.hid he
  have HN := Lib.hid hn
  clear h ok hi hkk hm he hn
  go_enter Try.func24, Try.ntmps24
  go_wp2_with (go_at_call 41; refine (sbelow_any _ _ _).mono ?_; rintro r w' ⟨rfl, rfl⟩)
  refine (instr_any HB.out OK.out t).mono ?_
  rw [HI.out, insR_some]
  rintro r w1 ⟨rfl, hb1⟩
  have hz : w.heap.size < w1.heap.size := by have := hb1.size; simp at this; omega
  have hc : ∀ o, w1.cell? ⟨w.heap.size, o, none⟩ = (w.alloc (.cells #[.int .i64 0, .int .i64 0, .int .i64 0, .bool false] 23)).cell? ⟨w.heap.size, o, none⟩ := fun o => hb1.cell (p := ⟨w.heap.size, o, none⟩) (by simp)
  have hf : ∀ o, w1.frozen? ⟨w.heap.size, o, none⟩ = (w.alloc (.cells #[.int .i64 0, .int .i64 0, .int .i64 0, .bool false] 23)).frozen? ⟨w.heap.size, o, none⟩ := fun o => hb1.frozen (p := ⟨w.heap.size, o, none⟩) (by simp)
  have H1 := Lib.hid ((HB.out.later hb1).later (below_alloc1 w1 (.cells #[.int .i64 i.kind, .int .i64 i.r, .int .i64 i.x, .int .i64 i.n] 68)))
  have B1 : Hid (Below w.heap.size w w1) := (below_alloc1 w _).trans (hb1.mono (by simp))
  clear hb1 c0 HB
  go_wp2_with fail
  refine (event_of H1.out OK.out HI.out).mono ?_
  rw [← HE.out, evV]
  rintro r w2 ⟨rfl, hb2⟩
  have hz2 : w1.heap.size < w2.heap.size := by have := hb2.size; simp at this; omega
  have hz3 : w.heap.size < w2.heap.size := by omega
  have B2 : Hid (Below w1.heap.size w1 w2) := (below_alloc1 w1 _).trans (hb2.mono (by simp))
  have hc2 : ∀ o, w2.cell? ⟨w.heap.size, o, none⟩ = w1.cell? ⟨w.heap.size, o, none⟩ := fun o => B2.out.cell (p := ⟨w.heap.size, o, none⟩) hz
  have hf2 : ∀ o, w2.frozen? ⟨w.heap.size, o, none⟩ = w1.frozen? ⟨w.heap.size, o, none⟩ := fun o => B2.out.frozen (p := ⟨w.heap.size, o, none⟩) hz
  have hd2 : ∀ o, w2.cell? ⟨w1.heap.size, o, none⟩ = (w1.alloc (.cells #[.int .i64 i.kind, .int .i64 i.r, .int .i64 i.x, .int .i64 i.n] 68)).cell? ⟨w1.heap.size, o, none⟩ := fun o => hb2.cell (p := ⟨w1.heap.size, o, none⟩) (by simp)
  have H2 := Lib.hid ((H1.out.later hb2).later (below_alloc1 w2 (.cells #[.int .i64 e.thread, .int .i64 e.kind, .int .i64 e.obj, .bool e.fail] 23)))
  clear hb2 H1
  go_wp2_with fail
  refine (may_of H2.out OK.out HN.out).mono ?_
  rw [HM.out]
  rintro r w3 ⟨rfl, hb3⟩
  have hz4 : w2.heap.size < w3.heap.size := by have := hb3.size; simp at this; omega
  have hz5 : w1.heap.size < w3.heap.size := by omega
  have hz6 : w.heap.size < w3.heap.size := by omega
  have B3 : Hid (Below w2.heap.size w2 w3) := (below_alloc1 w2 _).trans (hb3.mono (by simp))
  have hc3 : ∀ o, w3.cell? ⟨w.heap.size, o, none⟩ = w2.cell? ⟨w.heap.size, o, none⟩ := fun o => B3.out.cell (p := ⟨w.heap.size, o, none⟩) hz3
  have hf3 : ∀ o, w3.frozen? ⟨w.heap.size, o, none⟩ = w2.frozen? ⟨w.heap.size, o, none⟩ := fun o => B3.out.frozen (p := ⟨w.heap.size, o, none⟩) hz3
  have hd3 : ∀ o, w3.cell? ⟨w1.heap.size, o, none⟩ = w2.cell? ⟨w1.heap.size, o, none⟩ := fun o => B3.out.cell (p := ⟨w1.heap.size, o, none⟩) hz2
  have he3 : ∀ o, w3.cell? ⟨w2.heap.size, o, none⟩ = (w2.alloc (.cells #[.int .i64 e.thread, .int .i64 e.kind, .int .i64 e.obj, .bool e.fail] 23)).cell? ⟨w2.heap.size, o, none⟩ := fun o => hb3.cell (p := ⟨w2.heap.size, o, none⟩) (by simp)
  have H3 := Lib.hid (H2.out.later hb3)
  have W3 : Hid (Below w.heap.size w w3) := (B1.out.trans (B2.out.mono (by omega))).trans (B3.out.mono (by omega))
  clear hb3 H2
  go_wp2_with fail
  refine (do_any H3.out OK.out t i HI.out).mono ?_
  rintro r w4 ⟨rfl, hs4, ho4⟩
  have hz7 : w2.heap.size < w4.heap.size := by have := ho4.size; omega
  have hz8 : w.heap.size < w4.heap.size := by omega
  have cl : ∀ g o, g < w3.heap.size → g ≠ b → w4.cell? ⟨g, o, none⟩ = w3.cell? ⟨g, o, none⟩ := fun g o hg hgb => World.cell?_of_block (w := w3) (ho4.block g hg hgb)
  have fl : ∀ g o, g < w3.heap.size → g ≠ b → w4.frozen? ⟨g, o, none⟩ = w3.frozen? ⟨g, o, none⟩ := fun g o hg hgb => World.frozen?_of_block (w := w3) (ho4.block g hg hgb)
  have hc4 : ∀ o, w4.cell? ⟨w.heap.size, o, none⟩ = w3.cell? ⟨w.heap.size, o, none⟩ := fun o => cl _ o hz6 (by omega)
  have hf4 : ∀ o, w4.frozen? ⟨w.heap.size, o, none⟩ = w3.frozen? ⟨w.heap.size, o, none⟩ := fun o => fl _ o hz6 (by omega)
  have he4 : ∀ o, w4.cell? ⟨w2.heap.size, o, none⟩ = w3.cell? ⟨w2.heap.size, o, none⟩ := fun o => cl _ o hz4 (by omega)
  have HS := Lib.hid hs4
  have HO := Lib.hid ho4
  clear hs4 ho4 cl fl
  go_wp2
  refine bodyPost_ret (v := .tuple #[.agg #[.int .i64 e.thread, .int .i64 e.kind, .int .i64 e.obj, .bool e.fail], .int .i64 0]) (by simp [results, Try.results24, go_sem, hc, hc2, hc3, hc4]) rfl ⟨rfl, ?_, ?_⟩
  · exact HS.out.other4 (by omega) _ _ _ _
  · exact (Only.trans (.of_below W3.out) HO.out).set4 (Nat.le_refl _) _ _ _ _

theorem step_any {F : Nat} {s : St} {b : Nat} {w : World} (h : StAt w b s) (ok : s.Ok F) (t : Int) :
    Calls Try.prog 24 #[.pointer (some ⟨b, 0, none⟩), .int .i64 t] w fun e w' => e = .returned (stepV (s.step t)) ∧ StAt w' b (s.step t).2.2 ∧ Only b w w' := by
  cases hb : belowB t s.ts.length
  · exact step_range h ok t hb
  · cases hi : s.ins t with
    | none => exact step_none h ok t hb hi
    | some i =>
      obtain ⟨k, rfl, _⟩ := St.ins_nat hi
      cases hm : s.may k
      · exact step_state h ok k i hi hm
      · exact step_done h ok k i hi hm

end Go.Proofs.Ytfhndbibabbnlaa
