/- The contracts of may, Next, Enabled. -/
import Derived.Test.YtfhndbibabbnlaaStateRead
namespace Go.Proofs.Ytfhndbibabbnlaa
open Go.RowKit

/-- May an event be done? -/
def St.free (s : St) (e : Ev) : Bool := e.kind != 4 || s.who e.obj == -1

set_option maxRecDepth 100000 in
set_option maxHeartbeats 1000000 in
theorem may_any {s : St} {b : Nat} {w : World} (h : StAt w b s) (e : Ev) (h4 : e.kind = 4 → 0 ≤ e.obj ∧ e.obj < 2) :
    Calls Try.prog 44 #[.pointer (some ⟨b, 0, none⟩), evV e] w fun r w' => r = .returned (.bool (s.free e)) ∧ Below w.heap.size w w' := by
  have hbl := h.lt
  have H := Lib.hid h
  clear h
  obtain ⟨t, k, o, f⟩ := e
  unfold evV
  dsimp only at *
  by_cases hk : k = 4
  · subst hk
    obtain ⟨hx0, hx2⟩ := h4 rfl
    obtain ⟨y, rfl⟩ : ∃ y : Nat, o = y := ⟨o.toNat, by omega⟩
    have hy : y < 2 := by omega
    have c0 := H.out.num (154 + y) (by omega)
    rw [stNum_who] at c0
    have hv : s.m.getD y (-1) = s.who y := rfl
    rw [hv] at c0
    clear hv
    have hfr : s.free ⟨t, 4, y, f⟩ = (s.who y == -1) := by simp [St.free]
    rw [hfr]
    clear hfr h4 hx0 hx2
    generalize s.who y = g at *
    go_enter Try.func44, Try.ntmps44
    go_wp2
    go_quiet (fail)
    go_wp2
    go_ret
    exact ⟨rfl, (below_alloc1 w _).drewN⟩
  · have hq : (k != 4) = true := by simpa using hk
    have hfr : s.free ⟨t, k, o, f⟩ = true := by simp [St.free, hk]
    rw [hfr]
    clear hfr h4 hk
    go_enter Try.func44, Try.ntmps44
    go_wp2
    go_quiet (fail)
    go_wp2
    go_ret
    exact ⟨rfl, (below_alloc1 w _).drewN⟩

theorem evR_none : evR none = .tuple #[.agg #[.int .i64 0, .int .i64 0, .int .i64 0, .bool false], .bool false] := rfl
theorem evR_some (e : Ev) : evR (some e) = .tuple #[.agg #[.int .i64 e.thread, .int .i64 e.kind, .int .i64 e.obj, .bool e.fail], .bool true] := rfl

theorem St.ins_nat {s : St} {t : Int} {i : Ins} (h : s.ins t = some i) : ∃ k : Nat, t = k ∧ k < s.ts.length := by
  have := (St.ins_has h).1
  unfold St.has at this
  exact ⟨t.toNat, by omega, by omega⟩

theorem event_of {F : Nat} {s : St} {b : Nat} {w : World} (h : StAt w b s) (ok : s.Ok F) {t : Nat} {i : Ins} (hi : s.ins t = some i) :
    Calls Try.prog 43 #[.pointer (some ⟨b, 0, none⟩), .int .i64 t, .agg #[.int .i64 i.kind, .int .i64 i.r, .int .i64 i.x, .int .i64 i.n]] w fun r w' => r = .returned (evV (s.ev t i)) ∧ Below w.heap.size w w' := by
  obtain ⟨k, e, hk⟩ := St.ins_nat hi
  obtain ⟨o1, o2, o3, o4, o5, o6⟩ := ok.obj hi
  exact event_any h ok t (by omega) i (fun h => o2 (.inr h)) (fun _ => ⟨o4, o5⟩)

theorem insV_eq (i : Ins) : insV i = .agg #[.int .i64 i.kind, .int .i64 i.r, .int .i64 i.x, .int .i64 i.n] := rfl

set_option maxRecDepth 100000 in
set_option maxHeartbeats 1000000 in
theorem next_any {F : Nat} {s : St} {b : Nat} {w : World} (h : StAt w b s) (ok : s.Ok F) (t : Int) :
    Calls Try.prog 26 #[.pointer (some ⟨b, 0, none⟩), .int .i64 t] w fun r w' => r = .returned (evR (s.next t)) ∧ Below w.heap.size w w' := by
  have H := Lib.hid h
  have OK := Lib.hid ok
  clear h ok
  cases hi : s.ins t with
  | none =>
    have hn : s.next t = none := by unfold St.next; rw [hi]; rfl
    rw [hn, evR_none]
    have HI := Lib.hid hi
    clear hn hi
    go_enter Try.func26, Try.ntmps26
    go_wp2_with fail
    refine (instr_any (H.out.later (below_alloc1 _ _)) OK.out t).mono ?_
    rw [HI.out, insR_none]
    rintro r w1 ⟨rfl, hb1⟩
    have hw1 : Below w.heap.size w w1 := (below_alloc1 w _).trans (hb1.mono (by simp))
    have hz : w.heap.size < w1.heap.size := by have := hb1.size; simp at this; omega
    have hc : ∀ o, w1.cell? ⟨w.heap.size, o, none⟩ = (w.alloc (.cells #[.int .i64 0, .int .i64 0, .int .i64 0, .bool false] 23)).cell? ⟨w.heap.size, o, none⟩ := fun o => hb1.cell (p := ⟨w.heap.size, o, none⟩) (by simp)
    have hf : ∀ o, w1.frozen? ⟨w.heap.size, o, none⟩ = (w.alloc (.cells #[.int .i64 0, .int .i64 0, .int .i64 0, .bool false] 23)).frozen? ⟨w.heap.size, o, none⟩ := fun o => hb1.frozen (p := ⟨w.heap.size, o, none⟩) (by simp)
    clear hb1
    go_wp2
    refine bodyPost_ret (v := .tuple #[.agg #[.int .i64 0, .int .i64 0, .int .i64 0, .bool false], .bool false]) (by simp [results, Try.results26, go_sem, hc, hz]) rfl ⟨rfl, ?_⟩
    exact (below_set4 hw1 (Nat.le_refl _) _ _ _ _).alloc (by simp [World.setCell]; omega) _
  | some i =>
    obtain ⟨k, rfl, hk⟩ := St.ins_nat hi
    have hn : s.next k = some (s.ev k i) := by unfold St.next; rw [hi]; rfl
    rw [hn, evR_some]
    have HI := Lib.hid hi
    clear hn hi
    go_enter Try.func26, Try.ntmps26
    go_wp2_with fail
    refine (instr_any (H.out.later (below_alloc1 _ _)) OK.out k).mono ?_
    rw [HI.out, insR_some]
    rintro r w1 ⟨rfl, hb1⟩
    have hw1 : Below w.heap.size w w1 := (below_alloc1 w _).trans (hb1.mono (by simp))
    have hz : w.heap.size < w1.heap.size := by have := hb1.size; simp at this; omega
    have hc : ∀ o, w1.cell? ⟨w.heap.size, o, none⟩ = (w.alloc (.cells #[.int .i64 0, .int .i64 0, .int .i64 0, .bool false] 23)).cell? ⟨w.heap.size, o, none⟩ := fun o => hb1.cell (p := ⟨w.heap.size, o, none⟩) (by simp)
    have hf : ∀ o, w1.frozen? ⟨w.heap.size, o, none⟩ = (w.alloc (.cells #[.int .i64 0, .int .i64 0, .int .i64 0, .bool false] 23)).frozen? ⟨w.heap.size, o, none⟩ := fun o => hb1.frozen (p := ⟨w.heap.size, o, none⟩) (by simp)
    clear hb1
    go_wp2_with fail
    refine (event_of ((H.out.later hw1).later (below_alloc1 _ _)) OK.out HI.out).mono ?_
    unfold evV
    rintro r w2 ⟨rfl, hb2⟩
    have hw2 : Below w1.heap.size w1 w2 := (below_alloc1 w1 _).trans (hb2.mono (by simp))
    have hz2 : w1.heap.size < w2.heap.size := by have := hb2.size; simp at this; omega
    have hz3 : w.heap.size < w2.heap.size := by omega
    have hc2 : ∀ o, w2.cell? ⟨w.heap.size, o, none⟩ = w1.cell? ⟨w.heap.size, o, none⟩ := fun o => hw2.cell (p := ⟨w.heap.size, o, none⟩) hz
    have hf2 : ∀ o, w2.frozen? ⟨w.heap.size, o, none⟩ = w1.frozen? ⟨w.heap.size, o, none⟩ := fun o => hw2.frozen (p := ⟨w.heap.size, o, none⟩) hz
    clear hb2
    go_wp2
    refine bodyPost_ret (v := .tuple #[.agg #[.int .i64 (s.ev k i).thread, .int .i64 (s.ev k i).kind, .int .i64 (s.ev k i).obj, .bool (s.ev k i).fail], .bool true]) (by simp [results, Try.results26, go_sem, hc, hc2]) rfl ⟨rfl, ?_⟩
    exact below_set4 (hw1.trans (hw2.mono (by omega))) (Nat.le_refl _) _ _ _ _

theorem St.may_eq {F : Nat} {s : St} (ok : s.Ok F) (t : Int) : s.may t = match s.next t with | none => false | some e => s.free e := by
  unfold St.may St.next
  cases hi : s.ins t with
  | none => rfl
  | some i =>
    simp only [Option.map_some]
    obtain ⟨o1, o2, o3, o4, o5, o6⟩ := ok.obj hi
    by_cases h5 : i.kind = 5
    · have ev : s.ev t i = ⟨t, 4, i.x, false⟩ := by unfold St.ev; rw [if_neg (by omega), if_neg (by omega), if_pos h5]
      have hx := o2 (.inl h5)
      have hk : i.x.toNat < s.m.length := by have := ok.ml; omega
      have hmm := ok.mm (s.who i.x) (by unfold St.who; rw [getD_lt _ hk]; exact List.getElem_mem hk)
      rw [ev, Bool.eq_iff_iff]
      simp [St.free, h5]
      omega
    · have : (s.ev t i).kind ≠ 4 := by
        unfold St.ev
        repeat' split
        all_goals (first | omega | (simp; done))
      simp [St.free, h5, this]

theorem ev_obj {F : Nat} {s : St} (ok : s.Ok F) {t : Int} {i : Ins} (hi : s.ins t = some i) (h : (s.ev t i).kind = 4) : 0 ≤ (s.ev t i).obj ∧ (s.ev t i).obj < 2 := by
  obtain ⟨o1, o2, o3, o4, o5, o6⟩ := ok.obj hi
  by_cases h5 : i.kind = 5
  · have ev : s.ev t i = ⟨t, 4, i.x, false⟩ := by unfold St.ev; rw [if_neg (by omega), if_neg (by omega), if_pos h5]
    rw [ev]
    exact o2 (.inl h5)
  · exfalso
    revert h
    unfold St.ev
    repeat' split
    all_goals (first | omega | (simp; done))

theorem next_obj {F : Nat} {s : St} (ok : s.Ok F) {t : Int} {e : Ev} (he : s.next t = some e) (h : e.kind = 4) : 0 ≤ e.obj ∧ e.obj < 2 := by
  unfold St.next at he
  obtain ⟨i, hi, rfl⟩ := Option.map_eq_some_iff.1 he
  exact ev_obj ok hi h

theorem may_of {F : Nat} {s : St} {b : Nat} {w : World} (h : StAt w b s) (ok : s.Ok F) {t : Int} {e : Ev} (he : s.next t = some e) :
    Calls Try.prog 44 #[.pointer (some ⟨b, 0, none⟩), .agg #[.int .i64 e.thread, .int .i64 e.kind, .int .i64 e.obj, .bool e.fail]] w fun r w' => r = .returned (.bool (s.may t)) ∧ Below w.heap.size w w' := by
  have := may_any h e (next_obj ok he)
  rw [St.may_eq ok, he]
  exact this

end Go.Proofs.Ytfhndbibabbnlaa
