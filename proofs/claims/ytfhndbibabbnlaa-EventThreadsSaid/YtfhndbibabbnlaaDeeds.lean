/- The contracts of the deeds: load, store, set, add, lock, unlock, jump, assert. -/
import Derived.Test.YtfhndbibabbnlaaStateRead
namespace Go.Proofs.Ytfhndbibabbnlaa
open Go.RowKit

theorem StAt.setReg {w : World} {b : Nat} {s : St} (h : StAt w b s) (t y : Nat) (n : Int) (ht : t < s.ts.length) (h4 : s.ts.length ≤ 4) (hy : y < 2) (hl : (s.th t).r.length = 2) :
    StAt (w.setCell ⟨b, 2 + t * 37 + 35 + y, none⟩ (.int .i64 n)) b (s.put t { s.th t with r := (s.th t).r.set y n }) := by
  rw [Nat.add_assoc]
  exact h.set _ _ n (by omega) (stNum_put s t _ (35 + y) n ht h4 (by omega) (thrNum_reg _ _ y n hy hl))
theorem StAt.setAt {w : World} {b : Nat} {s : St} (h : StAt w b s) (t n : Nat) (ht : t < s.ts.length) (h4 : s.ts.length ≤ 4) :
    StAt (w.setCell ⟨b, 2 + t * 37 + 33, none⟩ (.int .i64 n)) b (s.put t { s.th t with at_ := n }) :=
  h.set _ _ n (by omega) (stNum_put s t _ 33 n ht h4 (by omega) (thrNum_at _ _ n))
theorem StAt.setFuel {w : World} {b : Nat} {s : St} (h : StAt w b s) (t n : Nat) (ht : t < s.ts.length) (h4 : s.ts.length ≤ 4) :
    StAt (w.setCell ⟨b, 2 + t * 37 + 34, none⟩ (.int .i64 n)) b (s.put t { s.th t with fuel := n }) :=
  h.set _ _ n (by omega) (stNum_put s t _ 34 n ht h4 (by omega) (thrNum_fuel _ _ n))
theorem StAt.setVar {w : World} {b : Nat} {s : St} (h : StAt w b s) (x : Nat) (n : Int) (hx : x < 4) (hl : s.v.length = 4) :
    StAt (w.setCell ⟨b, 150 + x, none⟩ (.int .i64 n)) b { s with v := s.v.set x n } := h.set _ _ n (by omega) (stNum_setVar s x n hx hl)
theorem StAt.setWho {w : World} {b : Nat} {s : St} (h : StAt w b s) (x : Nat) (n : Int) (hx : x < 2) (hl : s.m.length = 2) :
    StAt (w.setCell ⟨b, 154 + x, none⟩ (.int .i64 n)) b { s with m := s.m.set x n } := h.set _ _ n (by omega) (stNum_setWho s x n hx hl)

theorem Only.drewN {b : Nat} {w w' : World} (h : Only b w w') {n : Nat} : Only b w (w'.drewN n) := ⟨h.os, h.tape, h.output, h.size, h.block⟩
theorem only_alloc (b : Nat) (w : World) (o : Obj) : Only b w (w.alloc o) := (Only.refl b w).alloc o

set_option maxRecDepth 100000 in
set_option maxHeartbeats 1000000 in
theorem load_any {s : St} {b : Nat} {w : World} (h : StAt w b s) (t : Nat) (ht : t < s.ts.length) (h4 : s.ts.length ≤ 4) (kd n : Int) (r x : Nat) (hr : r < 2) (hx : x < 4) (hl : (s.th t).r.length = 2) :
    Calls Try.prog 50 #[.pointer (some ⟨b, 0, none⟩), .int .i64 t, .agg #[.int .i64 kd, .int .i64 r, .int .i64 x, .int .i64 n]] w fun e w' => e = .returned (.tuple #[]) ∧ StAt w' b (s.put t { s.th t with r := (s.th t).r.set r (s.v.getD x 0) }) ∧ Only b w w' := by
  have hbl := h.lt
  have H := Lib.hid h
  have HB := Lib.hid (h.later (below_alloc1 w (.cells #[.int .i64 kd, .int .i64 r, .int .i64 x, .int .i64 n] 68)))
  have hfz := fun o => HB.out.frozen o
  have hff := fun o => h.frozen o
  clear h
  have c1 := H.out.num (150 + x) (by omega)
  rw [stNum_var _ _ hx] at c1
  generalize hg : s.v.getD x 0 = g at *
  clear hg
  have c0 := H.out.num (2 + t * 37 + (35 + r)) (by omega)
  rw [stNum_thr _ _ _ (by omega) (by omega), thr_reg, ← Nat.add_assoc] at c0
  go_enter Try.func50, Try.ntmps50
  go_wp2
  go_region
  go_wp2
  refine bodyPost_end (results_none rfl _ _ _) rfl ⟨rfl, ?_, ?_⟩
  · exact ((H.out.setReg t r g ht h4 hr hl).later (below_alloc1 _ _)).drew
  · exact (((Only.refl b w).setCell _ _).alloc _).drew

set_option maxRecDepth 100000 in
set_option maxHeartbeats 1000000 in
theorem store_any {s : St} {b : Nat} {w : World} (h : StAt w b s) (t : Nat) (ht : t < s.ts.length) (h4 : s.ts.length ≤ 4) (kd n : Int) (r x : Nat) (hr : r < 2) (hx : x < 4) (hl : s.v.length = 4) :
    Calls Try.prog 51 #[.pointer (some ⟨b, 0, none⟩), .int .i64 t, .agg #[.int .i64 kd, .int .i64 r, .int .i64 x, .int .i64 n]] w fun e w' => e = .returned (.tuple #[]) ∧ StAt w' b ({ s with v := s.v.set x ((s.th t).r.getD r 0) }) ∧ Only b w w' := by
  have hbl := h.lt
  have H := Lib.hid h
  have HB := Lib.hid (h.later (below_alloc1 w (.cells #[.int .i64 kd, .int .i64 r, .int .i64 x, .int .i64 n] 68)))
  have hfz := fun o => HB.out.frozen o
  have hff := fun o => h.frozen o
  clear h
  have c1 := H.out.num (150 + x) (by omega)
  have c0 := H.out.num (2 + t * 37 + (35 + r)) (by omega)
  rw [stNum_thr _ _ _ (by omega) (by omega), thr_reg, ← Nat.add_assoc] at c0
  generalize hg : (s.th t).r.getD r 0 = g at *
  clear hg
  go_enter Try.func51, Try.ntmps51
  go_wp2
  go_region
  go_wp2
  refine bodyPost_end (results_none rfl _ _ _) rfl ⟨rfl, ?_, ?_⟩
  · exact ((H.out.setVar x g hx hl).later (below_alloc1 _ _)).drew
  · exact (((Only.refl b w).setCell _ _).alloc _).drew

set_option maxRecDepth 100000 in
set_option maxHeartbeats 1000000 in
theorem set_any {s : St} {b : Nat} {w : World} (h : StAt w b s) (t : Nat) (ht : t < s.ts.length) (h4 : s.ts.length ≤ 4) (kd n : Int) (r x : Nat) (hr : r < 2) (hl : (s.th t).r.length = 2) :
    Calls Try.prog 52 #[.pointer (some ⟨b, 0, none⟩), .int .i64 t, .agg #[.int .i64 kd, .int .i64 r, .int .i64 x, .int .i64 n]] w fun e w' => e = .returned (.tuple #[]) ∧ StAt w' b (s.put t { s.th t with r := (s.th t).r.set r n }) ∧ Only b w w' := by
  have hbl := h.lt
  have H := Lib.hid h
  have HB := Lib.hid (h.later (below_alloc1 w (.cells #[.int .i64 kd, .int .i64 r, .int .i64 x, .int .i64 n] 68)))
  have hfz := fun o => HB.out.frozen o
  have hff := fun o => h.frozen o
  clear h
  have c0 := H.out.num (2 + t * 37 + (35 + r)) (by omega)
  rw [stNum_thr _ _ _ (by omega) (by omega), thr_reg, ← Nat.add_assoc] at c0
  go_enter Try.func52, Try.ntmps52
  go_wp2
  go_region
  go_wp2
  refine bodyPost_end (results_none rfl _ _ _) rfl ⟨rfl, ?_, ?_⟩
  · exact ((H.out.setReg t r n ht h4 hr hl).later (below_alloc1 _ _)).drew
  · exact (((Only.refl b w).setCell _ _).alloc _).drew

set_option maxRecDepth 100000 in
set_option maxHeartbeats 1000000 in
theorem add_any {s : St} {b : Nat} {w : World} (h : StAt w b s) (t : Nat) (ht : t < s.ts.length) (h4 : s.ts.length ≤ 4) (kd n : Int) (r x : Nat) (hr : r < 2) (hl : (s.th t).r.length = 2) :
    Calls Try.prog 53 #[.pointer (some ⟨b, 0, none⟩), .int .i64 t, .agg #[.int .i64 kd, .int .i64 r, .int .i64 x, .int .i64 n]] w fun e w' => e = .returned (.tuple #[]) ∧ StAt w' b (s.put t { s.th t with r := (s.th t).r.set r (IntKind.i64.wrap ((s.th t).r.getD r 0 + n)) }) ∧ Only b w w' := by
  have hbl := h.lt
  have H := Lib.hid h
  have HB := Lib.hid (h.later (below_alloc1 w (.cells #[.int .i64 kd, .int .i64 r, .int .i64 x, .int .i64 n] 68)))
  have hfz := fun o => HB.out.frozen o
  have hff := fun o => h.frozen o
  clear h
  have c0 := H.out.num (2 + t * 37 + (35 + r)) (by omega)
  rw [stNum_thr _ _ _ (by omega) (by omega), thr_reg, ← Nat.add_assoc] at c0
  generalize hg : (s.th t).r.getD r 0 = g at *
  clear hg
  go_enter Try.func53, Try.ntmps53
  go_wp2
  go_region
  go_wp2
  have e : wrap64 (g + n) = IntKind.i64.wrap (g + n) := by rw [IntKind.wrap_i64]; unfold wrap64; first | rfl | omega
  rw [e]
  refine bodyPost_end (results_none rfl _ _ _) rfl ⟨rfl, ?_, ?_⟩
  · exact ((H.out.setReg t r (IntKind.i64.wrap (g + n)) ht h4 hr hl).later (below_alloc1 _ _)).drew
  · exact (((Only.refl b w).setCell _ _).alloc _).drew

set_option maxRecDepth 100000 in
set_option maxHeartbeats 1000000 in
theorem lock_any {s : St} {b : Nat} {w : World} (h : StAt w b s) (t : Nat) (_ht : t < s.ts.length) (_h4 : s.ts.length ≤ 4) (kd n : Int) (r x : Nat) (hx : x < 2) (hl : s.m.length = 2) :
    Calls Try.prog 54 #[.pointer (some ⟨b, 0, none⟩), .int .i64 t, .agg #[.int .i64 kd, .int .i64 r, .int .i64 x, .int .i64 n]] w fun e w' => e = .returned (.tuple #[]) ∧ StAt w' b ({ s with m := s.m.set x t }) ∧ Only b w w' := by
  have hbl := h.lt
  have H := Lib.hid h
  have HB := Lib.hid (h.later (below_alloc1 w (.cells #[.int .i64 kd, .int .i64 r, .int .i64 x, .int .i64 n] 68)))
  have hfz := fun o => HB.out.frozen o
  have hff := fun o => h.frozen o
  clear h
  have c1 := H.out.num (154 + x) (by omega)
  go_enter Try.func54, Try.ntmps54
  go_wp2
  go_region
  go_wp2
  refine bodyPost_end (results_none rfl _ _ _) rfl ⟨rfl, ?_, ?_⟩
  · exact ((H.out.setWho x t hx hl).later (below_alloc1 _ _)).drew
  · exact (((Only.refl b w).setCell _ _).alloc _).drew

set_option maxRecDepth 100000 in
set_option maxHeartbeats 1000000 in
theorem unlock_any {s : St} {b : Nat} {w : World} (h : StAt w b s) (t : Nat) (_ht : t < s.ts.length) (_h4 : s.ts.length ≤ 4) (kd n : Int) (r x : Nat) (hx : x < 2) (hl : s.m.length = 2) :
    Calls Try.prog 55 #[.pointer (some ⟨b, 0, none⟩), .int .i64 t, .agg #[.int .i64 kd, .int .i64 r, .int .i64 x, .int .i64 n]] w fun e w' => e = .returned (.tuple #[]) ∧ StAt w' b (if s.who x = t then { s with m := s.m.set x (-1) } else s) ∧ Only b w w' := by
  have hbl := h.lt
  have H := Lib.hid h
  have HB := Lib.hid (h.later (below_alloc1 w (.cells #[.int .i64 kd, .int .i64 r, .int .i64 x, .int .i64 n] 68)))
  have hfz := fun o => HB.out.frozen o
  have hff := fun o => h.frozen o
  clear h
  have c1 := H.out.num (154 + x) (by omega)
  rw [stNum_who] at c1
  have hv : s.m.getD x (-1) = s.who x := rfl
  rw [hv] at c1
  clear hv
  by_cases hw : s.who x = t
  · rw [if_pos hw]
    rw [hw] at c1
    clear hw
    go_enter Try.func55, Try.ntmps55
    go_wp2
    go_quiet (fail)
    go_wp2
    go_region
    go_wp2
    refine bodyPost_end (results_none rfl _ _ _) rfl ⟨rfl, ?_, ?_⟩
    · exact StAt.setWho (w := ((w.alloc _).drewN _).drew) HB.out x (-1) hx hl
    · exact ((only_alloc b w _).drewN.drew).setCell _ _
  · rw [if_neg hw]
    have hq : (s.who x == (t : Int)) = false := by simpa using hw
    clear hw
    go_enter Try.func55, Try.ntmps55
    go_wp2
    go_quiet (fail)
    go_wp2
    refine bodyPost_end (results_none rfl _ _ _) rfl ⟨rfl, ?_, ?_⟩
    · exact HB.out
    · exact (only_alloc b w _).drewN

set_option maxRecDepth 100000 in
set_option maxHeartbeats 1000000 in
theorem jump_any {s : St} {b : Nat} {w : World} (h : StAt w b s) (t : Nat) (ht : t < s.ts.length) (h4 : s.ts.length ≤ 4) (kd n : Int) (r x : Nat) (hr : r < 2) :
    Calls Try.prog 56 #[.pointer (some ⟨b, 0, none⟩), .int .i64 t, .agg #[.int .i64 kd, .int .i64 r, .int .i64 x, .int .i64 n]] w fun e w' => e = .returned (.tuple #[]) ∧ StAt w' b (if (s.th t).r.getD r 0 = 0 then s else s.put t { s.th t with at_ := x }) ∧ Only b w w' := by
  have hbl := h.lt
  have H := Lib.hid h
  have HB := Lib.hid (h.later (below_alloc1 w (.cells #[.int .i64 kd, .int .i64 r, .int .i64 x, .int .i64 n] 68)))
  have hfz := fun o => HB.out.frozen o
  have hff := fun o => h.frozen o
  clear h
  have c0 := H.out.num (2 + t * 37 + (35 + r)) (by omega)
  rw [stNum_thr _ _ _ (by omega) (by omega), thr_reg, ← Nat.add_assoc] at c0
  have c1 := H.out.num (2 + t * 37 + 33) (by omega)
  by_cases hw : (s.th t).r.getD r 0 = 0
  · rw [if_pos hw]
    rw [hw] at c0
    clear hw
    go_enter Try.func56, Try.ntmps56
    go_wp2
    go_quiet (fail)
    go_wp2
    refine bodyPost_end (results_none rfl _ _ _) rfl ⟨rfl, ?_, ?_⟩
    · exact HB.out
    · exact (only_alloc b w _).drewN
  · rw [if_neg hw]
    have hq : ((s.th t).r.getD r 0 != 0) = true := by simpa using hw
    generalize (s.th t).r.getD r 0 = g at *
    clear hw
    go_enter Try.func56, Try.ntmps56
    go_wp2
    go_quiet (fail)
    go_wp2
    refine bodyPost_end (results_none rfl _ _ _) rfl ⟨rfl, ?_, ?_⟩
    · exact StAt.setAt (w := (w.alloc _).drewN _) HB.out t x ht h4
    · exact (only_alloc b w _).drewN.setCell _ _

set_option maxRecDepth 100000 in
set_option maxHeartbeats 1000000 in
theorem assert_any {s : St} {b : Nat} {w : World} (h : StAt w b s) (t : Nat) (_ht : t < s.ts.length) (_h4 : s.ts.length ≤ 4) (kd n : Int) (r x : Int) :
    Calls Try.prog 57 #[.pointer (some ⟨b, 0, none⟩), .int .i64 t, .agg #[.int .i64 kd, .int .i64 r, .int .i64 x, .int .i64 n]] w fun e w' => e = .returned (.tuple #[]) ∧ StAt w' b (s) ∧ Only b w w' := by
  have hbl := h.lt
  have H := Lib.hid h
  have HB := Lib.hid (h.later (below_alloc1 w (.cells #[.int .i64 kd, .int .i64 r, .int .i64 x, .int .i64 n] 68)))
  have hfz := fun o => HB.out.frozen o
  have hff := fun o => h.frozen o
  clear h
  go_enter Try.func57, Try.ntmps57
  go_wp2
  refine bodyPost_end (results_none rfl _ _ _) rfl ⟨rfl, ?_, ?_⟩
  · exact HB.out
  · exact only_alloc b w _

end Go.Proofs.Ytfhndbibabbnlaa
