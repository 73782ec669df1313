import Derived.Deep.WholeRow
import Derived.Deep.MidRow
import Derived.Laws.EntriesVeiled
import Derived.Deep.RegionHeld3
import Derived.Test.YtnldkmcijmbhcaaGreatPk01
import Derived.Test.YtnldkmcijmbhcaaGreatPk03

/- The contracts of the deeds: load, store, set, add, lock, unlock, jump, assert. -/
namespace Go.Proofs.YtnldkmcijmbhcaaGreat
open Go.RowKit

theorem StAt.setReg {w : World} {b : Nat} {s : St} (h : StAt w b s) (t y : Nat) (n : Int) (ht : t < s.ts.length) (h4 : s.ts.length ≤ 4) (hy : y < 2) (hl : (s.th t).r.length = 2) :
    StAt (w.setCell ⟨b, 2 + t * 37 + 35 + y, none⟩ (.int .i64 n)) b (s.put t { s.th t with r := (s.th t).r.set y n }) := by
  rw [Nat.add_assoc]
  exact h.set _ _ n (by omega) (stNum_put s t _ (35 + y) n ht h4 (by omega) (thrNum_reg _ _ y n hy hl))
theorem StAt.setAt {w : World} {b : Nat} {s : St} (h : StAt w b s) (t n : Nat) (ht : t < s.ts.length) (h4 : s.ts.length ≤ 4) :
    StAt (w.setCell ⟨b, 2 + t * 37 + 33, none⟩ (.int .i64 n)) b (s.put t { s.th t with at_ := n }) :=
  h.set _ _ n (by omega) (stNum_put s t _ 33 n ht h4 (by omega) (thrNum_at _ _ n))
theorem StAt.setFuel {w : World} {b : Nat} {s : St} (h : StAt w b s) (t n : Nat) (ht : t < s.ts.length) (h4 : s.ts.length ≤ 4) :
    StAt (w.setCell ⟨b, 2 + t * 37 + 34, none⟩ (.int .i64 n)) b (s.put t { s.th t with fuel := n }) :=
  h.set _ _ n (by omega) (stNum_put s t _ 34 n ht h4 (by omega) (thrNum_fuel _ _ n))
theorem StAt.setVar {w : World} {b : Nat} {s : St} (h : StAt w b s) (x : Nat) (n : Int) (hx : x < 4) (hl : s.v.length = 4) :
    StAt (w.setCell ⟨b, 150 + x, none⟩ (.int .i64 n)) b { s with v := s.v.set x n } := h.set _ _ n (by omega) (stNum_setVar s x n hx hl)
theorem StAt.setWho {w : World} {b : Nat} {s : St} (h : StAt w b s) (x : Nat) (n : Int) (hx : x < 2) (hl : s.m.length = 2) :
    StAt (w.setCell ⟨b, 154 + x, none⟩ (.int .i64 n)) b { s with m := s.m.set x n } := h.set _ _ n (by omega) (stNum_setWho s x n hx hl)

theorem Only.drewN {b : Nat} {w w' : World} (h : Only b w w') {n : Nat} : Only b w (w'.drewN n) := ⟨h.os, h.tape, h.output, h.size, h.block⟩
theorem only_alloc (b : Nat) (w : World) (o : Obj) : Only b w (w.alloc o) := (Only.refl b w).alloc o

set_option maxRecDepth 100000 in
set_option maxHeartbeats 1000000 in
theorem load_any {s : St} {b : Nat} {w : World} (h : StAt w b s) (t : Nat) (ht : t < s.ts.length) (h4 : s.ts.length ≤ 4) (kd n : Int) (r x : Nat) (hr : r < 2) (hx : x < 4) (hl : (s.th t).r.length = 2) :
    Calls Tryz.prog 123 #[.pointer (some ⟨b, 0, none⟩), .int .i64 t, .agg #[.int .i64 kd, .int .i64 r, .int .i64 x, .int .i64 n]] w fun e w' => e = .returned (.tuple #[]) ∧ StAt w' b (s.put t { s.th t with r := (s.th t).r.set r (s.v.getD x 0) }) ∧ Only b w w' := by
  have hbl := h.lt
  have H := Lib.hid h
  have HB := Lib.hid (h.later (below_alloc1 w (.cells #[.int .i64 kd, .int .i64 r, .int .i64 x, .int .i64 n] 48)))
  have hfz := fun o => HB.out.frozen o
  have hff := fun o => h.frozen o
  clear h
  have c1 := H.out.num (150 + x) (by omega)
  rw [stNum_var _ _ hx] at c1
  generalize hg : s.v.getD x 0 = g at *
  clear hg
  have c0 := H.out.num (2 + t * 37 + (35 + r)) (by omega)
  rw [stNum_thr _ _ _ (by omega) (by omega), thr_reg, ← Nat.add_assoc] at c0
  go_enter Tryz.func123, Tryz.ntmps123
  go_wp2
  go_region
  go_wp2
  refine bodyPost_end (results_none rfl _ _ _) rfl ⟨rfl, ?_, ?_⟩
  · exact ((H.out.setReg t r g ht h4 hr hl).later (below_alloc1 _ _)).drew
  · exact (((Only.refl b w).setCell _ _).alloc _).drew

set_option maxRecDepth 100000 in
set_option maxHeartbeats 1000000 in
theorem store_any {s : St} {b : Nat} {w : World} (h : StAt w b s) (t : Nat) (ht : t < s.ts.length) (h4 : s.ts.length ≤ 4) (kd n : Int) (r x : Nat) (hr : r < 2) (hx : x < 4) (hl : s.v.length = 4) :
    Calls Tryz.prog 124 #[.pointer (some ⟨b, 0, none⟩), .int .i64 t, .agg #[.int .i64 kd, .int .i64 r, .int .i64 x, .int .i64 n]] w fun e w' => e = .returned (.tuple #[]) ∧ StAt w' b ({ s with v := s.v.set x ((s.th t).r.getD r 0) }) ∧ Only b w w' := by
  have hbl := h.lt
  have H := Lib.hid h
  have HB := Lib.hid (h.later (below_alloc1 w (.cells #[.int .i64 kd, .int .i64 r, .int .i64 x, .int .i64 n] 48)))
  have hfz := fun o => HB.out.frozen o
  have hff := fun o => h.frozen o
  clear h
  have c1 := H.out.num (150 + x) (by omega)
  have c0 := H.out.num (2 + t * 37 + (35 + r)) (by omega)
  rw [stNum_thr _ _ _ (by omega) (by omega), thr_reg, ← Nat.add_assoc] at c0
  generalize hg : (s.th t).r.getD r 0 = g at *
  clear hg
  go_enter Tryz.func124, Tryz.ntmps124
  go_wp2
  go_region
  go_wp2
  refine bodyPost_end (results_none rfl _ _ _) rfl ⟨rfl, ?_, ?_⟩
  · exact ((H.out.setVar x g hx hl).later (below_alloc1 _ _)).drew
  · exact (((Only.refl b w).setCell _ _).alloc _).drew

set_option maxRecDepth 100000 in
set_option maxHeartbeats 1000000 in
theorem set_any {s : St} {b : Nat} {w : World} (h : StAt w b s) (t : Nat) (ht : t < s.ts.length) (h4 : s.ts.length ≤ 4) (kd n : Int) (r x : Nat) (hr : r < 2) (hl : (s.th t).r.length = 2) :
    Calls Tryz.prog 125 #[.pointer (some ⟨b, 0, none⟩), .int .i64 t, .agg #[.int .i64 kd, .int .i64 r, .int .i64 x, .int .i64 n]] w fun e w' => e = .returned (.tuple #[]) ∧ StAt w' b (s.put t { s.th t with r := (s.th t).r.set r n }) ∧ Only b w w' := by
  have hbl := h.lt
  have H := Lib.hid h
  have HB := Lib.hid (h.later (below_alloc1 w (.cells #[.int .i64 kd, .int .i64 r, .int .i64 x, .int .i64 n] 48)))
  have hfz := fun o => HB.out.frozen o
  have hff := fun o => h.frozen o
  clear h
  have c0 := H.out.num (2 + t * 37 + (35 + r)) (by omega)
  rw [stNum_thr _ _ _ (by omega) (by omega), thr_reg, ← Nat.add_assoc] at c0
  go_enter Tryz.func125, Tryz.ntmps125
  go_wp2
  go_region
  go_wp2
  refine bodyPost_end (results_none rfl _ _ _) rfl ⟨rfl, ?_, ?_⟩
  · exact ((H.out.setReg t r n ht h4 hr hl).later (below_alloc1 _ _)).drew
  · exact (((Only.refl b w).setCell _ _).alloc _).drew

set_option maxRecDepth 100000 in
set_option maxHeartbeats 1000000 in
theorem add_any {s : St} {b : Nat} {w : World} (h : StAt w b s) (t : Nat) (ht : t < s.ts.length) (h4 : s.ts.length ≤ 4) (kd n : Int) (r x : Nat) (hr : r < 2) (hl : (s.th t).r.length = 2) :
    Calls Tryz.prog 126 #[.pointer (some ⟨b, 0, none⟩), .int .i64 t, .agg #[.int .i64 kd, .int .i64 r, .int .i64 x, .int .i64 n]] w fun e w' => e = .returned (.tuple #[]) ∧ StAt w' b (s.put t { s.th t with r := (s.th t).r.set r (IntKind.i64.wrap ((s.th t).r.getD r 0 + n)) }) ∧ Only b w w' := by
  have hbl := h.lt
  have H := Lib.hid h
  have HB := Lib.hid (h.later (below_alloc1 w (.cells #[.int .i64 kd, .int .i64 r, .int .i64 x, .int .i64 n] 48)))
  have hfz := fun o => HB.out.frozen o
  have hff := fun o => h.frozen o
  clear h
  have c0 := H.out.num (2 + t * 37 + (35 + r)) (by omega)
  rw [stNum_thr _ _ _ (by omega) (by omega), thr_reg, ← Nat.add_assoc] at c0
  generalize hg : (s.th t).r.getD r 0 = g at *
  clear hg
  go_enter Tryz.func126, Tryz.ntmps126
  go_wp2
  go_region
  go_wp2
  have e : wrap64 (g + n) = IntKind.i64.wrap (g + n) := by rw [IntKind.wrap_i64]; unfold wrap64; first | rfl | omega
  rw [e]
  refine bodyPost_end (results_none rfl _ _ _) rfl ⟨rfl, ?_, ?_⟩
  · exact ((H.out.setReg t r (IntKind.i64.wrap (g + n)) ht h4 hr hl).later (below_alloc1 _ _)).drew
  · exact (((Only.refl b w).setCell _ _).alloc _).drew

set_option maxRecDepth 100000 in
set_option maxHeartbeats 1000000 in
theorem lock_any {s : St} {b : Nat} {w : World} (h : StAt w b s) (t : Nat) (_ht : t < s.ts.length) (_h4 : s.ts.length ≤ 4) (kd n : Int) (r x : Nat) (hx : x < 2) (hl : s.m.length = 2) :
    Calls Tryz.prog 127 #[.pointer (some ⟨b, 0, none⟩), .int .i64 t, .agg #[.int .i64 kd, .int .i64 r, .int .i64 x, .int .i64 n]] w fun e w' => e = .returned (.tuple #[]) ∧ StAt w' b ({ s with m := s.m.set x t }) ∧ Only b w w' := by
  have hbl := h.lt
  have H := Lib.hid h
  have HB := Lib.hid (h.later (below_alloc1 w (.cells #[.int .i64 kd, .int .i64 r, .int .i64 x, .int .i64 n] 48)))
  have hfz := fun o => HB.out.frozen o
  have hff := fun o => h.frozen o
  clear h
  have c1 := H.out.num (154 + x) (by omega)
  go_enter Tryz.func127, Tryz.ntmps127
  go_wp2
  go_region
  go_wp2
  refine bodyPost_end (results_none rfl _ _ _) rfl ⟨rfl, ?_, ?_⟩
  · exact ((H.out.setWho x t hx hl).later (below_alloc1 _ _)).drew
  · exact (((Only.refl b w).setCell _ _).alloc _).drew

set_option maxRecDepth 100000 in
set_option maxHeartbeats 1000000 in
theorem unlock_any {s : St} {b : Nat} {w : World} (h : StAt w b s) (t : Nat) (_ht : t < s.ts.length) (_h4 : s.ts.length ≤ 4) (kd n : Int) (r x : Nat) (hx : x < 2) (hl : s.m.length = 2) :
    Calls Tryz.prog 128 #[.pointer (some ⟨b, 0, none⟩), .int .i64 t, .agg #[.int .i64 kd, .int .i64 r, .int .i64 x, .int .i64 n]] w fun e w' => e = .returned (.tuple #[]) ∧ StAt w' b (if s.who x = t then { s with m := s.m.set x (-1) } else s) ∧ Only b w w' := by
  have hbl := h.lt
  have H := Lib.hid h
  have HB := Lib.hid (h.later (below_alloc1 w (.cells #[.int .i64 kd, .int .i64 r, .int .i64 x, .int .i64 n] 48)))
  have hfz := fun o => HB.out.frozen o
  have hff := fun o => h.frozen o
  clear h
  have c1 := H.out.num (154 + x) (by omega)
  rw [stNum_who] at c1
  have hv : s.m.getD x (-1) = s.who x := rfl
  rw [hv] at c1
  clear hv
  by_cases hw : s.who x = t
  · rw [if_pos hw]
    rw [hw] at c1
    clear hw
    go_enter Tryz.func128, Tryz.ntmps128
    go_wp2
    go_quiet (fail)
    go_wp2
    go_region
    go_wp2
    refine bodyPost_end (results_none rfl _ _ _) rfl ⟨rfl, ?_, ?_⟩
    · exact StAt.setWho (w := ((w.alloc _).drewN _).drew) HB.out x (-1) hx hl
    · exact ((only_alloc b w _).drewN.drew).setCell _ _
  · rw [if_neg hw]
    have hq : (s.who x == (t : Int)) = false := by simpa using hw
    clear hw
    go_enter Tryz.func128, Tryz.ntmps128
    go_wp2
    go_quiet (fail)
    go_wp2
    refine bodyPost_end (results_none rfl _ _ _) rfl ⟨rfl, ?_, ?_⟩
    · exact HB.out
    · exact (only_alloc b w _).drewN

set_option maxRecDepth 100000 in
set_option maxHeartbeats 1000000 in
theorem jump_any {s : St} {b : Nat} {w : World} (h : StAt w b s) (t : Nat) (ht : t < s.ts.length) (h4 : s.ts.length ≤ 4) (kd n : Int) (r x : Nat) (hr : r < 2) :
    Calls Tryz.prog 129 #[.pointer (some ⟨b, 0, none⟩), .int .i64 t, .agg #[.int .i64 kd, .int .i64 r, .int .i64 x, .int .i64 n]] w fun e w' => e = .returned (.tuple #[]) ∧ StAt w' b (if (s.th t).r.getD r 0 = 0 then s else s.put t { s.th t with at_ := x }) ∧ Only b w w' := by
  have hbl := h.lt
  have H := Lib.hid h
  have HB := Lib.hid (h.later (below_alloc1 w (.cells #[.int .i64 kd, .int .i64 r, .int .i64 x, .int .i64 n] 48)))
  have hfz := fun o => HB.out.frozen o
  have hff := fun o => h.frozen o
  clear h
  have c0 := H.out.num (2 + t * 37 + (35 + r)) (by omega)
  rw [stNum_thr _ _ _ (by omega) (by omega), thr_reg, ← Nat.add_assoc] at c0
  have c1 := H.out.num (2 + t * 37 + 33) (by omega)
  by_cases hw : (s.th t).r.getD r 0 = 0
  · rw [if_pos hw]
    rw [hw] at c0
    clear hw
    go_enter Tryz.func129, Tryz.ntmps129
    go_wp2
    go_quiet (fail)
    go_wp2
    refine bodyPost_end (results_none rfl _ _ _) rfl ⟨rfl, ?_, ?_⟩
    · exact HB.out
    · exact (only_alloc b w _).drewN
  · rw [if_neg hw]
    have hq : ((s.th t).r.getD r 0 != 0) = true := by simpa using hw
    generalize (s.th t).r.getD r 0 = g at *
    clear hw
    go_enter Tryz.func129, Tryz.ntmps129
    go_wp2
    go_quiet (fail)
    go_wp2
    refine bodyPost_end (results_none rfl _ _ _) rfl ⟨rfl, ?_, ?_⟩
    · exact StAt.setAt (w := (w.alloc _).drewN _) HB.out t x ht h4
    · exact (only_alloc b w _).drewN.setCell _ _

set_option maxRecDepth 100000 in
set_option maxHeartbeats 1000000 in
theorem assert_any {s : St} {b : Nat} {w : World} (h : StAt w b s) (t : Nat) (_ht : t < s.ts.length) (_h4 : s.ts.length ≤ 4) (kd n : Int) (r x : Int) :
    Calls Tryz.prog 130 #[.pointer (some ⟨b, 0, none⟩), .int .i64 t, .agg #[.int .i64 kd, .int .i64 r, .int .i64 x, .int .i64 n]] w fun e w' => e = .returned (.tuple #[]) ∧ StAt w' b (s) ∧ Only b w w' := by
  have hbl := h.lt
  have H := Lib.hid h
  have HB := Lib.hid (h.later (below_alloc1 w (.cells #[.int .i64 kd, .int .i64 r, .int .i64 x, .int .i64 n] 48)))
  have hfz := fun o => HB.out.frozen o
  have hff := fun o => h.frozen o
  clear h
  go_enter Tryz.func130, Tryz.ntmps130
  go_wp2
  refine bodyPost_end (results_none rfl _ _ _) rfl ⟨rfl, ?_, ?_⟩
  · exact HB.out
  · exact only_alloc b w _

end Go.Proofs.YtnldkmcijmbhcaaGreat

/- The contract of Copy; what a state that is none does. -/
namespace Go.Proofs.YtnldkmcijmbhcaaGreat
open Go.RowKit

theorem zero_stateC : ∃ Z : Array Value, Z = numA (fun _ => 0) ∧ ∀ w, (zeroValue 92).run Tryz.prog w = .ok (.agg Z) w :=
  ⟨_, rfl, (zero_of_info (P := Tryz.prog) (t := 92) (v := .agg (numA fun _ => 0)) (n := 156) (by kernel_rfl)).1⟩

set_option maxRecDepth 100000 in
set_option maxHeartbeats 2000000 in
theorem copy_state {s : St} {b : Nat} {w : World} (h : StAt w b s) :
    Calls Tryz.prog 45 #[.pointer (some ⟨b, 0, none⟩)] w fun r w' => r = .returned (.pointer (some ⟨w.heap.size, 0, none⟩)) ∧ w.alloc (.cells (numA (stNum s)) 92) = w' := by
  obtain ⟨Z, hZ, hzv⟩ := zero_stateC
  have hi : (Tryz.prog.info? 92).map (·.size) = some 156 := by kernel_rfl
  have hX : (numA (stNum s)).size = 156 := numA_size _
  have hX1 := numA_one (stNum s)
  have hZ1 : Z.size = 156 := by rw [hZ, numA_size]
  have hg : w.heap[b]? = some (.cells (numA (stNum s)) 92 (0, 0)) := h
  clear hZ h
  generalize numA (stNum s) = X at *
  have HI : Hid ((Tryz.prog.info? 92).map (·.size) = some X.size) := by rw [hX]; exact hi
  have HG := Lib.hid hg
  have HO : Hid (Z.size = X.size) := by show _ = _; rw [hX, hZ1]
  have H1 := Lib.hid hX1
  clear hi hX hZ1 hg hX1
  go_enter Tryz.func45, Tryz.ntmps45
  go_wp2_with (first
    | (refine wpList_load_row rfl 92 (.tmp 7) rfl b rfl 92 X (0, 0) _ HG.out Tryz.underlying92 rfl HI.out ?_)
    | (refine wpList_store_row rfl 92 (.tmp 3) (.tmp 8) rfl w.heap.size X rfl rfl 92 Z (heap_alloc_last w _) HI.out HO.out H1.out ?_; rw [World.setRow_alloc_new]))
  go_ret
  exact ⟨rfl, rfl⟩

theorem heap_new_st (w : World) (s : St) : StAt (w.alloc (.cells (numA (stNum s)) 92)) w.heap.size s := heap_alloc_new w _

end Go.Proofs.YtnldkmcijmbhcaaGreat

/- The contract of do. -/
namespace Go.Proofs.YtnldkmcijmbhcaaGreat
open Go.RowKit

set_option maxRecDepth 100000 in
set_option maxHeartbeats 1000000 in
theorem deeds_any (w : World) : Calls Tryz.prog 105 #[] w fun r w' => r = .returned (.agg #[.nilFunc, .func (.func 123) #[] #[], .func (.func 124) #[] #[], .func (.func 125) #[] #[], .func (.func 126) #[] #[], .func (.func 127) #[] #[], .func (.func 128) #[] #[], .func (.func 129) #[] #[], .func (.func 130) #[] #[]]) ∧ Below w.heap.size w w' := by
  go_enter Tryz.func105, Tryz.ntmps105
  go_wp2
  refine bodyPost_ret (v := .agg #[.nilFunc, .func (.func 123) #[] #[], .func (.func 124) #[] #[], .func (.func 125) #[] #[], .func (.func 126) #[] #[], .func (.func 127) #[] #[], .func (.func 128) #[] #[], .func (.func 129) #[] #[], .func (.func 130) #[] #[]]) ?_ rfl ⟨rfl, below_alloc1 w _⟩
  simp [results, Tryz.results105, go_sem]

theorem Only.setNew {b g : Nat} {w w1 : World} (h : Only b w w1) (hg : w.heap.size ≤ g) (o : Nat) (v : Value) : Only b w (w1.setCell ⟨g, o, none⟩ v) :=
  ⟨h.os, h.tape, h.output, by simp [World.setCell]; exact h.size, fun k hk hb => (Below.heap_setCell _ _ _ _ (by show k ≠ g; omega)).trans (h.block k hk hb)⟩
theorem Only.set4 {b g : Nat} {w w1 : World} (h : Only b w w1) (hg : w.heap.size ≤ g) (v0 v1 v2 v3 : Value) : Only b w ((((w1.setCell ⟨g, 0, none⟩ v0).setCell ⟨g, 1, none⟩ v1).setCell ⟨g, 2, none⟩ v2).setCell ⟨g, 3, none⟩ v3) :=
  (((h.setNew hg 0 v0).setNew hg 1 v1).setNew hg 2 v2).setNew hg 3 v3
theorem StAt.other {b g : Nat} {w : World} {s : St} (h : StAt w b s) (hg : b ≠ g) (o : Nat) (v : Value) : StAt (w.setCell ⟨g, o, none⟩ v) b s := (Below.heap_setCell _ _ _ _ hg).trans h
theorem StAt.other4 {b g : Nat} {w : World} {s : St} (h : StAt w b s) (hg : b ≠ g) (v0 v1 v2 v3 : Value) : StAt ((((w.setCell ⟨g, 0, none⟩ v0).setCell ⟨g, 1, none⟩ v1).setCell ⟨g, 2, none⟩ v2).setCell ⟨g, 3, none⟩ v3) b s :=
  (((h.other hg 0 v0).other hg 1 v1).other hg 2 v2).other hg 3 v3

theorem St.put_th (s : St) (t : Nat) (y : Thr) (ht : t < s.ts.length) : (s.put t y).th t = y := by
  unfold St.put St.th
  simp only [Int.toNat_natCast]
  rw [getD_set _ _ _ _ _ ht, if_pos rfl]
theorem St.put_put (s : St) (t : Nat) (y z : Thr) : (s.put t y).put t z = s.put t z := by
  simp [St.put]
theorem St.put_len (s : St) (t : Nat) (y : Thr) : (s.put t y).ts.length = s.ts.length := by
  simp [St.put]

/-- The thread behind fuel and place. -/
def St.go (s : St) (t : Nat) : St := s.put t { s.th t with fuel := (s.th t).fuel - 1, at_ := (s.th t).at_ + 1 }
theorem St.go_th (s : St) (t : Nat) (ht : t < s.ts.length) : (s.go t).th t = { s.th t with fuel := (s.th t).fuel - 1, at_ := (s.th t).at_ + 1 } := St.put_th _ _ _ ht
theorem StAt.go {w : World} {b : Nat} {s : St} (h : StAt w b s) (t f a : Nat) (ht : t < s.ts.length) (h4 : s.ts.length ≤ 4) (hf : (s.th t).fuel = f + 1) (ha : (s.th t).at_ = a) :
    StAt ((w.setCell ⟨b, 2 + t * 37 + 34, none⟩ (.int .i64 f)).setCell ⟨b, 2 + t * 37 + 33, none⟩ (.int .i64 ((a + 1 : Nat) : Int))) b (s.go t) := by
  have h1 := h.setFuel t f ht h4
  have h2 := h1.setAt t (a + 1) (by rw [St.put_len]; exact ht) (by rw [St.put_len]; exact h4)
  rw [St.put_th _ _ _ ht, St.put_put] at h2
  unfold St.go
  rw [hf, ha]
  exact h2

theorem thr_go (s : St) (t : Nat) (i : Ins) (_ht : t < s.ts.length) : s.do_ t i = { s.put t (s.thr t i) with
    v := if i.kind = 2 then s.v.set i.x.toNat (s.reg t i) else s.v
    m := if i.kind = 5 then s.m.set i.x.toNat t else if i.kind = 6 ∧ s.who i.x = t then s.m.set i.x.toNat (-1) else s.m } := rfl

theorem go_load (s : St) (t r x : Nat) (n : Int) (ht : t < s.ts.length) : (s.go t).put t { (s.go t).th t with r := ((s.go t).th t).r.set r ((s.go t).v.getD x 0) } = s.do_ t ⟨1, r, x, n⟩ := by
  rw [St.go_th s t ht]; unfold St.go; rw [St.put_put, thr_go s t _ ht]; rfl
theorem go_store (s : St) (t r x : Nat) (n : Int) (ht : t < s.ts.length) : { s.go t with v := (s.go t).v.set x (((s.go t).th t).r.getD r 0) } = s.do_ t ⟨2, r, x, n⟩ := by
  rw [St.go_th s t ht, thr_go s t _ ht]; rfl
theorem go_set (s : St) (t r x : Nat) (n : Int) (ht : t < s.ts.length) : (s.go t).put t { (s.go t).th t with r := ((s.go t).th t).r.set r n } = s.do_ t ⟨3, r, x, n⟩ := by
  rw [St.go_th s t ht]; unfold St.go; rw [St.put_put, thr_go s t _ ht]; rfl
theorem go_add (s : St) (t r x : Nat) (n : Int) (ht : t < s.ts.length) : (s.go t).put t { (s.go t).th t with r := ((s.go t).th t).r.set r (IntKind.i64.wrap (((s.go t).th t).r.getD r 0 + n)) } = s.do_ t ⟨4, r, x, n⟩ := by
  rw [St.go_th s t ht]; unfold St.go; rw [St.put_put, thr_go s t _ ht]; rfl
theorem go_lock (s : St) (t r x : Nat) (n : Int) (ht : t < s.ts.length) : { s.go t with m := (s.go t).m.set x t } = s.do_ t ⟨5, r, x, n⟩ := by
  rw [thr_go s t _ ht]; rfl
theorem go_unlock (s : St) (t r x : Nat) (n : Int) (ht : t < s.ts.length) : (if (s.go t).who x = t then { s.go t with m := (s.go t).m.set x (-1) } else s.go t) = s.do_ t ⟨6, r, x, n⟩ := by
  have e : (s.go t).who x = s.who x := rfl
  rw [thr_go s t _ ht, e]
  dsimp only
  by_cases h : s.who x = t
  · rw [if_pos h]; simp only [h, and_self, if_true, Int.toNat_natCast]; rfl
  · rw [if_neg h]; simp only [h, and_false, if_false]; rfl
theorem go_jump (s : St) (t r x : Nat) (n : Int) (ht : t < s.ts.length) : (if ((s.go t).th t).r.getD r 0 = 0 then s.go t else (s.go t).put t { (s.go t).th t with at_ := x }) = s.do_ t ⟨7, r, x, n⟩ := by
  rw [St.go_th s t ht, thr_go s t _ ht]
  unfold St.go
  rw [St.put_put]
  by_cases h : (s.th t).r.getD r 0 = 0
  · have h' : s.reg t ⟨7, r, x, n⟩ = 0 := h
    dsimp only
    rw [if_pos h]
    unfold St.thr
    simp only [h', ne_eq, not_true, and_false, if_false]
    rfl
  · have h' : ¬ s.reg t ⟨7, r, x, n⟩ = 0 := h
    dsimp only
    rw [if_neg h]
    unfold St.thr
    simp only [h', ne_eq, not_false_eq_true, and_self, if_true, Int.toNat_natCast]
    rfl
theorem go_assert (s : St) (t r x : Nat) (n : Int) (ht : t < s.ts.length) : s.go t = s.do_ t ⟨8, r, x, n⟩ := by
  rw [thr_go s t _ ht]; rfl

end Go.Proofs.YtnldkmcijmbhcaaGreat

/- The contract of do. -/
namespace Go.Proofs.YtnldkmcijmbhcaaGreat
open Go.RowKit

set_option maxRecDepth 100000 in
set_option maxHeartbeats 4000000 in
theorem do_any {F : Nat} {s : St} {b : Nat} {w : World} (h : StAt w b s) (ok : s.Ok F) (t : Nat) (i : Ins) (hi : s.ins t = some i) :
    Calls Tryz.prog 75 #[.pointer (some ⟨b, 0, none⟩), .int .i64 t, .agg #[.int .i64 i.kind, .int .i64 i.r, .int .i64 i.x, .int .i64 i.n]] w fun e w' => e = .returned (.tuple #[]) ∧ StAt w' b (s.do_ t i) ∧ Only b w w' := by
  obtain ⟨o1, o2, o3, o4, o5, o6⟩ := ok.obj hi
  obtain ⟨_, hf, _⟩ := St.ins_has hi
  have hk : i.kind = 1 ∨ i.kind = 2 ∨ i.kind = 3 ∨ i.kind = 4 ∨ i.kind = 5 ∨ i.kind = 6 ∨ i.kind = 7 ∨ i.kind = 8 := by
    have := (ok.ins_right hi).1
    unfold rightIns at this
    repeat' split at this
    all_goals first | omega | (cases this)
  have hx0 : 0 ≤ i.x := by
    have := (ok.ins_right hi).1
    unfold rightIns at this
    repeat' split at this
    all_goals first | (simp only [decide_eq_true_eq] at this; omega) | (cases this)
  obtain ⟨k, hkk, ht⟩ := St.ins_nat hi
  obtain rfl : t = k := by omega
  have h4 := ok.len4
  have hbl := h.lt
  have hrl : (s.th t).r.length = 2 := (ok.thr _ (St.th_mem ht)).1
  have hvl := ok.vl
  have hml := ok.ml
  obtain ⟨kd, r, x, n⟩ := i
  dsimp only at *
  obtain ⟨r, rfl⟩ : ∃ y : Nat, r = y := ⟨r.toNat, by omega⟩
  obtain ⟨x, rfl⟩ : ∃ y : Nat, x = y := ⟨x.toNat, by omega⟩
  obtain ⟨f, hf⟩ : ∃ f, (s.th t).fuel = f + 1 := ⟨(s.th t).fuel - 1, by simp at hf; omega⟩
  have c0 := h.num (2 + t * 37 + 34) (by omega)
  rw [stNum_thr _ _ _ (by omega) (by omega), thr_fuel, hf, Int.natCast_add] at c0
  have c1 := h.num (2 + t * 37 + 33) (by omega)
  rw [stNum_thr _ _ _ (by omega) (by omega), thr_at] at c1
  have hf8 : f ≤ 1000 := by have := (ok.thr _ (St.th_mem ht)).2.2; have := ok.f8; omega
  have ha8 : (s.th t).at_ ≤ 8 := by have := ok.place t ht; have := ok.code8 t ht; omega
  have HG := Lib.hid (h.go t f (s.th t).at_ ht h4 hf rfl)
  have hff := fun o => h.frozen o
  generalize (s.th t).at_ = a at *
  have H := Lib.hid h
  have OK := Lib.hid ok
  have HK := Lib.hid hk
  have HT := Lib.hid (And.intro hrl (And.intro hvl (And.intro hml (And.intro o1 (And.intro o2 o3)))))
  clear h ok hk hf hi hkk hrl hvl hml o1 o2 o3 o6
  go_enter Tryz.func75, Tryz.ntmps75
  go_wp2
  have HW : Hid (StAt (((w.setCell ⟨b, 2 + t * 37 + 34, none⟩ (.int .i64 f)).setCell ⟨b, 2 + t * 37 + 33, none⟩ (.int .i64 (a + 1))).alloc (.cells #[.int .i64 kd, .int .i64 r, .int .i64 x, .int .i64 n] 48)) b (s.go t)) := HG.out.later (below_alloc1 _ _)
  have HO : Hid (Only b w (((w.setCell ⟨b, 2 + t * 37 + 34, none⟩ (.int .i64 f)).setCell ⟨b, 2 + t * 37 + 33, none⟩ (.int .i64 (a + 1))).alloc (.cells #[.int .i64 kd, .int .i64 r, .int .i64 x, .int .i64 n] 48))) := (((Only.refl b w).setCell _ _).setCell _ _).alloc _
  have HZ : Hid (w.heap.size < (((w.setCell ⟨b, 2 + t * 37 + 34, none⟩ (.int .i64 f)).setCell ⟨b, 2 + t * 37 + 33, none⟩ (.int .i64 (a + 1))).alloc (.cells #[.int .i64 kd, .int .i64 r, .int .i64 x, .int .i64 n] 48)).heap.size) := by show _ < _; simp [World.setCell]
  have HC : Hid ((((w.setCell ⟨b, 2 + t * 37 + 34, none⟩ (.int .i64 f)).setCell ⟨b, 2 + t * 37 + 33, none⟩ (.int .i64 (a + 1))).alloc (.cells #[.int .i64 kd, .int .i64 r, .int .i64 x, .int .i64 n] 48)).heap[w.heap.size]? = some (.cells #[.int .i64 kd, .int .i64 r, .int .i64 x, .int .i64 n] 48 (0, 0))) := by
    show _ = _
    have := heap_alloc_new ((w.setCell ⟨b, 2 + t * 37 + 34, none⟩ (.int .i64 f)).setCell ⟨b, 2 + t * 37 + 33, none⟩ (.int .i64 (a + 1))) (.cells #[.int .i64 kd, .int .i64 r, .int .i64 x, .int .i64 n] 48)
    simpa [World.setCell] using this
  clear c0 c1 hff HG H
  generalize ((w.setCell ⟨b, 2 + t * 37 + 34, none⟩ (.int .i64 f)).setCell ⟨b, 2 + t * 37 + 33, none⟩ (.int .i64 (a + 1))).alloc (.cells #[.int .i64 kd, .int .i64 r, .int .i64 x, .int .i64 n] 48) = W at *
  generalize w.heap.size = gw at *
  have hz := HZ.out
  have HQ : Hid (∀ w', Below W.heap.size W w' → w'.cell? ⟨gw, 0, none⟩ = some (.int .i64 kd) ∧ Below W.heap.size W w') := fun w' h => ⟨by rw [h.cell (p := ⟨gw, 0, none⟩) hz]; simp [World.cell?, HC.out], h⟩
  have HQ2 : Hid (∀ w', Below W.heap.size W w' → w'.cell? ⟨gw, 0, none⟩ = some (.int .i64 kd) ∧ w'.cell? ⟨gw, 1, none⟩ = some (.int .i64 r) ∧ w'.cell? ⟨gw, 2, none⟩ = some (.int .i64 x) ∧ w'.cell? ⟨gw, 3, none⟩ = some (.int .i64 n)) := fun w' h => by
    refine ⟨?_, ?_, ?_, ?_⟩
    · rw [h.cell (p := ⟨gw, 0, none⟩) hz]; simp [World.cell?, HC.out]
    · rw [h.cell (p := ⟨gw, 1, none⟩) hz]; simp [World.cell?, HC.out]
    · rw [h.cell (p := ⟨gw, 2, none⟩) hz]; simp [World.cell?, HC.out]
    · rw [h.cell (p := ⟨gw, 3, none⟩) hz]; simp [World.cell?, HC.out]
  have hB9 : Below W.heap.size W W.drew := (Below.refl _ _).drew
  clear HZ HC
  rcases HK.out with rfl | rfl | rfl | rfl | rfl | rfl | rfl | rfl
  · have hix : ∀ w', (Instr.index 170 (.agg #[.nilFunc, .func (.func 123) #[] #[], .func (.func 124) #[] #[], .func (.func 125) #[] #[], .func (.func 126) #[] #[], .func (.func 127) #[] #[], .func (.func 128) #[] #[], .func (.func 129) #[] #[], .func (.func 130) #[] #[]]) (.int .i64 1)).run Tryz.prog w' = .ok (.func (.func 123) #[] #[]) w' := fun w' => run_index_one w' 1 Tryz.underlying170 Tryz.underlying169 rfl (by kernel_rfl) (by omega) rfl
    go_region_held3 (fun w' => w'.cell? ⟨gw, 0, none⟩ = some (.int .i64 1) ∧ Below W.heap.size W w') (first | exact HQ.out _ hB9 | exact HQ.out _ hB10)
      (first | (go_at_call 105; refine (deeds_any _).mono ?_; rintro r1 w10 ⟨rfl, hb10⟩; have hB10 := hB9.trans (hb10.mono hB9.size)))
    obtain ⟨q0, q1, q2, q3⟩ := HQ2.out _ hB10
    go_wp2_with fail
    obtain ⟨hrl, hvl, hml, o1, o2, o3⟩ := HT.out
    refine (load_any (HW.out.later hB10) t (by rw [St.go, St.put_len]; exact ht) (by rw [St.go, St.put_len]; exact h4) _ _ r x (by omega) (by have := o1 (by simp); omega) (by rw [St.go_th _ _ ht]; exact hrl)).mono ?_
    rintro r1 w11 ⟨rfl, hs, ho⟩
    clear hrl hvl hml o1 o2 o3
    rw [go_load s t r x n ht] at hs
    go_wp2
    exact bodyPost_end (results_none rfl _ _ _) rfl ⟨rfl, hs, (HO.out.trans (.of_below hB10)).trans ho⟩
  · have hix : ∀ w', (Instr.index 170 (.agg #[.nilFunc, .func (.func 123) #[] #[], .func (.func 124) #[] #[], .func (.func 125) #[] #[], .func (.func 126) #[] #[], .func (.func 127) #[] #[], .func (.func 128) #[] #[], .func (.func 129) #[] #[], .func (.func 130) #[] #[]]) (.int .i64 2)).run Tryz.prog w' = .ok (.func (.func 124) #[] #[]) w' := fun w' => run_index_one w' 2 Tryz.underlying170 Tryz.underlying169 rfl (by kernel_rfl) (by omega) rfl
    go_region_held3 (fun w' => w'.cell? ⟨gw, 0, none⟩ = some (.int .i64 2) ∧ Below W.heap.size W w') (first | exact HQ.out _ hB9 | exact HQ.out _ hB10)
      (first | (go_at_call 105; refine (deeds_any _).mono ?_; rintro r1 w10 ⟨rfl, hb10⟩; have hB10 := hB9.trans (hb10.mono hB9.size)))
    obtain ⟨q0, q1, q2, q3⟩ := HQ2.out _ hB10
    go_wp2_with fail
    obtain ⟨hrl, hvl, hml, o1, o2, o3⟩ := HT.out
    refine (store_any (HW.out.later hB10) t (by rw [St.go, St.put_len]; exact ht) (by rw [St.go, St.put_len]; exact h4) _ _ r x (by omega) (by have := o1 (by simp); omega) hvl).mono ?_
    rintro r1 w11 ⟨rfl, hs, ho⟩
    clear hrl hvl hml o1 o2 o3
    rw [go_store s t r x n ht] at hs
    go_wp2
    exact bodyPost_end (results_none rfl _ _ _) rfl ⟨rfl, hs, (HO.out.trans (.of_below hB10)).trans ho⟩
  · have hix : ∀ w', (Instr.index 170 (.agg #[.nilFunc, .func (.func 123) #[] #[], .func (.func 124) #[] #[], .func (.func 125) #[] #[], .func (.func 126) #[] #[], .func (.func 127) #[] #[], .func (.func 128) #[] #[], .func (.func 129) #[] #[], .func (.func 130) #[] #[]]) (.int .i64 3)).run Tryz.prog w' = .ok (.func (.func 125) #[] #[]) w' := fun w' => run_index_one w' 3 Tryz.underlying170 Tryz.underlying169 rfl (by kernel_rfl) (by omega) rfl
    go_region_held3 (fun w' => w'.cell? ⟨gw, 0, none⟩ = some (.int .i64 3) ∧ Below W.heap.size W w') (first | exact HQ.out _ hB9 | exact HQ.out _ hB10)
      (first | (go_at_call 105; refine (deeds_any _).mono ?_; rintro r1 w10 ⟨rfl, hb10⟩; have hB10 := hB9.trans (hb10.mono hB9.size)))
    obtain ⟨q0, q1, q2, q3⟩ := HQ2.out _ hB10
    go_wp2_with fail
    obtain ⟨hrl, hvl, hml, o1, o2, o3⟩ := HT.out
    refine (set_any (HW.out.later hB10) t (by rw [St.go, St.put_len]; exact ht) (by rw [St.go, St.put_len]; exact h4) _ _ r x (by omega) (by rw [St.go_th _ _ ht]; exact hrl)).mono ?_
    rintro r1 w11 ⟨rfl, hs, ho⟩
    clear hrl hvl hml o1 o2 o3
    rw [go_set s t r x n ht] at hs
    go_wp2
    exact bodyPost_end (results_none rfl _ _ _) rfl ⟨rfl, hs, (HO.out.trans (.of_below hB10)).trans ho⟩
  · have hix : ∀ w', (Instr.index 170 (.agg #[.nilFunc, .func (.func 123) #[] #[], .func (.func 124) #[] #[], .func (.func 125) #[] #[], .func (.func 126) #[] #[], .func (.func 127) #[] #[], .func (.func 128) #[] #[], .func (.func 129) #[] #[], .func (.func 130) #[] #[]]) (.int .i64 4)).run Tryz.prog w' = .ok (.func (.func 126) #[] #[]) w' := fun w' => run_index_one w' 4 Tryz.underlying170 Tryz.underlying169 rfl (by kernel_rfl) (by omega) rfl
    go_region_held3 (fun w' => w'.cell? ⟨gw, 0, none⟩ = some (.int .i64 4) ∧ Below W.heap.size W w') (first | exact HQ.out _ hB9 | exact HQ.out _ hB10)
      (first | (go_at_call 105; refine (deeds_any _).mono ?_; rintro r1 w10 ⟨rfl, hb10⟩; have hB10 := hB9.trans (hb10.mono hB9.size)))
    obtain ⟨q0, q1, q2, q3⟩ := HQ2.out _ hB10
    go_wp2_with fail
    obtain ⟨hrl, hvl, hml, o1, o2, o3⟩ := HT.out
    refine (add_any (HW.out.later hB10) t (by rw [St.go, St.put_len]; exact ht) (by rw [St.go, St.put_len]; exact h4) _ _ r x (by omega) (by rw [St.go_th _ _ ht]; exact hrl)).mono ?_
    rintro r1 w11 ⟨rfl, hs, ho⟩
    clear hrl hvl hml o1 o2 o3
    rw [go_add s t r x n ht] at hs
    go_wp2
    exact bodyPost_end (results_none rfl _ _ _) rfl ⟨rfl, hs, (HO.out.trans (.of_below hB10)).trans ho⟩
  · have hix : ∀ w', (Instr.index 170 (.agg #[.nilFunc, .func (.func 123) #[] #[], .func (.func 124) #[] #[], .func (.func 125) #[] #[], .func (.func 126) #[] #[], .func (.func 127) #[] #[], .func (.func 128) #[] #[], .func (.func 129) #[] #[], .func (.func 130) #[] #[]]) (.int .i64 5)).run Tryz.prog w' = .ok (.func (.func 127) #[] #[]) w' := fun w' => run_index_one w' 5 Tryz.underlying170 Tryz.underlying169 rfl (by kernel_rfl) (by omega) rfl
    go_region_held3 (fun w' => w'.cell? ⟨gw, 0, none⟩ = some (.int .i64 5) ∧ Below W.heap.size W w') (first | exact HQ.out _ hB9 | exact HQ.out _ hB10)
      (first | (go_at_call 105; refine (deeds_any _).mono ?_; rintro r1 w10 ⟨rfl, hb10⟩; have hB10 := hB9.trans (hb10.mono hB9.size)))
    obtain ⟨q0, q1, q2, q3⟩ := HQ2.out _ hB10
    go_wp2_with fail
    obtain ⟨hrl, hvl, hml, o1, o2, o3⟩ := HT.out
    refine (lock_any (HW.out.later hB10) t (by rw [St.go, St.put_len]; exact ht) (by rw [St.go, St.put_len]; exact h4) _ _ r x (by have := o2 (by simp); omega) hml).mono ?_
    rintro r1 w11 ⟨rfl, hs, ho⟩
    clear hrl hvl hml o1 o2 o3
    rw [go_lock s t r x n ht] at hs
    go_wp2
    exact bodyPost_end (results_none rfl _ _ _) rfl ⟨rfl, hs, (HO.out.trans (.of_below hB10)).trans ho⟩
  · have hix : ∀ w', (Instr.index 170 (.agg #[.nilFunc, .func (.func 123) #[] #[], .func (.func 124) #[] #[], .func (.func 125) #[] #[], .func (.func 126) #[] #[], .func (.func 127) #[] #[], .func (.func 128) #[] #[], .func (.func 129) #[] #[], .func (.func 130) #[] #[]]) (.int .i64 6)).run Tryz.prog w' = .ok (.func (.func 128) #[] #[]) w' := fun w' => run_index_one w' 6 Tryz.underlying170 Tryz.underlying169 rfl (by kernel_rfl) (by omega) rfl
    go_region_held3 (fun w' => w'.cell? ⟨gw, 0, none⟩ = some (.int .i64 6) ∧ Below W.heap.size W w') (first | exact HQ.out _ hB9 | exact HQ.out _ hB10)
      (first | (go_at_call 105; refine (deeds_any _).mono ?_; rintro r1 w10 ⟨rfl, hb10⟩; have hB10 := hB9.trans (hb10.mono hB9.size)))
    obtain ⟨q0, q1, q2, q3⟩ := HQ2.out _ hB10
    go_wp2_with fail
    obtain ⟨hrl, hvl, hml, o1, o2, o3⟩ := HT.out
    refine (unlock_any (HW.out.later hB10) t (by rw [St.go, St.put_len]; exact ht) (by rw [St.go, St.put_len]; exact h4) _ _ r x (by have := o2 (by simp); omega) hml).mono ?_
    rintro r1 w11 ⟨rfl, hs, ho⟩
    clear hrl hvl hml o1 o2 o3
    rw [go_unlock s t r x n ht] at hs
    go_wp2
    exact bodyPost_end (results_none rfl _ _ _) rfl ⟨rfl, hs, (HO.out.trans (.of_below hB10)).trans ho⟩
  · have hix : ∀ w', (Instr.index 170 (.agg #[.nilFunc, .func (.func 123) #[] #[], .func (.func 124) #[] #[], .func (.func 125) #[] #[], .func (.func 126) #[] #[], .func (.func 127) #[] #[], .func (.func 128) #[] #[], .func (.func 129) #[] #[], .func (.func 130) #[] #[]]) (.int .i64 7)).run Tryz.prog w' = .ok (.func (.func 129) #[] #[]) w' := fun w' => run_index_one w' 7 Tryz.underlying170 Tryz.underlying169 rfl (by kernel_rfl) (by omega) rfl
    go_region_held3 (fun w' => w'.cell? ⟨gw, 0, none⟩ = some (.int .i64 7) ∧ Below W.heap.size W w') (first | exact HQ.out _ hB9 | exact HQ.out _ hB10)
      (first | (go_at_call 105; refine (deeds_any _).mono ?_; rintro r1 w10 ⟨rfl, hb10⟩; have hB10 := hB9.trans (hb10.mono hB9.size)))
    obtain ⟨q0, q1, q2, q3⟩ := HQ2.out _ hB10
    go_wp2_with fail
    obtain ⟨hrl, hvl, hml, o1, o2, o3⟩ := HT.out
    refine (jump_any (HW.out.later hB10) t (by rw [St.go, St.put_len]; exact ht) (by rw [St.go, St.put_len]; exact h4) _ _ r x (by omega)).mono ?_
    rintro r1 w11 ⟨rfl, hs, ho⟩
    clear hrl hvl hml o1 o2 o3
    rw [go_jump s t r x n ht] at hs
    go_wp2
    exact bodyPost_end (results_none rfl _ _ _) rfl ⟨rfl, hs, (HO.out.trans (.of_below hB10)).trans ho⟩
  · have hix : ∀ w', (Instr.index 170 (.agg #[.nilFunc, .func (.func 123) #[] #[], .func (.func 124) #[] #[], .func (.func 125) #[] #[], .func (.func 126) #[] #[], .func (.func 127) #[] #[], .func (.func 128) #[] #[], .func (.func 129) #[] #[], .func (.func 130) #[] #[]]) (.int .i64 8)).run Tryz.prog w' = .ok (.func (.func 130) #[] #[]) w' := fun w' => run_index_one w' 8 Tryz.underlying170 Tryz.underlying169 rfl (by kernel_rfl) (by omega) rfl
    go_region_held3 (fun w' => w'.cell? ⟨gw, 0, none⟩ = some (.int .i64 8) ∧ Below W.heap.size W w') (first | exact HQ.out _ hB9 | exact HQ.out _ hB10)
      (first | (go_at_call 105; refine (deeds_any _).mono ?_; rintro r1 w10 ⟨rfl, hb10⟩; have hB10 := hB9.trans (hb10.mono hB9.size)))
    obtain ⟨q0, q1, q2, q3⟩ := HQ2.out _ hB10
    go_wp2_with fail
    obtain ⟨hrl, hvl, hml, o1, o2, o3⟩ := HT.out
    refine (assert_any (HW.out.later hB10) t (by rw [St.go, St.put_len]; exact ht) (by rw [St.go, St.put_len]; exact h4) _ _ r x).mono ?_
    rintro r1 w11 ⟨rfl, hs, ho⟩
    clear hrl hvl hml o1 o2 o3
    rw [go_assert s t r x n ht] at hs
    go_wp2
    exact bodyPost_end (results_none rfl _ _ _) rfl ⟨rfl, hs, (HO.out.trans (.of_below hB10)).trans ho⟩

end Go.Proofs.YtnldkmcijmbhcaaGreat

/- The contract of Step. -/
namespace Go.Proofs.YtnldkmcijmbhcaaGreat
open Go.RowKit

def stepV (x : Int × Ev × St) : Value := .tuple #[evV x.2.1, .int .i64 x.1]
theorem stepV_err (e : Int) (s : St) : stepV (e, ev0, s) = .tuple #[.agg #[.int .i64 0, .int .i64 0, .int .i64 0, .bool false], .int .i64 e] := rfl
theorem stepV_ok (e : Ev) (s : St) : stepV (0, e, s) = .tuple #[.agg #[.int .i64 e.thread, .int .i64 e.kind, .int .i64 e.obj, .bool e.fail], .int .i64 0] := rfl

set_option maxRecDepth 100000 in
set_option maxHeartbeats 2000000 in
theorem step_range {F : Nat} {s : St} {b : Nat} {w : World} (h : StAt w b s) (_ok : s.Ok F) (t : Int) (hb : belowB t s.ts.length = false) :
    Calls Tryz.prog 46 #[.pointer (some ⟨b, 0, none⟩), .int .i64 t] w fun e w' => e = .returned (stepV (s.step t)) ∧ StAt w' b (s.step t).2.2 ∧ Only b w w' := by
  have hst : s.step t = (2, ev0, s) := by
    unfold St.step
    rw [if_neg (fun e => by unfold St.has at e; simp [belowB] at hb; omega)]
  rw [hst, stepV_err]
  have hbl := h.lt
  have c0 := h.num 0 (by omega)
  rw [stNum_threads] at c0
  have HB := Lib.hid (h.later (below_alloc1 w (.cells #[.int .i64 0, .int .i64 0, .int .i64 0, .bool false] 81)))
  clear hst h
  go_enter Tryz.func46, Tryz.ntmps46
  go_wp2_with (go_at_call 35; refine (sbelow_any _ _ _).mono ?_; rintro r w' ⟨rfl, rfl⟩)
  refine bodyPost_ret (v := .tuple #[.agg #[.int .i64 0, .int .i64 0, .int .i64 0, .bool false], .int .i64 2]) (by simp [results, Tryz.results46, go_sem]) rfl ⟨rfl, ?_, ?_⟩
  · exact HB.out
  · exact only_alloc b w _

set_option maxRecDepth 100000 in
set_option maxHeartbeats 2000000 in
theorem step_none {F : Nat} {s : St} {b : Nat} {w : World} (h : StAt w b s) (ok : s.Ok F) (t : Int) (hb : belowB t s.ts.length = true) (hi : s.ins t = none) :
    Calls Tryz.prog 46 #[.pointer (some ⟨b, 0, none⟩), .int .i64 t] w fun e w' => e = .returned (stepV (s.step t)) ∧ StAt w' b (s.step t).2.2 ∧ Only b w w' := by
  have hst : s.step t = (6, ev0, s) := by
    unfold St.step
    rw [if_pos (by unfold St.has; simpa [belowB] using hb), hi]
  rw [hst, stepV_err]
  have hbl := h.lt
  have c0 := h.num 0 (by omega)
  rw [stNum_threads] at c0
  have HB := Lib.hid (h.later (below_alloc1 w (.cells #[.int .i64 0, .int .i64 0, .int .i64 0, .bool false] 81)))
  have OK := Lib.hid ok
  have HI := Lib.hid hi
  clear hst h ok hi
  go_enter Tryz.func46, Tryz.ntmps46
  go_wp2_with (go_at_call 35; refine (sbelow_any _ _ _).mono ?_; rintro r w' ⟨rfl, rfl⟩)
  refine (instr_any HB.out OK.out t).mono ?_
  rw [HI.out, insR_none]
  rintro r w1 ⟨rfl, hb1⟩
  have hz : w.heap.size < w1.heap.size := by have := hb1.size; simp at this; omega
  have hc : ∀ o, w1.cell? ⟨w.heap.size, o, none⟩ = (w.alloc (.cells #[.int .i64 0, .int .i64 0, .int .i64 0, .bool false] 81)).cell? ⟨w.heap.size, o, none⟩ := fun o => hb1.cell (p := ⟨w.heap.size, o, none⟩) (by simp)
  have hf : ∀ o, w1.frozen? ⟨w.heap.size, o, none⟩ = (w.alloc (.cells #[.int .i64 0, .int .i64 0, .int .i64 0, .bool false] 81)).frozen? ⟨w.heap.size, o, none⟩ := fun o => hb1.frozen (p := ⟨w.heap.size, o, none⟩) (by simp)
  have H1 := Lib.hid (HB.out.later hb1)
  have O1 := Lib.hid ((only_alloc b w (.cells #[.int .i64 0, .int .i64 0, .int .i64 0, .bool false] 81)).trans (.of_below hb1))
  have B1 : Hid (Below w.heap.size w w1) := (below_alloc1 w _).trans (hb1.mono (by simp))
  clear hb1 c0
  go_wp2
  refine bodyPost_ret (v := .tuple #[.agg #[.int .i64 0, .int .i64 0, .int .i64 0, .bool false], .int .i64 6]) (by simp [results, Tryz.results46, go_sem, hc, hz]) rfl ⟨rfl, ?_, ?_⟩
  · exact (H1.out.other4 (by omega) _ _ _ _).later (below_alloc1 _ _)
  · exact (O1.out.set4 (Nat.le_refl _) _ _ _ _).alloc _

set_option maxRecDepth 100000 in
set_option maxHeartbeats 4000000 in
theorem step_state {F : Nat} {s : St} {b : Nat} {w : World} (h : StAt w b s) (ok : s.Ok F) (t : Nat) (i : Ins) (hi : s.ins t = some i) (hm : s.may t = false) :
    Calls Tryz.prog 46 #[.pointer (some ⟨b, 0, none⟩), .int .i64 t] w fun e w' => e = .returned (stepV (s.step t)) ∧ StAt w' b (s.step t).2.2 ∧ Only b w w' := by
  obtain ⟨k, hkk, ht⟩ := St.ins_nat hi
  obtain rfl : t = k := by omega
  have hb : belowB t s.ts.length = true := by simp [belowB]; omega
  have hn : s.next t = some (s.ev t i) := by unfold St.next; rw [hi]; rfl
  have hst : s.step t = (9, ev0, s) := by
    unfold St.step
    rw [if_pos (by unfold St.has; omega), hi]
    simp only [hm]
    rfl
  rw [hst, stepV_err]
  clear hst
  have hbl := h.lt
  have c0 := h.num 0 (by omega)
  rw [stNum_threads] at c0
  have HB := Lib.hid (h.later (below_alloc1 w (.cells #[.int .i64 0, .int .i64 0, .int .i64 0, .bool false] 81)))
  have OK := Lib.hid ok
  have HI := Lib.hid hi
  have HM := Lib.hid hm
  obtain ⟨e, he⟩ : ∃ e, e = s.ev t i := ⟨_, rfl⟩
  rw [← he] at hn
  have HE := Lib.hid he
  have HN := Lib.hid hn
  clear h ok hi hkk hm he hn
  go_enter Tryz.func46, Tryz.ntmps46
  go_wp2_with (go_at_call 35; refine (sbelow_any _ _ _).mono ?_; rintro r w' ⟨rfl, rfl⟩)
  refine (instr_any HB.out OK.out t).mono ?_
  rw [HI.out, insR_some]
  rintro r w1 ⟨rfl, hb1⟩
  have hz : w.heap.size < w1.heap.size := by have := hb1.size; simp at this; omega
  have hc : ∀ o, w1.cell? ⟨w.heap.size, o, none⟩ = (w.alloc (.cells #[.int .i64 0, .int .i64 0, .int .i64 0, .bool false] 81)).cell? ⟨w.heap.size, o, none⟩ := fun o => hb1.cell (p := ⟨w.heap.size, o, none⟩) (by simp)
  have hf : ∀ o, w1.frozen? ⟨w.heap.size, o, none⟩ = (w.alloc (.cells #[.int .i64 0, .int .i64 0, .int .i64 0, .bool false] 81)).frozen? ⟨w.heap.size, o, none⟩ := fun o => hb1.frozen (p := ⟨w.heap.size, o, none⟩) (by simp)
  have H1 := Lib.hid ((HB.out.later hb1).later (below_alloc1 w1 (.cells #[.int .i64 i.kind, .int .i64 i.r, .int .i64 i.x, .int .i64 i.n] 48)))
  have B1 : Hid (Below w.heap.size w w1) := (below_alloc1 w _).trans (hb1.mono (by simp))
  clear hb1 c0 HB
  go_wp2_with fail
  refine (event_of H1.out OK.out HI.out).mono ?_
  rw [← HE.out, evV]
  rintro r w2 ⟨rfl, hb2⟩
  have hz2 : w1.heap.size < w2.heap.size := by have := hb2.size; simp at this; omega
  have hz3 : w.heap.size < w2.heap.size := by omega
  have B2 : Hid (Below w1.heap.size w1 w2) := (below_alloc1 w1 _).trans (hb2.mono (by simp))
  have hc2 : ∀ o, w2.cell? ⟨w.heap.size, o, none⟩ = w1.cell? ⟨w.heap.size, o, none⟩ := fun o => B2.out.cell (p := ⟨w.heap.size, o, none⟩) hz
  have hf2 : ∀ o, w2.frozen? ⟨w.heap.size, o, none⟩ = w1.frozen? ⟨w.heap.size, o, none⟩ := fun o => B2.out.frozen (p := ⟨w.heap.size, o, none⟩) hz
  have hd2 : ∀ o, w2.cell? ⟨w1.heap.size, o, none⟩ = (w1.alloc (.cells #[.int .i64 i.kind, .int .i64 i.r, .int .i64 i.x, .int .i64 i.n] 48)).cell? ⟨w1.heap.size, o, none⟩ := fun o => hb2.cell (p := ⟨w1.heap.size, o, none⟩) (by simp)
  have H2 := Lib.hid ((H1.out.later hb2).later (below_alloc1 w2 (.cells #[.int .i64 e.thread, .int .i64 e.kind, .int .i64 e.obj, .bool e.fail] 81)))
  clear hb2 H1
  go_wp2_with fail
  refine (may_of H2.out OK.out HN.out).mono ?_
  rw [HM.out]
  rintro r w3 ⟨rfl, hb3⟩
  have hz4 : w2.heap.size < w3.heap.size := by have := hb3.size; simp at this; omega
  have hz5 : w1.heap.size < w3.heap.size := by omega
  have hz6 : w.heap.size < w3.heap.size := by omega
  have B3 : Hid (Below w2.heap.size w2 w3) := (below_alloc1 w2 _).trans (hb3.mono (by simp))
  have hc3 : ∀ o, w3.cell? ⟨w.heap.size, o, none⟩ = w2.cell? ⟨w.heap.size, o, none⟩ := fun o => B3.out.cell (p := ⟨w.heap.size, o, none⟩) hz3
  have hf3 : ∀ o, w3.frozen? ⟨w.heap.size, o, none⟩ = w2.frozen? ⟨w.heap.size, o, none⟩ := fun o => B3.out.frozen (p := ⟨w.heap.size, o, none⟩) hz3
  have hd3 : ∀ o, w3.cell? ⟨w1.heap.size, o, none⟩ = w2.cell? ⟨w1.heap.size, o, none⟩ := fun o => B3.out.cell (p := ⟨w1.heap.size, o, none⟩) hz2
  have he3 : ∀ o, w3.cell? ⟨w2.heap.size, o, none⟩ = (w2.alloc (.cells #[.int .i64 e.thread, .int .i64 e.kind, .int .i64 e.obj, .bool e.fail] 81)).cell? ⟨w2.heap.size, o, none⟩ := fun o => hb3.cell (p := ⟨w2.heap.size, o, none⟩) (by simp)
  have H3 := Lib.hid (H2.out.later hb3)
  have W3 : Hid (Below w.heap.size w w3) := (B1.out.trans (B2.out.mono (by omega))).trans (B3.out.mono (by omega))
  clear hb3 H2
  go_wp2
  refine bodyPost_ret (v := .tuple #[.agg #[.int .i64 0, .int .i64 0, .int .i64 0, .bool false], .int .i64 9]) (by simp [results, Tryz.results46, go_sem, hc, hc2, hc3]) rfl ⟨rfl, ?_, ?_⟩
  · exact H3.out.other4 (by omega) _ _ _ _
  · exact (Only.of_below W3.out).set4 (Nat.le_refl _) _ _ _ _

set_option maxRecDepth 100000 in
set_option maxHeartbeats 4000000 in
theorem step_done {F : Nat} {s : St} {b : Nat} {w : World} (h : StAt w b s) (ok : s.Ok F) (t : Nat) (i : Ins) (hi : s.ins t = some i) (hm : s.may t = true) :
    Calls Tryz.prog 46 #[.pointer (some ⟨b, 0, none⟩), .int .i64 t] w fun e w' => e = .returned (stepV (s.step t)) ∧ StAt w' b (s.step t).2.2 ∧ Only b w w' := by
  obtain ⟨k, hkk, ht⟩ := St.ins_nat hi
  obtain rfl : t = k := by omega
  have hb : belowB t s.ts.length = true := by simp [belowB]; omega
  have hn : s.next t = some (s.ev t i) := by unfold St.next; rw [hi]; rfl
  have hst : s.step t = (0, s.ev t i, s.do_ t i) := by
    unfold St.step
    rw [if_pos (by unfold St.has; omega), hi]
    simp only [hm]
    rfl
  rw [hst, stepV_ok]
  clear hst
  dsimp only
  have hbl := h.lt
  have c0 := h.num 0 (by omega)
  rw [stNum_threads] at c0
  have HB := Lib.hid (h.later (below_alloc1 w (.cells #[.int .i64 0, .int .i64 0, .int .i64 0, .bool false] 81)))
  have OK := Lib.hid ok
  have HI := Lib.hid hi
  have HM := Lib.hid hm
  obtain ⟨e, he⟩ : ∃ e, e = s.ev t i := ⟨_, rfl⟩
  rw [← he] at hn ⊢
  have HE := Lib.hid he
  have HN := Lib.hid hn
  clear h ok hi hkk hm he hn
  go_enter Tryz.func46, Tryz.ntmps46
  go_wp2_with (go_at_call 35; refine (sbelow_any _ _ _).mono ?_; rintro r w' ⟨rfl, rfl⟩)
  refine (instr_any HB.out OK.out t).mono ?_
  rw [HI.out, insR_some]
  rintro r w1 ⟨rfl, hb1⟩
  have hz : w.heap.size < w1.heap.size := by have := hb1.size; simp at this; omega
  have hc : ∀ o, w1.cell? ⟨w.heap.size, o, none⟩ = (w.alloc (.cells #[.int .i64 0, .int .i64 0, .int .i64 0, .bool false] 81)).cell? ⟨w.heap.size, o, none⟩ := fun o => hb1.cell (p := ⟨w.heap.size, o, none⟩) (by simp)
  have hf : ∀ o, w1.frozen? ⟨w.heap.size, o, none⟩ = (w.alloc (.cells #[.int .i64 0, .int .i64 0, .int .i64 0, .bool false] 81)).frozen? ⟨w.heap.size, o, none⟩ := fun o => hb1.frozen (p := ⟨w.heap.size, o, none⟩) (by simp)
  have H1 := Lib.hid ((HB.out.later hb1).later (below_alloc1 w1 (.cells #[.int .i64 i.kind, .int .i64 i.r, .int .i64 i.x, .int .i64 i.n] 48)))
  have B1 : Hid (Below w.heap.size w w1) := (below_alloc1 w _).trans (hb1.mono (by simp))
  clear hb1 c0 HB
  go_wp2_with fail
  refine (event_of H1.out OK.out HI.out).mono ?_
  rw [← HE.out, evV]
  rintro r w2 ⟨rfl, hb2⟩
  have hz2 : w1.heap.size < w2.heap.size := by have := hb2.size; simp at this; omega
  have hz3 : w.heap.size < w2.heap.size := by omega
  have B2 : Hid (Below w1.heap.size w1 w2) := (below_alloc1 w1 _).trans (hb2.mono (by simp))
  have hc2 : ∀ o, w2.cell? ⟨w.heap.size, o, none⟩ = w1.cell? ⟨w.heap.size, o, none⟩ := fun o => B2.out.cell (p := ⟨w.heap.size, o, none⟩) hz
  have hf2 : ∀ o, w2.frozen? ⟨w.heap.size, o, none⟩ = w1.frozen? ⟨w.heap.size, o, none⟩ := fun o => B2.out.frozen (p := ⟨w.heap.size, o, none⟩) hz
  have hd2 : ∀ o, w2.cell? ⟨w1.heap.size, o, none⟩ = (w1.alloc (.cells #[.int .i64 i.kind, .int .i64 i.r, .int .i64 i.x, .int .i64 i.n] 48)).cell? ⟨w1.heap.size, o, none⟩ := fun o => hb2.cell (p := ⟨w1.heap.size, o, none⟩) (by simp)
  have H2 := Lib.hid ((H1.out.later hb2).later (below_alloc1 w2 (.cells #[.int .i64 e.thread, .int .i64 e.kind, .int .i64 e.obj, .bool e.fail] 81)))
  clear hb2 H1
  go_wp2_with fail
  refine (may_of H2.out OK.out HN.out).mono ?_
  rw [HM.out]
  rintro r w3 ⟨rfl, hb3⟩
  have hz4 : w2.heap.size < w3.heap.size := by have := hb3.size; simp at this; omega
  have hz5 : w1.heap.size < w3.heap.size := by omega
  have hz6 : w.heap.size < w3.heap.size := by omega
  have B3 : Hid (Below w2.heap.size w2 w3) := (below_alloc1 w2 _).trans (hb3.mono (by simp))
  have hc3 : ∀ o, w3.cell? ⟨w.heap.size, o, none⟩ = w2.cell? ⟨w.heap.size, o, none⟩ := fun o => B3.out.cell (p := ⟨w.heap.size, o, none⟩) hz3
  have hf3 : ∀ o, w3.frozen? ⟨w.heap.size, o, none⟩ = w2.frozen? ⟨w.heap.size, o, none⟩ := fun o => B3.out.frozen (p := ⟨w.heap.size, o, none⟩) hz3
  have hd3 : ∀ o, w3.cell? ⟨w1.heap.size, o, none⟩ = w2.cell? ⟨w1.heap.size, o, none⟩ := fun o => B3.out.cell (p := ⟨w1.heap.size, o, none⟩) hz2
  have he3 : ∀ o, w3.cell? ⟨w2.heap.size, o, none⟩ = (w2.alloc (.cells #[.int .i64 e.thread, .int .i64 e.kind, .int .i64 e.obj, .bool e.fail] 81)).cell? ⟨w2.heap.size, o, none⟩ := fun o => hb3.cell (p := ⟨w2.heap.size, o, none⟩) (by simp)
  have H3 := Lib.hid (H2.out.later hb3)
  have W3 : Hid (Below w.heap.size w w3) := (B1.out.trans (B2.out.mono (by omega))).trans (B3.out.mono (by omega))
  clear hb3 H2
  go_wp2_with fail
  refine (do_any H3.out OK.out t i HI.out).mono ?_
  rintro r w4 ⟨rfl, hs4, ho4⟩
  have hz7 : w2.heap.size < w4.heap.size := by have := ho4.size; omega
  have hz8 : w.heap.size < w4.heap.size := by omega
  have cl : ∀ g o, g < w3.heap.size → g ≠ b → w4.cell? ⟨g, o, none⟩ = w3.cell? ⟨g, o, none⟩ := fun g o hg hgb => World.cell?_of_block (w := w3) (ho4.block g hg hgb)
  have fl : ∀ g o, g < w3.heap.size → g ≠ b → w4.frozen? ⟨g, o, none⟩ = w3.frozen? ⟨g, o, none⟩ := fun g o hg hgb => World.frozen?_of_block (w := w3) (ho4.block g hg hgb)
  have hc4 : ∀ o, w4.cell? ⟨w.heap.size, o, none⟩ = w3.cell? ⟨w.heap.size, o, none⟩ := fun o => cl _ o hz6 (by omega)
  have hf4 : ∀ o, w4.frozen? ⟨w.heap.size, o, none⟩ = w3.frozen? ⟨w.heap.size, o, none⟩ := fun o => fl _ o hz6 (by omega)
  have he4 : ∀ o, w4.cell? ⟨w2.heap.size, o, none⟩ = w3.cell? ⟨w2.heap.size, o, none⟩ := fun o => cl _ o hz4 (by omega)
  have HS := Lib.hid hs4
  have HO := Lib.hid ho4
  clear hs4 ho4 cl fl
  go_wp2
  refine bodyPost_ret (v := .tuple #[.agg #[.int .i64 e.thread, .int .i64 e.kind, .int .i64 e.obj, .bool e.fail], .int .i64 0]) (by simp [results, Tryz.results46, go_sem, hc, hc2, hc3, hc4]) rfl ⟨rfl, ?_, ?_⟩
  · exact HS.out.other4 (by omega) _ _ _ _
  · exact (Only.trans (.of_below W3.out) HO.out).set4 (Nat.le_refl _) _ _ _ _

theorem step_any {F : Nat} {s : St} {b : Nat} {w : World} (h : StAt w b s) (ok : s.Ok F) (t : Int) :
    Calls Tryz.prog 46 #[.pointer (some ⟨b, 0, none⟩), .int .i64 t] w fun e w' => e = .returned (stepV (s.step t)) ∧ StAt w' b (s.step t).2.2 ∧ Only b w w' := by
  cases hb : belowB t s.ts.length
  · exact step_range h ok t hb
  · cases hi : s.ins t with
    | none => exact step_none h ok t hb hi
    | some i =>
      obtain ⟨k, rfl, _⟩ := St.ins_nat hi
      cases hm : s.may k
      · exact step_state h ok k i hi hm
      · exact step_done h ok k i hi hm

end Go.Proofs.YtnldkmcijmbhcaaGreat
