/- The contract of the document's Next: a variable, a lock. -/
import Derived.Test.YtgofbejohihljaaRefState
import Derived.Test.YtgofbejohihljaaStateNext
import Derived.BigRegion
namespace Go.Proofs.Ytgofbejohihljaa
open Go.RowKit

section
variable {F : Nat} {w : World} {b tb : Nat} {a : Option Addr} {cap tcap : Nat} {s : St}

set_option maxRecDepth 100000 in
set_option maxHeartbeats 4000000 in
theorem refNext_1 (h : RefAt w b tb a cap tcap s) (hth : ThreadsAt w a s.p.threads) (ok : s.Ok F) (t : Nat) (i : Ins) (hi : s.ins t = some i) (hk1 : i.kind = 1) :
    Calls Try.prog 16 #[.pointer (some ⟨b, 0, none⟩), .int .i64 t] w fun r w' => r = .returned (.tuple #[.agg #[.int .i64 t, .int .i64 2, .int .i64 i.x, .bool false], .bool true]) ∧ Below w.heap.size w w' := by
  obtain ⟨_, hf, hcode⟩ := St.ins_has hi
  obtain ⟨k, hkk, hk'⟩ := St.ins_nat hi
  obtain rfl : t = k := by omega
  simp only [Int.toNat_natCast] at hf hcode
  obtain ⟨hb1, hb2⟩ := h.lt
  obtain ⟨p0, p1⟩ := h.prog
  have hln := ok.len
  have h4 := ok.len4
  have hkp : t < s.p.threads.length := by omega
  have hcd : s.code t = s.p.threads[t] := getD_lt _ hkp
  obtain ⟨hat, hic⟩ := List.getElem?_eq_some_iff.1 hcode
  obtain ⟨ab, ao, rfl, hc⟩ := hth.2 (by intro e; simp [e] at hkp)
  obtain ⟨c, ccap, c0, c1, _⟩ := hc t hkp
  rw [← hcd] at c0 c1
  obtain ⟨cb, co, rfl, hcc⟩ := c1.2 (by intro e; simp [e] at hat)
  obtain ⟨i0, i1, i2, i3⟩ := hcc _ hat
  rw [hic] at i0 i1 i2 i3
  have hz1 := cell_block c0
  have hz2 := cell_block i0
  dsimp only at hz1 hz2
  have cf := h.fuel t hk'
  have ca := h.at_ t hk'
  have hff : ((((s.th t).fuel : Nat) : Int) == 0) = false := by simp; omega
  have q0 : decide ((t : Int) < 0) = false := by simp
  have q1 : decide ((s.ts.length : Int) ≤ t) = false := by simp; omega
  have q2 : decide (s.ts.length ≤ t) = false := by simp; omega
  have q3 : decide ((s.code t).length ≤ (s.th t).at_) = false := by simp; omega
  have q4 : decide (((s.code t).length : Int) ≤ (s.th t).at_) = false := by simp; omega
  have h8 := ok.code8 t hk'
  have H := Lib.hid h
  clear h hth ok hi hln hkk hf hcode hc c1 hcd hcc hic
  generalize (s.th t).fuel = f at *
  generalize (s.th t).at_ = at_ at *
  generalize (s.code t).length = n at *
  obtain ⟨kd, r, x, m⟩ := i
  dsimp only at *
  subst hk1
  go_enter Try.func16, Try.ntmps16
  go_wp2
  go_quiet (fail)
  go_wp2
  go_region
  generalize hW : (((w.alloc (.cells #[.int .i64 0, .int .i64 0, .int .i64 0, .bool false] 35)).drewN (nq + 1)).alloc (.cells #[.int .i64 1, .int .i64 r, .int .i64 x, .int .i64 m] 66)) = W at *
  obtain ⟨hbl, ⟨e0, e1, e2, e3⟩, ⟨e4, e5, e6, e7⟩, ⟨j0, j1, j2, j3⟩, hsz, hsz0⟩ := mid_world hW
  clear hW cf ca c0 i0 i1 i2 i3 p0 p1 
  go_wp2
  refine bodyPost_ret (v := .tuple #[.agg #[.int .i64 t, .int .i64 2, .int .i64 x, .bool false], .bool true]) (by simp [results, Try.results16, go_sem, hsz0, e0, e1, e2, e3]) rfl ⟨rfl, ?_⟩
  repeat (first | exact hbl | refine Below.drew ?_ | refine Below.drewN ?_ | (refine Below.alloc ?_ (by simp [World.setCell]; omega) _) | (refine Below.setCell ?_ (by first | exact Nat.le_refl _ | (simp [World.setCell]; omega)) _))

set_option maxRecDepth 100000 in
set_option maxHeartbeats 4000000 in
theorem refNext_2 (h : RefAt w b tb a cap tcap s) (hth : ThreadsAt w a s.p.threads) (ok : s.Ok F) (t : Nat) (i : Ins) (hi : s.ins t = some i) (hk1 : i.kind = 2) :
    Calls Try.prog 16 #[.pointer (some ⟨b, 0, none⟩), .int .i64 t] w fun r w' => r = .returned (.tuple #[.agg #[.int .i64 t, .int .i64 3, .int .i64 i.x, .bool false], .bool true]) ∧ Below w.heap.size w w' := by
  obtain ⟨_, hf, hcode⟩ := St.ins_has hi
  obtain ⟨k, hkk, hk'⟩ := St.ins_nat hi
  obtain rfl : t = k := by omega
  simp only [Int.toNat_natCast] at hf hcode
  obtain ⟨hb1, hb2⟩ := h.lt
  obtain ⟨p0, p1⟩ := h.prog
  have hln := ok.len
  have h4 := ok.len4
  have hkp : t < s.p.threads.length := by omega
  have hcd : s.code t = s.p.threads[t] := getD_lt _ hkp
  obtain ⟨hat, hic⟩ := List.getElem?_eq_some_iff.1 hcode
  obtain ⟨ab, ao, rfl, hc⟩ := hth.2 (by intro e; simp [e] at hkp)
  obtain ⟨c, ccap, c0, c1, _⟩ := hc t hkp
  rw [← hcd] at c0 c1
  obtain ⟨cb, co, rfl, hcc⟩ := c1.2 (by intro e; simp [e] at hat)
  obtain ⟨i0, i1, i2, i3⟩ := hcc _ hat
  rw [hic] at i0 i1 i2 i3
  have hz1 := cell_block c0
  have hz2 := cell_block i0
  dsimp only at hz1 hz2
  have cf := h.fuel t hk'
  have ca := h.at_ t hk'
  have hff : ((((s.th t).fuel : Nat) : Int) == 0) = false := by simp; omega
  have q0 : decide ((t : Int) < 0) = false := by simp
  have q1 : decide ((s.ts.length : Int) ≤ t) = false := by simp; omega
  have q2 : decide (s.ts.length ≤ t) = false := by simp; omega
  have q3 : decide ((s.code t).length ≤ (s.th t).at_) = false := by simp; omega
  have q4 : decide (((s.code t).length : Int) ≤ (s.th t).at_) = false := by simp; omega
  have h8 := ok.code8 t hk'
  have H := Lib.hid h
  clear h hth ok hi hln hkk hf hcode hc c1 hcd hcc hic
  generalize (s.th t).fuel = f at *
  generalize (s.th t).at_ = at_ at *
  generalize (s.code t).length = n at *
  obtain ⟨kd, r, x, m⟩ := i
  dsimp only at *
  subst hk1
  go_enter Try.func16, Try.ntmps16
  go_wp2
  go_quiet (fail)
  go_wp2
  go_region
  generalize hW : (((w.alloc (.cells #[.int .i64 0, .int .i64 0, .int .i64 0, .bool false] 35)).drewN (nq + 1)).alloc (.cells #[.int .i64 2, .int .i64 r, .int .i64 x, .int .i64 m] 66)) = W at *
  obtain ⟨hbl, ⟨e0, e1, e2, e3⟩, ⟨e4, e5, e6, e7⟩, ⟨j0, j1, j2, j3⟩, hsz, hsz0⟩ := mid_world hW
  clear hW cf ca c0 i0 i1 i2 i3 p0 p1 
  go_wp2
  refine bodyPost_ret (v := .tuple #[.agg #[.int .i64 t, .int .i64 3, .int .i64 x, .bool false], .bool true]) (by simp [results, Try.results16, go_sem, hsz0, e0, e1, e2, e3]) rfl ⟨rfl, ?_⟩
  repeat (first | exact hbl | refine Below.drew ?_ | refine Below.drewN ?_ | (refine Below.alloc ?_ (by simp [World.setCell]; omega) _) | (refine Below.setCell ?_ (by first | exact Nat.le_refl _ | (simp [World.setCell]; omega)) _))

set_option maxRecDepth 100000 in
set_option maxHeartbeats 4000000 in
theorem refNext_5 (h : RefAt w b tb a cap tcap s) (hth : ThreadsAt w a s.p.threads) (ok : s.Ok F) (t : Nat) (i : Ins) (hi : s.ins t = some i) (hk1 : i.kind = 5) :
    Calls Try.prog 16 #[.pointer (some ⟨b, 0, none⟩), .int .i64 t] w fun r w' => r = .returned (.tuple #[.agg #[.int .i64 t, .int .i64 4, .int .i64 i.x, .bool false], .bool true]) ∧ Below w.heap.size w w' := by
  obtain ⟨_, hf, hcode⟩ := St.ins_has hi
  obtain ⟨k, hkk, hk'⟩ := St.ins_nat hi
  obtain rfl : t = k := by omega
  simp only [Int.toNat_natCast] at hf hcode
  obtain ⟨hb1, hb2⟩ := h.lt
  obtain ⟨p0, p1⟩ := h.prog
  have hln := ok.len
  have h4 := ok.len4
  have hkp : t < s.p.threads.length := by omega
  have hcd : s.code t = s.p.threads[t] := getD_lt _ hkp
  obtain ⟨hat, hic⟩ := List.getElem?_eq_some_iff.1 hcode
  obtain ⟨ab, ao, rfl, hc⟩ := hth.2 (by intro e; simp [e] at hkp)
  obtain ⟨c, ccap, c0, c1, _⟩ := hc t hkp
  rw [← hcd] at c0 c1
  obtain ⟨cb, co, rfl, hcc⟩ := c1.2 (by intro e; simp [e] at hat)
  obtain ⟨i0, i1, i2, i3⟩ := hcc _ hat
  rw [hic] at i0 i1 i2 i3
  have hz1 := cell_block c0
  have hz2 := cell_block i0
  dsimp only at hz1 hz2
  have cf := h.fuel t hk'
  have ca := h.at_ t hk'
  have hff : ((((s.th t).fuel : Nat) : Int) == 0) = false := by simp; omega
  have q0 : decide ((t : Int) < 0) = false := by simp
  have q1 : decide ((s.ts.length : Int) ≤ t) = false := by simp; omega
  have q2 : decide (s.ts.length ≤ t) = false := by simp; omega
  have q3 : decide ((s.code t).length ≤ (s.th t).at_) = false := by simp; omega
  have q4 : decide (((s.code t).length : Int) ≤ (s.th t).at_) = false := by simp; omega
  have h8 := ok.code8 t hk'
  have H := Lib.hid h
  clear h hth ok hi hln hkk hf hcode hc c1 hcd hcc hic
  generalize (s.th t).fuel = f at *
  generalize (s.th t).at_ = at_ at *
  generalize (s.code t).length = n at *
  obtain ⟨kd, r, x, m⟩ := i
  dsimp only at *
  subst hk1
  go_enter Try.func16, Try.ntmps16
  go_wp2
  go_quiet (fail)
  go_wp2
  go_region
  generalize hW : (((w.alloc (.cells #[.int .i64 0, .int .i64 0, .int .i64 0, .bool false] 35)).drewN (nq + 1)).alloc (.cells #[.int .i64 5, .int .i64 r, .int .i64 x, .int .i64 m] 66)) = W at *
  obtain ⟨hbl, ⟨e0, e1, e2, e3⟩, ⟨e4, e5, e6, e7⟩, ⟨j0, j1, j2, j3⟩, hsz, hsz0⟩ := mid_world hW
  clear hW cf ca c0 i0 i1 i2 i3 p0 p1 
  go_wp2
  refine bodyPost_ret (v := .tuple #[.agg #[.int .i64 t, .int .i64 4, .int .i64 x, .bool false], .bool true]) (by simp [results, Try.results16, go_sem, hsz0, e0, e1, e2, e3]) rfl ⟨rfl, ?_⟩
  repeat (first | exact hbl | refine Below.drew ?_ | refine Below.drewN ?_ | (refine Below.alloc ?_ (by simp [World.setCell]; omega) _) | (refine Below.setCell ?_ (by first | exact Nat.le_refl _ | (simp [World.setCell]; omega)) _))
end
end Go.Proofs.Ytgofbejohihljaa
