/- The contracts of slices.Backward over a row of clocks, and of what it hands back. -/
import Derived.Test.YtfefidmbkbigoaaClocks
import Derived.Test.YtfefidmbkbigoaaBacks
import Derived.RangeFuncNested
import Derived.RangeFuncBound
import Derived.RangeFuncCalls
import Derived.RangeFuncLeaves
import Derived.RangeFuncBox
import Derived.Shelf.Abstract
import Derived.Shelf.RegionOpen
import Derived.WalkKit
import Derived.OwnWalkIn
import Derived.TacticsInMore
import Derived.LoopNIn
import Derived.LoopIn
import Derived.Sort.QuietIn
namespace Go.Proofs.Ytfefidmbkbigoaa
open Go.RowKit Go.Shelf

attribute [local go_sem] Oper.semAt_some

def backE (cs : List (Nat → Nat)) (q : Fin cs.length) : Array Value := #[.int .i64 (q.val : Int), .agg #[.int .i64 (cs[q.val] 0), .int .i64 (cs[q.val] 1), .int .i64 (cs[q.val] 2), .int .i64 (cs[q.val] 3)]]

set_option maxRecDepth 100000 in
set_option maxHeartbeats 2000000 in
theorem back1_in (F : Fence) (n : Nat) (h7 : F.fn 57) (hro : F.round = none) (hn : 1 ≤ n) (l Bs n₀ : Nat) (a : Option Addr) (cap : Nat) (cs : List (Nat → Nat)) (hreach : cs.length ≤ 1000) (hbs : Bs < n₀)
    (J Jx : List (Fin cs.length) → World → Prop)
    (hY : ∀ pre x W, J pre W → pre.length < cs.length → YieldAt F (n - 1) Try.prog l (backE cs x) W fun e W' => (e = .returned (.bool true) ∧ J (pre ++ [x]) W' ∧ Below n₀ W W') ∨ (e = .returned (.bool false) ∧ Jx (pre ++ [x]) W'))
    (W : World) (hBs : W.cell? ⟨Bs, 0, none⟩ = some (.slice a cs.length cap)) (hrow : RowAt W a 4 ckCell cs) (hb : 0 < cs.length → ∀ b o, a = some ⟨b, o, none⟩ → b < n₀) (h0 : J [] W) :
    CallsIn F n Try.prog 57 #[.func (.yield l) #[] #[], .pointer (some ⟨Bs, 0, none⟩)] W fun e W' => (∃ v, e = .returned v) ∧
      ((∃ ys, Backs cs.length cs.length ys ∧ J ys W') ∨ (∃ pre, (∃ k, k ≤ cs.length ∧ Backs cs.length k pre) ∧ Jx pre W')) := by
  refine callsIn_of_wp Try.func57 rfl h7 ?_ hro
  simp only [Try.ntmps57, List.size_toArray, List.length_cons, List.length_nil, Nat.reduceAdd, Nat.reduceSub, Array.replicate_succ, Array.replicate_zero, List.push_toArray, List.append_toArray, List.nil_append, List.cons_append]
  gi_wp2
  gi_loopw [3] (fun i wr => ∃ (k : Nat) (z : Int) (pre : List (Fin cs.length)), k ≤ cs.length ∧ i = .int .i64 z ∧ Hid (z = (cs.length : Int) - 1 - k) ∧ Hid (Backs cs.length k pre) ∧ J pre wr ∧ Below n₀ W wr) (fun i _ => (intOf i + 1).toNat)
  case atStart => exact ⟨0, _, [], Nat.zero_le _, rfl, (by show _ = _; omega), backs_nil _, h0, Below.refl _ _⟩
  case round =>
    obtain ⟨k, z, pre, hk, rfl, HZ, HP, hJs, hnx⟩ := hrel
    have cBs := (hnx.cell (p := ⟨Bs, 0, none⟩) hbs).trans hBs
    by_cases hlt : k < cs.length
    · obtain ⟨b, o, rfl, hcell⟩ := hrow.2 (by intro e; simp [e] at hlt)
      have hbn := hb (by omega) b o rfl
      obtain ⟨q, hq⟩ : ∃ q : Nat, q = cs.length - 1 - k := ⟨_, rfl⟩
      obtain rfl : z = (q : Int) := by have := HZ.out; omega
      have hql : q < cs.length := by omega
      have hk2 : ∀ j u, (ckCell cs[q])[j]? = some u → wr.cell? ⟨b, o + q * 4 + j, none⟩ = some u := fun j u hj => (hnx.cell (p := ⟨b, o + q * 4 + j, none⟩) hbn).trans (hcell q hql j u hj)
      have c0 := hk2 0 _ rfl
      have c1 := hk2 1 _ rfl
      have c2 := hk2 2 _ rfl
      have c3 := hk2 3 _ rfl
      rw [Nat.add_zero] at c0
      obtain ⟨fn, tmps, assign, body, hy, hR⟩ := hY pre ⟨q, hql⟩ wr hJs (by rw [HP.out.len]; exact hlt)
      dsimp only [backE] at hy
      have HQ := Lib.hid hq
      have HP2 : Hid (Backs cs.length (k + 1) (pre ++ [⟨q, hql⟩])) := HP.out.snoc hq
      clear hk2 hcell hq
      gi_wp2
      refine hR.mono ?_
      rintro e W3 (⟨rfl, hJ3, hk3⟩ | ⟨rfl, hJx3⟩)
      · gi_wp2
        go_roundw
        case rel => exact ⟨k + 1, (q : Int) - 1, _, by omega, by go_num, (by show _ = _; have := HQ.out; omega), HP2, hJ3, hnx.trans hk3⟩
        case measure => simp [intOf]
      · gi_wp2
        refine bodyPost_ret (results_none rfl _ _ _) rfl ?_
        exact ⟨⟨_, rfl⟩, .inr ⟨_, ⟨k + 1, by omega, HP2.out⟩, hJx3⟩⟩
    · obtain rfl : k = cs.length := by omega
      obtain rfl : z = -1 := by have := HZ.out; omega
      gi_wp2
      go_end0
      exact ⟨⟨_, rfl⟩, .inl ⟨_, HP.out, hJs⟩⟩

set_option maxHeartbeats 1000000 in
theorem back_in (F : Fence) (n : Nat) (h5 : F.fn 43) (hro : F.round = none) (a : Option Addr) (len cap : Nat) (w : World) :
    CallsIn F n Try.prog 43 #[.slice a len cap] w fun e w' => e = .returned (.func (.func 57) #[] #[.pointer (some ⟨w.heap.size, 0, none⟩)]) ∧ w' = w.alloc (.cells #[.slice a len cap] 31) := by
  refine callsIn_of_wp Try.func43 rfl h5 ?_ hro
  simp only [Try.ntmps43, List.size_toArray, List.length_cons, List.length_nil, Nat.reduceAdd, Nat.reduceSub, Array.replicate_succ, Array.replicate_zero, List.push_toArray, List.append_toArray, List.nil_append, List.cons_append]
  gi_wp2
  go_ret
  exact ⟨rfl, rfl⟩

theorem back_stops (F : Fence) (n : Nat) (h7 : F.fn 57) (hro : F.round = none) (hn : 1 ≤ n) (Bs n₀ : Nat) (a : Option Addr) (cap : Nat) (cs : List (Nat → Nat)) (hreach : cs.length ≤ 1000) (w : World) (hbs : Bs < n₀) (hn₀ : n₀ ≤ w.heap.size)
    (hc : w.cell? ⟨Bs, 0, none⟩ = some (.slice a cs.length cap)) (hrow : RowAt w a 4 ckCell cs) (hb : 0 < cs.length → ∀ b o, a = some ⟨b, o, none⟩ → b < n₀) :
    SeqStopsK F n Try.prog 57 #[.pointer (some ⟨Bs, 0, none⟩)] (backE cs) (Below n₀) (fun ys => Backs cs.length cs.length ys) (fun pre => ∃ k, k ≤ cs.length ∧ Backs cs.length k pre) cs.length w := fun l J Jx W hW _ _ hY h0 => by
  have hc' := (hW.cell (p := ⟨Bs, 0, none⟩) (show Bs < w.heap.size by omega)).trans hc
  exact back1_in F n h7 hro hn l Bs n₀ a cap cs hreach hbs J Jx hY W hc' (hrow.later hW) hb h0

end Go.Proofs.Ytfefidmbkbigoaa
