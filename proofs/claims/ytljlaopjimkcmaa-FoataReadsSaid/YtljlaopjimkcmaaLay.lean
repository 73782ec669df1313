/- The contract of foata's byThread: an event put into a level. -/
import Derived.Test.YtljlaopjimkcmaaInsert
import Derived.Test.YtljlaopjimkcmaaEvTake
import Derived.Test.YtljlaopjimkcmaaLvlMore
import Derived.Deep.DeepCutAuto
namespace Go.Proofs.Ytljlaopjimkcmaa
open Go.RowKit

theorem insE_at {e : Ev} : ∀ (es : List Ev) (k : Nat), k ≤ es.length → (∀ j (h : j < es.length), j < k → es[j].thread < e.thread) → (∀ h : k < es.length, e.thread < es[k].thread) → insE e es = insAt es k e
  | [], 0, _, _, _ => rfl
  | x :: r, 0, _, _, h => by
    have h1 := h (by simp)
    rw [insE_cons_lt r (by simpa using h1)]
    rfl
  | x :: r, k + 1, hk, ha, h => by
    have h0 := ha 0 (by simp) (by omega)
    rw [insE_cons_ge r (by simp at h0; omega), insE_at r k (by simpa using hk) (fun j hj hjk => by have := ha (j + 1) (by simpa using hj) (by omega); simpa using this) (fun hk' => by have := h (by simpa using hk'); simpa using this)]
    rfl

/-- What putting into a level answers. -/
def LayR (B : Nat) (w : World) (v : Value) (es : List Ev) (r : Ending) (w' : World) : Prop :=
  ∃ v', r = .returned v' ∧ OwnE w' B v' es ∧ Below B w w' ∧ w.grownBy w' v.ownBlock ∧ (∀ g, v'.ownBlock = some g → v.ownBlock = some g ∨ w.heap.size ≤ g)

theorem grown_below {w w' : World} (h : Below w.heap.size w w') (row : Option Nat) : w.grownBy w' row := ⟨h.os, h.tape, h.output, h.size, fun k hk _ => h.block k hk⟩

theorem LayR.from {B : Nat} {w W1 w' : World} {v : Value} {es : List Ev} {r : Ending} (h : LayR B W1 v es r w') (hb : Below w.heap.size w W1) (hB : B ≤ w.heap.size) : LayR B w v es r w' := by
  obtain ⟨v', h1, h2, h3, h4, h5⟩ := h
  exact ⟨v', h1, h2, (hb.mono hB).trans h3, (grown_below hb _).trans h4, fun g hg => (h5 g hg).imp id (fun h => Nat.le_trans hb.size h)⟩
theorem insert_new (B : Nat) (v : Value) (k : Nat) (es : List Ev) (e : Ev) (w : World) (hk : k ≤ es.length) (hm : es.length ≤ 1000) (hB : B ≤ w.heap.size) (hown : OwnE w B v es) :
    Calls Try.prog 36 #[v, .int .i64 k, .slice (some ⟨w.heap.size, 0, none⟩) 1 1] (w.alloc (.cells #[.int .i64 e.thread, .int .i64 e.kind, .int .i64 e.obj, .bool e.fail] 39)) (LayR B w v (insAt es k e)) := by
  have hb := below_alloc1 w (.cells #[.int .i64 e.thread, .int .i64 e.kind, .int .i64 e.obj, .bool e.fail] 39)
  refine (insert_any B v k w.heap.size es e _ _ _ hk hm (Nat.le_trans hB hb.size) (hown.later hb) (heap_alloc_new w _) (fun j u hj => by simpa [evCell] using hj) (fun e => by have := (World.ownsRow.lt hown _ e).2; omega)).mono ?_
  rintro r w' ⟨v', h1, h2, h3, h4, h5⟩
  refine LayR.from ⟨v', h1, h2, h3, h4, fun g hg => ?_⟩ hb hB
  rcases h5 with h5 | h5
  · left; rw [← h5]; exact hg
  · right; rw [h5] at hg; injection hg with hg; omega

set_option maxHeartbeats 4000000 in
set_option maxRecDepth 100000 in
theorem lay_any (B : Nat) (v : Value) (es : List Ev) (e : Ev) (w : World) (hB : B ≤ w.heap.size) (hm : es.length ≤ 1000) (hown : OwnE w B v es) (hne : ∀ x ∈ es, x.thread ≠ e.thread) :
    Calls Try.prog 20 #[v, .agg #[.int .i64 e.thread, .int .i64 e.kind, .int .i64 e.obj, .bool e.fail]] w (LayR B w v (insE e es)) := by
  obtain ⟨a, cap, rfl, hev⟩ := OwnE.form hown (by omega)
  have HO := Lib.hid hown
  have HE := Lib.hid hev
  have HN := Lib.hid hne
  clear hown hev hne
  have HBX := Lib.hid (EvBox.new w e)
  have hb0 := below_alloc1 w (.cells #[.int .i64 e.thread, .int .i64 e.kind, .int .i64 e.obj, .bool e.fail] 39)
  go_enter Try.func20, Try.ntmps20
  go_wp2_with fail
  generalize w.alloc (.cells #[.int .i64 e.thread, .int .i64 e.kind, .int .i64 e.obj, .bool e.fail] 39) = W0 at *
  go_loopw [5] (fun i wr => ∃ k : Nat, k ≤ es.length ∧ i = .int .i64 k ∧ Hid (∀ j (h : j < es.length), j < k → es[j].thread < e.thread) ∧ Hid (Below W0.heap.size W0 wr)) (fun i _ => es.length - (intOf i).toNat)
  case atStart => exact ⟨0, Nat.zero_le _, rfl, (fun j _ h => absurd h (by omega)), Below.refl _ _⟩
  case round =>
    obtain ⟨k, hk, rfl, HA, HB⟩ := hrel
    by_cases hlt : k < es.length
    · obtain ⟨b, o, rfl, t0, t1, t2, t3⟩ := HE.out.one hlt
      have hbx := hb0.trans (HB.out.mono hb0.size)
      have d0 := cell_later hbx t0
      obtain ⟨c0, c1, c2, c3⟩ := (HBX.out.later HB.out).cells
      have HX := Lib.hid hbx
      clear t0 t1 t2 t3 hbx
      have hkl : decide ((k : Int) < (es.length : Int)) = true := by simp; omega
      have hki : (k : Int) < (es.length : Int) := by omega
      have hki0 : (0 : Int) ≤ k := by omega
      by_cases hth : (evI es k).thread < e.thread
      · have hq : decide ((evI es k).thread < e.thread) = true := by simp; omega
        have HA2 : Hid (∀ j (h : j < es.length), j < k + 1 → es[j].thread < e.thread) := fun j h hj => by
          by_cases e' : j = k
          · subst e'
            rw [← evI_get h]
            exact hth
          · exact HA.out j h (by omega)
        go_wp2_with fail
        go_quiet (fail)
        go_wp2
        go_roundw
        case rel => exact ⟨k + 1, by omega, by go_num, HA2, HB.out.drewN⟩
        case measure => simp [intOf]; omega
      · have hq : decide ((evI es k).thread < e.thread) = false := by simp; omega
        have HI : Hid (insE e es = insAt es k e) := insE_at es k hk HA.out (fun h => by
          have h1 := HN.out es[k] (List.getElem_mem h)
          rw [evI_get h] at hth
          omega)
        have HC : Hid (∀ W, Below w.heap.size w W → Calls Try.prog 36 #[.slice (some ⟨b, o, none⟩) es.length cap, .int .i64 k, .slice (some ⟨W.heap.size, 0, none⟩) 1 1] (W.alloc (.cells #[.int .i64 e.thread, .int .i64 e.kind, .int .i64 e.obj, .bool e.fail] 39)) (LayR B w (.slice (some ⟨b, o, none⟩) es.length cap) (insE e es))) := fun W hW => by
          rw [HI.out]
          exact (insert_new B _ k es e W hk hm (Nat.le_trans hB hW.size) (HO.out.later hW)).mono fun r w' h => h.from hW hB
        go_wp2_with fail
        go_quiet (fail)
        go_wp2_with fail
        refine (HC.out _ HX.out.drewN).mono ?_
        rintro r w' ⟨v', rfl, h2, h3, h4, h5⟩
        go_wp2
        go_ret
        exact ⟨v', rfl, h2, h3, h4, h5⟩
    · obtain rfl : k = es.length := by omega
      have hbx := hb0.trans (HB.out.mono hb0.size)
      obtain ⟨c0, c1, c2, c3⟩ := (HBX.out.later HB.out).cells
      have HX := Lib.hid hbx
      have hkl : decide ((es.length : Int) < (es.length : Int)) = false := by simp
      have HI : Hid (insE e es = insAt es es.length e) := insE_at es es.length hk HA.out (fun h => absurd h (by omega))
      have HC : Hid (∀ W, Below w.heap.size w W → Calls Try.prog 36 #[.slice a es.length cap, .int .i64 es.length, .slice (some ⟨W.heap.size, 0, none⟩) 1 1] (W.alloc (.cells #[.int .i64 e.thread, .int .i64 e.kind, .int .i64 e.obj, .bool e.fail] 39)) (LayR B w (.slice a es.length cap) (insE e es))) := fun W hW => by
        rw [HI.out]
        exact (insert_new B _ es.length es e W hk hm (Nat.le_trans hB hW.size) (HO.out.later hW)).mono fun r w' h => h.from hW hB
      clear hbx
      go_wp2_with fail
      go_quiet (fail)
      go_wp2_with fail
      refine (HC.out _ HX.out.drewN).mono ?_
      rintro r w' ⟨v', rfl, h2, h3, h4, h5⟩
      go_wp2
      go_ret
      exact ⟨v', rfl, h2, h3, h4, h5⟩

end Go.Proofs.Ytljlaopjimkcmaa
