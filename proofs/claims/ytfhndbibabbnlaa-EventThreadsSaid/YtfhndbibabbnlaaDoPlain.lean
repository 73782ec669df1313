/- The contract of do. -/
import Derived.Test.YtfhndbibabbnlaaStateNext
import Derived.Test.YtfhndbibabbnlaaDeeds
import Derived.Laws.EntriesVeiled
import Derived.Deep.RegionHeld3
namespace Go.Proofs.Ytfhndbibabbnlaa
open Go.RowKit

set_option maxRecDepth 100000 in
set_option maxHeartbeats 1000000 in
theorem deeds_any (w : World) : Calls Try.prog 48 #[] w fun r w' => r = .returned (.agg #[.nilFunc, .func (.func 50) #[] #[], .func (.func 51) #[] #[], .func (.func 52) #[] #[], .func (.func 53) #[] #[], .func (.func 54) #[] #[], .func (.func 55) #[] #[], .func (.func 56) #[] #[], .func (.func 57) #[] #[]]) ∧ Below w.heap.size w w' := by
  go_enter Try.func48, Try.ntmps48
  go_wp2
  refine bodyPost_ret (v := .agg #[.nilFunc, .func (.func 50) #[] #[], .func (.func 51) #[] #[], .func (.func 52) #[] #[], .func (.func 53) #[] #[], .func (.func 54) #[] #[], .func (.func 55) #[] #[], .func (.func 56) #[] #[], .func (.func 57) #[] #[]]) ?_ rfl ⟨rfl, below_alloc1 w _⟩
  simp [results, Try.results48, go_sem]

theorem Only.setNew {b g : Nat} {w w1 : World} (h : Only b w w1) (hg : w.heap.size ≤ g) (o : Nat) (v : Value) : Only b w (w1.setCell ⟨g, o, none⟩ v) :=
  ⟨h.os, h.tape, h.output, by simp [World.setCell]; exact h.size, fun k hk hb => (Below.heap_setCell _ _ _ _ (by show k ≠ g; omega)).trans (h.block k hk hb)⟩
theorem Only.set4 {b g : Nat} {w w1 : World} (h : Only b w w1) (hg : w.heap.size ≤ g) (v0 v1 v2 v3 : Value) : Only b w ((((w1.setCell ⟨g, 0, none⟩ v0).setCell ⟨g, 1, none⟩ v1).setCell ⟨g, 2, none⟩ v2).setCell ⟨g, 3, none⟩ v3) :=
  (((h.setNew hg 0 v0).setNew hg 1 v1).setNew hg 2 v2).setNew hg 3 v3
theorem StAt.other {b g : Nat} {w : World} {s : St} (h : StAt w b s) (hg : b ≠ g) (o : Nat) (v : Value) : StAt (w.setCell ⟨g, o, none⟩ v) b s := (Below.heap_setCell _ _ _ _ hg).trans h
theorem StAt.other4 {b g : Nat} {w : World} {s : St} (h : StAt w b s) (hg : b ≠ g) (v0 v1 v2 v3 : Value) : StAt ((((w.setCell ⟨g, 0, none⟩ v0).setCell ⟨g, 1, none⟩ v1).setCell ⟨g, 2, none⟩ v2).setCell ⟨g, 3, none⟩ v3) b s :=
  (((h.other hg 0 v0).other hg 1 v1).other hg 2 v2).other hg 3 v3

theorem St.put_th (s : St) (t : Nat) (y : Thr) (ht : t < s.ts.length) : (s.put t y).th t = y := by
  unfold St.put St.th
  simp only [Int.toNat_natCast]
  rw [getD_set _ _ _ _ _ ht, if_pos rfl]
theorem St.put_put (s : St) (t : Nat) (y z : Thr) : (s.put t y).put t z = s.put t z := by
  simp [St.put]
theorem St.put_len (s : St) (t : Nat) (y : Thr) : (s.put t y).ts.length = s.ts.length := by
  simp [St.put]

/-- The thread behind fuel and place. -/
def St.go (s : St) (t : Nat) : St := s.put t { s.th t with fuel := (s.th t).fuel - 1, at_ := (s.th t).at_ + 1 }
theorem St.go_th (s : St) (t : Nat) (ht : t < s.ts.length) : (s.go t).th t = { s.th t with fuel := (s.th t).fuel - 1, at_ := (s.th t).at_ + 1 } := St.put_th _ _ _ ht
theorem StAt.go {w : World} {b : Nat} {s : St} (h : StAt w b s) (t f a : Nat) (ht : t < s.ts.length) (h4 : s.ts.length ≤ 4) (hf : (s.th t).fuel = f + 1) (ha : (s.th t).at_ = a) :
    StAt ((w.setCell ⟨b, 2 + t * 37 + 34, none⟩ (.int .i64 f)).setCell ⟨b, 2 + t * 37 + 33, none⟩ (.int .i64 ((a + 1 : Nat) : Int))) b (s.go t) := by
  have h1 := h.setFuel t f ht h4
  have h2 := h1.setAt t (a + 1) (by rw [St.put_len]; exact ht) (by rw [St.put_len]; exact h4)
  rw [St.put_th _ _ _ ht, St.put_put] at h2
  unfold St.go
  rw [hf, ha]
  exact h2

theorem thr_go (s : St) (t : Nat) (i : Ins) (_ht : t < s.ts.length) : s.do_ t i = { s.put t (s.thr t i) with
    v := if i.kind = 2 then s.v.set i.x.toNat (s.reg t i) else s.v
    m := if i.kind = 5 then s.m.set i.x.toNat t else if i.kind = 6 ∧ s.who i.x = t then s.m.set i.x.toNat (-1) else s.m } := rfl

theorem go_load (s : St) (t r x : Nat) (n : Int) (ht : t < s.ts.length) : (s.go t).put t { (s.go t).th t with r := ((s.go t).th t).r.set r ((s.go t).v.getD x 0) } = s.do_ t ⟨1, r, x, n⟩ := by
  rw [St.go_th s t ht]; unfold St.go; rw [St.put_put, thr_go s t _ ht]; rfl
theorem go_store (s : St) (t r x : Nat) (n : Int) (ht : t < s.ts.length) : { s.go t with v := (s.go t).v.set x (((s.go t).th t).r.getD r 0) } = s.do_ t ⟨2, r, x, n⟩ := by
  rw [St.go_th s t ht, thr_go s t _ ht]; rfl
theorem go_set (s : St) (t r x : Nat) (n : Int) (ht : t < s.ts.length) : (s.go t).put t { (s.go t).th t with r := ((s.go t).th t).r.set r n } = s.do_ t ⟨3, r, x, n⟩ := by
  rw [St.go_th s t ht]; unfold St.go; rw [St.put_put, thr_go s t _ ht]; rfl
theorem go_add (s : St) (t r x : Nat) (n : Int) (ht : t < s.ts.length) : (s.go t).put t { (s.go t).th t with r := ((s.go t).th t).r.set r (IntKind.i64.wrap (((s.go t).th t).r.getD r 0 + n)) } = s.do_ t ⟨4, r, x, n⟩ := by
  rw [St.go_th s t ht]; unfold St.go; rw [St.put_put, thr_go s t _ ht]; rfl
theorem go_lock (s : St) (t r x : Nat) (n : Int) (ht : t < s.ts.length) : { s.go t with m := (s.go t).m.set x t } = s.do_ t ⟨5, r, x, n⟩ := by
  rw [thr_go s t _ ht]; rfl
theorem go_unlock (s : St) (t r x : Nat) (n : Int) (ht : t < s.ts.length) : (if (s.go t).who x = t then { s.go t with m := (s.go t).m.set x (-1) } else s.go t) = s.do_ t ⟨6, r, x, n⟩ := by
  have e : (s.go t).who x = s.who x := rfl
  rw [thr_go s t _ ht, e]
  dsimp only
  by_cases h : s.who x = t
  · rw [if_pos h]; simp only [h, and_self, if_true, Int.toNat_natCast]; rfl
  · rw [if_neg h]; simp only [h, and_false, if_false]; rfl
theorem go_jump (s : St) (t r x : Nat) (n : Int) (ht : t < s.ts.length) : (if ((s.go t).th t).r.getD r 0 = 0 then s.go t else (s.go t).put t { (s.go t).th t with at_ := x }) = s.do_ t ⟨7, r, x, n⟩ := by
  rw [St.go_th s t ht, thr_go s t _ ht]
  unfold St.go
  rw [St.put_put]
  by_cases h : (s.th t).r.getD r 0 = 0
  · have h' : s.reg t ⟨7, r, x, n⟩ = 0 := h
    dsimp only
    rw [if_pos h]
    unfold St.thr
    simp only [h', ne_eq, not_true, and_false, if_false]
    rfl
  · have h' : ¬ s.reg t ⟨7, r, x, n⟩ = 0 := h
    dsimp only
    rw [if_neg h]
    unfold St.thr
    simp only [h', ne_eq, not_false_eq_true, and_self, if_true, Int.toNat_natCast]
    rfl
theorem go_assert (s : St) (t r x : Nat) (n : Int) (ht : t < s.ts.length) : s.go t = s.do_ t ⟨8, r, x, n⟩ := by
  rw [thr_go s t _ ht]; rfl

end Go.Proofs.Ytfhndbibabbnlaa
