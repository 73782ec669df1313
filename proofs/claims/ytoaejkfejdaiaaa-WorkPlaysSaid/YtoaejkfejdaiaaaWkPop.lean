/- The document's Push and Pop of work. -/
import Derived.Test.YtoaejkfejdaiaaaWkRef
import Derived.BigQuiet
import Derived.BigRegion
import Derived.Deep.RegionWith
namespace Go.Proofs.Ytoaejkfejdaiaaa
open Go.RowKit

/-- The document's work, whatever its slices. -/
def RK (w : World) (B b g n : Nat) (ls : Nat → List Txt) : Prop := ∃ vs, RW w B b g n vs ls
section
variable {w w' : World} {B b g n : Nat} {ls : Nat → List Txt}
theorem RK.later (q : RK w B b g n ls) (hb : Below w.heap.size w w') : RK w' B b g n ls := by
  obtain ⟨vs, q⟩ := q
  exact ⟨vs, q.later hb⟩
theorem RW.first {vs : Nat → Value} (q : RW w B b g n vs ls) {j : Nat} (hj : j < n) {k : Txt} {l : List Txt} (e : ls j = k :: l) : ∃ x o cap, vs j = .slice (some ⟨x, o, none⟩) (l.length + 1) cap ∧ l.length + 1 ≤ cap ∧ w.cell? ⟨x, o, none⟩ = some (.string ⟨k.toArray⟩) ∧ TxtV w B (.slice (some ⟨x, o, none⟩) (l.length + 1) cap) (k :: l) := by
  have t := q.txt j hj
  rw [e] at t
  obtain ⟨a, cap, e1, hc, hr⟩ := t.form
  obtain ⟨x, o, c, rfl, _, h1, h2⟩ := hr (List.cons_ne_nil _ _)
  refine ⟨x, o, cap, by rw [e1]; rfl, hc, ?_, ?_⟩
  · rw [cell_of_row w x o _ _ _ h1]
    exact h2 0 (by simp)
  · rw [e1] at t
    exact t
/-- One is taken off. -/
def PopR (B b g n : Nat) (ls : Nat → List Txt) (j : Nat) (k : Txt) (l : List Txt) (w : World) (r : Ending) (w' : World) : Prop :=
  r = .returned (.tuple #[.string ⟨k.toArray⟩, .bool true]) ∧ RK w' B b g n (updF ls j l) ∧ OnlyS (fun x => x = g) w w'
set_option maxRecDepth 100000 in
theorem refPop_out (q : RK w B b g n ls) (z : Int) (hz : isW n z = false) : Calls Try.prog 11 #[.pointer (some ⟨b, 0, none⟩), .int .i64 z] w fun r w' => r = .returned (.tuple #[.string ⟨#[]⟩, .bool false]) ∧ w' = w := by
  obtain ⟨vs, q⟩ := q
  have HI := refIs_any q z
  rw [hz] at HI
  clear q
  go_enter Try.func11, Try.ntmps11
  go_wp2_with fail
  refine HI.mono ?_
  rintro r w' ⟨rfl, rfl⟩
  go_wp2
  refine bodyPost_ret (v := .tuple #[.string ⟨#[]⟩, .bool false]) (by simp [results, Try.results11, go_sem]) rfl ?_
  exact ⟨rfl, rfl⟩
set_option maxRecDepth 100000 in
theorem refPop_none (q : RK w B b g n ls) {j : Nat} (hj : j < n) (he : ls j = []) : Calls Try.prog 11 #[.pointer (some ⟨b, 0, none⟩), .int .i64 (j : Int)] w fun r w' => r = .returned (.tuple #[.string ⟨#[]⟩, .bool false]) ∧ w' = w := by
  obtain ⟨vs, q⟩ := q
  have HI := refIs_any q (j : Int)
  rw [show isW n (j : Int) = true by simp [isW, hj]] at HI
  have HC0 := Lib.hid q.cellB
  obtain ⟨a, cap, e, _, _⟩ := q.form hj (by rw [he]; simp)
  have HC1 := Lib.hid (q.cellR hj)
  rw [e, he] at HC1
  clear q e
  go_enter Try.func11, Try.ntmps11
  go_wp2_with fail
  refine HI.mono ?_
  rintro r w' ⟨rfl, rfl⟩
  have c0 := HC0.out
  have c1 := HC1.out
  go_wp2
  refine bodyPost_ret (v := .tuple #[.string ⟨#[]⟩, .bool false]) (by simp [results, Try.results11, go_sem]) rfl ?_
  exact ⟨rfl, rfl⟩
set_option maxRecDepth 100000 in
set_option maxHeartbeats 1000000 in
theorem refPop_any (q : RK w B b g n ls) {j : Nat} (hj : j < n) {k : Txt} {l : List Txt} (he : ls j = k :: l) (hl : l.length ≤ 1000) : Calls Try.prog 11 #[.pointer (some ⟨b, 0, none⟩), .int .i64 (j : Int)] w (PopR B b g n ls j k l w) := by
  obtain ⟨vs, q⟩ := q
  have HI := refIs_any q (j : Int)
  rw [show isW n (j : Int) = true by simp [isW, hj]] at HI
  have HC0 := Lib.hid q.cellB
  obtain ⟨x, o, cap, e, hc, c2, ht⟩ := q.first hj he
  have HC1 := Lib.hid (q.cellR hj)
  rw [e] at HC1
  have HF := Lib.hid (q.frozen j)
  have HC2 := Lib.hid c2
  by_cases h1 : cap = 1
  · have HS := Lib.hid (q.store j (ht.one h1))
    have hz : l.length = 0 := by omega
    generalize l.length = m at *
    subst h1 hz
    clear q e c2 ht
    go_enter Try.func11, Try.ntmps11
    go_wp2_with fail
    refine HI.mono ?_
    rintro r w' ⟨rfl, rfl⟩
    have c0 := HC0.out
    have c1 := HC1.out
    have c2 := HC2.out
    have f1 := HF.out
    go_wp2
    go_region
    go_wp2
    refine bodyPost_ret (v := .tuple #[.string ⟨k.toArray⟩, .bool true]) (by simp [results, Try.results11, go_sem]) rfl ?_
    exact ⟨rfl, ⟨_, HS.out.1.drew⟩, HS.out.2.os, HS.out.2.tape, HS.out.2.output, HS.out.2.size, HS.out.2.block⟩
  · have HS := Lib.hid (q.store j ht.tail)
    generalize l.length = m at *
    have hn0 : ((m : Int) + 1 == 0) = false := by rw [beq_eq_false_iff_ne]; omega
    clear q e c2 ht
    go_enter Try.func11, Try.ntmps11
    go_wp2_with fail
    refine HI.mono ?_
    rintro r w' ⟨rfl, rfl⟩
    have c0 := HC0.out
    have c1 := HC1.out
    have c2 := HC2.out
    have f1 := HF.out
    go_wp2
    go_region
    go_wp2
    refine bodyPost_ret (v := .tuple #[.string ⟨k.toArray⟩, .bool true]) (by simp [results, Try.results11, go_sem]) rfl ?_
    exact ⟨rfl, ⟨_, HS.out.1.drew⟩, HS.out.2.os, HS.out.2.tape, HS.out.2.output, HS.out.2.size, HS.out.2.block⟩
/-- One is put in. -/
def PutR (B b g n : Nat) (ls : Nat → List Txt) (j : Nat) (s : Txt) (w w' : World) : Prop :=
  RK w' B b g n (updF ls j (putT (ls j) s)) ∧ OnlyS (fun x => x = g) w w'
theorem put_mk {vs : Nat → Value} (q : RW w B b g n vs ls) (j : Nat) (s : Txt) {w4 : World} {v : Value} (h1 : OwnRow w4 w.heap.size 9 1 txtCell v (putT (ls j) s)) (hb : Below w.heap.size w w4) : PutR B b g n ls j s w (w4.setCell ⟨g, j, none⟩ v) := by
  obtain ⟨h2, h3⟩ := (q.later hb).store j ((txtV_own h1).low q.low)
  have o := (OnlyS.of_below hb).trans h3
  exact ⟨⟨_, h2⟩, o⟩
set_option maxRecDepth 100000 in
theorem refPush_no (q : RK w B b g n ls) (hn : n ≤ 64) (hl : ∀ j, j < n → (ls j).length ≤ 1000) (z : Int) (s : Txt) (hz : isW n z = false ∨ hasW n ls s = true) : Calls Try.prog 9 #[.pointer (some ⟨b, 0, none⟩), .int .i64 z, .string ⟨s.toArray⟩] w fun r w' => r = .returned (.bool false) ∧ w' = w := by
  obtain ⟨vs, q⟩ := q
  have HI := refIs_any q z
  have HH := refHas_any q hn hl s
  clear q hl
  cases h1 : isW n z
  · rw [h1] at HI
    clear HH
    go_enter Try.func9, Try.ntmps9
    go_wp2_with fail
    refine HI.mono ?_
    rintro r w' ⟨rfl, rfl⟩
    go_wp2
    go_ret
    exact ⟨rfl, rfl⟩
  · rw [h1] at HI
    rw [hz.resolve_left (by rw [h1]; simp)] at HH
    go_enter Try.func9, Try.ntmps9
    go_wp2_with fail
    refine HI.mono ?_
    rintro r w' ⟨rfl, rfl⟩
    go_wp2_with fail
    refine HH.mono ?_
    rintro r w' ⟨rfl, rfl⟩
    go_wp2
    go_ret
    exact ⟨rfl, rfl⟩
set_option maxRecDepth 100000 in
set_option maxHeartbeats 1000000 in
theorem refPush_yes (q : RK w B b g n ls) (hn : n ≤ 64) (hl : ∀ j, j < n → (ls j).length ≤ 1000) {j : Nat} (hj : j < n) (s : Txt) (hs : hasW n ls s = false) : Calls Try.prog 9 #[.pointer (some ⟨b, 0, none⟩), .int .i64 (j : Int), .string ⟨s.toArray⟩] w fun r w' => r = .returned (.bool true) ∧ PutR B b g n ls j s w w' := by
  obtain ⟨vs, q⟩ := q
  have HI := refIs_any q (j : Int)
  rw [show isW n (j : Int) = true by simp [isW, hj]] at HI
  have HH := refHas_any q hn hl s
  rw [hs] at HH
  have HC0 := Lib.hid q.cellB
  obtain ⟨a, cap, e, hc, hrow⟩ := q.form hj (hl j hj)
  have HC1 := Lib.hid (q.cellR hj)
  rw [e] at HC1
  have HP : Hid (Calls Try.prog 23 #[.slice a (ls j).length cap, .string ⟨s.toArray⟩] w.drew fun r w' => ∃ v, r = .returned v ∧ OwnRow w' w.heap.size 9 1 txtCell v (putT (ls j) s) ∧ Below w.heap.size w w') :=
    (refPut_any a cap (ls j) s w.drew (hrow.later (w' := w.drew) ⟨rfl, rfl, rfl, Nat.le_refl _, fun _ _ => rfl⟩) (hl j hj)).mono fun r w' ⟨v, h1, h2, h3⟩ => ⟨v, h1, h2, h3.os, h3.tape, h3.output, h3.size, h3.block⟩
  have HM := Lib.hid (fun w4 v h1 hb => put_mk q j s (w4 := w4) (v := v) h1 hb)
  have HF := Lib.hid (q.frozen j)
  have HB := Lib.hid (fun w4 (hb : Below w.heap.size w w4) => And.intro (e ▸ (q.later hb).cellR hj) (And.intro ((q.later hb).frozen j) (q.later hb).cellB))
  have hlj := hl j hj
  clear q e hrow hl
  generalize (ls j).length = m at *
  go_enter Try.func9, Try.ntmps9
  go_wp2_with fail
  refine HI.mono ?_
  rintro r w' ⟨rfl, rfl⟩
  go_wp2_with fail
  refine HH.mono ?_
  rintro r w' ⟨rfl, rfl⟩
  have c0 := HC0.out
  have c1 := HC1.out
  have f1 := HF.out
  go_wp2_with fail
  go_region_with (go_at_call 23; refine HP.out.mono ?_; rintro r w4 ⟨v4, rfl, h1, hb⟩; obtain ⟨c4, f4, c5⟩ := HB.out w4 hb; obtain ⟨a4, cap4, rfl, _⟩ := (txtV_own h1).form; have HR := Lib.hid (HM.out w4 _ h1 hb); clear h1 hb)
  all_goals (go_wp2; go_ret; exact ⟨rfl, HR.out⟩)
end
end Go.Proofs.Ytoaejkfejdaiaaa
