/- The contracts of the calls of boxes. -/
import Derived.Test.YtpanfhkmildkeaaMlBox
import Derived.Test.YtpanfhkmildkeaaCln
import Derived.Deep.RegionWith
namespace Go.Proofs.Ytpanfhkmildkeaa
open Go.RowKit

set_option maxRecDepth 100000 in
theorem clone_txt (k : Txt) (w : World) (hk : k.length ≤ 281474976710656) : Calls Try.prog 15 #[.string ⟨k.toArray⟩] w fun r w' => r = .returned (.string ⟨k.toArray⟩) ∧ Below w.heap.size w w' := by
  have HC := Lib.hid (Try.lite_clone ⟨k.toArray⟩ w (by simp [ByteArray.size]; omega))
  go_enter Try.func15, Try.ntmps15
  go_wp2_with fail
  refine HC.out.mono ?_
  rintro r w1 ⟨rfl, hb⟩
  go_wp2
  go_ret
  exact ⟨rfl, hb⟩
/-- How many letters there are. -/
def totL {α : Type} (n : Nat) (T : Nat → List α) : Nat := ((List.range n).map fun j => (T j).length).sum
theorem totL_succ {α : Type} (n : Nat) (T : Nat → List α) : totL (n + 1) T = totL n T + (T n).length := by
  simp [totL, List.range_succ]
theorem totL_congr {α : Type} {n : Nat} {T U : Nat → List α} (h : ∀ j, j < n → (T j).length = (U j).length) : totL n T = totL n U := by
  induction n with
  | zero => rfl
  | succ n ih => rw [totL_succ, totL_succ, ih fun j hj => h j (by omega), h n (by omega)]
theorem totL_upd {α : Type} {n j : Nat} (T : Nat → List α) (l : List α) (hj : j < n) : totL n (updF T j l) + (T j).length = totL n T + l.length := by
  induction n with
  | zero => omega
  | succ n ih =>
    rw [totL_succ, totL_succ]
    by_cases e : j = n
    · subst e
      rw [updF_same, totL_congr (U := T) fun k hk => by rw [updF_ne _ _ (by omega)]]
      omega
    · rw [updF_ne _ _ (Ne.symm e)]
      have := ih (by omega)
      omega
theorem totL_le {α : Type} {n j : Nat} (T : Nat → List α) (hj : j < n) : (T j).length ≤ totL n T := by
  induction n with
  | zero => omega
  | succ n ih =>
    rw [totL_succ]
    by_cases e : j = n
    · subst e; omega
    · have := ih (by omega)
      omega
section
variable {w w' : World} {B b g n : Nat} {ids : List Nat} {le : Nat → Let} {nx : Nat → Option Nat} {cx : Nat → Value} {tot : Int} {ls : Nat → List Nat}
/-- Boxes that hold these letters, in these blocks. -/
def MU (w : World) (B b n : Nat) (S : Nat → Prop) (T : Nat → List Let) : Prop := ∃ g ids le nx cx ls, MOk w B b g n ids le nx cx (totL n T : Nat) ls ∧ (∀ j, j < n → (ls j).map le = T j) ∧ ∀ x, MS b g ids x ↔ S x
theorem MU.onlyS {S R : Nat → Prop} {T : Nat → List Let} (h : MU w B b n S T) (ho : OnlyS R w w') (hR : ∀ x, S x → ¬ R x) : MU w' B b n S T := by
  obtain ⟨g, ids, le, nx, cx, ls, q, h1, h2⟩ := h
  exact ⟨g, ids, le, nx, cx, ls, q.keep (q.mr.onlyS ho fun x hx => hR x ((h2 x).1 hx)), h1, h2⟩
theorem MU.later {S : Nat → Prop} {T : Nat → List Let} (h : MU w B b n S T) (hb : Below w.heap.size w w') : MU w' B b n S T := by
  obtain ⟨g, ids, le, nx, cx, ls, q, h1, h2⟩ := h
  exact ⟨g, ids, le, nx, cx, ls, q.keep (q.mr.later hb), h1, h2⟩
theorem MU.kinds {S : Nat → Prop} {T : Nat → List Let} (h : MU w B b n S T) {x : Nat} (hx : S x) : B ≤ x ∧ ∃ c ty, w.heap[x]? = some (.cells c ty (0, 0)) ∧ (ty = 49 ∨ ty = 54 ∨ ty = 59) := by
  obtain ⟨g, ids, le, nx, cx, ls, q, h1, h2⟩ := h
  exact q.mr.kinds ((h2 x).2 hx)
theorem MU.lt {S : Nat → Prop} {T : Nat → List Let} (h : MU w B b n S T) {x : Nat} (hx : S x) : x < w.heap.size := by
  obtain ⟨_, c, ty, e, _⟩ := h.kinds hx
  exact (Array.getElem?_eq_some_iff.1 e).1
theorem MU.not_row {S : Nat → Prop} {T : Nat → List Let} (q : MU w B b n S T) {g : Nat} {c : Array Value} {ty : TypeId} (h : w.heap[g]? = some (.cells c ty (0, 0))) (h1 : ty ≠ 49) (h2 : ty ≠ 54) (h3 : ty ≠ 59) : ¬ S g := fun hx => by
  obtain ⟨_, c', ty', e, e2⟩ := q.kinds hx
  rw [h] at e; injection e with e; injection e with _ e
  rcases e2 with rfl | rfl | rfl
  · exact h1 e
  · exact h2 e
  · exact h3 e
theorem MU.low {S : Nat → Prop} {T : Nat → List Let} (h : MU w B b n S T) : B ≤ w.heap.size := by
  obtain ⟨g, ids, le, nx, cx, ls, q, h1, h2⟩ := h
  exact q.mr.low
theorem MU.only {S : Nat → Prop} {T : Nat → List Let} (h : MU w B b n S T) {C : Nat} (hC : C ≤ B) (ho : OnlyS S w w') : Below C w w' := ho.below (Nat.le_trans hC h.low) fun _ hx => Nat.le_trans hC (h.kinds hx).1
set_option maxRecDepth 100000 in
theorem has_yes (q : MOk w B b g n ids le nx cx tot ls) {j : Nat} (hj : j < n) : Calls Try.prog 14 #[.pointer (some ⟨b, 0, none⟩), .int .i64 j] w fun r w' => r = .returned (.bool true) ∧ w = w' := by
  obtain ⟨c0, _⟩ := q.mr.cellB
  have h0 : (0 : Int) ≤ (j : Int) := by omega
  have h1 : (j : Int) < (n : Int) := by omega
  clear q
  go_enter Try.func14, Try.ntmps14
  go_wp2
  go_ret
  exact ⟨rfl, rfl⟩
set_option maxRecDepth 100000 in
theorem has_no (q : MOk w B b g n ids le nx cx tot ls) {z : Int} (hz : ¬ (0 ≤ z ∧ z < n)) : Calls Try.prog 14 #[.pointer (some ⟨b, 0, none⟩), .int .i64 z] w fun r w' => r = .returned (.bool false) ∧ w = w' := by
  obtain ⟨c0, _⟩ := q.mr.cellB
  clear q
  by_cases h0 : 0 ≤ z
  · have h1 : decide (z < (n : Int)) = false := decide_eq_false fun h => hz ⟨h0, h⟩
    clear hz
    go_enter Try.func14, Try.ntmps14
    go_wp2
    go_ret
    exact ⟨rfl, rfl⟩
  · have h1 : decide ((0 : Int) ≤ z) = false := decide_eq_false h0
    clear hz
    go_enter Try.func14, Try.ntmps14
    go_wp2
    go_ret
    exact ⟨rfl, rfl⟩
set_option maxRecDepth 100000 in
theorem has_nil (z : Int) (w : World) : Calls Try.prog 14 #[.pointer none, .int .i64 z] w fun r w' => r = .returned (.bool false) ∧ w = w' := by
  go_enter Try.func14, Try.ntmps14
  go_wp2
  go_ret
  exact ⟨rfl, rfl⟩
set_option maxRecDepth 100000 in
theorem mLen_raw (q : MOk w B b g n ids le nx cx tot ls) {j : Nat} (hj : j < n) : Calls Try.prog 11 #[.pointer (some ⟨b, 0, none⟩), .int .i64 j] w fun r w' => r = .returned (.int .i64 (ls j).length) ∧ w = w' := by
  have HH := Lib.hid (has_yes q hj)
  obtain ⟨c0, _⟩ := q.mr.cellB
  have c1 := q.mr.cellR (p := j * 3 + 2) (by omega)
  rw [q.count j hj] at c1
  have h1 : (j : Int) < (n : Int) := by omega
  clear q
  go_enter Try.func11, Try.ntmps11
  go_wp2_with fail
  refine HH.out.mono ?_
  rintro r w' ⟨rfl, rfl⟩
  go_wp2
  go_ret
  exact ⟨rfl, rfl⟩
theorem mLen_any {S : Nat → Prop} {T : Nat → List Let} (h : MU w B b n S T) {j : Nat} (hj : j < n) : Calls Try.prog 11 #[.pointer (some ⟨b, 0, none⟩), .int .i64 j] w fun r w' => r = .returned (.int .i64 (T j).length) ∧ w = w' := by
  obtain ⟨g, ids, le, nx, cx, ls, q, h1, h2⟩ := h
  have := mLen_raw q hj
  rw [← h1 j hj, List.length_map]
  exact this
set_option maxRecDepth 100000 in
theorem mLen_out {S : Nat → Prop} {T : Nat → List Let} (h : MU w B b n S T) {z : Int} (hz : ¬ (0 ≤ z ∧ z < n)) : Calls Try.prog 11 #[.pointer (some ⟨b, 0, none⟩), .int .i64 z] w fun r w' => r = .returned (.int .i64 0) ∧ w = w' := by
  obtain ⟨g, ids, le, nx, cx, ls, q, h1, h2⟩ := h
  have HH := Lib.hid (has_no q hz)
  clear q hz
  go_enter Try.func11, Try.ntmps11
  go_wp2_with fail
  refine HH.out.mono ?_
  rintro r w' ⟨rfl, rfl⟩
  go_wp2
  go_ret
  exact ⟨rfl, rfl⟩
set_option maxRecDepth 100000 in
theorem mLen_nil (z : Int) (w : World) : Calls Try.prog 11 #[.pointer none, .int .i64 z] w fun r w' => r = .returned (.int .i64 0) ∧ w = w' := by
  have HH := Lib.hid (has_nil z w)
  go_enter Try.func11, Try.ntmps11
  go_wp2_with fail
  refine HH.out.mono ?_
  rintro r w' ⟨rfl, rfl⟩
  go_wp2
  go_ret
  exact ⟨rfl, rfl⟩
set_option maxRecDepth 100000 in
theorem mTotal_any {S : Nat → Prop} {T : Nat → List Let} (h : MU w B b n S T) : Calls Try.prog 13 #[.pointer (some ⟨b, 0, none⟩)] w fun r w' => r = .returned (.int .i64 (totL n T : Nat)) ∧ w = w' := by
  obtain ⟨g, ids, le, nx, cx, ls, q, h1, h2⟩ := h
  obtain ⟨_, c1⟩ := q.mr.cellB
  clear q h1 h2
  go_enter Try.func13, Try.ntmps13
  go_wp2
  go_ret
  exact ⟨rfl, rfl⟩
set_option maxRecDepth 100000 in
theorem mTotal_nil (w : World) : Calls Try.prog 13 #[.pointer none] w fun r w' => r = .returned (.int .i64 0) ∧ w = w' := by
  go_enter Try.func13, Try.ntmps13
  go_wp2
  go_ret
  exact ⟨rfl, rfl⟩
end
end Go.Proofs.Ytpanfhkmildkeaa
