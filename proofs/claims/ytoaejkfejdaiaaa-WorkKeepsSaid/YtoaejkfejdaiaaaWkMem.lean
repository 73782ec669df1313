/- The program's work, in memory: a row of queues, and who has what. -/
import Derived.Test.YtoaejkfejdaiaaaQuNew
import Derived.Test.YtoaejkfejdaiaaaOwM
import Derived.Test.YtoaejkfejdaiaaaWkPlain
namespace Go.Proofs.Ytoaejkfejdaiaaa
open Go.RowKit

/-- Work: its box, its row of pointers, of each the queue in blocks of its own, and the map. -/
structure WM (w : World) (B b g mb n cap cnt : Nat) (qs : Nat → Nat) (Sq : Nat → Nat → Prop) (T : Nat → List Txt) (f : Txt → Bool) (c : Nat) : Prop where
  low : B ≤ w.heap.size
  lowb : B ≤ b
  lowm : B ≤ mb
  box : w.heap[b]? = some (.cells #[.slice (some ⟨g, 0, none⟩) n cap, .map (some mb)] 49 (0, 0))
  row : ∃ cs, w.heap[g]? = some (.cells cs 50 (0, 0)) ∧ ∀ j, j < n → cs[j]? = some (.pointer (some ⟨qs j, 0, none⟩))
  cap : n ≤ cap
  qu : ∀ j, j < n → QU w B (qs j) (Sq j) (T j)
  apart : ∀ i j, i < n → j < n → i ≠ j → ∀ x, Sq i x → ¬ Sq j x
  map : IM w mb cnt f c
section
variable {w w' : World} {B b g mb n cap cnt c : Nat} {qs : Nat → Nat} {Sq : Nat → Nat → Prop} {T : Nat → List Txt} {f : Txt → Bool}
theorem WM.later (q : WM w B b g mb n cap cnt qs Sq T f c) (hb : Below w.heap.size w w') : WM w' B b g mb n cap cnt qs Sq T f c := by
  obtain ⟨cs, h1, h2⟩ := q.row
  exact ⟨Nat.le_trans q.low hb.size, q.lowb, q.lowm, (hb.block _ (Array.getElem?_eq_some_iff.1 q.box).1).trans q.box, ⟨cs, (hb.block _ (Array.getElem?_eq_some_iff.1 h1).1).trans h1, h2⟩, q.cap, fun j hj => (q.qu j hj).later hb, q.apart, q.map.later hb⟩
theorem WM.cellB (q : WM w B b g mb n cap cnt qs Sq T f c) : w.cell? ⟨b, 0, none⟩ = some (.slice (some ⟨g, 0, none⟩) n cap) ∧ w.cell? ⟨b, 1, none⟩ = some (.map (some mb)) := by
  rw [cell_of_row w b 0 _ _ _ q.box, cell_of_row w b 1 _ _ _ q.box]
  exact ⟨rfl, rfl⟩
theorem WM.cellR (q : WM w B b g mb n cap cnt qs Sq T f c) {j : Nat} (hj : j < n) : w.cell? ⟨g, j, none⟩ = some (.pointer (some ⟨qs j, 0, none⟩)) := by
  obtain ⟨cs, h1, h2⟩ := q.row
  rw [cell_of_row w g j _ _ _ h1, h2 j hj]
/-- One queue is changed. -/
theorem WM.queue (q : WM w B b g mb n cap cnt qs Sq T f c) {j : Nat} (hj : j < n) {S' : Nat → Prop} {T' : List Txt} (hq : QU w' B (qs j) S' T') (o : OnlyS (Sq j) w w') (hS : ∀ y, S' y → Sq j y ∨ w.heap.size ≤ y) : WM w' B b g mb n cap cnt qs (updF Sq j S') (updF T j T') f c := by
  obtain ⟨cs, h1, h2⟩ := q.row
  have hqj := q.qu j hj
  have key : ∀ k, k < n → k ≠ j → ∀ x, S' x → Sq k x → False := fun k hk hkj x h3 h4 => by
    rcases hS x h3 with h5 | h5
    · exact q.apart j k hj hk (Ne.symm hkj) x h5 h4
    · have := (q.qu k hk).lt h4
      omega
  refine ⟨hq.low, q.lowb, q.lowm, o.row q.box (hqj.not_row q.box (by decide) (by decide) (by decide)), ⟨cs, o.row h1 (hqj.not_row h1 (by decide) (by decide) (by decide)), h2⟩, q.cap, fun k hk => ?_, fun i k hi hk hik x h3 h4 => ?_, q.map.onlyS o fun h => ?_⟩
  · by_cases e : k = j
    · subst e; rw [updF_same, updF_same]; exact hq
    · rw [updF_ne _ _ e, updF_ne _ _ e]
      exact (q.qu k hk).onlyS o fun x h3 h4 => q.apart k j hk hj e x h3 h4
  · by_cases e1 : i = j
    · subst e1
      rw [updF_same] at h3
      rw [updF_ne _ _ (Ne.symm hik)] at h4
      exact key k hk (Ne.symm hik) x h3 h4
    · rw [updF_ne _ _ e1] at h3
      by_cases e2 : k = j
      · subst e2
        rw [updF_same] at h4
        exact key i hi e1 x h4 h3
      · rw [updF_ne _ _ e2] at h4
        exact q.apart i k hi hk hik x h3 h4
  · obtain ⟨_, d, ty, e, _⟩ := hqj.kinds h
    exact q.map.not_cells e
/-- The map is changed. -/
theorem WM.mapped (q : WM w B b g mb n cap cnt qs Sq T f c) {cnt' c' : Nat} {f' : Txt → Bool} (m : IM w' mb cnt' f' c') (o : OnlyS (fun y => y = mb) w w') : WM w' B b g mb n cap cnt' qs Sq T f' c' := by
  obtain ⟨cs, h1, h2⟩ := q.row
  refine ⟨Nat.le_trans q.low o.size, q.lowb, q.lowm, o.row q.box fun e => ?_, ⟨cs, o.row h1 fun e => ?_, h2⟩, q.cap, fun j hj => (q.qu j hj).onlyS o fun x hx e => ?_, q.apart, m⟩
  · have h := q.box
    rw [e] at h
    exact q.map.not_cells h
  · rw [e] at h1
    exact q.map.not_cells h1
  · obtain ⟨_, d, ty, e2, _⟩ := (q.qu j hj).kinds hx
    rw [e] at e2
    exact q.map.not_cells e2
/-- Work, in these blocks. -/
def WK (w : World) (B b n cnt : Nat) (S : Nat → Prop) (T : Nat → List Txt) (f : Txt → Bool) (c : Nat) : Prop := ∃ g mb cap qs Sq, WM w B b g mb n cap cnt qs Sq T f c ∧ ∀ x, S x ↔ (x = mb ∨ ∃ j, j < n ∧ Sq j x)
variable {S : Nat → Prop}
theorem WK.later (h : WK w B b n cnt S T f c) (hb : Below w.heap.size w w') : WK w' B b n cnt S T f c := by
  obtain ⟨g, mb, cap, qs, Sq, q, hS⟩ := h
  exact ⟨g, mb, cap, qs, Sq, q.later hb, hS⟩
theorem WK.kinds (h : WK w B b n cnt S T f c) {x : Nat} (hx : S x) : B ≤ x ∧ ((∃ es ck, w.heap[x]? = some (.map es ck)) ∨ ∃ d ty, w.heap[x]? = some (.cells d ty (0, 0)) ∧ (ty = 60 ∨ ty = 69 ∨ ty = 72)) := by
  obtain ⟨g, mb, cap, qs, Sq, q, hS⟩ := h
  rcases (hS x).1 hx with rfl | ⟨j, hj, hx⟩
  · obtain ⟨M, ⟨es, ck, e1, _⟩, _⟩ := q.map.map
    exact ⟨q.lowm, .inl ⟨es, ck, e1⟩⟩
  · obtain ⟨h1, h2⟩ := (q.qu j hj).kinds hx
    exact ⟨h1, .inr h2⟩
theorem WK.not_row (h : WK w B b n cnt S T f c) {g : Nat} {d : Array Value} {ty : TypeId} (e : w.heap[g]? = some (.cells d ty (0, 0))) (h1 : ty ≠ 60) (h2 : ty ≠ 69) (h3 : ty ≠ 72) : ¬ S g := fun hx => by
  rcases (h.kinds hx).2 with ⟨es, ck, e2⟩ | ⟨d', ty', e2, e3⟩
  · rw [e] at e2; cases e2
  · rw [e] at e2; injection e2 with e2; injection e2 with _ e2
    rcases e3 with rfl | rfl | rfl
    · exact h1 e2
    · exact h2 e2
    · exact h3 e2
theorem WK.lt (h : WK w B b n cnt S T f c) {x : Nat} (hx : S x) : x < w.heap.size := by
  rcases (h.kinds hx).2 with ⟨es, ck, e2⟩ | ⟨d', ty', e2, e3⟩
  · exact (Array.getElem?_eq_some_iff.1 e2).1
  · exact (Array.getElem?_eq_some_iff.1 e2).1
theorem WK.low (h : WK w B b n cnt S T f c) : B ≤ w.heap.size := by
  obtain ⟨g, mb, cap, qs, Sq, q, hS⟩ := h
  exact q.low
theorem WK.only (h : WK w B b n cnt S T f c) {C : Nat} (hC : C ≤ B) (ho : OnlyS S w w') : Below C w w' := ho.below (Nat.le_trans hC h.low) fun _ hx => Nat.le_trans hC (h.kinds hx).1
theorem WK.perm (h : WK w B b n cnt S T f c) {T' : Nat → List Txt} (p : ∀ j, j < n → (T j).Perm (T' j)) : WK w B b n cnt S T' f c := by
  obtain ⟨g, mb, cap, qs, Sq, q, hS⟩ := h
  exact ⟨g, mb, cap, qs, Sq, ⟨q.low, q.lowb, q.lowm, q.box, q.row, q.cap, fun j hj => (q.qu j hj).perm (p j hj), q.apart, q.map⟩, hS⟩
theorem WK.congr (h : WK w B b n cnt S T f c) {f' : Txt → Bool} {c' : Nat} (e : ∀ k, f k = f' k) (e2 : c = c') : WK w B b n cnt S T f' c' := by
  have : f = f' := funext e
  rw [← this, ← e2]; exact h
theorem WK.mono (h : WK w B b n cnt S T f c) {cnt' : Nat} (e : cnt ≤ cnt') : WK w B b n cnt' S T f c := by
  obtain ⟨g, mb, cap, qs, Sq, q, hS⟩ := h
  exact ⟨g, mb, cap, qs, Sq, ⟨q.low, q.lowb, q.lowm, q.box, q.row, q.cap, q.qu, q.apart, q.map.mono e⟩, hS⟩
/-- What a change leaves. -/
def WR (B b n cnt : Nat) (S : Nat → Prop) (T : Nat → List Txt) (f : Txt → Bool) (c : Nat) (w w' : World) : Prop := ∃ S', WK w' B b n cnt S' T f c ∧ OnlyS S w w' ∧ ∀ y, S' y → S y ∨ w.heap.size ≤ y
theorem WK.as (h : WM w B b g mb n cap cnt qs Sq T f c) : WK w B b n cnt (fun x => x = mb ∨ ∃ j, j < n ∧ Sq j x) T f c := ⟨g, mb, cap, qs, Sq, h, fun _ => Iff.rfl⟩
end
section
variable {w : World} {B b g mb n cap cnt c : Nat} {qs : Nat → Nat} {Sq : Nat → Nat → Prop} {T : Nat → List Txt} {f : Txt → Bool} {S : Nat → Prop}
set_option maxRecDepth 100000 in
theorem wIs_any (h : WK w B b n cnt S T f c) (z : Int) : Calls Try.prog 20 #[.pointer (some ⟨b, 0, none⟩), .int .i64 z] w fun r w' => r = .returned (.bool (isW n z)) ∧ w' = w := by
  obtain ⟨g, mb, cap, qs, Sq, q, hS⟩ := h
  have c0 := q.cellB.1
  clear q hS
  by_cases h : 0 ≤ z
  · have hd : decide (z ≥ 0) = true := by simpa using h
    go_enter Try.func20, Try.ntmps20
    go_wp2
    go_ret
    exact ⟨by simp [isW, h], rfl⟩
  · have hd : decide (z ≥ 0) = false := by simpa using h
    go_enter Try.func20, Try.ntmps20
    go_wp2
    go_ret
    exact ⟨by simp [isW]; omega, rfl⟩
set_option maxRecDepth 100000 in
theorem wIs_nil (z : Int) (w : World) : Calls Try.prog 20 #[.pointer none, .int .i64 z] w fun r w' => r = .returned (.bool false) ∧ w' = w := by
  go_enter Try.func20, Try.ntmps20
  go_wp2
  go_ret
  exact ⟨rfl, rfl⟩
set_option maxRecDepth 100000 in
theorem wHas_any (h : WK w B b n cnt S T f c) {k : Txt} (hk : k.length ≤ 1000) : Calls Try.prog 17 #[.pointer (some ⟨b, 0, none⟩), .string ⟨k.toArray⟩] w fun r w' => r = .returned (.bool (f k)) ∧ w' = w := by
  obtain ⟨g, mb, cap, qs, Sq, q, hS⟩ := h
  have c0 := q.cellB.2
  obtain ⟨v, hl⟩ := q.map.look hk
  clear q hS
  go_enter Try.func17, Try.ntmps17
  go_wp2
  go_ret
  exact ⟨rfl, rfl⟩
set_option maxRecDepth 100000 in
theorem wHas_nil (k : Txt) (w : World) : Calls Try.prog 17 #[.pointer none, .string ⟨k.toArray⟩] w fun r w' => r = .returned (.bool false) ∧ w' = w := by
  go_enter Try.func17, Try.ntmps17
  go_wp2
  go_ret
  exact ⟨rfl, rfl⟩
set_option maxRecDepth 100000 in
theorem wTotal_any (h : WK w B b n cnt S T f c) : Calls Try.prog 15 #[.pointer (some ⟨b, 0, none⟩)] w fun r w' => r = .returned (.int .i64 (c : Nat)) ∧ w' = w := by
  obtain ⟨g, mb, cap, qs, Sq, q, hS⟩ := h
  have c0 := q.cellB.2
  have hl : ∀ ty, (Builtin.len_ #[46] ty #[.map (some mb)]).run Try.prog w = .ok (.int .i64 (c : Nat)) w := fun ty => q.map.len ty
  clear q hS
  go_enter Try.func15, Try.ntmps15
  go_wp2
  go_ret
  exact ⟨rfl, rfl⟩
set_option maxRecDepth 100000 in
theorem wTotal_nil (w : World) : Calls Try.prog 15 #[.pointer none] w fun r w' => r = .returned (.int .i64 0) ∧ w' = w := by
  go_enter Try.func15, Try.ntmps15
  go_wp2
  go_ret
  exact ⟨rfl, rfl⟩
set_option maxRecDepth 100000 in
theorem wLen_any (h : WK w B b n cnt S T f c) {j : Nat} (hj : j < n) : Calls Try.prog 14 #[.pointer (some ⟨b, 0, none⟩), .int .i64 (j : Int)] w fun r w' => r = .returned (.int .i64 (T j).length) ∧ w' = w := by
  have HI := wIs_any h (j : Int)
  rw [show isW n (j : Int) = true by simp [isW, hj]] at HI
  obtain ⟨g, mb, cap, qs, Sq, q, hS⟩ := h
  have HC0 := Lib.hid q.cellB.1
  have HC1 := Lib.hid (q.cellR hj)
  have HL := Lib.hid (qLen_any (q.qu j hj))
  clear q hS
  go_enter Try.func14, Try.ntmps14
  go_wp2_with fail
  refine HI.mono ?_
  rintro r w' ⟨rfl, rfl⟩
  have c0 := HC0.out
  have c1 := HC1.out
  go_wp2_with fail
  refine HL.out.mono ?_
  rintro r w' ⟨rfl, rfl⟩
  go_wp2
  go_ret
  exact ⟨rfl, rfl⟩
set_option maxRecDepth 100000 in
/-- Where there is no such worker, it has none. -/
theorem len_zero (p : Option Addr) (z : Int) (w : World) (h : Calls Try.prog 20 #[.pointer p, .int .i64 z] w fun r w' => r = .returned (.bool false) ∧ w' = w) : Calls Try.prog 14 #[.pointer p, .int .i64 z] w fun r w' => r = .returned (.int .i64 0) ∧ w' = w := by
  have HI := Lib.hid h
  clear h
  go_enter Try.func14, Try.ntmps14
  go_wp2_with fail
  refine HI.out.mono ?_
  rintro r w' ⟨rfl, rfl⟩
  go_wp2
  go_ret
  exact ⟨rfl, rfl⟩
theorem wLen_out (h : WK w B b n cnt S T f c) {z : Int} (hz : isW n z = false) : Calls Try.prog 14 #[.pointer (some ⟨b, 0, none⟩), .int .i64 z] w fun r w' => r = .returned (.int .i64 0) ∧ w' = w :=
  len_zero _ _ _ (by have := wIs_any h z; rw [hz] at this; exact this)
theorem wLen_nil (z : Int) (w : World) : Calls Try.prog 14 #[.pointer none, .int .i64 z] w fun r w' => r = .returned (.int .i64 0) ∧ w' = w := len_zero _ _ _ (wIs_nil z w)
end
end Go.Proofs.Ytoaejkfejdaiaaa
