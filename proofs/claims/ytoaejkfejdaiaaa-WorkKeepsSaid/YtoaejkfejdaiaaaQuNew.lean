/- The contracts of a queue's Push and New. -/
import Derived.Test.YtoaejkfejdaiaaaQuCalls
import Derived.Test.YtoaejkfejdaiaaaClnT
namespace Go.Proofs.Ytoaejkfejdaiaaa
open Go.RowKit

section
variable {w w' w'' : World} {B b : Nat} {pre : Nat → Txt} {ids : List Nat} {vs : Nat → Value} {pl pl1 pl2 : Nat → Nat → Int} {ls : Nat → List Nat} {s t : Nat}
/-- A new item. -/
theorem QR.newItem (q : QR w B b pre ids vs pl ls) (k : Txt) {o : Obj} (ho : o = .cells #[.string ⟨k.toArray⟩, .int .i64 0, .int .i64 0] 72) : QR (w.alloc o) B b (updF pre w.heap.size k) (w.heap.size :: ids) vs (fun s => updF (pl s) w.heap.size 0) ls := by
  subst ho
  have q1 := q.later (below_alloc1 w (.cells #[.string ⟨k.toArray⟩, .int .i64 0, .int .i64 0] 72))
  refine ⟨q1.low, q1.lowb, q1.box, q1.row, q1.len, q1.apart, fun x hx => ?_, fun s hs x hx => List.mem_cons_of_mem _ (q.sub s hs x hx)⟩
  by_cases e : x = w.heap.size
  · subst e
    refine ⟨q.low, ?_⟩
    rw [heap_alloc_new]
    simp [itA, updF]
  · rcases List.mem_cons.1 hx with h | h
    · exact absurd h e
    · obtain ⟨h1, h2⟩ := q1.item x h
      refine ⟨h1, ?_⟩
      rw [h2]
      simp [itA, updF, e]
theorem sideOk_congr {pre pre' : Nat → Txt} {p p' : Nat → Int} {l : List Nat} (h : SideOk pre p l s) (h1 : ∀ x ∈ l, pre' x = pre x) (h2 : ∀ x ∈ l, p' x = p x) : SideOk pre' p' l s := by
  refine ⟨h.nodup, fun j hj => ?_, fun k k1 k2 => ?_⟩
  · rw [h2 _ (getD_mem hj)]; exact h.pos j hj
  · have := h.heap k k1 k2
    unfold ltQ at *
    rw [h1 _ (getD_mem k2), h1 _ (getD_mem (by omega))]
    exact this
/-- What Push's loop leaves behind k of the two ends. -/
def PushI (B b : Nat) (pre : Nat → Txt) (ids : List Nat) (vs : Nat → Value) (ls : Nat → List Nat) (x z : Nat) (w : World) (k : Nat) (wr : World) : Prop :=
  ∃ vs' pl' ls', QR wr B b pre ids vs' pl' ls' ∧ (∀ s, s < 2 → SideOk pre (pl' s) (ls' s) s) ∧ (∀ s, s < k → (ls' s).Perm (x :: ls s)) ∧ (∀ s, k ≤ s → s < 2 → ls' s = ls s) ∧ OnlyS (QS b ids vs) w wr ∧ ∀ y, QS b ids vs' y → QS b ids vs y ∨ z ≤ y
theorem pushI_step {x z k : Nat} (hk : k < 2) {vs' : Nat → Value} {pl' : Nat → Nat → Int} {ls' : Nat → List Nat} (ok : ∀ s, s < 2 → SideOk pre (pl' s) (ls' s) s) (h1 : ∀ s, s < k → (ls' s).Perm (x :: ls s)) (h2 : ∀ s, k ≤ s → s < 2 → ls' s = ls s) (o : OnlyS (QS b ids vs) w w') (hz : w.heap.size = z) (h3 : ∀ y, QS b ids vs' y → QS b ids vs y ∨ z ≤ y)
    (h : HPushR B b pre ids vs' pl' ls' k x w'.heap.size w' w'') : PushI B b pre ids vs ls x z w (k + 1) w'' := by
  obtain ⟨v', pl2, l2, q, ok2, ho, p, o2, hv⟩ := h
  refine ⟨_, _, _, q, fun s hs => ?_, fun s hs => ?_, fun s hs1 hs2 => ?_, ?_, fun y hy => ?_⟩
  · by_cases e : s = k
    · subst e; rw [updF_same]; exact ok2
    · rw [updF_ne _ _ e, ho s e]; exact ok s hs
  · by_cases e : s = k
    · subst e; rw [updF_same, ← h2 s (Nat.le_refl _) hk]; exact p
    · rw [updF_ne _ _ e]; exact h1 s (by omega)
  · rw [updF_ne _ _ (by omega)]; exact h2 s (by omega) hs2
  · refine o.thenS o2 fun y hy hq => ?_
    rcases h3 y hq with h4 | h4
    · exact h4
    · omega
  · rcases qs_upd hk hv hy with h4 | h4
    · exact h3 y h4
    · right
      have := o.size
      omega
theorem pushI_end {S : Nat → Prop} {T : List Txt} {x z : Nat} {tx : Txt} {u : World} (hx : pre x = tx) (hp : ((ls 0).map pre).Perm T) (hpp : (ls 0).Perm (ls 1)) (h : PushI B b pre (x :: ids) vs ls x z w 2 w') (hb : Below u.heap.size u w) (hxu : u.heap.size ≤ x) (hzu : u.heap.size ≤ z) (hS : ∀ y, QS b ids vs y → S y) : ∃ S', QU w' B b S' (tx :: T) ∧ OnlyS S u w' ∧ ∀ y, S' y → S y ∨ u.heap.size ≤ y := by
  obtain ⟨vs', pl', ls', q, ok, h1, _, o, h3⟩ := h
  have p0 := h1 0 (by omega)
  have p1 := h1 1 (by omega)
  have hq : ∀ y, QS b (x :: ids) vs y → S y ∨ u.heap.size ≤ y := fun y hy => by
    rcases hy with hy | hy | hy | hy
    · exact .inl (hS y (.inl hy))
    · exact .inl (hS y (.inr (.inl hy)))
    · exact .inl (hS y (.inr (.inr (.inl hy))))
    · rcases List.mem_cons.1 hy with rfl | hy
      · exact .inr hxu
      · exact .inl (hS y (.inr (.inr (.inr hy))))
  refine ⟨QS b (x :: ids) vs', ⟨pre, _, vs', pl', ls', ⟨q, ok, p0.trans ((hpp.cons x).trans p1.symm)⟩, ?_, fun _ => Iff.rfl⟩, (OnlyS.of_below hb).thenS o fun y hy h => ?_, fun y hy => ?_⟩
  · refine (p0.map pre).trans ?_
    rw [List.map_cons, hx]
    exact hp.cons tx
  · rcases hq y h with h4 | h4
    · exact h4
    · omega
  · rcases h3 y hy with h4 | h4
    · exact hq y h4
    · exact .inr (Nat.le_trans hzu h4)
set_option maxRecDepth 100000 in
set_option maxHeartbeats 2000000 in
theorem qPush_any {S : Nat → Prop} {T : List Txt} (h : QU w B b S T) (k : Txt) (hk : k.length ≤ 281474976710656) (hT : T.length < 100000) : Calls Try.prog 27 #[.pointer (some ⟨b, 0, none⟩), .string ⟨k.toArray⟩] w fun r w' => r = .returned (.tuple #[]) ∧ ∃ S', QU w' B b S' (k :: T) ∧ OnlyS S w w' ∧ ∀ y, S' y → S y ∨ w.heap.size ≤ y := by
  obtain ⟨pre, ids, vs, pl, ls, q, h1, h2⟩ := h
  have HC := Lib.hid (clone_txt k w hk)
  have hl0 : (ls 0).length = T.length := by rw [← h1.length_eq, List.length_map]
  have hl1 : (ls 1).length = T.length := by rw [← q.perm.length_eq, hl0]
  have Q := Lib.hid q
  have H1 := Lib.hid h1
  have H2 := Lib.hid h2
  clear q h1 h2 hk
  go_enter Try.func27, Try.ntmps27
  go_wp2_with fail
  refine HC.out.mono ?_
  rintro r w1 ⟨rfl, hb1⟩
  have hnx : ∀ s, s < 2 → ∀ y ∈ ls s, y ≠ w1.heap.size := fun s hs y hy e => by
    have h1 := Q.out.qr.lt (x := y) (.inr (.inr (.inr (Q.out.qr.sub s hs y hy))))
    have h2 := hb1.size
    omega
  have HNX := Lib.hid hnx
  have HI0 : Hid (PushI B b (updF pre w1.heap.size k) (w1.heap.size :: ids) vs ls w1.heap.size (w1.alloc (.cells #[.string ⟨k.toArray⟩, .int .i64 0, .int .i64 0] 72)).heap.size (w1.alloc (.cells #[.string ⟨k.toArray⟩, .int .i64 0, .int .i64 0] 72)) 0 (w1.alloc (.cells #[.string ⟨k.toArray⟩, .int .i64 0, .int .i64 0] 72))) := by
    refine ⟨vs, _, ls, (Q.out.qr.later hb1).newItem k rfl, fun s hs => sideOk_congr (Q.out.ok s hs) (fun y hy => updF_ne _ _ (hnx s hs y hy)) (fun y hy => updF_ne _ _ (hnx s hs y hy)), fun s hs => absurd hs (Nat.not_lt_zero _), fun _ _ _ => rfl, OnlyS.refl _ _, fun _ h => .inl h⟩
  have HBB : Hid (Below w.heap.size w (w1.alloc (.cells #[.string ⟨k.toArray⟩, .int .i64 0, .int .i64 0] 72))) := hb1.alloc hb1.size _
  have HXW := Lib.hid hb1.size
  clear hb1 hnx
  go_wp2_with fail
  generalize (w1.alloc (.cells #[.string ⟨k.toArray⟩, .int .i64 0, .int .i64 0] 72)) = W0 at *
  generalize w1.heap.size = x at *
  go_loopw [5, 12] (fun t5 t12 wr => ∃ j : Nat, j ≤ 2 ∧ t12 = .int .i64 j ∧ Hid (PushI B b (updF pre x k) (x :: ids) vs ls x W0.heap.size W0 j wr)) (fun _ t12 _ => 2 - (intOf t12).toNat)
  case atStart => exact ⟨0, Nat.zero_le _, rfl, HI0⟩
  case round =>
    clear HI0
    obtain ⟨j, hj, rfl, HI⟩ := hrel
    by_cases hlt : j < 2
    · obtain ⟨vs', pl', ls', q', ok', e1, e2, o', e3⟩ := HI.out
      have hll : (ls' j).length < 100000 := by rw [e2 j (Nat.le_refl _) hlt]; rcases two hlt with rfl | rfl <;> omega
      have HH := Lib.hid (heapPush_any q' hlt (ok' j hlt) (x := x) (List.mem_cons_self) (by rw [e2 j (Nat.le_refl _) hlt]; exact fun h => HNX.out j hlt x h rfl) hll)
      have HST : Hid (∀ w'', HPushR B b (updF pre x k) (x :: ids) vs' pl' ls' j x wr.heap.size wr w'' → PushI B b (updF pre x k) (x :: ids) vs ls x W0.heap.size W0 (j + 1) w'') := fun w'' h => pushI_step hlt ok' e1 e2 o' rfl e3 h
      clear q' ok' e1 e2 o' e3 hll HI
      go_wp2_with fail
      refine HH.out.mono ?_
      rintro r w5 ⟨rfl, h5⟩
      have HI5 := Lib.hid (HST.out w5 h5)
      clear h5
      go_wp2_with fail
      go_roundw
      case rel => exact ⟨j + 1, by omega, by go_num, HI5⟩
      case measure => simp [intOf]; omega
    · obtain rfl : j = 2 := by omega
      go_wp2
      refine bodyPost_end (results_none rfl _ _ _) rfl ⟨rfl, pushI_end (updF_same _ _ _) ?_ Q.out.perm HI.out HBB.out HXW.out HBB.out.size fun y h => (H2.out y).1 h⟩
      rw [List.map_congr_left fun y hy => updF_ne _ _ (HNX.out 0 (by omega) y hy)]
      exact H1.out
set_option maxRecDepth 100000 in
theorem qPush_nil (k : Txt) (w : World) : Calls Try.prog 27 #[.pointer none, .string ⟨k.toArray⟩] w fun r w' => r = .returned (.tuple #[]) ∧ w = w' := by
  go_enter Try.func27, Try.ntmps27
  go_wp2
  refine bodyPost_ret (v := .tuple #[]) (by simp [results, Try.results27, go_sem]) rfl ?_
  exact ⟨rfl, rfl⟩
set_option maxRecDepth 100000 in
theorem qNew_any (w : World) : Calls Try.prog 19 #[] w fun r w' => r = .returned (.pointer (some ⟨w.heap.size, 0, none⟩)) ∧ Below w.heap.size w w' ∧ ∃ S, QU w' w.heap.size w.heap.size S [] ∧ ∀ y, S y → w.heap.size ≤ y := by
  go_enter Try.func19, Try.ntmps19
  go_wp2
  go_ret
  refine ⟨rfl, below_alloc1 _ _, QS w.heap.size [] fun _ => .slice none 0 0, ⟨fun _ => [], [], fun _ => .slice none 0 0, fun _ _ => 0, fun _ => [], ⟨⟨by rw [World.size_alloc]; omega, Nat.le_refl _, heap_alloc_new w _, fun s hs => ownRow_nil _ _ _ _ _, fun s hs => Nat.zero_le _, (fun x h _ => by cases h), (fun x h => by cases h), (fun s hs x h => by cases h)⟩, fun s hs => ⟨List.nodup_nil, fun j hj => absurd hj (Nat.not_lt_zero _), fun k _ h => absurd h (Nat.not_lt_zero _)⟩, List.Perm.refl _⟩, List.Perm.refl _, fun _ => Iff.rfl⟩, fun y hy => ?_⟩
  rcases hy with rfl | hy | hy | hy
  · exact Nat.le_refl _
  · cases hy
  · cases hy
  · cases hy
end
theorem QU.not_row {w : World} {B b : Nat} {S : Nat → Prop} {T : List Txt} (q : QU w B b S T) {g : Nat} {c : Array Value} {ty : TypeId} (h : w.heap[g]? = some (.cells c ty (0, 0))) (h1 : ty ≠ 60) (h2 : ty ≠ 69) (h3 : ty ≠ 72) : ¬ S g := fun hx => by
  obtain ⟨_, c', ty', e, e2⟩ := q.kinds hx
  rw [h] at e; injection e with e; injection e with _ e
  rcases e2 with rfl | rfl | rfl
  · exact h1 e
  · exact h2 e
  · exact h3 e

end Go.Proofs.Ytoaejkfejdaiaaa
