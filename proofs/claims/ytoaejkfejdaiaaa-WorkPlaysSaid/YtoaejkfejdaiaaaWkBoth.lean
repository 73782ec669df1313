/- The program's work beside the document's: a call of the one, then of the other. -/
import Derived.Test.YtoaejkfejdaiaaaWkWake
import Derived.Test.YtoaejkfejdaiaaaWkSteal
namespace Go.Proofs.Ytoaejkfejdaiaaa
open Go.RowKit

section
variable {w w' : World} {B b n cnt c : Nat} {T : Nat → List Txt} {f : Txt → Bool} {S : Nat → Prop}
/-- A block of another type is changed. -/
theorem WK.keepT (h : WK w B b n cnt S T f c) {y : Nat} {d : Array Value} {ty : TypeId} (hy : w.heap[y]? = some (.cells d ty (0, 0))) (h1 : ty ≠ 60) (h2 : ty ≠ 69) (h3 : ty ≠ 72) (h4 : ty ≠ 49) (h5 : ty ≠ 50) (o : OnlyS (fun x => x = y) w w') : WK w' B b n cnt S T f c := by
  obtain ⟨g, mb, cap, qs, Sq, q, hS⟩ := h
  have key : ∀ {x : Nat} {e : Array Value} {t : TypeId}, w.heap[x]? = some (.cells e t (0, 0)) → t ≠ ty → x ≠ y := fun hx ht e => by
    rw [e, hy] at hx; injection hx with hx; injection hx with _ hx
    exact ht hx.symm
  obtain ⟨cs, h6, h7⟩ := q.row
  refine ⟨g, mb, cap, qs, Sq, ⟨Nat.le_trans q.low o.size, q.lowb, q.lowm, o.row q.box (key q.box (Ne.symm h4)), ⟨cs, o.row h6 (key h6 (Ne.symm h5)), h7⟩, q.cap, fun j hj => (q.qu j hj).onlyS o fun x hx e => ?_, q.apart, q.map.onlyS o fun e => ?_⟩, hS⟩
  · subst e
    exact (q.qu j hj).not_row hy h1 h2 h3 hx
  · subst e
    exact q.map.not_cells hy
end
/-- Both. -/
structure PW (w : World) (B b D bb g n cnt : Nat) (S : Nat → Prop) (T : Nat → List Txt) (wr : World) : Prop where
  q : WU wr B b n cnt S T
  r : RK wr D bb g n T
  below : Below w.heap.size w wr
  base : w.heap.size ≤ B
  dbase : w.heap.size ≤ D
/-- Both, and a call's box. -/
def PS (w : World) (B b D bb g n cnt : Nat) (T : Nat → List Txt) (G : Nat) (c : Array Value) (wr : World) : Prop := ∃ S, PW w B b D bb g n cnt S T wr ∧ wr.heap[G]? = some (.cells c 33 (0, 0))
section
variable {w W W7 W8 : World} {B b D bb g n cnt cnt' G : Nat} {T T' : Nat → List Txt} {S : Nat → Prop} {c : Array Value}
theorem PW.later (h : PW w B b D bb g n cnt S T W) (hb : Below W.heap.size W W7) : PW w B b D bb g n cnt S T W7 := ⟨h.q.later hb, h.r.later hb, h.below.trans (hb.mono h.below.size), h.base, h.dbase⟩
theorem PS.later (h : PS w B b D bb g n cnt T G c W) (hb : Below W.heap.size W W7) : PS w B b D bb g n cnt T G c W7 := by
  obtain ⟨S, h1, h2⟩ := h
  exact ⟨S, h1.later hb, (hb.block _ (Array.getElem?_eq_some_iff.1 h2).1).trans h2⟩
theorem PS.mono (h : PS w B b D bb g n cnt T G c W) (e : cnt ≤ cnt') : PS w B b D bb g n cnt' T G c W := by
  obtain ⟨S, h1, h2⟩ := h
  exact ⟨S, ⟨h1.q.mono e, h1.r, h1.below, h1.base, h1.dbase⟩, h2⟩
theorem PS.pw (h : PS w B b D bb g n cnt T G c W) (k : Nat) : ∃ S, PW w B b D bb g n cnt S T (W.drewN k) := by
  obtain ⟨S, h1, _⟩ := h
  exact ⟨S, h1.later (Below.refl W.heap.size W).drewN⟩
/-- The program's is changed. -/
theorem PW.mine (h : PW w B b D bb g n cnt S T W) (hbx : W.heap[G]? = some (.cells c 33 (0, 0))) (hr : WUR B b n cnt' S T' W W7) : ∃ S', WU W7 B b n cnt' S' T' ∧ RK W7 D bb g n T ∧ Below w.heap.size w W7 ∧ W7.heap[G]? = some (.cells c 33 (0, 0)) := by
  obtain ⟨S', h1, h2, _⟩ := hr
  obtain ⟨vs, r⟩ := h.r
  refine ⟨S', h1, ⟨vs, r.keep (Nat.le_trans r.low h2.size) fun x d ty hx ht => h2.block _ (Array.getElem?_eq_some_iff.1 hx).1 ?_⟩, h.below.trans (h.q.k.only h.base h2), h2.row hbx (h.q.k.not_row hbx (by decide) (by decide) (by decide))⟩
  rcases ht with rfl | rfl | rfl
  · exact h.q.k.not_row hx (by decide) (by decide) (by decide)
  · exact h.q.k.not_row hx (by decide) (by decide) (by decide)
  · exact h.q.k.not_row hx (by decide) (by decide) (by decide)
/-- The document's is changed. -/
theorem PW.theirs (q : WU W7 B b n cnt S T') (r : RK W7 D bb g n T) (hb : Below w.heap.size w W7) (h1 : w.heap.size ≤ B) (h2 : w.heap.size ≤ D) (hbx : W7.heap[G]? = some (.cells c 33 (0, 0))) (r8 : RK W8 D bb g n T') (o : OnlyS (fun x => x = g) W7 W8) : PS w B b D bb g n cnt T' G c W8 := by
  obtain ⟨vs, r⟩ := r
  refine ⟨S, ⟨⟨q.k.keepT r.row (by decide) (by decide) (by decide) (by decide) (by decide) o, q.sort, q.no, q.short⟩, r8, hb.trans (o.below hb.size fun k hk => by subst hk; exact Nat.le_trans h2 r.lowg), h1, h2⟩, o.row hbx fun e => ?_⟩
  have h3 := r.row
  rw [← e, hbx] at h3; injection h3 with h3; injection h3 with _ h3
  exact absurd h3 (by decide)
/-- A call of the one, then of the other: they answer the same, and come to the same. -/
def BothR (f1 f2 : FuncId) (a1 a2 : Array Value) (w : World) (B b D bb g n cnt : Nat) (G : Nat) (c : Array Value) (W : World) (v : Value) (T' : Nat → List Txt) : Prop :=
  Calls Try.prog f1 a1 W fun r W7 => r = .returned v ∧ W7.heap[G]? = some (.cells c 33 (0, 0)) ∧ Calls Try.prog f2 a2 W7 fun r W8 => r = .returned v ∧ PS w B b D bb g n cnt T' G c W8
theorem both_same {f1 f2 : FuncId} {a1 a2 : Array Value} {v : Value} (h : PS w B b D bb g n cnt T G c W) (c1 : Calls Try.prog f1 a1 W fun r w' => r = .returned v ∧ w' = W) (c2 : Calls Try.prog f2 a2 W fun r w' => r = .returned v ∧ w' = W) : BothR f1 f2 a1 a2 w B b D bb g n (cnt + 1) G c W v T := by
  have hbx : W.heap[G]? = _ := h.choose_spec.2
  refine c1.mono fun r w7 ⟨e, e2⟩ => ⟨e, ?_⟩
  subst e2
  refine ⟨hbx, c2.mono fun r w8 ⟨e3, e4⟩ => ⟨e3, ?_⟩⟩
  subst e4
  exact h.mono (Nat.le_succ _)
theorem both_two {f1 f2 : FuncId} {a1 a2 : Array Value} {v : Value} (h : PS w B b D bb g n cnt T G c W) (c1 : ∀ S, PW w B b D bb g n cnt S T W → Calls Try.prog f1 a1 W fun r w' => r = .returned v ∧ WUR B b n cnt' S T' W w') (c2 : ∀ W7, RK W7 D bb g n T → Calls Try.prog f2 a2 W7 fun r w' => r = .returned v ∧ RK w' D bb g n T' ∧ OnlyS (fun x => x = g) W7 w') : BothR f1 f2 a1 a2 w B b D bb g n cnt' G c W v T' := by
  obtain ⟨S, h1, hbx⟩ := h
  refine (c1 S h1).mono fun r W7 ⟨e, hr⟩ => ⟨e, ?_⟩
  obtain ⟨S', q7, r7, b7, x7⟩ := h1.mine hbx hr
  refine ⟨x7, (c2 W7 r7).mono fun r W8 ⟨e2, r8, o8⟩ => ⟨e2, ?_⟩⟩
  exact PW.theirs q7 r7 b7 h1.base h1.dbase x7 r8 o8
theorem PS.len (h : PS w B b D bb g n cnt T G c W) (hc : cnt ≤ 1000) : ∀ j, j < n → (T j).length ≤ 1000 := by
  obtain ⟨S, h1, _⟩ := h
  exact fun j hj => Nat.le_trans (h1.q.len hj) hc
theorem both_push (h : PS w B b D bb g n cnt T G c W) (hn : n ≤ 64) (hc : cnt ≤ 900) (z : Int) {k : Txt} (hk : k.length ≤ 1000) : ∃ ok T', BothR 8 9 #[.pointer (some ⟨b, 0, none⟩), .int .i64 z, .string ⟨k.toArray⟩] #[.pointer (some ⟨bb, 0, none⟩), .int .i64 z, .string ⟨k.toArray⟩] w B b D bb g n (cnt + 1) G c W (.bool ok) T' := by
  have hl := h.len (by omega)
  have h' := h
  obtain ⟨S, h1, hbx⟩ := h'
  by_cases hz : isW n z = false ∨ hasW n T k = true
  · exact ⟨false, T, both_same h (wPush_no h1.q hk hz) (refPush_no h1.r hn hl z k hz)⟩
  · have hz1 : isW n z = true := by
      cases e : isW n z
      · exact absurd (.inl e) hz
      · rfl
    have hz2 : hasW n T k = false := by
      cases e : hasW n T k
      · rfl
      · exact absurd (.inr e) hz
    obtain ⟨j, hj, rfl⟩ := isW_yes hz1
    exact ⟨true, updF T j (putT (T j) k), both_two h (fun S h1 => wPush_yes h1.q hn (by omega) hj hk hz2) fun W7 r7 => (refPush_yes r7 hn hl hj k hz2).mono fun r w' ⟨e, h3, h4⟩ => ⟨e, h3, h4⟩⟩
theorem both_pop (h : PS w B b D bb g n cnt T G c W) (hc : cnt ≤ 900) (z : Int) : ∃ (s : Txt) (ok : Bool) (T' : Nat → List Txt), BothR 10 11 #[.pointer (some ⟨b, 0, none⟩), .int .i64 z] #[.pointer (some ⟨bb, 0, none⟩), .int .i64 z] w B b D bb g n (cnt + 1) G c W (.tuple #[.string ⟨s.toArray⟩, .bool ok]) T' := by
  have hl := h.len (by omega)
  have h' := h
  obtain ⟨S, h1, hbx⟩ := h'
  cases hz : isW n z
  · exact ⟨[], false, T, both_same h (wPop_out h1.q hz) (refPop_out h1.r z hz)⟩
  · obtain ⟨j, hj, rfl⟩ := isW_yes hz
    cases hT : T j with
    | nil => exact ⟨[], false, T, both_same h (wPop_none h1.q hj hT) (refPop_none h1.r hj hT)⟩
    | cons k l =>
      have hl2 := hl j hj
      rw [hT] at hl2
      exact ⟨k, true, updF T j l, both_two (h.mono (Nat.le_succ _)) (fun S h1 => (wPop_any h1.q hj hT)) fun W7 r7 => refPop_any r7 hj hT (by simp at hl2; omega)⟩
theorem both_steal (h : PS w B b D bb g n cnt T G c W) (hn : n ≤ 64) (hc : cnt ≤ 900) (z y : Int) : ∃ (s : Txt) (ok : Bool) (T' : Nat → List Txt), BothR 12 13 #[.pointer (some ⟨b, 0, none⟩), .int .i64 z, .int .i64 y] #[.pointer (some ⟨bb, 0, none⟩), .int .i64 z, .int .i64 y] w B b D bb g n (cnt + 1) G c W (.tuple #[.string ⟨s.toArray⟩, .bool ok]) T' := by
  have hl := h.len (by omega)
  have h' := h
  obtain ⟨S, h1, hbx⟩ := h'
  by_cases hz : isW n z = false ∨ isW n y = false ∨ z = y ∨ T y.toNat = []
  · exact ⟨[], false, T, both_same h (wSteal_no h1.q z y hz) (refSteal_no h1.r z y hz)⟩
  · have hz1 : isW n z = true := by
      cases e : isW n z
      · exact absurd (.inl e) hz
      · rfl
    have hz2 : isW n y = true := by
      cases e : isW n y
      · exact absurd (.inr (.inl e)) hz
      · rfl
    have hzy : z ≠ y := fun e => hz (.inr (.inr (.inl e)))
    have hne : T y.toNat ≠ [] := fun e => hz (.inr (.inr (.inr e)))
    obtain ⟨i, hi, rfl⟩ := isW_yes hz1
    obtain ⟨j, hj, rfl⟩ := isW_yes hz2
    rw [Int.toNat_natCast] at hne
    have hij : i ≠ j := fun e => hzy (by rw [e])
    have hT : T j = (T j).dropLast ++ [(T j).getLast hne] := (List.dropLast_concat_getLast hne).symm
    have hl2 := hl j hj
    exact ⟨_, true, _, both_two h (fun S h1 => wSteal_any h1.q hn (by omega) hi hj hij hT) fun W7 r7 => refSteal_yes r7 hi hj hij hT (by rw [List.length_dropLast]; omega) (hl i hi)⟩
/-- How many a worker has, as a number. -/
def lenI (n : Nat) (T : Nat → List Txt) (z : Int) : Int := if isW n z = true then ((T z.toNat).length : Int) else 0
theorem PS.lenQ (h : PS w B b D bb g n cnt T G c W) (z : Int) (k : Nat) : Calls Try.prog 14 #[.pointer (some ⟨b, 0, none⟩), .int .i64 z] (W.drewN k) fun r w' => r = .returned (.int .i64 (lenI n T z)) ∧ ∃ i, w' = W.drewN i := by
  obtain ⟨S, h1, _⟩ := h
  have q := h1.q.later (Below.refl W.heap.size W).drewN (w' := W.drewN k)
  unfold lenI
  cases hz : isW n z
  · exact (wLen_out q.k hz).mono fun r w' ⟨e, e2⟩ => ⟨by rw [e]; simp, k, e2⟩
  · obtain ⟨j, hj, rfl⟩ := isW_yes hz
    exact (wLen_any q.k hj).mono fun r w' ⟨e, e2⟩ => ⟨by rw [e]; simp, k, e2⟩
theorem PS.totQ (h : PS w B b D bb g n cnt T G c W) (k : Nat) : Calls Try.prog 15 #[.pointer (some ⟨b, 0, none⟩)] (W.drewN k) fun r w' => r = .returned (.int .i64 (totW n T : Nat)) ∧ ∃ i, w' = W.drewN i := by
  obtain ⟨S, h1, _⟩ := h
  have q := h1.q.later (Below.refl W.heap.size W).drewN (w' := W.drewN k)
  exact (wTotal_any q.k).mono fun r w' ⟨e, e2⟩ => ⟨e, k, e2⟩
theorem PS.totR (h : PS w B b D bb g n cnt T G c W) (hn : n ≤ 64) (hc : cnt ≤ 1000) (k : Nat) : Calls Try.prog 16 #[.pointer (some ⟨bb, 0, none⟩)] (W.drewN k) fun r w' => r = .returned (.int .i64 (totW n T : Nat)) ∧ ∃ i, w' = W.drewN i := by
  have hl := h.len hc
  obtain ⟨S, h1, _⟩ := h
  obtain ⟨vs, r⟩ := h1.r.later (Below.refl W.heap.size W).drewN (w' := W.drewN k)
  exact (refTotal_any r hn hl).mono fun r w' ⟨e, e2⟩ => ⟨e, k, e2⟩
theorem PS.hasQ (h : PS w B b D bb g n cnt T G c W) {s : Txt} (hs : s.length ≤ 1000) (k : Nat) : Calls Try.prog 17 #[.pointer (some ⟨b, 0, none⟩), .string ⟨s.toArray⟩] (W.drewN k) fun r w' => r = .returned (.bool (hasW n T s)) ∧ ∃ i, w' = W.drewN i := by
  obtain ⟨S, h1, _⟩ := h
  have q := h1.q.later (Below.refl W.heap.size W).drewN (w' := W.drewN k)
  exact (wHas_any q.k hs).mono fun r w' ⟨e, e2⟩ => ⟨e, k, e2⟩
theorem PS.hasR (h : PS w B b D bb g n cnt T G c W) (hn : n ≤ 64) (hc : cnt ≤ 1000) (s : Txt) (k : Nat) : Calls Try.prog 18 #[.pointer (some ⟨bb, 0, none⟩), .string ⟨s.toArray⟩] (W.drewN k) fun r w' => r = .returned (.bool (hasW n T s)) ∧ ∃ i, w' = W.drewN i := by
  have hl := h.len hc
  obtain ⟨S, h1, _⟩ := h
  obtain ⟨vs, r⟩ := h1.r.later (Below.refl W.heap.size W).drewN (w' := W.drewN k)
  exact (refHas_any r hn hl s).mono fun r w' ⟨e, e2⟩ => ⟨e, k, e2⟩
/-- Where the document's slices lie. -/
theorem PS.slice (h : PS w B b D bb g n cnt T G c W) (hc : cnt ≤ 1000) {j : Nat} (hj : j < n) : ∃ a cap, W.cell? ⟨bb, 0, none⟩ = some (.slice (some ⟨g, 0, none⟩) n n) ∧ W.cell? ⟨g, j, none⟩ = some (.slice a (T j).length cap) := by
  have hl := h.len hc
  obtain ⟨S, h1, _⟩ := h
  obtain ⟨vs, r⟩ := h1.r
  obtain ⟨a, cap, e, _, _⟩ := r.form hj (hl j hj)
  exact ⟨a, cap, r.cellB, e ▸ r.cellR hj⟩
theorem lenI_in {j : Nat} (hj : j < n) : lenI n T (j : Int) = ((T j).length : Int) := by
  unfold lenI
  rw [show isW n (j : Int) = true by simp [isW, hj], if_pos rfl, Int.toNat_natCast]
theorem lenI_out {z : Int} (hz : isW n z = false) : lenI n T z = 0 := by
  unfold lenI
  rw [hz, if_neg (by simp)]
end
end Go.Proofs.Ytoaejkfejdaiaaa
