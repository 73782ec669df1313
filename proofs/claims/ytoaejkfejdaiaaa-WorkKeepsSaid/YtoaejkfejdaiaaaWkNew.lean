/- The program's New of work. -/
import Derived.Test.YtoaejkfejdaiaaaWkCalls
import Derived.Deep.RegionLaw
namespace Go.Proofs.Ytoaejkfejdaiaaa
open Go.RowKit

section
variable {w w' : World} {B b mb : Nat}
theorem ownRow_lower {w : World} {B C : Nat} {t : TypeId} {n : Nat} {X : Type} {f : X → List Value} {v : Value} {l : List X} (h : OwnRow w B t n f v l) (hC : C ≤ B) : OwnRow w C t n f v l := by
  obtain ⟨h1, h2 | ⟨g, cap, cur, h2, h3, h4⟩⟩ := h
  · exact ⟨h1, .inl h2⟩
  · exact ⟨h1, .inr ⟨g, cap, cur, h2, Nat.le_trans hC h3, h4⟩⟩
theorem QU.lower {S : Nat → Prop} {T : List Txt} (h : QU w B b S T) {C : Nat} (hC : C ≤ B) : QU w C b S T := by
  obtain ⟨pre, ids, vs, pl, ls, q, h1, h2⟩ := h
  exact ⟨pre, ids, vs, pl, ls, ⟨⟨Nat.le_trans hC q.qr.low, Nat.le_trans hC q.qr.lowb, q.qr.box, fun s hs => ownRow_lower (q.qr.row s hs) hC, q.qr.len, q.qr.apart, fun x hx => ⟨Nat.le_trans hC (q.qr.item x hx).1, (q.qr.item x hx).2⟩, q.qr.sub⟩, q.ok, q.perm⟩, h1, h2⟩
theorem infoQ : (Try.prog.info? 50).map (fun i => (i.zero, i.size, i.bytes)) = some (some (.pointer none), 1, 8) := by kernel_rfl
/-- What New's loop leaves: so many empty queues. -/
structure NewI (w : World) (b mb : Nat) (v : Value) (qs : List Nat) (Sq : Nat → Nat → Prop) (wr : World) : Prop where
  lowb : w.heap.size ≤ b
  lowm : w.heap.size ≤ mb
  below : Below w.heap.size w wr
  box : wr.heap[b]? = some (.cells #[v, .map (some mb)] 49 (0, 0))
  row : OwnRow wr w.heap.size 50 1 itCell v qs
  qu : ∀ j, j < qs.length → QU wr w.heap.size (qs.getD j 0) (Sq j) []
  apart : ∀ i j, i < qs.length → j < qs.length → i ≠ j → ∀ x, Sq i x → ¬ Sq j x
  map : IM wr mb 0 (fun _ => false) 0
theorem NewI.grow {wr w1 : World} {v : Value} {qs : List Nat} {Sq : Nat → Nat → Prop} (h : NewI w b mb v qs Sq wr) (hb : Below wr.heap.size wr w1) {S1 : Nat → Prop} (q1 : QU w1 wr.heap.size wr.heap.size S1 []) (hS : ∀ y, S1 y → wr.heap.size ≤ y) :
    w1.cell? ⟨b, 0, none⟩ = some v ∧ (w1.alloc (.cells #[.pointer (some ⟨wr.heap.size, 0, none⟩)] 50)).cell? ⟨b, 0, none⟩ = some v ∧ OwnRow (w1.alloc (.cells #[.pointer (some ⟨wr.heap.size, 0, none⟩)] 50)) w.heap.size 50 1 itCell v qs ∧ w.heap.size ≤ (w1.alloc (.cells #[.pointer (some ⟨wr.heap.size, 0, none⟩)] 50)).heap.size ∧
    ∀ v3 W3, OwnRow W3 w.heap.size 50 1 itCell v3 (qs ++ [wr.heap.size]) → (w1.alloc (.cells #[.pointer (some ⟨wr.heap.size, 0, none⟩)] 50)).grownBy W3 v.ownBlock → W3.cell? ⟨b, 0, none⟩ = some v ∧ W3.frozen? ⟨b, 0, none⟩ = false ∧ NewI w b mb v3 (qs ++ [wr.heap.size]) (updF Sq qs.length S1) (W3.setCell ⟨b, 0, none⟩ v3) := by
  have hb2 : Below wr.heap.size wr (w1.alloc (.cells #[.pointer (some ⟨wr.heap.size, 0, none⟩)] 50)) := hb.alloc hb.size _
  have q2 : QU (w1.alloc (.cells #[.pointer (some ⟨wr.heap.size, 0, none⟩)] 50)) w.heap.size wr.heap.size S1 [] := (q1.later (below_alloc1 _ _)).lower h.below.size
  have hS2 : ∀ y, S1 y → y < (w1.alloc (.cells #[.pointer (some ⟨wr.heap.size, 0, none⟩)] 50)).heap.size := fun y hy => q2.lt hy
  have hbx := (hb2.block _ (Array.getElem?_eq_some_iff.1 h.box).1).trans h.box
  have hr2 := h.row.later hb2
  refine ⟨?_, ?_, hr2, Nat.le_trans h.below.size hb2.size, fun v3 W3 hv3 hg => ?_⟩
  · rw [cell_of_row w1 b 0 _ _ _ ((hb.block _ (Array.getElem?_eq_some_iff.1 h.box).1).trans h.box)]; rfl
  · rw [cell_of_row _ b 0 _ _ _ hbx]; rfl
  generalize (w1.alloc (.cells #[.pointer (some ⟨wr.heap.size, 0, none⟩)] 50)) = W2 at *
  have o2 : OnlyS (fun y => v.ownBlock = some y) W2 W3 := ⟨hg.os, hg.tape, hg.output, hg.size, fun k hk hn => hg.block k hk fun e => hn e.symm⟩
  have hnb : ∀ {x : Nat} {c : Array Value} {ty : TypeId}, W2.heap[x]? = some (.cells c ty (0, 0)) → ty ≠ 50 → v.ownBlock ≠ some x := fun hx hty e => by
    obtain ⟨_, c', hc'⟩ := hr2.kindQ e
    rw [hx] at hc'; injection hc' with hc'; injection hc' with _ hc'
    exact hty hc'
  have hbx3 : W3.heap[b]? = _ := o2.row hbx (hnb hbx (by decide))
  have ho3 : OnlyS (fun y => y = b) W3 (W3.setCell ⟨b, 0, none⟩ v3) := (OnlyS.refl (fun y => y = b) W3).setCell (p := ⟨b, 0, none⟩) rfl v3
  have hq3 : ∀ {x : Nat} {S : Nat → Prop}, QU W2 w.heap.size x S [] → QU (W3.setCell ⟨b, 0, none⟩ v3) w.heap.size x S [] := fun {x S} q => by
    have q3 : QU W3 w.heap.size x S [] := q.onlyS o2 fun y hy e => by
      obtain ⟨_, c, ty, e2, e3⟩ := q.kinds hy
      refine hnb e2 ?_ e
      rcases e3 with rfl | rfl | rfl <;> decide
    refine q3.onlyS ho3 fun y hy e => ?_
    subst e
    exact q3.not_row hbx3 (by decide) (by decide) (by decide) hy
  have hm2 := h.map.later hb2
  have hm3 : IM W3 mb 0 (fun _ => false) 0 := hm2.onlyS o2 fun e => by
    obtain ⟨_, c', hc'⟩ := hr2.kindQ e
    exact hm2.not_cells hc'
  have b3 := (h.below.trans (hb2.mono h.below.size)).trans (o2.below (Nat.le_trans h.below.size hb2.size) fun k hk => (hr2.kindQ hk).1)
  have hgl : ∀ j, j < qs.length → (qs ++ [wr.heap.size]).getD j 0 = qs.getD j 0 := fun j hj => by
    simp [List.getD, List.getElem?_append_left hj]
  have hgn : (qs ++ [wr.heap.size]).getD qs.length 0 = wr.heap.size := by simp [List.getD]
  refine ⟨by rw [cell_of_row _ b 0 _ _ _ hbx3]; rfl, by simp [World.frozen?, hbx3], ⟨h.lowb, h.lowm, b3.trans (ho3.below b3.size fun k hk => by subst hk; exact h.lowb), ?_, ?_, fun j hj => ?_, fun i j hi hj hij x h1 h2 => ?_, hm3.onlyS ho3 fun e => ?_⟩⟩
  · rw [heap_setCell_same _ b 0 _ _ _ hbx3]; rfl
  · refine hv3.keepQ fun g hg => Below.heap_setCell _ _ _ _ fun e => ?_
    obtain ⟨_, c', hc'⟩ := hv3.kindQ hg
    rw [e, hbx3] at hc'; injection hc' with hc'; injection hc' with _ hc'
    exact absurd hc' (by decide)
  · rw [List.length_append, List.length_singleton] at hj
    by_cases e : j = qs.length
    · subst e
      rw [hgn, updF_same]
      exact hq3 q2
    · rw [hgl j (by omega), updF_ne _ _ e]
      exact hq3 ((h.qu j (by omega)).later hb2)
  · rw [List.length_append, List.length_singleton] at hi hj
    by_cases e1 : i = qs.length
    · subst e1
      rw [updF_same] at h1
      rw [updF_ne _ _ (Ne.symm hij)] at h2
      have h3 := (h.qu j (by omega)).lt h2
      have h4 := hS x h1
      omega
    · rw [updF_ne _ _ e1] at h1
      by_cases e2 : j = qs.length
      · subst e2
        rw [updF_same] at h2
        have h3 := (h.qu i (by omega)).lt h1
        have h4 := hS x h2
        omega
      · rw [updF_ne _ _ e2] at h2
        exact h.apart i j (by omega) (by omega) hij x h1 h2
  · subst e
    exact hm3.not_cells hbx3
/-- What New leaves. -/
theorem NewI.done {wr : World} {v : Value} {qs : List Nat} {Sq : Nat → Nat → Prop} (h : NewI w b mb v qs Sq wr) (hn : qs ≠ []) : ∃ S, WU wr w.heap.size b qs.length 0 S (fun _ => []) ∧ ∀ y, S y → w.heap.size ≤ y := by
  obtain ⟨h1, ⟨h2, h3⟩ | ⟨g, cap, cur, h2, h3, h4, h5, h6, h7, h8⟩⟩ := h.row
  · exact absurd (List.eq_nil_of_length_eq_zero h3) hn
  have hbx := h.box
  rw [h2] at hbx
  have hk : WK wr w.heap.size b qs.length 0 (fun x => x = mb ∨ ∃ j, j < qs.length ∧ Sq j x) (fun _ => []) (hasW qs.length fun _ => []) (totW qs.length fun _ => []) := by
    refine WK.as (g := g) (cap := cap) (qs := fun j => qs.getD j 0) ⟨h.below.size, h.lowb, h.lowm, hbx, ⟨cur, h4, fun j hj => ?_⟩, h5, h.qu, h.apart, h.map.congr (fun k => (hasW_start _ k).symm) (totW_start _).symm⟩
    rw [itCells, Nat.mul_one] at h8
    have : (cur.toList.take qs.length)[j]? = some (.pointer (some ⟨qs.getD j 0, 0, none⟩)) := by
      rw [h8]; simp [List.getD, hj]
    rw [List.getElem?_take_of_lt hj] at this
    simpa using this
  exact ⟨_, ⟨hk, fun j _ => List.Pairwise.nil, noW_start _, fun j _ s hs => by cases hs⟩, fun y hy => (hk.kinds hy).1⟩
end
set_option maxRecDepth 100000 in
theorem wNew_bad {z : Int} (hz : z < 1 ∨ 64 < z) (w : World) : Calls Try.prog 7 #[.int .i64 z] w fun r w' => r = .returned (.tuple #[.pointer none, .int .i64 1]) ∧ w' = w := by
  by_cases h : z < 1
  · have h1 : decide (z < 1) = true := decide_eq_true h
    clear hz
    go_enter Try.func7, Try.ntmps7
    go_wp2
    refine bodyPost_ret (v := .tuple #[.pointer none, .int .i64 1]) (by simp [results, Try.results7, go_sem]) rfl ?_
    exact ⟨rfl, rfl⟩
  · have h1 : decide (z < 1) = false := decide_eq_false h
    have h2 : decide (64 < z) = true := decide_eq_true (by omega)
    clear hz
    go_enter Try.func7, Try.ntmps7
    go_wp2
    refine bodyPost_ret (v := .tuple #[.pointer none, .int .i64 1]) (by simp [results, Try.results7, go_sem]) rfl ?_
    exact ⟨rfl, rfl⟩
set_option maxRecDepth 100000 in
set_option maxHeartbeats 2000000 in
theorem wNew_any {n : Nat} (h1 : 1 ≤ n) (h64 : n ≤ 64) (w : World) : Calls Try.prog 7 #[.int .i64 (n : Int)] w fun r w' => r = .returned (.tuple #[.pointer (some ⟨w.heap.size + 1, 0, none⟩), .int .i64 0]) ∧ Below w.heap.size w w' ∧ ∃ S, WU w' w.heap.size (w.heap.size + 1) n 0 S (fun _ => []) ∧ ∀ y, S y → w.heap.size ≤ y := by
  have hd1 : decide ((n : Int) < 1) = false := decide_eq_false (by omega)
  have hd2 : decide ((64 : Int) < (n : Int)) = false := decide_eq_false (by omega)
  have HI0 : Hid (NewI w (w.heap.size + 1) w.heap.size (.slice none 0 0) [] (fun _ _ => False) ((w.alloc (.map #[] 0)).alloc (.cells #[.slice none 0 0, .map (some w.heap.size)] 49))) := by
    have hbx := heap_alloc_new (w.alloc (.map #[] 0)) (.cells #[.slice none 0 0, .map (some w.heap.size)] 49)
    rw [World.size_alloc] at hbx
    exact ⟨by omega, Nat.le_refl _, below_alloc2 w _ _, hbx, ownRow_nil _ _ _ _ _, fun j hj => absurd hj (Nat.not_lt_zero _), fun i j hi => absurd hi (Nat.not_lt_zero _), (IM.start w).later (below_alloc1 _ _)⟩
  have hmm := @run_makeMap Try.prog
  go_enter Try.func7, Try.ntmps7
  go_wp2_with fail
  clear hmm
  generalize ((w.alloc (.map #[] 0)).alloc (.cells #[.slice none 0 0, .map (some w.heap.size)] 49)) = W0 at *
  go_loopw [15] (fun i wr => ∃ (j : Nat) (v : Value) (qs : List Nat) (Sq : Nat → Nat → Prop), j ≤ n ∧ i = .int .i64 j ∧ Hid (qs.length = j) ∧ Hid (NewI w (w.heap.size + 1) w.heap.size v qs Sq wr)) (fun i _ => n - (intOf i).toNat)
  case atStart => exact ⟨0, _, [], _, Nat.zero_le _, rfl, rfl, HI0⟩
  case round =>
    clear HI0
    obtain ⟨j, v, qs, Sq, hj, rfl, HQ, HI⟩ := hrel
    by_cases hlt : j < n
    · have c0 : wr.cell? ⟨w.heap.size + 1, 0, none⟩ = some v := by rw [cell_of_row wr _ 0 _ _ _ HI.out.box]; rfl
      have hql : qs.length ≤ 1000000 := by have := HQ.out; omega
      have HQL := Lib.hid hql
      have HG : Hid (∀ w1, Below wr.heap.size wr w1 → ∀ S1, QU w1 wr.heap.size wr.heap.size S1 [] → (∀ y, S1 y → wr.heap.size ≤ y) → _) := fun w1 hb S1 q1 hS => HI.out.grow hb q1 hS
      clear hql
      go_wp2_with fail
      go_region_law ((first
        | (refine step_appendAt (f := itCell) (n := 1) 47 50 8 (.pointer none) Try.underlying47 infoQ (by rfl) (by omega) (by omega) itCell_len (by rfl) (.tmp 21) (.tmp 23) (by rfl) w.heap.size v qs (by rfl) hr2 ⟨w1.heap.size, 0, none⟩ (by rfl) wr.heap.size (itCell_one _) (cells_new w1 (itCell wr.heap.size) _ _ rfl) HQL.out hz2 ?_; intro v3 W3 hown3 _ hg3 _; obtain ⟨g3, cap3, hv3, _, _⟩ := OwnRow.block hown3 (by simp); rw [List.length_append, List.length_singleton] at hv3; subst hv3; obtain ⟨c3, f3, hn3⟩ := h3 _ W3 hown3 hg3; have HN3 := Lib.hid hn3; clear hn3 hown3 hg3)
        | (go_simp; go_wp2_with (go_at_call 19; refine (qNew_any _).mono ?_; rintro r w1 ⟨rfl, hb1, S1, q1, hS1⟩; obtain ⟨c1, c2, hr2, hz2, h3⟩ := HG.out w1 ⟨hb1.os, hb1.tape, hb1.output, hb1.size, hb1.block⟩ S1 q1 hS1; clear hb1 q1 hS1))))
      all_goals (
        go_wp2
        go_roundw
        case rel => exact ⟨j + 1, _, qs ++ [wr.heap.size], _, by omega, by go_num, by show (qs ++ [wr.heap.size]).length = j + 1; rw [List.length_append, HQ.out]; rfl, HN3⟩
        case measure => simp [intOf]; omega)
    · obtain rfl : j = n := by omega
      have HE : Hid (Below w.heap.size w wr ∧ ∃ S, WU wr w.heap.size (w.heap.size + 1) j 0 S (fun _ => []) ∧ ∀ y, S y → w.heap.size ≤ y) := ⟨HI.out.below, by
        have := HI.out.done (fun e => by have := HQ.out; rw [e] at this; simp at this; omega)
        rw [HQ.out] at this
        exact this⟩
      clear HI
      go_wp2
      refine bodyPost_ret (v := .tuple #[.pointer (some ⟨w.heap.size + 1, 0, none⟩), .int .i64 0]) (by simp [results, Try.results7, go_sem]) rfl ?_
      exact ⟨rfl, HE.out⟩
end Go.Proofs.Ytoaejkfejdaiaaa
