/- The contracts of Send, Take and New of boxes. -/
import Derived.Test.YtpanfhkmildkeaaMlCalls
import Derived.Test.YtpanfhkmildkeaaMakeK
namespace Go.Proofs.Ytpanfhkmildkeaa
open Go.RowKit

section
variable {w w' : World} {B b g n : Nat} {ids : List Nat} {le : Nat → Let} {nx : Nat → Option Nat} {cx : Nat → Value} {tot : Int} {ls : Nat → List Nat} {S : Nat → Prop} {T : Nat → List Let}
/-- What a letter sent leaves. -/
def SendR (B b n : Nat) (S : Nat → Prop) (T : Nat → List Let) (j : Nat) (l : Let) (w w' : World) : Prop :=
  ∃ S', MU w' B b n S' (updF T j (T j ++ [l])) ∧ OnlyS S w w' ∧ ∀ y, S' y → S y ∨ w.heap.size ≤ y
theorem send_end (q : MOk w B b g n ids le nx cx (totL n T : Nat) ls) (h1 : ∀ j, j < n → (ls j).map le = T j) (h2 : ∀ x, MS b g ids x ↔ S x) {j : Nat} (hj : j < n) {l : Let} {u W W' : World} (hb : Below u.heap.size u W) (hu : u.heap.size ≤ W.heap.size)
    (hp : PutR B b g n ids le (totL n T : Nat) ls j l W W') : SendR B b n S T j l u (W'.setCell ⟨b, 1, none⟩ (.int .i64 ((totL n T : Nat) + 1))) ∧ W'.cell? ⟨b, 1, none⟩ = some (.int .i64 (totL n T : Nat)) ∧ W'.frozen? ⟨b, 1, none⟩ = false := by
  obtain ⟨x, le', nx', cx', hx, q', e1, e2, o⟩ := hp
  obtain ⟨m, o2⟩ := q'.mr.storeT ((totL n T : Nat) + 1)
  have ht : ((totL n T : Nat) : Int) + 1 = (totL n (updF T j (T j ++ [l])) : Nat) := by
    have := totL_upd T (T j ++ [l]) hj
    rw [List.length_append, List.length_singleton] at this
    omega
  refine ⟨⟨MS b g (x :: ids), ⟨g, x :: ids, le', nx', cx', updF ls j (ls j ++ [x]), ?_, fun k hk => ?_, fun _ => Iff.rfl⟩, ?_, fun y hy => ?_⟩, q'.mr.cellB.2, q'.mr.frozen (.inl rfl) 1⟩
  · rw [← ht]
    exact ⟨m, q'.sub, q'.nodup, q'.apart, q'.first, q'.last, q'.count, q'.chain⟩
  · have hle : ∀ k, k < n → (ls k).map le' = T k := fun k hk => by
      rw [← h1 k hk]
      exact List.map_congr_left fun y hy => e2 y (q.sub k hk y hy)
    by_cases e : k = j
    · subst e
      rw [updF_same, updF_same, List.map_append, hle k hk, List.map_singleton, e1]
    · rw [updF_ne _ _ e, updF_ne _ _ e, hle k hk]
  · refine ((OnlyS.of_below hb).trans (o.mono fun y _ hy => (h2 y).1 hy)).thenS o2 fun y hy hq => ?_
    rcases hq with h | h | h
    · exact (h2 y).1 (.inl h)
    · exact (h2 y).1 (.inr (.inl h))
    · rcases List.mem_cons.1 h with rfl | h
      · omega
      · exact (h2 y).1 (.inr (.inr h))
  · rcases hy with h | h | h
    · exact .inl ((h2 y).1 (.inl h))
    · exact .inl ((h2 y).1 (.inr (.inl h)))
    · rcases List.mem_cons.1 h with rfl | h
      · exact .inr (by omega)
      · exact .inl ((h2 y).1 (.inr (.inr h)))
set_option maxRecDepth 100000 in
set_option maxHeartbeats 2000000 in
theorem mSend_any (h : MU w B b n S T) {j : Nat} (hj : j < n) (l : Let) (hk : l.s.length ≤ 281474976710656) (hT : totL n T < 100000) :
    Calls Try.prog 8 #[.pointer (some ⟨b, 0, none⟩), .int .i64 j, letV l] w fun r w' => r = .returned (.int .i64 0) ∧ SendR B b n S T j l w w' := by
  obtain ⟨g, ids, le, nx, cx, ls, q, h1, h2⟩ := h
  have hb1 : Below w.heap.size w (w.alloc (.cells #[.string ⟨l.s.toArray⟩, .int .u8 l.set] 34)) := below_alloc1 w _
  have hbx : (w.alloc (.cells #[.string ⟨l.s.toArray⟩, .int .u8 l.set] 34)).heap[w.heap.size]? = some (.cells #[.string ⟨l.s.toArray⟩, .int .u8 l.set] 34 (0, 0)) := heap_alloc_new w _
  have HH := Lib.hid (has_yes (q.keep (q.mr.later hb1)) hj)
  have HC := Lib.hid (clone_txt l.s (w.alloc (.cells #[.string ⟨l.s.toArray⟩, .int .u8 l.set] 34)) hk)
  have hl1 : (ls j).length = (T j).length := by rw [← h1 j hj, List.length_map]
  have hl2 := totL_le T hj
  have HP : Hid (∀ W, Below w.heap.size w W → Calls Try.prog 16 #[.pointer (some ⟨g, j * 3, none⟩), letV l] W fun r w' => r = .returned (.tuple #[]) ∧ PutR B b g n ids le (totL n T : Nat) ls j l W w') := fun W hb => put_any (q.keep (q.mr.later hb)) hj l (by omega)
  have HB : Hid (∀ W, Below w.heap.size w W → W.cell? ⟨b, 0, none⟩ = some (.slice (some ⟨g, 0, none⟩) n n)) := fun W hb => (q.mr.later hb).cellB.1
  have HE : Hid (∀ W W', Below w.heap.size w W → PutR B b g n ids le (totL n T : Nat) ls j l W W' → SendR B b n S T j l w (W'.setCell ⟨b, 1, none⟩ (.int .i64 ((totL n T : Nat) + 1))) ∧ W'.cell? ⟨b, 1, none⟩ = some (.int .i64 (totL n T : Nat)) ∧ W'.frozen? ⟨b, 1, none⟩ = false) := fun W W' hb hp => send_end q h1 h2 hj hb hb.size hp
  have hjn : (j : Int) < (n : Int) := by omega
  have HX := Lib.hid hbx
  have HB1 := Lib.hid hb1
  clear q h1 h2 hl1 hl2 hbx hb1 hk
  generalize totL n T = tt at *
  go_enter Try.func8, Try.ntmps8
  go_wp2_with fail
  refine HH.out.mono ?_
  rintro r w' ⟨rfl, rfl⟩
  have hc0 : (w.alloc (.cells #[.string ⟨l.s.toArray⟩, .int .u8 l.set] 34)).cell? ⟨w.heap.size, 0, none⟩ = some (.string ⟨l.s.toArray⟩) := by rw [cell_of_row _ _ 0 _ _ _ HX.out]; rfl
  go_wp2_with fail
  refine HC.out.mono ?_
  rintro r w2 ⟨rfl, hb2⟩
  have hx2 : w2.heap[w.heap.size]? = some (.cells #[.string ⟨l.s.toArray⟩, .int .u8 l.set] 34 (0, 0)) := (hb2.block _ (Array.getElem?_eq_some_iff.1 HX.out).1).trans HX.out
  have hx3 := heap_setCell_same w2 w.heap.size 0 _ _ (.string ⟨l.s.toArray⟩) hx2
  have d0 : w2.cell? ⟨w.heap.size, 0, none⟩ = some (.string ⟨l.s.toArray⟩) := by rw [cell_of_row _ _ 0 _ _ _ hx2]; rfl
  have f0 : w2.frozen? ⟨w.heap.size, 0, none⟩ = false := by simp [World.frozen?, hx2]
  have d1 : (w2.setCell ⟨w.heap.size, 0, none⟩ (.string ⟨l.s.toArray⟩)).cell? ⟨w.heap.size, 0, none⟩ = some (.string ⟨l.s.toArray⟩) := by rw [cell_of_row _ _ 0 _ _ _ hx3]; rfl
  have d2 : (w2.setCell ⟨w.heap.size, 0, none⟩ (.string ⟨l.s.toArray⟩)).cell? ⟨w.heap.size, 1, none⟩ = some (.int .u8 l.set) := by rw [cell_of_row _ _ 1 _ _ _ hx3]; rfl
  have hb3 : Below w.heap.size w (w2.setCell ⟨w.heap.size, 0, none⟩ (.string ⟨l.s.toArray⟩)) := (HB1.out.trans (hb2.mono HB1.out.size)).setCell (Nat.le_refl _) _
  have cb := HB.out _ hb3
  have HPW := Lib.hid (HP.out _ hb3.drew)
  have HEW := Lib.hid (fun W' => HE.out _ W' hb3.drew)
  clear hb2 hx2 hx3 hb3
  go_wp2_with fail
  go_region_with (go_at_call 16; refine HPW.out.mono ?_; rintro r w4 ⟨rfl, h4⟩; obtain ⟨h5, c5, f5⟩ := HEW.out w4 h4; have H5 := Lib.hid h5; clear h4 h5)
  all_goals go_wp2
  all_goals go_ret
  all_goals exact ⟨rfl, H5.out⟩
set_option maxRecDepth 100000 in
theorem mSend_out (h : MU w B b n S T) {z : Int} (hz : ¬ (0 ≤ z ∧ z < n)) (l : Let) :
    Calls Try.prog 8 #[.pointer (some ⟨b, 0, none⟩), .int .i64 z, letV l] w fun r w' => r = .returned (.int .i64 2) ∧ Below w.heap.size w w' := by
  obtain ⟨g, ids, le, nx, cx, ls, q, h1, h2⟩ := h
  have hb1 : Below w.heap.size w (w.alloc (.cells #[.string ⟨l.s.toArray⟩, .int .u8 l.set] 34)) := below_alloc1 w _
  have HH := Lib.hid (has_no (q.keep (q.mr.later hb1)) hz)
  have HB := Lib.hid hb1
  clear q h1 h2 hb1 hz
  go_enter Try.func8, Try.ntmps8
  go_wp2_with fail
  refine HH.out.mono ?_
  rintro r w' ⟨rfl, rfl⟩
  go_wp2
  go_ret
  exact ⟨rfl, HB.out⟩
set_option maxRecDepth 100000 in
theorem mSend_nil (z : Int) (l : Let) (w : World) :
    Calls Try.prog 8 #[.pointer none, .int .i64 z, letV l] w fun r w' => r = .returned (.int .i64 8) ∧ Below w.heap.size w w' := by
  have HB := Lib.hid (below_alloc1 w (.cells #[.string ⟨l.s.toArray⟩, .int .u8 l.set] 34))
  go_enter Try.func8, Try.ntmps8
  go_wp2
  go_ret
  exact ⟨rfl, HB.out⟩
/-- What a letter taken leaves. -/
def TookR (B b n : Nat) (S : Nat → Prop) (T : Nat → List Let) (j : Nat) (r : List Let) (w w' : World) : Prop := MU w' B b n S (updF T j r) ∧ OnlyS S w w'
set_option maxRecDepth 100000 in
set_option maxHeartbeats 2000000 in
theorem mTake_any (h : MU w B b n S T) {j : Nat} (hj : j < n) {l : Let} {r : List Let} (hT : T j = l :: r) (hlen : totL n T < 100000) :
    Calls Try.prog 9 #[.pointer (some ⟨b, 0, none⟩), .int .i64 j] w fun e w' => e = .returned (.tuple #[letV l, .bool true]) ∧ TookR B b n S T j r w w' := by
  obtain ⟨g, ids, le, nx, cx, ls, q, h1, h2⟩ := h
  have hb1 : Below w.heap.size w (w.alloc (.cells #[.string ⟨#[]⟩, .int .u8 0] 34)) := below_alloc1 w _
  have hb1n : ¬ MS b g ids w.heap.size := fun h => Nat.lt_irrefl _ (q.mr.lt h)
  have hlj := h1 j hj
  rw [hT] at hlj
  obtain ⟨x, l0, hls, rfl, rfl⟩ := List.map_eq_cons_iff.1 hlj
  have q2 := q.keep (q.mr.later hb1)
  have HL := Lib.hid (mLen_raw q2 hj)
  rw [hls, List.length_cons] at HL
  have htt := totL_upd T (l0.map le) hj
  rw [hT, List.length_cons] at htt
  obtain ⟨t, ht⟩ : ∃ t, totL n T = t + 1 := ⟨totL n T - 1, by have := totL_le T hj; rw [hT, List.length_cons] at this; omega⟩
  have hll : l0.length ≤ t := by have := totL_le T hj; rw [hT, List.length_cons, List.length_map] at this; omega
  have htn : totL n (updF T j (l0.map le)) = t := by omega
  rw [ht] at q2
  have ct := q2.mr.cellB.2
  have ft := q2.mr.frozen (.inl rfl) 1
  obtain ⟨m3, o3⟩ := q2.mr.storeT (t : Nat)
  have cb := m3.cellB.1
  have q3 : MOk ((w.alloc (.cells #[.string ⟨#[]⟩, .int .u8 0] 34)).setCell ⟨b, 1, none⟩ (.int .i64 (t : Nat))) B b g n ids le nx cx (t : Nat) ls := ⟨m3, q2.sub, q2.nodup, q2.apart, q2.first, q2.last, q2.count, q2.chain⟩
  have HT := Lib.hid (take_any q3 hj hls (by omega))
  have hjn : (j : Int) < (n : Int) := by omega
  have hbx := o3.row (heap_alloc_new w _) hb1n
  have HE : Hid (∀ W, TakeM B b g n ids le nx (t : Nat) ls j l0 ((w.alloc (.cells #[.string ⟨#[]⟩, .int .u8 0] 34)).setCell ⟨b, 1, none⟩ (.int .i64 (t : Nat))) W → W.heap[w.heap.size]? = some (.cells #[.string ⟨#[]⟩, .int .u8 0] 34 (0, 0)) ∧ TookR B b n S T j (l0.map le) w ((W.setCell ⟨w.heap.size, 0, none⟩ (.string ⟨(le x).s.toArray⟩)).setCell ⟨w.heap.size, 1, none⟩ (.int .u8 (le x).set))) := by
    rintro W ⟨cx', q4, o4⟩
    have hbx4 := o4.row hbx hb1n
    refine ⟨hbx4, ⟨g, ids, le, nx, cx', updF ls j l0, ?_, fun k hk => ?_, h2⟩, ?_⟩
    · rw [htn]
      exact q4.keep (q4.mr.onlyS (((OnlyS.refl (fun z => z = w.heap.size) _).setCell (p := ⟨w.heap.size, 0, none⟩) rfl (.string ⟨(le x).s.toArray⟩)).setCell (p := ⟨w.heap.size, 1, none⟩) rfl (.int .u8 (le x).set)) fun z hz e => hb1n (e ▸ hz))
    · by_cases e : k = j
      · subst e; rw [updF_same, updF_same]
      · rw [updF_ne _ _ e, updF_ne _ _ e, h1 k hk]
    · exact only_two ((((OnlyS.of_below hb1).trans o3).trans o4).mono fun y _ hy => (h2 y).1 hy) (Nat.le_refl _) _ _
  have htl : t < 100000 := by omega
  clear q q2 q3 m3 o3 h1 h2 hb1 hb1n hlj hT hbx htt htn hls hll ht hlen
  generalize l0.map le = r0 at *
  generalize l0.length = m at *
  go_enter Try.func9, Try.ntmps9
  go_wp2_with fail
  refine HL.out.mono ?_
  rintro r w' ⟨rfl, rfl⟩
  have hm0 : (((m + 1 : Nat) : Int) == 0) = false := by rw [beq_eq_false_iff_ne]; omega
  go_wp2_with fail
  refine HT.out.mono ?_
  rintro r w3 ⟨rfl, h3⟩
  obtain ⟨hbx4, hr⟩ := HE.out w3 h3
  obtain ⟨x0, y0, x1, y1, r0, r1, _⟩ := box_two hbx4 (.string ⟨(le x).s.toArray⟩) (.int .u8 (le x).set)
  have HR := Lib.hid hr
  clear h3 hr hbx4
  go_wp2
  refine bodyPost_ret (v := .tuple #[letV (le x), .bool true]) (by simp [results, Try.results9, go_sem, r0, r1]) rfl ?_
  exact ⟨rfl, HR.out⟩
set_option maxRecDepth 100000 in
set_option maxHeartbeats 1000000 in
/-- Where Len tells none, nothing is taken. -/
theorem take_zero (p : Option Addr) (z : Int) (w : World) (h : Calls Try.prog 11 #[.pointer p, .int .i64 z] (w.alloc (.cells #[.string ⟨#[]⟩, .int .u8 0] 34)) fun r w' => r = .returned (.int .i64 0) ∧ w.alloc (.cells #[.string ⟨#[]⟩, .int .u8 0] 34) = w') :
    Calls Try.prog 9 #[.pointer p, .int .i64 z] w fun e w' => e = .returned (.tuple #[letV let0, .bool false]) ∧ Below w.heap.size w w' := by
  have HL := Lib.hid h
  have HB := Lib.hid (below_alloc1 w (.cells #[.string ⟨#[]⟩, .int .u8 0] 34))
  clear h
  go_enter Try.func9, Try.ntmps9
  go_wp2_with fail
  refine HL.out.mono ?_
  rintro r w' ⟨rfl, rfl⟩
  go_wp2
  refine bodyPost_ret (v := .tuple #[letV let0, .bool false]) (by simp [results, Try.results9, go_sem, let0]) rfl ?_
  exact ⟨rfl, HB.out⟩
theorem mTake_none (h : MU w B b n S T) {j : Nat} (hj : j < n) (hT : T j = []) :
    Calls Try.prog 9 #[.pointer (some ⟨b, 0, none⟩), .int .i64 j] w fun e w' => e = .returned (.tuple #[letV let0, .bool false]) ∧ Below w.heap.size w w' :=
  take_zero _ _ w (by have := mLen_any (h.later (below_alloc1 w (.cells #[.string ⟨#[]⟩, .int .u8 0] 34))) hj; rw [hT] at this; exact this)
theorem mTake_out (h : MU w B b n S T) {z : Int} (hz : ¬ (0 ≤ z ∧ z < n)) :
    Calls Try.prog 9 #[.pointer (some ⟨b, 0, none⟩), .int .i64 z] w fun e w' => e = .returned (.tuple #[letV let0, .bool false]) ∧ Below w.heap.size w w' :=
  take_zero _ _ w (mLen_out (h.later (below_alloc1 w (.cells #[.string ⟨#[]⟩, .int .u8 0] 34))) hz)
theorem mTake_nil (z : Int) (w : World) :
    Calls Try.prog 9 #[.pointer none, .int .i64 z] w fun e w' => e = .returned (.tuple #[letV let0, .bool false]) ∧ Below w.heap.size w w' :=
  take_zero _ _ w (mLen_nil z _)
/-- The row of empty boxes. -/
def cx0 (p : Nat) : Value := if p % 3 = 2 then .int .i64 0 else .pointer none
theorem made_boxes (n : Nat) : madeCells #[.pointer none, .pointer none, .int .i64 0] (n * 3) = cxA (n * 3) cx0 := by
  refine cxA_const _ _ (by simp [madeCells]) fun i hi => ?_
  have h3 : i % 3 = 0 ∨ i % 3 = 1 ∨ i % 3 = 2 := by omega
  unfold madeCells cx0
  rw [Array.getElem?_map, Array.getElem?_range, if_pos hi]
  show some (#[Value.pointer none, .pointer none, .int .i64 0][i % 3]!) = _
  rcases h3 with h | h | h <;> rw [h] <;> rfl
set_option maxRecDepth 100000 in
theorem mNew_any {n : Nat} (h1 : 1 ≤ n) (h64 : n ≤ 64) (w : World) : Calls Try.prog 7 #[.int .i64 n] w fun r w' => r = .returned (.tuple #[.pointer (some ⟨w.heap.size + 1, 0, none⟩), .int .i64 0]) ∧ Below w.heap.size w w' ∧ ∃ S, MU w' w.heap.size (w.heap.size + 1) n S (fun _ => []) ∧ ∀ y, S y → w.heap.size ≤ y := by
  have hmk : ∀ W : World, (Instr.makeSlice 47 (.int .i64 (n : Int)) (.int .i64 (n : Int))).run Try.prog W = .ok (.slice (some ⟨W.heap.size, 0, none⟩) n n) (W.alloc (.cells (madeCells #[.pointer none, .pointer none, .int .i64 0] (n * 3)) 54)) := run_make_k (P := Try.prog) 47 54 (.agg #[.pointer none, .pointer none, .int .i64 0]) 3 24 Try.underlying47 (by kernel_rfl) n (by omega) (by omega)
  have HM := Lib.hid (made_boxes n)
  have h1' : decide ((n : Int) < 1) = false := decide_eq_false (by omega)
  have h2' : decide ((64 : Int) < (n : Int)) = false := decide_eq_false (by omega)
  clear h1 h64
  go_enter Try.func7, Try.ntmps7
  go_wp2
  refine bodyPost_ret (v := .tuple #[.pointer (some ⟨w.heap.size + 1, 0, none⟩), .int .i64 0]) (by simp [results, Try.results7, go_sem]) rfl ?_
  rw [HM.out]
  refine ⟨rfl, below_alloc2 w _ _, _, ⟨w.heap.size, [], fun _ => let0, fun _ => none, cx0, fun _ => [], ⟨?_, (fun j _ x hx => by cases hx), fun _ _ => List.nodup_nil, (fun j k _ _ _ x hx => by cases hx), fun j _ => ?_, fun j _ => ?_, fun j _ => ?_, fun j _ i hi => absurd hi (Nat.not_lt_zero _)⟩, fun _ _ => rfl, fun _ => Iff.rfl⟩, fun y hy => ?_⟩
  · have ht : totL n (fun _ => ([] : List Let)) = 0 := by
      clear HM hmk h1' h2'
      induction n with
      | zero => rfl
      | succ n ih => rw [totL_succ, ih]; rfl
    have hr := heap_alloc_new w (.cells (cxA (n * 3) cx0) 54)
    have hb := heap_alloc_new (w.alloc (.cells (cxA (n * 3) cx0) 54)) (.cells #[.slice (some ⟨w.heap.size, 0, none⟩) n n, .int .i64 0] 49)
    rw [World.size_alloc] at hb
    refine ⟨by simp; omega, by omega, Nat.le_refl _, ?_, ?_, fun x hx => by cases hx⟩
    · rw [ht]; exact hb
    · exact ((below_alloc1 _ _).block _ (by simp)).trans hr
  · unfold cx0; rw [if_neg (by omega)]; rfl
  · unfold cx0; rw [if_neg (by omega)]; rfl
  · unfold cx0; rw [if_pos (by omega)]; rfl
  · rcases hy with rfl | rfl | hy
    · omega
    · exact Nat.le_refl _
    · cases hy
set_option maxRecDepth 100000 in
theorem mNew_bad {z : Int} (hz : z < 1 ∨ 64 < z) (w : World) : Calls Try.prog 7 #[.int .i64 z] w fun r w' => r = .returned (.tuple #[.pointer none, .int .i64 1]) ∧ w = w' := by
  by_cases h : z < 1
  · have h1 : decide (z < 1) = true := decide_eq_true h
    clear hz
    go_enter Try.func7, Try.ntmps7
    go_wp2
    refine bodyPost_ret (v := .tuple #[.pointer none, .int .i64 1]) (by simp [results, Try.results7, go_sem]) rfl ?_
    exact ⟨rfl, rfl⟩
  · have h1 : decide (z < 1) = false := decide_eq_false h
    have h2 : decide (64 < z) = true := decide_eq_true (by omega)
    clear hz
    go_enter Try.func7, Try.ntmps7
    go_wp2
    refine bodyPost_ret (v := .tuple #[.pointer none, .int .i64 1]) (by simp [results, Try.results7, go_sem]) rfl ?_
    exact ⟨rfl, rfl⟩
end
end Go.Proofs.Ytpanfhkmildkeaa
