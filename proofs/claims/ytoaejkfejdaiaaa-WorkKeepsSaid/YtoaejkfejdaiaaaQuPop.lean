/- The contract of an end's Pop. -/
import Derived.Test.YtoaejkfejdaiaaaQuSwap
namespace Go.Proofs.Ytoaejkfejdaiaaa
open Go.RowKit

section
variable {w : World} {B b : Nat} {pre : Nat → Txt} {ids : List Nat} {vs : Nat → Value} {pl : Nat → Nat → Int} {ls : Nat → List Nat}
theorem QR.rowC (q : QR w B b pre ids vs pl ls) {s : Nat} (hs : s < 2) {m : Nat} (hm : (ls s).length = m + 1) : ∃ g cap cur, vs s = .slice (some ⟨g, 0, none⟩) (m + 1) cap ∧ B ≤ g ∧ w.heap[g]? = some (.cells cur 69 (0, 0)) ∧ m + 1 ≤ cap ∧ cap ≤ maxLen ∧ cur.size = cap ∧ cur.toList.take (m + 1) = (ls s).map fun x => Value.pointer (some ⟨x, 0, none⟩) := by
  obtain ⟨h1, ⟨h2, h3⟩ | ⟨g, cap, cur, h2, h3, h4, h5, h6, h7, h8⟩⟩ := q.row s hs
  · omega
  · rw [itCells] at h8
    rw [hm, Nat.mul_one] at h8
    exact ⟨g, cap, cur, by rw [← hm]; exact h2, h3, h4, by omega, h6, by omega, h8⟩
/-- The last one of a row is struck. -/
theorem QR.shrink (q : QR w B b pre ids vs pl ls) {s : Nat} (hs : s < 2) {m g cap : Nat} (hm : (ls s).length = m + 1) (hv : vs s = .slice (some ⟨g, 0, none⟩) (m + 1) cap) :
    QR ((w.setCell ⟨g, m, none⟩ (.pointer none)).setCell ⟨b, s, none⟩ (.slice (some ⟨g, 0, none⟩) m cap)) B b pre ids (updF vs s (.slice (some ⟨g, 0, none⟩) m cap)) pl (updF ls s (ls s).dropLast) ∧
    OnlyS (QS b ids vs) w ((w.setCell ⟨g, m, none⟩ (.pointer none)).setCell ⟨b, s, none⟩ (.slice (some ⟨g, 0, none⟩) m cap)) := by
  obtain ⟨g', cap', cur, hv', hB, hc, h5, h6, h7, h8⟩ := q.rowC hs hm
  rw [hv] at hv'
  injection hv' with e1 _ e2
  injection e1 with e1
  injection e1 with e1
  subst e1 e2
  have hg : (vs s).ownBlock = some g := by rw [hv]; rfl
  have hbr : ∀ t, t < 2 → (vs t).ownBlock ≠ some b := fun t ht e => by
    obtain ⟨_, c, hc⟩ := (q.row t ht).kindQ e
    have := q.box
    rw [hc] at this; injection this with this; injection this with _ this; exact absurd this (by decide)
  have hgb : g ≠ b := fun e => hbr s hs (e ▸ hg)
  have hh : ∀ y, y ≠ g → y ≠ b → ((w.setCell ⟨g, m, none⟩ (.pointer none)).setCell ⟨b, s, none⟩ (.slice (some ⟨g, 0, none⟩) m cap)).heap[y]? = w.heap[y]? := fun y h1 h2 => by
    rw [Below.heap_setCell _ _ _ _ h2, Below.heap_setCell _ _ _ _ h1]
  have hbox : (w.setCell ⟨g, m, none⟩ (.pointer none)).heap[b]? = some (.cells #[vs 0, vs 1] 60 (0, 0)) := (Below.heap_setCell _ _ _ _ (Ne.symm hgb)).trans q.box
  refine ⟨⟨by rw [World.size_setCell, World.size_setCell]; exact q.low, q.lowb, ?_, fun t ht => ?_, fun t ht => ?_, fun y h1 h2 => ?_, fun y hy => ⟨(q.item y hy).1, ?_⟩, fun t ht y hy => ?_⟩, ((OnlyS.refl _ _).setCell (p := ⟨g, m, none⟩) (.own hs hg) _).setCell (p := ⟨b, s, none⟩) (.inl rfl) _⟩
  · rw [heap_setCell_same _ b s _ _ _ hbox]
    rcases two hs with rfl | rfl <;> simp [updF]
  · by_cases e : t = s
    · subst e
      rw [updF_same, updF_same]
      refine ⟨by rw [cellsL_length itCell_len], .inr ⟨g, cap, cur.setIfInBounds m (.pointer none), by rw [List.length_dropLast, hm]; rfl, hB, ?_, by rw [List.length_dropLast, hm]; omega, h6, by simp [h7], ?_⟩⟩
      · rw [Below.heap_setCell _ _ _ _ hgb, heap_setCell_same w g m _ _ _ hc]
      · rw [itCells, List.length_dropLast, hm, Nat.mul_one, Array.toList_setIfInBounds, Nat.add_sub_cancel, List.take_set_of_le (Nat.le_refl m), List.dropLast_eq_take, List.map_take, ← h8, List.take_take, hm, Nat.add_sub_cancel, Nat.min_eq_left (by omega)]
    · rw [updF_ne _ _ e, updF_ne _ _ e]
      refine (q.row t ht).keepQ fun y hy => hh y (fun e2 => ?_) fun e2 => hbr t ht (e2 ▸ hy)
      subst e2
      rcases two hs with rfl | rfl <;> rcases two ht with rfl | rfl
      · exact e rfl
      · exact q.apart y hg hy
      · exact q.apart y hy hg
      · exact e rfl
  · by_cases e : t = s
    · subst e; rw [updF_same, List.length_dropLast]; have := q.len t ht; omega
    · rw [updF_ne _ _ e]; exact q.len t ht
  · rcases two hs with rfl | rfl
    · rw [updF_same] at h1
      rw [updF_ne _ _ (by omega)] at h2
      exact q.apart y (by rw [hg]; exact h1) h2
    · rw [updF_same] at h2
      rw [updF_ne _ _ (by omega)] at h1
      exact q.apart y h1 (by rw [hg]; exact h2)
  · refine (hh y (fun e => q.row_item hs hg hy e.symm) (fun e => ?_)).trans (q.item y hy).2
    subst e
    have := (q.item y hy).2
    rw [q.box] at this; injection this with this; injection this with _ this; exact absurd this (by decide)
  · by_cases e : t = s
    · subst e
      rw [updF_same] at hy
      exact q.sub t ht y ((List.dropLast_sublist _).subset hy)
    · rw [updF_ne _ _ e] at hy
      exact q.sub t ht y hy
set_option maxRecDepth 100000 in
set_option maxHeartbeats 2000000 in
theorem endPop_any (q : QR w B b pre ids vs pl ls) {s : Nat} (hs : s < 2) {m : Nat} (hm : (ls s).length = m + 1) : Calls Try.prog 57 #[endV b s] w fun r w' => r = .returned (.iface 69 (.pointer (some ⟨(ls s).getD m 0, 0, none⟩))) ∧
    ∃ v', QR w' B b pre ids (updF vs s v') pl (updF ls s (ls s).dropLast) ∧ OnlyS (QS b ids vs) w w' ∧ v'.ownBlock = (vs s).ownBlock := by
  have hne : ls s ≠ [] := fun e => by rw [e] at hm; simp at hm
  have hml := q.len s hs
  rw [hm] at hml
  have hb1 : Below w.heap.size w (w.alloc (.cells #[.pointer (some ⟨b, 0, none⟩), .int .i64 s] 67)) := below_alloc1 w _
  have q1 := q.later hb1
  have hs0 : (w.alloc (.cells #[.pointer (some ⟨b, 0, none⟩), .int .i64 s] 67)).cell? ⟨w.heap.size, 0, none⟩ = some (.pointer (some ⟨b, 0, none⟩)) := by simp
  have hs1 : (w.alloc (.cells #[.pointer (some ⟨b, 0, none⟩), .int .i64 s] 67)).cell? ⟨w.heap.size, 1, none⟩ = some (.int .i64 s) := by simp
  obtain ⟨g, cap, cur, hv, _, hgw, hcap, _, _, _⟩ := q1.rowC hs hm
  obtain ⟨g', cap', hv', hg, hgl, _, hf, hc⟩ := q1.cellR hs hne
  rw [hv] at hv'
  injection hv' with e1 e3 e2
  clear e3
  injection e1 with e1
  injection e1 with e1
  subst e1 e2
  have c0 := q1.cellB hs
  rw [hv] at c0
  have cm := hc m (by omega)
  have fm := hf m
  have hsi : (s : Int) < 2 := by omega
  have hEN := q1.not_other (heap_alloc_new w _) (by decide) (by decide) (by decide)
  have heg : w.heap.size ≠ g := fun e => hEN (.own hs (e ▸ hg))
  have hgb : b ≠ g := fun e => by
    have h2 := hgw
    rw [← e, q1.box] at h2
    injection h2 with h2; injection h2 with _ h2; exact absurd h2 (by decide)
  have fb : (w.alloc (.cells #[.pointer (some ⟨b, 0, none⟩), .int .i64 s] 67)).frozen? ⟨b, s, none⟩ = false := by simp only [World.frozen?, q1.box]; simp
  have HSH : Hid (∀ n, QR ((((w.alloc (.cells #[.pointer (some ⟨b, 0, none⟩), .int .i64 s] 67)).drewN n).setCell ⟨g, m, none⟩ (.pointer none)).setCell ⟨b, s, none⟩ (.slice (some ⟨g, 0, none⟩) m cap)) B b pre ids (updF vs s (.slice (some ⟨g, 0, none⟩) m cap)) pl (updF ls s (ls s).dropLast) ∧ OnlyS (QS b ids vs) w ((((w.alloc (.cells #[.pointer (some ⟨b, 0, none⟩), .int .i64 s] 67)).drewN n).setCell ⟨g, m, none⟩ (.pointer none)).setCell ⟨b, s, none⟩ (.slice (some ⟨g, 0, none⟩) m cap))) := fun n => by
    have q2 : QR ((w.alloc (.cells #[.pointer (some ⟨b, 0, none⟩), .int .i64 s] 67)).drewN n) B b pre ids vs pl ls := q1.keep q1.low fun _ _ => rfl
    obtain ⟨h1, h2⟩ := q2.shrink hs hm hv
    exact ⟨h1, OnlyS.trans (OnlyS.of_below hb1.drewN) h2⟩
  have HG : Hid ((Value.slice (some ⟨g, 0, none⟩) m cap).ownBlock = (vs s).ownBlock) := by show _ = _; rw [hg]; rfl
  have HR3 : ∀ n j v, j ≠ s → (((w.alloc (.cells #[.pointer (some ⟨b, 0, none⟩), .int .i64 s] 67)).drewN n).setCell ⟨g, m, none⟩ v).cell? ⟨w.heap.size, j, none⟩ = (w.alloc (.cells #[.pointer (some ⟨b, 0, none⟩), .int .i64 s] 67)).cell? ⟨w.heap.size, j, none⟩ := fun n j v _ => cell_other _ heg m j v
  have hE0 : ∀ n, (((w.alloc (.cells #[.pointer (some ⟨b, 0, none⟩), .int .i64 s] 67)).drewN n).setCell ⟨g, m, none⟩ (.pointer none)).cell? ⟨w.heap.size, 0, none⟩ = some (.pointer (some ⟨b, 0, none⟩)) := fun n => (cell_other _ heg m 0 _).trans hs0
  have hE1 : ∀ n, (((w.alloc (.cells #[.pointer (some ⟨b, 0, none⟩), .int .i64 s] 67)).drewN n).setCell ⟨g, m, none⟩ (.pointer none)).cell? ⟨w.heap.size, 1, none⟩ = some (.int .i64 s) := fun n => (cell_other _ heg m 1 _).trans hs1
  have hE2 : ∀ n, (((w.alloc (.cells #[.pointer (some ⟨b, 0, none⟩), .int .i64 s] 67)).drewN n).setCell ⟨g, m, none⟩ (.pointer none)).cell? ⟨b, s, none⟩ = some (.slice (some ⟨g, 0, none⟩) (m + 1) cap) := fun n => (cell_other _ hgb m s _).trans c0
  have hE3 : ∀ n, (((w.alloc (.cells #[.pointer (some ⟨b, 0, none⟩), .int .i64 s] 67)).drewN n).setCell ⟨g, m, none⟩ (.pointer none)).frozen? ⟨b, s, none⟩ = false := fun n => (World.frozen?_of_block (Below.heap_setCell _ _ _ _ hgb)).trans fb
  clear HR3 q q1 hc hf hne hgw hEN hv hm hg hb1
  generalize (ls s).getD m 0 = x at *
  go_enter Try.func57, Try.ntmps57
  go_wp2
  go_quiet (fail)
  go_wp2
  go_region
  go_wp2
  go_ret
  obtain ⟨q9, o9⟩ := HSH.out (nq + 1)
  trace_state
  exact ⟨rfl, _, q9, o9, HG.out⟩
end

end Go.Proofs.Ytoaejkfejdaiaaa
