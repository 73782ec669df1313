/- The contract of awake of layer 3: true. -/
import Derived.Test.YtfhndbibabbnlaaEvPrint
import Derived.Test.YtfhndbibabbnlaaEvRead
import Derived.Test.YtfhndbibabbnlaaEvThreads
namespace Go.Proofs.Ytfhndbibabbnlaa
open Go.RowKit

def wkr : Ev := ⟨0, 2, 1, false⟩
def wkw : Ev := ⟨1, 3, 1, false⟩

theorem evs_two (w : World) (e f : Ev) : EvsAt (w.alloc (.cells #[.int .i64 e.thread, .int .i64 e.kind, .int .i64 e.obj, .bool e.fail, .int .i64 f.thread, .int .i64 f.kind, .int .i64 f.obj, .bool f.fail] 23)) (some ⟨w.heap.size, 0, none⟩) [e, f] := by
  refine ⟨by simp [maxLen], fun _ => ⟨w.heap.size, 0, rfl, fun i hi => ?_⟩⟩
  have : i = 0 ∨ i = 1 := by simp at hi; omega
  rcases this with rfl | rfl <;> simp

theorem wk_print (w : World) (a : Option Addr) (h : EvsAt w a [wkr, wkw]) : Calls Try.prog 14 #[.slice a 2 2] w fun r w' => r = .returned (.string ⟨#[40, 45]⟩) ∧ Below w.heap.size w w' :=
  (evPrint_any a 2 [wkr, wkw] w h (by decide)).mono fun r w' ⟨h1, h2⟩ => ⟨by rw [h1, show bstr (printE [wkr, wkw]) = ⟨#[40, 45]⟩ by decide], h2⟩
theorem wk_read (w : World) : Calls Try.prog 15 #[.string ⟨#[40, 45]⟩] w fun r w' => ∃ a cap, r = .returned (.tuple #[.slice a 2 cap, .int .i64 0]) ∧ Below w.heap.size w w' :=
  (evRead_any [40, 45] w (by decide)).mono fun r w' ⟨a, cap, h1, _, h2⟩ => ⟨a, cap, by rw [h1, show readOk [40, 45] = true by decide, show (readE [40, 45]).length = 2 by decide]; rfl, h2⟩
theorem wk_read0 (w : World) : Calls Try.prog 15 #[.string ⟨#[0]⟩] w fun r w' => ∃ a cap, r = .returned (.tuple #[.slice a 0 cap, .int .i64 3]) ∧ Below w.heap.size w w' :=
  (evRead_any [0] w (by decide)).mono fun r w' ⟨a, cap, h1, _, h2⟩ => ⟨a, cap, by rw [h1, show readOk [0] = false by decide, show (readE [0]).length = 0 by decide]; rfl, h2⟩
theorem wk_dep1 (w : World) : Calls Try.prog 10 #[.agg #[.int .i64 0, .int .i64 2, .int .i64 1, .bool false], .agg #[.int .i64 1, .int .i64 3, .int .i64 1, .bool false]] w fun r w' => r = .returned (.bool true) ∧ Below w.heap.size w w' := depends_any wkr wkw w
theorem wk_dep2 (w : World) : Calls Try.prog 10 #[.agg #[.int .i64 0, .int .i64 2, .int .i64 1, .bool false], .agg #[.int .i64 1, .int .i64 2, .int .i64 1, .bool false]] w fun r w' => r = .returned (.bool false) ∧ Below w.heap.size w w' := depends_any wkr ⟨1, 2, 1, false⟩ w
theorem wk_dep3 (w : World) : Calls Try.prog 10 #[.agg #[.int .i64 0, .int .i64 2, .int .i64 1, .bool false], .agg #[.int .i64 0, .int .i64 0, .int .i64 0, .bool false]] w fun r w' => r = .returned (.bool true) ∧ Below w.heap.size w w' := depends_any wkr ev0 w
theorem wk_right1 (w : World) : Calls Try.prog 12 #[.agg #[.int .i64 1, .int .i64 3, .int .i64 1, .bool false]] w fun r w' => r = .returned (.bool true) ∧ Below w.heap.size w w' := evRight_any wkw w
theorem wk_right2 (w : World) : Calls Try.prog 12 #[.agg #[.int .i64 0, .int .i64 0, .int .i64 0, .bool false]] w fun r w' => r = .returned (.bool false) ∧ Below w.heap.size w w' := evRight_any ev0 w
theorem wk_threads (w : World) (a : Option Addr) (h : EvsAt w a [wkw, wkr]) : Calls Try.prog 20 #[.slice a 2 2] w fun r w' => ∃ g, r = .returned (.slice (some ⟨g, 0, none⟩) 2 2) ∧ NumsAt w' (some ⟨g, 0, none⟩) [1, 0] ∧ Below w.heap.size w w' := evThreads_any a 2 [wkw, wkr] w h (by decide)
theorem wk_same {w : World} (a a' : Option Addr) (cap cap' : Nat) (h : NumsAt w a [1, 0]) (h' : NumsAt w a' [1, 0]) : Calls Try.prog 19 #[.slice a 2 cap, .slice a' 2 cap'] w
    fun r w' => r = .returned (.bool true) ∧ Below w.heap.size w w' := sameInts_any a a' cap cap' [1, 0] [1, 0] w h h'

/-- The two events of awake, in their boxes. -/
def WkBox (w : World) (g : Nat) : Prop := EvBox w g wkr ∧ EvBox w (g + 1) wkw
theorem WkBox.later {w w' : World} {g : Nat} (h : WkBox w g) (hb : Below w.heap.size w w') : WkBox w' g := ⟨h.1.later hb, h.2.later hb⟩
theorem WkBox.cells {w : World} {g : Nat} (h : WkBox w g) : w.cell? ⟨g, 0, none⟩ = some (.int .i64 0) ∧ w.cell? ⟨g, 1, none⟩ = some (.int .i64 2) ∧ w.cell? ⟨g, 2, none⟩ = some (.int .i64 1) ∧ w.cell? ⟨g, 3, none⟩ = some (.bool false) ∧
    w.cell? ⟨g + 1, 0, none⟩ = some (.int .i64 1) ∧ w.cell? ⟨g + 1, 1, none⟩ = some (.int .i64 3) ∧ w.cell? ⟨g + 1, 2, none⟩ = some (.int .i64 1) ∧ w.cell? ⟨g + 1, 3, none⟩ = some (.bool false) ∧ g + 1 < w.heap.size := by
  obtain ⟨h0, h1, h2, h3⟩ := h.1.cells
  obtain ⟨k0, k1, k2, k3⟩ := h.2.cells
  exact ⟨h0, h1, h2, h3, k0, k1, k2, k3, h.2.lt⟩
theorem wk_boxes (w : World) : WkBox ((w.alloc (.cells #[.int .i64 0, .int .i64 2, .int .i64 1, .bool false] 23)).alloc (.cells #[.int .i64 1, .int .i64 3, .int .i64 1, .bool false] 23)) w.heap.size := two_boxes wkr wkw w
theorem wk_evs (w : World) (g : Nat) (hg : g = w.heap.size) : EvsAt (w.alloc (.cells #[.int .i64 0, .int .i64 2, .int .i64 1, .bool false, .int .i64 1, .int .i64 3, .int .i64 1, .bool false] 23)) (some ⟨g, 0, none⟩) [wkr, wkw] := by
  subst hg
  exact evs_two w wkr wkw
theorem wk_evs' (w : World) : EvsAt (w.alloc (.cells #[.int .i64 1, .int .i64 3, .int .i64 1, .bool false, .int .i64 0, .int .i64 2, .int .i64 1, .bool false] 23)) (some ⟨w.heap.size, 0, none⟩) [wkw, wkr] := evs_two w wkw wkr
theorem wk_nums (w : World) : NumsAt (w.alloc (.cells #[.int .i64 1, .int .i64 0] 3)) (some ⟨w.heap.size, 0, none⟩) [1, 0] := by
  refine ⟨by simp [maxLen], fun _ => ⟨w.heap.size, 0, rfl, fun i hi => ?_⟩⟩
  have : i = 0 ∨ i = 1 := by simp at hi; omega
  rcases this with rfl | rfl <;> simp

set_option maxRecDepth 100000 in
set_option maxHeartbeats 4000000 in
theorem awake_any (w : World) : Calls Try.prog 9 #[] w fun r w' => r = .returned (.bool true) ∧ Below w.heap.size w w' := by
  have HX0 := Lib.hid (wk_boxes w)
  have hw0 : Below w.heap.size w ((w.alloc (.cells #[.int .i64 0, .int .i64 2, .int .i64 1, .bool false] 23)).alloc (.cells #[.int .i64 1, .int .i64 3, .int .i64 1, .bool false] 23)) := below_alloc2 w _ _
  go_enter Try.func9, Try.ntmps9
  go_wp2_with fail
  have hsz : w.heap.size + 1 + 1 = ((w.alloc (.cells #[.int .i64 0, .int .i64 2, .int .i64 1, .bool false] 23)).alloc (.cells #[.int .i64 1, .int .i64 3, .int .i64 1, .bool false] 23)).heap.size := by simp
  generalize (w.alloc (.cells #[.int .i64 0, .int .i64 2, .int .i64 1, .bool false] 23)).alloc (.cells #[.int .i64 1, .int .i64 3, .int .i64 1, .bool false] 23) = W0 at *
  have HE := Lib.hid (wk_evs W0 _ hsz)
  have HX1 := Lib.hid (HX0.out.later (below_alloc1 _ (.cells #[.int .i64 0, .int .i64 2, .int .i64 1, .bool false, .int .i64 1, .int .i64 3, .int .i64 1, .bool false] 23)))
  have hw1 := hw0.alloc hw0.size (.cells #[.int .i64 0, .int .i64 2, .int .i64 1, .bool false, .int .i64 1, .int .i64 3, .int .i64 1, .bool false] 23)
  clear HX0 hw0
  refine (wk_print _ _ HE.out).mono ?_
  rintro r v2 ⟨rfl, hb⟩
  have HX2 := Lib.hid (HX1.out.later hb)
  have hw2 := hw1.trans (hb.mono hw1.size)
  clear HX1 hw1 hb
  clear HE hsz
  go_wp2_with fail
  refine (wk_read _).mono ?_
  rintro r v3 ⟨a, cap, rfl, hb⟩
  have HX3 := Lib.hid (HX2.out.later hb)
  have hw3 := hw2.trans (hb.mono hw2.size)
  clear HX2 hw2 hb
  go_wp2_with fail
  refine (wk_read0 _).mono ?_
  rintro r v4 ⟨a0, cap0, rfl, hb⟩
  have HX4 := Lib.hid (HX3.out.later hb)
  have hw4 := hw3.trans (hb.mono hw3.size)
  clear HX3 hw3 hb
  obtain ⟨c0, c1, c2, c3, d0, d1, d2, d3, lz⟩ := HX4.out.cells
  go_wp2_with fail
  refine (wk_dep1 _).mono ?_
  rintro r v5 ⟨rfl, hb⟩
  have HX5 := Lib.hid (HX4.out.later hb)
  have hw5 := hw4.trans (hb.mono hw4.size)
  clear HX4 hw4 hb c0 c1 c2 c3 d0 d1 d2 d3 lz
  obtain ⟨c0, c1, c2, c3, d0, d1, d2, d3, lz⟩ := HX5.out.cells
  go_wp2_with fail
  refine (wk_dep2 _).mono ?_
  rintro r v6 ⟨rfl, hb⟩
  have HX6 := Lib.hid (HX5.out.later hb)
  have hw6 := hw5.trans (hb.mono hw5.size)
  clear HX5 hw5 hb c0 c1 c2 c3 d0 d1 d2 d3 lz
  obtain ⟨c0, c1, c2, c3, d0, d1, d2, d3, lz⟩ := HX6.out.cells
  go_wp2_with fail
  refine (wk_dep3 _).mono ?_
  rintro r v7 ⟨rfl, hb⟩
  have HX7 := Lib.hid (HX6.out.later hb)
  have hw7 := hw6.trans (hb.mono hw6.size)
  clear HX6 hw6 hb c0 c1 c2 c3 d0 d1 d2 d3 lz
  obtain ⟨c0, c1, c2, c3, d0, d1, d2, d3, lz⟩ := HX7.out.cells
  go_wp2_with fail
  have HE := Lib.hid (wk_evs v7 _ rfl)
  have HX8 := Lib.hid (HX7.out.later (below_alloc1 _ (.cells #[.int .i64 0, .int .i64 2, .int .i64 1, .bool false, .int .i64 1, .int .i64 3, .int .i64 1, .bool false] 23)))
  have hw8 := hw7.alloc hw7.size (.cells #[.int .i64 0, .int .i64 2, .int .i64 1, .bool false, .int .i64 1, .int .i64 3, .int .i64 1, .bool false] 23)
  clear HX7 hw7
  refine (wk_print _ _ HE.out).mono ?_
  rintro r v9 ⟨rfl, hb⟩
  have HX9 := Lib.hid (HX8.out.later hb)
  have hw9 := hw8.trans (hb.mono hw8.size)
  clear HX8 hw8 hb c0 c1 c2 c3 d0 d1 d2 d3 lz
  clear HE
  obtain ⟨c0, c1, c2, c3, d0, d1, d2, d3, lz⟩ := HX9.out.cells
  go_wp2_with fail
  refine (wk_right1 _).mono ?_
  rintro r v10 ⟨rfl, hb⟩
  have HX10 := Lib.hid (HX9.out.later hb)
  have hw10 := hw9.trans (hb.mono hw9.size)
  clear HX9 hw9 hb c0 c1 c2 c3 d0 d1 d2 d3 lz
  go_wp2_with fail
  refine (wk_right2 _).mono ?_
  rintro r v11 ⟨rfl, hb⟩
  have HX11 := Lib.hid (HX10.out.later hb)
  have hw11 := hw10.trans (hb.mono hw10.size)
  clear HX10 hw10 hb
  obtain ⟨c0, c1, c2, c3, d0, d1, d2, d3, lz⟩ := HX11.out.cells
  go_wp2_with fail
  have HE := Lib.hid (wk_evs' v11)
  have HX12 := Lib.hid (HX11.out.later (below_alloc1 _ (.cells #[.int .i64 1, .int .i64 3, .int .i64 1, .bool false, .int .i64 0, .int .i64 2, .int .i64 1, .bool false] 23)))
  have hw12 := hw11.alloc hw11.size (.cells #[.int .i64 1, .int .i64 3, .int .i64 1, .bool false, .int .i64 0, .int .i64 2, .int .i64 1, .bool false] 23)
  clear HX11 hw11
  refine (wk_threads _ _ HE.out).mono ?_
  rintro r v13 ⟨g, rfl, hn, hb⟩
  have HX13 := Lib.hid (HX12.out.later hb)
  have hw13 := hw12.trans (hb.mono hw12.size)
  clear HX12 hw12 hb c0 c1 c2 c3 d0 d1 d2 d3 lz
  clear HE
  have HN := Lib.hid (hn.later (below_alloc1 v13 (.cells #[.int .i64 1, .int .i64 0] 3)))
  have HN1 := Lib.hid (wk_nums v13)
  clear hn
  go_wp2_with fail
  have HX14 := Lib.hid (HX13.out.later (below_alloc1 _ (.cells #[.int .i64 1, .int .i64 0] 3)))
  have hw14 := hw13.alloc hw13.size (.cells #[.int .i64 1, .int .i64 0] 3)
  clear HX13 hw13
  refine (wk_same _ _ _ _ HN.out HN1.out).mono ?_
  rintro r v15 ⟨rfl, hb⟩
  have HX15 := Lib.hid (HX14.out.later hb)
  have hw15 := hw14.trans (hb.mono hw14.size)
  clear HX14 hw14 hb
  clear HN HN1
  go_wp2
  go_ret
  exact ⟨rfl, hw15⟩

end Go.Proofs.Ytfhndbibabbnlaa
