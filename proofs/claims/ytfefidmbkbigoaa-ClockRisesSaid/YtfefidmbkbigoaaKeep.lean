/- The contract of clock's keep: a row of marks of the call's own. -/
import Derived.Test.YtfefidmbkbigoaaMarks
namespace Go.Proofs.Ytfefidmbkbigoaa
open Go.RowKit

/-- A row of marks of the call's own. -/
def OwnM (w : World) (B : Nat) (v : Value) (ms : List Mk) : Prop := OwnRow w B 59 8 mkCell v ms

theorem OwnM.cells {w : World} {B g cap : Nat} {ms : List Mk} (h : OwnM w B (.slice (some ⟨g, 0, none⟩) ms.length cap) ms) (k : Nat) (hk : k < ms.length) :
    (w.cell? ⟨g, k * 8, none⟩ = some (.int .i64 ms[k].e.thread) ∧ w.cell? ⟨g, k * 8 + 1, none⟩ = some (.int .i64 ms[k].e.kind) ∧ w.cell? ⟨g, k * 8 + 2, none⟩ = some (.int .i64 ms[k].e.obj) ∧ w.cell? ⟨g, k * 8 + 3, none⟩ = some (.bool ms[k].e.fail)) ∧
    (w.cell? ⟨g, k * 8 + 4, none⟩ = some (.int .i64 (ms[k].c 0)) ∧ w.cell? ⟨g, k * 8 + 5, none⟩ = some (.int .i64 (ms[k].c 1)) ∧ w.cell? ⟨g, k * 8 + 6, none⟩ = some (.int .i64 (ms[k].c 2)) ∧ w.cell? ⟨g, k * 8 + 7, none⟩ = some (.int .i64 (ms[k].c 3))) := by
  have hc : ∀ j, j < 8 → w.cell? ⟨g, k * 8 + j, none⟩ = (mkCell ms[k])[j]? := fun j hj => by
    rw [World.ownsRow.cellAt h _ (by omega), cellsL_get mkCell_len ms k j hk hj]
  exact ⟨⟨hc 0 (by omega), hc 1 (by omega), hc 2 (by omega), hc 3 (by omega)⟩, hc 4 (by omega), hc 5 (by omega), hc 6 (by omega), hc 7 (by omega)⟩
theorem OwnM.frozen {w : World} {B g cap : Nat} {ms : List Mk} (h : OwnM w B (.slice (some ⟨g, 0, none⟩) ms.length cap) ms) (j : Nat) : w.frozen? ⟨g, j, none⟩ = false := World.ownsRow.frozenAt h j

theorem set8_cells (ms : List Mk) (m : Mk) (k : Nat) (hk : k < ms.length) : ((((((((cellsL mkCell ms).set (k * 8) (.int .i64 m.e.thread)).set (k * 8 + 1) (.int .i64 m.e.kind)).set (k * 8 + 2) (.int .i64 m.e.obj)).set (k * 8 + 3) (.bool m.e.fail)).set (k * 8 + 4) (.int .i64 (m.c 0))).set (k * 8 + 5) (.int .i64 (m.c 1))).set (k * 8 + 6) (.int .i64 (m.c 2))).set (k * 8 + 7) (.int .i64 (m.c 3)) = cellsL mkCell (ms.set k m) := by
  apply cellsL_ext mkCell_len (by omega)
  · simp only [List.length_set]
    exact cellsL_length mkCell_len ms
  · intro i hi j hj
    have hi' : i < ms.length := by simpa using hi
    have hlen : (cellsL mkCell ms).length = ms.length * 8 := cellsL_length mkCell_len ms
    by_cases hik : i = k
    · subst hik
      rw [List.getElem_set_self]
      rcases (by omega : j = 0 ∨ j = 1 ∨ j = 2 ∨ j = 3 ∨ j = 4 ∨ j = 5 ∨ j = 6 ∨ j = 7) with rfl | rfl | rfl | rfl | rfl | rfl | rfl | rfl <;> simp [mkCell, evCell, nums4, hlen, List.getElem?_set] <;> omega
    · rw [List.getElem_set_ne (by omega)]
      simp only [List.getElem?_set]
      rw [if_neg (by omega), if_neg (by omega), if_neg (by omega), if_neg (by omega), if_neg (by omega), if_neg (by omega), if_neg (by omega), if_neg (by omega)]
      exact cellsL_get mkCell_len ms i j hi' hj

theorem OwnM.set8 {w : World} {B g cap : Nat} {ms : List Mk} (h : OwnM w B (.slice (some ⟨g, 0, none⟩) ms.length cap) ms) (m : Mk) (k : Nat) (hk : k < ms.length) :
    OwnM ((((((((w.setCell ⟨g, k * 8, none⟩ (.int .i64 m.e.thread)).setCell ⟨g, k * 8 + 1, none⟩ (.int .i64 m.e.kind)).setCell ⟨g, k * 8 + 2, none⟩ (.int .i64 m.e.obj)).setCell ⟨g, k * 8 + 3, none⟩ (.bool m.e.fail)).setCell ⟨g, k * 8 + 4, none⟩ (.int .i64 (m.c 0))).setCell ⟨g, k * 8 + 5, none⟩ (.int .i64 (m.c 1))).setCell ⟨g, k * 8 + 6, none⟩ (.int .i64 (m.c 2))).setCell ⟨g, k * 8 + 7, none⟩ (.int .i64 (m.c 3)))
      B (.slice (some ⟨g, 0, none⟩) ms.length cap) (ms.set k m) ∧
    Below B w ((((((((w.setCell ⟨g, k * 8, none⟩ (.int .i64 m.e.thread)).setCell ⟨g, k * 8 + 1, none⟩ (.int .i64 m.e.kind)).setCell ⟨g, k * 8 + 2, none⟩ (.int .i64 m.e.obj)).setCell ⟨g, k * 8 + 3, none⟩ (.bool m.e.fail)).setCell ⟨g, k * 8 + 4, none⟩ (.int .i64 (m.c 0))).setCell ⟨g, k * 8 + 5, none⟩ (.int .i64 (m.c 1))).setCell ⟨g, k * 8 + 6, none⟩ (.int .i64 (m.c 2))).setCell ⟨g, k * 8 + 7, none⟩ (.int .i64 (m.c 3))) := by
  have hB : B ≤ g := (World.ownsRow.lt h g rfl).1
  constructor
  · unfold OwnM OwnRow
    rw [← set8_cells ms m k hk, List.length_set]
    have h0 := (World.ownsRow.stored h (k * 8) (.int .i64 m.e.thread)).1
    have h1 := (World.ownsRow.stored h0 (k * 8 + 1) (.int .i64 m.e.kind)).1
    have h2 := (World.ownsRow.stored h1 (k * 8 + 2) (.int .i64 m.e.obj)).1
    have h3 := (World.ownsRow.stored h2 (k * 8 + 3) (.bool m.e.fail)).1
    have h4 := (World.ownsRow.stored h3 (k * 8 + 4) (.int .i64 (m.c 0))).1
    have h5 := (World.ownsRow.stored h4 (k * 8 + 5) (.int .i64 (m.c 1))).1
    have h6 := (World.ownsRow.stored h5 (k * 8 + 6) (.int .i64 (m.c 2))).1
    exact (World.ownsRow.stored h6 (k * 8 + 7) (.int .i64 (m.c 3))).1
  · exact ((((((((Below.refl B w).setCell (p := ⟨g, _, none⟩) hB _).setCell (p := ⟨g, _, none⟩) hB _).setCell (p := ⟨g, _, none⟩) hB _).setCell (p := ⟨g, _, none⟩) hB _).setCell (p := ⟨g, _, none⟩) hB _).setCell (p := ⟨g, _, none⟩) hB _).setCell (p := ⟨g, _, none⟩) hB _).setCell (p := ⟨g, _, none⟩) hB _

theorem OwnM.back {w : World} {B : Nat} {v : Value} {ms ms' : List Mk} (h : OwnM w B v ms) (e : ms = ms') : OwnM w B v ms' := e ▸ h
theorem OwnM.nil_iff {w : World} {B : Nat} {a : Option Addr} {n cap : Nat} {ms : List Mk} (h : OwnM w B (.slice a n cap) ms) : n = ms.length := by
  obtain ⟨h1, ⟨h2, h3⟩ | ⟨g, cap, cur, h2, _⟩⟩ := h
  · simp at h2
    omega
  · simp at h2
    omega

/-- What keep answers. -/
def KeepR (B : Nat) (w : World) (ms : List Mk) (r : Ending) (w' : World) : Prop := ∃ v, r = .returned v ∧ OwnM w' B v ms ∧ Below B w w'

def MkBox (w : World) (g : Nat) (m : Mk) : Prop := MidAt w g 59 (mkCell m)
theorem MkBox.cells {w : World} {g : Nat} {m : Mk} (h : MkBox w g m) : w.cell? ⟨g, 0, none⟩ = some (.int .i64 m.e.thread) ∧ w.cell? ⟨g, 1, none⟩ = some (.int .i64 m.e.kind) ∧ w.cell? ⟨g, 2, none⟩ = some (.int .i64 m.e.obj) ∧ w.cell? ⟨g, 3, none⟩ = some (.bool m.e.fail) ∧
    w.cell? ⟨g, 4, none⟩ = some (.int .i64 (m.c 0)) ∧ w.cell? ⟨g, 5, none⟩ = some (.int .i64 (m.c 1)) ∧ w.cell? ⟨g, 6, none⟩ = some (.int .i64 (m.c 2)) ∧ w.cell? ⟨g, 7, none⟩ = some (.int .i64 (m.c 3)) :=
  ⟨by rw [MidAt.cell h]; rfl, by rw [MidAt.cell h]; rfl, by rw [MidAt.cell h]; rfl, by rw [MidAt.cell h]; rfl, by rw [MidAt.cell h]; rfl, by rw [MidAt.cell h]; rfl, by rw [MidAt.cell h]; rfl, by rw [MidAt.cell h]; rfl⟩
theorem mkBox_new (w : World) (m : Mk) : MkBox (w.alloc (.cells #[.int .i64 m.e.thread, .int .i64 m.e.kind, .int .i64 m.e.obj, .bool m.e.fail, .int .i64 (m.c 0), .int .i64 (m.c 1), .int .i64 (m.c 2), .int .i64 (m.c 3)] 59)) w.heap.size m := heap_alloc_new w _
theorem infoMark : (Try.prog.info? 59).map (fun i => (i.zero, i.size, i.bytes)) = some (some (.agg #[.int .i64 0, .int .i64 0, .int .i64 0, .bool false, .int .i64 0, .int .i64 0, .int .i64 0, .int .i64 0]), 8, 64) := by kernel_rfl

set_option maxRecDepth 100000 in
set_option maxHeartbeats 4000000 in
theorem keep_any (B : Nat) (v : Value) (ms : List Mk) (m : Mk) (w : World) (hown : OwnM w B v ms) (hB : B ≤ w.heap.size) (hm : ms.length ≤ 1000000) :
    Calls Try.prog 41 #[v, .agg #[.int .i64 m.e.thread, .int .i64 m.e.kind, .int .i64 m.e.obj, .bool m.e.fail, .int .i64 (m.c 0), .int .i64 (m.c 1), .int .i64 (m.c 2), .int .i64 (m.c 3)]] w (KeepR B w (keepM ms m)) := by
  obtain ⟨a, cap, rfl, _, _⟩ := hown.form mkCell_len hm
  have H0 := Lib.hid (And.intro (mkBox_new w m) (And.intro (OwnRow.alloc hown (.cells #[.int .i64 m.e.thread, .int .i64 m.e.kind, .int .i64 m.e.obj, .bool m.e.fail, .int .i64 (m.c 0), .int .i64 (m.c 1), .int .i64 (m.c 2), .int .i64 (m.c 3)] 59)) (below_alloc1 w (.cells #[.int .i64 m.e.thread, .int .i64 m.e.kind, .int .i64 m.e.obj, .bool m.e.fail, .int .i64 (m.c 0), .int .i64 (m.c 1), .int .i64 (m.c 2), .int .i64 (m.c 3)] 59))))
  clear hown
  go_enter Try.func41, Try.ntmps41
  go_wp2
  go_loopw [8] (fun i wr => ∃ k : Nat, k ≤ ms.length ∧ i = .int .i64 k ∧ Hid (∀ j (h : j < k) (h2 : j < ms.length), (ms[j]).e ≠ m.e) ∧ Hid (MkBox wr w.heap.size m ∧ OwnM wr B (.slice a ms.length cap) ms ∧ Below w.heap.size w wr)) (fun i _ => ms.length - (intOf i).toNat)
  case atStart => exact ⟨0, Nat.zero_le _, rfl, (fun j h => absurd h (by omega)), H0⟩
  case round =>
    clear H0
    obtain ⟨k, hk, rfl, HN, HW⟩ := hrel
    obtain ⟨c0, c1, c2, c3, c4, c5, c6, c7⟩ := HW.out.1.cells
    have hb := HW.out.2.2
    by_cases hlt : k < ms.length
    · obtain ⟨g, cap', hv, hg, hgl⟩ := HW.out.2.1.block (by intro e; simp [e] at hlt)
      obtain ⟨rfl, rfl⟩ : a = some ⟨g, 0, none⟩ ∧ cap = cap' := by simpa using hv
      clear hv
      obtain ⟨⟨x0, x1, x2, x3⟩, y4, y5, y6, y7⟩ := HW.out.2.1.cells k hlt
      have heq := run_equal_ev ms[k].e m.e
      by_cases he : ms[k].e = m.e
      · have hq2 : decide (ms[k].e = m.e) = true := by simp [he]
        rw [hq2] at heq
        have HE := Lib.hid (keepM_at hlt (fun i hi => HN.out i hi (by omega)) he)
        obtain ⟨f0, f1, f2, f3⟩ := And.intro (HW.out.2.1.frozen (k * 8)) (And.intro (HW.out.2.1.frozen (k * 8 + 1)) (And.intro (HW.out.2.1.frozen (k * 8 + 2)) (HW.out.2.1.frozen (k * 8 + 3))))
        obtain ⟨f4, f5, f6, f7⟩ := And.intro (HW.out.2.1.frozen (k * 8 + 4)) (And.intro (HW.out.2.1.frozen (k * 8 + 5)) (And.intro (HW.out.2.1.frozen (k * 8 + 6)) (HW.out.2.1.frozen (k * 8 + 7))))
        have HS : Hid (∀ n, _ ∧ _) := fun n => OwnM.set8 (w := wr.drewN n) HW.out.2.1 m k hlt
        clear he hq2 HN HW
        generalize ms[k] = x at *
        go_wp2
        go_quiet (fail)
        go_wp2
        go_ret
        refine ⟨.slice (some ⟨g, 0, none⟩) ms.length cap, rfl, ?_, ?_⟩
        · rw [HE.out]
          exact (HS.out nq).1
        · exact (hb.mono hB).drewN.trans (HS.out nq).2
      · have hq2 : decide (ms[k].e = m.e) = false := by simpa using he
        rw [hq2] at heq
        have HN2 : Hid (∀ j (h : j < k + 1) (h2 : j < ms.length), (ms[j]).e ≠ m.e) := by
          intro j hj hj2
          by_cases e : j = k
          · subst e; exact he
          · exact HN.out j (by omega) hj2
        clear he hq2 HN y4 y5 y6 y7
        generalize ms[k] = x at *
        go_wp2
        go_quiet (fail)
        go_wp2
        go_roundw
        case rel => exact ⟨k + 1, by omega, by go_num, HN2, HW.out.1, HW.out.2.1, hb.drewN⟩
        case measure => simp [intOf]; omega
    · obtain rfl : k = ms.length := by omega
      have HE := Lib.hid (keepM_new (ms := ms) (m := m) (fun x hx => by
        obtain ⟨i, hi, rfl⟩ := List.mem_iff_getElem.1 hx
        exact HN.out i hi hi))
      have hz := hb.size
      go_wp2_with (at_builtin; refine wp_appendR (f := mkCell) (n := 8) 54 59 64 (.agg #[.int .i64 0, .int .i64 0, .int .i64 0, .bool false, .int .i64 0, .int .i64 0, .int .i64 0, .int .i64 0]) Try.underlying54 infoMark rfl (by omega) (by omega) mkCell_len rfl (.tmp 25) (.tmp 27) rfl B _ ms rfl (OwnRow.alloc HW.out.2.1 _) ⟨wr.heap.size, 0, none⟩ rfl m (mkCell_one m) (cells_new wr (mkCell m) _ _ rfl) (by omega) (by simp; omega) ?_; intro v1 w2 hown2 hb3 _)
      go_ret
      exact ⟨v1, rfl, by rw [HE.out]; exact hown2, ((hb.mono hB).trans (below_alloc1 _ _ |>.mono (by omega))).trans hb3⟩

end Go.Proofs.Ytfefidmbkbigoaa
