import Derived.IntWalk
import Derived.Test.YtnldkmcijmbhcaaGreatPk04
import Derived.Test.YtnldkmcijmbhcaaGreatPk10

/- The contract of clock's keep: a row of marks of the call's own. -/
namespace Go.Proofs.YtnldkmcijmbhcaaGreat
open Go.RowKit

/-- A row of marks of the call's own. -/
def OwnM (w : World) (B : Nat) (v : Value) (ms : List Mk) : Prop := OwnRow w B 154 8 mkCell v ms

theorem OwnM.cells {w : World} {B g cap : Nat} {ms : List Mk} (h : OwnM w B (.slice (some ⟨g, 0, none⟩) ms.length cap) ms) (k : Nat) (hk : k < ms.length) :
    (w.cell? ⟨g, k * 8, none⟩ = some (.int .i64 ms[k].e.thread) ∧ w.cell? ⟨g, k * 8 + 1, none⟩ = some (.int .i64 ms[k].e.kind) ∧ w.cell? ⟨g, k * 8 + 2, none⟩ = some (.int .i64 ms[k].e.obj) ∧ w.cell? ⟨g, k * 8 + 3, none⟩ = some (.bool ms[k].e.fail)) ∧
    (w.cell? ⟨g, k * 8 + 4, none⟩ = some (.int .i64 (ms[k].c 0)) ∧ w.cell? ⟨g, k * 8 + 5, none⟩ = some (.int .i64 (ms[k].c 1)) ∧ w.cell? ⟨g, k * 8 + 6, none⟩ = some (.int .i64 (ms[k].c 2)) ∧ w.cell? ⟨g, k * 8 + 7, none⟩ = some (.int .i64 (ms[k].c 3))) := by
  have hc : ∀ j, j < 8 → w.cell? ⟨g, k * 8 + j, none⟩ = (mkCell ms[k])[j]? := fun j hj => by
    rw [World.ownsRow.cellAt h _ (by omega), cellsL_get mkCell_len ms k j hk hj]
  exact ⟨⟨hc 0 (by omega), hc 1 (by omega), hc 2 (by omega), hc 3 (by omega)⟩, hc 4 (by omega), hc 5 (by omega), hc 6 (by omega), hc 7 (by omega)⟩
theorem OwnM.frozen {w : World} {B g cap : Nat} {ms : List Mk} (h : OwnM w B (.slice (some ⟨g, 0, none⟩) ms.length cap) ms) (j : Nat) : w.frozen? ⟨g, j, none⟩ = false := World.ownsRow.frozenAt h j

theorem set8_cells (ms : List Mk) (m : Mk) (k : Nat) (hk : k < ms.length) : ((((((((cellsL mkCell ms).set (k * 8) (.int .i64 m.e.thread)).set (k * 8 + 1) (.int .i64 m.e.kind)).set (k * 8 + 2) (.int .i64 m.e.obj)).set (k * 8 + 3) (.bool m.e.fail)).set (k * 8 + 4) (.int .i64 (m.c 0))).set (k * 8 + 5) (.int .i64 (m.c 1))).set (k * 8 + 6) (.int .i64 (m.c 2))).set (k * 8 + 7) (.int .i64 (m.c 3)) = cellsL mkCell (ms.set k m) := by
  apply cellsL_ext mkCell_len (by omega)
  · simp only [List.length_set]
    exact cellsL_length mkCell_len ms
  · intro i hi j hj
    have hi' : i < ms.length := by simpa using hi
    have hlen : (cellsL mkCell ms).length = ms.length * 8 := cellsL_length mkCell_len ms
    by_cases hik : i = k
    · subst hik
      rw [List.getElem_set_self]
      rcases (by omega : j = 0 ∨ j = 1 ∨ j = 2 ∨ j = 3 ∨ j = 4 ∨ j = 5 ∨ j = 6 ∨ j = 7) with rfl | rfl | rfl | rfl | rfl | rfl | rfl | rfl <;> simp [mkCell, evCell, nums4, hlen, List.getElem?_set] <;> omega
    · rw [List.getElem_set_ne (by omega)]
      simp only [List.getElem?_set]
      rw [if_neg (by omega), if_neg (by omega), if_neg (by omega), if_neg (by omega), if_neg (by omega), if_neg (by omega), if_neg (by omega), if_neg (by omega)]
      exact cellsL_get mkCell_len ms i j hi' hj

theorem OwnM.set8 {w : World} {B g cap : Nat} {ms : List Mk} (h : OwnM w B (.slice (some ⟨g, 0, none⟩) ms.length cap) ms) (m : Mk) (k : Nat) (hk : k < ms.length) :
    OwnM ((((((((w.setCell ⟨g, k * 8, none⟩ (.int .i64 m.e.thread)).setCell ⟨g, k * 8 + 1, none⟩ (.int .i64 m.e.kind)).setCell ⟨g, k * 8 + 2, none⟩ (.int .i64 m.e.obj)).setCell ⟨g, k * 8 + 3, none⟩ (.bool m.e.fail)).setCell ⟨g, k * 8 + 4, none⟩ (.int .i64 (m.c 0))).setCell ⟨g, k * 8 + 5, none⟩ (.int .i64 (m.c 1))).setCell ⟨g, k * 8 + 6, none⟩ (.int .i64 (m.c 2))).setCell ⟨g, k * 8 + 7, none⟩ (.int .i64 (m.c 3)))
      B (.slice (some ⟨g, 0, none⟩) ms.length cap) (ms.set k m) ∧
    Below B w ((((((((w.setCell ⟨g, k * 8, none⟩ (.int .i64 m.e.thread)).setCell ⟨g, k * 8 + 1, none⟩ (.int .i64 m.e.kind)).setCell ⟨g, k * 8 + 2, none⟩ (.int .i64 m.e.obj)).setCell ⟨g, k * 8 + 3, none⟩ (.bool m.e.fail)).setCell ⟨g, k * 8 + 4, none⟩ (.int .i64 (m.c 0))).setCell ⟨g, k * 8 + 5, none⟩ (.int .i64 (m.c 1))).setCell ⟨g, k * 8 + 6, none⟩ (.int .i64 (m.c 2))).setCell ⟨g, k * 8 + 7, none⟩ (.int .i64 (m.c 3))) := by
  have hB : B ≤ g := (World.ownsRow.lt h g rfl).1
  constructor
  · unfold OwnM OwnRow
    rw [← set8_cells ms m k hk, List.length_set]
    have h0 := (World.ownsRow.stored h (k * 8) (.int .i64 m.e.thread)).1
    have h1 := (World.ownsRow.stored h0 (k * 8 + 1) (.int .i64 m.e.kind)).1
    have h2 := (World.ownsRow.stored h1 (k * 8 + 2) (.int .i64 m.e.obj)).1
    have h3 := (World.ownsRow.stored h2 (k * 8 + 3) (.bool m.e.fail)).1
    have h4 := (World.ownsRow.stored h3 (k * 8 + 4) (.int .i64 (m.c 0))).1
    have h5 := (World.ownsRow.stored h4 (k * 8 + 5) (.int .i64 (m.c 1))).1
    have h6 := (World.ownsRow.stored h5 (k * 8 + 6) (.int .i64 (m.c 2))).1
    exact (World.ownsRow.stored h6 (k * 8 + 7) (.int .i64 (m.c 3))).1
  · exact ((((((((Below.refl B w).setCell (p := ⟨g, _, none⟩) hB _).setCell (p := ⟨g, _, none⟩) hB _).setCell (p := ⟨g, _, none⟩) hB _).setCell (p := ⟨g, _, none⟩) hB _).setCell (p := ⟨g, _, none⟩) hB _).setCell (p := ⟨g, _, none⟩) hB _).setCell (p := ⟨g, _, none⟩) hB _).setCell (p := ⟨g, _, none⟩) hB _

theorem OwnM.back {w : World} {B : Nat} {v : Value} {ms ms' : List Mk} (h : OwnM w B v ms) (e : ms = ms') : OwnM w B v ms' := e ▸ h
/-- What keep answers. -/
def KeepR (B : Nat) (w : World) (ms : List Mk) (r : Ending) (w' : World) : Prop := ∃ v, r = .returned v ∧ OwnM w' B v ms ∧ Below B w w'

def MkBox (w : World) (g : Nat) (m : Mk) : Prop := MidAt w g 154 (mkCell m)
theorem MkBox.cells {w : World} {g : Nat} {m : Mk} (h : MkBox w g m) : w.cell? ⟨g, 0, none⟩ = some (.int .i64 m.e.thread) ∧ w.cell? ⟨g, 1, none⟩ = some (.int .i64 m.e.kind) ∧ w.cell? ⟨g, 2, none⟩ = some (.int .i64 m.e.obj) ∧ w.cell? ⟨g, 3, none⟩ = some (.bool m.e.fail) ∧
    w.cell? ⟨g, 4, none⟩ = some (.int .i64 (m.c 0)) ∧ w.cell? ⟨g, 5, none⟩ = some (.int .i64 (m.c 1)) ∧ w.cell? ⟨g, 6, none⟩ = some (.int .i64 (m.c 2)) ∧ w.cell? ⟨g, 7, none⟩ = some (.int .i64 (m.c 3)) :=
  ⟨by rw [MidAt.cell h]; rfl, by rw [MidAt.cell h]; rfl, by rw [MidAt.cell h]; rfl, by rw [MidAt.cell h]; rfl, by rw [MidAt.cell h]; rfl, by rw [MidAt.cell h]; rfl, by rw [MidAt.cell h]; rfl, by rw [MidAt.cell h]; rfl⟩
theorem mkBox_new (w : World) (m : Mk) : MkBox (w.alloc (.cells #[.int .i64 m.e.thread, .int .i64 m.e.kind, .int .i64 m.e.obj, .bool m.e.fail, .int .i64 (m.c 0), .int .i64 (m.c 1), .int .i64 (m.c 2), .int .i64 (m.c 3)] 154)) w.heap.size m := heap_alloc_new w _
theorem infoMark : (Tryz.prog.info? 154).map (fun i => (i.zero, i.size, i.bytes)) = some (some (.agg #[.int .i64 0, .int .i64 0, .int .i64 0, .bool false, .int .i64 0, .int .i64 0, .int .i64 0, .int .i64 0]), 8, 64) := by kernel_rfl

set_option maxRecDepth 100000 in
set_option maxHeartbeats 4000000 in
theorem keep_any (B : Nat) (v : Value) (ms : List Mk) (m : Mk) (w : World) (hown : OwnM w B v ms) (hB : B ≤ w.heap.size) (hm : ms.length ≤ 1000000) :
    Calls Tryz.prog 94 #[v, .agg #[.int .i64 m.e.thread, .int .i64 m.e.kind, .int .i64 m.e.obj, .bool m.e.fail, .int .i64 (m.c 0), .int .i64 (m.c 1), .int .i64 (m.c 2), .int .i64 (m.c 3)]] w (KeepR B w (keepM ms m)) := by
  obtain ⟨a, cap, rfl, _, _⟩ := hown.form mkCell_len hm
  have H0 := Lib.hid (And.intro (mkBox_new w m) (And.intro (OwnRow.alloc hown (.cells #[.int .i64 m.e.thread, .int .i64 m.e.kind, .int .i64 m.e.obj, .bool m.e.fail, .int .i64 (m.c 0), .int .i64 (m.c 1), .int .i64 (m.c 2), .int .i64 (m.c 3)] 154)) (below_alloc1 w (.cells #[.int .i64 m.e.thread, .int .i64 m.e.kind, .int .i64 m.e.obj, .bool m.e.fail, .int .i64 (m.c 0), .int .i64 (m.c 1), .int .i64 (m.c 2), .int .i64 (m.c 3)] 154))))
  clear hown
  go_enter Tryz.func94, Tryz.ntmps94
  go_wp2
  go_loopw [8] (fun i wr => ∃ k : Nat, k ≤ ms.length ∧ i = .int .i64 k ∧ Hid (∀ j (h : j < k) (h2 : j < ms.length), (ms[j]).e ≠ m.e) ∧ Hid (MkBox wr w.heap.size m ∧ OwnM wr B (.slice a ms.length cap) ms ∧ Below w.heap.size w wr)) (fun i _ => ms.length - (intOf i).toNat)
  case atStart => exact ⟨0, Nat.zero_le _, rfl, (fun j h => absurd h (by omega)), H0⟩
  case round =>
    clear H0
    obtain ⟨k, hk, rfl, HN, HW⟩ := hrel
    obtain ⟨c0, c1, c2, c3, c4, c5, c6, c7⟩ := HW.out.1.cells
    have hb := HW.out.2.2
    by_cases hlt : k < ms.length
    · obtain ⟨g, cap', hv, hg, hgl⟩ := HW.out.2.1.block (by intro e; simp [e] at hlt)
      obtain ⟨rfl, rfl⟩ : a = some ⟨g, 0, none⟩ ∧ cap = cap' := by simpa using hv
      clear hv
      obtain ⟨⟨x0, x1, x2, x3⟩, y4, y5, y6, y7⟩ := HW.out.2.1.cells k hlt
      have heq := run_equal_ev ms[k].e m.e
      by_cases he : ms[k].e = m.e
      · have hq2 : decide (ms[k].e = m.e) = true := by simp [he]
        rw [hq2] at heq
        have HE := Lib.hid (keepM_at hlt (fun i hi => HN.out i hi (by omega)) he)
        obtain ⟨f0, f1, f2, f3⟩ := And.intro (HW.out.2.1.frozen (k * 8)) (And.intro (HW.out.2.1.frozen (k * 8 + 1)) (And.intro (HW.out.2.1.frozen (k * 8 + 2)) (HW.out.2.1.frozen (k * 8 + 3))))
        obtain ⟨f4, f5, f6, f7⟩ := And.intro (HW.out.2.1.frozen (k * 8 + 4)) (And.intro (HW.out.2.1.frozen (k * 8 + 5)) (And.intro (HW.out.2.1.frozen (k * 8 + 6)) (HW.out.2.1.frozen (k * 8 + 7))))
        have HS : Hid (∀ n, _ ∧ _) := fun n => OwnM.set8 (w := wr.drewN n) HW.out.2.1 m k hlt
        clear he hq2 HN HW
        generalize ms[k] = x at *
        go_wp2
        go_quiet (fail)
        go_wp2
        go_ret
        refine ⟨.slice (some ⟨g, 0, none⟩) ms.length cap, rfl, ?_, ?_⟩
        · rw [HE.out]
          exact (HS.out nq).1
        · exact (hb.mono hB).drewN.trans (HS.out nq).2
      · have hq2 : decide (ms[k].e = m.e) = false := by simpa using he
        rw [hq2] at heq
        have HN2 : Hid (∀ j (h : j < k + 1) (h2 : j < ms.length), (ms[j]).e ≠ m.e) := by
          intro j hj hj2
          by_cases e : j = k
          · subst e; exact he
          · exact HN.out j (by omega) hj2
        clear he hq2 HN y4 y5 y6 y7
        generalize ms[k] = x at *
        go_wp2
        go_quiet (fail)
        go_wp2
        go_roundw
        case rel => exact ⟨k + 1, by omega, by go_num, HN2, HW.out.1, HW.out.2.1, hb.drewN⟩
        case measure => simp [intOf]; omega
    · obtain rfl : k = ms.length := by omega
      have HE := Lib.hid (keepM_new (ms := ms) (m := m) (fun x hx => by
        obtain ⟨i, hi, rfl⟩ := List.mem_iff_getElem.1 hx
        exact HN.out i hi hi))
      have hz := hb.size
      go_wp2_with (at_builtin; refine wp_appendR (f := mkCell) (n := 8) 150 154 64 (.agg #[.int .i64 0, .int .i64 0, .int .i64 0, .bool false, .int .i64 0, .int .i64 0, .int .i64 0, .int .i64 0]) Tryz.underlying150 infoMark rfl (by omega) (by omega) mkCell_len rfl (.tmp 25) (.tmp 27) rfl B _ ms rfl (OwnRow.alloc HW.out.2.1 _) ⟨wr.heap.size, 0, none⟩ rfl m (mkCell_one m) (cells_new wr (mkCell m) _ _ rfl) (by omega) (by simp; omega) ?_; intro v1 w2 hown2 hb3 _)
      go_ret
      exact ⟨v1, rfl, by rw [HE.out]; exact hown2, ((hb.mono hB).trans (below_alloc1 _ _ |>.mono (by omega))).trans hb3⟩

end Go.Proofs.YtnldkmcijmbhcaaGreat

/- The contracts of clock's below and right. -/
namespace Go.Proofs.YtnldkmcijmbhcaaGreat
open Go.RowKit

set_option maxRecDepth 100000 in
set_option maxHeartbeats 1000000 in
theorem cRight_any (a : Option Addr) (cap : Nat) (l : List Ev) (w : World) (hl : EvsAt w a l) :
    Calls Tryz.prog 92 #[.slice a l.length cap] w fun r w' => r = .returned (.bool (rightL l)) ∧ Below w.heap.size w w' := by
  have hm := hl.1
  unfold maxLen at hm
  have HL := Lib.hid hl
  clear hl
  go_enter Tryz.func92, Tryz.ntmps92
  go_wp2
  go_loopw [7] (fun i wr => ∃ k : Nat, k ≤ l.length ∧ i = .int .i64 k ∧ Hid (rightL (l.take k) = true) ∧ Below w.heap.size w wr) (fun i _ => l.length - (intOf i).toNat)
  case atStart => exact ⟨0, Nat.zero_le _, rfl, rfl, Below.refl _ _⟩
  case round =>
    obtain ⟨k, hk, rfl, HR, hb⟩ := hrel
    by_cases hlt : k < l.length
    · obtain ⟨b, o, rfl, hc⟩ := HL.out.2 (by intro e; simp [e] at hlt)
      obtain ⟨c0, c1, c2, c3⟩ := hc k hlt
      have d0 := cell_later hb c0
      have d1 := cell_later hb c1
      have d2 := cell_later hb c2
      have d3 := cell_later hb c3
      have HT := Lib.hid (rightL_take l k hlt)
      have hx1 : Hid (rightEv l[k] = false → rightL l = false) := fun h => rightL_no hlt h
      have hb4 := hb.alloc hb.size (.cells #[.int .i64 l[k].thread, .int .i64 l[k].kind, .int .i64 l[k].obj, .bool l[k].fail] 81)
      clear hc c0 c1 c2 c3
      generalize l[k] = x at *
      go_wp2_with fail
      refine (evRight_any x _).mono ?_
      rintro r w2 ⟨rfl, hb5⟩
      have hb6 := hb4.trans (hb5.mono hb4.size)
      clear hb4 hb5
      cases hr : rightEv x
      · have HN := Lib.hid (hx1.out hr)
        clear hx1 HT
        go_wp2
        go_ret
        exact ⟨ret_bool HN.out.symm, hb6⟩
      · have HN : Hid (rightL (l.take (k + 1)) = true) := by show _ = _; rw [HT.out, HR.out, hr]; rfl
        clear hx1 HT
        go_wp2
        go_roundw
        case rel => exact ⟨k + 1, by omega, by go_num, HN, hb6⟩
        case measure => simp [intOf]; omega
    · obtain rfl : k = l.length := by omega
      have HE : Hid (rightL l = true) := by have h := HR.out; rw [List.take_length] at h; exact h
      go_wp2
      go_ret
      exact ⟨ret_bool HE.out.symm, hb⟩

end Go.Proofs.YtnldkmcijmbhcaaGreat

/- The contract of clock's Clocks. -/
namespace Go.Proofs.YtnldkmcijmbhcaaGreat
open Go.RowKit

def ckCell (c : Nat → Nat) : List Value := nums4 (fun t => (c t : Int))
theorem ckCell_len (c : Nat → Nat) : (ckCell c).length = 4 := rfl
/-- A row's clocks. -/
def cks (l : List Ev) : List (Nat → Nat) := if rightL l then (List.range l.length).map (fun (k t : Nat) => clk l k t) else []
theorem cks_right {l : List Ev} (h : rightL l = true) : cks l = (List.range l.length).map (fun (k t : Nat) => clk l k t) := if_pos h
theorem cks_len {l : List Ev} (h : rightL l = true) : (cks l).length = l.length := by rw [cks_right h]; simp
theorem cks_get {l : List Ev} (h : rightL l = true) {k : Nat} (hk : k < l.length) : (cks l)[k]'(by rw [cks_len h]; exact hk) = fun t : Nat => clk l k t := by
  simp [cks_right h]
theorem cks_wrong {l : List Ev} (h : rightL l = false) : cks l = [] := by unfold cks; rw [if_neg (by simp [h])]

/-- The clocks, the first k of them there. -/
def half (l : List Ev) (k : Nat) : List (Nat → Nat) := (List.range l.length).map fun i => if i < k then (fun t : Nat => clk l i t) else fun _ => 0
theorem half_len (l : List Ev) (k : Nat) : (half l k).length = l.length := by simp [half]
theorem half_get {l : List Ev} {k i : Nat} (h : i < l.length) : (half l k)[i]'(by rw [half_len]; exact h) = if i < k then (fun t : Nat => clk l i t) else fun _ => 0 := by simp [half]
theorem half_all {l : List Ev} (h : rightL l = true) : half l l.length = cks l := by
  rw [cks_right h]
  unfold half
  apply List.map_congr_left
  intro i hi
  rw [if_pos (by simpa using hi)]
theorem half_zero (l : List Ev) : cellsL ckCell (half l 0) = List.replicate (l.length * 4) (.int .i64 0) := by
  symm
  apply cellsL_ext ckCell_len (by omega)
  · rw [half_len]; simp
  · intro i hi j hj
    rw [half_len] at hi
    rw [half_get hi, if_neg (by omega)]
    rw [List.getElem?_replicate, if_pos (by omega)]
    rcases (by omega : j = 0 ∨ j = 1 ∨ j = 2 ∨ j = 3) with rfl | rfl | rfl | rfl <;> rfl

theorem run_make_n {P : Program} (t e : TypeId) (z : Value) (k bytes : Nat) (ht : P.underlying t = some (.slice e)) (hinfo : (P.info? e).map (fun i => (i.zero, i.size, i.bytes)) = some (some z, k, bytes))
    (n : Nat) (hbytes : bytes * n ≤ 281474976710656) (h63 : n ≤ 9223372036854775807) (w : World) :
    (Instr.makeSlice t (.int .i64 (n : Int)) (.int .i64 (n : Int))).run P w = .ok (.slice (some ⟨w.heap.size, 0, none⟩) n n) (w.alloc (.cells (madeCells z.cells (n * k)) e)) := run_make_k t e z k bytes ht hinfo n hbytes h63 w

theorem made4 (n : Nat) : (madeCells #[.int .i64 0, .int .i64 0, .int .i64 0, .int .i64 0] (n * 4)) = (List.replicate (n * 4) (.int .i64 0)).toArray := by
  unfold madeCells
  apply Array.ext
  · simp
  · intro i h1 h2
    simp
    have : i % 4 = 0 ∨ i % 4 = 1 ∨ i % 4 = 2 ∨ i % 4 = 3 := by omega
    rcases this with h | h | h | h <;> simp [h]

theorem ck_set1 (cs : List (Nat → Nat)) (k t v : Nat) (hk : k < cs.length) (ht : t < 4) : (cellsL ckCell cs).set (k * 4 + t) (.int .i64 (v : Int)) = cellsL ckCell (cs.set k fun j => if j = t then v else cs[k] j) := by
  have hlen : (cellsL ckCell cs).length = cs.length * 4 := cellsL_length ckCell_len cs
  apply cellsL_ext ckCell_len (by omega)
  · simp only [List.length_set]
    exact hlen
  · intro i hi j hj
    have hi' : i < cs.length := by simpa using hi
    have hg := cellsL_get ckCell_len cs i j hi' hj
    by_cases hik : i = k
    · subst hik
      rw [List.getElem_set_self, List.getElem?_set]
      by_cases hjt : j = t
      · subst hjt
        rw [if_pos rfl, if_pos (by omega)]
        unfold ckCell
        rw [nums4_get _ hj]
        simp
      · rw [if_neg (by omega), hg]
        unfold ckCell
        rw [nums4_get _ hj, nums4_get _ hj]
        simp [hjt]
    · rw [List.getElem_set_ne (by omega), List.getElem?_set, if_neg (by omega), hg]
theorem ck_congr {cs ds : List (Nat → Nat)} (hl : cs.length = ds.length) (h : ∀ i (h1 : i < cs.length) (h2 : i < ds.length) t, t < 4 → cs[i] t = ds[i] t) : cellsL ckCell cs = cellsL ckCell ds := by
  apply cellsL_ext ckCell_len (by omega)
  · rw [cellsL_length ckCell_len, hl]
  · intro i hi j hj
    rw [cellsL_get ckCell_len cs i j (by omega) hj]
    unfold ckCell
    rw [nums4_get _ hj, nums4_get _ hj, h i (by omega) hi j hj]
theorem ck_set4 (cs : List (Nat → Nat)) (k : Nat) (c : Nat → Nat) (hk : k < cs.length) :
    ((((cellsL ckCell cs).set (k * 4) (.int .i64 (c 0))).set (k * 4 + 1) (.int .i64 (c 1))).set (k * 4 + 2) (.int .i64 (c 2))).set (k * 4 + 3) (.int .i64 (c 3)) = cellsL ckCell (cs.set k c) := by
  have hlen : (cellsL ckCell cs).length = cs.length * 4 := cellsL_length ckCell_len cs
  apply cellsL_ext ckCell_len (by omega)
  · simp only [List.length_set]
    exact hlen
  · intro i hi j hj
    have hi' : i < cs.length := by simpa using hi
    by_cases hik : i = k
    · subst hik
      rw [List.getElem_set_self]
      rcases (by omega : j = 0 ∨ j = 1 ∨ j = 2 ∨ j = 3) with rfl | rfl | rfl | rfl <;> simp [ckCell, nums4, hlen, List.getElem?_set] <;> omega
    · rw [List.getElem_set_ne (by omega)]
      simp only [List.getElem?_set]
      rw [if_neg (by omega), if_neg (by omega), if_neg (by omega), if_neg (by omega)]
      exact cellsL_get ckCell_len cs i j hi' hj

theorem cnt_le_n (q : Nat → Bool) (n : Nat) : cnt q n ≤ n := by
  induction n with
  | zero => exact Nat.le_refl _
  | succ n ih => rw [cnt_succ]; split <;> omega
theorem clk_bd (l : List Ev) (k : Nat) (t : Int) : clk l k t ≤ k + 1 := cnt_le_n _ _

/-- The row of clocks in block g. -/
def CkAt (w : World) (g : Nat) (cs : List (Nat → Nat)) : Prop := MidAt w g 118 (cellsL ckCell cs)
theorem CkAt.cell {w : World} {g : Nat} {cs : List (Nat → Nat)} (h : CkAt w g cs) {k t : Nat} (hk : k < cs.length) (ht : t < 4) : w.cell? ⟨g, k * 4 + t, none⟩ = some (.int .i64 (cs[k] t)) := by
  rw [MidAt.cell h, cellsL_get ckCell_len cs k t hk ht]
  exact nums4_get _ ht
theorem CkAt.four {w : World} {g : Nat} {cs : List (Nat → Nat)} (h : CkAt w g cs) {k : Nat} (hk : k < cs.length) : (w.cell? ⟨g, k * 4, none⟩ = some (.int .i64 (cs[k] 0)) ∧ w.cell? ⟨g, k * 4 + 1, none⟩ = some (.int .i64 (cs[k] 1)) ∧ w.cell? ⟨g, k * 4 + 2, none⟩ = some (.int .i64 (cs[k] 2)) ∧ w.cell? ⟨g, k * 4 + 3, none⟩ = some (.int .i64 (cs[k] 3))) ∧
    w.frozen? ⟨g, k * 4, none⟩ = false ∧ w.frozen? ⟨g, k * 4 + 1, none⟩ = false ∧ w.frozen? ⟨g, k * 4 + 2, none⟩ = false ∧ w.frozen? ⟨g, k * 4 + 3, none⟩ = false :=
  ⟨⟨h.cell (t := 0) hk (by omega), h.cell hk (by omega), h.cell hk (by omega), h.cell hk (by omega)⟩, MidAt.frozen h _, MidAt.frozen h _, MidAt.frozen h _, MidAt.frozen h _⟩
theorem CkAt.later {w w' : World} {g : Nat} {cs : List (Nat → Nat)} (h : CkAt w g cs) (hb : Below w.heap.size w w') : CkAt w' g cs := MidAt.later h hb
theorem CkAt.below {w w' : World} {B g : Nat} {cs : List (Nat → Nat)} (h : CkAt w g cs) (hb : Below B w w') (hg : g < B) : CkAt w' g cs := (hb.block g hg).trans h
theorem CkAt.set4 {w : World} {g : Nat} {cs : List (Nat → Nat)} (h : CkAt w g cs) {k : Nat} (hk : k < cs.length) (c : Nat → Nat) :
    CkAt ((((w.setCell ⟨g, k * 4, none⟩ (.int .i64 (c 0))).setCell ⟨g, k * 4 + 1, none⟩ (.int .i64 (c 1))).setCell ⟨g, k * 4 + 2, none⟩ (.int .i64 (c 2))).setCell ⟨g, k * 4 + 3, none⟩ (.int .i64 (c 3))) g (cs.set k c) := by
  unfold CkAt
  rw [← ck_set4 cs k c hk]
  exact MidAt.set (MidAt.set (MidAt.set (MidAt.set h _ _) _ _) _ _) _ _
theorem CkAt.set1 {w : World} {g : Nat} {cs : List (Nat → Nat)} (h : CkAt w g cs) {k t : Nat} (hk : k < cs.length) (ht : t < 4) (v : Nat) : CkAt (w.setCell ⟨g, k * 4 + t, none⟩ (.int .i64 (v : Int))) g (cs.set k fun j => if j = t then v else cs[k] j) := by
  unfold CkAt
  rw [← ck_set1 cs k t v hk ht]
  exact MidAt.set h _ _
theorem CkAt.congr {w : World} {g : Nat} {cs ds : List (Nat → Nat)} (h : CkAt w g cs) (hl : cs.length = ds.length) (h2 : ∀ i (h1 : i < cs.length) (h2 : i < ds.length) t, t < 4 → cs[i] t = ds[i] t) : CkAt w g ds := by
  unfold CkAt
  rw [← ck_congr hl h2]
  exact h
theorem OwnM.only {w w' : World} {B g : Nat} {v : Value} {ms : List Mk} (h : OwnM w B v ms) (ho : Only g w w') (hg : g < B) : OwnM w' B v ms := OwnRow.only h ho hg
theorem OwnM.later {w w' : World} {B : Nat} {v : Value} {ms : List Mk} (h : OwnM w B v ms) (hb : Below w.heap.size w w') : OwnM w' B v ms := OwnRow.later h hb

/-- What Clocks holds in memory ahead of event k. -/
def CkW (w1 : World) (l : List Ev) (k : Nat) (v : Value) (wr : World) : Prop :=
  CkAt wr w1.heap.size (half l k) ∧ (∃ ms, OwnM wr (w1.heap.size + 1) v ms ∧ Lst l k ms) ∧ Below w1.heap.size w1 wr

set_option maxRecDepth 100000 in
set_option maxHeartbeats 4000000 in
theorem clocks_any (a : Option Addr) (cap : Nat) (l : List Ev) (w : World) (hl : EvsAt w a l) (hm : l.length ≤ 1000) :
    Calls Tryz.prog 55 #[.slice a l.length cap] w fun r w' => ∃ a' cap', r = .returned (.slice a' (cks l).length cap') ∧ RowAt w' a' 4 ckCell (cks l) ∧ Below w.heap.size w w' := by
  have HL := Lib.hid hl
  cases hr : rightL l
  · have HE := Lib.hid (cks_wrong hr)
    have HC := Lib.hid (cRight_any a cap l w hl)
    clear hl
    go_enter Tryz.func55, Tryz.ntmps55
    go_wp2_with fail
    refine HC.out.mono ?_
    rw [hr]
    rintro r w1 ⟨rfl, hb⟩
    clear HC hr
    go_wp2
    go_ret
    exact ⟨none, 0, by rw [HE.out]; rfl, by rw [HE.out]; exact rowAt_nil _ _ _ _, hb⟩
  · have HR := Lib.hid hr
    have HC := Lib.hid (cRight_any a cap l w hl)
    have hinfo : (Tryz.prog.info? 118).map (fun i => (i.zero, i.size, i.bytes)) = some (some (.agg #[.int .i64 0, .int .i64 0, .int .i64 0, .int .i64 0]), 4, 32) := by kernel_rfl
    have hmk := run_make_n (P := Tryz.prog) 123 118 (.agg #[.int .i64 0, .int .i64 0, .int .i64 0, .int .i64 0]) 4 32 Tryz.underlying123 hinfo l.length (by omega) (by omega)
    clear hl hinfo
    go_enter Tryz.func55, Tryz.ntmps55
    go_wp2_with fail
    refine HC.out.mono ?_
    rw [hr]
    rintro r w1 ⟨rfl, hb⟩
    clear HC hr
    have H0 : Hid (CkW w1 l 0 (.slice none 0 0) (w1.alloc (.cells (madeCells #[.int .i64 0, .int .i64 0, .int .i64 0, .int .i64 0] (l.length * 4)) 118))) := by
      refine ⟨?_, ⟨[], ownRow_nil _ _ _ _ _, lst_zero l⟩, below_alloc1 _ _⟩
      unfold CkAt
      rw [half_zero, made4]
      exact heap_alloc_new _ _
    go_wp2_with fail
    go_loopw [4, 15] (fun v i wr => ∃ k : Nat, k ≤ l.length ∧ i = .int .i64 k ∧ Hid (CkW w1 l k v wr)) (fun _ i _ => l.length - (intOf i).toNat)
    case atStart => exact ⟨0, Nat.zero_le _, rfl, H0⟩
    case round =>
      clear H0 hmk
      obtain ⟨k, hk, rfl, HW⟩ := hrel
      by_cases hlt : k < l.length
      · obtain ⟨b, o, rfl, hc⟩ := HL.out.2 (by intro e; simp [e] at hlt)
        obtain ⟨ms, hown, hlst⟩ := HW.out.2.1
        obtain ⟨a', cap', rfl, hrow, _⟩ := hown.form mkCell_len (by have := hlst.1; omega)
        have hbw : Below w.heap.size w wr := hb.trans (HW.out.2.2.mono hb.size)
        obtain ⟨c0, c1, c2, c3⟩ := hc k hlt
        have d0 := cell_later hbw c0
        have d1 := cell_later hbw c1
        have d2 := cell_later hbw c2
        have d3 := cell_later hbw c3
        have hx := rightEv_bd (rightL_get HR.out hlt)
        have HX : Hid (evI l k = l[k]) := evI_get hlt
        clear hc c0 c1 c2 c3
        generalize l[k] = x at *
        obtain ⟨xt, xk, xo, xf⟩ := x
        dsimp only at hx d0 d1 d2 d3
        obtain ⟨th, rfl⟩ : ∃ th : Nat, xt = th := ⟨xt.toNat, by omega⟩
        have hth : th < 4 := by omega
        clear hx
        have HA := Lib.hid (And.intro hown (And.intro hlst hrow))
        have hlst2 := Lib.hid hlst
        clear hown hlst hrow
        have hb1 := below_alloc1 wr (.cells #[.int .i64 (th : Int), .int .i64 xk, .int .i64 xo, .bool xf] 81)
        have HXB : Hid (EvBox (wr.alloc (.cells #[.int .i64 (th : Int), .int .i64 xk, .int .i64 xo, .bool xf] 81)) wr.heap.size ⟨th, xk, xo, xf⟩) := EvBox.new wr ⟨th, xk, xo, xf⟩
        go_wp2_with fail
        generalize wr.alloc (.cells #[.int .i64 (th : Int), .int .i64 xk, .int .i64 xo, .bool xf] 81) = W2 at *
        refine (known_any a' cap' ms ⟨th, xk, xo, xf⟩ W2 (HA.out.2.2.later hb1)).mono ?_
        rintro r w3 ⟨rfl, hb3⟩
        have HXB3 := Lib.hid (HXB.out.later hb3)
        have hb4 := hb1.trans (hb3.mono hb1.size)
        have HCK := Lib.hid (HW.out.1.later hb4)
        have HO3 := Lib.hid (HA.out.1.later hb4)
        have HL3 := Lib.hid HA.out.2.1
        have hb5 := HW.out.2.2.trans (hb4.mono HW.out.2.2.size)
        have HKC : Hid (∀ t : Nat, clk l k t = kn ms ⟨th, xk, xo, xf⟩ t + if (th : Int) = (t : Int) then 1 else 0) := fun t => by have h := hlst2.out.clk t; rw [HX.out] at h; exact h
        have HW0 := Lib.hid HW.out.1
        clear HXB hb1 hb3 hb4 HW HA
        obtain ⟨⟨p0, p1, p2, p3⟩, f0, f1, f2, f3⟩ := HCK.out.four (k := k) (by rw [half_len]; exact hlt)
        have hg1 : w1.heap.size < wr.heap.size := MidAt.lt HW0.out
        have hon : Only w1.heap.size w3 ((((w3.setCell ⟨w1.heap.size, k * 4, none⟩ (.int .i64 (kn ms ⟨th, xk, xo, xf⟩ 0))).setCell ⟨w1.heap.size, k * 4 + 1, none⟩ (.int .i64 (kn ms ⟨th, xk, xo, xf⟩ 1))).setCell ⟨w1.heap.size, k * 4 + 2, none⟩ (.int .i64 (kn ms ⟨th, xk, xo, xf⟩ 2))).setCell ⟨w1.heap.size, k * 4 + 3, none⟩ (.int .i64 (kn ms ⟨th, xk, xo, xf⟩ 3))) := ((((Only.refl _ _).setCell _ _).setCell _ _).setCell _ _).setCell _ _
        have HCK4 := Lib.hid (HCK.out.set4 (k := k) (by rw [half_len]; exact hlt) (kn ms ⟨th, xk, xo, xf⟩))
        have HXB4 := Lib.hid (HXB3.out.only hon (by omega))
        have HO4 := Lib.hid (HO3.out.only hon (by omega))
        have hb6 : Below w1.heap.size w1 ((((w3.setCell ⟨w1.heap.size, k * 4, none⟩ (.int .i64 (kn ms ⟨th, xk, xo, xf⟩ 0))).setCell ⟨w1.heap.size, k * 4 + 1, none⟩ (.int .i64 (kn ms ⟨th, xk, xo, xf⟩ 1))).setCell ⟨w1.heap.size, k * 4 + 2, none⟩ (.int .i64 (kn ms ⟨th, xk, xo, xf⟩ 2))).setCell ⟨w1.heap.size, k * 4 + 3, none⟩ (.int .i64 (kn ms ⟨th, xk, xo, xf⟩ 3))) := hb5.trans (hon.below (Nat.le_refl _) hb5.size)
        clear HCK HXB3 HO3 hon
        go_wp2_with fail
        generalize ((((w3.setCell ⟨w1.heap.size, k * 4, none⟩ (.int .i64 (kn ms ⟨th, xk, xo, xf⟩ 0))).setCell ⟨w1.heap.size, k * 4 + 1, none⟩ (.int .i64 (kn ms ⟨th, xk, xo, xf⟩ 1))).setCell ⟨w1.heap.size, k * 4 + 2, none⟩ (.int .i64 (kn ms ⟨th, xk, xo, xf⟩ 2))).setCell ⟨w1.heap.size, k * 4 + 3, none⟩ (.int .i64 (kn ms ⟨th, xk, xo, xf⟩ 3))) = W4 at *
        clear p0 p1 p2 p3 f0 f1 f2 f3 hb5
        obtain ⟨e0, e1, e2, e3⟩ := HXB4.out.cells
        have q0 := HCK4.out.cell (k := k) (t := th) (by rw [List.length_set, half_len]; exact hlt) hth
        rw [List.getElem_set_self] at q0
        have qf := MidAt.frozen HCK4.out (k * 4 + th)
        have hkb : kn ms ⟨th, xk, xo, xf⟩ th ≤ 2000 := by have h1 := HKC.out th; have h2 := clk_bd l k th; omega
        have hti : (th : Int) < 4 := by omega
        have hti0 : (0 : Int) ≤ th := by omega
        have hwr : IntKind.i64.wrap ((kn ms ⟨th, xk, xo, xf⟩ th : Int) + 1) = (kn ms ⟨th, xk, xo, xf⟩ th : Int) + 1 := IntWalk.i64_in _ (by omega)
        go_still_tail 10, (by kernel_rfl)
        have HCK5 : Hid (CkAt (W4.setCell ⟨w1.heap.size, k * 4 + th, none⟩ (.int .i64 ((kn ms ⟨th, xk, xo, xf⟩ th : Int) + 1))).drew w1.heap.size (half l (k + 1))) := by
          have h1 := HCK4.out.set1 (k := k) (t := th) (by rw [List.length_set, half_len]; exact hlt) hth (kn ms ⟨th, xk, xo, xf⟩ th + 1)
          show CkAt (W4.setCell _ _) _ _
          rw [Int.natCast_add] at h1
          refine CkAt.congr h1 (by simp [half_len]) fun i h3 h4 t ht => ?_
          have h5 : i < l.length := by rw [half_len] at h4; exact h4
          rw [half_get h5]
          by_cases e : i = k
          · subst e
            simp only [List.getElem_set_self]
            rw [if_pos (show i < i + 1 by omega), HKC.out t]
            by_cases e2 : t = th
            · subst e2
              simp
            · rw [if_neg e2, if_neg (by omega)]
              rfl
          · rw [List.getElem_set_ne (by omega), List.getElem_set_ne (by omega), half_get h5]
            by_cases e3 : i < k
            · rw [if_pos e3, if_pos (show i < k + 1 by omega)]
            · rw [if_neg e3, if_neg (show ¬ i < k + 1 by omega)]
        have hon : Only w1.heap.size W4 (W4.setCell ⟨w1.heap.size, k * 4 + th, none⟩ (.int .i64 ((kn ms ⟨th, xk, xo, xf⟩ th : Int) + 1))).drew := ((Only.refl _ _).setCell _ _).drew
        have HXB5 := Lib.hid (HXB4.out.only hon (by omega))
        have HO5 := Lib.hid (HO4.out.only hon (by omega))
        have hb7 := hb6.trans (hon.below (Nat.le_refl _) hb6.size)
        clear HCK4 HXB4 HO4 hon hb6
        go_wp2_with fail
        clear q0 qf e0 e1 e2 e3 hwr
        generalize (W4.setCell ⟨w1.heap.size, k * 4 + th, none⟩ (.int .i64 ((kn ms ⟨th, xk, xo, xf⟩ th : Int) + 1))).drew = W5 at *
        obtain ⟨e0, e1, e2, e3⟩ := HXB5.out.cells
        have hlt2 : k < (half l (k + 1)).length := by rw [half_len]; exact hlt
        have hgk : (half l (k + 1))[k] = fun t : Nat => clk l k t := by rw [half_get hlt, if_pos (by omega)]
        obtain ⟨⟨p0, p1, p2, p3⟩, _⟩ := HCK5.out.four hlt2
        rw [hgk] at p0 p1 p2 p3
        have HMK : Hid ((⟨⟨th, xk, xo, xf⟩, fun t : Nat => clk l k t⟩ : Mk) = mkOf l k) := by show _ = _; unfold mkOf; rw [HX.out]
        clear hgk hlt2
        go_still_tail 7, (by kernel_rfl)
        go_wp2_with fail
        refine (keep_any (w1.heap.size + 1) _ ms ⟨⟨th, xk, xo, xf⟩, fun t : Nat => clk l k t⟩ W5.drew HO5.out (by have := MidAt.lt HCK5.out; show _ < W5.heap.size; exact this) (by have := HL3.out.1; omega)).mono ?_
        rintro r w6 ⟨v6, rfl, hown6, hb8⟩
        have HR6 : Hid (CkW w1 l (k + 1) v6 w6) := by
          refine ⟨CkAt.below (w := W5.drew) (B := w1.heap.size + 1) HCK5.out hb8 (by omega), ⟨keepM ms (mkOf l k), ?_, HL3.out.keep⟩, hb7.drew.trans (hb8.mono (by omega))⟩
          rw [← HMK.out]
          exact hown6
        clear HCK5 HXB5 HO5 hb7 hb8 hown6 e0 e1 e2 e3 p0 p1 p2 p3
        go_wp2
        go_roundw
        case rel => exact ⟨k + 1, by omega, by go_num, HR6⟩
        case measure => simp [intOf]; omega
      · obtain rfl : k = l.length := by omega
        have HF : Hid (RowAt wr (some ⟨w1.heap.size, 0, none⟩) 4 ckCell (cks l)) := by
          have h := HW.out.1
          rw [half_all HR.out] at h
          refine ⟨by rw [cks_len HR.out]; unfold maxLen; omega, fun _ => ⟨w1.heap.size, 0, rfl, fun i hi j u hj => ?_⟩⟩
          rw [Nat.zero_add, MidAt.cell h, cellsL_get ckCell_len _ i j hi (by have := (List.getElem?_eq_some_iff.1 hj).1; simpa [ckCell, nums4] using this)]
          exact hj
        have hbw : Below w.heap.size w wr := hb.trans (HW.out.2.2.mono hb.size)
        clear HW
        go_wp2
        go_ret
        exact ⟨_, _, by rw [cks_len HR.out]; rfl, HF.out, hbw⟩

end Go.Proofs.YtnldkmcijmbhcaaGreat
