import Derived.IntWalk
import Derived.RangeFuncNested
import Derived.RangeFuncBound
import Derived.RangeFuncCalls
import Derived.RangeFuncLeaves
import Derived.RangeFuncBox
import Derived.Shelf.Abstract
import Derived.Shelf.RegionOpen
import Derived.WalkKit
import Derived.OwnWalkIn
import Derived.TacticsInMore
import Derived.LoopNIn
import Derived.LoopIn
import Derived.Sort.QuietIn
import Derived.Maps.AppendAt
import Derived.Shelf.SlSortCmp.NoneTotal
import Derived.Deep.RegionHeld3
import Derived.Test.YtkjjbcgecnjniaaProg
import Derived.Test.YtkjjbcgecnjniaaPk02

/- The contract of clock's Clocks. -/
namespace Go.Proofs.Ytkjjbcgecnjniaa
open Go.RowKit

def ckCell (c : Nat → Nat) : List Value := nums4 (fun t => (c t : Int))
theorem ckCell_len (c : Nat → Nat) : (ckCell c).length = 4 := rfl
theorem ckCell_one (c : Nat → Nat) : ∀ v ∈ ckCell c, v.oneCell' = true := by
  intro v hv
  simp [ckCell, nums4] at hv
  rcases hv with rfl | rfl | rfl | rfl <;> rfl
/-- A row's clocks. -/
def cks (l : List Ev) : List (Nat → Nat) := if rightL l then (List.range l.length).map (fun (k t : Nat) => clk l k t) else []
theorem cks_right {l : List Ev} (h : rightL l = true) : cks l = (List.range l.length).map (fun (k t : Nat) => clk l k t) := if_pos h
theorem cks_len {l : List Ev} (h : rightL l = true) : (cks l).length = l.length := by rw [cks_right h]; simp
theorem cks_get {l : List Ev} (h : rightL l = true) {k : Nat} (hk : k < l.length) : (cks l)[k]'(by rw [cks_len h]; exact hk) = fun t : Nat => clk l k t := by
  simp [cks_right h]
theorem cks_wrong {l : List Ev} (h : rightL l = false) : cks l = [] := by unfold cks; rw [if_neg (by simp [h])]

/-- The clocks, the first k of them there. -/
def half (l : List Ev) (k : Nat) : List (Nat → Nat) := (List.range l.length).map fun i => if i < k then (fun t : Nat => clk l i t) else fun _ => 0
theorem half_len (l : List Ev) (k : Nat) : (half l k).length = l.length := by simp [half]
theorem half_get {l : List Ev} {k i : Nat} (h : i < l.length) : (half l k)[i]'(by rw [half_len]; exact h) = if i < k then (fun t : Nat => clk l i t) else fun _ => 0 := by simp [half]
theorem half_all {l : List Ev} (h : rightL l = true) : half l l.length = cks l := by
  rw [cks_right h]
  unfold half
  apply List.map_congr_left
  intro i hi
  rw [if_pos (by simpa using hi)]
theorem half_zero (l : List Ev) : cellsL ckCell (half l 0) = List.replicate (l.length * 4) (.int .i64 0) := by
  symm
  apply cellsL_ext ckCell_len (by omega)
  · rw [half_len]; simp
  · intro i hi j hj
    rw [half_len] at hi
    rw [half_get hi, if_neg (by omega)]
    rw [List.getElem?_replicate, if_pos (by omega)]
    rcases (by omega : j = 0 ∨ j = 1 ∨ j = 2 ∨ j = 3) with rfl | rfl | rfl | rfl <;> rfl

theorem run_make_n {P : Program} (t e : TypeId) (z : Value) (k bytes : Nat) (ht : P.underlying t = some (.slice e)) (hinfo : (P.info? e).map (fun i => (i.zero, i.size, i.bytes)) = some (some z, k, bytes))
    (n : Nat) (hbytes : bytes * n ≤ 281474976710656) (h63 : n ≤ 9223372036854775807) (w : World) :
    (Instr.makeSlice t (.int .i64 (n : Int)) (.int .i64 (n : Int))).run P w = .ok (.slice (some ⟨w.heap.size, 0, none⟩) n n) (w.alloc (.cells (madeCells z.cells (n * k)) e)) := run_make_k t e z k bytes ht hinfo n hbytes h63 w

theorem made4 (n : Nat) : (madeCells #[.int .i64 0, .int .i64 0, .int .i64 0, .int .i64 0] (n * 4)) = (List.replicate (n * 4) (.int .i64 0)).toArray := by
  unfold madeCells
  apply Array.ext
  · simp
  · intro i h1 h2
    simp
    have : i % 4 = 0 ∨ i % 4 = 1 ∨ i % 4 = 2 ∨ i % 4 = 3 := by omega
    rcases this with h | h | h | h <;> simp [h]

theorem half_step {l : List Ev} {k : Nat} (h : k < l.length) : (half l k).set k (fun t : Nat => clk l k t) = half l (k + 1) := by
  apply List.ext_getElem
  · simp [half]
  · intro i h1 h2
    rw [half_len] at h2
    rw [half_get h2]
    by_cases e : i = k
    · subst e
      rw [List.getElem_set_self, if_pos (show i < i + 1 by omega)]
    · rw [List.getElem_set_ne (by omega), half_get h2]
      by_cases h3 : i < k
      · rw [if_pos h3, if_pos (show i < k + 1 by omega)]
      · rw [if_neg h3, if_neg (show ¬ i < k + 1 by omega)]

theorem ck_set1 (cs : List (Nat → Nat)) (k t v : Nat) (hk : k < cs.length) (ht : t < 4) : (cellsL ckCell cs).set (k * 4 + t) (.int .i64 (v : Int)) = cellsL ckCell (cs.set k fun j => if j = t then v else cs[k] j) := by
  have hlen : (cellsL ckCell cs).length = cs.length * 4 := cellsL_length ckCell_len cs
  apply cellsL_ext ckCell_len (by omega)
  · simp only [List.length_set]
    exact hlen
  · intro i hi j hj
    have hi' : i < cs.length := by simpa using hi
    have hg := cellsL_get ckCell_len cs i j hi' hj
    by_cases hik : i = k
    · subst hik
      rw [List.getElem_set_self, List.getElem?_set]
      by_cases hjt : j = t
      · subst hjt
        rw [if_pos rfl, if_pos (by omega)]
        unfold ckCell
        rw [nums4_get _ hj]
        simp
      · rw [if_neg (by omega), hg]
        unfold ckCell
        rw [nums4_get _ hj, nums4_get _ hj]
        simp [hjt]
    · rw [List.getElem_set_ne (by omega), List.getElem?_set, if_neg (by omega), hg]
theorem ck_congr {cs ds : List (Nat → Nat)} (hl : cs.length = ds.length) (h : ∀ i (h1 : i < cs.length) (h2 : i < ds.length) t, t < 4 → cs[i] t = ds[i] t) : cellsL ckCell cs = cellsL ckCell ds := by
  apply cellsL_ext ckCell_len (by omega)
  · rw [cellsL_length ckCell_len, hl]
  · intro i hi j hj
    rw [cellsL_get ckCell_len cs i j (by omega) hj]
    unfold ckCell
    rw [nums4_get _ hj, nums4_get _ hj, h i (by omega) hi j hj]
theorem ck_set4 (cs : List (Nat → Nat)) (k : Nat) (c : Nat → Nat) (hk : k < cs.length) :
    ((((cellsL ckCell cs).set (k * 4) (.int .i64 (c 0))).set (k * 4 + 1) (.int .i64 (c 1))).set (k * 4 + 2) (.int .i64 (c 2))).set (k * 4 + 3) (.int .i64 (c 3)) = cellsL ckCell (cs.set k c) := by
  have hlen : (cellsL ckCell cs).length = cs.length * 4 := cellsL_length ckCell_len cs
  apply cellsL_ext ckCell_len (by omega)
  · simp only [List.length_set]
    exact hlen
  · intro i hi j hj
    have hi' : i < cs.length := by simpa using hi
    by_cases hik : i = k
    · subst hik
      rw [List.getElem_set_self]
      rcases (by omega : j = 0 ∨ j = 1 ∨ j = 2 ∨ j = 3) with rfl | rfl | rfl | rfl <;> simp [ckCell, nums4, hlen, List.getElem?_set] <;> omega
    · rw [List.getElem_set_ne (by omega)]
      simp only [List.getElem?_set]
      rw [if_neg (by omega), if_neg (by omega), if_neg (by omega), if_neg (by omega)]
      exact cellsL_get ckCell_len cs i j hi' hj

theorem cnt_le_n (q : Nat → Bool) (n : Nat) : cnt q n ≤ n := by
  induction n with
  | zero => exact Nat.le_refl _
  | succ n ih => rw [cnt_succ]; split <;> omega
theorem clk_bd (l : List Ev) (k : Nat) (t : Int) : clk l k t ≤ k + 1 := cnt_le_n _ _

/-- The row of clocks in block g. -/
def CkAt (w : World) (g : Nat) (cs : List (Nat → Nat)) : Prop := MidAt w g 66 (cellsL ckCell cs)
theorem CkAt.cell {w : World} {g : Nat} {cs : List (Nat → Nat)} (h : CkAt w g cs) {k t : Nat} (hk : k < cs.length) (ht : t < 4) : w.cell? ⟨g, k * 4 + t, none⟩ = some (.int .i64 (cs[k] t)) := by
  rw [MidAt.cell h, cellsL_get ckCell_len cs k t hk ht]
  exact nums4_get _ ht
theorem CkAt.four {w : World} {g : Nat} {cs : List (Nat → Nat)} (h : CkAt w g cs) {k : Nat} (hk : k < cs.length) : (w.cell? ⟨g, k * 4, none⟩ = some (.int .i64 (cs[k] 0)) ∧ w.cell? ⟨g, k * 4 + 1, none⟩ = some (.int .i64 (cs[k] 1)) ∧ w.cell? ⟨g, k * 4 + 2, none⟩ = some (.int .i64 (cs[k] 2)) ∧ w.cell? ⟨g, k * 4 + 3, none⟩ = some (.int .i64 (cs[k] 3))) ∧
    w.frozen? ⟨g, k * 4, none⟩ = false ∧ w.frozen? ⟨g, k * 4 + 1, none⟩ = false ∧ w.frozen? ⟨g, k * 4 + 2, none⟩ = false ∧ w.frozen? ⟨g, k * 4 + 3, none⟩ = false :=
  ⟨⟨h.cell (t := 0) hk (by omega), h.cell hk (by omega), h.cell hk (by omega), h.cell hk (by omega)⟩, MidAt.frozen h _, MidAt.frozen h _, MidAt.frozen h _, MidAt.frozen h _⟩
theorem CkAt.later {w w' : World} {g : Nat} {cs : List (Nat → Nat)} (h : CkAt w g cs) (hb : Below w.heap.size w w') : CkAt w' g cs := MidAt.later h hb
theorem CkAt.below {w w' : World} {B g : Nat} {cs : List (Nat → Nat)} (h : CkAt w g cs) (hb : Below B w w') (hg : g < B) : CkAt w' g cs := (hb.block g hg).trans h
theorem CkAt.set4 {w : World} {g : Nat} {cs : List (Nat → Nat)} (h : CkAt w g cs) {k : Nat} (hk : k < cs.length) (c : Nat → Nat) :
    CkAt ((((w.setCell ⟨g, k * 4, none⟩ (.int .i64 (c 0))).setCell ⟨g, k * 4 + 1, none⟩ (.int .i64 (c 1))).setCell ⟨g, k * 4 + 2, none⟩ (.int .i64 (c 2))).setCell ⟨g, k * 4 + 3, none⟩ (.int .i64 (c 3))) g (cs.set k c) := by
  unfold CkAt
  rw [← ck_set4 cs k c hk]
  exact MidAt.set (MidAt.set (MidAt.set (MidAt.set h _ _) _ _) _ _) _ _
theorem CkAt.set1 {w : World} {g : Nat} {cs : List (Nat → Nat)} (h : CkAt w g cs) {k t : Nat} (hk : k < cs.length) (ht : t < 4) (v : Nat) : CkAt (w.setCell ⟨g, k * 4 + t, none⟩ (.int .i64 (v : Int))) g (cs.set k fun j => if j = t then v else cs[k] j) := by
  unfold CkAt
  rw [← ck_set1 cs k t v hk ht]
  exact MidAt.set h _ _
theorem CkAt.congr {w : World} {g : Nat} {cs ds : List (Nat → Nat)} (h : CkAt w g cs) (hl : cs.length = ds.length) (h2 : ∀ i (h1 : i < cs.length) (h2 : i < ds.length) t, t < 4 → cs[i] t = ds[i] t) : CkAt w g ds := by
  unfold CkAt
  rw [← ck_congr hl h2]
  exact h
theorem OwnM.only {w w' : World} {B g : Nat} {v : Value} {ms : List Mk} (h : OwnM w B v ms) (ho : Only g w w') (hg : g < B) : OwnM w' B v ms := OwnRow.only h ho hg
theorem OwnM.later {w w' : World} {B : Nat} {v : Value} {ms : List Mk} (h : OwnM w B v ms) (hb : Below w.heap.size w w') : OwnM w' B v ms := OwnRow.later h hb

/-- What Clocks holds in memory ahead of event k. -/
def CkW (w1 : World) (l : List Ev) (k : Nat) (v : Value) (wr : World) : Prop :=
  CkAt wr w1.heap.size (half l k) ∧ (∃ ms, OwnM wr (w1.heap.size + 1) v ms ∧ Lst l k ms) ∧ Below w1.heap.size w1 wr

set_option maxRecDepth 100000 in
set_option maxHeartbeats 4000000 in
theorem clocks_any (a : Option Addr) (cap : Nat) (l : List Ev) (w : World) (hl : EvsAt w a l) (hm : l.length ≤ 1000) :
    Calls Try.prog 24 #[.slice a l.length cap] w fun r w' => ∃ a' cap', r = .returned (.slice a' (cks l).length cap') ∧ RowAt w' a' 4 ckCell (cks l) ∧ Below w.heap.size w w' := by
  have HL := Lib.hid hl
  cases hr : rightL l
  · have HE := Lib.hid (cks_wrong hr)
    have HC := Lib.hid (cRight_any a cap l w hl)
    clear hl
    go_enter Try.func24, Try.ntmps24
    go_wp2_with fail
    refine HC.out.mono ?_
    rw [hr]
    rintro r w1 ⟨rfl, hb⟩
    clear HC hr
    go_wp2
    go_ret
    exact ⟨none, 0, by rw [HE.out]; rfl, by rw [HE.out]; exact rowAt_nil _ _ _ _, hb⟩
  · have HR := Lib.hid hr
    have HC := Lib.hid (cRight_any a cap l w hl)
    have hinfo : (Try.prog.info? 66).map (fun i => (i.zero, i.size, i.bytes)) = some (some (.agg #[.int .i64 0, .int .i64 0, .int .i64 0, .int .i64 0]), 4, 32) := by kernel_rfl
    have hmk := run_make_n (P := Try.prog) 71 66 (.agg #[.int .i64 0, .int .i64 0, .int .i64 0, .int .i64 0]) 4 32 Try.underlying71 hinfo l.length (by omega) (by omega)
    clear hl hinfo
    go_enter Try.func24, Try.ntmps24
    go_wp2_with fail
    refine HC.out.mono ?_
    rw [hr]
    rintro r w1 ⟨rfl, hb⟩
    clear HC hr
    have H0 : Hid (CkW w1 l 0 (.slice none 0 0) (w1.alloc (.cells (madeCells #[.int .i64 0, .int .i64 0, .int .i64 0, .int .i64 0] (l.length * 4)) 66))) := by
      refine ⟨?_, ⟨[], ownRow_nil _ _ _ _ _, lst_zero l⟩, below_alloc1 _ _⟩
      unfold CkAt
      rw [half_zero, made4]
      exact heap_alloc_new _ _
    go_wp2_with fail
    go_loopw [4, 15] (fun v i wr => ∃ k : Nat, k ≤ l.length ∧ i = .int .i64 k ∧ Hid (CkW w1 l k v wr)) (fun _ i _ => l.length - (intOf i).toNat)
    case atStart => exact ⟨0, Nat.zero_le _, rfl, H0⟩
    case round =>
      clear H0 hmk
      obtain ⟨k, hk, rfl, HW⟩ := hrel
      by_cases hlt : k < l.length
      · obtain ⟨b, o, rfl, hc⟩ := HL.out.2 (by intro e; simp [e] at hlt)
        obtain ⟨ms, hown, hlst⟩ := HW.out.2.1
        obtain ⟨a', cap', rfl, hrow, _⟩ := hown.form mkCell_len (by have := hlst.1; omega)
        have hbw : Below w.heap.size w wr := hb.trans (HW.out.2.2.mono hb.size)
        obtain ⟨c0, c1, c2, c3⟩ := hc k hlt
        have d0 := cell_later hbw c0
        have d1 := cell_later hbw c1
        have d2 := cell_later hbw c2
        have d3 := cell_later hbw c3
        have hx := rightEv_bd (rightL_get HR.out hlt)
        have HX : Hid (evI l k = l[k]) := evI_get hlt
        clear hc c0 c1 c2 c3
        generalize l[k] = x at *
        obtain ⟨xt, xk, xo, xf⟩ := x
        dsimp only at hx d0 d1 d2 d3
        obtain ⟨th, rfl⟩ : ∃ th : Nat, xt = th := ⟨xt.toNat, by omega⟩
        have hth : th < 4 := by omega
        clear hx
        have HA := Lib.hid (And.intro hown (And.intro hlst hrow))
        have hlst2 := Lib.hid hlst
        clear hown hlst hrow
        have hb1 := below_alloc1 wr (.cells #[.int .i64 (th : Int), .int .i64 xk, .int .i64 xo, .bool xf] 50)
        have HXB : Hid (EvBox (wr.alloc (.cells #[.int .i64 (th : Int), .int .i64 xk, .int .i64 xo, .bool xf] 50)) wr.heap.size ⟨th, xk, xo, xf⟩) := EvBox.new wr ⟨th, xk, xo, xf⟩
        go_wp2_with fail
        generalize wr.alloc (.cells #[.int .i64 (th : Int), .int .i64 xk, .int .i64 xo, .bool xf] 50) = W2 at *
        refine (known_any a' cap' ms ⟨th, xk, xo, xf⟩ W2 (HA.out.2.2.later hb1)).mono ?_
        rintro r w3 ⟨rfl, hb3⟩
        have HXB3 := Lib.hid (HXB.out.later hb3)
        have hb4 := hb1.trans (hb3.mono hb1.size)
        have HCK := Lib.hid (HW.out.1.later hb4)
        have HO3 := Lib.hid (HA.out.1.later hb4)
        have HL3 := Lib.hid HA.out.2.1
        have hb5 := HW.out.2.2.trans (hb4.mono HW.out.2.2.size)
        have HKC : Hid (∀ t : Nat, clk l k t = kn ms ⟨th, xk, xo, xf⟩ t + if (th : Int) = (t : Int) then 1 else 0) := fun t => by have h := hlst2.out.clk t; rw [HX.out] at h; exact h
        have HW0 := Lib.hid HW.out.1
        clear HXB hb1 hb3 hb4 HW HA
        obtain ⟨⟨p0, p1, p2, p3⟩, f0, f1, f2, f3⟩ := HCK.out.four (k := k) (by rw [half_len]; exact hlt)
        have hg1 : w1.heap.size < wr.heap.size := MidAt.lt HW0.out
        have hon : Only w1.heap.size w3 ((((w3.setCell ⟨w1.heap.size, k * 4, none⟩ (.int .i64 (kn ms ⟨th, xk, xo, xf⟩ 0))).setCell ⟨w1.heap.size, k * 4 + 1, none⟩ (.int .i64 (kn ms ⟨th, xk, xo, xf⟩ 1))).setCell ⟨w1.heap.size, k * 4 + 2, none⟩ (.int .i64 (kn ms ⟨th, xk, xo, xf⟩ 2))).setCell ⟨w1.heap.size, k * 4 + 3, none⟩ (.int .i64 (kn ms ⟨th, xk, xo, xf⟩ 3))) := ((((Only.refl _ _).setCell _ _).setCell _ _).setCell _ _).setCell _ _
        have HCK4 := Lib.hid (HCK.out.set4 (k := k) (by rw [half_len]; exact hlt) (kn ms ⟨th, xk, xo, xf⟩))
        have HXB4 := Lib.hid (HXB3.out.only hon (by omega))
        have HO4 := Lib.hid (HO3.out.only hon (by omega))
        have hb6 : Below w1.heap.size w1 ((((w3.setCell ⟨w1.heap.size, k * 4, none⟩ (.int .i64 (kn ms ⟨th, xk, xo, xf⟩ 0))).setCell ⟨w1.heap.size, k * 4 + 1, none⟩ (.int .i64 (kn ms ⟨th, xk, xo, xf⟩ 1))).setCell ⟨w1.heap.size, k * 4 + 2, none⟩ (.int .i64 (kn ms ⟨th, xk, xo, xf⟩ 2))).setCell ⟨w1.heap.size, k * 4 + 3, none⟩ (.int .i64 (kn ms ⟨th, xk, xo, xf⟩ 3))) := hb5.trans (hon.below (Nat.le_refl _) hb5.size)
        clear HCK HXB3 HO3 hon
        go_wp2_with fail
        generalize ((((w3.setCell ⟨w1.heap.size, k * 4, none⟩ (.int .i64 (kn ms ⟨th, xk, xo, xf⟩ 0))).setCell ⟨w1.heap.size, k * 4 + 1, none⟩ (.int .i64 (kn ms ⟨th, xk, xo, xf⟩ 1))).setCell ⟨w1.heap.size, k * 4 + 2, none⟩ (.int .i64 (kn ms ⟨th, xk, xo, xf⟩ 2))).setCell ⟨w1.heap.size, k * 4 + 3, none⟩ (.int .i64 (kn ms ⟨th, xk, xo, xf⟩ 3))) = W4 at *
        clear p0 p1 p2 p3 f0 f1 f2 f3 hb5
        obtain ⟨e0, e1, e2, e3⟩ := HXB4.out.cells
        have q0 := HCK4.out.cell (k := k) (t := th) (by rw [List.length_set, half_len]; exact hlt) hth
        rw [List.getElem_set_self] at q0
        have qf := MidAt.frozen HCK4.out (k * 4 + th)
        have hkb : kn ms ⟨th, xk, xo, xf⟩ th ≤ 2000 := by have h1 := HKC.out th; have h2 := clk_bd l k th; omega
        have hti : (th : Int) < 4 := by omega
        have hti0 : (0 : Int) ≤ th := by omega
        have hwr : IntKind.i64.wrap ((kn ms ⟨th, xk, xo, xf⟩ th : Int) + 1) = (kn ms ⟨th, xk, xo, xf⟩ th : Int) + 1 := IntWalk.i64_in _ (by omega)
        go_still_tail 10, (by kernel_rfl)
        have HCK5 : Hid (CkAt (W4.setCell ⟨w1.heap.size, k * 4 + th, none⟩ (.int .i64 ((kn ms ⟨th, xk, xo, xf⟩ th : Int) + 1))).drew w1.heap.size (half l (k + 1))) := by
          have h1 := HCK4.out.set1 (k := k) (t := th) (by rw [List.length_set, half_len]; exact hlt) hth (kn ms ⟨th, xk, xo, xf⟩ th + 1)
          show CkAt (W4.setCell _ _) _ _
          rw [Int.natCast_add] at h1
          refine CkAt.congr h1 (by simp [half_len]) fun i h3 h4 t ht => ?_
          have h5 : i < l.length := by rw [half_len] at h4; exact h4
          rw [half_get h5]
          by_cases e : i = k
          · subst e
            simp only [List.getElem_set_self]
            rw [if_pos (show i < i + 1 by omega), HKC.out t]
            by_cases e2 : t = th
            · subst e2
              simp
            · rw [if_neg e2, if_neg (by omega)]
              rfl
          · rw [List.getElem_set_ne (by omega), List.getElem_set_ne (by omega), half_get h5]
            by_cases e3 : i < k
            · rw [if_pos e3, if_pos (show i < k + 1 by omega)]
            · rw [if_neg e3, if_neg (show ¬ i < k + 1 by omega)]
        have hon : Only w1.heap.size W4 (W4.setCell ⟨w1.heap.size, k * 4 + th, none⟩ (.int .i64 ((kn ms ⟨th, xk, xo, xf⟩ th : Int) + 1))).drew := ((Only.refl _ _).setCell _ _).drew
        have HXB5 := Lib.hid (HXB4.out.only hon (by omega))
        have HO5 := Lib.hid (HO4.out.only hon (by omega))
        have hb7 := hb6.trans (hon.below (Nat.le_refl _) hb6.size)
        clear HCK4 HXB4 HO4 hon hb6
        go_wp2_with fail
        clear q0 qf e0 e1 e2 e3 hwr
        generalize (W4.setCell ⟨w1.heap.size, k * 4 + th, none⟩ (.int .i64 ((kn ms ⟨th, xk, xo, xf⟩ th : Int) + 1))).drew = W5 at *
        obtain ⟨e0, e1, e2, e3⟩ := HXB5.out.cells
        have hlt2 : k < (half l (k + 1)).length := by rw [half_len]; exact hlt
        have hgk : (half l (k + 1))[k] = fun t : Nat => clk l k t := by rw [half_get hlt, if_pos (by omega)]
        obtain ⟨⟨p0, p1, p2, p3⟩, _⟩ := HCK5.out.four hlt2
        rw [hgk] at p0 p1 p2 p3
        have HMK : Hid ((⟨⟨th, xk, xo, xf⟩, fun t : Nat => clk l k t⟩ : Mk) = mkOf l k) := by show _ = _; unfold mkOf; rw [HX.out]
        clear hgk hlt2
        go_still_tail 7, (by kernel_rfl)
        go_wp2_with fail
        refine (keep_any (w1.heap.size + 1) _ ms ⟨⟨th, xk, xo, xf⟩, fun t : Nat => clk l k t⟩ W5.drew HO5.out (by have := MidAt.lt HCK5.out; show _ < W5.heap.size; exact this) (by have := HL3.out.1; omega)).mono ?_
        rintro r w6 ⟨v6, rfl, hown6, hb8⟩
        have HR6 : Hid (CkW w1 l (k + 1) v6 w6) := by
          refine ⟨CkAt.below (w := W5.drew) (B := w1.heap.size + 1) HCK5.out hb8 (by omega), ⟨keepM ms (mkOf l k), ?_, HL3.out.keep⟩, hb7.drew.trans (hb8.mono (by omega))⟩
          rw [← HMK.out]
          exact hown6
        clear HCK5 HXB5 HO5 hb7 hb8 hown6 e0 e1 e2 e3 p0 p1 p2 p3
        go_wp2
        go_roundw
        case rel => exact ⟨k + 1, by omega, by go_num, HR6⟩
        case measure => simp [intOf]; omega
      · obtain rfl : k = l.length := by omega
        have HF : Hid (RowAt wr (some ⟨w1.heap.size, 0, none⟩) 4 ckCell (cks l)) := by
          have h := HW.out.1
          rw [half_all HR.out] at h
          refine ⟨by rw [cks_len HR.out]; unfold maxLen; omega, fun _ => ⟨w1.heap.size, 0, rfl, fun i hi j u hj => ?_⟩⟩
          rw [Nat.zero_add, MidAt.cell h, cellsL_get ckCell_len _ i j hi (by have := (List.getElem?_eq_some_iff.1 hj).1; simpa [ckCell, nums4] using this)]
          exact hj
        have hbw : Below w.heap.size w wr := hb.trans (HW.out.2.2.mono hb.size)
        clear HW
        go_wp2
        go_ret
        exact ⟨_, _, by rw [cks_len HR.out]; rfl, HF.out, hbw⟩

end Go.Proofs.Ytkjjbcgecnjniaa

/- A row's unlike events with their places, in memory. -/
namespace Go.Proofs.Ytkjjbcgecnjniaa
open Go.RowKit

/-- A slice of places. -/
structure Sp where
  a : Option Addr
  n : Nat
  c : Nat
instance : Inhabited Sp := ⟨⟨none, 0, 0⟩⟩
def spV (s : Sp) : Value := .slice s.a s.n s.c
/-- A place: where it stands, and which one of its thread's it is. -/
def plCell (p : Nat × Nat) : List Value := [.int .i64 p.1, .int .i64 p.2]
theorem plCell_len (p : Nat × Nat) : (plCell p).length = 2 := rfl
theorem plCell_one (p : Nat × Nat) : ∀ v ∈ plCell p, v.oneCell' = true := by
  intro v hv
  simp [plCell] at hv
  rcases hv with rfl | rfl <;> rfl
/-- An unlike event, with its slice. -/
def gpCell (x : Ev × Sp) : List Value := [.int .i64 x.1.thread, .int .i64 x.1.kind, .int .i64 x.1.obj, .bool x.1.fail, .slice x.2.a x.2.n x.2.c]
theorem gpCell_len (x : Ev × Sp) : (gpCell x).length = 5 := rfl
theorem gpCell_one (x : Ev × Sp) : ∀ v ∈ gpCell x, v.oneCell' = true := by
  intro v hv
  simp [gpCell] at hv
  rcases hv with rfl | rfl | rfl | rfl | rfl <;> rfl
theorem infoGp : (Try.prog.info? 113).map (fun i => (i.zero, i.size, i.bytes)) = some (some (.agg #[.int .i64 0, .int .i64 0, .int .i64 0, .bool false, .slice none 0 0]), 5, 56) := by kernel_rfl
theorem infoPl : (Try.prog.info? 119).map (fun i => (i.zero, i.size, i.bytes)) = some (some (.agg #[.int .i64 0, .int .i64 0]), 2, 16) := by kernel_rfl
theorem tyGp : 113 ≠ 119 := by decide
theorem tyPaGp : 70 ≠ 113 := by decide
theorem tyPaPl : 70 ≠ 119 := by decide
theorem rows_unlike {w : World} {B B' n n' m m' : Nat} {t t' : TypeId} {v v' : Value} {xs xs' : List Value} (h : w.ownsRow B t n v m xs) (h' : w.ownsRow B' t' n' v' m' xs') (hne : t ≠ t') : v.ownBlock = none ∨ v.ownBlock ≠ v'.ownBlock := by
  obtain ⟨_, ⟨rfl, _⟩ | ⟨g, cap, cur, rfl, _, hg, _⟩⟩ := h
  · exact .inl rfl
  · right
    obtain ⟨_, ⟨rfl, _⟩ | ⟨g', cap', cur', rfl, _, hg', _⟩⟩ := h'
    · simp [Value.ownBlock]
    · intro e
      injection e with e
      have e2 : g = g' := e
      subst e2
      rw [hg] at hg'
      injection hg' with hg'
      injection hg' with _ h2
      exact hne h2

/-- Unlike events of one's own. -/
structure OwnG (w : World) (B : Nat) (v : Value) (xs : List (Ev × Sp)) (gs : List Gp) : Prop where
  len : xs.length = gs.length
  evs : ∀ i (h : i < xs.length) (h' : i < gs.length), xs[i].1 = gs[i].1
  outer : OwnRow w B 113 5 gpCell v xs
  inner : ∀ i (h : i < xs.length) (h' : i < gs.length), OwnRow w B 119 2 plCell (spV xs[i].2) gs[i].2
  apart : ∀ i j (hi : i < xs.length) (hj : j < xs.length), i ≠ j → (spV xs[i].2).ownBlock = none ∨ (spV xs[i].2).ownBlock ≠ (spV xs[j].2).ownBlock
theorem OwnG.later {w w' : World} {B : Nat} {v : Value} {xs : List (Ev × Sp)} {gs : List Gp} (h : OwnG w B v xs gs) (hb : Below w.heap.size w w') : OwnG w' B v xs gs :=
  ⟨h.len, h.evs, h.outer.later hb, fun i hi hj => (h.inner i hi hj).later hb, h.apart⟩
theorem ownG_nil (w : World) (B : Nat) : OwnG w B (.slice none 0 0) [] [] := ⟨rfl, fun i hi => absurd hi (by simp), ownRow_nil _ _ _ _ _, fun i hi => absurd hi (by simp), fun i _ hi => absurd hi (by simp)⟩
theorem OwnG.only {w w' : World} {B g : Nat} {v : Value} {xs : List (Ev × Sp)} {gs : List Gp} (h : OwnG w B v xs gs) (ho : Only g w w') (hg : g < B) : OwnG w' B v xs gs :=
  ⟨h.len, h.evs, h.outer.only ho hg, fun i hi hj => (h.inner i hi hj).only ho hg, h.apart⟩
theorem OwnG.kept {w w' : World} {B : Nat} {v : Value} {xs : List (Ev × Sp)} {gs : List Gp} {row : Option Nat} (h : OwnG w B v xs gs) (hg : w.grownBy w' row) (hr : ∀ r, row = some r → ∀ t cs, w.heap[r]? = some (.cells cs t (0, 0)) → t ≠ 113 ∧ t ≠ 119) : OwnG w' B v xs gs := by
  have key : ∀ {t : TypeId} {n m : Nat} {v' : Value} {ys : List Value}, (t = 113 ∨ t = 119) → w.ownsRow B t n v' m ys → w'.ownsRow B t n v' m ys := by
    intro t n m v' ys ht ho
    refine ho.kept hg ?_
    obtain ⟨_, ⟨rfl, _⟩ | ⟨g, cap, cur, rfl, _, hgb, _⟩⟩ := ho
    · exact .inl rfl
    · right
      intro e
      have := hr g e.symm _ _ hgb
      rcases ht with rfl | rfl
      · exact this.1 rfl
      · exact this.2 rfl
  exact ⟨h.len, h.evs, key (.inl rfl) h.outer, fun i hi hj => key (.inr rfl) (h.inner i hi hj), h.apart⟩

/-- An unlike event more. -/
theorem OwnG.more {w w' : World} {B : Nat} {v v' : Value} {xs : List (Ev × Sp)} {gs : List Gp} {e : Ev} {s : Sp} {ps : List (Nat × Nat)} (h : OwnG w B v xs gs) (ho : OwnRow w' B 113 5 gpCell v' (xs ++ [(e, s)])) (hg : w.grownBy w' v.ownBlock)
    (hs : OwnRow w' B 119 2 plCell (spV s) ps) (hb : ∀ b, (spV s).ownBlock = some b → ∀ i (h : i < xs.length), (spV xs[i].2).ownBlock ≠ some b) :
    OwnG w' B v' (xs ++ [(e, s)]) (gs ++ [(e, ps)]) := by
  have hl := h.len
  refine ⟨by simp [h.len], fun i hi hj => ?_, ho, fun i hi hj => ?_, fun i j hi hj hne => ?_⟩
  · by_cases hlt : i < xs.length
    · rw [List.getElem_append_left hlt, List.getElem_append_left (show i < gs.length by omega)]
      exact h.evs i hlt _
    · have e0 : i = xs.length := by simp at hi; omega
      subst e0
      simp [hl]
  · by_cases hlt : i < xs.length
    · have e1 : (xs ++ [(e, s)])[i] = xs[i] := List.getElem_append_left hlt
      have e2 : (gs ++ [(e, ps)])[i] = gs[i]'(by omega) := List.getElem_append_left (show i < gs.length by omega)
      rw [e1, e2]
      exact World.ownsRow.kept (h.inner i hlt (by omega)) hg (rows_unlike (h.inner i hlt (by omega)) h.outer (Ne.symm tyGp))
    · have e0 : i = xs.length := by simp at hi; omega
      subst e0
      simp only [List.getElem_concat_length, hl]
      exact hs
  · by_cases hlt : i < xs.length
    · have e1 : (xs ++ [(e, s)])[i] = xs[i] := List.getElem_append_left hlt
      rw [e1]
      by_cases hlj : j < xs.length
      · rw [List.getElem_append_left hlj]
        exact h.apart i j hlt hlj hne
      · have e0 : j = xs.length := by simp at hj; omega
        subst e0
        have e2 : (xs ++ [(e, s)])[xs.length] = (e, s) := by simp
        rw [e2]
        cases hq : (spV s).ownBlock with
        | none => cases hq2 : (spV xs[i].2).ownBlock with
          | none => exact .inl rfl
          | some b => exact .inr (by simp)
        | some b => exact .inr (hb b hq i hlt)
    · have e0 : i = xs.length := by simp at hi; omega
      subst e0
      have hlj : j < xs.length := by simp at hj; omega
      have e1 : (xs ++ [(e, s)])[xs.length] = (e, s) := by simp
      rw [e1, List.getElem_append_left hlj]
      cases hq : (spV s).ownBlock with
      | none => exact .inl rfl
      | some b => exact .inr fun e' => hb b hq j hlj e'.symm

theorem gp_set {xs : List (Ev × Sp)} {n : Nat} (hn : n < xs.length) (s : Sp) : (cellsL gpCell xs).set (n * 5 + 4) (.slice s.a s.n s.c) = cellsL gpCell (xs.set n (xs[n].1, s)) := by
  induction xs generalizing n with
  | nil => simp at hn
  | cons x xs ih =>
    cases n with
    | zero => rfl
    | succ n =>
      have := ih (n := n) (by simpa using hn)
      have e : (n + 1) * 5 + 4 = (n * 5 + 4) + 5 := by omega
      simp only [cellsL, List.flatMap_cons, List.set_cons_succ, List.getElem_cons_succ] at *
      rw [← this, e]
      rfl
/-- One event's places, changed. -/
theorem OwnG.put {w w3 : World} {B g N cap n : Nat} {xs : List (Ev × Sp)} {gs : List Gp} {s' : Sp} {ps : List (Nat × Nat)} (h : OwnG w B (.slice (some ⟨g, 0, none⟩) N cap) xs gs) (hn : n < xs.length) (hn2 : n < gs.length)
    (ho : OwnRow w3 B 119 2 plCell (spV s') ps) (hg : w.grownBy w3 (spV xs[n].2).ownBlock) (hb : ∀ b, (spV s').ownBlock = some b → (spV xs[n].2).ownBlock = some b ∨ w.heap.size ≤ b) :
    OwnG (w3.setCell ⟨g, n * 5 + 4, none⟩ (.slice s'.a s'.n s'.c)) B (.slice (some ⟨g, 0, none⟩) N cap) (xs.set n (xs[n].1, s')) (gs.set n (gs[n].1, ps)) ∧ (w3.cell? ⟨g, n * 5 + 4, none⟩).isSome = true ∧ w3.frozen? ⟨g, n * 5 + 4, none⟩ = false := by
  have hl := h.len
  have hout : w3.ownsRow B 113 5 (.slice (some ⟨g, 0, none⟩) N cap) xs.length (cellsL gpCell xs) := World.ownsRow.kept h.outer hg (rows_unlike h.outer (h.inner n hn hn2) tyGp)
  have hN : xs.length = N := by
    obtain ⟨_, ⟨h1, _⟩ | ⟨_, _, _, h1, _⟩⟩ := hout
    · cases h1
    · injection h1 with _ h1
      exact h1.symm
  rw [hN] at hout
  have hst := hout.stored (n * 5 + 4) (.slice s'.a s'.n s'.c)
  rw [gp_set hn s'] at hst
  have hgs : w3.grownBy (w3.setCell ⟨g, n * 5 + 4, none⟩ (.slice s'.a s'.n s'.c)) (some g) := hst.2
  have hkeep : ∀ {v2 : Value} {es : List (Nat × Nat)}, OwnRow w3 B 119 2 plCell v2 es → OwnRow (w3.setCell ⟨g, n * 5 + 4, none⟩ (.slice s'.a s'.n s'.c)) B 119 2 plCell v2 es := fun {v2 es} hv => World.ownsRow.kept hv hgs (rows_unlike hv hout (Ne.symm tyGp))
  refine ⟨⟨by simp [h.len], fun i hi hj => ?_, ?_, fun i hi hj => ?_, fun i j hi hj hne => ?_⟩, ?_, hout.frozenAt _⟩
  · simp only [List.length_set] at hi hj
    by_cases e : n = i
    · subst e
      simp [h.evs n hn hn2]
    · rw [List.getElem_set_ne e, List.getElem_set_ne e]
      exact h.evs i hi hj
  · unfold OwnRow
    rw [List.length_set, hN]
    exact hst.1
  · simp only [List.length_set] at hi hj
    by_cases e : n = i
    · subst e
      simp only [List.getElem_set_self]
      exact hkeep ho
    · rw [List.getElem_set_ne e, List.getElem_set_ne e]
      exact hkeep (World.ownsRow.kept (h.inner i hi hj) hg (h.apart i n hi hn (fun e' => e e'.symm)))
  · simp only [List.length_set] at hi hj
    have hnew : ∀ i (hi : i < xs.length), i ≠ n → (spV s').ownBlock = none ∨ (spV s').ownBlock ≠ (spV xs[i].2).ownBlock := fun i hi hne => by
      cases hb' : (spV s').ownBlock with
      | none => exact .inl rfl
      | some b =>
        right
        intro e
        rcases hb b hb' with h1 | h1
        · rcases h.apart n i hn hi (fun e => hne e.symm) with h2 | h2
          · rw [h1] at h2; cases h2
          · exact h2 (h1.trans e)
        · have := (World.ownsRow.lt (h.inner i hi (by omega)) b e.symm).2
          omega
    by_cases e : n = i
    · subst e
      have e2 : (xs.set n (xs[n].1, s'))[j]'(by simpa using hj) = xs[j] := List.getElem_set_ne hne _
      rw [e2, List.getElem_set_self]
      exact hnew j hj (fun e => hne e.symm)
    · have e1 : (xs.set n (xs[n].1, s'))[i]'(by simpa using hi) = xs[i] := List.getElem_set_ne e _
      rw [e1]
      by_cases e' : n = j
      · subst e'
        rw [List.getElem_set_self]
        rcases hnew i hi hne with h1 | h1
        · cases hb2 : (spV xs[i].2).ownBlock
          · exact .inl rfl
          · right; rw [h1]; simp
        · exact .inr (fun e => h1 e.symm)
      · have e2 : (xs.set n (xs[n].1, s'))[j]'(by simpa using hj) = xs[j] := List.getElem_set_ne e' _
        rw [e2]
        exact h.apart i j hi hj hne
  · rw [hout.cellAt _ (by omega), List.getElem?_eq_getElem (by rw [cellsL_length gpCell_len]; omega)]
    rfl
/-- What stands at a place of the row. -/
theorem OwnG.cell {w : World} {B g N cap n j : Nat} {xs : List (Ev × Sp)} {gs : List Gp} (h : OwnG w B (.slice (some ⟨g, 0, none⟩) N cap) xs gs) (hn : n < xs.length) (hj : j < 5) : w.cell? ⟨g, n * 5 + j, none⟩ = (gpCell xs[n])[j]? := by
  have hout : w.ownsRow B 113 5 (.slice (some ⟨g, 0, none⟩) N cap) xs.length (cellsL gpCell xs) := h.outer
  have hN : xs.length = N := by
    obtain ⟨_, ⟨h1, _⟩ | ⟨_, _, _, h1, _⟩⟩ := hout
    · cases h1
    · injection h1 with _ h1
      exact h1.symm
  rw [hN] at hout
  rw [hout.cellAt _ (by omega), cellsL_get gpCell_len xs n j hn hj]
theorem OwnG.form {w : World} {B : Nat} {v : Value} {xs : List (Ev × Sp)} {gs : List Gp} (h : OwnG w B v xs gs) : (v = .slice none 0 0 ∧ gs = []) ∨ ∃ g cap, v = .slice (some ⟨g, 0, none⟩) gs.length cap ∧ B ≤ g ∧ g < w.heap.size := by
  have hl := h.len
  obtain ⟨_, ⟨h1, h2⟩ | ⟨g, cap, cur, h1, h3, h4, _⟩⟩ := h.outer
  · exact .inl ⟨h1, List.eq_nil_of_length_eq_zero (by omega)⟩
  · exact .inr ⟨g, cap, by rw [h1, hl], h3, (Array.getElem?_eq_some_iff.1 h4).1⟩

end Go.Proofs.Ytkjjbcgecnjniaa

/- The beginning of a row that race keeps, in memory. -/
namespace Go.Proofs.Ytkjjbcgecnjniaa
open Go.RowKit

/-- The clocks of the four threads' last events. -/
def csOf (l : List Ev) (n : Nat) : List (Nat → Nat) := (List.range 4).map fun (t u : Nat) => lasts l n t u
theorem csOf_len (l : List Ev) (n : Nat) : (csOf l n).length = 4 := rfl
theorem csOf_get (l : List Ev) (n t : Nat) (h : t < 4) : (csOf l n)[t]'(by rw [csOf_len]; exact h) = fun (u : Nat) => lasts l n t u := by simp [csOf]
theorem csOf_succ (l : List Ev) (n th : Nat) (_ : th < 4) (ht : (evI l n).thread = th) : cellsL ckCell (csOf l (n + 1)) = cellsL ckCell ((csOf l n).set th fun (u : Nat) => clk l n u) := by
  refine ck_congr (by simp [csOf_len]) fun i h1 h2 t ht4 => ?_
  have hi : i < 4 := h1
  rw [csOf_get l (n + 1) i hi]
  show lasts l (n + 1) i t = _
  rw [lasts_succ, ht]
  by_cases e : th = i
  · subst e
    simp
  · rw [if_neg (by omega), List.getElem_set_ne e, csOf_get l n i hi]
/-- Its block: sixteen numbers, and a slice. -/
def PaAt (w : World) (P : Nat) (cs : List (Nat → Nat)) (v : Value) : Prop := MidAt w P 70 (cellsL ckCell cs ++ [v])
structure PastM (w : World) (P B : Nat) (cs : List (Nat → Nat)) (v : Value) (xs : List (Ev × Sp)) (gs : List Gp) : Prop where
  blk : PaAt w P cs v
  own : OwnG w B v xs gs
  lt : P < B
  le : B ≤ w.heap.size
  four : cs.length = 4
theorem PastM.later {w w' : World} {P B : Nat} {cs : List (Nat → Nat)} {v : Value} {xs : List (Ev × Sp)} {gs : List Gp} (h : PastM w P B cs v xs gs) (hb : Below w.heap.size w w') : PastM w' P B cs v xs gs :=
  ⟨h.blk.later hb, h.own.later hb, h.lt, Nat.le_trans h.le hb.size, h.four⟩
theorem PastM.congr {w : World} {P B : Nat} {cs ds : List (Nat → Nat)} {v : Value} {xs : List (Ev × Sp)} {gs : List Gp} (h : PastM w P B cs v xs gs) (hl : ds.length = 4) (he : cellsL ckCell ds = cellsL ckCell cs) : PastM w P B ds v xs gs :=
  ⟨by unfold PaAt; rw [he]; exact h.blk, h.own, h.lt, h.le, hl⟩
theorem PaAt.num {w : World} {P : Nat} {cs : List (Nat → Nat)} {v : Value} (h : PaAt w P cs v) {t u : Nat} (ht : t < cs.length) (hu : u < 4) : w.cell? ⟨P, t * 4 + u, none⟩ = some (.int .i64 (cs[t] u)) := by
  have h1 := MidAt.cell h (t * 4 + u)
  have h2 := cellsL_get ckCell_len cs t u ht hu
  rw [List.getElem?_append_left (by rw [cellsL_length ckCell_len]; omega), h2] at h1
  rw [h1]
  exact nums4_get _ hu
theorem PaAt.slice {w : World} {P : Nat} {cs : List (Nat → Nat)} {v : Value} (h : PaAt w P cs v) (h4 : cs.length = 4) : w.cell? ⟨P, 16, none⟩ = some v := by
  have h1 := MidAt.cell h 16
  rw [List.getElem?_append_right (by rw [cellsL_length ckCell_len]; omega), cellsL_length ckCell_len, h4] at h1
  exact h1
theorem PaAt.frozen {w : World} {P : Nat} {cs : List (Nat → Nat)} {v : Value} (h : PaAt w P cs v) (j : Nat) : w.frozen? ⟨P, j, none⟩ = false := MidAt.frozen h j
theorem PaAt.set4 {w : World} {P : Nat} {cs : List (Nat → Nat)} {v : Value} (h : PaAt w P cs v) {k : Nat} (hk : k < cs.length) (c : Nat → Nat) :
    PaAt ((((w.setCell ⟨P, k * 4, none⟩ (.int .i64 (c 0))).setCell ⟨P, k * 4 + 1, none⟩ (.int .i64 (c 1))).setCell ⟨P, k * 4 + 2, none⟩ (.int .i64 (c 2))).setCell ⟨P, k * 4 + 3, none⟩ (.int .i64 (c 3))) P (cs.set k c) v := by
  have h1 := MidAt.set (MidAt.set (MidAt.set (MidAt.set h (k * 4) (.int .i64 (c 0))) (k * 4 + 1) (.int .i64 (c 1))) (k * 4 + 2) (.int .i64 (c 2))) (k * 4 + 3) (.int .i64 (c 3))
  have hl : (cellsL ckCell cs).length = cs.length * 4 := cellsL_length ckCell_len cs
  unfold PaAt
  rw [← ck_set4 cs k c hk]
  rw [List.set_append_left _ _ (by rw [hl]; omega), List.set_append_left _ _ (by rw [List.length_set, hl]; omega), List.set_append_left _ _ (by rw [List.length_set, List.length_set, hl]; omega), List.set_append_left _ _ (by rw [List.length_set, List.length_set, List.length_set, hl]; omega)] at h1
  exact h1
theorem PaAt.put {w : World} {P : Nat} {cs : List (Nat → Nat)} {v : Value} (h : PaAt w P cs v) (h4 : cs.length = 4) (v' : Value) : PaAt (w.setCell ⟨P, 16, none⟩ v') P cs v' := by
  have h1 := MidAt.set h 16 v'
  unfold PaAt
  rw [List.set_append_right _ _ (by rw [cellsL_length ckCell_len]; omega), cellsL_length ckCell_len, h4] at h1
  exact h1

/-- All but the beginning's own memory lies as it lay. -/
structure Aside (P B : Nat) (w w' : World) : Prop where
  os : w'.os = w.os
  tape : w'.tape = w.tape
  output : w'.output = w.output
  size : w.heap.size ≤ w'.heap.size
  low : ∀ k, k < B → k ≠ P → w'.heap[k]? = w.heap[k]?
  keep : ∀ (k : Nat) (cs : Array Value) (t : TypeId) (fr : Nat × Nat), w.heap[k]? = some (Obj.cells cs t fr) → t ≠ 70 → t ≠ 113 → t ≠ 119 → w'.heap[k]? = some (Obj.cells cs t fr)
theorem Aside.refl (P B : Nat) (w : World) : Aside P B w w := ⟨rfl, rfl, rfl, Nat.le_refl _, fun _ _ _ => rfl, fun _ _ _ _ h _ _ _ => h⟩
theorem Aside.trans {P B : Nat} {a b c : World} (h : Aside P B a b) (k : Aside P B b c) : Aside P B a c :=
  ⟨k.os.trans h.os, k.tape.trans h.tape, k.output.trans h.output, Nat.le_trans h.size k.size, fun i hi hp => (k.low i hi hp).trans (h.low i hi hp), fun i cs t fr h0 h1 h2 h3 => k.keep i cs t fr (h.keep i cs t fr h0 h1 h2 h3) h1 h2 h3⟩
theorem Aside.of_below {P B : Nat} {w w' : World} (h : Below w.heap.size w w') (hB : B ≤ w.heap.size) : Aside P B w w' :=
  ⟨h.os, h.tape, h.output, h.size, fun k hk _ => h.block k (Nat.lt_of_lt_of_le hk hB), fun k _ _ _ h0 _ _ _ => (h.block k (Array.getElem?_eq_some_iff.1 h0).1).trans h0⟩
theorem Aside.of_only {P B q : Nat} {w w' : World} (h : Only q w w') (hq : B ≤ q ∨ q = P) (hB : B ≤ w.heap.size) (ht : ∀ cs t fr, w.heap[q]? = some (Obj.cells cs t fr) → t = 70 ∨ t = 113 ∨ t = 119) : Aside P B w w' :=
  ⟨h.os, h.tape, h.output, h.size, fun k hk hp => h.block k (Nat.lt_of_lt_of_le hk hB) (by omega), fun k cs t fr h0 h1 h2 h3 => by
    refine (h.block k (Array.getElem?_eq_some_iff.1 h0).1 fun e => ?_).trans h0
    subst e
    rcases ht cs t fr h0 with e | e | e
    · exact h1 e
    · exact h2 e
    · exact h3 e⟩
theorem Aside.of_grown {P B : Nat} {w w' : World} {row : Option Nat} (hb : Below B w w') (h : w.grownBy w' row) (ht : ∀ q, row = some q → ∀ cs t fr, w.heap[q]? = some (Obj.cells cs t fr) → t = 70 ∨ t = 113 ∨ t = 119) : Aside P B w w' :=
  ⟨hb.os, hb.tape, hb.output, hb.size, fun k hk _ => hb.block k hk, fun k cs t fr h0 h1 h2 h3 => by
    refine (h.block k (Array.getElem?_eq_some_iff.1 h0).1 fun e => ?_).trans h0
    rcases ht k e.symm cs t fr h0 with e | e | e
    · exact h1 e
    · exact h2 e
    · exact h3 e⟩
theorem Aside.below {P B A : Nat} {w w' : World} (h : Aside P B w w') (hP : A ≤ P) (hA : A ≤ B) : Below A w w' :=
  ⟨h.os, h.tape, h.output, h.size, fun k hk => h.low k (by omega) (by omega)⟩
theorem row_type {w : World} {B n m : Nat} {t : TypeId} {v : Value} {ys : List Value} (h : w.ownsRow B t n v m ys) {q : Nat} (hq : v.ownBlock = some q) : ∀ cs t' fr, w.heap[q]? = some (Obj.cells cs t' fr) → t' = t := by
  intro cs t' fr h0
  obtain ⟨_, ⟨rfl, _⟩ | ⟨g, cap, cur, rfl, _, hg, _⟩⟩ := h
  · cases hq
  · injection hq with hq
    have e : g = q := hq
    subst e
    rw [hg] at h0
    injection h0 with h0
    injection h0 with _ h2
    exact h2.symm
/-- A row of another type is kept. -/
theorem Aside.row {P B : Nat} {w w' : World} (h : Aside P B w w') {A n m : Nat} {t : TypeId} {v : Value} {ys : List Value} (ho : w.ownsRow A t n v m ys) (h1 : t ≠ 70) (h2 : t ≠ 113) (h3 : t ≠ 119) : w'.ownsRow A t n v m ys := by
  obtain ⟨e, h4 | ⟨g, cap, cur, h5, h6, h7, h8⟩⟩ := ho
  · exact ⟨e, .inl h4⟩
  · exact ⟨e, .inr ⟨g, cap, cur, h5, h6, h.keep g _ _ _ h7 h1 h2 h3, h8⟩⟩

/-- What stands in the row of unlike events when one's places have grown. -/
theorem OwnG.cell_grown {w w3 : World} {B g N cap n i j : Nat} {xs : List (Ev × Sp)} {gs : List Gp} (h : OwnG w B (.slice (some ⟨g, 0, none⟩) N cap) xs gs) (hn : n < xs.length) (hi : i < xs.length) (hj : j < 5) (hg : w.grownBy w3 (spV xs[n].2).ownBlock) : w3.cell? ⟨g, i * 5 + j, none⟩ = (gpCell xs[i])[j]? := by
  have hout : w3.ownsRow B 113 5 (.slice (some ⟨g, 0, none⟩) N cap) xs.length (cellsL gpCell xs) := World.ownsRow.kept h.outer hg (rows_unlike h.outer (h.inner n hn (by rw [← h.len]; exact hn)) tyGp)
  have hN : xs.length = N := by
    obtain ⟨_, ⟨h1, _⟩ | ⟨_, _, _, h1, _⟩⟩ := hout
    · cases h1
    · injection h1 with _ h1
      exact h1.symm
  rw [hN] at hout
  rw [hout.cellAt _ (by omega), cellsL_get gpCell_len xs i j hi hj]

/-- A thread's last event, newly. -/
theorem PastM.last {w : World} {P B : Nat} {cs : List (Nat → Nat)} {v : Value} {xs : List (Ev × Sp)} {gs : List Gp} (h : PastM w P B cs v xs gs) {k : Nat} (hk : k < 4) (c : Nat → Nat) :
    PastM ((((w.setCell ⟨P, k * 4, none⟩ (.int .i64 (c 0))).setCell ⟨P, k * 4 + 1, none⟩ (.int .i64 (c 1))).setCell ⟨P, k * 4 + 2, none⟩ (.int .i64 (c 2))).setCell ⟨P, k * 4 + 3, none⟩ (.int .i64 (c 3))) P B (cs.set k c) v xs gs ∧
      Aside P B w ((((w.setCell ⟨P, k * 4, none⟩ (.int .i64 (c 0))).setCell ⟨P, k * 4 + 1, none⟩ (.int .i64 (c 1))).setCell ⟨P, k * 4 + 2, none⟩ (.int .i64 (c 2))).setCell ⟨P, k * 4 + 3, none⟩ (.int .i64 (c 3))) := by
  have ho : Only P w ((((w.setCell ⟨P, k * 4, none⟩ (.int .i64 (c 0))).setCell ⟨P, k * 4 + 1, none⟩ (.int .i64 (c 1))).setCell ⟨P, k * 4 + 2, none⟩ (.int .i64 (c 2))).setCell ⟨P, k * 4 + 3, none⟩ (.int .i64 (c 3))) := ((((Only.refl _ _).setCell _ _).setCell _ _).setCell _ _).setCell _ _
  refine ⟨⟨h.blk.set4 (by rw [h.four]; exact hk) c, h.own.only ho h.lt, h.lt, Nat.le_trans h.le ho.size, by rw [List.length_set]; exact h.four⟩, Aside.of_only ho (.inr rfl) h.le fun cs' t fr h0 => ?_⟩
  have hb : w.heap[P]? = _ := h.blk
  rw [hb] at h0
  injection h0 with h0
  injection h0 with _ h2
  exact .inl h2.symm
/-- A place more of an event that was there. -/
theorem PastM.put {w wa w3 : World} {P B g N cap k : Nat} {cs : List (Nat → Nat)} {xs : List (Ev × Sp)} {gs : List Gp} {s' : Sp} {p : Nat × Nat} (h : PastM w P B cs (.slice (some ⟨g, 0, none⟩) N cap) xs gs) (hba : Below w.heap.size w wa) (hk : k < xs.length) (hk2 : k < gs.length)
    (ho : OwnRow w3 B 119 2 plCell (spV s') (gs[k].2 ++ [p])) (hb5 : Below B wa w3) (hgrow : wa.grownBy w3 (spV xs[k].2).ownBlock) (hwhere : (spV s').ownBlock = (spV xs[k].2).ownBlock ∨ (spV s').ownBlock = some wa.heap.size) :
    PastM (w3.setCell ⟨g, k * 5 + 4, none⟩ (.slice s'.a s'.n s'.c)) P B cs (.slice (some ⟨g, 0, none⟩) N cap) (xs.set k (xs[k].1, s')) (gs.set k (gs[k].1, gs[k].2 ++ [p])) ∧ Aside P B w (w3.setCell ⟨g, k * 5 + 4, none⟩ (.slice s'.a s'.n s'.c)) ∧
      (w3.cell? ⟨g, k * 5 + 4, none⟩).isSome = true ∧ w3.frozen? ⟨g, k * 5 + 4, none⟩ = false := by
  have ha := h.later hba
  obtain ⟨h1, h2, h3⟩ := ha.own.put hk hk2 ho hgrow (fun b hb => by
    rcases hwhere with e | e
    · exact .inl (e.symm.trans hb)
    · rw [e] at hb
      injection hb with hb
      exact .inr (by omega))
  have hBg : B ≤ g := by
    rcases ha.own.form with ⟨e, _⟩ | ⟨g', c', e, h4, _⟩
    · cases e
    · injection e with e; injection e with e; injection e with e; omega
  have hout : w3.ownsRow B 113 5 (.slice (some ⟨g, 0, none⟩) N cap) xs.length (cellsL gpCell xs) := World.ownsRow.kept ha.own.outer hgrow (rows_unlike ha.own.outer (ha.own.inner k hk hk2) tyGp)
  have hon : Only g w3 (w3.setCell ⟨g, k * 5 + 4, none⟩ (.slice s'.a s'.n s'.c)) := (Only.refl _ _).setCell _ _
  have hPg : P ≠ g := by have := h.lt; omega
  have hB3 : B ≤ w3.heap.size := Nat.le_trans ha.le hb5.size
  refine ⟨⟨?_, h1, h.lt, Nat.le_trans hB3 hon.size, h.four⟩, ?_, h2, h3⟩
  · have hm : MidAt w3 P _ _ := (hb5.block P h.lt).trans ha.blk
    exact (hon.block P (MidAt.lt hm) hPg).trans hm
  · refine ((Aside.of_below hba h.le).trans (Aside.of_grown hb5 hgrow fun q hq cs t fr h0 => ?_)).trans (Aside.of_only hon (.inl hBg) hB3 fun cs t fr h0 => ?_)
    · exact .inr (.inr (row_type (ha.own.inner k hk hk2) hq cs t fr h0))
    · exact .inr (.inl (row_type hout (q := g) rfl cs t fr h0))
/-- An event that wasn't there. -/
theorem PastM.new {w wa w4 : World} {P B : Nat} {cs : List (Nat → Nat)} {v v' : Value} {xs : List (Ev × Sp)} {gs : List Gp} {e : Ev} {s : Sp} {q : Nat} {p : Nat × Nat} (h : PastM w P B cs v xs gs) (hba : Below w.heap.size w wa)
    (hs : OwnRow wa B 119 2 plCell (spV s) [p]) (hq : (spV s).ownBlock = some q) (hqw : w.heap.size ≤ q)
    (ho : OwnRow w4 B 113 5 gpCell v' (xs ++ [(e, s)])) (hb5 : Below B wa w4) (hgrow : wa.grownBy w4 v.ownBlock) :
    PastM (w4.setCell ⟨P, 16, none⟩ v') P B cs v' (xs ++ [(e, s)]) (gs ++ [(e, [p])]) ∧ Aside P B w (w4.setCell ⟨P, 16, none⟩ v') := by
  have ha := h.later hba
  have hs4 : OwnRow w4 B 119 2 plCell (spV s) [p] := World.ownsRow.kept hs hgrow (rows_unlike hs ha.own.outer (Ne.symm tyGp))
  have h1 := ha.own.more ho hgrow hs4 (fun b hb i hi e' => by
    rw [hq] at hb
    injection hb with hb
    subst hb
    have := (World.ownsRow.lt (h.own.inner i hi (by rw [← h.own.len]; exact hi)) _ e').2
    omega)
  have hon : Only P w4 (w4.setCell ⟨P, 16, none⟩ v') := (Only.refl _ _).setCell _ _
  have hB3 : B ≤ w4.heap.size := Nat.le_trans ha.le hb5.size
  have hm : PaAt w4 P cs v := (hb5.block P h.lt).trans ha.blk
  refine ⟨⟨hm.put h.four v', h1.only hon h.lt, h.lt, Nat.le_trans hB3 hon.size, h.four⟩, ?_⟩
  refine ((Aside.of_below hba h.le).trans (Aside.of_grown hb5 hgrow fun q hq cs t fr h0 => ?_)).trans (Aside.of_only hon (.inr rfl) hB3 fun cs' t fr h0 => ?_)
  · exact .inr (.inl (row_type ha.own.outer hq cs t fr h0))
  · have hb : w4.heap[P]? = _ := hm
    rw [hb] at h0
    injection h0 with h0
    injection h0 with _ h2
    exact .inl h2.symm

end Go.Proofs.Ytkjjbcgecnjniaa

/- Races in memory. -/
namespace Go.Proofs.Ytkjjbcgecnjniaa
open Go.RowKit

/-- A race: its place, and its thread. -/
def rcCell (r : Nat × Int) : List Value := [.int .i64 r.1, .int .i64 r.2]
theorem rcCell_len (r : Nat × Int) : (rcCell r).length = 2 := rfl
theorem rcCell_one (r : Nat × Int) : ∀ v ∈ rcCell r, v.oneCell' = true := by
  intro v hv
  simp [rcCell] at hv
  rcases hv with rfl | rfl <;> rfl
theorem infoRc : (Try.prog.info? 48).map (fun i => (i.zero, i.size, i.bytes)) = some (some (.agg #[.int .i64 0, .int .i64 0]), 2, 16) := by kernel_rfl
/-- The races of one thread at these places. -/
def rcT (t : Int) (ats : List Nat) : List (Nat × Int) := ats.map fun i => (i, t)

end Go.Proofs.Ytkjjbcgecnjniaa

/- A range from the end on: which rounds have come. -/
namespace Go.Proofs.Ytkjjbcgecnjniaa
open Go.RowKit Go.Shelf

/-- What has come when k rounds are over: f 0, .., f (k - 1). -/
def upto {T : Type} (f : Nat → T) (k : Nat) : List T := (List.range k).map f
theorem upto_succ {T : Type} (f : Nat → T) (k : Nat) : upto f (k + 1) = upto f k ++ [f k] := by simp [upto, List.range_succ]
theorem upto_length {T : Type} (f : Nat → T) (k : Nat) : (upto f k).length = k := by simp [upto]

/-- The rounds' places, from the end on. -/
def Backs (n k : Nat) (pre : List (Fin n)) : Prop := pre.map (fun q => q.val) = upto (fun k => n - 1 - k) k
theorem backs_nil (n : Nat) : Backs n 0 [] := rfl
theorem Backs.len {n k : Nat} {pre : List (Fin n)} (h : Backs n k pre) : pre.length = k := by
  have := congrArg List.length h
  simpa [upto_length] using this
theorem Backs.snoc {n k : Nat} {pre : List (Fin n)} (h : Backs n k pre) {q : Fin n} (hq : q.val = n - 1 - k) : Backs n (k + 1) (pre ++ [q]) := by
  unfold Backs at *
  rw [List.map_append, h, upto_succ]
  simp [hq]
theorem Backs.mem {n k : Nat} {pre : List (Fin n)} (h : Backs n k pre) {j : Nat} (hj : n - k ≤ j) (hjn : j < n) (hk : k ≤ n) : (⟨j, hjn⟩ : Fin n) ∈ pre := by
  have h1 : j ∈ pre.map (fun q => q.val) := by
    unfold Backs at h
    rw [h]
    unfold upto
    rw [List.mem_map]
    exact ⟨n - 1 - j, by rw [List.mem_range]; omega, by omega⟩
  obtain ⟨q, hq, e⟩ := List.mem_map.1 h1
  have : q = ⟨j, hjn⟩ := Fin.ext e
  rw [← this]
  exact hq
theorem MidAt.keptRow {w w' : World} {g : Nat} {t : TypeId} {xs : List Value} {row : Option Nat} (h : MidAt w g t xs) (hg : w.grownBy w' row) (hr : ∀ r, row = some r → ∃ o : Obj, w.heap[r]? = some o ∧ o.isCells = false) : MidAt w' g t xs := by
  refine (hg.block g h.lt fun e => ?_).trans h
  obtain ⟨o, ho, hc⟩ := hr g e.symm
  unfold MidAt at h
  rw [h] at ho
  cases ho
  cases hc

end Go.Proofs.Ytkjjbcgecnjniaa

/- The contracts of slices.Backward over a row of places, and of what it hands back. -/
namespace Go.Proofs.Ytkjjbcgecnjniaa
open Go.RowKit Go.Shelf

attribute [local go_sem] Oper.semAt_some

def backP (ps : List (Nat × Nat)) (q : Fin ps.length) : Array Value := #[.int .i64 (q.val : Int), .agg #[.int .i64 (ps[q.val].1 : Nat), .int .i64 (ps[q.val].2 : Nat)]]
/-- What the rounds keep: all below n, and the iterator's own box. -/
def KeepB (n Bs : Nat) (A B : World) : Prop := Below n A B ∧ B.heap[Bs]? = A.heap[Bs]?
theorem keepB_t {n Bs : Nat} {A B C : World} (h : KeepB n Bs A B) (k : KeepB n Bs B C) : KeepB n Bs A C := ⟨h.1.trans k.1, k.2.trans h.2⟩
theorem KeepB.refl (n Bs : Nat) (A : World) : KeepB n Bs A A := ⟨Below.refl _ _, rfl⟩

set_option maxRecDepth 100000 in
set_option maxHeartbeats 2000000 in
theorem backP1_in (F : Fence) (n : Nat) (h7 : F.fn 60) (hro : F.round = none) (hn : 1 ≤ n) (l Bs n₀ : Nat) (a : Option Addr) (cap : Nat) (ps : List (Nat × Nat)) (hreach : ps.length ≤ 1000)
    (J Jx : List (Fin ps.length) → World → Prop)
    (hY : ∀ pre x W, J pre W → pre.length < ps.length → YieldAt F (n - 1) Try.prog l (backP ps x) W fun e W' => (e = .returned (.bool true) ∧ J (pre ++ [x]) W' ∧ KeepB n₀ Bs W W') ∨ (e = .returned (.bool false) ∧ Jx (pre ++ [x]) W'))
    (W : World) (hBs : MidAt W Bs 111 [.slice a ps.length cap]) (hrow : RowAt W a 2 plCell ps) (hb : 0 < ps.length → ∀ b o, a = some ⟨b, o, none⟩ → b < n₀) (h0 : J [] W) :
    CallsIn F n Try.prog 60 #[.func (.yield l) #[] #[], .pointer (some ⟨Bs, 0, none⟩)] W fun e W' => (∃ v, e = .returned v) ∧
      ((∃ ys, Backs ps.length ps.length ys ∧ J ys W') ∨ (∃ pre, (∃ k, k ≤ ps.length ∧ Backs ps.length k pre) ∧ Jx pre W')) := by
  refine callsIn_of_wp Try.func60 rfl h7 ?_ hro
  have hBsc := hBs.cell 0
  simp only [List.getElem?_cons_zero] at hBsc
  simp only [Try.ntmps60, List.size_toArray, List.length_cons, List.length_nil, Nat.reduceAdd, Nat.reduceSub, Array.replicate_succ, Array.replicate_zero, List.push_toArray, List.append_toArray, List.nil_append, List.cons_append]
  gi_wp2
  gi_loopw [3] (fun i wr => ∃ (k : Nat) (z : Int) (pre : List (Fin ps.length)), k ≤ ps.length ∧ i = .int .i64 z ∧ Hid (z = (ps.length : Int) - 1 - k) ∧ Hid (Backs ps.length k pre) ∧ J pre wr ∧ KeepB n₀ Bs W wr) (fun i _ => (intOf i + 1).toNat)
  case atStart => exact ⟨0, _, [], Nat.zero_le _, rfl, (by show _ = _; omega), backs_nil _, h0, KeepB.refl _ _ _⟩
  case round =>
    obtain ⟨k, z, pre, hk, rfl, HZ, HP, hJs, hnx⟩ := hrel
    have cBs := MidAt.cell (hnx.2.trans hBs : MidAt wr Bs 111 _) 0
    simp only [List.getElem?_cons_zero] at cBs
    by_cases hlt : k < ps.length
    · obtain ⟨b, o, rfl, hcell⟩ := hrow.2 (by intro e; simp [e] at hlt)
      have hbn := hb (by omega) b o rfl
      obtain ⟨q, hq⟩ : ∃ q : Nat, q = ps.length - 1 - k := ⟨_, rfl⟩
      obtain rfl : z = (q : Int) := by have := HZ.out; omega
      have hql : q < ps.length := by omega
      have hk2 : ∀ j u, (plCell ps[q])[j]? = some u → wr.cell? ⟨b, o + q * 2 + j, none⟩ = some u := fun j u hj => (hnx.1.cell (p := ⟨b, o + q * 2 + j, none⟩) hbn).trans (hcell q hql j u hj)
      have c0 := hk2 0 _ rfl
      have c1 := hk2 1 _ rfl
      rw [Nat.add_zero] at c0
      obtain ⟨fn, tmps, assign, body, hy, hR⟩ := hY pre ⟨q, hql⟩ wr hJs (by rw [HP.out.len]; exact hlt)
      dsimp only [backP] at hy
      have HQ := Lib.hid hq
      have HP2 : Hid (Backs ps.length (k + 1) (pre ++ [⟨q, hql⟩])) := HP.out.snoc hq
      clear hk2 hcell hq
      gi_wp2
      refine hR.mono ?_
      rintro e W3 (⟨rfl, hJ3, hk3⟩ | ⟨rfl, hJx3⟩)
      · gi_wp2
        go_roundw
        case rel => exact ⟨k + 1, (q : Int) - 1, _, by omega, by go_num, (by show _ = _; have := HQ.out; omega), HP2, hJ3, keepB_t hnx hk3⟩
        case measure => simp [intOf]
      · gi_wp2
        refine bodyPost_ret (results_none rfl _ _ _) rfl ?_
        exact ⟨⟨_, rfl⟩, .inr ⟨_, ⟨k + 1, by omega, HP2.out⟩, hJx3⟩⟩
    · obtain rfl : k = ps.length := by omega
      obtain rfl : z = -1 := by have := HZ.out; omega
      gi_wp2
      go_end0
      exact ⟨⟨_, rfl⟩, .inl ⟨_, HP.out, hJs⟩⟩

set_option maxHeartbeats 1000000 in
theorem backP_in (F : Fence) (n : Nat) (h5 : F.fn 47) (hro : F.round = none) (a : Option Addr) (len cap : Nat) (w : World) :
    CallsIn F n Try.prog 47 #[.slice a len cap] w fun e w' => e = .returned (.func (.func 60) #[] #[.pointer (some ⟨w.heap.size, 0, none⟩)]) ∧ w' = w.alloc (.cells #[.slice a len cap] 111) := by
  refine callsIn_of_wp Try.func47 rfl h5 ?_ hro
  simp only [Try.ntmps47, List.size_toArray, List.length_cons, List.length_nil, Nat.reduceAdd, Nat.reduceSub, Array.replicate_succ, Array.replicate_zero, List.push_toArray, List.append_toArray, List.nil_append, List.cons_append]
  gi_wp2
  go_ret
  exact ⟨rfl, rfl⟩

theorem backP_stops (F : Fence) (n : Nat) (h7 : F.fn 60) (hro : F.round = none) (hn : 1 ≤ n) (Bs n₀ : Nat) (a : Option Addr) (cap : Nat) (ps : List (Nat × Nat)) (hreach : ps.length ≤ 1000) (w : World)
    (hc : MidAt w Bs 111 [.slice a ps.length cap]) (hrow : RowAt w a 2 plCell ps) (hb : 0 < ps.length → ∀ b o, a = some ⟨b, o, none⟩ → b < n₀) :
    SeqStopsK F n Try.prog 60 #[.pointer (some ⟨Bs, 0, none⟩)] (backP ps) (KeepB n₀ Bs) (fun ys => Backs ps.length ps.length ys) (fun pre => ∃ k, k ≤ ps.length ∧ Backs ps.length k pre) ps.length w := fun l J Jx W hW _ _ hY h0 =>
  backP1_in F n h7 hro hn l Bs n₀ a cap ps hreach J Jx hY W (hc.later hW) (hrow.later hW) hb h0

end Go.Proofs.Ytkjjbcgecnjniaa

/- What race's racing keeps in memory while it goes over places. -/
namespace Go.Proofs.Ytkjjbcgecnjniaa
open Go.RowKit Go.Shelf

/-- All that isn't block L, nor a row of races, lies as it lay. -/
def Stay (L : Nat) (w w' : World) : Prop := w.heap.size ≤ w'.heap.size ∧ ∀ (b : Nat) (o : Obj), w.heap[b]? = some o → b ≠ L → (∀ (cs : Array Value) (fr : Nat × Nat), o ≠ Obj.cells cs 48 fr) → w'.heap[b]? = some o
theorem Stay.refl (L : Nat) (w : World) : Stay L w w := ⟨Nat.le_refl _, fun _ _ h _ _ => h⟩
theorem Stay.trans {L : Nat} {a b c : World} (h : Stay L a b) (k : Stay L b c) : Stay L a c := ⟨Nat.le_trans h.1 k.1, fun i o h0 h1 h2 => k.2 i o (h.2 i o h0 h1 h2) h1 h2⟩
theorem Stay.of_below {L : Nat} {w w' : World} (h : Below w.heap.size w w') : Stay L w w' := ⟨h.size, fun b _ h0 _ _ => (h.block b (Array.getElem?_eq_some_iff.1 h0).1).trans h0⟩
theorem Stay.set (L : Nat) (w : World) (o : Nat) (v : Value) : Stay L w (w.setCell ⟨L, o, none⟩ v) :=
  ⟨((Only.refl L w).setCell o v).size, fun b _ h0 h1 _ => (((Only.refl L w).setCell o v).block b (Array.getElem?_eq_some_iff.1 h0).1 h1).trans h0⟩
theorem Stay.grown {L B n m : Nat} {w w' : World} {v : Value} {ys : List Value} (ho : w.ownsRow B 48 n v m ys) (h : w.grownBy w' v.ownBlock) : Stay L w w' := by
  refine ⟨h.size, fun b o h0 _ h2 => (h.block b (Array.getElem?_eq_some_iff.1 h0).1 fun e => ?_).trans h0⟩
  obtain ⟨_, ⟨rfl, _⟩ | ⟨g, cap, cur, rfl, _, hg, _⟩⟩ := ho
  · simp [Value.ownBlock] at e
  · have e2 : b = g := by simpa [Value.ownBlock] using e
    subst e2
    rw [hg] at h0
    injection h0 with h0
    exact h2 _ _ h0.symm
theorem Stay.mid {L : Nat} {w w' : World} (h : Stay L w w') {b : Nat} {t : TypeId} {xs : List Value} (hm : MidAt w b t xs) (hb : b ≠ L) (ht : t ≠ 48) : MidAt w' b t xs :=
  h.2 b _ hm hb fun cs fr e => by injection e with _ e2 _; exact ht e2
theorem stay_own (L : Nat) (w : World) {β : Type} : OwnFrom w.heap.size (fun (_ : β) W => Stay L w W) := fun _ X Y row hs hg hr =>
  ⟨Nat.le_trans hs.1 hg.size, fun b o h0 h1 h2 => (hg.block b (Nat.lt_of_lt_of_le (Array.getElem?_eq_some_iff.1 h0).1 hs.1) (fun e => by
    have := (hr b e.symm).1
    have := (Array.getElem?_eq_some_iff.1 h0).1
    omega)).trans (hs.2 b o h0 h1 h2)⟩

/-- The list: a box, and in it a row of races of the call's own. -/
def RcAt (w : World) (B L : Nat) (t : Int) (ats : List Nat) : Prop := ∃ v, Boxed w L 39 v ∧ OwnRow w B 48 2 rcCell v (rcT t ats)
theorem tyRcL : 39 ≠ 48 := by decide
theorem RcAt.later {w w' : World} {B L : Nat} {t : Int} {ats : List Nat} (h : RcAt w B L t ats) (hb : Below w.heap.size w w') : RcAt w' B L t ats := by
  obtain ⟨v, h1, h2⟩ := h
  exact ⟨v, (hb.block L h1.lt).trans h1, h2.later hb⟩
theorem rcAt_own (B L : Nat) (t : Int) {β : Type} (f : β → List Nat) : Own (fun s W => RcAt W B L t (f s)) := by
  intro s X Y row hs hg hr
  obtain ⟨v, h1, h2⟩ := hs
  refine ⟨v, h1.kept hg (fun e => ?_), World.ownsRow.kept h2 hg ?_⟩
  · obtain ⟨o, ho, hc⟩ := hr L e.symm
    rw [show X.heap[L]? = _ from h1] at ho
    cases ho
    cases hc
  · obtain ⟨_, ⟨rfl, _⟩ | ⟨g, cap, cur, rfl, _, hgb, _⟩⟩ := h2
    · exact .inl rfl
    · refine .inr fun e => ?_
      obtain ⟨o, ho, hc⟩ := hr g (by simpa [Value.ownBlock] using e.symm)
      rw [hgb] at ho
      cases ho
      cases hc
/-- One race more. -/
theorem RcAt.more {W w1 : World} {B L : Nat} {t : Int} {ats : List Nat} {at_ : Nat} {v v' : Value} {tmp : Obj} (h1 : Boxed W L 39 v) (h2 : OwnRow W B 48 2 rcCell v (rcT t ats)) (hB : B ≤ W.heap.size) (hL : B ≤ L)
    (ho : OwnRow w1 B 48 2 rcCell v' (rcT t ats ++ [(at_, t)])) (hg : (W.alloc tmp).grownBy w1 v.ownBlock) :
    RcAt (w1.setCell ⟨L, 0, none⟩ v') B L t (ats ++ [at_]) ∧ Stay L W (w1.setCell ⟨L, 0, none⟩ v') ∧ KeepsOthers W (w1.setCell ⟨L, 0, none⟩ v') ∧ Below B W (w1.setCell ⟨L, 0, none⟩ v') ∧ w1.cell? ⟨L, 0, none⟩ = some v ∧ w1.frozen? ⟨L, 0, none⟩ = false := by
  obtain ⟨a1, a2, a3, a4, a5⟩ := Boxed.appended h1 tyRcL h2 hB hL ho hg
  refine ⟨⟨v', a2, ?_⟩, ?_, a4, a5, a1.cell, a1.frozen⟩
  · unfold rcT at *
    rw [List.map_append]
    exact a3
  · exact (Stay.of_below (below_alloc1 W tmp)).trans ((Stay.grown (OwnRow.alloc h2 tmp) hg).trans (Stay.set L w1 0 v'))

/-- The marks that ranges over functions leave. -/
def Marks (B : Nat) (ds : List Deferred) (W : World) : Prop := ds.Pairwise (· ≠ ·) ∧ ∀ d ∈ ds, ∃ D, d = { target := .collected D, args := #[] } ∧ B ≤ D ∧ W.heap[D]? = some (.deferred (some []))
theorem marks_nil (B : Nat) (W : World) : Marks B [] W := ⟨List.Pairwise.nil, fun _ h => absurd h (by simp)⟩
theorem Marks.kept {B : Nat} {ds : List Deferred} {W W' : World} (h : Marks B ds W) (hk : ∀ D, B ≤ D → W.heap[D]? = some (.deferred (some [])) → W'.heap[D]? = some (.deferred (some []))) : Marks B ds W' :=
  ⟨h.1, fun d hd => by obtain ⟨D, h1, h2, h3⟩ := h.2 d hd; exact ⟨D, h1, h2, hk D h2 h3⟩⟩
theorem Marks.stay {B L : Nat} {ds : List Deferred} {W W' : World} {t : TypeId} {v : Value} (h : Marks B ds W) (hs : Stay L W W') (hL : Boxed W L t v) : Marks B ds W' :=
  h.kept fun D _ hD => hs.2 D _ hD (fun e => by subst e; rw [show W.heap[D]? = _ from hL] at hD; cases hD) (fun cs fr e => by cases e)
theorem Marks.more {B D : Nat} {ds : List Deferred} {W0 W : World} (h0 : Marks B ds W0) (h : Marks B ds W) (hD : W0.heap.size ≤ D) (hB : B ≤ D) (hW : W.heap[D]? = some (.deferred (some []))) : Marks B ({ target := .collected D, args := #[] } :: ds) W := by
  refine ⟨List.pairwise_cons.2 ⟨fun d hd e => ?_, h.1⟩, fun d hd => ?_⟩
  · obtain ⟨D', h1, _, h3⟩ := h0.2 d hd
    rw [← e] at h1
    injection h1 with h1
    injection h1 with h1
    have := (Array.getElem?_eq_some_iff.1 h3).1
    omega
  · rcases List.mem_cons.1 hd with rfl | hd
    · exact ⟨D, rfl, hB, hW⟩
    · exact h.2 d hd
/-- At the end all marks are taken. -/
theorem leaves_marks {F : Fence} {n : Nat} {P : Program} {fn : Func} {tmps : Array Value} {R : Ending → World → Prop} (B : Nat) (G : World → Prop) (hG : ∀ W D o, G W → B ≤ D → W.heap[D]? = some o → o.isCells = false → G (W.putObj D (.deferred none)))
    (hend : ∀ W, G W → ∃ v, (results fn tmps).run P W = .ok v W ∧ R (.returned v) W) : ∀ (ds : List Deferred) (W : World), Marks B ds W → G W → LeavesInM F n P fn tmps R ds .returning W := by
  intro ds
  induction ds with
  | nil => intro W _ h; exact hend W h
  | cons d ds ih =>
    intro W hm h
    obtain ⟨D, rfl, hB, hD⟩ := hm.2 _ List.mem_cons_self
    have hp := List.pairwise_cons.1 hm.1
    refine ⟨by simp, .inl ⟨D, _, rfl, run_takeDeferred hD, ih _ ⟨hp.2, fun d' hd' => ?_⟩ (hG W D _ h hB hD rfl)⟩⟩
    obtain ⟨D', e, h2, h3⟩ := hm.2 d' (List.mem_cons_of_mem _ hd')
    refine ⟨D', e, h2, (World.putObj_heap_other (fun e2 => ?_)).trans h3⟩
    have h4 := hp.1 d' hd'
    rw [e, e2] at h4
    exact h4 rfl

/-- One race more, inside a fence. -/
theorem wpListIn_appendRc {F : Fence} {n : Nat} {w : World} {ops : Array Oper} {rest : List Oper} {o : Oper} {a : Act} {Q : Exit → Act → World → Prop} (hgd : o.guard = none) (s x : Operand)
    (ho : o.op = .call { callee := .builtin .append, args := #[s, x], argTypes := #[39, 39] }) (B : Nat) (v : Value) (l : List (Nat × Int)) (hs : a.eval s = v) (hown : OwnRow w B 48 2 rcCell v l)
    (ad : Addr) (hx : a.eval x = .slice (some ad) 1 1) (e : Nat × Int) (hnews : ∀ j u, (rcCell e)[j]? = some u → w.cell? (ad.add j) = some u) (hlen : l.length ≤ 1000000) (hB : B ≤ w.heap.size)
    (h : ∀ v' w', OwnRow w' B 48 2 rcCell v' (l ++ [e]) → w.grownBy w' v.ownBlock → wpListIn F n Try.prog ops Q rest (a.put o.dst v') w') : wpListIn F n Try.prog ops Q (o :: rest) a w := by
  obtain ⟨i, hi, hzz⟩ := Option.map_eq_some_iff.1 infoRc
  simp only [Prod.mk.injEq] at hzz
  obtain ⟨hiz, hisz, hiby⟩ := hzz
  refine wpListIn_append_own w hgd s x 39 ho B 48 i _ 2 16 Try.underlying39 hi hiz hisz hiby rfl (by decide) v l.length (cellsL rcCell l) hs hown ad 1 1 (rcCell e) hx rfl hnews
    (rcCell_one _) (by unfold maxLen; omega) (by omega) hB ?_
  intro v' w' h2 h3 _
  refine h v' w' ?_ h3
  unfold OwnRow
  rw [List.length_append, cellsL_append, cellsL_single]
  exact h2

theorem Backs.last {n k : Nat} {ini : List (Fin n)} {q : Fin n} (h : Backs n k (ini ++ [q])) : ∃ k', k = k' + 1 ∧ Backs n k' ini ∧ q.val = n - 1 - k' := by
  have hlen := h.len
  rw [List.length_append, List.length_singleton] at hlen
  obtain ⟨k', rfl⟩ : ∃ k', k = k' + 1 := ⟨ini.length, by omega⟩
  have hm : (ini ++ [q]).map (fun q => q.val) = upto (fun k => n - 1 - k) (k' + 1) := h
  rw [List.map_append, upto_succ] at hm
  obtain ⟨h5, h6⟩ := List.append_inj' hm rfl
  exact ⟨k', rfl, h5, by simpa using h6⟩
/-- The rounds that have come tell which places aren't known. -/
theorem rcG_backs {ps : List (Nat × Nat)} {known k : Nat} {pre : List (Fin ps.length)} (hs : ps.Pairwise (fun a b => a.2 < b.2)) (hb : Backs ps.length k pre) (hk : k ≤ ps.length) (h1 : ∀ q ∈ pre, known < (ps[q.val]).2)
    (h2 : ∀ h : k < ps.length, (ps[ps.length - 1 - k]).2 ≤ known) : rcG known ps = pre.map fun q => (ps[q.val]).1 := by
  have hg : ∀ i (h : i < ps.length), ps.reverse.getD i (0, 0) = ps[ps.length - 1 - i] := by
    intro i hi
    simp [List.getD, hi]
  rw [rcG_take hs hk (fun i hi => by
    rw [hg i (by omega)]
    exact h1 ⟨ps.length - 1 - i, by omega⟩ (hb.mem (by omega) (by omega) hk)) (fun h => by rw [hg k h]; exact h2 h)]
  apply List.ext_getElem
  · simp [hb.len, hk]
  · intro i hi1 hi2
    have hip : i < pre.length := by simpa using hi2
    have hik : i < k := by rw [← hb.len]; exact hip
    have hv : (pre[i]).val = ps.length - 1 - i := by
      have h3 : pre.map (fun q => q.val) = upto (fun k => ps.length - 1 - k) k := hb
      have h4 := congrArg (fun z => z[i]?) h3
      simp [upto, hip, hik] at h4
      exact h4
    simp only [List.getElem_map, List.getElem_take, List.getElem_reverse, hv]

theorem keepB_b {w : World} {n Bs : Nat} (hn : n ≤ w.heap.size) (hb : Bs < w.heap.size) : ∀ (W : World) (l : Nat) (o o' : Obj), w.heap.size ≤ l → W.heap[l]? = some o → o.isCells = false → o.isWalk = false → KeepB n Bs W (W.putObj l o') :=
  fun W l o o' h1 h2 h3 h4 => ⟨belowK_b hn W l o o' h1 h2 h3 h4, World.putObj_heap_other (by omega)⟩
theorem Stay.box {L : Nat} {w w' : World} (h : Stay L w w') {b : Nat} {e : Ev} (hm : EvBox w b e) (hb : b ≠ L) : EvBox w' b e :=
  h.2 b _ hm hb fun cs fr e' => by injection e' with _ e2 _; revert e2; decide
theorem rcL_take_len (ls : Int → Int → Nat) (gs : List Gp) (e : Ev) (k : Nat) : (rcL ls (gs.take k) e).length ≤ (rcL ls gs e).length := by
  have h : rcL ls gs e = rcL ls (gs.take k) e ++ rcL ls (gs.drop k) e := by
    unfold rcL
    rw [← List.flatMap_append, List.take_append_drop]
  rw [h, List.length_append]
  omega

end Go.Proofs.Ytkjjbcgecnjniaa

/- The library's sort by a function, laid at this dump. -/
namespace Go.Proofs
open Go.Shelf
def Try.sortRace_ren : Go.Shelf.Ren := ⟨fun | 6 => 48 | 15 => 62 | 14 => 61 | 28 => 81 | 29 => 82 | 20 => 73 | 21 => 74 | 22 => 75 | 23 => 76 | 24 => 77 | 25 => 78 | 26 => 79 | 27 => 80 | 46 => 83 | 47 => 84 | 48 => 85 | 49 => 86 | 50 => 87 | 57 => 88 | n => n, fun | 22 => 39 | 24 => 48 | 25 => 121 | 3 => 3 | 39 => 46 | 0 => 0 | 53 => 143 | 55 => 145 | 4 => 4 | 46 => 136 | 45 => 135 | 50 => 140 | 5 => 5 | 9 => 9 | 66 => 146 | 70 => 150 | 76 => 152 | 77 => 153 | n => n, fun | n => n⟩
theorem Try.sortRace : Go.Proofs.SlLaysF0.n6 Try.prog Try.sortRace_ren := {
  mixed := by kernel_rfl
  f6 := ⟨Try.f48.name, by decide, Try.func48.trans (congrArg some (by kernel_rfl))⟩
  f14 := ⟨Try.f61.name, by decide, Try.func61.trans (congrArg some (by kernel_rfl))⟩
  f15 := Try.func62.trans (congrArg some (by kernel_rfl))
  f20 := ⟨Try.f73.name, by decide, Try.func73.trans (congrArg some (by kernel_rfl))⟩
  f21 := ⟨Try.f74.name, by decide, Try.func74.trans (congrArg some (by kernel_rfl))⟩
  f22 := ⟨Try.f75.name, by decide, Try.func75.trans (congrArg some (by kernel_rfl))⟩
  f23 := ⟨Try.f76.name, by decide, Try.func76.trans (congrArg some (by kernel_rfl))⟩
  f24 := ⟨Try.f77.name, by decide, Try.func77.trans (congrArg some (by kernel_rfl))⟩
  f25 := ⟨Try.f78.name, by decide, Try.func78.trans (congrArg some (by kernel_rfl))⟩
  f26 := ⟨Try.f79.name, by decide, Try.func79.trans (congrArg some (by kernel_rfl))⟩
  f27 := ⟨Try.f80.name, by decide, Try.func80.trans (congrArg some (by kernel_rfl))⟩
  f28 := Try.func81.trans (congrArg some (by kernel_rfl))
  f29 := Try.func82.trans (congrArg some (by kernel_rfl))
  f46 := ⟨Try.f83.name, by decide, Try.func83.trans (congrArg some (by kernel_rfl))⟩
  f47 := Try.func84.trans (congrArg some (by kernel_rfl))
  f48 := Try.func85.trans (congrArg some (by kernel_rfl))
  f49 := ⟨Try.f86.name, by decide, Try.func86.trans (congrArg some (by kernel_rfl))⟩
  f50 := ⟨Try.f87.name, by decide, Try.func87.trans (congrArg some (by kernel_rfl))⟩
  f57 := ⟨Try.f88.name, by decide, Try.func88.trans (congrArg some (by kernel_rfl))⟩
  t0 := Try.underlying0
  a0 := Try.isAgg0
  z0 := Try.sizeOf0
  v0 := Try.zeroValue0
  t3 := Try.underlying3
  a3 := Try.isAgg3
  z3 := Try.sizeOf3
  v3 := Try.zeroValue3
  t4 := Try.underlying4
  a4 := Try.isAgg4
  z4 := Try.sizeOf4
  v4 := Try.zeroValue4
  t5 := Try.underlying5
  a5 := Try.isAgg5
  z5 := Try.sizeOf5
  v5 := Try.zeroValue5
  t9 := Try.underlying9
  a9 := Try.isAgg9
  z9 := Try.sizeOf9
  v9 := Try.zeroValue9
  t22 := Try.underlying39
  a22 := Try.isAgg39
  z22 := Try.sizeOf39
  v22 := Try.zeroValue39
  t25 := Try.underlying121
  a25 := Try.isAgg121
  z25 := Try.sizeOf121
  v25 := Try.zeroValue121
  t39 := Try.underlying46
  a39 := Try.isAgg46
  z39 := Try.sizeOf46
  v39 := Try.zeroValue46
  t45 := Try.underlying135
  a45 := Try.isAgg135
  z45 := Try.sizeOf135
  v45 := Try.zeroValue135
  t46 := Try.underlying136
  a46 := Try.isAgg136
  z46 := Try.sizeOf136
  v46 := Try.zeroValue136
  t50 := Try.underlying140
  a50 := Try.isAgg140
  z50 := Try.sizeOf140
  v50 := Try.zeroValue140
  t53 := Try.underlying143
  a53 := Try.isAgg143
  z53 := Try.sizeOf143
  v53 := Try.zeroValue143
  t55 := Try.underlying145
  a55 := Try.isAgg145
  z55 := Try.sizeOf145
  v55 := Try.zeroValue145
  t66 := Try.underlying146
  a66 := Try.isAgg146
  z66 := Try.sizeOf146
  v66 := Try.zeroValue146
  t70 := Try.underlying150
  a70 := Try.isAgg150
  z70 := Try.sizeOf150
  v70 := Try.zeroValue150
  t76 := Try.underlying152
  a76 := Try.isAgg152
  z76 := Try.sizeOf152
  v76 := Try.zeroValue152
  t77 := Try.underlying153
  a77 := Try.isAgg153
  z77 := Try.sizeOf153
  v77 := Try.zeroValue153 }
end Go.Proofs

/- The contract of the library's sort of races by their places. -/
namespace Go.Proofs.Ytkjjbcgecnjniaa
open Go.RowKit Go.Shelf Go.Lib Go.Sort

def encR (t : Int) (x : Fin 1000) : List Value := [.int .i64 (x.val : Int), .int .i64 t]
def cfR (x y : Fin 1000) : Int := (x.val : Int) - (y.val : Int)
theorem ltR (x y : Fin 1000) : ltOf cfR x y = decide (x.val < y.val) := by
  unfold ltOf cfR
  by_cases h : x.val < y.val
  · have : (x.val : Int) - (y.val : Int) < 0 := by omega
    simp [h, this]
  · have : ¬ (x.val : Int) - (y.val : Int) < 0 := by omega
    simp [h, this]
theorem swoR : SWO (ltOf cfR) where
  irrefl x := by rw [ltR]; simp
  trans x y z h1 h2 := by rw [ltR] at *; simp at *; omega
  ntrans x y z h1 h2 := by rw [ltR] at *; simp at *; omega
theorem totR (x y : Fin 1000) (h1 : ltOf cfR x y = false) (h2 : ltOf cfR y x = false) : x = y := by rw [ltR] at *; simp at *; omega
theorem geR : (fun x y : Fin 1000 => !ltOf cfR y x) = fun x y => decide (x.val ≤ y.val) := by
  funext x y
  rw [ltR]
  by_cases h : x.val ≤ y.val
  · have h' : ¬ y.val < x.val := by omega
    simp [h, h']
  · have h' : y.val < x.val := by omega
    simp [h, h']

set_option maxHeartbeats 1000000 in
theorem closureR (t : Int) (x y : Fin 1000) (W : World) : Calls Try.prog 49 #[.agg #[.int .i64 (x.val : Int), .int .i64 t], .agg #[.int .i64 (y.val : Int), .int .i64 t]] W fun e w' => e = .returned (.int .i64 (cfR x y)) ∧ ∃ q os', w' = Go.Sort.grow (W.drewN q) os' := by
  have hx := x.isLt
  have hy := y.isLt
  unfold cfR
  have hw : IntKind.i64.wrap ((x.val : Int) - (y.val : Int)) = (x.val : Int) - (y.val : Int) := IntWalk.i64_in _ (by omega)
  generalize (x.val : Int) = a at *
  generalize (y.val : Int) = b at *
  go_enter Try.func49, Try.ntmps49
  go_wp2
  go_ret
  exact ⟨rfl, 0, _, by rw [alloc_eq_grow, alloc_eq_grow, grow_grow]; rfl⟩

theorem flat_cells {α : Type} [Inhabited α] (enc : α → List Value) {k : Nat} (hk : ∀ x, (enc x).length = k) (h0 : 0 < k) (l : List α) : (flatK enc k l.toArray).toList = cellsL enc l := by
  apply cellsL_ext hk h0
  · simp
  · intro i hi j hj
    have hlt : i * k + j < l.length * k := by
      have : (i + 1) * k ≤ l.length * k := Nat.mul_le_mul_right k hi
      rw [Nat.add_mul, Nat.one_mul] at this
      omega
    have e1 : (i * k + j) / k = i := by rw [Nat.mul_comm, Nat.mul_add_div h0, Nat.div_eq_of_lt hj, Nat.add_zero]
    have e2 : (i * k + j) % k = j := by rw [Nat.mul_comm, Nat.mul_add_mod, Nat.mod_eq_of_lt hj]
    unfold flatK
    simp only [Array.toList_map, Array.toList_range, List.size_toArray, List.getElem?_map, List.getElem?_range hlt, Option.map_some, e1, e2]
    have e3 : (l.toArray)[i]! = l[i] := by simp [hi]
    rw [e3, getElem!_pos _ _ (by rw [hk]; exact hj), List.getElem?_eq_getElem (by rw [hk]; exact hj)]
theorem holdsK_of {α : Type} [Inhabited α] {enc : α → List Value} {k : Nat} (hk : ∀ x, (enc x).length = k) (h0 : 0 < k) {w : World} {g : Nat} {cur : Array Value} {e : TypeId} {l : List α} (hb : w.heap[g]? = some (.cells cur e (0, 0))) (ht : cur.toList.take (l.length * k) = cellsL enc l) : HoldsK enc k w g 0 l.toArray := by
  intro j hj
  have hj' : j < l.length * k := by simpa using hj
  refine ⟨?_, by simp [World.frozen?, hb]⟩
  have h1 : (cur.toList.take (l.length * k))[j]? = ((flatK enc k l.toArray).toList)[j]? := by rw [ht, flat_cells enc hk h0]
  rw [List.getElem?_take_of_lt hj'] at h1
  simp only [World.cell?, hb, Nat.zero_add]
  simp only [Option.isSome_none, Bool.false_eq_true, if_false]
  rw [← Array.getElem?_toList, h1, Array.getElem?_toList, getElem!_pos (flatK enc k l.toArray) j hj, Array.getElem?_eq_getElem hj]
  rfl
theorem heap_sortedK {α : Type} [Inhabited α] {enc : α → List Value} {k : Nat} {w : World} {g n : Nat} {os : Array Obj} {cur : Array Value} {e : TypeId} {fr : Nat × Nat} (d : Array α) (hb : w.heap[g]? = some (.cells cur e fr)) :
    (sortWorldK enc k w g 0 n d os).heap[g]? = some (.cells (putCells id 0 (flatK enc k d) cur) e fr) := by
  have hg : g < w.heap.size := (Array.getElem?_eq_some_iff.1 hb).1
  unfold sortWorldK putRowK
  rw [heap_grow_old _ _ (by simpa using hg)]
  simp [putRow, mapBlock, Sort.ahead, Array.getElem?_modify, hb, onCells]
theorem grownBy_sortedK {α : Type} [Inhabited α] {enc : α → List Value} {k : Nat} {w : World} {g n : Nat} {os : Array Obj} (d : Array α) : w.grownBy (sortWorldK enc k w g 0 n d os) (some g) := by
  unfold sortWorldK putRowK
  refine ⟨rfl, rfl, rfl, by simp, fun j hj hne => ?_⟩
  rw [heap_grow_old _ _ (by simpa using hj)]
  have : g ≠ j := fun e => hne (by rw [e])
  simp [putRow, mapBlock, Sort.ahead, Array.getElem?_modify, this]
theorem take_putFlat (cur : Array Value) (F : Array Value) (h : F.size ≤ cur.size) : (putCells id 0 F cur).toList.take F.size = F.toList := by
  apply List.ext_getElem?
  intro j
  by_cases hj : j < F.size
  · rw [List.getElem?_take_of_lt hj, Array.getElem?_toList, Array.getElem?_toList]
    simp [putCells, hj, show j < cur.size by omega]
  · rw [List.getElem?_take_eq_none (by omega), List.getElem?_eq_none (by simp; omega)]

/-- Below a thousand. -/
def fin1 (i : Nat) : Fin 1000 := ⟨i % 1000, Nat.mod_lt _ (by omega)⟩
theorem fin1_val {ats : List Nat} (h : ∀ i ∈ ats, i < 1000) : (ats.map fin1).map (·.val) = ats := by
  rw [List.map_map]
  conv => rhs; rw [← List.map_id ats]
  apply List.map_congr_left
  intro i hi
  exact Nat.mod_eq_of_lt (h i hi)
theorem enc_rc (t : Int) (l : List (Fin 1000)) : cellsL (encR t) l = cellsL rcCell (rcT t (l.map (·.val))) := by
  unfold cellsL rcT
  rw [List.map_map, List.flatMap_map]
  rfl

set_option maxHeartbeats 1000000 in
/-- Sorted by their places, in place. -/
theorem sort_any (t : Int) (ats : List Nat) (B : Nat) (v : Value) (w : World) (ho : OwnRow w B 48 2 rcCell v (rcT t ats)) (hs : ∀ i ∈ ats, i < 1000) (hl : ats.length ≤ 1000) :
    Calls Try.prog 48 #[v, .func (.func 49) #[] #[]] w fun r w' => r = .returned (.tuple #[]) ∧
      ∃ L : List Nat, L.Perm ats ∧ L.Pairwise (· ≤ ·) ∧ OwnRow w' B 48 2 rcCell v (rcT t L) ∧ w.grownBy w' v.ownBlock := by
  obtain ⟨h1, ⟨rfl, h2⟩ | ⟨g, cap, cur, rfl, h3, h4, h5, h6, h7, h8⟩⟩ := ho
  · obtain rfl : ats = [] := List.eq_nil_of_length_eq_zero (by unfold rcT at h2; simpa using h2)
    have hS := AnyF.slices_SortFunc_none (P := Try.prog) (ρ := Try.sortRace_ren) { Try.sortRace with } none 0 (.func (.func 49) #[] #[]) w
    change Calls Try.prog 48 _ _ _ at hS
    refine hS.mono ?_
    rintro r w' ⟨rfl, rfl⟩
    exact ⟨rfl, [], List.Perm.refl _, List.Pairwise.nil, ⟨rfl, .inl ⟨rfl, rfl⟩⟩, rfl, rfl, rfl, Nat.le_refl _, fun _ _ _ => rfl⟩
  · have hn : (rcT t ats).length = ats.length := by unfold rcT; simp
    rw [hn] at h5 h8 h1
    have hv := fin1_val hs
    have hfl : (ats.map fin1).length = ats.length := by simp
    have h8' : cur.toList.take ((ats.map fin1).length * 2) = cellsL (encR t) (ats.map fin1) := by rw [enc_rc, hv, hfl]; exact h8
    have hH := holdsK_of (enc := encR t) (fun _ => rfl) (by omega) h4 h8'
    have eg : ∀ args w, (callFunc 49 args).run Try.prog w = .ok (.enter 49 args) w := enters_of Try.func49 (by kernel_rfl) rfl
    have hS := AnyQ.slices_SortFunc_total Try.sortRace 2 Try.isAgg48 Try.sizeOf48 (encR t) (fun _ => rfl) (fun x v hv => by simp [encR] at hv; rcases hv with rfl | rfl <;> rfl) cfR swoR 49 #[] g 0 cap (ats.map fin1).toArray w eg
      (fun _ _ _ _ x y => closureR t x y _) hH (Array.getElem?_eq_some_iff.1 h4).1 (by simp; omega) totR
    rw [geR] at hS
    have hsz : (ats.map fin1).toArray.size = ats.length := by simp
    rw [hsz] at hS
    rw [hn]
    change Calls Try.prog 48 _ _ _ at hS
    refine hS.mono ?_
    rintro r w' ⟨rfl, n, os, rfl⟩
    have hp := List.mergeSort_perm (ats.map fin1) (fun x y => decide (x.val ≤ y.val))
    have hpw : ((ats.map fin1).mergeSort fun x y => decide (x.val ≤ y.val)).Pairwise (fun x y => decide (x.val ≤ y.val) = true) :=
      List.pairwise_mergeSort (fun a b c h1 h2 => by simp at *; omega) (fun a b => by simp; omega) _
    generalize ((ats.map fin1).mergeSort fun x y => decide (x.val ≤ y.val)) = S at *
    have hSl : S.length = ats.length := by rw [hp.length_eq, hfl]
    refine ⟨rfl, S.map (·.val), ?_, ?_, ?_, grownBy_sortedK _⟩
    · have := hp.map (·.val)
      rwa [hv] at this
    · rw [List.pairwise_map]
      exact hpw.imp fun h => by simpa using h
    · have hn2 : (rcT t (S.map (·.val))).length = ats.length := by unfold rcT; simp [hSl]
      refine ⟨by rw [cellsL_length rcCell_len, hn2], .inr ⟨g, cap, _, by rw [hn2], h3, heap_sortedK _ h4, by rw [hn2]; exact h5, h6, by simp [putCells, h7], ?_⟩⟩
      have hF : (flatK (encR t) 2 S.toArray).toList = cellsL rcCell (rcT t (S.map (·.val))) := by rw [flat_cells (encR t) (k := 2) (fun _ => rfl) (by omega), enc_rc]
      rw [← hF, hn2]
      have hFs : (flatK (encR t) 2 S.toArray).size = ats.length * 2 := by simp [hSl]
      rw [← hFs]
      exact take_putFlat _ _ (by rw [hFs, h7]; exact Nat.mul_le_mul_right 2 h5)

end Go.Proofs.Ytkjjbcgecnjniaa

/- The contract of race's racing. -/
namespace Go.Proofs.Ytkjjbcgecnjniaa
open Go.RowKit Go.Shelf

attribute [local go_sem] Oper.semAt_some

theorem addG_ev {gs : List Gp} {e : Ev} {p : Nat × Nat} : ∀ g ∈ addG gs e p, g.1 = e ∨ ∃ g' ∈ gs, g.1 = g'.1 := by
  induction gs with
  | nil =>
    intro g hg
    rw [addG, List.mem_singleton] at hg
    exact .inl (by rw [hg])
  | cons x gs ih =>
    intro g hg
    unfold addG at hg
    split at hg
    · rcases List.mem_cons.1 hg with rfl | hg
      · exact .inr ⟨x, List.mem_cons_self, rfl⟩
      · exact .inr ⟨g, List.mem_cons_of_mem _ hg, rfl⟩
    · rcases List.mem_cons.1 hg with rfl | hg
      · exact .inr ⟨g, List.mem_cons_self, rfl⟩
      · rcases ih g hg with h | ⟨g', h1, h2⟩
        · exact .inl h
        · exact .inr ⟨g', List.mem_cons_of_mem _ h1, h2⟩
theorem grp_ev (l : List Ev) (n : Nat) : ∀ g ∈ grp l n, ∃ i, i < n ∧ g.1 = evI l i := by
  induction n with
  | zero => intro g hg; cases hg
  | succ n ih =>
    intro g hg
    rcases addG_ev g hg with h | ⟨g', h1, h2⟩
    · exact ⟨n, Nat.lt_succ_self _, h⟩
    · obtain ⟨i, h3, h4⟩ := ih g' h1
      exact ⟨i, by omega, h2.trans h4⟩
theorem rcL_take (ls : Int → Int → Nat) (gs : List Gp) (e : Ev) (k : Nat) (hk : k < gs.length) :
    rcL ls (gs.take (k + 1)) e = rcL ls (gs.take k) e ++ if gs[k].1.thread ≠ e.thread ∧ dep gs[k].1 e = true then rcG (ls e.thread gs[k].1.thread) gs[k].2 else [] := by
  unfold rcL
  rw [List.take_add_one, List.getElem?_eq_getElem hk, List.flatMap_append]
  simp

def RacingR (l : List Ev) (n : Nat) (e : Ev) (w : World) (r : Ending) (w' : World) : Prop :=
  ∃ rv, r = .returned rv ∧ OwnRow w' w.heap.size 48 2 rcCell rv (rcT e.thread (raced l n e)) ∧ Below w.heap.size w w'
/-- What holds between two groups. -/
def RcW (w : World) (e : Ev) (ats : List Nat) (ds : List Deferred) (W : World) : Prop :=
  EvBox W w.heap.size e ∧ RcAt W w.heap.size (w.heap.size + 1) e.thread ats ∧ Marks w.heap.size ds W ∧ Below w.heap.size w W
theorem RcW.later {w W W' : World} {e : Ev} {ats : List Nat} {ds : List Deferred} (h : RcW w e ats ds W) (hb : Below W.heap.size W W') : RcW w e ats ds W' :=
  ⟨h.1.later hb, h.2.1.later hb, h.2.2.1.kept fun D _ hD => (hb.block D (Array.getElem?_eq_some_iff.1 hD).1).trans hD, h.2.2.2.trans (hb.mono h.2.2.2.size)⟩

set_option maxRecDepth 100000 in
set_option maxHeartbeats 8000000 in
theorem racing_any (P B n : Nat) (l : List Ev) (e : Ev) (v : Value) (xs : List (Ev × Sp)) (w : World) (hp : PastM w P B (csOf l n) v xs (grp l n)) (hr : rightL l = true) (hn : n ≤ l.length) (hm : l.length ≤ 200) (h0 : 0 ≤ e.thread) (h4 : e.thread < 4) :
    Calls Try.prog 25 #[.pointer (some ⟨P, 0, none⟩), .agg #[.int .i64 e.thread, .int .i64 e.kind, .int .i64 e.obj, .bool e.fail]] w (RacingR l n e w) := by
  have HEV := Lib.hid (grp_ev l n)
  have HRL := Lib.hid (fun i (hi : i < l.length) => rightEv_bd (rightL_get hr hi))
  have HCS : Hid (∀ (t u : Nat) (ht : t < (csOf l n).length), ((csOf l n)[t]'ht) u = lasts l n t u) := fun t u ht => by rw [csOf_get l n t ht]
  have HOK := Lib.hid (gok_grp l n)
  have HSM := Lib.hid (grp_small l n)
  have hgl := grp_len l n
  have HS := Lib.hid (fun (L : List Nat) h1 h2 => rcL_sorted l n e (L := L) h1 h2)
  have HRM := Lib.hid (fun (i : Nat) (h : i ∈ rcL (lasts l n) (grp l n) e) => rcL_mem h)
  have hrl := rcL_len l n e
  have HLN := Lib.hid (csOf_len l n)
  unfold RacingR
  generalize lasts l n = ls at *
  generalize csOf l n = cs at *
  generalize grp l n = gs at *
  generalize hRC : raced l n e = RC at *
  clear hRC
  obtain ⟨va, vc, rfl, HV⟩ : ∃ va vc, v = .slice va gs.length vc ∧ Hid (gs = [] ∨ ∃ g, va = some ⟨g, 0, none⟩) := by
    rcases hp.own.form with ⟨h1, h2⟩ | ⟨g, c, h1, _⟩
    · exact ⟨none, 0, by rw [h1, h2]; rfl, .inl h2⟩
    · exact ⟨_, c, h1, .inr ⟨g, rfl⟩⟩
  have HP := Lib.hid hp
  clear hp
  obtain ⟨et, ek, eo, ef⟩ := e
  dsimp only at h0 h4 HS HRM hrl ⊢
  obtain ⟨th, rfl⟩ : ∃ th : Nat, et = th := ⟨et.toNat, by omega⟩
  have hth4 : th < 4 := by omega
  clear h0
  refine (callsIn_wide (n := 3)).1 ?_
  have h1 : 1 ≤ 3 := by omega
  refine callsIn_of_wp_marks Try.func25 rfl trivial ?_ rfl
  simp only [Try.ntmps25, List.size_toArray, List.length_cons, List.length_nil, Nat.reduceAdd, Nat.reduceSub, Array.replicate_succ, Array.replicate_zero, List.push_toArray, List.append_toArray, List.nil_append, List.cons_append]
  have hb0 := below_alloc2 w (.cells #[.int .i64 (th : Int), .int .i64 ek, .int .i64 eo, .bool ef] 50) (.cells #[.slice none 0 0] 39)
  have HW0 : Hid (RcW w ⟨th, ek, eo, ef⟩ [] [] ((w.alloc (.cells #[.int .i64 (th : Int), .int .i64 ek, .int .i64 eo, .bool ef] 50)).alloc (.cells #[.slice none 0 0] 39))) :=
    ⟨(EvBox.new w ⟨th, ek, eo, ef⟩).later (below_alloc1 _ _), ⟨_, heap_alloc2_new w _ _, ownRow_nil _ _ _ _ _⟩, marks_nil _ _, hb0⟩
  have hv := cell_later hb0 (HP.out.blk.slice HP.out.four)
  gi_wp2
  generalize (w.alloc (.cells #[.int .i64 (th : Int), .int .i64 ek, .int .i64 eo, .bool ef] 50)).alloc (.cells #[.slice none 0 0] 39) = W0 at *
  clear hv hb0
  refine wpIn_loop (fun a1 W => ∃ (ds : List Deferred) (u6 u7 u8 u9 u10 u16 u17 u18 u19 u20 u21 u22 u23 u24 u25 u26 u27 u28 u29 u30 u31 u32 u33 u34 u35 u36 u37 u38 u39 u40 u41 u42 u43 u44 u45 u46 u47 u48 u49 u50 u51 u52 u53 u54 u55 u56 u57 u58 u59 u60 u61 : Value), (∃ k : Nat, k ≤ gs.length ∧ u16 = .int .i64 k ∧ Hid (RcW w ⟨th, ek, eo, ef⟩ (rcL ls (gs.take k) ⟨th, ek, eo, ef⟩) ds W)) ∧ a1 = Act.mk #[.pointer (some ⟨P, 0, none⟩), .agg #[.int .i64 (th : Int), .int .i64 ek, .int .i64 eo, .bool ef], undef, .pointer (some ⟨w.heap.size, 0, none⟩), .slice none 0 0, .pointer (some ⟨w.heap.size + 1, 0, none⟩), u6, u7, u8, u9, u10, .pointer (some ⟨P, 0, none⟩), .pointer (some ⟨P, 0, none⟩), .pointer (some ⟨P, 16, none⟩), .slice va gs.length vc, .int .i64 (gs.length : Int), u16, u17, u18, u19, u20, u21, u22, u23, u24, u25, u26, u27, u28, u29, u30, u31, u32, u33, u34, u35, u36, u37, u38, u39, u40, u41, u42, u43, u44, u45, u46, u47, u48, u49, u50, u51, u52, u53, u54, u55, u56, u57, u58, u59, u60, u61, undef, undef, undef] ds) (fun a1 _ => gs.length - (intOf (a1.tmps.getD 16 undef)).toNat) ?atStart ?round
  case atStart => exact ⟨[], undef, undef, undef, undef, undef, .int .i64 0, undef, undef, undef, undef, undef, undef, undef, undef, undef, undef, undef, undef, undef, undef, undef, undef, undef, undef, undef, undef, undef, undef, undef, undef, undef, undef, undef, undef, undef, undef, undef, undef, undef, undef, undef, undef, undef, undef, undef, undef, undef, undef, undef, undef, undef, ⟨0, Nat.zero_le _, rfl, HW0⟩, rfl⟩
  case round =>
    clear HW0
    intro _ W hinv
    obtain ⟨ds, u6, u7, u8, u9, u10, u16, u17, u18, u19, u20, u21, u22, u23, u24, u25, u26, u27, u28, u29, u30, u31, u32, u33, u34, u35, u36, u37, u38, u39, u40, u41, u42, u43, u44, u45, u46, u47, u48, u49, u50, u51, u52, u53, u54, u55, u56, u57, u58, u59, u60, u61, ⟨k, hk, rfl, HW⟩, ha⟩ := hinv
    subst ha
    try dsimp only
    by_cases hlt : k < gs.length
    case neg =>
      obtain rfl : k = gs.length := by omega
      have HW1 := HW.out
      rw [List.take_length] at HW1
      obtain ⟨hbx, ⟨lv, bL, ow⟩, hmk, hbw⟩ := HW1
      have lc := bL.cell
      have HOW := Lib.hid ow
      have HBL := Lib.hid bL
      have HMK := Lib.hid hmk
      have HBW := Lib.hid hbw
      have HSO := Lib.hid (sort_any (th : Int) (rcL ls gs ⟨th, ek, eo, ef⟩) w.heap.size lv W ow (fun i hi => by have := HRM.out i hi; omega) (by omega))
      clear hbx bL ow hmk hbw
      gi_wp2_with fail
      refine ⟨trivial, ?_⟩
      refine (callsIn_wide.2 HSO.out).mono ?_
      rintro r W2 ⟨rfl, L, hp, hs, how, hgr⟩
      obtain rfl := HS.out L hp hs
      have b2 := HBL.out.kept hgr (HBL.out.not_row tyRcL HOW.out)
      have lc2 := b2.cell
      have HMK2 := Lib.hid (HMK.out.stay (Stay.grown HOW.out hgr) HBL.out)
      have HB2 : Hid (Below w.heap.size w W2) := HBW.out.grown hgr HBW.out.size (fun k hk => (World.ownsRow.lt HOW.out k hk).1)
      have HL2 := Lib.hid how
      have HBX2 := Lib.hid b2
      clear hp hs how hgr b2 HSO
      gi_wp2
      refine leaves_marks w.heap.size (fun W' => OwnRow W' w.heap.size 48 2 rcCell lv (rcT th L) ∧ Below w.heap.size w W') ?_ ?_ ds W2 HMK2.out ⟨HL2.out, HB2.out⟩
      · rintro W' D o ⟨h3, h4⟩ hD ho hc
        exact ⟨ownsRow_putObj h3 _ ho hc, h4.grown (grownBy_putObj' W' D _) h4.size (fun k e => by cases e; exact hD)⟩
      · rintro W' ⟨h3, h4⟩
        exact ⟨lv, by simp [results, Try.f25, go_sem], lv, rfl, h3, h4⟩
    obtain ⟨g, rfl⟩ : ∃ g, va = some ⟨g, 0, none⟩ := by
      rcases HV.out with h | h
      · rw [h] at hlt; simp at hlt
      · exact h
    have hkx : k < xs.length := by rw [HP.out.own.len]; exact hlt
    have hM := HP.out.later HW.out.2.2.2
    have hev := hM.own.evs k hkx hlt
    have x0 := hM.own.cell (j := 0) hkx (by omega)
    have x1 := hM.own.cell (j := 1) hkx (by omega)
    have x2 := hM.own.cell (j := 2) hkx (by omega)
    have x3 := hM.own.cell (j := 3) hkx (by omega)
    have x4 := hM.own.cell (j := 4) hkx (by omega)
    rw [Nat.add_zero] at x0
    simp only [gpCell, hev, List.getElem?_cons_zero, List.getElem?_cons_succ] at x0 x1 x2 x3 x4
    have HRW := Lib.hid (rcL_take ls gs ⟨th, ek, eo, ef⟩ k hlt)
    have HIN := Lib.hid (hM.own.inner k hkx hlt)
    have HINw := Lib.hid (HP.out.own.inner k hkx hlt)
    have HA0 := rcL_take_len ls gs ⟨th, ek, eo, ef⟩ k
    have HPW := Lib.hid (HOK.out gs[k] (List.getElem_mem hlt)).2
    have hsm := HSM.out gs[k] (List.getElem_mem hlt)
    obtain ⟨gt, hgt4, HGT⟩ : ∃ gt : Nat, gt < 4 ∧ Hid (gs[k].1.thread = gt) := by
      obtain ⟨i, hi, he⟩ := HEV.out gs[k] (List.getElem_mem hlt)
      have := HRL.out i (by omega)
      rw [← evI_get (show i < l.length by omega), ← he] at this
      exact ⟨gs[k].1.thread.toNat, by omega, (by show _ = _; omega)⟩
    generalize xs[k].2 = sp at *
    generalize gs[k].2 = ps at *
    generalize gs[k].1 = ge at *
    obtain ⟨gth, gk, go, gf⟩ := ge
    obtain rfl : gth = gt := HGT.out
    dsimp only at x0 x1 x2 x3 x4
    have hb1 := below_alloc1 W (.cells #[.int .i64 (gt : Int), .int .i64 gk, .int .i64 go, .bool gf, .slice sp.a sp.n sp.c] 113)
    have HW1 : Hid (RcW w ⟨th, ek, eo, ef⟩ (rcL ls (gs.take k) ⟨th, ek, eo, ef⟩) ds (W.alloc (.cells #[.int .i64 (gt : Int), .int .i64 gk, .int .i64 go, .bool gf, .slice sp.a sp.n sp.c] 113))) :=
      HW.out.later hb1
    have HLK : Hid (MidAt (W.alloc (.cells #[.int .i64 (gt : Int), .int .i64 gk, .int .i64 go, .bool gf, .slice sp.a sp.n sp.c] 113)) W.heap.size 113 (gpCell (⟨gt, gk, go, gf⟩, sp))) := heap_alloc_new _ _
    obtain ⟨e0, e1, e2, e3⟩ := HW1.out.1.cells
    have HKX : Hid (k + 1 ≤ gs.length) := hlt
    by_cases hth : gt = th
    · subst hth
      have HW2 : Hid (RcW w ⟨gt, ek, eo, ef⟩ (rcL ls (gs.take (k + 1)) ⟨gt, ek, eo, ef⟩) ds (W.alloc (.cells #[.int .i64 (gt : Int), .int .i64 gk, .int .i64 go, .bool gf, .slice sp.a sp.n sp.c] 113))) := by
        show RcW _ _ _ _ _
        rw [HRW.out, if_neg (fun h => h.1 rfl), List.append_nil]
        exact HW1.out
      clear HW1 HRW
      gi_wp2
      refine ⟨trivial, ?_⟩
      gi_wp2
      refine ⟨?_, ?measure⟩
      (repeat apply Exists.intro)
      refine ⟨⟨k + 1, HKX.out, by go_num, HW2⟩, rfl⟩
      case measure => simp [intOf]; omega
    have hq : ((gt : Int) == (th : Int)) = false := by simp; omega
    gi_wp2_with fail
    refine ⟨trivial, ?_⟩
    refine (callsIn_wide.2 (depends_any ⟨gt, gk, go, gf⟩ ⟨th, ek, eo, ef⟩ _)).mono ?_
    rintro r W2 ⟨rfl, hbd⟩
    have HW2 := Lib.hid (HW1.out.later hbd)
    have HLK2 : Hid (MidAt W2 W.heap.size 113 (gpCell (⟨gt, gk, go, gf⟩, sp))) := HLK.out.later hbd
    have HB2 : Hid (Below W.heap.size W W2) := hb1.trans (hbd.mono hb1.size)
    clear HW1 HLK hb1 hbd
    cases hd : dep ⟨gt, gk, go, gf⟩ ⟨th, ek, eo, ef⟩
    · have HW3 : Hid (RcW w ⟨th, ek, eo, ef⟩ (rcL ls (gs.take (k + 1)) ⟨th, ek, eo, ef⟩) ds W2) := by
        show RcW _ _ _ _ _
        rw [HRW.out, if_neg (fun h => by rw [hd] at h; exact absurd h.2 (by simp)), List.append_nil]
        exact HW2.out
      clear HW2 HRW hd
      gi_wp2
      refine ⟨?_, ?measure⟩
      (repeat apply Exists.intro)
      refine ⟨⟨k + 1, HKX.out, by go_num, HW3⟩, rfl⟩
      case measure => simp [intOf]; omega
    have HRW2 : Hid (rcL ls (gs.take (k + 1)) ⟨th, ek, eo, ef⟩ = rcL ls (gs.take k) ⟨th, ek, eo, ef⟩ ++ rcG (ls th gt) ps) := by
      show _ = _
      rw [HRW.out, if_pos ⟨fun h => hth (by omega), hd⟩]
    clear HRW hd
    obtain ⟨sa, sn, sc⟩ := sp
    obtain ⟨pa, pc, hsp, hrp, _⟩ := HIN.out.form plCell_len (by omega)
    obtain ⟨rfl, rfl, rfl⟩ : sa = pa ∧ sn = ps.length ∧ sc = pc := by simpa [spV] using hsp
    have HRP := Lib.hid hrp
    clear hrp hsp
    dsimp only at *
    have hM2 := hM.later HB2.out
    have hp0 := hM2.blk.num (t := th) (u := gt) (by rw [hM2.four]; exact hth4) hgt4
    rw [HCS.out th gt (by rw [hM2.four]; exact hth4)] at hp0
    obtain ⟨e0, e1, e2, e3⟩ := HW2.out.1.cells
    have l0 := HLK2.out.cell 0
    have l4 := HLK2.out.cell 4
    simp only [gpCell, List.getElem?_cons_zero, List.getElem?_cons_succ] at l0 l4
    gi_wp2_with fail
    clear e1 e2 e3 x0 x1 x2 x3 x4 hev
    have hb4 : Below W2.heap.size W2 (W2.alloc (.cells #[.int .i64 0] 3)).drew := (below_alloc1 W2 _).drew
    have hb5 : ∀ v, Below W2.heap.size W2 ((W2.alloc (.cells #[.int .i64 0] 3)).drew.setCell ⟨W2.heap.size, 0, none⟩ v) := fun v => hb4.setCell (Nat.le_refl _) v
    have HQ : Hid (∀ W', Below W2.heap.size W2 W' → W'.cell? ⟨w.heap.size, 0, none⟩ = some (.int .i64 (th : Int)) ∧ W'.cell? ⟨W.heap.size, 0, none⟩ = some (.int .i64 (gt : Int)) ∧ W'.cell? ⟨P, th * 4 + gt, none⟩ = some (.int .i64 (ls th gt))) :=
      fun W' hb => ⟨cell_later hb e0, cell_later hb l0, cell_later hb hp0⟩
    have hS0 := HQ.out W2.drew (Below.refl _ W2).drew
    have hS1 := HQ.out _ hb4
    have hgi : (gt : Int) < 4 := by omega
    clear e0 l0 hp0
    refine wpIn_wide.2 ?_
    go_region_held3 (fun W' => W'.cell? ⟨w.heap.size, 0, none⟩ = some (.int .i64 (th : Int)) ∧ W'.cell? ⟨W.heap.size, 0, none⟩ = some (.int .i64 (gt : Int)) ∧ W'.cell? ⟨P, th * 4 + gt, none⟩ = some (.int .i64 (ls th gt)))
      (first | exact hS0 | exact hS1 | exact HQ.out _ (below_alloc1 W2 _).drew)
      (fail)
    rename_i hHeld
    clear hHeld
    have hb6 : Below W2.heap.size W2 (W2.alloc (.cells #[.int .i64 (ls th gt)] 3)).drew := (below_alloc1 W2 _).drew
    have HKN : Hid (MidAt (W2.alloc (.cells #[.int .i64 (ls th gt)] 3)).drew W2.heap.size 3 [.int .i64 (ls th gt)]) := heap_alloc_new W2 _
    have hsz3 : (W2.alloc (.cells #[.int .i64 (ls th gt)] 3)).drew.heap.size = W2.heap.size + 1 := by simp
    have HW3 := Lib.hid (HW2.out.later hb6)
    have HLK3 := Lib.hid (HLK2.out.later hb6)
    have HB3 : Hid (Below W.heap.size W (W2.alloc (.cells #[.int .i64 (ls th gt)] 3)).drew) := HB2.out.trans (hb6.mono HB2.out.size)
    have HWs : Hid (W.heap.size ≤ W2.heap.size) := HB2.out.size
    clear HW2 HLK2 HB2 hM2 hb4 hb5 hb6 HQ hS0 hS1
    generalize (W2.alloc (.cells #[.int .i64 (ls th gt)] 3)).drew = W3 at *
    generalize W2.heap.size = Kb at *
    have l4 : W3.cell? ⟨W.heap.size, 4, none⟩ = some (.slice sa ps.length sc) := HLK3.out.cell 4
    gi_wp2_with fail
    refine ⟨trivial, ?_⟩
    refine (backP_in Fence.wide _ trivial rfl _ _ _ _).mono ?_
    rintro r w' ⟨rfl, rfl⟩
    have hb7 := below_alloc1 W3 (.cells #[.slice sa ps.length sc] 111)
    have hsz4 : (W3.alloc (.cells #[.slice sa ps.length sc] 111)).heap.size = W3.heap.size + 1 := by simp
    have HBS : Hid (MidAt (W3.alloc (.cells #[.slice sa ps.length sc] 111)) W3.heap.size 111 [.slice sa ps.length sc]) := heap_alloc_new _ _
    have HW4 := Lib.hid (HW3.out.later hb7)
    have HKN4 := Lib.hid (HKN.out.later hb7)
    have HB4 : Hid (Below W.heap.size W (W3.alloc (.cells #[.slice sa ps.length sc] 111))) := HB3.out.trans (hb7.mono HB3.out.size)
    have HK3 : Hid (Kb < W3.heap.size) := by show _ < _; omega
    clear HW3 HKN HB3 HLK3 hb7 l4
    gi_wp2
    generalize W3.alloc (.cells #[.slice sa ps.length sc] 111) = Wl at *
    generalize W3.heap.size = Bs at *
    obtain rfl : Bs = Kb + 1 := by omega
    have HKL : Hid (w.heap.size + 1 < W.heap.size) := by
      obtain ⟨v, h8, _⟩ := HW.out.2.1
      exact h8.lt
    have HBK : Hid (0 < ps.length → ∀ b o, sa = some ⟨b, o, none⟩ → b < w.heap.size) := by
      rintro h b o rfl
      exact (World.ownsRow.lt HINw.out b rfl).2
    have hsl : w.heap.size ≤ Wl.heap.size := HW4.out.2.2.2.size
    have hA0l : (rcL ls (gs.take k) ⟨th, ek, eo, ef⟩).length ≤ 200 := by omega
    clear HA0 HS HRM hrl HV
    generalize rcL ls (gs.take k) ⟨th, ek, eo, ef⟩ = A0 at *
    refine wpIn_rangeFunc_ownH rfl h1 (gf := 60) (lb := #[.pointer (some ⟨Kb + 1, 0, none⟩)]) (by first | (with_reducible rfl) | (simp [Act.eval]; done) | go_simp) trivial (enters_of Try.func60 (by kernel_rfl) rfl)
      (backP_stops Fence.wide (3 - 1) trivial rfl (by omega) (Kb + 1) w.heap.size sa sc ps (by omega) Wl HBS.out (HRP.out.later HB4.out) HBK.out) keepB_t (keepB_b hsl (by omega)) (Below.refl _ _) (fun _ => rfl)
      (fun (pre : List (Fin ps.length)) W' => (∀ q ∈ pre, ls th gt < (ps[q.val]).2) ∧ RcAt W' w.heap.size (w.heap.size + 1) th (A0 ++ pre.map fun q => (ps[q.val]).1) ∧ Stay (w.heap.size + 1) Wl W' ∧ Below w.heap.size w W')
      (fun c (pre : List (Fin ps.length)) W' => (c = .exit 2 ∧ ∃ (ini : List (Fin ps.length)) (last : Fin ps.length), pre = ini ++ [last] ∧ (∀ q ∈ ini, ls th gt < (ps[q.val]).2) ∧ (ps[last.val]).2 ≤ ls th gt ∧ RcAt W' w.heap.size (w.heap.size + 1) th (A0 ++ ini.map fun q => (ps[q.val]).1)) ∧ Stay (w.heap.size + 1) Wl W' ∧ Below w.heap.size w W')
      (OwnFrom.and (ownFrom_pure _ (fun (pre : List (Fin ps.length)) => ∀ q ∈ pre, ls th gt < (ps[q.val]).2)) (OwnFrom.and (Own.from (rcAt_own w.heap.size (w.heap.size + 1) (th : Int) (fun (pre : List (Fin ps.length)) => A0 ++ pre.map fun q => (ps[q.val]).1)) _) (OwnFrom.and (stay_own _ Wl) (ownFrom_below (Nat.le_refl _) (by omega)))))
      (fun c => OwnFrom.and (Own.from (fun s A B row hs hg hr => by obtain ⟨hc, ini, last, e1, e2, e3, e4⟩ := hs; exact ⟨hc, ini, last, e1, e2, e3, rcAt_own w.heap.size (w.heap.size + 1) (th : Int) (fun (_ : Unit) => A0 ++ ini.map fun (q : Fin ps.length) => (ps[q.val]).1) () A B row e4 hg hr⟩) _) (OwnFrom.and (stay_own _ Wl) (ownFrom_below (Nat.le_refl _) (by omega))))
      ⟨(fun q hq => absurd hq (by simp)), (by simpa using HW4.out.2.1), Stay.refl _ _, HW4.out.2.2.2⟩
      (fun x a'' W' => ∃ Bx, Wl.heap.size ≤ Bx ∧ MidAt W' Bx 119 (plCell ps[x.val]) ∧ a'' = { tmps := #[.pointer (some ⟨P, 0, none⟩), .agg #[.int .i64 (th : Int), .int .i64 ek, .int .i64 eo, .bool ef], undef, .pointer (some ⟨w.heap.size, 0, none⟩), .slice none 0 0, .pointer (some ⟨w.heap.size + 1, 0, none⟩), u6, .pointer (some ⟨W.heap.size, 0, none⟩), .pointer (some ⟨Kb, 0, none⟩), u9, .pointer (some ⟨Bx, 0, none⟩), .pointer (some ⟨P, 0, none⟩), .pointer (some ⟨P, 0, none⟩), .pointer (some ⟨P, 16, none⟩), .slice (some ⟨g, 0, none⟩) gs.length vc, .int .i64 (gs.length : Int), .int .i64 (k : Int), .bool true, .pointer (some ⟨g, k * 5, none⟩), .agg #[.int .i64 (gt : Int), .int .i64 gk, .int .i64 go, .bool gf, .slice sa ps.length sc], .pointer (some ⟨W.heap.size, 0, none⟩), .pointer (some ⟨W.heap.size, 0, none⟩), .int .i64 (gt : Int), .pointer (some ⟨w.heap.size, 0, none⟩), .int .i64 (th : Int), .bool false, .bool false, .pointer (some ⟨W.heap.size, 0, none⟩), .agg #[.int .i64 (gt : Int), .int .i64 gk, .int .i64 go, .bool gf], .agg #[.int .i64 (th : Int), .int .i64 ek, .int .i64 eo, .bool ef], .bool true, .bool false, .bool false, .pointer (some ⟨P, 0, none⟩), .pointer (some ⟨w.heap.size, 0, none⟩), .int .i64 (th : Int), .pointer (some ⟨W.heap.size, 0, none⟩), .pointer (some ⟨W.heap.size, 0, none⟩), .int .i64 (gt : Int), .pointer (some ⟨P, 0, none⟩), .pointer (some ⟨P, 0, none⟩), .pointer (some ⟨P, th * 4, none⟩), .pointer (some ⟨P, th * 4 + gt, none⟩), .int .i64 (ls th gt : Int), .pointer (some ⟨W.heap.size, 4, none⟩), .slice sa ps.length sc, .func (.func 60) #[] #[.pointer (some ⟨Kb + 1, 0, none⟩)], .int .i64 (x.val : Int), .agg #[.int .i64 ((ps[x.val]).1 : Nat), .int .i64 ((ps[x.val]).2 : Nat)], u49, u50, u51, u52, u53, u54, u55, u56, u57, u58, u59, u60, u61, undef, undef, undef], defers := [] })
      (fun x a'' _ X Y row hs hg hr => by obtain ⟨Bx, h1, h2, h3⟩ := hs; exact ⟨Bx, h1, h2.keptRow hg (fun r e => (hr r e).2), h3⟩)
      ?assign ?body ?done ?stop
    case assign =>
      rintro l1 pre x W' K' ⟨hN, hR, hS, hB⟩ hK
      dsimp only [backP]
      gi_wp2
      refine hK _ _ ((KeepsOthers.alloc _ _).from _) ⟨(below_alloc1 W' _).mono hB.size, (below_alloc1 W' _).block (Kb + 1) (by have := hS.1; omega)⟩ ⟨hN, hR.later (below_alloc1 W' _), hS.trans (Stay.of_below (below_alloc1 W' _)), hB.trans ((below_alloc1 W' _).mono hB.size)⟩ ⟨W'.heap.size, hS.1, heap_alloc_new W' _, ?_⟩
      rfl
    case body =>
      rintro l1 pre x a'' W' hl ⟨r, hr⟩ ⟨hN, hR, hS, hB⟩ ⟨Bx, hBx, bX, rfl⟩ hlt2
      obtain ⟨lv, bL, ow⟩ := hR
      have hBsl : Kb + 1 < Wl.heap.size := by omega
      have q0 : W'.cell? ⟨Bx, 0, none⟩ = some (.int .i64 ((ps[x.val]).1 : Nat)) := MidAt.cell bX 0
      have q1 : W'.cell? ⟨Bx, 1, none⟩ = some (.int .i64 ((ps[x.val]).2 : Nat)) := MidAt.cell bX 1
      have kn : W'.cell? ⟨Kb, 0, none⟩ = some (.int .i64 (ls th gt)) := MidAt.cell (hS.mid HKN4.out (by have := HKL.out; have := HWs.out; omega) (by decide)) 0
      have HEB := Lib.hid (hS.box HW4.out.1 (by omega))
      obtain ⟨f0, f1, f2, f3⟩ := HEB.out.cells
      have lc := bL.cell
      have HNN := Lib.hid hN
      have HOW := Lib.hid ow
      have HBL := Lib.hid bL
      have HSS := Lib.hid hS
      have HBB := Lib.hid hB
      have hpl : pre.length ≤ 200 := by omega
      clear hN ow bL hS hB bX
      by_cases hle : (ps[x.val]).2 ≤ ls th gt
      · have hq3 : decide (((ps[x.val]).2 : Int) ≤ (ls th gt : Int)) = true := by simpa using hle
        gi_wp2
        exact ⟨(KeepsOthers.refl _).from _, ⟨rfl, pre, x, rfl, HNN.out, hle, ⟨lv, HBL.out, HOW.out⟩⟩, HSS.out, HBB.out⟩
      · have hq3 : decide (((ps[x.val]).2 : Int) ≤ (ls th gt : Int)) = false := by simpa using hle
        have HNX : Hid (∀ q ∈ pre ++ [x], ls th gt < (ps[q.val]).2) := by
          intro q hq
          rcases List.mem_append.1 hq with hq | hq
          · exact HNN.out q hq
          · rw [List.mem_singleton] at hq
            subst hq
            omega
        gi_wp2_with (gi_at_builtin; refine wpListIn_appendRc (w := W'.alloc _) rfl _ _ rfl w.heap.size lv (rcT th (A0 ++ pre.map fun q => (ps[q.val]).1)) rfl (HOW.out.alloc _) ⟨W'.heap.size, 0, none⟩ rfl ((ps[x.val]).1, (th : Int)) (cells_new W' (rcCell ((ps[x.val]).1, (th : Int))) _ _ rfl) (by unfold rcT; simp; omega) (by have := HBB.out.size; simp; omega) ?_; intro v' w1 h5 h6; obtain ⟨g', cap', e7, _, _⟩ := OwnRow.block h5 (by simp); rw [List.length_append, List.length_singleton] at e7; subst e7; obtain ⟨r1, r2, r3, r4, r5, r6⟩ := RcAt.more HBL.out HOW.out HBB.out.size (Nat.le_succ _) h5 h6)
        refine ⟨r3.from _, ⟨r4, ?_⟩, HNX.out, ?_, HSS.out.trans r2, HBB.out.trans r4⟩
        · have hne : Kb + 1 ≠ w.heap.size + 1 := by have := HKL.out; have := HWs.out; omega
          have k1 := HSS.out.2 (Kb + 1) _ HBS.out hne (fun cs fr e => by injection e with _ e2 _; revert e2; decide)
          have k2 := (HSS.out.trans r2).2 (Kb + 1) _ HBS.out hne (fun cs fr e => by injection e with _ e2 _; revert e2; decide)
          exact k2.trans k1.symm
        · show RcAt _ _ _ _ _
          rw [List.map_append, ← List.append_assoc]
          exact r1
    case done =>
      rintro D ys W' hD hys ⟨hN, hR, hS, hB⟩ hK
      have HRG := rcG_backs HPW.out hys (Nat.le_refl _) hN (fun h => absurd h (by omega))
      obtain ⟨v0, b0, _⟩ := HW4.out.2.1
      have HW5 : Hid (RcW w ⟨th, ek, eo, ef⟩ (rcL ls (gs.take (k + 1)) ⟨th, ek, eo, ef⟩) ({ target := .collected D, args := #[] } :: ds) W') := by
        show RcW _ _ _ _ _
        rw [HRW2.out, HRG]
        exact ⟨hS.box HW4.out.1 (by omega), hR, Marks.more HW4.out.2.2.1 (HW4.out.2.2.1.stay hS b0) hD (by omega) hK, hB⟩
      clear hN hR hS hB hys
      gi_wp2
      refine ⟨?_, ?measure⟩
      (repeat apply Exists.intro)
      refine ⟨⟨k + 1, HKX.out, by go_num, HW5⟩, ⟨⟨rfl, rfl, rfl, rfl, rfl, rfl⟩, rfl⟩⟩
      case measure => simp [intOf]; omega
    case stop =>
      rintro D c pre W' hD ⟨k1, hk1, hbk2⟩ ⟨⟨rfl, ini, last, rfl, h4, h5, hR⟩, hS, hB⟩ hK
      obtain ⟨k2, rfl, h6, h7⟩ := Backs.last hbk2
      have HRG := rcG_backs HPW.out h6 (by omega) h4 (fun h => by simpa only [← h7] using h5)
      obtain ⟨v0, b0, _⟩ := HW4.out.2.1
      have HW5 : Hid (RcW w ⟨th, ek, eo, ef⟩ (rcL ls (gs.take (k + 1)) ⟨th, ek, eo, ef⟩) ({ target := .collected D, args := #[] } :: ds) W') := by
        show RcW _ _ _ _ _
        rw [HRW2.out, HRG]
        exact ⟨hS.box HW4.out.1 (by omega), hR, Marks.more HW4.out.2.2.1 (HW4.out.2.2.1.stay hS b0) hD (by omega) hK, hB⟩
      clear h4 h5 hR hS hB hbk2
      gi_wp2
      refine ⟨?_, ?measure⟩
      (repeat apply Exists.intro)
      refine ⟨⟨k + 1, HKX.out, by go_num, HW5⟩, ⟨⟨rfl, rfl, rfl, rfl, rfl, rfl⟩, rfl⟩⟩
      case measure => simp [intOf]; omega

end Go.Proofs.Ytkjjbcgecnjniaa
