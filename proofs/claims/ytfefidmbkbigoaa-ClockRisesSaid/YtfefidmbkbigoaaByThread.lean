/- The contract of clock's byThread: four rows of marks of the call's own, side by side. -/
import Derived.Test.YtfefidmbkbigoaaClocks
import Derived.Test.YtfefidmbkbigoaaNumber
import Derived.Deep.RegionLaw
namespace Go.Proofs.Ytfefidmbkbigoaa
open Go.RowKit

/-- The marks of a thread's events among the first k. -/
def thrM (l : List Ev) (k : Nat) (t : Nat) : List Mk := ((List.range k).filter (isT l t)).map (mkOf l)
theorem thrM_zero (l : List Ev) (t : Nat) : thrM l 0 t = [] := rfl
theorem thrM_succ (l : List Ev) (k t : Nat) : thrM l (k + 1) t = thrM l k t ++ if (evI l k).thread = (t : Int) then [mkOf l k] else [] := by
  unfold thrM
  rw [List.range_succ, List.filter_append, List.map_append]
  congr 1
  by_cases h : (evI l k).thread = (t : Int)
  · rw [if_pos h]
    have : isT l t k = true := isT_iff.2 h
    simp [this]
  · rw [if_neg h]
    have : isT l t k = false := by rw [Bool.eq_false_iff]; intro e; exact h (isT_iff.1 e)
    simp [this]
theorem thrM_len (l : List Ev) (k t : Nat) : (thrM l k t).length ≤ k := by
  unfold thrM
  rw [List.length_map]
  exact Nat.le_trans (List.length_filter_le _ _) (by simp)

/-- Four values side by side. -/
def vals4 (vs : Nat → Value) : List Value := [vs 0, vs 1, vs 2, vs 3]
theorem vals4_get (vs : Nat → Value) {t : Nat} (h : t < 4) : (vals4 vs)[t]? = some (vs t) := by
  rcases (by omega : t = 0 ∨ t = 1 ∨ t = 2 ∨ t = 3) with rfl | rfl | rfl | rfl <;> rfl
theorem vals4_set (vs : Nat → Value) (v : Value) {t : Nat} (h : t < 4) : (vals4 vs).set t v = vals4 (fun j => if j = t then v else vs j) := by
  rcases (by omega : t = 0 ∨ t = 1 ∨ t = 2 ∨ t = 3) with rfl | rfl | rfl | rfl <;> rfl

/-- Four rows of marks, each in a block of its own. -/
def Own4 (w : World) (B : Nat) (vs : Nat → Value) (ms : Nat → List Mk) : Prop :=
  (∀ t, t < 4 → OwnM w B (vs t) (ms t)) ∧ ∀ s t, s < 4 → t < 4 → s ≠ t → (vs s).ownBlock = none ∨ (vs s).ownBlock ≠ (vs t).ownBlock
theorem own4_nil (w : World) (B : Nat) (l : List Ev) : Own4 w B (fun _ => .slice none 0 0) (fun t => thrM l 0 t) :=
  ⟨fun _ _ => ownRow_nil _ _ _ _ _, fun _ _ _ _ _ => .inl rfl⟩
theorem Own4.later {w w' : World} {B : Nat} {vs : Nat → Value} {ms : Nat → List Mk} (h : Own4 w B vs ms) (hb : Below w.heap.size w w') : Own4 w' B vs ms := ⟨fun t ht => (h.1 t ht).later hb, h.2⟩
theorem Own4.only {w w' : World} {B g : Nat} {vs : Nat → Value} {ms : Nat → List Mk} (h : Own4 w B vs ms) (ho : Only g w w') (hg : g < B) : Own4 w' B vs ms := ⟨fun t ht => (h.1 t ht).only ho hg, h.2⟩
theorem Own4.add {w w' : World} {B : Nat} {vs : Nat → Value} {ms ms' : Nat → List Mk} (h : Own4 w B vs ms) {t : Nat} (ht : t < 4) {v' : Value} (h1 : OwnM w' B v' (ms' t)) (hg : w.grownBy w' (vs t).ownBlock)
    (hv : v'.ownBlock = (vs t).ownBlock ∨ v'.ownBlock = some w.heap.size) (hm : ∀ s, s ≠ t → ms' s = ms s) : Own4 w' B (fun s => if s = t then v' else vs s) ms' := by
  have hlt : ∀ s, s < 4 → (vs s).ownBlock ≠ some w.heap.size := fun s hs e => by have := (World.ownsRow.lt (h.1 s hs) _ e).2; omega
  refine ⟨fun s hs => ?_, fun s r hs hr hsr => ?_⟩
  · by_cases e : s = t
    · subst e
      simpa using h1
    · simp only [if_neg e]
      rw [hm s e]
      exact World.ownsRow.kept (h.1 s hs) hg (h.2 s t hs ht e)
  · by_cases e : s = t
    · subst e
      have e2 : ¬ r = s := fun e => hsr e.symm
      simp only [if_pos, if_neg e2]
      rcases hv with hv | hv
      · rw [hv]; exact h.2 s r hs hr hsr
      · right; rw [hv]; exact fun e => hlt r hr e.symm
    · simp only [if_neg e]
      by_cases e2 : r = t
      · subst e2
        simp only [if_pos]
        rcases hv with hv | hv
        · rw [hv]; exact h.2 s r hs hr hsr
        · right; rw [hv]; exact hlt s hs
      · simp only [if_neg e2]; exact h.2 s r hs hr hsr

/-- What byThread holds in memory between two rounds. -/
def ByW (w W1 : World) (l : List Ev) (k : Nat) (vs : Nat → Value) (wr : World) : Prop :=
  MidAt wr w.heap.size 55 (vals4 fun _ => .slice none 0 0) ∧ MidAt wr (w.heap.size + 1) 55 (vals4 vs) ∧ Own4 wr W1.heap.size vs (thrM l k) ∧ Below w.heap.size w wr ∧ W1.heap.size ≤ wr.heap.size ∧ ∀ b, b < W1.heap.size → b ≠ w.heap.size + 1 → wr.heap[b]? = W1.heap[b]?
theorem MidAt.below {w w' : World} {B g : Nat} {t : TypeId} {xs : List Value} (h : MidAt w g t xs) (hb : Below B w w') (hg : g < B) : MidAt w' g t xs := (hb.block g hg).trans h

theorem ByW.step {w W1 W2 Wa w4 : World} {l : List Ev} {k th : Nat} {vs : Nat → Value} {v3 : Value} {m : Mk} (h : ByW w W1 l k vs W2) (hba : Below W2.heap.size W2 Wa) (hth : th < 4) (hown4 : OwnM w4 W1.heap.size v3 (thrM l k th ++ [m])) (hb5 : Below W1.heap.size Wa w4)
    (hgrow : Wa.grownBy w4 (vs th).ownBlock) (hwhere : v3.ownBlock = (vs th).ownBlock ∨ v3.ownBlock = some Wa.heap.size) (hm : m = mkOf l k) (htm : ∀ t, thrM l (k + 1) t = thrM l k t ++ if th = t then [mkOf l k] else []) (hg : w.heap.size + 1 < W1.heap.size) :
    ByW w W1 l (k + 1) (fun s => if s = th then v3 else vs s) (w4.setCell ⟨w.heap.size + 1, th, none⟩ v3) := by
  have ho : Only (w.heap.size + 1) w4 (w4.setCell ⟨w.heap.size + 1, th, none⟩ v3) := (Only.refl _ _).setCell _ _
  have h2 := h.2.2.2.2.1
  have h3 := hba.size
  have h4 := hb5.size
  refine ⟨(((h.1.later hba).below hb5 (by omega)).only ho (by omega)), ?_, ?_, (h.2.2.2.1.trans ((hba.mono h.2.2.2.1.size).trans (hb5.mono (by omega)))).setCell (p := ⟨w.heap.size + 1, th, none⟩) (show w.heap.size ≤ w.heap.size + 1 by omega) _, by simp; omega, fun b hb hne => ?_⟩
  · rw [← vals4_set vs v3 hth]
    exact ((h.2.1.later hba).below hb5 hg).set th v3
  · refine Own4.only (g := w.heap.size + 1) ?_ ho hg
    refine Own4.add (ms := thrM l k) (h.2.2.1.later hba) hth ?_ hgrow hwhere (fun s hs => ?_)
    · rw [htm, if_pos rfl, ← hm]
      exact hown4
    · rw [htm, if_neg (fun e => hs e.symm), List.append_nil]
  · rw [ho.block b (by omega) hne, hb5.block b hb, hba.block b (by omega)]
    exact h.2.2.2.2.2 b hb hne
theorem ByW.alloc {w W1 wr : World} {l : List Ev} {k : Nat} {vs : Nat → Value} (h : ByW w W1 l k vs wr) (o : Obj) : ByW w W1 l k vs (wr.alloc o) := by
  have hba := below_alloc1 wr o
  have h2 := h.2.2.2.2.1
  exact ⟨h.1.later hba, h.2.1.later hba, h.2.2.1.later hba, h.2.2.2.1.trans (hba.mono h.2.2.2.1.size), by simp; omega, fun b hb hne => (hba.block b (by omega)).trans (h.2.2.2.2.2 b hb hne)⟩
theorem not_vals {w : World} {g b o : Nat} {t : TypeId} {n : Int} (h : MidAt w g t (vals4 fun _ => .slice none 0 0)) (hc : w.cell? ⟨b, o, none⟩ = some (.int .i64 n)) : b ≠ g := by
  rintro rfl
  rw [h.cell] at hc
  have := List.getElem?_eq_some_iff.1 hc
  obtain ⟨h1, h2⟩ := this
  simp [vals4] at h1
  rcases (by omega : o = 0 ∨ o = 1 ∨ o = 2 ∨ o = 3) with rfl | rfl | rfl | rfl <;> simp [vals4] at h2

/-- What byThread answers: four rows to be read. -/
def ByR (l : List Ev) (w : World) (r : Ending) (w' : World) : Prop :=
  ∃ (ads : Nat → Option Addr) (cs : Nat → Nat), r = .returned (.agg #[.slice (ads 0) (thrM l l.length 0).length (cs 0), .slice (ads 1) (thrM l l.length 1).length (cs 1), .slice (ads 2) (thrM l l.length 2).length (cs 2), .slice (ads 3) (thrM l l.length 3).length (cs 3)]) ∧
    (∀ t, t < 4 → RowAt w' (ads t) 8 mkCell (thrM l l.length t)) ∧ Below w.heap.size w w'

set_option maxRecDepth 100000 in
set_option maxHeartbeats 4000000 in
theorem byThread_any (a : Option Addr) (cap : Nat) (l : List Ev) (w : World) (hl : EvsAt w a l) (hm : l.length ≤ 1000) (hr : rightL l = true) :
    Calls Try.prog 34 #[.slice a l.length cap] w (ByR l w) := by
  have HL := Lib.hid hl
  have HR := Lib.hid hr
  have HZ : Hid (∃ W0, W0 = (w.alloc (.cells #[.slice none 0 0, .slice none 0 0, .slice none 0 0, .slice none 0 0] 55)).alloc (.cells #[.slice none 0 0, .slice none 0 0, .slice none 0 0, .slice none 0 0] 55) ∧
      MidAt W0 w.heap.size 55 (vals4 fun _ => .slice none 0 0) ∧ MidAt W0 (w.heap.size + 1) 55 (vals4 fun _ => .slice none 0 0) ∧ Below w.heap.size w W0) :=
    ⟨_, rfl, heap_alloc2_old w _ _, heap_alloc2_new w _ _, below_alloc2 w _ _⟩
  clear hl hr
  go_enter Try.func34, Try.ntmps34
  go_wp2_with fail
  obtain ⟨W0, hW0, hz1, hz2, hz3⟩ := HZ.out
  rw [← hW0]
  have HZ1 := Lib.hid (And.intro hz1 hz2)
  clear HZ hW0 hz1 hz2
  refine (clocks_any a cap l W0 (HL.out.later hz3) hm).mono ?_
  rintro r W1 ⟨a', cap', rfl, hrow, hb1⟩
  have H0 : Hid (ByW w W1 l 0 (fun _ => .slice none 0 0) W1) := ⟨HZ1.out.1.later hb1, HZ1.out.2.later hb1, own4_nil _ _ _, hz3.trans (hb1.mono hz3.size), Nat.le_refl _, fun _ _ _ => rfl⟩
  have HZ2 := Lib.hid H0.out.2.1
  have HCK := Lib.hid hrow
  have hB1 : w.heap.size + 1 < W1.heap.size := MidAt.lt H0.out.2.1
  have HCL := Lib.hid (cks_len HR.out)
  clear HZ1 hrow hb1 hz3
  have hcl1 : (cks l).length ≤ l.length := Nat.le_of_eq HCL.out
  have hcl2 : l.length ≤ (cks l).length := Nat.le_of_eq HCL.out.symm
  go_wp2_with fail
  go_loopw [10] (fun i wr => ∃ (k : Nat) (vs : Nat → Value), k ≤ l.length ∧ i = .int .i64 k ∧ Hid (ByW w W1 l k vs wr)) (fun i _ => l.length - (intOf i).toNat)
  case atStart => exact ⟨0, _, Nat.zero_le _, rfl, H0⟩
  case round =>
    clear H0
    obtain ⟨k, vs, hk, rfl, HW⟩ := hrel
    by_cases hlt : k < l.length
    · have hkc : k < (cks l).length := by omega
      have hbwr := HW.out.2.2.2.1
      obtain ⟨b, o, rfl, t0, t1, t2, t3⟩ := HL.out.one hlt
      obtain ⟨b2, o2, rfl, hcell⟩ := HCK.out.2 (by intro e; rw [e] at hkc; simp at hkc)
      have hgk := cks_get HR.out hlt
      have cc := hcell k hkc 0 (.int .i64 (clk l k 0)) (by rw [hgk]; rfl)
      have hne := not_vals HZ2.out cc
      have hsame : ∀ o, wr.cell? ⟨b2, o, none⟩ = W1.cell? ⟨b2, o, none⟩ := fun o => World.cell?_of_block (HW.out.2.2.2.2.2 b2 (cell_block cc) hne)
      have c0 := (hsame _).trans cc
      have c1 := (hsame _).trans (hcell k hkc 1 (.int .i64 (clk l k 1)) (by rw [hgk]; rfl))
      have c2 := (hsame _).trans (hcell k hkc 2 (.int .i64 (clk l k 2)) (by rw [hgk]; rfl))
      have c3 := (hsame _).trans (hcell k hkc 3 (.int .i64 (clk l k 3)) (by rw [hgk]; rfl))
      clear hsame cc hne
      rw [Nat.add_zero] at c0
      have hba : Below wr.heap.size wr (wr.alloc (.cells #[.int .i64 (clk l k 0), .int .i64 (clk l k 1), .int .i64 (clk l k 2), .int .i64 (clk l k 3)] 34)) := below_alloc1 _ _
      have hbwr2 := hbwr.trans (hba.mono hbwr.size)
      have d0 := cell_later hbwr2 t0
      have d1 := cell_later hbwr2 t1
      have d2 := cell_later hbwr2 t2
      have d3 := cell_later hbwr2 t3
      have HBX : Hid (MidAt (wr.alloc (.cells #[.int .i64 (clk l k 0), .int .i64 (clk l k 1), .int .i64 (clk l k 2), .int .i64 (clk l k 3)] 34)) wr.heap.size 34 (nums4 fun t => (clk l k t : Nat))) := heap_alloc_new _ _
      have HW2 := Lib.hid (HW.out.alloc (.cells #[.int .i64 (clk l k 0), .int .i64 (clk l k 1), .int .i64 (clk l k 2), .int .i64 (clk l k 3)] 34))
      have hth := rightEv_bd (e := evI l k) (by rw [evI_get hlt]; exact rightL_get HR.out hlt)
      obtain ⟨th, hth2⟩ : ∃ th : Nat, (evI l k).thread = th := ⟨(evI l k).thread.toNat, by omega⟩
      have hth4 : th < 4 := by omega
      have hti : (th : Int) < 4 := by omega
      have hti0 : (0 : Int) ≤ th := by omega
      have HMK : Hid (mkOf l k = ⟨⟨th, (evI l k).kind, (evI l k).obj, (evI l k).fail⟩, fun t : Nat => clk l k t⟩) := by show _ = _; unfold mkOf; rw [← hth2]
      have HTM : Hid (∀ t, thrM l (k + 1) t = thrM l k t ++ if th = t then [mkOf l k] else []) := fun t => by
        rw [thrM_succ, hth2]
        by_cases e : th = t
        · rw [if_pos e, if_pos (by omega)]
        · rw [if_neg e, if_neg (by omega)]
      rw [hth2] at d0
      clear t0 t1 t2 t3 hth hth2 hcell hgk HW hba hbwr
      generalize (evI l k).kind = xk at *
      generalize (evI l k).obj = xo at *
      generalize (evI l k).fail = xf at *
      go_wp2_with fail
      clear c0 c1 c2 c3
      generalize (wr.alloc (.cells #[.int .i64 (clk l k 0), .int .i64 (clk l k 1), .int .i64 (clk l k 2), .int .i64 (clk l k 3)] 34)) = W2 at *
      obtain ⟨e0, e1, e2, e3⟩ := HBX.out.four
      have q0 := HW2.out.2.1.cell th
      rw [vals4_get _ hth4] at q0
      have q1 := cell_later (below_alloc1 W2 (.cells #[.int .i64 (th : Int), .int .i64 xk, .int .i64 xo, .bool xf, .int .i64 (clk l k 0), .int .i64 (clk l k 1), .int .i64 (clk l k 2), .int .i64 (clk l k 3)] 59)) q0
      have hgg : w.heap.size + 1 < W1.heap.size := hB1
      go_region_law ((refine step_appendAt (f := mkCell) (n := 8) 54 59 64 (.agg #[.int .i64 0, .int .i64 0, .int .i64 0, .bool false, .int .i64 0, .int .i64 0, .int .i64 0, .int .i64 0]) Try.underlying54 infoMark (by rfl) (by omega) (by omega) mkCell_len (by rfl) _ _ (by rfl) W1.heap.size _ (thrM l k th) (by rfl) (OwnRow.alloc (HW2.out.2.2.1.1 th hth4) _) ⟨W2.heap.size, 0, none⟩ (by rfl) ⟨⟨th, xk, xo, xf⟩, fun t : Nat => clk l k t⟩ (mkCell_one _) (cells_new W2 (mkCell ⟨⟨th, xk, xo, xf⟩, fun t : Nat => clk l k t⟩) _ _ rfl) (by have := thrM_len l k th; omega) (by simp; have := HW2.out.2.2.2.2.1; omega) ?_; intro v3 w4 hown4 hb5 hgrow hwhere; obtain ⟨g3, cap3, hv3, _, _⟩ := OwnRow.block hown4 (by simp); rw [List.length_append, List.length_singleton] at hv3; subst hv3; have HF := Lib.hid (ByW.step HW2.out (below_alloc1 W2 _).drew hth4 hown4 hb5 hgrow hwhere HMK.out.symm HTM.out hgg); have hq4 : w4.cell? ⟨w.heap.size + 1, th, none⟩ = some (vs th) := (hb5.cell (p := ⟨w.heap.size + 1, th, none⟩) hgg).trans (cell_later (below_alloc1 W2 _) q0); have hf4 : w4.frozen? ⟨w.heap.size + 1, th, none⟩ = false := (hb5.frozen (p := ⟨w.heap.size + 1, th, none⟩) hgg).trans ((HW2.out.2.1.later (below_alloc1 W2 _)).frozen th)))
      all_goals
        go_wp2
        go_roundw
        case rel => exact ⟨k + 1, _, by omega, by go_num, HF⟩
        case measure => simp [intOf]; omega
    · obtain rfl : k = l.length := by omega
      have ho : Only w.heap.size wr ((((wr.setCell ⟨w.heap.size, 0, none⟩ (vs 0)).setCell ⟨w.heap.size, 1, none⟩ (vs 1)).setCell ⟨w.heap.size, 2, none⟩ (vs 2)).setCell ⟨w.heap.size, 3, none⟩ (vs 3)) := ((((Only.refl _ _).setCell _ _).setCell _ _).setCell _ _).setCell _ _
      have HO4 := Lib.hid (HW.out.2.2.1.only ho (by omega))
      have HBF := Lib.hid (HW.out.2.2.2.1.trans (ho.below (Nat.le_refl _) HW.out.2.2.2.1.size))
      have z0 := HW.out.1.cell 0
      have z1 := HW.out.1.cell 1
      have z2 := HW.out.1.cell 2
      have z3 := HW.out.1.cell 3
      have f0 := HW.out.1.frozen 0
      have f1 := HW.out.1.frozen 1
      have f2 := HW.out.1.frozen 2
      have f3 := HW.out.1.frozen 3
      have y0 := HW.out.2.1.cell 0
      have y1 := HW.out.2.1.cell 1
      have y2 := HW.out.2.1.cell 2
      have y3 := HW.out.2.1.cell 3
      rw [vals4_get _ (by omega)] at z0 z1 z2 z3 y0 y1 y2 y3
      clear ho HW
      have hfm : ∀ t, ∃ a c, t < 4 → vs t = .slice a (thrM l l.length t).length c := fun t => by
        by_cases ht : t < 4
        · obtain ⟨a, c, h1, _⟩ := OwnRow.form (HO4.out.1 t ht) mkCell_len (by have := thrM_len l l.length t; omega)
          exact ⟨a, c, fun _ => h1⟩
        · exact ⟨none, 0, fun h => absurd h ht⟩
      obtain ⟨ads, hads⟩ := Classical.skolem.1 hfm
      obtain ⟨cs, hcs⟩ := Classical.skolem.1 hads
      have HRW : Hid (∀ t, t < 4 → RowAt ((((wr.setCell ⟨w.heap.size, 0, none⟩ (vs 0)).setCell ⟨w.heap.size, 1, none⟩ (vs 1)).setCell ⟨w.heap.size, 2, none⟩ (vs 2)).setCell ⟨w.heap.size, 3, none⟩ (vs 3)) (ads t) 8 mkCell (thrM l l.length t)) := by
        intro t ht
        obtain ⟨a, c, h1, h2, _⟩ := OwnRow.form (HO4.out.1 t ht) mkCell_len (by have := thrM_len l l.length t; omega)
        rw [hcs t ht] at h1
        have e : ads t = a := by injection h1
        rw [e]
        exact h2
      have h0 := hcs 0 (by omega)
      have h1 := hcs 1 (by omega)
      have h2 := hcs 2 (by omega)
      have h3 := hcs 3 (by omega)
      rw [h0, h1, h2, h3] at HRW HBF
      rw [h0] at y0
      rw [h1] at y1
      rw [h2] at y2
      rw [h3] at y3
      clear hcs hads hfm HO4 h0 h1 h2 h3
      go_wp2
      refine bodyPost_ret (v := .agg #[.slice (ads 0) (thrM l l.length 0).length (cs 0), .slice (ads 1) (thrM l l.length 1).length (cs 1), .slice (ads 2) (thrM l l.length 2).length (cs 2), .slice (ads 3) (thrM l l.length 3).length (cs 3)]) ?_ rfl ⟨ads, cs, rfl, HRW.out, HBF.out⟩
      simp [results, Try.results34, go_sem, z0, z1, z2, z3]

end Go.Proofs.Ytfefidmbkbigoaa
