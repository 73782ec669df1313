/- The contracts of the document's Clocks, Before. -/
import Derived.Test.YthdfmndompfgaaaOrder
import Derived.Test.YthdfmndompfgaaaBefore
namespace Go.Proofs.Ythdfmndompfgaaa
open Go.RowKit

theorem OwnRow.otherB {T : Type} {w w' : World} {B g : Nat} {t : TypeId} {n : Nat} {f : T → List Value} {v : Value} {l : List T} (h : OwnRow w B t n f v l) (hne : v.ownBlock ≠ some g) (ho : Only g w w') : OwnRow w' B t n f v l := by
  obtain ⟨h1, ⟨h2, h3⟩ | ⟨g', cap', cur, h2, h3, h4, h5⟩⟩ := h
  · exact ⟨h1, .inl ⟨h2, h3⟩⟩
  · refine ⟨h1, .inr ⟨g', cap', cur, h2, h3, (ho.block g' (Array.getElem?_eq_some_iff.1 h4).1 ?_).trans h4, h5⟩⟩
    rintro rfl
    apply hne
    rw [h2]
    rfl
theorem OwnRow.neNew {T : Type} {w : World} {B : Nat} {t : TypeId} {n : Nat} {f : T → List Value} {v : Value} {l : List T} (h : OwnRow w B t n f v l) : v.ownBlock ≠ some w.heap.size := by
  intro e
  have := (World.ownsRow.lt h _ e).2
  omega

/-- A clock, of the first i places. -/
def clkP (l : List Ev) (k i : Nat) (t : Nat) : Nat := cnt (fun j => hb l j k && isT l t j) i
theorem clkP_zero (l : List Ev) (k t : Nat) : clkP l k 0 t = 0 := rfl
theorem clkP_all (l : List Ev) (k t : Nat) : clkP l k (k + 1) t = clk l k t := rfl
theorem clkP_skip {l : List Ev} {k i : Nat} (h : hb l i k = false) (t : Nat) : clkP l k (i + 1) t = clkP l k i t := by
  unfold clkP
  rw [cnt_succ, h]
  rfl
theorem clkP_add {l : List Ev} {k i th : Nat} (h : hb l i k = true) (hth : (evI l i).thread = th) (t : Nat) : clkP l k (i + 1) t = if t = th then clkP l k i th + 1 else clkP l k i t := by
  unfold clkP
  rw [cnt_succ, h, Bool.true_and]
  simp only [isT_iff, hth]
  by_cases e : t = th
  · subst e
    simp
  · rw [if_neg e, if_neg (by omega)]
    rfl
theorem clkP_bd (l : List Ev) (k i t : Nat) : clkP l k i t ≤ i := cnt_le_k _ _
/-- The first k clocks. -/
def firstC (l : List Ev) (k : Nat) : List (Nat → Nat) := (List.range k).map fun (i t : Nat) => clk l i t
theorem firstC_len (l : List Ev) (k : Nat) : (firstC l k).length = k := by simp [firstC]
theorem firstC_succ (l : List Ev) (k : Nat) : firstC l (k + 1) = firstC l k ++ [fun t : Nat => clk l k t] := by simp [firstC, List.range_succ]
theorem firstC_all {l : List Ev} (h : rightL l = true) : firstC l l.length = cks l := (cks_right h).symm
theorem infoC4 : (Try.prog.info? 26).map (fun i => (i.zero, i.size, i.bytes)) = some (some (.agg #[.int .i64 0, .int .i64 0, .int .i64 0, .int .i64 0]), 4, 32) := by kernel_rfl

/-- What Clocks holds while it counts. -/
def RefCk (W1 : World) (l : List Ev) (k gc : Nat) (v : Value) (c : Nat → Nat) (w' : World) : Prop :=
  MidAt w' gc 26 (ckCell c) ∧ OwnRow w' W1.heap.size 26 4 ckCell v (firstC l k) ∧ Below W1.heap.size W1 w'
theorem RefCk.add {W1 w1 : World} {l : List Ev} {k gc : Nat} {v : Value} {c d : Nat → Nat} (h : RefCk W1 l k gc v c w1) (hg : W1.heap.size ≤ gc) (hv : v.ownBlock ≠ some gc) {t : Nat} (ht : t < 4) (n : Nat) (hd : ∀ j, d j = if j = t then n else c j) :
    RefCk W1 l k gc v d (w1.setCell ⟨gc, t, none⟩ (.int .i64 (n : Int))) := by
  refine ⟨?_, h.2.1.otherB hv ((Only.refl _ _).setCell _ _), h.2.2.setCell (p := ⟨gc, t, none⟩) hg _⟩
  have h1 := h.1.set t (.int .i64 (n : Int))
  unfold ckCell at *
  rw [nums4_set _ _ ht] at h1
  rw [nums4_congr (d := fun t => (d t : Int)) (fun j _ => by rw [hd j]; split <;> rfl)] at h1
  exact h1
theorem RefCk.congr {W1 w1 : World} {l : List Ev} {k gc : Nat} {v : Value} {c d : Nat → Nat} (h : RefCk W1 l k gc v c w1) (hd : ∀ j, d j = c j) : RefCk W1 l k gc v d w1 := by
  rw [show d = c from funext hd]
  exact h

set_option maxRecDepth 100000 in
set_option maxHeartbeats 4000000 in
theorem refClocks_any (a : Option Addr) (cap : Nat) (l : List Ev) (w : World) (hl : EvsAt w a l) (hm : l.length ≤ 1000) :
    Calls Try.prog 10 #[.slice a l.length cap] w fun r w' => ∃ a' cap', r = .returned (.slice a' (cks l).length cap') ∧ RowAt w' a' 4 ckCell (cks l) ∧ Below w.heap.size w w' := by
  have HL := Lib.hid hl
  cases hr : rightL l
  · have HE := Lib.hid (cks_wrong hr)
    have HC := Lib.hid (rows_any a cap l w hl)
    rw [hr] at HC
    clear hl hr
    go_enter Try.func10, Try.ntmps10
    go_wp2_with fail
    refine HC.out.mono ?_
    rintro r w1 ⟨rfl, hbw⟩
    clear HC
    go_wp2
    go_ret
    exact ⟨none, 0, by rw [HE.out]; rfl, by rw [HE.out]; exact rowAt_nil _ _ _ _, hbw⟩
  · have HR := Lib.hid hr
    have HC := Lib.hid (rows_any a cap l w hl)
    rw [hr] at HC
    clear hl hr
    go_enter Try.func10, Try.ntmps10
    go_wp2_with fail
    refine HC.out.mono ?_
    rintro r w1 ⟨rfl, hbw⟩
    clear HC
    go_wp2_with fail
    refine (order_any a cap l w1 (HL.out.later hbw) hm).mono ?_
    rintro r W1 ⟨a0, cap0, rows, rfl, hrow, hord, hb1⟩
    have HO := Lib.hid (And.intro hrow (And.intro hord (hbw.trans (hb1.mono hbw.size))))
    clear hrow hord hb1 hbw
    go_wp2_with fail
    go_loopw [3, 5] (fun v i wr => ∃ k : Nat, k ≤ l.length ∧ i = .int .i64 k ∧ Hid (OwnRow wr W1.heap.size 26 4 ckCell v (firstC l k) ∧ Below W1.heap.size W1 wr)) (fun _ i _ => l.length - (intOf i).toNat)
    case atStart => exact ⟨0, Nat.zero_le _, rfl, ownRow_nil _ _ _ _ _, Below.refl _ _⟩
    case round =>
      obtain ⟨k, hk, rfl, HW⟩ := hrel
      obtain ⟨a', cap', rfl, hrow, _⟩ := HW.out.1.form ckCell_len (by rw [firstC_len]; omega)
      by_cases hlt : k < l.length
      · have hbW := HW.out.2
        have hg := hbW.size
        have HV := Lib.hid HW.out.1.neNew
        have HS : Hid (RefCk W1 l k wr.heap.size (.slice a' (firstC l k).length cap') (clkP l k 0) (wr.alloc (.cells #[.int .i64 0, .int .i64 0, .int .i64 0, .int .i64 0] 26))) := by
          have hba := below_alloc1 wr (.cells #[.int .i64 0, .int .i64 0, .int .i64 0, .int .i64 0] 26)
          exact ⟨heap_alloc_new _ _, HW.out.1.later hba, hbW.trans (hba.mono hg)⟩
        clear HW hrow
        go_wp2
        generalize hGC : wr.heap.size = gc at *
        go_loopw [7] (fun i wr => ∃ q : Nat, q ≤ k + 1 ∧ i = .int .i64 q ∧ Hid (RefCk W1 l k gc (.slice a' (firstC l k).length cap') (clkP l k q) wr)) (fun i _ => k + 1 - (intOf i).toNat)
        case atStart => exact ⟨0, by omega, rfl, HS⟩
        case round =>
          clear HS
          obtain ⟨q, hq, rfl, HS⟩ := hrel
          have hbq := HS.out.2.2
          by_cases hqk : q ≤ k
          · have hql : q < l.length := by omega
            obtain ⟨g, hrk, hck, _⟩ := HO.out.2.1.get hlt
            have hkr : k < rows.length := (List.getElem?_eq_some_iff.1 hrk).1
            obtain ⟨b0, o0, rfl, hrc⟩ := HO.out.1.2 (by intro e; simp [e] at hkr)
            have hc1 := hrc k hkr 0 (.slice (some ⟨g, 0, none⟩) l.length l.length) (by rw [← (List.getElem?_eq_some_iff.1 hrk).2]; rfl)
            rw [Nat.mul_one, Nat.add_zero] at hc1
            have d1 := cell_later hbq hc1
            have d2 := cell_later hbq (hck q hql)
            clear hrk hck hrc hc1 hkr
            cases hV : hb l q k
            · rw [hV] at d2
              have HS2 := Lib.hid (HS.out.congr (clkP_skip hV))
              clear HS hV
              go_wp2
              go_roundw
              case rel => exact ⟨q + 1, by omega, by go_num, HS2⟩
              case measure => simp [intOf]; omega
            · rw [hV] at d2
              obtain ⟨b, o, rfl, t0, _⟩ := HL.out.one hql
              have hth := rightEv_bd (e := evI l q) (by rw [evI_get hql]; exact rightL_get HR.out hql)
              obtain ⟨th, hth2⟩ : ∃ th : Nat, (evI l q).thread = th := ⟨(evI l q).thread.toNat, by omega⟩
              have hth4 : th < 4 := by omega
              rw [hth2] at t0
              have d0 := cell_later hbq (cell_later HO.out.2.2 t0)
              have hcell := HS.out.1.cell th
              unfold ckCell at hcell
              rw [nums4_get _ hth4] at hcell
              have hfr := HS.out.1.frozen th
              have HS2 : Hid (RefCk W1 l k gc (.slice a' (firstC l k).length cap') (clkP l k (q + 1)) (wr.setCell ⟨gc, th, none⟩ (.int .i64 ((clkP l k q th : Int) + 1)))) := HS.out.add (d := clkP l k (q + 1)) hg HV.out hth4 (clkP l k q th + 1) (fun j => clkP_add hV hth2 j)
              have hbd := clkP_bd l k q th
              have hti : (th : Int) < 4 := by omega
              have hti0 : (0 : Int) ≤ th := by omega
              clear HS hV hth hth2 t0
              go_wp2
              go_roundw
              case rel => exact ⟨q + 1, by omega, by go_num, HS2⟩
              case measure => simp [intOf]; omega
          · obtain rfl : q = k + 1 := by omega
            have HS2 : Hid (RefCk W1 l k gc (.slice a' (firstC l k).length cap') (fun t : Nat => clk l k t) wr) := HS.out.congr (fun j => (clkP_all l k j).symm)
            clear HS
            obtain ⟨c0, c1, c2, c3⟩ := MidAt.four HS2.out.1
            have hqm2 : k < k + 1 := by omega
            have hsz := hbq.size
            go_wp2_with (at_builtin; refine wp_appendR (f := ckCell) (n := 4) 24 26 32 (.agg #[.int .i64 0, .int .i64 0, .int .i64 0, .int .i64 0]) Try.underlying24 infoC4 rfl (by omega) (by omega) ckCell_len rfl (.tmp 41) (.tmp 43) rfl W1.heap.size _ (firstC l k) rfl (OwnRow.alloc HS2.out.2.1 _) ⟨wr.heap.size, 0, none⟩ rfl (fun t : Nat => clk l k t) (ckCell_one _) (cells_new wr (ckCell (fun t : Nat => clk l k t)) _ _ rfl) (by rw [firstC_len]; omega) (by simp; omega) ?_; intro v1 w2 hown2 hb3 hgrow)
            have HP : Hid (OwnRow w2 W1.heap.size 26 4 ckCell v1 (firstC l (k + 1))) := by show OwnRow _ _ _ _ _ _ _; rw [firstC_succ]; exact hown2
            have hb4 := (hbq.alloc hsz _).trans hb3
            clear hgrow hb3 HS2 hown2
            go_roundw
            case rel => exact ⟨k + 1, by omega, by go_num, HP.out, hb4⟩
            case measure => simp [intOf]; omega
      · obtain rfl : k = l.length := by omega
        have HF : Hid (∃ a cap, Value.slice a' (firstC l l.length).length cap' = .slice a (cks l).length cap ∧ RowAt wr a 4 ckCell (cks l) ∧ Below w.heap.size w wr) := ⟨a', cap', by rw [firstC_all HR.out], by rw [← firstC_all HR.out]; exact hrow, HO.out.2.2.trans (HW.out.2.mono HO.out.2.2.size)⟩
        clear hrow HW
        go_wp2
        go_ret
        obtain ⟨a1, cap1, e, h1, h2⟩ := HF.out
        exact ⟨a1, cap1, congrArg Ending.returned e, h1, h2⟩

end Go.Proofs.Ythdfmndompfgaaa
