import Derived.Deep.RegionLaw
import Derived.Deep.RegionHeld3
import Derived.Laws.OwnMore
import Derived.Test.YtnldkmcijmbhcaaGreatPk03
import Derived.Test.YtnldkmcijmbhcaaGreatPk04
import Derived.Test.YtnldkmcijmbhcaaGreatPk11
import Derived.Test.YtnldkmcijmbhcaaGreatPk12

/- The contract of race's add. -/
namespace Go.Proofs.YtnldkmcijmbhcaaGreat
open Go.RowKit

/-- One place more, in a region whose order is drawn. -/
theorem step_appendPl {w : World} {ops : Array Oper} {o : Oper} {a : Act} {K : Act → World → Prop} {Q : Exit → Act → World → Prop} {E : Prop} (hgd : o.guard = none) (s x : Operand)
    (ho : o.op = .call { callee := .builtin .append, args := #[s, x], argTypes := #[158, 158] }) (B : Nat) (v : Value) (l : List (Nat × Nat)) (hs : a.eval s = v) (hown : OwnRow w B 157 2 plCell v l)
    (ad : Addr) (hx : a.eval x = .slice (some ad) 1 1) (e : Nat × Nat) (hnews : ∀ j u, (plCell e)[j]? = some u → w.cell? (ad.add j) = some u) (hlen : l.length ≤ 1000000) (hB : B ≤ w.heap.size)
    (h : ∀ v' w', OwnRow w' B 157 2 plCell v' (l ++ [e]) → Below B w w' → w.grownBy w' v.ownBlock → (v'.ownBlock = v.ownBlock ∨ v'.ownBlock = some w.heap.size) → K (a.put o.dst v') w') : if Region.wanted o (yielded ops a.tmps) = true then Oper.wp Tryz.prog o a w K Q else E :=
  step_appendAt 158 157 16 (.agg #[.int .i64 0, .int .i64 0]) Tryz.underlying158 infoPl rfl (by omega) (by omega) plCell_len hgd s x ho B v l hs hown ad hx e (plCell_one _) hnews hlen hB h
/-- One unlike event more, in a region whose order is drawn. -/
theorem step_appendGp {w : World} {ops : Array Oper} {o : Oper} {a : Act} {K : Act → World → Prop} {Q : Exit → Act → World → Prop} {E : Prop} (hgd : o.guard = none) (s x : Operand)
    (ho : o.op = .call { callee := .builtin .append, args := #[s, x], argTypes := #[120, 120] }) (B : Nat) (v : Value) (l : List (Ev × Sp)) (hs : a.eval s = v) (hown : OwnRow w B 160 5 gpCell v l)
    (ad : Addr) (hx : a.eval x = .slice (some ad) 1 1) (e : Ev × Sp) (hnews : ∀ j u, (gpCell e)[j]? = some u → w.cell? (ad.add j) = some u) (hlen : l.length ≤ 1000000) (hB : B ≤ w.heap.size)
    (h : ∀ v' w', OwnRow w' B 160 5 gpCell v' (l ++ [e]) → Below B w w' → w.grownBy w' v.ownBlock → (v'.ownBlock = v.ownBlock ∨ v'.ownBlock = some w.heap.size) → K (a.put o.dst v') w') : if Region.wanted o (yielded ops a.tmps) = true then Oper.wp Tryz.prog o a w K Q else E :=
  step_appendAt 120 160 56 (.agg #[.int .i64 0, .int .i64 0, .int .i64 0, .bool false, .slice none 0 0]) Tryz.underlying120 infoGp rfl (by omega) (by omega) gpCell_len hgd s x ho B v l hs hown ad hx e (gpCell_one _) hnews hlen hB h
/-- All that is known behind a place more. -/
theorem PastM.put_res {w wa : World} {P B g N cap k M : Nat} {cs : List (Nat → Nat)} {xs : List (Ev × Sp)} {gs : List Gp} {p : Nat × Nat} {u0 u1 : Value} (h : PastM w P B cs (.slice (some ⟨g, 0, none⟩) N cap) xs gs) (hba : Below w.heap.size w wa) (hk : k < xs.length) (hk2 : k < gs.length) (_ : M ≠ P)
    (hq0 : MidAt w M 157 [u0, u1]) (hMB : (spV xs[k].2).ownBlock ≠ some M) (v3 : Value) (w4 : World)
    (ho : OwnRow w4 B 157 2 plCell v3 (gs[k].2 ++ [p])) (hb5 : Below B wa w4) (hgrow : wa.grownBy w4 (spV xs[k].2).ownBlock) (hwhere : v3.ownBlock = (spV xs[k].2).ownBlock ∨ v3.ownBlock = some wa.heap.size) :
    ∃ g3 cap3, v3 = .slice (some ⟨g3, 0, none⟩) (gs[k].2.length + 1) cap3 ∧
      PastM (w4.setCell ⟨g, k * 5 + 4, none⟩ (.slice (some ⟨g3, 0, none⟩) (gs[k].2.length + 1) cap3)) P B cs (.slice (some ⟨g, 0, none⟩) N cap) (xs.set k (xs[k].1, ⟨some ⟨g3, 0, none⟩, gs[k].2.length + 1, cap3⟩)) (gs.set k (gs[k].1, gs[k].2 ++ [p])) ∧
      Aside P B w (w4.setCell ⟨g, k * 5 + 4, none⟩ (.slice (some ⟨g3, 0, none⟩) (gs[k].2.length + 1) cap3)) ∧
      (w4.cell? ⟨P, 16, none⟩ = some (.slice (some ⟨g, 0, none⟩) N cap) ∧ w4.cell? ⟨M, 0, none⟩ = some u0 ∧ w4.cell? ⟨M, 1, none⟩ = some u1) ∧
      (∀ u, World.cell? (w4.setCell ⟨g, k * 5 + 4, none⟩ u) ⟨P, 16, none⟩ = some (.slice (some ⟨g, 0, none⟩) N cap) ∧ World.cell? (w4.setCell ⟨g, k * 5 + 4, none⟩ u) ⟨M, 0, none⟩ = some u0 ∧ World.cell? (w4.setCell ⟨g, k * 5 + 4, none⟩ u) ⟨M, 1, none⟩ = some u1) ∧
      w4.cell? ⟨g, k * 5 + 4, none⟩ = some (.slice xs[k].2.a xs[k].2.n xs[k].2.c) ∧ w4.frozen? ⟨g, k * 5 + 4, none⟩ = false := by
  obtain ⟨g3, cap3, hv3, _, _⟩ := OwnRow.block ho (by simp)
  rw [List.length_append, List.length_singleton] at hv3
  subst hv3
  have hF := PastM.put (s' := ⟨some ⟨g3, 0, none⟩, gs[k].2.length + 1, cap3⟩) h hba hk hk2 ho hb5 hgrow hwhere
  have ha := h.later hba
  have hM := (hq0.later hba)
  have hM4 : MidAt w4 M 157 [u0, u1] := (hgrow.block M hM.lt (fun e => hMB e.symm)).trans hM
  have hP4 : PaAt w4 P cs (.slice (some ⟨g, 0, none⟩) N cap) := (hb5.block P h.lt).trans ha.blk
  have hgB : B ≤ g := by
    rcases ha.own.form with ⟨e, _⟩ | ⟨g', c', e, h4, _⟩
    · cases e
    · injection e with e; injection e with e; injection e with e; omega
  have hout : w4.ownsRow B 160 5 (.slice (some ⟨g, 0, none⟩) N cap) xs.length (cellsL gpCell xs) := World.ownsRow.kept ha.own.outer hgrow (rows_unlike ha.own.outer (ha.own.inner k hk hk2) tyGp)
  have hMg : M ≠ g := fun e => by
    have h1 := row_type hout (q := g) rfl _ _ _ (show w4.heap[g]? = _ from e ▸ hM4)
    exact tyGp h1.symm
  have hPg : P ≠ g := by have := h.lt; omega
  refine ⟨g3, cap3, rfl, hF.1, hF.2.1, ⟨hP4.slice ha.four, hM4.cell 0, hM4.cell 1⟩, fun u => ?_, ?_, hF.2.2.2⟩
  · have hon : Only g w4 (w4.setCell ⟨g, k * 5 + 4, none⟩ u) := (Only.refl _ _).setCell _ _
    have hP5 : PaAt (w4.setCell ⟨g, k * 5 + 4, none⟩ u) P cs (.slice (some ⟨g, 0, none⟩) N cap) := (hon.block P (MidAt.lt hP4) hPg).trans hP4
    have hM5 : MidAt (w4.setCell ⟨g, k * 5 + 4, none⟩ u) M 157 [u0, u1] := (hon.block M hM4.lt hMg).trans hM4
    exact ⟨hP5.slice ha.four, hM5.cell 0, hM5.cell 1⟩
  · rw [ha.own.cell_grown (j := 4) hk hk (by omega) hgrow]
    rfl

def PastR (w : World) (P B : Nat) (l : List Ev) (n : Nat) (w' : World) : Prop := ∃ v xs, PastM w' P B (csOf l n) v xs (grp l n) ∧ Aside P B w w'

set_option maxRecDepth 100000 in
set_option maxHeartbeats 4000000 in
theorem padd_any (P B n : Nat) (l : List Ev) (v : Value) (xs : List (Ev × Sp)) (w : World) (hp : PastM w P B (csOf l n) v xs (grp l n)) (hr : rightL l = true) (hn : n < l.length) (hm : l.length ≤ 1000) :
    Calls Tryz.prog 56 #[.pointer (some ⟨P, 0, none⟩), .agg #[.int .i64 (evI l n).thread, .int .i64 (evI l n).kind, .int .i64 (evI l n).obj, .bool (evI l n).fail], .int .i64 n, .agg #[.int .i64 (clk l n 0), .int .i64 (clk l n 1), .int .i64 (clk l n 2), .int .i64 (clk l n 3)]] w fun r w' => r = .returned (.tuple #[]) ∧ PastR w P B l (n + 1) w' := by
  have hth := rightEv_bd (e := evI l n) (by rw [evI_get hn]; exact rightL_get hr hn)
  have HCS := Lib.hid (fun th h4 => csOf_succ l n th h4)
  have HOWN : Hid (∀ t : Nat, (evI l n).thread = t → clk l n t = num l n) := fun t ht => by rw [← ht]; exact clk_own l n
  have HE : Hid (∃ e, e = evI l n) := ⟨_, rfl⟩
  have HG : Hid (grp l (n + 1) = addG (grp l n) (evI l n) (n, num l n)) := rfl
  have hgl := grp_len l n
  have HGS := Lib.hid (grp_small l n)
  unfold PastR
  generalize grp l (n + 1) = GS at *
  generalize grp l n = gs at *
  have HP := Lib.hid hp
  clear hp
  generalize evI l n = e at *
  obtain ⟨et, ek, eo, ef⟩ := e
  dsimp only at hth HCS HOWN ⊢
  obtain ⟨th, rfl⟩ : ∃ th : Nat, et = th := ⟨et.toNat, by omega⟩
  have hth4 : th < 4 := by omega
  have hti : (th : Int) < 4 := by omega
  have hti0 : (0 : Int) ≤ th := by omega
  clear hth HE
  have hb0 := below_alloc2 w (.cells #[.int .i64 (th : Int), .int .i64 ek, .int .i64 eo, .bool ef] 81) (.cells #[.int .i64 (clk l n 0), .int .i64 (clk l n 1), .int .i64 (clk l n 2), .int .i64 (clk l n 3)] 118)
  have HBX : Hid (EvBox ((w.alloc (.cells #[.int .i64 (th : Int), .int .i64 ek, .int .i64 eo, .bool ef] 81)).alloc (.cells #[.int .i64 (clk l n 0), .int .i64 (clk l n 1), .int .i64 (clk l n 2), .int .i64 (clk l n 3)] 118)) w.heap.size ⟨th, ek, eo, ef⟩) := (EvBox.new w ⟨th, ek, eo, ef⟩).later (below_alloc1 _ _)
  have HCB : Hid (MidAt ((w.alloc (.cells #[.int .i64 (th : Int), .int .i64 ek, .int .i64 eo, .bool ef] 81)).alloc (.cells #[.int .i64 (clk l n 0), .int .i64 (clk l n 1), .int .i64 (clk l n 2), .int .i64 (clk l n 3)] 118)) (w.heap.size + 1) 118 (nums4 fun u => (clk l n u : Nat))) := heap_alloc2_new w _ _
  go_enter Tryz.func56, Tryz.ntmps56
  go_wp2_with fail
  generalize hW0 : (w.alloc (.cells #[.int .i64 (th : Int), .int .i64 ek, .int .i64 eo, .bool ef] 81)).alloc (.cells #[.int .i64 (clk l n 0), .int .i64 (clk l n 1), .int .i64 (clk l n 2), .int .i64 (clk l n 3)] 118) = W0 at *
  have hP := HP.out.later hb0
  obtain ⟨e0, e1, e2, e3⟩ := HBX.out.cells
  obtain ⟨c0, c1, c2, c3⟩ := HCB.out.four
  have p0 := hP.blk.num (t := th) (u := 0) hth4 (by omega)
  have p1 := hP.blk.num (t := th) (u := 1) hth4 (by omega)
  have p2 := hP.blk.num (t := th) (u := 2) hth4 (by omega)
  have p3 := hP.blk.num (t := th) (u := 3) hth4 (by omega)
  have f0 := hP.blk.frozen (th * 4)
  have f1 := hP.blk.frozen (th * 4 + 1)
  have f2 := hP.blk.frozen (th * 4 + 2)
  have f3 := hP.blk.frozen (th * 4 + 3)
  rw [Nat.add_zero] at p0
  go_region
  have hlast : PastM ((((W0.setCell ⟨P, th * 4, none⟩ (.int .i64 (clk l n 0))).setCell ⟨P, th * 4 + 1, none⟩ (.int .i64 (clk l n 1))).setCell ⟨P, th * 4 + 2, none⟩ (.int .i64 (clk l n 2))).setCell ⟨P, th * 4 + 3, none⟩ (.int .i64 (clk l n 3))) P B ((csOf l n).set th fun u : Nat => clk l n u) v xs gs ∧ Aside P B W0 ((((W0.setCell ⟨P, th * 4, none⟩ (.int .i64 (clk l n 0))).setCell ⟨P, th * 4 + 1, none⟩ (.int .i64 (clk l n 1))).setCell ⟨P, th * 4 + 2, none⟩ (.int .i64 (clk l n 2))).setCell ⟨P, th * 4 + 3, none⟩ (.int .i64 (clk l n 3))) := hP.last hth4 (fun u : Nat => clk l n u)
  have hon : Only P W0 ((((W0.setCell ⟨P, th * 4, none⟩ (.int .i64 (clk l n 0))).setCell ⟨P, th * 4 + 1, none⟩ (.int .i64 (clk l n 1))).setCell ⟨P, th * 4 + 2, none⟩ (.int .i64 (clk l n 2))).setCell ⟨P, th * 4 + 3, none⟩ (.int .i64 (clk l n 3))) := ((((Only.refl _ _).setCell _ _).setCell _ _).setCell _ _).setCell _ _
  have hPw : P < w.heap.size := Nat.lt_of_lt_of_le HP.out.lt HP.out.le
  have HPM : Hid (PastM ((((W0.setCell ⟨P, th * 4, none⟩ (.int .i64 (clk l n 0))).setCell ⟨P, th * 4 + 1, none⟩ (.int .i64 (clk l n 1))).setCell ⟨P, th * 4 + 2, none⟩ (.int .i64 (clk l n 2))).setCell ⟨P, th * 4 + 3, none⟩ (.int .i64 (clk l n 3))).drew P B (csOf l (n + 1)) v xs gs) := (hlast.1.congr (csOf_len _ _) (HCS.out th hth4 rfl)).later ((Below.refl _ _).drew)
  have HAS : Hid (Aside P B w ((((W0.setCell ⟨P, th * 4, none⟩ (.int .i64 (clk l n 0))).setCell ⟨P, th * 4 + 1, none⟩ (.int .i64 (clk l n 1))).setCell ⟨P, th * 4 + 2, none⟩ (.int .i64 (clk l n 2))).setCell ⟨P, th * 4 + 3, none⟩ (.int .i64 (clk l n 3))).drew) := ((Aside.of_below hb0 HP.out.le).trans hlast.2).trans (Aside.of_below ((Below.refl _ _).drew) (Nat.le_trans hP.le hon.size))
  have HB1 : Hid (EvBox ((((W0.setCell ⟨P, th * 4, none⟩ (.int .i64 (clk l n 0))).setCell ⟨P, th * 4 + 1, none⟩ (.int .i64 (clk l n 1))).setCell ⟨P, th * 4 + 2, none⟩ (.int .i64 (clk l n 2))).setCell ⟨P, th * 4 + 3, none⟩ (.int .i64 (clk l n 3))).drew w.heap.size ⟨th, ek, eo, ef⟩) := (HBX.out.only hon (by omega)).later ((Below.refl _ _).drew)
  have HC1 : Hid (MidAt ((((W0.setCell ⟨P, th * 4, none⟩ (.int .i64 (clk l n 0))).setCell ⟨P, th * 4 + 1, none⟩ (.int .i64 (clk l n 1))).setCell ⟨P, th * 4 + 2, none⟩ (.int .i64 (clk l n 2))).setCell ⟨P, th * 4 + 3, none⟩ (.int .i64 (clk l n 3))).drew (w.heap.size + 1) 118 (nums4 fun u => (clk l n u : Nat))) := (hon.block _ (MidAt.lt HCB.out) (by omega)).trans HCB.out
  clear hlast hon hP p0 p1 p2 p3 f0 f1 f2 f3 e0 e1 e2 e3 c0 c1 c2 c3 hW0 hb0 HBX HCB
  generalize ((((W0.setCell ⟨P, th * 4, none⟩ (.int .i64 (clk l n 0))).setCell ⟨P, th * 4 + 1, none⟩ (.int .i64 (clk l n 1))).setCell ⟨P, th * 4 + 2, none⟩ (.int .i64 (clk l n 2))).setCell ⟨P, th * 4 + 3, none⟩ (.int .i64 (clk l n 3))).drew = W1 at *
  obtain ⟨e0, e1, e2, e3⟩ := HB1.out.cells
  have c0 := MidAt.cell HC1.out th
  rw [nums4_get _ hth4] at c0
  rw [HOWN.out th rfl] at c0
  obtain ⟨va, vc, rfl, HV⟩ : ∃ va vc, v = .slice va gs.length vc ∧ Hid (gs = [] ∨ ∃ g, va = some ⟨g, 0, none⟩) := by
    rcases HPM.out.own.form with ⟨h1, h2⟩ | ⟨g, c, h1, _⟩
    · exact ⟨none, 0, by rw [h1, h2]; rfl, .inl h2⟩
    · exact ⟨_, c, h1, .inr ⟨g, rfl⟩⟩
  have hv := HPM.out.blk.slice (csOf_len _ _)
  have HSP0 : Hid (∀ i (hi : i < xs.length), (spV xs[i].2).ownBlock ≠ some W1.heap.size) := fun i hi e => by
    have := (World.ownsRow.lt (HPM.out.own.inner i hi (by rw [← HPM.out.own.len]; exact hi)) _ e).2
    omega
  have HW1B : Hid (B ≤ W1.heap.size) := HPM.out.le
  have hba := below_alloc1 W1 (.cells #[.int .i64 (n : Int), .int .i64 (num l n : Int)] 157)
  have hv2 := cell_later hba hv
  have HPM2 := Lib.hid (HPM.out.later hba)
  have HAS2 : Hid (Aside P B w (W1.alloc (.cells #[.int .i64 (n : Int), .int .i64 (num l n : Int)] 157))) := HAS.out.trans (Aside.of_below hba HPM.out.le)
  have HB2 := Lib.hid (HB1.out.later hba)
  have HPL : Hid (MidAt (W1.alloc (.cells #[.int .i64 (n : Int), .int .i64 (num l n : Int)] 157)) W1.heap.size 157 (plCell (n, num l n))) := heap_alloc_new _ _
  have hsz : (W1.alloc (.cells #[.int .i64 (n : Int), .int .i64 (num l n : Int)] 157)).heap.size = W1.heap.size + 1 := by simp
  go_wp2_with fail
  clear e0 e1 e2 e3 c0 hv hv2 hba HPM HAS HB1 HC1
  generalize W1.alloc (.cells #[.int .i64 (n : Int), .int .i64 (num l n : Int)] 157) = W2 at *
  go_loopw [28] (fun i wr => ∃ k : Nat, k ≤ gs.length ∧ i = .int .i64 k ∧ Hid (∀ j (h : j < k) (h2 : j < gs.length), (gs[j]).1 ≠ ⟨th, ek, eo, ef⟩) ∧ Hid (Below W2.heap.size W2 wr)) (fun i _ => gs.length - (intOf i).toNat)
  case atStart => exact ⟨0, Nat.zero_le _, rfl, (fun j h => absurd h (by omega)), Below.refl _ _⟩
  case round =>
    obtain ⟨k, hk, rfl, HN, HB⟩ := hrel
    have HM := Lib.hid (HPM2.out.later HB.out)
    have HA : Hid (Aside P B w wr) := HAS2.out.trans (Aside.of_below HB.out HPM2.out.le)
    have HBX := Lib.hid (HB2.out.later HB.out)
    have HPX := Lib.hid (HPL.out.later HB.out)
    have hv := HM.out.blk.slice (csOf_len _ _)
    have hvf := HM.out.blk.frozen 16
    obtain ⟨e0, e1, e2, e3⟩ := HBX.out.cells
    have q0 : wr.cell? ⟨W1.heap.size, 0, none⟩ = some (.int .i64 (n : Int)) := MidAt.cell HPX.out 0
    have q1 : wr.cell? ⟨W1.heap.size, 1, none⟩ = some (.int .i64 (num l n : Int)) := MidAt.cell HPX.out 1
    by_cases hlt : k < gs.length
    · obtain ⟨g, rfl⟩ : ∃ g, va = some ⟨g, 0, none⟩ := by
        rcases HV.out with h | h
        · rw [h] at hlt; simp at hlt
        · exact h
      have hkx : k < xs.length := by rw [HM.out.own.len]; exact hlt
      have hev := HM.out.own.evs k hkx hlt
      have x0 := HM.out.own.cell (j := 0) hkx (by omega)
      have x1 := HM.out.own.cell (j := 1) hkx (by omega)
      have x2 := HM.out.own.cell (j := 2) hkx (by omega)
      have x3 := HM.out.own.cell (j := 3) hkx (by omega)
      have x4 := HM.out.own.cell (j := 4) hkx (by omega)
      have heq := run_equal_ev gs[k].1 ⟨th, ek, eo, ef⟩
      rw [Nat.add_zero] at x0
      simp only [gpCell, hev, List.getElem?_cons_zero, List.getElem?_cons_succ] at x0 x1 x2 x3 x4
      by_cases he : gs[k].1 = ⟨th, ek, eo, ef⟩
      · have hq2 : decide (gs[k].1 = (⟨th, ek, eo, ef⟩ : Ev)) = true := by simp [he]
        rw [hq2] at heq
        have HE := Lib.hid (addG_at (p := (n, num l n)) hlt (fun i hi => HN.out i hi (by omega)) he)
        clear hq2
        go_wp2
        go_quiet (fail)
        go_wp2_with fail
        have hdr : Below wr.heap.size wr (wr.drewN nq) := (Below.refl _ wr).drewN
        have HM3 := Lib.hid (HM.out.later hdr)
        have HA3 : Hid (Aside P B w (wr.drewN nq)) := HA.out.trans (Aside.of_below hdr HM.out.le)
        have HPX3 := Lib.hid (HPX.out.later hdr)
        clear hv hvf e0 e1 e2 e3 q0 q1 x0 x1 x2 x3 x4 HM HA HPX HBX HB hdr heq he HN HPM2 HAS2 HPL HB2
        generalize wr.drewN nq = W3 at *
        have hv := HM3.out.blk.slice (csOf_len _ _)
        have q0 : W3.cell? ⟨W1.heap.size, 0, none⟩ = some (.int .i64 (n : Int)) := MidAt.cell HPX3.out 0
        have q1 : W3.cell? ⟨W1.heap.size, 1, none⟩ = some (.int .i64 (num l n : Int)) := MidAt.cell HPX3.out 1
        have x4 := HM3.out.own.cell (j := 4) hkx (by omega)
        simp only [gpCell, List.getElem?_cons_zero, List.getElem?_cons_succ] at x4
        have hin := Lib.hid (HM3.out.own.inner k hkx hlt)
        have HSPX : Hid ((spV xs[k].2).ownBlock ≠ some W1.heap.size) := HSP0.out k hkx
        have hgk := HGS.out gs[k] (List.getElem_mem hlt)
        have hle3 := HM3.out.le
        have HQ : Hid (∀ W', Below W3.heap.size W3 W' → W'.cell? ⟨P, 16, none⟩ = some (.slice (some ⟨g, 0, none⟩) gs.length vc) ∧ W'.cell? ⟨W1.heap.size, 0, none⟩ = some (.int .i64 (n : Int)) ∧ W'.cell? ⟨W1.heap.size, 1, none⟩ = some (.int .i64 (num l n : Int))) :=
          fun W' hb => ⟨cell_later hb hv, cell_later hb q0, cell_later hb q1⟩
        have hx4d : World.cell? W3.drew ⟨g, k * 5 + 4, none⟩ = some (.slice xs[k].2.a xs[k].2.n xs[k].2.c) := x4
        clear hv q0 q1
        have hWA : Below W3.heap.size W3 (W3.alloc (.cells #[.int .i64 (n : Int), .int .i64 (num l n : Int)] 157)).drew := (below_alloc1 W3 _).drew
        have HOA : Hid (OwnRow (W3.alloc (.cells #[.int .i64 (n : Int), .int .i64 (num l n : Int)] 157)).drew B 157 2 plCell (.slice xs[k].2.a xs[k].2.n xs[k].2.c) gs[k].2) := hin.out.later hWA
        have HNEW : Hid (∀ j u, (plCell (n, num l n))[j]? = some u → World.cell? (W3.alloc (.cells #[.int .i64 (n : Int), .int .i64 (num l n : Int)] 157)).drew (Addr.add ⟨W3.heap.size, 0, none⟩ j) = some u) := cells_new W3 (plCell (n, num l n)) _ _ rfl
        have hlX : gs[k].2.length ≤ 1000000 := by omega
        have hBX : B ≤ (World.heap (W3.alloc (.cells #[.int .i64 (n : Int), .int .i64 (num l n : Int)] 157)).drew).size := Nat.le_trans hle3 hWA.size
        have HRES := Lib.hid (PastM.put_res (p := (n, num l n)) HM3.out hWA hkx hlt (by have h1 := HM3.out.lt; have h2 := HW1B.out; omega) HPX3.out HSPX.out)
        have hS1 := HQ.out _ hWA
        have hx4a := cell_later hWA x4
        have hS0 := HQ.out _ (Below.refl _ W3).drew
        have hS4 : (fun W' => W'.cell? ⟨P, 16, none⟩ = some (.slice (some ⟨g, 0, none⟩) gs.length vc) ∧ W'.cell? ⟨W1.heap.size, 0, none⟩ = some (.int .i64 (n : Int)) ∧ W'.cell? ⟨W1.heap.size, 1, none⟩ = some (.int .i64 (num l n : Int)) ∧ W'.cell? ⟨g, k * 5 + 4, none⟩ = some (.slice xs[k].2.a xs[k].2.n xs[k].2.c)) W3.drew := ⟨hS0.1, hS0.2.1, hS0.2.2, x4⟩
        have hS5 : (fun W' => W'.cell? ⟨P, 16, none⟩ = some (.slice (some ⟨g, 0, none⟩) gs.length vc) ∧ W'.cell? ⟨W1.heap.size, 0, none⟩ = some (.int .i64 (n : Int)) ∧ W'.cell? ⟨W1.heap.size, 1, none⟩ = some (.int .i64 (num l n : Int)) ∧ W'.cell? ⟨g, k * 5 + 4, none⟩ = some (.slice xs[k].2.a xs[k].2.n xs[k].2.c)) (W3.alloc (.cells #[.int .i64 (n : Int), .int .i64 (num l n : Int)] 157)).drew := ⟨hS1.1, hS1.2.1, hS1.2.2, hx4a⟩
        refine region_but_last (k := 18) (S := (fun W' => W'.cell? ⟨P, 16, none⟩ = some (.slice (some ⟨g, 0, none⟩) gs.length vc) ∧ W'.cell? ⟨W1.heap.size, 0, none⟩ = some (.int .i64 (n : Int)) ∧ W'.cell? ⟨W1.heap.size, 1, none⟩ = some (.int .i64 (num l n : Int)) ∧ W'.cell? ⟨g, k * 5 + 4, none⟩ = some (.slice xs[k].2.a xs[k].2.n xs[k].2.c))) (by kernel_rfl) rfl rfl rfl rfl (by kernel_rfl) rfl ?_
        simp only [butLast, nopOf, List.setIfInBounds_toArray, List.set_cons_succ, List.set_cons_zero, List.getElem_toArray, List.getElem_cons_zero, List.getElem_cons_succ, List.size_toArray, List.length_cons, List.length_nil, Nat.reduceAdd]
        change wpAnyH _ _ _ _ _ _ _ _ W3.drew
        refine wpAnyH_take (i := 0) (v := ?_) rfl (by kernel_rfl) (by kernel_rfl) (by kernel_rfl) (fun _ _ _ h => h) (Or.inl ⟨by rfl, ?yield⟩) hS4 ?_
        case yield => ((intro w hSw; (try dsimp only at hSw); go_simp) <;> with_reducible rfl)
        try simp only [List.getElem_toArray, List.getElem_cons_zero, Act.put, List.setIfInBounds_toArray, List.set_cons_zero, List.set_cons_succ]
        refine wpAnyH_take (i := 1) (v := ?_) rfl (by kernel_rfl) (by kernel_rfl) (by kernel_rfl) (fun _ _ _ h => h) (Or.inl ⟨by rfl, ?yield⟩) hS4 ?_
        case yield => ((intro w hSw; (try dsimp only at hSw); go_simp) <;> with_reducible rfl)
        try simp only [List.getElem_toArray, List.getElem_cons_zero, List.getElem_cons_succ, Act.put, List.setIfInBounds_toArray, List.set_cons_zero, List.set_cons_succ]
        refine wpAnyH_take (i := 2) (v := ?_) rfl (by kernel_rfl) (by kernel_rfl) (by kernel_rfl) (fun _ _ _ h => h) (Or.inl ⟨by rfl, ?yield⟩) hS4 ?_
        case yield => ((intro w hSw; (try dsimp only at hSw); go_simp) <;> with_reducible rfl)
        try simp only [List.getElem_toArray, List.getElem_cons_zero, List.getElem_cons_succ, Act.put, List.setIfInBounds_toArray, List.set_cons_zero, List.set_cons_succ]
        refine wpAnyH_take (i := 3) (v := ?_) rfl (by kernel_rfl) (by kernel_rfl) (by kernel_rfl) (fun _ _ _ h => h) (Or.inl ⟨by rfl, ?yield⟩) hS4 ?_
        case yield => ((intro w hSw; (try dsimp only at hSw); go_simp) <;> with_reducible rfl)
        try simp only [List.getElem_toArray, List.getElem_cons_zero, List.getElem_cons_succ, Act.put, List.setIfInBounds_toArray, List.set_cons_zero, List.set_cons_succ]
        refine wpAnyH_take (i := 4) (v := ?_) rfl (by kernel_rfl) (by kernel_rfl) (by kernel_rfl) (fun _ _ _ h => h) (Or.inl ⟨by rfl, ?yield⟩) hS4 ?_
        case yield => ((intro w hSw; (try dsimp only at hSw); go_simp) <;> with_reducible rfl)
        try simp only [List.getElem_toArray, List.getElem_cons_zero, List.getElem_cons_succ, Act.put, List.setIfInBounds_toArray, List.set_cons_zero, List.set_cons_succ]
        refine wpAnyH_take (i := 5) (v := ?_) rfl (by kernel_rfl) (by kernel_rfl) (by kernel_rfl) (fun _ _ _ h => h) (Or.inl ⟨by rfl, ?yield⟩) hS4 ?_
        case yield => ((intro w hSw; (try dsimp only at hSw); go_simp) <;> with_reducible rfl)
        try simp only [List.getElem_toArray, List.getElem_cons_zero, List.getElem_cons_succ, Act.put, List.setIfInBounds_toArray, List.set_cons_zero, List.set_cons_succ]
        refine wpAnyH_take (i := 6) (v := ?_) rfl (by kernel_rfl) (by kernel_rfl) (by kernel_rfl) (fun _ _ _ h => h) (Or.inl ⟨by rfl, ?yield⟩) hS4 ?_
        case yield => ((intro w hSw; (try dsimp only at hSw); go_simp) <;> with_reducible rfl)
        try simp only [List.getElem_toArray, List.getElem_cons_zero, List.getElem_cons_succ, Act.put, List.setIfInBounds_toArray, List.set_cons_zero, List.set_cons_succ]
        refine wpAnyH_take (i := 7) (v := ?_) rfl (by kernel_rfl) (by kernel_rfl) (by kernel_rfl) (fun _ _ _ h => h) (Or.inl ⟨by rfl, ?yield⟩) hS4 ?_
        case yield => ((intro w hSw; (try dsimp only at hSw); go_simp) <;> with_reducible rfl)
        try simp only [List.getElem_toArray, List.getElem_cons_zero, List.getElem_cons_succ, Act.put, List.setIfInBounds_toArray, List.set_cons_zero, List.set_cons_succ]
        refine wpAnyH_take (i := 8) (v := ?_) rfl (by kernel_rfl) (by kernel_rfl) (by kernel_rfl) (fun _ _ _ h => h) (Or.inl ⟨by rfl, ?yield⟩) hS4 ?_
        case yield => ((intro w hSw; (try dsimp only at hSw); go_simp) <;> with_reducible rfl)
        try simp only [List.getElem_toArray, List.getElem_cons_zero, List.getElem_cons_succ, Act.put, List.setIfInBounds_toArray, List.set_cons_zero, List.set_cons_succ]
        refine wpAnyH_take (i := 9) (v := ?_) rfl (by kernel_rfl) (by kernel_rfl) (by kernel_rfl) (fun _ _ _ h => h) (Or.inl ⟨by rfl, ?yield⟩) hS4 ?_
        case yield => ((intro w hSw; (try dsimp only at hSw); go_simp) <;> with_reducible rfl)
        try simp only [List.getElem_toArray, List.getElem_cons_zero, List.getElem_cons_succ, Act.put, List.setIfInBounds_toArray, List.set_cons_zero, List.set_cons_succ]
        refine wpAnyH_take (i := 10) (v := ?_) rfl (by kernel_rfl) (by kernel_rfl) (by kernel_rfl) (fun _ _ _ h => h) (Or.inl ⟨by rfl, ?yield⟩) hS4 ?_
        case yield => ((intro w hSw; (try dsimp only at hSw); go_simp) <;> with_reducible rfl)
        try simp only [List.getElem_toArray, List.getElem_cons_zero, List.getElem_cons_succ, Act.put, List.setIfInBounds_toArray, List.set_cons_zero, List.set_cons_succ]
        refine wpAnyH_take (i := 11) (v := ?_) rfl (by kernel_rfl) (by kernel_rfl) (by kernel_rfl) (fun _ _ _ h => h) (Or.inl ⟨by rfl, ?yield⟩) hS4 ?_
        case yield => ((intro w hSw; (try dsimp only at hSw); go_simp) <;> with_reducible rfl)
        try simp only [List.getElem_toArray, List.getElem_cons_zero, List.getElem_cons_succ, Act.put, List.setIfInBounds_toArray, List.set_cons_zero, List.set_cons_succ]
        refine wpAnyH_take (i := 12) (v := ?_) rfl (by kernel_rfl) (by kernel_rfl) (by kernel_rfl) (fun _ _ _ h => h) (Or.inl ⟨by rfl, ?yield⟩) hS4 ?_
        case yield => ((intro w hSw; (try dsimp only at hSw); go_simp) <;> with_reducible rfl)
        try simp only [List.getElem_toArray, List.getElem_cons_zero, List.getElem_cons_succ, Act.put, List.setIfInBounds_toArray, List.set_cons_zero, List.set_cons_succ]
        refine wpAnyH_take (i := 13) (v := ?_) rfl (by kernel_rfl) (by kernel_rfl) (by kernel_rfl) (fun _ _ _ h => h) (Or.inl ⟨by rfl, ?yield⟩) hS4 ?_
        case yield => ((intro w hSw; (try dsimp only at hSw); go_simp) <;> with_reducible rfl)
        try simp only [List.getElem_toArray, List.getElem_cons_zero, List.getElem_cons_succ, Act.put, List.setIfInBounds_toArray, List.set_cons_zero, List.set_cons_succ]
        refine wpAnyH_ready (rs := [14]) (by kernel_rfl) (by simp) (AllReadyH.cons rfl (fun K hK => ?_) AllReadyH.nil)
        go_simp
        refine hK.out _ _ hS5 (fun _ => ?_)
        try simp only [List.getElem_toArray, List.getElem_cons_zero, List.getElem_cons_succ, Act.put, List.setIfInBounds_toArray, List.set_cons_zero, List.set_cons_succ]
        refine wpAnyH_ready (rs := [15]) (by kernel_rfl) (by simp) (AllReadyH.cons rfl (fun K hK => ?_) AllReadyH.nil)
        refine step_appendPl (w := (W3.alloc (.cells #[.int .i64 (n : Int), .int .i64 (num l n : Int)] 157)).drew) (by rfl) (.tmp 53) (.tmp 55) (by rfl) B _ gs[k].2 (by rfl) HOA.out ⟨W3.heap.size, 0, none⟩ (by rfl) (n, num l n) HNEW.out hlX hBX ?_
        intro v3 w4 h1 h2 h3 h4
        obtain ⟨g3, cap3, e3, r1, r2, hS6, r5, hx4, hf4⟩ := HRES.out v3 w4 h1 h2 h3 h4
        subst e3
        have HF1 := Lib.hid r1
        have HF2 := Lib.hid r2
        clear h1 h2 h3 h4 r1 r2 r5
        have hS7 : (fun W' => W'.cell? ⟨P, 16, none⟩ = some (.slice (some ⟨g, 0, none⟩) gs.length vc) ∧ W'.cell? ⟨W1.heap.size, 0, none⟩ = some (.int .i64 (n : Int)) ∧ W'.cell? ⟨W1.heap.size, 1, none⟩ = some (.int .i64 (num l n : Int)) ∧ W'.cell? ⟨g, k * 5 + 4, none⟩ = some (.slice xs[k].2.a xs[k].2.n xs[k].2.c)) w4 := ⟨hS6.1, hS6.2.1, hS6.2.2, hx4⟩
        refine hK.out _ _ hS7 (fun _ => ?_)
        try simp only [List.getElem_toArray, List.getElem_cons_zero, List.getElem_cons_succ, Act.put, List.setIfInBounds_toArray, List.set_cons_zero, List.set_cons_succ]
        refine wpAnyH_take (i := 16) (v := ?_) rfl (by kernel_rfl) (by kernel_rfl) (by kernel_rfl) (fun _ _ _ h => h) (Or.inl ⟨by rfl, ?yield⟩) hS7 ?_
        case yield => ((intro w hSw; (try dsimp only at hSw); go_simp) <;> with_reducible rfl)
        try simp only [List.getElem_toArray, List.getElem_cons_zero, List.getElem_cons_succ, Act.put, List.setIfInBounds_toArray, List.set_cons_zero, List.set_cons_succ]
        refine wpAnyH_take (i := 17) (v := ?_) rfl (by kernel_rfl) (by kernel_rfl) (by kernel_rfl) (fun _ _ _ h => h) (Or.inl ⟨by rfl, ?yield⟩) hS7 ?_
        case yield => ((intro w hSw; (try dsimp only at hSw); go_simp) <;> with_reducible rfl)
        try simp only [List.getElem_toArray, List.getElem_cons_zero, List.getElem_cons_succ, Act.put, List.setIfInBounds_toArray, List.set_cons_zero, List.set_cons_succ]
        refine wpAnyH_take (i := 18) (v := ?_) rfl (by kernel_rfl) (by kernel_rfl) (by kernel_rfl) (fun _ _ _ h => h) (Or.inl ⟨by rfl, ?yield⟩) hS7 ?_
        case yield => ((intro w hSw; (try dsimp only at hSw); go_simp) <;> with_reducible rfl)
        try simp only [List.getElem_toArray, List.getElem_cons_zero, List.getElem_cons_succ, Act.put]
        refine wpAnyH_done (by kernel_rfl) ?_ _
        clear hS0 hS1 hS4 hS5 hS6 hS7 hx4a hx4d x4 HRES HOA HNEW
        refine exitOr_normal ?_
        refine wpOp_step rfl (fun K hK => ?_)
        try simp only [List.getElem_toArray, List.getElem_cons_zero, List.getElem_cons_succ, Act.put]
        go_simp
        refine hK _ _ ?_
        have HFA := Lib.hid (HA3.out.trans HF2.out)
        rw [← HE.out, ← HG.out] at HF1
        clear HF2 hin HM3 HA3 HE HG hgk hf4 HQ hx4
        go_wp2
        refine bodyPost_ret (results_none rfl _ _ _) rfl ?_
        first
          | exact ⟨rfl, ⟨_, _, HF1.out⟩, HFA.out⟩
          | exact ⟨rfl, _, _, HF1.out, HFA.out⟩
      · have hq2 : decide (gs[k].1 = (⟨th, ek, eo, ef⟩ : Ev)) = false := by simpa using he
        rw [hq2] at heq
        have HN2 : Hid (∀ j (h : j < k + 1) (h2 : j < gs.length), (gs[j]).1 ≠ ⟨th, ek, eo, ef⟩) := by
          intro j hj hj2
          by_cases e : j = k
          · subst e; exact he
          · exact HN.out j (by omega) hj2
        clear he hq2 HN
        generalize gs[k].1 = x at *
        go_wp2
        go_quiet (fail)
        go_wp2
        go_roundw
        case rel => exact ⟨k + 1, by omega, by go_num, HN2, HB.out.drewN⟩
        case measure => simp [intOf]; omega
    · obtain rfl : k = gs.length := by omega
      have HE := Lib.hid (addG_new (e := ⟨th, ek, eo, ef⟩) (p := (n, num l n)) (gs := gs) (fun x hx => by
        obtain ⟨i, hi, rfl⟩ := List.mem_iff_getElem.1 hx
        exact HN.out i hi hi))
      rw [← HG.out] at HE
      have hle := HM.out.le
      have hxl : xs.length ≤ 1000 := by have := HM.out.own.len; omega
      have hb2 := below_alloc2 wr (.cells #[.int .i64 (n : Int), .int .i64 (num l n : Int)] 157) (.cells #[.int .i64 (th : Int), .int .i64 ek, .int .i64 eo, .bool ef, .slice (some ⟨wr.heap.size, 0, none⟩) 1 1] 160)
      have hb1 := below_alloc1 wr (.cells #[.int .i64 (n : Int), .int .i64 (num l n : Int)] 157)
      have HSP : Hid (OwnRow ((wr.alloc (.cells #[.int .i64 (n : Int), .int .i64 (num l n : Int)] 157)).alloc (.cells #[.int .i64 (th : Int), .int .i64 ek, .int .i64 eo, .bool ef, .slice (some ⟨wr.heap.size, 0, none⟩) 1 1] 160)).drew B 157 2 plCell (spV ⟨some ⟨wr.heap.size, 0, none⟩, 1, 1⟩) [(n, num l n)]) :=
        ⟨rfl, .inr ⟨wr.heap.size, 1, _, rfl, hle, heap_alloc2_old wr _ _, Nat.le_refl _, by simp [maxLen], rfl, rfl⟩⟩
      have hPl := HM.out.lt
      have HQ9 : Hid (∀ W', Below wr.heap.size wr W' → (fun W' => W'.cell? ⟨P, 16, none⟩ = some (.slice va gs.length vc) ∧ (W'.cell? ⟨w.heap.size, 0, none⟩ = some (.int .i64 (th : Int)) ∧ W'.cell? ⟨w.heap.size, 1, none⟩ = some (.int .i64 ek) ∧ W'.cell? ⟨w.heap.size, 2, none⟩ = some (.int .i64 eo) ∧ W'.cell? ⟨w.heap.size, 3, none⟩ = some (.bool ef)) ∧ W'.cell? ⟨W1.heap.size, 0, none⟩ = some (.int .i64 (n : Int)) ∧ W'.cell? ⟨W1.heap.size, 1, none⟩ = some (.int .i64 (num l n : Int))) W') :=
        fun W' hb => ⟨cell_later hb hv, ⟨cell_later hb e0, cell_later hb e1, cell_later hb e2, cell_later hb e3⟩, cell_later hb q0, cell_later hb q1⟩
      have hSa := HQ9.out _ (Below.refl _ wr).drew
      have hSb := HQ9.out _ hb1.drew
      have hSc := HQ9.out _ hb2.drew
      go_wp2_with fail
      refine region_but_last (k := 13) (S := (fun W' => W'.cell? ⟨P, 16, none⟩ = some (.slice va gs.length vc) ∧ (W'.cell? ⟨w.heap.size, 0, none⟩ = some (.int .i64 (th : Int)) ∧ W'.cell? ⟨w.heap.size, 1, none⟩ = some (.int .i64 ek) ∧ W'.cell? ⟨w.heap.size, 2, none⟩ = some (.int .i64 eo) ∧ W'.cell? ⟨w.heap.size, 3, none⟩ = some (.bool ef)) ∧ W'.cell? ⟨W1.heap.size, 0, none⟩ = some (.int .i64 (n : Int)) ∧ W'.cell? ⟨W1.heap.size, 1, none⟩ = some (.int .i64 (num l n : Int)))) (by kernel_rfl) rfl rfl rfl rfl (by kernel_rfl) rfl ?_
      simp only [butLast, nopOf, List.setIfInBounds_toArray, List.set_cons_succ, List.set_cons_zero, List.getElem_toArray, List.getElem_cons_zero, List.getElem_cons_succ, List.size_toArray, List.length_cons, List.length_nil, Nat.reduceAdd]
      change wpAnyH _ _ _ _ _ _ _ _ wr.drew
      refine wpAnyH_take (i := 0) (v := ?_) rfl (by kernel_rfl) (by kernel_rfl) (by kernel_rfl) (fun _ _ _ h => h) (Or.inl ⟨by rfl, ?yield⟩) hSa ?_
      case yield => ((intro w hSw; (try dsimp only at hSw); go_simp) <;> with_reducible rfl)
      try simp only [List.getElem_toArray, List.getElem_cons_zero, Act.put, List.setIfInBounds_toArray, List.set_cons_zero, List.set_cons_succ]
      refine wpAnyH_take (i := 1) (v := ?_) rfl (by kernel_rfl) (by kernel_rfl) (by kernel_rfl) (fun _ _ _ h => h) (Or.inl ⟨by rfl, ?yield⟩) hSa ?_
      case yield => ((intro w hSw; (try dsimp only at hSw); go_simp) <;> with_reducible rfl)
      try simp only [List.getElem_toArray, List.getElem_cons_zero, List.getElem_cons_succ, Act.put, List.setIfInBounds_toArray, List.set_cons_zero, List.set_cons_succ]
      refine wpAnyH_take (i := 2) (v := ?_) rfl (by kernel_rfl) (by kernel_rfl) (by kernel_rfl) (fun _ _ _ h => h) (Or.inl ⟨by rfl, ?yield⟩) hSa ?_
      case yield => ((intro w hSw; (try dsimp only at hSw); go_simp) <;> with_reducible rfl)
      try simp only [List.getElem_toArray, List.getElem_cons_zero, List.getElem_cons_succ, Act.put, List.setIfInBounds_toArray, List.set_cons_zero, List.set_cons_succ]
      refine wpAnyH_take (i := 3) (v := ?_) rfl (by kernel_rfl) (by kernel_rfl) (by kernel_rfl) (fun _ _ _ h => h) (Or.inl ⟨by rfl, ?yield⟩) hSa ?_
      case yield => ((intro w hSw; (try dsimp only at hSw); go_simp) <;> with_reducible rfl)
      try simp only [List.getElem_toArray, List.getElem_cons_zero, List.getElem_cons_succ, Act.put, List.setIfInBounds_toArray, List.set_cons_zero, List.set_cons_succ]
      refine wpAnyH_take (i := 4) (v := ?_) rfl (by kernel_rfl) (by kernel_rfl) (by kernel_rfl) (fun _ _ _ h => h) (Or.inl ⟨by rfl, ?yield⟩) hSa ?_
      case yield => ((intro w hSw; (try dsimp only at hSw); go_simp) <;> with_reducible rfl)
      try simp only [List.getElem_toArray, List.getElem_cons_zero, List.getElem_cons_succ, Act.put, List.setIfInBounds_toArray, List.set_cons_zero, List.set_cons_succ]
      refine wpAnyH_take (i := 5) (v := ?_) rfl (by kernel_rfl) (by kernel_rfl) (by kernel_rfl) (fun _ _ _ h => h) (Or.inl ⟨by rfl, ?yield⟩) hSa ?_
      case yield => ((intro w hSw; (try dsimp only at hSw); go_simp) <;> with_reducible rfl)
      try simp only [List.getElem_toArray, List.getElem_cons_zero, List.getElem_cons_succ, Act.put, List.setIfInBounds_toArray, List.set_cons_zero, List.set_cons_succ]
      refine wpAnyH_take (i := 6) (v := ?_) rfl (by kernel_rfl) (by kernel_rfl) (by kernel_rfl) (fun _ _ _ h => h) (Or.inl ⟨by rfl, ?yield⟩) hSa ?_
      case yield => ((intro w hSw; (try dsimp only at hSw); go_simp) <;> with_reducible rfl)
      try simp only [List.getElem_toArray, List.getElem_cons_zero, List.getElem_cons_succ, Act.put, List.setIfInBounds_toArray, List.set_cons_zero, List.set_cons_succ]
      refine wpAnyH_ready (rs := [7]) (by kernel_rfl) (by simp) (AllReadyH.cons rfl (fun K hK => ?_) AllReadyH.nil)
      go_simp
      refine hK.out _ _ hSb (fun _ => ?_)
      try simp only [List.getElem_toArray, List.getElem_cons_zero, List.getElem_cons_succ, Act.put, List.setIfInBounds_toArray, List.set_cons_zero, List.set_cons_succ]
      refine wpAnyH_take (i := 8) (v := ?_) rfl (by kernel_rfl) (by kernel_rfl) (by kernel_rfl) (fun _ _ _ h => h) (Or.inl ⟨by rfl, ?yield⟩) hSb ?_
      case yield => ((intro w hSw; (try dsimp only at hSw); go_simp) <;> with_reducible rfl)
      try simp only [List.getElem_toArray, List.getElem_cons_zero, List.getElem_cons_succ, Act.put, List.setIfInBounds_toArray, List.set_cons_zero, List.set_cons_succ]
      refine wpAnyH_ready (rs := [9]) (by kernel_rfl) (by simp) (AllReadyH.cons rfl (fun K hK => ?_) AllReadyH.nil)
      go_simp
      refine hK.out _ _ hSc (fun _ => ?_)
      try simp only [List.getElem_toArray, List.getElem_cons_zero, List.getElem_cons_succ, Act.put, List.setIfInBounds_toArray, List.set_cons_zero, List.set_cons_succ]
      refine wpAnyH_ready (rs := [10]) (by kernel_rfl) (by simp) (AllReadyH.cons rfl (fun K hK => ?_) AllReadyH.nil)
      refine step_appendGp (w := ((wr.alloc (.cells #[.int .i64 (n : Int), .int .i64 (num l n : Int)] 157)).alloc (.cells #[.int .i64 (th : Int), .int .i64 ek, .int .i64 eo, .bool ef, .slice (some ⟨wr.heap.size, 0, none⟩) 1 1] 160)).drew) (by rfl) (.tmp 64) (.tmp 69) (by rfl) B _ xs (by rfl) (OwnRow.alloc (OwnRow.alloc HM.out.own.outer _) _) ⟨wr.heap.size + 1, 0, none⟩ (by rfl) (⟨th, ek, eo, ef⟩, ⟨some ⟨wr.heap.size, 0, none⟩, 1, 1⟩) (cells_new (wr.alloc (.cells #[.int .i64 (n : Int), .int .i64 (num l n : Int)] 157)) (gpCell (⟨th, ek, eo, ef⟩, ⟨some ⟨wr.heap.size, 0, none⟩, 1, 1⟩)) _ _ (by simp)) (by omega) (by simp; omega) ?_
      intro v3 w4 hown4 hb5 hgrow hwhere
      obtain ⟨g3, cap3, hv3, _, _⟩ := OwnRow.block hown4 (by simp)
      rw [List.length_append, List.length_singleton] at hv3
      subst hv3
      have HF := Lib.hid (PastM.new (s := ⟨some ⟨wr.heap.size, 0, none⟩, 1, 1⟩) (q := wr.heap.size) HM.out hb2.drew HSP.out rfl (Nat.le_refl _) hown4 hb5 hgrow)
      have hne : ∀ (q : Nat) (t : TypeId) (ys : List Value), MidAt wr q t ys → t ≠ 160 → some q ≠ (Value.slice va gs.length vc).ownBlock := fun q t ys hm ht e => ht (row_type HM.out.own.outer e.symm _ _ _ hm)
      have hbx4 : EvBox w4 w.heap.size ⟨th, ek, eo, ef⟩ := (hgrow.block _ (HBX.out.later hb2.drew).lt (hne _ _ [.int .i64 th, .int .i64 ek, .int .i64 eo, .bool ef] HBX.out (by decide))).trans (HBX.out.later hb2.drew)
      have hpx4 : MidAt w4 W1.heap.size 157 (plCell (n, num l n)) := (hgrow.block _ (HPX.out.later hb2.drew).lt (hne _ _ _ HPX.out (by decide))).trans (HPX.out.later hb2.drew)
      have hv4 := (hb5.cell (p := ⟨P, 16, none⟩) hPl).trans (cell_later hb2 hv)
      have hf4 := (hb5.frozen (p := ⟨P, 16, none⟩) hPl).trans ((HM.out.later hb2).blk.frozen 16)
      have hSd : (fun W' => W'.cell? ⟨P, 16, none⟩ = some (.slice va gs.length vc) ∧ (W'.cell? ⟨w.heap.size, 0, none⟩ = some (.int .i64 (th : Int)) ∧ W'.cell? ⟨w.heap.size, 1, none⟩ = some (.int .i64 ek) ∧ W'.cell? ⟨w.heap.size, 2, none⟩ = some (.int .i64 eo) ∧ W'.cell? ⟨w.heap.size, 3, none⟩ = some (.bool ef)) ∧ W'.cell? ⟨W1.heap.size, 0, none⟩ = some (.int .i64 (n : Int)) ∧ W'.cell? ⟨W1.heap.size, 1, none⟩ = some (.int .i64 (num l n : Int))) w4 := ⟨hv4, hbx4.cells, hpx4.cell 0, hpx4.cell 1⟩
      clear hown4 hb5 hgrow hwhere hbx4 hpx4 hne
      refine hK.out _ _ hSd (fun _ => ?_)
      try simp only [List.getElem_toArray, List.getElem_cons_zero, List.getElem_cons_succ, Act.put, List.setIfInBounds_toArray, List.set_cons_zero, List.set_cons_succ]
      refine wpAnyH_take (i := 11) (v := ?_) rfl (by kernel_rfl) (by kernel_rfl) (by kernel_rfl) (fun _ _ _ h => h) (Or.inl ⟨by rfl, ?yield⟩) hSd ?_
      case yield => ((intro w hSw; (try dsimp only at hSw); go_simp) <;> with_reducible rfl)
      try simp only [List.getElem_toArray, List.getElem_cons_zero, List.getElem_cons_succ, Act.put, List.setIfInBounds_toArray, List.set_cons_zero, List.set_cons_succ]
      refine wpAnyH_take (i := 12) (v := ?_) rfl (by kernel_rfl) (by kernel_rfl) (by kernel_rfl) (fun _ _ _ h => h) (Or.inl ⟨by rfl, ?yield⟩) hSd ?_
      case yield => ((intro w hSw; (try dsimp only at hSw); go_simp) <;> with_reducible rfl)
      try simp only [List.getElem_toArray, List.getElem_cons_zero, List.getElem_cons_succ, Act.put, List.setIfInBounds_toArray, List.set_cons_zero, List.set_cons_succ]
      refine wpAnyH_take (i := 13) (v := ?_) rfl (by kernel_rfl) (by kernel_rfl) (by kernel_rfl) (fun _ _ _ h => h) (Or.inl ⟨by rfl, ?yield⟩) hSd ?_
      case yield => ((intro w hSw; (try dsimp only at hSw); go_simp) <;> with_reducible rfl)
      try simp only [List.getElem_toArray, List.getElem_cons_zero, List.getElem_cons_succ, Act.put]
      refine wpAnyH_done (by kernel_rfl) ?_ _
      have HFA := Lib.hid (HA.out.trans HF.out.2)
      have HFP := Lib.hid HF.out.1
      rw [← HE.out] at HFP
      clear HF HM HA hSa hSb hSc hSd HQ9 HE HG HSP HPX HBX e0 e1 e2 e3 q0 q1 hv hvf
      refine exitOr_normal ?_
      refine wpOp_step rfl (fun K hK => ?_)
      try simp only [List.getElem_toArray, List.getElem_cons_zero, List.getElem_cons_succ, Act.put]
      go_simp
      refine hK _ _ ?_
      go_wp2
      go_end0
      first
        | exact ⟨rfl, ⟨_, _, HFP.out⟩, HFA.out⟩
        | exact ⟨rfl, _, _, HFP.out, HFA.out⟩

end Go.Proofs.YtnldkmcijmbhcaaGreat

/- append(.., row...) of whatever elements onto a row of the call's own. -/
namespace Go.Proofs.YtnldkmcijmbhcaaGreat
open Go.RowKit

section
variable {T : Type} {f : T → List Value} {n : Nat}

theorem RowAt.cellAt {w : World} {b o : Nat} {l : List T} (h : RowAt w (some ⟨b, o, none⟩) n f l) (hf : ∀ x, (f x).length = n) (hn : 0 < n) (j : Nat) (u : Value) (hj : (cellsL f l)[j]? = some u) : w.cell? (Addr.add ⟨b, o, none⟩ j) = some u := by
  have hjl : j < l.length * n := by
    have := (List.getElem?_eq_some_iff.1 hj).1
    rwa [cellsL_length hf] at this
  obtain ⟨b', o', e, hc⟩ := h.2 (by rintro rfl; simp at hjl)
  cases e
  have hi : j / n < l.length := Nat.div_lt_of_lt_mul (by rw [Nat.mul_comm]; exact hjl)
  have e : j / n * n + j % n = j := Nat.div_add_mod' j n
  have hg := cellsL_get hf l (j / n) (j % n) hi (Nat.mod_lt j hn)
  rw [e, hj] at hg
  have h1 := hc (j / n) hi (j % n) u hg.symm
  rw [Nat.add_assoc, e] at h1
  rw [add_row]
  exact h1

/-- A whole row more. -/
theorem wp_copyR {P : Program} {w : World} {o : Oper} {a : Act} {K : Act → World → Prop} {Q : Exit → Act → World → Prop} (st et : TypeId) (bytes : Nat) (z : Value) (hu : P.underlying st = some (.slice et))
    (hinfo : (P.info? et).map (fun i => (i.zero, i.size, i.bytes)) = some (some z, n, bytes)) (hz : z.cells.size = n) (hn : 0 < n) (hby : bytes ≤ 1000) (hf : ∀ x, (f x).length = n) (h1 : ∀ x, ∀ v ∈ f x, v.oneCell' = true)
    (s x : Operand) (ho : o.op = .call { callee := .builtin .append, args := #[s, x], argTypes := #[st, st] }) (B : Nat) (v : Value) (l : List T) (hs : a.eval s = v) (hown : OwnRow w B et n f v l)
    (ra : Option Addr) (rcap : Nat) (row : List T) (hx : a.eval x = .slice ra row.length rcap) (hrow : RowAt w ra n f row) (hra : ra = none → rcap = 0 ∧ row = []) (hlen : l.length + row.length ≤ 1000000) (hB : B ≤ w.heap.size)
    (h : ∀ v' w', OwnRow w' B et n f v' (l ++ row) → Below B w w' → w.grownBy w' v.ownBlock → K (a.put o.dst v') w') : Oper.wp P o a w K Q := by
  obtain ⟨i, hi, hzz⟩ := Option.map_eq_some_iff.1 hinfo
  simp only [Prod.mk.injEq] at hzz
  obtain ⟨hiz, hisz, hiby⟩ := hzz
  have hbb : (l.length + row.length) * bytes ≤ 140737488355328 := by
    have : (l.length + row.length) * bytes ≤ 1000000 * 1000 := Nat.mul_le_mul hlen hby
    omega
  cases ra with
  | none =>
    obtain ⟨rfl, rfl⟩ := hra rfl
    have hrun := run_append_owned_none (P := P) (w := w) B st o.type et i n hu hi v l.length (cellsL f l) hown
    have hK := h v w (by rw [List.append_nil]; exact hown) (Below.refl _ _) ⟨rfl, rfl, rfl, Nat.le_refl _, fun _ _ _ => rfl⟩
    unfold Oper.wp
    simp [execOp, ho, resolve, invoke, builtin, hs, hx, hrun, Result.andThen]
    exact hK
  | some ad =>
    by_cases hne : row = []
    · subst hne
      refine wp_append_own w s x st ho B et i z n bytes hu hi hiz hisz hiby hz hn v l.length (cellsL f l) hs hown ad 0 rcap [] hx (by simp) (by simp) (by simp) (by unfold maxLen; simp at hlen; omega) (by simpa using hbb) hB ?_
      intro v' w' h2 h3 _
      refine h v' w' ?_ ((Below.refl B w).grown h3 hB (fun k hk => (World.ownsRow.lt hown k hk).1)) h3
      unfold OwnRow
      simpa using h2
    · obtain ⟨b, o', e, hc⟩ := hrow.2 hne
      injection e with e
      subst e
      refine wp_append_own w s x st ho B et i z n bytes hu hi hiz hisz hiby hz hn v l.length (cellsL f l) hs hown ⟨b, o', none⟩ row.length rcap (cellsL f row) hx (by rw [cellsL_length hf]) (fun j u hj => hrow.cellAt hf hn j u hj)
        (cellsL_one h1 _) (by unfold maxLen; omega) hbb hB ?_
      intro v' w' h2 h3 _
      refine h v' w' ?_ ((Below.refl B w).grown h3 hB (fun k hk => (World.ownsRow.lt hown k hk).1)) h3
      unfold OwnRow
      rw [List.length_append, cellsL_append]
      exact h2
/-- The same in a region whose order is drawn. -/
theorem step_copyR {P : Program} {w : World} {ops : Array Oper} {o : Oper} {a : Act} {K : Act → World → Prop} {Q : Exit → Act → World → Prop} {E : Prop} (st et : TypeId) (bytes : Nat) (z : Value) (hu : P.underlying st = some (.slice et))
    (hinfo : (P.info? et).map (fun i => (i.zero, i.size, i.bytes)) = some (some z, n, bytes)) (hz : z.cells.size = n) (hn : 0 < n) (hby : bytes ≤ 1000) (hf : ∀ x, (f x).length = n) (h1 : ∀ x, ∀ v ∈ f x, v.oneCell' = true) (hgd : o.guard = none)
    (s x : Operand) (ho : o.op = .call { callee := .builtin .append, args := #[s, x], argTypes := #[st, st] }) (B : Nat) (v : Value) (l : List T) (hs : a.eval s = v) (hown : OwnRow w B et n f v l)
    (ra : Option Addr) (rcap : Nat) (row : List T) (hx : a.eval x = .slice ra row.length rcap) (hrow : RowAt w ra n f row) (hra : ra = none → rcap = 0 ∧ row = []) (hlen : l.length + row.length ≤ 1000000) (hB : B ≤ w.heap.size)
    (h : ∀ v' w', OwnRow w' B et n f v' (l ++ row) → Below B w w' → w.grownBy w' v.ownBlock → K (a.put o.dst v') w') : if Region.wanted o (yielded ops a.tmps) = true then Oper.wp P o a w K Q else E := by
  have hw : Region.wanted o (yielded ops a.tmps) = true := by simp [Region.wanted, hgd]
  rw [if_pos hw]
  exact wp_copyR st et bytes z hu hinfo hz hn hby hf h1 s x ho B v l hs hown ra rcap row hx hrow hra hlen hB h
theorem wpl_copyR {P : Program} {w : World} {ops : Array Oper} {rest : List Oper} {o : Oper} {a : Act} {Q : Exit → Act → World → Prop} (st et : TypeId) (bytes : Nat) (z : Value) (hu : P.underlying st = some (.slice et))
    (hinfo : (P.info? et).map (fun i => (i.zero, i.size, i.bytes)) = some (some z, n, bytes)) (hz : z.cells.size = n) (hn : 0 < n) (hby : bytes ≤ 1000) (hf : ∀ x, (f x).length = n) (h1 : ∀ x, ∀ v ∈ f x, v.oneCell' = true) (hgd : o.guard = none)
    (s x : Operand) (ho : o.op = .call { callee := .builtin .append, args := #[s, x], argTypes := #[st, st] }) (B : Nat) (v : Value) (l : List T) (hs : a.eval s = v) (hown : OwnRow w B et n f v l)
    (ra : Option Addr) (rcap : Nat) (row : List T) (hx : a.eval x = .slice ra row.length rcap) (hrow : RowAt w ra n f row) (hra : ra = none → rcap = 0 ∧ row = []) (hlen : l.length + row.length ≤ 1000000) (hB : B ≤ w.heap.size)
    (h : ∀ v' w', OwnRow w' B et n f v' (l ++ row) → Below B w w' → w.grownBy w' v.ownBlock → wpList P ops Q rest (a.put o.dst v') w') : wpList P ops Q (o :: rest) a w :=
  wpList_plain hgd fun _ hK => wp_copyR st et bytes z hu hinfo hz hn hby hf h1 s x ho B v l hs hown ra rcap row hx hrow hra hlen hB fun v' w' h2 h3 h4 => hK _ _ (h v' w' h2 h3 h4)
end

end Go.Proofs.YtnldkmcijmbhcaaGreat

/- The beginning race keeps, while it goes along a row's clocks. -/
namespace Go.Proofs.YtnldkmcijmbhcaaGreat
open Go.RowKit

/-- All below B but the beginning's own block lies as it lay. -/
structure Low (P B : Nat) (w w' : World) : Prop where
  os : w'.os = w.os
  tape : w'.tape = w.tape
  output : w'.output = w.output
  size : w.heap.size ≤ w'.heap.size
  low : ∀ k, k < B → k ≠ P → w'.heap[k]? = w.heap[k]?
theorem Low.refl (P B : Nat) (w : World) : Low P B w w := ⟨rfl, rfl, rfl, Nat.le_refl _, fun _ _ _ => rfl⟩
theorem Low.trans {P B : Nat} {a b c : World} (h : Low P B a b) (k : Low P B b c) : Low P B a c :=
  ⟨k.os.trans h.os, k.tape.trans h.tape, k.output.trans h.output, Nat.le_trans h.size k.size, fun i hi hp => (k.low i hi hp).trans (h.low i hi hp)⟩
theorem Aside.toLow {P B : Nat} {w w' : World} (h : Aside P B w w') : Low P B w w' := ⟨h.os, h.tape, h.output, h.size, h.low⟩
theorem Low.of_below {P B : Nat} {w w' : World} (h : Below B w w') : Low P B w w' := ⟨h.os, h.tape, h.output, h.size, fun k hk _ => h.block k hk⟩
theorem Low.below {P B A : Nat} {w w' : World} (h : Low P B w w') (hP : A ≤ P) (hA : A ≤ B) : Below A w w' :=
  ⟨h.os, h.tape, h.output, h.size, fun k hk => h.low k (by omega) (by omega)⟩
theorem Low.cell {P B : Nat} {w w' : World} (h : Low P B w w') {a : Addr} (hB : a.block < B) (hP : a.block ≠ P) : w'.cell? a = w.cell? a := by
  unfold World.cell?
  rw [h.low _ hB hP]

/-- A row of races that grows leaves the beginning as it is. -/
theorem PastM.race {w w' : World} {P B n m : Nat} {cs : List (Nat → Nat)} {v v2 : Value} {xs : List (Ev × Sp)} {gs : List Gp} {ys : List Value} (h : PastM w P B cs v xs gs) (ho : w.ownsRow B 98 n v2 m ys) (hb : Below B w w') (hg : w.grownBy w' v2.ownBlock) : PastM w' P B cs v xs gs :=
  ⟨(hb.block P h.lt).trans h.blk, h.own.kept hg (fun r hr t ds hc => by
    have := row_type ho hr _ _ _ hc
    subst this
    exact ⟨by decide, by decide⟩), h.lt, Nat.le_trans h.le hb.size, h.four⟩

/-- A beginning without events. -/
theorem PastM.begin {w W1 : World} (l : List Ev) (hb : Below (w.heap.size + 1) (w.alloc (.cells #[.int .i64 0, .int .i64 0, .int .i64 0, .int .i64 0, .int .i64 0, .int .i64 0, .int .i64 0, .int .i64 0, .int .i64 0, .int .i64 0, .int .i64 0, .int .i64 0, .int .i64 0, .int .i64 0, .int .i64 0, .int .i64 0, .slice none 0 0] 122)) W1) :
    PastM W1 w.heap.size W1.heap.size (csOf l 0) (.slice none 0 0) [] (grp l 0) := by
  have h0 : PaAt (w.alloc (.cells #[.int .i64 0, .int .i64 0, .int .i64 0, .int .i64 0, .int .i64 0, .int .i64 0, .int .i64 0, .int .i64 0, .int .i64 0, .int .i64 0, .int .i64 0, .int .i64 0, .int .i64 0, .int .i64 0, .int .i64 0, .int .i64 0, .slice none 0 0] 122)) w.heap.size (csOf l 0) (.slice none 0 0) := heap_alloc_new w _
  have hs := hb.size
  rw [World.size_alloc] at hs
  exact ⟨(hb.block _ (Nat.lt_succ_self _)).trans h0, ownG_nil _ _, by omega, Nat.le_refl _, csOf_len _ _⟩
theorem num_pos (l : List Ev) (k : Nat) : 0 < num l k := by
  unfold num
  rw [cnt_succ]
  have : isT l (evI l k).thread k = true := by unfold isT; simp
  rw [this]
  simp
/-- A row's clocks, while the beginning grows. -/
theorem clk_low {W1 W : World} {P : Nat} {l : List Ev} {a : Option Addr} (hr : rightL l = true) (hrow : RowAt W1 a 4 ckCell (cks l)) (hP : PaAt W1 P (csOf l 0) (.slice none 0 0)) (hlow : Low P W1.heap.size W1 W) {k : Nat} (hk : k < l.length) :
    ∃ b o, a = some ⟨b, o, none⟩ ∧ W.cell? ⟨b, o + k * 4, none⟩ = some (.int .i64 (clk l k 0)) ∧ W.cell? ⟨b, o + k * 4 + 1, none⟩ = some (.int .i64 (clk l k 1)) ∧ W.cell? ⟨b, o + k * 4 + 2, none⟩ = some (.int .i64 (clk l k 2)) ∧ W.cell? ⟨b, o + k * 4 + 3, none⟩ = some (.int .i64 (clk l k 3)) := by
  have hlc := cks_len hr
  have hkc : k < (cks l).length := by omega
  obtain ⟨b, o, rfl, hc⟩ := hrow.2 (by intro e; rw [e] at hkc; simp at hkc)
  have hb : b < W1.heap.size := cell_block (hc k hkc 0 _ rfl)
  have hbP : b ≠ P := by
    rintro rfl
    have ht := rightEv_bd (e := evI l k) (by rw [evI_get hk]; exact rightL_get hr hk)
    obtain ⟨t, h1⟩ : ∃ t : Nat, (evI l k).thread = t := ⟨(evI l k).thread.toNat, by omega⟩
    have ht4 : t < 4 := by omega
    have h2 : W1.cell? ⟨b, o + k * 4 + t, none⟩ = some (.int .i64 (clk l k t)) := hc k hkc t _ (by rw [cks_get hr hk]; exact nums4_get _ ht4)
    have h3 := clk_own l k
    rw [h1] at h3
    have h4 := num_pos l k
    rw [h3] at h2
    rw [MidAt.cell hP] at h2
    have h5 := List.mem_of_getElem? h2
    have h6 : cellsL ckCell (csOf l 0) = List.replicate 16 (.int .i64 0) := rfl
    rw [h6] at h5
    rcases List.mem_append.1 h5 with h5 | h5
    · have h7 := (List.mem_replicate.1 h5).2
      injection h7 with _ h7
      omega
    · rw [List.mem_singleton] at h5
      cases h5
  have hcell : ∀ j u, (ckCell ((cks l)[k]))[j]? = some u → W.cell? ⟨b, o + k * 4 + j, none⟩ = some u := fun j u hj => (hlow.cell (a := ⟨b, o + k * 4 + j, none⟩) hb hbP).trans (hc k hkc j u hj)
  rw [cks_get hr hk] at hcell
  exact ⟨b, o, rfl, hcell 0 _ rfl, hcell 1 _ rfl, hcell 2 _ rfl, hcell 3 _ rfl⟩

theorem ownRow_low {T : Type} {w : World} {B A n : Nat} {t : TypeId} {f : T → List Value} {v : Value} {l : List T} (h : OwnRow w B t n f v l) (hA : A ≤ B) : OwnRow w A t n f v l := by
  obtain ⟨h1, h2 | ⟨g, cap, cur, h3, h4, h5⟩⟩ := h
  · exact ⟨h1, .inl h2⟩
  · exact ⟨h1, .inr ⟨g, cap, cur, h3, Nat.le_trans hA h4, h5⟩⟩
/-- The list that is told. -/
theorem wpl_appendRcs {w : World} {ops : Array Oper} {rest : List Oper} {o : Oper} {a : Act} {Q : Exit → Act → World → Prop} (hgd : o.guard = none)
    (s x : Operand) (ho : o.op = .call { callee := .builtin .append, args := #[s, x], argTypes := #[95, 95] }) (B : Nat) (v : Value) (l : List (Nat × Int)) (hs : a.eval s = v) (hown : OwnRow w B 98 2 rcCell v l)
    (u : Value) (row : List (Nat × Int)) (hx : a.eval x = u) (hrow : OwnRow w B 98 2 rcCell u row) (hlen : l.length + row.length ≤ 1000000) (hB : B ≤ w.heap.size)
    (h : ∀ v' w', OwnRow w' B 98 2 rcCell v' (l ++ row) → Below B w w' → w.grownBy w' v.ownBlock → wpList Tryz.prog ops Q rest (a.put o.dst v') w') : wpList Tryz.prog ops Q (o :: rest) a w := by
  obtain ⟨ra, rcap, rfl, hr, hn⟩ := hrow.form rcCell_len (by omega)
  refine wpl_copyR 95 98 16 _ Tryz.underlying95 infoRc rfl (by omega) (by omega) rcCell_len rcCell_one hgd s x ho B v l hs hown ra rcap row hx hr (fun e => ⟨hn e, ?_⟩) hlen hB h
  rcases hrow with ⟨_, ⟨_, h2⟩ | ⟨g, cap, cur, h2, _⟩⟩
  · exact List.eq_nil_of_length_eq_zero h2
  · subst e
    cases h2

end Go.Proofs.YtnldkmcijmbhcaaGreat

/- The contract of race's Reversible. -/
namespace Go.Proofs.YtnldkmcijmbhcaaGreat
open Go.RowKit

end Go.Proofs.YtnldkmcijmbhcaaGreat

/- The contract of race's Races. -/
namespace Go.Proofs.YtnldkmcijmbhcaaGreat
open Go.RowKit

/-- The row, if it may be: else none. -/
def okL (l : List Ev) : List Ev := if rightL l = true then l else []
theorem okL_len (l : List Ev) : (okL l).length ≤ l.length := by
  unfold okL
  split
  · exact Nat.le_refl _
  · exact Nat.zero_le _
def RacesR (nx : Int → Option Ev) (nT : Nat) (l : List Ev) (w : World) (r : Ending) (w' : World) : Prop :=
  ∃ rv, r = .returned rv ∧ OwnRow w' w.heap.size 98 2 rcCell rv (racesN nx (okL l) nT) ∧ Below w.heap.size w w'
/-- What holds ahead of thread t. -/
def RsW (P : Nat) (l0 : List Ev) (n : Nat) (v : Value) (xs : List (Ev × Sp)) (nx : Int → Option Ev) (l : List Ev) (W1 : World) (t : Nat) (lv : Value) (W : World) : Prop :=
  PastM W P W1.heap.size (csOf l0 n) v xs (grp l0 n) ∧ OwnRow W W1.heap.size 98 2 rcCell lv (racesN nx l t) ∧ Low P W1.heap.size W1 W

set_option maxRecDepth 100000 in
set_option maxHeartbeats 4000000 in
theorem races_gen (sp : Option Addr) (nT : Nat) (nx : Int → Option Ev) (hnx : ∀ t e, nx t = some e → e.thread = t) (hT : nT ≤ 4) (a : Option Addr) (cap : Nat) (l : List Ev) (w : World) (hl : EvsAt w a l) (hm : l.length ≤ 200)
    (hth : ∀ W, Below w.heap.size w W → Calls Tryz.prog 57 #[.pointer sp] W fun r w' => r = .returned (.int .i64 nT) ∧ W = w')
    (hne : ∀ W (t : Nat), t < nT → Below w.heap.size w W → Calls Tryz.prog 58 #[.pointer sp, .int .i64 t] W fun r w' => r = .returned (evR (nx t)) ∧ Below W.heap.size W w') :
    Calls Tryz.prog 36 #[.pointer sp, .slice a l.length cap] w (RacesR nx nT l w) := by
  have HL := Lib.hid hl
  have HTH := Lib.hid hth
  have HNX := Lib.hid hne
  have HNT := Lib.hid hnx
  clear hl hth hne hnx
  unfold RacesR
  have hb0 := below_alloc1 w (.cells #[.int .i64 0, .int .i64 0, .int .i64 0, .int .i64 0, .int .i64 0, .int .i64 0, .int .i64 0, .int .i64 0, .int .i64 0, .int .i64 0, .int .i64 0, .int .i64 0, .int .i64 0, .int .i64 0, .int .i64 0, .int .i64 0, .slice none 0 0] 122)
  go_enter Tryz.func36, Tryz.ntmps36
  go_wp2_with fail
  refine (clocks_any a cap l _ (HL.out.later hb0) (by omega)).mono ?_
  rintro r W1 ⟨a', cap', rfl, hrow, hb1⟩
  have hb1' := hb1
  rw [World.size_alloc] at hb1'
  have HPM : Hid (PastM W1 w.heap.size W1.heap.size (csOf l 0) (.slice none 0 0) [] (grp l 0)) := PastM.begin l hb1'
  have HB1 : Hid (Below w.heap.size w W1) := hb0.trans (hb1.mono hb0.size)
  have hsz : w.heap.size + 1 ≤ W1.heap.size := by
    have := hb1.size
    rwa [World.size_alloc] at this
  have HROW := Lib.hid hrow
  clear hb0 hb1 hb1' hrow
  have HCK : Hid ((cks l).length = 0 ∨ (rightL l = true ∧ (cks l).length = l.length)) := by
    cases hr : rightL l
    · exact .inl (by rw [cks_wrong hr]; rfl)
    · exact .inr ⟨rfl, cks_len hr⟩
  have hml : (cks l).length ≤ l.length := by rcases HCK.out with h | ⟨_, h⟩ <;> omega
  go_wp2_with fail
  generalize hmm : (cks l).length = m at *
  go_loopw [15] (fun i wr => ∃ k : Nat, k ≤ m ∧ i = .int .i64 k ∧ Hid ((∃ v xs, PastM wr w.heap.size W1.heap.size (csOf l k) v xs (grp l k)) ∧ Low w.heap.size W1.heap.size W1 wr)) (fun i _ => m - (intOf i).toNat)
  case atStart => exact ⟨0, Nat.zero_le _, rfl, ⟨_, _, HPM.out⟩, Low.refl _ _ _⟩
  case round =>
    obtain ⟨k, hk, rfl, HR⟩ := hrel
    by_cases hlt : k < m
    · obtain ⟨hr, hml2⟩ : rightL l = true ∧ m = l.length := by
        rcases HCK.out with h | ⟨h1, h2⟩
        · omega
        · exact ⟨h1, by omega⟩
      have hkl : k < l.length := by omega
      clear hml2
      obtain ⟨⟨v, xs, hp⟩, hlow⟩ := HR.out
      obtain ⟨b, o, rfl, c0, c1, c2, c3⟩ := clk_low hr HROW.out HPM.out.blk hlow hkl
      have hBw : Below w.heap.size w wr := HB1.out.trans (hlow.below (Nat.le_refl _) (by omega))
      obtain ⟨b2, o2, rfl, _⟩ := (HL.out.later hBw).one hkl
      have hb2 := below_alloc1 wr (.cells #[.int .i64 (clk l k 0), .int .i64 (clk l k 1), .int .i64 (clk l k 2), .int .i64 (clk l k 3)] 118)
      have ht := rightEv_bd (e := evI l k) (by rw [evI_get hkl]; exact rightL_get hr hkl)
      have HP4 : Hid (PastM (wr.alloc (.cells #[.int .i64 (clk l k 0), .int .i64 (clk l k 1), .int .i64 (clk l k 2), .int .i64 (clk l k 3)] 118)) w.heap.size W1.heap.size (csOf l k) v xs (grp l k)) := hp.later hb2
      have HLW4 : Hid (Low w.heap.size W1.heap.size W1 (wr.alloc (.cells #[.int .i64 (clk l k 0), .int .i64 (clk l k 1), .int .i64 (clk l k 2), .int .i64 (clk l k 3)] 118))) := hlow.trans (Low.of_below (hb2.mono hp.le))
      have HT4 : Hid (MidAt (wr.alloc (.cells #[.int .i64 (clk l k 0), .int .i64 (clk l k 1), .int .i64 (clk l k 2), .int .i64 (clk l k 3)] 118)) wr.heap.size 118 (nums4 fun u => (clk l k u : Nat))) := heap_alloc_new _ _
      have HEV : Hid (∀ W', Below w.heap.size w W' → W'.cell? ⟨b2, o2 + k * 4, none⟩ = some (.int .i64 (evI l k).thread) ∧ W'.cell? ⟨b2, o2 + k * 4 + 1, none⟩ = some (.int .i64 (evI l k).kind) ∧ W'.cell? ⟨b2, o2 + k * 4 + 2, none⟩ = some (.int .i64 (evI l k).obj) ∧ W'.cell? ⟨b2, o2 + k * 4 + 3, none⟩ = some (.bool (evI l k).fail)) := by
        intro W' hb
        obtain ⟨b3, o3, e3, s0, s1, s2, s3⟩ := (HL.out.later hb).one hkl
        cases e3
        exact ⟨s0, s1, s2, s3⟩
      clear hp hlow hBw hb2
      go_wp2_with fail
      generalize wr.alloc (.cells #[.int .i64 (clk l k 0), .int .i64 (clk l k 1), .int .i64 (clk l k 2), .int .i64 (clk l k 3)] 118) = w4 at *
      have HQ : Hid (∀ W', Below w.heap.size w W' → MidAt W' wr.heap.size 118 (nums4 fun u => (clk l k u : Nat)) →
            (W'.cell? ⟨b2, o2 + k * 4, none⟩ = some (.int .i64 (evI l k).thread) ∧ W'.cell? ⟨b2, o2 + k * 4 + 1, none⟩ = some (.int .i64 (evI l k).kind) ∧ W'.cell? ⟨b2, o2 + k * 4 + 2, none⟩ = some (.int .i64 (evI l k).obj) ∧ W'.cell? ⟨b2, o2 + k * 4 + 3, none⟩ = some (.bool (evI l k).fail)) ∧
            (W'.cell? ⟨wr.heap.size, 0, none⟩ = some (.int .i64 (clk l k 0)) ∧ W'.cell? ⟨wr.heap.size, 1, none⟩ = some (.int .i64 (clk l k 1)) ∧ W'.cell? ⟨wr.heap.size, 2, none⟩ = some (.int .i64 (clk l k 2)) ∧ W'.cell? ⟨wr.heap.size, 3, none⟩ = some (.int .i64 (clk l k 3)))) :=
          fun W' hb hM => ⟨HEV.out W' hb, hM.four⟩
      have HADD := Lib.hid (padd_any w.heap.size W1.heap.size k l v xs w4.drew (HP4.out.later (Below.refl _ w4).drew) hr hkl (by omega))
      have hS0 := HQ.out w4.drew ((HB1.out.trans (HLW4.out.below (Nat.le_refl _) (by omega))).drew) HT4.out
      have hki : (k : Int) < l.length := by omega
      clear c0 c1 c2 c3
      go_region_held3 (fun W' =>
            (W'.cell? ⟨b2, o2 + k * 4, none⟩ = some (.int .i64 (evI l k).thread) ∧ W'.cell? ⟨b2, o2 + k * 4 + 1, none⟩ = some (.int .i64 (evI l k).kind) ∧ W'.cell? ⟨b2, o2 + k * 4 + 2, none⟩ = some (.int .i64 (evI l k).obj) ∧ W'.cell? ⟨b2, o2 + k * 4 + 3, none⟩ = some (.bool (evI l k).fail)) ∧
            (W'.cell? ⟨wr.heap.size, 0, none⟩ = some (.int .i64 (clk l k 0)) ∧ W'.cell? ⟨wr.heap.size, 1, none⟩ = some (.int .i64 (clk l k 1)) ∧ W'.cell? ⟨wr.heap.size, 2, none⟩ = some (.int .i64 (clk l k 2)) ∧ W'.cell? ⟨wr.heap.size, 3, none⟩ = some (.int .i64 (clk l k 3))))
          (first | exact hS0 | exact hS5)
          (first | (go_at_call 56; ((with_reducible refine HADD.out.mono ?_); rintro r w5 ⟨rfl, v5, xs5, hp5, ha5⟩; have HP5 := Lib.hid hp5; have HLW5 : Hid (Low w.heap.size W1.heap.size W1 w5) := HLW4.out.trans ((Low.of_below (Below.refl _ w4).drew).trans ha5.toLow); have hS5 := HQ.out w5 (HB1.out.trans (HLW5.out.below (Nat.le_refl _) (by omega))) (ha5.keep _ _ _ _ HT4.out (by decide) (by decide) (by decide)); clear hp5 ha5)))
      clear hS0 hS5 HADD HT4 HLW4 HEV HP4 HQ
      go_wp2
      go_roundw
      case rel => exact ⟨k + 1, by omega, by go_num, ⟨_, _, HP5.out⟩, HLW5.out⟩
      case measure => simp [intOf]; omega
    · obtain rfl : k = m := by omega
      obtain ⟨l0, n, v, xs, hr0, hn0, hm0, HRA, HP⟩ : ∃ (l0 : List Ev) (n : Nat) (v : Value) (xs : List (Ev × Sp)), rightL l0 = true ∧ n ≤ l0.length ∧ l0.length ≤ 200 ∧ Hid (∀ e, raced l0 n e = withL (okL l) e) ∧ Hid (PastM wr w.heap.size W1.heap.size (csOf l0 n) v xs (grp l0 n)) := by
        obtain ⟨⟨v, xs, hp⟩, hlow⟩ := HR.out
        cases hr : rightL l
        · have hk0 : k = 0 := by
            rcases HCK.out with h | ⟨h, _⟩
            · exact h
            · rw [hr] at h; cases h
          subst hk0
          refine ⟨[], 0, v, xs, rfl, Nat.le_refl _, by simp, fun e => ?_, hp⟩
          unfold okL
          rw [if_neg (by rw [hr]; simp)]
          rfl
        · have hk0 : k = l.length := by
            rw [← hmm]
            exact cks_len hr
          subst hk0
          refine ⟨l, l.length, v, xs, hr, Nat.le_refl _, hm, fun e => ?_, hp⟩
          unfold okL
          rw [if_pos hr, withL_raced]
      have HLW := Lib.hid HR.out.2
      clear HR HCK HROW HPM
      go_wp2_with fail
      refine (HTH.out wr (HB1.out.trans (HLW.out.below (Nat.le_refl _) (by omega)))).mono ?_
      rintro r w' ⟨rfl, rfl⟩
      go_wp2_with fail
      go_loopw [8, 30] (fun lv i wt => ∃ t : Nat, t ≤ nT ∧ i = .int .i64 t ∧ Hid (RsW w.heap.size l0 n v xs nx (okL l) W1 t lv wt)) (fun _ i _ => nT - (intOf i).toNat)
      case atStart => exact ⟨0, Nat.zero_le _, rfl, HP.out, ownRow_nil _ _ _ _ _, HLW.out⟩
      case round =>
        clear HP HLW
        obtain ⟨t, ht, rfl, HR⟩ := hrel
        have HPW := Lib.hid HR.out.1
        have HOW := Lib.hid HR.out.2.1
        have HLW := Lib.hid HR.out.2.2
        clear HR
        by_cases hlt : t < nT
        · go_wp2_with fail
          refine (HNX.out _ t hlt (HB1.out.trans (HLW.out.below (Nat.le_refl _) (by omega)))).mono ?_
          rintro r w2 ⟨rfl, hb2⟩
          have HP2 := Lib.hid (HPW.out.later hb2)
          have HO2 := Lib.hid (HOW.out.later hb2)
          have HL2 : Hid (Low w.heap.size W1.heap.size W1 w2) := HLW.out.trans (Low.of_below (hb2.mono HPW.out.le))
          clear HPW HOW HLW hb2
          cases hn : nx t with
          | none =>
            have hb3 := below_alloc1 w2 (.cells #[.int .i64 0, .int .i64 0, .int .i64 0, .bool false] 81)
            have HP3 := Lib.hid (HP2.out.later hb3)
            have HL3 : Hid (Low w.heap.size W1.heap.size W1 (w2.alloc (.cells #[.int .i64 0, .int .i64 0, .int .i64 0, .bool false] 81))) := HL2.out.trans (Low.of_below (hb3.mono HP2.out.le))
            have HO3 : Hid (OwnRow (w2.alloc (.cells #[.int .i64 0, .int .i64 0, .int .i64 0, .bool false] 81)) W1.heap.size 98 2 rcCell u8 (racesN nx (okL l) (t + 1))) := by
              show OwnRow _ _ _ _ _ _ _
              rw [racesN_succ, hn]
              simp only [List.append_nil]
              exact HO2.out.later hb3
            clear hn hb3 HP2 HO2 HL2
            simp only [evR, evV, ev0, Option.getD_none, Option.isSome_none]
            go_wp2
            go_roundw
            case rel => exact ⟨t + 1, by omega, by go_num, HP3.out, HO3.out, HL3.out⟩
            case measure => simp [intOf]; omega
          | some e =>
            obtain ⟨et, ek, eo, ef⟩ := e
            obtain rfl : et = (t : Int) := HNT.out t _ hn
            have hb3 := below_alloc1 w2 (.cells #[.int .i64 (t : Int), .int .i64 ek, .int .i64 eo, .bool ef] 81)
            have HP3 := Lib.hid (HP2.out.later hb3)
            have HO3 := Lib.hid (HO2.out.later hb3)
            have HL3 : Hid (Low w.heap.size W1.heap.size W1 (w2.alloc (.cells #[.int .i64 (t : Int), .int .i64 ek, .int .i64 eo, .bool ef] 81))) := HL2.out.trans (Low.of_below (hb3.mono HP2.out.le))
            have HE3 : Hid (EvBox (w2.alloc (.cells #[.int .i64 (t : Int), .int .i64 ek, .int .i64 eo, .bool ef] 81)) w2.heap.size ⟨t, ek, eo, ef⟩) := EvBox.new w2 ⟨t, ek, eo, ef⟩
            have HN := Lib.hid hn
            clear hn hb3 HP2 HO2 HL2
            simp only [evR, evV, Option.getD_some, Option.isSome_some]
            obtain ⟨e0, e1, e2, e3⟩ := HE3.out.cells
            go_wp2_with fail
            refine (racing_any w.heap.size W1.heap.size n l0 ⟨t, ek, eo, ef⟩ v xs _ HP3.out hr0 hn0 hm0 (by show (0 : Int) ≤ t; omega) (by show (t : Int) < 4; omega)).mono ?_
            rintro r w4 ⟨rv, rfl, hrv, hb4⟩
            have ho4 := HO3.out.later hb4
            have hp4 := HP3.out.later hb4
            have hle4 : W1.heap.size ≤ w4.heap.size := hp4.le
            have hrv2 : OwnRow w4 W1.heap.size 98 2 rcCell rv (rcT (t : Int) (raced l0 n ⟨t, ek, eo, ef⟩)) := ownRow_low hrv HP3.out.le
            have hrl : (racesN nx (okL l) t).length + (rcT (t : Int) (raced l0 n ⟨t, ek, eo, ef⟩)).length ≤ 1000000 := by
              have h7 := racesN_len nx (okL l) t
              have h8 := raced_len l0 n ⟨t, ek, eo, ef⟩
              have h9 := okL_len l
              have h10 : t * (okL l).length ≤ 4 * 200 := Nat.mul_le_mul (by omega) (by omega)
              unfold rcT
              rw [List.length_map]
              omega
            go_wp2_with (at_builtin; refine wpl_appendRcs rfl _ _ rfl W1.heap.size _ (racesN nx (okL l) t) rfl ho4 _ _ rfl hrv2 hrl hle4 ?_; intro v5 w5 h5 hb5 hg5)
            have HP5 := Lib.hid (hp4.race ho4 hb5 hg5)
            have HO5 : Hid (OwnRow w5 W1.heap.size 98 2 rcCell v5 (racesN nx (okL l) (t + 1))) := by
              show OwnRow _ _ _ _ _ _ _
              rw [racesN_succ, HN.out]
              rw [HRA.out] at h5
              exact h5
            have HL5 : Hid (Low w.heap.size W1.heap.size W1 w5) := (HL3.out.trans (Low.of_below (hb4.mono HP3.out.le))).trans (Low.of_below hb5)
            clear ho4 hp4 hrv2 h5 hb5 hg5 hb4 hrv hrl HN HE3 HP3 HO3 HL3
            go_wp2
            go_roundw
            case rel => exact ⟨t + 1, by omega, by go_num, HP5.out, HO5.out, HL5.out⟩
            case measure => simp [intOf]; omega
        · obtain rfl : t = nT := by omega
          go_wp2
          go_ret
          exact ⟨_, rfl, ownRow_low HOW.out (by omega), HB1.out.trans (HLW.out.below (Nat.le_refl _) (by omega))⟩

end Go.Proofs.YtnldkmcijmbhcaaGreat
