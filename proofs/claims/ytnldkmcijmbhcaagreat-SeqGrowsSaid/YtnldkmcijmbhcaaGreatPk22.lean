import Derived.Deep.RegionHeld3
import Derived.Deep.DeepCutAuto
import Derived.Test.YtnldkmcijmbhcaaGreatPk01
import Derived.Test.YtnldkmcijmbhcaaGreatPk03
import Derived.Test.YtnldkmcijmbhcaaGreatPk04
import Derived.Test.YtnldkmcijmbhcaaGreatPk05
import Derived.Test.YtnldkmcijmbhcaaGreatPk06
import Derived.Test.YtnldkmcijmbhcaaGreatPk13
import Derived.Test.YtnldkmcijmbhcaaGreatPk17
import Derived.Test.YtnldkmcijmbhcaaGreatPk18
import Derived.Test.YtnldkmcijmbhcaaGreatPk21

/- The contract of the document's over. -/
namespace Go.Proofs.YtnldkmcijmbhcaaGreat
open Go.RowKit

theorem refNextS (F : Nat) {w : World} {b tb : Nat} {a : Option Addr} {cap tcap : Nat} {s : St} (h : RefAt w b tb a cap tcap s) (hth : ThreadsAt w a s.p.threads) (ok : s.Ok F) (t : Int) :
    Calls Tryz.prog 31 #[.pointer (some ⟨b, 0, none⟩), .int .i64 t] w fun r w' => ∃ e : Ev, r = .returned (.tuple #[.agg #[.int .i64 e.thread, .int .i64 e.kind, .int .i64 e.obj, .bool e.fail], .bool (s.next t).isSome]) ∧ Below w.heap.size w w' :=
  (refNext_any h hth ok t).mono fun _ _ ⟨h1, h2⟩ => ⟨(s.next t).getD ev0, h1, h2⟩

set_option maxRecDepth 100000 in
set_option maxHeartbeats 8000000 in
theorem over_end {W0 : World} {F B mb : Nat} (n most : Nat) (s : St) (row : List Ev) (w : World) (b tb : Nat) (a : Option Addr) (cap tcap : Nat) (ra : Option Addr) (rcap : Nat) (x : SumV) (ok : s.Ok F) (hall : s.all = []) (hr : RefAt w b tb a cap tcap s) (hth : ThreadsAt W0 a s.p.threads) (hw0 : Below W0.heap.size W0 w) (hwm : W0.heap.size ≤ mb) (he : EvsAt w ra row) (hrm : ∀ o, ra = some o → o.block ≠ mb)
    (hs : SumAt w mb B x) (hb : BdS x) (hc : x.c ≤ 5000) (hB : B ≤ w.heap.size) (hm : mb < B) (hbm : b ≠ mb) (htm : tb ≠ mb) (hx : x.c < most) (hmost : most ≤ 1000) :
    Calls Tryz.prog 18 #[.pointer (some ⟨mb, 0, none⟩), .pointer (some ⟨b, 0, none⟩), .slice ra row.length rcap, .int .i64 (most : Int)] w fun r w' => r = .returned (.tuple #[]) ∧ ∃ y, SumAt w' mb B y ∧ OvP n s row most x y ∧ Only mb w w' := by
  obtain ⟨ka, kc, ⟨c0, c1, c2, c3⟩, ⟨f0, f1, f2, f3⟩, _⟩ := hs.cells
  have HS1 : Hid (SumAt (w.setCell ⟨mb, 2, none⟩ (.int .i64 ((x.c : Int) + 1))) mb B { x with c := x.c + 1 }) := hs.setC hm (x.c + 1)
  have hw : IntKind.i64.wrap ((x.c : Int) + 1) = (x.c : Int) + 1 := IntWalk.i64_in _ (by omega)
  have hq : decide ((most : Int) < (x.c : Int) + 1) = false := by simp; omega
  have HO1 : Hid (Only mb w (w.setCell ⟨mb, 2, none⟩ (.int .i64 ((x.c : Int) + 1)))) := (Only.refl mb w).setCell 2 _
  have HR1 := Lib.hid (hr.other hbm htm 2 (.int .i64 ((x.c : Int) + 1)))
  have HTH : Hid (∀ W, Only mb w W → ThreadsAt W a s.p.threads) := fun W ho => hth.later (hw0.trans (ho.below hwm hw0.size))
  have HEV : Hid (∀ W, Only mb w W → EvsAt W ra row) := fun W ho => he.onlyB ho hrm
  have HOK := Lib.hid ok
  have HAL := Lib.hid hall
  have hb1 := hb.1
  have hb2 := hb.2.1
  have hb3 := hb.2.2
  have hz1 : (w.setCell ⟨mb, 2, none⟩ (.int .i64 ((x.c : Int) + 1))).heap.size = w.heap.size := by simp [World.setCell]
  have h4 := ok.len4
  clear hs hr hth he ok hall hw0
  go_enter Tryz.func18, Tryz.ntmps18
  go_wp2_with fail
  generalize w.setCell ⟨mb, 2, none⟩ (.int .i64 ((x.c : Int) + 1)) = W1 at *
  refine (refAll_any HR1.out (HTH.out W1 HO1.out) HOK.out).mono ?_
  rintro r W2 ⟨va, rfl, hva, hb2⟩
  rw [HAL.out] at hva
  obtain ⟨aa, ca, rfl, _, _⟩ := OwnN.form hva (by simp)
  have HO2 : Hid (Only mb w W2) := HO1.out.trans (.of_below hb2)
  have HS2 := Lib.hid (HS1.out.later hb2)
  have HR2 := Lib.hid (HR1.out.later hb2)
  have hz2 := hb2.size
  obtain ⟨ka2, kc2, ⟨d0, d1, d2, d3⟩, ⟨g0, g1, g2, g3⟩, _⟩ := HS2.out.cells
  have hw1 : IntKind.i64.wrap ((x.r : Int) + 1) = (x.r : Int) + 1 := IntWalk.i64_in _ (by omega)
  have HS3 : Hid (SumAt (W2.setCell ⟨mb, 1, none⟩ (.int .i64 ((x.r : Int) + 1))) mb B { x with c := x.c + 1, r := x.r + 1 }) := HS2.out.setR hm (x.r + 1)
  have HO3 : Hid (Only mb w (W2.setCell ⟨mb, 1, none⟩ (.int .i64 ((x.r : Int) + 1)))) := HO2.out.setCell 1 _
  have HR3 := Lib.hid (HR2.out.other hbm htm 1 (.int .i64 ((x.r : Int) + 1)))
  have hz3 : (W2.setCell ⟨mb, 1, none⟩ (.int .i64 ((x.r : Int) + 1))).heap.size = W2.heap.size := by simp [World.setCell]
  simp only [List.length_nil]
  clear HS1 HO1 HR1 hva c0 c1 c2 c3 f0 f1 f2 f3
  go_wp2_with fail
  generalize W2.setCell ⟨mb, 1, none⟩ (.int .i64 ((x.r : Int) + 1)) = W3 at *
  obtain ⟨ka3, kc3, ⟨i0, i1, i2, i3⟩, ⟨j0, j1, j2, j3⟩, hown3⟩ := HS3.out.cells
  have HOW3 := Lib.hid hown3
  clear hown3 d0 d1 d2 d3 g0 g1 g2 g3
  have HKEY : Hid (∀ W, Only mb w W → Calls Tryz.prog 30 #[.slice ra row.length rcap] W fun r w' => r = .returned (.string ⟨(keyB row).toArray⟩) ∧ Below W.heap.size W w') := fun W h => refKey_any ra rcap row W (HEV.out W h)
  have hBw : B ≤ W3.heap.size := by omega
  have HO3d : Only mb w W3.drew := HO3.out.drew
  have hB9 : Below W3.heap.size W3 W3.drew := (Below.refl _ _).drew
  have HPUT : Hid (∀ W, Below W3.heap.size W3 W → Calls Tryz.prog 29 #[.slice ka3 x.k.length kc3, .string ⟨(keyB row).toArray⟩] W fun r w' => ∃ a2 cap2, r = .returned (.slice a2 (putK x.k (keyB row)).length cap2) ∧ OwnRow w' B 9 1 strCell (.slice a2 (putK x.k (keyB row)).length cap2) (putK x.k (keyB row)) ∧ Below W.heap.size W w') := fun W h => put_any B ka3 kc3 x.k (keyB row) W (HOW3.out.later h) (by omega) (Nat.le_trans hBw h.size)
  have HSB : Hid (∀ W a2 cap2, Below W3.heap.size W3 W → OwnRow W B 9 1 strCell (.slice a2 (putK x.k (keyB row)).length cap2) (putK x.k (keyB row)) → SumAt (W.setCell ⟨mb, 0, none⟩ (.slice a2 (putK x.k (keyB row)).length cap2)) mb B { x with c := x.c + 1, r := x.r + 1, k := putK x.k (keyB row) }) := fun W a2 cap2 h ho => (HS3.out.later h).setK hm ho
  have HPL : Hid ((putK x.k (keyB row)).length ≤ x.c + 1) := by have := putK_len x.k (keyB row); show _ ≤ _; omega
  have HKR : Hid ((keysOf [(s, row)]).foldl putK x.k = putK x.k (keyB row)) := rfl
  generalize keyB row = K at *
  generalize putK x.k K = KS at *
  go_upto_region 5 with (fail)
  go_cut [] (fun wx => Hid (SumAt wx mb B { x with c := x.c + 1, r := x.r + 1, k := KS }) ∧ Hid (Only mb w wx) ∧ Hid (RefAt wx b tb a cap tcap s))
  case first =>
    go_wp2_with fail
    go_region_with (first
      | (go_simp; go_at_call 30; ((with_reducible refine (HKEY.out _ HO3d).mono ?_); rintro r w5 ⟨rfl, hb5⟩; have hB5 := hB9.trans (hb5.mono hB9.size); have i05 := cell_later hB5 i0))
      | (go_simp; go_at_call 29; ((with_reducible refine (HPUT.out _ hB5).mono ?_); rintro r w6 ⟨a6, c6, rfl, ho6, hb6⟩; have hB6 := hB5.trans (hb6.mono hB5.size); have i06 := cell_later hB6 i0; have j06 := (hB6.frozen (p := ⟨mb, 0, none⟩) (by show mb < _; omega)).trans j0; have HO6 := Lib.hid ho6; clear ho6)))
    all_goals
      have HSM := Lib.hid (HSB.out _ _ _ hB6 HO6.out)
      have HOM : Hid (Only mb w (w6.setCell ⟨mb, 0, none⟩ (.slice a6 KS.length c6))) := (HO3.out.trans (.of_below hB6)).setCell 0 _
      have HRM : Hid (RefAt (w6.setCell ⟨mb, 0, none⟩ (.slice a6 KS.length c6)) b tb a cap tcap s) := (HR3.out.later hB6).other hbm htm 0 _
      go_wp2_with fail
      go_meet
      exact ⟨HSM.out, HOM.out, HRM.out⟩
  case rest =>
    obtain ⟨HS7, HO7, HR7⟩ := hcut
    clear i0 i1 i2 i3 j0 j1 j2 j3 HKEY HPUT HSB
    have HSTK : Hid (stuckN [(s, row)] = if waits s then 1 else 0) := by show _ = _; unfold stuckN; cases h : waits s <;> simp [h]
    have HWT : Hid (waits s = waitsTo s s.ts.length) := rfl
    have hzc : W0.heap.size ≤ mb := hwm
    have HP7 : Hid (∀ st', st' = x.st + (if waits s then 1 else 0) → OvP n s row most x { x with c := x.c + 1, r := x.r + 1, k := KS, st := st' }) := fun st' hst => by
      obtain ⟨h1, h2⟩ := runs_end n s row HAL.out
      unfold OvP
      rw [h1, h2]
      refine ⟨fun _ => ⟨rfl, HKR.out.symm, rfl, ?_⟩, fun h => by omega, fun h => by omega, fun _ => by show x.c + 1 ≤ _; omega, ?_⟩
      · rw [HSTK.out]; exact hst
      · refine ⟨HPL.out, by show x.r + 1 ≤ x.c + 1; omega, ?_⟩
        show st' ≤ x.c + 1
        rw [hst]
        split <;> omega
    have hw3 : IntKind.i64.wrap ((x.st : Int) + 1) = (x.st : Int) + 1 := IntWalk.i64_in _ (by omega)
    clear HKR HPL HAL
    generalize wc = W7 at *
    go_wp2_with fail
    go_loopw [9, 10] (fun s9 i wr => ∃ k : Nat, k ≤ s.ts.length ∧ i = .int .i64 k ∧ s9 = .bool (waitsTo s k) ∧ Hid (Below W7.heap.size W7 wr)) (fun _ i _ => s.ts.length - (intOf i).toNat)
    case atStart => exact ⟨0, Nat.zero_le _, rfl, rfl, Below.refl _ _⟩
    case round =>
      obtain ⟨k, hk, rfl, rfl, HB⟩ := hrel
      have HRk := Lib.hid (HR7.out.later HB.out)
      have p3 := HRk.out.prog.2
      have hbl := HRk.out.lt.1
      by_cases hlt : k < s.ts.length
      · have HN := Lib.hid (refNextS F HRk.out (HTH.out wr (HO7.out.trans (.of_below HB.out))) HOK.out k)
        have HSU := Lib.hid (waitsTo_succ s k)
        have hBB := HB.out.size
        go_wp2_with fail
        refine HN.out.mono ?_
        rintro r w8 ⟨e, rfl, hb8⟩
        have HB9 := Lib.hid ((HB.out.trans (hb8.mono hBB)).alloc (HB.out.trans (hb8.mono hBB)).size (.cells #[.int .i64 e.thread, .int .i64 e.kind, .int .i64 e.obj, .bool e.fail] 81))
        clear hb8 HN p3
        generalize (s.next k).isSome = d at *
        generalize waitsTo s k = g at *
        cases g
        · have HS2 : Hid (waitsTo s (k + 1) = d) := by show _ = _; rw [HSU.out]; simp
          go_wp2_with fail
          go_roundw
          case rel => exact ⟨k + 1, by omega, by go_num, by rw [HS2.out], HB9.out⟩
          case measure => simp [intOf]; omega
        · have HS2 : Hid (waitsTo s (k + 1) = true) := by show _ = _; rw [HSU.out]; simp
          go_wp2_with fail
          go_roundw
          case rel => exact ⟨k + 1, by omega, by go_num, by rw [HS2.out], HB9.out⟩
          case measure => simp [intOf]; omega
      · obtain rfl : k = s.ts.length := by omega
        have HS8 := Lib.hid (HS7.out.later HB.out)
        have HO8 : Hid (Only mb w wr) := HO7.out.trans (.of_below HB.out)
        obtain ⟨ka8, kc8, ⟨i0, i1, i2, i3⟩, ⟨j0, j1, j2, j3⟩, _⟩ := HS8.out.cells
        rw [← HWT.out]
        cases hwt : waits s
        · have HPF := Lib.hid (HP7.out x.st (by rw [hwt]; rfl))
          clear hwt
          go_wp2_with fail
          go_loopw [13] (fun i w' => i = .int .i64 0 ∧ Hid (SumAt w' mb B { x with c := x.c + 1, r := x.r + 1, k := KS }) ∧ Hid (Only mb w w')) (fun _ _ => 0)
          case atStart => exact ⟨rfl, HS8.out, HO8.out⟩
          case round =>
            obtain ⟨rfl, HSZ, HOZ⟩ := hrel
            go_wp2_with fail
            go_end0
            exact ⟨rfl, _, HSZ.out, HPF.out, HOZ.out⟩
        · have HPF := Lib.hid (HP7.out (x.st + 1) (by rw [hwt]; rfl))
          have HSF : Hid (SumAt (wr.setCell ⟨mb, 3, none⟩ (.int .i64 ((x.st : Int) + 1))) mb B { x with c := x.c + 1, r := x.r + 1, k := KS, st := x.st + 1 }) := HS8.out.setS hm (x.st + 1)
          have HOF : Hid (Only mb w (wr.setCell ⟨mb, 3, none⟩ (.int .i64 ((x.st : Int) + 1)))) := HO8.out.setCell 3 _
          clear hwt
          go_wp2_with fail
          go_loopw [13] (fun i w' => i = .int .i64 0 ∧ Hid (SumAt w' mb B { x with c := x.c + 1, r := x.r + 1, k := KS, st := x.st + 1 }) ∧ Hid (Only mb w w')) (fun _ _ => 0)
          case atStart => exact ⟨rfl, HSF.out, HOF.out⟩
          case round =>
            obtain ⟨rfl, HSZ, HOZ⟩ := hrel
            go_wp2_with fail
            go_end0
            exact ⟨rfl, _, HSZ.out, HPF.out, HOZ.out⟩

end Go.Proofs.YtnldkmcijmbhcaaGreat

/- A whole row of events behind a row of one's own, and what else stays. -/
namespace Go.Proofs.YtnldkmcijmbhcaaGreat
open Go.RowKit

theorem wp_copyE2 {w : World} {o : Oper} {a : Act} {K : Act → World → Prop} {Q : Exit → Act → World → Prop} (s x : Operand)
    (ho : o.op = .call { callee := .builtin .append, args := #[s, x], argTypes := #[57, 57] }) (B : Nat) (v : Value) (es : List Ev) (hs : a.eval s = v) (hown : OwnE w B v es)
    (ra : Option Addr) (rcap : Nat) (row : List Ev) (hx : a.eval x = .slice ra row.length rcap) (hrow : EvsAt w ra row) (hra : ra = none → rcap = 0 ∧ row = [])
    (hlen : es.length + row.length ≤ 1000000) (hB : B ≤ w.heap.size)
    (h : ∀ v' w', OwnE w' B v' (es ++ row) → Below B w w' → w.grownBy w' v.ownBlock → K (a.put o.dst v') w') : Oper.wp Tryz.prog o a w K Q := by
  have hinfo : (Tryz.prog.info? 81).map (fun i => (i.zero, i.size, i.bytes)) = some (some (.agg #[.int .i64 0, .int .i64 0, .int .i64 0, .bool false]), 4, 32) := by kernel_rfl
  obtain ⟨i, hi, hzz⟩ := Option.map_eq_some_iff.1 hinfo
  simp only [Prod.mk.injEq] at hzz
  obtain ⟨hz, hsz, hby⟩ := hzz
  cases ra with
  | none =>
    obtain ⟨rfl, rfl⟩ := hra rfl
    have hrun := run_append_owned_none (P := Tryz.prog) (w := w) B 57 o.type 81 i 4 Tryz.underlying57 hi v es.length (evCells es) hown
    have hK := h v w (by rw [List.append_nil]; exact hown) (Below.refl _ _) ⟨rfl, rfl, rfl, Nat.le_refl _, fun _ _ _ => rfl⟩
    unfold Oper.wp
    simp [execOp, ho, resolve, invoke, builtin, hs, hx, hrun, Result.andThen]
    exact hK
  | some ad =>
    by_cases hne : row = []
    · subst hne
      refine wp_append_own w s x 57 ho B 81 i (.agg #[.int .i64 0, .int .i64 0, .int .i64 0, .bool false]) 4 32 Tryz.underlying57 hi hz hsz hby rfl (by decide) v es.length (evCells es) hs hown ad 0 rcap [] hx (by simp) (by simp) (by simp) (by unfold maxLen; omega) (by omega) hB ?_
      intro v' w' h1 h2 _
      refine h v' w' ?_ ((Below.refl B w).grown h2 hB (fun k hk => (World.ownsRow.lt hown k hk).1)) h2
      unfold OwnE
      simpa using h1
    · obtain ⟨b, o', e, hc⟩ := hrow.2 hne
      injection e with e
      subst e
      refine wp_append_own w s x 57 ho B 81 i (.agg #[.int .i64 0, .int .i64 0, .int .i64 0, .bool false]) 4 32 Tryz.underlying57 hi hz hsz hby rfl (by decide) v es.length (evCells es) hs hown ⟨b, o', none⟩ row.length rcap (evCells row) hx (by rw [evCells_length]) (fun j u hj => hrow.cellAt j u hj)
        (evCells_one _) (by unfold maxLen; omega) (by omega) hB ?_
      intro v' w' h1 h2 _
      refine h v' w' ?_ ((Below.refl B w).grown h2 hB (fun k hk => (World.ownsRow.lt hown k hk).1)) h2
      unfold OwnE
      rw [List.length_append, evCells_append]
      exact h1

/-- The same in a region whose order is drawn. -/
theorem step_copyE2 {w : World} {ops : Array Oper} {o : Oper} {a : Act} {K : Act → World → Prop} {Q : Exit → Act → World → Prop} {E : Prop} (hgd : o.guard = none) (s x : Operand)
    (ho : o.op = .call { callee := .builtin .append, args := #[s, x], argTypes := #[57, 57] }) (B : Nat) (v : Value) (es : List Ev) (hs : a.eval s = v) (hown : OwnE w B v es)
    (ra : Option Addr) (rcap : Nat) (row : List Ev) (hx : a.eval x = .slice ra row.length rcap) (hrow : EvsAt w ra row) (hra : ra = none → rcap = 0 ∧ row = [])
    (hlen : es.length + row.length ≤ 1000000) (hB : B ≤ w.heap.size)
    (h : ∀ v' w', OwnE w' B v' (es ++ row) → Below B w w' → w.grownBy w' v.ownBlock → K (a.put o.dst v') w') : if Region.wanted o (yielded ops a.tmps) = true then Oper.wp Tryz.prog o a w K Q else E := by
  have hw : Region.wanted o (yielded ops a.tmps) = true := by simp [Region.wanted, hgd]
  rw [if_pos hw]
  exact wp_copyE2 s x ho B v es hs hown ra rcap row hx hrow hra hlen hB h

theorem evs_one1 (w : World) (e : Ev) : EvsAt (w.alloc (.cells #[.int .i64 e.thread, .int .i64 e.kind, .int .i64 e.obj, .bool e.fail] 81)) (some ⟨w.heap.size, 0, none⟩) [e] := by
  refine ⟨by simp [maxLen], fun _ => ⟨w.heap.size, 0, rfl, fun i hi => ?_⟩⟩
  obtain rfl : i = 0 := by simp at hi; omega
  simp
theorem EvsAt.grown {w w' : World} {g : Nat} {l : List Ev} {row : Option Nat} (h : EvsAt w (some ⟨g, 0, none⟩) l) (hg : w.grownBy w' row) (hne : some g ≠ row) : EvsAt w' (some ⟨g, 0, none⟩) l := by
  refine ⟨h.1, fun hn => ?_⟩
  obtain ⟨b, o, e, hc⟩ := h.2 hn
  cases e
  refine ⟨g, 0, rfl, fun i hi => ?_⟩
  obtain ⟨h0, h1, h2, h3⟩ := hc i hi
  have hs : ∀ o, w'.cell? ⟨g, o, none⟩ = w.cell? ⟨g, o, none⟩ := fun o => World.cell?_of_block (hg.block g (cell_block h0) hne)
  exact ⟨(hs _).trans h0, (hs _).trans h1, (hs _).trans h2, (hs _).trans h3⟩

/-- The three ways in which an empty row and a row of one come to lie. -/
structure Ways (W : World) (e : Ev) : Prop where
  a : OwnE (W.alloc (.cells #[] 81)).drew W.heap.size (.slice (some ⟨W.heap.size, 0, none⟩) 0 0) []
  b : OwnE ((W.alloc (.cells #[] 81)).alloc (.cells #[.int .i64 e.thread, .int .i64 e.kind, .int .i64 e.obj, .bool e.fail] 81)).drew W.heap.size (.slice (some ⟨W.heap.size, 0, none⟩) 0 0) []
  bt : EvsAt ((W.alloc (.cells #[] 81)).alloc (.cells #[.int .i64 e.thread, .int .i64 e.kind, .int .i64 e.obj, .bool e.fail] 81)).drew (some ⟨W.heap.size + 1, 0, none⟩) [e]
  c : OwnE ((W.alloc (.cells #[.int .i64 e.thread, .int .i64 e.kind, .int .i64 e.obj, .bool e.fail] 81)).alloc (.cells #[] 81)).drew W.heap.size (.slice (some ⟨W.heap.size + 1, 0, none⟩) 0 0) []
  ct : EvsAt ((W.alloc (.cells #[.int .i64 e.thread, .int .i64 e.kind, .int .i64 e.obj, .bool e.fail] 81)).alloc (.cells #[] 81)).drew (some ⟨W.heap.size, 0, none⟩) [e]
theorem ways (W : World) (e : Ev) : Ways W e := by
  have h0 : OwnE (W.alloc (.cells #[] 81)) W.heap.size (.slice (some ⟨W.heap.size, 0, none⟩) 0 0) [] := ownE_empty W _ rfl
  have h1 : OwnE ((W.alloc (.cells #[.int .i64 e.thread, .int .i64 e.kind, .int .i64 e.obj, .bool e.fail] 81)).alloc (.cells #[] 81)) (W.heap.size + 1) (.slice (some ⟨W.heap.size + 1, 0, none⟩) 0 0) [] := by
    have := ownE_empty (W.alloc (.cells #[.int .i64 e.thread, .int .i64 e.kind, .int .i64 e.obj, .bool e.fail] 81)) _ rfl
    rwa [World.size_alloc] at this
  have h2 := evs_one1 (W.alloc (.cells #[] 81)) e
  rw [World.size_alloc] at h2
  have h3 := (evs_one1 W e).later (below_alloc1 _ (.cells #[] 81))
  refine ⟨h0, OwnE.alloc h0 _, h2, ?_, h3⟩
  obtain ⟨g1, g2 | ⟨g, cap, cur, g2, g3, g4⟩⟩ := h1
  · exact ⟨g1, .inl g2⟩
  · exact ⟨g1, .inr ⟨g, cap, cur, g2, by omega, g4⟩⟩

end Go.Proofs.YtnldkmcijmbhcaaGreat

/- The contract of the document's over, one step more. -/
namespace Go.Proofs.YtnldkmcijmbhcaaGreat
open Go.RowKit

/-- Behind j threads that may. -/
def OvJ (n : Nat) (s : St) (row : List Ev) (most : Nat) (x : SumV) (j : Nat) (y : SumV) : Prop :=
  (x.c + preTo n s j ≤ most → y.c = x.c + preTo n s j ∧ y.k = (keysOf (runsTo n s row j)).foldl putK x.k ∧ y.r = x.r + (runsTo n s row j).length ∧ y.st = x.st + stuckN (runsTo n s row j)) ∧
    (most < x.c + preTo n s j → most < y.c) ∧ y.c ≤ most + 4 * n + 1 + j ∧ BdS y
theorem ovJ_zero {n : Nat} {s : St} {row : List Ev} {most : Nat} {x : SumV} (h : x.c ≤ most) (hb : BdS x) : OvJ n s row most x 0 x := by
  have h0 : preTo n s 0 = 0 := rfl
  have h1 : runsTo n s row 0 = [] := rfl
  unfold OvJ
  rw [h0, h1]
  exact ⟨fun _ => ⟨rfl, rfl, rfl, rfl⟩, fun h => by omega, by omega, hb⟩
theorem stuckN_append (a b : Ends) : stuckN (a ++ b) = stuckN a + stuckN b := by
  unfold stuckN
  rw [List.filter_append, List.length_append]
theorem keysOf_append (a b : Ends) : keysOf (a ++ b) = keysOf a ++ keysOf b := List.map_append
theorem ovJ_step {n : Nat} {s : St} {row : List Ev} {most : Nat} {x y z : SumV} {j : Nat} {e : Ev} {s1 : St} (h : OvJ n s row most x j y) (hlt : j < s.all.length) (hst : s.step s.all[j] = (0, e, s1)) (hz : OvP n s1 (row ++ [e]) most y z) : OvJ n s row most x (j + 1) z := by
  have hp : preTo n s (j + 1) = preTo n s j + s1.pre n := by have h := preTo_succ n s hlt; rw [hst] at h; exact h
  have hr : runsTo n s row (j + 1) = runsTo n s row j ++ s1.runs n (row ++ [e]) := by have h := runsTo_succ n s row hlt; rw [hst] at h; exact h
  have hpos := pre_pos n s1
  obtain ⟨h1, h2, h3, _⟩ := h
  obtain ⟨z1, z2, z3, z4, z5⟩ := hz
  unfold OvJ
  rw [hp, hr]
  refine ⟨fun hh => ?_, fun hh => ?_, ?_, z5⟩
  · obtain ⟨a1, a2, a3, a4⟩ := h1 (by omega)
    obtain ⟨b1, b2, b3, b4⟩ := z1 (by omega)
    refine ⟨by omega, ?_, ?_, ?_⟩
    · rw [b2, a2, keysOf_append, List.foldl_append]
    · rw [b3, a3, List.length_append]; omega
    · rw [b4, a4, stuckN_append]; omega
  · by_cases hy : most < x.c + preTo n s j
    · have := h2 hy
      have := z3 (by omega)
      omega
    · obtain ⟨a1, _⟩ := h1 (by omega)
      exact z2 (by omega)
  · by_cases hy : y.c < most
    · have := z4 hy
      omega
    · have := z3 (by omega)
      omega
theorem ovJ_all {n : Nat} {s : St} {row : List Ev} {most : Nat} {x y : SumV} (hx : x.c < most) (hne : s.all ≠ []) (h4 : s.all.length ≤ 4) (h : OvJ n s row most { x with c := x.c + 1 } s.all.length y) : OvP (n + 1) s row most x y := by
  have hp := preTo_all n s
  have hr := runsTo_all n s row hne
  obtain ⟨h1, h2, h3, h5⟩ := h
  unfold OvP
  rw [hr, hp]
  dsimp only at h1 h2
  refine ⟨fun hh => ?_, fun hh => h2 (by omega), fun hh => by omega, fun _ => by omega, h5⟩
  obtain ⟨a1, a2, a3, a4⟩ := h1 (by omega)
  exact ⟨by omega, a2, a3, a4⟩

theorem own_form {w : World} {B : Nat} {v : Value} {l : List Ev} (h : OwnE w B v l) (hm : l.length ≤ 1000000) : ∃ a cap, v = .slice a l.length cap ∧ EvsAt w a l ∧ (a = none → cap = 0 ∧ l = []) ∧ ∀ o, a = some o → B ≤ o.block := by
  obtain ⟨a, cap, hv, he⟩ := OwnE.form h hm
  refine ⟨a, cap, hv, he, ?_⟩
  obtain ⟨k1, ⟨k2, k3⟩ | ⟨g, cap', cur, k2, k3, _⟩⟩ := h
  · rw [hv] at k2
    injection k2 with h1 h2 h3
    subst h1
    refine ⟨fun _ => ⟨h3, List.length_eq_zero_iff.1 k3⟩, fun o h => by cases h⟩
  · rw [hv] at k2
    injection k2 with h1 h2 h3
    subst h1
    exact ⟨fun h => (by cases h), fun o h => by injection h with h; subst h; exact k3⟩

end Go.Proofs.YtnldkmcijmbhcaaGreat

/- The contract of the document's over. -/
namespace Go.Proofs.YtnldkmcijmbhcaaGreat
open Go.RowKit

set_option maxRecDepth 100000 in
set_option maxHeartbeats 8000000 in
theorem over_step {W0 : World} {F B mb : Nat} (n most : Nat) (ih : OverH W0 F B mb n most) (s : St) (row : List Ev) (w : World) (b tb : Nat) (a : Option Addr) (cap tcap : Nat) (ra : Option Addr) (rcap : Nat) (x : SumV) (ok : s.Ok F) (hall : s.all ≠ []) (hf : s.fuel ≤ n + 1) (hl : row.length + (n + 1) ≤ 100) (hr : RefAt w b tb a cap tcap s) (hth : ThreadsAt W0 a s.p.threads) (hw0 : Below W0.heap.size W0 w) (hwm : W0.heap.size ≤ mb) (he : EvsAt w ra row) (hra : ra = none → rcap = 0 ∧ row = []) (hrm : ∀ o, ra = some o → o.block ≠ mb)
    (hs : SumAt w mb B x) (hb : BdS x) (hB : B ≤ w.heap.size) (hm : mb < B) (hbm : b ≠ mb) (htm : tb ≠ mb) (hx : x.c < most) (hmost : most ≤ 1000) :
    Calls Tryz.prog 18 #[.pointer (some ⟨mb, 0, none⟩), .pointer (some ⟨b, 0, none⟩), .slice ra row.length rcap, .int .i64 (most : Int)] w fun r w' => r = .returned (.tuple #[]) ∧ ∃ y, SumAt w' mb B y ∧ OvP (n + 1) s row most x y ∧ Only mb w w' := by
  obtain ⟨ka, kc, ⟨c0, c1, c2, c3⟩, ⟨f0, f1, f2, f3⟩, _⟩ := hs.cells
  have HS1 : Hid (SumAt (w.setCell ⟨mb, 2, none⟩ (.int .i64 ((x.c : Int) + 1))) mb B { x with c := x.c + 1 }) := hs.setC hm (x.c + 1)
  have hw : IntKind.i64.wrap ((x.c : Int) + 1) = (x.c : Int) + 1 := IntWalk.i64_in _ (by omega)
  have hq : decide ((most : Int) < (x.c : Int) + 1) = false := by simp; omega
  have HO1 : Hid (Only mb w (w.setCell ⟨mb, 2, none⟩ (.int .i64 ((x.c : Int) + 1)))) := (Only.refl mb w).setCell 2 _
  have HR0 := Lib.hid hr
  have hbl := hr.lt
  have HTH : Hid (∀ W, Only mb w W → ThreadsAt W a s.p.threads) := fun W ho => hth.later (hw0.trans (ho.below hwm hw0.size))
  have HT0 := Lib.hid hth
  have HBW : Hid (∀ W, Only mb w W → Below W0.heap.size W0 W) := fun W ho => hw0.trans (ho.below hwm hw0.size)
  have HEV : Hid (∀ W, Only mb w W → EvsAt W ra row) := fun W ho => he.onlyB ho hrm
  have HRA := Lib.hid hra
  have HOK := Lib.hid ok
  have HIH := Lib.hid ih
  have HAL := Lib.hid hall
  have hb1 := hb.1
  have hb2 := hb.2.1
  have hb3 := hb.2.2
  have hz1 : (w.setCell ⟨mb, 2, none⟩ (.int .i64 ((x.c : Int) + 1))).heap.size = w.heap.size := by simp [World.setCell]
  have h4 := ok.len4
  have hal : s.all.length ≤ 4 := Nat.le_trans s.all_len h4
  have HNE : Hid (1 ≤ s.ts.length) := by have h1 := s.all_len; have h2 := List.length_pos_iff.2 hall; show _ ≤ _; omega
  have hln : ((s.all.length : Int) == 0) = false := by have := List.length_pos_iff.2 hall; simp; exact hall
  have hmw : mb < w.heap.size := by omega
  clear hs hr hth he ok hall hw0 ih hra hb
  go_enter Tryz.func18, Tryz.ntmps18
  go_wp2_with fail
  generalize w.setCell ⟨mb, 2, none⟩ (.int .i64 ((x.c : Int) + 1)) = W1 at *
  refine (refAll_any (HR0.out.only HO1.out hbm htm) (HTH.out W1 HO1.out) HOK.out).mono ?_
  rintro r W2 ⟨va, rfl, hva, hb2'⟩
  obtain ⟨aa, ca, rfl, _, _⟩ := OwnN.form hva (by omega)
  have HN2 := Lib.hid hva
  have HO2 : Hid (Only mb w W2) := HO1.out.trans (.of_below hb2')
  have HS2 := Lib.hid (HS1.out.later hb2')
  have hz2 := hb2'.size
  clear HS1 HO1 hva c0 c1 c2 c3 f0 f1 f2 f3 hb2'
  go_wp2_with fail
  go_loopw [13] (fun i wr => ∃ (j : Nat) (y : SumV), j ≤ s.all.length ∧ i = .int .i64 j ∧ Hid (OvJ n s row most { x with c := x.c + 1 } j y) ∧ Hid (SumAt wr mb B y) ∧ Hid (Only mb w wr) ∧ Hid (Only mb W2 wr)) (fun i _ => s.all.length - (intOf i).toNat)
  case atStart => exact ⟨0, _, Nat.zero_le _, rfl, ovJ_zero (by show x.c + 1 ≤ most; omega) (bdS_step ⟨hb1, hb2, hb3⟩), HS2.out, HO2.out, Only.refl _ _⟩
  case round =>
    obtain ⟨j, y, hj, rfl, HJ, HSJ, HOJ, HO2J⟩ := hrel
    have hzr := HOJ.out.size
    have hzr2 := HO2J.out.size
    by_cases hlt : j < s.all.length
    · have hmem := List.getElem_mem hlt
      obtain ⟨e, s1, hst, hfu⟩ := all_step' hmem
      have HSTEP : Hid (∀ z, OvP n s1 (row ++ [e]) most y z → OvJ n s row most { x with c := x.c + 1 } (j + 1) z) := fun z hz => ovJ_step HJ.out hlt hst hz
      have hNr : ∀ g, (Value.slice aa s.all.length ca).ownBlock = some g → ¬ g = mb := by
        intro g hg
        have := (World.ownsRow.lt HN2.out g hg).1
        omega
      obtain ⟨_, _, hv9, hna, _⟩ := OwnN.form (HN2.out.onlyS (OnlyS.of_only (S := fun k => k = mb) HO2J.out rfl) hNr) (by omega)
      injection hv9 with hv1 _ hv3
      subst hv1 hv3
      obtain ⟨ba, oa, rfl, hca⟩ := hna.2 (by intro e; rw [e] at hlt; simp at hlt)
      have ct := hca j hlt
      have HST := Lib.hid hst
      have hok1 : s1.Ok F := by have h := HOK.out.step_ok s.all[j]; rw [hst] at h; exact h
      have hp1 : s1.p = s.p := by
        have h : (s.step s.all[j]).2.2.p = s.p := by
          rcases s.step_cases s.all[j] with ⟨i, _, _, e⟩ | ⟨e, _, e'⟩
          · rw [e]; rfl
          · rw [e']
        rw [hst] at h
        exact h
      have HOK1 := Lib.hid hok1
      have HP1 := Lib.hid hp1
      have HRr := Lib.hid (HR0.out.only HOJ.out hbm htm)
      have HCY : Hid (y.c ≤ 5000) := by have := HJ.out.2.2.1; show _ ≤ _; omega
      have HBY : Hid (BdS y) := HJ.out.2.2.2
      clear hca hna hNr hst hmem hok1 hp1
      generalize s.all[j] = t at *
      go_wp2_with fail
      refine (refCopy_any HRr.out HNE.out h4).mono ?_
      rintro r W3 ⟨nb, ntb, ntc, rfl, hnb, hntb, hr3, hb3'⟩
      have HR3 := Lib.hid hr3
      have HO3 : Hid (Only mb w W3) := HOJ.out.trans (.of_below hb3')
      have hz3 := hb3'.size
      have ct3 := cell_later hb3' ct
      clear hr3
      go_wp2_with fail
      refine (refStep_any HR3.out (HTH.out W3 HO3.out) HOK.out t).mono ?_
      rintro r W4 ⟨rfl, hr4, ho4⟩
      rw [HST.out] at hr4 ⊢
      rw [stepV_ok]
      have hb4 : Below wr.heap.size wr W4 := hb3'.trans (ho4.below hnb hntb hb3'.size)
      have HR4 := Lib.hid hr4
      clear hr4 ho4 HO3 HR3 hb3' ct3
      go_wp2_with fail
      have HBX := Lib.hid (EvBox.new W4 e)
      have hb5 : Below wr.heap.size wr (W4.alloc (.cells #[.int .i64 e.thread, .int .i64 e.kind, .int .i64 e.obj, .bool e.fail] 81)) := hb4.alloc hb4.size _
      have HR5 := Lib.hid (HR4.out.later (below_alloc1 W4 (.cells #[.int .i64 e.thread, .int .i64 e.kind, .int .i64 e.obj, .bool e.fail] 81)))
      have hz45 : W4.heap.size < (W4.alloc (.cells #[.int .i64 e.thread, .int .i64 e.kind, .int .i64 e.obj, .bool e.fail] 81)).heap.size := by simp
      have hz4r := hb4.size
      clear HR4 hb4
      generalize W4.alloc (.cells #[.int .i64 e.thread, .int .i64 e.kind, .int .i64 e.obj, .bool e.fail] 81) = W5 at *
      have hz5r := hb5.size
      obtain ⟨row', hrw⟩ : ∃ l, l = row ++ [e] := ⟨_, rfl⟩
      have hrl : row'.length = row.length + 1 := by rw [hrw]; simp
      have HCALL : Hid (∀ (W : World) (v : Value), Below W5.heap.size W5 W → OwnE W W5.heap.size v (row ++ [e]) → ∃ a9 c9, v = .slice a9 row'.length c9 ∧ Calls Tryz.prog 18 #[.pointer (some ⟨mb, 0, none⟩), .pointer (some ⟨nb, 0, none⟩), .slice a9 row'.length c9, .int .i64 (most : Int)] W fun r w' => r = .returned (.tuple #[]) ∧ ∃ z, SumAt w' mb B z ∧ OvJ n s row most { x with c := x.c + 1 } (j + 1) z ∧ Only mb w w' ∧ Only mb W2 w' ∧ EvBox w' W4.heap.size e) := by
        intro W v hbw hown
        rw [← hrw] at hown
        obtain ⟨a9, c9, hv, hev, hnone, hblk⟩ := own_form hown (by omega)
        have hbl9 : Below wr.heap.size wr W := hb5.trans (hbw.mono hb5.size)
        have ho9 : Only mb w W := HOJ.out.trans (.of_below hbl9)
        have hbx9 := HBX.out.later hbw
        refine ⟨a9, c9, hv, (HIH.out s1 row' W nb ntb a cap ntc a9 c9 y HOK1.out (by omega) (by omega) (HR5.out.later hbw) (by rw [HP1.out]; exact HT0.out) (HBW.out W ho9) hev hnone (fun o h => by have := hblk o h; omega) (HSJ.out.later hbl9) HBY.out HCY.out (by have := ho9.size; omega) (by omega) (by omega)).mono ?_⟩
        rintro r w' ⟨rfl, z, h1, h2, h3⟩
        rw [hrw] at h2
        exact ⟨rfl, z, h1, HSTEP.out z h2, ho9.trans h3, (HO2J.out.trans (.of_below hbl9)).trans h3, hbx9.only h3 (by omega)⟩
      have HQ : Hid (∀ W : World, Below W5.heap.size W5 W → W.cell? ⟨W4.heap.size, 0, none⟩ = some (.int .i64 e.thread) ∧ W.cell? ⟨W4.heap.size, 1, none⟩ = some (.int .i64 e.kind) ∧ W.cell? ⟨W4.heap.size, 2, none⟩ = some (.int .i64 e.obj) ∧ W.cell? ⟨W4.heap.size, 3, none⟩ = some (.bool e.fail)) := fun W h => (HBX.out.later h).cells
      have HEB : Hid (∀ W : World, Below W5.heap.size W5 W → EvsAt W ra row) := fun W h => HEV.out W (HOJ.out.trans (.of_below (hb5.trans (h.mono hb5.size))))
      have hB9 : Below W5.heap.size W5 W5.drew := (Below.refl _ _).drew
      have hBA : Below W5.heap.size W5 (W5.alloc (.cells #[] 81)).drew := (below_alloc1 W5 _).drew
      have hBE : Below W5.heap.size W5 (W5.alloc (.cells #[.int .i64 e.thread, .int .i64 e.kind, .int .i64 e.obj, .bool e.fail] 81)).drew := (below_alloc1 W5 _).drew
      have hBAE : Below W5.heap.size W5 ((W5.alloc (.cells #[] 81)).alloc (.cells #[.int .i64 e.thread, .int .i64 e.kind, .int .i64 e.obj, .bool e.fail] 81)).drew := (below_alloc2 W5 _ _).drew
      have hBEA : Below W5.heap.size W5 ((W5.alloc (.cells #[.int .i64 e.thread, .int .i64 e.kind, .int .i64 e.obj, .bool e.fail] 81)).alloc (.cells #[] 81)).drew := (below_alloc2 W5 _ _).drew
      have HWY := Lib.hid (ways W5 e)
      have hzl : ([] : List Ev).length + row.length ≤ 1000000 := by simp; omega
      have hzl2 : row.length + [e].length ≤ 1000000 := by simp; omega
      clear hrw hrl HBX HR5 HST hfu HSTEP HCY HBY HSJ HOJ HO2J HOK1 HP1 hnb hntb ct hbl
      go_wp2_with fail
      go_region_held3 (fun W => W.cell? ⟨W4.heap.size, 0, none⟩ = some (.int .i64 e.thread) ∧ W.cell? ⟨W4.heap.size, 1, none⟩ = some (.int .i64 e.kind) ∧ W.cell? ⟨W4.heap.size, 2, none⟩ = some (.int .i64 e.obj) ∧ W.cell? ⟨W4.heap.size, 3, none⟩ = some (.bool e.fail))
        (first | exact HQ.out _ hB9 | exact HQ.out _ hBA | exact HQ.out _ hBE | exact HQ.out _ hBAE | exact HQ.out _ hBEA | exact HQ.out _ hB6 | exact HQ.out _ (hB6.alloc hB6.size _) | exact HQ.out _ hB7 | exact HQ8.out)
        (first
          | (refine step_copyE2 (w := (W5.alloc (.cells #[] 81)).drew) (by rfl) (.tmp 98) (.tmp 99) (by rfl) W5.heap.size _ [] (by rfl) HWY.out.a ra rcap row (by rfl) (HEB.out _ hBA) HRA.out hzl hBA.size ?_; intro v6 w6 h6 hb6 hg6; have H6 : Hid (OwnE w6 W5.heap.size v6 row) := h6; have hB6 : Below W5.heap.size W5 w6 := hBA.trans hb6; clear h6 hb6 hg6)
          | (refine step_copyE2 (w := ((W5.alloc (.cells #[] 81)).alloc (.cells #[.int .i64 e.thread, .int .i64 e.kind, .int .i64 e.obj, .bool e.fail] 81)).drew) (by rfl) (.tmp 98) (.tmp 99) (by rfl) W5.heap.size _ [] (by rfl) HWY.out.b ra rcap row (by rfl) (HEB.out _ hBAE) HRA.out hzl hBAE.size ?_; intro v6 w6 h6 hb6 hg6; have H6 : Hid (OwnE w6 W5.heap.size v6 row) := h6; have hB6 : Below W5.heap.size W5 w6 := hBAE.trans hb6; have HT6 := Lib.hid (HWY.out.bt.grown hg6 (by simp [Value.ownBlock])); clear h6 hb6 hg6)
          | (refine step_copyE2 (w := ((W5.alloc (.cells #[.int .i64 e.thread, .int .i64 e.kind, .int .i64 e.obj, .bool e.fail] 81)).alloc (.cells #[] 81)).drew) (by rfl) (.tmp 98) (.tmp 99) (by rfl) W5.heap.size _ [] (by rfl) HWY.out.c ra rcap row (by rfl) (HEB.out _ hBEA) HRA.out hzl hBEA.size ?_; intro v6 w6 h6 hb6 hg6; have H6 : Hid (OwnE w6 W5.heap.size v6 row) := h6; have hB6 : Below W5.heap.size W5 w6 := hBEA.trans hb6; have HT6 := Lib.hid (HWY.out.ct.grown hg6 (by simp [Value.ownBlock])); clear h6 hb6 hg6)
          | (refine step_copyE2 (w := w6) (by rfl) (.tmp 100) (.tmp 102) (by rfl) W5.heap.size _ row (by rfl) H6.out (some ⟨_, 0, none⟩) 1 [e] (by rfl) HT6.out (by intro h; cases h) hzl2 hB6.size ?_; intro v7 w7 h7 hb7 _; have hB7 : Below W5.heap.size W5 w7 := hB6.trans hb7; obtain ⟨a7, c7, hv7, hc7⟩ := HCALL.out w7 v7 hB7 h7; subst hv7; have HC7 := Lib.hid hc7; clear h7 hb7 hc7)
          | (refine step_copyE2 (w := w6.alloc (.cells #[.int .i64 e.thread, .int .i64 e.kind, .int .i64 e.obj, .bool e.fail] 81)) (by rfl) (.tmp 100) (.tmp 102) (by rfl) W5.heap.size _ row (by rfl) (OwnE.alloc H6.out _) (some ⟨w6.heap.size, 0, none⟩) 1 [e] (by rfl) (evs_one1 w6 e) (by intro h; cases h) hzl2 (hB6.alloc hB6.size _).size ?_; intro v7 w7 h7 hb7 _; have hB7 : Below W5.heap.size W5 w7 := (hB6.alloc hB6.size _).trans hb7; obtain ⟨a7, c7, hv7, hc7⟩ := HCALL.out w7 v7 hB7 h7; subst hv7; have HC7 := Lib.hid hc7; clear h7 hb7 hc7)
          | (go_at_call 18; ((with_reducible refine HC7.out.mono ?_); rintro r w8 ⟨rfl, z, hz1, hz2, hz3, hz4, hz5⟩; have HZ1 := Lib.hid hz1; have HZ2 := Lib.hid hz2; have HZ3 := Lib.hid hz3; have HZ4 := Lib.hid hz4; have HQ8 := Lib.hid hz5.cells; clear hz1 hz2 hz3 hz4 hz5)))
      all_goals go_wp2_with fail
      all_goals go_roundw
      all_goals first
        | exact ⟨j + 1, z, by omega, by go_num, HZ2.out, HZ1.out, HZ3.out, HZ4.out⟩
        | (simp [intOf]; omega)
    · obtain rfl : j = s.all.length := by omega
      have HP := Lib.hid (ovJ_all hx HAL.out hal HJ.out)
      go_wp2_with fail
      go_end0
      exact ⟨rfl, _, HSJ.out, HP.out, HOJ.out⟩

end Go.Proofs.YtnldkmcijmbhcaaGreat

/- The contracts of the document's over, and of its All. -/
namespace Go.Proofs.YtnldkmcijmbhcaaGreat
open Go.RowKit

theorem over_any {W0 : World} {F B mb most : Nat} (hwm : W0.heap.size ≤ mb) (hm : mb < B) (hmost : most ≤ 1000) : ∀ n, OverH W0 F B mb n most := by
  intro n
  induction n with
  | zero =>
    intro s row w b tb a cap tcap ra rcap x ok hf hl hr hth hw0 he hra hrm hs hb hc hB hbm htm
    by_cases h : x.c < most
    · exact over_end 0 most s row w b tb a cap tcap ra rcap x ok (all_none (by omega)) hr hth hw0 hwm he hrm hs hb hc hB hm hbm htm h hmost
    · exact over_full 0 most s row w b ra rcap x hm hs hb hc (by omega)
  | succ n ih =>
    intro s row w b tb a cap tcap ra rcap x ok hf hl hr hth hw0 he hra hrm hs hb hc hB hbm htm
    by_cases h : x.c < most
    · by_cases hall : s.all = []
      · exact over_end (n + 1) most s row w b tb a cap tcap ra rcap x ok hall hr hth hw0 hwm he hrm hs hb hc hB hm hbm htm h hmost
      · exact over_step n most ih s row w b tb a cap tcap ra rcap x ok hall hf hl hr hth hw0 hwm he hra hrm hs hb hB hm hbm htm h hmost
    · exact over_full (n + 1) most s row w b ra rcap x hm hs hb hc (by omega)

def zeroSum6 : Value := .agg #[.slice none 0 0, .int .i64 0, .int .i64 0, .int .i64 0]
/-- A row of texts of one's own. -/
def OwnT (w : World) (B : Nat) (v : Value) (ks : List Key) : Prop := OwnRow w B 9 1 strCell v ks
theorem OwnT.base {w : World} {B B' : Nat} {v : Value} {ks : List Key} (h : OwnT w B v ks) (hb : B' ≤ B) : OwnT w B' v ks := by
  obtain ⟨h1, h2 | ⟨g, cap, cur, h2, h3, h4⟩⟩ := h
  · exact ⟨h1, .inl h2⟩
  · exact ⟨h1, .inr ⟨g, cap, cur, h2, by omega, h4⟩⟩
def RefAllR (p : Pg) (fuel : Int) (most : Nat) (w : World) (r : Ending) (w' : World) : Prop :=
  (if okPg p fuel then (preW p fuel ≤ most ∧ ∃ v, r = .returned (.tuple #[.agg #[v, .int .i64 ((runsW p fuel).length : Nat), .int .i64 (preW p fuel : Nat), .int .i64 (stuckN (runsW p fuel) : Nat)], .int .i64 0]) ∧ OwnT w' w.heap.size v (sortK (keysOf (runsW p fuel)))) ∨ (most < preW p fuel ∧ r = .returned (.tuple #[zeroSum6, .int .i64 5]))
  else r = .returned (.tuple #[zeroSum6, .int .i64 1])) ∧ Below w.heap.size w w'

theorem sum6_cells (w : World) (o : Obj) : ∀ j, j < 4 → ((w.alloc o).alloc (.cells #[.slice none 0 0, .int .i64 0, .int .i64 0, .int .i64 0] 31)).cell? ⟨w.heap.size + 1, j, none⟩ = #[Value.slice none 0 0, .int .i64 0, .int .i64 0, .int .i64 0][j]? ∧ ((w.alloc o).alloc (.cells #[.slice none 0 0, .int .i64 0, .int .i64 0, .int .i64 0] 31)).frozen? ⟨w.heap.size + 1, j, none⟩ = false := by
  intro j hj
  have h := heap_alloc_new (w.alloc o) (.cells #[.slice none 0 0, .int .i64 0, .int .i64 0, .int .i64 0] 31)
  rw [World.size_alloc] at h
  refine ⟨?_, ?_⟩
  · unfold World.cell?
    dsimp only
    rw [h]
    rfl
  · unfold World.frozen?
    dsimp only
    rw [h]
    rfl
def setS4 (w : World) (g : Nat) (v0 v1 v2 v3 : Value) : World := (((w.setCell ⟨g, 0, none⟩ v0).setCell ⟨g, 1, none⟩ v1).setCell ⟨g, 2, none⟩ v2).setCell ⟨g, 3, none⟩ v3
theorem row_setS4 {w : World} {B g : Nat} {v : Value} {ks : List Key} (h : OwnT w B v ks) (hg : g < B) (v0 v1 v2 v3 : Value) : OwnT (setS4 w g v0 v1 v2 v3) B v ks :=
  ownsRow_setCell_below (a := ⟨g, 3, none⟩) (ownsRow_setCell_below (a := ⟨g, 2, none⟩) (ownsRow_setCell_below (a := ⟨g, 1, none⟩) (ownsRow_setCell_below (a := ⟨g, 0, none⟩) h hg v0) hg v1) hg v2) hg v3

set_option maxRecDepth 100000 in
set_option maxHeartbeats 8000000 in
theorem refAll6_any (p : Pg) (a : Option Addr) (cap : Nat) (fuel : Int) (most : Nat) (w : World) (hp : ThreadsAt w a p.threads) (hmost : most ≤ 1000) :
    Calls Tryz.prog 9 #[.agg #[.int .i64 p.vars, .int .i64 p.mutexes, .slice a p.threads.length cap], .int .i64 fuel, .int .i64 (most : Int)] w (RefAllR p fuel most w) := by
  have HP := Lib.hid hp
  clear hp
  go_enter Tryz.func9, Tryz.ntmps9
  go_wp2_with fail
  have hb2 : Below w.heap.size w ((w.alloc (.cells #[.int .i64 p.vars, .int .i64 p.mutexes, .slice a p.threads.length cap] 24)).alloc (.cells #[.slice none 0 0, .int .i64 0, .int .i64 0, .int .i64 0] 31)) := below_alloc2 w _ _
  have hz2 : ((w.alloc (.cells #[.int .i64 p.vars, .int .i64 p.mutexes, .slice a p.threads.length cap] 24)).alloc (.cells #[.slice none 0 0, .int .i64 0, .int .i64 0, .int .i64 0] 31)).heap.size = w.heap.size + 2 := by rw [World.size_alloc, World.size_alloc]
  have hsc := sum6_cells w (.cells #[.int .i64 p.vars, .int .i64 p.mutexes, .slice a p.threads.length cap] 24)
  generalize ((w.alloc (.cells #[.int .i64 p.vars, .int .i64 p.mutexes, .slice a p.threads.length cap] 24)).alloc (.cells #[.slice none 0 0, .int .i64 0, .int .i64 0, .int .i64 0] 31)) = W2 at *
  have HSC : Hid (∀ W, Below W2.heap.size W2 W → (W.cell? ⟨w.heap.size + 1, 0, none⟩ = some (.slice none 0 0) ∧ W.cell? ⟨w.heap.size + 1, 1, none⟩ = some (.int .i64 0) ∧ W.cell? ⟨w.heap.size + 1, 2, none⟩ = some (.int .i64 0) ∧ W.cell? ⟨w.heap.size + 1, 3, none⟩ = some (.int .i64 0)) ∧ W.frozen? ⟨w.heap.size + 1, 0, none⟩ = false ∧ W.frozen? ⟨w.heap.size + 1, 1, none⟩ = false ∧ W.frozen? ⟨w.heap.size + 1, 2, none⟩ = false ∧ W.frozen? ⟨w.heap.size + 1, 3, none⟩ = false) := fun W h =>
    have hl : w.heap.size + 1 < W2.heap.size := by omega
    ⟨⟨cell_later h (hsc 0 (by omega)).1, cell_later h (hsc 1 (by omega)).1, cell_later h (hsc 2 (by omega)).1, cell_later h (hsc 3 (by omega)).1⟩, (h.frozen (p := ⟨w.heap.size + 1, 0, none⟩) hl).trans (hsc 0 (by omega)).2, (h.frozen (p := ⟨w.heap.size + 1, 1, none⟩) hl).trans (hsc 1 (by omega)).2, (h.frozen (p := ⟨w.heap.size + 1, 2, none⟩) hl).trans (hsc 2 (by omega)).2, (h.frozen (p := ⟨w.heap.size + 1, 3, none⟩) hl).trans (hsc 3 (by omega)).2⟩
  have HSET : Hid (∀ v0 v1 v2 v3 (W : World), Below W2.heap.size W2 W → Below w.heap.size w (setS4 W (w.heap.size + 1) v0 v1 v2 v3)) := fun v0 v1 v2 v3 W h =>
    ((((hb2.trans (h.mono hb2.size)).setCell (p := ⟨w.heap.size + 1, 0, none⟩) (by show _ ≤ w.heap.size + 1; omega) _).setCell (p := ⟨w.heap.size + 1, 1, none⟩) (by show _ ≤ w.heap.size + 1; omega) _).setCell (p := ⟨w.heap.size + 1, 2, none⟩) (by show _ ≤ w.heap.size + 1; omega) _).setCell (p := ⟨w.heap.size + 1, 3, none⟩) (by show _ ≤ w.heap.size + 1; omega) _
  have HAR : Hid (∀ r w', RefAllR p fuel most w r w' ↔ (if okPg p fuel then (preW p fuel ≤ most ∧ ∃ v, r = .returned (.tuple #[.agg #[v, .int .i64 ((runsW p fuel).length : Nat), .int .i64 (preW p fuel : Nat), .int .i64 (stuckN (runsW p fuel) : Nat)], .int .i64 0]) ∧ OwnT w' w.heap.size v (sortK (keysOf (runsW p fuel)))) ∨ (most < preW p fuel ∧ r = .returned (.tuple #[zeroSum6, .int .i64 5]))
    else r = .returned (.tuple #[zeroSum6, .int .i64 1])) ∧ Below w.heap.size w w') := fun _ _ => Iff.rfl
  clear hsc
  by_cases hok : okPg p fuel
  · obtain ⟨hr, h0, h8⟩ := hok
    obtain ⟨F, rfl⟩ : ∃ F : Nat, fuel = F := ⟨fuel.toNat, by omega⟩
    have HOK : Hid (okPg p (F : Int)) := ⟨hr, h0, h8⟩
    have HSO : Hid (St.Ok F (s0 p (F : Int))) := by have h := new_ok hr F (by omega); exact h
    refine (refNew_yes p a cap F W2 (HP.out.later hb2) hr (by omega)).mono ?_
    rintro r W3 ⟨b, tb, tcap, rfl, hb, htb, hra, hb3⟩
    have HR3 : Hid (RefAt W3 b tb a cap tcap (s0 p (F : Int))) := hra
    have hlt := hra.lt
    have HT3 := Lib.hid ((HP.out.later hb2).later hb3)
    clear hra hr h0 h8
    go_wp2_with fail
    have hm0 : SumAt (W3.alloc (.cells #[.slice none 0 0, .int .i64 0, .int .i64 0, .int .i64 0] 31)) W3.heap.size (W3.heap.size + 1) ⟨[], 0, 0, 0⟩ := ⟨none, 0, heap_alloc_new W3 _, ownRow_nil _ _ _ _ _⟩
    have hb4 := below_alloc1 W3 (.cells #[.slice none 0 0, .int .i64 0, .int .i64 0, .int .i64 0] 31)
    have hz4 : (W3.alloc (.cells #[.slice none 0 0, .int .i64 0, .int .i64 0, .int .i64 0] 31)).heap.size = W3.heap.size + 1 := World.size_alloc _ _
    generalize W3.alloc (.cells #[.slice none 0 0, .int .i64 0, .int .i64 0, .int .i64 0] 31) = W4 at *
    have hf := fuel_le HSO.out
    have hbd : BdS ⟨[], 0, 0, 0⟩ := ⟨Nat.le_refl _, Nat.le_refl _, Nat.le_refl _⟩
    have HC := Lib.hid (over_any (W0 := W3) (F := F) (B := W3.heap.size + 1) (mb := W3.heap.size) (most := most) (Nat.le_refl _) (Nat.lt_succ_self _) hmost 33 (s0 p (F : Int)) [] W4 b tb a cap tcap none 0 ⟨[], 0, 0, 0⟩ HSO.out (by omega) (by simp) (HR3.out.later hb4) HT3.out hb4 (evsAt_nil _ _) (fun _ => ⟨rfl, rfl⟩) (fun o h => by cases h) hm0 hbd (by simp) (by omega) (by omega) (by omega))
    have hn0 : ([] : List Ev).length = 0 := rfl
    rw [hn0] at HC
    clear hm0 hbd
    refine HC.out.mono ?_
    rintro r W5 ⟨rfl, y, hy1, hy2, hy3⟩
    have hb5 : Below W2.heap.size W2 W5 := hb3.trans ((hb4.trans (hy3.below (Nat.le_refl _) (by omega))).mono hb3.size)
    have hPW : preW p (F : Int) = (s0 p (F : Int)).pre 33 := rfl
    obtain ⟨y1, y2, _, _, _⟩ := hy2
    rw [← hPW] at y1 y2
    dsimp only at y1 y2
    rw [Nat.zero_add] at y1 y2
    obtain ⟨ka, kc, ⟨d0, d1, d2, d3⟩, ⟨g0, g1, g2, g3⟩, hown⟩ := hy1.cells
    obtain ⟨⟨x0, x1, x2, x3⟩, f0, f1, f2, f3⟩ := HSC.out W5 hb5
    have hne : W3.heap.size ≠ w.heap.size + 1 := by have := hb3.size; omega
    by_cases hle : preW p (F : Int) ≤ most
    · obtain ⟨e1, e2, e3, e4⟩ := y1 hle
      have e2' : y.k = sortK (keysOf (runsW p (F : Int))) := by rw [e2]; exact putAll_sortK _
      have e3' : y.r = (runsW p (F : Int)).length := by rw [e3]; exact Nat.zero_add _
      have e4' : y.st = stuckN (runsW p (F : Int)) := by rw [e4]; exact Nat.zero_add _
      have hq : decide (most < y.c) = false := by simp; omega
      have HOW : Hid (OwnT W5 (W3.heap.size + 1) (.slice ka y.k.length kc) y.k) := hown
      have HF : Hid (RefAllR p (F : Int) most w (.returned (.tuple #[.agg #[.slice ka y.k.length kc, .int .i64 (y.r : Int), .int .i64 (y.c : Int), .int .i64 (y.st : Int)], .int .i64 0])) (setS4 W5 (w.heap.size + 1) (.slice ka y.k.length kc) (.int .i64 (y.r : Int)) (.int .i64 (y.c : Int)) (.int .i64 (y.st : Int)))) := by
        refine (HAR.out _ _).2 ⟨?_, HSET.out _ _ _ _ W5 hb5⟩
        rw [if_pos HOK.out]
        refine .inl ⟨hle, .slice ka y.k.length kc, by rw [e3', e4', e1], ?_⟩
        rw [← e2']
        exact (row_setS4 HOW.out (by have := hb3.size; omega) _ _ _ _).base (by have := hb3.size; omega)
      unfold setS4 at HF
      clear hy1 y1 y2 hown e1 e2 e3 e4 e2' e3' e4' hle HAR
      go_wp2_with fail
      refine bodyPost_ret (v := .tuple #[.agg #[.slice ka y.k.length kc, .int .i64 (y.r : Int), .int .i64 (y.c : Int), .int .i64 (y.st : Int)], .int .i64 0]) (by simp [results, Tryz.results9, go_sem, x0, x1, x2, x3]) rfl ?_
      exact HF.out
    · have hlt' := y2 (by omega)
      have hq : decide (most < y.c) = true := by simp; omega
      have HF : Hid (RefAllR p (F : Int) most w (.returned (.tuple #[zeroSum6, .int .i64 5])) (setS4 W5 (w.heap.size + 1) (.slice none 0 0) (.int .i64 0) (.int .i64 0) (.int .i64 0))) := by
        refine (HAR.out _ _).2 ⟨?_, HSET.out _ _ _ _ W5 hb5⟩
        rw [if_pos HOK.out]
        exact .inr ⟨by omega, rfl⟩
      unfold setS4 at HF
      clear hy1 y1 y2 hown hlt' HAR
      go_wp2_with fail
      refine bodyPost_ret (v := .tuple #[zeroSum6, .int .i64 5]) (by simp [results, Tryz.results9, go_sem, zeroSum6, x0, x1, x2, x3]) rfl ?_
      exact HF.out
  · have HC := Lib.hid (refNew_no p a cap fuel W2 (HP.out.later hb2) hok)
    have HNO := Lib.hid hok
    clear hok
    refine HC.out.mono ?_
    rintro r W3 ⟨rfl, hb3⟩
    obtain ⟨⟨x0, x1, x2, x3⟩, f0, f1, f2, f3⟩ := HSC.out W3 hb3
    have HF : Hid (RefAllR p fuel most w (.returned (.tuple #[zeroSum6, .int .i64 1])) (setS4 W3 (w.heap.size + 1) (.slice none 0 0) (.int .i64 0) (.int .i64 0) (.int .i64 0))) := by
      refine (HAR.out _ _).2 ⟨?_, HSET.out _ _ _ _ W3 hb3⟩
      rw [if_neg HNO.out]
    unfold setS4 at HF
    clear HAR
    go_wp2_with fail
    refine bodyPost_ret (v := .tuple #[zeroSum6, .int .i64 1]) (by simp [results, Tryz.results9, go_sem, zeroSum6, x0, x1, x2, x3]) rfl ?_
    exact HF.out

end Go.Proofs.YtnldkmcijmbhcaaGreat

/- The contract of the document's Same of lists of texts. -/
namespace Go.Proofs.YtnldkmcijmbhcaaGreat
open Go.RowKit

theorem takeK_snoc {l m : List Key} {k : Nat} (h1 : k < l.length) (h2 : k < m.length) (ht : l.take k = m.take k) (he : l[k] = m[k]) : l.take (k + 1) = m.take (k + 1) := by
  rw [List.take_succ_eq_append_getElem h1, List.take_succ_eq_append_getElem h2, ht, he]

set_option maxRecDepth 100000 in
set_option maxHeartbeats 4000000 in
theorem sameK_any (a a' : Option Addr) (cap cap' : Nat) (ks ms : List Key) (w : World) (hl : RowAt w a 1 strCell ks) (hl' : RowAt w a' 1 strCell ms) (hm : ks.length ≤ 1000000) (hm' : ms.length ≤ 1000000) :
    Calls Tryz.prog 12 #[.slice a ks.length cap, .slice a' ms.length cap'] w fun r w' => r = .returned (.bool (decide (ks = ms))) ∧ Below w.heap.size w w' := by
  have HL := Lib.hid hl
  have HL' := Lib.hid hl'
  clear hl hl'
  by_cases hne : ks.length = ms.length
  case neg =>
    have hq : ((ks.length : Int) != ms.length) = true := by simp; omega
    have H : Hid (decide (ks = ms) = false) := by show _ = _; simp; intro e; exact hne (by rw [e])
    clear hne
    go_enter Tryz.func12, Tryz.ntmps12
    go_wp2
    go_ret
    exact ⟨ret_bool H.out.symm, Below.refl _ _⟩
  have HE := Lib.hid hne
  have hq : ((ks.length : Int) != ms.length) = false := by simp [hne]
  have hm2 : ks.length ≤ ms.length := by omega
  have hm3 : ms.length ≤ ks.length := by omega
  clear hne
  go_enter Tryz.func12, Tryz.ntmps12
  go_wp2
  clear hq
  go_loopw [5] (fun i wr => ∃ k : Nat, k ≤ ks.length ∧ i = .int .i64 k ∧ Hid (ks.take k = ms.take k) ∧ Hid (Below w.heap.size w wr)) (fun i _ => ks.length - (intOf i).toNat)
  case atStart => exact ⟨0, Nat.zero_le _, rfl, rfl, Below.refl _ _⟩
  case round =>
    obtain ⟨k, hk, rfl, HT, HB⟩ := hrel
    by_cases hlt : k < ks.length
    · have hlt' : k < ms.length := by omega
      obtain ⟨b, o, rfl, t0⟩ := HL.out.str hlt
      obtain ⟨b', o', rfl, t0'⟩ := HL'.out.str hlt'
      have c0 := cell_later HB.out t0
      have c0' := cell_later HB.out t0'
      clear t0 t0'
      have hx1 : Hid (ks[k] = ms[k] → ks.take (k + 1) = ms.take (k + 1)) := fun h => takeK_snoc hlt hlt' HT.out h
      have hx2 : Hid (ks[k] ≠ ms[k] → decide (ks = ms) = false) := fun h => by simp; rintro rfl; exact h rfl
      generalize ks[k] = x at *
      generalize ms[k] = y at *
      by_cases hxy : x = y
      · have hq : (x == y) = true := by simp [hxy]
        have HN := Lib.hid (hx1.out hxy)
        clear hxy hx1 hx2
        go_wp2_with fail
        go_quiet (fail)
        go_wp2
        go_roundw
        case rel => exact ⟨k + 1, by omega, by go_num, HN.out, HB.out.drewN⟩
        case measure => simp [intOf]; omega
      · have hq : (x == y) = false := by simp [hxy]
        have HN := Lib.hid (hx2.out hxy)
        clear hxy hx1 hx2
        go_wp2_with fail
        go_quiet (fail)
        go_wp2
        go_ret
        exact ⟨ret_bool HN.out.symm, HB.out.drewN⟩
    · obtain rfl : k = ks.length := by omega
      have H : Hid (decide (ks = ms) = true) := by
        show _ = _
        have := HT.out
        rw [List.take_length, List.take_of_length_le hm3] at this
        simpa using this
      go_wp2
      go_ret
      exact ⟨ret_bool H.out.symm, HB.out⟩

end Go.Proofs.YtnldkmcijmbhcaaGreat

/- The contract of the document's Few. -/
namespace Go.Proofs.YtnldkmcijmbhcaaGreat
open Go.RowKit

def fewPg (p : Pg) : Bool := p.threads.all (fun l => decide (l.length ≤ 50)) && decide (p.threads.length ≤ 20)

set_option maxRecDepth 100000 in
set_option maxHeartbeats 1000000 in
theorem few_any (p : Pg) (a : Option Addr) (cap : Nat) (w : World) (hp : ThreadsAt w a p.threads) :
    Calls Tryz.prog 15 #[pgV p a cap] w fun r w' => r = .returned (.bool (fewPg p)) ∧ Below w.heap.size w w' := by
  obtain ⟨V, M, ts⟩ := p
  unfold pgV
  dsimp only at *
  have hm := hp.1
  unfold maxLen at hm
  have HL := Lib.hid hp
  clear hp
  go_enter Tryz.func15, Tryz.ntmps15
  go_wp2
  go_loop [3] (fun i => ∃ k : Nat, k ≤ ts.length ∧ i = .int .i64 k ∧ Hid ((ts.take k).all (fun l => decide (l.length ≤ 50)) = true)) (fun i => ts.length - (intOf i).toNat)
  case atStart => exact ⟨0, Nat.zero_le _, rfl, rfl⟩
  case round =>
    obtain ⟨k, hk, rfl, hall⟩ := hrel
    by_cases hlt : k < ts.length
    · obtain ⟨b, o, rfl, hc⟩ := HL.out.2 (by intro e; simp [e] at hlt)
      obtain ⟨c, ccap, c0, c1, _⟩ := hc k hlt
      have hz := cell_block c0
      dsimp only at hz
      have ht : (ts.take (k + 1)) = ts.take k ++ [ts[k]] := List.take_succ_eq_append_getElem hlt
      have hcm := c1.1
      unfold maxLen at hcm
      clear c1 hc
      by_cases h50 : 50 < ts[k].length
      · have HR : Hid (fewPg ⟨V, M, ts⟩ = false) := by
          show _ = _
          unfold fewPg
          dsimp only
          rw [Bool.and_eq_false_iff, List.all_eq_false]; exact .inl ⟨ts[k], List.getElem_mem _, by simp; omega⟩
        clear ht
        go_wp2
        go_ret
        exact ⟨ret_bool HR.out.symm, below_alloc1 _ _⟩
      · have HR : Hid ((ts.take (k + 1)).all (fun l => decide (l.length ≤ 50)) = true) := by
          show _ = _
          rw [ht, List.all_append, hall.out]; simp; omega
        clear ht
        go_wp2
        go_round
        case rel => exact ⟨k + 1, by omega, by go_num, HR⟩
        case measure => simp [intOf]; omega
    · obtain rfl : k = ts.length := by omega
      have HR : Hid (fewPg ⟨V, M, ts⟩ = decide (ts.length ≤ 20)) := by
        show _ = _
        have := hall.out
        rw [List.take_length] at this
        unfold fewPg
        dsimp only
        rw [this, Bool.true_and]
      go_wp2
      go_ret
      exact ⟨ret_bool (by rw [HR.out]; simp; omega), below_alloc1 _ _⟩
end Go.Proofs.YtnldkmcijmbhcaaGreat

/- The contract of the law's Small. -/
namespace Go.Proofs.YtnldkmcijmbhcaaGreat
open Go.RowKit

/-- May a program be walked over? -/
def smallPg (p : Pg) (fuel : Int) : Bool := fewPg p && rightPg p && decide (0 ≤ fuel ∧ fuel ≤ 8) && decide (preW p fuel ≤ 600)
theorem small_yes {p : Pg} {fuel : Int} (h : smallPg p fuel = true) : fewPg p = true ∧ okPg p fuel ∧ preW p fuel ≤ 600 := by
  unfold smallPg at h
  simp only [Bool.and_eq_true, decide_eq_true_eq] at h
  exact ⟨h.1.1.1, ⟨h.1.1.2, h.1.2⟩, h.2⟩

set_option maxRecDepth 100000 in
set_option maxHeartbeats 4000000 in
theorem small_any (p : Pg) (a : Option Addr) (cap : Nat) (fuel : Int) (w : World) (hp : ThreadsAt w a p.threads) :
    Calls Tryz.prog 8 #[.agg #[.int .i64 p.vars, .int .i64 p.mutexes, .slice a p.threads.length cap], .int .i64 fuel] w fun r w' => r = .returned (.bool (smallPg p fuel)) ∧ Below w.heap.size w w' := by
  have HP := Lib.hid hp
  have HF : Hid (∀ W, Below w.heap.size w W → Calls Tryz.prog 15 #[.agg #[.int .i64 p.vars, .int .i64 p.mutexes, .slice a p.threads.length cap]] W fun r w' => r = .returned (.bool (fewPg p)) ∧ Below W.heap.size W w') := fun W h => few_any p a cap W (hp.later h)
  have HR : Hid (∀ W, Below w.heap.size w W → Calls Tryz.prog 16 #[.agg #[.int .i64 p.vars, .int .i64 p.mutexes, .slice a p.threads.length cap]] W fun r w' => r = .returned (.bool (rightPg p)) ∧ Below W.heap.size W w') := fun W h => refRight_any p a cap W (hp.later h)
  have HS : Hid (smallPg p fuel = (fewPg p && rightPg p && decide (0 ≤ fuel ∧ fuel ≤ 8) && decide (preW p fuel ≤ 600))) := rfl
  have hb1 : Below w.heap.size w (w.alloc (.cells #[.int .i64 p.vars, .int .i64 p.mutexes, .slice a p.threads.length cap] 24)) := below_alloc1 w _
  clear hp
  go_enter Tryz.func8, Tryz.ntmps8
  go_wp2_with fail
  refine (HF.out _ hb1).mono ?_
  rintro r w2 ⟨rfl, hb2⟩
  have hb3 := hb1.trans (hb2.mono hb1.size)
  have c2 : w2.cell? ⟨w.heap.size, 0, none⟩ = some (.int .i64 p.vars) := cell_later hb2 (by simp)
  have c3 : w2.cell? ⟨w.heap.size, 1, none⟩ = some (.int .i64 p.mutexes) := cell_later hb2 (by simp)
  have c4 : w2.cell? ⟨w.heap.size, 2, none⟩ = some (.slice a p.threads.length cap) := cell_later hb2 (by simp)
  clear hb1
  cases hf : fewPg p
  · have HN : Hid (smallPg p fuel = false) := by show _ = _; rw [HS.out, hf]; rfl
    clear hf
    go_wp2_with fail
    go_ret
    exact ⟨ret_bool HN.out.symm, hb3⟩
  · have HFW := Lib.hid hf
    clear hf
    go_wp2_with fail
    refine (HR.out _ hb3).mono ?_
    rintro r w4 ⟨rfl, hb4⟩
    have hb5 := hb3.trans (hb4.mono hb3.size)
    have d2 := cell_later hb4 c2
    have d3 := cell_later hb4 c3
    have d4 := cell_later hb4 c4
    clear hb2 hb3 hb4 c2 c3 c4
    cases hr : rightPg p
    · have HN : Hid (smallPg p fuel = false) := by show _ = _; rw [HS.out, hr]; simp
      clear hr
      go_wp2_with fail
      go_ret
      exact ⟨ret_bool HN.out.symm, hb5⟩
    · have HRG := Lib.hid hr
      clear hr
      by_cases h0 : fuel < 0
      · have q0 : decide (fuel < 0) = true := by simpa using h0
        have HN : Hid (smallPg p fuel = false) := by show _ = _; rw [HS.out]; simp; intro _ _ h; omega
        go_wp2_with fail
        go_ret
        exact ⟨ret_bool HN.out.symm, hb5⟩
      · have q0 : decide (fuel < 0) = false := by simpa using h0
        by_cases h8 : 8 < fuel
        · have q8 : decide (8 < fuel) = true := by simpa using h8
          have HN : Hid (smallPg p fuel = false) := by show _ = _; rw [HS.out]; simp; intro _ _ _ h; omega
          go_wp2_with fail
          go_ret
          exact ⟨ret_bool HN.out.symm, hb5⟩
        · have q8 : decide (8 < fuel) = false := by simpa using h8
          have HOK : Hid (okPg p fuel) := ⟨HRG.out, by omega, by omega⟩
          have HRA := Lib.hid (refAll6_any p a cap fuel 600 w4 (HP.out.later hb5) (by omega))
          have HD : Hid (smallPg p fuel = decide (preW p fuel ≤ 600)) := by
            show _ = _
            rw [HS.out, HFW.out, HRG.out]
            have : decide (0 ≤ fuel ∧ fuel ≤ 8) = true := by simp; omega
            rw [this]
            rfl
          go_wp2_with fail
          refine HRA.out.mono ?_
          rintro r w6 ⟨h, hb6⟩
          rw [if_pos HOK.out] at h
          have hb7 := hb5.trans (hb6.mono hb5.size)
          have hz7 := hb7.size
          rcases h with ⟨h1, v, rfl, h2⟩ | ⟨h1, rfl⟩
          · have HN : Hid (smallPg p fuel = true) := by show _ = _; rw [HD.out]; simpa using h1
            obtain ⟨av, cv, rfl, _⟩ := OwnRow.form h2 strCell_len (by have := sortK_len (keysOf (runsW p fuel)); have : (keysOf (runsW p fuel)).length = (runsW p fuel).length := List.length_map _; have := runs_le 33 (s0 p fuel) []; unfold preW at h1; unfold runsW at *; omega)
            clear h1 h2
            generalize (sortK (keysOf (runsW p fuel))).length = N1 at *
            generalize (runsW p fuel).length = N2 at *
            generalize stuckN (runsW p fuel) = N3 at *
            generalize preW p fuel = N4 at *
            have HB : Hid (Below w.heap.size w (w6.alloc (.cells #[.slice av N1 cv, .int .i64 (N2 : Int), .int .i64 (N4 : Int), .int .i64 (N3 : Int)] 31))) := hb7.alloc hz7 _
            go_wp2_with fail
            go_ret
            exact ⟨ret_bool HN.out.symm, HB.out⟩
          · have HN : Hid (smallPg p fuel = false) := by show _ = _; rw [HD.out]; simp; omega
            have HB : Hid (Below w.heap.size w (w6.alloc (.cells #[.slice none 0 0, .int .i64 0, .int .i64 0, .int .i64 0] 31))) := hb7.alloc hz7 _
            unfold zeroSum6
            clear h1
            go_wp2_with fail
            go_ret
            exact ⟨ret_bool HN.out.symm, HB.out⟩

end Go.Proofs.YtnldkmcijmbhcaaGreat

/- Bytes that came in, and that the empty row has no room. -/
namespace Go.Proofs.YtnldkmcijmbhcaaGreat
open Go.RowKit
open Go.Deep Go.Joins Go.WideShapes Go.ChangeShapes

section
variable {H : Type} {enc : TypeId × Value → H} {W : World} {base : Nat} {spare : Nat → Bool} {held : Bool}
set_option maxRecDepth 100000 in
theorem bytes2_of_trod {r : Reach} {b0 : Nat} {v : Value} {d : DataW H} {p : List MemPlace} (hv : Value.okWide Tryz.prog W r b0 25 v) (h : DataW.Trod enc Tryz.prog W base spare held 25 v d p) :
    ∃ (a : Option Addr) (ns : List Int) (cap : Nat), v = .slice a ns.length cap ∧ BytesAt W a ns ∧ (∀ n ∈ ns, 0 ≤ n ∧ n < 256) ∧ (a = none → cap = 0) := by
  obtain ⟨a, ns, cap, rfl, h1, h2⟩ := bytes_of_trod hv h
  refine ⟨a, ns, cap, rfl, h1, h2, fun ha => ?_⟩
  subst ha
  obtain ⟨fuel, hf⟩ := h
  rcases open_ints Tryz.underlying25 Tryz.underlying5 (by kernel_rfl) hf with ⟨e, _⟩ | ⟨a', len', cap', zs, e, _⟩
  · simp [Value.cells] at e
    omega
  · simp [Value.cells] at e
end
def byteCell (n : Int) : List Value := [.int .u8 n]
theorem byteCell_len (n : Int) : (byteCell n).length = 1 := rfl
theorem byteCell_one (n : Int) : ∀ v ∈ byteCell n, v.oneCell' = true := by
  intro v hv
  rw [List.mem_singleton.1 hv]
  rfl
theorem infoU8 : (Tryz.prog.info? 5).map (fun i => (i.zero, i.size, i.bytes)) = some (some (.int .u8 0), 1, 1) := by kernel_rfl
theorem bytes_row {w : World} {a : Option Addr} {ns : List Int} (h : BytesAt w a ns) : RowAt w a 1 byteCell ns := by
  refine ⟨h.1, fun hn => ?_⟩
  obtain ⟨b, o, rfl, hc⟩ := h.2 hn
  refine ⟨b, o, rfl, fun i hi j u hj => ?_⟩
  have hj0 : j = 0 := by
    rcases Nat.lt_or_ge j 1 with h | h
    · omega
    · rw [List.getElem?_eq_none (by rw [byteCell_len]; exact h)] at hj; cases hj
  subst hj0
  injection hj with hj
  subst hj
  rw [Nat.mul_one, Nat.add_zero]
  exact hc i hi
theorem row_bytes {w : World} {a : Option Addr} {ns : List Int} (h : RowAt w a 1 byteCell ns) : BytesAt w a ns := by
  refine ⟨h.1, fun hn => ?_⟩
  obtain ⟨b, o, rfl, hc⟩ := h.2 hn
  refine ⟨b, o, rfl, fun i hi => ?_⟩
  have := hc i hi 0 _ rfl
  rw [Nat.mul_one, Nat.add_zero] at this
  exact this
/-- A row of bytes of one's own: where it lies. -/
theorem own_bytes {w : World} {B : Nat} {v : Value} {ns : List Int} (h : OwnRow w B 5 1 byteCell v ns) (hm : ns.length ≤ 1000000) : ∃ a cap, v = .slice a ns.length cap ∧ BytesAt w a ns ∧ ∀ x, a = some x → x.block < w.heap.size := by
  obtain ⟨a, cap, rfl, h1, _⟩ := h.form byteCell_len hm
  refine ⟨a, cap, rfl, row_bytes h1, fun x hx => ?_⟩
  subst hx
  obtain ⟨_, ⟨h2, _⟩ | ⟨g, c, cur, h2, _, h4, _⟩⟩ := h
  · cases h2
  · injection h2 with e
    injection e with e
    rw [e]
    exact (Array.getElem?_eq_some_iff.1 h4).1
/-- The empty row, written out. -/
theorem own_lit {w : World} {B g : Nat} (hB : B ≤ g) (h : w.heap[g]? = some (.cells #[] 5 (0, 0))) : OwnRow w B 5 1 byteCell (.slice (some ⟨g, 0, none⟩) 0 0) [] :=
  ⟨rfl, .inr ⟨g, 0, #[], rfl, hB, h, Nat.le_refl _, by simp [maxLen], rfl, rfl⟩⟩

end Go.Proofs.YtnldkmcijmbhcaaGreat
