import Derived.Deep.RegionHeld3
import Derived.Deep.DeepCutAuto
import Derived.ProofKit
import Derived.Lib.SmallJoins
import Derived.Deep.Slices
import Derived.Deep.Fields
import Derived.OpenShut
import Derived.Test.YtljlaopjimkcmaaGreatPk01
import Derived.Test.YtljlaopjimkcmaaGreatPk02
import Derived.Test.YtljlaopjimkcmaaGreatPk03
import Derived.Test.YtljlaopjimkcmaaGreatPk06
import Derived.Test.YtljlaopjimkcmaaGreatPk07
import Derived.Test.YtljlaopjimkcmaaGreatPk08

/- The contracts of the document's Print of levels, and of its Key. -/
namespace Go.Proofs.YtljlaopjimkcmaaGreat
open Go.RowKit

theorem bstr_app (a b : List Int) : bstr a ++ bstr b = bstr (a ++ b) := by
  apply ByteArray.ext
  simp [bstr]
theorem spell_take (m : List (List Ev)) {k : Nat} (hk : k < m.length) : (m.take (k + 1)).flatMap lvB = (m.take k).flatMap lvB ++ ([((m.getD k []).length : Int)] ++ printE (m.getD k [])) := by
  rw [List.take_succ_eq_append_getElem hk, List.flatMap_append, getD_lt _ hk]
  simp [lvB]

/-- One byte as a string. -/
theorem run_byte_str {w : World} {g : Nat} {x : Int} (hc : w.cell? ⟨g, 0, none⟩ = some (.int .u8 x)) : (convert 42 9 (.slice (some ⟨g, 0, none⟩) 1 1)).run Tryz.prog w = .ok (.string (bstr [x])) w := by
  rw [run_convert_bytes_string w _ _ 5 _ _ _ Tryz.underlying42 Tryz.underlying5 Tryz.underlying9]
  have hl := run_loadCells_list (P := Tryz.prog) w ⟨g, 0, none⟩ ([x].map (Value.int .u8)) (by intro j u hj; match j with | 0 => (simp at hj; subst hj; exact hc) | j + 1 => simp at hj)
  have h2 := run_bytesToString w ⟨g, 0, none⟩ _ 1 [x] hl
  rw [foldl_bstr] at h2
  have e : ByteArray.empty.data = #[] := rfl
  rw [e, Array.empty_append] at h2
  exact h2
theorem byte_new (w : World) (x : Int) : (w.alloc (.cells #[.int .u8 x] 5)).cell? ⟨w.heap.size, 0, none⟩ = some (.int .u8 x) := by
  rw [World.cell?_alloc_new]
  rfl
theorem step_strB {w : World} {ops : Array Oper} {o : Oper} {a : Act} {K : Act → World → Prop} {Q : Exit → Act → World → Prop} {E : Prop} (hgd : o.guard = none) (x : Operand)
    (ho : o.op = .convert 42 9 x) (S : ByteArray) (v : Value) (hx : a.eval x = v) (hrun : (convert 42 9 v).run Tryz.prog w = .ok (.string S) w)
    (h : K (a.put o.dst (.string S)) w) : if Region.wanted o (yielded ops a.tmps) = true then Oper.wp Tryz.prog o a w K Q else E := by
  have hw : Region.wanted o (yielded ops a.tmps) = true := by simp [Region.wanted, hgd]
  rw [if_pos hw]
  unfold Oper.wp
  simp [execOp, ho, hx, hrun, Result.andThen]
  exact h

set_option maxRecDepth 100000 in
set_option maxHeartbeats 4000000 in
theorem refLvPrint_any (a : Option Addr) (cap : Nat) (m : List (List Ev)) (w : World) (hl : LvAt w a m) (hm : m.length ≤ 1000000) (hf : m.flatten.length ≤ 1000000) (hr : ∀ i, (m.getD i []).length ≤ 1000000) :
    Calls Tryz.prog 66 #[.slice a m.length cap] w fun r w' => r = .returned (.string (bstr (printF m))) ∧ Below w.heap.size w w' := by
  have HL := Lib.hid hl
  have HC := Lib.hid (refLvRight_any a cap m w hl hm hf hr)
  have HP : Hid (printF m = if decide (levelsF m.flatten = m) = true then spellB m else []) := by show _ = _; unfold printF; simp
  have HS : Hid (decide (levelsF m.flatten = m) = true → ∀ i, (m.getD i []).length ≤ 200) := fun h i => by
    have := levelsF_row m.flatten i
    rw [of_decide_eq_true h] at this
    omega
  have HLB : Hid (∀ k, ((m.take k).flatMap lvB).length ≤ 2000000) := fun k => by
    by_cases hk : k ≤ m.length
    · have := lvB_len m k; omega
    · have := lvB_len m m.length
      rw [List.take_length] at this
      rw [List.take_of_length_le (by omega)]
      omega
  clear hl hf hr
  generalize decide (levelsF m.flatten = m) = D at *
  cases D
  · have HP2 : Hid (printF m = []) := by show _ = _; rw [HP.out]; rfl
    clear HS HP
    go_enter Tryz.func66, Tryz.ntmps66
    go_wp2_with fail
    refine HC.out.mono ?_
    rintro r w1 ⟨rfl, hb1⟩
    clear HC
    go_wp2
    go_ret
    exact ⟨ret_str (by rw [HP2.out]; rfl), hb1⟩
  · have HP2 : Hid (printF m = spellB m) := by show _ = _; rw [HP.out]; rfl
    have HS2 := Lib.hid (HS.out rfl)
    clear HS HP
    go_enter Tryz.func66, Tryz.ntmps66
    go_wp2_with fail
    refine HC.out.mono ?_
    rintro r w1 ⟨rfl, hb1⟩
    clear HC
    go_wp2_with fail
    go_loopw [3, 4] (fun s i wr => ∃ k : Nat, k ≤ m.length ∧ i = .int .i64 k ∧ s = .string (bstr ((m.take k).flatMap lvB)) ∧ Hid (Below w.heap.size w wr)) (fun _ i _ => m.length - (intOf i).toNat)
    case atStart => exact ⟨0, Nat.zero_le _, rfl, rfl, hb1⟩
    case round =>
      clear hb1
      obtain ⟨k, hk, rfl, rfl, HB⟩ := hrel
      by_cases hlt : k < m.length
      · obtain ⟨b, o, sa, sc, rfl, c0, he0, _⟩ := HL.out.one hlt
        have c1 := cell_later HB.out c0
        have HE1 := Lib.hid (he0.later HB.out)
        have HT := Lib.hid (spell_take m hlt)
        have hlen := HS2.out k
        have hpre := HLB.out k
        have hro := printE_le (m.getD k [])
        clear c0 he0
        generalize (m.take k).flatMap lvB = pre at *
        generalize m.getD k [] = row at *
        have hB9 : Below wr.heap.size wr wr.drew := (Below.refl _ _).drew
        have hBA : Below wr.heap.size wr (wr.alloc (.cells #[.int .u8 (row.length : Int)] 5)).drew := (below_alloc1 wr _).drew
        have hwr : IntKind.u8.wrap (row.length : Int) = row.length := IntWalk.u8_in _ (by omega)
        have HX1 : Hid ((convert 42 9 (.slice (some ⟨wr.heap.size, 0, none⟩) 1 1)).run Tryz.prog (wr.alloc (.cells #[.int .u8 (row.length : Int)] 5)).drew = .ok (.string (bstr [(row.length : Int)])) (wr.alloc (.cells #[.int .u8 (row.length : Int)] 5)).drew) := run_byte_str (byte_new wr _)
        have HX3 : Hid (∀ W : World, (convert 42 9 (.slice (some ⟨W.heap.size, 0, none⟩) 1 1)).run Tryz.prog (W.alloc (.cells #[.int .u8 (row.length : Int)] 5)) = .ok (.string (bstr [(row.length : Int)])) (W.alloc (.cells #[.int .u8 (row.length : Int)] 5))) := fun W => run_byte_str (byte_new W _)
        have HX5 : Hid (∀ W, Below (wr.alloc (.cells #[.int .u8 (row.length : Int)] 5)).drew.heap.size (wr.alloc (.cells #[.int .u8 (row.length : Int)] 5)).drew W → (convert 42 9 (.slice (some ⟨wr.heap.size, 0, none⟩) 1 1)).run Tryz.prog W = .ok (.string (bstr [(row.length : Int)])) W) := fun W hW => run_byte_str (cell_later hW (show (wr.alloc (.cells #[.int .u8 (row.length : Int)] 5)).drew.cell? ⟨wr.heap.size, 0, none⟩ = _ from byte_new wr _))
        have HCALL : Hid (∀ W, Below wr.heap.size wr W → Calls Tryz.prog 96 #[.slice sa row.length sc] W fun r w' => r = .returned (.string (bstr (printE row))) ∧ Below W.heap.size W w') := fun W hW => refEvPrint_any sa sc row W (HE1.out.later hW) (by omega)
        have HQ : Hid (∀ W, Below wr.heap.size wr W → W.cell? ⟨b, o + k, none⟩ = some (.slice sa row.length sc)) := fun W hW => cell_later hW c1
        have HT2 : Hid (bstr pre ++ (bstr [(row.length : Int)] ++ bstr (printE row)) = bstr ((m.take (k + 1)).flatMap lvB)) := by show _ = _; rw [bstr_app, bstr_app, ← HT.out]
        have hki : (k : Int) < (m.length : Int) := by omega
        have hz1 : ¬ 9223372036854775807 < (bstr [(row.length : Int)]).size + (bstr (printE row)).size := by rw [bstr_size, bstr_size]; simp; omega
        have hz2 : ¬ 9223372036854775807 < (bstr pre).size + (bstr [(row.length : Int)] ++ bstr (printE row)).size := by rw [bstr_app, bstr_size, bstr_size, List.length_append]; simp; omega
        have hz3 : ¬ 9223372036854775807 < (bstr pre).size + ((bstr [(row.length : Int)]).size + (bstr (printE row)).size) := by rw [bstr_size, bstr_size, bstr_size]; simp; omega
        have hX1 := HX1.out
        have hX3 := HX3.out
        clear HT
        obtain ⟨S2, hS2⟩ : ∃ S2, S2 = bstr ((m.take (k + 1)).flatMap lvB) := ⟨_, rfl⟩
        rw [← hS2] at HT2
        have HSE := Lib.hid hS2
        clear hS2
        go_wp2_with fail
        have k2 : (wr.alloc (.cells #[.int .u8 (row.length : Int)] 5)).cell? ⟨b, o + k, none⟩ = some (.slice sa row.length sc) := HQ.out _ (below_alloc1 wr _)
        go_region_with (first
          | (go_simp; go_at_call 96; ((with_reducible refine (HCALL.out _ hB9).mono ?_); rintro r w10 ⟨rfl, hb10⟩; have hB10 := hB9.trans (hb10.mono hB9.size); have c10 := HQ.out _ hB10; have c11 := HQ.out _ (hB10.alloc hB10.size (.cells #[.int .u8 (row.length : Int)] 5))))
          | (go_simp; go_at_call 96; ((with_reducible refine (HCALL.out _ hBA).mono ?_); rintro r w10 ⟨rfl, hb10⟩; have hB10 := hBA.trans (hb10.mono hBA.size); have c10 := HQ.out _ hB10; have hX2 := HX5.out _ hb10)))
        all_goals
          have HBZ := Lib.hid (HB.out.trans (hB10.mono HB.out.size))
          have HBY := Lib.hid (HBZ.out.alloc HBZ.out.size (.cells #[.int .u8 (row.length : Int)] 5))
          rw [HT2.out]
          go_wp2
          go_roundw
          case rel => exact ⟨k + 1, by omega, by go_num, by rw [HSE.out], (by first | exact HBZ.out | exact HBY.out)⟩
          case measure => simp [intOf]; omega
      · obtain rfl : k = m.length := by omega
        rw [List.take_length]
        have hcv := run_byte_str (byte_new wr 0)
        have hwz : Below w.heap.size w (wr.alloc (.cells #[.int .u8 0] 5)) := HB.out.alloc HB.out.size _
        have hz1 : ¬ 9223372036854775807 < (bstr (m.flatMap lvB)).size + (bstr [0]).size := by have h := HLB.out m.length; rw [List.take_length] at h; rw [bstr_size, bstr_size]; simp only [List.length_singleton]; omega
        have HT2 : Hid (bstr (m.flatMap lvB) ++ bstr [0] = bstr (spellB m)) := by show _ = _; rw [bstr_app]; rfl
        go_wp2
        go_ret
        exact ⟨ret_str (by rw [HP2.out, ← HT2.out]), hwz⟩

end Go.Proofs.YtljlaopjimkcmaaGreat

/- The contract of the document's Key. -/
namespace Go.Proofs.YtljlaopjimkcmaaGreat
open Go.RowKit

/-- A row of a row's levels has these levels. -/
theorem levelsF_row_self {l : List Ev} (hr : rightF l = true) : levelsF (lvls l).flatten = lvls l := by
  have h1 : rightL l = true ∧ l.length ≤ 200 := by
    unfold rightF at hr
    simp at hr
    exact ⟨hr.2, hr.1⟩
  have h2 : rightF (lvls l).flatten = true := by
    unfold rightF
    rw [lvls_count]
    simp only [Bool.and_eq_true, decide_eq_true_eq]
    refine ⟨h1.2, ?_⟩
    have h := h1.1
    unfold rightL at *
    exact List.all_eq_true.2 fun e he => List.all_eq_true.1 h e (mem_lvls he)
  unfold levelsF
  rw [if_pos h2]
  exact (lvls_iff _ _).2 (sim_row l)
theorem printF_levels (l : List Ev) (hr : rightF l = true) : printF (levelsF l) = keyF l := by
  have h0 : levelsF l = lvls l := by unfold levelsF; rw [if_pos hr]
  unfold printF keyF
  rw [h0, levelsF_row_self hr, if_pos rfl, if_pos hr]

set_option maxRecDepth 100000 in
set_option maxHeartbeats 2000000 in
theorem refKey_any (a : Option Addr) (cap : Nat) (l : List Ev) (w : World) (hl : EvsAt w a l) :
    Calls Tryz.prog 48 #[.slice a l.length cap] w fun r w' => r = .returned (.string (bstr (keyF l))) ∧ Below w.heap.size w w' := by
  have hm := hl.1
  unfold maxLen at hm
  have HRC := Lib.hid (rows_any a cap l w hl)
  have HL := Lib.hid hl
  clear hl
  have HRF : Hid (rightF l = (decide (l.length ≤ 200) && rightL l)) := rfl
  have HE : Hid (rightF l = false → keyF l = []) := fun h => by unfold keyF; rw [h]; rfl
  have HE2 : Hid (rightF l = true → printF (levelsF l) = keyF l) := printF_levels l
  cases hr : rightL l
  · have HE3 := Lib.hid (HE.out (by rw [HRF.out, hr]; simp))
    rw [hr] at HRC
    clear hr HE2 HE
    go_enter Tryz.func48, Tryz.ntmps48
    go_wp2_with fail
    refine HRC.out.mono ?_
    rintro r w1 ⟨rfl, hb1⟩
    clear HRC
    go_wp2
    go_ret
    exact ⟨ret_str (by rw [HE3.out]; rfl), hb1⟩
  rw [hr] at HRC
  by_cases h200 : l.length ≤ 200
  case neg =>
    have HE3 := Lib.hid (HE.out (by rw [HRF.out, hr]; simp; omega))
    have hq : decide ((200 : Int) < (l.length : Int)) = true := by simp; omega
    have hq2 : 200 < l.length := by omega
    clear hr HE2 HE h200
    go_enter Tryz.func48, Tryz.ntmps48
    go_wp2_with fail
    refine HRC.out.mono ?_
    rintro r w1 ⟨rfl, hb1⟩
    clear HRC
    go_wp2
    go_ret
    exact ⟨ret_str (by rw [HE3.out]; rfl), hb1⟩
  have HE3 := Lib.hid (HE2.out (by rw [HRF.out, hr]; simp; omega))
  have hq : decide ((200 : Int) < (l.length : Int)) = false := by simp; omega
  have hq2 : ¬ 200 < l.length := by omega
  clear hr HE2 HE h200
  go_enter Tryz.func48, Tryz.ntmps48
  go_wp2_with fail
  refine HRC.out.mono ?_
  rintro r w1 ⟨rfl, hb1⟩
  clear HRC
  have HLC := Lib.hid (refLevels_any a cap l w1 (HL.out.later hb1))
  go_wp2_with fail
  refine HLC.out.mono ?_
  rintro r w2 ⟨v, ss, rfl, hv, hb2⟩
  obtain ⟨a2, cap2, rfl, hat, _⟩ := OwnLv.formF hv
  have HC := Lib.hid (refLvPrint_any a2 cap2 (levelsF l) w2 hat (by have := levelsF_len l; omega) (by have := levelsF_flat l; omega) (fun i => by have := levelsF_row l i; omega))
  rw [HE3.out] at HC
  have hb3 := hb1.trans (hb2.mono hb1.size)
  clear hv hat hb1 hb2 HLC HE3
  generalize levelsF l = m at *
  go_wp2_with fail
  refine HC.out.mono ?_
  rintro r w3 ⟨rfl, hb4⟩
  have hb5 := hb3.trans (hb4.mono hb3.size)
  clear HC hb3 hb4
  go_wp2
  go_ret
  exact ⟨rfl, hb5⟩

end Go.Proofs.YtljlaopjimkcmaaGreat

/- What the document's over is asked, and answers. -/
namespace Go.Proofs.YtljlaopjimkcmaaGreat
open Go.RowKit

/-- What has been found so far. -/
structure SumV where
  k : List Key
  r : Nat
  c : Nat
  st : Nat
def sumA (x : SumV) (ka : Option Addr) (kc : Nat) : Array Value := #[.slice ka x.k.length kc, .int .i64 (x.r : Int), .int .i64 (x.c : Int), .int .i64 (x.st : Int)]
def SumAt (w : World) (mb B : Nat) (x : SumV) : Prop := ∃ ka kc, w.heap[mb]? = some (.cells (sumA x ka kc) 35 (0, 0)) ∧ OwnRow w B 9 1 strCell (.slice ka x.k.length kc) x.k
def BdS (x : SumV) : Prop := x.k.length ≤ x.c ∧ x.r ≤ x.c ∧ x.st ≤ x.c
def OvP (n : Nat) (s : St) (row : List Ev) (most : Nat) (x y : SumV) : Prop :=
  (x.c + s.pre n ≤ most → y.c = x.c + s.pre n ∧ y.k = (keysOf (s.runs n row)).foldl putK x.k ∧ y.r = x.r + (s.runs n row).length ∧ y.st = x.st + stuckN (s.runs n row)) ∧
    (most < x.c + s.pre n → most < y.c) ∧ (most ≤ x.c → y.c = x.c + 1) ∧ (x.c < most → y.c ≤ most + 4 * n + 1) ∧ BdS y
section
variable {w : World} {mb B : Nat} {x : SumV}
theorem SumAt.cells (h : SumAt w mb B x) : ∃ ka kc, (w.cell? ⟨mb, 0, none⟩ = some (.slice ka x.k.length kc) ∧ w.cell? ⟨mb, 1, none⟩ = some (.int .i64 (x.r : Int)) ∧ w.cell? ⟨mb, 2, none⟩ = some (.int .i64 (x.c : Int)) ∧ w.cell? ⟨mb, 3, none⟩ = some (.int .i64 (x.st : Int))) ∧
    (w.frozen? ⟨mb, 0, none⟩ = false ∧ w.frozen? ⟨mb, 1, none⟩ = false ∧ w.frozen? ⟨mb, 2, none⟩ = false ∧ w.frozen? ⟨mb, 3, none⟩ = false) ∧ OwnRow w B 9 1 strCell (.slice ka x.k.length kc) x.k := by
  obtain ⟨ka, kc, h1, h2⟩ := h
  have hc : ∀ j, w.cell? ⟨mb, j, none⟩ = (sumA x ka kc)[j]? := fun j => by
    unfold World.cell?
    dsimp only
    rw [h1]
    rfl
  have hf : ∀ j, w.frozen? ⟨mb, j, none⟩ = false := fun j => by
    unfold World.frozen?
    dsimp only
    rw [h1]
    rfl
  exact ⟨ka, kc, ⟨hc 0, hc 1, hc 2, hc 3⟩, ⟨hf 0, hf 1, hf 2, hf 3⟩, h2⟩
theorem SumAt.lt (h : SumAt w mb B x) : mb < w.heap.size := by
  obtain ⟨_, _, h1, _⟩ := h
  exact (Array.getElem?_eq_some_iff.1 h1).1
theorem SumAt.later {w' : World} (h : SumAt w mb B x) (hb : Below w.heap.size w w') : SumAt w' mb B x := by
  have hl := h.lt
  obtain ⟨ka, kc, h1, h2⟩ := h
  exact ⟨ka, kc, (hb.block mb hl).trans h1, h2.later hb⟩
theorem row_set {w : World} {B : Nat} {v : Value} {ks : List Key} (h : OwnRow w B 9 1 strCell v ks) (hm : mb < B) (j : Nat) (u : Value) : OwnRow (w.setCell ⟨mb, j, none⟩ u) B 9 1 strCell v ks := ownsRow_setCell_below (a := ⟨mb, j, none⟩) h hm u
theorem SumAt.setC (h : SumAt w mb B x) (hm : mb < B) (n : Nat) : SumAt (w.setCell ⟨mb, 2, none⟩ (.int .i64 (n : Int))) mb B { x with c := n } := by
  obtain ⟨ka, kc, h1, h2⟩ := h
  exact ⟨ka, kc, by rw [heap_setCell_same w mb 2 _ _ _ h1]; rfl, row_set h2 hm _ _⟩
theorem SumAt.setR (h : SumAt w mb B x) (hm : mb < B) (n : Nat) : SumAt (w.setCell ⟨mb, 1, none⟩ (.int .i64 (n : Int))) mb B { x with r := n } := by
  obtain ⟨ka, kc, h1, h2⟩ := h
  exact ⟨ka, kc, by rw [heap_setCell_same w mb 1 _ _ _ h1]; rfl, row_set h2 hm _ _⟩
theorem SumAt.setS (h : SumAt w mb B x) (hm : mb < B) (n : Nat) : SumAt (w.setCell ⟨mb, 3, none⟩ (.int .i64 (n : Int))) mb B { x with st := n } := by
  obtain ⟨ka, kc, h1, h2⟩ := h
  exact ⟨ka, kc, by rw [heap_setCell_same w mb 3 _ _ _ h1]; rfl, row_set h2 hm _ _⟩
theorem SumAt.setK (h : SumAt w mb B x) (hm : mb < B) {a : Option Addr} {c : Nat} {ks : List Key} (ho : OwnRow w B 9 1 strCell (.slice a ks.length c) ks) : SumAt (w.setCell ⟨mb, 0, none⟩ (.slice a ks.length c)) mb B { x with k := ks } := by
  obtain ⟨ka, kc, h1, h2⟩ := h
  exact ⟨a, c, by rw [heap_setCell_same w mb 0 _ _ _ h1]; rfl, row_set ho hm _ _⟩
end

theorem EvsAt.onlyB {w w' : World} {mb : Nat} {a : Option Addr} {l : List Ev} (h : EvsAt w a l) (ho : Only mb w w') (hm : ∀ o, a = some o → o.block ≠ mb) : EvsAt w' a l := by
  refine ⟨h.1, fun hn => ?_⟩
  obtain ⟨b, o, rfl, hc⟩ := h.2 hn
  have hb := hm _ rfl
  refine ⟨b, o, rfl, fun i hi => ?_⟩
  obtain ⟨h0, h1, h2, h3⟩ := hc i hi
  have hk : ∀ {j : Nat} {v : Value}, w.cell? ⟨b, j, none⟩ = some v → w'.cell? ⟨b, j, none⟩ = some v := fun {j v} e => by
    rw [World.cell?_of_block (w := w) (a := ⟨b, j, none⟩) (ho.block b (cell_block e) hb)]
    exact e
  exact ⟨hk h0, hk h1, hk h2, hk h3⟩
/-- One more call of over, from what has been found and what is left. -/
def OverH (W0 : World) (F B mb n most : Nat) : Prop :=
  ∀ (s : St) (row : List Ev) (w : World) (b tb : Nat) (a : Option Addr) (cap tcap : Nat) (ra : Option Addr) (rcap : Nat) (x : SumV), s.Ok F → s.fuel ≤ n → row.length + n ≤ 100 → RefAt w b tb a cap tcap s → ThreadsAt W0 a s.p.threads → Below W0.heap.size W0 w → EvsAt w ra row → (ra = none → rcap = 0 ∧ row = []) → (∀ o, ra = some o → o.block ≠ mb) →
    SumAt w mb B x → BdS x → x.c ≤ 5000 → B ≤ w.heap.size → b ≠ mb → tb ≠ mb →
    Calls Tryz.prog 25 #[.pointer (some ⟨mb, 0, none⟩), .pointer (some ⟨b, 0, none⟩), .slice ra row.length rcap, .int .i64 (most : Int)] w fun r w' => r = .returned (.tuple #[]) ∧ ∃ y, SumAt w' mb B y ∧ OvP n s row most x y ∧ Only mb w w'

theorem bdS_step {x : SumV} (h : BdS x) : BdS { x with c := x.c + 1 } := by
  obtain ⟨h1, h2, h3⟩ := h
  exact ⟨by show _ ≤ x.c + 1; exact Nat.le_succ_of_le h1, Nat.le_succ_of_le h2, Nat.le_succ_of_le h3⟩

set_option maxRecDepth 100000 in
set_option maxHeartbeats 8000000 in
theorem over_full {B mb : Nat} (n most : Nat) (s : St) (row : List Ev) (w : World) (b : Nat) (ra : Option Addr) (rcap : Nat) (x : SumV) (hm : mb < B) (hs : SumAt w mb B x) (hb : BdS x) (hc : x.c ≤ 5000) (hx : most ≤ x.c) :
    Calls Tryz.prog 25 #[.pointer (some ⟨mb, 0, none⟩), .pointer (some ⟨b, 0, none⟩), .slice ra row.length rcap, .int .i64 (most : Int)] w fun r w' => r = .returned (.tuple #[]) ∧ ∃ y, SumAt w' mb B y ∧ OvP n s row most x y ∧ Only mb w w' := by
  obtain ⟨ka, kc, ⟨c0, c1, c2, c3⟩, ⟨f0, f1, f2, f3⟩, _⟩ := hs.cells
  have HS1 := Lib.hid (hs.setC hm (x.c + 1))
  have hw : IntKind.i64.wrap ((x.c : Int) + 1) = (x.c : Int) + 1 := IntWalk.i64_in _ (by omega)
  have hq : decide ((most : Int) < (x.c : Int) + 1) = true := by simp; omega
  have HP : Hid (OvP n s row most x { x with c := x.c + 1 }) := by
    have := pre_pos n s
    exact ⟨fun h => by omega, fun _ => by show most < x.c + 1; omega, fun _ => rfl, fun h => by omega, bdS_step hb⟩
  have HO : Hid (Only mb w (w.setCell ⟨mb, 2, none⟩ (.int .i64 ((x.c : Int) + 1)))) := (Only.refl mb w).setCell 2 _
  clear hs hb
  go_enter Tryz.func25, Tryz.ntmps25
  go_wp2_with fail
  refine bodyPost_ret (results_none rfl _ _ _) rfl ?_
  exact ⟨rfl, _, HS1.out, HP.out, HO.out⟩

end Go.Proofs.YtljlaopjimkcmaaGreat

/- The contract of the document's over. -/
namespace Go.Proofs.YtljlaopjimkcmaaGreat
open Go.RowKit

theorem refNextS (F : Nat) {w : World} {b tb : Nat} {a : Option Addr} {cap tcap : Nat} {s : St} (h : RefAt w b tb a cap tcap s) (hth : ThreadsAt w a s.p.threads) (ok : s.Ok F) (t : Int) :
    Calls Tryz.prog 49 #[.pointer (some ⟨b, 0, none⟩), .int .i64 t] w fun r w' => ∃ e : Ev, r = .returned (.tuple #[.agg #[.int .i64 e.thread, .int .i64 e.kind, .int .i64 e.obj, .bool e.fail], .bool (s.next t).isSome]) ∧ Below w.heap.size w w' :=
  (refNext_any h hth ok t).mono fun _ _ ⟨h1, h2⟩ => ⟨(s.next t).getD ev0, h1, h2⟩

set_option maxRecDepth 100000 in
set_option maxHeartbeats 8000000 in
theorem over_end {W0 : World} {F B mb : Nat} (n most : Nat) (s : St) (row : List Ev) (w : World) (b tb : Nat) (a : Option Addr) (cap tcap : Nat) (ra : Option Addr) (rcap : Nat) (x : SumV) (ok : s.Ok F) (hall : s.all = []) (hr : RefAt w b tb a cap tcap s) (hth : ThreadsAt W0 a s.p.threads) (hw0 : Below W0.heap.size W0 w) (hwm : W0.heap.size ≤ mb) (he : EvsAt w ra row) (hrm : ∀ o, ra = some o → o.block ≠ mb)
    (hs : SumAt w mb B x) (hb : BdS x) (hc : x.c ≤ 5000) (hB : B ≤ w.heap.size) (hm : mb < B) (hbm : b ≠ mb) (htm : tb ≠ mb) (hx : x.c < most) (hmost : most ≤ 1000) :
    Calls Tryz.prog 25 #[.pointer (some ⟨mb, 0, none⟩), .pointer (some ⟨b, 0, none⟩), .slice ra row.length rcap, .int .i64 (most : Int)] w fun r w' => r = .returned (.tuple #[]) ∧ ∃ y, SumAt w' mb B y ∧ OvP n s row most x y ∧ Only mb w w' := by
  obtain ⟨ka, kc, ⟨c0, c1, c2, c3⟩, ⟨f0, f1, f2, f3⟩, _⟩ := hs.cells
  have HS1 : Hid (SumAt (w.setCell ⟨mb, 2, none⟩ (.int .i64 ((x.c : Int) + 1))) mb B { x with c := x.c + 1 }) := hs.setC hm (x.c + 1)
  have hw : IntKind.i64.wrap ((x.c : Int) + 1) = (x.c : Int) + 1 := IntWalk.i64_in _ (by omega)
  have hq : decide ((most : Int) < (x.c : Int) + 1) = false := by simp; omega
  have HO1 : Hid (Only mb w (w.setCell ⟨mb, 2, none⟩ (.int .i64 ((x.c : Int) + 1)))) := (Only.refl mb w).setCell 2 _
  have HR1 := Lib.hid (hr.other hbm htm 2 (.int .i64 ((x.c : Int) + 1)))
  have HTH : Hid (∀ W, Only mb w W → ThreadsAt W a s.p.threads) := fun W ho => hth.later (hw0.trans (ho.below hwm hw0.size))
  have HEV : Hid (∀ W, Only mb w W → EvsAt W ra row) := fun W ho => he.onlyB ho hrm
  have HOK := Lib.hid ok
  have HAL := Lib.hid hall
  have hb1 := hb.1
  have hb2 := hb.2.1
  have hb3 := hb.2.2
  have hz1 : (w.setCell ⟨mb, 2, none⟩ (.int .i64 ((x.c : Int) + 1))).heap.size = w.heap.size := by simp [World.setCell]
  have h4 := ok.len4
  clear hs hr hth he ok hall hw0
  go_enter Tryz.func25, Tryz.ntmps25
  go_wp2_with fail
  generalize w.setCell ⟨mb, 2, none⟩ (.int .i64 ((x.c : Int) + 1)) = W1 at *
  refine (refAll_any HR1.out (HTH.out W1 HO1.out) HOK.out).mono ?_
  rintro r W2 ⟨va, rfl, hva, hb2⟩
  rw [HAL.out] at hva
  obtain ⟨aa, ca, rfl, _, _⟩ := OwnN.form hva (by simp)
  have HO2 : Hid (Only mb w W2) := HO1.out.trans (.of_below hb2)
  have HS2 := Lib.hid (HS1.out.later hb2)
  have HR2 := Lib.hid (HR1.out.later hb2)
  have hz2 := hb2.size
  obtain ⟨ka2, kc2, ⟨d0, d1, d2, d3⟩, ⟨g0, g1, g2, g3⟩, _⟩ := HS2.out.cells
  have hw1 : IntKind.i64.wrap ((x.r : Int) + 1) = (x.r : Int) + 1 := IntWalk.i64_in _ (by omega)
  have HS3 : Hid (SumAt (W2.setCell ⟨mb, 1, none⟩ (.int .i64 ((x.r : Int) + 1))) mb B { x with c := x.c + 1, r := x.r + 1 }) := HS2.out.setR hm (x.r + 1)
  have HO3 : Hid (Only mb w (W2.setCell ⟨mb, 1, none⟩ (.int .i64 ((x.r : Int) + 1)))) := HO2.out.setCell 1 _
  have HR3 := Lib.hid (HR2.out.other hbm htm 1 (.int .i64 ((x.r : Int) + 1)))
  have hz3 : (W2.setCell ⟨mb, 1, none⟩ (.int .i64 ((x.r : Int) + 1))).heap.size = W2.heap.size := by simp [World.setCell]
  simp only [List.length_nil]
  clear HS1 HO1 HR1 hva c0 c1 c2 c3 f0 f1 f2 f3
  go_wp2_with fail
  generalize W2.setCell ⟨mb, 1, none⟩ (.int .i64 ((x.r : Int) + 1)) = W3 at *
  obtain ⟨ka3, kc3, ⟨i0, i1, i2, i3⟩, ⟨j0, j1, j2, j3⟩, hown3⟩ := HS3.out.cells
  have HOW3 := Lib.hid hown3
  clear hown3 d0 d1 d2 d3 g0 g1 g2 g3
  have HKEY : Hid (∀ W, Only mb w W → Calls Tryz.prog 48 #[.slice ra row.length rcap] W fun r w' => r = .returned (.string ⟨(keyB row).toArray⟩) ∧ Below W.heap.size W w') := fun W h => refKey_any ra rcap row W (HEV.out W h)
  have hBw : B ≤ W3.heap.size := by omega
  have HO3d : Only mb w W3.drew := HO3.out.drew
  have hB9 : Below W3.heap.size W3 W3.drew := (Below.refl _ _).drew
  have HPUT : Hid (∀ W, Below W3.heap.size W3 W → Calls Tryz.prog 47 #[.slice ka3 x.k.length kc3, .string ⟨(keyB row).toArray⟩] W fun r w' => ∃ a2 cap2, r = .returned (.slice a2 (putK x.k (keyB row)).length cap2) ∧ OwnRow w' B 9 1 strCell (.slice a2 (putK x.k (keyB row)).length cap2) (putK x.k (keyB row)) ∧ Below W.heap.size W w') := fun W h => put_any B ka3 kc3 x.k (keyB row) W (HOW3.out.later h) (by omega) (Nat.le_trans hBw h.size)
  have HSB : Hid (∀ W a2 cap2, Below W3.heap.size W3 W → OwnRow W B 9 1 strCell (.slice a2 (putK x.k (keyB row)).length cap2) (putK x.k (keyB row)) → SumAt (W.setCell ⟨mb, 0, none⟩ (.slice a2 (putK x.k (keyB row)).length cap2)) mb B { x with c := x.c + 1, r := x.r + 1, k := putK x.k (keyB row) }) := fun W a2 cap2 h ho => (HS3.out.later h).setK hm ho
  have HPL : Hid ((putK x.k (keyB row)).length ≤ x.c + 1) := by have := putK_len x.k (keyB row); show _ ≤ _; omega
  have HKR : Hid ((keysOf [(s, row)]).foldl putK x.k = putK x.k (keyB row)) := rfl
  generalize keyB row = K at *
  generalize putK x.k K = KS at *
  go_upto_region 5 with (fail)
  go_cut [] (fun wx => Hid (SumAt wx mb B { x with c := x.c + 1, r := x.r + 1, k := KS }) ∧ Hid (Only mb w wx) ∧ Hid (RefAt wx b tb a cap tcap s))
  case first =>
    go_wp2_with fail
    go_region_with (first
      | (go_simp; go_at_call 48; ((with_reducible refine (HKEY.out _ HO3d).mono ?_); rintro r w5 ⟨rfl, hb5⟩; have hB5 := hB9.trans (hb5.mono hB9.size); have i05 := cell_later hB5 i0))
      | (go_simp; go_at_call 47; ((with_reducible refine (HPUT.out _ hB5).mono ?_); rintro r w6 ⟨a6, c6, rfl, ho6, hb6⟩; have hB6 := hB5.trans (hb6.mono hB5.size); have i06 := cell_later hB6 i0; have j06 := (hB6.frozen (p := ⟨mb, 0, none⟩) (by show mb < _; omega)).trans j0; have HO6 := Lib.hid ho6; clear ho6)))
    all_goals
      have HSM := Lib.hid (HSB.out _ _ _ hB6 HO6.out)
      have HOM : Hid (Only mb w (w6.setCell ⟨mb, 0, none⟩ (.slice a6 KS.length c6))) := (HO3.out.trans (.of_below hB6)).setCell 0 _
      have HRM : Hid (RefAt (w6.setCell ⟨mb, 0, none⟩ (.slice a6 KS.length c6)) b tb a cap tcap s) := (HR3.out.later hB6).other hbm htm 0 _
      go_wp2_with fail
      go_meet
      exact ⟨HSM.out, HOM.out, HRM.out⟩
  case rest =>
    obtain ⟨HS7, HO7, HR7⟩ := hcut
    clear i0 i1 i2 i3 j0 j1 j2 j3 HKEY HPUT HSB
    have HSTK : Hid (stuckN [(s, row)] = if waits s then 1 else 0) := by show _ = _; unfold stuckN; cases h : waits s <;> simp [h]
    have HWT : Hid (waits s = waitsTo s s.ts.length) := rfl
    have hzc : W0.heap.size ≤ mb := hwm
    have HP7 : Hid (∀ st', st' = x.st + (if waits s then 1 else 0) → OvP n s row most x { x with c := x.c + 1, r := x.r + 1, k := KS, st := st' }) := fun st' hst => by
      obtain ⟨h1, h2⟩ := runs_end n s row HAL.out
      unfold OvP
      rw [h1, h2]
      refine ⟨fun _ => ⟨rfl, HKR.out.symm, rfl, ?_⟩, fun h => by omega, fun h => by omega, fun _ => by show x.c + 1 ≤ _; omega, ?_⟩
      · rw [HSTK.out]; exact hst
      · refine ⟨HPL.out, by show x.r + 1 ≤ x.c + 1; omega, ?_⟩
        show st' ≤ x.c + 1
        rw [hst]
        split <;> omega
    have hw3 : IntKind.i64.wrap ((x.st : Int) + 1) = (x.st : Int) + 1 := IntWalk.i64_in _ (by omega)
    clear HKR HPL HAL
    generalize wc = W7 at *
    go_wp2_with fail
    go_loopw [9, 10] (fun s9 i wr => ∃ k : Nat, k ≤ s.ts.length ∧ i = .int .i64 k ∧ s9 = .bool (waitsTo s k) ∧ Hid (Below W7.heap.size W7 wr)) (fun _ i _ => s.ts.length - (intOf i).toNat)
    case atStart => exact ⟨0, Nat.zero_le _, rfl, rfl, Below.refl _ _⟩
    case round =>
      obtain ⟨k, hk, rfl, rfl, HB⟩ := hrel
      have HRk := Lib.hid (HR7.out.later HB.out)
      have p3 := HRk.out.prog.2
      have hbl := HRk.out.lt.1
      by_cases hlt : k < s.ts.length
      · have HN := Lib.hid (refNextS F HRk.out (HTH.out wr (HO7.out.trans (.of_below HB.out))) HOK.out k)
        have HSU := Lib.hid (waitsTo_succ s k)
        have hBB := HB.out.size
        go_wp2_with fail
        refine HN.out.mono ?_
        rintro r w8 ⟨e, rfl, hb8⟩
        have HB9 := Lib.hid ((HB.out.trans (hb8.mono hBB)).alloc (HB.out.trans (hb8.mono hBB)).size (.cells #[.int .i64 e.thread, .int .i64 e.kind, .int .i64 e.obj, .bool e.fail] 51))
        clear hb8 HN p3
        generalize (s.next k).isSome = d at *
        generalize waitsTo s k = g at *
        cases g
        · have HS2 : Hid (waitsTo s (k + 1) = d) := by show _ = _; rw [HSU.out]; simp
          go_wp2_with fail
          go_roundw
          case rel => exact ⟨k + 1, by omega, by go_num, by rw [HS2.out], HB9.out⟩
          case measure => simp [intOf]; omega
        · have HS2 : Hid (waitsTo s (k + 1) = true) := by show _ = _; rw [HSU.out]; simp
          go_wp2_with fail
          go_roundw
          case rel => exact ⟨k + 1, by omega, by go_num, by rw [HS2.out], HB9.out⟩
          case measure => simp [intOf]; omega
      · obtain rfl : k = s.ts.length := by omega
        have HS8 := Lib.hid (HS7.out.later HB.out)
        have HO8 : Hid (Only mb w wr) := HO7.out.trans (.of_below HB.out)
        obtain ⟨ka8, kc8, ⟨i0, i1, i2, i3⟩, ⟨j0, j1, j2, j3⟩, _⟩ := HS8.out.cells
        rw [← HWT.out]
        cases hwt : waits s
        · have HPF := Lib.hid (HP7.out x.st (by rw [hwt]; rfl))
          clear hwt
          go_wp2_with fail
          go_loopw [13] (fun i w' => i = .int .i64 0 ∧ Hid (SumAt w' mb B { x with c := x.c + 1, r := x.r + 1, k := KS }) ∧ Hid (Only mb w w')) (fun _ _ => 0)
          case atStart => exact ⟨rfl, HS8.out, HO8.out⟩
          case round =>
            obtain ⟨rfl, HSZ, HOZ⟩ := hrel
            go_wp2_with fail
            go_end0
            exact ⟨rfl, _, HSZ.out, HPF.out, HOZ.out⟩
        · have HPF := Lib.hid (HP7.out (x.st + 1) (by rw [hwt]; rfl))
          have HSF : Hid (SumAt (wr.setCell ⟨mb, 3, none⟩ (.int .i64 ((x.st : Int) + 1))) mb B { x with c := x.c + 1, r := x.r + 1, k := KS, st := x.st + 1 }) := HS8.out.setS hm (x.st + 1)
          have HOF : Hid (Only mb w (wr.setCell ⟨mb, 3, none⟩ (.int .i64 ((x.st : Int) + 1)))) := HO8.out.setCell 3 _
          clear hwt
          go_wp2_with fail
          go_loopw [13] (fun i w' => i = .int .i64 0 ∧ Hid (SumAt w' mb B { x with c := x.c + 1, r := x.r + 1, k := KS, st := x.st + 1 }) ∧ Hid (Only mb w w')) (fun _ _ => 0)
          case atStart => exact ⟨rfl, HSF.out, HOF.out⟩
          case round =>
            obtain ⟨rfl, HSZ, HOZ⟩ := hrel
            go_wp2_with fail
            go_end0
            exact ⟨rfl, _, HSZ.out, HPF.out, HOZ.out⟩

end Go.Proofs.YtljlaopjimkcmaaGreat

/- A whole row of events behind a row of one's own, and what else stays. -/
namespace Go.Proofs.YtljlaopjimkcmaaGreat
open Go.RowKit

theorem wp_copyE2 {w : World} {o : Oper} {a : Act} {K : Act → World → Prop} {Q : Exit → Act → World → Prop} (s x : Operand)
    (ho : o.op = .call { callee := .builtin .append, args := #[s, x], argTypes := #[47, 47] }) (B : Nat) (v : Value) (es : List Ev) (hs : a.eval s = v) (hown : OwnE w B v es)
    (ra : Option Addr) (rcap : Nat) (row : List Ev) (hx : a.eval x = .slice ra row.length rcap) (hrow : EvsAt w ra row) (hra : ra = none → rcap = 0 ∧ row = [])
    (hlen : es.length + row.length ≤ 1000000) (hB : B ≤ w.heap.size)
    (h : ∀ v' w', OwnE w' B v' (es ++ row) → Below B w w' → w.grownBy w' v.ownBlock → K (a.put o.dst v') w') : Oper.wp Tryz.prog o a w K Q := by
  have hinfo : (Tryz.prog.info? 51).map (fun i => (i.zero, i.size, i.bytes)) = some (some (.agg #[.int .i64 0, .int .i64 0, .int .i64 0, .bool false]), 4, 32) := by kernel_rfl
  obtain ⟨i, hi, hzz⟩ := Option.map_eq_some_iff.1 hinfo
  simp only [Prod.mk.injEq] at hzz
  obtain ⟨hz, hsz, hby⟩ := hzz
  cases ra with
  | none =>
    obtain ⟨rfl, rfl⟩ := hra rfl
    have hrun := run_append_owned_none (P := Tryz.prog) (w := w) B 47 o.type 51 i 4 Tryz.underlying47 hi v es.length (evCells es) hown
    have hK := h v w (by rw [List.append_nil]; exact hown) (Below.refl _ _) ⟨rfl, rfl, rfl, Nat.le_refl _, fun _ _ _ => rfl⟩
    unfold Oper.wp
    simp [execOp, ho, resolve, invoke, builtin, hs, hx, hrun, Result.andThen]
    exact hK
  | some ad =>
    by_cases hne : row = []
    · subst hne
      refine wp_append_own w s x 47 ho B 51 i (.agg #[.int .i64 0, .int .i64 0, .int .i64 0, .bool false]) 4 32 Tryz.underlying47 hi hz hsz hby rfl (by decide) v es.length (evCells es) hs hown ad 0 rcap [] hx (by simp) (by simp) (by simp) (by unfold maxLen; omega) (by omega) hB ?_
      intro v' w' h1 h2 _
      refine h v' w' ?_ ((Below.refl B w).grown h2 hB (fun k hk => (World.ownsRow.lt hown k hk).1)) h2
      unfold OwnE
      simpa using h1
    · obtain ⟨b, o', e, hc⟩ := hrow.2 hne
      injection e with e
      subst e
      refine wp_append_own w s x 47 ho B 51 i (.agg #[.int .i64 0, .int .i64 0, .int .i64 0, .bool false]) 4 32 Tryz.underlying47 hi hz hsz hby rfl (by decide) v es.length (evCells es) hs hown ⟨b, o', none⟩ row.length rcap (evCells row) hx (by rw [evCells_length]) (fun j u hj => hrow.cellAt j u hj)
        (evCells_one _) (by unfold maxLen; omega) (by omega) hB ?_
      intro v' w' h1 h2 _
      refine h v' w' ?_ ((Below.refl B w).grown h2 hB (fun k hk => (World.ownsRow.lt hown k hk).1)) h2
      unfold OwnE
      rw [List.length_append, evCells_append]
      exact h1

/-- The same in a region whose order is drawn. -/
theorem step_copyE2 {w : World} {ops : Array Oper} {o : Oper} {a : Act} {K : Act → World → Prop} {Q : Exit → Act → World → Prop} {E : Prop} (hgd : o.guard = none) (s x : Operand)
    (ho : o.op = .call { callee := .builtin .append, args := #[s, x], argTypes := #[47, 47] }) (B : Nat) (v : Value) (es : List Ev) (hs : a.eval s = v) (hown : OwnE w B v es)
    (ra : Option Addr) (rcap : Nat) (row : List Ev) (hx : a.eval x = .slice ra row.length rcap) (hrow : EvsAt w ra row) (hra : ra = none → rcap = 0 ∧ row = [])
    (hlen : es.length + row.length ≤ 1000000) (hB : B ≤ w.heap.size)
    (h : ∀ v' w', OwnE w' B v' (es ++ row) → Below B w w' → w.grownBy w' v.ownBlock → K (a.put o.dst v') w') : if Region.wanted o (yielded ops a.tmps) = true then Oper.wp Tryz.prog o a w K Q else E := by
  have hw : Region.wanted o (yielded ops a.tmps) = true := by simp [Region.wanted, hgd]
  rw [if_pos hw]
  exact wp_copyE2 s x ho B v es hs hown ra rcap row hx hrow hra hlen hB h

theorem evs_one1 (w : World) (e : Ev) : EvsAt (w.alloc (.cells #[.int .i64 e.thread, .int .i64 e.kind, .int .i64 e.obj, .bool e.fail] 51)) (some ⟨w.heap.size, 0, none⟩) [e] := by
  refine ⟨by simp [maxLen], fun _ => ⟨w.heap.size, 0, rfl, fun i hi => ?_⟩⟩
  obtain rfl : i = 0 := by simp at hi; omega
  simp
theorem EvsAt.grown {w w' : World} {g : Nat} {l : List Ev} {row : Option Nat} (h : EvsAt w (some ⟨g, 0, none⟩) l) (hg : w.grownBy w' row) (hne : some g ≠ row) : EvsAt w' (some ⟨g, 0, none⟩) l := by
  refine ⟨h.1, fun hn => ?_⟩
  obtain ⟨b, o, e, hc⟩ := h.2 hn
  cases e
  refine ⟨g, 0, rfl, fun i hi => ?_⟩
  obtain ⟨h0, h1, h2, h3⟩ := hc i hi
  have hs : ∀ o, w'.cell? ⟨g, o, none⟩ = w.cell? ⟨g, o, none⟩ := fun o => World.cell?_of_block (hg.block g (cell_block h0) hne)
  exact ⟨(hs _).trans h0, (hs _).trans h1, (hs _).trans h2, (hs _).trans h3⟩

/-- The three ways in which an empty row and a row of one come to lie. -/
structure Ways (W : World) (e : Ev) : Prop where
  a : OwnE (W.alloc (.cells #[] 51)).drew W.heap.size (.slice (some ⟨W.heap.size, 0, none⟩) 0 0) []
  b : OwnE ((W.alloc (.cells #[] 51)).alloc (.cells #[.int .i64 e.thread, .int .i64 e.kind, .int .i64 e.obj, .bool e.fail] 51)).drew W.heap.size (.slice (some ⟨W.heap.size, 0, none⟩) 0 0) []
  bt : EvsAt ((W.alloc (.cells #[] 51)).alloc (.cells #[.int .i64 e.thread, .int .i64 e.kind, .int .i64 e.obj, .bool e.fail] 51)).drew (some ⟨W.heap.size + 1, 0, none⟩) [e]
  c : OwnE ((W.alloc (.cells #[.int .i64 e.thread, .int .i64 e.kind, .int .i64 e.obj, .bool e.fail] 51)).alloc (.cells #[] 51)).drew W.heap.size (.slice (some ⟨W.heap.size + 1, 0, none⟩) 0 0) []
  ct : EvsAt ((W.alloc (.cells #[.int .i64 e.thread, .int .i64 e.kind, .int .i64 e.obj, .bool e.fail] 51)).alloc (.cells #[] 51)).drew (some ⟨W.heap.size, 0, none⟩) [e]
theorem ways (W : World) (e : Ev) : Ways W e := by
  have h0 : OwnE (W.alloc (.cells #[] 51)) W.heap.size (.slice (some ⟨W.heap.size, 0, none⟩) 0 0) [] := ownE_empty W _ rfl
  have h1 : OwnE ((W.alloc (.cells #[.int .i64 e.thread, .int .i64 e.kind, .int .i64 e.obj, .bool e.fail] 51)).alloc (.cells #[] 51)) (W.heap.size + 1) (.slice (some ⟨W.heap.size + 1, 0, none⟩) 0 0) [] := by
    have := ownE_empty (W.alloc (.cells #[.int .i64 e.thread, .int .i64 e.kind, .int .i64 e.obj, .bool e.fail] 51)) _ rfl
    rwa [World.size_alloc] at this
  have h2 := evs_one1 (W.alloc (.cells #[] 51)) e
  rw [World.size_alloc] at h2
  have h3 := (evs_one1 W e).later (below_alloc1 _ (.cells #[] 51))
  refine ⟨h0, OwnE.alloc h0 _, h2, ?_, h3⟩
  obtain ⟨g1, g2 | ⟨g, cap, cur, g2, g3, g4⟩⟩ := h1
  · exact ⟨g1, .inl g2⟩
  · exact ⟨g1, .inr ⟨g, cap, cur, g2, by omega, g4⟩⟩

end Go.Proofs.YtljlaopjimkcmaaGreat

/- The contract of the document's over, one step more. -/
namespace Go.Proofs.YtljlaopjimkcmaaGreat
open Go.RowKit

/-- Behind j threads that may. -/
def OvJ (n : Nat) (s : St) (row : List Ev) (most : Nat) (x : SumV) (j : Nat) (y : SumV) : Prop :=
  (x.c + preTo n s j ≤ most → y.c = x.c + preTo n s j ∧ y.k = (keysOf (runsTo n s row j)).foldl putK x.k ∧ y.r = x.r + (runsTo n s row j).length ∧ y.st = x.st + stuckN (runsTo n s row j)) ∧
    (most < x.c + preTo n s j → most < y.c) ∧ y.c ≤ most + 4 * n + 1 + j ∧ BdS y
theorem ovJ_zero {n : Nat} {s : St} {row : List Ev} {most : Nat} {x : SumV} (h : x.c ≤ most) (hb : BdS x) : OvJ n s row most x 0 x := by
  have h0 : preTo n s 0 = 0 := rfl
  have h1 : runsTo n s row 0 = [] := rfl
  unfold OvJ
  rw [h0, h1]
  exact ⟨fun _ => ⟨rfl, rfl, rfl, rfl⟩, fun h => by omega, by omega, hb⟩
theorem stuckN_append (a b : Ends) : stuckN (a ++ b) = stuckN a + stuckN b := by
  unfold stuckN
  rw [List.filter_append, List.length_append]
theorem keysOf_append (a b : Ends) : keysOf (a ++ b) = keysOf a ++ keysOf b := List.map_append
theorem ovJ_step {n : Nat} {s : St} {row : List Ev} {most : Nat} {x y z : SumV} {j : Nat} {e : Ev} {s1 : St} (h : OvJ n s row most x j y) (hlt : j < s.all.length) (hst : s.step s.all[j] = (0, e, s1)) (hz : OvP n s1 (row ++ [e]) most y z) : OvJ n s row most x (j + 1) z := by
  have hp : preTo n s (j + 1) = preTo n s j + s1.pre n := by have h := preTo_succ n s hlt; rw [hst] at h; exact h
  have hr : runsTo n s row (j + 1) = runsTo n s row j ++ s1.runs n (row ++ [e]) := by have h := runsTo_succ n s row hlt; rw [hst] at h; exact h
  have hpos := pre_pos n s1
  obtain ⟨h1, h2, h3, _⟩ := h
  obtain ⟨z1, z2, z3, z4, z5⟩ := hz
  unfold OvJ
  rw [hp, hr]
  refine ⟨fun hh => ?_, fun hh => ?_, ?_, z5⟩
  · obtain ⟨a1, a2, a3, a4⟩ := h1 (by omega)
    obtain ⟨b1, b2, b3, b4⟩ := z1 (by omega)
    refine ⟨by omega, ?_, ?_, ?_⟩
    · rw [b2, a2, keysOf_append, List.foldl_append]
    · rw [b3, a3, List.length_append]; omega
    · rw [b4, a4, stuckN_append]; omega
  · by_cases hy : most < x.c + preTo n s j
    · have := h2 hy
      have := z3 (by omega)
      omega
    · obtain ⟨a1, _⟩ := h1 (by omega)
      exact z2 (by omega)
  · by_cases hy : y.c < most
    · have := z4 hy
      omega
    · have := z3 (by omega)
      omega
theorem ovJ_all {n : Nat} {s : St} {row : List Ev} {most : Nat} {x y : SumV} (hx : x.c < most) (hne : s.all ≠ []) (h4 : s.all.length ≤ 4) (h : OvJ n s row most { x with c := x.c + 1 } s.all.length y) : OvP (n + 1) s row most x y := by
  have hp := preTo_all n s
  have hr := runsTo_all n s row hne
  obtain ⟨h1, h2, h3, h5⟩ := h
  unfold OvP
  rw [hr, hp]
  dsimp only at h1 h2
  refine ⟨fun hh => ?_, fun hh => h2 (by omega), fun hh => by omega, fun _ => by omega, h5⟩
  obtain ⟨a1, a2, a3, a4⟩ := h1 (by omega)
  exact ⟨by omega, a2, a3, a4⟩

theorem own_form {w : World} {B : Nat} {v : Value} {l : List Ev} (h : OwnE w B v l) (hm : l.length ≤ 1000000) : ∃ a cap, v = .slice a l.length cap ∧ EvsAt w a l ∧ (a = none → cap = 0 ∧ l = []) ∧ ∀ o, a = some o → B ≤ o.block := by
  obtain ⟨a, cap, hv, he⟩ := OwnE.form h hm
  refine ⟨a, cap, hv, he, ?_⟩
  obtain ⟨k1, ⟨k2, k3⟩ | ⟨g, cap', cur, k2, k3, _⟩⟩ := h
  · rw [hv] at k2
    injection k2 with h1 h2 h3
    subst h1
    refine ⟨fun _ => ⟨h3, List.length_eq_zero_iff.1 k3⟩, fun o h => by cases h⟩
  · rw [hv] at k2
    injection k2 with h1 h2 h3
    subst h1
    exact ⟨fun h => (by cases h), fun o h => by injection h with h; subst h; exact k3⟩

end Go.Proofs.YtljlaopjimkcmaaGreat

/- The contract of the document's over. -/
namespace Go.Proofs.YtljlaopjimkcmaaGreat
open Go.RowKit

set_option maxRecDepth 100000 in
set_option maxHeartbeats 8000000 in
theorem over_step {W0 : World} {F B mb : Nat} (n most : Nat) (ih : OverH W0 F B mb n most) (s : St) (row : List Ev) (w : World) (b tb : Nat) (a : Option Addr) (cap tcap : Nat) (ra : Option Addr) (rcap : Nat) (x : SumV) (ok : s.Ok F) (hall : s.all ≠ []) (hf : s.fuel ≤ n + 1) (hl : row.length + (n + 1) ≤ 100) (hr : RefAt w b tb a cap tcap s) (hth : ThreadsAt W0 a s.p.threads) (hw0 : Below W0.heap.size W0 w) (hwm : W0.heap.size ≤ mb) (he : EvsAt w ra row) (hra : ra = none → rcap = 0 ∧ row = []) (hrm : ∀ o, ra = some o → o.block ≠ mb)
    (hs : SumAt w mb B x) (hb : BdS x) (hB : B ≤ w.heap.size) (hm : mb < B) (hbm : b ≠ mb) (htm : tb ≠ mb) (hx : x.c < most) (hmost : most ≤ 1000) :
    Calls Tryz.prog 25 #[.pointer (some ⟨mb, 0, none⟩), .pointer (some ⟨b, 0, none⟩), .slice ra row.length rcap, .int .i64 (most : Int)] w fun r w' => r = .returned (.tuple #[]) ∧ ∃ y, SumAt w' mb B y ∧ OvP (n + 1) s row most x y ∧ Only mb w w' := by
  obtain ⟨ka, kc, ⟨c0, c1, c2, c3⟩, ⟨f0, f1, f2, f3⟩, _⟩ := hs.cells
  have HS1 : Hid (SumAt (w.setCell ⟨mb, 2, none⟩ (.int .i64 ((x.c : Int) + 1))) mb B { x with c := x.c + 1 }) := hs.setC hm (x.c + 1)
  have hw : IntKind.i64.wrap ((x.c : Int) + 1) = (x.c : Int) + 1 := IntWalk.i64_in _ (by omega)
  have hq : decide ((most : Int) < (x.c : Int) + 1) = false := by simp; omega
  have HO1 : Hid (Only mb w (w.setCell ⟨mb, 2, none⟩ (.int .i64 ((x.c : Int) + 1)))) := (Only.refl mb w).setCell 2 _
  have HR0 := Lib.hid hr
  have hbl := hr.lt
  have HTH : Hid (∀ W, Only mb w W → ThreadsAt W a s.p.threads) := fun W ho => hth.later (hw0.trans (ho.below hwm hw0.size))
  have HT0 := Lib.hid hth
  have HBW : Hid (∀ W, Only mb w W → Below W0.heap.size W0 W) := fun W ho => hw0.trans (ho.below hwm hw0.size)
  have HEV : Hid (∀ W, Only mb w W → EvsAt W ra row) := fun W ho => he.onlyB ho hrm
  have HRA := Lib.hid hra
  have HOK := Lib.hid ok
  have HIH := Lib.hid ih
  have HAL := Lib.hid hall
  have hb1 := hb.1
  have hb2 := hb.2.1
  have hb3 := hb.2.2
  have hz1 : (w.setCell ⟨mb, 2, none⟩ (.int .i64 ((x.c : Int) + 1))).heap.size = w.heap.size := by simp [World.setCell]
  have h4 := ok.len4
  have hal : s.all.length ≤ 4 := Nat.le_trans s.all_len h4
  have HNE : Hid (1 ≤ s.ts.length) := by have h1 := s.all_len; have h2 := List.length_pos_iff.2 hall; show _ ≤ _; omega
  have hln : ((s.all.length : Int) == 0) = false := by have := List.length_pos_iff.2 hall; simp; exact hall
  have hmw : mb < w.heap.size := by omega
  clear hs hr hth he ok hall hw0 ih hra hb
  go_enter Tryz.func25, Tryz.ntmps25
  go_wp2_with fail
  generalize w.setCell ⟨mb, 2, none⟩ (.int .i64 ((x.c : Int) + 1)) = W1 at *
  refine (refAll_any (HR0.out.only HO1.out hbm htm) (HTH.out W1 HO1.out) HOK.out).mono ?_
  rintro r W2 ⟨va, rfl, hva, hb2'⟩
  obtain ⟨aa, ca, rfl, _, _⟩ := OwnN.form hva (by omega)
  have HN2 := Lib.hid hva
  have HO2 : Hid (Only mb w W2) := HO1.out.trans (.of_below hb2')
  have HS2 := Lib.hid (HS1.out.later hb2')
  have hz2 := hb2'.size
  clear HS1 HO1 hva c0 c1 c2 c3 f0 f1 f2 f3 hb2'
  go_wp2_with fail
  go_loopw [13] (fun i wr => ∃ (j : Nat) (y : SumV), j ≤ s.all.length ∧ i = .int .i64 j ∧ Hid (OvJ n s row most { x with c := x.c + 1 } j y) ∧ Hid (SumAt wr mb B y) ∧ Hid (Only mb w wr) ∧ Hid (Only mb W2 wr)) (fun i _ => s.all.length - (intOf i).toNat)
  case atStart => exact ⟨0, _, Nat.zero_le _, rfl, ovJ_zero (by show x.c + 1 ≤ most; omega) (bdS_step ⟨hb1, hb2, hb3⟩), HS2.out, HO2.out, Only.refl _ _⟩
  case round =>
    obtain ⟨j, y, hj, rfl, HJ, HSJ, HOJ, HO2J⟩ := hrel
    have hzr := HOJ.out.size
    have hzr2 := HO2J.out.size
    by_cases hlt : j < s.all.length
    · have hmem := List.getElem_mem hlt
      obtain ⟨e, s1, hst, hfu⟩ := all_step' hmem
      have HSTEP : Hid (∀ z, OvP n s1 (row ++ [e]) most y z → OvJ n s row most { x with c := x.c + 1 } (j + 1) z) := fun z hz => ovJ_step HJ.out hlt hst hz
      have hNr : ∀ g, (Value.slice aa s.all.length ca).ownBlock = some g → ¬ g = mb := by
        intro g hg
        have := (World.ownsRow.lt HN2.out g hg).1
        omega
      obtain ⟨_, _, hv9, hna, _⟩ := OwnN.form (HN2.out.onlyS (OnlyS.of_only (S := fun k => k = mb) HO2J.out rfl) hNr) (by omega)
      injection hv9 with hv1 _ hv3
      subst hv1 hv3
      obtain ⟨ba, oa, rfl, hca⟩ := hna.2 (by intro e; rw [e] at hlt; simp at hlt)
      have ct := hca j hlt
      have HST := Lib.hid hst
      have hok1 : s1.Ok F := by have h := HOK.out.step_ok s.all[j]; rw [hst] at h; exact h
      have hp1 : s1.p = s.p := by
        have h : (s.step s.all[j]).2.2.p = s.p := by
          rcases s.step_cases s.all[j] with ⟨i, _, _, e⟩ | ⟨e, _, e'⟩
          · rw [e]; rfl
          · rw [e']
        rw [hst] at h
        exact h
      have HOK1 := Lib.hid hok1
      have HP1 := Lib.hid hp1
      have HRr := Lib.hid (HR0.out.only HOJ.out hbm htm)
      have HCY : Hid (y.c ≤ 5000) := by have := HJ.out.2.2.1; show _ ≤ _; omega
      have HBY : Hid (BdS y) := HJ.out.2.2.2
      clear hca hna hNr hst hmem hok1 hp1
      generalize s.all[j] = t at *
      go_wp2_with fail
      refine (refCopy_any HRr.out HNE.out h4).mono ?_
      rintro r W3 ⟨nb, ntb, ntc, rfl, hnb, hntb, hr3, hb3'⟩
      have HR3 := Lib.hid hr3
      have HO3 : Hid (Only mb w W3) := HOJ.out.trans (.of_below hb3')
      have hz3 := hb3'.size
      have ct3 := cell_later hb3' ct
      clear hr3
      go_wp2_with fail
      refine (refStep_any HR3.out (HTH.out W3 HO3.out) HOK.out t).mono ?_
      rintro r W4 ⟨rfl, hr4, ho4⟩
      rw [HST.out] at hr4 ⊢
      rw [stepV_ok]
      have hb4 : Below wr.heap.size wr W4 := hb3'.trans (ho4.below hnb hntb hb3'.size)
      have HR4 := Lib.hid hr4
      clear hr4 ho4 HO3 HR3 hb3' ct3
      go_wp2_with fail
      have HBX := Lib.hid (EvBox.new W4 e)
      have hb5 : Below wr.heap.size wr (W4.alloc (.cells #[.int .i64 e.thread, .int .i64 e.kind, .int .i64 e.obj, .bool e.fail] 51)) := hb4.alloc hb4.size _
      have HR5 := Lib.hid (HR4.out.later (below_alloc1 W4 (.cells #[.int .i64 e.thread, .int .i64 e.kind, .int .i64 e.obj, .bool e.fail] 51)))
      have hz45 : W4.heap.size < (W4.alloc (.cells #[.int .i64 e.thread, .int .i64 e.kind, .int .i64 e.obj, .bool e.fail] 51)).heap.size := by simp
      have hz4r := hb4.size
      clear HR4 hb4
      generalize W4.alloc (.cells #[.int .i64 e.thread, .int .i64 e.kind, .int .i64 e.obj, .bool e.fail] 51) = W5 at *
      have hz5r := hb5.size
      obtain ⟨row', hrw⟩ : ∃ l, l = row ++ [e] := ⟨_, rfl⟩
      have hrl : row'.length = row.length + 1 := by rw [hrw]; simp
      have HCALL : Hid (∀ (W : World) (v : Value), Below W5.heap.size W5 W → OwnE W W5.heap.size v (row ++ [e]) → ∃ a9 c9, v = .slice a9 row'.length c9 ∧ Calls Tryz.prog 25 #[.pointer (some ⟨mb, 0, none⟩), .pointer (some ⟨nb, 0, none⟩), .slice a9 row'.length c9, .int .i64 (most : Int)] W fun r w' => r = .returned (.tuple #[]) ∧ ∃ z, SumAt w' mb B z ∧ OvJ n s row most { x with c := x.c + 1 } (j + 1) z ∧ Only mb w w' ∧ Only mb W2 w' ∧ EvBox w' W4.heap.size e) := by
        intro W v hbw hown
        rw [← hrw] at hown
        obtain ⟨a9, c9, hv, hev, hnone, hblk⟩ := own_form hown (by omega)
        have hbl9 : Below wr.heap.size wr W := hb5.trans (hbw.mono hb5.size)
        have ho9 : Only mb w W := HOJ.out.trans (.of_below hbl9)
        have hbx9 := HBX.out.later hbw
        refine ⟨a9, c9, hv, (HIH.out s1 row' W nb ntb a cap ntc a9 c9 y HOK1.out (by omega) (by omega) (HR5.out.later hbw) (by rw [HP1.out]; exact HT0.out) (HBW.out W ho9) hev hnone (fun o h => by have := hblk o h; omega) (HSJ.out.later hbl9) HBY.out HCY.out (by have := ho9.size; omega) (by omega) (by omega)).mono ?_⟩
        rintro r w' ⟨rfl, z, h1, h2, h3⟩
        rw [hrw] at h2
        exact ⟨rfl, z, h1, HSTEP.out z h2, ho9.trans h3, (HO2J.out.trans (.of_below hbl9)).trans h3, hbx9.only h3 (by omega)⟩
      have HQ : Hid (∀ W : World, Below W5.heap.size W5 W → W.cell? ⟨W4.heap.size, 0, none⟩ = some (.int .i64 e.thread) ∧ W.cell? ⟨W4.heap.size, 1, none⟩ = some (.int .i64 e.kind) ∧ W.cell? ⟨W4.heap.size, 2, none⟩ = some (.int .i64 e.obj) ∧ W.cell? ⟨W4.heap.size, 3, none⟩ = some (.bool e.fail)) := fun W h => (HBX.out.later h).cells
      have HEB : Hid (∀ W : World, Below W5.heap.size W5 W → EvsAt W ra row) := fun W h => HEV.out W (HOJ.out.trans (.of_below (hb5.trans (h.mono hb5.size))))
      have hB9 : Below W5.heap.size W5 W5.drew := (Below.refl _ _).drew
      have hBA : Below W5.heap.size W5 (W5.alloc (.cells #[] 51)).drew := (below_alloc1 W5 _).drew
      have hBE : Below W5.heap.size W5 (W5.alloc (.cells #[.int .i64 e.thread, .int .i64 e.kind, .int .i64 e.obj, .bool e.fail] 51)).drew := (below_alloc1 W5 _).drew
      have hBAE : Below W5.heap.size W5 ((W5.alloc (.cells #[] 51)).alloc (.cells #[.int .i64 e.thread, .int .i64 e.kind, .int .i64 e.obj, .bool e.fail] 51)).drew := (below_alloc2 W5 _ _).drew
      have hBEA : Below W5.heap.size W5 ((W5.alloc (.cells #[.int .i64 e.thread, .int .i64 e.kind, .int .i64 e.obj, .bool e.fail] 51)).alloc (.cells #[] 51)).drew := (below_alloc2 W5 _ _).drew
      have HWY := Lib.hid (ways W5 e)
      have hzl : ([] : List Ev).length + row.length ≤ 1000000 := by simp; omega
      have hzl2 : row.length + [e].length ≤ 1000000 := by simp; omega
      clear hrw hrl HBX HR5 HST hfu HSTEP HCY HBY HSJ HOJ HO2J HOK1 HP1 hnb hntb ct hbl
      go_wp2_with fail
      go_region_held3 (fun W => W.cell? ⟨W4.heap.size, 0, none⟩ = some (.int .i64 e.thread) ∧ W.cell? ⟨W4.heap.size, 1, none⟩ = some (.int .i64 e.kind) ∧ W.cell? ⟨W4.heap.size, 2, none⟩ = some (.int .i64 e.obj) ∧ W.cell? ⟨W4.heap.size, 3, none⟩ = some (.bool e.fail))
        (first | exact HQ.out _ hB9 | exact HQ.out _ hBA | exact HQ.out _ hBE | exact HQ.out _ hBAE | exact HQ.out _ hBEA | exact HQ.out _ hB6 | exact HQ.out _ (hB6.alloc hB6.size _) | exact HQ.out _ hB7 | exact HQ8.out)
        (first
          | (refine step_copyE2 (w := (W5.alloc (.cells #[] 51)).drew) (by rfl) (.tmp 98) (.tmp 99) (by rfl) W5.heap.size _ [] (by rfl) HWY.out.a ra rcap row (by rfl) (HEB.out _ hBA) HRA.out hzl hBA.size ?_; intro v6 w6 h6 hb6 hg6; have H6 : Hid (OwnE w6 W5.heap.size v6 row) := h6; have hB6 : Below W5.heap.size W5 w6 := hBA.trans hb6; clear h6 hb6 hg6)
          | (refine step_copyE2 (w := ((W5.alloc (.cells #[] 51)).alloc (.cells #[.int .i64 e.thread, .int .i64 e.kind, .int .i64 e.obj, .bool e.fail] 51)).drew) (by rfl) (.tmp 98) (.tmp 99) (by rfl) W5.heap.size _ [] (by rfl) HWY.out.b ra rcap row (by rfl) (HEB.out _ hBAE) HRA.out hzl hBAE.size ?_; intro v6 w6 h6 hb6 hg6; have H6 : Hid (OwnE w6 W5.heap.size v6 row) := h6; have hB6 : Below W5.heap.size W5 w6 := hBAE.trans hb6; have HT6 := Lib.hid (HWY.out.bt.grown hg6 (by simp [Value.ownBlock])); clear h6 hb6 hg6)
          | (refine step_copyE2 (w := ((W5.alloc (.cells #[.int .i64 e.thread, .int .i64 e.kind, .int .i64 e.obj, .bool e.fail] 51)).alloc (.cells #[] 51)).drew) (by rfl) (.tmp 98) (.tmp 99) (by rfl) W5.heap.size _ [] (by rfl) HWY.out.c ra rcap row (by rfl) (HEB.out _ hBEA) HRA.out hzl hBEA.size ?_; intro v6 w6 h6 hb6 hg6; have H6 : Hid (OwnE w6 W5.heap.size v6 row) := h6; have hB6 : Below W5.heap.size W5 w6 := hBEA.trans hb6; have HT6 := Lib.hid (HWY.out.ct.grown hg6 (by simp [Value.ownBlock])); clear h6 hb6 hg6)
          | (refine step_copyE2 (w := w6) (by rfl) (.tmp 100) (.tmp 102) (by rfl) W5.heap.size _ row (by rfl) H6.out (some ⟨_, 0, none⟩) 1 [e] (by rfl) HT6.out (by intro h; cases h) hzl2 hB6.size ?_; intro v7 w7 h7 hb7 _; have hB7 : Below W5.heap.size W5 w7 := hB6.trans hb7; obtain ⟨a7, c7, hv7, hc7⟩ := HCALL.out w7 v7 hB7 h7; subst hv7; have HC7 := Lib.hid hc7; clear h7 hb7 hc7)
          | (refine step_copyE2 (w := w6.alloc (.cells #[.int .i64 e.thread, .int .i64 e.kind, .int .i64 e.obj, .bool e.fail] 51)) (by rfl) (.tmp 100) (.tmp 102) (by rfl) W5.heap.size _ row (by rfl) (OwnE.alloc H6.out _) (some ⟨w6.heap.size, 0, none⟩) 1 [e] (by rfl) (evs_one1 w6 e) (by intro h; cases h) hzl2 (hB6.alloc hB6.size _).size ?_; intro v7 w7 h7 hb7 _; have hB7 : Below W5.heap.size W5 w7 := (hB6.alloc hB6.size _).trans hb7; obtain ⟨a7, c7, hv7, hc7⟩ := HCALL.out w7 v7 hB7 h7; subst hv7; have HC7 := Lib.hid hc7; clear h7 hb7 hc7)
          | (go_at_call 25; ((with_reducible refine HC7.out.mono ?_); rintro r w8 ⟨rfl, z, hz1, hz2, hz3, hz4, hz5⟩; have HZ1 := Lib.hid hz1; have HZ2 := Lib.hid hz2; have HZ3 := Lib.hid hz3; have HZ4 := Lib.hid hz4; have HQ8 := Lib.hid hz5.cells; clear hz1 hz2 hz3 hz4 hz5)))
      all_goals go_wp2_with fail
      all_goals go_roundw
      all_goals first
        | exact ⟨j + 1, z, by omega, by go_num, HZ2.out, HZ1.out, HZ3.out, HZ4.out⟩
        | (simp [intOf]; omega)
    · obtain rfl : j = s.all.length := by omega
      have HP := Lib.hid (ovJ_all hx HAL.out hal HJ.out)
      go_wp2_with fail
      go_end0
      exact ⟨rfl, _, HSJ.out, HP.out, HOJ.out⟩

end Go.Proofs.YtljlaopjimkcmaaGreat

/- The contracts of the document's over, and of its All. -/
namespace Go.Proofs.YtljlaopjimkcmaaGreat
open Go.RowKit

theorem over_any {W0 : World} {F B mb most : Nat} (hwm : W0.heap.size ≤ mb) (hm : mb < B) (hmost : most ≤ 1000) : ∀ n, OverH W0 F B mb n most := by
  intro n
  induction n with
  | zero =>
    intro s row w b tb a cap tcap ra rcap x ok hf hl hr hth hw0 he hra hrm hs hb hc hB hbm htm
    by_cases h : x.c < most
    · exact over_end 0 most s row w b tb a cap tcap ra rcap x ok (all_none (by omega)) hr hth hw0 hwm he hrm hs hb hc hB hm hbm htm h hmost
    · exact over_full 0 most s row w b ra rcap x hm hs hb hc (by omega)
  | succ n ih =>
    intro s row w b tb a cap tcap ra rcap x ok hf hl hr hth hw0 he hra hrm hs hb hc hB hbm htm
    by_cases h : x.c < most
    · by_cases hall : s.all = []
      · exact over_end (n + 1) most s row w b tb a cap tcap ra rcap x ok hall hr hth hw0 hwm he hrm hs hb hc hB hm hbm htm h hmost
      · exact over_step n most ih s row w b tb a cap tcap ra rcap x ok hall hf hl hr hth hw0 hwm he hra hrm hs hb hB hm hbm htm h hmost
    · exact over_full (n + 1) most s row w b ra rcap x hm hs hb hc (by omega)

def zeroSum6 : Value := .agg #[.slice none 0 0, .int .i64 0, .int .i64 0, .int .i64 0]
/-- A row of texts of one's own. -/
def OwnT (w : World) (B : Nat) (v : Value) (ks : List Key) : Prop := OwnRow w B 9 1 strCell v ks
theorem OwnT.base {w : World} {B B' : Nat} {v : Value} {ks : List Key} (h : OwnT w B v ks) (hb : B' ≤ B) : OwnT w B' v ks := by
  obtain ⟨h1, h2 | ⟨g, cap, cur, h2, h3, h4⟩⟩ := h
  · exact ⟨h1, .inl h2⟩
  · exact ⟨h1, .inr ⟨g, cap, cur, h2, by omega, h4⟩⟩
def RefAllR (p : Pg) (fuel : Int) (most : Nat) (w : World) (r : Ending) (w' : World) : Prop :=
  (if okPg p fuel then (preW p fuel ≤ most ∧ ∃ v, r = .returned (.tuple #[.agg #[v, .int .i64 ((runsW p fuel).length : Nat), .int .i64 (preW p fuel : Nat), .int .i64 (stuckN (runsW p fuel) : Nat)], .int .i64 0]) ∧ OwnT w' w.heap.size v (sortK (keysOf (runsW p fuel)))) ∨ (most < preW p fuel ∧ r = .returned (.tuple #[zeroSum6, .int .i64 5]))
  else r = .returned (.tuple #[zeroSum6, .int .i64 1])) ∧ Below w.heap.size w w'

theorem sum6_cells (w : World) (o : Obj) : ∀ j, j < 4 → ((w.alloc o).alloc (.cells #[.slice none 0 0, .int .i64 0, .int .i64 0, .int .i64 0] 35)).cell? ⟨w.heap.size + 1, j, none⟩ = #[Value.slice none 0 0, .int .i64 0, .int .i64 0, .int .i64 0][j]? ∧ ((w.alloc o).alloc (.cells #[.slice none 0 0, .int .i64 0, .int .i64 0, .int .i64 0] 35)).frozen? ⟨w.heap.size + 1, j, none⟩ = false := by
  intro j hj
  have h := heap_alloc_new (w.alloc o) (.cells #[.slice none 0 0, .int .i64 0, .int .i64 0, .int .i64 0] 35)
  rw [World.size_alloc] at h
  refine ⟨?_, ?_⟩
  · unfold World.cell?
    dsimp only
    rw [h]
    rfl
  · unfold World.frozen?
    dsimp only
    rw [h]
    rfl
def setS4 (w : World) (g : Nat) (v0 v1 v2 v3 : Value) : World := (((w.setCell ⟨g, 0, none⟩ v0).setCell ⟨g, 1, none⟩ v1).setCell ⟨g, 2, none⟩ v2).setCell ⟨g, 3, none⟩ v3
theorem row_setS4 {w : World} {B g : Nat} {v : Value} {ks : List Key} (h : OwnT w B v ks) (hg : g < B) (v0 v1 v2 v3 : Value) : OwnT (setS4 w g v0 v1 v2 v3) B v ks :=
  ownsRow_setCell_below (a := ⟨g, 3, none⟩) (ownsRow_setCell_below (a := ⟨g, 2, none⟩) (ownsRow_setCell_below (a := ⟨g, 1, none⟩) (ownsRow_setCell_below (a := ⟨g, 0, none⟩) h hg v0) hg v1) hg v2) hg v3

set_option maxRecDepth 100000 in
set_option maxHeartbeats 8000000 in
theorem refAll6_any (p : Pg) (a : Option Addr) (cap : Nat) (fuel : Int) (most : Nat) (w : World) (hp : ThreadsAt w a p.threads) (hmost : most ≤ 1000) :
    Calls Tryz.prog 10 #[.agg #[.int .i64 p.vars, .int .i64 p.mutexes, .slice a p.threads.length cap], .int .i64 fuel, .int .i64 (most : Int)] w (RefAllR p fuel most w) := by
  have HP := Lib.hid hp
  clear hp
  go_enter Tryz.func10, Tryz.ntmps10
  go_wp2_with fail
  have hb2 : Below w.heap.size w ((w.alloc (.cells #[.int .i64 p.vars, .int .i64 p.mutexes, .slice a p.threads.length cap] 24)).alloc (.cells #[.slice none 0 0, .int .i64 0, .int .i64 0, .int .i64 0] 35)) := below_alloc2 w _ _
  have hz2 : ((w.alloc (.cells #[.int .i64 p.vars, .int .i64 p.mutexes, .slice a p.threads.length cap] 24)).alloc (.cells #[.slice none 0 0, .int .i64 0, .int .i64 0, .int .i64 0] 35)).heap.size = w.heap.size + 2 := by rw [World.size_alloc, World.size_alloc]
  have hsc := sum6_cells w (.cells #[.int .i64 p.vars, .int .i64 p.mutexes, .slice a p.threads.length cap] 24)
  generalize ((w.alloc (.cells #[.int .i64 p.vars, .int .i64 p.mutexes, .slice a p.threads.length cap] 24)).alloc (.cells #[.slice none 0 0, .int .i64 0, .int .i64 0, .int .i64 0] 35)) = W2 at *
  have HSC : Hid (∀ W, Below W2.heap.size W2 W → (W.cell? ⟨w.heap.size + 1, 0, none⟩ = some (.slice none 0 0) ∧ W.cell? ⟨w.heap.size + 1, 1, none⟩ = some (.int .i64 0) ∧ W.cell? ⟨w.heap.size + 1, 2, none⟩ = some (.int .i64 0) ∧ W.cell? ⟨w.heap.size + 1, 3, none⟩ = some (.int .i64 0)) ∧ W.frozen? ⟨w.heap.size + 1, 0, none⟩ = false ∧ W.frozen? ⟨w.heap.size + 1, 1, none⟩ = false ∧ W.frozen? ⟨w.heap.size + 1, 2, none⟩ = false ∧ W.frozen? ⟨w.heap.size + 1, 3, none⟩ = false) := fun W h =>
    have hl : w.heap.size + 1 < W2.heap.size := by omega
    ⟨⟨cell_later h (hsc 0 (by omega)).1, cell_later h (hsc 1 (by omega)).1, cell_later h (hsc 2 (by omega)).1, cell_later h (hsc 3 (by omega)).1⟩, (h.frozen (p := ⟨w.heap.size + 1, 0, none⟩) hl).trans (hsc 0 (by omega)).2, (h.frozen (p := ⟨w.heap.size + 1, 1, none⟩) hl).trans (hsc 1 (by omega)).2, (h.frozen (p := ⟨w.heap.size + 1, 2, none⟩) hl).trans (hsc 2 (by omega)).2, (h.frozen (p := ⟨w.heap.size + 1, 3, none⟩) hl).trans (hsc 3 (by omega)).2⟩
  have HSET : Hid (∀ v0 v1 v2 v3 (W : World), Below W2.heap.size W2 W → Below w.heap.size w (setS4 W (w.heap.size + 1) v0 v1 v2 v3)) := fun v0 v1 v2 v3 W h =>
    ((((hb2.trans (h.mono hb2.size)).setCell (p := ⟨w.heap.size + 1, 0, none⟩) (by show _ ≤ w.heap.size + 1; omega) _).setCell (p := ⟨w.heap.size + 1, 1, none⟩) (by show _ ≤ w.heap.size + 1; omega) _).setCell (p := ⟨w.heap.size + 1, 2, none⟩) (by show _ ≤ w.heap.size + 1; omega) _).setCell (p := ⟨w.heap.size + 1, 3, none⟩) (by show _ ≤ w.heap.size + 1; omega) _
  have HAR : Hid (∀ r w', RefAllR p fuel most w r w' ↔ (if okPg p fuel then (preW p fuel ≤ most ∧ ∃ v, r = .returned (.tuple #[.agg #[v, .int .i64 ((runsW p fuel).length : Nat), .int .i64 (preW p fuel : Nat), .int .i64 (stuckN (runsW p fuel) : Nat)], .int .i64 0]) ∧ OwnT w' w.heap.size v (sortK (keysOf (runsW p fuel)))) ∨ (most < preW p fuel ∧ r = .returned (.tuple #[zeroSum6, .int .i64 5]))
    else r = .returned (.tuple #[zeroSum6, .int .i64 1])) ∧ Below w.heap.size w w') := fun _ _ => Iff.rfl
  clear hsc
  by_cases hok : okPg p fuel
  · obtain ⟨hr, h0, h8⟩ := hok
    obtain ⟨F, rfl⟩ : ∃ F : Nat, fuel = F := ⟨fuel.toNat, by omega⟩
    have HOK : Hid (okPg p (F : Int)) := ⟨hr, h0, h8⟩
    have HSO : Hid (St.Ok F (s0 p (F : Int))) := by have h := new_ok hr F (by omega); exact h
    refine (refNew_yes p a cap F W2 (HP.out.later hb2) hr (by omega)).mono ?_
    rintro r W3 ⟨b, tb, tcap, rfl, hb, htb, hra, hb3⟩
    have HR3 : Hid (RefAt W3 b tb a cap tcap (s0 p (F : Int))) := hra
    have hlt := hra.lt
    have HT3 := Lib.hid ((HP.out.later hb2).later hb3)
    clear hra hr h0 h8
    go_wp2_with fail
    have hm0 : SumAt (W3.alloc (.cells #[.slice none 0 0, .int .i64 0, .int .i64 0, .int .i64 0] 35)) W3.heap.size (W3.heap.size + 1) ⟨[], 0, 0, 0⟩ := ⟨none, 0, heap_alloc_new W3 _, ownRow_nil _ _ _ _ _⟩
    have hb4 := below_alloc1 W3 (.cells #[.slice none 0 0, .int .i64 0, .int .i64 0, .int .i64 0] 35)
    have hz4 : (W3.alloc (.cells #[.slice none 0 0, .int .i64 0, .int .i64 0, .int .i64 0] 35)).heap.size = W3.heap.size + 1 := World.size_alloc _ _
    generalize W3.alloc (.cells #[.slice none 0 0, .int .i64 0, .int .i64 0, .int .i64 0] 35) = W4 at *
    have hf := fuel_le HSO.out
    have hbd : BdS ⟨[], 0, 0, 0⟩ := ⟨Nat.le_refl _, Nat.le_refl _, Nat.le_refl _⟩
    have HC := Lib.hid (over_any (W0 := W3) (F := F) (B := W3.heap.size + 1) (mb := W3.heap.size) (most := most) (Nat.le_refl _) (Nat.lt_succ_self _) hmost 33 (s0 p (F : Int)) [] W4 b tb a cap tcap none 0 ⟨[], 0, 0, 0⟩ HSO.out (by omega) (by simp) (HR3.out.later hb4) HT3.out hb4 (evsAt_nil _ _) (fun _ => ⟨rfl, rfl⟩) (fun o h => by cases h) hm0 hbd (by simp) (by omega) (by omega) (by omega))
    have hn0 : ([] : List Ev).length = 0 := rfl
    rw [hn0] at HC
    clear hm0 hbd
    refine HC.out.mono ?_
    rintro r W5 ⟨rfl, y, hy1, hy2, hy3⟩
    have hb5 : Below W2.heap.size W2 W5 := hb3.trans ((hb4.trans (hy3.below (Nat.le_refl _) (by omega))).mono hb3.size)
    have hPW : preW p (F : Int) = (s0 p (F : Int)).pre 33 := rfl
    obtain ⟨y1, y2, _, _, _⟩ := hy2
    rw [← hPW] at y1 y2
    dsimp only at y1 y2
    rw [Nat.zero_add] at y1 y2
    obtain ⟨ka, kc, ⟨d0, d1, d2, d3⟩, ⟨g0, g1, g2, g3⟩, hown⟩ := hy1.cells
    obtain ⟨⟨x0, x1, x2, x3⟩, f0, f1, f2, f3⟩ := HSC.out W5 hb5
    have hne : W3.heap.size ≠ w.heap.size + 1 := by have := hb3.size; omega
    by_cases hle : preW p (F : Int) ≤ most
    · obtain ⟨e1, e2, e3, e4⟩ := y1 hle
      have e2' : y.k = sortK (keysOf (runsW p (F : Int))) := by rw [e2]; exact putAll_sortK _
      have e3' : y.r = (runsW p (F : Int)).length := by rw [e3]; exact Nat.zero_add _
      have e4' : y.st = stuckN (runsW p (F : Int)) := by rw [e4]; exact Nat.zero_add _
      have hq : decide (most < y.c) = false := by simp; omega
      have HOW : Hid (OwnT W5 (W3.heap.size + 1) (.slice ka y.k.length kc) y.k) := hown
      have HF : Hid (RefAllR p (F : Int) most w (.returned (.tuple #[.agg #[.slice ka y.k.length kc, .int .i64 (y.r : Int), .int .i64 (y.c : Int), .int .i64 (y.st : Int)], .int .i64 0])) (setS4 W5 (w.heap.size + 1) (.slice ka y.k.length kc) (.int .i64 (y.r : Int)) (.int .i64 (y.c : Int)) (.int .i64 (y.st : Int)))) := by
        refine (HAR.out _ _).2 ⟨?_, HSET.out _ _ _ _ W5 hb5⟩
        rw [if_pos HOK.out]
        refine .inl ⟨hle, .slice ka y.k.length kc, by rw [e3', e4', e1], ?_⟩
        rw [← e2']
        exact (row_setS4 HOW.out (by have := hb3.size; omega) _ _ _ _).base (by have := hb3.size; omega)
      unfold setS4 at HF
      clear hy1 y1 y2 hown e1 e2 e3 e4 e2' e3' e4' hle HAR
      go_wp2_with fail
      refine bodyPost_ret (v := .tuple #[.agg #[.slice ka y.k.length kc, .int .i64 (y.r : Int), .int .i64 (y.c : Int), .int .i64 (y.st : Int)], .int .i64 0]) (by simp [results, Tryz.results10, go_sem, x0, x1, x2, x3]) rfl ?_
      exact HF.out
    · have hlt' := y2 (by omega)
      have hq : decide (most < y.c) = true := by simp; omega
      have HF : Hid (RefAllR p (F : Int) most w (.returned (.tuple #[zeroSum6, .int .i64 5])) (setS4 W5 (w.heap.size + 1) (.slice none 0 0) (.int .i64 0) (.int .i64 0) (.int .i64 0))) := by
        refine (HAR.out _ _).2 ⟨?_, HSET.out _ _ _ _ W5 hb5⟩
        rw [if_pos HOK.out]
        exact .inr ⟨by omega, rfl⟩
      unfold setS4 at HF
      clear hy1 y1 y2 hown hlt' HAR
      go_wp2_with fail
      refine bodyPost_ret (v := .tuple #[zeroSum6, .int .i64 5]) (by simp [results, Tryz.results10, go_sem, zeroSum6, x0, x1, x2, x3]) rfl ?_
      exact HF.out
  · have HC := Lib.hid (refNew_no p a cap fuel W2 (HP.out.later hb2) hok)
    have HNO := Lib.hid hok
    clear hok
    refine HC.out.mono ?_
    rintro r W3 ⟨rfl, hb3⟩
    obtain ⟨⟨x0, x1, x2, x3⟩, f0, f1, f2, f3⟩ := HSC.out W3 hb3
    have HF : Hid (RefAllR p fuel most w (.returned (.tuple #[zeroSum6, .int .i64 1])) (setS4 W3 (w.heap.size + 1) (.slice none 0 0) (.int .i64 0) (.int .i64 0) (.int .i64 0))) := by
      refine (HAR.out _ _).2 ⟨?_, HSET.out _ _ _ _ W3 hb3⟩
      rw [if_neg HNO.out]
    unfold setS4 at HF
    clear HAR
    go_wp2_with fail
    refine bodyPost_ret (v := .tuple #[zeroSum6, .int .i64 1]) (by simp [results, Tryz.results10, go_sem, zeroSum6, x0, x1, x2, x3]) rfl ?_
    exact HF.out

end Go.Proofs.YtljlaopjimkcmaaGreat

/- The contract of the document's Few. -/
namespace Go.Proofs.YtljlaopjimkcmaaGreat
open Go.RowKit

def fewPg (p : Pg) : Bool := p.threads.all (fun l => decide (l.length ≤ 50)) && decide (p.threads.length ≤ 20)

set_option maxRecDepth 100000 in
set_option maxHeartbeats 1000000 in
theorem few_any (p : Pg) (a : Option Addr) (cap : Nat) (w : World) (hp : ThreadsAt w a p.threads) :
    Calls Tryz.prog 8 #[pgV p a cap] w fun r w' => r = .returned (.bool (fewPg p)) ∧ Below w.heap.size w w' := by
  obtain ⟨V, M, ts⟩ := p
  unfold pgV
  dsimp only at *
  have hm := hp.1
  unfold maxLen at hm
  have HL := Lib.hid hp
  clear hp
  go_enter Tryz.func8, Tryz.ntmps8
  go_wp2
  go_loop [3] (fun i => ∃ k : Nat, k ≤ ts.length ∧ i = .int .i64 k ∧ Hid ((ts.take k).all (fun l => decide (l.length ≤ 50)) = true)) (fun i => ts.length - (intOf i).toNat)
  case atStart => exact ⟨0, Nat.zero_le _, rfl, rfl⟩
  case round =>
    obtain ⟨k, hk, rfl, hall⟩ := hrel
    by_cases hlt : k < ts.length
    · obtain ⟨b, o, rfl, hc⟩ := HL.out.2 (by intro e; simp [e] at hlt)
      obtain ⟨c, ccap, c0, c1, _⟩ := hc k hlt
      have hz := cell_block c0
      dsimp only at hz
      have ht : (ts.take (k + 1)) = ts.take k ++ [ts[k]] := List.take_succ_eq_append_getElem hlt
      have hcm := c1.1
      unfold maxLen at hcm
      clear c1 hc
      by_cases h50 : 50 < ts[k].length
      · have HR : Hid (fewPg ⟨V, M, ts⟩ = false) := by
          show _ = _
          unfold fewPg
          dsimp only
          rw [Bool.and_eq_false_iff, List.all_eq_false]; exact .inl ⟨ts[k], List.getElem_mem _, by simp; omega⟩
        clear ht
        go_wp2
        go_ret
        exact ⟨ret_bool HR.out.symm, below_alloc1 _ _⟩
      · have HR : Hid ((ts.take (k + 1)).all (fun l => decide (l.length ≤ 50)) = true) := by
          show _ = _
          rw [ht, List.all_append, hall.out]; simp; omega
        clear ht
        go_wp2
        go_round
        case rel => exact ⟨k + 1, by omega, by go_num, HR⟩
        case measure => simp [intOf]; omega
    · obtain rfl : k = ts.length := by omega
      have HR : Hid (fewPg ⟨V, M, ts⟩ = decide (ts.length ≤ 20)) := by
        show _ = _
        have := hall.out
        rw [List.take_length] at this
        unfold fewPg
        dsimp only
        rw [this, Bool.true_and]
      go_wp2
      go_ret
      exact ⟨ret_bool (by rw [HR.out]; simp; omega), below_alloc1 _ _⟩
end Go.Proofs.YtljlaopjimkcmaaGreat

/- The contract of the law's Small. -/
namespace Go.Proofs.YtljlaopjimkcmaaGreat
open Go.RowKit

/-- May a program be walked over? -/
def smallPg (p : Pg) (fuel : Int) : Bool := fewPg p && rightPg p && decide (0 ≤ fuel ∧ fuel ≤ 8) && decide (preW p fuel ≤ 600)
theorem small_yes {p : Pg} {fuel : Int} (h : smallPg p fuel = true) : fewPg p = true ∧ okPg p fuel ∧ preW p fuel ≤ 600 := by
  unfold smallPg at h
  simp only [Bool.and_eq_true, decide_eq_true_eq] at h
  exact ⟨h.1.1.1, ⟨h.1.1.2, h.1.2⟩, h.2⟩

set_option maxRecDepth 100000 in
set_option maxHeartbeats 4000000 in
theorem small_any (p : Pg) (a : Option Addr) (cap : Nat) (fuel : Int) (w : World) (hp : ThreadsAt w a p.threads) :
    Calls Tryz.prog 13 #[.agg #[.int .i64 p.vars, .int .i64 p.mutexes, .slice a p.threads.length cap], .int .i64 fuel] w fun r w' => r = .returned (.bool (smallPg p fuel)) ∧ Below w.heap.size w w' := by
  have HP := Lib.hid hp
  have HF : Hid (∀ W, Below w.heap.size w W → Calls Tryz.prog 8 #[.agg #[.int .i64 p.vars, .int .i64 p.mutexes, .slice a p.threads.length cap]] W fun r w' => r = .returned (.bool (fewPg p)) ∧ Below W.heap.size W w') := fun W h => few_any p a cap W (hp.later h)
  have HR : Hid (∀ W, Below w.heap.size w W → Calls Tryz.prog 28 #[.agg #[.int .i64 p.vars, .int .i64 p.mutexes, .slice a p.threads.length cap]] W fun r w' => r = .returned (.bool (rightPg p)) ∧ Below W.heap.size W w') := fun W h => refRight_any p a cap W (hp.later h)
  have HS : Hid (smallPg p fuel = (fewPg p && rightPg p && decide (0 ≤ fuel ∧ fuel ≤ 8) && decide (preW p fuel ≤ 600))) := rfl
  have hb1 : Below w.heap.size w (w.alloc (.cells #[.int .i64 p.vars, .int .i64 p.mutexes, .slice a p.threads.length cap] 24)) := below_alloc1 w _
  clear hp
  go_enter Tryz.func13, Tryz.ntmps13
  go_wp2_with fail
  refine (HF.out _ hb1).mono ?_
  rintro r w2 ⟨rfl, hb2⟩
  have hb3 := hb1.trans (hb2.mono hb1.size)
  have c2 : w2.cell? ⟨w.heap.size, 0, none⟩ = some (.int .i64 p.vars) := cell_later hb2 (by simp)
  have c3 : w2.cell? ⟨w.heap.size, 1, none⟩ = some (.int .i64 p.mutexes) := cell_later hb2 (by simp)
  have c4 : w2.cell? ⟨w.heap.size, 2, none⟩ = some (.slice a p.threads.length cap) := cell_later hb2 (by simp)
  clear hb1
  cases hf : fewPg p
  · have HN : Hid (smallPg p fuel = false) := by show _ = _; rw [HS.out, hf]; rfl
    clear hf
    go_wp2_with fail
    go_ret
    exact ⟨ret_bool HN.out.symm, hb3⟩
  · have HFW := Lib.hid hf
    clear hf
    go_wp2_with fail
    refine (HR.out _ hb3).mono ?_
    rintro r w4 ⟨rfl, hb4⟩
    have hb5 := hb3.trans (hb4.mono hb3.size)
    have d2 := cell_later hb4 c2
    have d3 := cell_later hb4 c3
    have d4 := cell_later hb4 c4
    clear hb2 hb3 hb4 c2 c3 c4
    cases hr : rightPg p
    · have HN : Hid (smallPg p fuel = false) := by show _ = _; rw [HS.out, hr]; simp
      clear hr
      go_wp2_with fail
      go_ret
      exact ⟨ret_bool HN.out.symm, hb5⟩
    · have HRG := Lib.hid hr
      clear hr
      by_cases h0 : fuel < 0
      · have q0 : decide (fuel < 0) = true := by simpa using h0
        have HN : Hid (smallPg p fuel = false) := by show _ = _; rw [HS.out]; simp; intro _ _ h; omega
        go_wp2_with fail
        go_ret
        exact ⟨ret_bool HN.out.symm, hb5⟩
      · have q0 : decide (fuel < 0) = false := by simpa using h0
        by_cases h8 : 8 < fuel
        · have q8 : decide (8 < fuel) = true := by simpa using h8
          have HN : Hid (smallPg p fuel = false) := by show _ = _; rw [HS.out]; simp; intro _ _ _ h; omega
          go_wp2_with fail
          go_ret
          exact ⟨ret_bool HN.out.symm, hb5⟩
        · have q8 : decide (8 < fuel) = false := by simpa using h8
          have HOK : Hid (okPg p fuel) := ⟨HRG.out, by omega, by omega⟩
          have HRA := Lib.hid (refAll6_any p a cap fuel 600 w4 (HP.out.later hb5) (by omega))
          have HD : Hid (smallPg p fuel = decide (preW p fuel ≤ 600)) := by
            show _ = _
            rw [HS.out, HFW.out, HRG.out]
            have : decide (0 ≤ fuel ∧ fuel ≤ 8) = true := by simp; omega
            rw [this]
            rfl
          go_wp2_with fail
          refine HRA.out.mono ?_
          rintro r w6 ⟨h, hb6⟩
          rw [if_pos HOK.out] at h
          have hb7 := hb5.trans (hb6.mono hb5.size)
          have hz7 := hb7.size
          rcases h with ⟨h1, v, rfl, h2⟩ | ⟨h1, rfl⟩
          · have HN : Hid (smallPg p fuel = true) := by show _ = _; rw [HD.out]; simpa using h1
            obtain ⟨av, cv, rfl, _⟩ := OwnRow.form h2 strCell_len (by have := sortK_len (keysOf (runsW p fuel)); have : (keysOf (runsW p fuel)).length = (runsW p fuel).length := List.length_map _; have := runs_le 33 (s0 p fuel) []; unfold preW at h1; unfold runsW at *; omega)
            clear h1 h2
            generalize (sortK (keysOf (runsW p fuel))).length = N1 at *
            generalize (runsW p fuel).length = N2 at *
            generalize stuckN (runsW p fuel) = N3 at *
            generalize preW p fuel = N4 at *
            have HB : Hid (Below w.heap.size w (w6.alloc (.cells #[.slice av N1 cv, .int .i64 (N2 : Int), .int .i64 (N4 : Int), .int .i64 (N3 : Int)] 35))) := hb7.alloc hz7 _
            go_wp2_with fail
            go_ret
            exact ⟨ret_bool HN.out.symm, HB.out⟩
          · have HN : Hid (smallPg p fuel = false) := by show _ = _; rw [HD.out]; simp; omega
            have HB : Hid (Below w.heap.size w (w6.alloc (.cells #[.slice none 0 0, .int .i64 0, .int .i64 0, .int .i64 0] 35))) := hb7.alloc hz7 _
            unfold zeroSum6
            clear h1
            go_wp2_with fail
            go_ret
            exact ⟨ret_bool HN.out.symm, HB.out⟩

end Go.Proofs.YtljlaopjimkcmaaGreat

/- The contract of the document's Same of lists of texts. -/
namespace Go.Proofs.YtljlaopjimkcmaaGreat
open Go.RowKit

theorem takeK_snoc {l m : List Key} {k : Nat} (h1 : k < l.length) (h2 : k < m.length) (ht : l.take k = m.take k) (he : l[k] = m[k]) : l.take (k + 1) = m.take (k + 1) := by
  rw [List.take_succ_eq_append_getElem h1, List.take_succ_eq_append_getElem h2, ht, he]

set_option maxRecDepth 100000 in
set_option maxHeartbeats 4000000 in
theorem sameK_any (a a' : Option Addr) (cap cap' : Nat) (ks ms : List Key) (w : World) (hl : RowAt w a 1 strCell ks) (hl' : RowAt w a' 1 strCell ms) (hm : ks.length ≤ 1000000) (hm' : ms.length ≤ 1000000) :
    Calls Tryz.prog 12 #[.slice a ks.length cap, .slice a' ms.length cap'] w fun r w' => r = .returned (.bool (decide (ks = ms))) ∧ Below w.heap.size w w' := by
  have HL := Lib.hid hl
  have HL' := Lib.hid hl'
  clear hl hl'
  by_cases hne : ks.length = ms.length
  case neg =>
    have hq : ((ks.length : Int) != ms.length) = true := by simp; omega
    have H : Hid (decide (ks = ms) = false) := by show _ = _; simp; intro e; exact hne (by rw [e])
    clear hne
    go_enter Tryz.func12, Tryz.ntmps12
    go_wp2
    go_ret
    exact ⟨ret_bool H.out.symm, Below.refl _ _⟩
  have HE := Lib.hid hne
  have hq : ((ks.length : Int) != ms.length) = false := by simp [hne]
  have hm2 : ks.length ≤ ms.length := by omega
  have hm3 : ms.length ≤ ks.length := by omega
  clear hne
  go_enter Tryz.func12, Tryz.ntmps12
  go_wp2
  clear hq
  go_loopw [5] (fun i wr => ∃ k : Nat, k ≤ ks.length ∧ i = .int .i64 k ∧ Hid (ks.take k = ms.take k) ∧ Hid (Below w.heap.size w wr)) (fun i _ => ks.length - (intOf i).toNat)
  case atStart => exact ⟨0, Nat.zero_le _, rfl, rfl, Below.refl _ _⟩
  case round =>
    obtain ⟨k, hk, rfl, HT, HB⟩ := hrel
    by_cases hlt : k < ks.length
    · have hlt' : k < ms.length := by omega
      obtain ⟨b, o, rfl, t0⟩ := HL.out.str hlt
      obtain ⟨b', o', rfl, t0'⟩ := HL'.out.str hlt'
      have c0 := cell_later HB.out t0
      have c0' := cell_later HB.out t0'
      clear t0 t0'
      have hx1 : Hid (ks[k] = ms[k] → ks.take (k + 1) = ms.take (k + 1)) := fun h => takeK_snoc hlt hlt' HT.out h
      have hx2 : Hid (ks[k] ≠ ms[k] → decide (ks = ms) = false) := fun h => by simp; rintro rfl; exact h rfl
      generalize ks[k] = x at *
      generalize ms[k] = y at *
      by_cases hxy : x = y
      · have hq : (x == y) = true := by simp [hxy]
        have HN := Lib.hid (hx1.out hxy)
        clear hxy hx1 hx2
        go_wp2_with fail
        go_quiet (fail)
        go_wp2
        go_roundw
        case rel => exact ⟨k + 1, by omega, by go_num, HN.out, HB.out.drewN⟩
        case measure => simp [intOf]; omega
      · have hq : (x == y) = false := by simp [hxy]
        have HN := Lib.hid (hx2.out hxy)
        clear hxy hx1 hx2
        go_wp2_with fail
        go_quiet (fail)
        go_wp2
        go_ret
        exact ⟨ret_bool HN.out.symm, HB.out.drewN⟩
    · obtain rfl : k = ks.length := by omega
      have H : Hid (decide (ks = ms) = true) := by
        show _ = _
        have := HT.out
        rw [List.take_length, List.take_of_length_le hm3] at this
        simpa using this
      go_wp2
      go_ret
      exact ⟨ret_bool H.out.symm, HB.out⟩

end Go.Proofs.YtljlaopjimkcmaaGreat

/- The three ways in which walks end. -/
namespace Go.Proofs.YtljlaopjimkcmaaGreat
open Go.RowKit

theorem keys_bound {p : Pg} {fuel : Int} {n : Nat} (h : preW p fuel ≤ n) : (sortK (keysOf (runsW p fuel))).length ≤ n ∧ (runsW p fuel).length ≤ n ∧ stuckN (runsW p fuel) ≤ n := by
  have h1 := sortK_len (keysOf (runsW p fuel))
  have h2 : (keysOf (runsW p fuel)).length = (runsW p fuel).length := List.length_map _
  have h3 : (runsW p fuel).length ≤ preW p fuel := runs_le 33 (s0 p fuel) []
  have h4 := stuckN_le (runsW p fuel)
  omega
section
variable (p : Pg) (a : Option Addr) (cap : Nat) (fuel : Int) (n : Nat) (w : World) (hp : ThreadsAt w a p.threads) (hn : n ≤ 1000)
include hp hn
theorem all_yes (hok : okPg p fuel) (hle : preW p fuel ≤ n) : Calls Tryz.prog 9 #[.agg #[.int .i64 p.vars, .int .i64 p.mutexes, .slice a p.threads.length cap], .int .i64 fuel, .int .i64 (n : Int)] w
    fun r w' => ∃ v c, r = .returned (.tuple #[.agg #[.slice v (sortK (keysOf (runsW p fuel))).length c, .int .i64 ((runsW p fuel).length : Nat), .int .i64 (preW p fuel : Nat)], .int .i64 0]) ∧ OwnT w' w.heap.size (.slice v (sortK (keysOf (runsW p fuel))).length c) (sortK (keysOf (runsW p fuel))) ∧ Below w.heap.size w w' :=
  (allF_any p a cap fuel n w hp hn).mono fun r w' ⟨h1, h2⟩ => by
    rw [if_pos hok] at h1
    rcases h1 with ⟨_, v, h3, h4⟩ | ⟨h3, _⟩
    · obtain ⟨av, cv, rfl⟩ := h4.slice
      exact ⟨av, cv, h3, ownT_of_S h4, h2⟩
    · omega
theorem all_full (hok : okPg p fuel) (hle : n < preW p fuel) : Calls Tryz.prog 9 #[.agg #[.int .i64 p.vars, .int .i64 p.mutexes, .slice a p.threads.length cap], .int .i64 fuel, .int .i64 (n : Int)] w
    fun r w' => r = .returned (.tuple #[.agg #[.slice none 0 0, .int .i64 0, .int .i64 0], .int .i64 5]) ∧ Below w.heap.size w w' :=
  (allF_any p a cap fuel n w hp hn).mono fun r w' ⟨h1, h2⟩ => by
    rw [if_pos hok] at h1
    rcases h1 with ⟨h3, _⟩ | ⟨_, h3⟩
    · omega
    · exact ⟨h3, h2⟩
theorem all_bad (hok : ¬ okPg p fuel) : Calls Tryz.prog 9 #[.agg #[.int .i64 p.vars, .int .i64 p.mutexes, .slice a p.threads.length cap], .int .i64 fuel, .int .i64 (n : Int)] w
    fun r w' => r = .returned (.tuple #[.agg #[.slice none 0 0, .int .i64 0, .int .i64 0], .int .i64 1]) ∧ Below w.heap.size w w' :=
  (allF_any p a cap fuel n w hp hn).mono fun r w' ⟨h1, h2⟩ => by
    rw [if_neg hok] at h1
    exact ⟨h1, h2⟩
theorem refAll_yes (hok : okPg p fuel) (hle : preW p fuel ≤ n) : Calls Tryz.prog 10 #[.agg #[.int .i64 p.vars, .int .i64 p.mutexes, .slice a p.threads.length cap], .int .i64 fuel, .int .i64 (n : Int)] w
    fun r w' => ∃ v c, r = .returned (.tuple #[.agg #[.slice v (sortK (keysOf (runsW p fuel))).length c, .int .i64 ((runsW p fuel).length : Nat), .int .i64 (preW p fuel : Nat), .int .i64 (stuckN (runsW p fuel) : Nat)], .int .i64 0]) ∧ OwnT w' w.heap.size (.slice v (sortK (keysOf (runsW p fuel))).length c) (sortK (keysOf (runsW p fuel))) ∧ Below w.heap.size w w' :=
  (refAll6_any p a cap fuel n w hp hn).mono fun r w' ⟨h1, h2⟩ => by
    rw [if_pos hok] at h1
    rcases h1 with ⟨_, v, h3, h4⟩ | ⟨h3, _⟩
    · obtain ⟨av, cv, rfl, _⟩ := OwnRow.form h4 strCell_len (by have := (keys_bound hle).1; omega)
      exact ⟨av, cv, h3, h4, h2⟩
    · omega
theorem refAll_full (hok : okPg p fuel) (hle : n < preW p fuel) : Calls Tryz.prog 10 #[.agg #[.int .i64 p.vars, .int .i64 p.mutexes, .slice a p.threads.length cap], .int .i64 fuel, .int .i64 (n : Int)] w
    fun r w' => r = .returned (.tuple #[.agg #[.slice none 0 0, .int .i64 0, .int .i64 0, .int .i64 0], .int .i64 5]) ∧ Below w.heap.size w w' :=
  (refAll6_any p a cap fuel n w hp hn).mono fun r w' ⟨h1, h2⟩ => by
    rw [if_pos hok] at h1
    rcases h1 with ⟨h3, _⟩ | ⟨_, h3⟩
    · omega
    · exact ⟨h3, h2⟩
theorem refAll_bad (hok : ¬ okPg p fuel) : Calls Tryz.prog 10 #[.agg #[.int .i64 p.vars, .int .i64 p.mutexes, .slice a p.threads.length cap], .int .i64 fuel, .int .i64 (n : Int)] w
    fun r w' => r = .returned (.tuple #[.agg #[.slice none 0 0, .int .i64 0, .int .i64 0, .int .i64 0], .int .i64 1]) ∧ Below w.heap.size w w' :=
  (refAll6_any p a cap fuel n w hp hn).mono fun r w' ⟨h1, h2⟩ => by
    rw [if_neg hok] at h1
    exact ⟨h1, h2⟩
theorem dead_yes (hok : okPg p fuel) (hle : preW p fuel ≤ n) : Calls Tryz.prog 11 #[.agg #[.int .i64 p.vars, .int .i64 p.mutexes, .slice a p.threads.length cap], .int .i64 fuel, .int .i64 (n : Int)] w
    fun r w' => r = .returned (.tuple #[.int .i64 (stuckN (runsW p fuel) : Nat), .int .i64 0]) ∧ Below w.heap.size w w' :=
  (deadlocks_any p a cap fuel n w hp hn).mono fun r w' ⟨h1, h2⟩ => by
    rw [if_pos hok] at h1
    rcases h1 with ⟨_, h3⟩ | ⟨h3, _⟩
    · exact ⟨h3, h2⟩
    · omega
theorem dead_full (hok : okPg p fuel) (hle : n < preW p fuel) : Calls Tryz.prog 11 #[.agg #[.int .i64 p.vars, .int .i64 p.mutexes, .slice a p.threads.length cap], .int .i64 fuel, .int .i64 (n : Int)] w
    fun r w' => r = .returned (.tuple #[.int .i64 0, .int .i64 5]) ∧ Below w.heap.size w w' :=
  (deadlocks_any p a cap fuel n w hp hn).mono fun r w' ⟨h1, h2⟩ => by
    rw [if_pos hok] at h1
    rcases h1 with ⟨h3, _⟩ | ⟨_, h3⟩
    · omega
    · exact ⟨h3, h2⟩
theorem dead_bad (hok : ¬ okPg p fuel) : Calls Tryz.prog 11 #[.agg #[.int .i64 p.vars, .int .i64 p.mutexes, .slice a p.threads.length cap], .int .i64 fuel, .int .i64 (n : Int)] w
    fun r w' => r = .returned (.tuple #[.int .i64 0, .int .i64 1]) ∧ Below w.heap.size w w' :=
  (deadlocks_any p a cap fuel n w hp hn).mono fun r w' ⟨h1, h2⟩ => by
    rw [if_neg hok] at h1
    exact ⟨h1, h2⟩
end
/-- Whichever way: the three tell the same. -/
theorem wpath (p : Pg) (fuel : Int) (n : Nat) (hn : n ≤ 1000) : ∃ (KS : List Key) (N M S : Nat) (E : Int), KS.length ≤ 1000 ∧ (∀ (a : Option Addr) (cap : Nat) (w : World), ThreadsAt w a p.threads →
    (Calls Tryz.prog 9 #[.agg #[.int .i64 p.vars, .int .i64 p.mutexes, .slice a p.threads.length cap], .int .i64 fuel, .int .i64 (n : Int)] w fun r w' => ∃ v c, r = .returned (.tuple #[.agg #[.slice v KS.length c, .int .i64 (N : Int), .int .i64 (M : Int)], .int .i64 E]) ∧ OwnT w' w.heap.size (.slice v KS.length c) KS ∧ Below w.heap.size w w') ∧
    (Calls Tryz.prog 10 #[.agg #[.int .i64 p.vars, .int .i64 p.mutexes, .slice a p.threads.length cap], .int .i64 fuel, .int .i64 (n : Int)] w fun r w' => ∃ v c, r = .returned (.tuple #[.agg #[.slice v KS.length c, .int .i64 (N : Int), .int .i64 (M : Int), .int .i64 (S : Int)], .int .i64 E]) ∧ OwnT w' w.heap.size (.slice v KS.length c) KS ∧ Below w.heap.size w w') ∧
    (Calls Tryz.prog 11 #[.agg #[.int .i64 p.vars, .int .i64 p.mutexes, .slice a p.threads.length cap], .int .i64 fuel, .int .i64 (n : Int)] w fun r w' => r = .returned (.tuple #[.int .i64 (S : Int), .int .i64 E]) ∧ Below w.heap.size w w')) := by
  by_cases hok : okPg p fuel
  · by_cases hle : preW p fuel ≤ n
    · exact ⟨_, _, _, _, 0, by have := (keys_bound hle).1; omega, fun a cap w hp => ⟨all_yes p a cap fuel n w hp hn hok hle, refAll_yes p a cap fuel n w hp hn hok hle, dead_yes p a cap fuel n w hp hn hok hle⟩⟩
    · have hlt : n < preW p fuel := by omega
      refine ⟨[], 0, 0, 0, 5, by simp, fun a cap w hp => ⟨(all_full p a cap fuel n w hp hn hok hlt).mono fun r w' ⟨h1, h2⟩ => ⟨none, 0, h1, ownRow_nil _ _ _ _ _, h2⟩, (refAll_full p a cap fuel n w hp hn hok hlt).mono fun r w' ⟨h1, h2⟩ => ⟨none, 0, h1, ownRow_nil _ _ _ _ _, h2⟩, dead_full p a cap fuel n w hp hn hok hlt⟩⟩
  · refine ⟨[], 0, 0, 0, 1, by simp, fun a cap w hp => ⟨(all_bad p a cap fuel n w hp hn hok).mono fun r w' ⟨h1, h2⟩ => ⟨none, 0, h1, ownRow_nil _ _ _ _ _, h2⟩, (refAll_bad p a cap fuel n w hp hn hok).mono fun r w' ⟨h1, h2⟩ => ⟨none, 0, h1, ownRow_nil _ _ _ _ _, h2⟩, dead_bad p a cap fuel n w hp hn hok⟩⟩

end Go.Proofs.YtljlaopjimkcmaaGreat

/- Walks, plainly: of a program whose threads stand the other way round there are as many prefixes, ends, classes, and ends at which somebody waits. -/
namespace Go.Proofs.YtljlaopjimkcmaaGreat

/-- Of n threads: the same one, counted from the other end. -/
def flipT (n : Nat) (t : Int) : Int := (n : Int) - 1 - t
def flipE (n : Nat) (e : Ev) : Ev := { e with thread := flipT n e.thread }
def flipP (p : Pg) : Pg := { p with threads := p.threads.reverse }
def flipM (n : Nat) (x : Int) : Int := if x < 0 then x else flipT n x
def flipS (s : St) : St := { p := flipP s.p, ts := s.ts.reverse, v := s.v, m := s.m.map (flipM s.ts.length) }
theorem flipT_inj {n : Nat} {a b : Int} : flipT n a = flipT n b ↔ a = b := by unfold flipT; omega
theorem flipT_flip (n : Nat) (a : Int) : flipT n (flipT n a) = a := by unfold flipT; omega
theorem flip_has {s : St} {t : Int} : (flipS s).has (flipT s.ts.length t) ↔ s.has t := by
  unfold St.has flipS flipT
  dsimp only
  rw [List.length_reverse]
  omega
theorem getD_reverse {T : Type} (l : List T) (d : T) {n : Nat} (hn : l.length = n) {t : Int} (h0 : 0 ≤ t) (h1 : t < n) : l.reverse.getD (flipT n t).toNat d = l.getD t.toNat d := by
  have e : (flipT n t).toNat = n - 1 - t.toNat := by unfold flipT; omega
  have h2 : t.toNat < l.length := by omega
  rw [e, getD_lt _ (by rw [List.length_reverse]; omega), getD_lt _ h2, List.getElem_reverse]
  congr 1
  omega
theorem flip_th {s : St} {t : Int} (h : s.has t) : (flipS s).th (flipT s.ts.length t).toNat = s.th t.toNat := getD_reverse s.ts thr0 rfl h.1 h.2
theorem flip_code {F : Nat} {s : St} (ok : s.Ok F) {t : Int} (h : s.has t) : (flipS s).code (flipT s.ts.length t).toNat = s.code t.toNat := getD_reverse s.p.threads [] ok.len.symm h.1 h.2
theorem flip_ins {F : Nat} {s : St} (ok : s.Ok F) {t : Int} : (flipS s).ins (flipT s.ts.length t) = s.ins t := by
  by_cases h : s.has t
  · unfold St.ins
    rw [flip_th h, flip_code ok h]
    simp only [h, flip_has.2 h]
  · have h' : ¬ (flipS s).has (flipT s.ts.length t) := fun e => h (flip_has.1 e)
    unfold St.ins
    simp only [h, h', false_and, if_false]
theorem flip_reg {s : St} {t : Int} (h : s.has t) (i : Ins) : (flipS s).reg (flipT s.ts.length t) i = s.reg t i := by
  unfold St.reg
  rw [flip_th h]
theorem flip_who (s : St) (x : Int) : (flipS s).who x = flipM s.ts.length (s.who x) := by
  have e : flipM s.ts.length (-1) = -1 := rfl
  unfold St.who
  show (s.m.map (flipM s.ts.length)).getD x.toNat (-1) = _
  simp only [List.getD, List.getElem?_map]
  cases h : s.m[x.toNat]? with
  | none => simp [e]
  | some y => simp
theorem flip_who_eq {s : St} {t : Int} (h : s.has t) (x : Int) : (flipS s).who x = flipT s.ts.length t ↔ s.who x = t := by
  rw [flip_who]
  unfold St.has at h
  unfold flipM flipT
  split <;> omega
theorem who_mm {F : Nat} {s : St} (ok : s.Ok F) (x : Int) : s.who x = -1 ∨ (0 ≤ s.who x ∧ s.who x < s.ts.length) := by
  unfold St.who
  simp only [List.getD]
  cases h : s.m[x.toNat]? with
  | none => exact .inl rfl
  | some y =>
    have := ok.mm y (List.mem_of_getElem? h)
    simp only [Option.getD_some]
    omega
theorem flip_free {F : Nat} {s : St} (ok : s.Ok F) (x : Int) : (flipS s).who x < 0 ↔ s.who x < 0 := by
  rw [flip_who]
  have := who_mm ok x
  unfold flipM flipT
  split <;> omega
theorem flip_ev {s : St} {t : Int} (h : s.has t) (i : Ins) : (flipS s).ev (flipT s.ts.length t) i = flipE s.ts.length (s.ev t i) := by
  unfold St.ev
  rw [flip_reg h]
  simp only [flip_who_eq h]
  unfold flipE
  repeat' split
  all_goals rfl
theorem flip_next {F : Nat} {s : St} (ok : s.Ok F) (t : Int) : (flipS s).next (flipT s.ts.length t) = (s.next t).map (flipE s.ts.length) := by
  unfold St.next
  rw [flip_ins ok]
  cases h : s.ins t with
  | none => rfl
  | some i =>
    have hh := (St.ins_has h).1
    simp [flip_ev hh]
theorem flip_may {F : Nat} {s : St} (ok : s.Ok F) (t : Int) : (flipS s).may (flipT s.ts.length t) = s.may t := by
  unfold St.may
  rw [flip_ins ok]
  cases h : s.ins t with
  | none => rfl
  | some i => simp only [flip_free ok]
theorem flip_thr {s : St} {t : Int} (h : s.has t) (i : Ins) : (flipS s).thr (flipT s.ts.length t) i = s.thr t i := by
  have hv : (flipS s).var i.x = s.var i.x := rfl
  unfold St.thr
  rw [flip_th h, flip_reg h, hv]
theorem reverse_set {T : Type} (l : List T) {n : Nat} (hn : l.length = n) {t : Int} (h0 : 0 ≤ t) (h1 : t < n) (y : T) : l.reverse.set (flipT n t).toNat y = (l.set t.toNat y).reverse := by
  apply List.ext_getElem
  · simp
  · intro i hi1 hi2
    rw [List.getElem_set, List.getElem_reverse, List.getElem_reverse, List.getElem_set]
    simp only [List.length_set, List.length_reverse] at hi1 hi2 ⊢
    have : (flipT n t).toNat = i ↔ t.toNat = l.length - 1 - i := by unfold flipT; omega
    simp only [this]
theorem flip_do {s : St} {t : Int} (h : s.has t) (i : Ins) : flipS (s.do_ t i) = (flipS s).do_ (flipT s.ts.length t) i := by
  have hl : (s.do_ t i).ts.length = s.ts.length := by simp [St.do_]
  have e1 : (flipS (s.do_ t i)).ts = ((flipS s).do_ (flipT s.ts.length t) i).ts := by
    show (s.ts.set t.toNat (s.thr t i)).reverse = s.ts.reverse.set (flipT s.ts.length t).toNat ((flipS s).thr (flipT s.ts.length t) i)
    rw [flip_thr h, reverse_set s.ts rfl h.1 h.2]
  have e2 : (flipS (s.do_ t i)).v = ((flipS s).do_ (flipT s.ts.length t) i).v := by
    show (if i.kind = 2 then s.v.set i.x.toNat (s.reg t i) else s.v) = if i.kind = 2 then s.v.set i.x.toNat ((flipS s).reg (flipT s.ts.length t) i) else s.v
    rw [flip_reg h]
  have e3 : (flipS (s.do_ t i)).m = ((flipS s).do_ (flipT s.ts.length t) i).m := by
    show (if i.kind = 5 then s.m.set i.x.toNat t else if i.kind = 6 ∧ s.who i.x = t then s.m.set i.x.toNat (-1) else s.m).map (flipM (s.do_ t i).ts.length) =
      (if i.kind = 5 then (s.m.map (flipM s.ts.length)).set i.x.toNat (flipT s.ts.length t) else if i.kind = 6 ∧ (flipS s).who i.x = flipT s.ts.length t then (s.m.map (flipM s.ts.length)).set i.x.toNat (-1) else s.m.map (flipM s.ts.length))
    rw [hl]
    simp only [flip_who_eq h]
    have f1 : flipM s.ts.length t = flipT s.ts.length t := by unfold flipM; rw [if_neg (by have := h.1; omega)]
    have f2 : flipM s.ts.length (-1) = -1 := rfl
    split
    · rw [List.map_set, f1]
    split
    · rw [List.map_set, f2]
    · rfl
  have e4 : (flipS (s.do_ t i)).p = ((flipS s).do_ (flipT s.ts.length t) i).p := rfl
  generalize flipS (s.do_ t i) = x at *
  generalize (flipS s).do_ (flipT s.ts.length t) i = y at *
  cases x
  cases y
  simp_all
theorem flip_ok {F : Nat} {s : St} (ok : s.Ok F) : (flipS s).Ok F := by
  have hn : (flipS s).ts.length = s.ts.length := by show s.ts.reverse.length = _; rw [List.length_reverse]
  have hp : rightPg (flipP s.p) = true := by
    have := ok.right
    unfold rightPg flipP at *
    dsimp only
    rw [Bool.and_eq_true, decide_eq_true_eq, List.all_eq_true] at *
    rw [List.length_reverse]
    exact ⟨this.1, fun x hx => this.2 x (List.mem_reverse.1 hx)⟩
  refine ⟨ok.f8, hp, ?_, ok.vl, ?_, ?_, ?_, ok.vv, ?_, ?_⟩
  · show s.ts.reverse.length = s.p.threads.reverse.length
    rw [List.length_reverse, List.length_reverse]
    exact ok.len
  · show (s.m.map _).length = 2
    rw [List.length_map]
    exact ok.ml
  · intro x hx
    exact ok.thr x (List.mem_reverse.1 hx)
  · intro k hk
    rw [hn] at hk
    have hh : s.has (flipT s.ts.length k) := by unfold St.has flipT; omega
    have e : (flipT s.ts.length (flipT s.ts.length (k : Int))).toNat = k := by rw [flipT_flip]; omega
    have h1 := flip_th hh
    have h2 := flip_code ok hh
    rw [e] at h1 h2
    rw [h1, h2]
    refine ok.place _ ?_
    unfold flipT
    omega
  · intro x hx
    rw [hn]
    obtain ⟨y, hy, rfl⟩ := List.mem_map.1 hx
    have := ok.mm y hy
    unfold flipM flipT
    split <;> omega
  · intro k hk
    have h1 := ok.free k hk
    show (s.m.map (flipM s.ts.length)).getD k (-1) = -1
    simp only [List.getD, List.getElem?_map] at *
    cases h : s.m[k]? with
    | none => rfl
    | some y =>
      rw [h] at h1
      simp only [Option.getD_some] at h1
      subst h1
      rfl
theorem flip_step {F : Nat} {s : St} (ok : s.Ok F) {t : Int} (h : t ∈ s.all) : (flipS s).step (flipT s.ts.length t) = (0, flipE s.ts.length (s.step t).2.1, flipS (s.step t).2.2) ∧ (s.step t).2.2.ts.length = s.ts.length ∧ (s.step t).2.2.Ok F := by
  unfold St.all at h
  have hm := (List.mem_filter.1 h).2
  have ok1 := ok.step_ok t
  rcases s.step_cases t with ⟨i, hi, _, e⟩ | ⟨e, he, e'⟩
  · have hh := (St.ins_has hi).1
    rw [e] at ok1 ⊢
    have hi' : (flipS s).ins (flipT s.ts.length t) = some i := (flip_ins ok).trans hi
    refine ⟨?_, by simp [St.do_], ok1⟩
    rw [St.step_may hi' ((flip_may ok t).trans hm), flip_ev hh, flip_do hh]
  · exfalso
    unfold St.may at hm
    cases hi : s.ins t with
    | none => rw [hi] at hm; cases hm
    | some i =>
      have := St.step_may hi (by unfold St.may; exact hm)
      rw [this] at e'
      injection e' with e' _
      omega
theorem flip_range (n : Nat) : (((List.range n).map Int.ofNat).map (flipT n)) = ((List.range n).map Int.ofNat).reverse := by
  apply List.ext_getElem
  · simp
  · intro i h1 h2
    simp at h1 h2 ⊢
    unfold flipT
    omega
theorem flip_all {F : Nat} {s : St} (ok : s.Ok F) : (flipS s).all = (s.all.map (flipT s.ts.length)).reverse := by
  have hn : (flipS s).ts.length = s.ts.length := by show s.ts.reverse.length = _; rw [List.length_reverse]
  unfold St.all
  rw [hn]
  have h1 : (((List.range s.ts.length).map Int.ofNat).filter s.may).map (flipT s.ts.length) = (((List.range s.ts.length).map Int.ofNat).map (flipT s.ts.length)).filter (flipS s).may := by
    generalize (List.range s.ts.length).map Int.ofNat = L
    rw [List.filter_map]
    congr 1
    apply List.filter_congr
    intro x _
    exact (flip_may ok x).symm
  rw [h1, flip_range, List.filter_reverse, List.reverse_reverse]
theorem flip_all_nil {F : Nat} {s : St} (ok : s.Ok F) : (flipS s).all = [] ↔ s.all = [] := by
  rw [flip_all ok]
  simp
theorem flip_pre {F : Nat} (n : Nat) : ∀ {s : St}, s.Ok F → (flipS s).pre n = s.pre n := by
  induction n with
  | zero => intro s _; rfl
  | succ n ih =>
    intro s ok
    unfold St.pre
    congr 1
    rw [flip_all ok, List.map_reverse, List.map_map]
    have h1 : (s.all.map ((fun t => St.pre n ((flipS s).step t).2.2) ∘ flipT s.ts.length)) = s.all.map fun t => St.pre n (s.step t).2.2 := by
      apply List.map_congr_left
      intro t ht
      obtain ⟨e1, e2, e3⟩ := flip_step ok ht
      show St.pre n ((flipS s).step (flipT s.ts.length t)).2.2 = _
      rw [e1]
      exact ih e3
    rw [h1]
    exact (List.reverse_perm _).sum_nat
theorem flip_runs {F : Nat} (n : Nat) : ∀ {s : St} (row : List Ev), s.Ok F → ((flipS s).runs n (row.map (flipE s.ts.length))).Perm ((s.runs n row).map fun x => (flipS x.1, x.2.map (flipE s.ts.length))) := by
  induction n with
  | zero => intro s row _; exact List.Perm.refl _
  | succ n ih =>
    intro s row ok
    show (if (flipS s).all = [] then _ else _ : List (St × List Ev)).Perm (List.map _ (if s.all = [] then _ else _))
    by_cases h : s.all = []
    · rw [if_pos ((flip_all_nil ok).2 h), if_pos h]
      exact List.Perm.refl _
    · rw [if_neg (fun e => h ((flip_all_nil ok).1 e)), if_neg h, flip_all ok, List.map_flatMap]
      refine ((List.reverse_perm _).flatMap_right _).trans ?_
      rw [List.flatMap_map]
      have hmem : ∀ t ∈ s.all, t ∈ s.all := fun _ h => h
      generalize hL : s.all = L at hmem ⊢
      have hmem' : ∀ t ∈ L, t ∈ s.all := fun t ht => by rw [hL]; exact ht
      clear hmem hL
      induction L with
      | nil => exact List.Perm.refl _
      | cons t L ihL =>
        rw [List.flatMap_cons, List.flatMap_cons]
        refine List.Perm.append ?_ (ihL fun t ht => hmem' t (List.mem_cons_of_mem _ ht))
        obtain ⟨e1, e2, e3⟩ := flip_step ok (hmem' t List.mem_cons_self)
        rw [e1]
        have := ih (row ++ [(s.step t).2.1]) e3
        rw [e2, List.map_append] at this
        exact this

theorem flip_s0 (p : Pg) (fuel : Int) : flipS (s0 p fuel) = s0 (flipP p) fuel := by
  unfold flipS s0 St.new flipP
  dsimp only
  congr 1
  rw [← List.map_reverse]
theorem right_flip (p : Pg) : rightPg (flipP p) = rightPg p := by
  unfold rightPg flipP
  dsimp only
  rw [List.length_reverse, List.all_reverse]
end Go.Proofs.YtljlaopjimkcmaaGreat

/- Conversions to uint, and remainders. -/
namespace Go.Proofs.YtljlaopjimkcmaaGreat
open Go.RowKit

theorem wrap_u (n : Int) : ∃ m : Int, IntKind.u64.wrap n = m ∧ 0 ≤ m := by
  refine ⟨_, rfl, ?_⟩
  unfold IntKind.wrap
  simp [IntKind.signed, IntKind.bits]
  omega
theorem wrap_u_small (n : Int) (h0 : 0 ≤ n) (h1 : n ≤ 1000000) : IntKind.u64.wrap n = n := by
  unfold IntKind.wrap
  simp [IntKind.signed, IntKind.bits]
  omega
theorem tmod_nat (m : Int) (h0 : 0 ≤ m) (n : Nat) (h1 : 1 ≤ n) : ∃ k : Nat, m.tmod (n : Int) = k ∧ k < n := by
  rw [Int.tmod_eq_emod_of_nonneg h0]
  have a := Int.emod_nonneg m (b := (n : Int)) (by omega)
  have b := Int.emod_lt_of_pos m (b := (n : Int)) (by omega)
  exact ⟨(m % (n : Int)).toNat, by omega, by omega⟩

end Go.Proofs.YtljlaopjimkcmaaGreat

/- An argument that is a program, opened. -/
namespace Go.Proofs.YtljlaopjimkcmaaGreat
open Go.RowKit Go.Deep Go.Joins Go.WideShapes Go.ChangeShapes

section
variable {H : Type} {enc : TypeId × Value → H} {W : World} {base : Nat} {spare : Nat → Bool} {held : Bool}

set_option maxRecDepth 100000 in
theorem ins_of_trod {fuel : Nat} {cs : List Value} {x : DataW H × List MemPlace} (h : DataW.trod enc Tryz.prog W base spare held fuel 60 cs = some x) :
    ∃ i : Ins, cs = [.int .i64 i.kind, .int .i64 i.r, .int .i64 i.x, .int .i64 i.n] := by
  obtain ⟨xs, n, _, _, hlen, hxl, hf⟩ := DataW.trod_struct Tryz.underlying60 h
  have h4 : cs.length = 4 := hlen.trans (by kernel_rfl)
  have hx4 : xs.length = 4 := hxl.trans rfl
  match cs, h4, xs, hx4 with
  | [c0, c1, c2, c3], _, [x0, x1, x2, x3], _ =>
    have e1 : Tryz.prog.cellsOf 3 = 1 := by kernel_rfl
    have e2 : Tryz.prog.cellsOf 2 = 1 := by kernel_rfl
    have g0 := hf 0 _ rfl
    have g1 := hf 1 _ rfl
    have g2 := hf 2 _ rfl
    have g3 := hf 3 _ rfl
    simp [e1, e2] at g0 g1 g2 g3
    obtain ⟨n0, r0, _⟩ := DataW.trod_int Tryz.underlying3 g0
    obtain ⟨n1, r1, _⟩ := DataW.trod_int Tryz.underlying3 g1
    obtain ⟨n2, r2, _⟩ := DataW.trod_int Tryz.underlying3 g2
    obtain ⟨n3, r3, _⟩ := DataW.trod_int Tryz.underlying2 g3
    simp at r0 r1 r2 r3
    exact ⟨⟨n0, n1, n2, n3⟩, by simp [r0, r1, r2, r3]⟩

set_option maxRecDepth 100000 in
theorem code_of_trod {fuel : Nat} {cs : List Value} {x : DataW H × List MemPlace} (h : DataW.trod enc Tryz.prog W base spare held fuel 57 cs = some x) :
    ∃ (a : Option Addr) (l : List Ins) (cap : Nat), cs = [.slice a l.length cap] ∧ CodeAt W a l ∧ (a = none → cap = 0) := by
  rcases open_slice Tryz.underlying57 h with ⟨rfl, _⟩ | ⟨a, len, cap, m, n, D, Pl, rfl, _, hl, hm, hmm, _, hi⟩
  · exact ⟨none, [], 0, rfl, ⟨by simp [maxLen], fun h => absurd rfl h⟩, fun _ => rfl⟩
  · have e4 : Tryz.prog.cellsOf 60 = 4 := by kernel_rfl
    have hlm : len ≤ m := by rw [hmm]; split <;> omega
    obtain ⟨l, hll, hx⟩ := exists_list len (fun i (y : Ins) => ∀ j v, [Value.int .i64 y.kind, .int .i64 y.r, .int .i64 y.x, .int .i64 y.n][j]? = some v → W.cell? (a.add (i * 4 + j)) = some v) (fun i hi' => by
      obtain ⟨cs', hc, ht⟩ := hi i (by omega)
      rw [e4] at hc
      obtain ⟨y, rfl⟩ := ins_of_trod ht
      obtain ⟨_, _, hat⟩ := World.cells?_some hc
      refine ⟨y, fun j v hv => ?_⟩
      have hj : j < 4 := by have := (List.getElem?_eq_some_iff.1 hv).1; simpa using this
      rw [← add_add, hat j hj]; exact hv)
    refine ⟨some a, l, cap, by rw [hll], ⟨by omega, fun hne => ?_⟩, fun h => by cases h⟩
    have hpos : 0 < l.length := List.length_pos_iff.2 hne
    have h0 := hx 0 l[0] (List.getElem?_eq_getElem hpos) 0 _ rfl
    have hsp := World.cell?_spot h0
    have hsp' : a.spot = none := by simpa [Addr.add] using hsp
    obtain ⟨b, o, s⟩ := a
    subst hsp'
    refine ⟨b, o, rfl, fun i hi' => ?_⟩
    have hxi := hx i l[i] (List.getElem?_eq_getElem hi')
    have c0 := hxi 0 _ rfl
    have c1 := hxi 1 _ rfl
    have c2 := hxi 2 _ rfl
    have c3 := hxi 3 _ rfl
    simp only [add_row, ← Nat.add_assoc, Nat.add_zero] at c0 c1 c2 c3
    exact ⟨c0, c1, c2, c3⟩

set_option maxRecDepth 100000 in
theorem threads_of_trod {fuel : Nat} {cs : List Value} {x : DataW H × List MemPlace} (h : DataW.trod enc Tryz.prog W base spare held fuel 22 cs = some x) :
    ∃ (a : Option Addr) (ts : List (List Ins)) (cap : Nat), cs = [.slice a ts.length cap] ∧ ThreadsAt W a ts ∧ (a = none → cap = 0) := by
  rcases open_slice Tryz.underlying22 h with ⟨rfl, _⟩ | ⟨a, len, cap, m, n, D, Pl, rfl, _, hl, hm, hmm, _, hi⟩
  · exact ⟨none, [], 0, rfl, ⟨by simp [maxLen], fun h => absurd rfl h⟩, fun _ => rfl⟩
  · have e1 : Tryz.prog.cellsOf 57 = 1 := by kernel_rfl
    have hlm : len ≤ m := by rw [hmm]; split <;> omega
    obtain ⟨ts, hll, hx⟩ := exists_list len (fun i (l : List Ins) => ∃ c ccap, W.cell? (a.add i) = some (.slice c l.length ccap) ∧ CodeAt W c l ∧ (c = none → ccap = 0)) (fun i hi' => by
      obtain ⟨cs', hc, ht⟩ := hi i (by omega)
      rw [e1] at hc
      obtain ⟨c, l, ccap, rfl, h1, h2⟩ := code_of_trod ht
      obtain ⟨_, _, hat⟩ := World.cells?_some hc
      have := hat 0 (by omega)
      rw [add_add] at this
      exact ⟨l, c, ccap, by simpa using this, h1, h2⟩)
    refine ⟨some a, ts, cap, by rw [hll], ⟨by omega, fun hne => ?_⟩, fun h => by cases h⟩
    have hpos : 0 < ts.length := List.length_pos_iff.2 hne
    obtain ⟨c, ccap, h0, _⟩ := hx 0 ts[0] (List.getElem?_eq_getElem hpos)
    have hsp := World.cell?_spot h0
    have hsp' : a.spot = none := by simpa [Addr.add] using hsp
    obtain ⟨b, o, s⟩ := a
    subst hsp'
    refine ⟨b, o, rfl, fun i hi' => ?_⟩
    obtain ⟨c, ccap, h1, h2, h3⟩ := hx i ts[i] (List.getElem?_eq_getElem hi')
    rw [add_row] at h1
    exact ⟨c, ccap, h1, h2, h3⟩

set_option maxRecDepth 100000 in
theorem prog_of_trod {r : Reach} {b0 : Nat} {v : Value} {d : DataW H} {p : List MemPlace} (hv : Value.okWide Tryz.prog W r b0 24 v) (h : DataW.Trod enc Tryz.prog W base spare held 24 v d p) :
    ∃ (q : Pg) (a : Option Addr) (cap : Nat), v = pgV q a cap ∧ ThreadsAt W a q.threads ∧ (a = none → cap = 0) := by
  obtain ⟨v0, v1, v2, y0, y1, y2, n, rfl, _, _, h0, h1, h2⟩ := open_agg3 Tryz.underlying24 (by kernel_rfl) (by kernel_rfl) hv h
  obtain ⟨n0, r0, _⟩ := DataW.trod_int Tryz.underlying3 h0
  obtain ⟨n1, r1, _⟩ := DataW.trod_int Tryz.underlying3 h1
  obtain ⟨a, ts, cap, r2, ht, ha⟩ := threads_of_trod h2
  simp at r0 r1 r2
  subst r0 r1 r2
  exact ⟨⟨n0, n1, ts⟩, a, cap, rfl, ht, ha⟩
end
end Go.Proofs.YtljlaopjimkcmaaGreat

/- Arguments that are numbers, or rows of numbers, opened. -/
namespace Go.Proofs.YtljlaopjimkcmaaGreat
open Go.RowKit Go.Deep Go.Joins Go.WideShapes Go.ChangeShapes

section
variable {H : Type} {enc : TypeId × Value → H} {W : World} {base : Nat} {spare : Nat → Bool} {held : Bool}

theorem wf_in64 {n : Int} (h : (Lit.int .i64 n).wf = true) : in64 n := by
  simp [Lit.wf, IntKind.min, IntKind.max, IntKind.signed, IntKind.bits] at h
  unfold in64
  omega

set_option maxRecDepth 100000 in
theorem int_of_trod {r : Reach} {b0 : Nat} {v : Value} {d : DataW H} {p : List MemPlace} (hv : Value.okWide Tryz.prog W r b0 3 v) (h : DataW.Trod enc Tryz.prog W base spare held 3 v d p) :
    ∃ n : Int, v = .int .i64 n ∧ in64 n := by
  obtain ⟨n, e, _, _, hw⟩ := open_int Tryz.underlying3 hv h
  exact ⟨n, e, wf_in64 hw⟩

set_option maxRecDepth 100000 in
theorem nums_of_trod {r : Reach} {b0 : Nat} {v : Value} {d : DataW H} {p : List MemPlace} (hv : Value.okWide Tryz.prog W r b0 48 v) (h : DataW.Trod enc Tryz.prog W base spare held 48 v d p) :
    ∃ (a : Option Addr) (ns : List Int) (cap : Nat), v = .slice a ns.length cap ∧ NumsAt W a ns ∧ (a = none → cap = 0) ∧ ∀ n ∈ ns, in64 n := by
  obtain ⟨a, len, cap, rfl⟩ := okWide_slice Tryz.underlying48 hv
  obtain ⟨fuel, hf⟩ := h
  rcases open_ints Tryz.underlying48 Tryz.underlying3 (by kernel_rfl) hf with ⟨e, _⟩ | ⟨a', len', cap', zs, e, _, hl, hm, hz, _, hc, hw⟩
  · simp [Value.cells] at e
    obtain ⟨rfl, rfl, rfl⟩ := e
    exact ⟨none, [], 0, rfl, ⟨by simp [maxLen], fun h => absurd rfl h⟩, fun _ => rfl, by simp⟩
  · simp [Value.cells] at e
    obtain ⟨rfl, rfl, rfl⟩ := e
    have hlz : len ≤ zs.length := by rw [hz]; split <;> omega
    have hlt : (zs.take len).length = len := by simp; omega
    refine ⟨some a', zs.take len, cap, by rw [hlt], ⟨by rw [hlt]; omega, fun hne => ?_⟩, by simp, fun n hn => wf_in64 (hw n (List.mem_of_mem_take hn))⟩
    have hpos : 0 < len := by
      rcases Nat.eq_zero_or_pos len with h | h
      · subst h; simp at hne
      · exact h
    have h0 := hc 0 (by omega)
    have hsp := World.cell?_spot h0
    have hsp' : a'.spot = none := by simpa [Addr.add] using hsp
    obtain ⟨b, o, s⟩ := a'
    subst hsp'
    refine ⟨b, o, rfl, fun i hi => ?_⟩
    have hi' : i < len := by omega
    have := hc i (by omega)
    rw [add_row, getD_lt _ (by omega)] at this
    rw [this]
    simp
end
end Go.Proofs.YtljlaopjimkcmaaGreat
