/-
  ReportPrints: any report has the bytes that the document says, or none, and is read as it was, and any bytes are the report that it says, or are refused: the law answers true, and its arguments read as they did.
  For every input, whatever its size and however its parts share memory; nothing is asked of it but what the statement's own form asks.
-/
import Derived.Deep.RegionHeld3
import Derived.WalkKit
import Derived.ProofKit
import Derived.OpenShut
import Derived.Test.YtopklnehhebhmaaRows
import Derived.Test.YtopklnehhebhmaaPk05
import Derived.Test.YtopklnehhebhmaaPk07

/- The law ReportPrints, walked. -/
namespace Go.Proofs.Ytopklnehhebhmaa
open Go.RowKit

theorem own_lit0 (w : World) : OwnRow (w.alloc (.cells #[] 9)) w.heap.size 9 1 strCell (.slice (some ⟨w.heap.size, 0, none⟩) 0 0) [] :=
  ⟨rfl, .inr ⟨w.heap.size, 0, #[], rfl, Nat.le_refl _, heap_alloc_new w _, Nat.le_refl _, by simp [maxLen], rfl, rfl⟩⟩

set_option maxRecDepth 100000 in
set_option maxHeartbeats 8000000 in
theorem reportPrints_any (a : Option Addr) (ks : List Key) (cap : Nat) (c : Bool) (s : List UInt8) (w : World) (hk : RowAt w a 1 strCell ks) (hcap : a = none → cap = 0) (hs : s.length ≤ maxLen) :
    Calls Try.prog 3 #[.slice a ks.length cap, .bool c, .string ⟨s.toArray⟩] w fun r w' => r = .returned (.bool true) ∧ Below w.heap.size w w' := by
  have hm := hk.1
  unfold maxLen at hs hm
  have hsz : (⟨s.toArray⟩ : ByteArray).size = s.length := rfl
  have HK := Lib.hid hk
  have HF := Lib.hid fun W hW => few15_any a cap ks W (hk.later hW) hk.1
  clear hk
  go_enter Try.func3, Try.ntmps3
  go_wp2_with fail
  refine (awake15_any w).mono ?_
  rintro r w1 ⟨rfl, hb1⟩
  go_wp2_with fail
  refine (HF.out _ hb1).mono ?_
  rintro r w2 ⟨rfl, hb2⟩
  have hb := hb1.trans (hb2.mono hb1.size)
  clear hb1 hb2 HF
  cases hf : fewK ks
  · clear hf
    go_wp2_with fail
    refine (awake15_any _).mono ?_
    rintro r w3 ⟨rfl, hb3⟩
    go_wp2
    go_ret
    exact ⟨rfl, hb.trans (hb3.mono hb.size)⟩
  by_cases hs6 : 600 < s.length
  · have hq : decide ((600 : Int) < (s.length : Int)) = true := by simp; omega
    clear hf
    go_wp2_with fail
    refine (awake15_any _).mono ?_
    rintro r w3 ⟨rfl, hb3⟩
    go_wp2
    go_ret
    exact ⟨rfl, hb.trans (hb3.mono hb.size)⟩
  have hq : decide ((600 : Int) < (s.length : Int)) = false := by simp; omega
  obtain ⟨hl60, hl200⟩ := fewK_yes hf
  have HL200 : Hid (∀ k ∈ ks, k.length ≤ 1000) := fun k h => Nat.le_trans (hl200 k h) (by omega)
  have HRA : Hid (a = none → cap = 0 ∧ ks = []) := fun e => ⟨hcap e, by have := HK.out; rw [e] at this; exact row_none this⟩
  have HKW := Lib.hid (HK.out.later hb)
  have HK3 := Lib.hid (HKW.out.later (below_alloc1 w2 (.cells #[] 9)))
  have HOL := Lib.hid (own_lit0 w2)
  clear hf hl200 hcap
  go_wp2_with (at_builtin; refine wpl_copyR (f := strCell) (n := 1) 22 9 16 (.string ByteArray.empty) Try.underlying22 infoStr rfl (by omega) (by omega) strCell_len strCell_one rfl _ _ rfl w2.heap.size _ [] rfl HOL.out a cap ks rfl HK3.out HRA.out (by simp; omega) (below_alloc1 w2 _).size ?_; intro v3 w3 h3 hb3 _; rw [List.nil_append] at h3; obtain ⟨a3, c3, hv3, hat3, _⟩ := h3.form strCell_len (by omega); subst hv3; have HA3 := Lib.hid hat3; have HB3 : Hid (Below w2.heap.size w2 w3) := (below_alloc1 w2 _).trans hb3; clear h3 hb3 hat3)
  have hb4 := hb.trans (HB3.out.mono hb.size)
  have HK4 := Lib.hid (HKW.out.later HB3.out)
  have hba := below_alloc1 w3 (.cells #[.slice a3 ks.length c3, .bool c] 26)
  have HP := Lib.hid fun W hW => print15_any a3 c3 ks c W (HA3.out.later hW) (by omega) HL200.out
  have HRT := Lib.hid fun W hW => right15_any a3 c3 ks c W (HA3.out.later hW) (by omega) (fun k h => Nat.le_trans (HL200.out k h) (by omega))
  clear HB3 HKW HK3 HOL hb HRA HK
  obtain ⟨B7, hB7⟩ : ∃ B7, B7 = w3.heap.size := ⟨_, rfl⟩
  have c0 : (w3.alloc (.cells #[.slice a3 ks.length c3, .bool c] 26)).cell? ⟨B7, 0, none⟩ = some (.slice a3 ks.length c3) := by rw [hB7]; simp
  have c1 : (w3.alloc (.cells #[.slice a3 ks.length c3, .bool c] 26)).cell? ⟨B7, 1, none⟩ = some (.bool c) := by rw [hB7]; simp
  go_wp2_with fail
  refine (HP.out _ hba).mono ?_
  rintro r w5 ⟨rfl, hb5⟩
  rw [← hB7]
  clear hB7
  have hb6 := hba.trans (hb5.mono hba.size)
  have HK5 := Lib.hid (HK4.out.later hb6)
  have HA5 := Lib.hid (HA3.out.later hb6)
  have d0 := cell_later hb5 c0
  have d1 := cell_later hb5 c1
  have HB5 := Lib.hid (hb4.trans (hb6.mono hb4.size))
  have HRE : Hid (rightR isK ks = true → readR isK (printR isK ks c) = .ok (ks, c)) := fun h => read_printR h (fun k hk => by have := HL200.out k hk; omega)
  have HNE : Hid (rightR isK ks = false → printR isK ks c = []) := fun h => by unfold printR; rw [h]; rfl
  have HTN : Hid (rightR isK ks = true → printR isK ks c ≠ []) := fun h => printR_ne h
  have HFW : Hid (FewR (printR isK ks c)) := fewR_print (by omega) HL200.out
  have HPL : Hid ((printR isK ks c).length ≤ 1000000) := printR_len (by omega) HL200.out
  have HRP := Lib.hid fun W hW => refPrint15_any a cap ks c W (HK5.out.later hW) (by omega) HL200.out
  have HRR := Lib.hid fun W hW => refRight15_any a cap ks c W (HK5.out.later hW) (by omega) (fun k h => HL200.out k h)
  have HRT5 : Hid (∀ W, Below w5.heap.size w5 W → _) := fun W hW => HRT.out W (hb6.trans (hW.mono hb6.size))
  clear c0 c1 hb5 HP HA3 hb4 HK4 HRT
  generalize printR isK ks c = T at *
  go_wp2_with fail
  clear hb6 hba
  have hba := below_alloc1 w5 (.cells #[.slice a ks.length cap, .bool c] 28)
  refine (read15_any s _ (by omega) (fewR_short (by omega))).mono ?_
  rintro r w6 hr6
  obtain ⟨ax, cx, rfl, hx6, hb6⟩ := hr6.res
  have hb7 := hba.trans (hb6.mono hba.size)
  have e0 : (w5.alloc (.cells #[.slice a ks.length cap, .bool c] 28)).cell? ⟨w5.heap.size, 0, none⟩ = some (.slice a ks.length cap) := by simp
  have e1 : (w5.alloc (.cells #[.slice a ks.length cap, .bool c] 28)).cell? ⟨w5.heap.size, 1, none⟩ = some (.bool c) := by simp
  have f0 := cell_later hb7 d0
  have f1 := cell_later hb7 d1
  have g0 := cell_later hb6 e0
  have g1 := cell_later hb6 e1
  have HX6 := Lib.hid hx6
  have HB6 := Lib.hid hb7
  obtain ⟨hxl, hxk⟩ := resR_few (u := s) (by omega)
  have HXK := Lib.hid hxk
  have HZERO : Hid ((resR s).2.2 = 0 → printR isK (resR s).1 (resR s).2.1 = s) := resR_zero
  clear d0 d1 e0 e1 hr6 hx6 hb6 hb7 hba hxk
  have hrr := refRead15_any s
  obtain ⟨B9, hB9⟩ : ∃ B9, B9 = w5.heap.size := ⟨_, rfl⟩
  rw [← hB9] at g0 g1 ⊢
  clear hB9
  have HRD : Hid (∀ W, Calls Try.prog 10 #[.string ⟨s.toArray⟩] W fun r w' => ∃ a cap, r = .returned (.tuple #[.agg #[.slice a (resR s).1.length cap, .bool (resR s).2.1], .int .i64 ((resR s).2.2 : Nat)]) ∧ RowAt w' a 1 strCell (resR s).1 ∧ Below W.heap.size W w') := fun W => (hrr W (by omega)).mono fun r w' h => h.res
  clear hrr
  generalize (resR s).1 = xs at *
  generalize (resR s).2.1 = xb at *
  generalize (resR s).2.2 = xe at *
  have hba := below_alloc1 w6 (.cells #[.slice ax xs.length cx, .bool xb] 26)
  have x0 : (w6.alloc (.cells #[.slice ax xs.length cx, .bool xb] 26)).cell? ⟨w6.heap.size, 0, none⟩ = some (.slice ax xs.length cx) := by simp
  have x1 : (w6.alloc (.cells #[.slice ax xs.length cx, .bool xb] 26)).cell? ⟨w6.heap.size, 1, none⟩ = some (.bool xb) := by simp
  go_wp2_with fail
  refine (HRD.out _).mono ?_
  rintro r w7 ⟨ay, cy, rfl, hy7, hb7⟩
  have hb8 := hba.trans (hb7.mono hba.size)
  have hbb := hb8.alloc hb8.size (.cells #[.slice ay xs.length cy, .bool xb] 28)
  have hbc := below_alloc1 w7 (.cells #[.slice ay xs.length cy, .bool xb] 28)
  have y0 : (w7.alloc (.cells #[.slice ay xs.length cy, .bool xb] 28)).cell? ⟨w7.heap.size, 0, none⟩ = some (.slice ay xs.length cy) := by simp
  have y1 : (w7.alloc (.cells #[.slice ay xs.length cy, .bool xb] 28)).cell? ⟨w7.heap.size, 1, none⟩ = some (.bool xb) := by simp
  have HCEL : Hid (∀ W, Below (w7.alloc (.cells #[.slice ay xs.length cy, .bool xb] 28)).heap.size (w7.alloc (.cells #[.slice ay xs.length cy, .bool xb] 28)) W → (W.cell? ⟨B7, 0, none⟩ = some (.slice a3 ks.length c3) ∧ W.cell? ⟨B7, 1, none⟩ = some (.bool c)) ∧ (W.cell? ⟨B9, 0, none⟩ = some (.slice a ks.length cap) ∧ W.cell? ⟨B9, 1, none⟩ = some (.bool c)) ∧ (W.cell? ⟨w6.heap.size, 0, none⟩ = some (.slice ax xs.length cx) ∧ W.cell? ⟨w6.heap.size, 1, none⟩ = some (.bool xb)) ∧ W.cell? ⟨w7.heap.size, 0, none⟩ = some (.slice ay xs.length cy) ∧ W.cell? ⟨w7.heap.size, 1, none⟩ = some (.bool xb)) := fun W hW =>
    have hv := hbb.trans (hW.mono hbb.size)
    ⟨⟨cell_later hv f0, cell_later hv f1⟩, ⟨cell_later hv g0, cell_later hv g1⟩, ⟨cell_later hW (cell_later hbc (cell_later hb7 x0)), cell_later hW (cell_later hbc (cell_later hb7 x1))⟩, cell_later hW y0, cell_later hW y1⟩
  have HX8 := Lib.hid (HX6.out.later hbb)
  have HY8 := Lib.hid (hy7.later hbc)
  have HBB : Hid (Below w5.heap.size w5 _) := HB6.out.trans (hbb.mono HB6.out.size)
  clear x0 x1 y0 y1 f0 f1 g0 g1 hy7 hb7 hb8 hba hbb hbc HX6 HB6 HRD
  go_wp2_with fail
  generalize w6.heap.size = Bx at *
  generalize w7.heap.size = By at *
  generalize w7.alloc (.cells #[.slice ay xs.length cy, .bool xb] 28) = W8 at *
  have hB0 : Below W8.heap.size W8 W8.drew := (Below.refl _ _).drew
  have hS0 := HCEL.out _ hB0
  have HS := HCEL
  have HRT8 : Hid (∀ W, Below W8.heap.size W8 W → Calls Try.prog 12 #[.agg #[.slice a3 ks.length c3, .bool c]] W fun r w' => r = .returned (.bool (rightR isK ks)) ∧ Below W.heap.size W w') := fun W hW => HRT5.out W (HBB.out.trans (hW.mono HBB.out.size))
  have HRP8 : Hid (∀ W, Below W8.heap.size W8 W → Calls Try.prog 11 #[.agg #[.slice a ks.length cap, .bool c]] W fun r w' => r = .returned (.string ⟨T.toArray⟩) ∧ Below W.heap.size W w') := fun W hW => HRP.out W (HBB.out.trans (hW.mono HBB.out.size))
  have HRR8 : Hid (∀ W, Below W8.heap.size W8 W → Calls Try.prog 13 #[.agg #[.slice a ks.length cap, .bool c]] W fun r w' => r = .returned (.bool (rightR isK ks)) ∧ Below W.heap.size W w') := fun W hW => HRR.out W (HBB.out.trans (hW.mono HBB.out.size))
  have HSM : Hid (∀ W, Below W8.heap.size W8 W → Calls Try.prog 14 #[.slice ax xs.length cx, .slice ay xs.length cy] W fun r w' => r = .returned (.bool true) ∧ Below W.heap.size W w') := fun W hW =>
    (sameK_any ax ay cx cy xs xs W (HX8.out.later hW) (HY8.out.later hW) (by omega) (by omega)).mono fun r w' h => ⟨by rw [h.1]; simp, h.2⟩
  have HPX : Hid (xe = 0 → ∀ W, Below W8.heap.size W8 W → Calls Try.prog 8 #[.agg #[.slice ax xs.length cx, .bool xb]] W fun r w' => r = .returned (.string ⟨s.toArray⟩) ∧ Below W.heap.size W w') := fun h W hW => by
    have := print15_any ax cx xs xb W (HX8.out.later hW) hxl HXK.out
    rw [HZERO.out h] at this
    exact this
  clear HCEL HRT5 HRP HRR HX8 HY8 HXK HZERO hxl
  generalize rightR isK ks = R at *
  by_cases hx0 : xe = 0
  case' pos =>
    have HPX0 := Lib.hid (HPX.out hx0)
    clear HPX
    have HPX := HPX0
    subst hx0
    (
      refine wp_region_held_drew (S := fun W => (W.cell? ⟨B7, 0, none⟩ = some (.slice a3 ks.length c3) ∧ W.cell? ⟨B7, 1, none⟩ = some (.bool c)) ∧ (W.cell? ⟨B9, 0, none⟩ = some (.slice a ks.length cap) ∧ W.cell? ⟨B9, 1, none⟩ = some (.bool c)) ∧ (W.cell? ⟨Bx, 0, none⟩ = some (.slice ax xs.length cx) ∧ W.cell? ⟨Bx, 1, none⟩ = some (.bool xb)) ∧ W.cell? ⟨By, 0, none⟩ = some (.slice ay xs.length cy) ∧ W.cell? ⟨By, 1, none⟩ = some (.bool xb)) (by kernel_rfl) (by with_reducible exact hS0) (fun hHeld => ?_)
      refine wpAnyH_take (i := 0) (oi := { dst := some 49, op := Op.move (Operand.tmp 8), type := 9, pos := "law.go:41", after := #[], guard := none }) (v := ?_) rfl (by kernel_rfl) (by kernel_rfl) (by kernel_rfl) (fun _ _ _ h => h) (Or.inl ⟨by kernel_rfl, ?_⟩) hHeld ?_
      rotate_left
      · intro w hSw
        try dsimp only at hSw
        go_simp
        with_reducible rfl
      try simp only [Act.put, List.setIfInBounds_toArray, List.set_cons_zero, List.set_cons_succ]
      refine wpAnyH_take (i := 1) (oi := { dst := some 50, op := Op.load 28 (Operand.tmp 9), type := 28, pos := "law.go:41", after := #[], guard := none }) (v := ?_) rfl (by kernel_rfl) (by kernel_rfl) (by kernel_rfl) (fun _ _ _ h => h) (Or.inl ⟨by kernel_rfl, ?_⟩) hHeld ?_
      rotate_left
      · intro w hSw
        try dsimp only at hSw
        go_simp
        with_reducible rfl
      try simp only [Act.put, List.setIfInBounds_toArray, List.set_cons_zero, List.set_cons_succ]
      refine wpAnyH_ready (rs := [2]) (by kernel_rfl) (by simp) ?_
      refine AllReadyH.cons (o := { dst := some 51, op := Op.call { callee := Callee.value (Operand.func 11), args := #[Operand.tmp 50], argTypes := #[28] }, type := 9, pos := "law.go:41", after := #[{ on := 1, ground := Ground.data }], guard := none }) rfl (fun K hK => ?_) AllReadyH.nil
      go_simp
      refine (HRP8.out _ hB0).mono ?_
      rintro r Wn0 ⟨rfl, hbn0⟩
      have hB1 := hB0.trans (hbn0.mono hB0.size)
      clear hB0 hbn0
      clear hHeld
      refine hK.out _ _ (HS.out _ hB1) (fun hHeld => ?_)
      clear hK K
      try simp only [Act.put, List.setIfInBounds_toArray, List.set_cons_zero, List.set_cons_succ]
      refine wpAnyH_take (i := 3) (oi := { dst := some 52, op := Op.binOp BinOp.neq 9 (Operand.tmp 49) (Operand.tmp 51) 9, type := 4, pos := "law.go:41", after := #[{ on := 0, ground := Ground.data }, { on := 2, ground := Ground.data }], guard := none }) (v := ?_) rfl (by kernel_rfl) (by kernel_rfl) (by kernel_rfl) (fun _ _ _ h => h) (Or.inl ⟨by kernel_rfl, ?_⟩) hHeld ?_
      rotate_left
      · intro w hSw
        try dsimp only at hSw
        go_simp
        with_reducible rfl
      try simp only [Act.put, List.setIfInBounds_toArray, List.set_cons_zero, List.set_cons_succ]
      refine wpAnyH_take (i := 4) (oi := { dst := some 53, op := Op.move (Operand.tmp 52), type := 4, pos := "law.go:41", after := #[{ on := 3, ground := Ground.data }, { on := 2, ground := Ground.chain }], guard := none }) (v := ?_) rfl (by kernel_rfl) (by kernel_rfl) (by kernel_rfl) (fun _ _ _ h => h) (Or.inl ⟨by kernel_rfl, ?_⟩) hHeld ?_
      rotate_left
      · intro w hSw
        try dsimp only at hSw
        go_simp
        with_reducible rfl
      try simp only [Act.put, List.setIfInBounds_toArray, List.set_cons_zero, List.set_cons_succ]
      refine wpAnyH_take (i := 5) (oi := { dst := some 54, op := Op.load 26 (Operand.tmp 7), type := 26, pos := "law.go:41", after := #[{ on := 4, ground := Ground.guard }], guard := some (4, false) }) (v := ?_) rfl (by kernel_rfl) (by kernel_rfl) (by kernel_rfl) (fun _ _ _ h => h) (Or.inl ⟨by kernel_rfl, ?_⟩) hHeld ?_
      rotate_left
      · intro w hSw
        try dsimp only at hSw
        go_simp
        with_reducible rfl
      try simp only [Act.put, List.setIfInBounds_toArray, List.set_cons_zero, List.set_cons_succ]
      refine wpAnyH_take (i := 7) (oi := { dst := some 56, op := Op.load 28 (Operand.tmp 9), type := 28, pos := "law.go:41", after := #[{ on := 4, ground := Ground.guard }], guard := some (4, false) }) (v := ?_) rfl (by kernel_rfl) (by kernel_rfl) (by kernel_rfl) (fun _ _ _ h => h) (Or.inl ⟨by kernel_rfl, ?_⟩) hHeld ?_
      rotate_left
      · intro w hSw
        try dsimp only at hSw
        go_simp
        with_reducible rfl
      try simp only [Act.put, List.setIfInBounds_toArray, List.set_cons_zero, List.set_cons_succ]
      refine wpAnyH_ready (rs := [6]) (by kernel_rfl) (by simp) ?_
      refine AllReadyH.cons (o := { dst := some 55, op := Op.call { callee := Callee.value (Operand.func 12), args := #[Operand.tmp 54], argTypes := #[26] }, type := 4, pos := "law.go:41", after := #[{ on := 5, ground := Ground.data }, { on := 4, ground := Ground.chain }, { on := 4, ground := Ground.guard }], guard := some (4, false) }) rfl (fun K hK => ?_) AllReadyH.nil
      go_simp
      refine (HRT8.out _ hB1).mono ?_
      rintro r Wn1 ⟨rfl, hbn1⟩
      have hB2 := hB1.trans (hbn1.mono hB1.size)
      clear hB1 hbn1
      clear hHeld
      refine hK.out _ _ (HS.out _ hB2) (fun hHeld => ?_)
      clear hK K
      try simp only [Act.put, List.setIfInBounds_toArray, List.set_cons_zero, List.set_cons_succ]
      refine wpAnyH_ready (rs := [8]) (by kernel_rfl) (by simp) ?_
      refine AllReadyH.cons (o := { dst := some 57, op := Op.call { callee := Callee.value (Operand.func 13), args := #[Operand.tmp 56], argTypes := #[28] }, type := 4, pos := "law.go:41", after := #[{ on := 7, ground := Ground.data }, { on := 6, ground := Ground.chain }, { on := 4, ground := Ground.guard }], guard := some (4, false) }) rfl (fun K hK => ?_) AllReadyH.nil
      go_simp
      refine (HRR8.out _ hB2).mono ?_
      rintro r Wn2 ⟨rfl, hbn2⟩
      have hB3 := hB2.trans (hbn2.mono hB2.size)
      clear hB2 hbn2
      clear hHeld
      refine hK.out _ _ (HS.out _ hB3) (fun hHeld => ?_)
      clear hK K
      try simp only [Act.put, List.setIfInBounds_toArray, List.set_cons_zero, List.set_cons_succ]
      refine wpAnyH_take (i := 9) (oi := { dst := some 58, op := Op.binOp BinOp.neq 4 (Operand.tmp 55) (Operand.tmp 57) 4, type := 4, pos := "law.go:41", after := #[{ on := 6, ground := Ground.data }, { on := 8, ground := Ground.data }, { on := 4, ground := Ground.guard }], guard := some (4, false) }) (v := ?_) rfl (by kernel_rfl) (by kernel_rfl) (by kernel_rfl) (fun _ _ _ h => h) (Or.inl ⟨by kernel_rfl, ?_⟩) hHeld ?_
      rotate_left
      · intro w hSw
        try dsimp only at hSw
        go_simp
        with_reducible rfl
      try simp only [Act.put, List.setIfInBounds_toArray, List.set_cons_zero, List.set_cons_succ]
      refine wpAnyH_take (i := 10) (oi := { dst := some 59, op := Op.pick (Operand.tmp 53) (Operand.const (Value.bool true)) (Operand.tmp 58), type := 4, pos := "law.go:41", after := #[{ on := 4, ground := Ground.data }, { on := 9, ground := Ground.data }], guard := none }) (v := ?_) rfl (by kernel_rfl) (by kernel_rfl) (by kernel_rfl) (fun _ _ _ h => h) (Or.inl ⟨by kernel_rfl, ?_⟩) hHeld ?_
      rotate_left
      · intro w hSw
        try dsimp only at hSw
        go_simp
        with_reducible rfl
      try simp only [Act.put, List.setIfInBounds_toArray, List.set_cons_zero, List.set_cons_succ]
      refine wpAnyH_take (i := 11) (oi := { dst := some 60, op := Op.move (Operand.tmp 59), type := 4, pos := "law.go:41", after := #[{ on := 10, ground := Ground.data }, { on := 8, ground := Ground.chain }], guard := none }) (v := ?_) rfl (by kernel_rfl) (by kernel_rfl) (by kernel_rfl) (fun _ _ _ h => h) (Or.inl ⟨by kernel_rfl, ?_⟩) hHeld ?_
      rotate_left
      · intro w hSw
        try dsimp only at hSw
        go_simp
        with_reducible rfl
      try simp only [Act.put, List.setIfInBounds_toArray, List.set_cons_zero, List.set_cons_succ]
      refine wpAnyH_take (i := 12) (oi := { dst := some 61, op := Op.move (Operand.tmp 11), type := 29, pos := "law.go:41", after := #[{ on := 11, ground := Ground.guard }], guard := some (11, false) }) (v := ?_) rfl (by kernel_rfl) (by kernel_rfl) (by kernel_rfl) (fun _ _ _ h => h) (Or.inl ⟨by kernel_rfl, ?_⟩) hHeld ?_
      rotate_left
      · intro w hSw
        try dsimp only at hSw
        go_simp
        with_reducible rfl
      try simp only [Act.put, List.setIfInBounds_toArray, List.set_cons_zero, List.set_cons_succ]
      refine wpAnyH_take (i := 13) (oi := { dst := some 62, op := Op.move (Operand.tmp 13), type := 3, pos := "law.go:41", after := #[{ on := 11, ground := Ground.guard }], guard := some (11, false) }) (v := ?_) rfl (by kernel_rfl) (by kernel_rfl) (by kernel_rfl) (fun _ _ _ h => h) (Or.inl ⟨by kernel_rfl, ?_⟩) hHeld ?_
      rotate_left
      · intro w hSw
        try dsimp only at hSw
        go_simp
        with_reducible rfl
      try simp only [Act.put, List.setIfInBounds_toArray, List.set_cons_zero, List.set_cons_succ]
      refine wpAnyH_take (i := 14) (oi := { dst := some 63, op := Op.binOp BinOp.neq 3 (Operand.tmp 61) (Operand.tmp 62) 3, type := 4, pos := "law.go:41", after := #[{ on := 12, ground := Ground.data }, { on := 13, ground := Ground.data }, { on := 11, ground := Ground.guard }], guard := some (11, false) }) (v := ?_) rfl (by kernel_rfl) (by kernel_rfl) (by kernel_rfl) (fun _ _ _ h => h) (Or.inl ⟨by kernel_rfl, ?_⟩) hHeld ?_
      rotate_left
      · intro w hSw
        try dsimp only at hSw
        go_simp
        with_reducible rfl
      try simp only [Act.put, List.setIfInBounds_toArray, List.set_cons_zero, List.set_cons_succ]
      refine wpAnyH_take (i := 15) (oi := { dst := some 64, op := Op.pick (Operand.tmp 60) (Operand.const (Value.bool true)) (Operand.tmp 63), type := 4, pos := "law.go:41", after := #[{ on := 11, ground := Ground.data }, { on := 14, ground := Ground.data }], guard := none }) (v := ?_) rfl (by kernel_rfl) (by kernel_rfl) (by kernel_rfl) (fun _ _ _ h => h) (Or.inl ⟨by kernel_rfl, ?_⟩) hHeld ?_
      rotate_left
      · intro w hSw
        try dsimp only at hSw
        go_simp
        with_reducible rfl
      try simp only [Act.put, List.setIfInBounds_toArray, List.set_cons_zero, List.set_cons_succ]
      refine wpAnyH_take (i := 16) (oi := { dst := some 65, op := Op.move (Operand.tmp 64), type := 4, pos := "law.go:41", after := #[{ on := 15, ground := Ground.data }, { on := 11, ground := Ground.chain }], guard := none }) (v := ?_) rfl (by kernel_rfl) (by kernel_rfl) (by kernel_rfl) (fun _ _ _ h => h) (Or.inl ⟨by kernel_rfl, ?_⟩) hHeld ?_
      rotate_left
      · intro w hSw
        try dsimp only at hSw
        go_simp
        with_reducible rfl
      try simp only [Act.put, List.setIfInBounds_toArray, List.set_cons_zero, List.set_cons_succ]
      refine wpAnyH_take (i := 17) (oi := { dst := some 66, op := Op.fieldAddr 26 (Operand.tmp 10) 0, type := 0, pos := "law.go:41", after := #[{ on := 16, ground := Ground.guard }], guard := some (16, false) }) (v := ?_) rfl (by kernel_rfl) (by kernel_rfl) (by kernel_rfl) (fun _ _ _ h => h) (Or.inl ⟨by kernel_rfl, ?_⟩) hHeld ?_
      rotate_left
      · intro w hSw
        try dsimp only at hSw
        go_simp
        with_reducible rfl
      try simp only [Act.put, List.setIfInBounds_toArray, List.set_cons_zero, List.set_cons_succ]
      refine wpAnyH_take (i := 18) (oi := { dst := some 67, op := Op.load 22 (Operand.tmp 66), type := 22, pos := "law.go:41", after := #[{ on := 17, ground := Ground.data }, { on := 16, ground := Ground.guard }], guard := some (16, false) }) (v := ?_) rfl (by kernel_rfl) (by kernel_rfl) (by kernel_rfl) (fun _ _ _ h => h) (Or.inl ⟨by kernel_rfl, ?_⟩) hHeld ?_
      rotate_left
      · intro w hSw
        try dsimp only at hSw
        go_simp
        with_reducible rfl
      try simp only [Act.put, List.setIfInBounds_toArray, List.set_cons_zero, List.set_cons_succ]
      refine wpAnyH_take (i := 19) (oi := { dst := some 68, op := Op.fieldAddr 28 (Operand.tmp 12) 0, type := 0, pos := "law.go:41", after := #[{ on := 16, ground := Ground.guard }], guard := some (16, false) }) (v := ?_) rfl (by kernel_rfl) (by kernel_rfl) (by kernel_rfl) (fun _ _ _ h => h) (Or.inl ⟨by kernel_rfl, ?_⟩) hHeld ?_
      rotate_left
      · intro w hSw
        try dsimp only at hSw
        go_simp
        with_reducible rfl
      try simp only [Act.put, List.setIfInBounds_toArray, List.set_cons_zero, List.set_cons_succ]
      refine wpAnyH_take (i := 20) (oi := { dst := some 69, op := Op.load 22 (Operand.tmp 68), type := 22, pos := "law.go:41", after := #[{ on := 19, ground := Ground.data }, { on := 16, ground := Ground.guard }], guard := some (16, false) }) (v := ?_) rfl (by kernel_rfl) (by kernel_rfl) (by kernel_rfl) (fun _ _ _ h => h) (Or.inl ⟨by kernel_rfl, ?_⟩) hHeld ?_
      rotate_left
      · intro w hSw
        try dsimp only at hSw
        go_simp
        with_reducible rfl
      try simp only [Act.put, List.setIfInBounds_toArray, List.set_cons_zero, List.set_cons_succ]
      refine wpAnyH_ready (rs := [21]) (by kernel_rfl) (by simp) ?_
      refine AllReadyH.cons (o := { dst := some 70, op := Op.call { callee := Callee.value (Operand.func 14), args := #[Operand.tmp 67, Operand.tmp 69], argTypes := #[22, 22] }, type := 4, pos := "law.go:41", after := #[{ on := 18, ground := Ground.data }, { on := 20, ground := Ground.data }, { on := 16, ground := Ground.chain }, { on := 16, ground := Ground.guard }], guard := some (16, false) }) rfl (fun K hK => ?_) AllReadyH.nil
      go_simp
      refine (HSM.out _ hB3).mono ?_
      rintro r Wn3 ⟨rfl, hbn3⟩
      have hB4 := hB3.trans (hbn3.mono hB3.size)
      clear hB3 hbn3
      clear hHeld
      refine hK.out _ _ (HS.out _ hB4) (fun hHeld => ?_)
      clear hK K
      try simp only [Act.put, List.setIfInBounds_toArray, List.set_cons_zero, List.set_cons_succ]
      refine wpAnyH_take (i := 22) (oi := { dst := some 71, op := Op.unOp UnOp.not 4 (Operand.tmp 70), type := 4, pos := "law.go:41", after := #[{ on := 21, ground := Ground.data }, { on := 16, ground := Ground.guard }], guard := some (16, false) }) (v := ?_) rfl (by kernel_rfl) (by kernel_rfl) (by kernel_rfl) (fun _ _ _ h => h) (Or.inl ⟨by kernel_rfl, ?_⟩) hHeld ?_
      rotate_left
      · intro w hSw
        try dsimp only at hSw
        go_simp
        with_reducible rfl
      try simp only [Act.put, List.setIfInBounds_toArray, List.set_cons_zero, List.set_cons_succ]
      refine wpAnyH_take (i := 23) (oi := { dst := some 72, op := Op.pick (Operand.tmp 65) (Operand.const (Value.bool true)) (Operand.tmp 71), type := 4, pos := "law.go:41", after := #[{ on := 16, ground := Ground.data }, { on := 22, ground := Ground.data }], guard := none }) (v := ?_) rfl (by kernel_rfl) (by kernel_rfl) (by kernel_rfl) (fun _ _ _ h => h) (Or.inl ⟨by kernel_rfl, ?_⟩) hHeld ?_
      rotate_left
      · intro w hSw
        try dsimp only at hSw
        go_simp
        with_reducible rfl
      try simp only [Act.put, List.setIfInBounds_toArray, List.set_cons_zero, List.set_cons_succ]
      refine wpAnyH_take (i := 24) (oi := { dst := some 73, op := Op.move (Operand.tmp 72), type := 4, pos := "law.go:41", after := #[{ on := 23, ground := Ground.data }, { on := 21, ground := Ground.chain }], guard := none }) (v := ?_) rfl (by kernel_rfl) (by kernel_rfl) (by kernel_rfl) (fun _ _ _ h => h) (Or.inl ⟨by kernel_rfl, ?_⟩) hHeld ?_
      rotate_left
      · intro w hSw
        try dsimp only at hSw
        go_simp
        with_reducible rfl
      try simp only [Act.put, List.setIfInBounds_toArray, List.set_cons_zero, List.set_cons_succ]
      refine wpAnyH_take (i := 25) (oi := { dst := some 74, op := Op.fieldAddr 26 (Operand.tmp 10) 1, type := 0, pos := "law.go:41", after := #[{ on := 24, ground := Ground.guard }], guard := some (24, false) }) (v := ?_) rfl (by kernel_rfl) (by kernel_rfl) (by kernel_rfl) (fun _ _ _ h => h) (Or.inl ⟨by kernel_rfl, ?_⟩) hHeld ?_
      rotate_left
      · intro w hSw
        try dsimp only at hSw
        go_simp
        with_reducible rfl
      try simp only [Act.put, List.setIfInBounds_toArray, List.set_cons_zero, List.set_cons_succ]
      refine wpAnyH_take (i := 26) (oi := { dst := some 75, op := Op.load 4 (Operand.tmp 74), type := 4, pos := "law.go:41", after := #[{ on := 25, ground := Ground.data }, { on := 24, ground := Ground.guard }], guard := some (24, false) }) (v := ?_) rfl (by kernel_rfl) (by kernel_rfl) (by kernel_rfl) (fun _ _ _ h => h) (Or.inl ⟨by kernel_rfl, ?_⟩) hHeld ?_
      rotate_left
      · intro w hSw
        try dsimp only at hSw
        go_simp
        with_reducible rfl
      try simp only [Act.put, List.setIfInBounds_toArray, List.set_cons_zero, List.set_cons_succ]
      refine wpAnyH_take (i := 27) (oi := { dst := some 76, op := Op.fieldAddr 28 (Operand.tmp 12) 1, type := 0, pos := "law.go:41", after := #[{ on := 24, ground := Ground.guard }], guard := some (24, false) }) (v := ?_) rfl (by kernel_rfl) (by kernel_rfl) (by kernel_rfl) (fun _ _ _ h => h) (Or.inl ⟨by kernel_rfl, ?_⟩) hHeld ?_
      rotate_left
      · intro w hSw
        try dsimp only at hSw
        go_simp
        with_reducible rfl
      try simp only [Act.put, List.setIfInBounds_toArray, List.set_cons_zero, List.set_cons_succ]
      refine wpAnyH_take (i := 28) (oi := { dst := some 77, op := Op.load 4 (Operand.tmp 76), type := 4, pos := "law.go:41", after := #[{ on := 27, ground := Ground.data }, { on := 24, ground := Ground.guard }], guard := some (24, false) }) (v := ?_) rfl (by kernel_rfl) (by kernel_rfl) (by kernel_rfl) (fun _ _ _ h => h) (Or.inl ⟨by kernel_rfl, ?_⟩) hHeld ?_
      rotate_left
      · intro w hSw
        try dsimp only at hSw
        go_simp
        with_reducible rfl
      try simp only [Act.put, List.setIfInBounds_toArray, List.set_cons_zero, List.set_cons_succ]
      refine wpAnyH_take (i := 29) (oi := { dst := some 78, op := Op.binOp BinOp.neq 4 (Operand.tmp 75) (Operand.tmp 77) 4, type := 4, pos := "law.go:41", after := #[{ on := 26, ground := Ground.data }, { on := 28, ground := Ground.data }, { on := 24, ground := Ground.guard }], guard := some (24, false) }) (v := ?_) rfl (by kernel_rfl) (by kernel_rfl) (by kernel_rfl) (fun _ _ _ h => h) (Or.inl ⟨by kernel_rfl, ?_⟩) hHeld ?_
      rotate_left
      · intro w hSw
        try dsimp only at hSw
        go_simp
        with_reducible rfl
      try simp only [Act.put, List.setIfInBounds_toArray, List.set_cons_zero, List.set_cons_succ]
      refine wpAnyH_take (i := 30) (oi := { dst := some 79, op := Op.pick (Operand.tmp 73) (Operand.const (Value.bool true)) (Operand.tmp 78), type := 4, pos := "law.go:41", after := #[{ on := 24, ground := Ground.data }, { on := 29, ground := Ground.data }], guard := none }) (v := ?_) rfl (by kernel_rfl) (by kernel_rfl) (by kernel_rfl) (fun _ _ _ h => h) (Or.inl ⟨by kernel_rfl, ?_⟩) hHeld ?_
      rotate_left
      · intro w hSw
        try dsimp only at hSw
        go_simp
        with_reducible rfl
      try simp only [Act.put, List.setIfInBounds_toArray, List.set_cons_zero, List.set_cons_succ]
      refine wpAnyH_take (i := 31) (oi := { dst := some 80, op := Op.move (Operand.tmp 79), type := 4, pos := "law.go:41", after := #[{ on := 30, ground := Ground.data }, { on := 24, ground := Ground.chain }], guard := none }) (v := ?_) rfl (by kernel_rfl) (by kernel_rfl) (by kernel_rfl) (fun _ _ _ h => h) (Or.inl ⟨by kernel_rfl, ?_⟩) hHeld ?_
      rotate_left
      · intro w hSw
        try dsimp only at hSw
        go_simp
        with_reducible rfl
      try simp only [Act.put, List.setIfInBounds_toArray, List.set_cons_zero, List.set_cons_succ]
      refine wpAnyH_take (i := 32) (oi := { dst := some 81, op := Op.move (Operand.tmp 13), type := 3, pos := "law.go:41", after := #[{ on := 31, ground := Ground.guard }], guard := some (31, false) }) (v := ?_) rfl (by kernel_rfl) (by kernel_rfl) (by kernel_rfl) (fun _ _ _ h => h) (Or.inl ⟨by kernel_rfl, ?_⟩) hHeld ?_
      rotate_left
      · intro w hSw
        try dsimp only at hSw
        go_simp
        with_reducible rfl
      try simp only [Act.put, List.setIfInBounds_toArray, List.set_cons_zero, List.set_cons_succ]
      refine wpAnyH_take (i := 33) (oi := { dst := some 82, op := Op.binOp BinOp.eql 3 (Operand.tmp 81) (Operand.const (Value.int IntKind.i64 0)) 3, type := 4, pos := "law.go:41", after := #[{ on := 32, ground := Ground.data }, { on := 31, ground := Ground.guard }], guard := some (31, false) }) (v := ?_) rfl (by kernel_rfl) (by kernel_rfl) (by kernel_rfl) (fun _ _ _ h => h) (Or.inl ⟨by kernel_rfl, ?_⟩) hHeld ?_
      rotate_left
      · intro w hSw
        try dsimp only at hSw
        go_simp
        with_reducible rfl
      try simp only [Act.put, List.setIfInBounds_toArray, List.set_cons_zero, List.set_cons_succ]
      refine wpAnyH_take (i := 34) (oi := { dst := some 83, op := Op.move (Operand.tmp 82), type := 4, pos := "law.go:41", after := #[{ on := 33, ground := Ground.data }, { on := 31, ground := Ground.chain }, { on := 31, ground := Ground.guard }], guard := some (31, false) }) (v := ?_) rfl (by kernel_rfl) (by kernel_rfl) (by kernel_rfl) (fun _ _ _ h => h) (Or.inl ⟨by kernel_rfl, ?_⟩) hHeld ?_
      rotate_left
      · intro w hSw
        try dsimp only at hSw
        go_simp
        with_reducible rfl
      try simp only [Act.put, List.setIfInBounds_toArray, List.set_cons_zero, List.set_cons_succ]
      refine wpAnyH_take (i := 35) (oi := { dst := some 84, op := Op.load 26 (Operand.tmp 10), type := 26, pos := "law.go:41", after := #[{ on := 34, ground := Ground.guard }], guard := some (34, true) }) (v := ?_) rfl (by kernel_rfl) (by kernel_rfl) (by kernel_rfl) (fun _ _ _ h => h) (Or.inl ⟨by kernel_rfl, ?_⟩) hHeld ?_
      rotate_left
      · intro w hSw
        try dsimp only at hSw
        go_simp
        with_reducible rfl
      try simp only [Act.put, List.setIfInBounds_toArray, List.set_cons_zero, List.set_cons_succ]
      refine wpAnyH_take (i := 37) (oi := { dst := some 86, op := Op.move (Operand.tmp 2), type := 9, pos := "law.go:41", after := #[{ on := 34, ground := Ground.guard }], guard := some (34, true) }) (v := ?_) rfl (by kernel_rfl) (by kernel_rfl) (by kernel_rfl) (fun _ _ _ h => h) (Or.inl ⟨by kernel_rfl, ?_⟩) hHeld ?_
      rotate_left
      · intro w hSw
        try dsimp only at hSw
        go_simp
        with_reducible rfl
      try simp only [Act.put, List.setIfInBounds_toArray, List.set_cons_zero, List.set_cons_succ]
      refine wpAnyH_ready (rs := [36]) (by kernel_rfl) (by simp) ?_
      refine AllReadyH.cons (o := { dst := some 85, op := Op.call { callee := Callee.value (Operand.func 8), args := #[Operand.tmp 84], argTypes := #[26] }, type := 9, pos := "law.go:41", after := #[{ on := 35, ground := Ground.data }, { on := 34, ground := Ground.chain }, { on := 34, ground := Ground.guard }], guard := some (34, true) }) rfl (fun K hK => ?_) AllReadyH.nil
      go_simp
      refine (HPX.out _ hB4).mono ?_
      rintro r Wn4 ⟨rfl, hbn4⟩
      have hB5 := hB4.trans (hbn4.mono hB4.size)
      clear hB4 hbn4
      clear hHeld
      refine hK.out _ _ (HS.out _ hB5) (fun hHeld => ?_)
      clear hK K
      try simp only [Act.put, List.setIfInBounds_toArray, List.set_cons_zero, List.set_cons_succ]
      refine wpAnyH_take (i := 38) (oi := { dst := some 87, op := Op.binOp BinOp.neq 9 (Operand.tmp 85) (Operand.tmp 86) 9, type := 4, pos := "law.go:41", after := #[{ on := 36, ground := Ground.data }, { on := 37, ground := Ground.data }, { on := 34, ground := Ground.guard }], guard := some (34, true) }) (v := ?_) rfl (by kernel_rfl) (by kernel_rfl) (by kernel_rfl) (fun _ _ _ h => h) (Or.inl ⟨by kernel_rfl, ?_⟩) hHeld ?_
      rotate_left
      · intro w hSw
        try dsimp only at hSw
        go_simp
        with_reducible rfl
      try simp only [Act.put, List.setIfInBounds_toArray, List.set_cons_zero, List.set_cons_succ]
      refine wpAnyH_take (i := 39) (oi := { dst := some 88, op := Op.pick (Operand.tmp 83) (Operand.tmp 87) (Operand.const (Value.bool false)), type := 4, pos := "law.go:41", after := #[{ on := 34, ground := Ground.data }, { on := 38, ground := Ground.data }, { on := 31, ground := Ground.guard }], guard := some (31, false) }) (v := ?_) rfl (by kernel_rfl) (by kernel_rfl) (by kernel_rfl) (fun _ _ _ h => h) (Or.inl ⟨by kernel_rfl, ?_⟩) hHeld ?_
      rotate_left
      · intro w hSw
        try dsimp only at hSw
        go_simp
        with_reducible rfl
      try simp only [Act.put, List.setIfInBounds_toArray, List.set_cons_zero, List.set_cons_succ]
      refine wpAnyH_take (i := 40) (oi := { dst := some 89, op := Op.pick (Operand.tmp 80) (Operand.const (Value.bool true)) (Operand.tmp 88), type := 4, pos := "law.go:41", after := #[{ on := 31, ground := Ground.data }, { on := 39, ground := Ground.data }], guard := none }) (v := ?_) rfl (by kernel_rfl) (by kernel_rfl) (by kernel_rfl) (fun _ _ _ h => h) (Or.inl ⟨by kernel_rfl, ?_⟩) hHeld ?_
      rotate_left
      · intro w hSw
        try dsimp only at hSw
        go_simp
        with_reducible rfl
      try simp only [Act.put, List.setIfInBounds_toArray, List.set_cons_zero, List.set_cons_succ]
      refine wpAnyH_done (by kernel_rfl) ?_ _
    )
    have HBZ := Lib.hid hB5
    clear hHeld
  case' neg =>
    have hxz : ((xe : Int) == 0) = false := by rw [beq_eq_false_iff_ne]; omega
    clear HPX hx0
    (
      refine wp_region_held_drew (S := fun W => (W.cell? ⟨B7, 0, none⟩ = some (.slice a3 ks.length c3) ∧ W.cell? ⟨B7, 1, none⟩ = some (.bool c)) ∧ (W.cell? ⟨B9, 0, none⟩ = some (.slice a ks.length cap) ∧ W.cell? ⟨B9, 1, none⟩ = some (.bool c)) ∧ (W.cell? ⟨Bx, 0, none⟩ = some (.slice ax xs.length cx) ∧ W.cell? ⟨Bx, 1, none⟩ = some (.bool xb)) ∧ W.cell? ⟨By, 0, none⟩ = some (.slice ay xs.length cy) ∧ W.cell? ⟨By, 1, none⟩ = some (.bool xb)) (by kernel_rfl) (by with_reducible exact hS0) (fun hHeld => ?_)
      refine wpAnyH_take (i := 0) (oi := { dst := some 49, op := Op.move (Operand.tmp 8), type := 9, pos := "law.go:41", after := #[], guard := none }) (v := ?_) rfl (by kernel_rfl) (by kernel_rfl) (by kernel_rfl) (fun _ _ _ h => h) (Or.inl ⟨by kernel_rfl, ?_⟩) hHeld ?_
      rotate_left
      · intro w hSw
        try dsimp only at hSw
        go_simp
        with_reducible rfl
      try simp only [Act.put, List.setIfInBounds_toArray, List.set_cons_zero, List.set_cons_succ]
      refine wpAnyH_take (i := 1) (oi := { dst := some 50, op := Op.load 28 (Operand.tmp 9), type := 28, pos := "law.go:41", after := #[], guard := none }) (v := ?_) rfl (by kernel_rfl) (by kernel_rfl) (by kernel_rfl) (fun _ _ _ h => h) (Or.inl ⟨by kernel_rfl, ?_⟩) hHeld ?_
      rotate_left
      · intro w hSw
        try dsimp only at hSw
        go_simp
        with_reducible rfl
      try simp only [Act.put, List.setIfInBounds_toArray, List.set_cons_zero, List.set_cons_succ]
      refine wpAnyH_ready (rs := [2]) (by kernel_rfl) (by simp) ?_
      refine AllReadyH.cons (o := { dst := some 51, op := Op.call { callee := Callee.value (Operand.func 11), args := #[Operand.tmp 50], argTypes := #[28] }, type := 9, pos := "law.go:41", after := #[{ on := 1, ground := Ground.data }], guard := none }) rfl (fun K hK => ?_) AllReadyH.nil
      go_simp
      refine (HRP8.out _ hB0).mono ?_
      rintro r Wn0 ⟨rfl, hbn0⟩
      have hB1 := hB0.trans (hbn0.mono hB0.size)
      clear hB0 hbn0
      clear hHeld
      refine hK.out _ _ (HS.out _ hB1) (fun hHeld => ?_)
      clear hK K
      try simp only [Act.put, List.setIfInBounds_toArray, List.set_cons_zero, List.set_cons_succ]
      refine wpAnyH_take (i := 3) (oi := { dst := some 52, op := Op.binOp BinOp.neq 9 (Operand.tmp 49) (Operand.tmp 51) 9, type := 4, pos := "law.go:41", after := #[{ on := 0, ground := Ground.data }, { on := 2, ground := Ground.data }], guard := none }) (v := ?_) rfl (by kernel_rfl) (by kernel_rfl) (by kernel_rfl) (fun _ _ _ h => h) (Or.inl ⟨by kernel_rfl, ?_⟩) hHeld ?_
      rotate_left
      · intro w hSw
        try dsimp only at hSw
        go_simp
        with_reducible rfl
      try simp only [Act.put, List.setIfInBounds_toArray, List.set_cons_zero, List.set_cons_succ]
      refine wpAnyH_take (i := 4) (oi := { dst := some 53, op := Op.move (Operand.tmp 52), type := 4, pos := "law.go:41", after := #[{ on := 3, ground := Ground.data }, { on := 2, ground := Ground.chain }], guard := none }) (v := ?_) rfl (by kernel_rfl) (by kernel_rfl) (by kernel_rfl) (fun _ _ _ h => h) (Or.inl ⟨by kernel_rfl, ?_⟩) hHeld ?_
      rotate_left
      · intro w hSw
        try dsimp only at hSw
        go_simp
        with_reducible rfl
      try simp only [Act.put, List.setIfInBounds_toArray, List.set_cons_zero, List.set_cons_succ]
      refine wpAnyH_take (i := 5) (oi := { dst := some 54, op := Op.load 26 (Operand.tmp 7), type := 26, pos := "law.go:41", after := #[{ on := 4, ground := Ground.guard }], guard := some (4, false) }) (v := ?_) rfl (by kernel_rfl) (by kernel_rfl) (by kernel_rfl) (fun _ _ _ h => h) (Or.inl ⟨by kernel_rfl, ?_⟩) hHeld ?_
      rotate_left
      · intro w hSw
        try dsimp only at hSw
        go_simp
        with_reducible rfl
      try simp only [Act.put, List.setIfInBounds_toArray, List.set_cons_zero, List.set_cons_succ]
      refine wpAnyH_take (i := 7) (oi := { dst := some 56, op := Op.load 28 (Operand.tmp 9), type := 28, pos := "law.go:41", after := #[{ on := 4, ground := Ground.guard }], guard := some (4, false) }) (v := ?_) rfl (by kernel_rfl) (by kernel_rfl) (by kernel_rfl) (fun _ _ _ h => h) (Or.inl ⟨by kernel_rfl, ?_⟩) hHeld ?_
      rotate_left
      · intro w hSw
        try dsimp only at hSw
        go_simp
        with_reducible rfl
      try simp only [Act.put, List.setIfInBounds_toArray, List.set_cons_zero, List.set_cons_succ]
      refine wpAnyH_ready (rs := [6]) (by kernel_rfl) (by simp) ?_
      refine AllReadyH.cons (o := { dst := some 55, op := Op.call { callee := Callee.value (Operand.func 12), args := #[Operand.tmp 54], argTypes := #[26] }, type := 4, pos := "law.go:41", after := #[{ on := 5, ground := Ground.data }, { on := 4, ground := Ground.chain }, { on := 4, ground := Ground.guard }], guard := some (4, false) }) rfl (fun K hK => ?_) AllReadyH.nil
      go_simp
      refine (HRT8.out _ hB1).mono ?_
      rintro r Wn1 ⟨rfl, hbn1⟩
      have hB2 := hB1.trans (hbn1.mono hB1.size)
      clear hB1 hbn1
      clear hHeld
      refine hK.out _ _ (HS.out _ hB2) (fun hHeld => ?_)
      clear hK K
      try simp only [Act.put, List.setIfInBounds_toArray, List.set_cons_zero, List.set_cons_succ]
      refine wpAnyH_ready (rs := [8]) (by kernel_rfl) (by simp) ?_
      refine AllReadyH.cons (o := { dst := some 57, op := Op.call { callee := Callee.value (Operand.func 13), args := #[Operand.tmp 56], argTypes := #[28] }, type := 4, pos := "law.go:41", after := #[{ on := 7, ground := Ground.data }, { on := 6, ground := Ground.chain }, { on := 4, ground := Ground.guard }], guard := some (4, false) }) rfl (fun K hK => ?_) AllReadyH.nil
      go_simp
      refine (HRR8.out _ hB2).mono ?_
      rintro r Wn2 ⟨rfl, hbn2⟩
      have hB3 := hB2.trans (hbn2.mono hB2.size)
      clear hB2 hbn2
      clear hHeld
      refine hK.out _ _ (HS.out _ hB3) (fun hHeld => ?_)
      clear hK K
      try simp only [Act.put, List.setIfInBounds_toArray, List.set_cons_zero, List.set_cons_succ]
      refine wpAnyH_take (i := 9) (oi := { dst := some 58, op := Op.binOp BinOp.neq 4 (Operand.tmp 55) (Operand.tmp 57) 4, type := 4, pos := "law.go:41", after := #[{ on := 6, ground := Ground.data }, { on := 8, ground := Ground.data }, { on := 4, ground := Ground.guard }], guard := some (4, false) }) (v := ?_) rfl (by kernel_rfl) (by kernel_rfl) (by kernel_rfl) (fun _ _ _ h => h) (Or.inl ⟨by kernel_rfl, ?_⟩) hHeld ?_
      rotate_left
      · intro w hSw
        try dsimp only at hSw
        go_simp
        with_reducible rfl
      try simp only [Act.put, List.setIfInBounds_toArray, List.set_cons_zero, List.set_cons_succ]
      refine wpAnyH_take (i := 10) (oi := { dst := some 59, op := Op.pick (Operand.tmp 53) (Operand.const (Value.bool true)) (Operand.tmp 58), type := 4, pos := "law.go:41", after := #[{ on := 4, ground := Ground.data }, { on := 9, ground := Ground.data }], guard := none }) (v := ?_) rfl (by kernel_rfl) (by kernel_rfl) (by kernel_rfl) (fun _ _ _ h => h) (Or.inl ⟨by kernel_rfl, ?_⟩) hHeld ?_
      rotate_left
      · intro w hSw
        try dsimp only at hSw
        go_simp
        with_reducible rfl
      try simp only [Act.put, List.setIfInBounds_toArray, List.set_cons_zero, List.set_cons_succ]
      refine wpAnyH_take (i := 11) (oi := { dst := some 60, op := Op.move (Operand.tmp 59), type := 4, pos := "law.go:41", after := #[{ on := 10, ground := Ground.data }, { on := 8, ground := Ground.chain }], guard := none }) (v := ?_) rfl (by kernel_rfl) (by kernel_rfl) (by kernel_rfl) (fun _ _ _ h => h) (Or.inl ⟨by kernel_rfl, ?_⟩) hHeld ?_
      rotate_left
      · intro w hSw
        try dsimp only at hSw
        go_simp
        with_reducible rfl
      try simp only [Act.put, List.setIfInBounds_toArray, List.set_cons_zero, List.set_cons_succ]
      refine wpAnyH_take (i := 12) (oi := { dst := some 61, op := Op.move (Operand.tmp 11), type := 29, pos := "law.go:41", after := #[{ on := 11, ground := Ground.guard }], guard := some (11, false) }) (v := ?_) rfl (by kernel_rfl) (by kernel_rfl) (by kernel_rfl) (fun _ _ _ h => h) (Or.inl ⟨by kernel_rfl, ?_⟩) hHeld ?_
      rotate_left
      · intro w hSw
        try dsimp only at hSw
        go_simp
        with_reducible rfl
      try simp only [Act.put, List.setIfInBounds_toArray, List.set_cons_zero, List.set_cons_succ]
      refine wpAnyH_take (i := 13) (oi := { dst := some 62, op := Op.move (Operand.tmp 13), type := 3, pos := "law.go:41", after := #[{ on := 11, ground := Ground.guard }], guard := some (11, false) }) (v := ?_) rfl (by kernel_rfl) (by kernel_rfl) (by kernel_rfl) (fun _ _ _ h => h) (Or.inl ⟨by kernel_rfl, ?_⟩) hHeld ?_
      rotate_left
      · intro w hSw
        try dsimp only at hSw
        go_simp
        with_reducible rfl
      try simp only [Act.put, List.setIfInBounds_toArray, List.set_cons_zero, List.set_cons_succ]
      refine wpAnyH_take (i := 14) (oi := { dst := some 63, op := Op.binOp BinOp.neq 3 (Operand.tmp 61) (Operand.tmp 62) 3, type := 4, pos := "law.go:41", after := #[{ on := 12, ground := Ground.data }, { on := 13, ground := Ground.data }, { on := 11, ground := Ground.guard }], guard := some (11, false) }) (v := ?_) rfl (by kernel_rfl) (by kernel_rfl) (by kernel_rfl) (fun _ _ _ h => h) (Or.inl ⟨by kernel_rfl, ?_⟩) hHeld ?_
      rotate_left
      · intro w hSw
        try dsimp only at hSw
        go_simp
        with_reducible rfl
      try simp only [Act.put, List.setIfInBounds_toArray, List.set_cons_zero, List.set_cons_succ]
      refine wpAnyH_take (i := 15) (oi := { dst := some 64, op := Op.pick (Operand.tmp 60) (Operand.const (Value.bool true)) (Operand.tmp 63), type := 4, pos := "law.go:41", after := #[{ on := 11, ground := Ground.data }, { on := 14, ground := Ground.data }], guard := none }) (v := ?_) rfl (by kernel_rfl) (by kernel_rfl) (by kernel_rfl) (fun _ _ _ h => h) (Or.inl ⟨by kernel_rfl, ?_⟩) hHeld ?_
      rotate_left
      · intro w hSw
        try dsimp only at hSw
        go_simp
        with_reducible rfl
      try simp only [Act.put, List.setIfInBounds_toArray, List.set_cons_zero, List.set_cons_succ]
      refine wpAnyH_take (i := 16) (oi := { dst := some 65, op := Op.move (Operand.tmp 64), type := 4, pos := "law.go:41", after := #[{ on := 15, ground := Ground.data }, { on := 11, ground := Ground.chain }], guard := none }) (v := ?_) rfl (by kernel_rfl) (by kernel_rfl) (by kernel_rfl) (fun _ _ _ h => h) (Or.inl ⟨by kernel_rfl, ?_⟩) hHeld ?_
      rotate_left
      · intro w hSw
        try dsimp only at hSw
        go_simp
        with_reducible rfl
      try simp only [Act.put, List.setIfInBounds_toArray, List.set_cons_zero, List.set_cons_succ]
      refine wpAnyH_take (i := 17) (oi := { dst := some 66, op := Op.fieldAddr 26 (Operand.tmp 10) 0, type := 0, pos := "law.go:41", after := #[{ on := 16, ground := Ground.guard }], guard := some (16, false) }) (v := ?_) rfl (by kernel_rfl) (by kernel_rfl) (by kernel_rfl) (fun _ _ _ h => h) (Or.inl ⟨by kernel_rfl, ?_⟩) hHeld ?_
      rotate_left
      · intro w hSw
        try dsimp only at hSw
        go_simp
        with_reducible rfl
      try simp only [Act.put, List.setIfInBounds_toArray, List.set_cons_zero, List.set_cons_succ]
      refine wpAnyH_take (i := 18) (oi := { dst := some 67, op := Op.load 22 (Operand.tmp 66), type := 22, pos := "law.go:41", after := #[{ on := 17, ground := Ground.data }, { on := 16, ground := Ground.guard }], guard := some (16, false) }) (v := ?_) rfl (by kernel_rfl) (by kernel_rfl) (by kernel_rfl) (fun _ _ _ h => h) (Or.inl ⟨by kernel_rfl, ?_⟩) hHeld ?_
      rotate_left
      · intro w hSw
        try dsimp only at hSw
        go_simp
        with_reducible rfl
      try simp only [Act.put, List.setIfInBounds_toArray, List.set_cons_zero, List.set_cons_succ]
      refine wpAnyH_take (i := 19) (oi := { dst := some 68, op := Op.fieldAddr 28 (Operand.tmp 12) 0, type := 0, pos := "law.go:41", after := #[{ on := 16, ground := Ground.guard }], guard := some (16, false) }) (v := ?_) rfl (by kernel_rfl) (by kernel_rfl) (by kernel_rfl) (fun _ _ _ h => h) (Or.inl ⟨by kernel_rfl, ?_⟩) hHeld ?_
      rotate_left
      · intro w hSw
        try dsimp only at hSw
        go_simp
        with_reducible rfl
      try simp only [Act.put, List.setIfInBounds_toArray, List.set_cons_zero, List.set_cons_succ]
      refine wpAnyH_take (i := 20) (oi := { dst := some 69, op := Op.load 22 (Operand.tmp 68), type := 22, pos := "law.go:41", after := #[{ on := 19, ground := Ground.data }, { on := 16, ground := Ground.guard }], guard := some (16, false) }) (v := ?_) rfl (by kernel_rfl) (by kernel_rfl) (by kernel_rfl) (fun _ _ _ h => h) (Or.inl ⟨by kernel_rfl, ?_⟩) hHeld ?_
      rotate_left
      · intro w hSw
        try dsimp only at hSw
        go_simp
        with_reducible rfl
      try simp only [Act.put, List.setIfInBounds_toArray, List.set_cons_zero, List.set_cons_succ]
      refine wpAnyH_ready (rs := [21]) (by kernel_rfl) (by simp) ?_
      refine AllReadyH.cons (o := { dst := some 70, op := Op.call { callee := Callee.value (Operand.func 14), args := #[Operand.tmp 67, Operand.tmp 69], argTypes := #[22, 22] }, type := 4, pos := "law.go:41", after := #[{ on := 18, ground := Ground.data }, { on := 20, ground := Ground.data }, { on := 16, ground := Ground.chain }, { on := 16, ground := Ground.guard }], guard := some (16, false) }) rfl (fun K hK => ?_) AllReadyH.nil
      go_simp
      refine (HSM.out _ hB3).mono ?_
      rintro r Wn3 ⟨rfl, hbn3⟩
      have hB4 := hB3.trans (hbn3.mono hB3.size)
      clear hB3 hbn3
      clear hHeld
      refine hK.out _ _ (HS.out _ hB4) (fun hHeld => ?_)
      clear hK K
      try simp only [Act.put, List.setIfInBounds_toArray, List.set_cons_zero, List.set_cons_succ]
      refine wpAnyH_take (i := 22) (oi := { dst := some 71, op := Op.unOp UnOp.not 4 (Operand.tmp 70), type := 4, pos := "law.go:41", after := #[{ on := 21, ground := Ground.data }, { on := 16, ground := Ground.guard }], guard := some (16, false) }) (v := ?_) rfl (by kernel_rfl) (by kernel_rfl) (by kernel_rfl) (fun _ _ _ h => h) (Or.inl ⟨by kernel_rfl, ?_⟩) hHeld ?_
      rotate_left
      · intro w hSw
        try dsimp only at hSw
        go_simp
        with_reducible rfl
      try simp only [Act.put, List.setIfInBounds_toArray, List.set_cons_zero, List.set_cons_succ]
      refine wpAnyH_take (i := 23) (oi := { dst := some 72, op := Op.pick (Operand.tmp 65) (Operand.const (Value.bool true)) (Operand.tmp 71), type := 4, pos := "law.go:41", after := #[{ on := 16, ground := Ground.data }, { on := 22, ground := Ground.data }], guard := none }) (v := ?_) rfl (by kernel_rfl) (by kernel_rfl) (by kernel_rfl) (fun _ _ _ h => h) (Or.inl ⟨by kernel_rfl, ?_⟩) hHeld ?_
      rotate_left
      · intro w hSw
        try dsimp only at hSw
        go_simp
        with_reducible rfl
      try simp only [Act.put, List.setIfInBounds_toArray, List.set_cons_zero, List.set_cons_succ]
      refine wpAnyH_take (i := 24) (oi := { dst := some 73, op := Op.move (Operand.tmp 72), type := 4, pos := "law.go:41", after := #[{ on := 23, ground := Ground.data }, { on := 21, ground := Ground.chain }], guard := none }) (v := ?_) rfl (by kernel_rfl) (by kernel_rfl) (by kernel_rfl) (fun _ _ _ h => h) (Or.inl ⟨by kernel_rfl, ?_⟩) hHeld ?_
      rotate_left
      · intro w hSw
        try dsimp only at hSw
        go_simp
        with_reducible rfl
      try simp only [Act.put, List.setIfInBounds_toArray, List.set_cons_zero, List.set_cons_succ]
      refine wpAnyH_take (i := 25) (oi := { dst := some 74, op := Op.fieldAddr 26 (Operand.tmp 10) 1, type := 0, pos := "law.go:41", after := #[{ on := 24, ground := Ground.guard }], guard := some (24, false) }) (v := ?_) rfl (by kernel_rfl) (by kernel_rfl) (by kernel_rfl) (fun _ _ _ h => h) (Or.inl ⟨by kernel_rfl, ?_⟩) hHeld ?_
      rotate_left
      · intro w hSw
        try dsimp only at hSw
        go_simp
        with_reducible rfl
      try simp only [Act.put, List.setIfInBounds_toArray, List.set_cons_zero, List.set_cons_succ]
      refine wpAnyH_take (i := 26) (oi := { dst := some 75, op := Op.load 4 (Operand.tmp 74), type := 4, pos := "law.go:41", after := #[{ on := 25, ground := Ground.data }, { on := 24, ground := Ground.guard }], guard := some (24, false) }) (v := ?_) rfl (by kernel_rfl) (by kernel_rfl) (by kernel_rfl) (fun _ _ _ h => h) (Or.inl ⟨by kernel_rfl, ?_⟩) hHeld ?_
      rotate_left
      · intro w hSw
        try dsimp only at hSw
        go_simp
        with_reducible rfl
      try simp only [Act.put, List.setIfInBounds_toArray, List.set_cons_zero, List.set_cons_succ]
      refine wpAnyH_take (i := 27) (oi := { dst := some 76, op := Op.fieldAddr 28 (Operand.tmp 12) 1, type := 0, pos := "law.go:41", after := #[{ on := 24, ground := Ground.guard }], guard := some (24, false) }) (v := ?_) rfl (by kernel_rfl) (by kernel_rfl) (by kernel_rfl) (fun _ _ _ h => h) (Or.inl ⟨by kernel_rfl, ?_⟩) hHeld ?_
      rotate_left
      · intro w hSw
        try dsimp only at hSw
        go_simp
        with_reducible rfl
      try simp only [Act.put, List.setIfInBounds_toArray, List.set_cons_zero, List.set_cons_succ]
      refine wpAnyH_take (i := 28) (oi := { dst := some 77, op := Op.load 4 (Operand.tmp 76), type := 4, pos := "law.go:41", after := #[{ on := 27, ground := Ground.data }, { on := 24, ground := Ground.guard }], guard := some (24, false) }) (v := ?_) rfl (by kernel_rfl) (by kernel_rfl) (by kernel_rfl) (fun _ _ _ h => h) (Or.inl ⟨by kernel_rfl, ?_⟩) hHeld ?_
      rotate_left
      · intro w hSw
        try dsimp only at hSw
        go_simp
        with_reducible rfl
      try simp only [Act.put, List.setIfInBounds_toArray, List.set_cons_zero, List.set_cons_succ]
      refine wpAnyH_take (i := 29) (oi := { dst := some 78, op := Op.binOp BinOp.neq 4 (Operand.tmp 75) (Operand.tmp 77) 4, type := 4, pos := "law.go:41", after := #[{ on := 26, ground := Ground.data }, { on := 28, ground := Ground.data }, { on := 24, ground := Ground.guard }], guard := some (24, false) }) (v := ?_) rfl (by kernel_rfl) (by kernel_rfl) (by kernel_rfl) (fun _ _ _ h => h) (Or.inl ⟨by kernel_rfl, ?_⟩) hHeld ?_
      rotate_left
      · intro w hSw
        try dsimp only at hSw
        go_simp
        with_reducible rfl
      try simp only [Act.put, List.setIfInBounds_toArray, List.set_cons_zero, List.set_cons_succ]
      refine wpAnyH_take (i := 30) (oi := { dst := some 79, op := Op.pick (Operand.tmp 73) (Operand.const (Value.bool true)) (Operand.tmp 78), type := 4, pos := "law.go:41", after := #[{ on := 24, ground := Ground.data }, { on := 29, ground := Ground.data }], guard := none }) (v := ?_) rfl (by kernel_rfl) (by kernel_rfl) (by kernel_rfl) (fun _ _ _ h => h) (Or.inl ⟨by kernel_rfl, ?_⟩) hHeld ?_
      rotate_left
      · intro w hSw
        try dsimp only at hSw
        go_simp
        with_reducible rfl
      try simp only [Act.put, List.setIfInBounds_toArray, List.set_cons_zero, List.set_cons_succ]
      refine wpAnyH_take (i := 31) (oi := { dst := some 80, op := Op.move (Operand.tmp 79), type := 4, pos := "law.go:41", after := #[{ on := 30, ground := Ground.data }, { on := 24, ground := Ground.chain }], guard := none }) (v := ?_) rfl (by kernel_rfl) (by kernel_rfl) (by kernel_rfl) (fun _ _ _ h => h) (Or.inl ⟨by kernel_rfl, ?_⟩) hHeld ?_
      rotate_left
      · intro w hSw
        try dsimp only at hSw
        go_simp
        with_reducible rfl
      try simp only [Act.put, List.setIfInBounds_toArray, List.set_cons_zero, List.set_cons_succ]
      refine wpAnyH_take (i := 32) (oi := { dst := some 81, op := Op.move (Operand.tmp 13), type := 3, pos := "law.go:41", after := #[{ on := 31, ground := Ground.guard }], guard := some (31, false) }) (v := ?_) rfl (by kernel_rfl) (by kernel_rfl) (by kernel_rfl) (fun _ _ _ h => h) (Or.inl ⟨by kernel_rfl, ?_⟩) hHeld ?_
      rotate_left
      · intro w hSw
        try dsimp only at hSw
        go_simp
        with_reducible rfl
      try simp only [Act.put, List.setIfInBounds_toArray, List.set_cons_zero, List.set_cons_succ]
      refine wpAnyH_take (i := 33) (oi := { dst := some 82, op := Op.binOp BinOp.eql 3 (Operand.tmp 81) (Operand.const (Value.int IntKind.i64 0)) 3, type := 4, pos := "law.go:41", after := #[{ on := 32, ground := Ground.data }, { on := 31, ground := Ground.guard }], guard := some (31, false) }) (v := ?_) rfl (by kernel_rfl) (by kernel_rfl) (by kernel_rfl) (fun _ _ _ h => h) (Or.inl ⟨by kernel_rfl, ?_⟩) hHeld ?_
      rotate_left
      · intro w hSw
        try dsimp only at hSw
        go_simp
        with_reducible rfl
      try simp only [Act.put, List.setIfInBounds_toArray, List.set_cons_zero, List.set_cons_succ]
      refine wpAnyH_take (i := 34) (oi := { dst := some 83, op := Op.move (Operand.tmp 82), type := 4, pos := "law.go:41", after := #[{ on := 33, ground := Ground.data }, { on := 31, ground := Ground.chain }, { on := 31, ground := Ground.guard }], guard := some (31, false) }) (v := ?_) rfl (by kernel_rfl) (by kernel_rfl) (by kernel_rfl) (fun _ _ _ h => h) (Or.inl ⟨by kernel_rfl, ?_⟩) hHeld ?_
      rotate_left
      · intro w hSw
        try dsimp only at hSw
        go_simp
        with_reducible rfl
      try simp only [Act.put, List.setIfInBounds_toArray, List.set_cons_zero, List.set_cons_succ]
      refine wpAnyH_take (i := 35) (oi := { dst := some 84, op := Op.load 26 (Operand.tmp 10), type := 26, pos := "law.go:41", after := #[{ on := 34, ground := Ground.guard }], guard := some (34, true) }) (v := undef) rfl (by kernel_rfl) (by kernel_rfl) (by kernel_rfl) (fun _ _ _ h => h) (Or.inr ⟨by kernel_rfl, rfl⟩) hHeld ?_
      try simp only [Act.put, List.setIfInBounds_toArray, List.set_cons_zero, List.set_cons_succ]
      refine wpAnyH_take (i := 37) (oi := { dst := some 86, op := Op.move (Operand.tmp 2), type := 9, pos := "law.go:41", after := #[{ on := 34, ground := Ground.guard }], guard := some (34, true) }) (v := undef) rfl (by kernel_rfl) (by kernel_rfl) (by kernel_rfl) (fun _ _ _ h => h) (Or.inr ⟨by kernel_rfl, rfl⟩) hHeld ?_
      try simp only [Act.put, List.setIfInBounds_toArray, List.set_cons_zero, List.set_cons_succ]
      refine wpAnyH_ready (rs := [36]) (by kernel_rfl) (by simp) ?_
      refine AllReadyH.cons (o := { dst := some 85, op := Op.call { callee := Callee.value (Operand.func 8), args := #[Operand.tmp 84], argTypes := #[26] }, type := 9, pos := "law.go:41", after := #[{ on := 35, ground := Ground.data }, { on := 34, ground := Ground.chain }, { on := 34, ground := Ground.guard }], guard := some (34, true) }) rfl (fun K hK => ?_) AllReadyH.nil
      go_simp
      refine hK.out _ _ hHeld (fun hHeld => ?_)
      clear hK K
      try simp only [Act.put, List.setIfInBounds_toArray, List.set_cons_zero, List.set_cons_succ]
      refine wpAnyH_take (i := 38) (oi := { dst := some 87, op := Op.binOp BinOp.neq 9 (Operand.tmp 85) (Operand.tmp 86) 9, type := 4, pos := "law.go:41", after := #[{ on := 36, ground := Ground.data }, { on := 37, ground := Ground.data }, { on := 34, ground := Ground.guard }], guard := some (34, true) }) (v := undef) rfl (by kernel_rfl) (by kernel_rfl) (by kernel_rfl) (fun _ _ _ h => h) (Or.inr ⟨by kernel_rfl, rfl⟩) hHeld ?_
      try simp only [Act.put, List.setIfInBounds_toArray, List.set_cons_zero, List.set_cons_succ]
      refine wpAnyH_take (i := 39) (oi := { dst := some 88, op := Op.pick (Operand.tmp 83) (Operand.tmp 87) (Operand.const (Value.bool false)), type := 4, pos := "law.go:41", after := #[{ on := 34, ground := Ground.data }, { on := 38, ground := Ground.data }, { on := 31, ground := Ground.guard }], guard := some (31, false) }) (v := ?_) rfl (by kernel_rfl) (by kernel_rfl) (by kernel_rfl) (fun _ _ _ h => h) (Or.inl ⟨by kernel_rfl, ?_⟩) hHeld ?_
      rotate_left
      · intro w hSw
        try dsimp only at hSw
        go_simp
        with_reducible rfl
      try simp only [Act.put, List.setIfInBounds_toArray, List.set_cons_zero, List.set_cons_succ]
      refine wpAnyH_take (i := 40) (oi := { dst := some 89, op := Op.pick (Operand.tmp 80) (Operand.const (Value.bool true)) (Operand.tmp 88), type := 4, pos := "law.go:41", after := #[{ on := 31, ground := Ground.data }, { on := 39, ground := Ground.data }], guard := none }) (v := ?_) rfl (by kernel_rfl) (by kernel_rfl) (by kernel_rfl) (fun _ _ _ h => h) (Or.inl ⟨by kernel_rfl, ?_⟩) hHeld ?_
      rotate_left
      · intro w hSw
        try dsimp only at hSw
        go_simp
        with_reducible rfl
      try simp only [Act.put, List.setIfInBounds_toArray, List.set_cons_zero, List.set_cons_succ]
      refine wpAnyH_done (by kernel_rfl) ?_ _
    )
    have HBZ := Lib.hid hB4
    clear hHeld
  all_goals
    have hbv := HBB.out.trans (HBZ.out.mono HBB.out.size)
    have hbz := HB5.out.trans (hbv.mono HB5.out.size)
    have HKZ := Lib.hid (HK5.out.later hbv)
    clear HBB HBZ HB5 HK5 HA5 hbv
    go_wp2_with fail
    refine (read15_any T _ HPL.out HFW.out).mono ?_
    rintro r w9 hr9
    cases R
    · obtain rfl := HNE.out rfl
      obtain ⟨aq, cq, rfl, _, hb9⟩ := hr9.res
      have hbq := hbz.trans (hb9.mono hbz.size)
      clear hr9 HRE HNE HTN HFW HPL
      generalize (resR []).1.length = n1 at *
      generalize (resR []).2.1 = n2 at *
      generalize (resR []).2.2 = n3 at *
      have hbr := hbq.alloc hbq.size (.cells #[.slice aq n1 cq, .bool n2] 26)
      go_wp2
      go_ret
      exact ⟨rfl, hbr⟩
    · have hre := HRE.out rfl
      have hT : (T == []) = false := by rw [beq_eq_false_iff_ne]; exact HTN.out rfl
      rcases hr9 with ⟨⟨ks', c', aq, cq, h1, rfl, h3⟩ | ⟨e', h1, _⟩, hb9⟩
      case' inr =>
        rw [hre] at h1
        cases h1
      rw [hre] at h1
      cases h1
      have HQ := Lib.hid h3
      have hbq := hbz.trans (hb9.mono hbz.size)
      have hba := below_alloc1 w9 (.cells #[.slice aq ks.length cq, .bool c] 26)
      have hbr := hbq.trans (hba.mono hbq.size)
      have HSQ : Hid (Calls Try.prog 14 #[.slice aq ks.length cq, .slice a ks.length cap] (w9.alloc (.cells #[.slice aq ks.length cq, .bool c] 26)) fun r w' => r = .returned (.bool true) ∧ Below (w9.alloc (.cells #[.slice aq ks.length cq, .bool c] 26)).heap.size (w9.alloc (.cells #[.slice aq ks.length cq, .bool c] 26)) w') :=
        (sameK_any aq a cq cap ks ks _ (HQ.out.later hba) ((HKZ.out.later hb9).later hba) (by omega) (by omega)).mono fun r w' h => ⟨by rw [h.1]; simp, h.2⟩
      have q1 : (w9.alloc (.cells #[.slice aq ks.length cq, .bool c] 26)).cell? ⟨w9.heap.size, 1, none⟩ = some (.bool c) := by simp
      clear hre h3 HRE HNE HTN HFW HPL hb9 hba hbq
      go_wp2_with fail
      refine HSQ.out.mono ?_
      rintro r w10 ⟨rfl, hb10⟩
      have q2 := cell_later hb10 q1
      have hbt := hbr.trans (hb10.mono hbr.size)
      go_wp2
      go_ret
      exact ⟨rfl, hbt⟩
end Go.Proofs.Ytopklnehhebhmaa

/-
  ReportPrints: any report has the bytes that the document says, or none, and is read as it was, and any bytes are the report that it says, or are refused: the law answers true, and its arguments read as they did.
  For every input, whatever its size and however its parts share memory; nothing is asked of it but what the statement's own form asks.
-/
namespace Go.Proofs.Ytopklnehhebhmaa.reportPrints
open Go.ChangeShapes Go.WideShapes Go.ChangeAt Go.RowKit

theorem own : ownKnob Try.prog.godebug = none := by kernel_rfl
theorem laidOut : laidOutB Try.prog = true := by kernel_rfl

set_option maxRecDepth 100000 in
theorem lifted (os : Os) (started : os.Started) (H : Type) (enc : TypeId × Value → H) :
    ReturnsInHanded {} Try.checked os 3 .any (Rows.reportPrintsSpec.pre6 enc Try.prog Try.f3 Rows.reportPrintsRow.domain false) (Rows.reportPrintsSpec.post enc Try.prog Try.f3 false true false false) := by
  refine returnsInHanded_of_change (C := Try.checked) own started (by kernel_rfl) Try.func3
    (ChangeSpec.witness6 (enc := enc) (C := Try.checked) false ⟨#[], #[.slice none 0 0, .bool false, .string ByteArray.empty], []⟩ 8 (by kernel_rfl) (by kernel_rfl) (by kernel_rfl) (by kernel_rfl)) ?_
  intro W base args ds gs before hval0 hW hcnd _
  have hval : ∀ (j : Nat) t v, Try.f3.params[j]? = some t → args[j]? = some v → Value.okWide Try.prog W .any base t v := hval0
  have hW' := hW
  obtain ⟨p, q, hA0, hV, rfl, hfz, hnd⟩ := hW
  have hA : DataW.TrodAll enc Try.prog W 0 (fun _ => true) true Try.f3.params.toList args.toList ds p := hA0
  rw [Try.params3] at hA hval
  obtain ⟨v0, vs0, d0, ds0, p0, q0, hargs, rfl, rfl, h0, r0⟩ := trodAll_cons hA
  obtain ⟨v1, vs1, d1, ds1, p1, q1, rfl, rfl, rfl, h1, r1⟩ := trodAll_cons r0
  obtain ⟨v2, vs2, d2, ds2, p2, q2, rfl, rfl, rfl, h2, r2⟩ := trodAll_cons r1
  obtain ⟨rfl, rfl, rfl⟩ := trodAll_nil r2
  obtain rfl : args = #[v0, v1, v2] := by cases args; simp_all
  obtain ⟨rfl, rfl⟩ := trodVars_none hV
  have k0 := h0
  have lt0 : ∀ x ∈ p0, x.block < W.heap.size := by obtain ⟨m, hm⟩ := k0; exact DataW.trod_lt m _ _ _ hm
  have k1 := h1
  have lt1 : ∀ x ∈ p1, x.block < W.heap.size := by obtain ⟨m, hm⟩ := k1; exact DataW.trod_lt m _ _ _ hm
  have k2 := h2
  have lt2 : ∀ x ∈ p2, x.block < W.heap.size := by obtain ⟨m, hm⟩ := k2; exact DataW.trod_lt m _ _ _ hm
  obtain ⟨a0, l0, cap0, rfl, hx0, hn0, hm0⟩ := txts_of_trod (hval 0 22 v0 rfl rfl) h0
  obtain ⟨c1, rfl⟩ := bool_of_trod (hval 1 4 v1 rfl rfl) h1
  obtain ⟨s2, rfl, hx2⟩ := str_of_trod (hval 2 9 v2 rfl rfl) h2
  clear hA0 hval0
  refine (reportPrints_any a0 l0 cap0 c1 s2 W hx0 hn0 hx2).mono fun e W' ⟨he, bel⟩ => ?_
  subst he
  exact ⟨_, rfl, _, _, _, [], _, [], hW', trodAll_mk1 (shut_bool Try.underlying4 _), (trodAll_cons_mk (Below.trod laidOut (by kernel_rfl) (of_decide_eq_true (by kernel_rfl)) k0 bel lt0) (trodAll_cons_mk (Below.trod laidOut (by kernel_rfl) (of_decide_eq_true (by kernel_rfl)) k1 bel lt1) (trodAll_cons_mk (Below.trod laidOut (by kernel_rfl) (of_decide_eq_true (by kernel_rfl)) k2 bel lt2) trodAll_mk0))), rfl, bel.frame _, fun h => by cases h⟩

theorem over : Rows.reportPrintsRow.holds Try.pinned (OpenSpec.ofChange Rows.reportPrintsSpec) :=
  OpenClaim.holds_of_wide 3 Try.f3 rfl rfl rfl rfl rfl rfl rfl ⟨rfl, rfl, rfl, rfl, rfl⟩ rfl rfl rfl rfl rfl (by kernel_rfl) Try.func3 (by kernel_rfl)
    (of_decide_eq_true (by kernel_rfl)) (by unfold Func.isWrapper; first | (rw [if_pos (by decide +kernel)]; kernel_rfl) | (rw [if_neg (by decide +kernel)]; exact ⟨rfl, rfl⟩))
    (fun os started H enc _ => lifted os started H enc)

theorem proved : Rows.ReportPrintsSaid := over
end Go.Proofs.Ytopklnehhebhmaa.reportPrints
