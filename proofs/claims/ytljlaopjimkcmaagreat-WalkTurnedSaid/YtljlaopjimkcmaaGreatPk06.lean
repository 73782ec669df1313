import Derived.Deep.RegionHeld3
import Derived.Sort.Walk0
import Derived.Laws.StructEq
import Derived.StillTailTactics
import Derived.Test.YtljlaopjimkcmaaGreatIter
import Derived.Test.YtljlaopjimkcmaaGreatPk01
import Derived.Test.YtljlaopjimkcmaaGreatPk03
import Derived.Test.YtljlaopjimkcmaaGreatPk04
import Derived.Test.YtljlaopjimkcmaaGreatPk05

/- The contract of goOver's closure, that tells ends to one function. -/
namespace Go.Proofs.YtljlaopjimkcmaaGreat
open Go.RowKit

def fnVD (rb : Nat) : Value := .func (.func 26) #[] #[.pointer (some ⟨rb, 0, none⟩)]
def argsD (rb : Nat) (p r : Value) : Array Value := #[p, r, .pointer (some ⟨rb, 0, none⟩)]

section
variable {F : Nat} {X : Nat → Prop} {I : Ends → World → Prop} {B P M A G most rb : Nat}
set_option maxRecDepth 100000 in
set_option maxHeartbeats 8000000 in
theorem goOnD_end (hA : Apart X B P M A G) (hK : KeepC X I) (hE : EndC F X I 26 (argsD rb)) (n : Nat)
    (s : St) (row : List Ev) (v : Value) (W : World) (b : Nat) (acc : Ends) (c : Nat) (ok : s.Ok F) (hall : s.all = []) (hl : row.length ≤ 100) (hv : OwnE W B v row) (hB : B ≤ W.heap.size) (hs : StAt W b s) (hbP : b ≠ P) (hbX : ¬ X b)
    (hc : CapC W P M A G most (fnVD rb)) (cp : W.cell? ⟨P, 0, none⟩ = some (.int .i64 (c : Int))) (fp : W.frozen? ⟨P, 0, none⟩ = false) (hcm : c < most) (hmost : most ≤ 1000) (hac : acc.length ≤ c) (hI : I acc W) :
    Calls Tryz.prog 41 #[.pointer (some ⟨b, 0, none⟩), v, .pointer (some ⟨P, 0, none⟩), .pointer (some ⟨M, 0, none⟩), .pointer (some ⟨A, 0, none⟩), .pointer (some ⟨G, 0, none⟩)] W (GoR X I B P most n s row v acc c W) := by
  obtain ⟨a, cap, rfl, hat⟩ := OwnE.form hv (by omega)
  have hgv : ∀ g, (Value.slice a row.length cap).ownBlock = some g → B ≤ g ∧ g < W.heap.size := fun g h => own_range hv h
  have HA := Lib.hid hA
  have HK := Lib.hid hK
  have HOK := Lib.hid ok
  have hP := hA.p
  have hnS : ¬ SV X P (.slice a row.length cap) b := by
    rintro (e | e | e)
    · exact hbP e
    · exact hbX e
    · exact st_not_row hs hv e
  -- behind the count
  have o1 : OnlyS (SV X P (.slice a row.length cap)) W (W.setCell ⟨P, 0, none⟩ (.int .i64 ((c : Int) + 1))) := (OnlyS.refl _ _).setCell (p := ⟨P, 0, none⟩) (.inl rfl) _
  have o1P : OnlyS (fun k => k = P) W (W.setCell ⟨P, 0, none⟩ (.int .i64 ((c : Int) + 1))) := (OnlyS.refl (fun k => k = P) _).setCell (p := ⟨P, 0, none⟩) rfl _
  have C1 : CapC (W.setCell ⟨P, 0, none⟩ (.int .i64 ((c : Int) + 1))) P M A G most (fnVD rb) := hc.onlyS o1P (fun e => hA.pm e.symm) (fun e => hA.pa e.symm) (fun e => hA.pg e.symm)
  have S1 : StAt (W.setCell ⟨P, 0, none⟩ (.int .i64 ((c : Int) + 1))) b s := hs.onlyS o1P hbP
  have V1 : OwnE (W.setCell ⟨P, 0, none⟩ (.int .i64 ((c : Int) + 1))) B (.slice a row.length cap) row := hv.onlyS o1P (fun g h e => by have := (hgv g h).1; omega)
  have I1 : I acc (W.setCell ⟨P, 0, none⟩ (.int .i64 ((c : Int) + 1))) := hK acc W _ hI o1.size (fun k hk hkw => o1P.block k hkw (fun e => hA.xp (by rw [← e]; exact hk)))
  have P1 : (W.setCell ⟨P, 0, none⟩ (.int .i64 ((c : Int) + 1))).cell? ⟨P, 0, none⟩ = some (.int .i64 ((c : Int) + 1)) := World.cell?_setCell_same _ _ _ cp
  have F1 : (W.setCell ⟨P, 0, none⟩ (.int .i64 ((c : Int) + 1))).frozen? ⟨P, 0, none⟩ = false := (World.frozen?_setCell _ _ _ _).trans fp
  have hb1 : B ≤ (W.setCell ⟨P, 0, none⟩ (.int .i64 ((c : Int) + 1))).heap.size := Nat.le_trans hB o1.size
  have hz1 : (W.setCell ⟨P, 0, none⟩ (.int .i64 ((c : Int) + 1))).heap.size = W.heap.size := by simp [World.setCell]
  have cm := hc.m
  have hq1 : decide ((most : Int) ≤ (c : Int)) = false := by simp; omega
  have hw1 : IntKind.i64.wrap ((c : Int) + 1) = (c : Int) + 1 := IntWalk.i64_in _ (by omega)
  have HS1 := Lib.hid S1
  have HV1 := Lib.hid V1
  have HI1 := Lib.hid I1
  have HC1 := Lib.hid C1
  have HO1 := Lib.hid o1
  have HP1 := Lib.hid (And.intro P1 F1)
  clear hs hv hat hI o1P o1 S1 V1 I1 C1 P1 F1 hA hK ok hc hbP
  go_enter Tryz.func41, Tryz.ntmps41
  go_wp2_with fail
  generalize W.setCell ⟨P, 0, none⟩ (.int .i64 ((c : Int) + 1)) = W1 at *
  refine (all_any HS1.out HOK.out).mono ?_
  rintro r W2 ⟨va, rfl, hva, hb2⟩
  have hal : s.all.length ≤ 4 := Nat.le_trans s.all_len HOK.out.len4
  obtain ⟨aa, ca, rfl, hna, _⟩ := OwnN.form hva (by omega)
  have hz2 := hb2.size
  have HN2 := Lib.hid hva
  have HO2 : Hid (OnlyS (SV X P (.slice a row.length cap)) W W2) := HO1.out.trans (.of_below hb2)
  have HS2 := Lib.hid (HS1.out.later hb2)
  have HV2 := Lib.hid (HV1.out.later hb2)
  have HC2 : Hid (CapC W2 P M A G most (fnVD rb)) := HC1.out.onlyS (S := fun _ => False) (.of_below hb2) (fun h => h) (fun h => h) (fun h => h)
  have HI2 : Hid (I acc W2) := HK.out acc W1 W2 HI1.out hb2.size (fun k _ hk => hb2.block k hk)
  have HP2 : Hid (W2.cell? ⟨P, 0, none⟩ = some (.int .i64 ((c + 1 : Nat) : Int)) ∧ W2.frozen? ⟨P, 0, none⟩ = false) := ⟨(cell_later hb2 HP1.out.1).trans (by rfl), (hb2.frozen (p := ⟨P, 0, none⟩) (by show P < _; omega)).trans HP1.out.2⟩
  have hln : s.all.length = 0 := by rw [hall]; rfl
  have hPR := runs_end n s row hall
  have HAT2 := Lib.hid (OwnE.form HV2.out (by omega))
  clear HS1 HV1 HC1 HI1 HP1 HO1 hva hna
  rw [hln]
  have c4 := HC2.out.a
  have HEA : Hid (EvsAt W2 a row) := by
    obtain ⟨a', cap', hv', h⟩ := HAT2.out
    injection hv' with h1 _ _
    subst h1
    exact h
  have HCL := Lib.hid (hE acc W2 b s row a cap HI2.out HOK.out HS2.out hbX HEA.out (by omega) (by omega))
  unfold fnVD at c4
  unfold argsD at HCL
  have HPR := Lib.hid hPR
  clear hPR
  clear hall
  go_wp2_with fail
  refine HCL.out.mono ?_
  rintro r W3 ⟨rfl, hi3, ho3⟩
  have HI3 := Lib.hid hi3
  have HO3 : Hid (OnlyS (SV X P (.slice a row.length cap)) W W3) := HO2.out.trans (ho3.mono fun k _ h => .inr (.inl h))
  have HV3 := Lib.hid (HV2.out.onlyS ho3 fun g hg hx => by have := (own_range HV2.out hg).1; have := HA.out.xb _ hx; omega)
  have HP3 : Hid (W3.cell? ⟨P, 0, none⟩ = some (.int .i64 ((c + 1 : Nat) : Int)) ∧ W3.frozen? ⟨P, 0, none⟩ = false) := ⟨ho3.cell HP2.out.1 HA.out.xp, (ho3.frozen (a := ⟨P, 0, none⟩) (by show P < _; omega) HA.out.xp).trans HP2.out.2⟩
  clear hi3 ho3 HI2 HO2 HV2 HP2
  go_wp2_with fail
  go_loopw [31] (fun i wr => i = .int .i64 0 ∧ Hid (I (acc ++ [(s, row)]) wr) ∧ Hid (OnlyS (SV X P (.slice a row.length cap)) W wr) ∧ Hid (OwnE wr B (.slice a row.length cap) row) ∧ Hid (wr.cell? ⟨P, 0, none⟩ = some (.int .i64 ((c + 1 : Nat) : Int)) ∧ wr.frozen? ⟨P, 0, none⟩ = false)) (fun _ _ => 0)
  case atStart => exact ⟨rfl, HI3.out, HO3.out, HV3.out, HP3.out⟩
  case round =>
    clear HI3 HO3 HV3 HP3
    obtain ⟨rfl, HI4, HO4, HV4, HP4⟩ := hrel
    go_wp2_with fail
    go_ret
    exact ⟨.inl ⟨by rw [HPR.out.2]; omega, rfl, by rw [HPR.out.2]; exact HP4.out.1, HP4.out.2, by rw [HPR.out.1]; exact HI4.out, HV4.out⟩, HO4.out⟩

set_option maxRecDepth 100000 in
set_option maxHeartbeats 8000000 in
theorem goOnD_step (hA : Apart X B P M A G) (hK : KeepC X I) (n : Nat) (ih : GoH F X I B P M A G most (fnVD rb) n)
    (s : St) (row : List Ev) (v : Value) (W : World) (b : Nat) (acc : Ends) (c : Nat) (ok : s.Ok F) (hall : s.all ≠ []) (hf : s.fuel ≤ n + 1) (hl : row.length + 1 + n ≤ 100) (hv : OwnE W B v row) (hB : B ≤ W.heap.size) (hs : StAt W b s) (hbP : b ≠ P) (hbX : ¬ X b)
    (hc : CapC W P M A G most (fnVD rb)) (cp : W.cell? ⟨P, 0, none⟩ = some (.int .i64 (c : Int))) (fp : W.frozen? ⟨P, 0, none⟩ = false) (hcm : c < most) (hmost : most ≤ 1000) (hac : acc.length ≤ c) (hI : I acc W) :
    Calls Tryz.prog 41 #[.pointer (some ⟨b, 0, none⟩), v, .pointer (some ⟨P, 0, none⟩), .pointer (some ⟨M, 0, none⟩), .pointer (some ⟨A, 0, none⟩), .pointer (some ⟨G, 0, none⟩)] W (GoR X I B P most (n + 1) s row v acc c W) := by
  obtain ⟨a, cap, rfl, hat⟩ := OwnE.form hv (by omega)
  have hgv : ∀ g, (Value.slice a row.length cap).ownBlock = some g → B ≤ g ∧ g < W.heap.size := fun g h => own_range hv h
  have HA := Lib.hid hA
  have HK := Lib.hid hK
  have HIH := Lib.hid ih
  have HOK := Lib.hid ok
  have hP := hA.p
  have hnS : ¬ SV X P (.slice a row.length cap) b := by
    rintro (e | e | e)
    · exact hbP e
    · exact hbX e
    · exact st_not_row hs hv e
  -- behind the count
  have o1 : OnlyS (SV X P (.slice a row.length cap)) W (W.setCell ⟨P, 0, none⟩ (.int .i64 ((c : Int) + 1))) := (OnlyS.refl _ _).setCell (p := ⟨P, 0, none⟩) (.inl rfl) _
  have o1P : OnlyS (fun k => k = P) W (W.setCell ⟨P, 0, none⟩ (.int .i64 ((c : Int) + 1))) := (OnlyS.refl (fun k => k = P) _).setCell (p := ⟨P, 0, none⟩) rfl _
  have C1 : CapC (W.setCell ⟨P, 0, none⟩ (.int .i64 ((c : Int) + 1))) P M A G most (fnVD rb) := hc.onlyS o1P (fun e => hA.pm e.symm) (fun e => hA.pa e.symm) (fun e => hA.pg e.symm)
  have S1 : StAt (W.setCell ⟨P, 0, none⟩ (.int .i64 ((c : Int) + 1))) b s := hs.onlyS o1P hbP
  have V1 : OwnE (W.setCell ⟨P, 0, none⟩ (.int .i64 ((c : Int) + 1))) B (.slice a row.length cap) row := hv.onlyS o1P (fun g h e => by have := (hgv g h).1; omega)
  have I1 : I acc (W.setCell ⟨P, 0, none⟩ (.int .i64 ((c : Int) + 1))) := hK acc W _ hI o1.size (fun k hk hkw => o1P.block k hkw (fun e => hA.xp (by rw [← e]; exact hk)))
  have P1 : (W.setCell ⟨P, 0, none⟩ (.int .i64 ((c : Int) + 1))).cell? ⟨P, 0, none⟩ = some (.int .i64 ((c : Int) + 1)) := World.cell?_setCell_same _ _ _ cp
  have F1 : (W.setCell ⟨P, 0, none⟩ (.int .i64 ((c : Int) + 1))).frozen? ⟨P, 0, none⟩ = false := (World.frozen?_setCell _ _ _ _).trans fp
  have hb1 : B ≤ (W.setCell ⟨P, 0, none⟩ (.int .i64 ((c : Int) + 1))).heap.size := Nat.le_trans hB o1.size
  have hz1 : (W.setCell ⟨P, 0, none⟩ (.int .i64 ((c : Int) + 1))).heap.size = W.heap.size := by simp [World.setCell]
  have cm := hc.m
  have hq1 : decide ((most : Int) ≤ (c : Int)) = false := by simp; omega
  have hw1 : IntKind.i64.wrap ((c : Int) + 1) = (c : Int) + 1 := IntWalk.i64_in _ (by omega)
  have HS1 := Lib.hid S1
  have HV1 := Lib.hid V1
  have HI1 := Lib.hid I1
  have HC1 := Lib.hid C1
  have HO1 := Lib.hid o1
  have HP1 := Lib.hid (And.intro P1 F1)
  clear hs hv hat hI o1P o1 S1 V1 I1 C1 P1 F1 hA hK ih ok hc hbP
  go_enter Tryz.func41, Tryz.ntmps41
  go_wp2_with fail
  generalize W.setCell ⟨P, 0, none⟩ (.int .i64 ((c : Int) + 1)) = W1 at *
  refine (all_any HS1.out HOK.out).mono ?_
  rintro r W2 ⟨va, rfl, hva, hb2⟩
  have hal : s.all.length ≤ 4 := Nat.le_trans s.all_len HOK.out.len4
  obtain ⟨aa, ca, rfl, hna, _⟩ := OwnN.form hva (by omega)
  have hz2 := hb2.size
  have HN2 := Lib.hid hva
  have HO2 : Hid (OnlyS (SV X P (.slice a row.length cap)) W W2) := HO1.out.trans (.of_below hb2)
  have HS2 := Lib.hid (HS1.out.later hb2)
  have HV2 := Lib.hid (HV1.out.later hb2)
  have HC2 : Hid (CapC W2 P M A G most (fnVD rb)) := HC1.out.onlyS (S := fun _ => False) (.of_below hb2) (fun h => h) (fun h => h) (fun h => h)
  have HI2 : Hid (I acc W2) := HK.out acc W1 W2 HI1.out hb2.size (fun k _ hk => hb2.block k hk)
  have HP2 : Hid (W2.cell? ⟨P, 0, none⟩ = some (.int .i64 ((c + 1 : Nat) : Int)) ∧ W2.frozen? ⟨P, 0, none⟩ = false) := ⟨(cell_later hb2 HP1.out.1).trans (by rfl), (hb2.frozen (p := ⟨P, 0, none⟩) (by show P < _; omega)).trans HP1.out.2⟩
  have hln : ((s.all.length : Int) == 0) = false := by have := List.length_pos_iff.2 hall; simp; exact hall
  have HALL := Lib.hid hall
  clear HS1 HV1 HC1 HI1 HP1 HO1 hva hna hall
  go_wp2_with fail
  go_loopw [31] (fun i wr => ∃ (j c' : Nat), j ≤ s.all.length ∧ i = .int .i64 j ∧ c' ≤ most ∧ Hid (c' = c + 1 + preTo n s j) ∧ Hid (wr.cell? ⟨P, 0, none⟩ = some (.int .i64 (c' : Int)) ∧ wr.frozen? ⟨P, 0, none⟩ = false) ∧ Hid (I (acc ++ runsTo n s row j) wr) ∧ Hid (OnlyS (SV X P (.slice a row.length cap)) W2 wr) ∧ Hid (OwnE wr B (.slice a row.length cap) row)) (fun i _ => s.all.length - (intOf i).toNat)
  case atStart => exact ⟨0, c + 1, Nat.zero_le _, rfl, by omega, (by show _ = _; simp [preTo]), HP2.out, (by have h := HI2.out; show I (acc ++ []) W2; rw [List.append_nil]; exact h), OnlyS.refl _ _, HV2.out⟩
  case round =>
    clear HI2 HP2
    obtain ⟨j, c', hj, rfl, hcm', HCJ, HPJ, HIJ, HOJ, HVJ⟩ := hrel
    have hzr := HOJ.out.size
    by_cases hlt : j < s.all.length
    · have hmem := List.getElem_mem hlt
      obtain ⟨e, s1, hst, hfu⟩ := all_step' hmem
      have HPT : Hid (preTo n s (j + 1) = preTo n s j + s1.pre n) := by have h := preTo_succ n s hlt; rw [hst] at h; exact h
      have HRT : Hid (runsTo n s row (j + 1) = runsTo n s row j ++ s1.runs n (row ++ [e])) := by have h := runsTo_succ n s row hlt; rw [hst] at h; exact h
      have HLE : Hid (c + 1 + preTo n s (j + 1) ≤ c + s.pre (n + 1)) := by have h := preTo_le n s (j + 1); rw [preTo_all]; show _ ≤ _; omega
      have hNr : ∀ g, (Value.slice aa s.all.length ca).ownBlock = some g → ¬ SV X P (.slice a row.length cap) g := by
        intro g hg
        have := (World.ownsRow.lt HN2.out g hg).1
        rintro (e | e | e)
        · omega
        · have := HA.out.xb _ e; omega
        · have := (hgv _ e).2; omega
      obtain ⟨_, _, hv9, hna, _⟩ := OwnN.form (HN2.out.onlyS HOJ.out hNr) (by omega)
      injection hv9 with hv1 _ hv3
      subst hv1 hv3
      obtain ⟨ba, oa, rfl, hca⟩ := hna.2 (by intro e; rw [e] at hlt; simp at hlt)
      have ct := hca j hlt
      have HST := Lib.hid hst
      have hok1 : s1.Ok F := by have h := HOK.out.step_ok s.all[j]; rw [hst] at h; exact h
      have HOK1 := Lib.hid hok1
      have HSR := Lib.hid (HS2.out.onlyS HOJ.out hnS)
      clear hca hna hNr hst hmem hok1
      generalize s.all[j] = t at *
      go_wp2_with fail
      refine (copy_state HSR.out).mono ?_
      rintro r W3 ⟨rfl, hW3⟩
      have hs3 : StAt W3 wr.heap.size s := by rw [← hW3]; exact heap_alloc_new _ _
      have hb3 : Below wr.heap.size wr W3 := by rw [← hW3]; exact below_alloc1 _ _
      have HS3 := Lib.hid hs3
      clear hs3 hW3
      go_wp2_with fail
      refine (step_any HS3.out HOK.out t).mono ?_
      rintro r W4 ⟨rfl, hs4, ho4⟩
      rw [HST.out] at hs4 ⊢
      rw [stepV_ok]
      have hb4 : Below wr.heap.size wr W4 := hb3.trans (ho4.below (Nat.le_refl _) hb3.size)
      have HS4 := Lib.hid hs4
      clear hs4 ho4 hb3 HS3
      go_wp2_with fail
      have hbx := EvBox.new W4 e
      have hb5 : Below wr.heap.size wr (W4.alloc (.cells #[.int .i64 e.thread, .int .i64 e.kind, .int .i64 e.obj, .bool e.fail] 51)) := hb4.alloc hb4.size _
      have hs5 := HS4.out.later (below_alloc1 W4 (.cells #[.int .i64 e.thread, .int .i64 e.kind, .int .i64 e.obj, .bool e.fail] 51))
      have hnd : wr.heap.size ≤ W4.heap.size := hb4.size
      have hnd5 : W4.heap.size < (W4.alloc (.cells #[.int .i64 e.thread, .int .i64 e.kind, .int .i64 e.obj, .bool e.fail] 51)).heap.size := by simp
      generalize W4.alloc (.cells #[.int .i64 e.thread, .int .i64 e.kind, .int .i64 e.obj, .bool e.fail] 51) = W5 at *
      have hzB : B ≤ wr.heap.size := by omega
      have HAC : Hid ((acc ++ runsTo n s row j).length ≤ c') := by have h1 := runsTo_le n s row j; have h2 := HCJ.out; show _ ≤ _; rw [List.length_append]; omega
      have hCr : CapC wr P M A G most (fnVD rb) := HC2.out.sv HA.out HV2.out HOJ.out
      have hgV : ∀ g, (Value.slice a row.length cap).ownBlock = some g → B ≤ g ∧ g < wr.heap.size := fun g h => own_range HVJ.out h
      have hb8 : Below wr.heap.size wr (W5.alloc (.cells #[.int .i64 e.thread, .int .i64 e.kind, .int .i64 e.obj, .bool e.fail] 51)).drew := (hb5.alloc hb5.size _).drew
      have hs8 : StAt (W5.alloc (.cells #[.int .i64 e.thread, .int .i64 e.kind, .int .i64 e.obj, .bool e.fail] 51)).drew wr.heap.size s1 := hs5.later (below_alloc1 W5 _).drew
      have hbx8 : EvBox (W5.alloc (.cells #[.int .i64 e.thread, .int .i64 e.kind, .int .i64 e.obj, .bool e.fail] 51)).drew W4.heap.size e := hbx.later (below_alloc1 W5 _).drew
      have hC8 : CapC (W5.alloc (.cells #[.int .i64 e.thread, .int .i64 e.kind, .int .i64 e.obj, .bool e.fail] 51)).drew P M A G most (fnVD rb) := hCr.onlyS (S := fun _ => False) (.of_below hb8) (fun h => h) (fun h => h) (fun h => h)
      have HV8 : Hid (OwnE (W5.alloc (.cells #[.int .i64 e.thread, .int .i64 e.kind, .int .i64 e.obj, .bool e.fail] 51)).drew B (.slice a row.length cap) row) := HVJ.out.later hb8
      have hsz8 : B ≤ (W5.alloc (.cells #[.int .i64 e.thread, .int .i64 e.kind, .int .i64 e.obj, .bool e.fail] 51)).drew.heap.size := Nat.le_trans hzB hb8.size
      have h58 : W5.heap.size < (W5.alloc (.cells #[.int .i64 e.thread, .int .i64 e.kind, .int .i64 e.obj, .bool e.fail] 51)).drew.heap.size := by show _ < (W5.alloc _).heap.size; simp
      have HQS : Hid (∀ W' (T : Nat → Prop), OnlyS T (W5.alloc (.cells #[.int .i64 e.thread, .int .i64 e.kind, .int .i64 e.obj, .bool e.fail] 51)).drew W' → (∀ k, T k → SV X P (.slice a row.length cap) k ∨ (W5.alloc (.cells #[.int .i64 e.thread, .int .i64 e.kind, .int .i64 e.obj, .bool e.fail] 51)).drew.heap.size ≤ k) →
          W'.cell? ⟨G, 0, none⟩ = some (.func (.func 41) #[] #[.pointer (some ⟨P, 0, none⟩), .pointer (some ⟨M, 0, none⟩), .pointer (some ⟨A, 0, none⟩), .pointer (some ⟨G, 0, none⟩)]) ∧ W'.cell? ⟨W4.heap.size, 0, none⟩ = some (.int .i64 e.thread) ∧ W'.cell? ⟨W4.heap.size, 1, none⟩ = some (.int .i64 e.kind) ∧ W'.cell? ⟨W4.heap.size, 2, none⟩ = some (.int .i64 e.obj) ∧ W'.cell? ⟨W4.heap.size, 3, none⟩ = some (.bool e.fail)) := fun W' T ho hT => by
        have hTn : ∀ k, ¬ SV X P (.slice a row.length cap) k → k < W5.heap.size → ¬ T k := fun k h1 h2 h3 => by
          rcases hT k h3 with h | h
          · exact h1 h
          · omega
        have hG : ¬ T G := hTn G (by
          rintro (e | e | e)
          · exact HA.out.pg e.symm
          · exact HA.out.xg e
          · have := (hgV _ e).1; have := HA.out.g; omega) (by have := HA.out.g; have := hb5.size; omega)
        have hN : ¬ T W4.heap.size := hTn W4.heap.size (by
          rintro (e | e | e)
          · omega
          · have := HA.out.xb _ e; omega
          · have := (hgV _ e).2; omega) hnd5
        obtain ⟨x0, x1, x2, x3⟩ := hbx8.cells
        exact ⟨ho.cell hC8.g hG, ho.cell x0 hN, ho.cell x1 hN, ho.cell x2 hN, ho.cell x3 hN⟩
      have HQ8 := Lib.hid (HQS.out _ (fun _ => False) (OnlyS.refl _ _) (fun _ h => h.elim))
      have HQ5 : Hid (W5.drew.cell? ⟨G, 0, none⟩ = some (.func (.func 41) #[] #[.pointer (some ⟨P, 0, none⟩), .pointer (some ⟨M, 0, none⟩), .pointer (some ⟨A, 0, none⟩), .pointer (some ⟨G, 0, none⟩)]) ∧ W5.drew.cell? ⟨W4.heap.size, 0, none⟩ = some (.int .i64 e.thread) ∧ W5.drew.cell? ⟨W4.heap.size, 1, none⟩ = some (.int .i64 e.kind) ∧ W5.drew.cell? ⟨W4.heap.size, 2, none⟩ = some (.int .i64 e.obj) ∧ W5.drew.cell? ⟨W4.heap.size, 3, none⟩ = some (.bool e.fail)) := by
        obtain ⟨x0, x1, x2, x3⟩ := hbx.cells
        exact ⟨cell_later hb5 hCr.g, x0, x1, x2, x3⟩
      have HQ9 : Hid (∀ W9, (W5.alloc (.cells #[.int .i64 e.thread, .int .i64 e.kind, .int .i64 e.obj, .bool e.fail] 51)).drew.grownBy W9 (Value.slice a row.length cap).ownBlock → _) := fun W9 h2 => HQS.out W9 (fun k => (Value.slice a row.length cap).ownBlock = some k) ⟨h2.os, h2.tape, h2.output, h2.size, fun k hk hs => h2.block k hk (fun e => hs e.symm)⟩ (fun k h => .inl (.inr (.inr h)))
      have HCH : Hid (∀ v' W9, OwnE W9 B v' (row ++ [e]) → (W5.alloc (.cells #[.int .i64 e.thread, .int .i64 e.kind, .int .i64 e.obj, .bool e.fail] 51)).drew.grownBy W9 (Value.slice a row.length cap).ownBlock → OwnE W9 B (.slice a row.length cap) row → ((∃ g cap', Value.slice a row.length cap = .slice (some ⟨g, 0, none⟩) row.length cap' ∧ v' = .slice (some ⟨g, 0, none⟩) (row.length + 1) cap') ∨ v'.ownBlock = some (W5.alloc (.cells #[.int .i64 e.thread, .int .i64 e.kind, .int .i64 e.obj, .bool e.fail] 51)).drew.heap.size) → _) :=
        fun v' W9 h1 h2 h3 h4 => go_child HA.out HK.out HIH.out HOK1.out (by omega) (by omega) hzB hCr HPJ.out.1 HPJ.out.2 hcm' HAC.out HIJ.out HVJ.out hb8 hs8 (Nat.le_refl _) h1 h2 h3 h4
      clear hbx hs5 hbx8 hC8 hCr hs8 HS4
      by_cases hfit : c' + s1.pre n ≤ most
      · have HFT : Hid (∀ v' W9, OwnE W9 B v' (row ++ [e]) → (W5.alloc (.cells #[.int .i64 e.thread, .int .i64 e.kind, .int .i64 e.obj, .bool e.fail] 51)).drew.grownBy W9 (Value.slice a row.length cap).ownBlock → OwnE W9 B (.slice a row.length cap) row → ((∃ g cap', Value.slice a row.length cap = .slice (some ⟨g, 0, none⟩) row.length cap' ∧ v' = .slice (some ⟨g, 0, none⟩) (row.length + 1) cap') ∨ v'.ownBlock = some (W5.alloc (.cells #[.int .i64 e.thread, .int .i64 e.kind, .int .i64 e.obj, .bool e.fail] 51)).drew.heap.size) →
            Calls Tryz.prog 41 #[.pointer (some ⟨wr.heap.size, 0, none⟩), v', .pointer (some ⟨P, 0, none⟩), .pointer (some ⟨M, 0, none⟩), .pointer (some ⟨A, 0, none⟩), .pointer (some ⟨G, 0, none⟩)] W9 fun r W10 => r = .returned (.bool true) ∧ (W10.cell? ⟨P, 0, none⟩ = some (.int .i64 ((c' + s1.pre n : Nat) : Int)) ∧ W10.frozen? ⟨P, 0, none⟩ = false) ∧ I ((acc ++ runsTo n s row j) ++ s1.runs n (row ++ [e])) W10 ∧ OwnE W10 B (.slice a row.length cap) row ∧ OnlyS (SV X P (.slice a row.length cap)) wr W10 ∧ OnlyS (fun k => SV X P (.slice a row.length cap) k ∨ (W5.alloc (.cells #[.int .i64 e.thread, .int .i64 e.kind, .int .i64 e.obj, .bool e.fail] 51)).drew.heap.size ≤ k) (W5.alloc (.cells #[.int .i64 e.thread, .int .i64 e.kind, .int .i64 e.obj, .bool e.fail] 51)).drew W10) :=
          fun v' W9 h1 h2 h3 h4 => (HCH.out v' W9 h1 h2 h3 h4).mono fun r W10 ⟨h, ho, ho8⟩ => by
            rcases h with ⟨_, q2, q3, q4, q5, q6⟩ | ⟨q1, _⟩
            · exact ⟨q2, ⟨q3, q4⟩, q5, q6, ho, ho8⟩
            · omega
        clear HCH
        go_wp2_with fail
        go_region_held3 (fun W' => W'.cell? ⟨G, 0, none⟩ = some (.func (.func 41) #[] #[.pointer (some ⟨P, 0, none⟩), .pointer (some ⟨M, 0, none⟩), .pointer (some ⟨A, 0, none⟩), .pointer (some ⟨G, 0, none⟩)]) ∧ W'.cell? ⟨W4.heap.size, 0, none⟩ = some (.int .i64 e.thread) ∧ W'.cell? ⟨W4.heap.size, 1, none⟩ = some (.int .i64 e.kind) ∧ W'.cell? ⟨W4.heap.size, 2, none⟩ = some (.int .i64 e.obj) ∧ W'.cell? ⟨W4.heap.size, 3, none⟩ = some (.bool e.fail))
          (first | exact HQ5.out | exact HQ8.out | exact HQA.out | exact HQB.out)
          (first
            | (refine step_appendEg (by rfl) (.tmp 45) (.tmp 47) (by rfl) B _ row (by rfl) HV8.out ⟨W5.heap.size, 0, none⟩ (by rfl) e (ev_new W5 e _ _ rfl) (by omega) hsz8 ?_; intro v' W9 h1 h2 h3 h4; have HF := Lib.hid (HFT.out v' W9 h1 h2 h3 h4); have HQA := Lib.hid (HQ9.out W9 h2); clear h1 h2 h3 h4)
            | (go_at_call 41; ((with_reducible refine HF.out.mono ?_); rintro r W10 ⟨rfl, hp10, hi10, hv10, ho10, ho8⟩; have HQB := Lib.hid (HQS.out W10 _ ho8 (fun _ h => h)); have HP10 := Lib.hid hp10; have HI10 := Lib.hid hi10; have HV10 := Lib.hid hv10; have HO10 := Lib.hid ho10; clear hp10 hi10 hv10 ho10 ho8)))
        go_wp2_with fail
        go_roundw
        case rel => exact ⟨j + 1, c' + s1.pre n, by omega, by go_num, hfit, (by show _ = _; rw [HCJ.out, HPT.out]; omega), HP10.out, (by rw [HRT.out, ← List.append_assoc]; exact HI10.out), HOJ.out.trans HO10.out, HV10.out⟩
        case measure => simp [intOf]; omega
      · have HFT : Hid (∀ v' W9, OwnE W9 B v' (row ++ [e]) → (W5.alloc (.cells #[.int .i64 e.thread, .int .i64 e.kind, .int .i64 e.obj, .bool e.fail] 51)).drew.grownBy W9 (Value.slice a row.length cap).ownBlock → OwnE W9 B (.slice a row.length cap) row → ((∃ g cap', Value.slice a row.length cap = .slice (some ⟨g, 0, none⟩) row.length cap' ∧ v' = .slice (some ⟨g, 0, none⟩) (row.length + 1) cap') ∨ v'.ownBlock = some (W5.alloc (.cells #[.int .i64 e.thread, .int .i64 e.kind, .int .i64 e.obj, .bool e.fail] 51)).drew.heap.size) →
            Calls Tryz.prog 41 #[.pointer (some ⟨wr.heap.size, 0, none⟩), v', .pointer (some ⟨P, 0, none⟩), .pointer (some ⟨M, 0, none⟩), .pointer (some ⟨A, 0, none⟩), .pointer (some ⟨G, 0, none⟩)] W9 fun r W10 => r = .returned (.bool false) ∧ OnlyS (SV X P (.slice a row.length cap)) wr W10 ∧ OnlyS (fun k => SV X P (.slice a row.length cap) k ∨ (W5.alloc (.cells #[.int .i64 e.thread, .int .i64 e.kind, .int .i64 e.obj, .bool e.fail] 51)).drew.heap.size ≤ k) (W5.alloc (.cells #[.int .i64 e.thread, .int .i64 e.kind, .int .i64 e.obj, .bool e.fail] 51)).drew W10) :=
          fun v' W9 h1 h2 h3 h4 => (HCH.out v' W9 h1 h2 h3 h4).mono fun r W10 ⟨h, ho, ho8⟩ => by
            rcases h with ⟨q1, _⟩ | ⟨_, q2⟩
            · omega
            · exact ⟨q2, ho, ho8⟩
        have HMO : Hid (most < c + s.pre (n + 1)) := by have h1 := HLE.out; have h2 := HPT.out; have h3 := HCJ.out; show _ < _; omega
        clear HCH
        go_wp2_with fail
        go_region_held3 (fun W' => W'.cell? ⟨G, 0, none⟩ = some (.func (.func 41) #[] #[.pointer (some ⟨P, 0, none⟩), .pointer (some ⟨M, 0, none⟩), .pointer (some ⟨A, 0, none⟩), .pointer (some ⟨G, 0, none⟩)]) ∧ W'.cell? ⟨W4.heap.size, 0, none⟩ = some (.int .i64 e.thread) ∧ W'.cell? ⟨W4.heap.size, 1, none⟩ = some (.int .i64 e.kind) ∧ W'.cell? ⟨W4.heap.size, 2, none⟩ = some (.int .i64 e.obj) ∧ W'.cell? ⟨W4.heap.size, 3, none⟩ = some (.bool e.fail))
          (first | exact HQ5.out | exact HQ8.out | exact HQA.out | exact HQB.out)
          (first
            | (refine step_appendEg (by rfl) (.tmp 45) (.tmp 47) (by rfl) B _ row (by rfl) HV8.out ⟨W5.heap.size, 0, none⟩ (by rfl) e (ev_new W5 e _ _ rfl) (by omega) hsz8 ?_; intro v' W9 h1 h2 h3 h4; have HF := Lib.hid (HFT.out v' W9 h1 h2 h3 h4); have HQA := Lib.hid (HQ9.out W9 h2); clear h1 h2 h3 h4)
            | (go_at_call 41; ((with_reducible refine HF.out.mono ?_); rintro r W10 ⟨rfl, ho10, ho8⟩; have HQB := Lib.hid (HQS.out W10 _ ho8 (fun _ h => h)); have HO10 := Lib.hid ho10; clear ho10 ho8)))
        go_wp2_with fail
        go_ret
        exact ⟨.inr ⟨HMO.out, rfl⟩, HO2.out.trans (HOJ.out.trans HO10.out)⟩
    · obtain rfl : j = s.all.length := by omega
      have HCE : Hid (c' = c + s.pre (n + 1)) := by have h1 := preTo_all n s; have h2 := HCJ.out; show _ = _; omega
      have HRE := Lib.hid (runsTo_all n s row HALL.out)
      go_wp2_with fail
      go_ret
      exact ⟨.inl ⟨by rw [← HCE.out]; exact hcm', rfl, by rw [← HCE.out]; exact HPJ.out.1, HPJ.out.2, by rw [HRE.out]; exact HIJ.out, HVJ.out⟩, HO2.out.trans HOJ.out⟩
end

end Go.Proofs.YtljlaopjimkcmaaGreat

/- The contract of goOver, that tells ends to one function. -/
namespace Go.Proofs.YtljlaopjimkcmaaGreat
open Go.RowKit

section
variable {F : Nat} {X : Nat → Prop} {I : Ends → World → Prop} {B P M A G most rb : Nat}
set_option maxRecDepth 100000 in
set_option maxHeartbeats 8000000 in
theorem goOnD_full (n : Nat) (s : St) (row : List Ev) (v : Value) (W : World) (b : Nat) (acc : Ends) (c : Nat)
    (hc : CapC W P M A G most (fnVD rb)) (cp : W.cell? ⟨P, 0, none⟩ = some (.int .i64 (c : Int))) (hcm : most ≤ c) :
    Calls Tryz.prog 41 #[.pointer (some ⟨b, 0, none⟩), v, .pointer (some ⟨P, 0, none⟩), .pointer (some ⟨M, 0, none⟩), .pointer (some ⟨A, 0, none⟩), .pointer (some ⟨G, 0, none⟩)] W (GoR X I B P most n s row v acc c W) := by
  have cm := hc.m
  have hq1 : decide ((most : Int) ≤ (c : Int)) = true := by simp; omega
  have HM : Hid (most < c + s.pre n) := by have := pre_pos n s; show _ < _; omega
  clear hc
  go_enter Tryz.func41, Tryz.ntmps41
  go_wp2_with fail
  go_ret
  exact ⟨.inr ⟨HM.out, rfl⟩, OnlyS.refl _ _⟩

theorem goOnD_any (hA : Apart X B P M A G) (hK : KeepC X I) (hE : EndC F X I 26 (argsD rb)) (hmost : most ≤ 1000) : ∀ n, GoH F X I B P M A G most (fnVD rb) n := by
  intro n
  induction n with
  | zero =>
    intro s row v W b acc c ok hf hl hv hB hs hbP hbX hc cp fp hcm hac hI
    by_cases h : c < most
    · exact goOnD_end hA hK hE 0 s row v W b acc c ok (all_none (by omega)) (by omega) hv hB hs hbP hbX hc cp fp h hmost hac hI
    · exact goOnD_full 0 s row v W b acc c hc cp (by omega)
  | succ n ih =>
    intro s row v W b acc c ok hf hl hv hB hs hbP hbX hc cp fp hcm hac hI
    by_cases h : c < most
    · by_cases hall : s.all = []
      · exact goOnD_end hA hK hE (n + 1) s row v W b acc c ok hall (by omega) hv hB hs hbP hbX hc cp fp h hmost hac hI
      · exact goOnD_step hA hK n ih s row v W b acc c ok hall hf (by omega) hv hB hs hbP hbX hc cp fp h hmost hac hI
    · exact goOnD_full (n + 1) s row v W b acc c hc cp (by omega)
end

/-- What goOver answers. -/
def OverRD (X : Nat → Prop) (I : Ends → World → Prop) (p : Pg) (fuel : Int) (most : Nat) (w : World) (r : Ending) (w' : World) : Prop :=
  (if okPg p fuel then
    ((St.new p fuel.toNat).pre 33 ≤ most ∧ r = .returned (.tuple #[.int .i64 ((St.new p fuel.toNat).pre 33 : Nat), .int .i64 0]) ∧ I ((St.new p fuel.toNat).runs 33 []) w') ∨ (most < (St.new p fuel.toNat).pre 33 ∧ r = .returned (.tuple #[.int .i64 0, .int .i64 5]))
  else r = .returned (.tuple #[.int .i64 0, .int .i64 1])) ∧ OnlyS X w w'

set_option maxRecDepth 100000 in
set_option maxHeartbeats 8000000 in
theorem goOverD_any {X : Nat → Prop} {I : Ends → World → Prop} {rb : Nat} (p : Pg) (a : Option Addr) (cap : Nat) (fuel : Int) (most : Nat) (w : World) (hp : ThreadsAt w a p.threads) (hmost : most ≤ 1000) (hX : ∀ k, X k → k < w.heap.size) (hK : KeepC X I)
    (hE : EndC fuel.toNat X I 26 (argsD rb)) (hI : I [] w) :
    Calls Tryz.prog 20 #[.agg #[.int .i64 p.vars, .int .i64 p.mutexes, .slice a p.threads.length cap], .int .i64 fuel, .int .i64 (most : Int), fnVD rb] w (OverRD X I p fuel most w) := by
  have HP := Lib.hid hp
  have HK := Lib.hid hK
  have HE := Lib.hid hE
  have HI := Lib.hid hI
  have HX := Lib.hid hX
  clear hp hK hE hI hX
  unfold fnVD
  go_enter Tryz.func20, Tryz.ntmps20
  go_wp2_with fail
  have hb3 : Below w.heap.size w (((w.alloc (.cells #[.int .i64 p.vars, .int .i64 p.mutexes, .slice a p.threads.length cap] 24)).alloc (.cells #[.int .i64 (most : Int)] 3)).alloc (.cells #[.func (.func 26) #[] #[.pointer (some ⟨rb, 0, none⟩)]] 65)) := below_alloc3 w _ _ _
  have cm : (((w.alloc (.cells #[.int .i64 p.vars, .int .i64 p.mutexes, .slice a p.threads.length cap] 24)).alloc (.cells #[.int .i64 (most : Int)] 3)).alloc (.cells #[.func (.func 26) #[] #[.pointer (some ⟨rb, 0, none⟩)]] 65)).cell? ⟨w.heap.size + 1, 0, none⟩ = some (.int .i64 (most : Int)) := cell_later (below_alloc1 _ _) (cell_top1 w _ _ _)
  have ca : (((w.alloc (.cells #[.int .i64 p.vars, .int .i64 p.mutexes, .slice a p.threads.length cap] 24)).alloc (.cells #[.int .i64 (most : Int)] 3)).alloc (.cells #[.func (.func 26) #[] #[.pointer (some ⟨rb, 0, none⟩)]] 65)).cell? ⟨w.heap.size + 1 + 1, 0, none⟩ = some (.func (.func 26) #[] #[.pointer (some ⟨rb, 0, none⟩)]) := cell_top2 w _ _ _ _
  have hz3 : w.heap.size + 3 ≤ (((w.alloc (.cells #[.int .i64 p.vars, .int .i64 p.mutexes, .slice a p.threads.length cap] 24)).alloc (.cells #[.int .i64 (most : Int)] 3)).alloc (.cells #[.func (.func 26) #[] #[.pointer (some ⟨rb, 0, none⟩)]] 65)).heap.size := by rw [World.size_alloc, World.size_alloc, World.size_alloc]; omega
  generalize (((w.alloc (.cells #[.int .i64 p.vars, .int .i64 p.mutexes, .slice a p.threads.length cap] 24)).alloc (.cells #[.int .i64 (most : Int)] 3)).alloc (.cells #[.func (.func 26) #[] #[.pointer (some ⟨rb, 0, none⟩)]] 65)) = W3 at *
  refine (new_any p a cap fuel W3 (HP.out.later hb3)).mono ?_
  rintro r W4 hn
  unfold NewR at hn
  by_cases hok : rightPg p = true ∧ 0 ≤ fuel ∧ fuel ≤ 8
  · rw [if_pos hok] at hn
    obtain ⟨g, rfl, hg3, hs4, hb4⟩ := hn
    have HOKN : Hid ((St.new p fuel.toNat).Ok fuel.toNat) := new_ok hok.1 _ (by omega)
    have HRF : Hid (∀ r w', OverRD X I p fuel most w r w' ↔ (((St.new p fuel.toNat).pre 33 ≤ most ∧ r = .returned (.tuple #[.int .i64 ((St.new p fuel.toNat).pre 33 : Nat), .int .i64 0]) ∧ I ((St.new p fuel.toNat).runs 33 []) w') ∨ (most < (St.new p fuel.toNat).pre 33 ∧ r = .returned (.tuple #[.int .i64 0, .int .i64 5]))) ∧ OnlyS X w w') := fun r w' => by unfold OverRD; rw [if_pos (show okPg p fuel from hok)]
    have HSN := Lib.hid hs4
    generalize St.new p fuel.toNat = s0 at *
    have cm4 := cell_later hb4 cm
    have ca4 := cell_later hb4 ca
    have hz4 := hb4.size
    clear hs4 hok
    go_wp2_with fail
    have hb6 : Below W4.heap.size W4 ((W4.alloc (.cells #[.int .i64 0] 3)).alloc (.cells #[.func (.func 41) #[] #[.pointer (some ⟨W4.heap.size, 0, none⟩), .pointer (some ⟨w.heap.size + 1, 0, none⟩), .pointer (some ⟨w.heap.size + 1 + 1, 0, none⟩), .pointer (some ⟨W4.heap.size + 1, 0, none⟩)]] 96)) := below_alloc2 W4 _ _
    have cp6 := cell_later (below_alloc1 (W4.alloc (.cells #[.int .i64 0] 3)) (.cells #[.func (.func 41) #[] #[.pointer (some ⟨W4.heap.size, 0, none⟩), .pointer (some ⟨w.heap.size + 1, 0, none⟩), .pointer (some ⟨w.heap.size + 1 + 1, 0, none⟩), .pointer (some ⟨W4.heap.size + 1, 0, none⟩)]] 96)) (cell_top W4 (.int .i64 0) 3)
    have fp6 := ((below_alloc1 (W4.alloc (.cells #[.int .i64 0] 3)) (.cells #[.func (.func 41) #[] #[.pointer (some ⟨W4.heap.size, 0, none⟩), .pointer (some ⟨w.heap.size + 1, 0, none⟩), .pointer (some ⟨w.heap.size + 1 + 1, 0, none⟩), .pointer (some ⟨W4.heap.size + 1, 0, none⟩)]] 96)).frozen (p := ⟨W4.heap.size, 0, none⟩) (by rw [World.size_alloc]; exact Nat.lt_succ_self _)).trans (frozen_top W4 (.int .i64 0) 3)
    have cg6 := cell_top1 W4 (.cells #[.int .i64 0] 3) (.func (.func 41) #[] #[.pointer (some ⟨W4.heap.size, 0, none⟩), .pointer (some ⟨w.heap.size + 1, 0, none⟩), .pointer (some ⟨w.heap.size + 1 + 1, 0, none⟩), .pointer (some ⟨W4.heap.size + 1, 0, none⟩)]) 96
    have hz6 : ((W4.alloc (.cells #[.int .i64 0] 3)).alloc (.cells #[.func (.func 41) #[] #[.pointer (some ⟨W4.heap.size, 0, none⟩), .pointer (some ⟨w.heap.size + 1, 0, none⟩), .pointer (some ⟨w.heap.size + 1 + 1, 0, none⟩), .pointer (some ⟨W4.heap.size + 1, 0, none⟩)]] 96)).heap.size = W4.heap.size + 2 := by rw [World.size_alloc, World.size_alloc]
    generalize ((W4.alloc (.cells #[.int .i64 0] 3)).alloc (.cells #[.func (.func 41) #[] #[.pointer (some ⟨W4.heap.size, 0, none⟩), .pointer (some ⟨w.heap.size + 1, 0, none⟩), .pointer (some ⟨w.heap.size + 1 + 1, 0, none⟩), .pointer (some ⟨W4.heap.size + 1, 0, none⟩)]] 96)) = W6 at *
    have hb46 : Below w.heap.size w W6 := (hb3.trans (hb4.mono hb3.size)).trans (hb6.mono (by omega))
    have hAp : Apart X W6.heap.size W4.heap.size (w.heap.size + 1) (w.heap.size + 1 + 1) (W4.heap.size + 1) := by
      have hx := HX.out
      refine ⟨by omega, by omega, by omega, by omega, by omega, by omega, by omega, fun h => ?_, fun h => ?_, fun h => ?_, fun h => ?_, fun k h => ?_⟩
      · have := hx _ h; omega
      · have := hx _ h; omega
      · have := hx _ h; omega
      · have := hx _ h; omega
      · have := hx _ h; omega
    have hgs := HSN.out.lt
    have hC6 : CapC W6 W4.heap.size (w.heap.size + 1) (w.heap.size + 1 + 1) (W4.heap.size + 1) most (fnVD rb) := ⟨cell_later hb6 cm4, cell_later hb6 ca4, cg6⟩
    have hI6 : I [] W6 := HK.out [] w W6 HI.out hb46.size (fun k _ hk => hb46.block k hk)
    have HCALL := Lib.hid (goOnD_any hAp HK.out HE.out hmost 33 s0 [] (.slice none 0 0) W6 g [] 0 HOKN.out (by have := fuel_le HOKN.out; omega) (by simp) (ownE_nil _ _) (Nat.le_refl _) (HSN.out.later hb6) (by omega) (fun h => by have := HX.out _ h; omega) hC6 cp6 fp6 (Nat.zero_le _) (Nat.le_refl _) hI6)
    clear hC6 hI6 hAp
    refine HCALL.out.mono ?_
    rintro r W7 ⟨h, ho⟩
    have HOX : Hid (OnlyS X w W7) := by
      have h1 : OnlyS (fun k => X k ∨ k = W4.heap.size) W6 W7 := ho.mono fun k _ hk => by
        rcases hk with h | h | h
        · exact .inr h
        · exact .inl h
        · cases h
      have h2 := (OnlyS.after hb46 ?_ : OnlyS (fun k => X k ∨ k = W4.heap.size) w W7)
      · exact h2.mono fun k hk h => h.resolve_right (by omega)
      · exact h1
    rw [Nat.zero_add] at h
    rcases h with ⟨q1, rfl, q3, q4, q5, _⟩ | ⟨q1, rfl⟩
    · have HFIN : Hid (OverRD X I p fuel most w (.returned (.tuple #[.int .i64 (s0.pre 33 : Nat), .int .i64 0])) W7) := (HRF.out _ _).2 ⟨.inl ⟨q1, rfl, q5⟩, HOX.out⟩
      clear q5
      go_wp2_with fail
      go_ret2
      exact HFIN.out
    · have HFIN : Hid (OverRD X I p fuel most w (.returned (.tuple #[.int .i64 0, .int .i64 5])) W7) := (HRF.out _ _).2 ⟨.inr ⟨q1, rfl⟩, HOX.out⟩
      go_wp2_with fail
      go_ret2
      exact HFIN.out
  · rw [if_neg hok] at hn
    obtain ⟨rfl, hb4⟩ := hn
    have HRF : Hid (OverRD X I p fuel most w (.returned (.tuple #[.int .i64 0, .int .i64 1])) W4) := by
      unfold OverRD
      rw [if_neg (show ¬ okPg p fuel from hok)]
      exact ⟨rfl, .of_below (hb3.trans (hb4.mono hb3.size))⟩
    clear hok
    go_wp2_with fail
    go_ret2
    exact HRF.out

end Go.Proofs.YtljlaopjimkcmaaGreat

/- The contract of walk's Deadlocks. -/
namespace Go.Proofs.YtljlaopjimkcmaaGreat
open Go.RowKit

theorem dead_endC (F rb : Nat) : EndC F (fun k => k = rb) (DI rb) 26 (argsD rb) :=
  fun acc W b s row a cap hI ok hs _ _ _ hac => deadEnd_any rb acc W b s row a cap hI (by omega) ok hs
def DeadR (p : Pg) (fuel : Int) (most : Nat) (w : World) (r : Ending) (w' : World) : Prop :=
  (if okPg p fuel then (preW p fuel ≤ most ∧ r = .returned (.tuple #[.int .i64 (stuckN (runsW p fuel) : Nat), .int .i64 0])) ∨ (most < preW p fuel ∧ r = .returned (.tuple #[.int .i64 0, .int .i64 5]))
  else r = .returned (.tuple #[.int .i64 0, .int .i64 1])) ∧ Below w.heap.size w w'

set_option maxRecDepth 100000 in
set_option maxHeartbeats 8000000 in
theorem deadlocks_any (p : Pg) (a : Option Addr) (cap : Nat) (fuel : Int) (most : Nat) (w : World) (hp : ThreadsAt w a p.threads) (hmost : most ≤ 1000) :
    Calls Tryz.prog 11 #[.agg #[.int .i64 p.vars, .int .i64 p.mutexes, .slice a p.threads.length cap], .int .i64 fuel, .int .i64 (most : Int)] w (DeadR p fuel most w) := by
  have HP := Lib.hid hp
  clear hp
  go_enter Tryz.func11, Tryz.ntmps11
  go_wp2_with fail
  have hb2 : Below w.heap.size w ((w.alloc (.cells #[.int .i64 p.vars, .int .i64 p.mutexes, .slice a p.threads.length cap] 24)).alloc (.cells #[.int .i64 0] 3)) := below_alloc2 w _ _
  have hz2 : ((w.alloc (.cells #[.int .i64 p.vars, .int .i64 p.mutexes, .slice a p.threads.length cap] 24)).alloc (.cells #[.int .i64 0] 3)).heap.size = w.heap.size + 2 := by rw [World.size_alloc, World.size_alloc]
  have hI : DI (w.heap.size + 1) [] ((w.alloc (.cells #[.int .i64 p.vars, .int .i64 p.mutexes, .slice a p.threads.length cap] 24)).alloc (.cells #[.int .i64 0] 3)) := ⟨by simp, cell_top1 w _ _ _, by have h := frozen_top (w.alloc (.cells #[.int .i64 p.vars, .int .i64 p.mutexes, .slice a p.threads.length cap] 24)) (.int .i64 0) 3; rwa [World.size_alloc] at h⟩
  generalize ((w.alloc (.cells #[.int .i64 p.vars, .int .i64 p.mutexes, .slice a p.threads.length cap] 24)).alloc (.cells #[.int .i64 0] 3)) = W2 at *
  have HC := Lib.hid (goOverD_any (X := fun k => k = w.heap.size + 1) (I := DI (w.heap.size + 1)) p a cap fuel most W2 (HP.out.later hb2) hmost (fun k h => by omega) (DI_keep _) (dead_endC _ _) hI)
  unfold fnVD at HC
  clear hI
  refine HC.out.mono ?_
  rintro r W3 ⟨h, ho⟩
  have hb3 : Below w.heap.size w W3 := hb2.trans (ho.below hb2.size (fun k h => by omega))
  have HDR : Hid (∀ r, DeadR p fuel most w r W3 ↔ (if okPg p fuel then (preW p fuel ≤ most ∧ r = .returned (.tuple #[.int .i64 (stuckN (runsW p fuel) : Nat), .int .i64 0])) ∨ (most < preW p fuel ∧ r = .returned (.tuple #[.int .i64 0, .int .i64 5]))
    else r = .returned (.tuple #[.int .i64 0, .int .i64 1])) ∧ Below w.heap.size w W3) := fun _ => Iff.rfl
  by_cases hok : okPg p fuel
  · rw [if_pos hok] at h
    have HOK := Lib.hid hok
    rcases h with ⟨h1, rfl, h2⟩ | ⟨h1, rfl⟩
    · have HX : Hid (preW p fuel ≤ most) := h1
      have HI3 : Hid (DI (w.heap.size + 1) (runsW p fuel) W3) := h2
      have c3 := HI3.out.2.1
      have HF : Hid (DeadR p fuel most w (.returned (.tuple #[.int .i64 (stuckN (runsW p fuel) : Nat), .int .i64 0])) W3) := (HDR.out _).2 ⟨by rw [if_pos HOK.out]; exact .inl ⟨HX.out, rfl⟩, hb3⟩
      clear h1 h2 hok HDR
      generalize stuckN (runsW p fuel) = N at *
      generalize (St.new p fuel.toNat).pre 33 = M at *
      go_wp2_with fail
      go_ret2
      exact HF.out
    · have HX : Hid (most < preW p fuel) := h1
      have HF : Hid (DeadR p fuel most w (.returned (.tuple #[.int .i64 0, .int .i64 5])) W3) := (HDR.out _).2 ⟨by rw [if_pos HOK.out]; exact .inr ⟨HX.out, rfl⟩, hb3⟩
      clear h1 hok HDR
      go_wp2_with fail
      go_ret2
      exact HF.out
  · have h' := h
    rw [if_neg hok] at h'
    subst h'
    have HF : Hid (DeadR p fuel most w (.returned (.tuple #[.int .i64 0, .int .i64 1])) W3) := (HDR.out _).2 ⟨by rw [if_neg hok], hb3⟩
    clear hok HDR h
    go_wp2_with fail
    go_ret2
    exact HF.out

end Go.Proofs.YtljlaopjimkcmaaGreat

/- The contract of walk's All. -/
namespace Go.Proofs.YtljlaopjimkcmaaGreat
open Go.RowKit Go.Maps Go.Sort

theorem all_endC (F kb mb rb : Nat) (h1 : kb ≠ mb) (h2 : kb ≠ rb) (h3 : mb ≠ rb) : EndC F (AX kb mb rb) (AI kb mb rb) 21 (argsA kb rb) :=
  fun acc W b s row a cap hI _ _ _ hrow _ hac => allEnd_any kb mb rb h1 h2 h3 acc W b s row a cap hI (by omega) hrow
/-- A row of texts of one's own. -/
def OwnS (w : World) (B : Nat) (v : Value) (ks : List Key) : Prop := w.ownsRow B 9 1 v ks.length (ks.map encStr)
theorem OwnS.slice {w : World} {B : Nat} {v : Value} {ks : List Key} (h : OwnS w B v ks) : ∃ a c, v = .slice a ks.length c := by
  obtain ⟨_, ⟨rfl, h2⟩ | ⟨g, cap, cur, rfl, _⟩⟩ := h
  · exact ⟨none, 0, by rw [h2]⟩
  · exact ⟨_, _, rfl⟩
def zeroSum : Value := .agg #[.slice none 0 0, .int .i64 0, .int .i64 0]
def AllR (p : Pg) (fuel : Int) (most : Nat) (w : World) (r : Ending) (w' : World) : Prop :=
  (if okPg p fuel then (preW p fuel ≤ most ∧ ∃ v, r = .returned (.tuple #[.agg #[v, .int .i64 ((runsW p fuel).length : Nat), .int .i64 (preW p fuel : Nat)], .int .i64 0]) ∧ OwnS w' w.heap.size v (sortK (keysOf (runsW p fuel)))) ∨ (most < preW p fuel ∧ r = .returned (.tuple #[zeroSum, .int .i64 5]))
  else r = .returned (.tuple #[zeroSum, .int .i64 1])) ∧ Below w.heap.size w w'

/-- What the two calls of the library come to. -/
theorem sorted_keys {W : World} {mb n : Nat} {ks : List Key} (h : W.ownsMap Tryz.prog 9 unitElem mb n (setK ks)) (hn : n ≤ 1000000) :
    Calls Tryz.prog 22 #[.func (.func 45) #[] #[.pointer (some ⟨W.heap.size, 0, none⟩)]] (W.alloc (.cells #[.map (some mb)] 62)) fun r w' => ∃ v, r = .returned v ∧ OwnS w' (W.alloc (.cells #[.map (some mb)] 62)).heap.size v (sortK ks) ∧ Below (W.alloc (.cells #[.map (some mb)] 62)).heap.size (W.alloc (.cells #[.map (some mb)] 62)) w' := by
  have hsz := h.size_le
  refine (callsIn_wide.1 (Tryz.slices_Sorted_keys_22_23 mb n (setK ks) unitElem W h (by unfold maxLen; omega) (by omega))).mono ?_
  rintro r w' ⟨v, ss, rfl, hp, ho, _, hb⟩
  obtain ⟨h1, h2⟩ := keys_perm h hp
  have e := sortK_of_perm h1 h2
  refine ⟨v, rfl, ?_, hb⟩
  unfold OwnS
  rw [← e, List.length_mergeSort]
  exact ho

theorem ai_start (U : World) : AI (U.heap.size + 1) U.heap.size (U.heap.size + 1 + 1) [] (((U.alloc (.map #[] 0)).alloc (.cells #[.map (some U.heap.size)] 62)).alloc (.cells #[.int .i64 0] 3)) := by
  refine ⟨by simp, cell_later (below_alloc1 _ _) (cell_top1 U _ _ _), ((World.ownsMap_made U _ _ _).alloc _).alloc _, cell_top2 U _ _ _ _, ?_⟩
  have h := frozen_top ((U.alloc (.map #[] 0)).alloc (.cells #[.map (some U.heap.size)] 62)) (.int .i64 0) 3
  rwa [World.size_alloc, World.size_alloc] at h
theorem sum_cells (w : World) (o : Obj) : ∀ j, j < 3 → ((w.alloc o).alloc (.cells #[.slice none 0 0, .int .i64 0, .int .i64 0] 30)).cell? ⟨w.heap.size + 1, j, none⟩ = #[Value.slice none 0 0, .int .i64 0, .int .i64 0][j]? ∧ ((w.alloc o).alloc (.cells #[.slice none 0 0, .int .i64 0, .int .i64 0] 30)).frozen? ⟨w.heap.size + 1, j, none⟩ = false := by
  intro j hj
  have h := heap_alloc_new (w.alloc o) (.cells #[.slice none 0 0, .int .i64 0, .int .i64 0] 30)
  rw [World.size_alloc] at h
  refine ⟨?_, ?_⟩
  · unfold World.cell?
    dsimp only
    rw [h]
    rfl
  · unfold World.frozen?
    dsimp only
    rw [h]
    rfl

set_option maxRecDepth 100000 in
set_option maxHeartbeats 8000000 in
theorem allF_any (p : Pg) (a : Option Addr) (cap : Nat) (fuel : Int) (most : Nat) (w : World) (hp : ThreadsAt w a p.threads) (hmost : most ≤ 1000) :
    Calls Tryz.prog 9 #[.agg #[.int .i64 p.vars, .int .i64 p.mutexes, .slice a p.threads.length cap], .int .i64 fuel, .int .i64 (most : Int)] w (AllR p fuel most w) := by
  have HP := Lib.hid hp
  clear hp
  have hmm := @run_makeMap Tryz.prog
  go_enter Tryz.func9, Tryz.ntmps9
  go_wp2_with fail
  have hU : ((w.alloc (.cells #[.int .i64 p.vars, .int .i64 p.mutexes, .slice a p.threads.length cap] 24)).alloc (.cells #[.slice none 0 0, .int .i64 0, .int .i64 0] 30)).heap.size = w.heap.size + 1 + 1 := by rw [World.size_alloc, World.size_alloc]
  have hI := ai_start ((w.alloc (.cells #[.int .i64 p.vars, .int .i64 p.mutexes, .slice a p.threads.length cap] 24)).alloc (.cells #[.slice none 0 0, .int .i64 0, .int .i64 0] 30))
  rw [hU] at hI
  have hb2 : Below w.heap.size w ((w.alloc (.cells #[.int .i64 p.vars, .int .i64 p.mutexes, .slice a p.threads.length cap] 24)).alloc (.cells #[.slice none 0 0, .int .i64 0, .int .i64 0] 30)) := below_alloc2 w _ _
  have hb25 := below_alloc3 ((w.alloc (.cells #[.int .i64 p.vars, .int .i64 p.mutexes, .slice a p.threads.length cap] 24)).alloc (.cells #[.slice none 0 0, .int .i64 0, .int .i64 0] 30)) (.map #[] 0) (.cells #[.map (some (w.heap.size + 1 + 1))] 62) (.cells #[.int .i64 0] 3)
  have hsc := sum_cells w (.cells #[.int .i64 p.vars, .int .i64 p.mutexes, .slice a p.threads.length cap] 24)
  have hb5 : Below w.heap.size w (((((w.alloc (.cells #[.int .i64 p.vars, .int .i64 p.mutexes, .slice a p.threads.length cap] 24)).alloc (.cells #[.slice none 0 0, .int .i64 0, .int .i64 0] 30)).alloc (.map #[] 0)).alloc (.cells #[.map (some (w.heap.size + 1 + 1))] 62)).alloc (.cells #[.int .i64 0] 3)) := hb2.trans (hb25.mono hb2.size)
  have hz5 : (((((w.alloc (.cells #[.int .i64 p.vars, .int .i64 p.mutexes, .slice a p.threads.length cap] 24)).alloc (.cells #[.slice none 0 0, .int .i64 0, .int .i64 0] 30)).alloc (.map #[] 0)).alloc (.cells #[.map (some (w.heap.size + 1 + 1))] 62)).alloc (.cells #[.int .i64 0] 3)).heap.size = w.heap.size + 5 := by rw [World.size_alloc, World.size_alloc, World.size_alloc, hU]
  have hs5 : ∀ j, j < 3 → (((((w.alloc (.cells #[.int .i64 p.vars, .int .i64 p.mutexes, .slice a p.threads.length cap] 24)).alloc (.cells #[.slice none 0 0, .int .i64 0, .int .i64 0] 30)).alloc (.map #[] 0)).alloc (.cells #[.map (some (w.heap.size + 1 + 1))] 62)).alloc (.cells #[.int .i64 0] 3)).cell? ⟨w.heap.size + 1, j, none⟩ = #[Value.slice none 0 0, .int .i64 0, .int .i64 0][j]? ∧ (((((w.alloc (.cells #[.int .i64 p.vars, .int .i64 p.mutexes, .slice a p.threads.length cap] 24)).alloc (.cells #[.slice none 0 0, .int .i64 0, .int .i64 0] 30)).alloc (.map #[] 0)).alloc (.cells #[.map (some (w.heap.size + 1 + 1))] 62)).alloc (.cells #[.int .i64 0] 3)).frozen? ⟨w.heap.size + 1, j, none⟩ = false := fun j hj => by
    have h := hsc j hj
    have hlt : w.heap.size + 1 < w.heap.size + 1 + 1 := by omega
    rw [← hU] at hlt
    exact ⟨(hb25.cell (p := ⟨w.heap.size + 1, j, none⟩) hlt).trans h.1, (hb25.frozen (p := ⟨w.heap.size + 1, j, none⟩) hlt).trans h.2⟩
  clear hb25 hsc hU hb2
  generalize (((((w.alloc (.cells #[.int .i64 p.vars, .int .i64 p.mutexes, .slice a p.threads.length cap] 24)).alloc (.cells #[.slice none 0 0, .int .i64 0, .int .i64 0] 30)).alloc (.map #[] 0)).alloc (.cells #[.map (some (w.heap.size + 1 + 1))] 62)).alloc (.cells #[.int .i64 0] 3)) = W5 at *
  have HC := Lib.hid (goOverA_any (X := AX (w.heap.size + 1 + 1 + 1) (w.heap.size + 1 + 1) (w.heap.size + 1 + 1 + 1 + 1)) (I := AI (w.heap.size + 1 + 1 + 1) (w.heap.size + 1 + 1) (w.heap.size + 1 + 1 + 1 + 1)) p a cap fuel most W5 (HP.out.later hb5) hmost (fun k h => by rcases h with h | h | h <;> omega) (AI_keep _ _ _) (all_endC _ _ _ _ (by omega) (by omega) (by omega)) hI)
  unfold fnVA at HC
  clear hI
  refine HC.out.mono ?_
  rintro r W6 ⟨h, ho⟩
  have hb6 : Below w.heap.size w W6 := hb5.trans (ho.below hb5.size (fun k h => by rcases h with h | h | h <;> omega))
  have hz6 := ho.size
  have hnX : ¬ AX (w.heap.size + 1 + 1 + 1) (w.heap.size + 1 + 1) (w.heap.size + 1 + 1 + 1 + 1) (w.heap.size + 1) := by rintro (h | h | h) <;> omega
  have hblk := ho.block (w.heap.size + 1) (by omega) hnX
  have hs6 : ∀ j, j < 3 → W6.cell? ⟨w.heap.size + 1, j, none⟩ = #[Value.slice none 0 0, .int .i64 0, .int .i64 0][j]? ∧ W6.frozen? ⟨w.heap.size + 1, j, none⟩ = false := fun j hj =>
    ⟨(World.cell?_of_block (w := W5) (a := ⟨w.heap.size + 1, j, none⟩) hblk).trans (hs5 j hj).1, (World.frozen?_of_block (w := W5) (a := ⟨w.heap.size + 1, j, none⟩) hblk).trans (hs5 j hj).2⟩
  have x0 : W6.cell? ⟨w.heap.size + 1, 0, none⟩ = some (.slice none 0 0) := (hs6 0 (by omega)).1
  have x1 : W6.cell? ⟨w.heap.size + 1, 1, none⟩ = some (.int .i64 0) := (hs6 1 (by omega)).1
  have x2 : W6.cell? ⟨w.heap.size + 1, 2, none⟩ = some (.int .i64 0) := (hs6 2 (by omega)).1
  have f0 := (hs6 0 (by omega)).2
  have f1 := (hs6 1 (by omega)).2
  have f2 := (hs6 2 (by omega)).2
  have HAR : Hid (∀ r w', AllR p fuel most w r w' ↔ (if okPg p fuel then (preW p fuel ≤ most ∧ ∃ v, r = .returned (.tuple #[.agg #[v, .int .i64 ((runsW p fuel).length : Nat), .int .i64 (preW p fuel : Nat)], .int .i64 0]) ∧ OwnS w' w.heap.size v (sortK (keysOf (runsW p fuel)))) ∨ (most < preW p fuel ∧ r = .returned (.tuple #[zeroSum, .int .i64 5]))
    else r = .returned (.tuple #[zeroSum, .int .i64 1])) ∧ Below w.heap.size w w') := fun _ _ => Iff.rfl
  have HSET : Hid (∀ v0 v1 v2 (W : World), Below w.heap.size w W → Below w.heap.size w (((W.setCell ⟨w.heap.size + 1, 0, none⟩ v0).setCell ⟨w.heap.size + 1, 1, none⟩ v1).setCell ⟨w.heap.size + 1, 2, none⟩ v2)) := fun v0 v1 v2 W h =>
    ((h.setCell (p := ⟨w.heap.size + 1, 0, none⟩) (by show _ ≤ w.heap.size + 1; omega) _).setCell (p := ⟨w.heap.size + 1, 1, none⟩) (by show _ ≤ w.heap.size + 1; omega) _).setCell (p := ⟨w.heap.size + 1, 2, none⟩) (by show _ ≤ w.heap.size + 1; omega) _
  clear hs5 hs6 hblk ho HC hmm
  by_cases hok : okPg p fuel
  · rw [if_pos hok] at h
    have HOK := Lib.hid hok
    rcases h with ⟨h1, rfl, h2⟩ | ⟨h1, rfl⟩
    · have HX : Hid (preW p fuel ≤ most) := h1
      have HI6 : Hid (AI (w.heap.size + 1 + 1 + 1) (w.heap.size + 1 + 1) (w.heap.size + 1 + 1 + 1 + 1) (runsW p fuel) W6) := h2
      have ck := HI6.out.2.1
      have cr := HI6.out.2.2.2.1
      have hkl : w.heap.size + 1 + 1 + 1 < W6.heap.size := cell_block ck
      have hrl : w.heap.size + 1 + 1 + 1 + 1 < W6.heap.size := cell_block cr
      have hown := HI6.out.2.2.1
      have hac := HI6.out.1
      have hB6 := hb6.size
      have HYES : Hid (∀ w' v, OwnS w' w.heap.size v (sortK (keysOf (runsW p fuel))) → Below w.heap.size w w' → AllR p fuel most w (.returned (.tuple #[.agg #[v, .int .i64 ((runsW p fuel).length : Nat), .int .i64 (preW p fuel : Nat)], .int .i64 0])) w') := fun w' v h1 h2 => (HAR.out _ _).2 ⟨by rw [if_pos HOK.out]; exact .inl ⟨HX.out, v, rfl, h1⟩, h2⟩
      have HKEYS : Hid (∀ W, Calls Tryz.prog 23 #[.map (some (w.heap.size + 1 + 1))] W fun e w' => e = .returned (.func (.func 45) #[] #[.pointer (some ⟨W.heap.size, 0, none⟩)]) ∧ w' = W.alloc (.cells #[.map (some (w.heap.size + 1 + 1))] 62)) := fun W => callsIn_wide.1 (Tryz.maps_Keys_23 _ W)
      have HSRT : Hid (∀ w7, w7 = W6.drew.alloc (.cells #[.map (some (w.heap.size + 1 + 1))] 62) → Calls Tryz.prog 22 #[.func (.func 45) #[] #[.pointer (some ⟨W6.heap.size, 0, none⟩)]] w7 fun r w' => ∃ v, r = .returned v ∧ OwnS w' w7.heap.size v (sortK (keysOf (runsW p fuel))) ∧ Below w7.heap.size w7 w') := fun w7 e => by
        subst e
        exact sorted_keys (W := W6.drew) hown.drew hac
      have HQ : Hid (∀ W, Below W6.heap.size W6 W → W.cell? ⟨w.heap.size + 1 + 1 + 1, 0, none⟩ = some (.map (some (w.heap.size + 1 + 1))) ∧ W.cell? ⟨w.heap.size + 1 + 1 + 1 + 1, 0, none⟩ = some (.int .i64 ((runsW p fuel).length : Int))) := fun W h => ⟨cell_later h ck, cell_later h cr⟩
      have HQS : Hid (∀ W v0 v1 v2, Below W6.heap.size W6 W → (((W.setCell ⟨w.heap.size + 1, 0, none⟩ v0).setCell ⟨w.heap.size + 1, 1, none⟩ v1).setCell ⟨w.heap.size + 1, 2, none⟩ v2).cell? ⟨w.heap.size + 1 + 1 + 1, 0, none⟩ = some (.map (some (w.heap.size + 1 + 1))) ∧ (((W.setCell ⟨w.heap.size + 1, 0, none⟩ v0).setCell ⟨w.heap.size + 1, 1, none⟩ v1).setCell ⟨w.heap.size + 1, 2, none⟩ v2).cell? ⟨w.heap.size + 1 + 1 + 1 + 1, 0, none⟩ = some (.int .i64 ((runsW p fuel).length : Int))) := fun W v0 v1 v2 h => by
        have hq := HQ.out W h
        refine ⟨?_, ?_⟩
        · rw [World.cell?_of_block (w := W) (a := ⟨w.heap.size + 1 + 1 + 1, 0, none⟩) (by rw [Below.heap_setCell _ _ _ _ (by show w.heap.size + 1 + 1 + 1 ≠ w.heap.size + 1; omega), Below.heap_setCell _ _ _ _ (by show w.heap.size + 1 + 1 + 1 ≠ w.heap.size + 1; omega), Below.heap_setCell _ _ _ _ (by show w.heap.size + 1 + 1 + 1 ≠ w.heap.size + 1; omega)])]
          exact hq.1
        · rw [World.cell?_of_block (w := W) (a := ⟨w.heap.size + 1 + 1 + 1 + 1, 0, none⟩) (by rw [Below.heap_setCell _ _ _ _ (by show w.heap.size + 1 + 1 + 1 + 1 ≠ w.heap.size + 1; omega), Below.heap_setCell _ _ _ _ (by show w.heap.size + 1 + 1 + 1 + 1 ≠ w.heap.size + 1; omega), Below.heap_setCell _ _ _ _ (by show w.heap.size + 1 + 1 + 1 + 1 ≠ w.heap.size + 1; omega)])]
          exact hq.2
      have HSC : Hid (∀ W, Below W6.heap.size W6 W → (W.cell? ⟨w.heap.size + 1, 0, none⟩ = some (.slice none 0 0) ∧ W.cell? ⟨w.heap.size + 1, 1, none⟩ = some (.int .i64 0) ∧ W.cell? ⟨w.heap.size + 1, 2, none⟩ = some (.int .i64 0)) ∧ W.frozen? ⟨w.heap.size + 1, 0, none⟩ = false ∧ W.frozen? ⟨w.heap.size + 1, 1, none⟩ = false ∧ W.frozen? ⟨w.heap.size + 1, 2, none⟩ = false) := fun W h =>
        have hl : w.heap.size + 1 < W6.heap.size := by omega
        ⟨⟨cell_later h x0, cell_later h x1, cell_later h x2⟩, (h.frozen (p := ⟨w.heap.size + 1, 0, none⟩) hl).trans f0, (h.frozen (p := ⟨w.heap.size + 1, 1, none⟩) hl).trans f1, (h.frozen (p := ⟨w.heap.size + 1, 2, none⟩) hl).trans f2⟩
      have HPR : Hid ((St.new p fuel.toNat).pre 33 = preW p fuel) := rfl
      rw [HPR.out]
      clear h1 h2 hok HAR hown x0 x1 x2 f0 f1 f2
      generalize sortK (keysOf (runsW p fuel)) = KS at *
      generalize (runsW p fuel).length = N at *
      generalize preW p fuel = M at *
      have hQ6 := HQ.out W6.drew (Below.refl _ _).drew
      go_wp2_with fail
      go_region_held3 (fun W => W.cell? ⟨w.heap.size + 1 + 1 + 1, 0, none⟩ = some (.map (some (w.heap.size + 1 + 1))) ∧ W.cell? ⟨w.heap.size + 1 + 1 + 1 + 1, 0, none⟩ = some (.int .i64 (N : Int)))
        (first | exact hQ6 | exact HQ7.out | exact HQ8.out | exact HQS.out _ _ _ _ hb8')
        (first
          | (go_at_call 23; ((with_reducible refine (HKEYS.out _).mono ?_); rintro r w7 ⟨rfl, hw7⟩; have HS7 := Lib.hid (HSRT.out w7 hw7); have hb7 : Below W6.heap.size W6 w7 := (by rw [hw7]; exact (Below.refl _ _).drew.alloc (Nat.le_refl _) _); have HQ7 := Lib.hid (HQ.out w7 hb7); clear hw7))
          | (go_at_call 22; ((with_reducible refine HS7.out.mono ?_); rintro r w8 ⟨v, rfl, hv8, hb8⟩; obtain ⟨av, cv, hvs⟩ := OwnS.slice hv8; subst hvs; have hb8' := hb7.trans (hb8.mono hb7.size); have HQ8 := Lib.hid (HQ.out w8 hb8'); have HV8 := Lib.hid hv8; obtain ⟨⟨x0, x1, x2⟩, f0, f1, f2⟩ := HSC.out w8 hb8'; clear hv8 hb8)))
      have HFB := Lib.hid (HSET.out (.slice av KS.length cv) (.int .i64 (N : Int)) (.int .i64 (M : Int)) w8 (hb6.trans (hb8'.mono hB6)))
      have HFV : Hid (OwnS (((w8.setCell ⟨w.heap.size + 1, 0, none⟩ (.slice av KS.length cv)).setCell ⟨w.heap.size + 1, 1, none⟩ (.int .i64 (N : Int))).setCell ⟨w.heap.size + 1, 2, none⟩ (.int .i64 (M : Int))) w.heap.size (.slice av KS.length cv) KS) := by
        have hl : w.heap.size + 1 < w7.heap.size := by have := hb7.size; omega
        exact ownsRow_base (ownsRow_setCell_below (ownsRow_setCell_below (ownsRow_setCell_below HV8.out (a := ⟨w.heap.size + 1, 0, none⟩) hl _) (a := ⟨w.heap.size + 1, 1, none⟩) hl _) (a := ⟨w.heap.size + 1, 2, none⟩) hl _) (by omega)
      have HF := Lib.hid (HYES.out _ _ HFV.out HFB.out)
      go_wp2_with fail
      refine bodyPost_ret (v := .tuple #[.agg #[.slice av KS.length cv, .int .i64 (N : Int), .int .i64 (M : Int)], .int .i64 0]) (by simp [results, Tryz.results9, go_sem, x0, x1, x2]) rfl ?_
      exact HF.out
    · have HX : Hid (most < preW p fuel) := h1
      have HF : Hid (AllR p fuel most w (.returned (.tuple #[zeroSum, .int .i64 5])) (((W6.setCell ⟨w.heap.size + 1, 0, none⟩ (.slice none 0 0)).setCell ⟨w.heap.size + 1, 1, none⟩ (.int .i64 0)).setCell ⟨w.heap.size + 1, 2, none⟩ (.int .i64 0))) := (HAR.out _ _).2 ⟨by rw [if_pos HOK.out]; exact .inr ⟨HX.out, rfl⟩, HSET.out _ _ _ _ hb6⟩
      clear h1 hok HAR
      go_wp2_with fail
      refine bodyPost_ret (v := .tuple #[zeroSum, .int .i64 5]) (by simp [results, Tryz.results9, go_sem, zeroSum, x0, x1, x2]) rfl ?_
      exact HF.out
  · have h' := h
    rw [if_neg hok] at h'
    subst h'
    have HF : Hid (AllR p fuel most w (.returned (.tuple #[zeroSum, .int .i64 1])) (((W6.setCell ⟨w.heap.size + 1, 0, none⟩ (.slice none 0 0)).setCell ⟨w.heap.size + 1, 1, none⟩ (.int .i64 0)).setCell ⟨w.heap.size + 1, 2, none⟩ (.int .i64 0))) := (HAR.out _ _).2 ⟨by rw [if_neg hok], HSET.out _ _ _ _ hb6⟩
    clear hok HAR h
    go_wp2_with fail
    refine bodyPost_ret (v := .tuple #[zeroSum, .int .i64 1]) (by simp [results, Tryz.results9, go_sem, zeroSum, x0, x1, x2]) rfl ?_
    exact HF.out

end Go.Proofs.YtljlaopjimkcmaaGreat

/- The document's put, plainly: a text put in, in order, each once. -/
namespace Go.Proofs.YtljlaopjimkcmaaGreat
open Go.RowKit

/-- Put in ahead of the first greater one. -/
def insK (k : Key) : List Key → List Key
  | [] => [k]
  | x :: l => if k < x then k :: x :: l else x :: insK k l
def putK (l : List Key) (k : Key) : List Key := if k ∈ l then l else insK k l
theorem insK_len (k : Key) : ∀ l, (insK k l).length = l.length + 1
  | [] => rfl
  | x :: l => by
    unfold insK
    split
    · rfl
    · simp [insK_len k l]
theorem putK_len (l : List Key) (k : Key) : (putK l k).length ≤ l.length + 1 := by
  unfold putK
  split
  · omega
  · rw [insK_len]; omega
theorem mem_insK {k x : Key} : ∀ {l : List Key}, x ∈ insK k l ↔ x = k ∨ x ∈ l
  | [] => by simp [insK]
  | y :: l => by
    unfold insK
    split
    · simp
    · rw [List.mem_cons, mem_insK, List.mem_cons]
      constructor
      · rintro (h | h | h)
        · exact .inr (.inl h)
        · exact .inl h
        · exact .inr (.inr h)
      · rintro (h | h | h)
        · exact .inr (.inl h)
        · exact .inl h
        · exact .inr (.inr h)
theorem mem_putK {l : List Key} {k x : Key} : x ∈ putK l k ↔ x = k ∨ x ∈ l := by
  unfold putK
  split
  · rename_i h
    exact ⟨.inr, fun e => e.elim (fun e => e ▸ h) id⟩
  · exact mem_insK
theorem insK_sorted {k : Key} : ∀ {l : List Key}, l.Pairwise (· < ·) → k ∉ l → (insK k l).Pairwise (· < ·)
  | [], _, _ => by simp [insK]
  | y :: l, h, hk => by
    obtain ⟨h1, h2⟩ := List.pairwise_cons.1 h
    unfold insK
    split
    · rename_i hlt
      exact List.pairwise_cons.2 ⟨fun z hz => by
        rcases List.mem_cons.1 hz with rfl | hz
        · exact hlt
        · exact List.lt_trans hlt (h1 z hz), h⟩
    · rename_i hlt
      refine List.pairwise_cons.2 ⟨fun z hz => ?_, insK_sorted h2 (fun e => hk (List.mem_cons_of_mem _ e))⟩
      rcases mem_insK.1 hz with rfl | hz
      · have hle : y ≤ z := by
          rcases List.le_total y z with h | h
          · exact h
          · exact absurd (by
              rcases List.le_iff_lt_or_eq.1 h with h | h
              · exact h
              · exact absurd (h ▸ List.mem_cons_self) hk) hlt
        rcases List.le_iff_lt_or_eq.1 hle with h | h
        · exact h
        · exact absurd (h ▸ List.mem_cons_self) hk
      · exact h1 z hz
theorem putK_sorted {l : List Key} {k : Key} (h : l.Pairwise (· < ·)) : (putK l k).Pairwise (· < ·) := by
  unfold putK
  split
  · exact h
  · rename_i hk
    exact insK_sorted h hk
theorem putAll (ks : List Key) : ∀ l : List Key, l.Pairwise (· < ·) → (ks.foldl putK l).Pairwise (· < ·) ∧ ∀ x, x ∈ ks.foldl putK l ↔ x ∈ ks ∨ x ∈ l := by
  induction ks with
  | nil => intro l h; exact ⟨h, fun x => by simp⟩
  | cons k ks ih =>
    intro l h
    obtain ⟨h1, h2⟩ := ih (putK l k) (putK_sorted h)
    refine ⟨h1, fun x => ?_⟩
    rw [List.foldl_cons, h2, mem_putK, List.mem_cons]
    constructor
    · rintro (h | h | h)
      · exact .inl (.inr h)
      · exact .inl (.inl h)
      · exact .inr h
    · rintro ((h | h) | h)
      · exact .inr (.inl h)
      · exact .inl h
      · exact .inr (.inr h)
/-- What is put in one by one is what stands sorted, each once. -/
theorem putAll_sortK (ks : List Key) : ks.foldl putK [] = sortK ks := by
  obtain ⟨h1, h2⟩ := putAll ks [] List.Pairwise.nil
  refine sortK_unique (h1.imp fun {a b} h => ?_) (h1.imp fun {a b} h e => ?_) fun x => ?_
  · simp only [decide_eq_true_eq]
    exact List.le_of_lt h
  · subst e
    exact List.lt_irrefl _ h
  · rw [h2]; simp

/-- Part of the way. -/
def PutP (k : Key) (l : List Key) (j : Nat) (d : Bool) (R : List Key) : Prop :=
  k ∉ l.take j ∧ ((d = false ∧ R = l.take j ∧ insK k l = l.take j ++ insK k (l.drop j)) ∨ (d = true ∧ insK k l = R ++ l.drop j))
theorem putP_zero (k : Key) (l : List Key) : PutP k l 0 false [] := ⟨by simp, .inl ⟨rfl, rfl, rfl⟩⟩
theorem putP_not {k : Key} {l : List Key} {j : Nat} (h : k ∉ l.take j) (hj : j < l.length) (hne : l[j] ≠ k) : k ∉ l.take (j + 1) := by
  rw [List.take_succ_eq_append_getElem hj, List.mem_append]
  rintro (e | e)
  · exact h e
  · exact hne (List.mem_singleton.1 e).symm
theorem putP_lt {k : Key} {l : List Key} {j : Nat} {R : List Key} (h : PutP k l j false R) (hj : j < l.length) (hne : l[j] ≠ k) (hlt : k < l[j]) : PutP k l (j + 1) true (R ++ [k] ++ [l[j]]) := by
  obtain ⟨h0, ⟨_, h2, h3⟩ | ⟨h1, _⟩⟩ := h
  · refine ⟨putP_not h0 hj hne, .inr ⟨rfl, ?_⟩⟩
    rw [h3, List.drop_eq_getElem_cons hj, insK, if_pos hlt, h2]
    simp
  · cases h1
theorem putP_ge {k : Key} {l : List Key} {j : Nat} {R : List Key} (h : PutP k l j false R) (hj : j < l.length) (hne : l[j] ≠ k) (hlt : ¬ k < l[j]) : PutP k l (j + 1) false (R ++ [l[j]]) := by
  obtain ⟨h0, ⟨_, h2, h3⟩ | ⟨h1, _⟩⟩ := h
  · have e1 : R ++ [l[j]] = l.take (j + 1) := by rw [h2, List.take_succ_eq_append_getElem hj]
    refine ⟨putP_not h0 hj hne, .inl ⟨rfl, e1, ?_⟩⟩
    rw [h3, List.drop_eq_getElem_cons hj, insK, if_neg hlt, ← e1, h2, List.append_assoc]
    rfl
  · cases h1
theorem putP_on {k : Key} {l : List Key} {j : Nat} {R : List Key} (h : PutP k l j true R) (hj : j < l.length) (hne : l[j] ≠ k) : PutP k l (j + 1) true (R ++ [l[j]]) := by
  obtain ⟨h0, ⟨h1, _⟩ | ⟨_, h2⟩⟩ := h
  · cases h1
  · refine ⟨putP_not h0 hj hne, .inr ⟨rfl, ?_⟩⟩
    rw [h2, List.drop_eq_getElem_cons hj]
    simp
theorem putP_end {k : Key} {l R : List Key} {d : Bool} (h : PutP k l l.length d R) : putK l k = if d then R else R ++ [k] := by
  obtain ⟨h0, h⟩ := h
  rw [List.take_length] at h0 h
  rw [List.drop_length] at h
  unfold putK
  rw [if_neg h0]
  rcases h with ⟨rfl, h2, h3⟩ | ⟨rfl, h2⟩
  · rw [h3, h2]; rfl
  · rw [h2]; simp

end Go.Proofs.YtljlaopjimkcmaaGreat

/- The contract of the document's put. -/
namespace Go.Proofs.YtljlaopjimkcmaaGreat
open Go.RowKit Go.Sort

def strCell (k : Key) : List Value := [.string ⟨k.toArray⟩]
theorem strCell_len (k : Key) : (strCell k).length = 1 := rfl
theorem strCell_one (k : Key) : ∀ v ∈ strCell k, v.oneCell' = true := by
  intro v hv
  simp [strCell] at hv
  subst hv
  rfl
theorem infoStr : (Tryz.prog.info? 9).map (fun i => (i.zero, i.size, i.bytes)) = some (some (.string ByteArray.empty), 1, 16) := by kernel_rfl
/-- A row of texts, read. -/
theorem RowAt.str {w : World} {a : Option Addr} {ks : List Key} (h : RowAt w a 1 strCell ks) {j : Nat} (hj : j < ks.length) : ∃ b o, a = some ⟨b, o, none⟩ ∧ w.cell? ⟨b, o + j, none⟩ = some (.string ⟨ks[j].toArray⟩) := by
  obtain ⟨b, o, rfl, hc⟩ := h.2 (by intro e; simp [e] at hj)
  have h1 := hc j hj 0 _ rfl
  rw [Nat.mul_one, Nat.add_zero] at h1
  exact ⟨b, o, rfl, h1⟩

set_option maxRecDepth 100000 in
set_option maxHeartbeats 4000000 in
theorem put_any (B : Nat) (a : Option Addr) (cap : Nat) (ks : List Key) (k : Key) (w : World) (hl : OwnRow w B 9 1 strCell (.slice a ks.length cap) ks) (hm : ks.length ≤ 900000) (hB : B ≤ w.heap.size) :
    Calls Tryz.prog 47 #[.slice a ks.length cap, .string ⟨k.toArray⟩] w fun r w' => ∃ a2 cap2, r = .returned (.slice a2 (putK ks k).length cap2) ∧ OwnRow w' B 9 1 strCell (.slice a2 (putK ks k).length cap2) (putK ks k) ∧ Below w.heap.size w w' := by
  obtain ⟨a', cap', hv, hat, _⟩ := OwnRow.form hl strCell_len (by omega)
  injection hv with h1 _ h2
  subst h1 h2
  have HL := Lib.hid hl
  have HA := Lib.hid hat
  clear hl hat
  go_enter Tryz.func47, Tryz.ntmps47
  go_wp2
  go_loopw [5, 6, 7] (fun s5 d7 i wr => ∃ (j : Nat) (d : Bool) (R : List Key), j ≤ ks.length ∧ i = .int .i64 j ∧ d7 = .bool d ∧ R.length ≤ j + 1 ∧ Hid (PutP k ks j d R) ∧ Hid (OwnRow wr w.heap.size 9 1 strCell s5 R) ∧ Hid (Below w.heap.size w wr)) (fun _ _ i _ => ks.length - (intOf i).toNat)
  case atStart => exact ⟨0, false, [], Nat.zero_le _, rfl, rfl, by simp, putP_zero k ks, ownRow_nil _ _ _ _ _, Below.refl _ _⟩
  case round =>
    obtain ⟨j, d, R, hj, rfl, rfl, hR, HP, HO, HB⟩ := hrel
    by_cases hlt : j < ks.length
    · obtain ⟨b, o, rfl, c0⟩ := HA.out.str hlt
      have c1 := cell_later HB.out c0
      have hji : (j : Int) < (ks.length : Int) := by omega
      have hji0 : (0 : Int) ≤ j := by omega
      have HEQ : Hid (ks[j] = k → putK ks k = ks) := fun h => by unfold putK; rw [if_pos (by rw [← h]; exact List.getElem_mem hlt)]
      have HLT : Hid (d = false → ks[j] ≠ k → k < ks[j] → PutP k ks (j + 1) true (R ++ [k] ++ [ks[j]])) := fun hd h1 h2 => by subst hd; exact putP_lt HP.out hlt h1 h2
      have HGE : Hid (d = false → ks[j] ≠ k → ¬ k < ks[j] → PutP k ks (j + 1) false (R ++ [ks[j]])) := fun hd h1 h2 => by subst hd; exact putP_ge HP.out hlt h1 h2
      have HON : Hid (d = true → ks[j] ≠ k → PutP k ks (j + 1) true (R ++ [ks[j]])) := fun hd h1 => by subst hd; exact putP_on HP.out hlt h1
      have HC : Hid (∀ W, Below w.heap.size w W → W.cell? ⟨b, o + j, none⟩ = some (.string ⟨ks[j].toArray⟩)) := fun W h => cell_later h c0
      have hbs := HB.out.size
      have hsz := (below_alloc1 wr (.cells #[.string ⟨k.toArray⟩] 9)).size
      clear c0
      generalize ks[j] = x at *
      by_cases hx : x = k
      · have hq : (x == k) = true := by simp [hx]
        have HE := Lib.hid (HEQ.out hx)
        have HL2 := Lib.hid (HL.out.later HB.out)
        clear hx HLT HGE HON HEQ
        go_wp2_with fail
        go_ret
        exact ⟨some ⟨b, o, none⟩, cap, (by rw [HE.out]; rfl), by rw [HE.out]; exact HL2.out, HB.out⟩
      · have hq : (x == k) = false := by simp [hx]
        have HLT2 := Lib.hid (fun h => HLT.out h hx)
        have HGE2 := Lib.hid (fun h => HGE.out h hx)
        have HON2 := Lib.hid (fun h => HON.out h hx)
        clear hx HLT HGE HON HEQ
        cases d
        · by_cases hlx : k < x
          · have HI := Lib.hid (HLT2.out rfl hlx)
            have hR0 : R.length ≤ j := by rcases HP.out.2 with ⟨_, h, _⟩ | ⟨h, _⟩; · rw [h, List.length_take]; omega
                                          · cases h
            have hd : Op.bytesLess k x = true := by rw [bytesLess_eq]; simp [hlx]
            clear hlx HLT2 HGE2 HON2
            go_wp2_with (first
              | (at_builtin; refine wp_appendR (f := strCell) (n := 1) 28 9 16 (.string ByteArray.empty) Tryz.underlying28 infoStr rfl (by omega) (by omega) strCell_len rfl _ _ rfl w.heap.size _ (R ++ [k]) rfl (HO9.out.alloc _) ⟨w9.heap.size, 0, none⟩ rfl x (strCell_one _) (cells_new w9 (strCell x) _ _ rfl) (by simp; omega) (Nat.le_trans hb9s (below_alloc1 _ _).size) ?_; intro v2 w2 hown2 hb2 _; have HO2 := Lib.hid hown2; have HB2 := Lib.hid (HB9.out.trans (((below_alloc1 w9 (.cells #[.string ⟨x.toArray⟩] 9)).mono hb9s).trans hb2)); clear hown2 hb2)
              | (at_builtin; refine wp_appendR (f := strCell) (n := 1) 28 9 16 (.string ByteArray.empty) Tryz.underlying28 infoStr rfl (by omega) (by omega) strCell_len rfl _ _ rfl w.heap.size _ R rfl (HO.out.alloc _) ⟨wr.heap.size, 0, none⟩ rfl k (strCell_one _) (cells_new wr (strCell k) _ _ rfl) (by omega) (Nat.le_trans hbs (below_alloc1 _ _).size) ?_; intro v9 w9 hown9 hb9 _; have HO9 := Lib.hid hown9; have HB9 := Lib.hid (HB.out.trans (((below_alloc1 wr (.cells #[.string ⟨k.toArray⟩] 9)).mono hbs).trans hb9)); have hb9s := HB9.out.size; have c9 := HC.out w9 HB9.out; clear hown9 hb9))
            go_roundw
            case rel => exact ⟨j + 1, true, R ++ [k] ++ [x], by omega, by go_num, rfl, by simp; omega, HI.out, HO2.out, HB2.out⟩
            case measure => simp [intOf]; omega
          · have HI := Lib.hid (HGE2.out rfl hlx)
            have hR0 : R.length ≤ j := by rcases HP.out.2 with ⟨_, h, _⟩ | ⟨h, _⟩; · rw [h, List.length_take]; omega
                                          · cases h
            have hd : Op.bytesLess k x = false := by rw [bytesLess_eq]; simp [hlx]
            clear hlx HLT2 HGE2 HON2
            go_wp2_with (at_builtin; refine wp_appendR (f := strCell) (n := 1) 28 9 16 (.string ByteArray.empty) Tryz.underlying28 infoStr rfl (by omega) (by omega) strCell_len rfl _ _ rfl w.heap.size _ R rfl (HO.out.alloc _) ⟨wr.heap.size, 0, none⟩ rfl x (strCell_one _) (cells_new wr (strCell x) _ _ rfl) (by omega) (Nat.le_trans hbs (below_alloc1 _ _).size) ?_; intro v9 w9 hown9 hb9 _; have HO9 := Lib.hid hown9; have HB9 := Lib.hid (HB.out.trans (((below_alloc1 wr (.cells #[.string ⟨x.toArray⟩] 9)).mono hbs).trans hb9)); clear hown9 hb9)
            go_roundw
            case rel => exact ⟨j + 1, false, R ++ [x], by omega, by go_num, rfl, by simp; omega, HI.out, HO9.out, HB9.out⟩
            case measure => simp [intOf]; omega
        · have HI := Lib.hid (HON2.out rfl)
          clear HLT2 HGE2 HON2
          go_wp2_with (at_builtin; refine wp_appendR (f := strCell) (n := 1) 28 9 16 (.string ByteArray.empty) Tryz.underlying28 infoStr rfl (by omega) (by omega) strCell_len rfl _ _ rfl w.heap.size _ R rfl (HO.out.alloc _) ⟨wr.heap.size, 0, none⟩ rfl x (strCell_one _) (cells_new wr (strCell x) _ _ rfl) (by omega) (Nat.le_trans hbs (below_alloc1 _ _).size) ?_; intro v9 w9 hown9 hb9 _; have HO9 := Lib.hid hown9; have HB9 := Lib.hid (HB.out.trans (((below_alloc1 wr (.cells #[.string ⟨x.toArray⟩] 9)).mono hbs).trans hb9)); clear hown9 hb9)
          go_roundw
          case rel => exact ⟨j + 1, true, R ++ [x], by omega, by go_num, rfl, by simp; omega, HI.out, HO9.out, HB9.out⟩
          case measure => simp [intOf]; omega
    · obtain rfl : j = ks.length := by omega
      have HE := Lib.hid (putP_end HP.out)
      have hbs := HB.out.size
      cases d
      · have HE2 : Hid (putK ks k = R ++ [k]) := HE.out
        go_wp2_with (at_builtin; refine wp_appendR (f := strCell) (n := 1) 28 9 16 (.string ByteArray.empty) Tryz.underlying28 infoStr rfl (by omega) (by omega) strCell_len rfl _ _ rfl w.heap.size _ R rfl (HO.out.alloc _) ⟨wr.heap.size, 0, none⟩ rfl k (strCell_one _) (cells_new wr (strCell k) _ _ rfl) (by omega) (Nat.le_trans hbs (below_alloc1 _ _).size) ?_; intro v9 w9 hown9 hb9 _; have HO9 := Lib.hid hown9; have HB9 := Lib.hid (HB.out.trans (((below_alloc1 wr (.cells #[.string ⟨k.toArray⟩] 9)).mono hbs).trans hb9)); have hb9s := HB9.out.size; clear hown9 hb9)
        obtain ⟨a2, cap2, hv2, _, _⟩ := OwnRow.form HO9.out strCell_len (by simp; omega)
        subst hv2
        go_wp2_with fail
        go_ret
        exact ⟨a2, cap2, (by rw [HE2.out]; rfl), by rw [HE2.out]; exact ownsRow_base HO9.out hB, HB9.out⟩
      · have HE2 : Hid (putK ks k = R) := HE.out
        obtain ⟨a2, cap2, hv2, _, _⟩ := OwnRow.form HO.out strCell_len (by omega)
        subst hv2
        go_wp2_with fail
        go_ret
        exact ⟨a2, cap2, (by rw [HE2.out]; rfl), by rw [HE2.out]; exact ownsRow_base HO.out hB, HB.out⟩

end Go.Proofs.YtljlaopjimkcmaaGreat

/- The law's awake of layer 6. -/
namespace Go.Proofs.YtljlaopjimkcmaaGreat
open Go.RowKit

theorem threads2 (w : World) (c d : Option Addr) (k1 k2 : Nat) (l1 l2 : List Ins) (n1 n2 : Nat) (h1 : l1.length = n1) (h2 : l2.length = n2) (hc : CodeAt w c l1) (hd : CodeAt w d l2) (ec : c = none → k1 = 0) (ed : d = none → k2 = 0) :
    ThreadsAt (w.alloc (.cells #[.slice c n1 k1, .slice d n2 k2] 57)) (some ⟨w.heap.size, 0, none⟩) [l1, l2] := by
  subst h1 h2
  refine ⟨by simp [maxLen], fun _ => ⟨w.heap.size, 0, rfl, fun i hi => ?_⟩⟩
  have hi' : i < 2 := hi
  obtain rfl | rfl : i = 0 ∨ i = 1 := by omega
  · exact ⟨c, k1, by simp, hc.later (below_alloc1 _ _), ec⟩
  · exact ⟨d, k2, by simp, hd.later (below_alloc1 _ _), ed⟩
theorem locks_at (w : World) : CodeAt (w.alloc (.cells #[.int .i64 5, .int .i64 0, .int .i64 0, .int .i64 0, .int .i64 5, .int .i64 0, .int .i64 0, .int .i64 0] 60)) (some ⟨w.heap.size, 0, none⟩) [lockI, lockI] := by
  refine ⟨by simp [maxLen], fun _ => ⟨w.heap.size, 0, rfl, fun i hi => ?_⟩⟩
  have hi' : i < 2 := hi
  obtain rfl | rfl : i = 0 ∨ i = 1 := by omega
  · simp [lockI]
  · simp [lockI]
theorem ownT_of_S {w : World} {B : Nat} {v : Value} {ks : List Key} (h : OwnS w B v ks) : OwnRow w B 9 1 strCell v ks := by
  have e : cellsL strCell ks = ks.map encStr := by
    clear h
    unfold cellsL strCell
    induction ks with
    | nil => rfl
    | cons k ks ih =>
      rw [List.flatMap_cons, ih]
      rfl
  unfold OwnRow
  rw [e]
  exact h
theorem wk6_all (w : World) (a : Option Addr) (cap : Nat) (h : ThreadsAt w a (locP 1 1).threads) :
    Calls Tryz.prog 9 #[.agg #[.int .i64 0, .int .i64 0, .slice a 2 cap], .int .i64 8, .int .i64 100] w fun r w' => ∃ v c, r = .returned (.tuple #[.agg #[.slice v 1 c, .int .i64 2, .int .i64 5], .int .i64 0]) ∧ Below w.heap.size w w' :=
  (allF_any (locP 1 1) a cap 8 100 w h (by omega)).mono fun r w' ⟨h1, h2⟩ => by
    obtain ⟨g1, _, _, g4⟩ := loc_ok (a := 1) (b := 1) (by omega) (by omega)
    rw [if_pos g1] at h1
    rcases h1 with ⟨_, v, h3, h4⟩ | ⟨h3, _⟩
    · obtain ⟨av, cv, rfl⟩ := h4.slice
      rw [g4, loc11, loc11r] at h3
      exact ⟨av, cv, h3, h2⟩
    · rw [loc11] at h3
      omega
theorem wk6_full (w : World) (a : Option Addr) (cap : Nat) (h : ThreadsAt w a (locP 1 1).threads) :
    Calls Tryz.prog 9 #[.agg #[.int .i64 0, .int .i64 0, .slice a 2 cap], .int .i64 8, .int .i64 4] w fun r w' => r = .returned (.tuple #[.agg #[.slice none 0 0, .int .i64 0, .int .i64 0], .int .i64 5]) ∧ Below w.heap.size w w' :=
  (allF_any (locP 1 1) a cap 8 4 w h (by omega)).mono fun r w' ⟨h1, h2⟩ => by
    obtain ⟨g1, _, _, _⟩ := loc_ok (a := 1) (b := 1) (by omega) (by omega)
    rw [if_pos g1, loc11] at h1
    rcases h1 with ⟨h3, _⟩ | ⟨_, h3⟩
    · omega
    · exact ⟨h3, h2⟩
def noP : Pg := ⟨0, 0, []⟩
theorem noP_bad : ¬ okPg noP 8 := by decide
theorem wk6_none (w : World) : Calls Tryz.prog 9 #[.agg #[.int .i64 0, .int .i64 0, .slice none 0 0], .int .i64 8, .int .i64 100] w fun r w' => r = .returned (.tuple #[.agg #[.slice none 0 0, .int .i64 0, .int .i64 0], .int .i64 1]) ∧ Below w.heap.size w w' :=
  (allF_any noP none 0 8 100 w ⟨by simp [noP, maxLen], fun h => absurd rfl h⟩ (by omega)).mono fun r w' ⟨h1, h2⟩ => by
    rw [if_neg noP_bad] at h1
    exact ⟨h1, h2⟩
theorem wk6_dead (w : World) (a : Option Addr) (cap : Nat) (h : ThreadsAt w a lockP.threads) :
    Calls Tryz.prog 11 #[.agg #[.int .i64 0, .int .i64 1, .slice a 2 cap], .int .i64 8, .int .i64 100] w fun r w' => r = .returned (.tuple #[.int .i64 2, .int .i64 0]) ∧ Below w.heap.size w w' :=
  (deadlocks_any lockP a cap 8 100 w h (by omega)).mono fun r w' ⟨h1, h2⟩ => by
    obtain ⟨g1, g2, g3⟩ := lockP_ok
    rw [if_pos g1, g3] at h1
    rcases h1 with ⟨_, h3⟩ | ⟨h3, _⟩
    · exact ⟨h3, h2⟩
    · omega

set_option maxRecDepth 100000 in
set_option maxHeartbeats 4000000 in
theorem awake6_any (w : World) : Calls Tryz.prog 7 #[] w fun r w' => r = .returned (.bool true) ∧ Below w.heap.size w w' := by
  go_enter Tryz.func7, Tryz.ntmps7
  go_wp2_with fail
  refine (local_any 1 w (by omega)).mono ?_
  rintro r w1 ⟨c, k, rfl, hc, en, hb1⟩
  have HC := Lib.hid hc
  clear hc
  go_wp2_with fail
  refine (local_any 1 w1 (by omega)).mono ?_
  rintro r w2 ⟨d, k2, rfl, hd, en2, hb2⟩
  have HT := Lib.hid (threads2 w2 c d k k2 _ _ 1 1 rfl rfl (HC.out.later hb2) hd en en2)
  have hB2 := hb1.trans (hb2.mono hb1.size)
  have hB3 := hB2.trans ((below_alloc1 w2 (.cells #[.slice c 1 k, .slice d 1 k2] 57)).mono hB2.size)
  clear HC hd en en2 hb1 hb2 hB2
  go_wp2_with fail
  refine (wk6_all _ _ 2 HT.out).mono ?_
  rintro r w4 ⟨v4, c4, rfl, hb4⟩
  have hB4 := hB3.trans (hb4.mono hB3.size)
  have hz4 := hB4.size
  have hbx : ∀ W, Below (w4.alloc (.cells #[.slice v4 1 c4, .int .i64 2, .int .i64 5] 30)).heap.size (w4.alloc (.cells #[.slice v4 1 c4, .int .i64 2, .int .i64 5] 30)) W → W.cell? ⟨w4.heap.size, 0, none⟩ = some (.slice v4 1 c4) ∧ W.cell? ⟨w4.heap.size, 1, none⟩ = some (.int .i64 2) ∧ W.cell? ⟨w4.heap.size, 2, none⟩ = some (.int .i64 5) := fun W h => ⟨cell_later h (by simp), cell_later h (by simp), cell_later h (by simp)⟩
  have hB5 := hB4.trans ((below_alloc1 w4 (.cells #[.slice v4 1 c4, .int .i64 2, .int .i64 5] 30)).mono hz4)
  have HBX := Lib.hid hbx
  clear hbx HT hB3 hb4 hB4
  go_wp2_with fail
  generalize w4.alloc (.cells #[.slice v4 1 c4, .int .i64 2, .int .i64 5] 30) = W5 at *
  refine (wk6_none W5).mono ?_
  rintro r w6 ⟨rfl, hb6⟩
  have hb7 : Below W5.heap.size W5 (w6.alloc (.cells #[.slice none 0 0, .int .i64 0, .int .i64 0] 30)) := hb6.alloc hb6.size _
  clear hb6
  go_wp2_with fail
  generalize w6.alloc (.cells #[.slice none 0 0, .int .i64 0, .int .i64 0] 30) = W7 at *
  refine (local_any 1 W7 (by omega)).mono ?_
  rintro r w8 ⟨c8, k8, rfl, hc8, en8, hb8⟩
  have HC := Lib.hid hc8
  clear hc8
  go_wp2_with fail
  refine (local_any 1 w8 (by omega)).mono ?_
  rintro r w9 ⟨d9, k9, rfl, hd9, en9, hb9⟩
  have HT := Lib.hid (threads2 w9 c8 d9 k8 k9 _ _ 1 1 rfl rfl (HC.out.later hb9) hd9 en8 en9)
  have hb10 := hb7.trans ((hb8.trans (hb9.mono hb8.size)).mono hb7.size)
  have hb11 := hb10.trans ((below_alloc1 w9 (.cells #[.slice c8 1 k8, .slice d9 1 k9] 57)).mono hb10.size)
  clear HC hd9 en8 en9 hb7 hb8 hb9 hb10
  go_wp2_with fail
  refine (wk6_full _ _ 2 HT.out).mono ?_
  rintro r w12 ⟨rfl, hb12⟩
  have hb13 := hb11.trans (hb12.mono hb11.size)
  have hb14 : Below W5.heap.size W5 (w12.alloc (.cells #[.slice none 0 0, .int .i64 0, .int .i64 0] 30)) := hb13.alloc hb13.size _
  clear HT hb11 hb12 hb13
  go_wp2_with fail
  have hz14 : (w12.alloc (.cells #[.slice none 0 0, .int .i64 0, .int .i64 0] 30)).heap.size = w12.heap.size + 1 := World.size_alloc _ _
  generalize w12.alloc (.cells #[.slice none 0 0, .int .i64 0, .int .i64 0] 30) = W14 at *
  have HLK := Lib.hid (locks_at W14)
  have HT := Lib.hid (threads2 _ _ _ 2 2 _ _ 2 2 rfl rfl HLK.out HLK.out (fun h => by cases h) (fun h => by cases h))
  have hb15 := hb14.alloc hb14.size (.cells #[.int .i64 5, .int .i64 0, .int .i64 0, .int .i64 0, .int .i64 5, .int .i64 0, .int .i64 0, .int .i64 0] 60)
  have hb16 := hb15.alloc hb15.size (.cells #[.slice (some ⟨W14.heap.size, 0, none⟩) 2 2, .slice (some ⟨W14.heap.size, 0, none⟩) 2 2] 57)
  clear HLK hb14 hb15
  rw [World.size_alloc, hz14] at HT
  rw [hz14] at hb16
  refine (wk6_dead _ _ 2 HT.out).mono ?_
  rintro r w17 ⟨rfl, hb17⟩
  have hb18 := hb16.trans (hb17.mono hb16.size)
  obtain ⟨x0, x1, x2⟩ := HBX.out w17 hb18
  have HFIN := Lib.hid (hB5.trans (hb18.mono hB5.size))
  clear HT hb16 hb17 hb18 hB5
  go_wp2_with fail
  go_ret
  exact ⟨rfl, HFIN.out⟩

end Go.Proofs.YtljlaopjimkcmaaGreat

/- Two events held against one another. -/
namespace Go.Proofs.YtljlaopjimkcmaaGreat
open Go.RowKit


theorem run_eql_ev (e e' : Ev) (w : World) :
    (binOp .eql 51 (.agg #[.int .i64 e.thread, .int .i64 e.kind, .int .i64 e.obj, .bool e.fail]) (.agg #[.int .i64 e'.thread, .int .i64 e'.kind, .int .i64 e'.obj, .bool e'.fail])).run Tryz.prog w = .ok (.bool (decide (e = e'))) w := by
  rw [run_eql_struct]
  simp [run_equal_ev]
theorem run_neq_ev (e e' : Ev) (w : World) :
    (binOp .neq 51 (.agg #[.int .i64 e.thread, .int .i64 e.kind, .int .i64 e.obj, .bool e.fail]) (.agg #[.int .i64 e'.thread, .int .i64 e'.kind, .int .i64 e'.obj, .bool e'.fail])).run Tryz.prog w = .ok (.bool (decide (e ≠ e'))) w := by
  rw [run_neq_struct]
  simp [run_equal_ev]

end Go.Proofs.YtljlaopjimkcmaaGreat

/- Rows of events: append, SameEvents. -/
namespace Go.Proofs.YtljlaopjimkcmaaGreat
open Go.RowKit

end Go.Proofs.YtljlaopjimkcmaaGreat

/- A state of the document in memory: a block of ten cells, and a row of threads. -/
namespace Go.Proofs.YtljlaopjimkcmaaGreat
open Go.RowKit

def thrCell (x : Thr) : List Value := [.int .i64 x.at_, .int .i64 x.fuel, .int .i64 (x.r.getD 0 0), .int .i64 (x.r.getD 1 0)]
def thrCells (l : List Thr) : List Value := l.flatMap thrCell
theorem thrCells_length (l : List Thr) : (thrCells l).length = l.length * 4 := by
  induction l with
  | nil => rfl
  | cons i l ih => simp only [thrCells, thrCell, List.flatMap_cons, List.length_append, List.length_cons, List.length_nil] at *; omega
theorem thrCells_append (a b : List Thr) : thrCells (a ++ b) = thrCells a ++ thrCells b := by simp [thrCells]
theorem thrCells_get (l : List Thr) (i j : Nat) (h : i < l.length) (hj : j < 4) : (thrCells l)[i * 4 + j]? = (thrCell l[i])[j]? := by
  induction l generalizing i with
  | nil => simp at h
  | cons x l ih =>
    cases i with
    | zero =>
      simp only [thrCells, List.flatMap_cons, Nat.zero_mul, Nat.zero_add, List.getElem_cons_zero]
      rw [List.getElem?_append_left (by simpa [thrCell] using hj)]
    | succ i =>
      have := ih i (by simpa using h)
      simp only [thrCells, List.flatMap_cons, List.getElem_cons_succ] at *
      rw [List.getElem?_append_right (by simp [thrCell]; omega), ← this]
      congr 1
      simp [thrCell]
      omega
theorem thrCells_one (l : List Thr) : ∀ v ∈ thrCells l, v.oneCell' = true := by
  intro v hv
  simp only [thrCells, List.mem_flatMap] at hv
  obtain ⟨i, _, hv⟩ := hv
  simp [thrCell] at hv
  rcases hv with rfl | rfl | rfl | rfl <;> rfl
theorem thrCells_set (l : List Thr) (t k : Nat) (y : Thr) (v : Value) (ht : t < l.length) (hk : k < 4) (hy : ∀ j, j < 4 → (thrCell y)[j]? = if j = k then some v else (thrCell l[t])[j]?) :
    (thrCells l).set (t * 4 + k) v = thrCells (l.set t y) := by
  apply List.ext_getElem?
  intro j
  have hl := thrCells_length l
  have hl2 : (thrCells (l.set t y)).length = l.length * 4 := by rw [thrCells_length]; simp
  by_cases hj : j < l.length * 4
  · obtain ⟨i, d, rfl, hd⟩ : ∃ i d, j = i * 4 + d ∧ d < 4 := ⟨j / 4, j % 4, by omega, by omega⟩
    have hi : i < l.length := by omega
    rw [thrCells_get (l.set t y) i d (by simpa using hi) hd, List.getElem?_set]
    by_cases e : t = i
    · subst e
      simp only [List.getElem_set_self]
      rw [hy d hd]
      by_cases e2 : d = k
      · subst e2; rw [if_pos rfl, if_pos (by omega), if_pos rfl]
      · rw [if_neg (by omega), if_neg e2, thrCells_get l t d ht hd]
    · rw [if_neg (by omega), List.getElem_set_ne e, thrCells_get l i d hi hd]
  · rw [List.getElem?_eq_none (by simp; omega), List.getElem?_eq_none (by omega)]

def refA (s : St) (a : Option Addr) (cap tb tcap : Nat) : Array Value :=
  #[.int .i64 s.p.vars, .int .i64 s.p.mutexes, .slice a s.p.threads.length cap, .slice (some ⟨tb, 0, none⟩) s.ts.length tcap,
    .int .i64 (s.v.getD 0 0), .int .i64 (s.v.getD 1 0), .int .i64 (s.v.getD 2 0), .int .i64 (s.v.getD 3 0), .int .i64 (s.m.getD 0 (-1)), .int .i64 (s.m.getD 1 (-1))]

/-- In the blocks b and tb lies the document's state s. -/
def RefAt (w : World) (b tb : Nat) (a : Option Addr) (cap tcap : Nat) (s : St) : Prop :=
  w.heap[b]? = some (.cells (refA s a cap tb tcap) 102 (0, 0)) ∧ b ≠ tb ∧ ∃ cur, w.heap[tb]? = some (.cells cur 104 (0, 0)) ∧ cur.toList.take (s.ts.length * 4) = thrCells s.ts

section
variable {w : World} {b tb : Nat} {a : Option Addr} {cap tcap : Nat} {s : St}
theorem RefAt.lt (h : RefAt w b tb a cap tcap s) : b < w.heap.size ∧ tb < w.heap.size := by
  obtain ⟨h1, _, cur, h2, _⟩ := h
  exact ⟨(Array.getElem?_eq_some_iff.1 h1).1, (Array.getElem?_eq_some_iff.1 h2).1⟩
theorem RefAt.later {w' : World} (h : RefAt w b tb a cap tcap s) (hb : Below w.heap.size w w') : RefAt w' b tb a cap tcap s := by
  have hl := h.lt
  obtain ⟨h1, h0, cur, h2, h3⟩ := h
  exact ⟨(hb.block b hl.1).trans h1, h0, cur, (hb.block tb hl.2).trans h2, h3⟩
theorem RefAt.only {w' : World} {g : Nat} (h : RefAt w b tb a cap tcap s) (ho : Only g w w') (hb : b ≠ g) (ht : tb ≠ g) : RefAt w' b tb a cap tcap s := by
  have hl := h.lt
  obtain ⟨h1, h0, cur, h2, h3⟩ := h
  exact ⟨(ho.block b hl.1 hb).trans h1, h0, cur, (ho.block tb hl.2 ht).trans h2, h3⟩
theorem RefAt.drewN (h : RefAt w b tb a cap tcap s) (n : Nat) : RefAt (w.drewN n) b tb a cap tcap s := h
theorem RefAt.frozen (h : RefAt w b tb a cap tcap s) (o : Nat) : w.frozen? ⟨b, o, none⟩ = false ∧ w.frozen? ⟨tb, o, none⟩ = false := by
  obtain ⟨h1, _, cur, h2, _⟩ := h
  simp [World.frozen?, h1, h2]
theorem RefAt.prog (h : RefAt w b tb a cap tcap s) : w.cell? ⟨b, 2, none⟩ = some (.slice a s.p.threads.length cap) ∧ w.cell? ⟨b, 3, none⟩ = some (.slice (some ⟨tb, 0, none⟩) s.ts.length tcap) := by
  simp [World.cell?, h.1, refA]
theorem RefAt.var (h : RefAt w b tb a cap tcap s) (x : Nat) (hx : x < 4) : w.cell? ⟨b, 4 + x, none⟩ = some (.int .i64 (s.v.getD x 0)) := by
  obtain rfl | rfl | rfl | rfl : x = 0 ∨ x = 1 ∨ x = 2 ∨ x = 3 := by omega
  all_goals simp [World.cell?, h.1, refA]
theorem RefAt.who (h : RefAt w b tb a cap tcap s) (x : Nat) (hx : x < 2) : w.cell? ⟨b, 8 + x, none⟩ = some (.int .i64 (s.who x)) := by
  obtain rfl | rfl : x = 0 ∨ x = 1 := by omega
  all_goals
    simp only [World.cell?, h.1, refA]
    rfl
theorem RefAt.thr (h : RefAt w b tb a cap tcap s) (t : Nat) (ht : t < s.ts.length) (k : Nat) (hk : k < 4) : w.cell? ⟨tb, t * 4 + k, none⟩ = (thrCell (s.th t))[k]? := by
  obtain ⟨_, _, cur, h2, h3⟩ := h
  have hg := thrCells_get s.ts t k ht hk
  rw [← h3, List.getElem?_take_of_lt (by omega)] at hg
  have e : s.th t = s.ts[t] := getD_lt _ ht
  rw [e, ← hg]
  simp [World.cell?, h2]
theorem RefAt.at_ (h : RefAt w b tb a cap tcap s) (t : Nat) (ht : t < s.ts.length) : w.cell? ⟨tb, t * 4, none⟩ = some (.int .i64 (s.th t).at_) := h.thr t ht 0 (by omega)
theorem RefAt.fuel (h : RefAt w b tb a cap tcap s) (t : Nat) (ht : t < s.ts.length) : w.cell? ⟨tb, t * 4 + 1, none⟩ = some (.int .i64 (s.th t).fuel) := h.thr t ht 1 (by omega)
theorem RefAt.reg (h : RefAt w b tb a cap tcap s) (t : Nat) (ht : t < s.ts.length) (r : Nat) (hr : r < 2) : w.cell? ⟨tb, t * 4 + 2 + r, none⟩ = some (.int .i64 ((s.th t).r.getD r 0)) := by
  obtain rfl | rfl : r = 0 ∨ r = 1 := by omega
  · exact h.thr t ht 2 (by omega)
  · exact h.thr t ht 3 (by omega)

theorem RefAt.setThr (h : RefAt w b tb a cap tcap s) (t k : Nat) (y : Thr) (v : Value) (ht : t < s.ts.length) (hk : k < 4) (hy : ∀ j, j < 4 → (thrCell y)[j]? = if j = k then some v else (thrCell (s.th t))[j]?) :
    RefAt (w.setCell ⟨tb, t * 4 + k, none⟩ v) b tb a cap tcap (s.put t y) := by
  have e : s.th t = s.ts[t] := getD_lt _ ht
  rw [e] at hy
  obtain ⟨h1, h0, cur, h2, h3⟩ := h
  have hlen : (s.put t y).ts.length = s.ts.length := St.put_len s t y
  have ets : (s.put t y).ts = s.ts.set t y := by simp [St.put]
  refine ⟨?_, h0, _, heap_setCell_same w tb (t * 4 + k) cur _ v h2, ?_⟩
  · rw [Below.heap_setCell _ _ _ _ h0, h1]
    unfold refA
    rw [hlen]
    rfl
  · rw [hlen, ets, ← thrCells_set s.ts t k y v ht hk hy, ← h3]
    simp [List.take_set]
theorem RefAt.setAt (h : RefAt w b tb a cap tcap s) (t n : Nat) (ht : t < s.ts.length) : RefAt (w.setCell ⟨tb, t * 4, none⟩ (.int .i64 n)) b tb a cap tcap (s.put t { s.th t with at_ := n }) :=
  h.setThr t 0 _ _ ht (by omega) (fun j hj => by
    obtain rfl | rfl | rfl | rfl : j = 0 ∨ j = 1 ∨ j = 2 ∨ j = 3 := by omega
    all_goals rfl)
theorem RefAt.setFuel (h : RefAt w b tb a cap tcap s) (t n : Nat) (ht : t < s.ts.length) : RefAt (w.setCell ⟨tb, t * 4 + 1, none⟩ (.int .i64 n)) b tb a cap tcap (s.put t { s.th t with fuel := n }) :=
  h.setThr t 1 _ _ ht (by omega) (fun j hj => by
    obtain rfl | rfl | rfl | rfl : j = 0 ∨ j = 1 ∨ j = 2 ∨ j = 3 := by omega
    all_goals rfl)
theorem RefAt.setReg (h : RefAt w b tb a cap tcap s) (t r : Nat) (n : Int) (ht : t < s.ts.length) (hr : r < 2) (hl : (s.th t).r.length = 2) : RefAt (w.setCell ⟨tb, t * 4 + 2 + r, none⟩ (.int .i64 n)) b tb a cap tcap (s.put t { s.th t with r := (s.th t).r.set r n }) := by
  rw [Nat.add_assoc]
  refine h.setThr t (2 + r) _ _ ht (by omega) (fun j hj => ?_)
  obtain rfl | rfl | rfl | rfl : j = 0 ∨ j = 1 ∨ j = 2 ∨ j = 3 := by omega
  · rw [if_neg (by omega)]; rfl
  · rw [if_neg (by omega)]; rfl
  · simp only [thrCell, List.getElem?_cons_succ, List.getElem?_cons_zero]
    rw [getD_set _ _ _ _ _ (by omega)]
    by_cases e : r = 0
    · subst e; simp
    · rw [if_neg (by omega), if_neg (by omega)]
  · simp only [thrCell, List.getElem?_cons_succ, List.getElem?_cons_zero]
    rw [getD_set _ _ _ _ _ (by omega)]
    by_cases e : r = 1
    · subst e; simp
    · rw [if_neg (by omega), if_neg (by omega)]
theorem RefAt.setVar (h : RefAt w b tb a cap tcap s) (x : Nat) (n : Int) (hx : x < 4) (hl : s.v.length = 4) : RefAt (w.setCell ⟨b, 4 + x, none⟩ (.int .i64 n)) b tb a cap tcap { s with v := s.v.set x n } := by
  obtain ⟨h1, h0, cur, h2, h3⟩ := h
  refine ⟨?_, h0, cur, (Below.heap_setCell _ _ _ _ (fun e => h0 e.symm)).trans h2, h3⟩
  rw [heap_setCell_same w b (4 + x) _ _ _ h1]
  congr 2
  unfold refA
  dsimp only
  simp only [getD_set _ _ _ _ _ (show x < s.v.length by omega)]
  obtain rfl | rfl | rfl | rfl : x = 0 ∨ x = 1 ∨ x = 2 ∨ x = 3 := by omega
  all_goals rfl
theorem RefAt.setWho (h : RefAt w b tb a cap tcap s) (x : Nat) (n : Int) (hx : x < 2) (hl : s.m.length = 2) : RefAt (w.setCell ⟨b, 8 + x, none⟩ (.int .i64 n)) b tb a cap tcap { s with m := s.m.set x n } := by
  obtain ⟨h1, h0, cur, h2, h3⟩ := h
  refine ⟨?_, h0, cur, (Below.heap_setCell _ _ _ _ (fun e => h0 e.symm)).trans h2, h3⟩
  rw [heap_setCell_same w b (8 + x) _ _ _ h1]
  congr 2
  unfold refA
  dsimp only
  simp only [getD_set _ _ _ _ _ (show x < s.m.length by omega)]
  obtain rfl | rfl : x = 0 ∨ x = 1 := by omega
  all_goals rfl
theorem RefAt.other {g : Nat} (h : RefAt w b tb a cap tcap s) (hb : b ≠ g) (ht : tb ≠ g) (o : Nat) (v : Value) : RefAt (w.setCell ⟨g, o, none⟩ v) b tb a cap tcap s := by
  obtain ⟨h1, h0, cur, h2, h3⟩ := h
  exact ⟨(Below.heap_setCell _ _ _ _ hb).trans h1, h0, cur, (Below.heap_setCell _ _ _ _ ht).trans h2, h3⟩
end

/-- All but the blocks b and c is as it was. -/
structure Only2 (b c : Nat) (w w' : World) : Prop where
  os : w'.os = w.os
  tape : w'.tape = w.tape
  output : w'.output = w.output
  size : w.heap.size ≤ w'.heap.size
  block : ∀ k, k < w.heap.size → k ≠ b → k ≠ c → w'.heap[k]? = w.heap[k]?

theorem Only2.refl (b c : Nat) (w : World) : Only2 b c w w := ⟨rfl, rfl, rfl, Nat.le_refl _, fun _ _ _ _ => rfl⟩
theorem Only2.trans {b c : Nat} {u v w : World} (h : Only2 b c u v) (k : Only2 b c v w) : Only2 b c u w :=
  ⟨k.os.trans h.os, k.tape.trans h.tape, k.output.trans h.output, Nat.le_trans h.size k.size, fun i hi hb hc => (k.block i (Nat.lt_of_lt_of_le hi h.size) hb hc).trans (h.block i hi hb hc)⟩
theorem Only2.of_below {b c : Nat} {w w' : World} (h : Below w.heap.size w w') : Only2 b c w w' := ⟨h.os, h.tape, h.output, h.size, fun k hk _ _ => h.block k hk⟩
theorem Only2.alloc {b c : Nat} {w w' : World} (h : Only2 b c w w') (o : Obj) : Only2 b c w (w'.alloc o) := h.trans (.of_below ((Below.refl _ _).alloc (Nat.le_refl _) _))
theorem Only2.drew {b c : Nat} {w w' : World} (h : Only2 b c w w') : Only2 b c w w'.drew := ⟨h.os, h.tape, h.output, h.size, h.block⟩
theorem Only2.drewN {b c : Nat} {w w' : World} (h : Only2 b c w w') {n : Nat} : Only2 b c w (w'.drewN n) := ⟨h.os, h.tape, h.output, h.size, h.block⟩
theorem Only2.setCell {b c g : Nat} {w w' : World} (h : Only2 b c w w') (hg : g = b ∨ g = c ∨ w.heap.size ≤ g) (o : Nat) (v : Value) : Only2 b c w (w'.setCell ⟨g, o, none⟩ v) :=
  ⟨h.os, h.tape, h.output, by simp [World.setCell]; exact h.size, fun k hk hb hc => (Below.heap_setCell _ _ _ _ (by show k ≠ g; omega)).trans (h.block k hk hb hc)⟩
theorem Only2.set4 {b c g : Nat} {w w1 : World} (h : Only2 b c w w1) (hg : w.heap.size ≤ g) (v0 v1 v2 v3 : Value) : Only2 b c w ((((w1.setCell ⟨g, 0, none⟩ v0).setCell ⟨g, 1, none⟩ v1).setCell ⟨g, 2, none⟩ v2).setCell ⟨g, 3, none⟩ v3) :=
  (((h.setCell (.inr (.inr hg)) 0 v0).setCell (.inr (.inr hg)) 1 v1).setCell (.inr (.inr hg)) 2 v2).setCell (.inr (.inr hg)) 3 v3
theorem Only2.below {b c B : Nat} {w w' : World} (h : Only2 b c w w') (hb : B ≤ b) (hc : B ≤ c) (hw : B ≤ w.heap.size) : Below B w w' :=
  ⟨h.os, h.tape, h.output, h.size, fun k hk => h.block k (by omega) (by omega) (by omega)⟩
theorem Only2.stAt {b c g : Nat} {w w' : World} {s : St} (h : Only2 b c w w') (hs : StAt w g s) (hb : g ≠ b) (hc : g ≠ c) : StAt w' g s := (h.block g hs.lt hb hc).trans hs

theorem below_heap2 (w : World) (o o2 : Obj) {k : Nat} (hk : k < w.heap.size) : ((w.alloc o).alloc o2).heap[k]? = w.heap[k]? := by
  rw [Below.heap_alloc _ _ _ (by simp; omega), Below.heap_alloc _ _ _ hk]

/-- Behind two new blocks: an event that is none, an instruction. -/
theorem mid_world {w W : World} {k r x m : Int} {n : Nat} (h : ((w.alloc (.cells #[.int .i64 0, .int .i64 0, .int .i64 0, .bool false] 51)).drewN n).alloc (.cells #[.int .i64 k, .int .i64 r, .int .i64 x, .int .i64 m] 60) = W) :
    Below w.heap.size w W ∧ (W.cell? ⟨w.heap.size, 0, none⟩ = some (.int .i64 0) ∧ W.cell? ⟨w.heap.size, 1, none⟩ = some (.int .i64 0) ∧ W.cell? ⟨w.heap.size, 2, none⟩ = some (.int .i64 0) ∧ W.cell? ⟨w.heap.size, 3, none⟩ = some (.bool false)) ∧
      (W.frozen? ⟨w.heap.size, 0, none⟩ = false ∧ W.frozen? ⟨w.heap.size, 1, none⟩ = false ∧ W.frozen? ⟨w.heap.size, 2, none⟩ = false ∧ W.frozen? ⟨w.heap.size, 3, none⟩ = false) ∧
      (W.cell? ⟨w.heap.size + 1, 0, none⟩ = some (.int .i64 k) ∧ W.cell? ⟨w.heap.size + 1, 1, none⟩ = some (.int .i64 r) ∧ W.cell? ⟨w.heap.size + 1, 2, none⟩ = some (.int .i64 x) ∧ W.cell? ⟨w.heap.size + 1, 3, none⟩ = some (.int .i64 m)) ∧ w.heap.size + 1 < W.heap.size ∧ w.heap.size < W.heap.size := by
  subst h
  have g0 : (((w.alloc (.cells #[.int .i64 0, .int .i64 0, .int .i64 0, .bool false] 51)).drewN n).alloc (.cells #[.int .i64 k, .int .i64 r, .int .i64 x, .int .i64 m] 60)).heap[w.heap.size]? = some (.cells #[.int .i64 0, .int .i64 0, .int .i64 0, .bool false] 51 (0, 0)) := heap_alloc2_old w _ _
  have g1 : (((w.alloc (.cells #[.int .i64 0, .int .i64 0, .int .i64 0, .bool false] 51)).drewN n).alloc (.cells #[.int .i64 k, .int .i64 r, .int .i64 x, .int .i64 m] 60)).heap[w.heap.size + 1]? = some (.cells #[.int .i64 k, .int .i64 r, .int .i64 x, .int .i64 m] 60 (0, 0)) := heap_alloc2_new w _ _
  have l0 := (Array.getElem?_eq_some_iff.1 g0).1
  have l1 := (Array.getElem?_eq_some_iff.1 g1).1
  refine ⟨⟨rfl, rfl, rfl, by omega, fun k hk => ?_⟩, ?_, ?_, ?_, l1, l0⟩
  · exact (below_heap2 w _ _ hk)
  · simp only [World.cell?, g0]; exact ⟨rfl, rfl, rfl, rfl⟩
  · simp only [World.frozen?, g0]; exact ⟨rfl, rfl, rfl, rfl⟩
  · simp only [World.cell?, g1]; exact ⟨rfl, rfl, rfl, rfl⟩
end Go.Proofs.YtljlaopjimkcmaaGreat

/- The contract of the document's Instr. -/
namespace Go.Proofs.YtljlaopjimkcmaaGreat
open Go.RowKit

def withinB (n lo hi : Int) : Bool := decide (lo ≤ n ∧ n ≤ hi)
theorem within_any (n lo hi : Int) (w : World) : Calls Tryz.prog 53 #[.int .i64 n, .int .i64 lo, .int .i64 hi] w fun r w' => r = .returned (.bool (withinB n lo hi)) ∧ w = w' := by
  go_enter Tryz.func53, Tryz.ntmps53
  go_wp2
  all_goals
    go_ret
    refine ⟨ret_bool ?_, rfl⟩
    simp [withinB]
    try omega

set_option maxRecDepth 100000 in
set_option maxHeartbeats 1000000 in
theorem refInstr_any (V M size : Int) (_hs : 0 ≤ size) (_hs2 : size ≤ 1000) (hV : 0 ≤ V) (hV2 : V ≤ 4) (hM : 0 ≤ M) (hM2 : M ≤ 2) (t : Value) (i : Ins) (w : World) :
    Calls Tryz.prog 54 #[.agg #[.int .i64 V, .int .i64 M, t], .int .i64 size, insV i] w fun r w' => r = .returned (.bool (rightIns V M size i)) ∧ Below w.heap.size w w' := by
  obtain ⟨k, ri, x, n⟩ := i
  unfold insV
  dsimp only
  go_enter Tryz.func54, Tryz.ntmps54
  go_wp2_with (go_at_call 53; refine (within_any _ _ _ _).mono ?_; rintro r w' ⟨rfl, rfl⟩)
  all_goals
    go_ret
    refine ⟨ret_bool ?_, below_alloc2 _ _ _⟩
    simp [withinB] at *
    rw [Bool.eq_iff_iff]
    simp [rightIns, *]
    try (first | omega | (split <;> omega))
end Go.Proofs.YtljlaopjimkcmaaGreat

/- The contract of the document's Right. -/
namespace Go.Proofs.YtljlaopjimkcmaaGreat
open Go.RowKit

set_option maxRecDepth 100000 in
set_option maxHeartbeats 1000000 in
theorem refRight_any (p : Pg) (a : Option Addr) (cap : Nat) (w : World) (hp : ThreadsAt w a p.threads) :
    Calls Tryz.prog 28 #[pgV p a cap] w fun r w' => r = .returned (.bool (rightPg p)) ∧ Below w.heap.size w w' := by
  obtain ⟨V, M, ts⟩ := p
  unfold pgV
  dsimp only at *
  have hm := hp.1
  unfold maxLen at hm
  have HL := Lib.hid hp
  clear hp
  cases hV : withinB V 0 4
  · have H : Hid (rightPg ⟨V, M, ts⟩ = false) := by
      show _ = _
      simp [withinB] at hV
      simp [rightPg]; omega
    go_enter Tryz.func28, Tryz.ntmps28
    go_wp2_with (go_at_call 53; refine (within_any _ _ _ _).mono ?_; rintro r w' ⟨rfl, rfl⟩)
    go_ret
    exact ⟨ret_bool H.out.symm, below_alloc1 _ _⟩
  cases hM : withinB M 0 2
  · have H : Hid (rightPg ⟨V, M, ts⟩ = false) := by
      show _ = _
      simp [withinB] at hM
      simp [rightPg]; omega
    go_enter Tryz.func28, Tryz.ntmps28
    go_wp2_with (go_at_call 53; refine (within_any _ _ _ _).mono ?_; rintro r w' ⟨rfl, rfl⟩)
    go_ret
    exact ⟨ret_bool H.out.symm, below_alloc1 _ _⟩
  cases hT : withinB ts.length 1 4
  · have H : Hid (rightPg ⟨V, M, ts⟩ = false) := by
      show _ = _
      simp [withinB] at hT
      simp [rightPg]; omega
    go_enter Tryz.func28, Tryz.ntmps28
    go_wp2_with (go_at_call 53; refine (within_any _ _ _ _).mono ?_; rintro r w' ⟨rfl, rfl⟩)
    go_ret
    exact ⟨ret_bool H.out.symm, below_alloc1 _ _⟩
  have bV : 0 ≤ V ∧ V ≤ 4 := by simpa [withinB] using hV
  have bM : 0 ≤ M ∧ M ≤ 2 := by simpa [withinB] using hM
  have bT : 1 ≤ ts.length ∧ ts.length ≤ 4 := by simp [withinB] at hT; omega
  have H : Hid (rightPg ⟨V, M, ts⟩ = ts.all (rightCode V M)) := by
    show _ = _
    have : decide (0 ≤ V ∧ V ≤ 4 ∧ 0 ≤ M ∧ M ≤ 2 ∧ 1 ≤ ts.length ∧ ts.length ≤ 4) = true := by simp; omega
    unfold rightPg
    dsimp only
    rw [this, Bool.true_and]
  obtain ⟨bV1, bV2⟩ := bV
  obtain ⟨bM1, bM2⟩ := bM
  obtain ⟨bT1, bT2⟩ := bT
  go_enter Tryz.func28, Tryz.ntmps28
  go_wp2_with (go_at_call 53; refine (within_any _ _ _ _).mono ?_; rintro r w' ⟨rfl, rfl⟩)
  go_loopw [3] (fun i wr => ∃ k : Nat, k ≤ ts.length ∧ i = .int .i64 k ∧ Hid ((ts.take k).all (rightCode V M) = true) ∧ Below (w.heap.size + 1) (w.alloc (.cells #[.int .i64 V, .int .i64 M, .slice a ts.length cap] 24)) wr) (fun i _ => ts.length - (intOf i).toNat)
  case atStart => exact ⟨0, Nat.zero_le _, rfl, rfl, Below.refl _ _⟩
  case round =>
    obtain ⟨k, hk, rfl, hall, hb⟩ := hrel
    have p2 : wr.cell? ⟨w.heap.size, 2, none⟩ = some (.slice a ts.length cap) := by rw [hb.cell (p := ⟨w.heap.size, 2, none⟩) (by simp)]; simp
    have hbw : Below w.heap.size w wr := ((Below.refl _ _).alloc (Nat.le_refl _) _).trans (hb.mono (by omega))
    by_cases hlt : k < ts.length
    · obtain ⟨b, o, rfl, hc⟩ := HL.out.2 (by intro e; simp [e] at hlt)
      obtain ⟨c, ccap, c0, c1, _⟩ := hc k hlt
      have d0 := cell_later hbw c0
      have D1 := Lib.hid (c1.later hbw)
      have hcm := c1.1
      unfold maxLen at hcm
      clear c0 c1 hc
      have ht : (ts.take (k + 1)) = ts.take k ++ [ts[k]] := List.take_succ_eq_append_getElem hlt
      have HT := Lib.hid ht
      clear ht
      by_cases h8 : 8 < ts[k].length
      · have HR : Hid (rightPg ⟨V, M, ts⟩ = false) := by
          show _ = _
          rw [H.out, List.all_eq_false]; exact ⟨ts[k], List.getElem_mem _, by simp [rightCode]; omega⟩
        go_wp2
        go_ret
        exact ⟨ret_bool HR.out.symm, hbw⟩
      · have HC : Hid (rightCode V M ts[k] = ts[k].all (rightIns V M ts[k].length)) := by
          show _ = _
          have : decide (ts[k].length ≤ 8) = true := by simp; omega
          unfold rightCode
          rw [this, Bool.true_and]
        go_wp2
        obtain ⟨wo, hwo⟩ : ∃ x, x = wr := ⟨_, rfl⟩
        subst hwo
        have q0 : wo.cell? ⟨w.heap.size, 0, none⟩ = some (.int .i64 V) := by rw [hb.cell (p := ⟨w.heap.size, 0, none⟩) (by simp)]; simp
        have q1 : wo.cell? ⟨w.heap.size, 1, none⟩ = some (.int .i64 M) := by rw [hb.cell (p := ⟨w.heap.size, 1, none⟩) (by simp)]; simp
        have hz : w.heap.size < wo.heap.size := by have := hb.size; simp at this; omega
        go_loopw [5] (fun i w2 => ∃ j : Nat, j ≤ ts[k].length ∧ i = .int .i64 j ∧ Hid ((ts[k].take j).all (rightIns V M ts[k].length) = true) ∧ Below wo.heap.size wo w2) (fun i _ => ts[k].length - (intOf i).toNat)
        case atStart => exact ⟨0, Nat.zero_le _, rfl, rfl, Below.refl _ _⟩
        case round =>
          obtain ⟨j, hj, rfl, hin, hb'⟩ := hrel
          have r0 := cell_later hb' q0
          have r1 := cell_later hb' q1
          have r2 := cell_later hb' p2
          by_cases hjl : j < ts[k].length
          · obtain ⟨b', o', rfl, hc⟩ := D1.out.2 (by intro e; simp [e] at hjl)
            obtain ⟨c0, c1, c2, c3⟩ := hc j hjl
            have d0 := cell_later hb' c0
            have d1 := cell_later hb' c1
            have d2 := cell_later hb' c2
            have d3 := cell_later hb' c3
            clear c0 c1 c2 c3 hc
            go_wp2
            go_still_tail 7, (by kernel_rfl)
            go_wp2_with fail
            refine (refInstr_any V M ts[k].length (by omega) (by omega) bV1 bV2 bM1 bM2 _ ts[k][j] _).mono ?_
            rintro r w1 ⟨rfl, hb1⟩
            have hb2 : Below wo.heap.size wo w1 := hb'.drew.trans (hb1.mono hb'.size)
            have hb3 : Below w.heap.size w w1 := hbw.trans (hb2.mono (by omega))
            have htj : (ts[k].take (j + 1)) = ts[k].take j ++ [ts[k][j]] := List.take_succ_eq_append_getElem hjl
            cases hr : rightIns V M ts[k].length ts[k][j]
            · have HR : Hid (rightPg ⟨V, M, ts⟩ = false) := by
                show _ = _
                rw [H.out, List.all_eq_false]; refine ⟨ts[k], List.getElem_mem _, ?_⟩
                rw [HC.out, Bool.not_eq_true, List.all_eq_false]
                exact ⟨ts[k][j], List.getElem_mem _, by simp [hr]⟩
              clear hr htj
              go_wp2
              go_ret
              exact ⟨ret_bool HR.out.symm, hb3⟩
            · have HR : Hid ((ts[k].take (j + 1)).all (rightIns V M ts[k].length) = true) := by
                show _ = _
                rw [htj, List.all_append, hin.out]; simp [hr]
              clear hr htj
              go_wp2
              go_roundw
              case rel => exact ⟨j + 1, by omega, by go_num, HR, hb2⟩
              case measure => simp [intOf]; omega
          · obtain rfl : j = ts[k].length := by omega
            have HR : Hid ((ts.take (k + 1)).all (rightCode V M) = true) := by
              show _ = _
              rw [HT.out, List.all_append, hall.out]
              have := hin.out
              rw [List.take_length] at this
              simp [HC.out, this]
            have hb4 : Below (w.heap.size + 1) (w.alloc (.cells #[.int .i64 V, .int .i64 M, .slice (some ⟨b, o, none⟩) ts.length cap] 24)) wr := hb.trans (hb'.mono (by omega))
            go_wp2
            go_roundw
            case rel => exact ⟨k + 1, by omega, by go_num, HR, hb4⟩
            case measure => simp [intOf]; omega
    · obtain rfl : k = ts.length := by omega
      have HR : Hid (rightPg ⟨V, M, ts⟩ = true) := by
        show _ = _
        rw [H.out, ← hall.out, List.take_length]
      go_wp2
      go_ret
      exact ⟨ret_bool HR.out.symm, hbw⟩
end Go.Proofs.YtljlaopjimkcmaaGreat
