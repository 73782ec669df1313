/- ClockMore: rows that are the same are the same with one event more behind both, and so are their beginnings. -/
import Derived.Test.YthdfmndompfgaaaWake4
import Derived.Test.YthdfmndompfgaaaCopyE2
import Derived.Test.YthdfmndompfgaaaOpenEv
import Derived.Deep.DeepCutAuto
import Derived.Deep.RegionLaw
namespace Go.Proofs.Ythdfmndompfgaaa
open Go.RowKit

theorem rightL_snoc (l : List Ev) (e : Ev) : rightL (l ++ [e]) = (rightL l && rightEv e) := by
  unfold rightL
  rw [List.all_append]
  simp
theorem same_snoc {a b : List Ev} {e : Ev} (ha : rightL a = true) (hb4 : rightL b = true) (he : rightEv e = true) : SameO (a ++ [e]) (b ++ [e]) ↔ SameO a b := by
  unfold SameO
  rw [rightL_snoc, rightL_snoc, ha, hb4, he, sim_snoc]
  simp

set_option maxRecDepth 100000 in
set_option maxHeartbeats 8000000 in
theorem clockMore_any (aa : Option Addr) (a : List Ev) (ca : Nat) (ab : Option Addr) (b : List Ev) (cb : Nat) (e : Ev) (w : World) (hla : EvsAt w aa a) (hna : aa = none → ca = 0) (hlb : EvsAt w ab b) (hnb : ab = none → cb = 0) :
    Calls Try.prog 7 #[.slice aa a.length ca, .slice ab b.length cb, .agg #[.int .i64 e.thread, .int .i64 e.kind, .int .i64 e.obj, .bool e.fail]] w fun r w' => r = .returned (.bool true) ∧ Below w.heap.size w w' := by
  have hmx := hla.1
  have hmy := hlb.1
  unfold maxLen at hmx hmy
  have HLA := Lib.hid hla
  have HLB := Lib.hid hlb
  have HNA : Hid (aa = none → ca = 0 ∧ a = []) := fun h => ⟨hna h, by
    apply Classical.byContradiction
    intro hn
    obtain ⟨_, _, e, _⟩ := hla.2 hn
    rw [h] at e
    cases e⟩
  have HNB : Hid (ab = none → cb = 0 ∧ b = []) := fun h => ⟨hnb h, by
    apply Classical.byContradiction
    intro hn
    obtain ⟨_, _, e, _⟩ := hlb.2 hn
    rw [h] at e
    cases e⟩
  clear hna hnb hla hlb
  have hb0 : Below w.heap.size w (w.alloc (.cells #[.int .i64 e.thread, .int .i64 e.kind, .int .i64 e.obj, .bool e.fail] 28)) := below_alloc1 _ _
  have HBE := Lib.hid (EvBox.new w e)
  by_cases hlen : a.length ≤ 30
  case neg =>
    have hq : 30 < a.length := by omega
    go_enter Try.func7, Try.ntmps7
    go_wp2_with fail
    refine (awake_any _).mono ?_
    rintro r w1 ⟨rfl, hb1⟩
    have hb2 := hb0.trans (hb1.mono hb0.size)
    clear hb1
    go_wp2_with fail
    refine (awake_any _).mono ?_
    rintro r w9 ⟨rfl, hb9⟩
    go_wp2
    go_ret
    exact ⟨rfl, hb2.trans (hb9.mono hb2.size)⟩
  have hqa : decide ((30 : Int) < (a.length : Int)) = false := by simp; omega
  have hqa2 : decide (30 < a.length) = false := by simp; omega
  by_cases hlen2 : b.length ≤ 30
  case neg =>
    have hq : 30 < b.length := by omega
    go_enter Try.func7, Try.ntmps7
    go_wp2_with fail
    refine (awake_any _).mono ?_
    rintro r w1 ⟨rfl, hb1⟩
    have hb2 := hb0.trans (hb1.mono hb0.size)
    clear hb1
    go_wp2_with fail
    refine (awake_any _).mono ?_
    rintro r w9 ⟨rfl, hb9⟩
    go_wp2
    go_ret
    exact ⟨rfl, hb2.trans (hb9.mono hb2.size)⟩
  have hqb : decide ((30 : Int) < (b.length : Int)) = false := by simp; omega
  have hqb2 : decide (30 < b.length) = false := by simp; omega
  cases hra : rightL a
  case false =>
    have HRA := Lib.hid hra
    clear hra
    skip
    go_enter Try.func7, Try.ntmps7
    go_wp2_with fail
    refine (awake_any _).mono ?_
    rintro r w1 ⟨rfl, hb1⟩
    have hb2 := hb0.trans (hb1.mono hb0.size)
    clear hb1
    go_wp2_with fail
    refine (rows_any aa ca a _ (HLA.out.later hb2)).mono ?_
    rintro r w2 ⟨rfl, hb3⟩
    rw [HRA.out]
    have hb4 := hb2.trans (hb3.mono hb2.size)
    clear hb2 hb3
    have hb2 := hb4
    clear hb4
    go_wp2_with fail
    refine (awake_any _).mono ?_
    rintro r w9 ⟨rfl, hb9⟩
    go_wp2
    go_ret
    exact ⟨rfl, hb2.trans (hb9.mono hb2.size)⟩
  have HRA := Lib.hid hra
  clear hra
  cases hrb : rightL b
  case false =>
    have HRB := Lib.hid hrb
    clear hrb
    skip
    go_enter Try.func7, Try.ntmps7
    go_wp2_with fail
    refine (awake_any _).mono ?_
    rintro r w1 ⟨rfl, hb1⟩
    have hb2 := hb0.trans (hb1.mono hb0.size)
    clear hb1
    go_wp2_with fail
    refine (rows_any aa ca a _ (HLA.out.later hb2)).mono ?_
    rintro r w2 ⟨rfl, hb3⟩
    rw [HRA.out]
    have hb4 := hb2.trans (hb3.mono hb2.size)
    clear hb2 hb3
    have hb2 := hb4
    clear hb4
    go_wp2_with fail
    refine (rows_any ab cb b _ (HLB.out.later hb2)).mono ?_
    rintro r w2 ⟨rfl, hb3⟩
    rw [HRB.out]
    have hb4 := hb2.trans (hb3.mono hb2.size)
    clear hb2 hb3
    have hb2 := hb4
    clear hb4
    go_wp2_with fail
    refine (awake_any _).mono ?_
    rintro r w9 ⟨rfl, hb9⟩
    go_wp2
    go_ret
    exact ⟨rfl, hb2.trans (hb9.mono hb2.size)⟩
  have HRB := Lib.hid hrb
  clear hrb
  have HEQ : Hid (∀ w', Calls Try.prog 20 #[.agg #[.int .i64 e.thread, .int .i64 e.kind, .int .i64 e.obj, .bool e.fail]] w' fun r w'' => r = .returned (.bool (rightEv e)) ∧ Below w'.heap.size w' w'') := fun w' => refEvRight_any e w'
  go_enter Try.func7, Try.ntmps7
  go_wp2_with fail
  refine (awake_any _).mono ?_
  rintro r w1 ⟨rfl, hb1⟩
  have hb2 := hb0.trans (hb1.mono hb0.size)
  have HBE2 := Lib.hid (HBE.out.later hb1)
  clear hb1 HBE
  go_wp2_with fail
  refine (rows_any aa ca a _ (HLA.out.later hb2)).mono ?_
  rintro r w2 ⟨rfl, hb3⟩
  rw [HRA.out]
  have hb4 := hb2.trans (hb3.mono hb2.size)
  have HBE3 := Lib.hid (HBE2.out.later hb3)
  clear hb2 hb3 HBE2
  go_wp2_with fail
  refine (rows_any ab cb b _ (HLB.out.later hb4)).mono ?_
  rintro r w3 ⟨rfl, hb5⟩
  rw [HRB.out]
  have hb6 := hb4.trans (hb5.mono hb4.size)
  have HBE4 := Lib.hid (HBE3.out.later hb5)
  clear hb4 hb5 HBE3
  obtain ⟨x0, x1, x2, x3⟩ := HBE4.out.cells
  go_wp2_with fail
  refine (HEQ.out _).mono ?_
  rintro r w4 ⟨rfl, hb7⟩
  have hbr := hb6.trans (hb7.mono hb6.size)
  have HBE5 := Lib.hid (HBE4.out.later hb7)
  clear hb6 hb7 HBE4 x0 x1 x2 x3
  cases hre : rightEv e
  case false =>
    clear hre
    go_wp2_with fail
    refine (awake_any _).mono ?_
    rintro r w9 ⟨rfl, hb9⟩
    go_wp2
    go_ret
    exact ⟨rfl, hbr.trans (hb9.mono hbr.size)⟩
  have HRE := Lib.hid hre
  clear hre hb0
  go_upto_region 3 with (fail)
  go_cut [7] (fun s7 wx => OwnE wx w4.heap.size s7 (a ++ [e]) ∧ Below w4.heap.size w4 wx)
  case first =>
    obtain ⟨x0, x1, x2, x3⟩ := HBE5.out.cells
    obtain ⟨z0, z1, z2, z3⟩ := (HBE5.out.later (below_alloc1 w4 (.cells #[] 28))).cells
    have HWY := Lib.hid (ways w4 e)
    go_wp2_with fail
    go_region_law ((first
        | (refine step_copyE2 (by rfl) (.tmp 37) (.tmp 38) (by rfl) w4.heap.size _ [] (by rfl) HWY.out.a aa ca a (by rfl) (HLA.out.later (hbr.trans ((below_alloc1 w4 _).drew.mono hbr.size))) HNA.out (by simp only [List.length_nil]; omega) (by simp <;> omega) ?_; intro v1 w5 hown4 hb4 hgr4; have HO4 := Lib.hid hown4; have hb5 : Below w4.heap.size w4 w5 := (below_alloc1 w4 _).drew.trans hb4; have hz4 := hb5.size; obtain ⟨y0, y1, y2, y3⟩ := (HBE5.out.later hb5).cells; clear hown4)
        | (refine step_copyE2 (by rfl) (.tmp 37) (.tmp 38) (by rfl) w4.heap.size _ [] (by rfl) HWY.out.b aa ca a (by rfl) (HLA.out.later (hbr.trans ((below_alloc2 w4 _ _).drew.mono hbr.size))) HNA.out (by simp only [List.length_nil]; omega) (by simp <;> omega) ?_; intro v1 w5 hown4 hb4 hgr4; have HO4 := Lib.hid hown4; have HT4 := Lib.hid (HWY.out.bt.grown hgr4 (by simp [Value.ownBlock])); have hb5 : Below w4.heap.size w4 w5 := (below_alloc2 w4 _ _).drew.trans hb4; have hz4 := hb5.size; obtain ⟨y0, y1, y2, y3⟩ := (HBE5.out.later hb5).cells; clear hown4)
        | (refine step_copyE2 (by rfl) (.tmp 37) (.tmp 38) (by rfl) w4.heap.size _ [] (by rfl) HWY.out.c aa ca a (by rfl) (HLA.out.later (hbr.trans ((below_alloc2 w4 _ _).drew.mono hbr.size))) HNA.out (by simp only [List.length_nil]; omega) (by simp <;> omega) ?_; intro v1 w5 hown4 hb4 hgr4; have HO4 := Lib.hid hown4; have HT4 := Lib.hid (HWY.out.ct.grown hgr4 (by simp [Value.ownBlock])); have hb5 : Below w4.heap.size w4 w5 := (below_alloc2 w4 _ _).drew.trans hb4; have hz4 := hb5.size; obtain ⟨y0, y1, y2, y3⟩ := (HBE5.out.later hb5).cells; clear hown4)
        | (refine step_copyE2 (by rfl) (.tmp 39) (.tmp 41) (by rfl) w4.heap.size _ _ (by rfl) HO4.out (some ⟨_, 0, none⟩) 1 [e] (by rfl) HT4.out (by intro h; cases h) (by simp only [List.nil_append, List.length_cons, List.length_nil]; omega) hz4 ?_; intro v2 w6 hown6 hb6 _; have HO6 := Lib.hid hown6; have hb7 : Below w4.heap.size w4 w6 := hb5.trans hb6; clear hown6)
        | (refine step_copyE2 (by rfl) (.tmp 39) (.tmp 41) (by rfl) w4.heap.size _ _ (by rfl) (OwnE.alloc HO4.out _) (some ⟨w5.heap.size, 0, none⟩) 1 [e] (by rfl) (evs_one1 w5 e) (by intro h; cases h) (by simp only [List.nil_append, List.length_cons, List.length_nil]; omega) (by rw [World.size_alloc]; omega) ?_; intro v2 w6 hown6 hb6 _; have HO6 := Lib.hid hown6; have hb7 : Below w4.heap.size w4 w6 := (hb5.alloc hz4 _).trans hb6; clear hown6)))
    all_goals go_wp2_with fail
    all_goals go_meet
    all_goals exact ⟨HO6.out, hb7⟩
  case rest =>
    obtain ⟨hx1, hx2⟩ := hcut
    obtain ⟨la, hla⟩ : ∃ la, la = a ++ [e] := ⟨_, rfl⟩
    obtain ⟨lb, hlb⟩ : ∃ lb, lb = b ++ [e] := ⟨_, rfl⟩
    rw [← hla] at hx1
    have hma : la.length ≤ 31 := by rw [hla, List.length_append, List.length_singleton]; omega
    have hmb : lb.length ≤ 31 := by rw [hlb, List.length_append, List.length_singleton]; omega
    have HLAE := Lib.hid hla
    have HLBE := Lib.hid hlb
    clear hla hlb
    obtain ⟨a1, c1, rfl, hx3⟩ := hx1.form (by omega)
    have HX := Lib.hid hx3
    clear hx1 hx3
    have hbc := hbr.trans (hx2.mono hbr.size)
    have HBE6 := Lib.hid (HBE5.out.later hx2)
    clear hbr HBE5 hx2
    obtain ⟨x0, x1, x2, x3⟩ := HBE6.out.cells
    obtain ⟨z0, z1, z2, z3⟩ := (HBE6.out.later (below_alloc1 wc (.cells #[] 28))).cells
    have HWY := Lib.hid (ways wc e)
    have HEQU : Hid (∀ c d : Bool, (c = true ↔ SameO a b) → (d = true ↔ SameO la lb) → d = c) := by
      intro c d hc hd
      rw [HLAE.out, HLBE.out, same_snoc HRA.out HRB.out HRE.out] at hd
      exact Bool.eq_iff_iff.2 (hd.trans hc.symm)
    go_wp2_with fail
    go_region_law ((first
        | (refine step_copyE2 (by rfl) (.tmp 43) (.tmp 44) (by rfl) wc.heap.size _ [] (by rfl) HWY.out.a ab cb b (by rfl) (HLB.out.later (hbc.trans ((below_alloc1 wc _).drew.mono hbc.size))) HNB.out (by simp only [List.length_nil]; omega) (by simp <;> omega) ?_; intro v1 w5 hown4 hb4 hgr4; have HO4 := Lib.hid hown4; have hb5 : Below wc.heap.size wc w5 := (below_alloc1 wc _).drew.trans hb4; have hz4 := hb5.size; obtain ⟨y0, y1, y2, y3⟩ := (HBE6.out.later hb5).cells; clear hown4)
        | (refine step_copyE2 (by rfl) (.tmp 43) (.tmp 44) (by rfl) wc.heap.size _ [] (by rfl) HWY.out.b ab cb b (by rfl) (HLB.out.later (hbc.trans ((below_alloc2 wc _ _).drew.mono hbc.size))) HNB.out (by simp only [List.length_nil]; omega) (by simp <;> omega) ?_; intro v1 w5 hown4 hb4 hgr4; have HO4 := Lib.hid hown4; have HT4 := Lib.hid (HWY.out.bt.grown hgr4 (by simp [Value.ownBlock])); have hb5 : Below wc.heap.size wc w5 := (below_alloc2 wc _ _).drew.trans hb4; have hz4 := hb5.size; obtain ⟨y0, y1, y2, y3⟩ := (HBE6.out.later hb5).cells; clear hown4)
        | (refine step_copyE2 (by rfl) (.tmp 43) (.tmp 44) (by rfl) wc.heap.size _ [] (by rfl) HWY.out.c ab cb b (by rfl) (HLB.out.later (hbc.trans ((below_alloc2 wc _ _).drew.mono hbc.size))) HNB.out (by simp only [List.length_nil]; omega) (by simp <;> omega) ?_; intro v1 w5 hown4 hb4 hgr4; have HO4 := Lib.hid hown4; have HT4 := Lib.hid (HWY.out.ct.grown hgr4 (by simp [Value.ownBlock])); have hb5 : Below wc.heap.size wc w5 := (below_alloc2 wc _ _).drew.trans hb4; have hz4 := hb5.size; obtain ⟨y0, y1, y2, y3⟩ := (HBE6.out.later hb5).cells; clear hown4)
        | (refine step_copyE2 (by rfl) (.tmp 45) (.tmp 47) (by rfl) wc.heap.size _ _ (by rfl) HO4.out (some ⟨_, 0, none⟩) 1 [e] (by rfl) HT4.out (by intro h; cases h) (by simp only [List.nil_append, List.length_cons, List.length_nil]; omega) hz4 ?_; intro v2 w6 hown6 hb6 _; have hown7 : OwnE w6 wc.heap.size v2 (b ++ [e]) := hown6; rw [← HLBE.out] at hown7; obtain ⟨b1, c2, hv2, hy⟩ := hown7.form (by rw [HLBE.out, List.length_append, List.length_singleton]; omega); have HO6 := Lib.hid hy; clear hown7 hy; subst hv2; have hb7 : Below wc.heap.size wc w6 := hb5.trans hb6; clear hown6)
        | (refine step_copyE2 (by rfl) (.tmp 45) (.tmp 47) (by rfl) wc.heap.size _ _ (by rfl) (OwnE.alloc HO4.out _) (some ⟨w5.heap.size, 0, none⟩) 1 [e] (by rfl) (evs_one1 w5 e) (by intro h; cases h) (by simp only [List.nil_append, List.length_cons, List.length_nil]; omega) (by rw [World.size_alloc]; omega) ?_; intro v2 w6 hown6 hb6 _; have hown7 : OwnE w6 wc.heap.size v2 (b ++ [e]) := hown6; rw [← HLBE.out] at hown7; obtain ⟨b1, c2, hv2, hy⟩ := hown7.form (by rw [HLBE.out, List.length_append, List.length_singleton]; omega); have HO6 := Lib.hid hy; clear hown7 hy; subst hv2; have hb7 : Below wc.heap.size wc w6 := (hb5.alloc hz4 _).trans hb6; clear hown6)))
    all_goals go_wp2_with fail
    all_goals (refine (same_any aa ab ca cb a b _ (HLA.out.later (hbc.trans (hb7.mono hbc.size))) (HLB.out.later (hbc.trans (hb7.mono hbc.size))) (by omega) (by omega)).mono ?_)
    all_goals (rintro r w7 ⟨c, rfl, hc, hb8⟩; have HC := Lib.hid hc; clear hc)
    all_goals go_wp2_with fail
    all_goals (refine (same_any a1 b1 c1 c2 la lb _ (HX.out.later (hb7.trans (hb8.mono hb7.size))) (HO6.out.later hb8) (by omega) (by omega)).mono ?_)
    all_goals (rintro r w8 ⟨d, rfl, hd, hb9⟩; obtain rfl := HEQU.out _ _ HC.out hd; clear hd)
    all_goals go_wp2
    all_goals go_ret
    all_goals (have hb10 := hbc.trans (hb7.mono hbc.size); have hb11 := hb10.trans (hb8.mono hb10.size); refine ⟨by simp, hb11.trans (hb9.mono hb11.size)⟩)

end Go.Proofs.Ythdfmndompfgaaa
