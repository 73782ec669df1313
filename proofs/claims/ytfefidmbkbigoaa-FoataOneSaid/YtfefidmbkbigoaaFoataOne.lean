/- FoataOne: two rows are the same just if their keys are; the row of a row's levels is the same as it. -/
import Derived.Test.YtfefidmbkbigoaaWake5
import Derived.Test.YtfefidmbkbigoaaKeyPlain
import Derived.Test.YtfefidmbkbigoaaOpenBytes
import Derived.Test.YtfefidmbkbigoaaEvCopy
namespace Go.Proofs.Ytfefidmbkbigoaa
open Go.RowKit

theorem OwnE.four {w : World} {B g n cap : Nat} {es : List Ev} (h : OwnE w B (.slice (some ⟨g, 0, none⟩) n cap) es) (hn : n = es.length) {k : Nat} (hk : k < n) :
    (w.cell? ⟨g, k * 4, none⟩ = some (.int .i64 (evI es k).thread) ∧ w.cell? ⟨g, k * 4 + 1, none⟩ = some (.int .i64 (evI es k).kind) ∧ w.cell? ⟨g, k * 4 + 2, none⟩ = some (.int .i64 (evI es k).obj) ∧ w.cell? ⟨g, k * 4 + 3, none⟩ = some (.bool (evI es k).fail)) ∧
    (w.frozen? ⟨g, k * 4, none⟩ = false ∧ w.frozen? ⟨g, k * 4 + 1, none⟩ = false ∧ w.frozen? ⟨g, k * 4 + 2, none⟩ = false ∧ w.frozen? ⟨g, k * 4 + 3, none⟩ = false) := by
  have h0 : w.ownsRow B 28 4 (.slice (some ⟨g, 0, none⟩) n cap) n (evCells es) := by
    have h1 : w.ownsRow B 28 4 (.slice (some ⟨g, 0, none⟩) n cap) es.length (evCells es) := h
    rw [← hn] at h1
    exact h1
  have hc : ∀ j, j < 4 → w.cell? ⟨g, k * 4 + j, none⟩ = (evCell (evI es k))[j]? := fun j hj => by
    rw [h0.cellAt _ (by omega), evCells_get es k j (by omega) hj, evI_get (by omega)]
  exact ⟨⟨hc 0 (by omega), hc 1 (by omega), hc 2 (by omega), hc 3 (by omega)⟩, h0.frozenAt _, h0.frozenAt _, h0.frozenAt _, h0.frozenAt _⟩

theorem OwnE.drew {w : World} {B : Nat} {v : Value} {es : List Ev} (h : OwnE w B v es) : OwnE w.drew B v es := h

set_option maxRecDepth 100000 in
set_option maxHeartbeats 8000000 in
theorem foataOne_any (aa : Option Addr) (la : List Ev) (ca : Nat) (ab : Option Addr) (lb : List Ev) (cb : Nat) (az : Option Addr) (ns : List Int) (cs : Nat) (w : World) (hla : EvsAt w aa la) (hlb : EvsAt w ab lb) (hls : BytesAt w az ns) (hna : aa = none → ca = 0) (hns : ∀ n ∈ ns, 0 ≤ n ∧ n < 256) :
    Calls Try.prog 7 #[.slice aa la.length ca, .slice ab lb.length cb, .slice az ns.length cs] w fun r w' => r = .returned (.bool true) ∧ Below w.heap.size w w' := by
  have hma := hla.1
  have hmb := hlb.1
  have hms := hls.1
  unfold maxLen at hma hmb hms
  have HLA := Lib.hid hla
  have HLB := Lib.hid hlb
  have HLS := Lib.hid hls
  have HNS := Lib.hid hns
  have HNA : Hid (aa = none → ca = 0 ∧ la = []) := fun e => ⟨hna e, by subst e; exact evsAt_none hla⟩
  clear hla hlb hls hns hna
  by_cases hg : 30 < la.length ∨ 30 < lb.length ∨ 100 < ns.length
  case pos =>
    by_cases h1 : 30 < la.length
    · clear hg
      go_enter Try.func7, Try.ntmps7
      go_wp2_with fail
      refine (awake5_any w).mono ?_
      rintro r w1 ⟨rfl, hb1⟩
      go_wp2_with fail
      refine (awake5_any w1).mono ?_
      rintro r w2 ⟨rfl, hb2⟩
      go_wp2
      go_ret
      exact ⟨rfl, hb1.trans (hb2.mono hb1.size)⟩
    by_cases h2 : 30 < lb.length
    · clear hg
      go_enter Try.func7, Try.ntmps7
      go_wp2_with fail
      refine (awake5_any w).mono ?_
      rintro r w1 ⟨rfl, hb1⟩
      go_wp2_with fail
      refine (awake5_any w1).mono ?_
      rintro r w2 ⟨rfl, hb2⟩
      go_wp2
      go_ret
      exact ⟨rfl, hb1.trans (hb2.mono hb1.size)⟩
    have h3 : 100 < ns.length := by omega
    clear hg
    go_enter Try.func7, Try.ntmps7
    go_wp2_with fail
    refine (awake5_any w).mono ?_
    rintro r w1 ⟨rfl, hb1⟩
    go_wp2_with fail
    refine (awake5_any w1).mono ?_
    rintro r w2 ⟨rfl, hb2⟩
    go_wp2
    go_ret
    exact ⟨rfl, hb1.trans (hb2.mono hb1.size)⟩
  have h1 : ¬ 30 < la.length := by omega
  have h2 : ¬ 30 < lb.length := by omega
  have h3 : ¬ 100 < ns.length := by omega
  clear hg
  cases hra : rightL la
  case false =>
    have HR := Lib.hid hra
    clear hra
    go_enter Try.func7, Try.ntmps7
    go_wp2_with fail
    refine (awake5_any w).mono ?_
    rintro r w1 ⟨rfl, hb1⟩
    go_wp2_with fail
    refine (rows_any aa ca la w1 (HLA.out.later hb1)).mono ?_
    rintro r w2 ⟨rfl, hb2⟩
    rw [HR.out]
    go_wp2_with fail
    refine (awake5_any w2).mono ?_
    rintro r w3 ⟨rfl, hb3⟩
    have hb4 := (hb1.trans (hb2.mono hb1.size))
    go_wp2
    go_ret
    exact ⟨rfl, hb4.trans (hb3.mono hb4.size)⟩
  have HRA := Lib.hid hra
  clear hra
  cases hrb : rightL lb
  case false =>
    have HR := Lib.hid hrb
    clear hrb
    go_enter Try.func7, Try.ntmps7
    go_wp2_with fail
    refine (awake5_any w).mono ?_
    rintro r w1 ⟨rfl, hb1⟩
    go_wp2_with fail
    refine (rows_any aa ca la w1 (HLA.out.later hb1)).mono ?_
    rintro r w2 ⟨rfl, hb2⟩
    rw [HRA.out]
    have hb4 := (hb1.trans (hb2.mono hb1.size))
    clear hb1 hb2
    go_wp2_with fail
    refine (rows_any ab cb lb w2 (HLB.out.later hb4)).mono ?_
    rintro r w3 ⟨rfl, hb3⟩
    rw [HR.out]
    have hb5 := hb4.trans (hb3.mono hb4.size)
    clear hb4 hb3
    go_wp2_with fail
    refine (awake5_any w3).mono ?_
    rintro r w4 ⟨rfl, hb6⟩
    go_wp2
    go_ret
    exact ⟨rfl, hb5.trans (hb6.mono hb5.size)⟩
  have HRB := Lib.hid hrb
  clear hrb
  have hla30 : la.length ≤ 30 := by omega
  have hd1 : decide ((30 : Int) < (la.length : Int)) = false := by simp; omega
  have hd2 : decide ((30 : Int) < (lb.length : Int)) = false := by simp; omega
  have hd3 : decide ((100 : Int) < (ns.length : Int)) = false := by simp; omega
  have hlb30 : lb.length ≤ 30 := by omega
  go_enter Try.func7, Try.ntmps7
  go_wp2_with fail
  refine (awake5_any w).mono ?_
  rintro r w1 ⟨rfl, hb1⟩
  go_wp2_with fail
  refine (rows_any aa ca la w1 (HLA.out.later hb1)).mono ?_
  rintro r w2 ⟨rfl, hb2⟩
  rw [HRA.out]
  have hb4 := (hb1.trans (hb2.mono hb1.size))
  clear hb1 hb2
  go_wp2_with fail
  refine (rows_any ab cb lb w2 (HLB.out.later hb4)).mono ?_
  rintro r w3 ⟨rfl, hb3⟩
  rw [HRB.out]
  have hb5 := hb4.trans (hb3.mono hb4.size)
  have hba := below_alloc1 w3 (.cells #[] 28)
  have HLA4 := Lib.hid (HLA.out.later (hb5.trans (hba.mono hb5.size)))
  have HOE : Hid (OwnE (w3.alloc (.cells #[] 28)) w3.heap.size (.slice (some ⟨w3.heap.size, 0, none⟩) 0 0) []) := ownE_empty w3 _ rfl
  clear hb4 hb3
  go_wp2_with (at_builtin; refine wpList_copyE rfl _ _ rfl w3.heap.size _ [] rfl HOE.out aa ca la rfl HLA4.out HNA.out (by simp <;> omega) hba.size ?_; intro v4 w4 h4 hb6; have HO4 := Lib.hid h4; clear h4)
  have HB4 : Hid (Below w3.heap.size w3 w4) := hba.trans hb6
  have HO5 : Hid (OwnE w4 w3.heap.size v4 la) := HO4.out
  have hbw : Below w.heap.size w w3 := hb5
  have HAA : Hid (∀ W, Below w3.heap.size w3 W → EvsAt W aa la) := fun W hW => HLA.out.later (hbw.trans (hW.mono hbw.size))
  have HBB : Hid (∀ W, Below w3.heap.size w3 W → EvsAt W ab lb) := fun W hW => HLB.out.later (hbw.trans (hW.mono hbw.size))
  have HSS : Hid (∀ W, Below w3.heap.size w3 W → BytesAt W az ns) := fun W hW => HLS.out.later (hbw.trans (hW.mono hbw.size))
  clear HOE HLA4 hb5 hba hb6 HO4 hd1 hd2 hd3 h1 h2 h3
  obtain ⟨a4, c4, rfl, _⟩ := HO5.out.form (by omega)
  go_loopw [44] (fun i wr => ∃ (k : Nat) (c : List Ev), k ≤ ns.length ∧ i = .int .i64 k ∧ Hid (c.length = la.length) ∧ Hid (OwnE wr w3.heap.size (.slice a4 la.length c4) c) ∧ Hid (Below w3.heap.size w3 wr)) (fun i _ => ns.length - (intOf i).toNat)
  case atStart => exact ⟨0, la, Nat.zero_le _, rfl, rfl, HO5.out, HB4.out⟩
  case round =>
    clear HO5 HB4
    obtain ⟨k, c, hk, rfl, HCL, HO, HB⟩ := hrel
    by_cases hlt : k < ns.length
    · obtain ⟨bs, os, rfl, hs⟩ := (HSS.out _ HB.out).2 (by intro e; simp [e] at hlt)
      have s0 := hs k hlt
      have hsn := HNS.out ns[k] (List.getElem_mem hlt)
      obtain ⟨S, hS⟩ : ∃ S : Nat, ns[k] = S := ⟨ns[k].toNat, by omega⟩
      rw [hS] at s0 hsn
      clear hs hS
      have hw1 : IntKind.i64.wrap (S : Int) = S := IntWalk.i64_in _ (by omega)
      have hw2 : IntKind.i64.wrap ((S : Int) + 1) = (S : Int) + 1 := IntWalk.i64_in _ (by omega)
      by_cases hin : S + 1 < la.length
      · have hq : decide ((S : Int) + 1 < (la.length : Int)) = true := by simp; omega
        obtain ⟨g, cg, hv, hgB, _⟩ := OwnRow.block (f := evCell) HO.out (by intro e; have := HCL.out; rw [e] at this; simp at this; omega)
        injection hv with hv1 hv2 hv3
        subst hv1
        clear hv2 hv3
        obtain ⟨⟨x0, x1, x2, x3⟩, f0, f1, f2, f3⟩ := OwnE.four HO.out HCL.out.symm (k := S) (by omega)
        obtain ⟨⟨y0, y1, y2, y3⟩, e0, e1, e2, e3⟩ := OwnE.four HO.out HCL.out.symm (k := S + 1) (by omega)
        have HP1 := Lib.hid (OwnE.store4 (w := wr) HO.out HCL.out.symm (k := S) (by omega) (evI c (S + 1)))
        have HP2 := Lib.hid (OwnE.store4 HP1.out (by rw [List.length_set]; exact HCL.out.symm) (k := S + 1) (by omega) (evI c S))
        obtain ⟨⟨p0, p1, p2, p3⟩, q0, q1, q2, q3⟩ := OwnE.four HP1.out (by rw [List.length_set]; exact HCL.out.symm) (k := S + 1) (by omega)
        have HLEN : Hid (((c.set S (evI c (S + 1))).set (S + 1) (evI c S)).length = la.length) := by show _ = _; rw [List.length_set, List.length_set]; exact HCL.out
        generalize (c.set S (evI c (S + 1))).set (S + 1) (evI c S) = c2 at *
        generalize evI (c.set S (evI c (S + 1))) (S + 1) = z at *
        generalize evI c (S + 1) = y at *
        generalize evI c S = x at *
        have hi1 : (S : Int) < (la.length : Int) := by omega
        have hi0 : (0 : Int) ≤ S := by omega
        have hi2 : (0 : Int) ≤ (S : Int) + 1 := by omega
        have hi3 : ((S : Int) + 1).toNat = S + 1 := by omega
        go_wp2_with fail
        go_region
        have HBN : Hid (Below w3.heap.size w3 ((((((((wr.setCell ⟨g, S * 4, none⟩ (.int .i64 y.thread)).setCell ⟨g, S * 4 + 1, none⟩ (.int .i64 y.kind)).setCell ⟨g, S * 4 + 2, none⟩ (.int .i64 y.obj)).setCell ⟨g, S * 4 + 3, none⟩ (.bool y.fail)).setCell ⟨g, (S + 1) * 4, none⟩ (.int .i64 x.thread)).setCell ⟨g, (S + 1) * 4 + 1, none⟩ (.int .i64 x.kind)).setCell ⟨g, (S + 1) * 4 + 2, none⟩ (.int .i64 x.obj)).setCell ⟨g, (S + 1) * 4 + 3, none⟩ (.bool x.fail))) :=
          (((((((HB.out.setCell (p := ⟨g, S * 4, none⟩) hgB _).setCell (p := ⟨g, S * 4 + 1, none⟩) hgB _).setCell (p := ⟨g, S * 4 + 2, none⟩) hgB _).setCell (p := ⟨g, S * 4 + 3, none⟩) hgB _).setCell (p := ⟨g, (S + 1) * 4, none⟩) hgB _).setCell (p := ⟨g, (S + 1) * 4 + 1, none⟩) hgB _).setCell (p := ⟨g, (S + 1) * 4 + 2, none⟩) hgB _).setCell (p := ⟨g, (S + 1) * 4 + 3, none⟩) hgB _
        have HND := Lib.hid (And.intro (OwnE.drew HP2.out) HBN.out.drew)
        clear HP1 HP2 HBN p0 p1 p2 p3 q0 q1 q2 q3 x0 x1 x2 x3 y0 y1 y2 y3 f0 f1 f2 f3 e0 e1 e2 e3
        go_wp2
        go_roundw
        case rel => exact ⟨k + 1, c2, by omega, by go_num, HLEN.out, HND.out.1, HND.out.2⟩
        case measure => simp [intOf]; omega
      · have hq : decide ((S : Int) + 1 < (la.length : Int)) = false := by simp; omega
        go_wp2
        go_roundw
        case rel => exact ⟨k + 1, c, by omega, by go_num, HCL.out, HO.out, HB.out⟩
        case measure => simp [intOf]; omega
    · obtain ⟨KA, hKA⟩ : ∃ KA, KA = u8s (keyF la) := ⟨_, rfl⟩
      obtain ⟨KB, hKB⟩ : ∃ KB, KB = u8s (keyF lb) := ⟨_, rfl⟩
      obtain ⟨KC, hKC⟩ : ∃ KC, KC = u8s (keyF c) := ⟨_, rfl⟩
      obtain ⟨a5, c5, hv, hec⟩ := HO.out.form (by have := HCL.out; omega)
      injection hv with hv1 hv2 hv3
      subst hv1 hv3
      clear hv2
      have hcl : c.length ≤ 30 := by have := HCL.out; omega
      have HCE : Hid (∀ W, Below wr.heap.size wr W → EvsAt W a4 c) := fun W hW => hec.later hW
      have HKA : Hid (∀ W, Below wr.heap.size wr W → Calls Try.prog 20 #[.slice aa la.length ca] W fun r w' => r = .returned (.string ⟨KA.toArray⟩) ∧ Below W.heap.size W w') := fun W hW => by
        rw [hKA]; exact key_any aa ca la W (HAA.out _ (HB.out.trans (hW.mono HB.out.size)))
      have HKB : Hid (∀ W, Below wr.heap.size wr W → Calls Try.prog 20 #[.slice ab lb.length cb] W fun r w' => r = .returned (.string ⟨KB.toArray⟩) ∧ Below W.heap.size W w') := fun W hW => by
        rw [hKB]; exact key_any ab cb lb W (HBB.out _ (HB.out.trans (hW.mono HB.out.size)))
      have HKC : Hid (∀ W, Below wr.heap.size wr W → Calls Try.prog 20 #[.slice a4 la.length c4] W fun r w' => r = .returned (.string ⟨KC.toArray⟩) ∧ Below W.heap.size W w') := fun W hW => by
        rw [hKC, ← HCL.out]; exact key_any a4 c4 c W (HCE.out _ hW)
      have HSB : Hid (∀ W, Below wr.heap.size wr W → Calls Try.prog 13 #[.slice aa la.length ca, .slice ab lb.length cb] W fun r w' => r = .returned (.bool (KA == KB)) ∧ Below W.heap.size W w') := fun W hW =>
        (same_any aa ab ca cb la lb W (HAA.out _ (HB.out.trans (hW.mono HB.out.size))) (HBB.out _ (HB.out.trans (hW.mono HB.out.size))) (by omega) (by omega)).mono fun r w' ⟨d, h1, h2, h3⟩ => by
          refine ⟨?_, h3⟩
          have : d = (KA == KB) := Bool.eq_iff_iff.2 (h2.trans ((key_iff HRA.out (by omega) (by omega)).symm.trans (by rw [← hKA, ← hKB]; simp)))
          rw [h1, this]
      have HSC : Hid (∀ W, Below wr.heap.size wr W → Calls Try.prog 13 #[.slice aa la.length ca, .slice a4 la.length c4] W fun r w' => r = .returned (.bool (KA == KC)) ∧ Below W.heap.size W w') := fun W hW => by
        have h := same_any aa a4 ca c4 la c W (HAA.out _ (HB.out.trans (hW.mono HB.out.size))) (HCE.out _ hW) (by omega) (by omega)
        rw [HCL.out] at h
        refine h.mono fun r w' ⟨d, h1, h2, h3⟩ => ?_
        refine ⟨?_, h3⟩
        have : d = (KA == KC) := Bool.eq_iff_iff.2 (h2.trans ((key_iff HRA.out (by omega) (by omega)).symm.trans (by rw [← hKA, ← hKC]; simp)))
        rw [h1, this]
      have HLV : Hid (∀ W, Below wr.heap.size wr W → Calls Try.prog 19 #[.slice aa la.length ca] W fun r w' => ∃ a6 c6, r = .returned (.slice a6 (lvls la).length c6) ∧ LvAt w' a6 (lvls la) ∧ Below W.heap.size W w') := fun W hW =>
        (levels_any aa ca la W (HAA.out _ (HB.out.trans (hW.mono HB.out.size)))).mono fun r w' ⟨v, ss, h1, h2, h3⟩ => by
          obtain ⟨a6, c6, rfl, hat, _⟩ := OwnLv.formF h2
          have hlf : levelsF la = lvls la := by unfold levelsF rightF; rw [HRA.out]; simp; omega
          rw [hlf] at h1 hat
          exact ⟨a6, c6, h1, hat, h3⟩
      have HRW : Hid (∀ W a6 c6, LvAt W a6 (lvls la) → Calls Try.prog 26 #[.slice a6 (lvls la).length c6] W fun r w' => ∃ a7 c7, r = .returned (.slice a7 la.length c7) ∧ EvsAt w' a7 (lvls la).flatten ∧ Below W.heap.size W w') := fun W a6 c6 h =>
        (row_any a6 c6 (lvls la) W h (by have := lv_count la; omega) (by rw [lvls_count]; omega)).mono fun r w' ⟨v, h1, h2, h3⟩ => by
          obtain ⟨a7, c7, rfl, he⟩ := OwnE.form h2 (by rw [lvls_count]; omega)
          rw [lvls_count] at h1
          exact ⟨a7, c7, h1, he, h3⟩
      have HSR : Hid (∀ W a7 c7, EvsAt W a7 (lvls la).flatten → Below wr.heap.size wr W → Calls Try.prog 13 #[.slice a7 la.length c7, .slice aa la.length ca] W fun r w' => r = .returned (.bool true) ∧ Below W.heap.size W w') := fun W a7 c7 h hW => by
        have h := same_any a7 aa c7 ca (lvls la).flatten la W h (HAA.out _ (HB.out.trans (hW.mono HB.out.size))) (by rw [lvls_count]; omega) (by omega)
        rw [lvls_count] at h
        refine h.mono fun r w' ⟨d, h1, h2, h3⟩ => ?_
        rw [h1, h2.2 (row_same HRA.out)]
        exact ⟨rfl, h3⟩
      have HBF := Lib.hid (hbw.trans (HB.out.mono hbw.size))
      obtain rfl : k = ns.length := by omega
      clear hKA hKB hKC hec HO
      generalize lvls la = ml at *
      go_wp2_with fail
      refine (HKA.out _ (Below.refl _ _)).mono ?_
      rintro r w5 ⟨rfl, hb5⟩
      go_wp2_with fail
      refine (HKB.out _ hb5).mono ?_
      rintro r w6 ⟨rfl, hb6⟩
      have hb7 := below_step5 hb5 hb6
      clear hb5 hb6
      go_wp2_with fail
      refine (HSB.out _ hb7).mono ?_
      rintro r w7 ⟨rfl, hb8⟩
      have hb9 := below_step5 hb7 hb8
      clear hb7 hb8
      go_wp2_with fail
      refine (HKA.out _ hb9).mono ?_
      rintro r w8 ⟨rfl, hb10⟩
      have hb11 := below_step5 hb9 hb10
      clear hb9 hb10
      go_wp2_with fail
      refine (HKC.out _ hb11).mono ?_
      rintro r w9 ⟨rfl, hb12⟩
      have hb13 := below_step5 hb11 hb12
      clear hb11 hb12
      go_wp2_with fail
      refine (HSC.out _ hb13).mono ?_
      rintro r w10 ⟨rfl, hb14⟩
      have hb15 := below_step5 hb13 hb14
      clear hb13 hb14
      go_wp2_with fail
      refine (HLV.out _ hb15).mono ?_
      rintro r w11 ⟨a6, c6, rfl, hl6, hb16⟩
      have hb17 := below_step5 hb15 hb16
      have HR6 := Lib.hid (HRW.out _ a6 c6 hl6)
      clear hb15 hb16 hl6
      go_wp2_with fail
      refine HR6.out.mono ?_
      rintro r w12 ⟨a7, c7, rfl, he7, hb18⟩
      have hb19 := below_step5 hb17 hb18
      have HR7 := Lib.hid (HSR.out _ a7 c7 he7 hb19)
      clear hb17 hb18 he7
      go_wp2_with fail
      refine HR7.out.mono ?_
      rintro r w13 ⟨rfl, hb20⟩
      have hb21 := below_step5 hb19 hb20
      clear hb19 hb20
      go_wp2
      go_ret
      exact ⟨by simp, HBF.out.trans (hb21.mono HBF.out.size)⟩

end Go.Proofs.Ytfefidmbkbigoaa
