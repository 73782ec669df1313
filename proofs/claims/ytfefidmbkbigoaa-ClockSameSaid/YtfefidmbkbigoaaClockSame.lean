/- ClockSame: rows that come from one another by swaps of independent neighbours are the same, others are not. -/
import Derived.Test.YtfefidmbkbigoaaWake4
import Derived.Test.YtfefidmbkbigoaaRefSame4
import Derived.Test.YtfefidmbkbigoaaOpenBytes
import Derived.Test.YtfefidmbkbigoaaEvCopy
namespace Go.Proofs.Ytfefidmbkbigoaa
open Go.RowKit

/-- Two neighbours swapped. -/
def swpE (c : List Ev) (S : Nat) : List Ev := (c.set S (evI c (S + 1))).set (S + 1) (evI c S)
theorem swpE_len (c : List Ev) (S : Nat) : (swpE c S).length = c.length := by unfold swpE; rw [List.length_set, List.length_set]
theorem swpE_split {c : List Ev} {S : Nat} (h : S + 1 < c.length) : ∃ x y, c = x ++ evI c S :: evI c (S + 1) :: y ∧ swpE c S = x ++ evI c (S + 1) :: evI c S :: y := by
  obtain ⟨h1, h2⟩ := split_two h
  have e1 : evI c S = c[S] := evI_get (by omega)
  have e2 : evI c (S + 1) = c[S + 1] := evI_get h
  refine ⟨c.take S, c.drop (S + 2), by rw [e1, e2]; exact h1, ?_⟩
  unfold swpE
  rw [e1, e2]
  exact h2
theorem swpE_sim {c : List Ev} {S : Nat} (h : S + 1 < c.length) (hd : dep (evI c S) (evI c (S + 1)) = false) : Sim (swpE c S) c := by
  obtain ⟨x, y, h1, h2⟩ := swpE_split h
  have h3 : Sim (x ++ evI c S :: evI c (S + 1) :: y) (x ++ evI c (S + 1) :: evI c S :: y) := sim_swap hd
  rw [← h1, ← h2] at h3
  exact h3.symm
theorem swpE_not {c : List Ev} {S : Nat} (h : S + 1 < c.length) (hd : dep (evI c S) (evI c (S + 1)) = true) (hne : (evI c S).thread ≠ (evI c (S + 1)).thread) : ¬ Sim (swpE c S) c := by
  obtain ⟨x, y, h1, h2⟩ := swpE_split h
  have h3 : ¬ Sim (x ++ evI c (S + 1) :: evI c S :: y) (x ++ evI c S :: evI c (S + 1) :: y) := sim_swap_dep hd hne
  rw [← h1, ← h2] at h3
  exact h3
theorem swpE_right {c : List Ev} {S : Nat} (h : S + 1 < c.length) (hr : rightL c = true) : rightL (swpE c S) = true := by
  obtain ⟨x, y, h1, h2⟩ := swpE_split h
  rw [h2]
  have h3 := hr
  rw [h1] at h3
  unfold rightL at *
  simp only [List.all_append, List.all_cons, Bool.and_eq_true] at *
  exact ⟨h3.1, h3.2.2.1, h3.2.1, h3.2.2.2⟩

theorem OwnE.four {w : World} {B g n cap : Nat} {es : List Ev} (h : OwnE w B (.slice (some ⟨g, 0, none⟩) n cap) es) (hn : n = es.length) {k : Nat} (hk : k < n) :
    (w.cell? ⟨g, k * 4, none⟩ = some (.int .i64 (evI es k).thread) ∧ w.cell? ⟨g, k * 4 + 1, none⟩ = some (.int .i64 (evI es k).kind) ∧ w.cell? ⟨g, k * 4 + 2, none⟩ = some (.int .i64 (evI es k).obj) ∧ w.cell? ⟨g, k * 4 + 3, none⟩ = some (.bool (evI es k).fail)) ∧
    (w.frozen? ⟨g, k * 4, none⟩ = false ∧ w.frozen? ⟨g, k * 4 + 1, none⟩ = false ∧ w.frozen? ⟨g, k * 4 + 2, none⟩ = false ∧ w.frozen? ⟨g, k * 4 + 3, none⟩ = false) := by
  have h0 : w.ownsRow B 28 4 (.slice (some ⟨g, 0, none⟩) n cap) n (evCells es) := by
    have h1 : w.ownsRow B 28 4 (.slice (some ⟨g, 0, none⟩) n cap) es.length (evCells es) := h
    rw [← hn] at h1
    exact h1
  have hc : ∀ j, j < 4 → w.cell? ⟨g, k * 4 + j, none⟩ = (evCell (evI es k))[j]? := fun j hj => by
    rw [h0.cellAt _ (by omega), evCells_get es k j (by omega) hj, evI_get (by omega)]
  exact ⟨⟨hc 0 (by omega), hc 1 (by omega), hc 2 (by omega), hc 3 (by omega)⟩, h0.frozenAt _, h0.frozenAt _, h0.frozenAt _, h0.frozenAt _⟩

theorem OwnE.drewN {w : World} {B n : Nat} {v : Value} {es : List Ev} (h : OwnE w B v es) : OwnE (w.drewN n) B v es := h
theorem OwnE.drew {w : World} {B : Nat} {v : Value} {es : List Ev} (h : OwnE w B v es) : OwnE w.drew B v es := h

/-- Both neighbours stored the other way round. -/
theorem OwnE.swap {w : World} {B g n cap : Nat} {c : List Ev} (h : OwnE w B (.slice (some ⟨g, 0, none⟩) n cap) c) (hn : n = c.length) {S : Nat} (hS : S + 1 < n) {x y : Ev} (hx : evI c S = x) (hy : evI c (S + 1) = y) :
    ((w.cell? ⟨g, S * 4, none⟩ = some (.int .i64 x.thread) ∧ w.cell? ⟨g, S * 4 + 1, none⟩ = some (.int .i64 x.kind) ∧ w.cell? ⟨g, S * 4 + 2, none⟩ = some (.int .i64 x.obj) ∧ w.cell? ⟨g, S * 4 + 3, none⟩ = some (.bool x.fail)) ∧ (w.frozen? ⟨g, S * 4, none⟩ = false ∧ w.frozen? ⟨g, S * 4 + 1, none⟩ = false ∧ w.frozen? ⟨g, S * 4 + 2, none⟩ = false ∧ w.frozen? ⟨g, S * 4 + 3, none⟩ = false)) ∧
    ((w.cell? ⟨g, (S + 1) * 4, none⟩ = some (.int .i64 y.thread) ∧ w.cell? ⟨g, (S + 1) * 4 + 1, none⟩ = some (.int .i64 y.kind) ∧ w.cell? ⟨g, (S + 1) * 4 + 2, none⟩ = some (.int .i64 y.obj) ∧ w.cell? ⟨g, (S + 1) * 4 + 3, none⟩ = some (.bool y.fail)) ∧ (w.frozen? ⟨g, (S + 1) * 4, none⟩ = false ∧ w.frozen? ⟨g, (S + 1) * 4 + 1, none⟩ = false ∧ w.frozen? ⟨g, (S + 1) * 4 + 2, none⟩ = false ∧ w.frozen? ⟨g, (S + 1) * 4 + 3, none⟩ = false)) := by
  subst hx hy
  exact ⟨OwnE.four h hn (by omega), OwnE.four h hn hS⟩
theorem OwnE.swapped {w : World} {B g n cap : Nat} {c : List Ev} (h : OwnE w B (.slice (some ⟨g, 0, none⟩) n cap) c) (hn : n = c.length) {S : Nat} (hS : S + 1 < n) {x y : Ev} (hx : evI c S = x) (hy : evI c (S + 1) = y) :
    (∃ z : Ev, (((((w.setCell ⟨g, S * 4, none⟩ (.int .i64 y.thread)).setCell ⟨g, S * 4 + 1, none⟩ (.int .i64 y.kind)).setCell ⟨g, S * 4 + 2, none⟩ (.int .i64 y.obj)).setCell ⟨g, S * 4 + 3, none⟩ (.bool y.fail)).cell? ⟨g, (S + 1) * 4, none⟩ = some (.int .i64 z.thread) ∧ ((((w.setCell ⟨g, S * 4, none⟩ (.int .i64 y.thread)).setCell ⟨g, S * 4 + 1, none⟩ (.int .i64 y.kind)).setCell ⟨g, S * 4 + 2, none⟩ (.int .i64 y.obj)).setCell ⟨g, S * 4 + 3, none⟩ (.bool y.fail)).cell? ⟨g, (S + 1) * 4 + 1, none⟩ = some (.int .i64 z.kind) ∧ ((((w.setCell ⟨g, S * 4, none⟩ (.int .i64 y.thread)).setCell ⟨g, S * 4 + 1, none⟩ (.int .i64 y.kind)).setCell ⟨g, S * 4 + 2, none⟩ (.int .i64 y.obj)).setCell ⟨g, S * 4 + 3, none⟩ (.bool y.fail)).cell? ⟨g, (S + 1) * 4 + 2, none⟩ = some (.int .i64 z.obj) ∧ ((((w.setCell ⟨g, S * 4, none⟩ (.int .i64 y.thread)).setCell ⟨g, S * 4 + 1, none⟩ (.int .i64 y.kind)).setCell ⟨g, S * 4 + 2, none⟩ (.int .i64 y.obj)).setCell ⟨g, S * 4 + 3, none⟩ (.bool y.fail)).cell? ⟨g, (S + 1) * 4 + 3, none⟩ = some (.bool z.fail)) ∧ (((((w.setCell ⟨g, S * 4, none⟩ (.int .i64 y.thread)).setCell ⟨g, S * 4 + 1, none⟩ (.int .i64 y.kind)).setCell ⟨g, S * 4 + 2, none⟩ (.int .i64 y.obj)).setCell ⟨g, S * 4 + 3, none⟩ (.bool y.fail)).frozen? ⟨g, (S + 1) * 4, none⟩ = false ∧ ((((w.setCell ⟨g, S * 4, none⟩ (.int .i64 y.thread)).setCell ⟨g, S * 4 + 1, none⟩ (.int .i64 y.kind)).setCell ⟨g, S * 4 + 2, none⟩ (.int .i64 y.obj)).setCell ⟨g, S * 4 + 3, none⟩ (.bool y.fail)).frozen? ⟨g, (S + 1) * 4 + 1, none⟩ = false ∧ ((((w.setCell ⟨g, S * 4, none⟩ (.int .i64 y.thread)).setCell ⟨g, S * 4 + 1, none⟩ (.int .i64 y.kind)).setCell ⟨g, S * 4 + 2, none⟩ (.int .i64 y.obj)).setCell ⟨g, S * 4 + 3, none⟩ (.bool y.fail)).frozen? ⟨g, (S + 1) * 4 + 2, none⟩ = false ∧ ((((w.setCell ⟨g, S * 4, none⟩ (.int .i64 y.thread)).setCell ⟨g, S * 4 + 1, none⟩ (.int .i64 y.kind)).setCell ⟨g, S * 4 + 2, none⟩ (.int .i64 y.obj)).setCell ⟨g, S * 4 + 3, none⟩ (.bool y.fail)).frozen? ⟨g, (S + 1) * 4 + 3, none⟩ = false)) ∧
    OwnE ((((((((w.setCell ⟨g, S * 4, none⟩ (.int .i64 y.thread)).setCell ⟨g, S * 4 + 1, none⟩ (.int .i64 y.kind)).setCell ⟨g, S * 4 + 2, none⟩ (.int .i64 y.obj)).setCell ⟨g, S * 4 + 3, none⟩ (.bool y.fail)).setCell ⟨g, (S + 1) * 4, none⟩ (.int .i64 x.thread)).setCell ⟨g, (S + 1) * 4 + 1, none⟩ (.int .i64 x.kind)).setCell ⟨g, (S + 1) * 4 + 2, none⟩ (.int .i64 x.obj)).setCell ⟨g, (S + 1) * 4 + 3, none⟩ (.bool x.fail)).drew B (.slice (some ⟨g, 0, none⟩) n cap) (swpE c S) := by
  subst hx hy
  have h1 := OwnE.store4 h hn (k := S) (by omega) (evI c (S + 1))
  have h2 := OwnE.store4 h1 (by rw [List.length_set]; exact hn) (k := S + 1) hS (evI c S)
  exact ⟨⟨_, OwnE.four h1 (by rw [List.length_set]; exact hn) (k := S + 1) hS⟩, OwnE.drew h2⟩
theorem below_swap {B g S : Nat} {w0 w : World} (h : Below B w0 w) (hg : B ≤ g) (v0 v1 v2 v3 v4 v5 v6 v7 : Value) :
    Below B w0 ((((((((w.setCell ⟨g, S * 4, none⟩ v0).setCell ⟨g, S * 4 + 1, none⟩ v1).setCell ⟨g, S * 4 + 2, none⟩ v2).setCell ⟨g, S * 4 + 3, none⟩ v3).setCell ⟨g, (S + 1) * 4, none⟩ v4).setCell ⟨g, (S + 1) * 4 + 1, none⟩ v5).setCell ⟨g, (S + 1) * 4 + 2, none⟩ v6).setCell ⟨g, (S + 1) * 4 + 3, none⟩ v7).drew :=
  ((((((((h.setCell (p := ⟨g, S * 4, none⟩) hg _).setCell (p := ⟨g, S * 4 + 1, none⟩) hg _).setCell (p := ⟨g, S * 4 + 2, none⟩) hg _).setCell (p := ⟨g, S * 4 + 3, none⟩) hg _).setCell (p := ⟨g, (S + 1) * 4, none⟩) hg _).setCell (p := ⟨g, (S + 1) * 4 + 1, none⟩) hg _).setCell (p := ⟨g, (S + 1) * 4 + 2, none⟩) hg _).setCell (p := ⟨g, (S + 1) * 4 + 3, none⟩) hg _).drew

set_option maxRecDepth 100000 in
set_option maxHeartbeats 8000000 in
theorem clockSame_any (aa : Option Addr) (la : List Ev) (ca : Nat) (ab : Option Addr) (lb : List Ev) (cb : Nat) (az : Option Addr) (ns : List Int) (cs : Nat) (w : World) (hla : EvsAt w aa la) (hlb : EvsAt w ab lb) (hls : BytesAt w az ns) (hna : aa = none → ca = 0) (hns : ∀ n ∈ ns, 0 ≤ n ∧ n < 256) :
    Calls Try.prog 3 #[.slice aa la.length ca, .slice ab lb.length cb, .slice az ns.length cs] w fun r w' => r = .returned (.bool true) ∧ Below w.heap.size w w' := by
  have hma := hla.1
  have hmb := hlb.1
  have hms := hls.1
  unfold maxLen at hma hmb hms
  have HLA := Lib.hid hla
  have HLB := Lib.hid hlb
  have HLS := Lib.hid hls
  have HNS := Lib.hid hns
  have HNA : Hid (aa = none → ca = 0 ∧ la = []) := fun e => ⟨hna e, by
    subst e
    apply Classical.byContradiction
    intro hn
    obtain ⟨b, o, e, _⟩ := hla.2 hn
    cases e⟩
  clear hla hlb hls hns hna
  by_cases hg : 30 < la.length ∨ 30 < lb.length ∨ 100 < ns.length
  case pos =>
    by_cases h1 : 30 < la.length
    · clear hg
      go_enter Try.func3, Try.ntmps3
      go_wp2_with fail
      refine (awake_any w).mono ?_
      rintro r w1 ⟨rfl, hb1⟩
      go_wp2_with fail
      refine (awake_any w1).mono ?_
      rintro r w2 ⟨rfl, hb2⟩
      go_wp2
      go_ret
      exact ⟨rfl, hb1.trans (hb2.mono hb1.size)⟩
    by_cases h2 : 30 < lb.length
    · clear hg
      go_enter Try.func3, Try.ntmps3
      go_wp2_with fail
      refine (awake_any w).mono ?_
      rintro r w1 ⟨rfl, hb1⟩
      go_wp2_with fail
      refine (awake_any w1).mono ?_
      rintro r w2 ⟨rfl, hb2⟩
      go_wp2
      go_ret
      exact ⟨rfl, hb1.trans (hb2.mono hb1.size)⟩
    have h3 : 100 < ns.length := by omega
    clear hg
    go_enter Try.func3, Try.ntmps3
    go_wp2_with fail
    refine (awake_any w).mono ?_
    rintro r w1 ⟨rfl, hb1⟩
    go_wp2_with fail
    refine (awake_any w1).mono ?_
    rintro r w2 ⟨rfl, hb2⟩
    go_wp2
    go_ret
    exact ⟨rfl, hb1.trans (hb2.mono hb1.size)⟩
  have h1 : ¬ 30 < la.length := by omega
  have h2 : ¬ 30 < lb.length := by omega
  have h3 : ¬ 100 < ns.length := by omega
  clear hg
  cases hra : rightL la
  case false =>
    have HR := Lib.hid hra
    clear hra
    go_enter Try.func3, Try.ntmps3
    go_wp2_with fail
    refine (awake_any w).mono ?_
    rintro r w1 ⟨rfl, hb1⟩
    go_wp2_with fail
    refine (rows_any aa ca la w1 (HLA.out.later hb1)).mono ?_
    rintro r w2 ⟨rfl, hb2⟩
    rw [HR.out]
    go_wp2_with fail
    refine (awake_any w2).mono ?_
    rintro r w3 ⟨rfl, hb3⟩
    have hb4 := (hb1.trans (hb2.mono hb1.size))
    go_wp2
    go_ret
    exact ⟨rfl, hb4.trans (hb3.mono hb4.size)⟩
  have HRA := Lib.hid hra
  clear hra
  have hla30 : la.length ≤ 30 := by omega
  have hd1 : decide ((30 : Int) < (la.length : Int)) = false := by simp; omega
  have hd2 : decide ((30 : Int) < (lb.length : Int)) = false := by simp; omega
  have hd3 : decide ((100 : Int) < (ns.length : Int)) = false := by simp; omega
  have hlb30 : lb.length ≤ 30 := by omega
  go_enter Try.func3, Try.ntmps3
  go_wp2_with fail
  refine (awake_any w).mono ?_
  rintro r w1 ⟨rfl, hb1⟩
  go_wp2_with fail
  refine (rows_any aa ca la w1 (HLA.out.later hb1)).mono ?_
  rintro r w3 ⟨rfl, hb2⟩
  rw [HRA.out]
  have hb5 := (hb1.trans (hb2.mono hb1.size))
  have hba := below_alloc1 w3 (.cells #[] 28)
  have HLA4 := Lib.hid (HLA.out.later (hb5.trans (hba.mono hb5.size)))
  have HOE : Hid (OwnE (w3.alloc (.cells #[] 28)) w3.heap.size (.slice (some ⟨w3.heap.size, 0, none⟩) 0 0) []) := ownE_empty w3 _ rfl
  clear hb1 hb2
  go_wp2_with (at_builtin; refine wpList_copyE rfl _ _ rfl w3.heap.size _ [] rfl HOE.out aa ca la rfl HLA4.out HNA.out (by simp <;> omega) hba.size ?_; intro v4 w4 h4 hb6; have HO4 := Lib.hid h4; clear h4)
  have HB4 : Hid (Below w3.heap.size w3 w4) := hba.trans hb6
  have HO5 : Hid (OwnE w4 w3.heap.size v4 la) := HO4.out
  have hbw : Below w.heap.size w w3 := hb5
  have HAA : Hid (∀ W, Below w3.heap.size w3 W → EvsAt W aa la) := fun W hW => HLA.out.later (hbw.trans (hW.mono hbw.size))
  have HBB : Hid (∀ W, Below w3.heap.size w3 W → EvsAt W ab lb) := fun W hW => HLB.out.later (hbw.trans (hW.mono hbw.size))
  have HSS : Hid (∀ W, Below w3.heap.size w3 W → BytesAt W az ns) := fun W hW => HLS.out.later (hbw.trans (hW.mono hbw.size))
  clear HOE HLA4 hb5 hba hb6 HO4 hd1 hd2 hd3 h1 h2 h3
  obtain ⟨a4, c4, rfl, _⟩ := HO5.out.form (by omega)
  go_loopw [40] (fun i wr => ∃ (k : Nat) (c : List Ev), k ≤ ns.length ∧ i = .int .i64 k ∧ Hid (c.length = la.length ∧ Sim c la ∧ rightL c = true) ∧ Hid (OwnE wr w3.heap.size (.slice a4 la.length c4) c) ∧ Hid (Below w3.heap.size w3 wr)) (fun i _ => ns.length - (intOf i).toNat)
  case atStart => exact ⟨0, la, Nat.zero_le _, rfl, ⟨rfl, Sim.refl _, HRA.out⟩, HO5.out, HB4.out⟩
  case round =>
    clear HO5 HB4
    obtain ⟨k, c, hk, rfl, HC, HO, HB⟩ := hrel
    by_cases hlt : k < ns.length
    · obtain ⟨bs, os, rfl, hs⟩ := (HSS.out _ HB.out).2 (by intro e; simp [e] at hlt)
      have s0 := hs k hlt
      have hsn := HNS.out ns[k] (List.getElem_mem hlt)
      obtain ⟨S, hS⟩ : ∃ S : Nat, ns[k] = S := ⟨ns[k].toNat, by omega⟩
      rw [hS] at s0 hsn
      clear hs hS
      have hw1 : IntKind.i64.wrap (S : Int) = S := IntWalk.i64_in _ (by omega)
      have hw2 : IntKind.i64.wrap ((S : Int) + 1) = (S : Int) + 1 := IntWalk.i64_in _ (by omega)
      by_cases hin : S + 1 < la.length
      · have hq : decide ((la.length : Int) ≤ (S : Int) + 1) = false := by simp; omega
        have hq0 : ¬ (la.length : Int) ≤ (S : Int) + 1 := by omega
        obtain ⟨g, cg, hv, hgB, _⟩ := OwnRow.block (f := evCell) HO.out (by intro e; have := HC.out.1; rw [e] at this; simp at this; omega)
        injection hv with hv1 hv2 hv3
        subst hv1
        clear hv2 hv3
        obtain ⟨x, hx⟩ : ∃ x, evI c S = x := ⟨_, rfl⟩
        obtain ⟨y, hy⟩ : ∃ y, evI c (S + 1) = y := ⟨_, rfl⟩
        have HX := Lib.hid hx
        have HY := Lib.hid hy
        have HSP : Hid (∀ W, Below wr.heap.size wr W → _) := fun W hW => OwnE.swap (HO.out.later hW) HC.out.1.symm hin hx hy
        obtain ⟨D, hD⟩ : ∃ D, dep x y = D := ⟨_, rfl⟩
        have HDC : Hid (∀ w', Calls Try.prog 12 #[.agg #[.int .i64 x.thread, .int .i64 x.kind, .int .i64 x.obj, .bool x.fail], .agg #[.int .i64 y.thread, .int .i64 y.kind, .int .i64 y.obj, .bool y.fail]] w' fun r w'' => r = .returned (.bool D) ∧ Below w'.heap.size w' w'') := fun w' => by rw [← hD]; exact refDepends_any x y w'
        have HD := Lib.hid hD
        have hi1 : (S : Int) < (la.length : Int) := by omega
        have hi0 : (0 : Int) ≤ S := by omega
        have hi2 : (0 : Int) ≤ (S : Int) + 1 := by omega
        have hi3 : ((S : Int) + 1).toNat = S + 1 := by omega
        have hi4 : (S : Int) + 1 < (la.length : Int) := by omega
        have hB9 : Below wr.heap.size wr wr.drew := (Below.refl _ _).drew
        clear hx hy hD
        go_wp2_with fail
        go_region_held3 (fun w' => (w'.cell? ⟨g, S * 4, none⟩ = some (.int .i64 x.thread) ∧ w'.cell? ⟨g, S * 4 + 1, none⟩ = some (.int .i64 x.kind) ∧ w'.cell? ⟨g, S * 4 + 2, none⟩ = some (.int .i64 x.obj) ∧ w'.cell? ⟨g, S * 4 + 3, none⟩ = some (.bool x.fail)) ∧ (w'.cell? ⟨g, (S + 1) * 4, none⟩ = some (.int .i64 y.thread) ∧ w'.cell? ⟨g, (S + 1) * 4 + 1, none⟩ = some (.int .i64 y.kind) ∧ w'.cell? ⟨g, (S + 1) * 4 + 2, none⟩ = some (.int .i64 y.obj) ∧ w'.cell? ⟨g, (S + 1) * 4 + 3, none⟩ = some (.bool y.fail))) (first | exact ⟨(HSP.out _ hB9).1.1, (HSP.out _ hB9).2.1⟩ | exact ⟨(HSP.out _ hB10).1.1, (HSP.out _ hB10).2.1⟩)
          (first | (go_at_call 12; ((with_reducible refine (HDC.out _).mono ?_); rintro r w10 ⟨rfl, hb10⟩; have hB10 := below_step hB9 hb10; clear hB9)))
        have hB10s := hB10
        have HO10 := Lib.hid (HO.out.later hB10)
        have HB10 := Lib.hid (HB.out.trans (hB10.mono HB.out.size))
        obtain ⟨⟨⟨x0, x1, x2, x3⟩, f0, f1, f2, f3⟩, ⟨y0, y1, y2, y3⟩, e0, e1, e2, e3⟩ := HSP.out _ hB10
        cases D
        · obtain ⟨⟨z, ⟨p0, p1, p2, p3⟩, q0, q1, q2, q3⟩, hfin⟩ := OwnE.swapped HO10.out HC.out.1.symm hin HX.out HY.out
          have HFIN := Lib.hid (And.intro hfin (below_swap (S := S) HB10.out hgB (.int .i64 y.thread) (.int .i64 y.kind) (.int .i64 y.obj) (.bool y.fail) (.int .i64 x.thread) (.int .i64 x.kind) (.int .i64 x.obj) (.bool x.fail)))
          have HC2 : Hid ((swpE c S).length = la.length ∧ Sim (swpE c S) la ∧ rightL (swpE c S) = true) := by
            have hl : S + 1 < c.length := by rw [HC.out.1]; exact hin
            exact ⟨by rw [swpE_len]; exact HC.out.1, (swpE_sim hl (by rw [HX.out, HY.out]; exact HD.out)).trans HC.out.2.1, swpE_right hl HC.out.2.2⟩
          clear hfin HSP HDC hB10 hB10s
          generalize swpE c S = c2 at *
          go_wp2_with fail
          go_region
          clear p0 p1 p2 p3 q0 q1 q2 q3 x0 x1 x2 x3 y0 y1 y2 y3 f0 f1 f2 f3 e0 e1 e2 e3
          go_wp2
          go_roundw
          case rel => exact ⟨k + 1, c2, by omega, by go_num, HC2.out, HFIN.out.1, HFIN.out.2⟩
          case measure => simp [intOf]; omega
        · have HOE : Hid (OwnE (w10.alloc (.cells #[] 28)) w10.heap.size (.slice (some ⟨w10.heap.size, 0, none⟩) 0 0) []) := ownE_empty w10 _ rfl
          have hba := below_alloc1 w10 (.cells #[] 28)
          have HCE : Hid (EvsAt (w10.alloc (.cells #[] 28)) (some ⟨g, 0, none⟩) c) := by
            obtain ⟨a9, c9, hv9, he9⟩ := HO10.out.form (by have := HC.out.1; omega)
            injection hv9 with hv9 _ _
            rw [← hv9] at he9
            exact he9.later hba
          have HCLn : Hid (c.length = la.length) := HC.out.1
          have HOEc : Hid (∀ (v : Value) (W : World), OwnE W w10.heap.size v ([] ++ c) → OwnE W w10.heap.size v c) := fun v W h => h
          clear x0 x1 x2 x3 y0 y1 y2 y3 f0 f1 f2 f3 e0 e1 e2 e3
          have hcop : ∀ {ops : Array Oper} {rest : List Oper} {o : Oper} {a : Act} {Q : Exit → Act → World → Prop} (_ : o.guard = none) (s x : Operand)
              (_ : o.op = .call { callee := .builtin .append, args := #[s, x], argTypes := #[22, 22] }) (_ : a.eval s = .slice (some ⟨w10.heap.size, 0, none⟩) 0 0) (_ : a.eval x = .slice (some ⟨g, 0, none⟩) la.length c4)
              (_ : ∀ v' w', OwnE w' w10.heap.size v' c → Below w10.heap.size w10 w' → wpList Try.prog ops Q rest (a.put o.dst v') w'), wpList Try.prog ops Q (o :: rest) a (w10.alloc (.cells #[] 28)) := fun h1 s x h2 h3 h4 h5 =>
            wpList_copyE h1 s x h2 w10.heap.size _ [] h3 HOE.out (some ⟨g, 0, none⟩) c4 c (by rw [HCLn.out]; exact h4) HCE.out (by intro e; cases e) (by have := HCLn.out; simp; omega) hba.size fun v' w' g1 g2 => h5 v' w' (HOEc.out _ _ g1) (hba.trans g2)
          go_wp2_with (at_builtin; refine hcop rfl _ _ rfl rfl rfl ?_; intro v11 w11 h11 hb11; have HO11 := Lib.hid h11; have HB11 := Lib.hid hb11; clear h11 hb11)
          obtain ⟨g2, cg2, hv11, hgB2, _⟩ := OwnRow.block (f := evCell) HO11.out (by intro e; have := HCLn.out; rw [e] at this; simp at this; omega)
          rw [HCLn.out] at hv11
          subst hv11
          obtain ⟨⟨⟨x0, x1, x2, x3⟩, f0, f1, f2, f3⟩, ⟨y0, y1, y2, y3⟩, e0, e1, e2, e3⟩ := OwnE.swap HO11.out HCLn.out.symm hin HX.out HY.out
          obtain ⟨⟨z, ⟨p0, p1, p2, p3⟩, q0, q1, q2, q3⟩, hfin⟩ := OwnE.swapped HO11.out HCLn.out.symm hin HX.out HY.out
          have HFIN := Lib.hid (And.intro hfin (below_swap (S := S) HB11.out hgB2 (.int .i64 y.thread) (.int .i64 y.kind) (.int .i64 y.obj) (.bool y.fail) (.int .i64 x.thread) (.int .i64 x.kind) (.int .i64 x.obj) (.bool x.fail)))
          clear hfin hcop
          go_wp2_with fail
          go_region
          clear p0 p1 p2 p3 q0 q1 q2 q3 x0 x1 x2 x3 y0 y1 y2 y3 f0 f1 f2 f3 e0 e1 e2 e3
          generalize ((((((((w11.setCell ⟨g2, S * 4, none⟩ (.int .i64 y.thread)).setCell ⟨g2, S * 4 + 1, none⟩ (.int .i64 y.kind)).setCell ⟨g2, S * 4 + 2, none⟩ (.int .i64 y.obj)).setCell ⟨g2, S * 4 + 3, none⟩ (.bool y.fail)).setCell ⟨g2, (S + 1) * 4, none⟩ (.int .i64 x.thread)).setCell ⟨g2, (S + 1) * 4 + 1, none⟩ (.int .i64 x.kind)).setCell ⟨g2, (S + 1) * 4 + 2, none⟩ (.int .i64 x.obj)).setCell ⟨g2, (S + 1) * 4 + 3, none⟩ (.bool x.fail)).drew = W12 at *
          have HBW : Hid (Below wr.heap.size wr W12) := hB10s.trans (HFIN.out.2.mono hB10s.size)
          obtain ⟨⟨⟨x0, _, _, _⟩, _⟩, ⟨y0, _, _, _⟩, _⟩ := HSP.out _ HBW.out
          by_cases hxy : x.thread = y.thread
          · have hq5 : (x.thread != y.thread) = false := by simp [hxy]
            have hq6 : (x.thread == y.thread) = true := by simp [hxy]
            go_wp2_with fail
            go_quiet (fail)
            go_wp2
            go_roundw
            case rel => exact ⟨k + 1, c, by omega, by go_num, HC.out, OwnE.drewN (HO.out.later HBW.out), (HB.out.trans (HBW.out.mono HB.out.size)).drewN⟩
            case measure => simp [intOf]; omega
          · have hq5 : (x.thread != y.thread) = true := by simp [hxy]
            have hq6 : (x.thread == y.thread) = false := by simp [hxy]
            have HMS : Hid (∀ W, Below W12.heap.size W12 W → Calls Try.prog 13 #[.slice (some ⟨g2, 0, none⟩) la.length cg2, .slice aa la.length ca] W fun r w' => r = .returned (.bool false) ∧ Below W.heap.size W w') := fun W hW => by
              obtain ⟨a9, c9, hv9, he9⟩ := OwnE.form HFIN.out.1 (by rw [swpE_len, HCLn.out]; omega)
              rw [swpE_len, HCLn.out] at hv9
              injection hv9 with hv9 _ hc9
              subst hv9 hc9
              have hb3 := HB.out.trans (HBW.out.mono HB.out.size)
              have h := same_any (some ⟨g2, 0, none⟩) aa cg2 ca (swpE c S) la W (he9.later hW) (HAA.out _ (hb3.trans (hW.mono hb3.size))) (by rw [swpE_len, HCLn.out]; omega) (by omega)
              rw [swpE_len, HCLn.out] at h
              refine h.mono fun r w' ⟨d, g1, g3, g4⟩ => ?_
              cases d
              · exact ⟨g1, g4⟩
              · exfalso
                have hl : S + 1 < c.length := by rw [HCLn.out]; exact hin
                have hs := (g3.1 rfl).2.2
                exact swpE_not hl (by rw [HX.out, HY.out]; exact HD.out) (by rw [HX.out, HY.out]; exact hxy) (hs.trans HC.out.2.1.symm)
            have hB20 : Below W12.heap.size W12 W12.drew := (Below.refl _ _).drew
            have HQT : Hid (∀ W, Below W12.heap.size W12 W → W.cell? ⟨g, S * 4, none⟩ = some (.int .i64 x.thread) ∧ W.cell? ⟨g, (S + 1) * 4, none⟩ = some (.int .i64 y.thread)) := fun W hW => ⟨cell_later hW x0, cell_later hW y0⟩
            go_wp2_with fail
            go_region_held3 (fun w' => w'.cell? ⟨g, S * 4, none⟩ = some (.int .i64 x.thread) ∧ w'.cell? ⟨g, (S + 1) * 4, none⟩ = some (.int .i64 y.thread)) (first | exact HQT.out _ hB20 | exact HQT.out _ hB21)
              (first | (go_at_call 13; ((with_reducible refine (HMS.out _ hB20).mono ?_); rintro r w21 ⟨rfl, hb21⟩; have hB21 := below_step hB20 hb21; clear hB20)))
            have HB22 : Hid (Below wr.heap.size wr w21) := HBW.out.trans (hB21.mono HBW.out.size)
            go_wp2
            go_roundw
            case rel => exact ⟨k + 1, c, by omega, by go_num, HC.out, HO.out.later HB22.out, HB.out.trans (HB22.out.mono HB.out.size)⟩
            case measure => simp [intOf]; omega
      · have hq : decide ((la.length : Int) ≤ (S : Int) + 1) = true := by simp; omega
        have hq0 : (la.length : Int) ≤ (S : Int) + 1 := by omega
        go_wp2
        go_roundw
        case rel => exact ⟨k + 1, c, by omega, by go_num, HC.out, HO.out, HB.out⟩
        case measure => simp [intOf]; omega
    · obtain rfl : k = ns.length := by omega
      obtain ⟨a5, c5, hv, hec⟩ := HO.out.form (by have := HC.out.1; omega)
      injection hv with hv1 hv2 hv3
      subst hv1 hv3
      clear hv2
      have hcl : c.length ≤ 30 := by have := HC.out.1; omega
      have hAW : ∀ W, Below wr.heap.size wr W → EvsAt W aa la := fun W hW => HAA.out _ (HB.out.trans (hW.mono HB.out.size))
      have hBW : ∀ W, Below wr.heap.size wr W → EvsAt W ab lb := fun W hW => HBB.out _ (HB.out.trans (hW.mono HB.out.size))
      have hCL := HC.out.1
      have hSC : SameO c la := ⟨HC.out.2.2, HRA.out, HC.out.2.1⟩
      obtain ⟨d, hd⟩ : ∃ d : Bool, (d = true ↔ SameO la lb) := by
        rcases Classical.em (SameO la lb) with h | h
        · exact ⟨true, by simp [h]⟩
        · exact ⟨false, by simp [h]⟩
      have huni : ∀ e : Bool, (e = true ↔ SameO la lb) → e = d := fun e he => Bool.eq_iff_iff.2 (he.trans hd.symm)
      have HS1 : Hid (∀ W, Below wr.heap.size wr W → Calls Try.prog 13 #[.slice a4 la.length c4, .slice aa la.length ca] W fun r w' => r = .returned (.bool true) ∧ Below W.heap.size W w') := fun W hW => by
        have h := same_any a4 aa c4 ca c la W (hec.later hW) (hAW _ hW) (by omega) (by omega)
        rw [hCL] at h
        exact h.mono fun r w' ⟨e, g1, g2, g3⟩ => ⟨by rw [g1, g2.2 hSC], g3⟩
      have HS2 : Hid (∀ W, Below wr.heap.size wr W → Calls Try.prog 13 #[.slice aa la.length ca, .slice a4 la.length c4] W fun r w' => r = .returned (.bool true) ∧ Below W.heap.size W w') := fun W hW => by
        have h := same_any aa a4 ca c4 la c W (hAW _ hW) (hec.later hW) (by omega) (by omega)
        rw [hCL] at h
        exact h.mono fun r w' ⟨e, g1, g2, g3⟩ => ⟨by rw [g1, g2.2 ⟨hSC.2.1, hSC.1, hSC.2.2.symm⟩], g3⟩
      have HS3 : Hid (∀ W, Below wr.heap.size wr W → Calls Try.prog 13 #[.slice aa la.length ca, .slice ab lb.length cb] W fun r w' => r = .returned (.bool d) ∧ Below W.heap.size W w') := fun W hW =>
        (same_any aa ab ca cb la lb W (hAW _ hW) (hBW _ hW) (by omega) (by omega)).mono fun r w' ⟨e, g1, g2, g3⟩ => ⟨by rw [g1, huni e g2], g3⟩
      have HS4 : Hid (∀ W, Below wr.heap.size wr W → Calls Try.prog 14 #[.slice aa la.length ca, .slice ab lb.length cb] W fun r w' => r = .returned (.bool d) ∧ Below W.heap.size W w') := fun W hW =>
        (refSame_any aa ab ca cb la lb W (hAW _ hW) (hBW _ hW) (by omega) (by omega)).mono fun r w' ⟨e, g1, g2, g3⟩ => ⟨by rw [g1, huni e g2], g3⟩
      have HS5 : Hid (∀ W, Below wr.heap.size wr W → Calls Try.prog 13 #[.slice ab lb.length cb, .slice aa la.length ca] W fun r w' => r = .returned (.bool d) ∧ Below W.heap.size W w') := fun W hW =>
        (same_any ab aa cb ca lb la W (hBW _ hW) (hAW _ hW) (by omega) (by omega)).mono fun r w' ⟨e, g1, g2, g3⟩ => ⟨by rw [g1, huni e (g2.trans ⟨fun h => ⟨h.2.1, h.1, h.2.2.symm⟩, fun h => ⟨h.2.1, h.1, h.2.2.symm⟩⟩)], g3⟩
      have HBF := Lib.hid (hbw.trans (HB.out.mono hbw.size))
      clear hec hAW hBW hCL hSC hd huni HO
      go_wp2_with fail
      refine (HS1.out _ (Below.refl _ _)).mono ?_
      rintro r w5 ⟨rfl, hb5⟩
      go_wp2_with fail
      refine (HS2.out _ hb5).mono ?_
      rintro r w6 ⟨rfl, hb6⟩
      have hb7 := below_step hb5 hb6
      clear hb5 hb6
      go_wp2_with fail
      refine (HS3.out _ hb7).mono ?_
      rintro r w7 ⟨rfl, hb8⟩
      have hb9 := below_step hb7 hb8
      clear hb7 hb8
      go_wp2_with fail
      refine (HS4.out _ hb9).mono ?_
      rintro r w8 ⟨rfl, hb10⟩
      have hb11 := below_step hb9 hb10
      clear hb9 hb10
      go_wp2_with fail
      refine (HS5.out _ hb11).mono ?_
      rintro r w9 ⟨rfl, hb12⟩
      have hb13 := below_step hb11 hb12
      clear hb11 hb12
      go_wp2_with fail
      refine (HS3.out _ hb13).mono ?_
      rintro r w10 ⟨rfl, hb14⟩
      have hb15 := below_step hb13 hb14
      clear hb13 hb14
      go_wp2
      go_ret
      exact ⟨by simp, HBF.out.trans (hb15.mono HBF.out.size)⟩

end Go.Proofs.Ytfefidmbkbigoaa
