/- ProgTurned: a program whose threads stand the other way round may be just if it may. -/
import Derived.Test.YtjkfocmfgcmegaaSizes
import Derived.BigRegion
namespace Go.Proofs.Ytjkfocmfgcmegaa
open Go.RowKit

theorem turned_right (V M : Int) (ts : List (List Ins)) : rightPg ⟨V, M, ts.reverse⟩ = rightPg ⟨V, M, ts⟩ := by
  simp [rightPg]

/-- In the middle of turning a row: the first k and the last k stand the other way round. -/
def TurnRel (w W : World) (g : Nat) (vs : List Value) (k : Nat) (wr : World) : Prop :=
  Below w.heap.size w wr ∧ (∀ g', g' ≠ g → g' < W.heap.size → wr.heap[g']? = W.heap[g']?) ∧ W.heap.size ≤ wr.heap.size ∧
    ∃ xs : List Value, wr.heap[g]? = some (.cells xs.toArray 32 (0, 0)) ∧ xs.length = vs.length ∧ ∀ i, i < vs.length → xs[i]? = if i < k ∨ vs.length - k ≤ i then vs[vs.length - 1 - i]? else vs[i]?

theorem TurnRel.step {w W wr : World} {g : Nat} {vs : List Value} {k : Nat} (h : TurnRel w W g vs k wr) (hg : w.heap.size ≤ g) (hk : 2 * k + 1 < vs.length) (x y : Value) (hx : vs[k]? = some x) (hy : vs[vs.length - 1 - k]? = some y) :
    TurnRel w W g vs (k + 1) ((wr.setCell ⟨g, k, none⟩ y).setCell ⟨g, vs.length - 1 - k, none⟩ x) := by
  obtain ⟨h1, h2, h3, xs, h4, h5, h6⟩ := h
  refine ⟨(h1.setCell (p := ⟨g, k, none⟩) hg _).setCell (p := ⟨g, vs.length - 1 - k, none⟩) hg _, fun g' hne hlt => ?_, by simp [World.setCell]; exact h3, (xs.set k y).set (vs.length - 1 - k) x, row_set (row_set h4 _) _, by simp [h5], fun i hi => ?_⟩
  · rw [Below.heap_setCell _ _ _ _ hne, Below.heap_setCell _ _ _ _ hne]; exact h2 g' hne hlt
  · by_cases e1 : i = vs.length - 1 - k
    · subst e1
      rw [List.getElem?_set_self (by simp; omega), if_pos (by omega), show vs.length - 1 - (vs.length - 1 - k) = k by omega, hx]
    · rw [List.getElem?_set_ne (by omega)]
      by_cases e2 : i = k
      · subst e2
        rw [List.getElem?_set_self (by omega), if_pos (by omega), hy]
      · rw [List.getElem?_set_ne (by omega), h6 i hi]
        by_cases c : i < k ∨ vs.length - k ≤ i
        · rw [if_pos c, if_pos (by omega)]
        · rw [if_neg c, if_neg (by omega)]

theorem TurnRel.done {w W wr : World} {g : Nat} {vs : List Value} {k : Nat} (h : TurnRel w W g vs k wr) (hk : vs.length ≤ 2 * k + 1) : wr.heap[g]? = some (.cells vs.reverse.toArray 32 (0, 0)) := by
  obtain ⟨_, _, _, xs, h4, h5, h6⟩ := h
  have e : xs = vs.reverse := by
    apply List.ext_getElem?
    intro i
    by_cases hi : i < vs.length
    · rw [h6 i hi, List.getElem?_reverse hi]
      split
      · rfl
      · rename_i c
        rw [show vs.length - 1 - i = i by omega]
    · rw [List.getElem?_eq_none (by omega), List.getElem?_eq_none (by simp; omega)]
  rw [h4, e]

theorem TurnRel.drew {w W wr : World} {g : Nat} {vs : List Value} {k : Nat} (h : TurnRel w W g vs k wr) : TurnRel w W g vs k wr.drew := ⟨h.1.drew, h.2⟩

theorem print_of (p : Pg) (V M : Int) (m : Nat) (hV : V = p.vars) (hM : M = p.mutexes) (hm : m = p.threads.length) (a : Option Addr) (cap : Nat) (w : World) (E : Int) (hE : E = if rightPg p = true then 0 else 1) (hp : ThreadsAt w a p.threads) :
    Calls Try.prog 11 #[.agg #[.int .i64 V, .int .i64 M, .slice a m cap]] w fun r w' => ∃ S, r = .returned (.tuple #[.string S, .int .i64 E]) ∧ Below w.heap.size w w' := by
  cases hr : rightPg p
  · rw [hr] at hE
    subst hE
    exact (no_of p V M m hV hM hm a cap w hr hp).mono fun r w' ⟨h1, h2⟩ => ⟨_, h1, h2⟩
  · rw [hr] at hE
    subst hE
    exact (yes_of p V M m hV hM hm a cap w hr hp).mono fun r w' ⟨h1, h2⟩ => ⟨_, h1, h2⟩

/-- A row of codes, turned. -/
theorem turned_at {W wr : World} {B g : Nat} {ts : List (List Ins)} {vs : List Value} (hm : ts.length ≤ 1000) (hms : ∀ l ∈ ts, l.length ≤ 1000) (hl : vs.length = ts.length)
    (hv : ∀ i (h : i < ts.length), ∃ c cap, vs[i]? = some (.slice c ts[i].length cap) ∧ (c = none → cap = 0) ∧ OwnCode W B g c ts[i])
    (hrow : wr.heap[g]? = some (.cells vs.reverse.toArray 32 (0, 0))) (hk : ∀ g', g' ≠ g → g' < W.heap.size → wr.heap[g']? = W.heap[g']?) : ThreadsAt wr (some ⟨g, 0, none⟩) ts.reverse := by
  refine OwnThreads.at (B := min B g) (fun _ => ⟨g, vs.reverse, rfl, Nat.min_le_right _ _, hrow, by simp [hl], fun i hi => ?_⟩) (by simp [maxLen]; omega) (fun l hl' => by have := hms l (by simpa using hl'); unfold maxLen; omega)
  have hi' : ts.length - 1 - i < ts.length := by simp at hi; omega
  obtain ⟨c, cap, q1, q2, q3⟩ := hv _ hi'
  have e : ts.reverse[i]'hi = ts[ts.length - 1 - i] := by simp
  rw [e]
  refine ⟨c, cap, ?_, q2, fun hne => ?_⟩
  · rw [List.getElem?_reverse (by simp at hi; omega), hl]; exact q1
  · obtain ⟨g', e', r1, r2, r3⟩ := q3 hne
    exact ⟨g', e', Nat.le_trans (Nat.min_le_left _ _) r1, r2, (hk g' r2 (Array.getElem?_eq_some_iff.1 r3).1).trans r3⟩

set_option maxRecDepth 100000 in
set_option maxHeartbeats 1500000 in
theorem turned_any (p : Pg) (a : Option Addr) (cap : Nat) (w : World) (hp : ThreadsAt w a p.threads) (ha : a = none → cap = 0) :
    Calls Try.prog 8 #[pgV p a cap] w fun r w' => r = .returned (.bool true) ∧ Below w.heap.size w w' := by
  obtain ⟨V, M, ts⟩ := p
  unfold pgV
  dsimp only at *
  have hm := hp.1
  unfold maxLen at hm
  have HP := Lib.hid hp
  have HA := Lib.hid ha
  clear hp ha
  go_enter Try.func8, Try.ntmps8
  go_wp2_with fail
  refine (awake_any _).mono ?_
  rintro r w1 ⟨rfl, hb1⟩
  have hb1' : Below (w.heap.size + 1) (w.alloc (.cells #[.int .i64 V, .int .i64 M, .slice a ts.length cap] 24)) w1 := hb1.mono (by simp)
  have p0 : w1.cell? ⟨w.heap.size, 0, none⟩ = some (.int .i64 V) := by rw [hb1'.cell (p := ⟨w.heap.size, 0, none⟩) (by simp)]; simp
  have p1 : w1.cell? ⟨w.heap.size, 1, none⟩ = some (.int .i64 M) := by rw [hb1'.cell (p := ⟨w.heap.size, 1, none⟩) (by simp)]; simp
  have p2 : w1.cell? ⟨w.heap.size, 2, none⟩ = some (.slice a ts.length cap) := by rw [hb1'.cell (p := ⟨w.heap.size, 2, none⟩) (by simp)]; simp
  have hw1 : Below w.heap.size w w1 := (below_alloc1 w _).trans (hb1.mono (by simp))
  go_wp2_with fail
  refine (few_any ⟨V, M, ts⟩ a cap _ (HP.out.later hw1)).mono ?_
  rintro r w2 ⟨rfl, hb2⟩
  have hw2 : Below w.heap.size w w2 := hw1.trans (hb2.mono hw1.size)
  have q0 := cell_later hb2 p0
  have q1 := cell_later hb2 p1
  have q2 := cell_later hb2 p2
  clear p0 p1 p2 hb1 hb1'
  cases hf : fewPg ⟨V, M, ts⟩
  · clear hf
    go_wp2_with fail
    refine (awake_any _).mono ?_
    rintro r w3 ⟨rfl, hb3⟩
    have hw3 : Below w.heap.size w w3 := hw2.trans (hb3.mono hw2.size)
    go_wp2
    go_ret
    exact ⟨rfl, hw3⟩
  · have hfs := few_small hf
    have HFS := Lib.hid hfs
    clear hf hfs
    have hts20 : ts.length ≤ 20 := HFS.out.1
    go_wp2_with fail
    refine (copy_any ⟨V, M, ts⟩ a cap _ (HP.out.later hw2) HA.out (by dsimp only; omega) (fun l hl => by have := HFS.out.2 l hl; omega)).mono ?_
    rintro r w4 ⟨a', cap', rfl, ha', hb4, ho, hcap⟩
    dsimp only at hcap ho
    have hpv : pgV ⟨V, M, ts⟩ a' cap' = .agg #[.int .i64 V, .int .i64 M, .slice a' ts.length cap'] := rfl
    rw [hpv]
    have hw4 : Below w.heap.size w w4 := hw2.trans (hb4.mono hw2.size)
    have s0 := cell_later hb4 q0
    have s1 := cell_later hb4 q1
    have s2 := cell_later hb4 q2
    have hz4 := cell_block s0
    dsimp only at hz4
    have HO := Lib.hid ho
    have hzq := cell_block q0
    dsimp only at hzq
    clear hpv ho ha' hcap q0 q1 q2 hb2
    have hW : Below w4.heap.size w4 (w4.alloc (.cells #[.int .i64 V, .int .i64 M, .slice a' ts.length cap'] 24)) := below_alloc1 _ _
    by_cases hne : ts = []
    · subst hne
      have s0' := cell_later hW s0
      have s1' := cell_later hW s1
      have s2' := cell_later hW s2
      go_wp2
      go_region
      go_wp2
      refine wp_loop_rounds 1 ?_
      rw [rounds_succ]
      go_wp2_with fail
      have b0 : (w4.alloc (.cells #[.int .i64 V, .int .i64 M, .slice a' 0 cap'] 24)).drew.cell? ⟨w4.heap.size, 0, none⟩ = some (.int .i64 V) := by simp
      have b1 : (w4.alloc (.cells #[.int .i64 V, .int .i64 M, .slice a' 0 cap'] 24)).drew.cell? ⟨w4.heap.size, 1, none⟩ = some (.int .i64 M) := by simp
      have b2 : (w4.alloc (.cells #[.int .i64 V, .int .i64 M, .slice a' 0 cap'] 24)).drew.cell? ⟨w4.heap.size, 2, none⟩ = some (.slice a' 0 cap') := by simp
      have c0 : (w4.alloc (.cells #[.int .i64 V, .int .i64 M, .slice a' 0 cap'] 24)).drew.cell? ⟨w.heap.size, 0, none⟩ = some (.int .i64 V) := s0'
      have c1 : (w4.alloc (.cells #[.int .i64 V, .int .i64 M, .slice a' 0 cap'] 24)).drew.cell? ⟨w.heap.size, 1, none⟩ = some (.int .i64 M) := s1'
      have c2 : (w4.alloc (.cells #[.int .i64 V, .int .i64 M, .slice a' 0 cap'] 24)).drew.cell? ⟨w.heap.size, 2, none⟩ = some (.slice a 0 cap) := s2'
      have hbw : Below w.heap.size w (w4.alloc (.cells #[.int .i64 V, .int .i64 M, .slice a' 0 cap'] 24)).drew := (hw4.alloc (by omega) _).drew
      have HPR : Hid (ThreadsAt (w4.alloc (.cells #[.int .i64 V, .int .i64 M, .slice a' 0 cap'] 24)).drew a []) := HP.out.later hbw
      have HTR : Hid (ThreadsAt (w4.alloc (.cells #[.int .i64 V, .int .i64 M, .slice a' 0 cap'] 24)).drew a' []) := ⟨by simp [maxLen], fun h => absurd rfl h⟩
      clear s0' s1' s2' hW
      generalize (w4.alloc (.cells #[.int .i64 V, .int .i64 M, .slice a' 0 cap'] 24)).drew = wr at *
      have HRQ : Hid (rightPg ⟨V, M, []⟩ = rightPg ⟨V, M, []⟩) := rfl
      obtain ⟨E, hE⟩ : ∃ E : Int, E = if rightPg ⟨V, M, []⟩ = true then 0 else 1 := ⟨_, rfl⟩
      have HE := Lib.hid hE
      have HE' : Hid (E = if rightPg ⟨V, M, []⟩ = true then 0 else 1) := by
        show _ = _
        rw [HRQ.out]; exact hE
      have hEE : (E == E) = true := by simp
      obtain ⟨rb, hrb⟩ : ∃ rb, rightPg ⟨V, M, []⟩ = rb := ⟨_, rfl⟩
      have HRB := Lib.hid hrb
      have HRB' : Hid (rightPg ⟨V, M, []⟩ = rb) := by
        show _ = _
        rw [HRQ.out]; exact hrb
      have hrr : (rb == rb) = true := by simp
      have hlr : 0 = ([] : List (List Ins)).length := by simp
      have HLR := Lib.hid hlr
      clear hE hrb hlr
      refine (print_of ⟨V, M, []⟩ V M 0 rfl rfl rfl a cap _ E HE.out HPR.out).mono ?_
      rintro r w5 ⟨S5, rfl, hb5⟩
      have b0' := cell_later hb5 b0
      have b1' := cell_later hb5 b1
      have b2' := cell_later hb5 b2
      have c0' := cell_later hb5 c0
      have c1' := cell_later hb5 c1
      have c2' := cell_later hb5 c2
      have hw5 : Below w.heap.size w w5 := hbw.trans (hb5.mono hbw.size)
      have HT5 := Lib.hid (HTR.out.later hb5)
      have HP5 := Lib.hid (HPR.out.later hb5)
      clear b0 b1 b2 c0 c1 c2 hb5
      go_wp2_with fail
      refine (print_of ⟨V, M, []⟩ V M 0 rfl rfl HLR.out a' cap' _ E HE'.out HT5.out).mono ?_
      rintro r w6 ⟨S6, rfl, hb6⟩
      have hw6 : Below w.heap.size w w6 := hw5.trans (hb6.mono hw5.size)
      have HT6 := Lib.hid (HT5.out.later hb6)
      have HP6 := Lib.hid (HP5.out.later hb6)
      have hkeep : ∀ w', Below w6.heap.size w6 w' → w'.cell? ⟨w.heap.size, 0, none⟩ = some (.int .i64 V) ∧ w'.cell? ⟨w.heap.size, 1, none⟩ = some (.int .i64 M) ∧ w'.cell? ⟨w.heap.size, 2, none⟩ = some (.slice a 0 cap) ∧
          w'.cell? ⟨w4.heap.size, 0, none⟩ = some (.int .i64 V) ∧ w'.cell? ⟨w4.heap.size, 1, none⟩ = some (.int .i64 M) ∧ w'.cell? ⟨w4.heap.size, 2, none⟩ = some (.slice a' 0 cap') ∧ Below w6.heap.size w6 w' :=
        fun w' h => ⟨cell_later h (cell_later hb6 c0'), cell_later h (cell_later hb6 c1'), cell_later h (cell_later hb6 c2'), cell_later h (cell_later hb6 b0'), cell_later h (cell_later hb6 b1'), cell_later h (cell_later hb6 b2'), h⟩
      have HK := Lib.hid hkeep
      clear hkeep b0' b1' b2' c0' c1' c2' hb6
      have hB9 : Below w6.heap.size w6 w6.drew := (Below.refl _ _).drew
      go_wp2_with fail
      go_region_held3 (fun w' => w'.cell? ⟨w.heap.size, 0, none⟩ = some (.int .i64 V) ∧ w'.cell? ⟨w.heap.size, 1, none⟩ = some (.int .i64 M) ∧ w'.cell? ⟨w.heap.size, 2, none⟩ = some (.slice a 0 cap) ∧
          w'.cell? ⟨w4.heap.size, 0, none⟩ = some (.int .i64 V) ∧ w'.cell? ⟨w4.heap.size, 1, none⟩ = some (.int .i64 M) ∧ w'.cell? ⟨w4.heap.size, 2, none⟩ = some (.slice a' 0 cap') ∧ Below w6.heap.size w6 w') (first | exact HK.out _ hB9 | exact HK.out _ hB10 | exact HK.out _ hB11)
        (first
          | (go_at_call_of 13 (cap'); refine (right_of ⟨V, M, []⟩ V M 0 rfl rfl HLR.out _ _ _ rb HRB'.out (HT6.out.later hB9)).mono ?_; rintro r w10 ⟨rfl, hb10⟩; have hB10 := below_step hB9 hb10)
          | (go_at_call_of 13 (cap); refine (right_of ⟨V, M, []⟩ V M 0 rfl rfl rfl _ _ _ rb HRB.out (HP6.out.later hB10)).mono ?_; rintro r w11 ⟨rfl, hb11⟩; have hB11 := below_step hB10 hb11))
      go_wp2
      go_ret
      exact ⟨rfl, hw6.trans (hB11.mono hw6.size)⟩
    · obtain ⟨g, vs, rfl, hgB, hgh, hvl, hvv⟩ := HO.out hne
      have hgz : g < w4.heap.size := (Array.getElem?_eq_some_iff.1 hgh).1
      have hn1 : 1 ≤ ts.length := List.length_pos_iff.2 hne
      have hgw : w.heap.size + 1 ≤ g := by have := hw2.size; omega
      have hst : TurnRel w (w4.alloc (.cells #[.int .i64 V, .int .i64 M, .slice (some ⟨g, 0, none⟩) ts.length cap'] 24)) g vs 0 (w4.alloc (.cells #[.int .i64 V, .int .i64 M, .slice (some ⟨g, 0, none⟩) ts.length cap'] 24)).drew := by
        refine ⟨(hw4.alloc (by omega) _).drew, fun _ _ _ => rfl, Nat.le_refl _, vs, ?_, rfl, fun i hi => ?_⟩
        · show (w4.alloc _).heap[g]? = _
          rw [Below.heap_alloc _ _ _ hgz]; exact hgh
        · rw [if_neg (by omega)]
      have HST := Lib.hid hst
      have HV := Lib.hid (And.intro hvl hvv)
      have hbq : (w4.alloc (.cells #[.int .i64 V, .int .i64 M, .slice (some ⟨g, 0, none⟩) ts.length cap'] 24)).heap[w4.heap.size]? = some (.cells #[.int .i64 V, .int .i64 M, .slice (some ⟨g, 0, none⟩) ts.length cap'] 24 (0, 0)) := (MapKept.heap_alloc w4 _).1
      have hbp : (w4.alloc (.cells #[.int .i64 V, .int .i64 M, .slice (some ⟨g, 0, none⟩) ts.length cap'] 24)).heap[w.heap.size]? = w4.heap[w.heap.size]? := Below.heap_alloc _ _ _ (by omega)
      have HBQ := Lib.hid (And.intro hbq hbp)
      clear hst hvl hvv hgh hne hbq hbp
      go_wp2
      go_region
      go_wp2
      go_loopw [4, 5] (fun i j wr => ∃ (k jn : Nat), i = .int .i64 k ∧ j = .int .i64 jn ∧ Hid (k + jn + 1 = ts.length) ∧ k ≤ jn + 1 ∧ jn < ts.length ∧ k < ts.length ∧ TurnRel w (w4.alloc (.cells #[.int .i64 V, .int .i64 M, .slice (some ⟨g, 0, none⟩) ts.length cap'] 24)) g vs k wr) (fun i _ _ => ts.length - (intOf i).toNat)
      case atStart => exact ⟨0, ts.length - 1, rfl, by congr 1; omega, by show _ = _; omega, by omega, by omega, by omega, HST.out⟩
      case round =>
        obtain ⟨k, jn, rfl, rfl, HKJ, hkj, hjl, hkl, hT⟩ := hrel
        obtain ⟨hbw, hoth, hsz, xs, x1, x2, x3⟩ := id hT
        have hboxq : wr.heap[w4.heap.size]? = some (.cells #[.int .i64 V, .int .i64 M, .slice (some ⟨g, 0, none⟩) ts.length cap'] 24 (0, 0)) := (hoth _ (by omega) (by simp)).trans HBQ.out.1
        have hboxp : wr.heap[w.heap.size]? = w4.heap[w.heap.size]? := (hoth _ (by omega) (by simp; omega)).trans HBQ.out.2
        have b0 : wr.cell? ⟨w4.heap.size, 0, none⟩ = some (.int .i64 V) := by simp [World.cell?, hboxq]
        have b1 : wr.cell? ⟨w4.heap.size, 1, none⟩ = some (.int .i64 M) := by simp [World.cell?, hboxq]
        have b2 : wr.cell? ⟨w4.heap.size, 2, none⟩ = some (.slice (some ⟨g, 0, none⟩) ts.length cap') := by simp [World.cell?, hboxq]
        have c0 : wr.cell? ⟨w.heap.size, 0, none⟩ = some (.int .i64 V) := by rw [World.cell?_of_block (w := w4) hboxp]; exact s0
        have c1 : wr.cell? ⟨w.heap.size, 1, none⟩ = some (.int .i64 M) := by rw [World.cell?_of_block (w := w4) hboxp]; exact s1
        have c2 : wr.cell? ⟨w.heap.size, 2, none⟩ = some (.slice a ts.length cap) := by rw [World.cell?_of_block (w := w4) hboxp]; exact s2
        have hvl := HV.out.1
        by_cases hlt : k < jn
        · have hk2 : 2 * k + 1 < vs.length := by have := HKJ.out; omega
          have ej : vs.length - 1 - k = jn := by have := HKJ.out; omega
          obtain ⟨x, hx⟩ : ∃ x, vs[k]? = some x := ⟨_, List.getElem?_eq_getElem (by omega)⟩
          obtain ⟨y, hy⟩ : ∃ y, vs[vs.length - 1 - k]? = some y := ⟨_, List.getElem?_eq_getElem (by omega)⟩
          have d0 : wr.cell? ⟨g, k, none⟩ = some x := by
            have := x3 k (by omega)
            rw [if_neg (by omega), hx] at this
            simp [World.cell?, x1, this]
          have d1 : wr.cell? ⟨g, jn, none⟩ = some y := by
            have := x3 jn (by omega)
            rw [if_neg (by omega), ← ej, hy] at this
            simp [World.cell?, x1]
            rw [← ej]; exact this
          have f0 : wr.frozen? ⟨g, k, none⟩ = false := by simp [World.frozen?, x1]
          have f1 : wr.frozen? ⟨g, jn, none⟩ = false := by simp [World.frozen?, x1]
          have hstep := hT.step (by omega) hk2 x y hx hy
          rw [ej] at hstep
          have HSP := Lib.hid hstep
          obtain ⟨⟨cx, lx, kx⟩, rfl⟩ : ∃ t : Option Addr × Nat × Nat, x = slV t := by
            obtain ⟨c, cc, q1, _⟩ := HV.out.2 k (by omega)
            rw [hx] at q1
            exact ⟨(c, ts[k].length, cc), by simpa [slV] using q1⟩
          obtain ⟨⟨cy, ly, ky⟩, rfl⟩ : ∃ t : Option Addr × Nat × Nat, y = slV t := by
            obtain ⟨c, cc, q1, _⟩ := HV.out.2 (vs.length - 1 - k) (by omega)
            rw [hy] at q1
            exact ⟨(c, ts[vs.length - 1 - k].length, cc), by simpa [slV] using q1⟩
          unfold slV at *
          dsimp only at *
          have hkn : (k : Int) < ts.length := by omega
          have hjn : (jn : Int) < ts.length := by omega
          have hk0 : (0 : Int) ≤ k := by omega
          have hj0 : (0 : Int) ≤ jn := by omega
          clear hx hy x1 x2 x3 hstep hT hboxq hboxp ej hoth hvl
          go_wp2
          go_region
          go_wp2
          exact ⟨⟨k + 1, jn - 1, by go_num, by congr 1; omega, by show _ = _; have := HKJ.out; omega, by omega, by omega, by omega, HSP.out.drew⟩, by simp [intOf]; omega⟩
        · have hrow := hT.done (by have := HKJ.out; omega)
          have HTR := Lib.hid (turned_at (by omega : ts.length ≤ 1000) (fun l hl => by have := HFS.out.2 l hl; omega) HV.out.1 (fun i hi => by obtain ⟨c, cc, q1, q2, q3⟩ := HV.out.2 i hi; exact ⟨c, cc, q1, q2, q3.later hW⟩) hrow hoth)
          have HPR := Lib.hid (HP.out.later hbw)
          clear hrow hoth x1 x2 x3 hT hboxq hboxp hvl
          have HRQ : Hid (rightPg ⟨V, M, ts.reverse⟩ = rightPg ⟨V, M, ts⟩) := turned_right V M ts
          obtain ⟨E, hE⟩ : ∃ E : Int, E = if rightPg ⟨V, M, ts⟩ = true then 0 else 1 := ⟨_, rfl⟩
          have HE := Lib.hid hE
          have HE' : Hid (E = if rightPg ⟨V, M, ts.reverse⟩ = true then 0 else 1) := by
            show _ = _
            rw [HRQ.out]; exact hE
          have hEE : (E == E) = true := by simp
          obtain ⟨rb, hrb⟩ : ∃ rb, rightPg ⟨V, M, ts⟩ = rb := ⟨_, rfl⟩
          have HRB := Lib.hid hrb
          have HRB' : Hid (rightPg ⟨V, M, ts.reverse⟩ = rb) := by
            show _ = _
            rw [HRQ.out]; exact hrb
          have hrr : (rb == rb) = true := by simp
          have hlr : ts.length = ts.reverse.length := by simp
          have HLR := Lib.hid hlr
          clear hE hrb hlr
          go_wp2_with fail
          refine (print_of ⟨V, M, ts⟩ V M ts.length rfl rfl rfl a cap _ E HE.out HPR.out).mono ?_
          rintro r w5 ⟨S5, rfl, hb5⟩
          have b0' := cell_later hb5 b0
          have b1' := cell_later hb5 b1
          have b2' := cell_later hb5 b2
          have c0' := cell_later hb5 c0
          have c1' := cell_later hb5 c1
          have c2' := cell_later hb5 c2
          have hw5 : Below w.heap.size w w5 := hbw.trans (hb5.mono hbw.size)
          have HT5 := Lib.hid (HTR.out.later hb5)
          have HP5 := Lib.hid (HPR.out.later hb5)
          clear b0 b1 b2 c0 c1 c2 hb5
          go_wp2_with fail
          refine (print_of ⟨V, M, ts.reverse⟩ V M ts.length rfl rfl HLR.out (some ⟨g, 0, none⟩) cap' _ E HE'.out HT5.out).mono ?_
          rintro r w6 ⟨S6, rfl, hb6⟩
          have hw6 : Below w.heap.size w w6 := hw5.trans (hb6.mono hw5.size)
          have HT6 := Lib.hid (HT5.out.later hb6)
          have HP6 := Lib.hid (HP5.out.later hb6)
          have hkeep : ∀ w', Below w6.heap.size w6 w' → w'.cell? ⟨w.heap.size, 0, none⟩ = some (.int .i64 V) ∧ w'.cell? ⟨w.heap.size, 1, none⟩ = some (.int .i64 M) ∧ w'.cell? ⟨w.heap.size, 2, none⟩ = some (.slice a ts.length cap) ∧
              w'.cell? ⟨w4.heap.size, 0, none⟩ = some (.int .i64 V) ∧ w'.cell? ⟨w4.heap.size, 1, none⟩ = some (.int .i64 M) ∧ w'.cell? ⟨w4.heap.size, 2, none⟩ = some (.slice (some ⟨g, 0, none⟩) ts.length cap') ∧ Below w6.heap.size w6 w' :=
            fun w' h => ⟨cell_later h (cell_later hb6 c0'), cell_later h (cell_later hb6 c1'), cell_later h (cell_later hb6 c2'), cell_later h (cell_later hb6 b0'), cell_later h (cell_later hb6 b1'), cell_later h (cell_later hb6 b2'), h⟩
          have HK := Lib.hid hkeep
          clear hkeep b0' b1' b2' c0' c1' c2' hb6
          have hB9 : Below w6.heap.size w6 w6.drew := (Below.refl _ _).drew
          go_wp2_with fail
          go_region_held3 (fun w' => w'.cell? ⟨w.heap.size, 0, none⟩ = some (.int .i64 V) ∧ w'.cell? ⟨w.heap.size, 1, none⟩ = some (.int .i64 M) ∧ w'.cell? ⟨w.heap.size, 2, none⟩ = some (.slice a ts.length cap) ∧
              w'.cell? ⟨w4.heap.size, 0, none⟩ = some (.int .i64 V) ∧ w'.cell? ⟨w4.heap.size, 1, none⟩ = some (.int .i64 M) ∧ w'.cell? ⟨w4.heap.size, 2, none⟩ = some (.slice (some ⟨g, 0, none⟩) ts.length cap') ∧ Below w6.heap.size w6 w') (first | exact HK.out _ hB9 | exact HK.out _ hB10 | exact HK.out _ hB11)
            (first
              | (go_at_call_of 13 (cap'); refine (right_of ⟨V, M, ts.reverse⟩ V M ts.length rfl rfl HLR.out _ _ _ rb HRB'.out (HT6.out.later hB9)).mono ?_; rintro r w10 ⟨rfl, hb10⟩; have hB10 := below_step hB9 hb10)
              | (go_at_call_of 13 (cap); refine (right_of ⟨V, M, ts⟩ V M ts.length rfl rfl rfl _ _ _ rb HRB.out (HP6.out.later hB10)).mono ?_; rintro r w11 ⟨rfl, hb11⟩; have hB11 := below_step hB10 hb11))
          go_wp2
          go_ret
          exact ⟨rfl, hw6.trans (hB11.mono hw6.size)⟩
end Go.Proofs.Ytjkfocmfgcmegaa
