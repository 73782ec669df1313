import Derived.ChangeMaps5
import Derived.SizedLaws
import Derived.Test.YtopklnehhebhmaaPk02
import Derived.Test.YtopklnehhebhmaaPk04
import Derived.Test.YtopklnehhebhmaaPk05
import Derived.Test.YtopklnehhebhmaaPk06

/- Lists of keys as literals; the contract of awake, of layer 15: true. -/
namespace Go.Proofs.Ytopklnehhebhmaa
open Go.RowKit

theorem lit_row (w : World) (t : TypeId) (ks : List Key) (hm : ks.length ≤ 1000) : RowAt (w.alloc (.cells (cellsL strCell ks).toArray t)) (some ⟨w.heap.size, 0, none⟩) 1 strCell ks := by
  refine ⟨by unfold maxLen; omega, fun _ => ⟨w.heap.size, 0, rfl, fun i hi j u hu => ?_⟩⟩
  have hj : j < 1 := (List.getElem?_eq_some_iff.1 hu).1
  have h1 := cellsL_get strCell_len ks i j hi hj
  rw [World.cell?_alloc_new]
  simp only [Nat.zero_add]
  rw [List.getElem?_toArray, h1]
  exact hu
theorem rows_one {W : World} {a : Option Addr} {n cap : Nat} {ks : List Key} (h : RowAt W a 1 strCell ks) (hn : n = ks.length) (hc : a = none → cap = 0) : RowsN (W.alloc (.cells #[.slice a n cap] 22)) (some ⟨W.heap.size, 0, none⟩) [ks] := fun i hi => by
  subst hn
  obtain rfl : i = 0 := by simp at hi; omega
  exact ⟨W.heap.size, 0, a, cap, rfl, by simp, h.later (below_alloc1 _ _), hc⟩
theorem rows_two {W : World} {a b : Option Addr} {n m cap dap : Nat} {ks ls : List Key} (h : RowAt W a 1 strCell ks) (h' : RowAt W b 1 strCell ls) (hn : n = ks.length) (hm : m = ls.length) (hc : a = none → cap = 0) (hd : b = none → dap = 0) : RowsN (W.alloc (.cells #[.slice a n cap, .slice b m dap] 22)) (some ⟨W.heap.size, 0, none⟩) [ks, ls] := fun i hi => by
  subst hn hm
  have hi : i = 0 ∨ i = 1 := by simp at hi; omega
  rcases hi with rfl | rfl
  · exact ⟨W.heap.size, 0, a, cap, rfl, by simp, h.later (below_alloc1 _ _), hc⟩
  · exact ⟨W.heap.size, 0, b, dap, rfl, by simp, h'.later (below_alloc1 _ _), hd⟩
theorem rows_no (W : World) (a : Option Addr) : RowsN W a [] := fun _ hi => absurd hi (Nat.not_lt_zero _)

def k0 : Key := [0]
def k1 : Key := [1, 4, 0]
def s15 : List UInt8 := [1, 0, 2, 0, 1, 0, 0, 3, 1, 4, 0]
theorem wk15_merge : mergeR [[k1, k0], [k0]] = [k0, k1] := by
  unfold mergeR
  rw [← putAll_sortK]
  decide +kernel
theorem wk15_nil : mergeR [] = [] := by
  unfold mergeR
  rw [← putAll_sortK]
  rfl
theorem wk15_right : rightR isK [k0, k1] = true := by decide +kernel
theorem wk15_print : printR isK [k0, k1] true = s15 := by decide +kernel
theorem wk15_read : readR isK s15 = .ok ([k0, k1], true) := by
  rw [← wk15_print]
  exact read_printR wk15_right (by simp [k0, k1])
theorem wk15_short : readR isK [1, 0, 2, 0] = .error 4 := readR_none (by decide) (by decide +kernel)
theorem wk15_form : readR isK (s15 ++ [120]) = .error 3 := by
  refine readR_other (ks := [k0, k1]) (t := [120]) (by decide) (by decide +kernel) ?_
  have e : printR isK [k0, k1] ((s15 ++ [120]).getD 0 0 == 1) = s15 := wk15_print
  rw [e]
  decide
theorem wk15_x : rightR isK [[120]] = false := by decide +kernel
theorem wk15_none : printR isK [] false = [0, 0, 0] := by decide +kernel
/-- The lists that awake merges. -/
theorem wk15_rows (w : World) : RowsN (((w.alloc (.cells #[.string ⟨#[1, 4, 0]⟩, .string ⟨#[0]⟩] 9)).alloc (.cells #[.string ⟨#[0]⟩] 9)).alloc (.cells #[.slice (some ⟨w.heap.size, 0, none⟩) 2 2, .slice (some ⟨w.heap.size + 1, 0, none⟩) 1 1] 22)) (some ⟨w.heap.size + 2, 0, none⟩) [[k1, k0], [k0]] := by
  have h1 : RowAt (w.alloc (.cells #[.string ⟨#[1, 4, 0]⟩, .string ⟨#[0]⟩] 9)) (some ⟨w.heap.size, 0, none⟩) 1 strCell [k1, k0] := lit_row w 9 [k1, k0] (by decide)
  have h2 : RowAt ((w.alloc (.cells #[.string ⟨#[1, 4, 0]⟩, .string ⟨#[0]⟩] 9)).alloc (.cells #[.string ⟨#[0]⟩] 9)) (some ⟨w.heap.size + 1, 0, none⟩) 1 strCell [k0] := by
    have := lit_row (w.alloc (.cells #[.string ⟨#[1, 4, 0]⟩, .string ⟨#[0]⟩] 9)) 9 [k0] (by decide)
    rw [World.size_alloc] at this
    exact this
  have h3 := rows_two (n := 2) (m := 1) (cap := 2) (dap := 1) (h1.later (below_alloc1 _ _)) h2 rfl rfl (fun e => by cases e) (fun e => by cases e)
  rw [World.size_alloc, World.size_alloc] at h3
  exact h3
theorem wk15_m (w : World) (a : Option Addr) (h : RowsN w a [[k1, k0], [k0]]) : Calls Try.prog 15 #[.bool true, .slice a 2 2] w fun r w' => ∃ ka kc, r = .returned (.agg #[.slice ka 2 kc, .bool true]) ∧ RowAt w' ka 1 strCell [k0, k1] ∧ Below w.heap.size w w' := by
  refine (merge15_any true a 2 [[k1, k0], [k0]] w h (by decide) (by decide) (by decide)).mono ?_
  rintro r w' ⟨ka, kc, h1, h2, h3⟩
  rw [wk15_merge] at h1 h2
  obtain ⟨_, _, e, h4, _⟩ := h2.form strCell_len (by decide)
  cases e
  exact ⟨ka, kc, h1, h4, h3⟩
theorem wk15_p (w : World) (a : Option Addr) (cap : Nat) (h : RowAt w a 1 strCell [k0, k1]) : Calls Try.prog 8 #[.agg #[.slice a 2 cap, .bool true]] w fun r w' => r = .returned (.string ⟨#[1, 0, 2, 0, 1, 0, 0, 3, 1, 4, 0]⟩) ∧ Below w.heap.size w w' := by
  have := print15_any a cap [k0, k1] true w h (by decide) (by decide)
  rw [wk15_print] at this
  exact this
theorem wk15_r (w : World) : Calls Try.prog 9 #[.string ⟨#[1, 0, 2, 0, 1, 0, 0, 3, 1, 4, 0]⟩] w fun r w' => ∃ a cap, r = .returned (.tuple #[.agg #[.slice a 2 cap, .bool true], .int .i64 0]) ∧ RowAt w' a 1 strCell [k0, k1] ∧ Below w.heap.size w w' := by
  refine (read15_any s15 w (by decide) (fewR_short (by decide))).mono ?_
  rintro r w' ⟨⟨ks, c, a, cap, h1, h2, h3⟩ | ⟨e, h1, _⟩, hb⟩
  · rw [wk15_read] at h1
    cases h1
    exact ⟨a, cap, h2, h3, hb⟩
  · rw [wk15_read] at h1
    cases h1
theorem wk15_e {u : List UInt8} {e : Nat} (he : readR isK u = .error e) (hl : u.length ≤ 1000) (w : World) : Calls Try.prog 9 #[.string ⟨u.toArray⟩] w fun r w' => r = .returned (.tuple #[.agg #[.slice none 0 0, .bool false], .int .i64 e]) ∧ Below w.heap.size w w' := by
  refine (read15_any u w (by omega) (fewR_short hl)).mono ?_
  rintro r w' ⟨⟨ks, c, a, cap, h1, _⟩ | ⟨e', h1, h2⟩, hb⟩
  · rw [he] at h1
    cases h1
  · rw [he] at h1
    cases h1
    exact ⟨h2, hb⟩
theorem wk15_n (w : World) : Calls Try.prog 15 #[.bool false, .slice none 0 0] w fun r w' => ∃ ka kc, r = .returned (.agg #[.slice ka 0 kc, .bool false]) ∧ Below w.heap.size w w' := by
  refine (merge15_any false none 0 [] w (rows_no w none) (by decide) (by decide) (by decide)).mono ?_
  rintro r w' ⟨ka, kc, h1, _, h3⟩
  rw [wk15_nil] at h1
  exact ⟨ka, kc, h1, h3⟩
theorem wk15_pn (w : World) (a : Option Addr) (cap : Nat) : Calls Try.prog 8 #[.agg #[.slice a 0 cap, .bool false]] w fun r w' => r = .returned (.string ⟨#[0, 0, 0]⟩) ∧ Below w.heap.size w w' := by
  have := print15_any a cap [] false w (rowAt_nil _ _ _ _) (by decide) (by simp)
  rw [wk15_none] at this
  exact this
theorem wk15_rx (w : World) : Calls Try.prog 12 #[.agg #[.slice (some ⟨w.heap.size, 0, none⟩) 1 1, .bool false]] (w.alloc (.cells #[.string ⟨#[120]⟩] 9)) fun r w' => r = .returned (.bool false) ∧ Below w.heap.size w w' := by
  have h := right15_any (some ⟨w.heap.size, 0, none⟩) 1 [[120]] false _ (lit_row w 9 [[120]] (by decide)) (by decide) (by decide)
  rw [wk15_x] at h
  exact h.mono fun r w' ⟨h1, h2⟩ => ⟨h1, (below_alloc1 w _).trans (h2.mono (by simp))⟩
theorem wk15_ry (w : World) (a : Option Addr) (cap : Nat) (h : RowAt w a 1 strCell [k0, k1]) : Calls Try.prog 12 #[.agg #[.slice a 2 cap, .bool true]] w fun r w' => r = .returned (.bool true) ∧ Below w.heap.size w w' := by
  have := right15_any a cap [k0, k1] true w h (by decide) (by decide)
  rw [wk15_right] at this
  exact this
theorem wk15_s (w : World) (a b : Option Addr) (cap dap : Nat) (h : RowAt w a 1 strCell [k0, k1]) (h' : RowAt w b 1 strCell [k0, k1]) : Calls Try.prog 14 #[.slice a 2 cap, .slice b 2 dap] w fun r w' => r = .returned (.bool true) ∧ Below w.heap.size w w' := by
  have := sameK_any a b cap dap [k0, k1] [k0, k1] w h h' (by decide) (by decide)
  exact this

set_option maxRecDepth 100000 in
set_option maxHeartbeats 4000000 in
theorem awake15_any (w : World) : Calls Try.prog 6 #[] w fun r w' => r = .returned (.bool true) ∧ Below w.heap.size w w' := by
  have HR := Lib.hid (wk15_rows w)
  have hb2 := (below_alloc2 w (.cells #[.string ⟨#[1, 4, 0]⟩, .string ⟨#[0]⟩] 9) (.cells #[.string ⟨#[0]⟩] 9))
  have hb3 := hb2.alloc hb2.size (.cells #[.slice (some ⟨w.heap.size, 0, none⟩) 2 2, .slice (some ⟨w.heap.size + 1, 0, none⟩) 1 1] 22)
  clear hb2
  go_enter Try.func6, Try.ntmps6
  go_wp2_with fail
  refine (wk15_m _ _ HR.out).mono ?_
  rintro r W4 ⟨ka, kc, rfl, hrow, hb4⟩
  have HB4 := Lib.hid (hb3.trans (hb4.mono hb3.size))
  have HK4 := Lib.hid hrow
  clear hb4 hb3 HR hrow
  have hba := below_alloc1 W4 (.cells #[.slice ka 2 kc, .bool true] 26)
  go_wp2_with fail
  refine (wk15_p _ _ _ (HK4.out.later hba)).mono ?_
  rintro r W5 ⟨rfl, hb5⟩
  have hb6 := hba.trans (hb5.mono hba.size)
  have e0 : (W4.alloc (.cells #[.slice ka 2 kc, .bool true] 26)).cell? ⟨W4.heap.size, 0, none⟩ = some (.slice ka 2 kc) := by simp
  have e1 : (W4.alloc (.cells #[.slice ka 2 kc, .bool true] 26)).cell? ⟨W4.heap.size, 1, none⟩ = some (.bool true) := by simp
  have c0 := cell_later hb5 e0
  have c1 := cell_later hb5 e1
  have HB5 := Lib.hid (HB4.out.trans (hb6.mono HB4.out.size))
  have HK5 := Lib.hid (HK4.out.later hb6)
  clear e0 e1 hb5 hb6 hba HB4 HK4
  have hz : W4.heap.size = W4.heap.size := rfl
  generalize W4.heap.size = g1 at *
  clear hz
  go_wp2_with fail
  refine (wk15_r _).mono ?_
  rintro r W6 ⟨a6, p6, rfl, hrow6, hb6⟩
  have d0 := cell_later hb6 c0
  have d1 := cell_later hb6 c1
  have HB6 := Lib.hid (HB5.out.trans (hb6.mono HB5.out.size))
  have HK6 := Lib.hid (HK5.out.later hb6)
  have HL6 := Lib.hid hrow6
  have hba := below_alloc1 W6 (.cells #[.slice a6 2 p6, .bool true] 26)
  clear c0 c1 HB5 HK5 hrow6 hb6
  go_wp2_with fail
  have x1 : ({ data := #[1, 0, 2, 0, 1, 0, 0, 3, 1, 4, 0] } : ByteArray).extract 0 (min (11 : Int) 4).toNat = ⟨([1, 0, 2, 0] : List UInt8).toArray⟩ := by decide +kernel
  have x2 : ({ data := #[1, 0, 2, 0, 1, 0, 0, 3, 1, 4, 0] } : ByteArray) ++ ({ data := #[120] } : ByteArray) = ⟨(s15 ++ [120]).toArray⟩ := by decide +kernel
  rw [x1]
  refine (wk15_e wk15_short (by decide) _).mono ?_
  rintro r W7 ⟨rfl, hb7⟩
  have hb8 := hba.trans (hb7.mono hba.size)
  have e0 : (W6.alloc (.cells #[.slice a6 2 p6, .bool true] 26)).cell? ⟨W6.heap.size, 0, none⟩ = some (.slice a6 2 p6) := by simp
  have e1 : (W6.alloc (.cells #[.slice a6 2 p6, .bool true] 26)).cell? ⟨W6.heap.size, 1, none⟩ = some (.bool true) := by simp
  have f0 := cell_later hb7 e0
  have f1 := cell_later hb7 e1
  have c0 := cell_later hb8 d0
  have c1 := cell_later hb8 d1
  have HB7 := Lib.hid (HB6.out.trans (hb8.mono HB6.out.size))
  have HK7 := Lib.hid (HK6.out.later hb8)
  have HL7 := Lib.hid (HL6.out.later hb8)
  clear e0 e1 d0 d1 hb7 hb8 hba HB6 HK6 HL6 x1
  generalize W6.heap.size = g2 at *
  have hba := below_alloc1 W7 (.cells #[.slice none 0 0, .bool false] 26)
  go_wp2_with fail
  refine (wk15_e wk15_form (by decide) _).mono ?_
  rintro r W8 ⟨rfl, hb8⟩
  have hb9 := hba.trans (hb8.mono hba.size)
  have d0 := cell_later hb9 c0
  have d1 := cell_later hb9 c1
  have e0 := cell_later hb9 f0
  have e1 := cell_later hb9 f1
  have HB8 := Lib.hid (HB7.out.trans (hb9.mono HB7.out.size))
  have HK8 := Lib.hid (HK7.out.later hb9)
  have HL8 := Lib.hid (HL7.out.later hb9)
  clear c0 c1 f0 f1 hb8 hb9 hba HB7 HK7 HL7 x2
  have hba := below_alloc1 W8 (.cells #[.slice none 0 0, .bool false] 26)
  have c0 := cell_later hba d0
  have c1 := cell_later hba d1
  have f0 := cell_later hba e0
  have f1 := cell_later hba e1
  go_wp2_with fail
  refine (wk15_s _ _ _ _ _ (HL8.out.later hba) (HK8.out.later hba)).mono ?_
  rintro r W9 ⟨rfl, hb9⟩
  have g0 := cell_later hb9 c0
  have g1' := cell_later hb9 c1
  have g2' := cell_later hb9 f1
  have hbA := hba.trans (hb9.mono hba.size)
  have HB9 := Lib.hid (HB8.out.trans (hbA.mono HB8.out.size))
  have HK9 := Lib.hid (HK8.out.later hbA)
  clear c0 c1 f0 f1 d0 d1 e0 e1 hb9 hba hbA HB8 HK8 HL8
  go_wp2_with fail
  refine (wk15_ry _ _ _ HK9.out).mono ?_
  rintro r W10 ⟨rfl, hb10⟩
  have HB10 := Lib.hid (HB9.out.trans (hb10.mono HB9.out.size))
  clear g0 g1' g2' hb10 HK9 HB9
  go_wp2_with fail
  refine (wk15_rx W10).mono ?_
  rintro r W11 ⟨rfl, hb11⟩
  have HB11 := Lib.hid (HB10.out.trans (hb11.mono HB10.out.size))
  clear hb11 HB10
  go_wp2_with fail
  refine (wk15_n W11).mono ?_
  rintro r W12 ⟨ka2, kc2, rfl, hb12⟩
  have HB12 := Lib.hid (HB11.out.trans (hb12.mono HB11.out.size))
  clear hb12 HB11
  go_wp2_with fail
  refine (wk15_pn W12 ka2 kc2).mono ?_
  rintro r W13 ⟨rfl, hb13⟩
  have hb := HB12.out.trans (hb13.mono HB12.out.size)
  go_wp2
  go_ret
  exact ⟨rfl, hb⟩
end Go.Proofs.Ytopklnehhebhmaa

/- The contract of the law's few. -/
namespace Go.Proofs.Ytopklnehhebhmaa
open Go.RowKit

/-- Keys that may be gone over: few, and short. -/
def fewK (ks : List Key) : Bool := ks.all (fun k => decide (k.length ≤ 200)) && decide (ks.length ≤ 60)
theorem fewK_yes {ks : List Key} (h : fewK ks = true) : ks.length ≤ 60 ∧ ∀ k ∈ ks, k.length ≤ 200 := by
  unfold fewK at h
  rw [Bool.and_eq_true, decide_eq_true_eq, List.all_eq_true] at h
  exact ⟨h.2, fun k hk => by have := h.1 k hk; rwa [decide_eq_true_eq] at this⟩
set_option maxRecDepth 100000 in
theorem few15_any (a : Option Addr) (cap : Nat) (ks : List Key) (w : World) (hl : RowAt w a 1 strCell ks) (hm : ks.length ≤ maxLen) :
    Calls Try.prog 7 #[.slice a ks.length cap] w fun r w' => r = .returned (.bool (fewK ks)) ∧ Below w.heap.size w w' := by
  unfold maxLen at hm
  have HL := Lib.hid hl
  clear hl
  go_enter Try.func7, Try.ntmps7
  go_wp2
  go_loopw [7] (fun i wr => ∃ k : Nat, k ≤ ks.length ∧ i = .int .i64 k ∧ Hid ((ks.take k).all (fun k => decide (k.length ≤ 200)) = true) ∧ Hid (Below w.heap.size w wr)) (fun i _ => ks.length - (intOf i).toNat)
  case atStart => exact ⟨0, Nat.zero_le _, rfl, rfl, Below.refl _ _⟩
  case round =>
    obtain ⟨k, hk, rfl, HT, HB⟩ := hrel
    by_cases hlt : k < ks.length
    · obtain ⟨b, o, rfl, e1⟩ := (HL.out.later HB.out).str hlt
      have HM : Hid (ks[k].length ≤ 200 → (ks.take (k + 1)).all (fun k => decide (k.length ≤ 200)) = true) := fun h => by
        rw [List.take_succ_eq_append_getElem hlt, List.all_append, HT.out]
        simp [h]
      have HN : Hid (¬ ks[k].length ≤ 200 → fewK ks = false) := fun h => Bool.eq_false_iff.2 fun e => h ((fewK_yes e).2 _ (List.getElem_mem hlt))
      generalize ks[k] = x at *
      by_cases hx : x.length ≤ 200
      · have hq : decide ((200 : Int) < (x.length : Int)) = false := by simp; omega
        have hxx : ¬ 200 < x.length := by omega
        have HM2 := Lib.hid (HM.out hx)
        clear HM HN hx
        go_wp2_with fail
        go_roundw
        case rel => exact ⟨k + 1, by omega, by go_num, HM2.out, HB.out⟩
        case measure => simp [intOf]; omega
      · have hq : decide ((200 : Int) < (x.length : Int)) = true := by simp; omega
        have hxx : 200 < x.length := by omega
        have HN2 := Lib.hid (HN.out hx)
        clear HM HN hx
        go_wp2_with fail
        go_ret
        exact ⟨ret_bool HN2.out.symm, HB.out⟩
    · obtain rfl : k = ks.length := by omega
      have HE : Hid (fewK ks = decide (ks.length ≤ 60)) := by
        have h := HT.out
        rw [List.take_length] at h
        show _ = _
        unfold fewK
        rw [h, Bool.true_and]
      have hq : decide ((ks.length : Int) ≤ 60) = decide (ks.length ≤ 60) := by
        by_cases h : ks.length ≤ 60
        · rw [decide_eq_true h]; simp; omega
        · rw [decide_eq_false h]; simp; omega
      go_wp2
      go_ret
      exact ⟨ret_bool (by rw [HE.out, ← hq]), HB.out⟩
end Go.Proofs.Ytopklnehhebhmaa

/- Merge of one list, of two, and the document's, at literals of lists. -/
namespace Go.Proofs.Ytopklnehhebhmaa
open Go.RowKit

theorem mergeR_one (ks : List Key) : mergeR [ks] = sortK ks := by simp [mergeR]
theorem sortK_short {ks : List Key} {n m : Nat} (h : ks.length ≤ n) (hk : ∀ k ∈ ks, k.length ≤ m) : (sortK ks).length ≤ n ∧ ∀ k ∈ sortK ks, k.length ≤ m := ⟨Nat.le_trans (sortK_len _) h, fun k hm => hk k (mem_sortK.1 hm)⟩
/-- What Merge answers. -/
def MgdR (c : Bool) (K : List Key) (w : World) (r : Ending) (w' : World) : Prop := ∃ ka kc, r = .returned (.agg #[.slice ka K.length kc, .bool c]) ∧ RowAt w' ka 1 strCell K ∧ (ka = none → kc = 0) ∧ Below w.heap.size w w'
theorem mg_of {c : Bool} {K : List Key} {w W w' : World} {r : Ending} (hK : K.length ≤ 1000000) (hb : Below w.heap.size w W) (h : ∃ ka kc, r = .returned (.agg #[.slice ka K.length kc, .bool c]) ∧ OwnRow w' W.heap.size 9 1 strCell (.slice ka K.length kc) K ∧ Below W.heap.size W w') : MgdR c K w r w' := by
  obtain ⟨ka, kc, h1, h2, h3⟩ := h
  obtain ⟨_, _, e, h4, h5⟩ := h2.form strCell_len hK
  cases e
  exact ⟨ka, kc, h1, h4, h5, hb.trans (h3.mono hb.size)⟩
theorem mg_one (c : Bool) {a : Option Addr} {cap : Nat} {ks : List Key} {w : World} (h : RowAt w a 1 strCell ks) (hc : a = none → cap = 0) (hl : ks.length ≤ 1000) (hk : ∀ k ∈ ks, k.length ≤ 1000) :
    Calls Try.prog 15 #[.bool c, .slice (some ⟨w.heap.size, 0, none⟩) 1 1] (w.alloc (.cells #[.slice a ks.length cap] 22)) (MgdR c (sortK ks) w) := by
  have := merge15_any c (some ⟨w.heap.size, 0, none⟩) 1 [ks] _ (rows_one h rfl hc) (by simp) (by simp; omega) (fun k hm => by have := hk k (by simpa using hm); omega)
  rw [mergeR_one] at this
  exact this.mono fun r w' h => mg_of (by have := sortK_len ks; omega) (below_alloc1 _ _) h
theorem mg_two (c : Bool) {a b : Option Addr} {cap dap : Nat} {ks ls : List Key} {w : World} (h : RowAt w a 1 strCell ks) (h' : RowAt w b 1 strCell ls) (hc : a = none → cap = 0) (hd : b = none → dap = 0) (hl : ks.length ≤ 1000) (hm : ls.length ≤ 1000) (hk : ∀ k ∈ ks, k.length ≤ 1000) (hk' : ∀ k ∈ ls, k.length ≤ 1000) :
    Calls Try.prog 15 #[.bool c, .slice (some ⟨w.heap.size, 0, none⟩) 2 2] (w.alloc (.cells #[.slice a ks.length cap, .slice b ls.length dap] 22)) (MgdR c (mergeR [ks, ls]) w) := by
  have hf : ([ks, ls].flatten).length ≤ 2000 := by simp; omega
  have := merge15_any c (some ⟨w.heap.size, 0, none⟩) 2 [ks, ls] _ (rows_two h h' rfl rfl hc hd) (by simp) (by omega) (fun k hm => by
    have hm : k ∈ ks ∨ k ∈ ls := by simpa using hm
    rcases hm with hm | hm
    · have := hk k hm; omega
    · have := hk' k hm; omega)
  exact this.mono fun r w' h => mg_of (by have := sortK_len [ks, ls].flatten; unfold mergeR; omega) (below_alloc1 _ _) h
/-- What the document's Merge answers. -/
def RgdR (c : Bool) (K : List Key) (w : World) (r : Ending) (w' : World) : Prop := ∃ ka kc, r = .returned (.agg #[.slice ka K.length kc, .bool c]) ∧ RowAt w' ka 1 strCell K ∧ Below w.heap.size w w'
theorem rg_one (c : Bool) {a : Option Addr} {cap : Nat} {ks : List Key} {w : World} (h : RowAt w a 1 strCell ks) (hc : a = none → cap = 0) (hl : ks.length ≤ 1000) :
    Calls Try.prog 16 #[.bool c, .slice (some ⟨w.heap.size, 0, none⟩) 1 1] (w.alloc (.cells #[.slice a ks.length cap] 22)) (RgdR c (sortK ks) w) := by
  have := refMerge15_any c (some ⟨w.heap.size, 0, none⟩) 1 [ks] _ (rows_one h rfl hc).rows (by simp) (by simp; omega)
  rw [mergeR_one] at this
  exact this.mono fun r w' ⟨ka, kc, h1, h2, h3⟩ => ⟨ka, kc, h1, h2, (below_alloc1 _ _).trans (h3.mono (by simp))⟩
theorem rg_two (c : Bool) {a b : Option Addr} {cap dap : Nat} {ks ls : List Key} {w : World} (h : RowAt w a 1 strCell ks) (h' : RowAt w b 1 strCell ls) (hc : a = none → cap = 0) (hd : b = none → dap = 0) (hl : ks.length ≤ 1000) (hm : ls.length ≤ 1000) :
    Calls Try.prog 16 #[.bool c, .slice (some ⟨w.heap.size, 0, none⟩) 2 2] (w.alloc (.cells #[.slice a ks.length cap, .slice b ls.length dap] 22)) (RgdR c (mergeR [ks, ls]) w) := by
  have := refMerge15_any c (some ⟨w.heap.size, 0, none⟩) 2 [ks, ls] _ (rows_two h h' rfl rfl hc hd).rows (by simp) (by simp; omega)
  exact this.mono fun r w' ⟨ka, kc, h1, h2, h3⟩ => ⟨ka, kc, h1, h2, (below_alloc1 _ _).trans (h3.mono (by simp))⟩
end Go.Proofs.Ytopklnehhebhmaa

/- What Read answers, told alike for the report and for an error. -/
namespace Go.Proofs.Ytopklnehhebhmaa
open Go.RowKit

/-- The keys, whether they are all, and the error (0: none). -/
def resR (u : List UInt8) : List Key × Bool × Nat := match readR isK u with
  | .ok (ks, c) => (ks, c, 0)
  | .error e => ([], false, e)
theorem readR_err {ok : Key → Bool} {u : List UInt8} {e : Nat} (h : readR ok u = .error e) : e ≠ 0 := by
  match u, h with
  | [], h => cases h; decide
  | [_], h => cases h; decide
  | [_, _], h => cases h; decide
  | f :: a :: b :: t, h =>
    rw [readR] at h
    split at h
    · cases h; decide
    · split at h
      · cases h; decide
      · cases h
theorem ReadR15.res {u : List UInt8} {w w' : World} {r : Ending} (h : ReadR15 u w r w') : ∃ a cap, r = .returned (.tuple #[.agg #[.slice a (resR u).1.length cap, .bool (resR u).2.1], .int .i64 ((resR u).2.2 : Nat)]) ∧ RowAt w' a 1 strCell (resR u).1 ∧ Below w.heap.size w w' := by
  obtain ⟨⟨ks, c, a, cap, h1, h2, h3⟩ | ⟨e, h1, h2⟩, hb⟩ := h
  · have e : resR u = (ks, c, 0) := by unfold resR; rw [h1]
    rw [e]
    exact ⟨a, cap, h2, h3, hb⟩
  · have e : resR u = ([], false, e) := by unfold resR; rw [h1]
    rw [e]
    exact ⟨none, 0, h2, rowAt_nil _ _ _ _, hb⟩
theorem resR_zero {u : List UInt8} (h : (resR u).2.2 = 0) : printR isK (resR u).1 (resR u).2.1 = u := by
  cases e : readR isK u with
  | error e' =>
    have : resR u = ([], false, e') := by unfold resR; rw [e]
    rw [this] at h
    exact absurd h (readR_err e)
  | ok q =>
    obtain ⟨ks, c⟩ := q
    have : resR u = (ks, c, 0) := by unfold resR; rw [e]
    rw [this]
    exact (print_readR e).2.1
theorem printR_size {ok : Key → Bool} {ks : List Key} {c : Bool} (h : rightR ok ks = true) : (printR ok ks c).length = (bodyR ks).length + 3 := by
  unfold printR
  rw [if_pos h]
  simp only [List.length_cons, List.length_append, twoR, List.length_nil]
  omega
theorem resR_few {u : List UInt8} (hl : u.length ≤ 1000) : (resR u).1.length ≤ 1000 ∧ ∀ k ∈ (resR u).1, k.length ≤ 1000 := by
  cases e : readR isK u with
  | error e' =>
    have : resR u = ([], false, e') := by unfold resR; rw [e]
    rw [this]
    exact ⟨Nat.zero_le _, fun k hk => by cases hk⟩
  | ok q =>
    obtain ⟨ks, c⟩ := q
    have : resR u = (ks, c, 0) := by unfold resR; rw [e]
    rw [this]
    obtain ⟨h1, h2, _⟩ := print_readR e
    have h3 := printR_size (c := c) h1
    rw [h2] at h3
    obtain ⟨h4, h5⟩ := body_len (ks := ks)
    exact ⟨show ks.length ≤ 1000 by omega, fun k hk => by have := h5 k hk; omega⟩
theorem printR_len {ok : Key → Bool} {ks : List Key} {c : Bool} (hm : ks.length ≤ 900) (hk : ∀ k ∈ ks, k.length ≤ 1000) : (printR ok ks c).length ≤ 1000000 := by
  cases h : rightR ok ks
  · unfold printR; rw [h]; simp
  · have h1 := bodyR_len hk
    have h2 := Nat.mul_le_mul_right (1000 + 2) hm
    rw [printR_size h]
    omega
end Go.Proofs.Ytopklnehhebhmaa

/- The contract of the document's Right of reports. -/
namespace Go.Proofs.Ytopklnehhebhmaa
open Go.RowKit Go.Sort

set_option maxRecDepth 100000 in
set_option maxHeartbeats 2000000 in
theorem refRight15_any (a : Option Addr) (cap : Nat) (ks : List Key) (c : Bool) (w : World) (hl : RowAt w a 1 strCell ks) (hm : ks.length ≤ 1000000) (hk : ∀ k ∈ ks, k.length ≤ 1000) :
    Calls Try.prog 13 #[.agg #[.slice a ks.length cap, .bool c]] w fun r w' => r = .returned (.bool (rightR isK ks)) ∧ Below w.heap.size w w' := by
  have HL := Lib.hid hl
  have HK := Lib.hid hk
  clear hl hk
  go_enter Try.func13, Try.ntmps13
  have hb : Below w.heap.size w (w.alloc (.cells #[.slice a ks.length cap, .bool c] 28)) := below_alloc1 _ _
  have c0 : (w.alloc (.cells #[.slice a ks.length cap, .bool c] 28)).cell? ⟨w.heap.size, 0, none⟩ = some (.slice a ks.length cap) := by simp
  have hsz : w.heap.size < (w.alloc (.cells #[.slice a ks.length cap, .bool c] 28)).heap.size := by simp
  go_wp2
  generalize w.alloc (.cells #[.slice a ks.length cap, .bool c] 28) = W at *
  go_loopw [3] (fun i wr => ∃ k : Nat, k ≤ ks.length ∧ i = .int .i64 k ∧ Hid (RiteTo ks k) ∧ Hid (Below W.heap.size W wr)) (fun i _ => ks.length - (intOf i).toNat)
  case atStart => exact ⟨0, Nat.zero_le _, rfl, riteTo_zero ks, Below.refl _ _⟩
  case round =>
    obtain ⟨k, hk, rfl, HT, HB⟩ := hrel
    have d0 := cell_later HB.out c0
    by_cases hlt : k < ks.length
    · have HA := HL.out.later (hb.trans (HB.out.mono hb.size))
      obtain ⟨b, o, rfl, e1⟩ := HA.str hlt
      have hkl := HK.out ks[k] (List.getElem_mem hlt)
      have HM : Hid (isK ks[k] = true → (0 < k → ks[k - 1] < ks[k]) → RiteTo ks (k + 1)) := fun h1 h2 => HT.out.more hlt h1 h2
      have HNO : Hid (isK ks[k] = false ∨ 0 < k ∧ ks[k] ≤ ks[k - 1] → rightR isK ks = false) := fun h => rightR_no hlt h
      have HCELL : Hid (∀ W2, Below wr.heap.size wr W2 → W2.cell? ⟨w.heap.size, 0, none⟩ = some (.slice (some ⟨b, o, none⟩) ks.length cap) ∧ (k ≠ 0 → W2.cell? ⟨b, o + (k - 1), none⟩ = some (.string ⟨(ks[k - 1]'(by omega)).toArray⟩)) ∧ W2.cell? ⟨b, o + k, none⟩ = some (.string ⟨ks[k].toArray⟩)) := fun W2 h2 => ⟨cell_later h2 d0, fun h0 => by
        obtain ⟨b', o', e', e2⟩ := HA.str (show k - 1 < ks.length by omega)
        cases e'
        exact cell_later h2 e2, cell_later h2 e1⟩
      have hk1 : k - 1 < ks.length := by omega
      have hks : k ≠ 0 → IntKind.i64.wrap ((k : Int) - 1) = ((k - 1 : Nat) : Int) := fun h => by rw [IntWalk.i64_in _ (by omega)]; omega
      clear HA
      generalize ks[k] = x at *
      generalize ks[k - 1] = y at *
      have HC := Lib.hid fun W2 => refKey_any x W2 hkl
      cases hx : isK x
      · rw [hx] at HC
        go_wp2_with fail
        refine (HC.out _).mono ?_
        rintro r w3 ⟨⟨v, rfl⟩, hb3⟩
        have hb4 := hb.trans ((HB.out.trans (hb3.mono HB.out.size)).mono hb.size)
        go_wp2_with fail
        go_quiet (fail)
        go_wp2
        go_ret
        exact ⟨ret_bool (HNO.out (.inl hx)).symm, hb4.drewN⟩
      · rw [hx] at HC
        by_cases hk0 : k = 0
        · subst hk0
          rw [Nat.add_zero] at e1
          have hkd : decide ((0 : Int) < ((0 : Nat) : Int)) = false := by simp
          clear hks HCELL
          go_wp2_with fail
          refine (HC.out _).mono ?_
          rintro r w3 ⟨⟨v, rfl⟩, hb3⟩
          have HB4 := Lib.hid (HB.out.trans (hb3.mono HB.out.size))
          clear hb3
          go_wp2_with fail
          go_quiet (fail)
          go_wp2_with fail
          go_roundw
          case rel => exact ⟨1, by omega, by go_num, HM.out hx (fun h => absurd h (Nat.lt_irrefl _)), HB4.out.drewN⟩
          case measure => simp [intOf]; omega
        · have hkd : decide (0 < k) = true := by simp; omega
          have hkp : 0 < k := by omega
          have hks2 := hks hk0
          have HMM : Hid (y < x → RiteTo ks (k + 1)) := fun h => HM.out hx fun _ => h
          have HNN : Hid (¬ y < x → rightR isK ks = false) := fun h => HNO.out (.inr ⟨by omega, List.not_lt.1 h⟩)
          clear hks HM HNO
          go_wp2_with fail
          refine (HC.out _).mono ?_
          rintro r w3 ⟨⟨v, rfl⟩, hb3⟩
          obtain ⟨f0, f1, f2⟩ := HCELL.out w3 hb3
          have f1 := f1 hk0
          have HB4 := Lib.hid (HB.out.trans (hb3.mono HB.out.size))
          clear hb3 HCELL
          by_cases hyx : y < x
          · have hd : Op.bytesLess y x = true := by rw [bytesLess_eq]; simp [hyx]
            have HT2 := Lib.hid (HMM.out hyx)
            clear hyx HMM HNN
            go_wp2_with fail
            go_quiet (fail)
            go_wp2_with fail
            go_roundw
            case rel => exact ⟨k + 1, by omega, by go_num, HT2.out, HB4.out.drewN⟩
            case measure => simp [intOf]; omega
          · have hd : Op.bytesLess y x = false := by rw [bytesLess_eq]; simp [hyx]
            have HN2 := Lib.hid (HNN.out hyx)
            have hb4 := hb.trans (HB4.out.mono hb.size)
            clear hyx HMM HNN
            go_wp2_with fail
            go_quiet (fail)
            go_wp2
            go_ret
            exact ⟨ret_bool HN2.out.symm, hb4.drewN⟩
    · obtain rfl : k = ks.length := by omega
      have HR := Lib.hid HT.out.done
      have hb4 := hb.trans (HB.out.mono hb.size)
      have hq : decide ((ks.length : Int) ≤ 65535) = decide (ks.length ≤ 65535) := by
        by_cases h : ks.length ≤ 65535
        · rw [decide_eq_true h]; simp; omega
        · rw [decide_eq_false h]; simp; omega
      go_wp2
      go_ret
      exact ⟨ret_bool (by rw [HR.out, ← hq]), hb4⟩
end Go.Proofs.Ytopklnehhebhmaa

/- The contract of the document's Print of reports. -/
namespace Go.Proofs.Ytopklnehhebhmaa
open Go.RowKit

theorem str_app (a b : List UInt8) : (⟨a.toArray⟩ : ByteArray) ++ ⟨b.toArray⟩ = ⟨(a ++ b).toArray⟩ := by
  apply ByteArray.ext
  simp
theorem str_size (a : List UInt8) : (⟨a.toArray⟩ : ByteArray).size = a.length := rfl
theorem flag_str (c : Bool) : bstr [(((flagR c).toNat : Nat) : Int)] = ⟨[flagR c].toArray⟩ := bstr_ofU [flagR c]

set_option maxRecDepth 100000 in
set_option maxHeartbeats 4000000 in
theorem refPrint15_any (a : Option Addr) (cap : Nat) (ks : List Key) (c : Bool) (w : World) (hl : RowAt w a 1 strCell ks) (hm : ks.length ≤ 1000) (hk : ∀ k ∈ ks, k.length ≤ 1000) :
    Calls Try.prog 11 #[.agg #[.slice a ks.length cap, .bool c]] w fun r w' => r = .returned (.string ⟨(printR isK ks c).toArray⟩) ∧ Below w.heap.size w w' := by
  have HL := Lib.hid hl
  have HK := Lib.hid hk
  have HOL := Lib.hid (outR_len (c := c) hm hk)
  clear hl hk
  have hb : Below w.heap.size w (w.alloc (.cells #[.slice a ks.length cap, .bool c] 28)) := below_alloc1 _ _
  have HC := Lib.hid (refRight15_any a cap ks c _ (HL.out.later hb) (by omega) (fun k h => HK.out k h))
  have c0 : (w.alloc (.cells #[.slice a ks.length cap, .bool c] 28)).cell? ⟨w.heap.size, 0, none⟩ = some (.slice a ks.length cap) := by simp
  have c1 : (w.alloc (.cells #[.slice a ks.length cap, .bool c] 28)).cell? ⟨w.heap.size, 1, none⟩ = some (.bool c) := by simp
  have hsz : w.heap.size < (w.alloc (.cells #[.slice a ks.length cap, .bool c] 28)).heap.size := by simp
  cases hr : rightR isK ks
  · rw [hr] at HC
    have HP : Hid (printR isK ks c = []) := by show _ = _; unfold printR; rw [hr]; rfl
    clear hr
    go_enter Try.func11, Try.ntmps11
    go_wp2_with fail
    refine HC.out.mono ?_
    rintro r w1 ⟨rfl, hb1⟩
    go_wp2
    go_ret
    exact ⟨congrArg (fun x : List UInt8 => Ending.returned (.string ⟨x.toArray⟩)) HP.out.symm, hb.trans (hb1.mono hb.size)⟩
  rw [hr] at HC
  have HP := Lib.hid (outR_end (c := c) hr)
  clear hr
  go_enter Try.func11, Try.ntmps11
  go_wp2_with fail
  refine HC.out.mono ?_
  rintro r w1 ⟨rfl, hb1⟩
  have d0 := cell_later hb1 c0
  have d1 := cell_later hb1 c1
  have hbw := hb.trans (hb1.mono hb.size)
  have hz := Nat.lt_of_lt_of_le hsz hb1.size
  clear HC c0 c1 hb1 hsz hb
  have HT := Lib.hid fun W => refTwo_any ks.length W (by omega)
  have HX : Hid (∀ (W : World) (n : Int), (convert 39 9 (.slice (some ⟨W.heap.size, 0, none⟩) 1 1)).run Try.prog (W.alloc (.cells #[.int .u8 n] 5)) = .ok (.string (bstr [n])) (W.alloc (.cells #[.int .u8 n] 5))) := fun W n => run_byte_str (byte_new W n)
  have HF : Hid (∀ d : Bool, d = c → (⟨[flagR d].toArray⟩ : ByteArray) ++ ⟨(twoR ks.length).toArray⟩ = ⟨(outR ks c 0).toArray⟩) := fun d e => by rw [str_app, outR_zero, e]
  have HMO : Hid (∀ k (h : k < ks.length), outR ks c (k + 1) = (outR ks c k ++ twoR ks[k].length) ++ ks[k]) := fun _ h => outR_more h
  have hx0 := HX.out w1 0
  have hx1 := HX.out (w1.alloc (.cells #[.int .u8 0] 5)) 1
  rw [World.size_alloc] at hx1
  have hba := below_alloc1 w1 (.cells #[.int .u8 0] 5)
  have hbs := below_alloc2 w1 (.cells #[.int .u8 0] 5) (.cells #[.int .u8 1] 5)
  have e0 := cell_later hba d0
  have e1 := cell_later hba d1
  have e2 := cell_later hbs d0
  generalize outR ks c = out at *
  have hs1 : (bstr [(0 : Int)]).size = 1 := rfl
  have hs2 : (bstr [(1 : Int)]).size = 1 := rfl
  have hs3 : (⟨(twoR ks.length).toArray⟩ : ByteArray).size = 2 := rfl
  generalize (⟨(twoR ks.length).toArray⟩ : ByteArray) = two at *
  cases c
  case' true =>
    have HF1 : Hid (bstr [(1 : Int)] ++ two = ⟨(out 0).toArray⟩) := (congrArg (· ++ two) (flag_str true)).trans (HF.out true rfl)
    clear HF
    generalize bstr [(1 : Int)] = one at *
    go_wp2_with fail
    refine (HT.out _).mono ?_
    rintro r w2 ⟨rfl, hb2⟩
    have hb3 := hbs.trans (hb2.mono hbs.size)
  case' false =>
    have HF1 : Hid (bstr [(0 : Int)] ++ two = ⟨(out 0).toArray⟩) := (congrArg (· ++ two) (flag_str false)).trans (HF.out false rfl)
    clear HF
    generalize bstr [(0 : Int)] = one at *
    go_wp2_with fail
    refine (HT.out _).mono ?_
    rintro r w2 ⟨rfl, hb2⟩
    have hb3 := hba.trans (hb2.mono hba.size)
  all_goals
    have HB2 := Lib.hid hb3
    have hz1 : ¬ 9223372036854775807 < one.size + two.size := by omega
    clear hb2 hb3 hba hbs e0 e1 e2 hx0 hx1 d1 HX HT
    go_wp2_with fail
    rw [HF1.out]
    clear HF1
    go_loopw [3, 4] (fun s i wr => ∃ (k : Nat), k ≤ ks.length ∧ i = .int .i64 k ∧ s = .string ⟨(out k).toArray⟩ ∧ Hid (Below w1.heap.size w1 wr)) (fun _ i _ => ks.length - (intOf i).toNat)
    case atStart => exact ⟨0, Nat.zero_le _, rfl, rfl, HB2.out⟩
    case round =>
      clear HB2 hz1
      obtain ⟨k, hk, rfl, rfl, HB⟩ := hrel
      have f0 := cell_later HB.out d0
      by_cases hlt : k < ks.length
      · have HA := HL.out.later (hbw.trans (HB.out.mono hbw.size))
        obtain ⟨b, o, rfl, e1⟩ := HA.str hlt
        have hkl := HK.out ks[k] (List.getElem_mem hlt)
        have hol2 := HOL.out (k + 1)
        have hMO := HMO.out k hlt
        have HT := Lib.hid fun W => refTwo_any ks[k].length W (by omega)
        have HQ : Hid (∀ W, Below wr.heap.size wr W → W.cell? ⟨w.heap.size, 0, none⟩ = some (.slice (some ⟨b, o, none⟩) ks.length cap) ∧ W.cell? ⟨b, o + k, none⟩ = some (.string ⟨ks[k].toArray⟩)) := fun W hW => ⟨cell_later hW f0, cell_later hW e1⟩
        have hki : (k : Int) < (ks.length : Int) := by omega
        have HS : Hid ((⟨(out k).toArray⟩ : ByteArray) ++ (⟨(twoR ks[k].length).toArray⟩ ++ ⟨ks[k].toArray⟩) = ⟨(out (k + 1)).toArray⟩) := by
          show _ = _
          rw [str_app, str_app, hMO, List.append_assoc]
        have hsx : (⟨ks[k].toArray⟩ : ByteArray).size = ks[k].length := rfl
        have hs3 : (⟨(twoR ks[k].length).toArray⟩ : ByteArray).size = 2 := rfl
        have hs4 : (⟨(out k).toArray⟩ : ByteArray).size = (out k).length := rfl
        have hs5 : (out k).length ≤ 1100000 := HOL.out k
        clear HA hMO hol2 hs1 hs2
        have hs6 : (⟨(twoR ks[k].length).toArray⟩ ++ ⟨ks[k].toArray⟩ : ByteArray).size ≤ 2000 := by rw [str_app, str_size, List.length_append]; simp only [twoR, List.length_cons, List.length_nil]; omega
        generalize hx : ks[k] = x at *
        generalize (⟨(twoR x.length).toArray⟩ : ByteArray) = two2 at *
        have hz1 : ¬ 9223372036854775807 < two2.size + x.length := by omega
        have hz2 : ¬ 9223372036854775807 < (out k).length + (two2 ++ ⟨x.toArray⟩).size := by omega
        have hz3 : ¬ 9223372036854775807 < (out k).length + (two2.size + x.length) := by omega
        clear hs3 hs6 hsx hs4 hs5
        have hb9 : Below wr.heap.size wr wr.drew := (Below.refl _ _).drew
        go_wp2_with fail
        clear f0 e1
        go_region_held3 (fun W => W.cell? ⟨w.heap.size, 0, none⟩ = some (.slice (some ⟨b, o, none⟩) ks.length cap) ∧ W.cell? ⟨b, o + k, none⟩ = some (.string ⟨x.toArray⟩)) (first | with_reducible exact HQ.out _ hb9 | with_reducible exact HQ.out _ hB10) ((go_simp; go_at_call 19; ((with_reducible refine (HT.out _).mono ?_); rintro r w10 ⟨rfl, hb10⟩; have hB10 := hb9.trans (hb10.mono hb9.size))))
        rw [HS.out]
        have HB11 := Lib.hid (HB.out.trans (hB10.mono HB.out.size))
        clear HQ hb9 hb10 hB10 HT HS
        go_wp2_with fail
        go_roundw
        case rel => exact ⟨k + 1, by omega, by go_num, rfl, HB11.out⟩
        case measure => simp [intOf]; omega
      · obtain rfl : k = ks.length := by omega
        have hb5 := hbw.trans (HB.out.mono hbw.size)
        go_wp2
        go_ret
        exact ⟨congrArg (fun x : List UInt8 => Ending.returned (.string ⟨x.toArray⟩)) HP.out, hb5⟩
end Go.Proofs.Ytopklnehhebhmaa

/- The contract of the document's Read of reports. -/
namespace Go.Proofs.Ytopklnehhebhmaa
open Go.RowKit

theorem own_read {w : World} {B : Nat} {v : Value} {ks : List Key} (h : OwnRow w B 9 1 strCell v ks) (hm : ks.length ≤ 1000000) : ∃ a cap, v = .slice a ks.length cap ∧ RowAt w a 1 strCell ks ∧ ∀ g o, a = some ⟨g, o, none⟩ → B ≤ g := by
  obtain ⟨a, cap, rfl, h1, _⟩ := h.form strCell_len hm
  exact ⟨a, cap, rfl, h1, fun g o e => own_low h e⟩
set_option maxRecDepth 100000 in
set_option maxHeartbeats 4000000 in
theorem refRead15_any (u : List UInt8) (w : World) (hm : u.length ≤ 1000) :
    Calls Try.prog 10 #[.string ⟨u.toArray⟩] w (ReadR15 u w) := by
  have HN : Hid (∀ w' (e : Nat), Below w.heap.size w w' → readR isK u = .error e → ReadR15 u w (.returned (.tuple #[.agg #[.slice none 0 0, .bool false], .int .i64 e])) w') := fun w' e h h2 => ⟨.inr ⟨e, h2, rfl⟩, h⟩
  have HY : Hid (∀ w' ks c a cap, Below w.heap.size w w' → readR isK u = .ok (ks, c) → RowAt w' a 1 strCell ks → ReadR15 u w (.returned (.tuple #[.agg #[.slice a ks.length cap, .bool c], .int .i64 0])) w') := fun w' ks c a cap h h2 h4 => ⟨.inl ⟨ks, c, a, cap, h2, rfl, h4⟩, h⟩
  have hsz : (⟨u.toArray⟩ : ByteArray).size = u.length := rfl
  by_cases hshort : u.length < 3
  case pos =>
    have hq : decide ((u.length : Int) < 3) = true := by simp; omega
    have HX : Hid (readR isK u = .error 4) := readR_few hshort
    go_enter Try.func10, Try.ntmps10
    go_wp2
    refine bodyPost_ret (v := .tuple #[.agg #[.slice none 0 0, .bool false], .int .i64 4]) (by simp [results, Try.results10, go_sem]) rfl ?_
    exact HN.out _ 4 (below_alloc1 _ _) HX.out
  have hq : decide ((u.length : Int) < 3) = false := by simp; omega
  have h3 : 3 ≤ u.length := by omega
  have HNONE : Hid (takeR (numR u 1) (u.drop 3) = none → readR isK u = .error 4) := fun h => readR_none h3 h
  have HDONE : Hid (∀ p ks, ReadR u 3 (numR u 1) (numR u 1) p ks → readR isK u = if 1 < (u.getD 0 0).toNat ∨ p ≠ u.length ∨ rightR isK ks = false then .error 3 else .ok (ks, u.getD 0 0 == 1)) := fun p ks h => readR_done h3 h
  have HFEW : Hid (∀ ks t, takeR (numR u 1) (u.drop 3) = some (ks, t) → ∀ x ∈ ks, x.length ≤ 1000) := fun ks t e => (fewR_short hm ks t e).2
  have HIX : Hid (∀ p, p < u.length → ∀ h : p < (⟨u.toArray⟩ : ByteArray).size, (⟨u.toArray⟩ : ByteArray)[p] = u.getD p 0) := fun p hp h => by
    rw [List.getD_eq_getElem?_getD, List.getElem?_eq_getElem hp]; rfl
  have HNU : Hid (∀ p, ((u.getD p 0).toNat : Int) * 256 + ((u.getD (p + 1) 0).toNat : Int) = (numR u p : Nat)) := fun p => by unfold numR; omega
  have hi0 := HIX.out 0 (by omega)
  have hi1 := HIX.out 1 (by omega)
  have hi2 := HIX.out 2 (by omega)
  have hn1 := HNU.out 1
  have hnlt := numR_lt u 1
  have HST := Lib.hid (rpM_start 28 w (u.getD 0 0 == 1))
  have HR0 := Lib.hid (readR_start (numR u 1) h3)
  have hflag : ((((u.getD 0 0).toNat : Nat) : Int) == 1) = (u.getD 0 0 == 1) := by
    rw [Bool.eq_iff_iff, beq_iff_eq, beq_iff_eq, ← UInt8.toNat_inj]
    show ((((u.getD 0 0).toNat : Nat) : Int) = 1) ↔ (u.getD 0 0).toNat = 1
    omega
  clear hshort
  have hfb := (u.getD 0 0).toNat_lt
  have hab := (u.getD 1 0).toNat_lt
  have hbb := (u.getD 2 0).toNat_lt
  rw [show 1 + 1 = 2 from rfl] at hn1
  generalize u.getD 0 0 = f at *
  generalize u.getD 1 0 = ga at *
  generalize u.getD 2 0 = gb at *
  generalize (f == 1) = c at *
  generalize numR u 1 = n at *
  have HN1 := Lib.hid hn1
  have va : IntKind.i64.wrap (ga.toNat : Int) = ga.toNat := IntWalk.i64_in _ (by omega)
  have vb : IntKind.i64.wrap (gb.toNat : Int) = gb.toNat := IntWalk.i64_in _ (by omega)
  clear hn1
  go_enter Try.func10, Try.ntmps10
  go_wp2_with fail
  go_quiet (fail)
  rename_i nq
  have HST1 := Lib.hid (HST.out.later ((Below.refl _ _).drewN (n := nq)))
  clear HST
  generalize World.drewN _ nq = W1 at *
  go_wp2_with fail
  rw [HN1.out]
  go_loopw [6, 7] (fun x i wr => ∃ (k p : Nat) (ks : List Key) (v : Value), k ≤ n ∧ i = .int .i64 k ∧ x = .int .i64 p ∧ p ≤ u.length ∧ Hid (ReadR u 3 n k p ks) ∧ Hid (RpM 28 w v ks c wr)) (fun _ i _ => n - (intOf i).toNat)
  case atStart => exact ⟨0, 3, [], _, Nat.zero_le _, rfl, rfl, h3, HR0.out, HST1.out⟩
  case round =>
    clear HST1 HR0 HN1 hi1 hi2 va vb hab hbb
    obtain ⟨k, p, ks, v, hk, rfl, rfl, hp, HR, HM⟩ := hrel
    obtain ⟨⟨r0, r1, r2, r3⟩, f0, f1⟩ := HM.out.cells
    have vp : IntKind.i64.wrap ((p : Int) + 2) = (p : Int) + 2 := IntWalk.i64_in _ (by omega)
    by_cases hlt : k < n
    · by_cases h2 : u.length < p + 2
      · have hq : decide ((u.length : Int) < (p : Int) + 2) = true := by simp; omega
        have HX := Lib.hid (HNONE.out (HR.out.short hlt h2))
        obtain ⟨_, y1, y2, yb, _⟩ := HM.out.stored (.slice none 0 0) false
        go_wp2_with fail
        refine bodyPost_ret (v := .tuple #[.agg #[.slice none 0 0, .bool false], .int .i64 4]) (by simp [results, Try.results10, go_sem, y1, y2]) rfl ?_
        exact HN.out _ 4 yb HX.out
      · have hq : decide ((u.length : Int) < (p : Int) + 2) = false := by simp; omega
        have hml := numR_lt u p
        have HCUT : Hid (u.length < p + 2 + numR u p → readR isK u = .error 4) := fun h => HNONE.out (HR.out.cut hlt (by omega) h)
        have HNX : Hid (p + 2 + numR u p ≤ u.length → ReadR u 3 n (k + 1) (p + 2 + numR u p) (ks ++ [(u.drop (p + 2)).take (numR u p)])) := fun h => HR.out.next hlt h
        have hx := HIX.out p (by omega)
        have hy := HIX.out (p + 1) (by omega)
        have HNM := Lib.hid (HNU.out p)
        have hxb := (u.getD p 0).toNat_lt
        have hyb := (u.getD (p + 1) 0).toNat_lt
        generalize u.getD p 0 = x at *
        generalize u.getD (p + 1) 0 = y at *
        generalize numR u p = m at *
        have vx : IntKind.i64.wrap (x.toNat : Int) = x.toNat := IntWalk.i64_in _ (by omega)
        have vy : IntKind.i64.wrap (y.toNat : Int) = y.toNat := IntWalk.i64_in _ (by omega)
        have hpl : (p : Int) < (u.length : Int) := by omega
        have hpl1 : (p : Int) + 1 < (u.length : Int) := by omega
        have vp1 : IntKind.i64.wrap ((p : Int) + 1) = (p : Int) + 1 := IntWalk.i64_in _ (by omega)
        have hpu : p < u.length := by omega
        have hpu1 : p + 1 < u.length := by omega
        go_wp2_with fail
        go_quiet (fail)
        rename_i nq
        have HM2 := Lib.hid (HM.out.later ((Below.refl _ _).drewN (n := nq)))
        clear HM r0 r1 r2 r3 f0 f1
        generalize World.drewN _ nq = W2 at *
        obtain ⟨⟨r0, r1, r2, r3⟩, f0, f1⟩ := HM2.out.cells
        have vs : IntKind.i64.wrap ((p : Int) + 2 + (m : Int)) = (p : Int) + 2 + (m : Int) := IntWalk.i64_in _ (by omega)
        rw [HNM.out]
        clear hx hy hxb hyb vx vy hpl hpl1 vp1 hpu hpu1 HNM
        by_cases hcut : u.length < p + 2 + m
        · have hq2 : decide ((u.length : Int) < (p : Int) + 2 + (m : Int)) = true := by simp; omega
          have HX := Lib.hid (HCUT.out hcut)
          obtain ⟨_, y1, y2, yb, _⟩ := HM2.out.stored (.slice none 0 0) false
          go_wp2_with fail
          refine bodyPost_ret (v := .tuple #[.agg #[.slice none 0 0, .bool false], .int .i64 4]) (by simp [results, Try.results10, go_sem, y1, y2]) rfl ?_
          exact HN.out _ 4 yb HX.out
        · have hq2 : decide ((u.length : Int) < (p : Int) + 2 + (m : Int)) = false := by simp; omega
          have HX := Lib.hid (HNX.out (by omega))
          have hsl := slice_two (u := u) (i := p + 2) (j := m) (y := (p : Int) + 2) (z := (p : Int) + 2 + (m : Int)) (by omega) (by omega) (by omega)
          have hkl : ks.length ≤ 70000 := by have := HR.out.count; omega
          have hpu : p + 2 + m ≤ u.length := by omega
          clear HCUT HNX h2 hcut
          generalize (u.drop (p + 2)).take m = x at *
          obtain ⟨_, c2, hr2', hz2, h3'⟩ := HM2.out.grow (Below.refl _ _) x
          have c2' : (W2.alloc (.cells #[.string ⟨x.toArray⟩] 9)).drew.cell? ⟨w.heap.size + 1, 0, none⟩ = some v := c2
          have h4 : W2.drew.cell? ⟨w.heap.size + 1, 0, none⟩ = some v := r2
          have hr2 : OwnRow (W2.alloc (.cells #[.string ⟨x.toArray⟩] 9)).drew (w.heap.size + 2) 9 1 strCell v ks := hr2'
          go_wp2_with fail
          go_region_law ((refine step_appendAt (f := strCell) (n := 1) 22 9 16 (.string ByteArray.empty) Try.underlying22 infoStr (by rfl) (by omega) (by omega) strCell_len (by rfl) (.tmp 57) (.tmp 64) (by rfl) (w.heap.size + 2) v ks (by rfl) hr2 ⟨W2.heap.size, 0, none⟩ (by rfl) x (strCell_one _) (cells_new W2 (strCell x) _ _ rfl) (by omega) hz2 ?_; intro v3 W3 hown3 hbel3 _ _; obtain ⟨g3, cap3, hv3, _, _⟩ := OwnRow.block hown3 (by simp); rw [List.length_append, List.length_singleton] at hv3; subst hv3; obtain ⟨c3, f3, hn3⟩ := h3' _ W3 hown3 ⟨hbel3.os, hbel3.tape, hbel3.output, hbel3.size, hbel3.block⟩; have HN3 := Lib.hid hn3; clear hn3 hown3 hbel3))
          all_goals (
            go_wp2
            go_roundw
            case rel => exact ⟨k + 1, p + 2 + m, ks ++ [x], _, by omega, by go_num, rfl, hpu, HX.out, HN3.out⟩
            case measure => simp [intOf]; omega)
    · obtain rfl : k = n := by omega
      have HX := Lib.hid (HDONE.out p ks HR.out)
      have hkl : ks.length ≤ 70000 := by have := HR.out.count; omega
      have HKB := Lib.hid (HFEW.out ks (u.drop p) HR.out.done)
      obtain ⟨a, cap, rfl, hrow, hlow⟩ := own_read HM.out.row (by omega)
      have hrd := refRight15_any a cap ks c wr hrow (by omega) HKB.out
      have HRD : Hid (∀ W, Below wr.heap.size wr W → Calls Try.prog 13 #[.agg #[.slice a ks.length cap, .bool c]] W fun r w' => r = .returned (.bool (rightR isK ks)) ∧ Below W.heap.size W w') := fun W hW => refRight15_any a cap ks c W (hrow.later hW) (by omega) HKB.out
      clear hrow hlow hrd HKB HFEW HR
      by_cases hf1 : 1 < f.toNat
      · have hq : decide ((1 : Int) < (f.toNat : Int)) = true := by simp; omega
        have HE : Hid (readR isK u = .error 3) := HX.out.trans (if_pos (.inl hf1))
        obtain ⟨_, y1, y2, yb, _⟩ := HM.out.stored (.slice none 0 0) false
        go_wp2_with fail
        refine bodyPost_ret (v := .tuple #[.agg #[.slice none 0 0, .bool false], .int .i64 3]) (by simp [results, Try.results10, go_sem, y1, y2]) rfl ?_
        exact HN.out _ 3 yb HE.out
      · have hq : decide ((1 : Int) < (f.toNat : Int)) = false := by simp; omega
        by_cases hpe : p = u.length
        · have hq2 : ((p : Int) != (u.length : Int)) = false := by simp [hpe]
          cases hr : rightR isK ks
          · have HE : Hid (readR isK u = .error 3) := HX.out.trans (if_pos (.inr (.inr hr)))
            rw [hr] at HRD
            clear hr HX
            go_wp2_with fail
            refine (HRD.out _ (Below.refl _ _)).mono ?_
            rintro r w2 ⟨rfl, hb2⟩
            have HM2 := Lib.hid (HM.out.later hb2)
            obtain ⟨⟨r0, r1, r2, r3⟩, f0, f1⟩ := HM2.out.cells
            obtain ⟨_, y1, y2, yb, _⟩ := HM2.out.stored (.slice none 0 0) false
            go_wp2_with fail
            refine bodyPost_ret (v := .tuple #[.agg #[.slice none 0 0, .bool false], .int .i64 3]) (by simp [results, Try.results10, go_sem, y1, y2]) rfl ?_
            exact HN.out _ 3 yb HE.out
          · have HE : Hid (readR isK u = .ok (ks, c)) := HX.out.trans (if_neg (by
              rintro (e | e | e)
              · exact hf1 e
              · exact e hpe
              · rw [hr] at e; cases e))
            rw [hr] at HRD
            clear hr HX
            go_wp2_with fail
            refine (HRD.out _ (Below.refl _ _)).mono ?_
            rintro r w2 ⟨rfl, hb2⟩
            have HM2 := Lib.hid (HM.out.later hb2)
            obtain ⟨⟨r0, r1, r2, r3⟩, f0, f1⟩ := HM2.out.cells
            obtain ⟨_, y1, y2, yb, yr⟩ := HM2.out.stored (.slice a ks.length cap) c
            have HYR := Lib.hid yr
            clear yr
            go_wp2_with fail
            refine bodyPost_ret (v := .tuple #[.agg #[.slice a ks.length cap, .bool c], .int .i64 0]) (by simp [results, Try.results10, go_sem, y1, y2]) rfl ?_
            obtain ⟨_, _, e, hrow, _⟩ := own_read HYR.out (by omega)
            cases e
            exact HY.out _ ks c a cap yb HE.out hrow
        · have hq2 : ((p : Int) != (u.length : Int)) = true := by simp; omega
          have HE : Hid (readR isK u = .error 3) := HX.out.trans (if_pos (.inr (.inl hpe)))
          obtain ⟨_, y1, y2, yb, _⟩ := HM.out.stored (.slice none 0 0) false
          go_wp2_with fail
          refine bodyPost_ret (v := .tuple #[.agg #[.slice none 0 0, .bool false], .int .i64 3]) (by simp [results, Try.results10, go_sem, y1, y2]) rfl ?_
          exact HN.out _ 3 yb HE.out
end Go.Proofs.Ytopklnehhebhmaa

/- Arguments that are rows, opened: whatever their elements are. Texts, bools, bytes as cells. -/
namespace Go.Proofs.Ytopklnehhebhmaa
open Go.RowKit Go.Deep Go.Joins Go.WideShapes Go.ChangeShapes Go.ChangeAt

def txtCell (k : List UInt8) : List Value := [.string ⟨k.toArray⟩]
theorem txtCell_len (k : List UInt8) : (txtCell k).length = 1 := rfl
theorem txtCell_one (k : List UInt8) : ∀ v ∈ txtCell k, v.oneCell' = true := by
  intro v hv
  simp [txtCell] at hv
  subst hv
  rfl
def boolCell (x : Bool) : List Value := [.bool x]
theorem boolCell_len (x : Bool) : (boolCell x).length = 1 := rfl
def byCell (n : Nat) : List Value := [.int .u8 (n : Nat)]
theorem byCell_len (n : Nat) : (byCell n).length = 1 := rfl
theorem wf_byte {n : Int} (h : (Lit.int .u8 n).wf = true) : 0 ≤ n ∧ n < 256 := by
  simp [Lit.wf, IntKind.min, IntKind.max, IntKind.signed, IntKind.bits] at h
  omega
section
variable {H : Type} {enc : TypeId × Value → H} {W : World} {base : Nat} {spare : Nat → Bool} {held : Bool}
set_option maxRecDepth 100000 in
theorem rows_of_trod {T : Type} {f : T → List Value} (P : T → DataW H → Prop) {n : Nat} (hn : 0 < n) (hf0 : ∀ x, (f x).length = n) {st et : TypeId} (hu : Try.prog.underlying st = some (.slice et)) (e4 : Try.prog.cellsOf et = n)
    (ho : ∀ fuel cs (x : DataW H × List MemPlace), DataW.trod enc Try.prog W base spare held fuel et cs = some x → ∃ y : T, cs = f y ∧ P y x.1)
    {r : Reach} {b0 : Nat} {v : Value} {d : DataW H} {p : List MemPlace} (hv : Value.okWide Try.prog W r b0 st v) (h : DataW.Trod enc Try.prog W base spare held st v d p) :
    ∃ (a : Option Addr) (l : List T) (cap : Nat), v = .slice a l.length cap ∧ RowAt W a n f l ∧ (a = none → cap = 0) ∧ (∀ y ∈ l, ∃ el sp dy, d = .slice el sp ∧ dy ∈ el ∧ P y dy) := by
  obtain ⟨a, len, cap, rfl⟩ := okWide_slice hu hv
  obtain ⟨fuel, hf⟩ := h
  rcases open_slice hu hf with ⟨e, _⟩ | ⟨a', len', cap', m, k, D, Pl, e, _, hl, hm, hmm, hxd, hi⟩
  · simp [Value.cells] at e
    obtain ⟨rfl, rfl, rfl⟩ := e
    exact ⟨none, [], 0, rfl, rowAt_nil _ _ _ _, fun _ => rfl, by simp⟩
  · simp [Value.cells] at e
    obtain ⟨rfl, rfl, rfl⟩ := e
    have hlm : len ≤ m := by rw [hmm]; split <;> omega
    obtain ⟨l, hll, hx⟩ := exists_list len (fun i (y : T) => P y (D i) ∧ ∀ j v, (f y)[j]? = some v → W.cell? (a'.add (i * n + j)) = some v) (fun i hi' => by
      obtain ⟨cs', hc, ht⟩ := hi i (by omega)
      rw [e4] at hc
      obtain ⟨y, rfl, hy⟩ := ho _ _ _ ht
      obtain ⟨_, _, hat⟩ := World.cells?_some hc
      refine ⟨y, hy, fun j v hv => ?_⟩
      have hj : j < n := by have := (List.getElem?_eq_some_iff.1 hv).1; rw [hf0] at this; exact this
      rw [← add_add, hat j hj]; exact hv)
    refine ⟨some a', l, cap, by rw [hll], ⟨by omega, fun hne => ?_⟩, by simp, fun y hy => ?_⟩
    · have hpos : 0 < l.length := List.length_pos_iff.2 hne
      have hfl : 0 < (f l[0]).length := by rw [hf0]; exact hn
      have h0 := (hx 0 l[0] (List.getElem?_eq_getElem hpos)).2 0 _ (List.getElem?_eq_getElem hfl)
      have hsp := World.cell?_spot h0
      have hsp' : a'.spot = none := by simpa [Addr.add] using hsp
      obtain ⟨b, o, s⟩ := a'
      subst hsp'
      refine ⟨b, o, rfl, fun i hi' j u hu => ?_⟩
      have hxi := (hx i l[i] (List.getElem?_eq_getElem hi')).2 j u hu
      simp only [add_row, ← Nat.add_assoc] at hxi
      exact hxi
    · obtain ⟨i, hi', rfl⟩ := List.getElem_of_mem hy
      have hp := (hx i l[i] (List.getElem?_eq_getElem hi')).1
      injection hxd with hxd _
      refine ⟨_, _, D i, hxd, List.mem_map.2 ⟨i, List.mem_range.2 (by omega), rfl⟩, hp⟩
set_option maxRecDepth 100000 in
theorem rows_of_trod0 {T : Type} {f : T → List Value} {n : Nat} (hn : 0 < n) (hf0 : ∀ x, (f x).length = n) {st et : TypeId} (hu : Try.prog.underlying st = some (.slice et)) (e4 : Try.prog.cellsOf et = n)
    (ho : ∀ fuel cs (x : DataW H × List MemPlace), DataW.trod enc Try.prog W base spare held fuel et cs = some x → ∃ y : T, cs = f y)
    {r : Reach} {b0 : Nat} {v : Value} {d : DataW H} {p : List MemPlace} (hv : Value.okWide Try.prog W r b0 st v) (h : DataW.Trod enc Try.prog W base spare held st v d p) :
    ∃ (a : Option Addr) (l : List T) (cap : Nat), v = .slice a l.length cap ∧ RowAt W a n f l ∧ (a = none → cap = 0) := by
  obtain ⟨a, l, cap, h1, h2, h3, _⟩ := rows_of_trod (fun _ _ => True) hn hf0 hu e4 (fun fuel cs x h => (ho fuel cs x h).imp fun _ h => ⟨h, trivial⟩) hv h
  exact ⟨a, l, cap, h1, h2, h3⟩
theorem weightsAll_memQ {P : Program} {e : TypeId} : ∀ {l : List (DataW H)} {d : DataW H}, d ∈ l → ∀ n ∈ d.weights P e, n ∈ DataW.weightsAll P e l
  | d' :: r, d, hd, n, hn => by
    simp only [DataW.weightsAll, List.mem_append]
    rcases List.mem_cons.1 hd with rfl | h
    · exact Or.inl hn
    · exact Or.inr (weightsAll_memQ h n hn)
set_option maxRecDepth 100000 in
/-- A text of a row has no more bytes than the reach. -/
theorem sized_txt {P : Program} {ts : List TypeId} {ds : List (DataW H)} (h : (DataW.weightsEach P ts ds).all (· ≤ reachBytes) = true) {j : Nat} {t e : TypeId} {el sp : List (DataW H)} (ht : ts[j]? = some t) (hd : ds[j]? = some (.slice el sp)) (hu : P.underlying t = some (.slice e)) {y : List UInt8} (hy : (DataW.lit (.string y) : DataW H) ∈ el) : y.length ≤ 281474976710656 := by
  have := List.all_eq_true.1 h _ (DataW.weights_mem_each ht hd y.length (by
    simp only [DataW.weights, hu]
    exact List.mem_cons_of_mem _ (List.mem_append_left _ (weightsAll_memQ hy _ (by simp [DataW.weights])))))
  have h2 : y.length ≤ reachBytes := by simpa using this
  simp only [reachBytes] at h2
  omega
end

end Go.Proofs.Ytopklnehhebhmaa

/- Arguments that are calls of a queue, texts, or bools, in rows, opened. -/
namespace Go.Proofs.Ytopklnehhebhmaa
open Go.RowKit Go.Deep Go.Joins Go.WideShapes Go.ChangeShapes Go.ChangeAt

/-- A call: its kind, a text. -/
structure QOp where
  kind : Int
  s : List UInt8
def qopCell (o : QOp) : List Value := [.int .i64 o.kind, .string ⟨o.s.toArray⟩]
theorem qopCell_len (o : QOp) : (qopCell o).length = 2 := rfl
section
variable {H : Type} {enc : TypeId × Value → H} {W : World} {base : Nat} {spare : Nat → Bool} {held : Bool}

variable {r : Reach} {b0 : Nat} {v : Value} {d : DataW H} {p : List MemPlace}
set_option maxRecDepth 100000 in
theorem txts_of_trod (hv : Value.okWide Try.prog W r b0 22 v) (h : DataW.Trod enc Try.prog W base spare held 22 v d p) :
    ∃ (a : Option Addr) (l : List (List UInt8)) (cap : Nat), v = .slice a l.length cap ∧ RowAt W a 1 txtCell l ∧ (a = none → cap = 0) ∧ (∀ y ∈ l, ∃ el sp dy, d = .slice el sp ∧ dy ∈ el ∧ dy = .lit (.string y)) :=
  rows_of_trod (fun y dy => dy = .lit (.string y)) (by omega) txtCell_len Try.underlying22 (by kernel_rfl) (fun fuel cs x h => by
    obtain ⟨n1, r1, rfl, _⟩ := DataW.trod_string Try.underlying9 h
    exact ⟨n1.data.toList, by simp [txtCell, r1], rfl⟩) hv h
set_option maxRecDepth 100000 in
theorem bys_of_trod (hv : Value.okWide Try.prog W r b0 39 v) (h : DataW.Trod enc Try.prog W base spare held 39 v d p) :
    ∃ (a : Option Addr) (l : List Nat) (cap : Nat), v = .slice a l.length cap ∧ RowAt W a 1 byCell l ∧ (a = none → cap = 0) ∧ (∀ y ∈ l, y < 256) := by
  obtain ⟨a, l, cap, h1, h2, h3, h4⟩ := rows_of_trod (fun (y : Nat) _ => y < 256) (by omega) byCell_len Try.underlying39 (by kernel_rfl) (fun fuel cs x h => by
    obtain ⟨n1, r1, _, w1⟩ := DataW.trod_int Try.underlying5 h
    obtain ⟨q1, q2⟩ := wf_byte w1
    exact ⟨n1.toNat, by simp [byCell, r1, Int.toNat_of_nonneg q1], by omega⟩) hv h
  exact ⟨a, l, cap, h1, h2, h3, fun y hy => by obtain ⟨_, _, _, _, _, h⟩ := h4 y hy; exact h⟩
end
end Go.Proofs.Ytopklnehhebhmaa

/- Arguments that are texts, or true or false, opened. -/
namespace Go.Proofs.Ytopklnehhebhmaa
open Go.RowKit Go.Deep Go.Joins Go.WideShapes Go.ChangeShapes Go.ChangeAt

section
variable {H : Type} {enc : TypeId × Value → H} {W : World} {base : Nat} {spare : Nat → Bool} {held : Bool}
set_option maxRecDepth 100000 in
theorem str_of_trod {r : Reach} {b0 : Nat} {v : Value} {d : DataW H} {p : List MemPlace} (hv : Value.okWide Try.prog W r b0 9 v) (h : DataW.Trod enc Try.prog W base spare held 9 v d p) :
    ∃ l : List UInt8, v = .string ⟨l.toArray⟩ ∧ l.length ≤ maxLen := by
  obtain ⟨s, rfl, _, _, w⟩ := Go.ChangeMaps.open_string Try.underlying9 hv h
  exact ⟨s.data.toList, rfl, by simpa using w⟩
set_option maxRecDepth 100000 in
theorem bool_of_trod {r : Reach} {b0 : Nat} {v : Value} {d : DataW H} {p : List MemPlace} (hv : Value.okWide Try.prog W r b0 4 v) (_h : DataW.Trod enc Try.prog W base spare held 4 v d p) :
    ∃ c : Bool, v = .bool c := okWide_bool Try.underlying4 hv
end
end Go.Proofs.Ytopklnehhebhmaa
