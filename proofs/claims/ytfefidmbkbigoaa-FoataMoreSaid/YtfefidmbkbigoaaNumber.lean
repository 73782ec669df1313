/- The contracts of clock's Number and of the document's, and of the document's place. -/
import Derived.Test.YtfefidmbkbigoaaClkRight
import Derived.Test.YtfefidmbkbigoaaSameDoc
namespace Go.Proofs.Ytfefidmbkbigoaa
open Go.RowKit

theorem EvsAt.take {w : World} {a : Option Addr} {l : List Ev} (h : EvsAt w a l) (k : Nat) : EvsAt w a (l.take k) := by
  refine ⟨Nat.le_trans (List.length_take_le' _ _) h.1, fun hn => ?_⟩
  obtain ⟨b, o, rfl, hc⟩ := h.2 (by intro e; simp [e] at hn)
  refine ⟨b, o, rfl, fun i hi => ?_⟩
  have hi' : i < l.length := by simp at hi; omega
  have h1 := hc i hi'
  simpa using h1
theorem EvsAt.one {w : World} {a : Option Addr} {l : List Ev} (h : EvsAt w a l) {k : Nat} (hk : k < l.length) : ∃ b o, a = some ⟨b, o, none⟩ ∧ w.cell? ⟨b, o + k * 4, none⟩ = some (.int .i64 (evI l k).thread) ∧ w.cell? ⟨b, o + k * 4 + 1, none⟩ = some (.int .i64 (evI l k).kind) ∧
    w.cell? ⟨b, o + k * 4 + 2, none⟩ = some (.int .i64 (evI l k).obj) ∧ w.cell? ⟨b, o + k * 4 + 3, none⟩ = some (.bool (evI l k).fail) := by
  obtain ⟨b, o, rfl, hc⟩ := h.2 (by intro e; simp [e] at hk)
  refine ⟨b, o, rfl, ?_⟩
  rw [evI_get hk]
  exact hc k hk

/-- Is there such a place, in a row that may be? -/
def okI (l : List Ev) (i : Int) : Bool := rightL l && decide (0 ≤ i ∧ i < l.length)
/-- Which one of its thread's. -/
def numO (l : List Ev) (i : Int) : Nat := if okI l i then num l i.toNat else 0
theorem numO_wrong {l : List Ev} {i : Int} (h : rightL l = false) : numO l i = 0 := by simp [numO, okI, h]
theorem numO_out {l : List Ev} {i : Int} (h : ¬ (0 ≤ i ∧ i < l.length)) : numO l i = 0 := by simp [numO, okI, h]
theorem numO_at {l : List Ev} {i : Nat} (h : rightL l = true) (hi : i < l.length) : numO l i = cnt (isT l (evI l i).thread) (i + 1) := by
  unfold numO okI
  rw [h, if_pos (by simp; omega), Int.toNat_natCast]
  rfl
theorem cnt_isT (l : List Ev) (t : Int) (k : Nat) : cnt (isT l t) (k + 1) = cnt (isT l t) k + if (evI l k).thread = t then 1 else 0 := by
  rw [cnt_succ]
  simp only [isT_iff]
theorem cnt_le_k (q : Nat → Bool) (n : Nat) : cnt q n ≤ n := by
  induction n with
  | zero => exact Nat.le_refl _
  | succ n ih => rw [cnt_succ]; split <;> omega

set_option maxRecDepth 100000 in
set_option maxHeartbeats 4000000 in
theorem number_any (a : Option Addr) (cap : Nat) (l : List Ev) (i : Int) (w : World) (hl : EvsAt w a l) (hm : l.length ≤ 1000) (hcap : l.length ≤ cap) :
    Calls Try.prog 16 #[.slice a l.length cap, .int .i64 i] w fun r w' => r = .returned (.int .i64 (numO l i)) ∧ Below w.heap.size w w' := by
  have HL := Lib.hid hl
  have HC := Lib.hid (cRight_any a cap l w hl)
  cases hr : rightL l
  · have HE := Lib.hid (numO_wrong (i := i) hr)
    rw [hr] at HC
    clear hl hr
    go_enter Try.func16, Try.ntmps16
    go_wp2_with fail
    refine HC.out.mono ?_
    rintro r w1 ⟨rfl, hb⟩
    clear HC
    go_wp2
    go_ret
    exact ⟨by rw [HE.out]; rfl, hb⟩
  by_cases hi : 0 ≤ i ∧ i < l.length
  case neg =>
    have HE := Lib.hid (numO_out (l := l) hi)
    have hq : belowB i l.length = false := by simpa [belowB] using hi
    rw [hr] at HC
    clear hl hr hi
    go_enter Try.func16, Try.ntmps16
    go_wp2_with fail
    refine HC.out.mono ?_
    rintro r w1 ⟨rfl, hb⟩
    clear HC
    go_wp2_with fail
    refine (cBelow_any i l.length w1).mono ?_
    rintro r w2 ⟨rfl, rfl⟩
    rw [hq]
    go_wp2
    go_ret
    exact ⟨by rw [HE.out]; rfl, hb⟩
  obtain ⟨i, rfl⟩ : ∃ n : Nat, i = n := ⟨i.toNat, by omega⟩
  have hil : i < l.length := by omega
  have HE := Lib.hid (numO_at hr hil)
  have hq : belowB i l.length = true := by simp [belowB]; omega
  rw [hr] at HC
  obtain ⟨b, o, rfl, t0, _⟩ := hl.one hil
  clear hl hr hi
  go_enter Try.func16, Try.ntmps16
  go_wp2_with fail
  refine HC.out.mono ?_
  rintro r w1 ⟨rfl, hb⟩
  clear HC
  go_wp2_with fail
  refine (cBelow_any i l.length w1).mono ?_
  rintro r w2 ⟨rfl, rfl⟩
  rw [hq]
  clear hq
  go_wp2_with fail
  go_loopw [5, 23] (fun c j wr => ∃ k : Nat, k ≤ i + 1 ∧ j = .int .i64 k ∧ c = .int .i64 (cnt (isT l (evI l i).thread) k) ∧ Below w.heap.size w wr) (fun _ j _ => i + 1 - (intOf j).toNat)
  case atStart => exact ⟨0, Nat.zero_le _, rfl, rfl, hb⟩
  case round =>
    obtain ⟨k, hk, rfl, rfl, hb1⟩ := hrel
    by_cases hlt : k < i + 1
    · obtain ⟨b', o', e, c0, c1, c2, c3⟩ := HL.out.one (k := k) (by omega)
      cases e
      have t1 := cell_later hb1 t0
      have d0 := cell_later hb1 c0
      have d1 := cell_later hb1 c1
      have d2 := cell_later hb1 c2
      have d3 := cell_later hb1 c3
      have HN := Lib.hid (cnt_isT l (evI l i).thread k)
      have t2 := cell_later (below_alloc1 wr (.cells #[.int .i64 (evI l k).thread, .int .i64 (evI l k).kind, .int .i64 (evI l k).obj, .bool (evI l k).fail] 28)) t1
      have hcb := cnt_le_k (isT l (evI l i).thread) k
      have hb2 := hb1.alloc hb1.size (.cells #[.int .i64 (evI l k).thread, .int .i64 (evI l k).kind, .int .i64 (evI l k).obj, .bool (evI l k).fail] 28)
      clear c0 c1 c2 c3
      generalize cnt (isT l (evI l i).thread) k = C at *
      generalize evI l k = x at *
      by_cases he : x.thread = (evI l i).thread
      · have hq2 : (x.thread == (evI l i).thread) = true := by simp [he]
        have HN2 : Hid (cnt (isT l (evI l i).thread) (k + 1) = C + 1) := by have h := HN.out; rw [if_pos he] at h; exact h
        clear he HN
        go_wp2
        go_quiet (fail)
        go_wp2
        go_roundw
        case rel => exact ⟨k + 1, by omega, by go_num, by rw [HN2.out]; go_num, hb2.drewN⟩
        case measure => simp [intOf]; omega
      · have hq2 : (x.thread == (evI l i).thread) = false := by simp [he]
        have HN2 : Hid (cnt (isT l (evI l i).thread) (k + 1) = C) := by have h := HN.out; rw [if_neg he] at h; exact h
        clear he HN
        go_wp2
        go_quiet (fail)
        go_wp2
        go_roundw
        case rel => exact ⟨k + 1, by omega, by go_num, by rw [HN2.out], hb2.drewN⟩
        case measure => simp [intOf]; omega
    · obtain rfl : k = i + 1 := by omega
      go_wp2
      go_ret
      exact ⟨by rw [HE.out]; rfl, hb1⟩

set_option maxRecDepth 100000 in
set_option maxHeartbeats 4000000 in
theorem refNumber_any (a : Option Addr) (cap : Nat) (l : List Ev) (i : Int) (w : World) (hl : EvsAt w a l) (hm : l.length ≤ 1000) :
    Calls Try.prog 39 #[.slice a l.length cap, .int .i64 i] w fun r w' => r = .returned (.int .i64 (numO l i)) ∧ Below w.heap.size w w' := by
  have HL := Lib.hid hl
  have HC := Lib.hid (rows_any a cap l w hl)
  by_cases hi : 0 ≤ i
  case neg =>
    have HE := Lib.hid (numO_out (l := l) (i := i) (by omega))
    have hq : decide (i < 0) = true := by simp; omega
    clear hl hi HC
    go_enter Try.func39, Try.ntmps39
    go_wp2
    go_ret
    exact ⟨by rw [HE.out]; rfl, Below.refl _ _⟩
  obtain ⟨i, rfl⟩ : ∃ n : Nat, i = n := ⟨i.toNat, by omega⟩
  have hq : decide ((i : Int) < 0) = false := by simp
  by_cases hil : i < l.length
  case neg =>
    have HE := Lib.hid (numO_out (l := l) (i := i) (by omega))
    have hil2 : l.length ≤ i := by omega
    clear hl hi HC hil
    go_enter Try.func39, Try.ntmps39
    go_wp2
    go_ret
    exact ⟨by rw [HE.out]; rfl, Below.refl _ _⟩
  cases hr : rightL l
  · have HE := Lib.hid (numO_wrong (i := i) hr)
    rw [hr] at HC
    clear hl hr
    go_enter Try.func39, Try.ntmps39
    go_wp2_with fail
    refine HC.out.mono ?_
    rintro r w1 ⟨rfl, hb⟩
    clear HC
    go_wp2
    go_ret
    exact ⟨by rw [HE.out]; rfl, hb⟩
  have HE := Lib.hid (numO_at hr hil)
  rw [hr] at HC
  obtain ⟨b, o, rfl, t0, _⟩ := hl.one hil
  clear hl hr hi
  go_enter Try.func39, Try.ntmps39
  go_wp2_with fail
  refine HC.out.mono ?_
  rintro r w1 ⟨rfl, hb⟩
  clear HC
  go_wp2_with fail
  go_loopw [5, 6] (fun c j wr => ∃ k : Nat, k ≤ i + 1 ∧ j = .int .i64 k ∧ c = .int .i64 (cnt (isT l (evI l i).thread) k) ∧ Below w.heap.size w wr) (fun _ j _ => i + 1 - (intOf j).toNat)
  case atStart => exact ⟨0, Nat.zero_le _, rfl, rfl, hb⟩
  case round =>
    obtain ⟨k, hk, rfl, rfl, hb1⟩ := hrel
    by_cases hlt : k < i + 1
    · obtain ⟨b', o', e, c0, c1, c2, c3⟩ := HL.out.one (k := k) (by omega)
      cases e
      have t1 := cell_later hb1 t0
      have d0 := cell_later hb1 c0
      have hki : k ≤ i := by omega
      have HN := Lib.hid (cnt_isT l (evI l i).thread k)
      have hcb := cnt_le_k (isT l (evI l i).thread) k
      clear c0 c1 c2 c3
      generalize cnt (isT l (evI l i).thread) k = C at *
      by_cases he : (evI l k).thread = (evI l i).thread
      · have hq2 : ((evI l k).thread == (evI l i).thread) = true := by simp [he]
        have HN2 : Hid (cnt (isT l (evI l i).thread) (k + 1) = C + 1) := by have h := HN.out; rw [if_pos he] at h; exact h
        clear he HN
        generalize evI l k = x at *
        go_wp2
        go_quiet (fail)
        go_wp2
        go_roundw
        case rel => exact ⟨k + 1, by omega, by go_num, by rw [HN2.out]; go_num, hb1.drewN⟩
        case measure => simp [intOf]; omega
      · have hq2 : ((evI l k).thread == (evI l i).thread) = false := by simp [he]
        have HN2 : Hid (cnt (isT l (evI l i).thread) (k + 1) = C) := by have h := HN.out; rw [if_neg he] at h; exact h
        clear he HN
        generalize evI l k = x at *
        go_wp2
        go_quiet (fail)
        go_wp2
        go_roundw
        case rel => exact ⟨k + 1, by omega, by go_num, by rw [HN2.out], hb1.drewN⟩
        case measure => simp [intOf]; omega
    · obtain rfl : k = i + 1 := by omega
      have hki : i < i + 1 := by omega
      go_wp2
      go_ret
      exact ⟨by rw [HE.out]; rfl, hb1⟩

end Go.Proofs.Ytfefidmbkbigoaa
