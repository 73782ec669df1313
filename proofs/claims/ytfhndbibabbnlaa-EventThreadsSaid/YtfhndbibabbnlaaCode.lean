/- The contract of rightCode. -/
import Derived.Test.YtfhndbibabbnlaaInstr
namespace Go.Proofs.Ytfhndbibabbnlaa
open Go.RowKit

set_option maxRecDepth 100000 in
set_option maxHeartbeats 1000000 in
theorem rightCode_any (V M : Int) (t : Value) (a : Option Addr) (cap : Nat) (l : List Ins) (w : World) (hl : CodeAt w a l) :
    Calls Try.prog 47 #[.agg #[.int .i64 V, .int .i64 M, t], .slice a l.length cap] w fun r w' => r = .returned (.bool (rightCode V M l)) ∧ Below w.heap.size w w' := by
  have hm := hl.1
  unfold maxLen at hm
  by_cases h8 : l.length ≤ 8
  · have H : Hid (rightCode V M l = l.all (rightIns V M l.length)) := by show _ = _; simp [rightCode, h8]
    have HL := Lib.hid hl
    have h9 : decide (8 < l.length) = false := by simp; omega
    clear hl
    go_enter Try.func47, Try.ntmps47
    go_wp2
    go_loopw [12] (fun i wr => ∃ k : Nat, k ≤ l.length ∧ i = .int .i64 k ∧ Hid ((l.take k).all (rightIns V M l.length) = true) ∧ Below (w.heap.size + 1) (w.alloc (.cells #[.int .i64 V, .int .i64 M, t] 41)) wr) (fun i _ => l.length - (intOf i).toNat)
    case atStart => exact ⟨0, Nat.zero_le _, rfl, rfl, Below.refl _ _⟩
    case round =>
      obtain ⟨k, hk, rfl, hall, hb⟩ := hrel
      by_cases hlt : k < l.length
      · obtain ⟨b, o, rfl, hc⟩ := HL.out.2 (by intro e; simp [e] at hlt)
        have hbw : Below w.heap.size w wr := ((Below.refl _ _).alloc (Nat.le_refl _) _).trans (hb.mono (by omega))
        obtain ⟨c0, c1, c2, c3⟩ := hc k hlt
        have d0 := cell_later hbw c0
        have d1 := cell_later hbw c1
        have d2 := cell_later hbw c2
        have d3 := cell_later hbw c3
        have p0 : wr.cell? ⟨w.heap.size, 0, none⟩ = some (.int .i64 V) := by rw [hb.cell (p := ⟨w.heap.size, 0, none⟩) (by simp)]; simp
        have p1 : wr.cell? ⟨w.heap.size, 1, none⟩ = some (.int .i64 M) := by rw [hb.cell (p := ⟨w.heap.size, 1, none⟩) (by simp)]; simp
        have p2 : wr.cell? ⟨w.heap.size, 2, none⟩ = some t := by rw [hb.cell (p := ⟨w.heap.size, 2, none⟩) (by simp)]; simp
        have hz : w.heap.size < wr.heap.size := by have := hb.size; simp at this; omega
        clear c0 c1 c2 c3 hc
        go_wp2_with fail
        refine (rightInstr_any V M l.length (by omega) (by omega) t l[k] _).mono ?_
        rintro r w1 ⟨rfl, hb1⟩
        have hb2 : Below (w.heap.size + 1) (w.alloc (.cells #[.int .i64 V, .int .i64 M, t] 41)) w1 := (hb.alloc (by omega) _).trans (hb1.mono (by simp; omega))
        have hb3 : Below w.heap.size w w1 := ((Below.refl _ _).alloc (Nat.le_refl _) _).trans (hb2.mono (by omega))
        have ht : (l.take (k + 1)) = l.take k ++ [l[k]] := List.take_succ_eq_append_getElem hlt
        cases hr : rightIns V M l.length l[k]
        · have HR : Hid (rightCode V M l = false) := by
            show _ = _
            rw [H.out, List.all_eq_false]; exact ⟨l[k], List.getElem_mem _, by simp [hr]⟩
          clear hr ht
          go_wp2
          go_ret
          exact ⟨ret_bool HR.out.symm, hb3⟩
        · have HR : Hid ((l.take (k + 1)).all (rightIns V M l.length) = true) := by
            show _ = _
            rw [ht, List.all_append, hall.out]; simp [hr]
          clear hr ht
          go_wp2
          go_roundw
          case rel => exact ⟨k + 1, by omega, by go_num, HR, hb2⟩
          case measure => simp [intOf]; omega
      · obtain rfl : k = l.length := by omega
        have HR : Hid (rightCode V M l = true) := by
          show _ = _
          rw [H.out, ← hall.out, List.take_length]
        have hbw : Below w.heap.size w wr := ((Below.refl _ _).alloc (Nat.le_refl _) _).trans (hb.mono (by omega))
        go_wp2
        go_ret
        exact ⟨ret_bool HR.out.symm, hbw⟩
  · have H : Hid (rightCode V M l = false) := by show _ = _; simp [rightCode]; omega
    have h9 : 8 < l.length := by omega
    clear hl
    go_enter Try.func47, Try.ntmps47
    go_wp2
    go_ret
    exact ⟨ret_bool H.out.symm, below_alloc1 _ _⟩
end Go.Proofs.Ytfhndbibabbnlaa
