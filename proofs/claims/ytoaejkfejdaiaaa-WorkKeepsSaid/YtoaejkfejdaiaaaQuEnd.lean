/- The contracts of an end's calls: Len, Less, and of ahead. -/
import Derived.Test.YtoaejkfejdaiaaaQuMem
import Derived.BigQuiet
namespace Go.Proofs.Ytoaejkfejdaiaaa
open Go.RowKit

theorem less_bytes : ∀ (x y : List UInt8), Op.bytesLess x y = decide (x < y)
  | [], [] => by rfl
  | [], b :: y => by simp [Op.bytesLess]
  | a :: x, [] => by simp [Op.bytesLess]
  | a :: x, b :: y => by
    simp only [Op.bytesLess, less_bytes x y]
    by_cases h : a < b <;> by_cases e : a = b <;> simp_all [List.cons_lt_cons_iff]
set_option maxRecDepth 100000 in
theorem ahead_any (a b : Txt) (w : World) : Calls Try.prog 60 #[.string ⟨a.toArray⟩, .string ⟨b.toArray⟩] w fun r w' => r = .returned (.bool (aheadT a b)) ∧ w = w' := by
  have hqa : (⟨a.toArray⟩ : ByteArray).size = a.length := by simp [ByteArray.size]
  have hqb : (⟨b.toArray⟩ : ByteArray).size = b.length := by simp [ByteArray.size]
  by_cases e : a.length = b.length
  · have HE : Hid (aheadT a b = Op.bytesLess a b) := by show _ = _; unfold aheadT; rw [if_pos e, less_bytes]
    have q0 : ((a.length : Int) == b.length) = true := by simp [e]
    go_enter Try.func60, Try.ntmps60
    go_wp2
    go_ret
    exact ⟨by rw [HE.out]; rfl, rfl⟩
  · have HE : Hid (aheadT a b = decide (b.length < a.length)) := by show _ = _; unfold aheadT; rw [if_neg e]
    have q0 : ((a.length : Int) == b.length) = false := by simpa using fun h => e (by omega)
    go_enter Try.func60, Try.ntmps60
    go_wp2
    go_ret
    exact ⟨by rw [HE.out]; rfl, rfl⟩
section
variable {w : World} {B b : Nat} {pre : Nat → Txt} {ids : List Nat} {vs : Nat → Value} {pl : Nat → Nat → Int} {ls : Nat → List Nat}
/-- An end, as a value. -/
abbrev endV (b s : Nat) : Value := .agg #[.pointer (some ⟨b, 0, none⟩), .int .i64 s]
theorem QR.sliceV (q : QR w B b pre ids vs pl ls) {s : Nat} (hs : s < 2) : ∃ a cap, vs s = .slice a (ls s).length cap := by
  obtain ⟨a, cap, h, _⟩ := (q.row s hs).form itCell_len (by have := q.len s hs; omega)
  exact ⟨a, cap, h⟩
set_option maxRecDepth 100000 in
theorem endLen_any (q : QR w B b pre ids vs pl ls) {s : Nat} (hs : s < 2) : Calls Try.prog 55 #[endV b s] w fun r w' => r = .returned (.int .i64 (ls s).length) ∧ Below w.heap.size w w' := by
  obtain ⟨a, cap, hv⟩ := q.sliceV hs
  have hb1 : Below w.heap.size w (w.alloc (.cells #[.pointer (some ⟨b, 0, none⟩), .int .i64 s] 67)) := below_alloc1 w _
  have c0 := (q.later hb1).cellB hs
  rw [hv] at c0
  have hsi : (s : Int) < 2 := by omega
  clear q
  unfold endV
  go_enter Try.func55, Try.ntmps55
  go_wp2
  go_quiet (fail)
  go_wp2
  go_ret
  exact ⟨rfl, hb1.drewN⟩
set_option maxRecDepth 100000 in
set_option maxHeartbeats 1000000 in
theorem endLess_any (q : QR w B b pre ids vs pl ls) {s : Nat} (hs : s < 2) {i k : Nat} (hi : i < (ls s).length) (hk : k < (ls s).length) : Calls Try.prog 56 #[endV b s, .int .i64 i, .int .i64 k] w fun r w' => r = .returned (.bool (ltQ pre s ((ls s).getD i 0) ((ls s).getD k 0))) ∧ Below w.heap.size w w' := by
  have hne : ls s ≠ [] := fun e => by rw [e] at hi; exact absurd hi (Nat.not_lt_zero _)
  have hb1 : Below w.heap.size w (w.alloc (.cells #[.pointer (some ⟨b, 0, none⟩), .int .i64 s] 67)) := below_alloc1 w _
  have q1 := q.later hb1
  obtain ⟨g, cap, hv, _, _, _, _, hc⟩ := q1.cellR hs hne
  have c0 := q1.cellB hs
  rw [hv] at c0
  have ci := hc i hi
  have ck := hc k hk
  have mi : (ls s).getD i 0 ∈ ids := q.sub s hs _ (by simp [List.getD, hi])
  have mk : (ls s).getD k 0 ∈ ids := q.sub s hs _ (by simp [List.getD, hk])
  have ti := (q1.cellI mi).1
  have tk := (q1.cellI mk).1
  have hii : (i : Int) < (ls s).length := by omega
  have hkk : (k : Int) < (ls s).length := by omega
  generalize (ls s).getD i 0 = x at *
  generalize (ls s).getD k 0 = y at *
  clear q q1 hc hne mi mk
  generalize (ls s).length = n at *
  have hsi : (s : Int) < 2 := by omega
  have hse : (w.alloc (.cells #[.pointer (some ⟨b, 0, none⟩), .int .i64 s] 67)).cell? ⟨w.heap.size, 1, none⟩ = some (.int .i64 s) := by simp
  by_cases h1 : s = 1
  case neg =>
    have HE : Hid (ltQ pre s x y = aheadT (pre x) (pre y)) := by show _ = _; unfold ltQ; rw [if_neg h1]
    have q0 : ((s : Int) == 1) = false := by simpa using fun h => h1 (by omega)
    clear h1
    unfold endV
    go_enter Try.func56, Try.ntmps56
    go_wp2
    go_quiet (fail)
    obtain ⟨W2, hW2⟩ : ∃ W2, W2 = (w.alloc (.cells #[.pointer (some ⟨b, 0, none⟩), .int .i64 s] 67)).drewN nq := ⟨_, rfl⟩
    have hb2 : Below w.heap.size w W2 := by rw [hW2]; exact hb1.drewN
    have hwc : ∀ a v, (w.alloc (.cells #[.pointer (some ⟨b, 0, none⟩), .int .i64 s] 67)).cell? a = some v → W2.cell? a = some v := fun a v h => by rw [hW2]; exact h
    replace ci := hwc _ _ ci
    replace ck := hwc _ _ ck
    replace ti := hwc _ _ ti
    replace tk := hwc _ _ tk
    replace hse := hwc _ _ hse
    rw [← hW2]
    clear hW2 hb1 c0 hwc
    go_wp2
    go_quiet ((go_at_call 60; exact Calls.quiet_of_same ((ahead_any (pre x) (pre y) _).mono fun _ _ ⟨h1, h2⟩ => ⟨h1, h2.symm⟩)))
    go_wp2
    go_ret
    exact ⟨by rw [HE.out]; rfl, hb2.drewN⟩
  case pos =>
    have HE : Hid (ltQ pre s x y = aheadT (pre y) (pre x)) := by show _ = _; unfold ltQ; rw [if_pos h1]
    have q0 : ((s : Int) == 1) = true := by simp [h1]
    clear h1
    unfold endV
    go_enter Try.func56, Try.ntmps56
    go_wp2
    go_quiet (fail)
    obtain ⟨W2, hW2⟩ : ∃ W2, W2 = (w.alloc (.cells #[.pointer (some ⟨b, 0, none⟩), .int .i64 s] 67)).drewN nq := ⟨_, rfl⟩
    have hb2 : Below w.heap.size w W2 := by rw [hW2]; exact hb1.drewN
    have hwc : ∀ a v, (w.alloc (.cells #[.pointer (some ⟨b, 0, none⟩), .int .i64 s] 67)).cell? a = some v → W2.cell? a = some v := fun a v h => by rw [hW2]; exact h
    replace ci := hwc _ _ ci
    replace ck := hwc _ _ ck
    replace ti := hwc _ _ ti
    replace tk := hwc _ _ tk
    replace hse := hwc _ _ hse
    rw [← hW2]
    clear hW2 hb1 c0 hwc
    go_wp2
    go_quiet ((go_at_call 60; exact Calls.quiet_of_same ((ahead_any (pre y) (pre x) _).mono fun _ _ ⟨h1, h2⟩ => ⟨h1, h2.symm⟩)))
    go_wp2
    go_ret
    exact ⟨by rw [HE.out]; rfl, hb2.drewN⟩
end

end Go.Proofs.Ytoaejkfejdaiaaa
