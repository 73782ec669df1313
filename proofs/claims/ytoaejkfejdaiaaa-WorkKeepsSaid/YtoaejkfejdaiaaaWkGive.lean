/- The program's Push and Pop of work. -/
import Derived.Test.YtoaejkfejdaiaaaWkMem
import Derived.BigQuiet
import Derived.BigRegion
import Derived.Deep.RegionWith
namespace Go.Proofs.Ytoaejkfejdaiaaa
open Go.RowKit

section
variable {w w' : World} {B b g mb n cap cnt c : Nat} {qs : Nat → Nat} {Sq : Nat → Nat → Prop} {T : Nat → List Txt} {f : Txt → Bool} {S : Nat → Prop}
theorem WK.tot (h : WK w B b n cnt S T f c) : c ≤ cnt := by
  obtain ⟨g, mb, cap, qs, Sq, q, hS⟩ := h
  obtain ⟨M, hM, _, rfl⟩ := q.map.map
  exact hM.size_le
set_option maxRecDepth 100000 in
set_option maxHeartbeats 1000000 in
theorem give_any (h : WK w B b n cnt S T f c) (hn : n ≤ 64) {j : Nat} (hj : j < n) {k : Txt} (hk : k.length ≤ 1000) (hT : (T j).length < 100000) (hc : cnt ≤ 1000000) {f' : Txt → Bool} {c' : Nat} (hf : ∀ q, (if q = k then true else f q) = f' q) (hcc : (if f k = true then c else c + 1) = c') :
    Calls Try.prog 21 #[.pointer (some ⟨b, 0, none⟩), .int .i64 (j : Int), .string ⟨k.toArray⟩] w fun r w' => r = .returned (.tuple #[]) ∧ WR B b n (cnt + 1) S (updF T j (k :: T j)) f' c' w w' := by
  obtain ⟨g, mb, cap, qs, Sq, q, hS⟩ := h
  have HC0 := Lib.hid q.cellB.1
  have HC1 := Lib.hid (q.cellR hj)
  have HP := Lib.hid (qPush_any (q.qu j hj) k (by omega) hT)
  have HM : Hid (∀ w1 S1, QU w1 B (qs j) S1 (k :: T j) → OnlyS (Sq j) w w1 → (∀ y, S1 y → Sq j y ∨ w.heap.size ≤ y) → w1.cell? ⟨b, 1, none⟩ = some (.map (some mb)) ∧ ∀ w2, Below w1.heap.size w1 w2 → w2.cell? ⟨b, 1, none⟩ = some (.map (some mb)) ∧
      ∃ w3, (Instr.mapUpdate 46 (.map (some mb)) (.string ⟨k.toArray⟩) (.int .i64 (j : Int))).run Try.prog w2 = .ok () w3 ∧ WR B b n (cnt + 1) S (updF T j (k :: T j)) f' c' w w3) := fun w1 S1 h1 h2 h3 => by
    have q1 := q.queue hj h1 h2 h3
    refine ⟨q1.cellB.2, fun w2 hb => ?_⟩
    have q2 := q1.later hb
    obtain ⟨w3, hr, m3, o3⟩ := q2.map.put hc hk (x := j) (by omega)
    replace m3 := m3.congr hf hcc
    refine ⟨q2.cellB.2, w3, hr, _, WK.as (q2.mapped m3 o3), ((h2.mono fun y _ hy => (hS y).2 (.inr ⟨j, hj, hy⟩)).trans (OnlyS.of_below hb)).trans (o3.mono fun y _ hy => (hS y).2 (.inl hy)), fun y hy => ?_⟩
    rcases hy with hy | ⟨i, hi, hy⟩
    · exact .inl ((hS y).2 (.inl hy))
    · by_cases e : i = j
      · subst e
        rw [updF_same] at hy
        exact (h3 y hy).imp (fun h => (hS y).2 (.inr ⟨i, hi, h⟩)) id
      · rw [updF_ne _ _ e] at hy
        exact .inl ((hS y).2 (.inr ⟨i, hi, hy⟩))
  have hjc : j < cap := Nat.lt_of_lt_of_le hj q.cap
  have HK : Hid (∀ w1, Calls Try.prog 28 #[.string ⟨k.toArray⟩] w1 fun r w' => r = .returned (.string ⟨k.toArray⟩) ∧ Below w1.heap.size w1 w') := fun w1 => clone_txt k w1 (by omega)
  clear q hS hf hcc
  have c0 := HC0.out
  have c1 := HC1.out
  go_enter Try.func21, Try.ntmps21
  go_wp2_with fail
  refine HP.out.mono ?_
  rintro r w1 ⟨rfl, S1, h1, h2, h3⟩
  obtain ⟨d1, h4⟩ := HM.out w1 S1 h1 h2 h3
  have H4 := Lib.hid h4
  clear h1 h2 h3 h4 c0 c1
  go_wp2_with fail
  go_region_with (go_at_call 28; refine (HK.out _).mono ?_; rintro r w2 ⟨rfl, hb⟩; obtain ⟨d2, w3, hup, hr⟩ := H4.out w2 ⟨hb.os, hb.tape, hb.output, hb.size, hb.block⟩; have HR := Lib.hid hr; clear hr hb)
  all_goals (go_wp2; exact bodyPost_end (results_none rfl _ _ _) rfl ⟨rfl, HR.out⟩)
end
end Go.Proofs.Ytoaejkfejdaiaaa
