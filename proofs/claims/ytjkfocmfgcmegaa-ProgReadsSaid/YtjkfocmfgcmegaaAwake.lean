/- The contract of awake: true. -/
import Derived.Test.YtjkfocmfgcmegaaRead
import Derived.Test.YtjkfocmfgcmegaaPrint
import Derived.Test.YtjkfocmfgcmegaaSame
import Derived.Test.YtjkfocmfgcmegaaCopy
namespace Go.Proofs.Ytjkfocmfgcmegaa
open Go.RowKit

/-- The program that awake prints. -/
def wakeCode : List Ins := [⟨3, 0, 0, -1⟩, ⟨2, 0, 0, 0⟩]
def wakePg : Pg := ⟨1, 0, [wakeCode]⟩

def wakeL : List UInt8 := [1, 0, 1, 2, 3, 0, 0, 255, 2, 0, 0, 0]
theorem wake_bytes : bstr (pgB wakePg) = ⟨wakeL.toArray⟩ := by decide
theorem wake_read : rdPg wakeL = (0, wakePg) := by decide
theorem wake_more : rdPg (wakeL ++ [120]) = (3, zeroPg) := by decide
theorem wake_less : rdPg (wakeL.take 5) = (4, zeroPg) := by decide
theorem wake_right : rightPg wakePg = true := by decide
theorem zero_wrong : rightPg zeroPg = false := by decide

theorem wake_app : (⟨wakeL.toArray⟩ : ByteArray) ++ ⟨#[120]⟩ = ⟨(wakeL ++ [120]).toArray⟩ := by decide
theorem wake_cut : (⟨wakeL.toArray⟩ : ByteArray).extract 0 5 = ⟨(wakeL.take 5).toArray⟩ := by decide

/-- A program in a box of its own. -/
def BoxAt (w : World) (g : Nat) (a : Option Addr) (cap : Nat) : Prop := w.heap[g]? = some (.cells #[.int .i64 1, .int .i64 0, .slice a 1 cap] 24 (0, 0)) ∧ ThreadsAt w a wakePg.threads
theorem BoxAt.later {w w' : World} {g : Nat} {a : Option Addr} {cap : Nat} (h : BoxAt w g a cap) (hb : Below w.heap.size w w') : BoxAt w' g a cap :=
  ⟨(hb.block g (Array.getElem?_eq_some_iff.1 h.1).1).trans h.1, h.2.later hb⟩
theorem BoxAt.cells {w : World} {g : Nat} {a : Option Addr} {cap : Nat} (h : BoxAt w g a cap) : w.cell? ⟨g, 0, none⟩ = some (.int .i64 1) ∧ w.cell? ⟨g, 1, none⟩ = some (.int .i64 0) ∧ w.cell? ⟨g, 2, none⟩ = some (.slice a 1 cap) := by
  simp [World.cell?, h.1]

theorem wake_same (a a' : Option Addr) (cap cap' : Nat) (w : World) (h : ThreadsAt w a wakePg.threads) (h' : ThreadsAt w a' wakePg.threads) :
    Calls Try.prog 15 #[.agg #[.int .i64 1, .int .i64 0, .slice a 1 cap], .agg #[.int .i64 1, .int .i64 0, .slice a' 1 cap']] w fun r w' => r = .returned (.bool true) ∧ Below w.heap.size w w' :=
  (same_any wakePg wakePg a a' cap cap' w h h').mono fun r w' ⟨h1, h2⟩ => ⟨by rw [h1]; simp, h2⟩
theorem wake_rights (a : Option Addr) (cap : Nat) (w : World) (h : ThreadsAt w a wakePg.threads) :
    Calls Try.prog 13 #[.agg #[.int .i64 1, .int .i64 0, .slice a 1 cap]] w fun r w' => r = .returned (.bool true) ∧ Below w.heap.size w w' :=
  (right_any wakePg a cap w h).mono fun r w' ⟨h1, h2⟩ => ⟨by rw [h1, wake_right], h2⟩
theorem wake_copy (a : Option Addr) (cap : Nat) (w : World) (ha : a = none → cap = 0) (h : ThreadsAt w a wakePg.threads) :
    Calls Try.prog 14 #[.agg #[.int .i64 1, .int .i64 0, .slice a 1 cap]] w fun r w' => ∃ a' cap', r = .returned (.agg #[.int .i64 1, .int .i64 0, .slice a' 1 cap']) ∧ ThreadsAt w' a' wakePg.threads ∧ Below w.heap.size w w' :=
  (copy_any wakePg a cap w h ha (by decide) (by decide)).mono fun r w' ⟨a', cap', h1, _, h3, h4, _⟩ => ⟨a', cap', h1, h4.at (by simp [wakePg, maxLen]) (by simp [wakePg, wakeCode, maxLen]), h3⟩

theorem below_step {w8 W w' : World} (h1 : Below w8.heap.size w8 W) (hb : Below W.heap.size W w') : Below w8.heap.size w8 w' := h1.trans (hb.mono h1.size)

theorem wake_start (w : World) : ThreadsAt (((w.alloc (.cells #[.int .i64 3, .int .i64 0, .int .i64 0, .int .i64 (-1), .int .i64 2, .int .i64 0, .int .i64 0, .int .i64 0] 34)).alloc (.cells #[.slice (some ⟨w.heap.size, 0, none⟩) 2 2] 32)).alloc
    (.cells #[.int .i64 1, .int .i64 0, .slice (some ⟨w.heap.size + 1, 0, none⟩) 1 1] 24)) (some ⟨w.heap.size + 1, 0, none⟩) wakePg.threads := by
  refine OwnThreads.at (B := w.heap.size) (fun _ => ⟨w.heap.size + 1, [.slice (some ⟨w.heap.size, 0, none⟩) 2 2], rfl, by omega, ?_, rfl, fun i hi => ?_⟩) (by simp [wakePg, maxLen]) (by simp [wakePg, wakeCode, maxLen])
  · rw [Below.heap_alloc _ _ _ (by simp)]
    have := (MapKept.heap_alloc (w.alloc (.cells #[.int .i64 3, .int .i64 0, .int .i64 0, .int .i64 (-1), .int .i64 2, .int .i64 0, .int .i64 0, .int .i64 0] 34)) (.cells #[.slice (some ⟨w.heap.size, 0, none⟩) 2 2] 32)).1
    simpa using this
  · have h0 : i = 0 := by simp [wakePg] at hi; omega
    subst h0
    refine ⟨some ⟨w.heap.size, 0, none⟩, 2, rfl, by simp, fun _ => ⟨w.heap.size, rfl, Nat.le_refl _, by omega, ?_⟩⟩
    rw [Below.heap_alloc _ _ _ (by simp; omega), Below.heap_alloc _ _ _ (by simp)]
    exact (MapKept.heap_alloc w _).1

set_option maxRecDepth 100000 in
set_option maxHeartbeats 4000000 in
theorem awake_any (w : World) : Calls Try.prog 9 #[] w fun r w' => r = .returned (.bool true) ∧ Below w.heap.size w w' := by
  have hst := wake_start w
  have hb0 : Below w.heap.size w (((w.alloc (.cells #[.int .i64 3, .int .i64 0, .int .i64 0, .int .i64 (-1), .int .i64 2, .int .i64 0, .int .i64 0, .int .i64 0] 34)).alloc (.cells #[.slice (some ⟨w.heap.size, 0, none⟩) 2 2] 32)).alloc
    (.cells #[.int .i64 1, .int .i64 0, .slice (some ⟨w.heap.size + 1, 0, none⟩) 1 1] 24)) := (below_alloc2 w _ _).alloc (by simp; omega) _
  have hz0 : w.heap.size + 1 + 1 < (((w.alloc (.cells #[.int .i64 3, .int .i64 0, .int .i64 0, .int .i64 (-1), .int .i64 2, .int .i64 0, .int .i64 0, .int .i64 0] 34)).alloc (.cells #[.slice (some ⟨w.heap.size, 0, none⟩) 2 2] 32)).alloc
    (.cells #[.int .i64 1, .int .i64 0, .slice (some ⟨w.heap.size + 1, 0, none⟩) 1 1] 24)).heap.size := by simp
  have c0 : (((w.alloc (.cells #[.int .i64 3, .int .i64 0, .int .i64 0, .int .i64 (-1), .int .i64 2, .int .i64 0, .int .i64 0, .int .i64 0] 34)).alloc (.cells #[.slice (some ⟨w.heap.size, 0, none⟩) 2 2] 32)).alloc
    (.cells #[.int .i64 1, .int .i64 0, .slice (some ⟨w.heap.size + 1, 0, none⟩) 1 1] 24)).heap[w.heap.size + 1 + 1]? = some (.cells #[.int .i64 1, .int .i64 0, .slice (some ⟨w.heap.size + 1, 0, none⟩) 1 1] 24 (0, 0)) := by
    have := (MapKept.heap_alloc ((w.alloc (.cells #[.int .i64 3, .int .i64 0, .int .i64 0, .int .i64 (-1), .int .i64 2, .int .i64 0, .int .i64 0, .int .i64 0] 34)).alloc (.cells #[.slice (some ⟨w.heap.size, 0, none⟩) 2 2] 32)) (.cells #[.int .i64 1, .int .i64 0, .slice (some ⟨w.heap.size + 1, 0, none⟩) 1 1] 24)).1
    simpa using this
  have HST := Lib.hid hst
  have HC0 := Lib.hid c0
  clear hst c0
  go_enter Try.func9, Try.ntmps9
  go_wp2_with fail
  generalize ((w.alloc (.cells #[.int .i64 3, .int .i64 0, .int .i64 0, .int .i64 (-1), .int .i64 2, .int .i64 0, .int .i64 0, .int .i64 0] 34)).alloc (.cells #[.slice (some ⟨w.heap.size, 0, none⟩) 2 2] 32)).alloc
    (.cells #[.int .i64 1, .int .i64 0, .slice (some ⟨w.heap.size + 1, 0, none⟩) 1 1] 24) = W0 at *
  have hB0 : BoxAt W0 (w.heap.size + 1 + 1) (some ⟨w.heap.size + 1, 0, none⟩) 1 := ⟨HC0.out, HST.out⟩
  clear HC0
  refine (printsYes wakePg (some ⟨w.heap.size + 1, 0, none⟩) 1 _ HST.out wake_right).mono ?_
  rintro r w1 ⟨rfl, hb1⟩
  rw [wake_bytes]
  have hB1 := hB0.later hb1
  have hc1 : Below w.heap.size w w1 := hb0.trans (hb1.mono hb0.size)
  clear hB0 hb0 HST hb1 hz0
  go_wp2_with fail
  refine (read_any wakeL _ (by decide)).mono ?_
  rw [wake_read]
  rintro r w2 ⟨a, cap, rfl, ha, ho, hb2⟩
  dsimp only at ho
  have hpv : pgV wakePg a cap = .agg #[.int .i64 1, .int .i64 0, .slice a 1 cap] := rfl
  dsimp only
  rw [hpv]
  have hB2 := hB1.later hb2
  have hc2 : Below w.heap.size w w2 := hc1.trans (hb2.mono hc1.size)
  have hth := ho.at (by simp [wakePg, maxLen]) (by simp [wakePg, wakeCode, maxLen])
  have hz2 : w.heap.size + 1 + 1 < w2.heap.size := (Array.getElem?_eq_some_iff.1 hB2.1).1
  have hQ : BoxAt (w2.alloc (.cells #[.int .i64 1, .int .i64 0, .slice a 1 cap] 24)) w2.heap.size a cap := ⟨(MapKept.heap_alloc w2 _).1, hth.later (below_alloc1 _ _)⟩
  have hB3 := hB2.later (below_alloc1 w2 (.cells #[.int .i64 1, .int .i64 0, .slice a 1 cap] 24))
  have hc3 : Below w.heap.size w (w2.alloc (.cells #[.int .i64 1, .int .i64 0, .slice a 1 cap] 24)) := hc2.alloc (by omega) _
  have hz3 : w2.heap.size < (w2.alloc (.cells #[.int .i64 1, .int .i64 0, .slice a 1 cap] 24)).heap.size := by simp
  clear hpv ho ha hB1 hc1 hb2 hB2 hc2 hth
  go_wp2_with fail
  generalize w2.alloc (.cells #[.int .i64 1, .int .i64 0, .slice a 1 cap] 24) = W3 at *
  generalize w2.heap.size = gq at *
  rw [wake_app]
  refine (read_any (wakeL ++ [120]) _ (by decide)).mono ?_
  rw [wake_more]
  rintro r w4 ⟨a1, cap1, rfl, _, _, hb4⟩
  have hpv : pgV zeroPg a1 cap1 = .agg #[.int .i64 0, .int .i64 0, .slice a1 0 cap1] := rfl
  dsimp only
  rw [hpv]
  have hB4 := hB3.later hb4
  have hQ4 := hQ.later hb4
  have hc4 : Below w.heap.size w w4 := hc3.trans (hb4.mono hc3.size)
  have hz4 := hc4.size
  have hB5 := hB4.later (below_alloc1 w4 (.cells #[.int .i64 0, .int .i64 0, .slice a1 0 cap1] 24))
  have hQ5 := hQ4.later (below_alloc1 w4 (.cells #[.int .i64 0, .int .i64 0, .slice a1 0 cap1] 24))
  have hc5 : Below w.heap.size w (w4.alloc (.cells #[.int .i64 0, .int .i64 0, .slice a1 0 cap1] 24)) := hc4.alloc (by omega) _
  clear hpv hB3 hQ hc3 hb4 hB4 hQ4 hc4 hz4
  go_wp2_with fail
  generalize w4.alloc (.cells #[.int .i64 0, .int .i64 0, .slice a1 0 cap1] 24) = W5 at *
  rw [wake_cut]
  refine (read_any (wakeL.take 5) _ (by decide)).mono ?_
  rw [wake_less]
  rintro r w6 ⟨a2, cap2, rfl, _, _, hb6⟩
  have hpv : pgV zeroPg a2 cap2 = .agg #[.int .i64 0, .int .i64 0, .slice a2 0 cap2] := rfl
  dsimp only
  rw [hpv]
  have hB6 := hB5.later hb6
  have hQ6 := hQ5.later hb6
  have hc6 : Below w.heap.size w w6 := hc5.trans (hb6.mono hc5.size)
  have hz6 := hc6.size
  have hB7 := hB6.later (below_alloc1 w6 (.cells #[.int .i64 0, .int .i64 0, .slice a2 0 cap2] 24))
  have hQ7 := hQ6.later (below_alloc1 w6 (.cells #[.int .i64 0, .int .i64 0, .slice a2 0 cap2] 24))
  have hc7 : Below w.heap.size w (w6.alloc (.cells #[.int .i64 0, .int .i64 0, .slice a2 0 cap2] 24)) := hc6.alloc (by omega) _
  clear hpv hB5 hQ5 hc5 hb6 hB6 hQ6 hc6 hz6
  go_wp2_with fail
  generalize w6.alloc (.cells #[.int .i64 0, .int .i64 0, .slice a2 0 cap2] 24) = W7 at *
  refine (printsNo zeroPg none 0 _ ⟨by simp [zeroPg, maxLen], fun h => absurd rfl h⟩ zero_wrong).mono ?_
  rintro r w8 ⟨rfl, hb8⟩
  have hB8 := hB7.later hb8
  have hQ8 := hQ7.later hb8
  have hc8 : Below w.heap.size w w8 := hc7.trans (hb8.mono hc7.size)
  clear hB7 hQ7 hc7 hb8
  obtain ⟨p0, p1, p2⟩ := hB8.cells
  obtain ⟨q0, q1, q2⟩ := hQ8.cells
  have HB8 := Lib.hid hB8
  have HQ8 := Lib.hid hQ8
  clear hB8 hQ8
  have hkeep : ∀ w', Below w8.heap.size w8 w' → w'.cell? ⟨w.heap.size + 1 + 1, 0, none⟩ = some (.int .i64 1) ∧ w'.cell? ⟨w.heap.size + 1 + 1, 1, none⟩ = some (.int .i64 0) ∧ w'.cell? ⟨w.heap.size + 1 + 1, 2, none⟩ = some (.slice (some ⟨w.heap.size + 1, 0, none⟩) 1 1) ∧
      w'.cell? ⟨gq, 0, none⟩ = some (.int .i64 1) ∧ w'.cell? ⟨gq, 1, none⟩ = some (.int .i64 0) ∧ w'.cell? ⟨gq, 2, none⟩ = some (.slice a 1 cap) ∧ Below w8.heap.size w8 w' :=
    fun w' h => ⟨cell_later h p0, cell_later h p1, cell_later h p2, cell_later h q0, cell_later h q1, cell_later h q2, h⟩
  have HK := Lib.hid hkeep
  clear hkeep p0 p1 p2 q0 q1 q2
  have hB9 : Below w8.heap.size w8 w8.drew := (Below.refl _ _).drew
  have HPT : Hid (∀ w', Below w8.heap.size w8 w' → ThreadsAt w' (some ⟨w.heap.size + 1, 0, none⟩) wakePg.threads ∧ ThreadsAt w' a wakePg.threads) := fun w' h => ⟨HB8.out.2.later h, HQ8.out.2.later h⟩
  go_wp2_with fail
  go_region_held3 (fun w' => w'.cell? ⟨w.heap.size + 1 + 1, 0, none⟩ = some (.int .i64 1) ∧ w'.cell? ⟨w.heap.size + 1 + 1, 1, none⟩ = some (.int .i64 0) ∧ w'.cell? ⟨w.heap.size + 1 + 1, 2, none⟩ = some (.slice (some ⟨w.heap.size + 1, 0, none⟩) 1 1) ∧
      w'.cell? ⟨gq, 0, none⟩ = some (.int .i64 1) ∧ w'.cell? ⟨gq, 1, none⟩ = some (.int .i64 0) ∧ w'.cell? ⟨gq, 2, none⟩ = some (.slice a 1 cap) ∧ Below w8.heap.size w8 w') (first | exact HK.out _ hB9 | exact HK.out _ hB10 | exact HK.out _ hB11 | exact HK.out _ hB12 | exact HK.out _ hB13)
    (first
      | (go_at_call_of 15 (a); refine (wake_same _ _ 1 cap _ (HPT.out _ hB9).1 (HPT.out _ hB9).2).mono ?_; rintro r w10 ⟨rfl, hb10⟩; have hB10 := below_step hB9 hb10)
      | (go_at_call 13; refine (wake_rights _ 1 _ (HPT.out _ hB10).1).mono ?_; rintro r w11 ⟨rfl, hb11⟩; have hB11 := below_step hB10 hb11)
      | (go_at_call 14; refine (wake_copy _ 1 _ (by simp) (HPT.out _ hB11).1).mono ?_; rintro r w12 ⟨a3, cap3, rfl, ht3, hb12⟩; have hB12 := below_step hB11 hb12; have HT3 := Lib.hid ht3; clear ht3)
      | (go_at_call_of 15 (a3); refine (wake_same _ _ cap3 1 _ HT3.out (HPT.out _ hB12).1).mono ?_; rintro r w13 ⟨rfl, hb13⟩; have hB13 := below_step hB12 hb13))
  go_wp2
  go_ret
  exact ⟨rfl, hc8.trans (hB13.mono hc8.size)⟩
end Go.Proofs.Ytjkfocmfgcmegaa
