/- ProgReads: any bytes are the program that the document says, or are refused as it says; printed it is the same bytes. -/
import Derived.Test.YtjkfocmfgcmegaaRefReadW
namespace Go.Proofs.Ytjkfocmfgcmegaa
open Go.RowKit

theorem rdPg_short {l : List UInt8} (h : l.length < 3) : rdPg l = (4, zeroPg) := by
  match l, h with
  | [], _ => rfl
  | [_], _ => rfl
  | [_, _], _ => rfl

theorem refRead_any (l : List UInt8) (w : World) (hm : l.length ≤ 100000) : Calls Try.prog 19 #[.string ⟨l.toArray⟩] w (RefReads (rdPg l) w) := by
  by_cases h3 : l.length < 3
  · refine (refRead_short l w h3).mono ?_
    rintro r w' ⟨rfl, hb⟩
    exact refZero _ (rdPg_short h3) hb
  · match l, h3, hm with
    | x :: y :: z :: l, _, hm =>
      by_cases hz : 4 < z.toNat
      · refine (refRead_many x y z l w hz).mono ?_
        rintro r w' ⟨rfl, hb⟩
        refine refZero _ ?_ hb
        unfold rdPg
        rw [rdP, if_pos hz]
        rfl
      · exact refRead_ok x y z l w (by omega) (by simp at hm; omega)
    | [], h, _ => exact absurd (by simp) h
    | [_], h, _ => exact absurd (by simp) h
    | [_, _], h, _ => exact absurd (by simp) h

theorem rdPg_errs (l : List UInt8) : (rdPg l).1 = 0 ∨ (rdPg l).1 = 3 ∨ (rdPg l).1 = 4 := by
  have key : (rdP l).1 = 0 ∨ (rdP l).1 = 3 ∨ (rdP l).1 = 4 := by
    unfold rdP
    split
    · split
      · exact .inr (.inl rfl)
      · dsimp only
        split
        · exact .inl rfl
        · exact rdT_err _ _
    · exact .inr (.inr rfl)
  unfold rdPg finP
  split
  · split
    · exact .inl rfl
    · exact .inr (.inl rfl)
  · exact key

theorem rdPg_small (l : List UInt8) : (rdPg l).2.threads.length ≤ 4 ∧ ∀ c ∈ (rdPg l).2.threads, c.length ≤ 8 := by
  have h := rdP_small l
  unfold rdPg finP
  split
  · split
    · exact h
    · simp [zeroPg]
  · simp [zeroPg]

theorem rdPg_none {l : List UInt8} (h : (rdPg l).1 ≠ 0) : rightPg (rdPg l).2 = false := by
  unfold rdPg finP at h ⊢
  split
  · split
    · rw [if_pos (by assumption), if_pos (by assumption)] at h
      exact absurd rfl h
    · exact zero_wrong
  · exact zero_wrong

set_option maxRecDepth 100000 in
set_option maxHeartbeats 1500000 in
theorem reads_any (l : List UInt8) (w : World) (hm : l.length ≤ maxLen) :
    Calls Try.prog 4 #[.string ⟨l.toArray⟩] w fun r w' => r = .returned (.bool true) ∧ Below w.heap.size w w' := by
  unfold maxLen at hm
  by_cases h5 : 500 < l.length
  · go_enter Try.func4, Try.ntmps4
    go_wp2_with fail
    refine (awake_any _).mono ?_
    rintro r w1 ⟨rfl, hb1⟩
    go_wp2_with fail
    refine (awake_any _).mono ?_
    rintro r w2 ⟨rfl, hb2⟩
    have hw2 : Below w.heap.size w w2 := hb1.trans (hb2.mono hb1.size)
    go_wp2
    go_ret
    exact ⟨rfl, hw2⟩
  · have hsm := rdPg_small l
    have hrd := fun w => read_any l w (by omega)
    have hrr := fun w => refRead_any l w (by omega)
    have her := rdPg_errs l
    have hpr : Hid (∀ a cap w', ThreadsAt w' a (rdPg l).2.threads → ∃ S g, Hid ((rdPg l).1 ≠ 0 ∨ S = l ∧ g = 0) ∧ Calls Try.prog 11 #[pgV (rdPg l).2 a cap] w' fun r w'' => r = .returned (.tuple #[.string ⟨S.toArray⟩, .int .i64 g]) ∧ Below w'.heap.size w' w'') := by
      intro a cap w' hth
      by_cases h0 : (rdPg l).1 = 0
      · have hp := print_read h0
        refine ⟨l, 0, .inr ⟨rfl, rfl⟩, ?_⟩
        have := printsYes (rdPg l).2 a cap w' hth hp.2
        rw [bstr_eq, hp.1] at this
        exact this
      · exact ⟨[], 1, .inl h0, printsNo (rdPg l).2 a cap w' hth (rdPg_none h0)⟩
    generalize rdPg l = R at *
    obtain ⟨E, V, M, ts⟩ := R
    dsimp only at hsm her hpr
    have hw : IntKind.i64.wrap E = E := IntWalk.i64_in _ (by omega)
    have HSM := Lib.hid hsm
    have HRD := Lib.hid hrd
    have HRR := Lib.hid hrr
    have HER := Lib.hid her
    have hts : ts.length ≤ 4 := hsm.1
    clear hsm hrd hrr her
    go_enter Try.func4, Try.ntmps4
    go_wp2_with fail
    refine (awake_any _).mono ?_
    rintro r w1 ⟨rfl, hb1⟩
    go_wp2_with fail
    refine (HRD.out _).mono ?_
    rintro r w2 ⟨a, cap, rfl, _, ho, hb2⟩
    dsimp only at ho
    have hpv : pgV (E, (⟨V, M, ts⟩ : Pg)).2 a cap = .agg #[.int .i64 V, .int .i64 M, .slice a ts.length cap] := rfl
    rw [hpv]
    dsimp only
    have hw2 : Below w.heap.size w w2 := hb1.trans (hb2.mono hb1.size)
    have hz2 := hw2.size
    have hth := ho.at (by unfold maxLen; omega) (fun c hc => by have := HSM.out.2 c hc; unfold maxLen; omega)
    have hB3 : Below w2.heap.size w2 (w2.alloc (.cells #[.int .i64 V, .int .i64 M, .slice a ts.length cap] 24)) := below_alloc1 _ _
    have HT3 := Lib.hid (hth.later hB3)
    have hw3 : Below w.heap.size w (w2.alloc (.cells #[.int .i64 V, .int .i64 M, .slice a ts.length cap] 24)) := hw2.alloc (by omega) _
    clear hpv ho hth
    go_wp2_with fail
    refine (HRR.out _).mono ?_
    rintro r w4 ⟨a', cap', rfl, hth', hb4⟩
    dsimp only at hth'
    have hpv : pgV (E, (⟨V, M, ts⟩ : Pg)).2 a' cap' = .agg #[.int .i64 V, .int .i64 M, .slice a' ts.length cap'] := rfl
    rw [hpv]
    dsimp only
    have hw4 : Below w.heap.size w w4 := hw3.trans (hb4.mono hw3.size)
    have hb4' : Below (w2.heap.size + 1) (w2.alloc (.cells #[.int .i64 V, .int .i64 M, .slice a ts.length cap] 24)) w4 := hb4.mono (by simp)
    have g0 : w4.cell? ⟨w2.heap.size, 0, none⟩ = some (.int .i64 V) := by rw [hb4'.cell (p := ⟨w2.heap.size, 0, none⟩) (by simp)]; simp
    have g1 : w4.cell? ⟨w2.heap.size, 1, none⟩ = some (.int .i64 M) := by rw [hb4'.cell (p := ⟨w2.heap.size, 1, none⟩) (by simp)]; simp
    have g2 : w4.cell? ⟨w2.heap.size, 2, none⟩ = some (.slice a ts.length cap) := by rw [hb4'.cell (p := ⟨w2.heap.size, 2, none⟩) (by simp)]; simp
    have hz4 := cell_block g0
    dsimp only at hz4
    have HT4 := Lib.hid (HT3.out.later hb4)
    have hB5 : Below w4.heap.size w4 (w4.alloc (.cells #[.int .i64 V, .int .i64 M, .slice a' ts.length cap'] 24)) := below_alloc1 _ _
    have HT5 := Lib.hid (HT4.out.later hB5)
    have HU5 := Lib.hid (hth'.later hB5)
    have hw5 : Below w.heap.size w (w4.alloc (.cells #[.int .i64 V, .int .i64 M, .slice a' ts.length cap'] 24)) := hw4.alloc (by omega) _
    have hEE : (E != E) = false := by simp
    clear hpv hth' HT3 HT4 hb4 hb4' hb2 hb1
    go_wp2_with fail
    refine (refSame_any ⟨V, M, ts⟩ ⟨V, M, ts⟩ a a' cap cap' _ HT5.out HU5.out).mono ?_
    rintro r w6 ⟨rfl, hb6⟩
    rw [show decide ((⟨V, M, ts⟩ : Pg) = ⟨V, M, ts⟩) = true by simp]
    have hw6 : Below w.heap.size w w6 := hw5.trans (hb6.mono hw5.size)
    have k0 := cell_later hb6 (cell_later hB5 g0)
    have k1 := cell_later hb6 (cell_later hB5 g1)
    have k2 := cell_later hb6 (cell_later hB5 g2)
    have HT6 := Lib.hid (HT5.out.later hb6)
    clear g0 g1 g2 HT5 HU5 hB5 hB3 hb6
    obtain ⟨S, g, HSG, hpc⟩ := hpr.out a cap w6 HT6.out
    have HPC := Lib.hid hpc
    clear hpc
    go_wp2_with fail
    refine HPC.out.mono ?_
    rintro r w7 ⟨rfl, hb7⟩
    have hw7 : Below w.heap.size w w7 := hw6.trans (hb7.mono hw6.size)
    clear k0 k1 k2 hb7
    rcases HSG.out with h0 | ⟨rfl, rfl⟩
    · have hE0 : (E != 0) = true := by simpa using h0
      go_wp2
      go_ret
      exact ⟨rfl, hw7⟩
    · by_cases h0 : E = 0
      · subst h0
        go_wp2
        go_ret
        exact ⟨rfl, hw7⟩
      · have hE0 : (E != 0) = true := by simpa using h0
        go_wp2
        go_ret
        exact ⟨rfl, hw7⟩
end Go.Proofs.Ytjkfocmfgcmegaa
