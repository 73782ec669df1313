/- The contract of Read. -/
import Derived.Test.YtjkfocmfgcmegaaReadProg
import Derived.Test.YtjkfocmfgcmegaaRight
namespace Go.Proofs.Ytjkfocmfgcmegaa
open Go.RowKit

def zeroPg : Pg := ⟨0, 0, []⟩

/-- The front of a text: an error, a program whether it may be or not, what is left. -/
def rdP (l : List UInt8) : Int × Pg × List UInt8 :=
  match l with
  | x :: y :: z :: l => if 4 < z.toNat then (3, zeroPg, []) else let R := rdT z.toNat l; if R.1 = 0 then (0, ⟨x.toNat, y.toNat, R.2.1⟩, R.2.2) else (R.1, zeroPg, [])
  | _ => (4, zeroPg, [])

/-- A text as a program: an error, the program. -/
def finP (R : Int × Pg × List UInt8) : Int × Pg :=
  if R.1 = 0 then (if R.2.2 = [] ∧ rightPg R.2.1 = true then (0, R.2.1) else (3, zeroPg)) else (R.1, zeroPg)
def rdPg (l : List UInt8) : Int × Pg := finP (rdP l)

def Reads (R : Int × Pg × List UInt8) (w : World) (r : Ending) (w' : World) : Prop :=
  ∃ a cap, r = .returned (.tuple #[pgV R.2.1 a cap, .string ⟨R.2.2.toArray⟩, .int .i64 R.1]) ∧ (a = none → cap = 0) ∧ OwnThreads w' w.heap.size a R.2.1.threads ∧ Below w.heap.size w w'

theorem rdT_err (n : Nat) (l : List UInt8) : (rdT n l).1 = 0 ∨ (rdT n l).1 = 3 ∨ (rdT n l).1 = 4 := by
  induction n generalizing l with
  | zero => exact .inl rfl
  | succ n ih =>
    cases l with
    | nil => exact .inr (.inr rfl)
    | cons c l =>
      rw [rdT]
      split
      · exact .inr (.inl rfl)
      split
      · exact .inr (.inr rfl)
      · exact ih _

theorem readProg_any (l : List UInt8) (w : World) (hm : l.length ≤ 100000000) : Calls Try.prog 27 #[.string ⟨l.toArray⟩] w (Reads (rdP l) w) := by
  have short : l.length < 3 → Calls Try.prog 27 #[.string ⟨l.toArray⟩] w (Reads (4, zeroPg, []) w) := fun h =>
    (readProg_short l w h).mono fun r w' ⟨h1, h2⟩ => ⟨none, 0, h1, fun _ => rfl, fun h => absurd rfl h, h2⟩
  match l with
  | [] => exact short (by simp)
  | [_] => exact short (by simp)
  | [_, _] => exact short (by simp)
  | x :: y :: z :: l =>
    by_cases h : 4 < z.toNat
    · have e : rdP (x :: y :: z :: l) = (3, zeroPg, []) := by rw [rdP, if_pos h]
      rw [e]
      exact (readProg_many x y z l w h).mono fun r w' ⟨h1, h2⟩ => ⟨none, 0, h1, fun _ => rfl, fun h => absurd rfl h, h2⟩
    · refine (readProg_ok x y z l w (by omega) (by simp at hm; omega)).mono fun r w' ⟨hb, hr⟩ => ?_
      rcases hr with ⟨he, hr⟩ | ⟨he, a, cap, hr, ha, ho⟩
      · have e : rdP (x :: y :: z :: l) = ((rdT z.toNat l).1, zeroPg, []) := by rw [rdP, if_neg h]; simp only []; rw [if_neg he]
        rw [e]
        exact ⟨none, 0, hr, fun _ => rfl, fun h => absurd rfl h, hb⟩
      · have e : rdP (x :: y :: z :: l) = (0, ⟨x.toNat, y.toNat, (rdT z.toNat l).2.1⟩, (rdT z.toNat l).2.2) := by rw [rdP, if_neg h]; simp only []; rw [if_pos he]
        rw [e]
        exact ⟨a, cap, hr, ha, ho, hb⟩

theorem rdP_small (l : List UInt8) : (rdP l).2.1.threads.length ≤ 4 ∧ ∀ c ∈ (rdP l).2.1.threads, c.length ≤ 8 := by
  have key : ∀ n l, (rdT n l).2.1.length ≤ n ∧ ∀ c ∈ (rdT n l).2.1, c.length ≤ 8 := by
    intro n
    induction n with
    | zero => intro l; simp [rdT]
    | succ n ih =>
      intro l
      cases l with
      | nil => simp [rdT]
      | cons c l =>
        rw [rdT]
        split
        · simp
        split
        · simp
        · have := ih (l.drop (4 * c.toNat))
          simp only [List.length_cons, List.mem_cons, forall_eq_or_imp, codeOf_length]
          exact ⟨by omega, by omega, this.2⟩
  match l with
  | [] => simp [rdP, zeroPg]
  | [_] => simp [rdP, zeroPg]
  | [_, _] => simp [rdP, zeroPg]
  | x :: y :: z :: l =>
    rw [rdP]
    split
    · simp [zeroPg]
    · simp only []
      split
      · have := key z.toNat l
        exact ⟨by dsimp only; omega, this.2⟩
      · simp [zeroPg]

/-- What Read answers. -/
def ReadsPg (R : Int × Pg) (w : World) (r : Ending) (w' : World) : Prop :=
  ∃ a cap, r = .returned (.tuple #[pgV R.2 a cap, .int .i64 R.1]) ∧ (a = none → cap = 0) ∧ OwnThreads w' w.heap.size a R.2.threads ∧ Below w.heap.size w w'

set_option maxRecDepth 100000 in
set_option maxHeartbeats 1000000 in
theorem read_any (l : List UInt8) (w : World) (hm : l.length ≤ 100000000) : Calls Try.prog 17 #[.string ⟨l.toArray⟩] w (ReadsPg (rdPg l) w) := by
  have hsm := rdP_small l
  show Calls Try.prog 17 #[.string ⟨l.toArray⟩] w (ReadsPg (finP (rdP l)) w)
  have hrp := fun w => readProg_any l w hm
  generalize rdP l = R at *
  have HSM := Lib.hid hsm
  have HRP := Lib.hid hrp
  clear hsm hrp
  obtain ⟨F, hF⟩ : ∃ F, F = finP R := ⟨_, rfl⟩
  rw [← hF]
  have HF := Lib.hid hF
  clear hF
  go_enter Try.func17, Try.ntmps17
  go_wp2_with fail
  refine (HRP.out _).mono ?_
  rintro r w1 ⟨a, cap, rfl, ha, ho, hb⟩
  have hb' : Below (w.heap.size + 1) (w.alloc (.cells #[.int .i64 0, .int .i64 0, .slice none 0 0] 24)) w1 := hb.mono (by simp)
  obtain ⟨z0, z1, z2, f0, f1, f2⟩ := res_cells hb'
  have hzw : w.heap.size < w1.heap.size := by have := hb'.size; simp at this; omega
  have hbw : Below w.heap.size w w1 := (below_alloc1 w _).trans (hb.mono (by simp))
  have hth := ho.at (by have := HSM.out.1; unfold maxLen; omega) (fun c hc => by have := HSM.out.2 c hc; unfold maxLen; omega)
  have HO := Lib.hid (ho.mono (by simp : w.heap.size + 1 ≤ _))
  have HTH := Lib.hid hth
  have HA := Lib.hid ha
  clear ho hth ha
  obtain ⟨e, ⟨V, M, ts⟩, rest⟩ := R
  unfold pgV
  dsimp only at *
  have zeroOut : ∀ (k : Int) (wf : World), F = (k, zeroPg) → Below w.heap.size w wf → ReadsPg F w (.returned (.tuple #[zeroV, .int .i64 k])) wf := by
    intro k wf hF hbf
    rw [hF]
    exact ⟨none, 0, rfl, fun _ => rfl, fun h => absurd rfl h, hbf⟩
  have HZ := Lib.hid zeroOut
  clear zeroOut
  by_cases he : e = 0
  · subst he
    by_cases hr : rest = []
    · subst hr
      cases hg : rightPg ⟨V, M, ts⟩
      · have HE : Hid (F = (3, zeroPg)) := by
          show _ = _
          rw [HF.out]
          simp [finP, hg]
        have HG := Lib.hid hg
        clear hg
        go_wp2_with fail
        refine (right_any ⟨V, M, ts⟩ a cap _ (HTH.out.later (below_alloc1 _ _))).mono ?_
        rintro r w2 ⟨rfl, hb2⟩
        rw [HG.out]
        have hb3 : Below w1.heap.size w1 w2 := (below_alloc1 w1 _).trans (hb2.mono (by simp))
        have hb4 : Below (w.heap.size + 1) (w.alloc (.cells #[.int .i64 0, .int .i64 0, .slice none 0 0] 24)) w2 := hb'.trans (hb3.mono (by omega))
        clear z0 z1 z2 f0 f1 f2
        obtain ⟨z0, z1, z2, f0, f1, f2⟩ := res_cells hb4
        go_wp2
        have hbf := (((hbw.trans (hb3.mono (by omega))).setCell (p := ⟨w.heap.size, 0, none⟩) (Nat.le_refl _) (.int .i64 0)).setCell (p := ⟨w.heap.size, 1, none⟩) (Nat.le_refl _) (.int .i64 0)).setCell (p := ⟨w.heap.size, 2, none⟩) (Nat.le_refl _) (.slice none 0 0)
        exact bodyPost_ret (v := .tuple #[zeroV, .int .i64 3]) (by simp [results, Try.results17, go_sem, zeroV, z0, z1, z2]) rfl (HZ.out 3 _ HE.out hbf)
      · have HE : Hid (F = (0, ⟨V, M, ts⟩)) := by
          show _ = _
          rw [HF.out]
          simp [finP, hg]
        have HG := Lib.hid hg
        clear hg
        go_wp2_with fail
        refine (right_any ⟨V, M, ts⟩ a cap _ (HTH.out.later (below_alloc1 _ _))).mono ?_
        rintro r w2 ⟨rfl, hb2⟩
        rw [HG.out]
        have hb3 : Below w1.heap.size w1 w2 := (below_alloc1 w1 _).trans (hb2.mono (by simp))
        have hb4 : Below (w.heap.size + 1) (w.alloc (.cells #[.int .i64 0, .int .i64 0, .slice none 0 0] 24)) w2 := hb'.trans (hb3.mono (by omega))
        have hb5 : Below (w1.heap.size + 1) (w1.alloc (.cells #[.int .i64 V, .int .i64 M, .slice a ts.length cap] 24)) w2 := hb2.mono (by simp)
        have q0 : w2.cell? ⟨w1.heap.size, 0, none⟩ = some (.int .i64 V) := by rw [hb5.cell (p := ⟨w1.heap.size, 0, none⟩) (by simp)]; simp
        have q1 : w2.cell? ⟨w1.heap.size, 1, none⟩ = some (.int .i64 M) := by rw [hb5.cell (p := ⟨w1.heap.size, 1, none⟩) (by simp)]; simp
        have q2 : w2.cell? ⟨w1.heap.size, 2, none⟩ = some (.slice a ts.length cap) := by rw [hb5.cell (p := ⟨w1.heap.size, 2, none⟩) (by simp)]; simp
        clear z0 z1 z2 f0 f1 f2
        obtain ⟨z0, z1, z2, f0, f1, f2⟩ := res_cells hb4
        go_wp2
        have hbf := (((hbw.trans (hb3.mono (by omega))).setCell (p := ⟨w.heap.size, 0, none⟩) (Nat.le_refl _) (.int .i64 V)).setCell (p := ⟨w.heap.size, 1, none⟩) (Nat.le_refl _) (.int .i64 M)).setCell (p := ⟨w.heap.size, 2, none⟩) (Nat.le_refl _) (.slice a ts.length cap)
        refine bodyPost_ret (v := .tuple #[.agg #[.int .i64 V, .int .i64 M, .slice a ts.length cap], .int .i64 0]) (by simp [results, Try.results17, go_sem, z0, z1, z2]) rfl ?_
        rw [HE.out]
        refine ⟨a, cap, rfl, HA.out, ?_, hbf⟩
        refine OwnThreads.mono (B := w.heap.size + 1) (HO.out.keep (fun g hg hg2 => ?_)) (by omega)
        rw [Below.heap_setCell _ _ _ _ (by simp; omega), Below.heap_setCell _ _ _ _ (by simp; omega), Below.heap_setCell _ _ _ _ (by simp; omega)]
        exact hb3.block g hg2
    · have HE : Hid (F = (3, zeroPg)) := by
        show _ = _
        rw [HF.out]
        simp [finP, hr]
      have hr2 : rest.isEmpty = false := by simpa using hr
      clear hr
      go_wp2
      have hbf := (((hbw.setCell (p := ⟨w.heap.size, 0, none⟩) (Nat.le_refl _) (.int .i64 0)).setCell (p := ⟨w.heap.size, 1, none⟩) (Nat.le_refl _) (.int .i64 0)).setCell (p := ⟨w.heap.size, 2, none⟩) (Nat.le_refl _) (.slice none 0 0)).alloc (by simp [World.setCell]; omega) (.cells #[.int .i64 V, .int .i64 M, .slice a ts.length cap] 24)
      exact bodyPost_ret (v := .tuple #[zeroV, .int .i64 3]) (by simp [results, Try.results17, go_sem, zeroV, z0, z1, z2, hzw]) rfl (HZ.out 3 _ HE.out hbf)
  · have HE : Hid (F = (e, zeroPg)) := by
      show _ = _
      rw [HF.out]
      simp [finP, he]
    have he2 : (e != 0) = true := by simpa using he
    clear he
    go_wp2
    have hbf := (((hbw.setCell (p := ⟨w.heap.size, 0, none⟩) (Nat.le_refl _) (.int .i64 0)).setCell (p := ⟨w.heap.size, 1, none⟩) (Nat.le_refl _) (.int .i64 0)).setCell (p := ⟨w.heap.size, 2, none⟩) (Nat.le_refl _) (.slice none 0 0)).alloc (by simp [World.setCell]; omega) (.cells #[.int .i64 V, .int .i64 M, .slice a ts.length cap] 24)
    exact bodyPost_ret (v := .tuple #[zeroV, .int .i64 e]) (by simp [results, Try.results17, go_sem, zeroV, z0, z1, z2, hzw]) rfl (HZ.out e _ HE.out hbf)
end Go.Proofs.Ytjkfocmfgcmegaa
