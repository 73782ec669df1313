/- StateMore: with more fuel the same row of steps, as far as it may be done with less, does the same. -/
import Derived.Test.YtgofbejohihljaaReplay
import Derived.Test.YtgofbejohihljaaWake
import Derived.Test.YtgofbejohihljaaFew
namespace Go.Proofs.Ytgofbejohihljaa
open Go.RowKit

theorem more_run {d : Nat} (row : List Int) : ∀ s s' : St, s.More d s' → (s.run row).1 = 0 → (s'.run row).1 = 0 ∧ (s'.run row).2.1 = (s.run row).2.1 := by
  induction row with
  | nil => intro s s' _ _; exact ⟨rfl, rfl⟩
  | cons t row ih =>
    intro s s' h h0
    have h1 : (s.step t).1 = 0 := by
      rcases Decidable.em ((s.step t).1 = 0) with h1 | h1
      · exact h1
      · rw [St.run, if_neg h1] at h0; exact absurd h0 h1
    obtain ⟨g0, g1, g2⟩ := h.step h1
    have h2 : ((s.step t).2.2.run row).1 = 0 := by
      rcases Decidable.em (((s.step t).2.2.run row).1 = 0) with h2 | h2
      · exact h2
      · rw [St.run, if_pos h1, if_neg h2] at h0; exact absurd h0 h2
    obtain ⟨e0, e1⟩ := ih _ _ g2 h2
    rw [St.run, if_pos g0, if_pos e0, St.run, if_pos h1, if_pos h2]
    exact ⟨rfl, by dsimp only; rw [g1, e1]⟩

theorem rep_none {p : Pg} {fuel : Int} {row : List Int} {e : Int} {es : List Ev} (h : rep p fuel row = (e, es, none)) : e ≠ 0 := by
  unfold rep at h
  split at h
  · unfold comb at h
    split at h
    · injection h with _ h; injection h with _ h; cases h
    · rename_i h0
      injection h with h1 _
      rw [← h1]; exact h0
  · injection h with h1 _
    rw [← h1]; simp
theorem rep_some {p : Pg} {fuel : Int} {row : List Int} {e : Int} {es : List Ev} {s : St} (h : rep p fuel row = (e, es, some s)) : e = 0 ∧ goodPg p fuel = true ∧ ((St.new p fuel.toNat).run row).1 = 0 ∧ ((St.new p fuel.toNat).run row).2.1 = es := by
  unfold rep at h
  split at h
  · rename_i hg
    unfold comb at h
    split at h
    · rename_i h0
      injection h with h1 h; injection h with h2 h
      exact ⟨h1.symm, hg, h0, by simpa using h2⟩
    · injection h with _ h; injection h with _ h; cases h
  · injection h with _ h; injection h with _ h; cases h

theorem run_len (row : List Int) : ∀ s : St, ((s.run row).2.1).length ≤ row.length := by
  induction row with
  | nil => intro s; simp [St.run]
  | cons t row ih =>
    intro s
    rw [St.run]
    split
    · split
      · have := ih (s.step t).2.2; simp; omega
      · simp
    · simp

theorem rep_len {p : Pg} {fuel : Int} {row : List Int} {e : Int} {es : List Ev} {s : St} (h : rep p fuel row = (e, es, some s)) : es.length ≤ row.length := by
  obtain ⟨_, _, _, rfl⟩ := rep_some h
  exact run_len row _

theorem rep_more {p : Pg} {f m : Int} {row : List Int} {e : Int} {es : List Ev} {s : St} (h : rep p f row = (e, es, some s)) (h1 : f ≤ m) (h2 : m ≤ 8) : ∃ s', rep p m row = (0, es, some s') := by
  obtain ⟨_, hg, h0, rfl⟩ := rep_some h
  unfold goodPg at hg
  rw [Bool.and_eq_true, decide_eq_true_eq] at hg
  obtain ⟨d, hd⟩ : ∃ d : Nat, m.toNat = f.toNat + d := ⟨m.toNat - f.toNat, by omega⟩
  have hm := more_run row _ _ (new_more p f.toNat d) h0
  rw [← hd] at hm
  refine ⟨((St.new p m.toNat).run row).2.2, ?_⟩
  unfold rep goodPg
  rw [if_pos (by simp [hg.1]; omega)]
  unfold comb
  rw [if_pos hm.1, hm.2]
  simp

set_option maxRecDepth 100000 in
set_option maxHeartbeats 4000000 in
theorem more_any (p : Pg) (a : Option Addr) (cap : Nat) (fuel more : Int) (_hmore : in64 more) (ra : Option Addr) (rcap : Nat) (row : List Int) (w : World) (hp : ThreadsAt w a p.threads) (hrow : NumsAt w ra row) :
    Calls Try.prog 10 #[.agg #[.int .i64 p.vars, .int .i64 p.mutexes, .slice a p.threads.length cap], .int .i64 fuel, .int .i64 more, .slice ra row.length rcap] w fun r w' => r = .returned (.bool true) ∧ Below w.heap.size w w' := by
  have hrm := hrow.1
  unfold maxLen at hrm
  have HP := Lib.hid hp
  have HROW := Lib.hid hrow
  clear hp hrow
  go_enter Try.func10, Try.ntmps10
  go_wp2_with fail
  refine (awake_any _).mono ?_
  rintro r w1 ⟨rfl, hb1⟩
  have hc1 : ∀ o, w1.cell? ⟨w.heap.size, o, none⟩ = (w.alloc (.cells #[.int .i64 p.vars, .int .i64 p.mutexes, .slice a p.threads.length cap] 24)).cell? ⟨w.heap.size, o, none⟩ := fun o => hb1.cell (p := ⟨w.heap.size, o, none⟩) (by simp)
  have hw1 : Below w.heap.size w w1 := (below_alloc1 w _).trans (hb1.mono (by simp))
  have hz1 : w.heap.size < w1.heap.size := by have := hb1.size; simp at this; omega
  clear hb1
  go_wp2_with fail
  refine (few_any p a cap w1 (HP.out.later hw1)).mono ?_
  rintro r w2 ⟨rfl, hb2⟩
  have hc2 : ∀ o, w2.cell? ⟨w.heap.size, o, none⟩ = w1.cell? ⟨w.heap.size, o, none⟩ := fun o => hb2.cell (p := ⟨w.heap.size, o, none⟩) hz1
  have hw2 : Below w.heap.size w w2 := hw1.trans (hb2.mono hw1.size)
  have hz2 : w.heap.size < w2.heap.size := by have := hb2.size; omega
  clear hb2
  cases hf : fewPg p
  · clear hf hc1 hc2
    go_wp2_with fail
    refine (awake_any _).mono ?_
    rintro r w3 ⟨rfl, hb3⟩
    have hw3 : Below w.heap.size w w3 := hw2.trans (hb3.mono hw2.size)
    go_wp2
    go_ret
    exact ⟨rfl, hw3⟩
  clear hf
  by_cases hN : 60 < row.length
  · clear hc1 hc2
    go_wp2_with fail
    refine (awake_any _).mono ?_
    rintro r w3 ⟨rfl, hb3⟩
    have hw3 : Below w.heap.size w w3 := hw2.trans (hb3.mono hw2.size)
    go_wp2
    go_ret
    exact ⟨rfl, hw3⟩
  by_cases hf0 : fuel < 0
  · clear hc1 hc2
    go_wp2_with fail
    refine (awake_any _).mono ?_
    rintro r w3 ⟨rfl, hb3⟩
    have hw3 : Below w.heap.size w w3 := hw2.trans (hb3.mono hw2.size)
    go_wp2
    go_ret
    exact ⟨rfl, hw3⟩
  by_cases hf8 : 8 < fuel
  · clear hc1 hc2
    go_wp2_with fail
    refine (awake_any _).mono ?_
    rintro r w3 ⟨rfl, hb3⟩
    have hw3 : Below w.heap.size w w3 := hw2.trans (hb3.mono hw2.size)
    go_wp2
    go_ret
    exact ⟨rfl, hw3⟩
  have g0 : 0 ≤ fuel := by omega
  have g8 : fuel ≤ 8 := by omega
  clear hf0 hf8
  go_wp2_with fail
  have hM : fuel ≤ wrap64 (fuel + wrap64 ((IntKind.u64.wrap more).tmod (9 - fuel))) ∧ wrap64 (fuel + wrap64 ((IntKind.u64.wrap more).tmod (9 - fuel))) ≤ 8 := by
    have hU : 0 ≤ IntKind.u64.wrap more := by rw [IntKind.wrap_u64]; omega
    have h1 := Int.tmod_nonneg (9 - fuel) hU
    have h2 := Int.tmod_lt_of_pos (IntKind.u64.wrap more) (show 0 < 9 - fuel by omega)
    generalize (IntKind.u64.wrap more).tmod (9 - fuel) = z at *
    unfold wrap64
    omega
  generalize wrap64 (fuel + wrap64 ((IntKind.u64.wrap more).tmod (9 - fuel))) = mo at *
  obtain ⟨hM1, hM2⟩ := hM
  have hr60 : row.length ≤ 60 := by omega
  refine (replay_any p a cap fuel ra rcap row w2 (HP.out.later hw2) (HROW.out.later hw2) (by omega)).mono ?_
  rintro r w3 ⟨hb3, hr⟩
  have hw3 : Below w.heap.size w w3 := hw2.trans (hb3.mono hw2.size)
  have hc3 : ∀ o, w3.cell? ⟨w.heap.size, o, none⟩ = w2.cell? ⟨w.heap.size, o, none⟩ := fun o => hb3.cell (p := ⟨w.heap.size, o, none⟩) hz2
  have hz3 : w.heap.size < w3.heap.size := by have := hb3.size; omega
  have HRM := Lib.hid (fun e es s h => rep_more (p := p) (f := fuel) (m := mo) (row := row) (e := e) (es := es) (s := s) h hM1 hM2)
  rcases hrep : rep p fuel row with ⟨e, es, _ | s⟩
  · rw [hrep] at hr
    dsimp only at hr
    subst hr
    have q0 : (e != 0) = true := by simpa using rep_none hrep
    clear hrep HRM hb3
    go_wp2_with fail
    refine (replay_any p a cap mo ra rcap row w3 (HP.out.later hw3) (HROW.out.later hw3) (by omega)).mono ?_
    rintro r w4 ⟨hb4, hr⟩
    have hw4 : Below w.heap.size w w4 := hw3.trans (hb4.mono hw3.size)
    rcases hrep2 : rep p mo row with ⟨e2, es2, _ | s2⟩
    · rw [hrep2] at hr
      dsimp only at hr
      subst hr
      clear hrep2 hb4 hc1 hc2 hc3
      go_wp2
      go_ret
      exact ⟨rfl, hw4⟩
    · rw [hrep2] at hr
      obtain ⟨g2, v2, rfl, _⟩ := hr
      clear hrep2 hb4 hc1 hc2 hc3
      go_wp2
      go_ret
      exact ⟨rfl, hw4⟩
  · rw [hrep] at hr
    obtain ⟨g1, v1, rfl, hg1, _, _, ho1⟩ := hr
    obtain ⟨s2, hrep2⟩ := HRM.out _ _ _ hrep
    have hl := rep_len hrep
    obtain ⟨a1, cap1, rfl, hev1⟩ := ho1.form (by omega)
    have HE1 := Lib.hid hev1
    have HR2 := Lib.hid hrep2
    clear hrep HRM hb3 hrep2 ho1 hev1
    go_wp2_with fail
    refine (replay_any p a cap mo ra rcap row w3 (HP.out.later hw3) (HROW.out.later hw3) (by omega)).mono ?_
    rintro r w4 ⟨hb4, hr⟩
    have hw4 : Below w.heap.size w w4 := hw3.trans (hb4.mono hw3.size)
    rw [HR2.out] at hr
    obtain ⟨g2, v2, rfl, _, _, _, ho2⟩ := hr
    obtain ⟨a2, cap2, rfl, hev2⟩ := ho2.form (by omega)
    have HE2 := Lib.hid hev2
    have HE14 := Lib.hid (HE1.out.later hb4)
    clear hb4 ho2 hev2 hc1 hc2 hc3 HE1
    go_wp2_with fail
    refine (sameEvents_any _ _ _ _ es es w4 HE14.out HE2.out).mono ?_
    rintro r w5 ⟨rfl, hb5⟩
    have hw5 : Below w.heap.size w w5 := hw4.trans (hb5.mono hw4.size)
    have hdt : decide (es = es) = true := by simp
    rw [hdt]
    clear hdt hb5
    go_wp2
    go_ret
    exact ⟨rfl, hw5⟩

end Go.Proofs.Ytgofbejohihljaa
