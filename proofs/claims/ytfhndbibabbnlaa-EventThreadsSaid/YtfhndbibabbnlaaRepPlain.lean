/- What Replay answers, in plain words: lengths, errors, more fuel. -/
import Derived.Test.YtfhndbibabbnlaaReplay
namespace Go.Proofs.Ytfhndbibabbnlaa

theorem more_run {d : Nat} (row : List Int) : ∀ s s' : St, s.More d s' → (s.run row).1 = 0 → (s'.run row).1 = 0 ∧ (s'.run row).2.1 = (s.run row).2.1 := by
  induction row with
  | nil => intro s s' _ _; exact ⟨rfl, rfl⟩
  | cons t row ih =>
    intro s s' h h0
    have h1 : (s.step t).1 = 0 := by
      rcases Decidable.em ((s.step t).1 = 0) with h1 | h1
      · exact h1
      · rw [St.run, if_neg h1] at h0; exact absurd h0 h1
    obtain ⟨g0, g1, g2⟩ := h.step h1
    have h2 : ((s.step t).2.2.run row).1 = 0 := by
      rcases Decidable.em (((s.step t).2.2.run row).1 = 0) with h2 | h2
      · exact h2
      · rw [St.run, if_pos h1, if_neg h2] at h0; exact absurd h0 h2
    obtain ⟨e0, e1⟩ := ih _ _ g2 h2
    rw [St.run, if_pos g0, if_pos e0, St.run, if_pos h1, if_pos h2]
    exact ⟨rfl, by dsimp only; rw [g1, e1]⟩

theorem rep_none {p : Pg} {fuel : Int} {row : List Int} {e : Int} {es : List Ev} (h : rep p fuel row = (e, es, none)) : e ≠ 0 := by
  unfold rep at h
  split at h
  · unfold comb at h
    split at h
    · injection h with _ h; injection h with _ h; cases h
    · rename_i h0
      injection h with h1 _
      rw [← h1]; exact h0
  · injection h with h1 _
    rw [← h1]; simp
theorem rep_some {p : Pg} {fuel : Int} {row : List Int} {e : Int} {es : List Ev} {s : St} (h : rep p fuel row = (e, es, some s)) : e = 0 ∧ goodPg p fuel = true ∧ ((St.new p fuel.toNat).run row).1 = 0 ∧ ((St.new p fuel.toNat).run row).2.1 = es := by
  unfold rep at h
  split at h
  · rename_i hg
    unfold comb at h
    split at h
    · rename_i h0
      injection h with h1 h; injection h with h2 h
      exact ⟨h1.symm, hg, h0, by simpa using h2⟩
    · injection h with _ h; injection h with _ h; cases h
  · injection h with _ h; injection h with _ h; cases h

theorem run_len (row : List Int) : ∀ s : St, ((s.run row).2.1).length ≤ row.length := by
  induction row with
  | nil => intro s; simp [St.run]
  | cons t row ih =>
    intro s
    rw [St.run]
    split
    · split
      · have := ih (s.step t).2.2; simp; omega
      · simp
    · simp

theorem rep_len {p : Pg} {fuel : Int} {row : List Int} {e : Int} {es : List Ev} {s : St} (h : rep p fuel row = (e, es, some s)) : es.length ≤ row.length := by
  obtain ⟨_, _, _, rfl⟩ := rep_some h
  exact run_len row _

theorem rep_more {p : Pg} {f m : Int} {row : List Int} {e : Int} {es : List Ev} {s : St} (h : rep p f row = (e, es, some s)) (h1 : f ≤ m) (h2 : m ≤ 8) : ∃ s', rep p m row = (0, es, some s') := by
  obtain ⟨_, hg, h0, rfl⟩ := rep_some h
  unfold goodPg at hg
  rw [Bool.and_eq_true, decide_eq_true_eq] at hg
  obtain ⟨d, hd⟩ : ∃ d : Nat, m.toNat = f.toNat + d := ⟨m.toNat - f.toNat, by omega⟩
  have hm := more_run row _ _ (new_more p f.toNat d) h0
  rw [← hd] at hm
  refine ⟨((St.new p m.toNat).run row).2.2, ?_⟩
  unfold rep goodPg
  rw [if_pos (by simp [hg.1]; omega)]
  unfold comb
  rw [if_pos hm.1, hm.2]
  simp

end Go.Proofs.Ytfhndbibabbnlaa
