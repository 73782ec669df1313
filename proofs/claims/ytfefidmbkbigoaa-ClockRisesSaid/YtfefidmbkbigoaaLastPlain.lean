/- The clock of a thread's last event, plainly. -/
import Derived.Test.YtfefidmbkbigoaaLast
import Derived.Test.YtfefidmbkbigoaaAlike
namespace Go.Proofs.Ytfefidmbkbigoaa
open Go.RowKit

/-- The clock of a thread's last event among the first k. -/
def lastP (l : List Ev) (t : Int) : Nat → Nat → Nat
  | 0 => fun _ => 0
  | k + 1 => if (evI l k).thread = t then (fun u : Nat => clk l k u) else lastP l t k
theorem lastP_is {l : List Ev} {t : Int} (n : Nat) : (∃ k, k < n ∧ (evI l k).thread = t ∧ (∀ j, k < j → j < n → (evI l j).thread ≠ t) ∧ lastP l t n = fun u : Nat => clk l k u) ∨ ((∀ k, k < n → (evI l k).thread ≠ t) ∧ lastP l t n = fun _ => 0) := by
  induction n with
  | zero => exact .inr ⟨fun k h => absurd h (by omega), rfl⟩
  | succ n ih =>
    unfold lastP
    by_cases h : (evI l n).thread = t
    · rw [if_pos h]
      exact .inl ⟨n, by omega, h, fun j h1 h2 => by omega, rfl⟩
    · rw [if_neg h]
      rcases ih with ⟨k, h1, h2, h3, h4⟩ | ⟨h1, h2⟩
      · refine .inl ⟨k, by omega, h2, fun j hj hjn => ?_, h4⟩
        by_cases e : j = n
        · subst e; exact h
        · exact h3 j hj (by omega)
      · refine .inr ⟨fun k hk => ?_, h2⟩
        by_cases e : k = n
        · subst e; exact h
        · exact h1 k (by omega)
theorem LastIs.eq {l : List Ev} {t : Int} {c : Nat → Nat} (h : LastIs l t c) (hr : rightL l = true) : c = lastP l t l.length := by
  rcases lastP_is (l := l) (t := t) l.length with ⟨k, h1, h2, h3, h4⟩ | ⟨h1, h2⟩
  · rcases h with ⟨k', _, g1, g2, g3, g4⟩ | ⟨g1, _⟩
    · have : k = k' := by
        rcases Nat.lt_trichotomy k k' with e | e | e
        · exact absurd g2 (h3 k' e g1)
        · exact e
        · exact absurd h2 (g3 k e h1)
      rw [g4, h4, this]
    · exact absurd h2 (g1 hr k h1)
  · rcases h with ⟨k', _, g1, g2, _⟩ | ⟨_, g2⟩
    · exact absurd g2 (h1 k' g1)
    · rw [g2, h2]
theorem LastIs.zero {l : List Ev} {t : Int} {c : Nat → Nat} (h : LastIs l t c) (hr : rightL l = false) : c = fun _ => 0 := by
  rcases h with ⟨k', g, _⟩ | ⟨_, g2⟩
  · rw [hr] at g; cases g
  · exact g2
/-- What Last answers is what the loop has found at its end. -/
def lastE (l : List Ev) (t : Int) : Nat → Nat := if rightL l then lastP l t l.length else fun _ => 0
theorem LastIs.isE {l : List Ev} {t : Int} {c : Nat → Nat} (h : LastIs l t c) : c = lastE l t := by
  unfold lastE
  cases hr : rightL l
  · rw [h.zero hr]; rfl
  · rw [h.eq hr]; rfl
theorem run_equal_self (c : Nat → Nat) (w : World) : (Op.equalIn 10000 34 (.agg #[.int .i64 (c 0), .int .i64 (c 1), .int .i64 (c 2), .int .i64 (c 3)]) (.agg #[.int .i64 (c 0), .int .i64 (c 1), .int .i64 (c 2), .int .i64 (c 3)])).run Try.prog w = .ok true w := by
  have h := run_equal_four (fun t => (c t : Int)) (fun t => (c t : Int)) w
  simpa using h

end Go.Proofs.Ytfefidmbkbigoaa
