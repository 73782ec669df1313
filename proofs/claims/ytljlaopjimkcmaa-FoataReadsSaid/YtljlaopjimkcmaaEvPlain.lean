/-
  Plain data and plain functions for layer 3: which events depend on one another, which may be, their bytes. Nothing of the translation.
-/
import Derived.Test.YtljlaopjimkcmaaPlainState
namespace Go.Proofs.Ytljlaopjimkcmaa

def memE (e : Ev) : Bool := decide (e.kind = 2 ∨ e.kind = 3)
def mutE (e : Ev) : Bool := decide (e.kind = 4 ∨ e.kind = 5)

/-- Do two events depend on one another? -/
def dep (a b : Ev) : Bool :=
  decide (a.thread = b.thread ∨ (a.obj = b.obj ∧ (((a.kind = 2 ∨ a.kind = 3) ∧ (b.kind = 2 ∨ b.kind = 3) ∧ (a.kind = 3 ∨ b.kind = 3)) ∨ ((a.kind = 4 ∨ a.kind = 5) ∧ (b.kind = 4 ∨ b.kind = 5)))))

theorem dep_symm (a b : Ev) : dep a b = dep b a := by
  unfold dep
  rw [decide_eq_decide]
  omega

/-- May an event be? -/
def rightEv (e : Ev) : Bool :=
  decide (0 ≤ e.thread ∧ e.thread ≤ 3 ∧ ((e.kind = 1 ∧ e.obj = 0) ∨ ((e.kind = 2 ∨ e.kind = 3) ∧ 0 ≤ e.obj ∧ e.obj ≤ 3 ∧ e.fail = false) ∨ ((e.kind = 4 ∨ e.kind = 5) ∧ 0 ≤ e.obj ∧ e.obj ≤ 1 ∧ e.fail = false)))

/-- An event's byte. -/
def evB (e : Ev) : Int := e.thread + 4 * e.kind + 32 * e.obj + if e.fail then 128 else 0

/-- The event of a byte, whether it may be or not. -/
def evOf (n : Int) : Ev := ⟨n % 4, n / 4 % 8, n / 32 % 4, decide (128 ≤ n)⟩

theorem rightEv_bd {e : Ev} (h : rightEv e = true) : 0 ≤ e.thread ∧ e.thread ≤ 3 ∧ 1 ≤ e.kind ∧ e.kind ≤ 5 ∧ 0 ≤ e.obj ∧ e.obj ≤ 3 := by
  unfold rightEv at h
  rw [decide_eq_true_eq] at h
  omega

theorem evB_bd {e : Ev} (h : rightEv e = true) : 0 ≤ evB e ∧ evB e < 256 := by
  have := rightEv_bd h
  unfold evB
  split <;> omega

theorem evOf_evB {e : Ev} (h : rightEv e = true) : evOf (evB e) = e := by
  have := rightEv_bd h
  obtain ⟨t, k, o, f⟩ := e
  dsimp only at this
  unfold evOf evB
  cases f
  · simp
    omega
  · simp
    omega

theorem evB_evOf {n : Int} (h0 : 0 ≤ n) (h1 : n < 256) : evB (evOf n) = n := by
  unfold evOf evB
  dsimp only
  by_cases h : 128 ≤ n
  · simp [h]
    omega
  · simp [h]
    omega

theorem evB_inj {a b : Ev} (ha : rightEv a = true) (hb : rightEv b = true) (h : evB a = evB b) : a = b := by
  rw [← evOf_evB ha, ← evOf_evB hb, h]

/-- The bytes of events, or none. -/
def printE (l : List Ev) : List Int := if l.all rightEv then l.map evB else []

theorem map_evB_inj {a b : List Ev} (ha : ∀ e ∈ a, rightEv e = true) (hb : ∀ e ∈ b, rightEv e = true) (h : a.map evB = b.map evB) : a = b := by
  induction a generalizing b with
  | nil => cases b <;> simp_all
  | cons x a ih =>
    cases b with
    | nil => simp at h
    | cons y b =>
      simp only [List.map_cons, List.cons.injEq] at h
      rw [evB_inj (ha x (by simp)) (hb y (by simp)) h.1, ih (fun e he => ha e (by simp [he])) (fun e he => hb e (by simp [he])) h.2]

end Go.Proofs.Ytljlaopjimkcmaa
