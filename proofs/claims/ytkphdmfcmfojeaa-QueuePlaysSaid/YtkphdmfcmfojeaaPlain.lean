/-
  Plain data and plain functions for layer 1: instructions, programs, what may be. Nothing of the translation.
-/
import Derived.WalkKit
namespace Go.Proofs.Ytkphdmfcmfojeaa

structure Ins where
  kind : Int
  r : Int
  x : Int
  n : Int

structure Pg where
  vars : Int
  mutexes : Int
  threads : List (List Ins)

instance : DecidableEq Ins := fun a b =>
  decidable_of_iff (a.kind = b.kind ∧ a.r = b.r ∧ a.x = b.x ∧ a.n = b.n) (by cases a; cases b; simp)

instance : DecidableEq Pg := fun a b =>
  decidable_of_iff (a.vars = b.vars ∧ a.mutexes = b.mutexes ∧ a.threads = b.threads) (by cases a; cases b; simp)

/-- May an instruction be, of a thread of n instructions? -/
def rightIns (V M n : Int) (i : Ins) : Bool :=
  if i.kind = 1 ∨ i.kind = 2 then decide (0 ≤ i.r ∧ i.r < 2 ∧ 0 ≤ i.x ∧ i.x < V ∧ i.n = 0)
  else if i.kind = 3 ∨ i.kind = 4 then decide (0 ≤ i.r ∧ i.r < 2 ∧ i.x = 0 ∧ -128 ≤ i.n ∧ i.n ≤ 127)
  else if i.kind = 5 ∨ i.kind = 6 then decide (i.r = 0 ∧ 0 ≤ i.x ∧ i.x < M ∧ i.n = 0)
  else if i.kind = 7 then decide (0 ≤ i.r ∧ i.r < 2 ∧ 0 ≤ i.x ∧ i.x < n + 1 ∧ i.n = 0)
  else if i.kind = 8 then decide (0 ≤ i.r ∧ i.r < 2 ∧ i.x = 0 ∧ i.n = 0)
  else false

def rightCode (V M : Int) (l : List Ins) : Bool := decide (l.length ≤ 8) && l.all (rightIns V M l.length)

def rightPg (p : Pg) : Bool :=
  decide (0 ≤ p.vars ∧ p.vars ≤ 4 ∧ 0 ≤ p.mutexes ∧ p.mutexes ≤ 2 ∧ 1 ≤ p.threads.length ∧ p.threads.length ≤ 4) && p.threads.all (rightCode p.vars p.mutexes)

def belowB (n e : Int) : Bool := decide (0 ≤ n ∧ n < e)

/-- An instruction as a value. -/
def insV (i : Ins) : Value := .agg #[.int .i64 i.kind, .int .i64 i.r, .int .i64 i.x, .int .i64 i.n]

/-- From the place a on lie, in w, the instructions l. -/
def CodeAt (w : World) (a : Option Addr) (l : List Ins) : Prop :=
  l.length ≤ maxLen ∧ (l ≠ [] → ∃ b o, a = some ⟨b, o, none⟩ ∧ ∀ i (h : i < l.length),
    w.cell? ⟨b, o + i * 4, none⟩ = some (.int .i64 l[i].kind) ∧ w.cell? ⟨b, o + i * 4 + 1, none⟩ = some (.int .i64 l[i].r) ∧
    w.cell? ⟨b, o + i * 4 + 2, none⟩ = some (.int .i64 l[i].x) ∧ w.cell? ⟨b, o + i * 4 + 3, none⟩ = some (.int .i64 l[i].n))

theorem cell_block {w : World} {a : Addr} {v : Value} (h : w.cell? a = some v) : a.block < w.heap.size := by
  unfold World.cell? at h
  rcases Nat.lt_or_ge a.block w.heap.size with h1 | h1
  · exact h1
  · rw [Array.getElem?_eq_none h1] at h; cases h

theorem cell_later {w w' : World} (hb : Go.RowKit.Below w.heap.size w w') {a : Addr} {v : Value} (h : w.cell? a = some v) : w'.cell? a = some v := by
  rw [hb.cell (cell_block h)]; exact h

theorem CodeAt.later {w w' : World} {a : Option Addr} {l : List Ins} (h : CodeAt w a l) (hb : Go.RowKit.Below w.heap.size w w') : CodeAt w' a l := by
  refine ⟨h.1, fun hn => ?_⟩
  obtain ⟨b, o, rfl, hc⟩ := h.2 hn
  refine ⟨b, o, rfl, fun i hi => ?_⟩
  obtain ⟨h0, h1, h2, h3⟩ := hc i hi
  exact ⟨cell_later hb h0, cell_later hb h1, cell_later hb h2, cell_later hb h3⟩

/-- From the place a on lie, in w, the threads ts. -/
def ThreadsAt (w : World) (a : Option Addr) (ts : List (List Ins)) : Prop :=
  ts.length ≤ maxLen ∧ (ts ≠ [] → ∃ b o, a = some ⟨b, o, none⟩ ∧ ∀ i (h : i < ts.length),
    ∃ c cap, w.cell? ⟨b, o + i, none⟩ = some (.slice c ts[i].length cap) ∧ CodeAt w c ts[i] ∧ (c = none → cap = 0))

theorem ThreadsAt.later {w w' : World} {a : Option Addr} {ts : List (List Ins)} (h : ThreadsAt w a ts) (hb : Go.RowKit.Below w.heap.size w w') : ThreadsAt w' a ts := by
  refine ⟨h.1, fun hn => ?_⟩
  obtain ⟨b, o, rfl, hc⟩ := h.2 hn
  refine ⟨b, o, rfl, fun i hi => ?_⟩
  obtain ⟨c, cap, h0, h1, h2⟩ := hc i hi
  exact ⟨c, cap, cell_later hb h0, h1.later hb, h2⟩

/-- The value of a program whose threads lie from a on. -/
def pgV (p : Pg) (a : Option Addr) (cap : Nat) : Value := .agg #[.int .i64 p.vars, .int .i64 p.mutexes, .slice a p.threads.length cap]

theorem rightPg_code {p : Pg} (h : rightPg p = true) {k : Nat} (hk : k < p.threads.length) : p.threads[k].length ≤ 8 ∧ ∀ j (hj : j < p.threads[k].length), rightIns p.vars p.mutexes p.threads[k].length p.threads[k][j] = true := by
  unfold rightPg at h
  rw [Bool.and_eq_true, List.all_eq_true] at h
  have := h.2 _ (List.getElem_mem hk)
  unfold rightCode at this
  rw [Bool.and_eq_true, List.all_eq_true] at this
  exact ⟨by simpa using this.1, fun j hj => this.2 _ (List.getElem_mem hj)⟩

theorem exists_list {α : Type} (n : Nat) (P : Nat → α → Prop) (h : ∀ i, i < n → ∃ x, P i x) : ∃ xs : List α, xs.length = n ∧ ∀ i x, xs[i]? = some x → P i x := by
  induction n with
  | zero => exact ⟨[], rfl, by simp⟩
  | succ n ih =>
    obtain ⟨xs, hl, hx⟩ := ih (fun i hi => h i (by omega))
    obtain ⟨x, hp⟩ := h n (by omega)
    refine ⟨xs ++ [x], by simp [hl], fun i y hy => ?_⟩
    by_cases hi : i < n
    · rw [List.getElem?_append_left (by omega)] at hy; exact hx i y hy
    · rw [List.getElem?_append_right (by omega)] at hy
      have : i - xs.length = 0 := by
        have := (List.getElem?_eq_some_iff.1 hy).1
        simp at this
        omega
      rw [this] at hy
      have hin : i = n := by omega
      subst hin
      simp at hy
      subst hy
      exact hp

end Go.Proofs.Ytkphdmfcmfojeaa
