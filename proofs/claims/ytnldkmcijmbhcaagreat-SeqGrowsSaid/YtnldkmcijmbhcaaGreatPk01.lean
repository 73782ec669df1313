import Derived.WalkKit
import Derived.BigQuiet
import Derived.Deep.QuietTactic
import Derived.WalkLawsBesides
import Derived.Lib.Hide
import Derived.Laws.Rows
import Derived.Laws.Tables
import Derived.StillTailTactics
import Derived.Laws.StructEq
import Derived.ProofKit
import Derived.Lib.SmallJoins
import Derived.Deep.Slices
import Derived.Deep.Fields
import Derived.OpenShut
import Derived.Test.YtnldkmcijmbhcaaGreatRows

/-
  Plain data and plain functions for layer 1: instructions, programs, what may be. Nothing of the translation.
-/
namespace Go.Proofs.YtnldkmcijmbhcaaGreat

structure Ins where
  kind : Int
  r : Int
  x : Int
  n : Int

structure Pg where
  vars : Int
  mutexes : Int
  threads : List (List Ins)

instance : DecidableEq Ins := fun a b =>
  decidable_of_iff (a.kind = b.kind ∧ a.r = b.r ∧ a.x = b.x ∧ a.n = b.n) (by cases a; cases b; simp)

instance : DecidableEq Pg := fun a b =>
  decidable_of_iff (a.vars = b.vars ∧ a.mutexes = b.mutexes ∧ a.threads = b.threads) (by cases a; cases b; simp)

/-- May an instruction be, of a thread of n instructions? -/
def rightIns (V M n : Int) (i : Ins) : Bool :=
  if i.kind = 1 ∨ i.kind = 2 then decide (0 ≤ i.r ∧ i.r < 2 ∧ 0 ≤ i.x ∧ i.x < V ∧ i.n = 0)
  else if i.kind = 3 ∨ i.kind = 4 then decide (0 ≤ i.r ∧ i.r < 2 ∧ i.x = 0 ∧ -128 ≤ i.n ∧ i.n ≤ 127)
  else if i.kind = 5 ∨ i.kind = 6 then decide (i.r = 0 ∧ 0 ≤ i.x ∧ i.x < M ∧ i.n = 0)
  else if i.kind = 7 then decide (0 ≤ i.r ∧ i.r < 2 ∧ 0 ≤ i.x ∧ i.x < n + 1 ∧ i.n = 0)
  else if i.kind = 8 then decide (0 ≤ i.r ∧ i.r < 2 ∧ i.x = 0 ∧ i.n = 0)
  else false

def rightCode (V M : Int) (l : List Ins) : Bool := decide (l.length ≤ 8) && l.all (rightIns V M l.length)

def rightPg (p : Pg) : Bool :=
  decide (0 ≤ p.vars ∧ p.vars ≤ 4 ∧ 0 ≤ p.mutexes ∧ p.mutexes ≤ 2 ∧ 1 ≤ p.threads.length ∧ p.threads.length ≤ 4) && p.threads.all (rightCode p.vars p.mutexes)

def belowB (n e : Int) : Bool := decide (0 ≤ n ∧ n < e)

/-- An instruction as a value. -/
def insV (i : Ins) : Value := .agg #[.int .i64 i.kind, .int .i64 i.r, .int .i64 i.x, .int .i64 i.n]

/-- From the place a on lie, in w, the instructions l. -/
def CodeAt (w : World) (a : Option Addr) (l : List Ins) : Prop :=
  l.length ≤ maxLen ∧ (l ≠ [] → ∃ b o, a = some ⟨b, o, none⟩ ∧ ∀ i (h : i < l.length),
    w.cell? ⟨b, o + i * 4, none⟩ = some (.int .i64 l[i].kind) ∧ w.cell? ⟨b, o + i * 4 + 1, none⟩ = some (.int .i64 l[i].r) ∧
    w.cell? ⟨b, o + i * 4 + 2, none⟩ = some (.int .i64 l[i].x) ∧ w.cell? ⟨b, o + i * 4 + 3, none⟩ = some (.int .i64 l[i].n))

theorem cell_block {w : World} {a : Addr} {v : Value} (h : w.cell? a = some v) : a.block < w.heap.size := by
  unfold World.cell? at h
  rcases Nat.lt_or_ge a.block w.heap.size with h1 | h1
  · exact h1
  · rw [Array.getElem?_eq_none h1] at h; cases h

theorem cell_later {w w' : World} (hb : Go.RowKit.Below w.heap.size w w') {a : Addr} {v : Value} (h : w.cell? a = some v) : w'.cell? a = some v := by
  rw [hb.cell (cell_block h)]; exact h

theorem CodeAt.later {w w' : World} {a : Option Addr} {l : List Ins} (h : CodeAt w a l) (hb : Go.RowKit.Below w.heap.size w w') : CodeAt w' a l := by
  refine ⟨h.1, fun hn => ?_⟩
  obtain ⟨b, o, rfl, hc⟩ := h.2 hn
  refine ⟨b, o, rfl, fun i hi => ?_⟩
  obtain ⟨h0, h1, h2, h3⟩ := hc i hi
  exact ⟨cell_later hb h0, cell_later hb h1, cell_later hb h2, cell_later hb h3⟩

/-- From the place a on lie, in w, the threads ts. -/
def ThreadsAt (w : World) (a : Option Addr) (ts : List (List Ins)) : Prop :=
  ts.length ≤ maxLen ∧ (ts ≠ [] → ∃ b o, a = some ⟨b, o, none⟩ ∧ ∀ i (h : i < ts.length),
    ∃ c cap, w.cell? ⟨b, o + i, none⟩ = some (.slice c ts[i].length cap) ∧ CodeAt w c ts[i] ∧ (c = none → cap = 0))

theorem ThreadsAt.later {w w' : World} {a : Option Addr} {ts : List (List Ins)} (h : ThreadsAt w a ts) (hb : Go.RowKit.Below w.heap.size w w') : ThreadsAt w' a ts := by
  refine ⟨h.1, fun hn => ?_⟩
  obtain ⟨b, o, rfl, hc⟩ := h.2 hn
  refine ⟨b, o, rfl, fun i hi => ?_⟩
  obtain ⟨c, cap, h0, h1, h2⟩ := hc i hi
  exact ⟨c, cap, cell_later hb h0, h1.later hb, h2⟩

/-- The value of a program whose threads lie from a on. -/
def pgV (p : Pg) (a : Option Addr) (cap : Nat) : Value := .agg #[.int .i64 p.vars, .int .i64 p.mutexes, .slice a p.threads.length cap]

theorem rightPg_code {p : Pg} (h : rightPg p = true) {k : Nat} (hk : k < p.threads.length) : p.threads[k].length ≤ 8 ∧ ∀ j (hj : j < p.threads[k].length), rightIns p.vars p.mutexes p.threads[k].length p.threads[k][j] = true := by
  unfold rightPg at h
  rw [Bool.and_eq_true, List.all_eq_true] at h
  have := h.2 _ (List.getElem_mem hk)
  unfold rightCode at this
  rw [Bool.and_eq_true, List.all_eq_true] at this
  exact ⟨by simpa using this.1, fun j hj => this.2 _ (List.getElem_mem hj)⟩

theorem exists_list {α : Type} (n : Nat) (P : Nat → α → Prop) (h : ∀ i, i < n → ∃ x, P i x) : ∃ xs : List α, xs.length = n ∧ ∀ i x, xs[i]? = some x → P i x := by
  induction n with
  | zero => exact ⟨[], rfl, by simp⟩
  | succ n ih =>
    obtain ⟨xs, hl, hx⟩ := ih (fun i hi => h i (by omega))
    obtain ⟨x, hp⟩ := h n (by omega)
    refine ⟨xs ++ [x], by simp [hl], fun i y hy => ?_⟩
    by_cases hi : i < n
    · rw [List.getElem?_append_left (by omega)] at hy; exact hx i y hy
    · rw [List.getElem?_append_right (by omega)] at hy
      have : i - xs.length = 0 := by
        have := (List.getElem?_eq_some_iff.1 hy).1
        simp at this
        omega
      rw [this] at hy
      have hin : i = n := by omega
      subst hin
      simp at hy
      subst hy
      exact hp

end Go.Proofs.YtnldkmcijmbhcaaGreat

/-
  Plain data and plain functions for layer 2: states, what threads do next, steps. Nothing of the translation.
-/
namespace Go.Proofs.YtnldkmcijmbhcaaGreat

structure Ev where
  thread : Int
  kind : Int
  obj : Int
  fail : Bool

instance : DecidableEq Ev := fun a b =>
  decidable_of_iff (a.thread = b.thread ∧ a.kind = b.kind ∧ a.obj = b.obj ∧ a.fail = b.fail) (by cases a; cases b; simp)

def ev0 : Ev := ⟨0, 0, 0, false⟩

/-- A thread: the place, the fuel that is left, two registers. -/
structure Thr where
  at_ : Nat
  fuel : Nat
  r : List Int

def thr0 : Thr := ⟨0, 0, [0, 0]⟩

structure St where
  p : Pg
  ts : List Thr
  v : List Int
  m : List Int

def St.code (s : St) (t : Nat) : List Ins := s.p.threads.getD t []
def St.th (s : St) (t : Nat) : Thr := s.ts.getD t thr0
def St.reg (s : St) (t : Int) (i : Ins) : Int := (s.th t.toNat).r.getD i.r.toNat 0
def St.who (s : St) (x : Int) : Int := s.m.getD x.toNat (-1)
def St.var (s : St) (x : Int) : Int := s.v.getD x.toNat 0
def St.put (s : St) (t : Int) (y : Thr) : St := { s with ts := s.ts.set t.toNat y }

def St.has (s : St) (t : Int) : Prop := 0 ≤ t ∧ t < s.ts.length
instance (s : St) (t : Int) : Decidable (s.has t) := inferInstanceAs (Decidable (_ ∧ _))

/-- The instruction that a thread does next. -/
def St.ins (s : St) (t : Int) : Option Ins :=
  if s.has t ∧ (s.th t.toNat).fuel ≠ 0 then (s.code t.toNat)[(s.th t.toNat).at_]? else none

def St.ev (s : St) (t : Int) (i : Ins) : Ev :=
  if i.kind = 1 then ⟨t, 2, i.x, false⟩
  else if i.kind = 2 then ⟨t, 3, i.x, false⟩
  else if i.kind = 5 then ⟨t, 4, i.x, false⟩
  else if i.kind = 6 then (if s.who i.x = t then ⟨t, 5, i.x, false⟩ else ⟨t, 1, 0, true⟩)
  else if i.kind = 8 then ⟨t, 1, 0, decide (s.reg t i = 0)⟩
  else ⟨t, 1, 0, false⟩

def St.next (s : St) (t : Int) : Option Ev := (s.ins t).map (s.ev t)

def St.may (s : St) (t : Int) : Bool :=
  match s.ins t with
  | none => false
  | some i => decide (i.kind = 5 → s.who i.x < 0)

/-- The thread behind its step. -/
def St.thr (s : St) (t : Int) (i : Ins) : Thr :=
  let x := s.th t.toNat
  { at_ := if i.kind = 7 ∧ s.reg t i ≠ 0 then i.x.toNat else x.at_ + 1
    fuel := x.fuel - 1
    r := if i.kind = 1 then x.r.set i.r.toNat (s.var i.x) else if i.kind = 3 then x.r.set i.r.toNat i.n else if i.kind = 4 then x.r.set i.r.toNat (IntKind.i64.wrap (s.reg t i + i.n)) else x.r }

def St.do_ (s : St) (t : Int) (i : Ins) : St :=
  { p := s.p
    ts := s.ts.set t.toNat (s.thr t i)
    v := if i.kind = 2 then s.v.set i.x.toNat (s.reg t i) else s.v
    m := if i.kind = 5 then s.m.set i.x.toNat t else if i.kind = 6 ∧ s.who i.x = t then s.m.set i.x.toNat (-1) else s.m }

/-- A step: an error, the event, the state behind it. -/
def St.step (s : St) (t : Int) : Int × Ev × St :=
  if s.has t then
    match s.ins t with
    | none => (6, ev0, s)
    | some i => if s.may t = true then (0, s.ev t i, s.do_ t i) else (9, ev0, s)
  else (2, ev0, s)

def St.all (s : St) : List Int := ((List.range s.ts.length).map Int.ofNat).filter s.may

def St.new (p : Pg) (fuel : Nat) : St := ⟨p, p.threads.map fun _ => ⟨0, fuel, [0, 0]⟩, [0, 0, 0, 0], [-1, -1]⟩

def in64 (n : Int) : Prop := -9223372036854775808 ≤ n ∧ n ≤ 9223372036854775807

theorem in64_wrap (n : Int) : in64 (IntKind.i64.wrap n) := by
  unfold in64 IntKind.wrap
  simp [IntKind.signed, IntKind.bits]
  split <;> omega

/-- A state that may be, with at most F fuel a thread. -/
structure St.Ok (F : Nat) (s : St) : Prop where
  f8 : F ≤ 8
  right : rightPg s.p = true
  len : s.ts.length = s.p.threads.length
  vl : s.v.length = 4
  ml : s.m.length = 2
  thr : ∀ x ∈ s.ts, x.r.length = 2 ∧ (∀ n ∈ x.r, in64 n) ∧ x.fuel ≤ F
  place : ∀ k, k < s.ts.length → (s.th k).at_ ≤ (s.code k).length
  vv : ∀ n ∈ s.v, in64 n
  mm : ∀ n ∈ s.m, -1 ≤ n ∧ n < s.ts.length
  free : ∀ k : Nat, s.p.mutexes ≤ k → s.m.getD k (-1) = -1

theorem new_ok {p : Pg} (h : rightPg p = true) (F : Nat) (hF : F ≤ 8) : St.Ok F (St.new p F) := by
  refine ⟨hF, h, by simp [St.new], rfl, rfl, fun x hx => ?_, fun k hk => ?_, ?_, ?_, fun k _ => ?_⟩
  · simp [St.new] at hx
    obtain ⟨_, _, rfl⟩ := hx
    exact ⟨rfl, by simp [in64], Nat.le_refl _⟩
  · simp [St.new] at hk
    simp [St.th, St.new, hk]
  · simp [St.new, in64]
  · simp [St.new]
    omega
  · match k with
    | 0 => rfl
    | 1 => rfl
    | k + 2 => rfl

theorem getD_lt {T : Type} {l : List T} {k : Nat} (d : T) (h : k < l.length) : l.getD k d = l[k] := by
  simp [List.getD, h]

theorem getD_set {T : Type} (l : List T) (j k : Nat) (d y : T) (hj : j < l.length) : (l.set j y).getD k d = if k = j then y else l.getD k d := by
  simp only [List.getD]
  by_cases h : k = j
  · subst h; simp [hj]
  · rw [List.getElem?_set_ne (Ne.symm h), if_neg h]

theorem St.ins_has {s : St} {t : Int} {i : Ins} (h : s.ins t = some i) : s.has t ∧ (s.th t.toNat).fuel ≠ 0 ∧ (s.code t.toNat)[(s.th t.toNat).at_]? = some i := by
  unfold St.ins at h
  split at h
  · rename_i hh; exact ⟨hh.1, hh.2, h⟩
  · cases h

theorem St.th_mem {s : St} {k : Nat} (h : k < s.ts.length) : s.th k ∈ s.ts := by
  unfold St.th
  rw [getD_lt _ h]
  exact List.getElem_mem h

theorem St.Ok.ins_right {F : Nat} {s : St} (h : s.Ok F) {t : Int} {i : Ins} (hi : s.ins t = some i) : rightIns s.p.vars s.p.mutexes (s.code t.toNat).length i = true ∧ (s.code t.toNat).length ≤ 8 := by
  obtain ⟨hh, _, hc⟩ := St.ins_has hi
  have hk : t.toNat < s.p.threads.length := by have := h.len; unfold St.has at hh; omega
  have hcd : s.code t.toNat = s.p.threads[t.toNat] := by unfold St.code; rw [getD_lt _ hk]
  obtain ⟨h8, hr⟩ := rightPg_code h.right hk
  obtain ⟨hj, rfl⟩ := List.getElem?_eq_some_iff.1 hc
  rw [← hcd] at h8
  refine ⟨?_, h8⟩
  have := hr (s.th t.toNat).at_ (by rw [← hcd]; exact hj)
  simpa [hcd] using this

theorem St.step_cases (s : St) (t : Int) : (∃ i, s.ins t = some i ∧ s.may t = true ∧ s.step t = (0, s.ev t i, s.do_ t i)) ∨ ∃ e, (e = 2 ∨ e = 6 ∨ e = 9) ∧ s.step t = (e, ev0, s) := by
  unfold St.step
  split
  · split
    · exact .inr ⟨6, by simp, rfl⟩
    · rename_i i hi
      split
      · rename_i hm; exact .inl ⟨i, hi, hm, rfl⟩
      · exact .inr ⟨9, by simp, rfl⟩
  · exact .inr ⟨2, by simp, rfl⟩

theorem St.may_free {s : St} {t : Int} {i : Ins} (hi : s.ins t = some i) (hm : s.may t = true) (h5 : i.kind = 5) : s.who i.x < 0 := by
  unfold St.may at hm
  rw [hi] at hm
  simpa [h5] using hm

theorem St.th_do (s : St) (t : Int) (i : Ins) (ht : s.has t) (k : Nat) : (s.do_ t i).th k = if k = t.toNat then s.thr t i else s.th k := by
  unfold St.th St.do_
  dsimp only
  exact getD_set _ _ _ _ _ (by unfold St.has at ht; omega)

theorem St.Ok.obj {F : Nat} {s : St} (h : s.Ok F) {t : Int} {i : Ins} (hi : s.ins t = some i) : (i.kind = 1 ∨ i.kind = 2 → 0 ≤ i.x ∧ i.x < 4) ∧ (i.kind = 5 ∨ i.kind = 6 → 0 ≤ i.x ∧ i.x < 2) ∧ (i.kind = 7 → 0 ≤ i.x ∧ i.x ≤ (s.code t.toNat).length) ∧ 0 ≤ i.r ∧ i.r < 2 ∧ in64 i.n := by
  have hr := (h.ins_right hi).1
  have h4 : s.p.vars ≤ 4 ∧ s.p.mutexes ≤ 2 := by
    have := h.right
    unfold rightPg at this
    rw [Bool.and_eq_true, decide_eq_true_eq] at this
    omega
  unfold rightIns at hr
  unfold in64
  split at hr
  · simp only [decide_eq_true_eq] at hr; omega
  split at hr
  · simp only [decide_eq_true_eq] at hr; omega
  split at hr
  · simp only [decide_eq_true_eq] at hr; omega
  split at hr
  · simp only [decide_eq_true_eq] at hr; omega
  split at hr
  · simp only [decide_eq_true_eq] at hr; omega
  · cases hr

theorem St.Ok.objM {F : Nat} {s : St} (h : s.Ok F) {t : Int} {i : Ins} (hi : s.ins t = some i) : i.kind = 5 ∨ i.kind = 6 → 0 ≤ i.x ∧ i.x < s.p.mutexes := by
  intro hk
  have hr := (h.ins_right hi).1
  unfold rightIns at hr
  rw [if_neg (by omega), if_neg (by omega), if_pos hk] at hr
  simp only [decide_eq_true_eq] at hr
  omega

theorem St.Ok.reg64 {F : Nat} {s : St} (h : s.Ok F) {t : Int} (ht : s.has t) (i : Ins) : in64 (s.reg t i) := by
  have hx := (h.thr _ (St.th_mem (s := s) (k := t.toNat) (by unfold St.has at ht; omega))).2.1
  unfold St.reg
  by_cases hk : i.r.toNat < (s.th t.toNat).r.length
  · rw [getD_lt _ hk]; exact hx _ (List.getElem_mem hk)
  · simp [List.getD, List.getElem?_eq_none (Nat.le_of_not_lt hk), in64]

theorem St.Ok.var64 {F : Nat} {s : St} (h : s.Ok F) (x : Int) : in64 (s.var x) := by
  unfold St.var
  by_cases hk : x.toNat < s.v.length
  · rw [getD_lt _ hk]; exact h.vv _ (List.getElem_mem hk)
  · simp [List.getD, List.getElem?_eq_none (Nat.le_of_not_lt hk), in64]

theorem St.Ok.do_ok {F : Nat} {s : St} (h : s.Ok F) {t : Int} {i : Ins} (hi : s.ins t = some i) : (s.do_ t i).Ok F := by
  obtain ⟨ht, hf, hc⟩ := St.ins_has hi
  obtain ⟨o1, o2, o3, o4, o5, o6⟩ := h.obj hi
  have htn : t.toNat < s.ts.length := by unfold St.has at ht; omega
  obtain ⟨q1, q2, q3⟩ := h.thr _ (St.th_mem htn)
  refine ⟨h.f8, h.right, by simpa [St.do_] using h.len, ?_, ?_, fun x hx => ?_, fun k hk => ?_, fun n hn => ?_, fun n hn => ?_, fun k hk => ?_⟩
  · unfold St.do_; dsimp only; split <;> simp [h.vl]
  · unfold St.do_; dsimp only; repeat' split
    all_goals simp [h.ml]
  · rcases List.mem_or_eq_of_mem_set hx with hx | rfl
    · exact h.thr x hx
    · unfold St.thr
      dsimp only
      refine ⟨?_, ?_, by omega⟩
      · repeat' split
        all_goals simp [q1]
      · intro n hn
        split at hn
        · rcases List.mem_or_eq_of_mem_set hn with hn | rfl
          · exact q2 n hn
          · exact h.var64 _
        split at hn
        · rcases List.mem_or_eq_of_mem_set hn with hn | rfl
          · exact q2 n hn
          · exact o6
        split at hn
        · rcases List.mem_or_eq_of_mem_set hn with hn | rfl
          · exact q2 n hn
          · exact in64_wrap _
        · exact q2 n hn
  · rw [St.th_do s t i ht]
    have hk' : k < s.ts.length := by simpa [St.do_] using hk
    have hcd : (s.do_ t i).code k = s.code k := rfl
    rw [hcd]
    split
    · rename_i e
      subst e
      unfold St.thr
      dsimp only
      split
      · rename_i h7; have := o3 h7.1; omega
      · exact (List.getElem?_eq_some_iff.1 hc).1
    · exact h.place k hk'
  · unfold St.do_ at hn
    dsimp only at hn
    split at hn
    · rcases List.mem_or_eq_of_mem_set hn with hn | rfl
      · exact h.vv n hn
      · exact h.reg64 ht i
    · exact h.vv n hn
  · have hl : (s.do_ t i).ts.length = s.ts.length := by simp [St.do_]
    rw [hl]
    unfold St.do_ at hn
    dsimp only at hn
    unfold St.has at ht
    split at hn
    · rcases List.mem_or_eq_of_mem_set hn with hn | rfl
      · exact h.mm n hn
      · omega
    split at hn
    · rcases List.mem_or_eq_of_mem_set hn with hn | rfl
      · exact h.mm n hn
      · omega
    · exact h.mm n hn
  · have hk' : s.p.mutexes ≤ k := hk
    have hx := h.objM hi
    unfold St.do_
    dsimp only
    split
    · rename_i h5
      have := hx (.inl h5)
      rw [getD_set _ _ _ _ _ (by have := o2 (.inl h5); have := h.ml; omega), if_neg (by omega)]
      exact h.free k hk'
    split
    · rename_i h6
      have := hx (.inr h6.1)
      rw [getD_set _ _ _ _ _ (by have := o2 (.inr h6.1); have := h.ml; omega), if_neg (by omega)]
      exact h.free k hk'
    · exact h.free k hk'

theorem St.Ok.step_ok {F : Nat} {s : St} (h : s.Ok F) (t : Int) : (s.step t).2.2.Ok F := by
  rcases s.step_cases t with ⟨i, hi, _, e⟩ | ⟨e, _, e'⟩
  · rw [e]; exact h.do_ok hi
  · rw [e']; exact h

/-- Who has a mutex behind a step. -/
theorem St.Ok.who_do {F : Nat} {s : St} (h : s.Ok F) {t : Int} {i : Ins} (hi : s.ins t = some i) (x : Int) : (s.do_ t i).who x =
    if i.kind = 5 ∧ x.toNat = i.x.toNat then t else if i.kind = 6 ∧ s.who i.x = t ∧ x.toNat = i.x.toNat then -1 else s.who x := by
  obtain ⟨o1, o2, o3, o4, o5, o6⟩ := h.obj hi
  have hml := h.ml
  have e0 : (s.do_ t i).who x = (if i.kind = 5 then s.m.set i.x.toNat t else if i.kind = 6 ∧ s.who i.x = t then s.m.set i.x.toNat (-1) else s.m).getD x.toNat (-1) := rfl
  rw [e0]
  by_cases h5 : i.kind = 5
  · have := o2 (.inl h5)
    rw [if_pos h5, getD_set _ _ _ _ _ (by omega)]
    simp [h5, St.who]
  · rw [if_neg h5]
    by_cases h6 : i.kind = 6 ∧ s.who i.x = t
    · have := o2 (.inr h6.1)
      rw [if_pos h6, getD_set _ _ _ _ _ (by omega)]
      rw [if_neg (c := i.kind = 5 ∧ x.toNat = i.x.toNat) (fun e => h5 e.1)]
      by_cases hx : x.toNat = i.x.toNat
      · rw [if_pos hx, if_pos ⟨h6.1, h6.2, hx⟩]
      · rw [if_neg hx, if_neg (fun e => hx e.2.2)]
        rfl
    · rw [if_neg h6, if_neg (by simp [h5]), if_neg (by intro h; exact h6 ⟨h.1, h.2.1⟩)]
      rfl

theorem St.who_eq {s : St} {x y : Int} (h : x.toNat = y.toNat) : s.who x = s.who y := by
  unfold St.who; rw [h]

/-- P2.3: what another thread does next stays. -/
theorem St.Ok.next_do {F : Nat} {s : St} (h : s.Ok F) {t : Int} {i : Ins} (hi : s.ins t = some i) (hm : s.may t = true) {u : Int} (hu : u ≠ t) : (s.do_ t i).next u = s.next u := by
  obtain ⟨ht, _, _⟩ := St.ins_has hi
  have hl : (s.do_ t i).ts.length = s.ts.length := by simp [St.do_]
  have hh : (s.do_ t i).has u ↔ s.has u := by unfold St.has; rw [hl]
  by_cases hu' : s.has u
  · have hth : (s.do_ t i).th u.toNat = s.th u.toNat := by
      rw [St.th_do s t i ht, if_neg]
      unfold St.has at ht hu'
      omega
    have hins : (s.do_ t i).ins u = s.ins u := by
      unfold St.ins
      rw [hth]
      simp only [hh]
      rfl
    unfold St.next
    rw [hins]
    cases hn : s.ins u with
    | none => rfl
    | some j =>
      simp only [Option.map_some]
      have hwho : ((s.do_ t i).who j.x = u) ↔ (s.who j.x = u) := by
        rw [h.who_do hi]
        unfold St.has at hu' ht
        split
        · rename_i h5
          have := St.may_free hi hm h5.1
          rw [St.who_eq h5.2]
          constructor <;> intro e <;> omega
        split
        · rename_i h6
          rw [St.who_eq h6.2.2]
          have := h6.2.1
          constructor <;> intro e <;> omega
        · rfl
      have hreg : (s.do_ t i).reg u j = s.reg u j := by unfold St.reg; rw [hth]
      unfold St.ev
      simp only [hwho, hreg]
  · unfold St.next St.ins
    rw [if_neg (by rw [hh]; exact fun e => hu' e.1), if_neg (fun e => hu' e.1)]
    rfl

theorem St.Ok.next_step {F : Nat} {s : St} (h : s.Ok F) (t : Int) {u : Int} (hu : u ≠ t) : (s.step t).2.2.next u = s.next u := by
  rcases s.step_cases t with ⟨i, hi, hm, e⟩ | ⟨e, _, e'⟩
  · rw [e]; exact h.next_do hi hm hu
  · rw [e']

/-- A variable behind a step. -/
theorem St.Ok.var_do {F : Nat} {s : St} (h : s.Ok F) {t : Int} {i : Ins} (hi : s.ins t = some i) (x : Int) : (s.do_ t i).var x = if i.kind = 2 ∧ x.toNat = i.x.toNat then s.reg t i else s.var x := by
  obtain ⟨o1, o2, o3, o4, o5, o6⟩ := h.obj hi
  have hvl := h.vl
  have e0 : (s.do_ t i).var x = (if i.kind = 2 then s.v.set i.x.toNat (s.reg t i) else s.v).getD x.toNat 0 := rfl
  rw [e0]
  by_cases h2 : i.kind = 2
  · have := o1 (.inr h2)
    rw [if_pos h2, getD_set _ _ _ _ _ (by omega)]
    simp only [h2, true_and]
    rfl
  · rw [if_neg h2, if_neg (fun e => h2 e.1)]
    rfl

/-- All fuel that is left. -/
def St.fuel (s : St) : Nat := (s.ts.map Thr.fuel).sum

theorem sum_set (l : List Nat) (k y : Nat) (h : k < l.length) : (l.set k y).sum + l[k] = l.sum + y := by
  induction l generalizing k with
  | nil => simp at h
  | cons a l ih =>
    cases k with
    | zero => simp; omega
    | succ k => simp at h ⊢; have := ih k h; omega

theorem St.fuel_do {s : St} {t : Int} {i : Ins} (hi : s.ins t = some i) : (s.do_ t i).fuel + 1 = s.fuel := by
  obtain ⟨ht, hf, _⟩ := St.ins_has hi
  have htn : t.toNat < s.ts.length := by unfold St.has at ht; omega
  have e1 : (s.do_ t i).fuel = ((s.ts.map Thr.fuel).set t.toNat ((s.th t.toNat).fuel - 1)).sum := by
    unfold St.fuel St.do_ St.thr
    dsimp only
    rw [List.map_set]
  have e2 := sum_set (s.ts.map Thr.fuel) t.toNat ((s.th t.toNat).fuel - 1) (by simpa using htn)
  have e3 : (s.ts.map Thr.fuel)[t.toNat]'(by simpa using htn) = (s.th t.toNat).fuel := by
    unfold St.th; rw [getD_lt _ htn]; simp
  rw [e3] at e2
  rw [e1]
  unfold St.fuel
  omega

/-- The same state but for fuel: d more a thread. -/
def St.More (d : Nat) (s s' : St) : Prop := s' = { s with ts := s.ts.map fun x => { x with fuel := x.fuel + d } }

theorem St.More.step {d : Nat} {s s' : St} (h : s.More d s') {t : Int} (h0 : (s.step t).1 = 0) : (s'.step t).1 = 0 ∧ (s'.step t).2.1 = (s.step t).2.1 ∧ (s.step t).2.2.More d (s'.step t).2.2 := by
  rcases s.step_cases t with ⟨i, hi, hm, e⟩ | ⟨e, he, e'⟩
  · obtain ⟨ht, hf, hc⟩ := St.ins_has hi
    have htn : t.toNat < s.ts.length := by unfold St.has at ht; omega
    have hth : s'.th t.toNat = { s.th t.toNat with fuel := (s.th t.toNat).fuel + d } := by
      unfold St.th
      rw [h, getD_lt _ htn, getD_lt _ (by simpa using htn)]
      simp
    have hp : s'.p = s.p := by rw [h]
    have hv : s'.v = s.v := by rw [h]
    have hmm : s'.m = s.m := by rw [h]
    have hh : s'.has t := by unfold St.has at ht ⊢; rw [h]; simpa using ht
    have hins : s'.ins t = some i := by
      unfold St.ins
      rw [if_pos ⟨hh, by rw [hth]; dsimp only; omega⟩, hth]
      unfold St.code at hc ⊢
      rw [hp]
      exact hc
    have hwho : ∀ x, s'.who x = s.who x := fun x => by unfold St.who; rw [hmm]
    have hvar : ∀ x, s'.var x = s.var x := fun x => by unfold St.var; rw [hv]
    have hreg : s'.reg t i = s.reg t i := by unfold St.reg; rw [hth]
    have hmay : s'.may t = true := by
      unfold St.may at hm ⊢
      rw [hi] at hm
      rw [hins]
      simpa [hwho] using hm
    have hev : s'.ev t i = s.ev t i := by unfold St.ev; simp only [hwho, hreg]
    have hst : s'.step t = (0, s'.ev t i, s'.do_ t i) := by
      unfold St.step
      rw [if_pos hh, hins]
      simp only [hmay, if_true]
    rw [hst, e]
    refine ⟨rfl, hev, ?_⟩
    have hthr : s'.thr t i = { s.thr t i with fuel := (s.thr t i).fuel + d } := by
      unfold St.thr
      simp only [hth, hreg, hvar]
      congr 1
      omega
    unfold St.More St.do_
    dsimp only
    rw [hthr]
    simp only [hwho, hreg, hp, hv, hmm, List.map_set]
    rw [h]
  · rw [e'] at h0
    dsimp only at h0
    omega

end Go.Proofs.YtnldkmcijmbhcaaGreat

/- Memory: rows of numbers and of events, boxes, worlds that differ in a block. No function of the program. -/
namespace Go.RowKit
theorem Below.drewN {B : Nat} {a w : World} (h : Below B a w) {n : Nat} : Below B a (w.drewN n) := ⟨h.os, h.tape, h.output, h.size, h.block⟩
end Go.RowKit
namespace Go.Proofs.YtnldkmcijmbhcaaGreat
open Go.RowKit

theorem ret_bool {a b : Bool} (h : a = b) : Ending.returned (.bool a) = .returned (.bool b) := by rw [h]
theorem below_alloc1 (w : World) (o : Obj) : Below w.heap.size w (w.alloc o) := (Below.refl _ _).alloc (Nat.le_refl _) _
theorem below_alloc2 (w : World) (o o2 : Obj) : Below w.heap.size w ((w.alloc o).alloc o2) := ((Below.refl _ _).alloc (Nat.le_refl _) _).alloc (by simp) _

/-- All but block b is as it was. -/
structure Only (b : Nat) (w w' : World) : Prop where
  os : w'.os = w.os
  tape : w'.tape = w.tape
  output : w'.output = w.output
  size : w.heap.size ≤ w'.heap.size
  block : ∀ k, k < w.heap.size → k ≠ b → w'.heap[k]? = w.heap[k]?

theorem Only.refl (b : Nat) (w : World) : Only b w w := ⟨rfl, rfl, rfl, Nat.le_refl _, fun _ _ _ => rfl⟩
theorem Only.trans {b : Nat} {u v w : World} (h : Only b u v) (k : Only b v w) : Only b u w :=
  ⟨k.os.trans h.os, k.tape.trans h.tape, k.output.trans h.output, Nat.le_trans h.size k.size, fun i hi hb => (k.block i (Nat.lt_of_lt_of_le hi h.size) hb).trans (h.block i hi hb)⟩
theorem Only.of_below {b : Nat} {w w' : World} (h : Below w.heap.size w w') : Only b w w' := ⟨h.os, h.tape, h.output, h.size, fun k hk _ => h.block k hk⟩
theorem Only.drew {b : Nat} {w w' : World} (h : Only b w w') : Only b w w'.drew := ⟨h.os, h.tape, h.output, h.size, h.block⟩
theorem Only.alloc {b : Nat} {w w' : World} (h : Only b w w') (o : Obj) : Only b w (w'.alloc o) := h.trans (.of_below ((Below.refl _ _).alloc (Nat.le_refl _) _))
theorem Only.setCell {b : Nat} {w w' : World} (h : Only b w w') (o : Nat) (v : Value) : Only b w (w'.setCell ⟨b, o, none⟩ v) :=
  h.trans ⟨rfl, rfl, rfl, by simp [World.setCell], fun k _ hb => Below.heap_setCell _ _ _ _ hb⟩
theorem Only.below {b B : Nat} {w w' : World} (h : Only b w w') (hB : B ≤ b) (hw : B ≤ w.heap.size) : Below B w w' :=
  ⟨h.os, h.tape, h.output, h.size, fun k hk => h.block k (by omega) (by omega)⟩
def evV (e : Ev) : Value := .agg #[.int .i64 e.thread, .int .i64 e.kind, .int .i64 e.obj, .bool e.fail]

theorem below_set4 {B g : Nat} {a w : World} (h : Below B a w) (hg : B ≤ g) (v0 v1 v2 v3 : Value) : Below B a ((((w.setCell ⟨g, 0, none⟩ v0).setCell ⟨g, 1, none⟩ v1).setCell ⟨g, 2, none⟩ v2).setCell ⟨g, 3, none⟩ v3) :=
  (((h.setCell (p := ⟨g, 0, none⟩) hg _).setCell (p := ⟨g, 1, none⟩) hg _).setCell (p := ⟨g, 2, none⟩) hg _).setCell (p := ⟨g, 3, none⟩) hg _

theorem evV_mk (t k o : Int) (f : Bool) : evV ⟨t, k, o, f⟩ = .agg #[.int .i64 t, .int .i64 k, .int .i64 o, .bool f] := rfl

/-- A row of numbers of the call's own. -/
def OwnN (w : World) (B : Nat) (v : Value) (ns : List Int) : Prop := w.ownsRow B 3 1 v ns.length (ns.map (Value.int .i64))
theorem OwnN.alloc {w : World} {B : Nat} {v : Value} {l : List Int} (h : OwnN w B v l) (o : Obj) : OwnN (w.alloc o) B v l := World.ownsRow.alloc h o
theorem ownN_nil (w : World) (B : Nat) : OwnN w B (.slice none 0 0) [] := World.ownsRow_nil w B _ _
theorem ownsRow_later {w w' : World} {base : Nat} {e : TypeId} {size : Nat} {v : Value} {n : Nat} {xs : List Value} (h : w.ownsRow base e size v n xs) (hb : Below w.heap.size w w') : w'.ownsRow base e size v n xs := by
  obtain ⟨h1, h2 | ⟨g, cap, cur, h2, h3, h4, h5⟩⟩ := h
  · exact ⟨h1, .inl h2⟩
  · exact ⟨h1, .inr ⟨g, cap, cur, h2, h3, (hb.block g (Array.getElem?_eq_some_iff.1 h4).1).trans h4, h5⟩⟩
theorem OwnN.later {w w' : World} {B : Nat} {v : Value} {l : List Int} (h : OwnN w B v l) (hb : Below w.heap.size w w') : OwnN w' B v l := ownsRow_later h hb

theorem nums_new (w : World) (ms : List Int) (t : TypeId) (g : Nat) (hg : g = w.heap.size) : ∀ j u, (ms.map (Value.int .i64))[j]? = some u → (w.alloc (.cells (ms.map (Value.int .i64)).toArray t)).cell? (Addr.add ⟨g, 0, none⟩ j) = some u := by
  subst hg
  intro j u hj
  have e : Addr.add ⟨w.heap.size, 0, none⟩ j = ⟨w.heap.size, j, none⟩ := by
    unfold Addr.add
    split
    · rename_i h0; subst h0; rfl
    · simp
  rw [e, World.cell?_alloc_new]
  simpa using hj

theorem wp_appendN {w : World} {ops : Array Oper} {rest : List Oper} {o : Oper} {a : Act} {Q : Exit → Act → World → Prop} (hgd : o.guard = none) (s x : Operand)
    (ho : o.op = .call { callee := .builtin .append, args := #[s, x], argTypes := #[76, 76] }) (B : Nat) (v : Value) (ns : List Int) (hs : a.eval s = v) (hown : OwnN w B v ns)
    (ad : Addr) (m c : Nat) (hx : a.eval x = .slice (some ad) m c) (ms : List Int) (hm : ms.length = m) (hnews : ∀ j u, (ms.map (Value.int .i64))[j]? = some u → w.cell? (ad.add j) = some u)
    (hlen : ns.length + m ≤ 1000000000) (hB : B ≤ w.heap.size)
    (h : ∀ v' w', OwnN w' B v' (ns ++ ms) → Below B w w' → w.grownBy w' v.ownBlock → wpList Tryz.prog ops Q rest (a.put o.dst v') w') : wpList Tryz.prog ops Q (o :: rest) a w := by
  have hinfo : (Tryz.prog.info? 3).map (fun i => (i.zero, i.size, i.bytes)) = some (some (.int .i64 0), 1, 8) := by kernel_rfl
  obtain ⟨i, hi, hzz⟩ := Option.map_eq_some_iff.1 hinfo
  simp only [Prod.mk.injEq] at hzz
  obtain ⟨hz, hsz, hby⟩ := hzz
  refine wpList_append_own w hgd s x 76 ho B 3 i (.int .i64 0) 1 8 Tryz.underlying76 hi hz hsz hby rfl (by decide) v ns.length (ns.map (Value.int .i64)) hs hown ad m c (ms.map (Value.int .i64)) hx (by simp [hm]) hnews
    (by intro u hu; obtain ⟨y, _, rfl⟩ := List.mem_map.1 hu; rfl) (by unfold maxLen; omega) (by omega) hB ?_
  intro v' w' h1 h2 _
  refine h v' w' ?_ ((Below.refl B w).grown h2 hB (fun k hk => (World.ownsRow.lt hown k hk).1)) h2
  unfold OwnN
  rw [List.length_append, List.map_append, hm]
  exact h1

/-- From the place a on lie, in w, the numbers ns. -/
def NumsAt (w : World) (a : Option Addr) (ns : List Int) : Prop :=
  ns.length ≤ maxLen ∧ (ns ≠ [] → ∃ b o, a = some ⟨b, o, none⟩ ∧ ∀ i (h : i < ns.length), w.cell? ⟨b, o + i, none⟩ = some (.int .i64 ns[i]))

theorem NumsAt.later {w w' : World} {a : Option Addr} {ns : List Int} (h : NumsAt w a ns) (hb : Below w.heap.size w w') : NumsAt w' a ns := by
  refine ⟨h.1, fun hn => ?_⟩
  obtain ⟨b, o, rfl, hc⟩ := h.2 hn
  exact ⟨b, o, rfl, fun i hi => cell_later hb (hc i hi)⟩

theorem OwnN.form {w : World} {B : Nat} {v : Value} {ns : List Int} (h : OwnN w B v ns) (hm : ns.length ≤ 1000000) : ∃ a cap, v = .slice a ns.length cap ∧ NumsAt w a ns ∧ (a = none → cap = 0) := by
  obtain ⟨h1, ⟨h2, h3⟩ | ⟨g, cap, cur, h2, h3, h4, h5, h6, h7, h8⟩⟩ := h
  · have e : ns = [] := List.eq_nil_of_length_eq_zero h3
    subst e
    exact ⟨none, 0, h2, ⟨by simp [maxLen], fun h => absurd rfl h⟩, fun _ => rfl⟩
  · refine ⟨some ⟨g, 0, none⟩, cap, h2, ⟨by unfold maxLen; omega, fun _ => ⟨g, 0, rfl, fun i hi => ?_⟩⟩, by simp⟩
    have hj : (ns.map (Value.int .i64))[i]? = some (.int .i64 ns[i]) := by simp [hi]
    rw [← h8, List.getElem?_take_of_lt (by omega)] at hj
    simp [World.cell?, h4]
    simpa using hj

theorem run_part_one {P : Program} (w : World) {t : TypeId} {d : TypeDesc} {xs : Array Value} {o : Nat} {v : Value} (hu : P.underlying t = some d) (hd : (match d with | .struct _ | .array _ _ => true | _ => false) = false) (hx : xs[o]? = some v) : (part t xs o).run P w = .ok v w := by
  have hagg : (isAgg t).run P w = .ok false w := by
    unfold isAgg
    rw [Sem.run_bind, run_underlying hu w]
    cases d <;> simp_all
  simp [part, hagg, hx]

theorem run_eqFields_consI {P : Program} (w : World) (d : Nat) (xs ys : Array Value) (f : Field) (fs : List Field) (k k' : IntKind) (a b : Int) (hn : f.name ≠ "_") (hu : P.underlying f.type = some (.int k'))
    (hx : xs[f.offset]? = some (.int k a)) (hy : ys[f.offset]? = some (.int k b)) :
    (Op.eqFields (d + 1) xs ys (f :: fs)).run P w = if a == b then (Op.eqFields (d + 1) xs ys fs).run P w else .ok false w := by
  rw [Op.eqFields, if_pos hn]
  simp only [Sem.run_bind, run_part_one w hu rfl hx, run_part_one w hu rfl hy, Result.andThen_ok, run_equalIn_int w d f.type k k' a b hu]
  cases h : (a == b) <;> simp

theorem run_eqFields_consB {P : Program} (w : World) (d : Nat) (xs ys : Array Value) (f : Field) (fs : List Field) (a b : Bool) (hn : f.name ≠ "_") (hu : P.underlying f.type = some .bool)
    (hx : xs[f.offset]? = some (.bool a)) (hy : ys[f.offset]? = some (.bool b)) :
    (Op.eqFields (d + 1) xs ys (f :: fs)).run P w = if a == b then (Op.eqFields (d + 1) xs ys fs).run P w else .ok false w := by
  rw [Op.eqFields, if_pos hn]
  simp only [Sem.run_bind, run_part_one w hu rfl hx, run_part_one w hu rfl hy, Result.andThen_ok, run_equalIn_bool w d f.type a b hu]
  cases h : (a == b) <;> simp

set_option maxRecDepth 100000 in
theorem run_equal_ev (e e' : Ev) (w : World) :
    (Op.equalIn 10000 81 (.agg #[.int .i64 e.thread, .int .i64 e.kind, .int .i64 e.obj, .bool e.fail]) (.agg #[.int .i64 e'.thread, .int .i64 e'.kind, .int .i64 e'.obj, .bool e'.fail])).run Tryz.prog w = .ok (decide (e = e')) w := by
  have hd : decide (e = e') = ((e.thread == e'.thread) && ((e.kind == e'.kind) && ((e.obj == e'.obj) && (e.fail == e'.fail)))) := by
    obtain ⟨a, b, c, d⟩ := e
    obtain ⟨a', b', c', d'⟩ := e'
    rw [Bool.eq_iff_iff]
    simp
  rw [hd]
  obtain ⟨a, b, c, d⟩ := e
  obtain ⟨a', b', c', d'⟩ := e'
  dsimp only
  clear hd
  have ht : Tryz.prog.underlying 81 = some (.struct (Tryz.prog.fieldsOf 81)) := by kernel_rfl
  have hp : Tryz.prog.stoodInHeld 81 = false := by kernel_rfl
  rw [run_equalIn_agg (P := Tryz.prog) w 9999 _ _ _ ht hp]
  unfold Program.fieldsOf
  rw [Tryz.underlying81]
  dsimp only
  rw [run_eqFields_consI (P := Tryz.prog) w 9998 _ _ _ _ .i64 .i64 a a' (by simp) Tryz.underlying3 rfl rfl]
  rw [run_eqFields_consI (P := Tryz.prog) w 9998 _ _ _ _ .i64 .i64 b b' (by simp) Tryz.underlying3 rfl rfl]
  rw [run_eqFields_consI (P := Tryz.prog) w 9998 _ _ _ _ .i64 .i64 c c' (by simp) Tryz.underlying3 rfl rfl]
  rw [run_eqFields_consB (P := Tryz.prog) w 9998 _ _ _ _ d d' (by simp) Tryz.underlying4 rfl rfl]
  rw [Op.eqFields]
  cases (a == a') <;> cases (b == b') <;> cases (c == c') <;> cases (d == d') <;> simp

/-- An event in a box. -/
def EvBox (w : World) (g : Nat) (e : Ev) : Prop := w.heap[g]? = some (.cells #[.int .i64 e.thread, .int .i64 e.kind, .int .i64 e.obj, .bool e.fail] 81 (0, 0))
theorem EvBox.lt {w : World} {g : Nat} {e : Ev} (h : EvBox w g e) : g < w.heap.size := (Array.getElem?_eq_some_iff.1 h).1
theorem EvBox.only {w w' : World} {b g : Nat} {e : Ev} (h : EvBox w g e) (ho : Only b w w') (hb : g ≠ b) : EvBox w' g e := (ho.block g h.lt hb).trans h
theorem EvBox.later {w w' : World} {g : Nat} {e : Ev} (h : EvBox w g e) (hb : Below w.heap.size w w') : EvBox w' g e := (hb.block g h.lt).trans h
theorem EvBox.new (w : World) (e : Ev) : EvBox (w.alloc (.cells #[.int .i64 e.thread, .int .i64 e.kind, .int .i64 e.obj, .bool e.fail] 81)) w.heap.size e := heap_alloc_new w _
theorem EvBox.cells {w : World} {g : Nat} {e : Ev} (h : EvBox w g e) : w.cell? ⟨g, 0, none⟩ = some (.int .i64 e.thread) ∧ w.cell? ⟨g, 1, none⟩ = some (.int .i64 e.kind) ∧ w.cell? ⟨g, 2, none⟩ = some (.int .i64 e.obj) ∧ w.cell? ⟨g, 3, none⟩ = some (.bool e.fail) := by
  simp [World.cell?, show w.heap[g]? = _ from h]

def evCell (e : Ev) : List Value := [.int .i64 e.thread, .int .i64 e.kind, .int .i64 e.obj, .bool e.fail]
def evCells (l : List Ev) : List Value := l.flatMap evCell
theorem evCells_length (l : List Ev) : (evCells l).length = l.length * 4 := by
  induction l with
  | nil => rfl
  | cons i l ih => simp only [evCells, evCell, List.flatMap_cons, List.length_append, List.length_cons, List.length_nil] at *; omega
theorem evCells_append (a b : List Ev) : evCells (a ++ b) = evCells a ++ evCells b := by simp [evCells]
theorem evCells_get (l : List Ev) (i j : Nat) (h : i < l.length) (hj : j < 4) : (evCells l)[i * 4 + j]? = (evCell l[i])[j]? := by
  induction l generalizing i with
  | nil => simp at h
  | cons x l ih =>
    cases i with
    | zero =>
      simp only [evCells, List.flatMap_cons, Nat.zero_mul, Nat.zero_add, List.getElem_cons_zero]
      rw [List.getElem?_append_left (by simpa [evCell] using hj)]
    | succ i =>
      have := ih i (by simpa using h)
      simp only [evCells, List.flatMap_cons, List.getElem_cons_succ] at *
      rw [List.getElem?_append_right (by simp [evCell]; omega), ← this]
      congr 1
      simp [evCell]
      omega
theorem evCells_one (l : List Ev) : ∀ v ∈ evCells l, v.oneCell' = true := by
  intro v hv
  simp only [evCells, List.mem_flatMap] at hv
  obtain ⟨i, _, hv⟩ := hv
  simp [evCell] at hv
  rcases hv with rfl | rfl | rfl | rfl <;> rfl

/-- A row of events of the call's own. -/
def OwnE (w : World) (B : Nat) (v : Value) (es : List Ev) : Prop := w.ownsRow B 81 4 v es.length (evCells es)
theorem OwnE.alloc {w : World} {B : Nat} {v : Value} {l : List Ev} (h : OwnE w B v l) (o : Obj) : OwnE (w.alloc o) B v l := World.ownsRow.alloc h o
theorem ownE_nil (w : World) (B : Nat) : OwnE w B (.slice none 0 0) [] := World.ownsRow_nil w B _ _
theorem OwnE.later {w w' : World} {B : Nat} {v : Value} {l : List Ev} (h : OwnE w B v l) (hb : Below w.heap.size w w') : OwnE w' B v l := ownsRow_later h hb
theorem ownsRow_only {w w' : World} {g base : Nat} {e : TypeId} {size : Nat} {v : Value} {n : Nat} {xs : List Value} (h : w.ownsRow base e size v n xs) (ho : Only g w w') (hg : g < base) : w'.ownsRow base e size v n xs := by
  obtain ⟨h1, h2 | ⟨b, cap, cur, h2, h3, h4, h5⟩⟩ := h
  · exact ⟨h1, .inl h2⟩
  · exact ⟨h1, .inr ⟨b, cap, cur, h2, h3, (ho.block b (Array.getElem?_eq_some_iff.1 h4).1 (by omega)).trans h4, h5⟩⟩
theorem OwnE.only {w w' : World} {B g : Nat} {v : Value} {l : List Ev} (h : OwnE w B v l) (ho : Only g w w') (hg : g < B) : OwnE w' B v l := ownsRow_only h ho hg

theorem ev_new (w : World) (e : Ev) (t : TypeId) (g : Nat) (hg : g = w.heap.size) : ∀ j u, (evCells [e])[j]? = some u → (w.alloc (.cells #[.int .i64 e.thread, .int .i64 e.kind, .int .i64 e.obj, .bool e.fail] t)).cell? (Addr.add ⟨g, 0, none⟩ j) = some u := by
  subst hg
  intro j u hj
  have e : Addr.add ⟨w.heap.size, 0, none⟩ j = ⟨w.heap.size, j, none⟩ := by
    unfold Addr.add
    split
    · rename_i h0; subst h0; rfl
    · simp
  rw [e, World.cell?_alloc_new]
  simpa [evCells, evCell] using hj

theorem wp_appendE {w : World} {ops : Array Oper} {rest : List Oper} {o : Oper} {a : Act} {Q : Exit → Act → World → Prop} (hgd : o.guard = none) (s x : Operand)
    (ho : o.op = .call { callee := .builtin .append, args := #[s, x], argTypes := #[57, 57] }) (B : Nat) (v : Value) (es : List Ev) (hs : a.eval s = v) (hown : OwnE w B v es)
    (ad : Addr) (hx : a.eval x = .slice (some ad) 1 1) (e : Ev) (hnews : ∀ j u, (evCells [e])[j]? = some u → w.cell? (ad.add j) = some u)
    (hlen : es.length ≤ 1000000) (hB : B ≤ w.heap.size)
    (h : ∀ v' w', OwnE w' B v' (es ++ [e]) → Below B w w' → wpList Tryz.prog ops Q rest (a.put o.dst v') w') : wpList Tryz.prog ops Q (o :: rest) a w := by
  have hinfo : (Tryz.prog.info? 81).map (fun i => (i.zero, i.size, i.bytes)) = some (some (.agg #[.int .i64 0, .int .i64 0, .int .i64 0, .bool false]), 4, 32) := by kernel_rfl
  obtain ⟨t, hi, hzz⟩ := Option.map_eq_some_iff.1 hinfo
  simp only [Prod.mk.injEq] at hzz
  obtain ⟨hz, hsz, hby⟩ := hzz
  refine wpList_append_own w hgd s x 57 ho B 81 t (.agg #[.int .i64 0, .int .i64 0, .int .i64 0, .bool false]) 4 32 Tryz.underlying57 hi hz hsz hby rfl (by decide) v es.length (evCells es) hs hown ad 1 1 (evCells [e]) hx rfl hnews
    (evCells_one _) (by unfold maxLen; omega) (by omega) hB ?_
  intro v' w' h1 h2 _
  refine h v' w' ?_ ((Below.refl B w).grown h2 hB (fun k hk => (World.ownsRow.lt hown k hk).1))
  unfold OwnE
  rw [List.length_append, evCells_append]
  exact h1

/-- From the place a on lie, in w, the events es. -/
def EvsAt (w : World) (a : Option Addr) (es : List Ev) : Prop :=
  es.length ≤ maxLen ∧ (es ≠ [] → ∃ b o, a = some ⟨b, o, none⟩ ∧ ∀ i (h : i < es.length), w.cell? ⟨b, o + i * 4, none⟩ = some (.int .i64 es[i].thread) ∧ w.cell? ⟨b, o + i * 4 + 1, none⟩ = some (.int .i64 es[i].kind) ∧
    w.cell? ⟨b, o + i * 4 + 2, none⟩ = some (.int .i64 es[i].obj) ∧ w.cell? ⟨b, o + i * 4 + 3, none⟩ = some (.bool es[i].fail))
theorem EvsAt.later {w w' : World} {a : Option Addr} {es : List Ev} (h : EvsAt w a es) (hb : Below w.heap.size w w') : EvsAt w' a es := by
  refine ⟨h.1, fun hn => ?_⟩
  obtain ⟨b, o, rfl, hc⟩ := h.2 hn
  refine ⟨b, o, rfl, fun i hi => ?_⟩
  obtain ⟨h0, h1, h2, h3⟩ := hc i hi
  exact ⟨cell_later hb h0, cell_later hb h1, cell_later hb h2, cell_later hb h3⟩
theorem evsAt_nil (w : World) (a : Option Addr) : EvsAt w a [] := ⟨by simp [maxLen], fun h => absurd rfl h⟩

theorem OwnE.form {w : World} {B : Nat} {v : Value} {es : List Ev} (h : OwnE w B v es) (hm : es.length ≤ 1000000) : ∃ a cap, v = .slice a es.length cap ∧ EvsAt w a es := by
  obtain ⟨h1, ⟨h2, h3⟩ | ⟨g, cap, cur, h2, h3, h4, h5, h6, h7, h8⟩⟩ := h
  · have e : es = [] := List.eq_nil_of_length_eq_zero h3
    subst e
    exact ⟨none, 0, h2, evsAt_nil _ _⟩
  · have hcell : ∀ j u, (evCells es)[j]? = some u → w.cell? ⟨g, j, none⟩ = some u := by
      intro j u hj
      have hjl : j < es.length * 4 := by
        have := (List.getElem?_eq_some_iff.1 hj).1
        rw [evCells_length] at this
        exact this
      rw [← h8, List.getElem?_take_of_lt (by omega)] at hj
      simp [World.cell?, h4]
      simpa using hj
    refine ⟨some ⟨g, 0, none⟩, cap, h2, ⟨by unfold maxLen; omega, fun _ => ⟨g, 0, rfl, fun i hi => ?_⟩⟩⟩
    simp only [Nat.zero_add]
    exact ⟨hcell _ _ (evCells_get es i 0 hi (by omega)), hcell _ _ (evCells_get es i 1 hi (by omega)), hcell _ _ (evCells_get es i 2 hi (by omega)), hcell _ _ (evCells_get es i 3 hi (by omega))⟩


theorem add_row (b o k : Nat) : Addr.add ⟨b, o, none⟩ k = ⟨b, o + k, none⟩ := by
  unfold Addr.add
  split
  · rename_i h; subst h; rfl
  · rfl

theorem run_index_one {P : Program} (w : World) {t elem : TypeId} {n : Nat} {cs : Array Value} {d : TypeDesc} (i : Nat) {v : Value} (hu : P.underlying t = some (.array n elem)) (he : P.underlying elem = some d)
    (hd : (match d with | .struct _ | .array _ _ => true | _ => false) = false) (hs : (P.info? elem).map (·.size) = some 1) (hi : i < n) (hv : cs[i]? = some v) : (Instr.index t (.agg cs) (.int .i64 i)).run P w = .ok v w := by
  cases hq : P.info? elem with
  | none => simp [hq] at hs
  | some x =>
    have hx : x.size = 1 := by simpa [hq] using hs
    have hagg : (isAgg elem).run P w = .ok false w := by
      unfold isAgg
      rw [Sem.run_bind, run_underlying he w]
      cases d <;> simp_all
    simp [Instr.index, asIntOf, run_underlying hu, hi, sizeOf, typeInfo, hq, hx, part, hagg, hv]

end Go.Proofs.YtnldkmcijmbhcaaGreat

/- The contracts of below, rightInstr. -/
namespace Go.Proofs.YtnldkmcijmbhcaaGreat
open Go.RowKit

theorem below_any (n e : Int) (w : World) : Calls Tryz.prog 53 #[.int .i64 n, .int .i64 e] w fun r w' => r = .returned (.bool (belowB n e)) ∧ w = w' := by
  go_enter Tryz.func53, Tryz.ntmps53
  go_wp2
  all_goals
    go_ret
    refine ⟨ret_bool ?_, rfl⟩
    simp [belowB]
    try omega

set_option maxRecDepth 100000 in
set_option maxHeartbeats 1000000 in
theorem rightInstr_any (V M size : Int) (hs : 0 ≤ size) (hs2 : size ≤ 1000) (t : Value) (i : Ins) (w : World) :
    Calls Tryz.prog 91 #[.agg #[.int .i64 V, .int .i64 M, t], .int .i64 size, insV i] w fun r w' => r = .returned (.bool (rightIns V M size i)) ∧ Below w.heap.size w w' := by
  obtain ⟨k, ri, x, n⟩ := i
  unfold insV
  dsimp only
  go_enter Tryz.func91, Tryz.ntmps91
  go_wp2_with (go_at_call 53; refine (below_any _ _ _).mono ?_; rintro r w' ⟨rfl, rfl⟩)
  all_goals
    go_ret
    refine ⟨ret_bool ?_, below_alloc2 _ _ _⟩
    simp [belowB] at *
    rw [Bool.eq_iff_iff]
    simp [rightIns, *]
    try omega

end Go.Proofs.YtnldkmcijmbhcaaGreat

/- A state of the program in memory: one block of 156 numbers. -/
namespace Go.Proofs.YtnldkmcijmbhcaaGreat
open Go.RowKit

def ins0 : Ins := ⟨0, 0, 0, 0⟩
def insNum (i : Ins) (k : Nat) : Int := if k = 0 then i.kind else if k = 1 then i.r else if k = 2 then i.x else i.n

/-- The number of cell k of a thread's 37. -/
def thrNum (c : List Ins) (x : Thr) (k : Nat) : Int :=
  if k < 32 then insNum (c.getD (k / 4) ins0) (k % 4)
  else if k = 32 then c.length
  else if k = 33 then x.at_
  else if k = 34 then x.fuel
  else x.r.getD (k - 35) 0

/-- The number of cell o of a state's 156. -/
def stNum (s : St) (o : Nat) : Int :=
  if o = 0 then s.ts.length
  else if o = 1 then s.p.mutexes
  else if o < 150 then thrNum (s.code ((o - 2) / 37)) (s.th ((o - 2) / 37)) ((o - 2) % 37)
  else if o < 154 then s.v.getD (o - 150) 0
  else s.m.getD (o - 154) (-1)

def numA (f : Nat → Int) : Array Value := ((List.range 156).map fun o => Value.int .i64 (f o)).toArray

theorem numA_size (f : Nat → Int) : (numA f).size = 156 := by simp [numA]
theorem numA_get (f : Nat → Int) (o : Nat) (h : o < 156) : (numA f)[o]? = some (.int .i64 (f o)) := by simp [numA, h]
theorem numA_one (f : Nat → Int) : (numA f).all (·.oneCell') = true := by
  simp [numA, Value.oneCell']
theorem numA_set (f g : Nat → Int) (o : Nat) (n : Int) (ho : o < 156) (h : ∀ j, j < 156 → g j = if j = o then n else f j) : (numA f).setIfInBounds o (.int .i64 n) = numA g := by
  apply Array.ext_getElem?
  intro j
  rw [Array.getElem?_setIfInBounds]
  by_cases hj : j < 156
  · rw [numA_get g j hj, h j hj]
    by_cases e : o = j
    · subst e; simp [numA_size, hj]
    · rw [if_neg e, if_neg (fun e' => e e'.symm), numA_get f j hj]
  · have h1 : (numA g)[j]? = none := Array.getElem?_eq_none (by rw [numA_size]; omega)
    have h2 : (numA f)[j]? = none := Array.getElem?_eq_none (by rw [numA_size]; omega)
    rw [h1, h2]
    split
    · rw [numA_size, if_neg (by omega)]
    · rfl
theorem numA_congr (f g : Nat → Int) (h : ∀ j, j < 156 → f j = g j) : numA f = numA g := by
  unfold numA
  congr 1
  apply List.map_congr_left
  intro j hj
  rw [h j (by simpa using hj)]

/-- In block b lies the state s. -/
def StAt (w : World) (b : Nat) (s : St) : Prop := w.heap[b]? = some (.cells (numA (stNum s)) 92 (0, 0))

theorem StAt.lt {w : World} {b : Nat} {s : St} (h : StAt w b s) : b < w.heap.size := (Array.getElem?_eq_some_iff.1 h).1
theorem StAt.num {w : World} {b : Nat} {s : St} (h : StAt w b s) (o : Nat) (ho : o < 156) : w.cell? ⟨b, o, none⟩ = some (.int .i64 (stNum s o)) := by
  rw [cell_of_row w b o _ _ _ h, numA_get _ _ ho]
theorem StAt.frozen {w : World} {b : Nat} {s : St} (h : StAt w b s) (o : Nat) : w.frozen? ⟨b, o, none⟩ = false := by
  simp [World.frozen?, show w.heap[b]? = _ from h]
theorem StAt.set {w : World} {b : Nat} {s : St} (h : StAt w b s) (s' : St) (o : Nat) (n : Int) (ho : o < 156) (hs : ∀ j, j < 156 → stNum s' j = if j = o then n else stNum s j) : StAt (w.setCell ⟨b, o, none⟩ (.int .i64 n)) b s' := by
  have := heap_setCell_same w b o _ _ (.int .i64 n) h
  rw [numA_set _ _ o n ho hs] at this
  exact this
theorem StAt.later {w w' : World} {b : Nat} {s : St} (h : StAt w b s) (hb : Below w.heap.size w w') : StAt w' b s := (hb.block b h.lt).trans h
theorem StAt.drew {w : World} {b : Nat} {s : St} (h : StAt w b s) : StAt w.drew b s := h

theorem stNum_threads (s : St) : stNum s 0 = s.ts.length := rfl
theorem stNum_mutexes (s : St) : stNum s 1 = s.p.mutexes := rfl
theorem stNum_thr (s : St) (t k : Nat) (ht : t < 4) (hk : k < 37) : stNum s (2 + t * 37 + k) = thrNum (s.code t) (s.th t) k := by
  unfold stNum
  rw [if_neg (by omega), if_neg (by omega), if_pos (by omega), show (2 + t * 37 + k - 2) / 37 = t by omega, show (2 + t * 37 + k - 2) % 37 = k by omega]
theorem stNum_var (s : St) (x : Nat) (h : x < 4) : stNum s (150 + x) = s.v.getD x 0 := by
  unfold stNum
  rw [if_neg (by omega), if_neg (by omega), if_neg (by omega), if_pos (by omega), show 150 + x - 150 = x by omega]
theorem stNum_who (s : St) (x : Nat) : stNum s (154 + x) = s.m.getD x (-1) := by
  unfold stNum
  rw [if_neg (by omega), if_neg (by omega), if_neg (by omega), if_neg (by omega), show 154 + x - 154 = x by omega]

theorem stNum_put (s : St) (t : Nat) (y : Thr) (k : Nat) (n : Int) (ht : t < s.ts.length) (h4 : s.ts.length ≤ 4) (hk : k < 37) (hy : ∀ j, j < 37 → thrNum (s.code t) y j = if j = k then n else thrNum (s.code t) (s.th t) j) :
    ∀ j, j < 156 → stNum (s.put t y) j = if j = 2 + t * 37 + k then n else stNum s j := by
  intro j hj
  have hth : ∀ u, (s.put t y).th u = if u = t then y else s.th u := fun u => by
    unfold St.put St.th
    simp only [Int.toNat_natCast]
    exact getD_set _ _ _ _ _ ht
  have hcd : ∀ u, (s.put t y).code u = s.code u := fun _ => rfl
  unfold stNum
  by_cases h0 : j = 0
  · rw [if_pos h0, if_neg (by omega), if_pos h0]; simp [St.put]
  rw [if_neg h0, if_neg (c := j = 0) h0]
  by_cases h1 : j = 1
  · rw [if_pos h1, if_neg (by omega), if_pos h1]; rfl
  rw [if_neg h1, if_neg (c := j = 1) h1]
  by_cases h2 : j < 150
  · rw [if_pos h2, if_pos h2, hth, hcd]
    by_cases e : (j - 2) / 37 = t
    · rw [if_pos e, e, hy _ (by omega)]
      by_cases e2 : (j - 2) % 37 = k
      · rw [if_pos e2, if_pos (by omega)]
      · rw [if_neg e2, if_neg (by omega)]
    · rw [if_neg e, if_neg (by omega)]
  · rw [if_neg h2, if_neg (c := j < 150) h2, if_neg (c := j = 2 + t * 37 + k) (by omega)]; rfl

theorem thrNum_at (c : List Ins) (x : Thr) (n : Nat) : ∀ j, j < 37 → thrNum c { x with at_ := n } j = if j = 33 then (n : Int) else thrNum c x j := by
  intro j hj
  unfold thrNum
  dsimp only
  by_cases e : j = 33
  · subst e; simp
  · rw [if_neg e]; simp only [e, if_false]
theorem thrNum_fuel (c : List Ins) (x : Thr) (n : Nat) : ∀ j, j < 37 → thrNum c { x with fuel := n } j = if j = 34 then (n : Int) else thrNum c x j := by
  intro j hj
  unfold thrNum
  dsimp only
  by_cases e : j = 34
  · subst e; simp
  · rw [if_neg e]; simp only [e, if_false]
theorem thrNum_reg (c : List Ins) (x : Thr) (r : Nat) (n : Int) (hr : r < 2) (hl : x.r.length = 2) : ∀ j, j < 37 → thrNum c { x with r := x.r.set r n } j = if j = 35 + r then n else thrNum c x j := by
  intro j hj
  unfold thrNum
  dsimp only
  by_cases h1 : j < 35
  · rw [if_neg (c := j = 35 + r) (by omega)]
    by_cases a : j < 32
    · simp [a]
    · by_cases b : j = 32
      · simp [b]
      · by_cases c : j = 33
        · simp [c]
        · have : j = 34 := by omega
          simp [this]
  · have a1 : ¬ j < 32 := by omega
    have a2 : ¬ j = 32 := by omega
    have a3 : ¬ j = 33 := by omega
    have a4 : ¬ j = 34 := by omega
    simp only [a1, a2, a3, a4, if_false]
    rw [getD_set _ _ _ _ _ (by omega)]
    by_cases e : j = 35 + r
    · rw [if_pos (by omega), if_pos e]
    · rw [if_neg (by omega), if_neg e]

theorem stNum_setVar (s : St) (x : Nat) (n : Int) (hx : x < 4) (hl : s.v.length = 4) : ∀ j, j < 156 → stNum { s with v := s.v.set x n } j = if j = 150 + x then n else stNum s j := by
  intro j hj
  unfold stNum St.th St.code
  dsimp only
  by_cases h2 : j < 150
  · rw [if_neg (c := j = 150 + x) (by omega)]; simp only [h2, if_true]
  · rw [if_neg (by omega), if_neg (by omega), if_neg h2]
    by_cases h3 : j < 154
    · rw [if_pos h3, getD_set _ _ _ _ _ (by omega)]
      by_cases e : j = 150 + x
      · rw [if_pos (by omega), if_pos e]
      · rw [if_neg (by omega), if_neg e, if_neg (by omega), if_neg (by omega), if_neg h2, if_pos h3]
    · rw [if_neg h3, if_neg (c := j = 150 + x) (by omega), if_neg (by omega), if_neg (by omega), if_neg h2, if_neg h3]
theorem stNum_setWho (s : St) (x : Nat) (n : Int) (hx : x < 2) (hl : s.m.length = 2) : ∀ j, j < 156 → stNum { s with m := s.m.set x n } j = if j = 154 + x then n else stNum s j := by
  intro j hj
  unfold stNum St.th St.code
  dsimp only
  by_cases h3 : j < 154
  · rw [if_neg (c := j = 154 + x) (by omega)]; simp only [h3, if_true]
  · rw [if_neg (by omega), if_neg (by omega), if_neg (by omega), if_neg h3, getD_set _ _ _ _ _ (by omega)]
    by_cases e : j = 154 + x
    · rw [if_pos (by omega), if_pos e]
    · rw [if_neg (by omega), if_neg e, if_neg (by omega), if_neg (by omega), if_neg (by omega), if_neg h3]

end Go.Proofs.YtnldkmcijmbhcaaGreat

/- The contracts of what only reads a state: below, Threads, Var, Holder, instr, event, may. -/
namespace Go.Proofs.YtnldkmcijmbhcaaGreat
open Go.RowKit

theorem sbelow_any (n e : Int) (w : World) : Calls Tryz.prog 35 #[.int .i64 n, .int .i64 e] w fun r w' => r = .returned (.bool (belowB n e)) ∧ w = w' := by
  go_enter Tryz.func35, Tryz.ntmps35
  go_wp2
  all_goals
    go_ret
    refine ⟨ret_bool ?_, rfl⟩
    simp [belowB]
    try omega

theorem threads_any {s : St} {b : Nat} {w : World} (h : StAt w b s) : Calls Tryz.prog 57 #[.pointer (some ⟨b, 0, none⟩)] w fun r w' => r = .returned (.int .i64 s.ts.length) ∧ w = w' := by
  have c0 := h.num 0 (by omega)
  rw [stNum_threads] at c0
  have H := Lib.hid h
  clear h
  go_enter Tryz.func57, Tryz.ntmps57
  go_wp2
  go_ret
  exact ⟨rfl, rfl⟩

/-- An instruction, if there is one, as a value. -/
def insR (o : Option Ins) : Value := .tuple #[insV (o.getD ins0), .bool o.isSome]
/-- An event, if there is one, as a value. -/
def evR (o : Option Ev) : Value := .tuple #[evV (o.getD ev0), .bool o.isSome]

theorem thrNum_ins (c : List Ins) (x : Thr) (j : Nat) (hj : j < 8) (d : Nat) (hd : d < 4) : thrNum c x (j * 4 + d) = insNum (c.getD j ins0) d := by
  unfold thrNum
  rw [if_pos (by omega), show (j * 4 + d) / 4 = j by omega, show (j * 4 + d) % 4 = d by omega]

theorem thr_fuel (c : List Ins) (x : Thr) : thrNum c x 34 = x.fuel := rfl
theorem thr_at (c : List Ins) (x : Thr) : thrNum c x 33 = x.at_ := rfl
theorem thr_reg (c : List Ins) (x : Thr) (y : Nat) : thrNum c x (35 + y) = x.r.getD y 0 := by
  unfold thrNum
  rw [if_neg (by omega), if_neg (by omega), if_neg (by omega), if_neg (by omega), show 35 + y - 35 = y by omega]
theorem thr_size (c : List Ins) (x : Thr) : thrNum c x 32 = c.length := rfl
theorem St.Ok.len4 {F : Nat} {s : St} (h : s.Ok F) : s.ts.length ≤ 4 := by
  have := h.right
  unfold rightPg at this
  rw [Bool.and_eq_true, decide_eq_true_eq] at this
  have := h.len
  omega
theorem St.Ok.code8 {F : Nat} {s : St} (h : s.Ok F) (k : Nat) (hk : k < s.ts.length) : (s.code k).length ≤ 8 := by
  have hl := h.len
  unfold St.code
  rw [getD_lt _ (by omega)]
  exact (rightPg_code h.right (by omega)).1

theorem insR_none : insR none = .tuple #[.agg #[.int .i64 0, .int .i64 0, .int .i64 0, .int .i64 0], .bool false] := rfl
theorem insR_some (i : Ins) : insR (some i) = .tuple #[.agg #[.int .i64 i.kind, .int .i64 i.r, .int .i64 i.x, .int .i64 i.n], .bool true] := rfl

set_option maxRecDepth 100000 in
set_option maxHeartbeats 1000000 in
theorem instr_any {F : Nat} {s : St} {b : Nat} {w : World} (h : StAt w b s) (ok : s.Ok F) (t : Int) :
    Calls Tryz.prog 72 #[.pointer (some ⟨b, 0, none⟩), .int .i64 t] w fun r w' => r = .returned (insR (s.ins t)) ∧ Below w.heap.size w w' := by
  have hbl := h.lt
  have H := Lib.hid h
  have OK := Lib.hid ok
  clear h ok
  cases hb : belowB t s.ts.length
  · have hn : s.ins t = none := by
      unfold St.ins
      rw [if_neg (fun e => by have := e.1; unfold St.has at this; simp [belowB] at hb; omega)]
    rw [hn, insR_none]
    clear hn
    go_enter Tryz.func72, Tryz.ntmps72
    go_wp2_with (first
      | (go_at_call 35; refine (sbelow_any _ _ _).mono ?_; rintro r w' ⟨rfl, rfl⟩)
      | (go_at_call 57; refine (threads_any (H.out.later (below_alloc1 _ _))).mono ?_; rintro r w' ⟨rfl, rfl⟩))
    exact bodyPost_ret (v := .tuple #[.agg #[.int .i64 0, .int .i64 0, .int .i64 0, .int .i64 0], .bool false]) (by simp [results, Tryz.results72, go_sem]) rfl ⟨rfl, below_alloc1 w _⟩
  · obtain ⟨k, rfl⟩ : ∃ k : Nat, t = k := ⟨t.toNat, by simp [belowB] at hb; omega⟩
    have hk : k < s.ts.length := by simp [belowB] at hb; omega
    have h4 := OK.out.len4
    have hpl := OK.out.place k hk
    have h8 := OK.out.code8 k hk
    have cf := H.out.num (2 + k * 37 + 34) (by omega)
    rw [stNum_thr _ _ _ (by omega) (by omega), thr_fuel] at cf
    have ca := H.out.num (2 + k * 37 + 33) (by omega)
    rw [stNum_thr _ _ _ (by omega) (by omega), thr_at] at ca
    have cs := H.out.num (2 + k * 37 + 32) (by omega)
    rw [stNum_thr _ _ _ (by omega) (by omega), thr_size] at cs
    by_cases hf : (s.th k).fuel = 0
    · have hn : s.ins k = none := by
        unfold St.ins
        rw [if_neg (fun e => by have := e.2; simp at this; omega)]
      rw [hn, insR_none]
      rw [hf] at cf
      clear hn hf
      have hd : decide (((0 : Nat) : Int) = 0) = true := rfl
      go_enter Tryz.func72, Tryz.ntmps72
      go_wp2_with (first
        | (go_at_call 35; refine (sbelow_any _ _ _).mono ?_; rintro r w' ⟨rfl, rfl⟩)
        | (go_at_call 57; refine (threads_any (H.out.later (below_alloc1 _ _))).mono ?_; rintro r w' ⟨rfl, rfl⟩))
      go_quiet (fail)
      go_wp2
      exact bodyPost_ret (v := .tuple #[.agg #[.int .i64 0, .int .i64 0, .int .i64 0, .int .i64 0], .bool false]) (by simp [results, Tryz.results72, go_sem]) rfl ⟨rfl, below_set4 (below_alloc1 w _).drewN (Nat.le_refl _) _ _ _ _⟩
    · by_cases ha : (s.th k).at_ = (s.code k).length
      · have hn : s.ins k = none := by
          unfold St.ins
          split
          · exact List.getElem?_eq_none (by simp [ha])
          · rfl
        rw [hn, insR_none]
        have hf' : ((((s.th k).fuel : Nat) : Int) == 0) = false := by simp; omega
        have ha' : ((((s.th k).at_ : Nat) : Int) == (s.code k).length) = true := by simp [ha]
        clear hn hf ha
        generalize (s.th k).fuel = f at *
        generalize (s.th k).at_ = at_ at *
        generalize (s.code k).length = n at *
        go_enter Tryz.func72, Tryz.ntmps72
        go_wp2_with (first
          | (go_at_call 35; refine (sbelow_any _ _ _).mono ?_; rintro r w' ⟨rfl, rfl⟩)
          | (go_at_call 57; refine (threads_any (H.out.later (below_alloc1 _ _))).mono ?_; rintro r w' ⟨rfl, rfl⟩))
        go_quiet (fail)
        go_wp2
        exact bodyPost_ret (v := .tuple #[.agg #[.int .i64 0, .int .i64 0, .int .i64 0, .int .i64 0], .bool false]) (by simp [results, Tryz.results72, go_sem]) rfl ⟨rfl, below_set4 (below_alloc1 w _).drewN (Nat.le_refl _) _ _ _ _⟩
      · have hlt : (s.th k).at_ < (s.code k).length := by omega
        have hn : s.ins k = some (s.code k)[(s.th k).at_] := by
          unfold St.ins
          rw [if_pos ⟨⟨by omega, by omega⟩, by simpa using hf⟩]
          simp only [Int.toNat_natCast]
          exact List.getElem?_eq_getElem hlt
        rw [hn, insR_some]
        have hi : ∀ d, d < 4 → w.cell? ⟨b, 2 + k * 37 + (s.th k).at_ * 4 + d, none⟩ = some (.int .i64 (insNum (s.code k)[(s.th k).at_] d)) := by
          intro d hd
          have := H.out.num (2 + k * 37 + ((s.th k).at_ * 4 + d)) (by omega)
          rw [stNum_thr _ _ _ (by omega) (by omega), thrNum_ins _ _ _ (by omega) _ hd, getD_lt _ hlt] at this
          rw [Nat.add_assoc]
          exact this
        have c0 : w.cell? ⟨b, 2 + k * 37 + (s.th k).at_ * 4, none⟩ = some (.int .i64 (s.code k)[(s.th k).at_].kind) := hi 0 (by omega)
        have c1 : w.cell? ⟨b, 2 + k * 37 + (s.th k).at_ * 4 + 1, none⟩ = some (.int .i64 (s.code k)[(s.th k).at_].r) := hi 1 (by omega)
        have c2 : w.cell? ⟨b, 2 + k * 37 + (s.th k).at_ * 4 + 2, none⟩ = some (.int .i64 (s.code k)[(s.th k).at_].x) := hi 2 (by omega)
        have c3 : w.cell? ⟨b, 2 + k * 37 + (s.th k).at_ * 4 + 3, none⟩ = some (.int .i64 (s.code k)[(s.th k).at_].n) := hi 3 (by omega)
        generalize (s.code k)[(s.th k).at_] = i at *
        have hf' : ((((s.th k).fuel : Nat) : Int) == 0) = false := by simp; omega
        have ha' : ((((s.th k).at_ : Nat) : Int) == (s.code k).length) = false := by simp; omega
        have ha8 : (s.th k).at_ < 8 := by omega
        clear hn hf ha hi
        generalize (s.th k).fuel = f at *
        generalize (s.th k).at_ = at_ at *
        generalize (s.code k).length = n at *
        go_enter Tryz.func72, Tryz.ntmps72
        go_wp2_with (first
          | (go_at_call 35; refine (sbelow_any _ _ _).mono ?_; rintro r w' ⟨rfl, rfl⟩)
          | (go_at_call 57; refine (threads_any (H.out.later (below_alloc1 _ _))).mono ?_; rintro r w' ⟨rfl, rfl⟩))
        go_quiet (fail)
        go_wp2
        go_region
        go_wp2
        exact bodyPost_ret (v := .tuple #[.agg #[.int .i64 i.kind, .int .i64 i.r, .int .i64 i.x, .int .i64 i.n], .bool true]) (by simp [results, Tryz.results72, go_sem]) rfl ⟨rfl, below_set4 (below_alloc1 w _).drewN.drew (Nat.le_refl _) _ _ _ _⟩

set_option maxRecDepth 100000 in
set_option maxHeartbeats 2000000 in
theorem event_any {F : Nat} {s : St} {b : Nat} {w : World} (h : StAt w b s) (ok : s.Ok F) (t : Nat) (ht : t < s.ts.length) (i : Ins) (h6 : i.kind = 6 → 0 ≤ i.x ∧ i.x < 2) (h8 : i.kind = 8 → 0 ≤ i.r ∧ i.r < 2) :
    Calls Tryz.prog 73 #[.pointer (some ⟨b, 0, none⟩), .int .i64 t, insV i] w fun r w' => r = .returned (evV (s.ev t i)) ∧ Below w.heap.size w w' := by
  have hbl := h.lt
  have h4 := ok.len4
  have H := Lib.hid h
  clear h ok
  obtain ⟨kd, r, x, n⟩ := i
  unfold insV
  dsimp only at *
  by_cases e1 : kd = 1
  · subst e1
    have hev : s.ev t ⟨1, r, x, n⟩ = ⟨t, 2, x, false⟩ := rfl
    rw [hev, evV_mk]
    clear hev h6 h8
    go_enter Tryz.func73, Tryz.ntmps73
    go_wp2
    exact bodyPost_ret (v := .agg #[.int .i64 t, .int .i64 2, .int .i64 x, .bool false]) (by simp [results, Tryz.results73, go_sem]) rfl ⟨rfl, below_alloc2 w _ _⟩
  by_cases e2 : kd = 2
  · subst e2
    have hev : s.ev t ⟨2, r, x, n⟩ = ⟨t, 3, x, false⟩ := rfl
    rw [hev, evV_mk]
    clear hev h6 h8
    go_enter Tryz.func73, Tryz.ntmps73
    go_wp2
    exact bodyPost_ret (v := .agg #[.int .i64 t, .int .i64 3, .int .i64 x, .bool false]) (by simp [results, Tryz.results73, go_sem]) rfl ⟨rfl, below_alloc2 w _ _⟩
  by_cases e5 : kd = 5
  · subst e5
    have hev : s.ev t ⟨5, r, x, n⟩ = ⟨t, 4, x, false⟩ := rfl
    rw [hev, evV_mk]
    clear hev h6 h8
    go_enter Tryz.func73, Tryz.ntmps73
    go_wp2
    exact bodyPost_ret (v := .agg #[.int .i64 t, .int .i64 4, .int .i64 x, .bool false]) (by simp [results, Tryz.results73, go_sem]) rfl ⟨rfl, below_alloc2 w _ _⟩
  by_cases e6 : kd = 6
  · subst e6
    obtain ⟨hx0, hx2⟩ := h6 rfl
    obtain ⟨y, rfl⟩ : ∃ y : Nat, x = y := ⟨x.toNat, by omega⟩
    have hy : y < 2 := by omega
    have c0 := H.out.num (154 + y) (by omega)
    rw [stNum_who] at c0
    have hv : s.m.getD y (-1) = s.who y := rfl
    rw [hv] at c0
    clear hv h6 h8 hx0 hx2
    by_cases hw : s.who y = t
    · have hev : s.ev t ⟨6, r, y, n⟩ = ⟨t, 5, y, false⟩ := by simp [St.ev, hw]
      rw [hev, evV_mk]
      rw [hw] at c0
      clear hev hw
      go_enter Tryz.func73, Tryz.ntmps73
      go_wp2
      go_quiet (fail)
      go_wp2
      exact bodyPost_ret (v := .agg #[.int .i64 t, .int .i64 5, .int .i64 y, .bool false]) (by simp [results, Tryz.results73, go_sem]) rfl ⟨rfl, below_set4 (below_alloc2 w _ _).drewN (by omega) _ _ _ _⟩
    · have hev : s.ev t ⟨6, r, y, n⟩ = ⟨t, 1, 0, true⟩ := by simp [St.ev, hw]
      rw [hev, evV_mk]
      have hq : (s.who y == (t : Int)) = false := by simpa using hw
      clear hev hw
      go_enter Tryz.func73, Tryz.ntmps73
      go_wp2
      go_quiet (fail)
      go_wp2
      exact bodyPost_ret (v := .agg #[.int .i64 t, .int .i64 1, .int .i64 0, .bool true]) (by simp [results, Tryz.results73, go_sem]) rfl ⟨rfl, below_set4 (below_alloc2 w _ _).drewN (by omega) _ _ _ _⟩
  by_cases e8 : kd = 8
  · subst e8
    obtain ⟨hx0, hx2⟩ := h8 rfl
    obtain ⟨y, rfl⟩ : ∃ y : Nat, r = y := ⟨r.toNat, by omega⟩
    have hy : y < 2 := by omega
    have c0 := H.out.num (2 + t * 37 + (35 + y)) (by omega)
    rw [stNum_thr _ _ _ (by omega) (by omega), thr_reg, ← Nat.add_assoc] at c0
    have hev : s.ev t ⟨8, y, x, n⟩ = ⟨t, 1, 0, (s.th t).r.getD y 0 == 0⟩ := rfl
    rw [hev, evV_mk]
    generalize (s.th t).r.getD y 0 = g at *
    clear hev h6 h8 hx0 hx2
    go_enter Tryz.func73, Tryz.ntmps73
    go_wp2
    go_region
    go_wp2
    exact bodyPost_ret (v := .agg #[.int .i64 t, .int .i64 1, .int .i64 0, .bool (g == 0)]) (by simp [results, Tryz.results73, go_sem]) rfl ⟨rfl, (below_alloc2 w _ _).drew⟩
  · have hev : s.ev t ⟨kd, r, x, n⟩ = ⟨t, 1, 0, false⟩ := by simp [St.ev, e1, e2, e5, e6, e8]
    rw [hev, evV_mk]
    have f1 : (kd == 1) = false := by simpa using e1
    have f2 : (kd == 2) = false := by simpa using e2
    have f5 : (kd == 5) = false := by simpa using e5
    have f6 : (kd == 6) = false := by simpa using e6
    have f8 : (kd == 8) = false := by simpa using e8
    clear hev h6 h8 e1 e2 e5 e6 e8
    go_enter Tryz.func73, Tryz.ntmps73
    go_wp2
    exact bodyPost_ret (v := .agg #[.int .i64 t, .int .i64 1, .int .i64 0, .bool false]) (by simp [results, Tryz.results73, go_sem]) rfl ⟨rfl, below_alloc2 w _ _⟩


end Go.Proofs.YtnldkmcijmbhcaaGreat
