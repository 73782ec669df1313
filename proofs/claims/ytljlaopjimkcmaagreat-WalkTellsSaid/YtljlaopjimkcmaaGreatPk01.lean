import Derived.WalkKit
import Derived.BigQuiet
import Derived.Deep.QuietTactic
import Derived.WalkLawsBesides
import Derived.Lib.Hide
import Derived.Laws.Rows
import Derived.Laws.Tables
import Derived.StillTailTactics
import Derived.Laws.StructEq
import Derived.ProofKit
import Derived.Lib.SmallJoins
import Derived.Deep.Slices
import Derived.Deep.Fields
import Derived.OpenShut
import Derived.Laws.OwnMore
import Derived.Maps.AppendAt
import Derived.Laws.CopyRow
import Derived.Laws.CopyOwn
import Derived.Laws.Externs
import Derived.Lib.Overlaps
import Derived.Lib.AppendZeros
import Derived.Lib.AppendZerosOnto
import Derived.Shelf.Spec.SlicesInsert
import Derived.Shelf.Spec.SlicesInsertGrow
import Derived.Deep.RegionHeld3
import Derived.Test.YtljlaopjimkcmaaGreatRows

/-
  Plain data and plain functions for layer 1: instructions, programs, what may be. Nothing of the translation.
-/
namespace Go.Proofs.YtljlaopjimkcmaaGreat

structure Ins where
  kind : Int
  r : Int
  x : Int
  n : Int

structure Pg where
  vars : Int
  mutexes : Int
  threads : List (List Ins)

instance : DecidableEq Ins := fun a b =>
  decidable_of_iff (a.kind = b.kind ∧ a.r = b.r ∧ a.x = b.x ∧ a.n = b.n) (by cases a; cases b; simp)

instance : DecidableEq Pg := fun a b =>
  decidable_of_iff (a.vars = b.vars ∧ a.mutexes = b.mutexes ∧ a.threads = b.threads) (by cases a; cases b; simp)

/-- May an instruction be, of a thread of n instructions? -/
def rightIns (V M n : Int) (i : Ins) : Bool :=
  if i.kind = 1 ∨ i.kind = 2 then decide (0 ≤ i.r ∧ i.r < 2 ∧ 0 ≤ i.x ∧ i.x < V ∧ i.n = 0)
  else if i.kind = 3 ∨ i.kind = 4 then decide (0 ≤ i.r ∧ i.r < 2 ∧ i.x = 0 ∧ -128 ≤ i.n ∧ i.n ≤ 127)
  else if i.kind = 5 ∨ i.kind = 6 then decide (i.r = 0 ∧ 0 ≤ i.x ∧ i.x < M ∧ i.n = 0)
  else if i.kind = 7 then decide (0 ≤ i.r ∧ i.r < 2 ∧ 0 ≤ i.x ∧ i.x < n + 1 ∧ i.n = 0)
  else if i.kind = 8 then decide (0 ≤ i.r ∧ i.r < 2 ∧ i.x = 0 ∧ i.n = 0)
  else false

def rightCode (V M : Int) (l : List Ins) : Bool := decide (l.length ≤ 8) && l.all (rightIns V M l.length)

def rightPg (p : Pg) : Bool :=
  decide (0 ≤ p.vars ∧ p.vars ≤ 4 ∧ 0 ≤ p.mutexes ∧ p.mutexes ≤ 2 ∧ 1 ≤ p.threads.length ∧ p.threads.length ≤ 4) && p.threads.all (rightCode p.vars p.mutexes)

def belowB (n e : Int) : Bool := decide (0 ≤ n ∧ n < e)

/-- An instruction as a value. -/
def insV (i : Ins) : Value := .agg #[.int .i64 i.kind, .int .i64 i.r, .int .i64 i.x, .int .i64 i.n]

/-- From the place a on lie, in w, the instructions l. -/
def CodeAt (w : World) (a : Option Addr) (l : List Ins) : Prop :=
  l.length ≤ maxLen ∧ (l ≠ [] → ∃ b o, a = some ⟨b, o, none⟩ ∧ ∀ i (h : i < l.length),
    w.cell? ⟨b, o + i * 4, none⟩ = some (.int .i64 l[i].kind) ∧ w.cell? ⟨b, o + i * 4 + 1, none⟩ = some (.int .i64 l[i].r) ∧
    w.cell? ⟨b, o + i * 4 + 2, none⟩ = some (.int .i64 l[i].x) ∧ w.cell? ⟨b, o + i * 4 + 3, none⟩ = some (.int .i64 l[i].n))

theorem cell_block {w : World} {a : Addr} {v : Value} (h : w.cell? a = some v) : a.block < w.heap.size := by
  unfold World.cell? at h
  rcases Nat.lt_or_ge a.block w.heap.size with h1 | h1
  · exact h1
  · rw [Array.getElem?_eq_none h1] at h; cases h

theorem cell_later {w w' : World} (hb : Go.RowKit.Below w.heap.size w w') {a : Addr} {v : Value} (h : w.cell? a = some v) : w'.cell? a = some v := by
  rw [hb.cell (cell_block h)]; exact h

theorem CodeAt.later {w w' : World} {a : Option Addr} {l : List Ins} (h : CodeAt w a l) (hb : Go.RowKit.Below w.heap.size w w') : CodeAt w' a l := by
  refine ⟨h.1, fun hn => ?_⟩
  obtain ⟨b, o, rfl, hc⟩ := h.2 hn
  refine ⟨b, o, rfl, fun i hi => ?_⟩
  obtain ⟨h0, h1, h2, h3⟩ := hc i hi
  exact ⟨cell_later hb h0, cell_later hb h1, cell_later hb h2, cell_later hb h3⟩

/-- From the place a on lie, in w, the threads ts. -/
def ThreadsAt (w : World) (a : Option Addr) (ts : List (List Ins)) : Prop :=
  ts.length ≤ maxLen ∧ (ts ≠ [] → ∃ b o, a = some ⟨b, o, none⟩ ∧ ∀ i (h : i < ts.length),
    ∃ c cap, w.cell? ⟨b, o + i, none⟩ = some (.slice c ts[i].length cap) ∧ CodeAt w c ts[i] ∧ (c = none → cap = 0))

theorem ThreadsAt.later {w w' : World} {a : Option Addr} {ts : List (List Ins)} (h : ThreadsAt w a ts) (hb : Go.RowKit.Below w.heap.size w w') : ThreadsAt w' a ts := by
  refine ⟨h.1, fun hn => ?_⟩
  obtain ⟨b, o, rfl, hc⟩ := h.2 hn
  refine ⟨b, o, rfl, fun i hi => ?_⟩
  obtain ⟨c, cap, h0, h1, h2⟩ := hc i hi
  exact ⟨c, cap, cell_later hb h0, h1.later hb, h2⟩

/-- The value of a program whose threads lie from a on. -/
def pgV (p : Pg) (a : Option Addr) (cap : Nat) : Value := .agg #[.int .i64 p.vars, .int .i64 p.mutexes, .slice a p.threads.length cap]

theorem rightPg_code {p : Pg} (h : rightPg p = true) {k : Nat} (hk : k < p.threads.length) : p.threads[k].length ≤ 8 ∧ ∀ j (hj : j < p.threads[k].length), rightIns p.vars p.mutexes p.threads[k].length p.threads[k][j] = true := by
  unfold rightPg at h
  rw [Bool.and_eq_true, List.all_eq_true] at h
  have := h.2 _ (List.getElem_mem hk)
  unfold rightCode at this
  rw [Bool.and_eq_true, List.all_eq_true] at this
  exact ⟨by simpa using this.1, fun j hj => this.2 _ (List.getElem_mem hj)⟩

theorem exists_list {α : Type} (n : Nat) (P : Nat → α → Prop) (h : ∀ i, i < n → ∃ x, P i x) : ∃ xs : List α, xs.length = n ∧ ∀ i x, xs[i]? = some x → P i x := by
  induction n with
  | zero => exact ⟨[], rfl, by simp⟩
  | succ n ih =>
    obtain ⟨xs, hl, hx⟩ := ih (fun i hi => h i (by omega))
    obtain ⟨x, hp⟩ := h n (by omega)
    refine ⟨xs ++ [x], by simp [hl], fun i y hy => ?_⟩
    by_cases hi : i < n
    · rw [List.getElem?_append_left (by omega)] at hy; exact hx i y hy
    · rw [List.getElem?_append_right (by omega)] at hy
      have : i - xs.length = 0 := by
        have := (List.getElem?_eq_some_iff.1 hy).1
        simp at this
        omega
      rw [this] at hy
      have hin : i = n := by omega
      subst hin
      simp at hy
      subst hy
      exact hp

end Go.Proofs.YtljlaopjimkcmaaGreat

/-
  Plain data and plain functions for layer 2: states, what threads do next, steps. Nothing of the translation.
-/
namespace Go.Proofs.YtljlaopjimkcmaaGreat

structure Ev where
  thread : Int
  kind : Int
  obj : Int
  fail : Bool

instance : DecidableEq Ev := fun a b =>
  decidable_of_iff (a.thread = b.thread ∧ a.kind = b.kind ∧ a.obj = b.obj ∧ a.fail = b.fail) (by cases a; cases b; simp)

def ev0 : Ev := ⟨0, 0, 0, false⟩

/-- A thread: the place, the fuel that is left, two registers. -/
structure Thr where
  at_ : Nat
  fuel : Nat
  r : List Int

def thr0 : Thr := ⟨0, 0, [0, 0]⟩

structure St where
  p : Pg
  ts : List Thr
  v : List Int
  m : List Int

def St.code (s : St) (t : Nat) : List Ins := s.p.threads.getD t []
def St.th (s : St) (t : Nat) : Thr := s.ts.getD t thr0
def St.reg (s : St) (t : Int) (i : Ins) : Int := (s.th t.toNat).r.getD i.r.toNat 0
def St.who (s : St) (x : Int) : Int := s.m.getD x.toNat (-1)
def St.var (s : St) (x : Int) : Int := s.v.getD x.toNat 0
def St.put (s : St) (t : Int) (y : Thr) : St := { s with ts := s.ts.set t.toNat y }

def St.has (s : St) (t : Int) : Prop := 0 ≤ t ∧ t < s.ts.length
instance (s : St) (t : Int) : Decidable (s.has t) := inferInstanceAs (Decidable (_ ∧ _))

/-- The instruction that a thread does next. -/
def St.ins (s : St) (t : Int) : Option Ins :=
  if s.has t ∧ (s.th t.toNat).fuel ≠ 0 then (s.code t.toNat)[(s.th t.toNat).at_]? else none

def St.ev (s : St) (t : Int) (i : Ins) : Ev :=
  if i.kind = 1 then ⟨t, 2, i.x, false⟩
  else if i.kind = 2 then ⟨t, 3, i.x, false⟩
  else if i.kind = 5 then ⟨t, 4, i.x, false⟩
  else if i.kind = 6 then (if s.who i.x = t then ⟨t, 5, i.x, false⟩ else ⟨t, 1, 0, true⟩)
  else if i.kind = 8 then ⟨t, 1, 0, decide (s.reg t i = 0)⟩
  else ⟨t, 1, 0, false⟩

def St.next (s : St) (t : Int) : Option Ev := (s.ins t).map (s.ev t)

def St.may (s : St) (t : Int) : Bool :=
  match s.ins t with
  | none => false
  | some i => decide (i.kind = 5 → s.who i.x < 0)

/-- The thread behind its step. -/
def St.thr (s : St) (t : Int) (i : Ins) : Thr :=
  let x := s.th t.toNat
  { at_ := if i.kind = 7 ∧ s.reg t i ≠ 0 then i.x.toNat else x.at_ + 1
    fuel := x.fuel - 1
    r := if i.kind = 1 then x.r.set i.r.toNat (s.var i.x) else if i.kind = 3 then x.r.set i.r.toNat i.n else if i.kind = 4 then x.r.set i.r.toNat (IntKind.i64.wrap (s.reg t i + i.n)) else x.r }

def St.do_ (s : St) (t : Int) (i : Ins) : St :=
  { p := s.p
    ts := s.ts.set t.toNat (s.thr t i)
    v := if i.kind = 2 then s.v.set i.x.toNat (s.reg t i) else s.v
    m := if i.kind = 5 then s.m.set i.x.toNat t else if i.kind = 6 ∧ s.who i.x = t then s.m.set i.x.toNat (-1) else s.m }

/-- A step: an error, the event, the state behind it. -/
def St.step (s : St) (t : Int) : Int × Ev × St :=
  if s.has t then
    match s.ins t with
    | none => (6, ev0, s)
    | some i => if s.may t = true then (0, s.ev t i, s.do_ t i) else (9, ev0, s)
  else (2, ev0, s)

def St.all (s : St) : List Int := ((List.range s.ts.length).map Int.ofNat).filter s.may

def St.new (p : Pg) (fuel : Nat) : St := ⟨p, p.threads.map fun _ => ⟨0, fuel, [0, 0]⟩, [0, 0, 0, 0], [-1, -1]⟩

def in64 (n : Int) : Prop := -9223372036854775808 ≤ n ∧ n ≤ 9223372036854775807

theorem in64_wrap (n : Int) : in64 (IntKind.i64.wrap n) := by
  unfold in64 IntKind.wrap
  simp [IntKind.signed, IntKind.bits]
  split <;> omega

/-- A state that may be, with at most F fuel a thread. -/
structure St.Ok (F : Nat) (s : St) : Prop where
  f8 : F ≤ 8
  right : rightPg s.p = true
  len : s.ts.length = s.p.threads.length
  vl : s.v.length = 4
  ml : s.m.length = 2
  thr : ∀ x ∈ s.ts, x.r.length = 2 ∧ (∀ n ∈ x.r, in64 n) ∧ x.fuel ≤ F
  place : ∀ k, k < s.ts.length → (s.th k).at_ ≤ (s.code k).length
  vv : ∀ n ∈ s.v, in64 n
  mm : ∀ n ∈ s.m, -1 ≤ n ∧ n < s.ts.length
  free : ∀ k : Nat, s.p.mutexes ≤ k → s.m.getD k (-1) = -1

theorem new_ok {p : Pg} (h : rightPg p = true) (F : Nat) (hF : F ≤ 8) : St.Ok F (St.new p F) := by
  refine ⟨hF, h, by simp [St.new], rfl, rfl, fun x hx => ?_, fun k hk => ?_, ?_, ?_, fun k _ => ?_⟩
  · simp [St.new] at hx
    obtain ⟨_, _, rfl⟩ := hx
    exact ⟨rfl, by simp [in64], Nat.le_refl _⟩
  · simp [St.new] at hk
    simp [St.th, St.new, hk]
  · simp [St.new, in64]
  · simp [St.new]
    omega
  · match k with
    | 0 => rfl
    | 1 => rfl
    | k + 2 => rfl

theorem getD_lt {T : Type} {l : List T} {k : Nat} (d : T) (h : k < l.length) : l.getD k d = l[k] := by
  simp [List.getD, h]

theorem getD_set {T : Type} (l : List T) (j k : Nat) (d y : T) (hj : j < l.length) : (l.set j y).getD k d = if k = j then y else l.getD k d := by
  simp only [List.getD]
  by_cases h : k = j
  · subst h; simp [hj]
  · rw [List.getElem?_set_ne (Ne.symm h), if_neg h]

theorem St.ins_has {s : St} {t : Int} {i : Ins} (h : s.ins t = some i) : s.has t ∧ (s.th t.toNat).fuel ≠ 0 ∧ (s.code t.toNat)[(s.th t.toNat).at_]? = some i := by
  unfold St.ins at h
  split at h
  · rename_i hh; exact ⟨hh.1, hh.2, h⟩
  · cases h

theorem St.th_mem {s : St} {k : Nat} (h : k < s.ts.length) : s.th k ∈ s.ts := by
  unfold St.th
  rw [getD_lt _ h]
  exact List.getElem_mem h

theorem St.Ok.ins_right {F : Nat} {s : St} (h : s.Ok F) {t : Int} {i : Ins} (hi : s.ins t = some i) : rightIns s.p.vars s.p.mutexes (s.code t.toNat).length i = true ∧ (s.code t.toNat).length ≤ 8 := by
  obtain ⟨hh, _, hc⟩ := St.ins_has hi
  have hk : t.toNat < s.p.threads.length := by have := h.len; unfold St.has at hh; omega
  have hcd : s.code t.toNat = s.p.threads[t.toNat] := by unfold St.code; rw [getD_lt _ hk]
  obtain ⟨h8, hr⟩ := rightPg_code h.right hk
  obtain ⟨hj, rfl⟩ := List.getElem?_eq_some_iff.1 hc
  rw [← hcd] at h8
  refine ⟨?_, h8⟩
  have := hr (s.th t.toNat).at_ (by rw [← hcd]; exact hj)
  simpa [hcd] using this

theorem St.step_cases (s : St) (t : Int) : (∃ i, s.ins t = some i ∧ s.may t = true ∧ s.step t = (0, s.ev t i, s.do_ t i)) ∨ ∃ e, (e = 2 ∨ e = 6 ∨ e = 9) ∧ s.step t = (e, ev0, s) := by
  unfold St.step
  split
  · split
    · exact .inr ⟨6, by simp, rfl⟩
    · rename_i i hi
      split
      · rename_i hm; exact .inl ⟨i, hi, hm, rfl⟩
      · exact .inr ⟨9, by simp, rfl⟩
  · exact .inr ⟨2, by simp, rfl⟩

theorem St.may_free {s : St} {t : Int} {i : Ins} (hi : s.ins t = some i) (hm : s.may t = true) (h5 : i.kind = 5) : s.who i.x < 0 := by
  unfold St.may at hm
  rw [hi] at hm
  simpa [h5] using hm

theorem St.th_do (s : St) (t : Int) (i : Ins) (ht : s.has t) (k : Nat) : (s.do_ t i).th k = if k = t.toNat then s.thr t i else s.th k := by
  unfold St.th St.do_
  dsimp only
  exact getD_set _ _ _ _ _ (by unfold St.has at ht; omega)

theorem St.Ok.obj {F : Nat} {s : St} (h : s.Ok F) {t : Int} {i : Ins} (hi : s.ins t = some i) : (i.kind = 1 ∨ i.kind = 2 → 0 ≤ i.x ∧ i.x < 4) ∧ (i.kind = 5 ∨ i.kind = 6 → 0 ≤ i.x ∧ i.x < 2) ∧ (i.kind = 7 → 0 ≤ i.x ∧ i.x ≤ (s.code t.toNat).length) ∧ 0 ≤ i.r ∧ i.r < 2 ∧ in64 i.n := by
  have hr := (h.ins_right hi).1
  have h4 : s.p.vars ≤ 4 ∧ s.p.mutexes ≤ 2 := by
    have := h.right
    unfold rightPg at this
    rw [Bool.and_eq_true, decide_eq_true_eq] at this
    omega
  unfold rightIns at hr
  unfold in64
  split at hr
  · simp only [decide_eq_true_eq] at hr; omega
  split at hr
  · simp only [decide_eq_true_eq] at hr; omega
  split at hr
  · simp only [decide_eq_true_eq] at hr; omega
  split at hr
  · simp only [decide_eq_true_eq] at hr; omega
  split at hr
  · simp only [decide_eq_true_eq] at hr; omega
  · cases hr

theorem St.Ok.objM {F : Nat} {s : St} (h : s.Ok F) {t : Int} {i : Ins} (hi : s.ins t = some i) : i.kind = 5 ∨ i.kind = 6 → 0 ≤ i.x ∧ i.x < s.p.mutexes := by
  intro hk
  have hr := (h.ins_right hi).1
  unfold rightIns at hr
  rw [if_neg (by omega), if_neg (by omega), if_pos hk] at hr
  simp only [decide_eq_true_eq] at hr
  omega

theorem St.Ok.reg64 {F : Nat} {s : St} (h : s.Ok F) {t : Int} (ht : s.has t) (i : Ins) : in64 (s.reg t i) := by
  have hx := (h.thr _ (St.th_mem (s := s) (k := t.toNat) (by unfold St.has at ht; omega))).2.1
  unfold St.reg
  by_cases hk : i.r.toNat < (s.th t.toNat).r.length
  · rw [getD_lt _ hk]; exact hx _ (List.getElem_mem hk)
  · simp [List.getD, List.getElem?_eq_none (Nat.le_of_not_lt hk), in64]

theorem St.Ok.var64 {F : Nat} {s : St} (h : s.Ok F) (x : Int) : in64 (s.var x) := by
  unfold St.var
  by_cases hk : x.toNat < s.v.length
  · rw [getD_lt _ hk]; exact h.vv _ (List.getElem_mem hk)
  · simp [List.getD, List.getElem?_eq_none (Nat.le_of_not_lt hk), in64]

theorem St.Ok.do_ok {F : Nat} {s : St} (h : s.Ok F) {t : Int} {i : Ins} (hi : s.ins t = some i) : (s.do_ t i).Ok F := by
  obtain ⟨ht, hf, hc⟩ := St.ins_has hi
  obtain ⟨o1, o2, o3, o4, o5, o6⟩ := h.obj hi
  have htn : t.toNat < s.ts.length := by unfold St.has at ht; omega
  obtain ⟨q1, q2, q3⟩ := h.thr _ (St.th_mem htn)
  refine ⟨h.f8, h.right, by simpa [St.do_] using h.len, ?_, ?_, fun x hx => ?_, fun k hk => ?_, fun n hn => ?_, fun n hn => ?_, fun k hk => ?_⟩
  · unfold St.do_; dsimp only; split <;> simp [h.vl]
  · unfold St.do_; dsimp only; repeat' split
    all_goals simp [h.ml]
  · rcases List.mem_or_eq_of_mem_set hx with hx | rfl
    · exact h.thr x hx
    · unfold St.thr
      dsimp only
      refine ⟨?_, ?_, by omega⟩
      · repeat' split
        all_goals simp [q1]
      · intro n hn
        split at hn
        · rcases List.mem_or_eq_of_mem_set hn with hn | rfl
          · exact q2 n hn
          · exact h.var64 _
        split at hn
        · rcases List.mem_or_eq_of_mem_set hn with hn | rfl
          · exact q2 n hn
          · exact o6
        split at hn
        · rcases List.mem_or_eq_of_mem_set hn with hn | rfl
          · exact q2 n hn
          · exact in64_wrap _
        · exact q2 n hn
  · rw [St.th_do s t i ht]
    have hk' : k < s.ts.length := by simpa [St.do_] using hk
    have hcd : (s.do_ t i).code k = s.code k := rfl
    rw [hcd]
    split
    · rename_i e
      subst e
      unfold St.thr
      dsimp only
      split
      · rename_i h7; have := o3 h7.1; omega
      · exact (List.getElem?_eq_some_iff.1 hc).1
    · exact h.place k hk'
  · unfold St.do_ at hn
    dsimp only at hn
    split at hn
    · rcases List.mem_or_eq_of_mem_set hn with hn | rfl
      · exact h.vv n hn
      · exact h.reg64 ht i
    · exact h.vv n hn
  · have hl : (s.do_ t i).ts.length = s.ts.length := by simp [St.do_]
    rw [hl]
    unfold St.do_ at hn
    dsimp only at hn
    unfold St.has at ht
    split at hn
    · rcases List.mem_or_eq_of_mem_set hn with hn | rfl
      · exact h.mm n hn
      · omega
    split at hn
    · rcases List.mem_or_eq_of_mem_set hn with hn | rfl
      · exact h.mm n hn
      · omega
    · exact h.mm n hn
  · have hk' : s.p.mutexes ≤ k := hk
    have hx := h.objM hi
    unfold St.do_
    dsimp only
    split
    · rename_i h5
      have := hx (.inl h5)
      rw [getD_set _ _ _ _ _ (by have := o2 (.inl h5); have := h.ml; omega), if_neg (by omega)]
      exact h.free k hk'
    split
    · rename_i h6
      have := hx (.inr h6.1)
      rw [getD_set _ _ _ _ _ (by have := o2 (.inr h6.1); have := h.ml; omega), if_neg (by omega)]
      exact h.free k hk'
    · exact h.free k hk'

theorem St.Ok.step_ok {F : Nat} {s : St} (h : s.Ok F) (t : Int) : (s.step t).2.2.Ok F := by
  rcases s.step_cases t with ⟨i, hi, _, e⟩ | ⟨e, _, e'⟩
  · rw [e]; exact h.do_ok hi
  · rw [e']; exact h

/-- Who has a mutex behind a step. -/
theorem St.Ok.who_do {F : Nat} {s : St} (h : s.Ok F) {t : Int} {i : Ins} (hi : s.ins t = some i) (x : Int) : (s.do_ t i).who x =
    if i.kind = 5 ∧ x.toNat = i.x.toNat then t else if i.kind = 6 ∧ s.who i.x = t ∧ x.toNat = i.x.toNat then -1 else s.who x := by
  obtain ⟨o1, o2, o3, o4, o5, o6⟩ := h.obj hi
  have hml := h.ml
  have e0 : (s.do_ t i).who x = (if i.kind = 5 then s.m.set i.x.toNat t else if i.kind = 6 ∧ s.who i.x = t then s.m.set i.x.toNat (-1) else s.m).getD x.toNat (-1) := rfl
  rw [e0]
  by_cases h5 : i.kind = 5
  · have := o2 (.inl h5)
    rw [if_pos h5, getD_set _ _ _ _ _ (by omega)]
    simp [h5, St.who]
  · rw [if_neg h5]
    by_cases h6 : i.kind = 6 ∧ s.who i.x = t
    · have := o2 (.inr h6.1)
      rw [if_pos h6, getD_set _ _ _ _ _ (by omega)]
      rw [if_neg (c := i.kind = 5 ∧ x.toNat = i.x.toNat) (fun e => h5 e.1)]
      by_cases hx : x.toNat = i.x.toNat
      · rw [if_pos hx, if_pos ⟨h6.1, h6.2, hx⟩]
      · rw [if_neg hx, if_neg (fun e => hx e.2.2)]
        rfl
    · rw [if_neg h6, if_neg (by simp [h5]), if_neg (by intro h; exact h6 ⟨h.1, h.2.1⟩)]
      rfl

theorem St.who_eq {s : St} {x y : Int} (h : x.toNat = y.toNat) : s.who x = s.who y := by
  unfold St.who; rw [h]

/-- P2.3: what another thread does next stays. -/
theorem St.Ok.next_do {F : Nat} {s : St} (h : s.Ok F) {t : Int} {i : Ins} (hi : s.ins t = some i) (hm : s.may t = true) {u : Int} (hu : u ≠ t) : (s.do_ t i).next u = s.next u := by
  obtain ⟨ht, _, _⟩ := St.ins_has hi
  have hl : (s.do_ t i).ts.length = s.ts.length := by simp [St.do_]
  have hh : (s.do_ t i).has u ↔ s.has u := by unfold St.has; rw [hl]
  by_cases hu' : s.has u
  · have hth : (s.do_ t i).th u.toNat = s.th u.toNat := by
      rw [St.th_do s t i ht, if_neg]
      unfold St.has at ht hu'
      omega
    have hins : (s.do_ t i).ins u = s.ins u := by
      unfold St.ins
      rw [hth]
      simp only [hh]
      rfl
    unfold St.next
    rw [hins]
    cases hn : s.ins u with
    | none => rfl
    | some j =>
      simp only [Option.map_some]
      have hwho : ((s.do_ t i).who j.x = u) ↔ (s.who j.x = u) := by
        rw [h.who_do hi]
        unfold St.has at hu' ht
        split
        · rename_i h5
          have := St.may_free hi hm h5.1
          rw [St.who_eq h5.2]
          constructor <;> intro e <;> omega
        split
        · rename_i h6
          rw [St.who_eq h6.2.2]
          have := h6.2.1
          constructor <;> intro e <;> omega
        · rfl
      have hreg : (s.do_ t i).reg u j = s.reg u j := by unfold St.reg; rw [hth]
      unfold St.ev
      simp only [hwho, hreg]
  · unfold St.next St.ins
    rw [if_neg (by rw [hh]; exact fun e => hu' e.1), if_neg (fun e => hu' e.1)]
    rfl

theorem St.Ok.next_step {F : Nat} {s : St} (h : s.Ok F) (t : Int) {u : Int} (hu : u ≠ t) : (s.step t).2.2.next u = s.next u := by
  rcases s.step_cases t with ⟨i, hi, hm, e⟩ | ⟨e, _, e'⟩
  · rw [e]; exact h.next_do hi hm hu
  · rw [e']

/-- A variable behind a step. -/
theorem St.Ok.var_do {F : Nat} {s : St} (h : s.Ok F) {t : Int} {i : Ins} (hi : s.ins t = some i) (x : Int) : (s.do_ t i).var x = if i.kind = 2 ∧ x.toNat = i.x.toNat then s.reg t i else s.var x := by
  obtain ⟨o1, o2, o3, o4, o5, o6⟩ := h.obj hi
  have hvl := h.vl
  have e0 : (s.do_ t i).var x = (if i.kind = 2 then s.v.set i.x.toNat (s.reg t i) else s.v).getD x.toNat 0 := rfl
  rw [e0]
  by_cases h2 : i.kind = 2
  · have := o1 (.inr h2)
    rw [if_pos h2, getD_set _ _ _ _ _ (by omega)]
    simp only [h2, true_and]
    rfl
  · rw [if_neg h2, if_neg (fun e => h2 e.1)]
    rfl

/-- P2.1: a variable changes by an EWrite of it alone. -/
theorem St.Ok.writes {F : Nat} {s : St} (h : s.Ok F) (t : Int) (x : Int) (hx : 0 ≤ x) (hne : (s.step t).2.2.var x ≠ s.var x) : (s.step t).1 = 0 ∧ (s.step t).2.1.kind = 3 ∧ (s.step t).2.1.obj = x := by
  rcases s.step_cases t with ⟨i, hi, hm, e⟩ | ⟨e, _, e'⟩
  · rw [e] at hne ⊢
    dsimp only at hne ⊢
    rw [h.var_do hi] at hne
    split at hne
    · rename_i h2
      have := (h.obj hi).1 (.inr h2.1)
      unfold St.ev
      rw [if_neg (by omega), if_pos h2.1]
      exact ⟨rfl, rfl, by dsimp only; omega⟩
    · exact absurd rfl hne
  · rw [e'] at hne
    exact absurd rfl hne

/-- P2.1, P2.3: who has a mutex behind a step, by the event alone. -/
theorem St.Ok.locks {F : Nat} {s : St} (h : s.Ok F) (t : Int) : 
    ((s.step t).1 ≠ 0 ∧ (s.step t).2.2 = s) ∨ (s.step t).1 = 0 ∧ (((s.step t).2.1.kind = 4 ∧ 0 ≤ (s.step t).2.1.obj ∧ (s.step t).2.1.obj < 2 ∧ s.who (s.step t).2.1.obj = -1 ∧ ∀ x, 0 ≤ x → (s.step t).2.2.who x = if x = (s.step t).2.1.obj then t else s.who x) ∨
      ((s.step t).2.1.kind = 5 ∧ 0 ≤ (s.step t).2.1.obj ∧ (s.step t).2.1.obj < 2 ∧ s.who (s.step t).2.1.obj = t ∧ ∀ x, 0 ≤ x → (s.step t).2.2.who x = if x = (s.step t).2.1.obj then -1 else s.who x) ∨
      ((s.step t).2.1.kind ≠ 4 ∧ (s.step t).2.1.kind ≠ 5 ∧ ∀ x, (s.step t).2.2.who x = s.who x)) := by
  rcases s.step_cases t with ⟨i, hi, hm, e⟩ | ⟨e, he, e'⟩
  · refine .inr ?_
    rw [e]
    dsimp only
    refine ⟨rfl, ?_⟩
    have hw := h.who_do hi
    obtain ⟨o1, o2, o3, o4, o5, o6⟩ := h.obj hi
    have hfree := St.may_free hi hm
    by_cases h5 : i.kind = 5
    · refine .inl ?_
      have ho := o2 (.inl h5)
      have ev : s.ev t i = ⟨t, 4, i.x, false⟩ := by unfold St.ev; rw [if_neg (by omega), if_neg (by omega), if_pos h5]
      rw [ev]
      dsimp only
      have hf := hfree h5
      have hk : i.x.toNat < s.m.length := by have := h.ml; omega
      have hmm := h.mm (s.who i.x) (by unfold St.who; rw [getD_lt _ hk]; exact List.getElem_mem hk)
      refine ⟨rfl, ho.1, ho.2, by omega, fun x hx => ?_⟩
      rw [hw]
      by_cases hxx : x = i.x
      · rw [if_pos ⟨h5, by rw [hxx]⟩, if_pos hxx]
      · rw [if_neg (fun e => hxx (by omega)), if_neg (fun e => by omega), if_neg hxx]
    · by_cases h6 : i.kind = 6 ∧ s.who i.x = t
      · refine .inr (.inl ?_)
        have ho := o2 (.inr h6.1)
        have ev : s.ev t i = ⟨t, 5, i.x, false⟩ := by unfold St.ev; rw [if_neg (by omega), if_neg (by omega), if_neg (by omega), if_pos h6.1, if_pos h6.2]
        rw [ev]
        dsimp only
        refine ⟨rfl, ho.1, ho.2, h6.2, fun x hx => ?_⟩
        rw [hw, if_neg (fun e => h5 e.1)]
        by_cases hxx : x = i.x
        · rw [if_pos ⟨h6.1, h6.2, by rw [hxx]⟩, if_pos hxx]
        · rw [if_neg (fun e => hxx (by omega)), if_neg hxx]
      · refine .inr (.inr ?_)
        have hk : (s.ev t i).kind ≠ 4 ∧ (s.ev t i).kind ≠ 5 := by
          unfold St.ev
          repeat' split
          all_goals first | (simp; done) | omega | (rename_i a b; exact absurd ⟨a, b⟩ h6)
        exact ⟨hk.1, hk.2, fun x => by rw [hw, if_neg (fun e => h5 e.1), if_neg (fun e => h6 ⟨e.1, e.2.1⟩)]⟩
  · rw [e']
    exact .inl ⟨by dsimp only; omega, rfl⟩

/-- All fuel that is left. -/
def St.fuel (s : St) : Nat := (s.ts.map Thr.fuel).sum

theorem sum_set (l : List Nat) (k y : Nat) (h : k < l.length) : (l.set k y).sum + l[k] = l.sum + y := by
  induction l generalizing k with
  | nil => simp at h
  | cons a l ih =>
    cases k with
    | zero => simp; omega
    | succ k => simp at h ⊢; have := ih k h; omega

theorem St.fuel_do {s : St} {t : Int} {i : Ins} (hi : s.ins t = some i) : (s.do_ t i).fuel + 1 = s.fuel := by
  obtain ⟨ht, hf, _⟩ := St.ins_has hi
  have htn : t.toNat < s.ts.length := by unfold St.has at ht; omega
  have e1 : (s.do_ t i).fuel = ((s.ts.map Thr.fuel).set t.toNat ((s.th t.toNat).fuel - 1)).sum := by
    unfold St.fuel St.do_ St.thr
    dsimp only
    rw [List.map_set]
  have e2 := sum_set (s.ts.map Thr.fuel) t.toNat ((s.th t.toNat).fuel - 1) (by simpa using htn)
  have e3 : (s.ts.map Thr.fuel)[t.toNat]'(by simpa using htn) = (s.th t.toNat).fuel := by
    unfold St.th; rw [getD_lt _ htn]; simp
  rw [e3] at e2
  rw [e1]
  unfold St.fuel
  omega

/-- The same state but for fuel: d more a thread. -/
def St.More (d : Nat) (s s' : St) : Prop := s' = { s with ts := s.ts.map fun x => { x with fuel := x.fuel + d } }

theorem St.More.step {d : Nat} {s s' : St} (h : s.More d s') {t : Int} (h0 : (s.step t).1 = 0) : (s'.step t).1 = 0 ∧ (s'.step t).2.1 = (s.step t).2.1 ∧ (s.step t).2.2.More d (s'.step t).2.2 := by
  rcases s.step_cases t with ⟨i, hi, hm, e⟩ | ⟨e, he, e'⟩
  · obtain ⟨ht, hf, hc⟩ := St.ins_has hi
    have htn : t.toNat < s.ts.length := by unfold St.has at ht; omega
    have hth : s'.th t.toNat = { s.th t.toNat with fuel := (s.th t.toNat).fuel + d } := by
      unfold St.th
      rw [h, getD_lt _ htn, getD_lt _ (by simpa using htn)]
      simp
    have hp : s'.p = s.p := by rw [h]
    have hv : s'.v = s.v := by rw [h]
    have hmm : s'.m = s.m := by rw [h]
    have hh : s'.has t := by unfold St.has at ht ⊢; rw [h]; simpa using ht
    have hins : s'.ins t = some i := by
      unfold St.ins
      rw [if_pos ⟨hh, by rw [hth]; dsimp only; omega⟩, hth]
      unfold St.code at hc ⊢
      rw [hp]
      exact hc
    have hwho : ∀ x, s'.who x = s.who x := fun x => by unfold St.who; rw [hmm]
    have hvar : ∀ x, s'.var x = s.var x := fun x => by unfold St.var; rw [hv]
    have hreg : s'.reg t i = s.reg t i := by unfold St.reg; rw [hth]
    have hmay : s'.may t = true := by
      unfold St.may at hm ⊢
      rw [hi] at hm
      rw [hins]
      simpa [hwho] using hm
    have hev : s'.ev t i = s.ev t i := by unfold St.ev; simp only [hwho, hreg]
    have hst : s'.step t = (0, s'.ev t i, s'.do_ t i) := by
      unfold St.step
      rw [if_pos hh, hins]
      simp only [hmay, if_true]
    rw [hst, e]
    refine ⟨rfl, hev, ?_⟩
    have hthr : s'.thr t i = { s.thr t i with fuel := (s.thr t i).fuel + d } := by
      unfold St.thr
      simp only [hth, hreg, hvar]
      congr 1
      omega
    unfold St.More St.do_
    dsimp only
    rw [hthr]
    simp only [hwho, hreg, hp, hv, hmm, List.map_set]
    rw [h]
  · rw [e'] at h0
    dsimp only at h0
    omega

theorem new_more (p : Pg) (f d : Nat) : (St.new p f).More d (St.new p (f + d)) := by
  simp [St.More, St.new]

end Go.Proofs.YtljlaopjimkcmaaGreat

/- Memory: rows of numbers and of events, boxes, worlds that differ in a block. No function of the program. -/
namespace Go.Proofs.YtljlaopjimkcmaaGreat
open Go.RowKit

theorem ret_bool {a b : Bool} (h : a = b) : Ending.returned (.bool a) = .returned (.bool b) := by rw [h]
theorem below_alloc1 (w : World) (o : Obj) : Below w.heap.size w (w.alloc o) := (Below.refl _ _).alloc (Nat.le_refl _) _
theorem below_alloc2 (w : World) (o o2 : Obj) : Below w.heap.size w ((w.alloc o).alloc o2) := ((Below.refl _ _).alloc (Nat.le_refl _) _).alloc (by simp) _

/-- All but block b is as it was. -/
structure Only (b : Nat) (w w' : World) : Prop where
  os : w'.os = w.os
  tape : w'.tape = w.tape
  output : w'.output = w.output
  size : w.heap.size ≤ w'.heap.size
  block : ∀ k, k < w.heap.size → k ≠ b → w'.heap[k]? = w.heap[k]?

theorem Only.refl (b : Nat) (w : World) : Only b w w := ⟨rfl, rfl, rfl, Nat.le_refl _, fun _ _ _ => rfl⟩
theorem Only.trans {b : Nat} {u v w : World} (h : Only b u v) (k : Only b v w) : Only b u w :=
  ⟨k.os.trans h.os, k.tape.trans h.tape, k.output.trans h.output, Nat.le_trans h.size k.size, fun i hi hb => (k.block i (Nat.lt_of_lt_of_le hi h.size) hb).trans (h.block i hi hb)⟩
theorem Only.of_below {b : Nat} {w w' : World} (h : Below w.heap.size w w') : Only b w w' := ⟨h.os, h.tape, h.output, h.size, fun k hk _ => h.block k hk⟩
theorem Only.drew {b : Nat} {w w' : World} (h : Only b w w') : Only b w w'.drew := ⟨h.os, h.tape, h.output, h.size, h.block⟩
theorem Only.alloc {b : Nat} {w w' : World} (h : Only b w w') (o : Obj) : Only b w (w'.alloc o) := h.trans (.of_below ((Below.refl _ _).alloc (Nat.le_refl _) _))
theorem Only.setCell {b : Nat} {w w' : World} (h : Only b w w') (o : Nat) (v : Value) : Only b w (w'.setCell ⟨b, o, none⟩ v) :=
  h.trans ⟨rfl, rfl, rfl, by simp [World.setCell], fun k _ hb => Below.heap_setCell _ _ _ _ hb⟩
theorem Only.below {b B : Nat} {w w' : World} (h : Only b w w') (hB : B ≤ b) (hw : B ≤ w.heap.size) : Below B w w' :=
  ⟨h.os, h.tape, h.output, h.size, fun k hk => h.block k (by omega) (by omega)⟩
def evV (e : Ev) : Value := .agg #[.int .i64 e.thread, .int .i64 e.kind, .int .i64 e.obj, .bool e.fail]

theorem _root_.Go.RowKit.Below.drewN {B : Nat} {a w : World} (h : Below B a w) {n : Nat} : Below B a (w.drewN n) := ⟨h.os, h.tape, h.output, h.size, h.block⟩
theorem below_set4 {B g : Nat} {a w : World} (h : Below B a w) (hg : B ≤ g) (v0 v1 v2 v3 : Value) : Below B a ((((w.setCell ⟨g, 0, none⟩ v0).setCell ⟨g, 1, none⟩ v1).setCell ⟨g, 2, none⟩ v2).setCell ⟨g, 3, none⟩ v3) :=
  (((h.setCell (p := ⟨g, 0, none⟩) hg _).setCell (p := ⟨g, 1, none⟩) hg _).setCell (p := ⟨g, 2, none⟩) hg _).setCell (p := ⟨g, 3, none⟩) hg _

theorem evV_mk (t k o : Int) (f : Bool) : evV ⟨t, k, o, f⟩ = .agg #[.int .i64 t, .int .i64 k, .int .i64 o, .bool f] := rfl

/-- A row of numbers of the call's own. -/
def OwnN (w : World) (B : Nat) (v : Value) (ns : List Int) : Prop := w.ownsRow B 3 1 v ns.length (ns.map (Value.int .i64))
theorem OwnN.alloc {w : World} {B : Nat} {v : Value} {l : List Int} (h : OwnN w B v l) (o : Obj) : OwnN (w.alloc o) B v l := World.ownsRow.alloc h o
theorem ownN_nil (w : World) (B : Nat) : OwnN w B (.slice none 0 0) [] := World.ownsRow_nil w B _ _
theorem ownsRow_later {w w' : World} {base : Nat} {e : TypeId} {size : Nat} {v : Value} {n : Nat} {xs : List Value} (h : w.ownsRow base e size v n xs) (hb : Below w.heap.size w w') : w'.ownsRow base e size v n xs := by
  obtain ⟨h1, h2 | ⟨g, cap, cur, h2, h3, h4, h5⟩⟩ := h
  · exact ⟨h1, .inl h2⟩
  · exact ⟨h1, .inr ⟨g, cap, cur, h2, h3, (hb.block g (Array.getElem?_eq_some_iff.1 h4).1).trans h4, h5⟩⟩
theorem OwnN.later {w w' : World} {B : Nat} {v : Value} {l : List Int} (h : OwnN w B v l) (hb : Below w.heap.size w w') : OwnN w' B v l := ownsRow_later h hb

theorem nums_new (w : World) (ms : List Int) (t : TypeId) (g : Nat) (hg : g = w.heap.size) : ∀ j u, (ms.map (Value.int .i64))[j]? = some u → (w.alloc (.cells (ms.map (Value.int .i64)).toArray t)).cell? (Addr.add ⟨g, 0, none⟩ j) = some u := by
  subst hg
  intro j u hj
  have e : Addr.add ⟨w.heap.size, 0, none⟩ j = ⟨w.heap.size, j, none⟩ := by
    unfold Addr.add
    split
    · rename_i h0; subst h0; rfl
    · simp
  rw [e, World.cell?_alloc_new]
  simpa using hj

theorem wp_appendN {w : World} {ops : Array Oper} {rest : List Oper} {o : Oper} {a : Act} {Q : Exit → Act → World → Prop} (hgd : o.guard = none) (s x : Operand)
    (ho : o.op = .call { callee := .builtin .append, args := #[s, x], argTypes := #[48, 48] }) (B : Nat) (v : Value) (ns : List Int) (hs : a.eval s = v) (hown : OwnN w B v ns)
    (ad : Addr) (m c : Nat) (hx : a.eval x = .slice (some ad) m c) (ms : List Int) (hm : ms.length = m) (hnews : ∀ j u, (ms.map (Value.int .i64))[j]? = some u → w.cell? (ad.add j) = some u)
    (hlen : ns.length + m ≤ 1000000000) (hB : B ≤ w.heap.size)
    (h : ∀ v' w', OwnN w' B v' (ns ++ ms) → Below B w w' → w.grownBy w' v.ownBlock → wpList Tryz.prog ops Q rest (a.put o.dst v') w') : wpList Tryz.prog ops Q (o :: rest) a w := by
  have hinfo : (Tryz.prog.info? 3).map (fun i => (i.zero, i.size, i.bytes)) = some (some (.int .i64 0), 1, 8) := by kernel_rfl
  obtain ⟨i, hi, hzz⟩ := Option.map_eq_some_iff.1 hinfo
  simp only [Prod.mk.injEq] at hzz
  obtain ⟨hz, hsz, hby⟩ := hzz
  refine wpList_append_own w hgd s x 48 ho B 3 i (.int .i64 0) 1 8 Tryz.underlying48 hi hz hsz hby rfl (by decide) v ns.length (ns.map (Value.int .i64)) hs hown ad m c (ms.map (Value.int .i64)) hx (by simp [hm]) hnews
    (by intro u hu; obtain ⟨y, _, rfl⟩ := List.mem_map.1 hu; rfl) (by unfold maxLen; omega) (by omega) hB ?_
  intro v' w' h1 h2 _
  refine h v' w' ?_ ((Below.refl B w).grown h2 hB (fun k hk => (World.ownsRow.lt hown k hk).1)) h2
  unfold OwnN
  rw [List.length_append, List.map_append, hm]
  exact h1

/-- From the place a on lie, in w, the numbers ns. -/
def NumsAt (w : World) (a : Option Addr) (ns : List Int) : Prop :=
  ns.length ≤ maxLen ∧ (ns ≠ [] → ∃ b o, a = some ⟨b, o, none⟩ ∧ ∀ i (h : i < ns.length), w.cell? ⟨b, o + i, none⟩ = some (.int .i64 ns[i]))

theorem NumsAt.later {w w' : World} {a : Option Addr} {ns : List Int} (h : NumsAt w a ns) (hb : Below w.heap.size w w') : NumsAt w' a ns := by
  refine ⟨h.1, fun hn => ?_⟩
  obtain ⟨b, o, rfl, hc⟩ := h.2 hn
  exact ⟨b, o, rfl, fun i hi => cell_later hb (hc i hi)⟩

theorem OwnN.form {w : World} {B : Nat} {v : Value} {ns : List Int} (h : OwnN w B v ns) (hm : ns.length ≤ 1000000) : ∃ a cap, v = .slice a ns.length cap ∧ NumsAt w a ns ∧ (a = none → cap = 0) := by
  obtain ⟨h1, ⟨h2, h3⟩ | ⟨g, cap, cur, h2, h3, h4, h5, h6, h7, h8⟩⟩ := h
  · have e : ns = [] := List.eq_nil_of_length_eq_zero h3
    subst e
    exact ⟨none, 0, h2, ⟨by simp [maxLen], fun h => absurd rfl h⟩, fun _ => rfl⟩
  · refine ⟨some ⟨g, 0, none⟩, cap, h2, ⟨by unfold maxLen; omega, fun _ => ⟨g, 0, rfl, fun i hi => ?_⟩⟩, by simp⟩
    have hj : (ns.map (Value.int .i64))[i]? = some (.int .i64 ns[i]) := by simp [hi]
    rw [← h8, List.getElem?_take_of_lt (by omega)] at hj
    simp [World.cell?, h4]
    simpa using hj

theorem run_part_one {P : Program} (w : World) {t : TypeId} {d : TypeDesc} {xs : Array Value} {o : Nat} {v : Value} (hu : P.underlying t = some d) (hd : (match d with | .struct _ | .array _ _ => true | _ => false) = false) (hx : xs[o]? = some v) : (part t xs o).run P w = .ok v w := by
  have hagg : (isAgg t).run P w = .ok false w := by
    unfold isAgg
    rw [Sem.run_bind, run_underlying hu w]
    cases d <;> simp_all
  simp [part, hagg, hx]

theorem run_eqFields_consI {P : Program} (w : World) (d : Nat) (xs ys : Array Value) (f : Field) (fs : List Field) (k k' : IntKind) (a b : Int) (hn : f.name ≠ "_") (hu : P.underlying f.type = some (.int k'))
    (hx : xs[f.offset]? = some (.int k a)) (hy : ys[f.offset]? = some (.int k b)) :
    (Op.eqFields (d + 1) xs ys (f :: fs)).run P w = if a == b then (Op.eqFields (d + 1) xs ys fs).run P w else .ok false w := by
  rw [Op.eqFields, if_pos hn]
  simp only [Sem.run_bind, run_part_one w hu rfl hx, run_part_one w hu rfl hy, Result.andThen_ok, run_equalIn_int w d f.type k k' a b hu]
  cases h : (a == b) <;> simp

theorem run_eqFields_consB {P : Program} (w : World) (d : Nat) (xs ys : Array Value) (f : Field) (fs : List Field) (a b : Bool) (hn : f.name ≠ "_") (hu : P.underlying f.type = some .bool)
    (hx : xs[f.offset]? = some (.bool a)) (hy : ys[f.offset]? = some (.bool b)) :
    (Op.eqFields (d + 1) xs ys (f :: fs)).run P w = if a == b then (Op.eqFields (d + 1) xs ys fs).run P w else .ok false w := by
  rw [Op.eqFields, if_pos hn]
  simp only [Sem.run_bind, run_part_one w hu rfl hx, run_part_one w hu rfl hy, Result.andThen_ok, run_equalIn_bool w d f.type a b hu]
  cases h : (a == b) <;> simp

set_option maxRecDepth 100000 in
theorem run_equal_ev (e e' : Ev) (w : World) :
    (Op.equalIn 10000 51 (.agg #[.int .i64 e.thread, .int .i64 e.kind, .int .i64 e.obj, .bool e.fail]) (.agg #[.int .i64 e'.thread, .int .i64 e'.kind, .int .i64 e'.obj, .bool e'.fail])).run Tryz.prog w = .ok (decide (e = e')) w := by
  have hd : decide (e = e') = ((e.thread == e'.thread) && ((e.kind == e'.kind) && ((e.obj == e'.obj) && (e.fail == e'.fail)))) := by
    obtain ⟨a, b, c, d⟩ := e
    obtain ⟨a', b', c', d'⟩ := e'
    rw [Bool.eq_iff_iff]
    simp
  rw [hd]
  obtain ⟨a, b, c, d⟩ := e
  obtain ⟨a', b', c', d'⟩ := e'
  dsimp only
  clear hd
  have ht : Tryz.prog.underlying 51 = some (.struct (Tryz.prog.fieldsOf 51)) := by kernel_rfl
  have hp : Tryz.prog.stoodInHeld 51 = false := by kernel_rfl
  rw [run_equalIn_agg (P := Tryz.prog) w 9999 _ _ _ ht hp]
  unfold Program.fieldsOf
  rw [Tryz.underlying51]
  dsimp only
  rw [run_eqFields_consI (P := Tryz.prog) w 9998 _ _ _ _ .i64 .i64 a a' (by simp) Tryz.underlying3 rfl rfl]
  rw [run_eqFields_consI (P := Tryz.prog) w 9998 _ _ _ _ .i64 .i64 b b' (by simp) Tryz.underlying3 rfl rfl]
  rw [run_eqFields_consI (P := Tryz.prog) w 9998 _ _ _ _ .i64 .i64 c c' (by simp) Tryz.underlying3 rfl rfl]
  rw [run_eqFields_consB (P := Tryz.prog) w 9998 _ _ _ _ d d' (by simp) Tryz.underlying4 rfl rfl]
  rw [Op.eqFields]
  cases (a == a') <;> cases (b == b') <;> cases (c == c') <;> cases (d == d') <;> simp

/-- An event in a box. -/
def EvBox (w : World) (g : Nat) (e : Ev) : Prop := w.heap[g]? = some (.cells #[.int .i64 e.thread, .int .i64 e.kind, .int .i64 e.obj, .bool e.fail] 51 (0, 0))
theorem EvBox.lt {w : World} {g : Nat} {e : Ev} (h : EvBox w g e) : g < w.heap.size := (Array.getElem?_eq_some_iff.1 h).1
theorem EvBox.only {w w' : World} {b g : Nat} {e : Ev} (h : EvBox w g e) (ho : Only b w w') (hb : g ≠ b) : EvBox w' g e := (ho.block g h.lt hb).trans h
theorem EvBox.later {w w' : World} {g : Nat} {e : Ev} (h : EvBox w g e) (hb : Below w.heap.size w w') : EvBox w' g e := (hb.block g h.lt).trans h
theorem EvBox.new (w : World) (e : Ev) : EvBox (w.alloc (.cells #[.int .i64 e.thread, .int .i64 e.kind, .int .i64 e.obj, .bool e.fail] 51)) w.heap.size e := heap_alloc_new w _
theorem EvBox.cells {w : World} {g : Nat} {e : Ev} (h : EvBox w g e) : w.cell? ⟨g, 0, none⟩ = some (.int .i64 e.thread) ∧ w.cell? ⟨g, 1, none⟩ = some (.int .i64 e.kind) ∧ w.cell? ⟨g, 2, none⟩ = some (.int .i64 e.obj) ∧ w.cell? ⟨g, 3, none⟩ = some (.bool e.fail) := by
  simp [World.cell?, show w.heap[g]? = _ from h]

def evCell (e : Ev) : List Value := [.int .i64 e.thread, .int .i64 e.kind, .int .i64 e.obj, .bool e.fail]
def evCells (l : List Ev) : List Value := l.flatMap evCell
theorem evCells_length (l : List Ev) : (evCells l).length = l.length * 4 := by
  induction l with
  | nil => rfl
  | cons i l ih => simp only [evCells, evCell, List.flatMap_cons, List.length_append, List.length_cons, List.length_nil] at *; omega
theorem evCells_append (a b : List Ev) : evCells (a ++ b) = evCells a ++ evCells b := by simp [evCells]
theorem evCells_get (l : List Ev) (i j : Nat) (h : i < l.length) (hj : j < 4) : (evCells l)[i * 4 + j]? = (evCell l[i])[j]? := by
  induction l generalizing i with
  | nil => simp at h
  | cons x l ih =>
    cases i with
    | zero =>
      simp only [evCells, List.flatMap_cons, Nat.zero_mul, Nat.zero_add, List.getElem_cons_zero]
      rw [List.getElem?_append_left (by simpa [evCell] using hj)]
    | succ i =>
      have := ih i (by simpa using h)
      simp only [evCells, List.flatMap_cons, List.getElem_cons_succ] at *
      rw [List.getElem?_append_right (by simp [evCell]; omega), ← this]
      congr 1
      simp [evCell]
      omega
theorem evCells_one (l : List Ev) : ∀ v ∈ evCells l, v.oneCell' = true := by
  intro v hv
  simp only [evCells, List.mem_flatMap] at hv
  obtain ⟨i, _, hv⟩ := hv
  simp [evCell] at hv
  rcases hv with rfl | rfl | rfl | rfl <;> rfl

/-- A row of events of the call's own. -/
def OwnE (w : World) (B : Nat) (v : Value) (es : List Ev) : Prop := w.ownsRow B 51 4 v es.length (evCells es)
theorem OwnE.alloc {w : World} {B : Nat} {v : Value} {l : List Ev} (h : OwnE w B v l) (o : Obj) : OwnE (w.alloc o) B v l := World.ownsRow.alloc h o
theorem ownE_nil (w : World) (B : Nat) : OwnE w B (.slice none 0 0) [] := World.ownsRow_nil w B _ _
theorem OwnE.later {w w' : World} {B : Nat} {v : Value} {l : List Ev} (h : OwnE w B v l) (hb : Below w.heap.size w w') : OwnE w' B v l := ownsRow_later h hb
theorem ownsRow_only {w w' : World} {g base : Nat} {e : TypeId} {size : Nat} {v : Value} {n : Nat} {xs : List Value} (h : w.ownsRow base e size v n xs) (ho : Only g w w') (hg : g < base) : w'.ownsRow base e size v n xs := by
  obtain ⟨h1, h2 | ⟨b, cap, cur, h2, h3, h4, h5⟩⟩ := h
  · exact ⟨h1, .inl h2⟩
  · exact ⟨h1, .inr ⟨b, cap, cur, h2, h3, (ho.block b (Array.getElem?_eq_some_iff.1 h4).1 (by omega)).trans h4, h5⟩⟩
theorem OwnE.only {w w' : World} {B g : Nat} {v : Value} {l : List Ev} (h : OwnE w B v l) (ho : Only g w w') (hg : g < B) : OwnE w' B v l := ownsRow_only h ho hg

theorem ev_new (w : World) (e : Ev) (t : TypeId) (g : Nat) (hg : g = w.heap.size) : ∀ j u, (evCells [e])[j]? = some u → (w.alloc (.cells #[.int .i64 e.thread, .int .i64 e.kind, .int .i64 e.obj, .bool e.fail] t)).cell? (Addr.add ⟨g, 0, none⟩ j) = some u := by
  subst hg
  intro j u hj
  have e : Addr.add ⟨w.heap.size, 0, none⟩ j = ⟨w.heap.size, j, none⟩ := by
    unfold Addr.add
    split
    · rename_i h0; subst h0; rfl
    · simp
  rw [e, World.cell?_alloc_new]
  simpa [evCells, evCell] using hj

theorem wp_appendE {w : World} {ops : Array Oper} {rest : List Oper} {o : Oper} {a : Act} {Q : Exit → Act → World → Prop} (hgd : o.guard = none) (s x : Operand)
    (ho : o.op = .call { callee := .builtin .append, args := #[s, x], argTypes := #[47, 47] }) (B : Nat) (v : Value) (es : List Ev) (hs : a.eval s = v) (hown : OwnE w B v es)
    (ad : Addr) (hx : a.eval x = .slice (some ad) 1 1) (e : Ev) (hnews : ∀ j u, (evCells [e])[j]? = some u → w.cell? (ad.add j) = some u)
    (hlen : es.length ≤ 1000000) (hB : B ≤ w.heap.size)
    (h : ∀ v' w', OwnE w' B v' (es ++ [e]) → Below B w w' → wpList Tryz.prog ops Q rest (a.put o.dst v') w') : wpList Tryz.prog ops Q (o :: rest) a w := by
  have hinfo : (Tryz.prog.info? 51).map (fun i => (i.zero, i.size, i.bytes)) = some (some (.agg #[.int .i64 0, .int .i64 0, .int .i64 0, .bool false]), 4, 32) := by kernel_rfl
  obtain ⟨t, hi, hzz⟩ := Option.map_eq_some_iff.1 hinfo
  simp only [Prod.mk.injEq] at hzz
  obtain ⟨hz, hsz, hby⟩ := hzz
  refine wpList_append_own w hgd s x 47 ho B 51 t (.agg #[.int .i64 0, .int .i64 0, .int .i64 0, .bool false]) 4 32 Tryz.underlying47 hi hz hsz hby rfl (by decide) v es.length (evCells es) hs hown ad 1 1 (evCells [e]) hx rfl hnews
    (evCells_one _) (by unfold maxLen; omega) (by omega) hB ?_
  intro v' w' h1 h2 _
  refine h v' w' ?_ ((Below.refl B w).grown h2 hB (fun k hk => (World.ownsRow.lt hown k hk).1))
  unfold OwnE
  rw [List.length_append, evCells_append]
  exact h1

/-- From the place a on lie, in w, the events es. -/
def EvsAt (w : World) (a : Option Addr) (es : List Ev) : Prop :=
  es.length ≤ maxLen ∧ (es ≠ [] → ∃ b o, a = some ⟨b, o, none⟩ ∧ ∀ i (h : i < es.length), w.cell? ⟨b, o + i * 4, none⟩ = some (.int .i64 es[i].thread) ∧ w.cell? ⟨b, o + i * 4 + 1, none⟩ = some (.int .i64 es[i].kind) ∧
    w.cell? ⟨b, o + i * 4 + 2, none⟩ = some (.int .i64 es[i].obj) ∧ w.cell? ⟨b, o + i * 4 + 3, none⟩ = some (.bool es[i].fail))
theorem EvsAt.later {w w' : World} {a : Option Addr} {es : List Ev} (h : EvsAt w a es) (hb : Below w.heap.size w w') : EvsAt w' a es := by
  refine ⟨h.1, fun hn => ?_⟩
  obtain ⟨b, o, rfl, hc⟩ := h.2 hn
  refine ⟨b, o, rfl, fun i hi => ?_⟩
  obtain ⟨h0, h1, h2, h3⟩ := hc i hi
  exact ⟨cell_later hb h0, cell_later hb h1, cell_later hb h2, cell_later hb h3⟩
theorem evsAt_nil (w : World) (a : Option Addr) : EvsAt w a [] := ⟨by simp [maxLen], fun h => absurd rfl h⟩

theorem OwnE.form {w : World} {B : Nat} {v : Value} {es : List Ev} (h : OwnE w B v es) (hm : es.length ≤ 1000000) : ∃ a cap, v = .slice a es.length cap ∧ EvsAt w a es := by
  obtain ⟨h1, ⟨h2, h3⟩ | ⟨g, cap, cur, h2, h3, h4, h5, h6, h7, h8⟩⟩ := h
  · have e : es = [] := List.eq_nil_of_length_eq_zero h3
    subst e
    exact ⟨none, 0, h2, evsAt_nil _ _⟩
  · have hcell : ∀ j u, (evCells es)[j]? = some u → w.cell? ⟨g, j, none⟩ = some u := by
      intro j u hj
      have hjl : j < es.length * 4 := by
        have := (List.getElem?_eq_some_iff.1 hj).1
        rw [evCells_length] at this
        exact this
      rw [← h8, List.getElem?_take_of_lt (by omega)] at hj
      simp [World.cell?, h4]
      simpa using hj
    refine ⟨some ⟨g, 0, none⟩, cap, h2, ⟨by unfold maxLen; omega, fun _ => ⟨g, 0, rfl, fun i hi => ?_⟩⟩⟩
    simp only [Nat.zero_add]
    exact ⟨hcell _ _ (evCells_get es i 0 hi (by omega)), hcell _ _ (evCells_get es i 1 hi (by omega)), hcell _ _ (evCells_get es i 2 hi (by omega)), hcell _ _ (evCells_get es i 3 hi (by omega))⟩


theorem add_row (b o k : Nat) : Addr.add ⟨b, o, none⟩ k = ⟨b, o + k, none⟩ := by
  unfold Addr.add
  split
  · rename_i h; subst h; rfl
  · rfl

theorem run_index_one {P : Program} (w : World) {t elem : TypeId} {n : Nat} {cs : Array Value} {d : TypeDesc} (i : Nat) {v : Value} (hu : P.underlying t = some (.array n elem)) (he : P.underlying elem = some d)
    (hd : (match d with | .struct _ | .array _ _ => true | _ => false) = false) (hs : (P.info? elem).map (·.size) = some 1) (hi : i < n) (hv : cs[i]? = some v) : (Instr.index t (.agg cs) (.int .i64 i)).run P w = .ok v w := by
  cases hq : P.info? elem with
  | none => simp [hq] at hs
  | some x =>
    have hx : x.size = 1 := by simpa [hq] using hs
    have hagg : (isAgg elem).run P w = .ok false w := by
      unfold isAgg
      rw [Sem.run_bind, run_underlying he w]
      cases d <;> simp_all
    simp [Instr.index, asIntOf, run_underlying hu, hi, sizeOf, typeInfo, hq, hx, part, hagg, hv]

end Go.Proofs.YtljlaopjimkcmaaGreat

/- A state of the program in memory: one block of 156 numbers. -/
namespace Go.Proofs.YtljlaopjimkcmaaGreat
open Go.RowKit

def ins0 : Ins := ⟨0, 0, 0, 0⟩
def insNum (i : Ins) (k : Nat) : Int := if k = 0 then i.kind else if k = 1 then i.r else if k = 2 then i.x else i.n

/-- The number of cell k of a thread's 37. -/
def thrNum (c : List Ins) (x : Thr) (k : Nat) : Int :=
  if k < 32 then insNum (c.getD (k / 4) ins0) (k % 4)
  else if k = 32 then c.length
  else if k = 33 then x.at_
  else if k = 34 then x.fuel
  else x.r.getD (k - 35) 0

/-- The number of cell o of a state's 156. -/
def stNum (s : St) (o : Nat) : Int :=
  if o = 0 then s.ts.length
  else if o = 1 then s.p.mutexes
  else if o < 150 then thrNum (s.code ((o - 2) / 37)) (s.th ((o - 2) / 37)) ((o - 2) % 37)
  else if o < 154 then s.v.getD (o - 150) 0
  else s.m.getD (o - 154) (-1)

def numA (f : Nat → Int) : Array Value := ((List.range 156).map fun o => Value.int .i64 (f o)).toArray

theorem numA_size (f : Nat → Int) : (numA f).size = 156 := by simp [numA]
theorem numA_get (f : Nat → Int) (o : Nat) (h : o < 156) : (numA f)[o]? = some (.int .i64 (f o)) := by simp [numA, h]
theorem numA_one (f : Nat → Int) : (numA f).all (·.oneCell') = true := by
  simp [numA, Value.oneCell']
theorem numA_set (f g : Nat → Int) (o : Nat) (n : Int) (ho : o < 156) (h : ∀ j, j < 156 → g j = if j = o then n else f j) : (numA f).setIfInBounds o (.int .i64 n) = numA g := by
  apply Array.ext_getElem?
  intro j
  rw [Array.getElem?_setIfInBounds]
  by_cases hj : j < 156
  · rw [numA_get g j hj, h j hj]
    by_cases e : o = j
    · subst e; simp [numA_size, hj]
    · rw [if_neg e, if_neg (fun e' => e e'.symm), numA_get f j hj]
  · have h1 : (numA g)[j]? = none := Array.getElem?_eq_none (by rw [numA_size]; omega)
    have h2 : (numA f)[j]? = none := Array.getElem?_eq_none (by rw [numA_size]; omega)
    rw [h1, h2]
    split
    · rw [numA_size, if_neg (by omega)]
    · rfl
theorem numA_congr (f g : Nat → Int) (h : ∀ j, j < 156 → f j = g j) : numA f = numA g := by
  unfold numA
  congr 1
  apply List.map_congr_left
  intro j hj
  rw [h j (by simpa using hj)]

/-- In block b lies the state s. -/
def StAt (w : World) (b : Nat) (s : St) : Prop := w.heap[b]? = some (.cells (numA (stNum s)) 84 (0, 0))

theorem StAt.lt {w : World} {b : Nat} {s : St} (h : StAt w b s) : b < w.heap.size := (Array.getElem?_eq_some_iff.1 h).1
theorem StAt.num {w : World} {b : Nat} {s : St} (h : StAt w b s) (o : Nat) (ho : o < 156) : w.cell? ⟨b, o, none⟩ = some (.int .i64 (stNum s o)) := by
  rw [cell_of_row w b o _ _ _ h, numA_get _ _ ho]
theorem StAt.frozen {w : World} {b : Nat} {s : St} (h : StAt w b s) (o : Nat) : w.frozen? ⟨b, o, none⟩ = false := by
  simp [World.frozen?, show w.heap[b]? = _ from h]
theorem StAt.set {w : World} {b : Nat} {s : St} (h : StAt w b s) (s' : St) (o : Nat) (n : Int) (ho : o < 156) (hs : ∀ j, j < 156 → stNum s' j = if j = o then n else stNum s j) : StAt (w.setCell ⟨b, o, none⟩ (.int .i64 n)) b s' := by
  have := heap_setCell_same w b o _ _ (.int .i64 n) h
  rw [numA_set _ _ o n ho hs] at this
  exact this
theorem StAt.later {w w' : World} {b : Nat} {s : St} (h : StAt w b s) (hb : Below w.heap.size w w') : StAt w' b s := (hb.block b h.lt).trans h
theorem StAt.drew {w : World} {b : Nat} {s : St} (h : StAt w b s) : StAt w.drew b s := h

theorem stNum_threads (s : St) : stNum s 0 = s.ts.length := rfl
theorem stNum_mutexes (s : St) : stNum s 1 = s.p.mutexes := rfl
theorem stNum_thr (s : St) (t k : Nat) (ht : t < 4) (hk : k < 37) : stNum s (2 + t * 37 + k) = thrNum (s.code t) (s.th t) k := by
  unfold stNum
  rw [if_neg (by omega), if_neg (by omega), if_pos (by omega), show (2 + t * 37 + k - 2) / 37 = t by omega, show (2 + t * 37 + k - 2) % 37 = k by omega]
theorem stNum_var (s : St) (x : Nat) (h : x < 4) : stNum s (150 + x) = s.v.getD x 0 := by
  unfold stNum
  rw [if_neg (by omega), if_neg (by omega), if_neg (by omega), if_pos (by omega), show 150 + x - 150 = x by omega]
theorem stNum_who (s : St) (x : Nat) : stNum s (154 + x) = s.m.getD x (-1) := by
  unfold stNum
  rw [if_neg (by omega), if_neg (by omega), if_neg (by omega), if_neg (by omega), show 154 + x - 154 = x by omega]

theorem stNum_put (s : St) (t : Nat) (y : Thr) (k : Nat) (n : Int) (ht : t < s.ts.length) (h4 : s.ts.length ≤ 4) (hk : k < 37) (hy : ∀ j, j < 37 → thrNum (s.code t) y j = if j = k then n else thrNum (s.code t) (s.th t) j) :
    ∀ j, j < 156 → stNum (s.put t y) j = if j = 2 + t * 37 + k then n else stNum s j := by
  intro j hj
  have hth : ∀ u, (s.put t y).th u = if u = t then y else s.th u := fun u => by
    unfold St.put St.th
    simp only [Int.toNat_natCast]
    exact getD_set _ _ _ _ _ ht
  have hcd : ∀ u, (s.put t y).code u = s.code u := fun _ => rfl
  unfold stNum
  by_cases h0 : j = 0
  · rw [if_pos h0, if_neg (by omega), if_pos h0]; simp [St.put]
  rw [if_neg h0, if_neg (c := j = 0) h0]
  by_cases h1 : j = 1
  · rw [if_pos h1, if_neg (by omega), if_pos h1]; rfl
  rw [if_neg h1, if_neg (c := j = 1) h1]
  by_cases h2 : j < 150
  · rw [if_pos h2, if_pos h2, hth, hcd]
    by_cases e : (j - 2) / 37 = t
    · rw [if_pos e, e, hy _ (by omega)]
      by_cases e2 : (j - 2) % 37 = k
      · rw [if_pos e2, if_pos (by omega)]
      · rw [if_neg e2, if_neg (by omega)]
    · rw [if_neg e, if_neg (by omega)]
  · rw [if_neg h2, if_neg (c := j < 150) h2, if_neg (c := j = 2 + t * 37 + k) (by omega)]; rfl

theorem thrNum_at (c : List Ins) (x : Thr) (n : Nat) : ∀ j, j < 37 → thrNum c { x with at_ := n } j = if j = 33 then (n : Int) else thrNum c x j := by
  intro j hj
  unfold thrNum
  dsimp only
  by_cases e : j = 33
  · subst e; simp
  · rw [if_neg e]; simp only [e, if_false]
theorem thrNum_fuel (c : List Ins) (x : Thr) (n : Nat) : ∀ j, j < 37 → thrNum c { x with fuel := n } j = if j = 34 then (n : Int) else thrNum c x j := by
  intro j hj
  unfold thrNum
  dsimp only
  by_cases e : j = 34
  · subst e; simp
  · rw [if_neg e]; simp only [e, if_false]
theorem thrNum_reg (c : List Ins) (x : Thr) (r : Nat) (n : Int) (hr : r < 2) (hl : x.r.length = 2) : ∀ j, j < 37 → thrNum c { x with r := x.r.set r n } j = if j = 35 + r then n else thrNum c x j := by
  intro j hj
  unfold thrNum
  dsimp only
  by_cases h1 : j < 35
  · rw [if_neg (c := j = 35 + r) (by omega)]
    by_cases a : j < 32
    · simp [a]
    · by_cases b : j = 32
      · simp [b]
      · by_cases c : j = 33
        · simp [c]
        · have : j = 34 := by omega
          simp [this]
  · have a1 : ¬ j < 32 := by omega
    have a2 : ¬ j = 32 := by omega
    have a3 : ¬ j = 33 := by omega
    have a4 : ¬ j = 34 := by omega
    simp only [a1, a2, a3, a4, if_false]
    rw [getD_set _ _ _ _ _ (by omega)]
    by_cases e : j = 35 + r
    · rw [if_pos (by omega), if_pos e]
    · rw [if_neg (by omega), if_neg e]

theorem stNum_setVar (s : St) (x : Nat) (n : Int) (hx : x < 4) (hl : s.v.length = 4) : ∀ j, j < 156 → stNum { s with v := s.v.set x n } j = if j = 150 + x then n else stNum s j := by
  intro j hj
  unfold stNum St.th St.code
  dsimp only
  by_cases h2 : j < 150
  · rw [if_neg (c := j = 150 + x) (by omega)]; simp only [h2, if_true]
  · rw [if_neg (by omega), if_neg (by omega), if_neg h2]
    by_cases h3 : j < 154
    · rw [if_pos h3, getD_set _ _ _ _ _ (by omega)]
      by_cases e : j = 150 + x
      · rw [if_pos (by omega), if_pos e]
      · rw [if_neg (by omega), if_neg e, if_neg (by omega), if_neg (by omega), if_neg h2, if_pos h3]
    · rw [if_neg h3, if_neg (c := j = 150 + x) (by omega), if_neg (by omega), if_neg (by omega), if_neg h2, if_neg h3]
theorem stNum_setWho (s : St) (x : Nat) (n : Int) (hx : x < 2) (hl : s.m.length = 2) : ∀ j, j < 156 → stNum { s with m := s.m.set x n } j = if j = 154 + x then n else stNum s j := by
  intro j hj
  unfold stNum St.th St.code
  dsimp only
  by_cases h3 : j < 154
  · rw [if_neg (c := j = 154 + x) (by omega)]; simp only [h3, if_true]
  · rw [if_neg (by omega), if_neg (by omega), if_neg (by omega), if_neg h3, getD_set _ _ _ _ _ (by omega)]
    by_cases e : j = 154 + x
    · rw [if_pos (by omega), if_pos e]
    · rw [if_neg (by omega), if_neg e, if_neg (by omega), if_neg (by omega), if_neg (by omega), if_neg h3]

theorem Only.stAt {b c : Nat} {w w' : World} {s : St} (h : Only b w w') (hs : StAt w c s) (hc : c ≠ b) : StAt w' c s := (h.block c hs.lt hc).trans hs

end Go.Proofs.YtljlaopjimkcmaaGreat

/- Rows of elements of several cells each, whatever they are. -/
namespace Go.Proofs.YtljlaopjimkcmaaGreat
open Go.RowKit

section
variable {T : Type} {f : T → List Value} {n : Nat}

def cellsL (f : T → List Value) (l : List T) : List Value := l.flatMap f
theorem cellsL_length (hf : ∀ x, (f x).length = n) (l : List T) : (cellsL f l).length = l.length * n := by
  induction l with
  | nil => simp [cellsL]
  | cons x l ih =>
    unfold cellsL at *
    rw [List.flatMap_cons, List.length_append, ih, hf, List.length_cons, Nat.add_mul, Nat.one_mul]
    omega
theorem cellsL_append (f : T → List Value) (a b : List T) : cellsL f (a ++ b) = cellsL f a ++ cellsL f b := by simp [cellsL]
theorem cellsL_get (hf : ∀ x, (f x).length = n) (l : List T) (i j : Nat) (h : i < l.length) (hj : j < n) : (cellsL f l)[i * n + j]? = (f l[i])[j]? := by
  induction l generalizing i with
  | nil => simp at h
  | cons x l ih =>
    cases i with
    | zero =>
      simp only [cellsL, List.flatMap_cons, Nat.zero_mul, Nat.zero_add, List.getElem_cons_zero]
      rw [List.getElem?_append_left (by rw [hf]; exact hj)]
    | succ i =>
      have := ih i (by simpa using h)
      have e : (i + 1) * n + j - (f x).length = i * n + j := by rw [hf, Nat.add_mul]; omega
      simp only [cellsL, List.flatMap_cons, List.getElem_cons_succ] at *
      rw [List.getElem?_append_right (by rw [hf, Nat.add_mul]; omega), e, this]
theorem cellsL_one (h1 : ∀ x, ∀ v ∈ f x, v.oneCell' = true) (l : List T) : ∀ v ∈ cellsL f l, v.oneCell' = true := by
  intro v hv
  simp only [cellsL, List.mem_flatMap] at hv
  obtain ⟨x, _, hv⟩ := hv
  exact h1 x v hv
theorem cellsL_single (f : T → List Value) (x : T) : cellsL f [x] = f x := by simp [cellsL]
/-- Where a place of the cells stands. -/
theorem cellsL_ext (hf : ∀ x, (f x).length = n) (hn : 0 < n) {l : List T} {xs : List Value} (hl : xs.length = l.length * n) (h : ∀ i (h : i < l.length), ∀ j, j < n → xs[i * n + j]? = (f l[i])[j]?) : xs = cellsL f l := by
  apply List.ext_getElem?
  intro p
  by_cases hp : p < l.length * n
  · have h1 : p / n < l.length := Nat.div_lt_of_lt_mul (by rw [Nat.mul_comm]; exact hp)
    have h2 : p % n < n := Nat.mod_lt _ hn
    have e : p = p / n * n + p % n := by rw [Nat.mul_comm]; exact (Nat.div_add_mod p n).symm
    rw [e, h _ h1 _ h2, cellsL_get hf _ _ _ h1 h2]
  · rw [List.getElem?_eq_none (by omega), List.getElem?_eq_none (by rw [cellsL_length hf]; omega)]

/-- From the place a on lie, in w, the elements l. -/
def RowAt (w : World) (a : Option Addr) (n : Nat) (f : T → List Value) (l : List T) : Prop :=
  l.length ≤ maxLen ∧ (l ≠ [] → ∃ b o, a = some ⟨b, o, none⟩ ∧ ∀ i (h : i < l.length) j u, (f l[i])[j]? = some u → w.cell? ⟨b, o + i * n + j, none⟩ = some u)
theorem RowAt.later {w w' : World} {a : Option Addr} {l : List T} (h : RowAt w a n f l) (hb : Below w.heap.size w w') : RowAt w' a n f l := by
  refine ⟨h.1, fun hn => ?_⟩
  obtain ⟨b, o, rfl, hc⟩ := h.2 hn
  exact ⟨b, o, rfl, fun i hi j u hj => cell_later hb (hc i hi j u hj)⟩
theorem rowAt_nil (w : World) (a : Option Addr) (n : Nat) (f : T → List Value) : RowAt w a n f [] := ⟨by simp [maxLen], fun h => absurd rfl h⟩
/-- A piece of a row. -/
theorem RowAt.part {w : World} {b o : Nat} {l : List T} (h : RowAt w (some ⟨b, o, none⟩) n f l) (i m : Nat) : RowAt w (some ⟨b, o + i * n, none⟩) n f ((l.drop i).take m) := by
  refine ⟨Nat.le_trans (List.length_take_le' _ _) (Nat.le_trans (by simp) h.1), fun hn => ⟨b, o + i * n, rfl, fun k hk j u hj => ?_⟩⟩
  have hk' : i + k < l.length := by simp at hk; omega
  obtain ⟨b', o', e, hc⟩ := h.2 (by intro e; simp [e] at hk')
  cases e
  have h1 := hc (i + k) hk' j u (by simpa using hj)
  rw [Nat.add_mul, ← Nat.add_assoc] at h1
  exact h1

/-- A row of the call's own. -/
def OwnRow (w : World) (B : Nat) (t : TypeId) (n : Nat) (f : T → List Value) (v : Value) (l : List T) : Prop := w.ownsRow B t n v l.length (cellsL f l)
theorem OwnRow.alloc {w : World} {B : Nat} {t : TypeId} {v : Value} {l : List T} (h : OwnRow w B t n f v l) (o : Obj) : OwnRow (w.alloc o) B t n f v l := World.ownsRow.alloc h o
theorem ownRow_nil (w : World) (B : Nat) (t : TypeId) (n : Nat) (f : T → List Value) : OwnRow w B t n f (.slice none 0 0) [] := World.ownsRow_nil w B _ _
theorem OwnRow.later {w w' : World} {B : Nat} {t : TypeId} {v : Value} {l : List T} (h : OwnRow w B t n f v l) (hb : Below w.heap.size w w') : OwnRow w' B t n f v l := ownsRow_later h hb
theorem OwnRow.only {w w' : World} {B g : Nat} {t : TypeId} {v : Value} {l : List T} (h : OwnRow w B t n f v l) (ho : Only g w w') (hg : g < B) : OwnRow w' B t n f v l := ownsRow_only h ho hg
theorem OwnRow.form {w : World} {B : Nat} {t : TypeId} {v : Value} {l : List T} (h : OwnRow w B t n f v l) (hf : ∀ x, (f x).length = n) (hm : l.length ≤ 1000000) : ∃ a cap, v = .slice a l.length cap ∧ RowAt w a n f l ∧ (a = none → cap = 0) := by
  obtain ⟨h1, ⟨h2, h3⟩ | ⟨g, cap, cur, h2, h3, h4, h5, h6, h7, h8⟩⟩ := h
  · have e : l = [] := List.eq_nil_of_length_eq_zero h3
    subst e
    exact ⟨none, 0, h2, rowAt_nil _ _ _ _, fun _ => rfl⟩
  · refine ⟨some ⟨g, 0, none⟩, cap, h2, ⟨by unfold maxLen; omega, fun _ => ⟨g, 0, rfl, fun i hi j u hj => ?_⟩⟩, by simp⟩
    have hjn : j < n := by rw [← hf l[i]]; exact (List.getElem?_eq_some_iff.1 hj).1
    rw [← cellsL_get hf l i j hi hjn, ← h8] at hj
    have hlt : i * n + j < l.length * n := by
      have : (i + 1) * n ≤ l.length * n := Nat.mul_le_mul_right n hi
      rw [Nat.add_mul, Nat.one_mul] at this
      omega
    rw [List.getElem?_take_of_lt hlt] at hj
    simp [World.cell?, h4]
    simpa using hj
/-- A row that is not empty lies in a block of its own. -/
theorem OwnRow.block {w : World} {B : Nat} {t : TypeId} {v : Value} {l : List T} (h : OwnRow w B t n f v l) (hn : l ≠ []) : ∃ g cap, v = .slice (some ⟨g, 0, none⟩) l.length cap ∧ B ≤ g ∧ g < w.heap.size := by
  obtain ⟨h1, ⟨h2, h3⟩ | ⟨g, cap, cur, h2, h3, h4, h5, h6, h7, h8⟩⟩ := h
  · exact absurd (List.eq_nil_of_length_eq_zero h3) hn
  · exact ⟨g, cap, h2, h3, (Array.getElem?_eq_some_iff.1 h4).1⟩

theorem cells_new (w : World) (cs : List Value) (t : TypeId) (g : Nat) (hg : g = w.heap.size) : ∀ j u, cs[j]? = some u → (w.alloc (.cells cs.toArray t)).cell? (Addr.add ⟨g, 0, none⟩ j) = some u := by
  subst hg
  intro j u hj
  have e : Addr.add ⟨w.heap.size, 0, none⟩ j = ⟨w.heap.size, j, none⟩ := by rw [add_row, Nat.zero_add]
  rw [e, World.cell?_alloc_new]
  simpa using hj

/-- One element more. -/
theorem wp_appendR {P : Program} {w : World} {ops : Array Oper} {rest : List Oper} {o : Oper} {a : Act} {Q : Exit → Act → World → Prop} (st et : TypeId) (bytes : Nat) (z : Value) (hu : P.underlying st = some (.slice et))
    (hinfo : (P.info? et).map (fun i => (i.zero, i.size, i.bytes)) = some (some z, n, bytes)) (hz : z.cells.size = n) (hn : 0 < n) (hby : bytes ≤ 1000) (hf : ∀ x, (f x).length = n)
    (hgd : o.guard = none) (s x : Operand) (ho : o.op = .call { callee := .builtin .append, args := #[s, x], argTypes := #[st, st] }) (B : Nat) (v : Value) (l : List T) (hs : a.eval s = v) (hown : OwnRow w B et n f v l)
    (ad : Addr) (hx : a.eval x = .slice (some ad) 1 1) (e : T) (h1 : ∀ v ∈ f e, v.oneCell' = true) (hnews : ∀ j u, (f e)[j]? = some u → w.cell? (ad.add j) = some u) (hlen : l.length ≤ 1000000) (hB : B ≤ w.heap.size)
    (h : ∀ v' w', OwnRow w' B et n f v' (l ++ [e]) → Below B w w' → w.grownBy w' v.ownBlock → wpList P ops Q rest (a.put o.dst v') w') : wpList P ops Q (o :: rest) a w := by
  obtain ⟨i, hi, hzz⟩ := Option.map_eq_some_iff.1 hinfo
  simp only [Prod.mk.injEq] at hzz
  obtain ⟨hiz, hisz, hiby⟩ := hzz
  refine wpList_append_own w hgd s x st ho B et i z n bytes hu hi hiz hisz hiby hz hn v l.length (cellsL f l) hs hown ad 1 1 (f e) hx (by rw [hf, Nat.one_mul]) hnews
    h1 (by unfold maxLen; omega) ?_ hB ?_
  · have : (l.length + 1) * bytes ≤ 1000001 * 1000 := Nat.mul_le_mul (by omega) hby
    omega
  intro v' w' h2 h3 _
  refine h v' w' ?_ ((Below.refl B w).grown h3 hB (fun k hk => (World.ownsRow.lt hown k hk).1)) h3
  unfold OwnRow
  rw [List.length_append, cellsL_append, cellsL_single]
  exact h2

/-- One element more, and where the row lies then. -/
theorem wp_appendAt {P : Program} {w : World} {o : Oper} {a : Act} {K : Act → World → Prop} {Q : Exit → Act → World → Prop} (st et : TypeId) (bytes : Nat) (z : Value) (hu : P.underlying st = some (.slice et))
    (hinfo : (P.info? et).map (fun i => (i.zero, i.size, i.bytes)) = some (some z, n, bytes)) (hz : z.cells.size = n) (hn : 0 < n) (hby : bytes ≤ 1000) (hf : ∀ x, (f x).length = n)
    (s x : Operand) (ho : o.op = .call { callee := .builtin .append, args := #[s, x], argTypes := #[st, st] }) (B : Nat) (v : Value) (l : List T) (hs : a.eval s = v) (hown : OwnRow w B et n f v l)
    (ad : Addr) (hx : a.eval x = .slice (some ad) 1 1) (e : T) (h1 : ∀ v ∈ f e, v.oneCell' = true) (hnews : ∀ j u, (f e)[j]? = some u → w.cell? (ad.add j) = some u) (hlen : l.length ≤ 1000000) (hB : B ≤ w.heap.size)
    (h : ∀ v' w', OwnRow w' B et n f v' (l ++ [e]) → Below B w w' → w.grownBy w' v.ownBlock → (v'.ownBlock = v.ownBlock ∨ v'.ownBlock = some w.heap.size) → K (a.put o.dst v') w') : Oper.wp P o a w K Q := by
  obtain ⟨i, hi, hzz⟩ := Option.map_eq_some_iff.1 hinfo
  simp only [Prod.mk.injEq] at hzz
  obtain ⟨hiz, hisz, hiby⟩ := hzz
  have hbb : (l.length + 1) * bytes ≤ 140737488355328 := by
    have : (l.length + 1) * bytes ≤ 1000001 * 1000 := Nat.mul_le_mul (by omega) hby
    omega
  obtain ⟨v', w', hrun, r1, r2, _, r4⟩ := run_append_own_at (P := P) w B st o.type et i z n bytes hu hi hiz hisz hiby hz hn v l.length (cellsL f l) hown ad 1 1 (f e) (by rw [hf, Nat.one_mul]) hnews h1 (by unfold maxLen; omega) hbb hB
  have hK := h v' w' (by unfold OwnRow; rw [List.length_append, cellsL_append, cellsL_single]; exact r1) ((Below.refl B w).grown r2 hB (fun k hk => (World.ownsRow.lt hown k hk).1)) r2 r4
  unfold Oper.wp
  simp [execOp, ho, resolve, invoke, builtin, hs, hx, hrun, Result.andThen]
  exact hK
/-- The same in a region whose order is drawn. -/
theorem step_appendAt {P : Program} {w : World} {ops : Array Oper} {o : Oper} {a : Act} {K : Act → World → Prop} {Q : Exit → Act → World → Prop} {E : Prop} (st et : TypeId) (bytes : Nat) (z : Value) (hu : P.underlying st = some (.slice et))
    (hinfo : (P.info? et).map (fun i => (i.zero, i.size, i.bytes)) = some (some z, n, bytes)) (hz : z.cells.size = n) (hn : 0 < n) (hby : bytes ≤ 1000) (hf : ∀ x, (f x).length = n) (hgd : o.guard = none)
    (s x : Operand) (ho : o.op = .call { callee := .builtin .append, args := #[s, x], argTypes := #[st, st] }) (B : Nat) (v : Value) (l : List T) (hs : a.eval s = v) (hown : OwnRow w B et n f v l)
    (ad : Addr) (hx : a.eval x = .slice (some ad) 1 1) (e : T) (h1 : ∀ v ∈ f e, v.oneCell' = true) (hnews : ∀ j u, (f e)[j]? = some u → w.cell? (ad.add j) = some u) (hlen : l.length ≤ 1000000) (hB : B ≤ w.heap.size)
    (h : ∀ v' w', OwnRow w' B et n f v' (l ++ [e]) → Below B w w' → w.grownBy w' v.ownBlock → (v'.ownBlock = v.ownBlock ∨ v'.ownBlock = some w.heap.size) → K (a.put o.dst v') w') : if Region.wanted o (yielded ops a.tmps) = true then Oper.wp P o a w K Q else E := by
  have hw : Region.wanted o (yielded ops a.tmps) = true := by simp [Region.wanted, hgd]
  rw [if_pos hw]
  exact wp_appendAt st et bytes z hu hinfo hz hn hby hf s x ho B v l hs hown ad hx e h1 hnews hlen hB h

/-- Four numbers in a block. -/
def nums4 (c : Nat → Int) : List Value := [.int .i64 (c 0), .int .i64 (c 1), .int .i64 (c 2), .int .i64 (c 3)]
theorem nums4_congr {c d : Nat → Int} (h : ∀ t, t < 4 → c t = d t) : nums4 c = nums4 d := by
  unfold nums4
  rw [h 0 (by omega), h 1 (by omega), h 2 (by omega), h 3 (by omega)]
theorem nums4_get (c : Nat → Int) {t : Nat} (h : t < 4) : (nums4 c)[t]? = some (.int .i64 (c t)) := by
  rcases (by omega : t = 0 ∨ t = 1 ∨ t = 2 ∨ t = 3) with rfl | rfl | rfl | rfl <;> rfl
theorem nums4_set (c : Nat → Int) (v : Int) {t : Nat} (h : t < 4) : (nums4 c).set t (.int .i64 v) = nums4 (fun j => if j = t then v else c j) := by
  rcases (by omega : t = 0 ∨ t = 1 ∨ t = 2 ∨ t = 3) with rfl | rfl | rfl | rfl <;> rfl

theorem run_index4 {P : Program} (w : World) {t elem : TypeId} {d : TypeDesc} (c : Nat → Int) (q : Nat) (hu : P.underlying t = some (.array 4 elem)) (he : P.underlying elem = some d)
    (hd : (match d with | .struct _ | .array _ _ => true | _ => false) = false) (hs : (P.info? elem).map (·.size) = some 1) (hq : q < 4) : (Instr.index t (.agg #[.int .i64 (c 0), .int .i64 (c 1), .int .i64 (c 2), .int .i64 (c 3)]) (.int .i64 (q : Int))).run P w = .ok (.int .i64 (c q)) w :=
  run_index_one w q hu he hd hs hq (by rcases (by omega : q = 0 ∨ q = 1 ∨ q = 2 ∨ q = 3) with rfl | rfl | rfl | rfl <;> rfl)
end

end Go.Proofs.YtljlaopjimkcmaaGreat

/- copy of elements of several cells, into the middle of a row of one's own; append of zeros behind a row's beginning. -/
namespace Go.Proofs.YtljlaopjimkcmaaGreat
open Go.RowKit

/-- The cells behind a copy. -/
def putAt (cur : Array Value) (o : Nat) (cs : List Value) : Array Value := (cur.toList.take o ++ cs ++ cur.toList.drop (o + cs.length)).toArray
theorem putAt_size {cur : Array Value} {o : Nat} {cs : List Value} (h : o + cs.length ≤ cur.size) : (putAt cur o cs).size = cur.size := by
  simp [putAt]
  omega

theorem run_copy_at {P : Program} (w : World) (dT sT ty elem : TypeId) (k g o nd dCap : Nat) (ad : Addr) (ns sCap : Nat) (cur : Array Value) (t : TypeId) (cs : List Value)
    (hu : P.underlying dT = some (.slice elem)) (hs : (P.info? elem).map (·.size) = some k)
    (hg : w.heap[g]? = some (.cells cur t (0, 0))) (hcs : cs.length = Nat.min ns nd * k) (hfit : o + cs.length ≤ cur.size)
    (hsrc : ∀ j v, cs[j]? = some v → w.cell? (ad.add j) = some v) (h1 : ∀ v ∈ cs, v.oneCell' = true) :
    (Builtin.copy_ #[dT, sT] ty #[.slice (some ⟨g, o, none⟩) nd dCap, .slice (some ad) ns sCap]).run P w = .ok (goInt (Nat.min ns nd)) (w.setRow g (putAt cur o cs)) := by
  cases hq : P.info? elem with
  | none => simp [hq] at hs
  | some i =>
    have hi : i.size = k := by simpa [hq] using hs
    have hl := run_loadCells_list (P := P) w ad cs hsrc
    have hst := run_storeCells_at P g o t cs 0 cur w hg (by omega) h1
    rw [Nat.add_zero] at hst
    simp [Builtin.copy_, run_underlying hu, Builtin.lenOf, Builtin.firstCells, sizeOf, typeInfo, hq, hi, ← hcs, hl, hst, putAt]

theorem ev_size : (Tryz.prog.info? 51).map (·.size) = some 4 := by kernel_rfl
theorem ev_sizeOf (w : World) : (Go.sizeOf 51).run Tryz.prog w = .ok 4 w := by
  obtain ⟨i, hi, h4⟩ := Option.map_eq_some_iff.1 ev_size
  simp [sizeOf, typeInfo, hi, h4]
theorem infoEv : (Tryz.prog.info? 51).map (fun i => (i.zero, i.size, i.bytes)) = some (some (.agg #[.int .i64 0, .int .i64 0, .int .i64 0, .bool false]), 4, 32) := by kernel_rfl
theorem evCell_len (x : Ev) : (evCell x).length = 4 := rfl
theorem evCell_one (x : Ev) : ∀ v ∈ evCell x, v.oneCell' = true := by
  intro v hv
  simp [evCell] at hv
  rcases hv with rfl | rfl | rfl | rfl <;> rfl
theorem evCells_take (l : List Ev) (n : Nat) : evCells (l.take n) = (evCells l).take (n * 4) := by
  by_cases h : n ≤ l.length
  · have e : evCells l = evCells (l.take n) ++ evCells (l.drop n) := by rw [← evCells_append, List.take_append_drop]
    rw [e, List.take_left' (by rw [evCells_length, List.length_take]; omega)]
  · rw [List.take_of_length_le (l := l) (by omega), List.take_of_length_le (by rw [evCells_length]; omega)]
theorem evCells_drop (l : List Ev) (n : Nat) : evCells (l.drop n) = (evCells l).drop (n * 4) := by
  by_cases h : n ≤ l.length
  · have e : evCells l = evCells (l.take n) ++ evCells (l.drop n) := by rw [← evCells_append, List.take_append_drop]
    rw [e, List.drop_left' (by rw [evCells_length, List.length_take]; omega)]
  · have e : l.drop n = [] := List.drop_eq_nil_of_le (by omega)
    rw [e, List.drop_eq_nil_of_le (by rw [evCells_length]; omega)]
    rfl

/-- The cells when an event has been put in, in place. -/
theorem put_twice (X Y Z E : List Value) (p n : Nat) (hX : X.length = p + E.length) (hn : n = p + E.length + Y.length) :
    ((X ++ (Y ++ Z)).take p ++ E ++ (X ++ (Y ++ Z)).drop (p + E.length)).take n = X.take p ++ (E ++ Y) := by
  have a1 : (X ++ (Y ++ Z)).take p = X.take p := List.take_append_of_le_length (by omega)
  have a2 : (X ++ (Y ++ Z)).drop (p + E.length) = Y ++ Z := List.drop_left' hX
  rw [a1, a2]
  have e : X.take p ++ E ++ (Y ++ Z) = (X.take p ++ (E ++ Y)) ++ Z := by simp
  rw [e, List.take_left']
  simp only [List.length_append, List.length_take]
  omega
theorem shifted {cur : Array Value} {es : List Ev} {e : Ev} {i c : Nat} (hi : i ≤ es.length) (hc : cur.size = c * 4) (hroom : es.length + 1 ≤ c) (ht : cur.toList.take (es.length * 4) = evCells es) :
    (putAt (putAt cur ((i + 1) * 4) (evCells (es.drop i))) (i * 4) (evCell e)).toList.take ((es.length + 1) * 4) = evCells (es.take i ++ e :: es.drop i) := by
  have hsz : cur.toList.length = c * 4 := by simpa using hc
  have hl2 : (evCells (es.drop i)).length = (es.length - i) * 4 := by rw [evCells_length, List.length_drop]
  have h := put_twice (cur.toList.take ((i + 1) * 4)) (evCells (es.drop i)) (cur.toList.drop ((i + 1) * 4 + (evCells (es.drop i)).length)) (evCell e) (i * 4) ((es.length + 1) * 4)
    (by rw [List.length_take, hsz, evCell_len]; omega) (by rw [hl2, evCell_len]; omega)
  have e1 : (cur.toList.take ((i + 1) * 4)).take (i * 4) = evCells (es.take i) := by
    rw [evCells_take, ← ht, List.take_take, List.take_take, Nat.min_eq_left (by omega), Nat.min_eq_left (by omega)]
  rw [e1] at h
  rw [evCells_append, show evCells (e :: es.drop i) = evCell e ++ evCells (es.drop i) from rfl, ← h]
  simp [putAt]

end Go.Proofs.YtljlaopjimkcmaaGreat

/- copy(dst, src) of elements of any number of cells, dst a whole row of the call's own of the same length. -/
namespace Go.Proofs.YtljlaopjimkcmaaGreat
open Go.RowKit

theorem run_copy_all {P : Program} (w : World) (dT sT ty elem : TypeId) (k g n dCap : Nat) (sp : Option Addr) (sCap : Nat) (cur : Array Value) (t : TypeId) (cs : List Value)
    (hu : P.underlying dT = some (.slice elem)) (hs : (P.info? elem).map (·.size) = some k)
    (hg : w.heap[g]? = some (.cells cur t (0, 0))) (hcs : cs.length = n * k) (hcur : cur.size = n * k)
    (hsrc : cs ≠ [] → ∃ ad, sp = some ad ∧ ∀ j v, cs[j]? = some v → w.cell? (ad.add j) = some v) (h1 : ∀ v ∈ cs, v.oneCell' = true) :
    (Builtin.copy_ #[dT, sT] ty #[.slice (some ⟨g, 0, none⟩) n dCap, .slice sp n sCap]).run P w = .ok (goInt n) (w.setRow g cs.toArray) := by
  cases hq : P.info? elem with
  | none => simp [hq] at hs
  | some i =>
    have hi : i.size = k := by simpa [hq] using hs
    by_cases h0 : cs = []
    · subst h0
      have hnk : n * k = 0 := by simpa using hcs.symm
      have e1 : cur = #[] := Array.eq_empty_of_size_eq_zero (by omega)
      subst e1
      have hl : ∀ (x : Addr), (loadCells x 0).run P w = .ok #[] w := fun x => by simpa using run_loadCells_list (P := P) w x [] (by simp)
      have hse : w.setRow g #[] = w := setRow_self w g #[] t (0, 0) hg
      cases sp <;> simp [Builtin.copy_, run_underlying hu, Builtin.lenOf, Builtin.firstCells, sizeOf, typeInfo, hq, hi, hnk, storeCells, hl, hse]
    · obtain ⟨ad, rfl, hsrc'⟩ := hsrc h0
      have hl := run_loadCells_list (P := P) w ad cs hsrc'
      have hst := run_storeCells_at P g 0 t cs 0 cur w hg (by omega) h1
      have hd : List.drop cs.length cur.toList = [] := by rw [List.drop_eq_nil_iff]; simp; omega
      simp [hd] at hst
      simp [Builtin.copy_, run_underlying hu, Builtin.lenOf, Builtin.firstCells, sizeOf, typeInfo, hq, hi, ← hcs, hl, hst]

theorem wpList_copy_all {P : Program} {w : World} {ops : Array Oper} {rest : List Oper} {o : Oper} {a : Act} {Q : Exit → Act → World → Prop} (hgd : o.guard = none) (d s : Operand) (dT sT : TypeId)
    (ho : o.op = .call { callee := .builtin .copy, args := #[d, s], argTypes := #[dT, sT] }) (elem : TypeId) (k : Nat) (hu : P.underlying dT = some (.slice elem)) (hsz : (P.info? elem).map (·.size) = some k)
    (g n dCap : Nat) (sp : Option Addr) (sCap : Nat) (hd : a.eval d = .slice (some ⟨g, 0, none⟩) n dCap) (hs : a.eval s = .slice sp n sCap)
    (cur : Array Value) (t : TypeId) (hg : w.heap[g]? = some (.cells cur t (0, 0))) (cs : List Value) (hcs : cs.length = n * k) (hcur : cur.size = n * k)
    (hsrc : cs ≠ [] → ∃ ad, sp = some ad ∧ ∀ j v, cs[j]? = some v → w.cell? (ad.add j) = some v) (h1 : ∀ v ∈ cs, v.oneCell' = true)
    (h : wpList P ops Q rest (a.put o.dst (goInt n)) (w.setRow g cs.toArray)) : wpList P ops Q (o :: rest) a w := by
  refine wpList_plain hgd fun K hK => ?_
  have hrun := run_copy_all (P := P) w dT sT o.type elem k g n dCap sp sCap cur t cs hu hsz hg hcs hcur hsrc h1
  unfold Oper.wp
  simp [execOp, ho, resolve, invoke, builtin, hd, hs, hrun, Result.andThen]
  exact hK _ _ h

theorem modify_push {α : Type} (xs : Array α) (x : α) (f : α → α) : (xs.push x).modify xs.size f = xs.push (f x) := by
  apply Array.ext_getElem?
  intro i
  rw [Array.getElem?_modify, Array.getElem?_push, Array.getElem?_push]
  by_cases h : xs.size = i
  · rw [if_pos h, if_pos h.symm, if_pos h.symm]; rfl
  · rw [if_neg h, if_neg (fun e => h e.symm), if_neg (fun e => h e.symm)]

theorem alloc_setRow (w : World) (c cs : Array Value) (t : TypeId) : (w.alloc (.cells c t)).setRow w.heap.size cs = w.alloc (.cells cs t) := by
  show ({ w with heap := (w.heap.push (.cells c t)).modify w.heap.size _ } : World) = { w with heap := w.heap.push (.cells cs t) }
  rw [modify_push]
end Go.Proofs.YtljlaopjimkcmaaGreat

/- The contract of slices.Insert of one event into a row of one's own. -/
namespace Go.Proofs.YtljlaopjimkcmaaGreat
open Go.RowKit

theorem overlaps_no (w : World) (vb b o la ca lb cb : Nat) (hne : vb ≠ b) (x y : Array Value) (ta tb : TypeId) (ha : w.heap[vb]? = some (.cells x ta (0, 0))) (hb : w.heap[b]? = some (.cells y tb (0, 0))) (hy : y.size ≠ 0) :
    (callFunc 102 #[.slice (some ⟨vb, 0, none⟩) la ca, .slice (some ⟨b, o, none⟩) lb cb]).run Tryz.prog w = .ok (.value (.bool false)) w := by
  rw [run_callFunc_extern Tryz.func102 (by kernel_rfl) (by kernel_rfl) (by kernel_rfl) (e := Extern.SlicesOverlaps.overlaps #[47, 47] #[4]) (by kernel_rfl),
    Lib.run_overlaps_apart w 47 4 51 Tryz.underlying47 4 ev_sizeOf ⟨vb, 0, none⟩ ⟨b, o, none⟩ la ca lb cb hne ta tb x.size y.size (by simp [World.shape?, ha]) (by simp [World.shape?, hb]) hy (by simp [World.frozen?, ha]) (by simp [World.frozen?, ha])]
  rfl

set_option maxHeartbeats 4000000 in
set_option maxRecDepth 100000 in
/-- There is room: in place. -/
theorem insert_shift (b n c i vb : Nat) (es : List Ev) (e : Ev) (w : World) (cur x : Array Value) (tx : TypeId) (hn : n = es.length) (hi : i < n) (hroom : n + 1 ≤ c) (hc : c ≤ maxLen) (hvb : vb ≠ b)
    (hg : w.heap[b]? = some (.cells cur 51 (0, 0))) (hcur : cur.size = c * 4) (ht : cur.toList.take (n * 4) = evCells es) (hx : w.heap[vb]? = some (.cells x tx (0, 0))) (hxe : ∀ (j : Nat) (v : Value), (evCell e)[j]? = some v → x[j]? = some v) :
    Calls Tryz.prog 82 #[.slice (some ⟨b, 0, none⟩) n c, .int .i64 i, .slice (some ⟨vb, 0, none⟩) 1 1] w fun r w' =>
      r = .returned (.slice (some ⟨b, 0, none⟩) (n + 1) c) ∧ w' = (w.drew.setRow b (putAt cur ((i + 1) * 4) (evCells (es.drop i)))).setRow b (putAt (putAt cur ((i + 1) * 4) (evCells (es.drop i))) (i * 4) (evCell e)) := by
  have hz2 : ¬ ((i : Int) = (n : Int)) := by omega
  unfold maxLen at hc
  have hov : ∀ o lb cb, (callFunc 102 #[.slice (some ⟨vb, 0, none⟩) 1 1, .slice (some ⟨b, o, none⟩) lb cb]).run Tryz.prog w = .ok (.value (.bool false)) w := fun o lb cb => overlaps_no w vb b o 1 1 lb cb hvb x cur tx _ hx hg (by omega)
  have hdl : (evCells (es.drop i)).length = (n - i) * 4 := by rw [evCells_length, List.length_drop, hn]
  have hw1 : IntKind.i64.wrap ((i : Int) + 1) = (i : Int) + 1 := by rw [IntKind.wrap_i64]; omega
  have hw2 : IntKind.i64.wrap ((n : Int) + 1) = (n : Int) + 1 := by rw [IntKind.wrap_i64]; omega
  have hb1 : (0 : Int) ≤ (i : Int) + 1 := by omega
  have hin : i ≤ n := by omega
  have hb2 : ¬ (c = i + 1) := by omega
  have hb3 : (i : Int) ≤ (n : Int) + 1 := by omega
  have hb4 : ¬ (c = i) := by omega
  have htn : ((i : Int) + 1).toNat = i + 1 := by omega
  have hcell : ∀ j v, (evCells es)[j]? = some v → w.cell? ⟨b, j, none⟩ = some v := fun j v hj => by
    have hjl : j < n * 4 := by have := (List.getElem?_eq_some_iff.1 hj).1; rw [evCells_length] at this; omega
    rw [← ht, List.getElem?_take_of_lt hjl] at hj
    simp [World.cell?, hg]
    simpa using hj
  have hcp1 : ∀ ty dc sc, (Builtin.copy_ #[47, 47] ty #[.slice (some ⟨b, (i + 1) * 4, none⟩) (n - i) dc, .slice (some ⟨b, i * 4, none⟩) (n + 1 - i) sc]).run Tryz.prog w.drew = .ok (goInt (Nat.min (n + 1 - i) (n - i))) (w.drew.setRow b (putAt cur ((i + 1) * 4) (evCells (es.drop i)))) := fun ty dc sc =>
    run_copy_at w.drew _ _ ty 51 4 b ((i + 1) * 4) (n - i) dc ⟨b, i * 4, none⟩ (n + 1 - i) sc cur _ (evCells (es.drop i)) Tryz.underlying47 ev_size hg (by rw [hdl]; simp only [Nat.min_def]; split <;> omega) (by rw [hdl]; omega)
      (fun j v hj => by rw [add_row]; exact hcell _ v (by rw [evCells_drop, List.getElem?_drop] at hj; exact hj)) (fun v hv => evCells_one _ v hv)
  obtain ⟨C1, hC1⟩ : ∃ C1, C1 = putAt cur ((i + 1) * 4) (evCells (es.drop i)) := ⟨_, rfl⟩
  have hC1s : C1.size = c * 4 := by rw [hC1, putAt_size (by rw [hdl]; omega), hcur]
  rw [← hC1] at hcp1 ⊢
  obtain ⟨W1, hW1⟩ : ∃ W1, W1 = w.drew.setRow b C1 := ⟨_, rfl⟩
  have hg1 : W1.heap[b]? = some (.cells C1 51 (0, 0)) := by rw [hW1]; exact setRow_heap _ _ _ _ _ _ hg
  have hv1 : W1.heap[vb]? = some (.cells x tx (0, 0)) := by rw [hW1, setRow_other _ _ _ _ hvb]; exact hx
  have hcp2 : ∀ ty dc, (Builtin.copy_ #[47, 47] ty #[.slice (some ⟨b, i * 4, none⟩) (n + 1 - i) dc, .slice (some ⟨vb, 0, none⟩) 1 1]).run Tryz.prog W1 = .ok (goInt (Nat.min 1 (n + 1 - i))) (W1.setRow b (putAt C1 (i * 4) (evCell e))) := fun ty dc =>
    run_copy_at W1 _ _ ty 51 4 b (i * 4) (n + 1 - i) dc ⟨vb, 0, none⟩ 1 1 C1 _ (evCell e) Tryz.underlying47 ev_size hg1 (by rw [evCell_len]; simp only [Nat.min_def]; split <;> omega) (by rw [evCell_len]; omega)
      (fun j v hj => by rw [add_row, Nat.zero_add]; simp [World.cell?, hv1]; exact hxe j v hj) (fun v hv => evCell_one e v hv)
  rw [← hW1] at hcp1 ⊢
  clear hC1 hW1 hn hg hx hg1 hv1 hcell hdl
  go_enter Tryz.func82, Tryz.ntmps82
  go_wp2_with (simp only [hov])
  go_region_law (refine step_copy_runI rfl _ _ 47 47 rfl _ _ (by simp [Act.eval, Act.put]) (by simp [Act.eval, Act.put]) (hcp1 _ _ _) ?_)
  go_wp2_with (at_builtin; refine wpList_copy_runI _ rfl _ _ 47 47 rfl _ _ rfl rfl (hcp2 _ _) ?_)
  go_ret
  exact ⟨rfl, rfl⟩

/-- A new row of n + 1 events. -/
def GrowR (w : World) (n : Nat) (es' : List Ev) (r : Ending) (w' : World) : Prop :=
  ∃ G C, r = .returned (.slice (some ⟨w.heap.size, 0, none⟩) (n + 1) G) ∧ n + 1 ≤ G ∧ G ≤ maxLen ∧ w'.os = w.os ∧ w'.tape = w.tape ∧ w'.output = w.output ∧ w'.heap = (w.alloc (.cells C 51)).heap ∧ C.size = G * 4 ∧ C.toList.take ((n + 1) * 4) = evCells es'

set_option maxHeartbeats 4000000 in
set_option maxRecDepth 100000 in
/-- There is no room: a new row. -/
theorem insert_grow (b n c i vb : Nat) (es : List Ev) (e : Ev) (w : World) (cur x : Array Value) (tx : TypeId) (hn : n = es.length) (hi : i < n) (hroom : c < n + 1) (hnc : n ≤ c) (hc : n ≤ 1000000)
    (hg : w.heap[b]? = some (.cells cur 51 (0, 0))) (ht : cur.toList.take (n * 4) = evCells es) (hx : w.heap[vb]? = some (.cells x tx (0, 0))) (hxe : ∀ (j : Nat) (v : Value), (evCell e)[j]? = some v → x[j]? = some v) :
    Calls Tryz.prog 82 #[.slice (some ⟨b, 0, none⟩) n c, .int .i64 i, .slice (some ⟨vb, 0, none⟩) 1 1] w (GrowR w n (es.take i ++ e :: es.drop i)) := by
  obtain ⟨i0, hi0, hzz⟩ := Option.map_eq_some_iff.1 infoEv
  simp only [Prod.mk.injEq] at hzz
  obtain ⟨hz0, hzs, hzb⟩ := hzz
  have hz2 : ¬ ((i : Int) = (n : Int)) := by omega
  have hz3 : (c : Int) < (n : Int) + 1 := by omega
  have hdl : (evCells (es.drop i)).length = (n - i) * 4 := by rw [evCells_length, List.length_drop, hn]
  have hcell : ∀ j v, (evCells es)[j]? = some v → w.cell? ⟨b, j, none⟩ = some v := fun j v hj => by
    have hjl : j < n * 4 := by have := (List.getElem?_eq_some_iff.1 hj).1; rw [evCells_length] at this; omega
    rw [← ht, List.getElem?_take_of_lt hjl] at hj
    simp [World.cell?, hg]
    simpa using hj
  have hbw : b < w.heap.size := (Array.getElem?_eq_some_iff.1 hg).1
  have hvw : vb < w.heap.size := (Array.getElem?_eq_some_iff.1 hx).1
  have hkk : (n : Int) + 1 - (i : Int) = ((n + 1 - i : Nat) : Int) := by omega
  have hik : i + (n + 1 - i) = n + 1 := by omega
  have htk : (evCells (es.take i)).length = i * 4 := by rw [evCells_length, List.length_take]; omega
  have hold : (Builtin.firstCells i0.size i (.slice (some ⟨b, 0, none⟩) i c)).run Tryz.prog w.drew = .ok (evCells (es.take i)).toArray w.drew := by
    rw [hzs]
    exact run_firstCells_some w.drew 4 i ⟨b, 0, none⟩ i c (evCells (es.take i)) htk (fun j v hj => by
      rw [add_row, Nat.zero_add]
      rw [evCells_take, List.getElem?_take] at hj
      split at hj
      · exact hcell j v hj
      · cases hj)
  obtain ⟨G, hG⟩ : ∃ G, G = grownCap w (n + 1) c 51 := ⟨_, rfl⟩
  have hGn : n + 1 ≤ G := by rw [hG]; exact grownCap_ge w _ _ _
  have hGm : G ≤ maxLen := by rw [hG]; exact grownCap_le_maxLen w (n + 1) c 51 (by unfold maxLen; omega)
  have hGm2 : G ≤ 9223372036854775807 := by unfold maxLen at hGm; omega
  obtain ⟨ROW, hROW⟩ : ∃ ROW : Array Value, ROW = (evCells (es.take i)).toArray ++ Builtin.zeroCells (Value.agg #[.int .i64 0, .int .i64 0, .int .i64 0, .bool false]).cells (n + 1 - i) ++ Builtin.zeroCells (Value.agg #[.int .i64 0, .int .i64 0, .int .i64 0, .bool false]).cells (G - (n + 1)) := ⟨_, rfl⟩
  have hrz : ∀ ty, (Builtin.append_ #[47, 3] ty #[.slice (some ⟨b, 0, none⟩) i c, .int .i64 ((n : Int) + 1 - (i : Int))]).run Tryz.prog w =
      .ok (.slice (some ⟨w.heap.size, 0, none⟩) (n + 1) G) (w.drew.alloc (.cells ROW 51)) := fun ty => by
    have h := Lib.run_append_grow_zeros w 47 3 ty 51 i0 _ .i64 .i64 Tryz.underlying47 Tryz.underlying3 hi0 hz0 (some ⟨b, 0, none⟩) i c (evCells (es.take i)) hold (n + 1 - i) (by omega) (by omega) (by omega) (by omega) (by rw [hzb]; omega) (by rw [hzb, hik]; exact growslice_fits hroom (by omega))
    rw [hik, ← hG, ← hROW] at h
    rw [hkk]
    exact h
  have hRs : ROW.size = G * 4 := by
    rw [hROW]
    simp [Builtin.zeroCells, Value.cells, htk]
    omega
  have hRt : ROW.toList.take (i * 4) = evCells (es.take i) := by
    rw [hROW]
    simp only [Array.toList_append, List.append_assoc]
    rw [List.take_left' htk]
  obtain ⟨W1, hW1⟩ : ∃ W1, W1 = w.drew.alloc (.cells ROW 51) := ⟨_, rfl⟩
  rw [← hW1] at hrz
  have hgN : W1.heap[w.heap.size]? = some (.cells ROW 51 (0, 0)) := by rw [hW1]; exact heap_alloc_new w.drew _
  have hOld : ∀ k, k < w.heap.size → W1.heap[k]? = w.heap[k]? := fun k hk => by rw [hW1]; exact heap_alloc_old w.drew _ hk
  obtain ⟨C1, hC1⟩ : ∃ C1, C1 = putAt ROW (i * 4) (evCell e) := ⟨_, rfl⟩
  have hC1s : C1.size = G * 4 := by rw [hC1, putAt_size (by rw [evCell_len]; omega), hRs]
  have hcpA : ∀ (W : World), W.heap = W1.heap → ∀ ty dc, (Builtin.copy_ #[47, 47] ty #[.slice (some ⟨w.heap.size, i * 4, none⟩) (n + 1 - i) dc, .slice (some ⟨vb, 0, none⟩) 1 1]).run Tryz.prog W = .ok (goInt (Nat.min 1 (n + 1 - i))) (W.setRow w.heap.size C1) := fun W hW ty dc => by
    rw [hC1]
    exact run_copy_at W _ _ ty 51 4 w.heap.size (i * 4) (n + 1 - i) dc ⟨vb, 0, none⟩ 1 1 ROW _ (evCell e) Tryz.underlying47 ev_size (by rw [hW]; exact hgN) (by rw [evCell_len]; simp only [Nat.min_def]; split <;> omega) (by rw [evCell_len]; omega)
      (fun j v hj => by rw [add_row, Nat.zero_add]; simp [World.cell?, hW, hOld vb hvw, hx]; exact hxe j v hj) (fun v hv => evCell_one e v hv)
  obtain ⟨C2, hC2⟩ : ∃ C2, C2 = putAt C1 ((i + 1) * 4) (evCells (es.drop i)) := ⟨_, rfl⟩
  have hC2s : C2.size = G * 4 := by rw [hC2, putAt_size (by rw [hdl]; omega), hC1s]
  obtain ⟨W2, hW2⟩ : ∃ W2, W2 = W1.setRow w.heap.size C1 := ⟨_, rfl⟩
  have hg2 : W2.heap[w.heap.size]? = some (.cells C1 51 (0, 0)) := by rw [hW2]; exact setRow_heap _ _ _ _ _ _ hgN
  have ho2 : ∀ k, k < w.heap.size → W2.heap[k]? = w.heap[k]? := fun k hk => by rw [hW2, setRow_other _ _ _ _ (by omega)]; exact hOld k hk
  have hcpB : ∀ (W : World), W.heap = W2.heap → ∀ ty dc sc, (Builtin.copy_ #[47, 47] ty #[.slice (some ⟨w.heap.size, (i + 1) * 4, none⟩) (n - i) dc, .slice (some ⟨b, i * 4, none⟩) (n - i) sc]).run Tryz.prog W = .ok (goInt (Nat.min (n - i) (n - i))) (W.setRow w.heap.size C2) := fun W hW ty dc sc => by
    rw [hC2]
    exact run_copy_at W _ _ ty 51 4 w.heap.size ((i + 1) * 4) (n - i) dc ⟨b, i * 4, none⟩ (n - i) sc C1 _ (evCells (es.drop i)) Tryz.underlying47 ev_size (by rw [hW]; exact hg2) (by rw [hdl]; simp only [Nat.min_def]; split <;> omega) (by rw [hdl]; omega)
      (fun j v hj => by
        rw [add_row]
        have h1 := hcell (i * 4 + j) v (by rw [evCells_drop, List.getElem?_drop] at hj; exact hj)
        rw [← h1]
        exact World.cell?_of_block (by rw [hW]; exact ho2 b hbw)) (fun v hv => evCells_one _ v hv)
  have hfin : C2.toList.take ((n + 1) * 4) = evCells (es.take i ++ e :: es.drop i) := by
    have hRl : ROW.toList.length = G * 4 := by simpa using hRs
    have hC1l : C1.toList = evCells (es.take i) ++ evCell e ++ ROW.toList.drop (i * 4 + 4) := by
      rw [hC1, ← hRt]
      simp [putAt, evCell_len]
    rw [hC2, evCells_append, show evCells (e :: es.drop i) = evCell e ++ evCells (es.drop i) from rfl]
    have hb1 : C1.toList.take ((i + 1) * 4) = evCells (es.take i) ++ evCell e := by
      rw [hC1l, List.take_left']
      rw [List.length_append, htk, evCell_len]
      omega
    have e1 : (putAt C1 ((i + 1) * 4) (evCells (es.drop i))).toList = (evCells (es.take i) ++ (evCell e ++ evCells (es.drop i))) ++ C1.toList.drop ((i + 1) * 4 + (evCells (es.drop i)).length) := by
      unfold putAt
      rw [hb1]
      simp
    rw [e1, List.take_left']
    rw [List.length_append, List.length_append, htk, evCell_len, hdl]
    omega
  have hGi : ¬ (G = i) := by omega
  have hGim : ¬ (G = i + 1) := by omega
  have hci : ¬ (c = i) := by omega
  have hw1 : IntKind.i64.wrap ((i : Int) + 1) = (i : Int) + 1 := by rw [IntKind.wrap_i64]; omega
  have hw2 : IntKind.i64.wrap ((n : Int) + 1) = (n : Int) + 1 := by rw [IntKind.wrap_i64]; omega
  have hw3 : IntKind.i64.wrap ((n : Int) + 1 - (i : Int)) = (n : Int) + 1 - (i : Int) := by rw [IntKind.wrap_i64]; omega
  have hb1 : (0 : Int) ≤ (i : Int) + 1 := by omega
  have hin : i ≤ n := by omega
  have htn : ((i : Int) + 1).toNat = i + 1 := by omega
  have hb3 : (i : Int) ≤ (n : Int) + 1 := by omega
  have hR1 : ∀ W : World, W.heap = W2.heap → (W.setRow w.heap.size C2).heap = (w.alloc (.cells C2 51)).heap := fun W hW => by
    have h0 : (W.setRow w.heap.size C2).heap = (W2.setRow w.heap.size C2).heap := by unfold World.setRow; simp only [hW]
    rw [h0, hW2, hW1, setRow_setRow]
    have h1 : (w.drew.alloc (.cells ROW 51)).setRow w.heap.size C2 = w.drew.alloc (.cells C2 51) := alloc_setRow w.drew _ _ _
    rw [h1]
    rfl
  have hR2 : W2.os = w.os ∧ W2.tape = w.tape ∧ W2.output = w.output := by rw [hW2, hW1]; exact ⟨rfl, rfl, rfl⟩
  have hW2h' : W2 = W1.setRow w.heap.size C1 := hW2
  have hW1h : W1.os = w.os ∧ W1.tape = w.tape ∧ W1.output = w.output := by rw [hW1]; exact ⟨rfl, rfl, rfl⟩
  clear hkk hik hold hROW hG hRt hC1 hC2 hW1 hW2 hg2 ho2 hgN hOld hcell ht hg hx hn hdl htk hRs hC1s hi0 hz0 hzs hzb
  have hP : Hid (n + 1 ≤ G ∧ G ≤ maxLen ∧ C2.size = G * 4 ∧ C2.toList.take ((n + 1) * 4) = evCells (es.take i ++ e :: es.drop i)) := ⟨hGn, hGm, hC2s, hfin⟩
  clear hC2s hfin
  go_enter Tryz.func82, Tryz.ntmps82
  go_wp2_with (first
    | (at_builtin; refine Lib.wpList_append_run _ rfl _ _ _ _ rfl _ _ rfl rfl _ _ (hrz _) ?_)
    | (at_builtin; refine wpList_copy_runI _ rfl _ _ 47 47 rfl _ _ rfl rfl (hcpA _ rfl _ _) ?_))
  rw [← hW2h'] at *
  go_region_law (refine step_copy_runI rfl _ _ 47 47 rfl (.slice (some ⟨w.heap.size, (i + 1) * 4, none⟩) (n - i) (G - (i + 1))) (.slice (some ⟨b, i * 4, none⟩) (n - i) (c - i)) (by simp [Act.eval, Act.put]) (by simp [Act.eval, Act.put]) (hcpB (World.drew W2) rfl 3 (G - (i + 1)) (c - i)) ?_)
  go_wp2
  go_ret
  exact ⟨G, C2, rfl, hP.out.1, hP.out.2.1, hR2.1, hR2.2.1, hR2.2.2, hR1 _ rfl, hP.out.2.2.1, hP.out.2.2.2⟩

/-- An event more in the middle of a row. -/
def insAt (es : List Ev) (i : Nat) (e : Ev) : List Ev := es.take i ++ e :: es.drop i
theorem insAt_length (es : List Ev) (i : Nat) (e : Ev) : (insAt es i e).length = es.length + 1 := by
  unfold insAt
  rw [List.length_append, List.length_cons, List.length_take, List.length_drop]
  omega
def InsR (B : Nat) (w : World) (v : Value) (es : List Ev) (r : Ending) (w' : World) : Prop :=
  ∃ v', r = .returned v' ∧ OwnE w' B v' es ∧ Below B w w' ∧ w.grownBy w' v.ownBlock ∧ (v'.ownBlock = v.ownBlock ∨ v'.ownBlock = some w.heap.size)

set_option maxHeartbeats 4000000 in
set_option maxRecDepth 100000 in
/-- At the end. -/
theorem insert_end (B : Nat) (a : Option Addr) (n c vb : Nat) (es : List Ev) (e : Ev) (w : World) (x : Array Value) (tx : TypeId) (hn : n = es.length) (hc : n ≤ 1000000) (hB : B ≤ w.heap.size) (hca : a = none → c = 0) (hnc : n ≤ c) (ha : a = none ∨ ∃ b, a = some ⟨b, 0, none⟩)
    (hown : OwnE w B (.slice a n c) es) (hx : w.heap[vb]? = some (.cells x tx (0, 0))) (hxe : ∀ (j : Nat) (v : Value), (evCell e)[j]? = some v → x[j]? = some v) :
    Calls Tryz.prog 82 #[.slice a n c, .int .i64 n, .slice (some ⟨vb, 0, none⟩) 1 1] w (InsR B w (.slice a n c) (insAt es n e)) := by
  have he : insAt es n e = es ++ [e] := by unfold insAt; rw [hn, List.take_length, List.drop_length]
  rw [he]
  obtain ⟨i0, hi0, hzz⟩ := Option.map_eq_some_iff.1 infoEv
  simp only [Prod.mk.injEq] at hzz
  obtain ⟨hz0, hzs, hzb⟩ := hzz
  have HO : Hid (w.ownsRow B 51 4 (.slice a n c) n (evCells es)) := by
    have h : w.ownsRow B 51 4 (.slice a n c) es.length (evCells es) := hown
    rw [← hn] at h
    exact h
  have hnews : ∀ j u, (evCell e)[j]? = some u → w.cell? ((⟨vb, 0, none⟩ : Addr).add j) = some u := fun j v hj => by rw [add_row, Nat.zero_add]; simp [World.cell?, hx]; exact hxe j v hj
  have HN := Lib.hid hn
  clear hown hx hxe hn he
  go_enter Tryz.func82, Tryz.ntmps82
  rcases ha with rfl | ⟨b, rfl⟩
  · obtain rfl : c = 0 := hca rfl
    obtain rfl : n = 0 := by omega
    go_wp2_with (at_builtin; refine wpList_append_own_at _ rfl _ _ 47 rfl B 51 i0 _ 4 32 Tryz.underlying47 hi0 hz0 hzs hzb rfl (by decide) _ _ _ rfl HO.out ⟨vb, 0, none⟩ 1 1 (evCell e) rfl rfl hnews (evCell_one e) (by unfold maxLen; omega) (by omega) hB ?_; intro v' w' h1 h2 _ h4)
    go_ret
    exact ⟨v', rfl, (by unfold OwnE; rw [List.length_append, evCells_append, ← HN.out]; exact h1), (Below.refl B w).grown h2 hB (fun k hk => (World.ownsRow.lt HO.out k hk).1), h2, h4⟩
  · go_wp2_with (at_builtin; refine wpList_append_own_at _ rfl _ _ 47 rfl B 51 i0 _ 4 32 Tryz.underlying47 hi0 hz0 hzs hzb rfl (by decide) _ _ _ rfl HO.out ⟨vb, 0, none⟩ 1 1 (evCell e) rfl rfl hnews (evCell_one e) (by unfold maxLen; omega) (by omega) hB ?_; intro v' w' h1 h2 _ h4)
    all_goals
      go_ret
      exact ⟨v', rfl, (by unfold OwnE; rw [List.length_append, evCells_append, ← HN.out]; exact h1), (Below.refl B w).grown h2 hB (fun k hk => (World.ownsRow.lt HO.out k hk).1), h2, h4⟩

theorem setCells2_grown (w : World) (b : Nat) (A1 A2 : Array Value) : w.grownBy ((w.drew.setRow b A1).setRow b A2) (some b) :=
  ⟨rfl, rfl, rfl, by simp, fun k _ hk => by rw [setRow_other _ _ _ _ (fun e => hk (by rw [e])), setRow_other _ _ _ _ (fun e => hk (by rw [e]))]; rfl⟩

/-- Wherever it goes. -/
theorem insert_any (B : Nat) (v : Value) (i vb : Nat) (es : List Ev) (e : Ev) (w : World) (x : Array Value) (tx : TypeId) (hi : i ≤ es.length) (hm : es.length ≤ 1000) (hB : B ≤ w.heap.size)
    (hown : OwnE w B v es) (hx : w.heap[vb]? = some (.cells x tx (0, 0))) (hxe : ∀ (j : Nat) (v : Value), (evCell e)[j]? = some v → x[j]? = some v) (hv : v.ownBlock ≠ some vb) :
    Calls Tryz.prog 82 #[v, .int .i64 i, .slice (some ⟨vb, 0, none⟩) 1 1] w (InsR B w v (insAt es i e)) := by
  have hO : w.ownsRow B 51 4 v es.length (evCells es) := hown
  obtain ⟨h1, ⟨h2, h3⟩ | ⟨g, cap, cur, h2, h3, h4, h5, h6, h7, h8⟩⟩ := hO
  · obtain rfl : i = es.length := by omega
    subst h2
    have h := insert_end B none 0 0 vb es e w x tx h3.symm (by omega) hB (fun _ => rfl) (Nat.le_refl _) (.inl rfl) hown hx hxe
    rw [h3]
    exact h
  · subst h2
    by_cases hin : i = es.length
    · subst hin
      exact insert_end B (some ⟨g, 0, none⟩) es.length cap vb es e w x tx rfl (by omega) hB (by simp) h5 (.inr ⟨g, rfl⟩) hown hx hxe
    · have hlt : i < es.length := by omega
      have hvb : vb ≠ g := fun e => hv (by rw [e]; rfl)
      have hgw : g < w.heap.size := (Array.getElem?_eq_some_iff.1 h4).1
      by_cases hroom : es.length + 1 ≤ cap
      · refine (insert_shift g es.length cap i vb es e w cur x tx rfl hlt hroom h6 hvb h4 h7 h8 hx hxe).mono ?_
        rintro r w' ⟨rfl, rfl⟩
        have hgr := setCells2_grown w g (putAt cur ((i + 1) * 4) (evCells (es.drop i))) (putAt (putAt cur ((i + 1) * 4) (evCells (es.drop i))) (i * 4) (evCell e))
        have hdl : (evCells (es.drop i)).length = (es.length - i) * 4 := by rw [evCells_length, List.length_drop]
        have hs1 : (putAt cur ((i + 1) * 4) (evCells (es.drop i))).size = cap * 4 := by rw [putAt_size (by rw [hdl, h7]; omega), h7]
        have hs2 : (putAt (putAt cur ((i + 1) * 4) (evCells (es.drop i))) (i * 4) (evCell e)).size = cap * 4 := by rw [putAt_size (by rw [evCell_len, hs1]; omega), hs1]
        refine ⟨_, rfl, ?_, (Below.refl B w).grown hgr hB (fun k hk => (World.ownsRow.lt hown k hk).1), hgr, .inl rfl⟩
        refine ⟨by rw [evCells_length], .inr ⟨g, cap, _, by rw [insAt_length], h3, setRow_heap _ _ _ _ _ _ (setRow_heap _ _ _ _ _ _ h4), by rw [insAt_length]; exact hroom, h6, hs2, ?_⟩⟩
        rw [insAt_length]
        exact shifted (by omega) h7 hroom h8
      · refine (insert_grow g es.length cap i vb es e w cur x tx rfl hlt (by omega) h5 (by omega) h4 h8 hx hxe).mono ?_
        rintro r w' ⟨G, C, rfl, g1, g2, g3, g4, g5, g6, g7, g8⟩
        have hsz : w'.heap.size = w.heap.size + 1 := by rw [g6]; simp
        have hgr : w.grownBy w' (some g) := ⟨g3, g4, g5, by omega, fun k hk _ => by rw [g6]; exact heap_alloc_old w _ hk⟩
        refine ⟨_, rfl, ?_, (Below.refl B w).grown hgr hB (fun k hk => (World.ownsRow.lt hown k hk).1), hgr, .inr rfl⟩
        refine ⟨by rw [evCells_length], .inr ⟨w.heap.size, G, C, by rw [insAt_length], hB, by rw [g6]; exact heap_alloc_new w _, by rw [insAt_length]; exact g1, g2, g7, ?_⟩⟩
        rw [insAt_length]
        exact g8

end Go.Proofs.YtljlaopjimkcmaaGreat

/- An event in a box of its own. -/
namespace Go.Proofs.YtljlaopjimkcmaaGreat
open Go.RowKit

end Go.Proofs.YtljlaopjimkcmaaGreat

/-
  Plain data and plain functions for layer 3: which events depend on one another, which may be, their bytes. Nothing of the translation.
-/
namespace Go.Proofs.YtljlaopjimkcmaaGreat

def memE (e : Ev) : Bool := decide (e.kind = 2 ∨ e.kind = 3)
def mutE (e : Ev) : Bool := decide (e.kind = 4 ∨ e.kind = 5)

/-- Do two events depend on one another? -/
def dep (a b : Ev) : Bool :=
  decide (a.thread = b.thread ∨ (a.obj = b.obj ∧ (((a.kind = 2 ∨ a.kind = 3) ∧ (b.kind = 2 ∨ b.kind = 3) ∧ (a.kind = 3 ∨ b.kind = 3)) ∨ ((a.kind = 4 ∨ a.kind = 5) ∧ (b.kind = 4 ∨ b.kind = 5)))))

theorem dep_symm (a b : Ev) : dep a b = dep b a := by
  unfold dep
  rw [decide_eq_decide]
  omega

/-- May an event be? -/
def rightEv (e : Ev) : Bool :=
  decide (0 ≤ e.thread ∧ e.thread ≤ 3 ∧ ((e.kind = 1 ∧ e.obj = 0) ∨ ((e.kind = 2 ∨ e.kind = 3) ∧ 0 ≤ e.obj ∧ e.obj ≤ 3 ∧ e.fail = false) ∨ ((e.kind = 4 ∨ e.kind = 5) ∧ 0 ≤ e.obj ∧ e.obj ≤ 1 ∧ e.fail = false)))

/-- An event's byte. -/
def evB (e : Ev) : Int := e.thread + 4 * e.kind + 32 * e.obj + if e.fail then 128 else 0

/-- The event of a byte, whether it may be or not. -/
def evOf (n : Int) : Ev := ⟨n % 4, n / 4 % 8, n / 32 % 4, decide (128 ≤ n)⟩

theorem rightEv_bd {e : Ev} (h : rightEv e = true) : 0 ≤ e.thread ∧ e.thread ≤ 3 ∧ 1 ≤ e.kind ∧ e.kind ≤ 5 ∧ 0 ≤ e.obj ∧ e.obj ≤ 3 := by
  unfold rightEv at h
  rw [decide_eq_true_eq] at h
  omega

theorem evB_bd {e : Ev} (h : rightEv e = true) : 0 ≤ evB e ∧ evB e < 256 := by
  have := rightEv_bd h
  unfold evB
  split <;> omega

theorem evOf_evB {e : Ev} (h : rightEv e = true) : evOf (evB e) = e := by
  have := rightEv_bd h
  obtain ⟨t, k, o, f⟩ := e
  dsimp only at this
  unfold evOf evB
  cases f
  · simp
    omega
  · simp
    omega

theorem evB_evOf {n : Int} (h0 : 0 ≤ n) (h1 : n < 256) : evB (evOf n) = n := by
  unfold evOf evB
  dsimp only
  by_cases h : 128 ≤ n
  · simp [h]
    omega
  · simp [h]
    omega

theorem evB_inj {a b : Ev} (ha : rightEv a = true) (hb : rightEv b = true) (h : evB a = evB b) : a = b := by
  rw [← evOf_evB ha, ← evOf_evB hb, h]

/-- The bytes of events, or none. -/
def printE (l : List Ev) : List Int := if l.all rightEv then l.map evB else []

theorem map_evB_inj {a b : List Ev} (ha : ∀ e ∈ a, rightEv e = true) (hb : ∀ e ∈ b, rightEv e = true) (h : a.map evB = b.map evB) : a = b := by
  induction a generalizing b with
  | nil => cases b <;> simp_all
  | cons x a ih =>
    cases b with
    | nil => simp at h
    | cons y b =>
      simp only [List.map_cons, List.cons.injEq] at h
      rw [evB_inj (ha x (by simp)) (hb y (by simp)) h.1, ih (fun e he => ha e (by simp [he])) (fun e he => hb e (by simp [he])) h.2]

end Go.Proofs.YtljlaopjimkcmaaGreat
