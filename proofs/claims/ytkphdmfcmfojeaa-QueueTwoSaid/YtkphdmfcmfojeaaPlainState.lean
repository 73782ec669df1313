/-
  Plain data and plain functions for layer 2: states, what threads do next, steps. Nothing of the translation.
-/
import Derived.Test.YtkphdmfcmfojeaaPlain
namespace Go.Proofs.Ytkphdmfcmfojeaa

structure Ev where
  thread : Int
  kind : Int
  obj : Int
  fail : Bool

instance : DecidableEq Ev := fun a b =>
  decidable_of_iff (a.thread = b.thread ∧ a.kind = b.kind ∧ a.obj = b.obj ∧ a.fail = b.fail) (by cases a; cases b; simp)

def ev0 : Ev := ⟨0, 0, 0, false⟩

/-- A thread: the place, the fuel that is left, two registers. -/
structure Thr where
  at_ : Nat
  fuel : Nat
  r : List Int

def thr0 : Thr := ⟨0, 0, [0, 0]⟩

structure St where
  p : Pg
  ts : List Thr
  v : List Int
  m : List Int

def St.code (s : St) (t : Nat) : List Ins := s.p.threads.getD t []
def St.th (s : St) (t : Nat) : Thr := s.ts.getD t thr0
def St.reg (s : St) (t : Int) (i : Ins) : Int := (s.th t.toNat).r.getD i.r.toNat 0
def St.who (s : St) (x : Int) : Int := s.m.getD x.toNat (-1)
def St.var (s : St) (x : Int) : Int := s.v.getD x.toNat 0
def St.put (s : St) (t : Int) (y : Thr) : St := { s with ts := s.ts.set t.toNat y }

def St.has (s : St) (t : Int) : Prop := 0 ≤ t ∧ t < s.ts.length
instance (s : St) (t : Int) : Decidable (s.has t) := inferInstanceAs (Decidable (_ ∧ _))

/-- The instruction that a thread does next. -/
def St.ins (s : St) (t : Int) : Option Ins :=
  if s.has t ∧ (s.th t.toNat).fuel ≠ 0 then (s.code t.toNat)[(s.th t.toNat).at_]? else none

def St.ev (s : St) (t : Int) (i : Ins) : Ev :=
  if i.kind = 1 then ⟨t, 2, i.x, false⟩
  else if i.kind = 2 then ⟨t, 3, i.x, false⟩
  else if i.kind = 5 then ⟨t, 4, i.x, false⟩
  else if i.kind = 6 then (if s.who i.x = t then ⟨t, 5, i.x, false⟩ else ⟨t, 1, 0, true⟩)
  else if i.kind = 8 then ⟨t, 1, 0, decide (s.reg t i = 0)⟩
  else ⟨t, 1, 0, false⟩

def St.next (s : St) (t : Int) : Option Ev := (s.ins t).map (s.ev t)

def St.may (s : St) (t : Int) : Bool :=
  match s.ins t with
  | none => false
  | some i => decide (i.kind = 5 → s.who i.x < 0)

/-- The thread behind its step. -/
def St.thr (s : St) (t : Int) (i : Ins) : Thr :=
  let x := s.th t.toNat
  { at_ := if i.kind = 7 ∧ s.reg t i ≠ 0 then i.x.toNat else x.at_ + 1
    fuel := x.fuel - 1
    r := if i.kind = 1 then x.r.set i.r.toNat (s.var i.x) else if i.kind = 3 then x.r.set i.r.toNat i.n else if i.kind = 4 then x.r.set i.r.toNat (IntKind.i64.wrap (s.reg t i + i.n)) else x.r }

def St.do_ (s : St) (t : Int) (i : Ins) : St :=
  { p := s.p
    ts := s.ts.set t.toNat (s.thr t i)
    v := if i.kind = 2 then s.v.set i.x.toNat (s.reg t i) else s.v
    m := if i.kind = 5 then s.m.set i.x.toNat t else if i.kind = 6 ∧ s.who i.x = t then s.m.set i.x.toNat (-1) else s.m }

/-- A step: an error, the event, the state behind it. -/
def St.step (s : St) (t : Int) : Int × Ev × St :=
  if s.has t then
    match s.ins t with
    | none => (6, ev0, s)
    | some i => if s.may t = true then (0, s.ev t i, s.do_ t i) else (9, ev0, s)
  else (2, ev0, s)

def St.all (s : St) : List Int := ((List.range s.ts.length).map Int.ofNat).filter s.may

def St.new (p : Pg) (fuel : Nat) : St := ⟨p, p.threads.map fun _ => ⟨0, fuel, [0, 0]⟩, [0, 0, 0, 0], [-1, -1]⟩

def in64 (n : Int) : Prop := -9223372036854775808 ≤ n ∧ n ≤ 9223372036854775807

theorem in64_wrap (n : Int) : in64 (IntKind.i64.wrap n) := by
  unfold in64 IntKind.wrap
  simp [IntKind.signed, IntKind.bits]
  split <;> omega

/-- A state that may be, with at most F fuel a thread. -/
structure St.Ok (F : Nat) (s : St) : Prop where
  f8 : F ≤ 8
  right : rightPg s.p = true
  len : s.ts.length = s.p.threads.length
  vl : s.v.length = 4
  ml : s.m.length = 2
  thr : ∀ x ∈ s.ts, x.r.length = 2 ∧ (∀ n ∈ x.r, in64 n) ∧ x.fuel ≤ F
  place : ∀ k, k < s.ts.length → (s.th k).at_ ≤ (s.code k).length
  vv : ∀ n ∈ s.v, in64 n
  mm : ∀ n ∈ s.m, -1 ≤ n ∧ n < s.ts.length
  free : ∀ k : Nat, s.p.mutexes ≤ k → s.m.getD k (-1) = -1

theorem new_ok {p : Pg} (h : rightPg p = true) (F : Nat) (hF : F ≤ 8) : St.Ok F (St.new p F) := by
  refine ⟨hF, h, by simp [St.new], rfl, rfl, fun x hx => ?_, fun k hk => ?_, ?_, ?_, fun k _ => ?_⟩
  · simp [St.new] at hx
    obtain ⟨_, _, rfl⟩ := hx
    exact ⟨rfl, by simp [in64], Nat.le_refl _⟩
  · simp [St.new] at hk
    simp [St.th, St.new, hk]
  · simp [St.new, in64]
  · simp [St.new]
    omega
  · match k with
    | 0 => rfl
    | 1 => rfl
    | k + 2 => rfl

theorem getD_lt {T : Type} {l : List T} {k : Nat} (d : T) (h : k < l.length) : l.getD k d = l[k] := by
  simp [List.getD, h]

theorem getD_set {T : Type} (l : List T) (j k : Nat) (d y : T) (hj : j < l.length) : (l.set j y).getD k d = if k = j then y else l.getD k d := by
  simp only [List.getD]
  by_cases h : k = j
  · subst h; simp [hj]
  · rw [List.getElem?_set_ne (Ne.symm h), if_neg h]

theorem St.ins_has {s : St} {t : Int} {i : Ins} (h : s.ins t = some i) : s.has t ∧ (s.th t.toNat).fuel ≠ 0 ∧ (s.code t.toNat)[(s.th t.toNat).at_]? = some i := by
  unfold St.ins at h
  split at h
  · rename_i hh; exact ⟨hh.1, hh.2, h⟩
  · cases h

theorem St.th_mem {s : St} {k : Nat} (h : k < s.ts.length) : s.th k ∈ s.ts := by
  unfold St.th
  rw [getD_lt _ h]
  exact List.getElem_mem h

theorem St.Ok.ins_right {F : Nat} {s : St} (h : s.Ok F) {t : Int} {i : Ins} (hi : s.ins t = some i) : rightIns s.p.vars s.p.mutexes (s.code t.toNat).length i = true ∧ (s.code t.toNat).length ≤ 8 := by
  obtain ⟨hh, _, hc⟩ := St.ins_has hi
  have hk : t.toNat < s.p.threads.length := by have := h.len; unfold St.has at hh; omega
  have hcd : s.code t.toNat = s.p.threads[t.toNat] := by unfold St.code; rw [getD_lt _ hk]
  obtain ⟨h8, hr⟩ := rightPg_code h.right hk
  obtain ⟨hj, rfl⟩ := List.getElem?_eq_some_iff.1 hc
  rw [← hcd] at h8
  refine ⟨?_, h8⟩
  have := hr (s.th t.toNat).at_ (by rw [← hcd]; exact hj)
  simpa [hcd] using this

theorem St.step_cases (s : St) (t : Int) : (∃ i, s.ins t = some i ∧ s.may t = true ∧ s.step t = (0, s.ev t i, s.do_ t i)) ∨ ∃ e, (e = 2 ∨ e = 6 ∨ e = 9) ∧ s.step t = (e, ev0, s) := by
  unfold St.step
  split
  · split
    · exact .inr ⟨6, by simp, rfl⟩
    · rename_i i hi
      split
      · rename_i hm; exact .inl ⟨i, hi, hm, rfl⟩
      · exact .inr ⟨9, by simp, rfl⟩
  · exact .inr ⟨2, by simp, rfl⟩

theorem St.may_free {s : St} {t : Int} {i : Ins} (hi : s.ins t = some i) (hm : s.may t = true) (h5 : i.kind = 5) : s.who i.x < 0 := by
  unfold St.may at hm
  rw [hi] at hm
  simpa [h5] using hm

theorem St.th_do (s : St) (t : Int) (i : Ins) (ht : s.has t) (k : Nat) : (s.do_ t i).th k = if k = t.toNat then s.thr t i else s.th k := by
  unfold St.th St.do_
  dsimp only
  exact getD_set _ _ _ _ _ (by unfold St.has at ht; omega)

theorem St.Ok.obj {F : Nat} {s : St} (h : s.Ok F) {t : Int} {i : Ins} (hi : s.ins t = some i) : (i.kind = 1 ∨ i.kind = 2 → 0 ≤ i.x ∧ i.x < 4) ∧ (i.kind = 5 ∨ i.kind = 6 → 0 ≤ i.x ∧ i.x < 2) ∧ (i.kind = 7 → 0 ≤ i.x ∧ i.x ≤ (s.code t.toNat).length) ∧ 0 ≤ i.r ∧ i.r < 2 ∧ in64 i.n := by
  have hr := (h.ins_right hi).1
  have h4 : s.p.vars ≤ 4 ∧ s.p.mutexes ≤ 2 := by
    have := h.right
    unfold rightPg at this
    rw [Bool.and_eq_true, decide_eq_true_eq] at this
    omega
  unfold rightIns at hr
  unfold in64
  split at hr
  · simp only [decide_eq_true_eq] at hr; omega
  split at hr
  · simp only [decide_eq_true_eq] at hr; omega
  split at hr
  · simp only [decide_eq_true_eq] at hr; omega
  split at hr
  · simp only [decide_eq_true_eq] at hr; omega
  split at hr
  · simp only [decide_eq_true_eq] at hr; omega
  · cases hr

theorem St.Ok.objM {F : Nat} {s : St} (h : s.Ok F) {t : Int} {i : Ins} (hi : s.ins t = some i) : i.kind = 5 ∨ i.kind = 6 → 0 ≤ i.x ∧ i.x < s.p.mutexes := by
  intro hk
  have hr := (h.ins_right hi).1
  unfold rightIns at hr
  rw [if_neg (by omega), if_neg (by omega), if_pos hk] at hr
  simp only [decide_eq_true_eq] at hr
  omega

theorem St.Ok.reg64 {F : Nat} {s : St} (h : s.Ok F) {t : Int} (ht : s.has t) (i : Ins) : in64 (s.reg t i) := by
  have hx := (h.thr _ (St.th_mem (s := s) (k := t.toNat) (by unfold St.has at ht; omega))).2.1
  unfold St.reg
  by_cases hk : i.r.toNat < (s.th t.toNat).r.length
  · rw [getD_lt _ hk]; exact hx _ (List.getElem_mem hk)
  · simp [List.getD, List.getElem?_eq_none (Nat.le_of_not_lt hk), in64]

theorem St.Ok.var64 {F : Nat} {s : St} (h : s.Ok F) (x : Int) : in64 (s.var x) := by
  unfold St.var
  by_cases hk : x.toNat < s.v.length
  · rw [getD_lt _ hk]; exact h.vv _ (List.getElem_mem hk)
  · simp [List.getD, List.getElem?_eq_none (Nat.le_of_not_lt hk), in64]

theorem St.Ok.do_ok {F : Nat} {s : St} (h : s.Ok F) {t : Int} {i : Ins} (hi : s.ins t = some i) : (s.do_ t i).Ok F := by
  obtain ⟨ht, hf, hc⟩ := St.ins_has hi
  obtain ⟨o1, o2, o3, o4, o5, o6⟩ := h.obj hi
  have htn : t.toNat < s.ts.length := by unfold St.has at ht; omega
  obtain ⟨q1, q2, q3⟩ := h.thr _ (St.th_mem htn)
  refine ⟨h.f8, h.right, by simpa [St.do_] using h.len, ?_, ?_, fun x hx => ?_, fun k hk => ?_, fun n hn => ?_, fun n hn => ?_, fun k hk => ?_⟩
  · unfold St.do_; dsimp only; split <;> simp [h.vl]
  · unfold St.do_; dsimp only; repeat' split
    all_goals simp [h.ml]
  · rcases List.mem_or_eq_of_mem_set hx with hx | rfl
    · exact h.thr x hx
    · unfold St.thr
      dsimp only
      refine ⟨?_, ?_, by omega⟩
      · repeat' split
        all_goals simp [q1]
      · intro n hn
        split at hn
        · rcases List.mem_or_eq_of_mem_set hn with hn | rfl
          · exact q2 n hn
          · exact h.var64 _
        split at hn
        · rcases List.mem_or_eq_of_mem_set hn with hn | rfl
          · exact q2 n hn
          · exact o6
        split at hn
        · rcases List.mem_or_eq_of_mem_set hn with hn | rfl
          · exact q2 n hn
          · exact in64_wrap _
        · exact q2 n hn
  · rw [St.th_do s t i ht]
    have hk' : k < s.ts.length := by simpa [St.do_] using hk
    have hcd : (s.do_ t i).code k = s.code k := rfl
    rw [hcd]
    split
    · rename_i e
      subst e
      unfold St.thr
      dsimp only
      split
      · rename_i h7; have := o3 h7.1; omega
      · exact (List.getElem?_eq_some_iff.1 hc).1
    · exact h.place k hk'
  · unfold St.do_ at hn
    dsimp only at hn
    split at hn
    · rcases List.mem_or_eq_of_mem_set hn with hn | rfl
      · exact h.vv n hn
      · exact h.reg64 ht i
    · exact h.vv n hn
  · have hl : (s.do_ t i).ts.length = s.ts.length := by simp [St.do_]
    rw [hl]
    unfold St.do_ at hn
    dsimp only at hn
    unfold St.has at ht
    split at hn
    · rcases List.mem_or_eq_of_mem_set hn with hn | rfl
      · exact h.mm n hn
      · omega
    split at hn
    · rcases List.mem_or_eq_of_mem_set hn with hn | rfl
      · exact h.mm n hn
      · omega
    · exact h.mm n hn
  · have hk' : s.p.mutexes ≤ k := hk
    have hx := h.objM hi
    unfold St.do_
    dsimp only
    split
    · rename_i h5
      have := hx (.inl h5)
      rw [getD_set _ _ _ _ _ (by have := o2 (.inl h5); have := h.ml; omega), if_neg (by omega)]
      exact h.free k hk'
    split
    · rename_i h6
      have := hx (.inr h6.1)
      rw [getD_set _ _ _ _ _ (by have := o2 (.inr h6.1); have := h.ml; omega), if_neg (by omega)]
      exact h.free k hk'
    · exact h.free k hk'

theorem St.Ok.step_ok {F : Nat} {s : St} (h : s.Ok F) (t : Int) : (s.step t).2.2.Ok F := by
  rcases s.step_cases t with ⟨i, hi, _, e⟩ | ⟨e, _, e'⟩
  · rw [e]; exact h.do_ok hi
  · rw [e']; exact h

/-- Who has a mutex behind a step. -/
theorem St.Ok.who_do {F : Nat} {s : St} (h : s.Ok F) {t : Int} {i : Ins} (hi : s.ins t = some i) (x : Int) : (s.do_ t i).who x =
    if i.kind = 5 ∧ x.toNat = i.x.toNat then t else if i.kind = 6 ∧ s.who i.x = t ∧ x.toNat = i.x.toNat then -1 else s.who x := by
  obtain ⟨o1, o2, o3, o4, o5, o6⟩ := h.obj hi
  have hml := h.ml
  have e0 : (s.do_ t i).who x = (if i.kind = 5 then s.m.set i.x.toNat t else if i.kind = 6 ∧ s.who i.x = t then s.m.set i.x.toNat (-1) else s.m).getD x.toNat (-1) := rfl
  rw [e0]
  by_cases h5 : i.kind = 5
  · have := o2 (.inl h5)
    rw [if_pos h5, getD_set _ _ _ _ _ (by omega)]
    simp [h5, St.who]
  · rw [if_neg h5]
    by_cases h6 : i.kind = 6 ∧ s.who i.x = t
    · have := o2 (.inr h6.1)
      rw [if_pos h6, getD_set _ _ _ _ _ (by omega)]
      rw [if_neg (c := i.kind = 5 ∧ x.toNat = i.x.toNat) (fun e => h5 e.1)]
      by_cases hx : x.toNat = i.x.toNat
      · rw [if_pos hx, if_pos ⟨h6.1, h6.2, hx⟩]
      · rw [if_neg hx, if_neg (fun e => hx e.2.2)]
        rfl
    · rw [if_neg h6, if_neg (by simp [h5]), if_neg (by intro h; exact h6 ⟨h.1, h.2.1⟩)]
      rfl

theorem St.who_eq {s : St} {x y : Int} (h : x.toNat = y.toNat) : s.who x = s.who y := by
  unfold St.who; rw [h]

/-- P2.3: what another thread does next stays. -/
theorem St.Ok.next_do {F : Nat} {s : St} (h : s.Ok F) {t : Int} {i : Ins} (hi : s.ins t = some i) (hm : s.may t = true) {u : Int} (hu : u ≠ t) : (s.do_ t i).next u = s.next u := by
  obtain ⟨ht, _, _⟩ := St.ins_has hi
  have hl : (s.do_ t i).ts.length = s.ts.length := by simp [St.do_]
  have hh : (s.do_ t i).has u ↔ s.has u := by unfold St.has; rw [hl]
  by_cases hu' : s.has u
  · have hth : (s.do_ t i).th u.toNat = s.th u.toNat := by
      rw [St.th_do s t i ht, if_neg]
      unfold St.has at ht hu'
      omega
    have hins : (s.do_ t i).ins u = s.ins u := by
      unfold St.ins
      rw [hth]
      simp only [hh]
      rfl
    unfold St.next
    rw [hins]
    cases hn : s.ins u with
    | none => rfl
    | some j =>
      simp only [Option.map_some]
      have hwho : ((s.do_ t i).who j.x = u) ↔ (s.who j.x = u) := by
        rw [h.who_do hi]
        unfold St.has at hu' ht
        split
        · rename_i h5
          have := St.may_free hi hm h5.1
          rw [St.who_eq h5.2]
          constructor <;> intro e <;> omega
        split
        · rename_i h6
          rw [St.who_eq h6.2.2]
          have := h6.2.1
          constructor <;> intro e <;> omega
        · rfl
      have hreg : (s.do_ t i).reg u j = s.reg u j := by unfold St.reg; rw [hth]
      unfold St.ev
      simp only [hwho, hreg]
  · unfold St.next St.ins
    rw [if_neg (by rw [hh]; exact fun e => hu' e.1), if_neg (fun e => hu' e.1)]
    rfl

theorem St.Ok.next_step {F : Nat} {s : St} (h : s.Ok F) (t : Int) {u : Int} (hu : u ≠ t) : (s.step t).2.2.next u = s.next u := by
  rcases s.step_cases t with ⟨i, hi, hm, e⟩ | ⟨e, _, e'⟩
  · rw [e]; exact h.next_do hi hm hu
  · rw [e']

/-- A variable behind a step. -/
theorem St.Ok.var_do {F : Nat} {s : St} (h : s.Ok F) {t : Int} {i : Ins} (hi : s.ins t = some i) (x : Int) : (s.do_ t i).var x = if i.kind = 2 ∧ x.toNat = i.x.toNat then s.reg t i else s.var x := by
  obtain ⟨o1, o2, o3, o4, o5, o6⟩ := h.obj hi
  have hvl := h.vl
  have e0 : (s.do_ t i).var x = (if i.kind = 2 then s.v.set i.x.toNat (s.reg t i) else s.v).getD x.toNat 0 := rfl
  rw [e0]
  by_cases h2 : i.kind = 2
  · have := o1 (.inr h2)
    rw [if_pos h2, getD_set _ _ _ _ _ (by omega)]
    simp only [h2, true_and]
    rfl
  · rw [if_neg h2, if_neg (fun e => h2 e.1)]
    rfl

/-- P2.1: a variable changes by an EWrite of it alone. -/
theorem St.Ok.writes {F : Nat} {s : St} (h : s.Ok F) (t : Int) (x : Int) (hx : 0 ≤ x) (hne : (s.step t).2.2.var x ≠ s.var x) : (s.step t).1 = 0 ∧ (s.step t).2.1.kind = 3 ∧ (s.step t).2.1.obj = x := by
  rcases s.step_cases t with ⟨i, hi, hm, e⟩ | ⟨e, _, e'⟩
  · rw [e] at hne ⊢
    dsimp only at hne ⊢
    rw [h.var_do hi] at hne
    split at hne
    · rename_i h2
      have := (h.obj hi).1 (.inr h2.1)
      unfold St.ev
      rw [if_neg (by omega), if_pos h2.1]
      exact ⟨rfl, rfl, by dsimp only; omega⟩
    · exact absurd rfl hne
  · rw [e'] at hne
    exact absurd rfl hne

/-- P2.1, P2.3: who has a mutex behind a step, by the event alone. -/
theorem St.Ok.locks {F : Nat} {s : St} (h : s.Ok F) (t : Int) : 
    ((s.step t).1 ≠ 0 ∧ (s.step t).2.2 = s) ∨ (s.step t).1 = 0 ∧ (((s.step t).2.1.kind = 4 ∧ 0 ≤ (s.step t).2.1.obj ∧ (s.step t).2.1.obj < 2 ∧ s.who (s.step t).2.1.obj = -1 ∧ ∀ x, 0 ≤ x → (s.step t).2.2.who x = if x = (s.step t).2.1.obj then t else s.who x) ∨
      ((s.step t).2.1.kind = 5 ∧ 0 ≤ (s.step t).2.1.obj ∧ (s.step t).2.1.obj < 2 ∧ s.who (s.step t).2.1.obj = t ∧ ∀ x, 0 ≤ x → (s.step t).2.2.who x = if x = (s.step t).2.1.obj then -1 else s.who x) ∨
      ((s.step t).2.1.kind ≠ 4 ∧ (s.step t).2.1.kind ≠ 5 ∧ ∀ x, (s.step t).2.2.who x = s.who x)) := by
  rcases s.step_cases t with ⟨i, hi, hm, e⟩ | ⟨e, he, e'⟩
  · refine .inr ?_
    rw [e]
    dsimp only
    refine ⟨rfl, ?_⟩
    have hw := h.who_do hi
    obtain ⟨o1, o2, o3, o4, o5, o6⟩ := h.obj hi
    have hfree := St.may_free hi hm
    by_cases h5 : i.kind = 5
    · refine .inl ?_
      have ho := o2 (.inl h5)
      have ev : s.ev t i = ⟨t, 4, i.x, false⟩ := by unfold St.ev; rw [if_neg (by omega), if_neg (by omega), if_pos h5]
      rw [ev]
      dsimp only
      have hf := hfree h5
      have hk : i.x.toNat < s.m.length := by have := h.ml; omega
      have hmm := h.mm (s.who i.x) (by unfold St.who; rw [getD_lt _ hk]; exact List.getElem_mem hk)
      refine ⟨rfl, ho.1, ho.2, by omega, fun x hx => ?_⟩
      rw [hw]
      by_cases hxx : x = i.x
      · rw [if_pos ⟨h5, by rw [hxx]⟩, if_pos hxx]
      · rw [if_neg (fun e => hxx (by omega)), if_neg (fun e => by omega), if_neg hxx]
    · by_cases h6 : i.kind = 6 ∧ s.who i.x = t
      · refine .inr (.inl ?_)
        have ho := o2 (.inr h6.1)
        have ev : s.ev t i = ⟨t, 5, i.x, false⟩ := by unfold St.ev; rw [if_neg (by omega), if_neg (by omega), if_neg (by omega), if_pos h6.1, if_pos h6.2]
        rw [ev]
        dsimp only
        refine ⟨rfl, ho.1, ho.2, h6.2, fun x hx => ?_⟩
        rw [hw, if_neg (fun e => h5 e.1)]
        by_cases hxx : x = i.x
        · rw [if_pos ⟨h6.1, h6.2, by rw [hxx]⟩, if_pos hxx]
        · rw [if_neg (fun e => hxx (by omega)), if_neg hxx]
      · refine .inr (.inr ?_)
        have hk : (s.ev t i).kind ≠ 4 ∧ (s.ev t i).kind ≠ 5 := by
          unfold St.ev
          repeat' split
          all_goals first | (simp; done) | omega | (rename_i a b; exact absurd ⟨a, b⟩ h6)
        exact ⟨hk.1, hk.2, fun x => by rw [hw, if_neg (fun e => h5 e.1), if_neg (fun e => h6 ⟨e.1, e.2.1⟩)]⟩
  · rw [e']
    exact .inl ⟨by dsimp only; omega, rfl⟩

/-- All fuel that is left. -/
def St.fuel (s : St) : Nat := (s.ts.map Thr.fuel).sum

theorem sum_set (l : List Nat) (k y : Nat) (h : k < l.length) : (l.set k y).sum + l[k] = l.sum + y := by
  induction l generalizing k with
  | nil => simp at h
  | cons a l ih =>
    cases k with
    | zero => simp; omega
    | succ k => simp at h ⊢; have := ih k h; omega

theorem St.fuel_do {s : St} {t : Int} {i : Ins} (hi : s.ins t = some i) : (s.do_ t i).fuel + 1 = s.fuel := by
  obtain ⟨ht, hf, _⟩ := St.ins_has hi
  have htn : t.toNat < s.ts.length := by unfold St.has at ht; omega
  have e1 : (s.do_ t i).fuel = ((s.ts.map Thr.fuel).set t.toNat ((s.th t.toNat).fuel - 1)).sum := by
    unfold St.fuel St.do_ St.thr
    dsimp only
    rw [List.map_set]
  have e2 := sum_set (s.ts.map Thr.fuel) t.toNat ((s.th t.toNat).fuel - 1) (by simpa using htn)
  have e3 : (s.ts.map Thr.fuel)[t.toNat]'(by simpa using htn) = (s.th t.toNat).fuel := by
    unfold St.th; rw [getD_lt _ htn]; simp
  rw [e3] at e2
  rw [e1]
  unfold St.fuel
  omega

/-- The same state but for fuel: d more a thread. -/
def St.More (d : Nat) (s s' : St) : Prop := s' = { s with ts := s.ts.map fun x => { x with fuel := x.fuel + d } }

theorem St.More.step {d : Nat} {s s' : St} (h : s.More d s') {t : Int} (h0 : (s.step t).1 = 0) : (s'.step t).1 = 0 ∧ (s'.step t).2.1 = (s.step t).2.1 ∧ (s.step t).2.2.More d (s'.step t).2.2 := by
  rcases s.step_cases t with ⟨i, hi, hm, e⟩ | ⟨e, he, e'⟩
  · obtain ⟨ht, hf, hc⟩ := St.ins_has hi
    have htn : t.toNat < s.ts.length := by unfold St.has at ht; omega
    have hth : s'.th t.toNat = { s.th t.toNat with fuel := (s.th t.toNat).fuel + d } := by
      unfold St.th
      rw [h, getD_lt _ htn, getD_lt _ (by simpa using htn)]
      simp
    have hp : s'.p = s.p := by rw [h]
    have hv : s'.v = s.v := by rw [h]
    have hmm : s'.m = s.m := by rw [h]
    have hh : s'.has t := by unfold St.has at ht ⊢; rw [h]; simpa using ht
    have hins : s'.ins t = some i := by
      unfold St.ins
      rw [if_pos ⟨hh, by rw [hth]; dsimp only; omega⟩, hth]
      unfold St.code at hc ⊢
      rw [hp]
      exact hc
    have hwho : ∀ x, s'.who x = s.who x := fun x => by unfold St.who; rw [hmm]
    have hvar : ∀ x, s'.var x = s.var x := fun x => by unfold St.var; rw [hv]
    have hreg : s'.reg t i = s.reg t i := by unfold St.reg; rw [hth]
    have hmay : s'.may t = true := by
      unfold St.may at hm ⊢
      rw [hi] at hm
      rw [hins]
      simpa [hwho] using hm
    have hev : s'.ev t i = s.ev t i := by unfold St.ev; simp only [hwho, hreg]
    have hst : s'.step t = (0, s'.ev t i, s'.do_ t i) := by
      unfold St.step
      rw [if_pos hh, hins]
      simp only [hmay, if_true]
    rw [hst, e]
    refine ⟨rfl, hev, ?_⟩
    have hthr : s'.thr t i = { s.thr t i with fuel := (s.thr t i).fuel + d } := by
      unfold St.thr
      simp only [hth, hreg, hvar]
      congr 1
      omega
    unfold St.More St.do_
    dsimp only
    rw [hthr]
    simp only [hwho, hreg, hp, hv, hmm, List.map_set]
    rw [h]
  · rw [e'] at h0
    dsimp only at h0
    omega

theorem new_more (p : Pg) (f d : Nat) : (St.new p f).More d (St.new p (f + d)) := by
  simp [St.More, St.new]

end Go.Proofs.Ytkphdmfcmfojeaa
