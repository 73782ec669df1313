import Derived.WalkKit

/- General, plain: lists, numbers of 64 bits, cells. Nothing of the translation. -/
namespace Go.Proofs.Ytopklnehhebhmaa

theorem cell_block {w : World} {a : Addr} {v : Value} (h : w.cell? a = some v) : a.block < w.heap.size := by
  unfold World.cell? at h
  rcases Nat.lt_or_ge a.block w.heap.size with h1 | h1
  · exact h1
  · rw [Array.getElem?_eq_none h1] at h; cases h
theorem cell_later {w w' : World} (hb : Go.RowKit.Below w.heap.size w w') {a : Addr} {v : Value} (h : w.cell? a = some v) : w'.cell? a = some v := by
  rw [hb.cell (cell_block h)]; exact h
theorem exists_list {α : Type} (n : Nat) (P : Nat → α → Prop) (h : ∀ i, i < n → ∃ x, P i x) : ∃ xs : List α, xs.length = n ∧ ∀ i x, xs[i]? = some x → P i x := by
  induction n with
  | zero => exact ⟨[], rfl, by simp⟩
  | succ n ih =>
    obtain ⟨xs, hl, hx⟩ := ih (fun i hi => h i (by omega))
    obtain ⟨x, hp⟩ := h n (by omega)
    refine ⟨xs ++ [x], by simp [hl], fun i y hy => ?_⟩
    by_cases hi : i < n
    · rw [List.getElem?_append_left (by omega)] at hy; exact hx i y hy
    · rw [List.getElem?_append_right (by omega)] at hy
      have : i - xs.length = 0 := by
        have := (List.getElem?_eq_some_iff.1 hy).1
        simp at this
        omega
      rw [this] at hy
      have hin : i = n := by omega
      subst hin
      simp at hy
      subst hy
      exact hp
def in64 (n : Int) : Prop := -9223372036854775808 ≤ n ∧ n ≤ 9223372036854775807
theorem in64_wrap (n : Int) : in64 (IntKind.i64.wrap n) := by
  unfold in64 IntKind.wrap
  simp [IntKind.signed, IntKind.bits]
  split <;> omega
theorem getD_lt {T : Type} {l : List T} {k : Nat} (d : T) (h : k < l.length) : l.getD k d = l[k] := by
  simp [List.getD, h]
theorem getD_set {T : Type} (l : List T) (j k : Nat) (d y : T) (hj : j < l.length) : (l.set j y).getD k d = if k = j then y else l.getD k d := by
  simp only [List.getD]
  by_cases h : k = j
  · subst h; simp [hj]
  · rw [List.getElem?_set_ne (Ne.symm h), if_neg h]
theorem sum_set (l : List Nat) (k y : Nat) (h : k < l.length) : (l.set k y).sum + l[k] = l.sum + y := by
  induction l generalizing k with
  | nil => simp at h
  | cons a l ih =>
    cases k with
    | zero => simp; omega
    | succ k => simp at h ⊢; have := ih k h; omega
abbrev Txt := List UInt8
def updF {α : Type} (f : Nat → α) (s : Nat) (x : α) : Nat → α := fun k => if k = s then x else f k
theorem updF_same {α : Type} (f : Nat → α) (s : Nat) (x : α) : updF f s x s = x := by simp [updF]
theorem updF_ne {α : Type} (f : Nat → α) {s k : Nat} (x : α) (h : k ≠ s) : updF f s x k = f k := by simp [updF, h]
theorem updF_upd {α : Type} (f : Nat → α) (s : Nat) (x y : α) : updF (updF f s x) s y = updF f s y := by
  funext k; unfold updF; by_cases h : k = s <;> simp [h]
theorem updF_id {α : Type} (f : Nat → α) (s : Nat) : updF f s (f s) = f := by
  funext k; unfold updF; by_cases h : k = s <;> simp [h]
theorem getD_mem {l : List Nat} {k : Nat} (h : k < l.length) : l.getD k 0 ∈ l := by simp [List.getD, h]
theorem mem_getD {l : List Nat} {x : Nat} (h : x ∈ l) : ∃ k, k < l.length ∧ l.getD k 0 = x := by
  obtain ⟨k, hk, rfl⟩ := List.getElem_of_mem h
  exact ⟨k, hk, by simp [List.getD, hk]⟩

end Go.Proofs.Ytopklnehhebhmaa

/-
  Plain data and plain functions for layer 1: instructions, programs, what may be. Nothing of the translation.
-/
namespace Go.Proofs.Ytopklnehhebhmaa

structure Ins where
  kind : Int
  r : Int
  x : Int
  n : Int

structure Pg where
  vars : Int
  mutexes : Int
  threads : List (List Ins)

instance : DecidableEq Ins := fun a b =>
  decidable_of_iff (a.kind = b.kind ∧ a.r = b.r ∧ a.x = b.x ∧ a.n = b.n) (by cases a; cases b; simp)

instance : DecidableEq Pg := fun a b =>
  decidable_of_iff (a.vars = b.vars ∧ a.mutexes = b.mutexes ∧ a.threads = b.threads) (by cases a; cases b; simp)

/-- May an instruction be, of a thread of n instructions? -/
def rightIns (V M n : Int) (i : Ins) : Bool :=
  if i.kind = 1 ∨ i.kind = 2 then decide (0 ≤ i.r ∧ i.r < 2 ∧ 0 ≤ i.x ∧ i.x < V ∧ i.n = 0)
  else if i.kind = 3 ∨ i.kind = 4 then decide (0 ≤ i.r ∧ i.r < 2 ∧ i.x = 0 ∧ -128 ≤ i.n ∧ i.n ≤ 127)
  else if i.kind = 5 ∨ i.kind = 6 then decide (i.r = 0 ∧ 0 ≤ i.x ∧ i.x < M ∧ i.n = 0)
  else if i.kind = 7 then decide (0 ≤ i.r ∧ i.r < 2 ∧ 0 ≤ i.x ∧ i.x < n + 1 ∧ i.n = 0)
  else if i.kind = 8 then decide (0 ≤ i.r ∧ i.r < 2 ∧ i.x = 0 ∧ i.n = 0)
  else false

def rightCode (V M : Int) (l : List Ins) : Bool := decide (l.length ≤ 8) && l.all (rightIns V M l.length)

def rightPg (p : Pg) : Bool :=
  decide (0 ≤ p.vars ∧ p.vars ≤ 4 ∧ 0 ≤ p.mutexes ∧ p.mutexes ≤ 2 ∧ 1 ≤ p.threads.length ∧ p.threads.length ≤ 4) && p.threads.all (rightCode p.vars p.mutexes)

def belowB (n e : Int) : Bool := decide (0 ≤ n ∧ n < e)

/-- An instruction as a value. -/
def insV (i : Ins) : Value := .agg #[.int .i64 i.kind, .int .i64 i.r, .int .i64 i.x, .int .i64 i.n]

/-- From the place a on lie, in w, the instructions l. -/
def CodeAt (w : World) (a : Option Addr) (l : List Ins) : Prop :=
  l.length ≤ maxLen ∧ (l ≠ [] → ∃ b o, a = some ⟨b, o, none⟩ ∧ ∀ i (h : i < l.length),
    w.cell? ⟨b, o + i * 4, none⟩ = some (.int .i64 l[i].kind) ∧ w.cell? ⟨b, o + i * 4 + 1, none⟩ = some (.int .i64 l[i].r) ∧
    w.cell? ⟨b, o + i * 4 + 2, none⟩ = some (.int .i64 l[i].x) ∧ w.cell? ⟨b, o + i * 4 + 3, none⟩ = some (.int .i64 l[i].n))

theorem CodeAt.later {w w' : World} {a : Option Addr} {l : List Ins} (h : CodeAt w a l) (hb : Go.RowKit.Below w.heap.size w w') : CodeAt w' a l := by
  refine ⟨h.1, fun hn => ?_⟩
  obtain ⟨b, o, rfl, hc⟩ := h.2 hn
  refine ⟨b, o, rfl, fun i hi => ?_⟩
  obtain ⟨h0, h1, h2, h3⟩ := hc i hi
  exact ⟨cell_later hb h0, cell_later hb h1, cell_later hb h2, cell_later hb h3⟩

/-- From the place a on lie, in w, the threads ts. -/
def ThreadsAt (w : World) (a : Option Addr) (ts : List (List Ins)) : Prop :=
  ts.length ≤ maxLen ∧ (ts ≠ [] → ∃ b o, a = some ⟨b, o, none⟩ ∧ ∀ i (h : i < ts.length),
    ∃ c cap, w.cell? ⟨b, o + i, none⟩ = some (.slice c ts[i].length cap) ∧ CodeAt w c ts[i] ∧ (c = none → cap = 0))

theorem ThreadsAt.later {w w' : World} {a : Option Addr} {ts : List (List Ins)} (h : ThreadsAt w a ts) (hb : Go.RowKit.Below w.heap.size w w') : ThreadsAt w' a ts := by
  refine ⟨h.1, fun hn => ?_⟩
  obtain ⟨b, o, rfl, hc⟩ := h.2 hn
  refine ⟨b, o, rfl, fun i hi => ?_⟩
  obtain ⟨c, cap, h0, h1, h2⟩ := hc i hi
  exact ⟨c, cap, cell_later hb h0, h1.later hb, h2⟩

/-- The value of a program whose threads lie from a on. -/
def pgV (p : Pg) (a : Option Addr) (cap : Nat) : Value := .agg #[.int .i64 p.vars, .int .i64 p.mutexes, .slice a p.threads.length cap]

theorem rightPg_code {p : Pg} (h : rightPg p = true) {k : Nat} (hk : k < p.threads.length) : p.threads[k].length ≤ 8 ∧ ∀ j (hj : j < p.threads[k].length), rightIns p.vars p.mutexes p.threads[k].length p.threads[k][j] = true := by
  unfold rightPg at h
  rw [Bool.and_eq_true, List.all_eq_true] at h
  have := h.2 _ (List.getElem_mem hk)
  unfold rightCode at this
  rw [Bool.and_eq_true, List.all_eq_true] at this
  exact ⟨by simpa using this.1, fun j hj => this.2 _ (List.getElem_mem hj)⟩

end Go.Proofs.Ytopklnehhebhmaa

/-
  Plain data and plain functions for layer 2: states, what threads do next, steps. Nothing of the translation.
-/
namespace Go.Proofs.Ytopklnehhebhmaa

structure Ev where
  thread : Int
  kind : Int
  obj : Int
  fail : Bool

instance : DecidableEq Ev := fun a b =>
  decidable_of_iff (a.thread = b.thread ∧ a.kind = b.kind ∧ a.obj = b.obj ∧ a.fail = b.fail) (by cases a; cases b; simp)

def ev0 : Ev := ⟨0, 0, 0, false⟩

/-- A thread: the place, the fuel that is left, two registers. -/
structure Thr where
  at_ : Nat
  fuel : Nat
  r : List Int

def thr0 : Thr := ⟨0, 0, [0, 0]⟩

structure St where
  p : Pg
  ts : List Thr
  v : List Int
  m : List Int

def St.code (s : St) (t : Nat) : List Ins := s.p.threads.getD t []
def St.th (s : St) (t : Nat) : Thr := s.ts.getD t thr0
def St.reg (s : St) (t : Int) (i : Ins) : Int := (s.th t.toNat).r.getD i.r.toNat 0
def St.who (s : St) (x : Int) : Int := s.m.getD x.toNat (-1)
def St.var (s : St) (x : Int) : Int := s.v.getD x.toNat 0
def St.put (s : St) (t : Int) (y : Thr) : St := { s with ts := s.ts.set t.toNat y }

def St.has (s : St) (t : Int) : Prop := 0 ≤ t ∧ t < s.ts.length
instance (s : St) (t : Int) : Decidable (s.has t) := inferInstanceAs (Decidable (_ ∧ _))

/-- The instruction that a thread does next. -/
def St.ins (s : St) (t : Int) : Option Ins :=
  if s.has t ∧ (s.th t.toNat).fuel ≠ 0 then (s.code t.toNat)[(s.th t.toNat).at_]? else none

def St.ev (s : St) (t : Int) (i : Ins) : Ev :=
  if i.kind = 1 then ⟨t, 2, i.x, false⟩
  else if i.kind = 2 then ⟨t, 3, i.x, false⟩
  else if i.kind = 5 then ⟨t, 4, i.x, false⟩
  else if i.kind = 6 then (if s.who i.x = t then ⟨t, 5, i.x, false⟩ else ⟨t, 1, 0, true⟩)
  else if i.kind = 8 then ⟨t, 1, 0, decide (s.reg t i = 0)⟩
  else ⟨t, 1, 0, false⟩

def St.next (s : St) (t : Int) : Option Ev := (s.ins t).map (s.ev t)

def St.may (s : St) (t : Int) : Bool :=
  match s.ins t with
  | none => false
  | some i => decide (i.kind = 5 → s.who i.x < 0)

/-- The thread behind its step. -/
def St.thr (s : St) (t : Int) (i : Ins) : Thr :=
  let x := s.th t.toNat
  { at_ := if i.kind = 7 ∧ s.reg t i ≠ 0 then i.x.toNat else x.at_ + 1
    fuel := x.fuel - 1
    r := if i.kind = 1 then x.r.set i.r.toNat (s.var i.x) else if i.kind = 3 then x.r.set i.r.toNat i.n else if i.kind = 4 then x.r.set i.r.toNat (IntKind.i64.wrap (s.reg t i + i.n)) else x.r }

def St.do_ (s : St) (t : Int) (i : Ins) : St :=
  { p := s.p
    ts := s.ts.set t.toNat (s.thr t i)
    v := if i.kind = 2 then s.v.set i.x.toNat (s.reg t i) else s.v
    m := if i.kind = 5 then s.m.set i.x.toNat t else if i.kind = 6 ∧ s.who i.x = t then s.m.set i.x.toNat (-1) else s.m }

/-- A step: an error, the event, the state behind it. -/
def St.step (s : St) (t : Int) : Int × Ev × St :=
  if s.has t then
    match s.ins t with
    | none => (6, ev0, s)
    | some i => if s.may t = true then (0, s.ev t i, s.do_ t i) else (9, ev0, s)
  else (2, ev0, s)

def St.all (s : St) : List Int := ((List.range s.ts.length).map Int.ofNat).filter s.may

def St.new (p : Pg) (fuel : Nat) : St := ⟨p, p.threads.map fun _ => ⟨0, fuel, [0, 0]⟩, [0, 0, 0, 0], [-1, -1]⟩

/-- A state that may be, with at most F fuel a thread. -/
structure St.Ok (F : Nat) (s : St) : Prop where
  f8 : F ≤ 8
  right : rightPg s.p = true
  len : s.ts.length = s.p.threads.length
  vl : s.v.length = 4
  ml : s.m.length = 2
  thr : ∀ x ∈ s.ts, x.r.length = 2 ∧ (∀ n ∈ x.r, in64 n) ∧ x.fuel ≤ F
  place : ∀ k, k < s.ts.length → (s.th k).at_ ≤ (s.code k).length
  vv : ∀ n ∈ s.v, in64 n
  mm : ∀ n ∈ s.m, -1 ≤ n ∧ n < s.ts.length
  free : ∀ k : Nat, s.p.mutexes ≤ k → s.m.getD k (-1) = -1

theorem new_ok {p : Pg} (h : rightPg p = true) (F : Nat) (hF : F ≤ 8) : St.Ok F (St.new p F) := by
  refine ⟨hF, h, by simp [St.new], rfl, rfl, fun x hx => ?_, fun k hk => ?_, ?_, ?_, fun k _ => ?_⟩
  · simp [St.new] at hx
    obtain ⟨_, _, rfl⟩ := hx
    exact ⟨rfl, by simp [in64], Nat.le_refl _⟩
  · simp [St.new] at hk
    simp [St.th, St.new, hk]
  · simp [St.new, in64]
  · simp [St.new]
    omega
  · match k with
    | 0 => rfl
    | 1 => rfl
    | k + 2 => rfl

theorem St.ins_has {s : St} {t : Int} {i : Ins} (h : s.ins t = some i) : s.has t ∧ (s.th t.toNat).fuel ≠ 0 ∧ (s.code t.toNat)[(s.th t.toNat).at_]? = some i := by
  unfold St.ins at h
  split at h
  · rename_i hh; exact ⟨hh.1, hh.2, h⟩
  · cases h

theorem St.th_mem {s : St} {k : Nat} (h : k < s.ts.length) : s.th k ∈ s.ts := by
  unfold St.th
  rw [getD_lt _ h]
  exact List.getElem_mem h

theorem St.Ok.ins_right {F : Nat} {s : St} (h : s.Ok F) {t : Int} {i : Ins} (hi : s.ins t = some i) : rightIns s.p.vars s.p.mutexes (s.code t.toNat).length i = true ∧ (s.code t.toNat).length ≤ 8 := by
  obtain ⟨hh, _, hc⟩ := St.ins_has hi
  have hk : t.toNat < s.p.threads.length := by have := h.len; unfold St.has at hh; omega
  have hcd : s.code t.toNat = s.p.threads[t.toNat] := by unfold St.code; rw [getD_lt _ hk]
  obtain ⟨h8, hr⟩ := rightPg_code h.right hk
  obtain ⟨hj, rfl⟩ := List.getElem?_eq_some_iff.1 hc
  rw [← hcd] at h8
  refine ⟨?_, h8⟩
  have := hr (s.th t.toNat).at_ (by rw [← hcd]; exact hj)
  simpa [hcd] using this

theorem St.step_cases (s : St) (t : Int) : (∃ i, s.ins t = some i ∧ s.may t = true ∧ s.step t = (0, s.ev t i, s.do_ t i)) ∨ ∃ e, (e = 2 ∨ e = 6 ∨ e = 9) ∧ s.step t = (e, ev0, s) := by
  unfold St.step
  split
  · split
    · exact .inr ⟨6, by simp, rfl⟩
    · rename_i i hi
      split
      · rename_i hm; exact .inl ⟨i, hi, hm, rfl⟩
      · exact .inr ⟨9, by simp, rfl⟩
  · exact .inr ⟨2, by simp, rfl⟩

theorem St.may_free {s : St} {t : Int} {i : Ins} (hi : s.ins t = some i) (hm : s.may t = true) (h5 : i.kind = 5) : s.who i.x < 0 := by
  unfold St.may at hm
  rw [hi] at hm
  simpa [h5] using hm

theorem St.th_do (s : St) (t : Int) (i : Ins) (ht : s.has t) (k : Nat) : (s.do_ t i).th k = if k = t.toNat then s.thr t i else s.th k := by
  unfold St.th St.do_
  dsimp only
  exact getD_set _ _ _ _ _ (by unfold St.has at ht; omega)

theorem St.Ok.obj {F : Nat} {s : St} (h : s.Ok F) {t : Int} {i : Ins} (hi : s.ins t = some i) : (i.kind = 1 ∨ i.kind = 2 → 0 ≤ i.x ∧ i.x < 4) ∧ (i.kind = 5 ∨ i.kind = 6 → 0 ≤ i.x ∧ i.x < 2) ∧ (i.kind = 7 → 0 ≤ i.x ∧ i.x ≤ (s.code t.toNat).length) ∧ 0 ≤ i.r ∧ i.r < 2 ∧ in64 i.n := by
  have hr := (h.ins_right hi).1
  have h4 : s.p.vars ≤ 4 ∧ s.p.mutexes ≤ 2 := by
    have := h.right
    unfold rightPg at this
    rw [Bool.and_eq_true, decide_eq_true_eq] at this
    omega
  unfold rightIns at hr
  unfold in64
  split at hr
  · simp only [decide_eq_true_eq] at hr; omega
  split at hr
  · simp only [decide_eq_true_eq] at hr; omega
  split at hr
  · simp only [decide_eq_true_eq] at hr; omega
  split at hr
  · simp only [decide_eq_true_eq] at hr; omega
  split at hr
  · simp only [decide_eq_true_eq] at hr; omega
  · cases hr

theorem St.Ok.objM {F : Nat} {s : St} (h : s.Ok F) {t : Int} {i : Ins} (hi : s.ins t = some i) : i.kind = 5 ∨ i.kind = 6 → 0 ≤ i.x ∧ i.x < s.p.mutexes := by
  intro hk
  have hr := (h.ins_right hi).1
  unfold rightIns at hr
  rw [if_neg (by omega), if_neg (by omega), if_pos hk] at hr
  simp only [decide_eq_true_eq] at hr
  omega

theorem St.Ok.reg64 {F : Nat} {s : St} (h : s.Ok F) {t : Int} (ht : s.has t) (i : Ins) : in64 (s.reg t i) := by
  have hx := (h.thr _ (St.th_mem (s := s) (k := t.toNat) (by unfold St.has at ht; omega))).2.1
  unfold St.reg
  by_cases hk : i.r.toNat < (s.th t.toNat).r.length
  · rw [getD_lt _ hk]; exact hx _ (List.getElem_mem hk)
  · simp [List.getD, List.getElem?_eq_none (Nat.le_of_not_lt hk), in64]

theorem St.Ok.var64 {F : Nat} {s : St} (h : s.Ok F) (x : Int) : in64 (s.var x) := by
  unfold St.var
  by_cases hk : x.toNat < s.v.length
  · rw [getD_lt _ hk]; exact h.vv _ (List.getElem_mem hk)
  · simp [List.getD, List.getElem?_eq_none (Nat.le_of_not_lt hk), in64]

theorem St.Ok.do_ok {F : Nat} {s : St} (h : s.Ok F) {t : Int} {i : Ins} (hi : s.ins t = some i) : (s.do_ t i).Ok F := by
  obtain ⟨ht, hf, hc⟩ := St.ins_has hi
  obtain ⟨o1, o2, o3, o4, o5, o6⟩ := h.obj hi
  have htn : t.toNat < s.ts.length := by unfold St.has at ht; omega
  obtain ⟨q1, q2, q3⟩ := h.thr _ (St.th_mem htn)
  refine ⟨h.f8, h.right, by simpa [St.do_] using h.len, ?_, ?_, fun x hx => ?_, fun k hk => ?_, fun n hn => ?_, fun n hn => ?_, fun k hk => ?_⟩
  · unfold St.do_; dsimp only; split <;> simp [h.vl]
  · unfold St.do_; dsimp only; repeat' split
    all_goals simp [h.ml]
  · rcases List.mem_or_eq_of_mem_set hx with hx | rfl
    · exact h.thr x hx
    · unfold St.thr
      dsimp only
      refine ⟨?_, ?_, by omega⟩
      · repeat' split
        all_goals simp [q1]
      · intro n hn
        split at hn
        · rcases List.mem_or_eq_of_mem_set hn with hn | rfl
          · exact q2 n hn
          · exact h.var64 _
        split at hn
        · rcases List.mem_or_eq_of_mem_set hn with hn | rfl
          · exact q2 n hn
          · exact o6
        split at hn
        · rcases List.mem_or_eq_of_mem_set hn with hn | rfl
          · exact q2 n hn
          · exact in64_wrap _
        · exact q2 n hn
  · rw [St.th_do s t i ht]
    have hk' : k < s.ts.length := by simpa [St.do_] using hk
    have hcd : (s.do_ t i).code k = s.code k := rfl
    rw [hcd]
    split
    · rename_i e
      subst e
      unfold St.thr
      dsimp only
      split
      · rename_i h7; have := o3 h7.1; omega
      · exact (List.getElem?_eq_some_iff.1 hc).1
    · exact h.place k hk'
  · unfold St.do_ at hn
    dsimp only at hn
    split at hn
    · rcases List.mem_or_eq_of_mem_set hn with hn | rfl
      · exact h.vv n hn
      · exact h.reg64 ht i
    · exact h.vv n hn
  · have hl : (s.do_ t i).ts.length = s.ts.length := by simp [St.do_]
    rw [hl]
    unfold St.do_ at hn
    dsimp only at hn
    unfold St.has at ht
    split at hn
    · rcases List.mem_or_eq_of_mem_set hn with hn | rfl
      · exact h.mm n hn
      · omega
    split at hn
    · rcases List.mem_or_eq_of_mem_set hn with hn | rfl
      · exact h.mm n hn
      · omega
    · exact h.mm n hn
  · have hk' : s.p.mutexes ≤ k := hk
    have hx := h.objM hi
    unfold St.do_
    dsimp only
    split
    · rename_i h5
      have := hx (.inl h5)
      rw [getD_set _ _ _ _ _ (by have := o2 (.inl h5); have := h.ml; omega), if_neg (by omega)]
      exact h.free k hk'
    split
    · rename_i h6
      have := hx (.inr h6.1)
      rw [getD_set _ _ _ _ _ (by have := o2 (.inr h6.1); have := h.ml; omega), if_neg (by omega)]
      exact h.free k hk'
    · exact h.free k hk'

theorem St.Ok.step_ok {F : Nat} {s : St} (h : s.Ok F) (t : Int) : (s.step t).2.2.Ok F := by
  rcases s.step_cases t with ⟨i, hi, _, e⟩ | ⟨e, _, e'⟩
  · rw [e]; exact h.do_ok hi
  · rw [e']; exact h

/-- Who has a mutex behind a step. -/
theorem St.Ok.who_do {F : Nat} {s : St} (h : s.Ok F) {t : Int} {i : Ins} (hi : s.ins t = some i) (x : Int) : (s.do_ t i).who x =
    if i.kind = 5 ∧ x.toNat = i.x.toNat then t else if i.kind = 6 ∧ s.who i.x = t ∧ x.toNat = i.x.toNat then -1 else s.who x := by
  obtain ⟨o1, o2, o3, o4, o5, o6⟩ := h.obj hi
  have hml := h.ml
  have e0 : (s.do_ t i).who x = (if i.kind = 5 then s.m.set i.x.toNat t else if i.kind = 6 ∧ s.who i.x = t then s.m.set i.x.toNat (-1) else s.m).getD x.toNat (-1) := rfl
  rw [e0]
  by_cases h5 : i.kind = 5
  · have := o2 (.inl h5)
    rw [if_pos h5, getD_set _ _ _ _ _ (by omega)]
    simp [h5, St.who]
  · rw [if_neg h5]
    by_cases h6 : i.kind = 6 ∧ s.who i.x = t
    · have := o2 (.inr h6.1)
      rw [if_pos h6, getD_set _ _ _ _ _ (by omega)]
      rw [if_neg (c := i.kind = 5 ∧ x.toNat = i.x.toNat) (fun e => h5 e.1)]
      by_cases hx : x.toNat = i.x.toNat
      · rw [if_pos hx, if_pos ⟨h6.1, h6.2, hx⟩]
      · rw [if_neg hx, if_neg (fun e => hx e.2.2)]
        rfl
    · rw [if_neg h6, if_neg (by simp [h5]), if_neg (by intro h; exact h6 ⟨h.1, h.2.1⟩)]
      rfl

theorem St.who_eq {s : St} {x y : Int} (h : x.toNat = y.toNat) : s.who x = s.who y := by
  unfold St.who; rw [h]

/-- P2.3: what another thread does next stays. -/
theorem St.Ok.next_do {F : Nat} {s : St} (h : s.Ok F) {t : Int} {i : Ins} (hi : s.ins t = some i) (hm : s.may t = true) {u : Int} (hu : u ≠ t) : (s.do_ t i).next u = s.next u := by
  obtain ⟨ht, _, _⟩ := St.ins_has hi
  have hl : (s.do_ t i).ts.length = s.ts.length := by simp [St.do_]
  have hh : (s.do_ t i).has u ↔ s.has u := by unfold St.has; rw [hl]
  by_cases hu' : s.has u
  · have hth : (s.do_ t i).th u.toNat = s.th u.toNat := by
      rw [St.th_do s t i ht, if_neg]
      unfold St.has at ht hu'
      omega
    have hins : (s.do_ t i).ins u = s.ins u := by
      unfold St.ins
      rw [hth]
      simp only [hh]
      rfl
    unfold St.next
    rw [hins]
    cases hn : s.ins u with
    | none => rfl
    | some j =>
      simp only [Option.map_some]
      have hwho : ((s.do_ t i).who j.x = u) ↔ (s.who j.x = u) := by
        rw [h.who_do hi]
        unfold St.has at hu' ht
        split
        · rename_i h5
          have := St.may_free hi hm h5.1
          rw [St.who_eq h5.2]
          constructor <;> intro e <;> omega
        split
        · rename_i h6
          rw [St.who_eq h6.2.2]
          have := h6.2.1
          constructor <;> intro e <;> omega
        · rfl
      have hreg : (s.do_ t i).reg u j = s.reg u j := by unfold St.reg; rw [hth]
      unfold St.ev
      simp only [hwho, hreg]
  · unfold St.next St.ins
    rw [if_neg (by rw [hh]; exact fun e => hu' e.1), if_neg (fun e => hu' e.1)]
    rfl

theorem St.Ok.next_step {F : Nat} {s : St} (h : s.Ok F) (t : Int) {u : Int} (hu : u ≠ t) : (s.step t).2.2.next u = s.next u := by
  rcases s.step_cases t with ⟨i, hi, hm, e⟩ | ⟨e, _, e'⟩
  · rw [e]; exact h.next_do hi hm hu
  · rw [e']

/-- A variable behind a step. -/
theorem St.Ok.var_do {F : Nat} {s : St} (h : s.Ok F) {t : Int} {i : Ins} (hi : s.ins t = some i) (x : Int) : (s.do_ t i).var x = if i.kind = 2 ∧ x.toNat = i.x.toNat then s.reg t i else s.var x := by
  obtain ⟨o1, o2, o3, o4, o5, o6⟩ := h.obj hi
  have hvl := h.vl
  have e0 : (s.do_ t i).var x = (if i.kind = 2 then s.v.set i.x.toNat (s.reg t i) else s.v).getD x.toNat 0 := rfl
  rw [e0]
  by_cases h2 : i.kind = 2
  · have := o1 (.inr h2)
    rw [if_pos h2, getD_set _ _ _ _ _ (by omega)]
    simp only [h2, true_and]
    rfl
  · rw [if_neg h2, if_neg (fun e => h2 e.1)]
    rfl

/-- P2.1: a variable changes by an EWrite of it alone. -/
theorem St.Ok.writes {F : Nat} {s : St} (h : s.Ok F) (t : Int) (x : Int) (hx : 0 ≤ x) (hne : (s.step t).2.2.var x ≠ s.var x) : (s.step t).1 = 0 ∧ (s.step t).2.1.kind = 3 ∧ (s.step t).2.1.obj = x := by
  rcases s.step_cases t with ⟨i, hi, hm, e⟩ | ⟨e, _, e'⟩
  · rw [e] at hne ⊢
    dsimp only at hne ⊢
    rw [h.var_do hi] at hne
    split at hne
    · rename_i h2
      have := (h.obj hi).1 (.inr h2.1)
      unfold St.ev
      rw [if_neg (by omega), if_pos h2.1]
      exact ⟨rfl, rfl, by dsimp only; omega⟩
    · exact absurd rfl hne
  · rw [e'] at hne
    exact absurd rfl hne

/-- P2.1, P2.3: who has a mutex behind a step, by the event alone. -/
theorem St.Ok.locks {F : Nat} {s : St} (h : s.Ok F) (t : Int) : 
    ((s.step t).1 ≠ 0 ∧ (s.step t).2.2 = s) ∨ (s.step t).1 = 0 ∧ (((s.step t).2.1.kind = 4 ∧ 0 ≤ (s.step t).2.1.obj ∧ (s.step t).2.1.obj < 2 ∧ s.who (s.step t).2.1.obj = -1 ∧ ∀ x, 0 ≤ x → (s.step t).2.2.who x = if x = (s.step t).2.1.obj then t else s.who x) ∨
      ((s.step t).2.1.kind = 5 ∧ 0 ≤ (s.step t).2.1.obj ∧ (s.step t).2.1.obj < 2 ∧ s.who (s.step t).2.1.obj = t ∧ ∀ x, 0 ≤ x → (s.step t).2.2.who x = if x = (s.step t).2.1.obj then -1 else s.who x) ∨
      ((s.step t).2.1.kind ≠ 4 ∧ (s.step t).2.1.kind ≠ 5 ∧ ∀ x, (s.step t).2.2.who x = s.who x)) := by
  rcases s.step_cases t with ⟨i, hi, hm, e⟩ | ⟨e, he, e'⟩
  · refine .inr ?_
    rw [e]
    dsimp only
    refine ⟨rfl, ?_⟩
    have hw := h.who_do hi
    obtain ⟨o1, o2, o3, o4, o5, o6⟩ := h.obj hi
    have hfree := St.may_free hi hm
    by_cases h5 : i.kind = 5
    · refine .inl ?_
      have ho := o2 (.inl h5)
      have ev : s.ev t i = ⟨t, 4, i.x, false⟩ := by unfold St.ev; rw [if_neg (by omega), if_neg (by omega), if_pos h5]
      rw [ev]
      dsimp only
      have hf := hfree h5
      have hk : i.x.toNat < s.m.length := by have := h.ml; omega
      have hmm := h.mm (s.who i.x) (by unfold St.who; rw [getD_lt _ hk]; exact List.getElem_mem hk)
      refine ⟨rfl, ho.1, ho.2, by omega, fun x hx => ?_⟩
      rw [hw]
      by_cases hxx : x = i.x
      · rw [if_pos ⟨h5, by rw [hxx]⟩, if_pos hxx]
      · rw [if_neg (fun e => hxx (by omega)), if_neg (fun e => by omega), if_neg hxx]
    · by_cases h6 : i.kind = 6 ∧ s.who i.x = t
      · refine .inr (.inl ?_)
        have ho := o2 (.inr h6.1)
        have ev : s.ev t i = ⟨t, 5, i.x, false⟩ := by unfold St.ev; rw [if_neg (by omega), if_neg (by omega), if_neg (by omega), if_pos h6.1, if_pos h6.2]
        rw [ev]
        dsimp only
        refine ⟨rfl, ho.1, ho.2, h6.2, fun x hx => ?_⟩
        rw [hw, if_neg (fun e => h5 e.1)]
        by_cases hxx : x = i.x
        · rw [if_pos ⟨h6.1, h6.2, by rw [hxx]⟩, if_pos hxx]
        · rw [if_neg (fun e => hxx (by omega)), if_neg hxx]
      · refine .inr (.inr ?_)
        have hk : (s.ev t i).kind ≠ 4 ∧ (s.ev t i).kind ≠ 5 := by
          unfold St.ev
          repeat' split
          all_goals first | (simp; done) | omega | (rename_i a b; exact absurd ⟨a, b⟩ h6)
        exact ⟨hk.1, hk.2, fun x => by rw [hw, if_neg (fun e => h5 e.1), if_neg (fun e => h6 ⟨e.1, e.2.1⟩)]⟩
  · rw [e']
    exact .inl ⟨by dsimp only; omega, rfl⟩

/-- All fuel that is left. -/
def St.fuel (s : St) : Nat := (s.ts.map Thr.fuel).sum

theorem St.fuel_do {s : St} {t : Int} {i : Ins} (hi : s.ins t = some i) : (s.do_ t i).fuel + 1 = s.fuel := by
  obtain ⟨ht, hf, _⟩ := St.ins_has hi
  have htn : t.toNat < s.ts.length := by unfold St.has at ht; omega
  have e1 : (s.do_ t i).fuel = ((s.ts.map Thr.fuel).set t.toNat ((s.th t.toNat).fuel - 1)).sum := by
    unfold St.fuel St.do_ St.thr
    dsimp only
    rw [List.map_set]
  have e2 := sum_set (s.ts.map Thr.fuel) t.toNat ((s.th t.toNat).fuel - 1) (by simpa using htn)
  have e3 : (s.ts.map Thr.fuel)[t.toNat]'(by simpa using htn) = (s.th t.toNat).fuel := by
    unfold St.th; rw [getD_lt _ htn]; simp
  rw [e3] at e2
  rw [e1]
  unfold St.fuel
  omega

/-- The same state but for fuel: d more a thread. -/
def St.More (d : Nat) (s s' : St) : Prop := s' = { s with ts := s.ts.map fun x => { x with fuel := x.fuel + d } }

theorem St.More.step {d : Nat} {s s' : St} (h : s.More d s') {t : Int} (h0 : (s.step t).1 = 0) : (s'.step t).1 = 0 ∧ (s'.step t).2.1 = (s.step t).2.1 ∧ (s.step t).2.2.More d (s'.step t).2.2 := by
  rcases s.step_cases t with ⟨i, hi, hm, e⟩ | ⟨e, he, e'⟩
  · obtain ⟨ht, hf, hc⟩ := St.ins_has hi
    have htn : t.toNat < s.ts.length := by unfold St.has at ht; omega
    have hth : s'.th t.toNat = { s.th t.toNat with fuel := (s.th t.toNat).fuel + d } := by
      unfold St.th
      rw [h, getD_lt _ htn, getD_lt _ (by simpa using htn)]
      simp
    have hp : s'.p = s.p := by rw [h]
    have hv : s'.v = s.v := by rw [h]
    have hmm : s'.m = s.m := by rw [h]
    have hh : s'.has t := by unfold St.has at ht ⊢; rw [h]; simpa using ht
    have hins : s'.ins t = some i := by
      unfold St.ins
      rw [if_pos ⟨hh, by rw [hth]; dsimp only; omega⟩, hth]
      unfold St.code at hc ⊢
      rw [hp]
      exact hc
    have hwho : ∀ x, s'.who x = s.who x := fun x => by unfold St.who; rw [hmm]
    have hvar : ∀ x, s'.var x = s.var x := fun x => by unfold St.var; rw [hv]
    have hreg : s'.reg t i = s.reg t i := by unfold St.reg; rw [hth]
    have hmay : s'.may t = true := by
      unfold St.may at hm ⊢
      rw [hi] at hm
      rw [hins]
      simpa [hwho] using hm
    have hev : s'.ev t i = s.ev t i := by unfold St.ev; simp only [hwho, hreg]
    have hst : s'.step t = (0, s'.ev t i, s'.do_ t i) := by
      unfold St.step
      rw [if_pos hh, hins]
      simp only [hmay, if_true]
    rw [hst, e]
    refine ⟨rfl, hev, ?_⟩
    have hthr : s'.thr t i = { s.thr t i with fuel := (s.thr t i).fuel + d } := by
      unfold St.thr
      simp only [hth, hreg, hvar]
      congr 1
      omega
    unfold St.More St.do_
    dsimp only
    rw [hthr]
    simp only [hwho, hreg, hp, hv, hmm, List.map_set]
    rw [h]
  · rw [e'] at h0
    dsimp only at h0
    omega

theorem new_more (p : Pg) (f d : Nat) : (St.new p f).More d (St.new p (f + d)) := by
  simp [St.More, St.new]

end Go.Proofs.Ytopklnehhebhmaa

/-
  Plain data and plain functions for layer 3: which events depend on one another, which may be, their bytes. Nothing of the translation.
-/
namespace Go.Proofs.Ytopklnehhebhmaa

def memE (e : Ev) : Bool := decide (e.kind = 2 ∨ e.kind = 3)
def mutE (e : Ev) : Bool := decide (e.kind = 4 ∨ e.kind = 5)

/-- Do two events depend on one another? -/
def dep (a b : Ev) : Bool :=
  decide (a.thread = b.thread ∨ (a.obj = b.obj ∧ (((a.kind = 2 ∨ a.kind = 3) ∧ (b.kind = 2 ∨ b.kind = 3) ∧ (a.kind = 3 ∨ b.kind = 3)) ∨ ((a.kind = 4 ∨ a.kind = 5) ∧ (b.kind = 4 ∨ b.kind = 5)))))

theorem dep_symm (a b : Ev) : dep a b = dep b a := by
  unfold dep
  rw [decide_eq_decide]
  omega

/-- May an event be? -/
def rightEv (e : Ev) : Bool :=
  decide (0 ≤ e.thread ∧ e.thread ≤ 3 ∧ ((e.kind = 1 ∧ e.obj = 0) ∨ ((e.kind = 2 ∨ e.kind = 3) ∧ 0 ≤ e.obj ∧ e.obj ≤ 3 ∧ e.fail = false) ∨ ((e.kind = 4 ∨ e.kind = 5) ∧ 0 ≤ e.obj ∧ e.obj ≤ 1 ∧ e.fail = false)))

/-- An event's byte. -/
def evB (e : Ev) : Int := e.thread + 4 * e.kind + 32 * e.obj + if e.fail then 128 else 0

/-- The event of a byte, whether it may be or not. -/
def evOf (n : Int) : Ev := ⟨n % 4, n / 4 % 8, n / 32 % 4, decide (128 ≤ n)⟩

theorem rightEv_bd {e : Ev} (h : rightEv e = true) : 0 ≤ e.thread ∧ e.thread ≤ 3 ∧ 1 ≤ e.kind ∧ e.kind ≤ 5 ∧ 0 ≤ e.obj ∧ e.obj ≤ 3 := by
  unfold rightEv at h
  rw [decide_eq_true_eq] at h
  omega

theorem evB_bd {e : Ev} (h : rightEv e = true) : 0 ≤ evB e ∧ evB e < 256 := by
  have := rightEv_bd h
  unfold evB
  split <;> omega

theorem evOf_evB {e : Ev} (h : rightEv e = true) : evOf (evB e) = e := by
  have := rightEv_bd h
  obtain ⟨t, k, o, f⟩ := e
  dsimp only at this
  unfold evOf evB
  cases f
  · simp
    omega
  · simp
    omega

theorem evB_evOf {n : Int} (h0 : 0 ≤ n) (h1 : n < 256) : evB (evOf n) = n := by
  unfold evOf evB
  dsimp only
  by_cases h : 128 ≤ n
  · simp [h]
    omega
  · simp [h]
    omega

theorem evB_inj {a b : Ev} (ha : rightEv a = true) (hb : rightEv b = true) (h : evB a = evB b) : a = b := by
  rw [← evOf_evB ha, ← evOf_evB hb, h]

/-- The bytes of events, or none. -/
def printE (l : List Ev) : List Int := if l.all rightEv then l.map evB else []

theorem map_evB_inj {a b : List Ev} (ha : ∀ e ∈ a, rightEv e = true) (hb : ∀ e ∈ b, rightEv e = true) (h : a.map evB = b.map evB) : a = b := by
  induction a generalizing b with
  | nil => cases b <;> simp_all
  | cons x a ih =>
    cases b with
    | nil => simp at h
    | cons y b =>
      simp only [List.map_cons, List.cons.injEq] at h
      rw [evB_inj (ha x (by simp)) (hb y (by simp)) h.1, ih (fun e he => ha e (by simp [he])) (fun e he => hb e (by simp [he])) h.2]

end Go.Proofs.Ytopklnehhebhmaa

/-
  Plain data for layer 4: which event happens before which, numbers, clocks. Nothing of the translation.
-/
namespace Go.Proofs.Ytopklnehhebhmaa

/-- The event at a place. -/
def evI (l : List Ev) (i : Nat) : Ev := l.getD i ev0

/-- What happens before what, up to a place. -/
def hbT (l : List Ev) : Nat → Nat → Nat → Bool
  | 0, _, _ => false
  | n + 1, j, m => if m < n then hbT l n j m else if m = n then decide (j = n) || (List.range n).any (fun i => dep (evI l i) (evI l n) && hbT l n j i) else false
def hb (l : List Ev) (j k : Nat) : Bool := hbT l (k + 1) j k

theorem hbT_eq (l : List Ev) (n j m : Nat) (h : m < n) : hbT l n j m = hb l j m := by
  induction n with
  | zero => omega
  | succ n ih =>
    by_cases h1 : m < n
    · rw [hbT, if_pos h1, ih h1]
    · obtain rfl : m = n := by omega
      rfl

theorem hb_def (l : List Ev) (j k : Nat) : hb l j k = true ↔ (j = k ∨ ∃ i, i < k ∧ dep (evI l i) (evI l k) = true ∧ hb l j i = true) := by
  unfold hb
  rw [hbT, if_neg (by omega), if_pos rfl, Bool.or_eq_true, decide_eq_true_eq, List.any_eq_true]
  constructor
  · rintro (h | ⟨i, hi, h⟩)
    · exact .inl h
    · rw [List.mem_range] at hi
      rw [Bool.and_eq_true, hbT_eq l k j i hi] at h
      exact .inr ⟨i, hi, h⟩
  · rintro (h | ⟨i, hi, h⟩)
    · exact .inl h
    · refine .inr ⟨i, List.mem_range.2 hi, ?_⟩
      rw [Bool.and_eq_true, hbT_eq l k j i hi]
      exact h

theorem hb_self (l : List Ev) (k : Nat) : hb l k k = true := (hb_def l k k).2 (.inl rfl)
theorem hb_dep {l : List Ev} {i k : Nat} (h : i < k) (hd : dep (evI l i) (evI l k) = true) : hb l i k = true := (hb_def l i k).2 (.inr ⟨i, h, hd, hb_self l i⟩)
theorem hb_le {l : List Ev} {k : Nat} : ∀ {j : Nat}, hb l j k = true → j ≤ k := by
  induction k using Nat.strongRecOn with
  | _ k ih =>
    intro j h
    rcases (hb_def l j k).1 h with rfl | ⟨i, hi, _, h⟩
    · exact Nat.le_refl _
    · have := ih i hi h
      omega
theorem hb_trans {l : List Ev} {k : Nat} : ∀ {i j : Nat}, hb l i j = true → hb l j k = true → hb l i k = true := by
  induction k using Nat.strongRecOn with
  | _ k ih =>
    intro i j h1 h2
    rcases (hb_def l j k).1 h2 with rfl | ⟨m, hm, hd, h3⟩
    · exact h1
    · exact (hb_def l i k).2 (.inr ⟨m, hm, hd, ih m hm h1 h3⟩)
theorem dep_thread {a b : Ev} (h : a.thread = b.thread) : dep a b = true := by unfold dep; simp [h]
/-- Of one thread: in order. -/
theorem hb_thread {l : List Ev} {i k : Nat} (h : i ≤ k) (ht : (evI l i).thread = (evI l k).thread) : hb l i k = true := by
  rcases Nat.lt_or_eq_of_le h with h | rfl
  · exact hb_dep h (dep_thread ht)
  · exact hb_self l i

theorem evI_append {l m : List Ev} {i : Nat} (h : i < l.length) : evI (l ++ m) i = evI l i := by
  unfold evI
  simp only [List.getD]
  rw [List.getElem?_append_left h]
theorem evI_get {l : List Ev} {i : Nat} (h : i < l.length) : evI l i = l[i] := getD_lt _ h
theorem evI_mem {l : List Ev} {i : Nat} (h : i < l.length) : evI l i ∈ l := by rw [evI_get h]; exact List.getElem_mem h
/-- A beginning has its own order. -/
theorem hb_append {l m : List Ev} {k : Nat} : ∀ {j : Nat}, k < l.length → (hb (l ++ m) j k = true ↔ hb l j k = true) := by
  induction k using Nat.strongRecOn with
  | _ k ih =>
    intro j hk
    rw [hb_def, hb_def]
    constructor
    · rintro (h | ⟨i, hi, hd, h⟩)
      · exact .inl h
      · refine .inr ⟨i, hi, ?_, (ih i hi (by omega)).1 h⟩
        rw [evI_append hk, evI_append (by omega)] at hd
        exact hd
    · rintro (h | ⟨i, hi, hd, h⟩)
      · exact .inl h
      · refine .inr ⟨i, hi, ?_, (ih i hi (by omega)).2 h⟩
        rw [evI_append hk, evI_append (by omega)]
        exact hd
theorem hb_append_eq {l m : List Ev} {k : Nat} (j : Nat) (hk : k < l.length) : hb (l ++ m) j k = hb l j k := by
  rw [Bool.eq_iff_iff]
  exact hb_append hk

/-- How many of the first n places have q. -/
def cnt (q : Nat → Bool) (n : Nat) : Nat := ((List.range n).filter q).length
theorem cnt_zero (q : Nat → Bool) : cnt q 0 = 0 := rfl
theorem cnt_succ (q : Nat → Bool) (n : Nat) : cnt q (n + 1) = cnt q n + if q n = true then 1 else 0 := by
  unfold cnt
  rw [List.range_succ, List.filter_append, List.length_append]
  congr 1
  cases h : q n <;> simp [h]
theorem cnt_le {q r : Nat → Bool} (n : Nat) (h : ∀ i, i < n → q i = true → r i = true) : cnt q n ≤ cnt r n := by
  induction n with
  | zero => exact Nat.le_refl _
  | succ n ih =>
    have := ih (fun i hi => h i (by omega))
    rw [cnt_succ, cnt_succ]
    by_cases hq : q n = true
    · rw [if_pos hq, if_pos (h n (by omega) hq)]
      omega
    · rw [if_neg hq]
      omega
theorem cnt_congr {q r : Nat → Bool} (n : Nat) (h : ∀ i, i < n → q i = r i) : cnt q n = cnt r n :=
  Nat.le_antisymm (cnt_le n fun i hi hq => by rw [← h i hi]; exact hq) (cnt_le n fun i hi hq => by rw [h i hi]; exact hq)
theorem cnt_mono (q : Nat → Bool) {m n : Nat} (h : m ≤ n) : cnt q m ≤ cnt q n := by
  induction n with
  | zero =>
    obtain rfl : m = 0 := by omega
    exact Nat.le_refl _
  | succ n ih =>
    rcases Nat.lt_or_eq_of_le h with h | rfl
    · have := ih (by omega)
      rw [cnt_succ]
      omega
    · exact Nat.le_refl _
theorem cnt_lt (q : Nat → Bool) {m n : Nat} (h : m < n) (hq : q m = true) : cnt q m < cnt q n := by
  have h1 := cnt_mono q (show m + 1 ≤ n by omega)
  rw [cnt_succ, if_pos hq] at h1
  omega
/-- A set that is a beginning of another one. -/
theorem cnt_begin {q r : Nat → Bool} {n : Nat} (h1 : ∀ i, i < n → q i = true → r i = true) (h2 : ∀ i j, i < j → j < n → r i = true → q j = true → q i = true) {i : Nat} (hi : i < n) (hr : r i = true) : q i = true ↔ cnt r (i + 1) ≤ cnt q n := by
  constructor
  · intro hq
    have e : cnt r (i + 1) = cnt q (i + 1) := cnt_congr _ fun j hj => by
      by_cases hji : j = i
      · rw [hji, hq, hr]
      · rw [Bool.eq_iff_iff]
        exact ⟨fun hrj => h2 j i (by omega) hi hrj hq, fun hqj => h1 j (by omega) hqj⟩
    rw [e]
    exact cnt_mono q (by omega)
  · intro hle
    cases hq : q i
    · exfalso
      have e : cnt q n ≤ cnt r i := by
        have hno : ∀ j, i ≤ j → j < n → q j = false := by
          intro j hj hjn
          cases hqj : q j
          · rfl
          · rcases Nat.lt_or_eq_of_le hj with hj | rfl
            · rw [h2 i j hj hjn hr hqj] at hq; cases hq
            · rw [hqj] at hq; cases hq
        have e1 : ∀ m, i ≤ m → m ≤ n → cnt q m = cnt q i := by
          intro m
          induction m with
          | zero =>
            intro him _
            obtain rfl : i = 0 := by omega
            rfl
          | succ m ih =>
            intro him hmn
            rcases Nat.lt_or_eq_of_le him with him | him
            · rw [cnt_succ, hno m (by omega) (by omega), ih (by omega) (by omega)]
              rfl
            · rw [← him]
        rw [e1 n (by omega) (Nat.le_refl _)]
        exact cnt_le i fun j hj => h1 j (by omega)
      rw [cnt_succ, if_pos hr] at hle
      omega
    · rfl

/-- Which number of its thread's events an event is. -/
def isT (l : List Ev) (t : Int) (i : Nat) : Bool := decide ((evI l i).thread = t)
def num (l : List Ev) (i : Nat) : Nat := cnt (isT l (evI l i).thread) (i + 1)
/-- A clock. -/
def clk (l : List Ev) (k : Nat) (t : Int) : Nat := cnt (fun i => hb l i k && isT l t i) (k + 1)

/-- P4.3. -/
theorem hb_iff_num {l : List Ev} {i k : Nat} : hb l i k = true ↔ num l i ≤ clk l k (evI l i).thread := by
  by_cases hik : i ≤ k
  · have h := cnt_begin (q := fun j => hb l j k && isT l (evI l i).thread j) (r := isT l (evI l i).thread) (n := k + 1)
      (fun j _ hq => by rw [Bool.and_eq_true] at hq; exact hq.2)
      (fun j m hjm hm hr hq => by
        rw [Bool.and_eq_true] at hq ⊢
        refine ⟨hb_trans (hb_thread (by omega) ?_) hq.1, hr⟩
        unfold isT at hr hq
        rw [decide_eq_true_eq] at hr hq
        rw [hr, hq.2])
      (i := i) (by omega) (by simp [isT])
    rw [Bool.and_eq_true] at h
    unfold num clk
    rw [← h]
    simp [isT]
  · constructor
    · intro h; exact absurd (hb_le h) hik
    · intro h
      exfalso
      unfold num clk at h
      have h1 : cnt (fun j => hb l j k && isT l (evI l i).thread j) (k + 1) ≤ cnt (isT l (evI l i).thread) (k + 1) := cnt_le _ fun j _ hq => by rw [Bool.and_eq_true] at hq; exact hq.2
      have h3 := cnt_mono (isT l (evI l i).thread) (show k + 1 ≤ i by omega)
      have h4 : cnt (isT l (evI l i).thread) (i + 1) = cnt (isT l (evI l i).thread) i + 1 := by rw [cnt_succ, if_pos (by simp [isT])]
      omega

/-- An event's clock tells its own number of its thread. -/
theorem clk_own (l : List Ev) (k : Nat) : clk l k (evI l k).thread = num l k := by
  unfold clk num
  refine cnt_congr _ fun i hi => ?_
  rw [Bool.eq_iff_iff, Bool.and_eq_true]
  refine ⟨fun h => h.2, fun h => ⟨hb_thread (by omega) ?_, h⟩⟩
  unfold isT at h
  rw [decide_eq_true_eq] at h
  exact h

theorem clk_le_cnt (l : List Ev) (k : Nat) (t : Int) : clk l k t ≤ cnt (isT l t) (k + 1) := cnt_le _ fun j _ hq => by rw [Bool.and_eq_true] at hq; exact hq.2

theorem clk_mono {l : List Ev} {i k : Nat} (h : hb l i k = true) (t : Int) : clk l i t ≤ clk l k t := by
  have hik := hb_le h
  unfold clk
  refine Nat.le_trans (cnt_le (r := fun j => hb l j k && isT l t j) (i + 1) fun j _ hq => ?_) (cnt_mono _ (by omega))
  rw [Bool.and_eq_true] at hq ⊢
  exact ⟨hb_trans hq.1 h, hq.2⟩

theorem num_append {l m : List Ev} {i : Nat} (h : i < l.length) : num (l ++ m) i = num l i := by
  unfold num
  rw [evI_append h]
  refine cnt_congr _ fun j hj => ?_
  unfold isT
  rw [evI_append (by omega)]
theorem clk_append {l m : List Ev} {k : Nat} (h : k < l.length) (t : Int) : clk (l ++ m) k t = clk l k t := by
  unfold clk
  refine cnt_congr _ fun j hj => ?_
  unfold isT
  rw [evI_append (by omega), hb_append_eq j h]

/-- The greatest of the clocks of those ahead that an event depends on. -/
def top (f : Nat → Nat) (q : Nat → Bool) : Nat → Nat
  | 0 => 0
  | n + 1 => if q n = true then max (top f q n) (f n) else top f q n
theorem top_ge {f : Nat → Nat} {q : Nat → Bool} {n i : Nat} (hi : i < n) (hq : q i = true) : f i ≤ top f q n := by
  induction n with
  | zero => omega
  | succ n ih =>
    unfold top
    by_cases hin : i = n
    · subst hin
      rw [if_pos hq]
      exact Nat.le_max_right _ _
    · have := ih (by omega)
      split <;> omega
theorem top_le {f : Nat → Nat} {q : Nat → Bool} {n b : Nat} (h : ∀ i, i < n → q i = true → f i ≤ b) : top f q n ≤ b := by
  induction n with
  | zero => exact Nat.zero_le _
  | succ n ih =>
    have h1 := ih (fun i hi => h i (by omega))
    unfold top
    split
    · rename_i hq
      have := h n (by omega) hq
      omega
    · exact h1
theorem top_zero_or {f : Nat → Nat} {q : Nat → Bool} {n : Nat} : top f q n = 0 ∨ ∃ i, i < n ∧ q i = true ∧ top f q n = f i := by
  induction n with
  | zero => exact .inl rfl
  | succ n ih =>
    unfold top
    split
    · rename_i hq
      rcases Nat.le_total (top f q n) (f n) with h | h
      · exact .inr ⟨n, by omega, hq, by omega⟩
      · rcases ih with h0 | ⟨i, hi, hqi, e⟩
        · exact .inr ⟨n, by omega, hq, by omega⟩
        · exact .inr ⟨i, by omega, hqi, by omega⟩
    · rcases ih with h0 | ⟨i, hi, hqi, e⟩
      · exact .inl h0
      · exact .inr ⟨i, by omega, hqi, e⟩

/-- A clock, by those ahead. -/
theorem clk_top (l : List Ev) (k : Nat) (t : Int) : clk l k t = top (fun i => clk l i t) (fun i => dep (evI l i) (evI l k)) k + if (evI l k).thread = t then 1 else 0 := by
  by_cases ht : (evI l k).thread = t
  · subst ht
    rw [if_pos rfl, clk_own]
    have e : num l k = cnt (isT l (evI l k).thread) k + 1 := by unfold num; rw [cnt_succ, if_pos (by simp [isT])]
    rw [e]
    congr 1
    apply Nat.le_antisymm
    · -- the last one of the thread ahead
      by_cases h0 : cnt (isT l (evI l k).thread) k = 0
      · omega
      · have hex : ∀ n, n ≤ k → cnt (isT l (evI l k).thread) n ≠ 0 → ∃ i, i < n ∧ isT l (evI l k).thread i = true ∧ cnt (isT l (evI l k).thread) (i + 1) = cnt (isT l (evI l k).thread) n := by
          intro n
          induction n with
          | zero => intro _ h; exact absurd (cnt_zero _) h
          | succ n ih =>
            intro hn h
            cases hq : isT l (evI l k).thread n
            · rw [cnt_succ, hq] at h ⊢
              simp only [Bool.false_eq_true, if_false, Nat.add_zero] at h ⊢
              obtain ⟨i, hi, h1, h2⟩ := ih (by omega) h
              exact ⟨i, by omega, h1, h2⟩
            · exact ⟨n, by omega, hq, rfl⟩
        obtain ⟨i, hi, h1, h2⟩ := hex k (Nat.le_refl _) h0
        rw [← h2]
        have ht : (evI l i).thread = (evI l k).thread := by unfold isT at h1; rw [decide_eq_true_eq] at h1; exact h1
        have h3 := top_ge (f := fun i => clk l i (evI l k).thread) (q := fun i => dep (evI l i) (evI l k)) hi (dep_thread ht)
        have h4 := clk_own l i
        unfold num at h4
        rw [ht] at h4
        omega
    · refine top_le fun i hi _ => Nat.le_trans (clk_le_cnt l i _) (cnt_mono _ (by omega))
  · rw [if_neg ht, Nat.add_zero]
    apply Nat.le_antisymm
    · -- the last one that happens before
      have e : clk l k t = cnt (fun i => hb l i k && isT l t i) k := by
        unfold clk
        rw [cnt_succ, if_neg (by simp [isT, ht])]
        rfl
      rw [e]
      have hex : ∀ n, n ≤ k → cnt (fun i => hb l i k && isT l t i) n ≤ top (fun i => clk l i t) (fun i => dep (evI l i) (evI l k)) k := by
        intro n
        induction n with
        | zero => intro _; exact Nat.zero_le _
        | succ n ih =>
          intro hn
          rw [cnt_succ]
          by_cases hq : (hb l n k && isT l t n) = true
          · rw [if_pos hq]
            rw [Bool.and_eq_true] at hq
            have htn : (evI l n).thread = t := by have := hq.2; unfold isT at this; rw [decide_eq_true_eq] at this; exact this
            rcases (hb_def l n k).1 hq.1 with h | ⟨i, hi, hd, h⟩
            · omega
            · refine Nat.le_trans ?_ (top_ge (f := fun i => clk l i t) (q := fun i => dep (evI l i) (evI l k)) hi hd)
              have h1 := hb_iff_num.1 h
              rw [htn] at h1
              refine Nat.le_trans ?_ h1
              unfold num
              rw [htn, cnt_succ, if_pos hq.2]
              have := cnt_le (q := fun i => hb l i k && isT l t i) (r := isT l t) n fun j _ hq => by rw [Bool.and_eq_true] at hq; exact hq.2
              omega
          · rw [if_neg hq, Nat.add_zero]
            exact ih (by omega)
      exact hex k (Nat.le_refl _)
    · exact top_le fun i hi hd => clk_mono (hb_dep hi hd) t

end Go.Proofs.Ytopklnehhebhmaa

/-
  Plain data for layer 4: rows that are the same, but for an order that doesn't matter. Nothing of the translation.
-/
namespace Go.Proofs.Ytopklnehhebhmaa

/-- The events of a row with their clocks, and those of one thread. -/
def prs (l : List Ev) : List (Ev × (Int → Nat)) := (List.range l.length).map fun k => (evI l k, clk l k)
def psi (l : List Ev) (t : Int) : List (Ev × (Int → Nat)) := (prs l).filter fun p => decide (p.1.thread = t)
/-- Each thread has the same events, with the same clocks. -/
def Sim (a b : List Ev) : Prop := ∀ t, psi a t = psi b t

theorem Sim.refl (a : List Ev) : Sim a a := fun _ => rfl
theorem Sim.symm {a b : List Ev} (h : Sim a b) : Sim b a := fun t => (h t).symm
theorem Sim.trans {a b c : List Ev} (h : Sim a b) (k : Sim b c) : Sim a c := fun t => (h t).trans (k t)

/-- The clock of an event behind those that are there. -/
def topL (ps : List (Ev × (Int → Nat))) (t : Int) : Nat := ps.foldr (fun p m => max (p.2 t) m) 0
def nxt (ps : List (Ev × (Int → Nat))) (e : Ev) : Int → Nat := fun t => topL (ps.filter fun p => dep p.1 e) t + if e.thread = t then 1 else 0

theorem topL_le {ps : List (Ev × (Int → Nat))} {t : Int} {b : Nat} : topL ps t ≤ b ↔ ∀ p ∈ ps, p.2 t ≤ b := by
  induction ps with
  | nil => simp [topL]
  | cons p ps ih =>
    have e : topL (p :: ps) t = max (p.2 t) (topL ps t) := rfl
    rw [e, Nat.max_le, ih]
    simp
theorem topL_append (ps qs : List (Ev × (Int → Nat))) (t : Int) : topL (ps ++ qs) t = max (topL ps t) (topL qs t) := by
  induction ps with
  | nil => simp [topL]
  | cons p ps ih =>
    have e : topL (p :: ps ++ qs) t = max (p.2 t) (topL (ps ++ qs) t) := rfl
    have e2 : topL (p :: ps) t = max (p.2 t) (topL ps t) := rfl
    rw [e, ih, e2, Nat.max_assoc]
theorem topL_mem {ps qs : List (Ev × (Int → Nat))} (h : ∀ p, p ∈ ps ↔ p ∈ qs) (t : Int) : topL ps t = topL qs t :=
  Nat.le_antisymm (topL_le.2 fun p hp => topL_le.1 (Nat.le_refl _) p ((h p).1 hp)) (topL_le.2 fun p hp => topL_le.1 (Nat.le_refl _) p ((h p).2 hp))
theorem nxt_mem {ps qs : List (Ev × (Int → Nat))} (h : ∀ p, p ∈ ps ↔ p ∈ qs) (e : Ev) : nxt ps e = nxt qs e := by
  funext t
  unfold nxt
  rw [topL_mem (qs := qs.filter fun p => dep p.1 e) (fun p => by rw [List.mem_filter, List.mem_filter, h])]

theorem top_succ (f : Nat → Nat) (q : Nat → Bool) (n : Nat) : top f q (n + 1) = if q n = true then max (top f q n) (f n) else top f q n := rfl
theorem top_topL (l : List Ev) (e : Ev) (t : Int) (n : Nat) : top (fun i => clk l i t) (fun i => dep (evI l i) e) n = topL (((List.range n).map fun k => (evI l k, clk l k)).filter fun p => dep p.1 e) t := by
  induction n with
  | zero => rfl
  | succ n ih =>
    rw [List.range_succ, List.map_append, List.filter_append, topL_append, ← ih, top_succ]
    by_cases h : dep (evI l n) e = true
    · rw [if_pos h]
      simp [h, topL]
    · rw [if_neg h]
      simp [h, topL]

theorem prs_snoc (l : List Ev) (e : Ev) : prs (l ++ [e]) = prs l ++ [(e, nxt (prs l) e)] := by
  unfold prs
  rw [List.length_append, List.length_singleton, List.range_succ, List.map_append]
  have h1 : (List.range l.length).map (fun k => (evI (l ++ [e]) k, clk (l ++ [e]) k)) = (List.range l.length).map fun k => (evI l k, clk l k) := by
    apply List.map_congr_left
    intro k hk
    rw [List.mem_range] at hk
    have : clk (l ++ [e]) k = clk l k := funext fun t => clk_append hk t
    rw [this, evI_append hk]
  have h2 : evI (l ++ [e]) l.length = e := by unfold evI; simp [List.getD]
  have h3 : clk (l ++ [e]) l.length = nxt ((List.range l.length).map fun k => (evI l k, clk l k)) e := by
    funext t
    rw [clk_top, h2, top_topL (l ++ [e]) e t, h1]
    rfl
  rw [h1, List.map_singleton, h2, h3]

/-- A row goes on. -/
def grow (ps : List (Ev × (Int → Nat))) : List Ev → List (Ev × (Int → Nat))
  | [] => ps
  | e :: y => grow (ps ++ [(e, nxt ps e)]) y
theorem grow_cons (ps : List (Ev × (Int → Nat))) (e : Ev) (y : List Ev) : grow ps (e :: y) = grow (ps ++ [(e, nxt ps e)]) y := rfl
theorem prs_grow (y : List Ev) : ∀ x : List Ev, prs (x ++ y) = grow (prs x) y := by
  induction y with
  | nil => intro x; rw [List.append_nil]; rfl
  | cons e y ih =>
    intro x
    rw [show x ++ e :: y = (x ++ [e]) ++ y by simp, ih, prs_snoc]
    rfl
theorem grow_same (y : List Ev) : ∀ {ps qs : List (Ev × (Int → Nat))}, (∀ p, p ∈ ps ↔ p ∈ qs) → ∃ z, grow ps y = ps ++ z ∧ grow qs y = qs ++ z := by
  induction y with
  | nil => intro ps qs _; exact ⟨[], by simp [grow], by simp [grow]⟩
  | cons e y ih =>
    intro ps qs h
    have hn := nxt_mem h e
    obtain ⟨z, h1, h2⟩ := ih (ps := ps ++ [(e, nxt ps e)]) (qs := qs ++ [(e, nxt ps e)]) (fun p => by rw [List.mem_append, List.mem_append, h])
    refine ⟨(e, nxt ps e) :: z, ?_, ?_⟩
    · unfold grow
      rw [h1]
      simp
    · unfold grow
      rw [← hn, h2]
      simp

/-- Two neighbours that don't depend on one another swapped: the same. -/
theorem sim_swap {x y : List Ev} {e f : Ev} (hd : dep e f = false) : Sim (x ++ e :: f :: y) (x ++ f :: e :: y) := by
  have hd' : dep f e = false := by rw [dep_symm]; exact hd
  have hne : e.thread ≠ f.thread := by
    intro h
    rw [dep_thread h] at hd
    cases hd
  have n1 : nxt (prs x ++ [(e, nxt (prs x) e)]) f = nxt (prs x) f := by
    funext t
    unfold nxt
    rw [List.filter_append]
    simp [hd]
  have n2 : nxt (prs x ++ [(f, nxt (prs x) f)]) e = nxt (prs x) e := by
    funext t
    unfold nxt
    rw [List.filter_append]
    simp [hd']
  have e1 : prs (x ++ e :: f :: y) = grow (prs x ++ [(e, nxt (prs x) e), (f, nxt (prs x) f)]) y := by
    rw [prs_grow, grow_cons, grow_cons, n1, List.append_assoc]
    rfl
  have e2 : prs (x ++ f :: e :: y) = grow (prs x ++ [(f, nxt (prs x) f), (e, nxt (prs x) e)]) y := by
    rw [prs_grow, grow_cons, grow_cons, n2, List.append_assoc]
    rfl
  obtain ⟨z, h1, h2⟩ := grow_same y (ps := prs x ++ [(e, nxt (prs x) e), (f, nxt (prs x) f)]) (qs := prs x ++ [(f, nxt (prs x) f), (e, nxt (prs x) e)]) (fun p => by simp only [List.mem_append, List.mem_cons, List.not_mem_nil, or_false]; constructor <;> (rintro (h | h | h) <;> simp [h]))
  intro t
  unfold psi
  rw [e1, e2, h1, h2]
  simp only [List.filter_append]
  congr 2
  by_cases he : e.thread = t
  · have hf : f.thread ≠ t := by omega
    simp [he, hf]
  · simp [List.filter_cons, he]

theorem prs_take {x l : List Ev} {a b : Ev} (hlt : x.length + 1 < (x ++ l).length) (hl : ∀ i, i < x.length → evI (x ++ l) i = evI x i) (h0 : evI (x ++ l) x.length = a) (h1 : evI (x ++ l) (x.length + 1) = b) :
    (prs (x ++ l)).take (x.length + 2) = prs x ++ [(a, clk (x ++ l) x.length), (b, clk (x ++ l) (x.length + 1))] := by
  unfold prs
  rw [← List.map_take, List.take_range, show min (x.length + 2) (x ++ l).length = x.length + 1 + 1 by omega, List.range_succ, List.range_succ, List.map_append, List.map_append, List.append_assoc]
  congr 1
  · apply List.map_congr_left
    intro k hk
    rw [List.mem_range] at hk
    have : clk (x ++ l) k = clk x k := funext fun t => clk_append hk t
    rw [this, hl k hk]
  · simp [h0, h1]

/-- Two neighbours of unlike threads that depend on one another swapped: not the same. -/
theorem sim_swap_dep {x y : List Ev} {e f : Ev} (hd : dep e f = true) (hne : e.thread ≠ f.thread) : ¬ Sim (x ++ f :: e :: y) (x ++ e :: f :: y) := by
  intro h
  have hl : ∀ (a b : Ev) (i : Nat), i < x.length → evI (x ++ a :: b :: y) i = evI x i := fun a b i hi => evI_append hi
  have h0 : ∀ (a b : Ev), evI (x ++ a :: b :: y) x.length = a := fun a b => by unfold evI; simp [List.getD]
  have h1 : ∀ (a b : Ev), evI (x ++ a :: b :: y) (x.length + 1) = b := fun a b => by
    unfold evI
    simp only [List.getD]
    rw [List.getElem?_append_right (by omega), show x.length + 1 - x.length = 1 by omega]
    rfl
  have hlt : ∀ (a b : Ev), x.length + 1 < (x ++ a :: b :: y).length := fun a b => by simp
  -- the clock of e, in the one and in the other
  have c1 : clk (x ++ e :: f :: y) x.length f.thread ≤ cnt (isT x f.thread) x.length := by
    refine Nat.le_trans (clk_le_cnt _ _ _) ?_
    rw [cnt_succ, if_neg (by unfold isT; rw [h0]; simpa using hne)]
    exact Nat.le_of_eq (cnt_congr _ fun i hi => by unfold isT; rw [hl _ _ i hi])
  have c2 : cnt (isT x f.thread) x.length + 1 ≤ clk (x ++ f :: e :: y) (x.length + 1) f.thread := by
    have hb1 : hb (x ++ f :: e :: y) x.length (x.length + 1) = true := hb_dep (by omega) (by rw [h0, h1, dep_symm]; exact hd)
    have h2 := hb_iff_num.1 hb1
    rw [h0] at h2
    refine Nat.le_trans ?_ h2
    unfold num
    rw [h0, cnt_succ, if_pos (by unfold isT; rw [h0]; simp)]
    exact Nat.add_le_add_right (Nat.le_of_eq (cnt_congr _ fun i hi => by unfold isT; rw [hl _ _ i hi])) 1
  -- both stand at one place of the thread's events
  have ht := h e.thread
  have hp1 : prs (x ++ f :: e :: y) = prs x ++ ((f, clk (x ++ f :: e :: y) x.length) :: (e, clk (x ++ f :: e :: y) (x.length + 1)) :: (prs (x ++ f :: e :: y)).drop (x.length + 2)) := by
    conv => lhs; rw [← List.take_append_drop (x.length + 2) (prs (x ++ f :: e :: y))]
    rw [show prs x ++ ((f, clk (x ++ f :: e :: y) x.length) :: (e, clk (x ++ f :: e :: y) (x.length + 1)) :: (prs (x ++ f :: e :: y)).drop (x.length + 2)) = (prs x ++ [(f, clk (x ++ f :: e :: y) x.length), (e, clk (x ++ f :: e :: y) (x.length + 1))]) ++ (prs (x ++ f :: e :: y)).drop (x.length + 2) by simp]
    congr 1
    exact prs_take (hlt f e) (hl f e) (h0 f e) (h1 f e)
  have hp2 : prs (x ++ e :: f :: y) = prs x ++ ((e, clk (x ++ e :: f :: y) x.length) :: (f, clk (x ++ e :: f :: y) (x.length + 1)) :: (prs (x ++ e :: f :: y)).drop (x.length + 2)) := by
    conv => lhs; rw [← List.take_append_drop (x.length + 2) (prs (x ++ e :: f :: y))]
    rw [show prs x ++ ((e, clk (x ++ e :: f :: y) x.length) :: (f, clk (x ++ e :: f :: y) (x.length + 1)) :: (prs (x ++ e :: f :: y)).drop (x.length + 2)) = (prs x ++ [(e, clk (x ++ e :: f :: y) x.length), (f, clk (x ++ e :: f :: y) (x.length + 1))]) ++ (prs (x ++ e :: f :: y)).drop (x.length + 2) by simp]
    congr 1
    exact prs_take (hlt e f) (hl e f) (h0 e f) (h1 e f)
  unfold psi at ht
  rw [hp1, hp2, List.filter_append, List.filter_append] at ht
  have ht2 := List.append_cancel_left ht
  simp only [List.filter_cons, decide_eq_true_eq] at ht2
  rw [if_neg (Ne.symm hne)] at ht2
  simp only [if_true] at ht2
  injection ht2 with ht3 _
  injection ht3 with _ ht4
  have := congrFun ht4 f.thread
  omega

end Go.Proofs.Ytopklnehhebhmaa

/-
  Plain data for layer 4: the document's words of rows that are the same, and the clocks'. Nothing of the translation.
-/
namespace Go.Proofs.Ytopklnehhebhmaa

theorem filter_range_get (q : Nat → Bool) {n i : Nat} (hi : i < n) (hq : q i = true) : ((List.range n).filter q)[cnt q i]? = some i := by
  induction n with
  | zero => omega
  | succ n ih =>
    rw [List.range_succ, List.filter_append]
    by_cases h : i < n
    · have h1 := ih h
      rw [List.getElem?_append_left (List.getElem?_eq_some_iff.1 h1).1]
      exact h1
    · obtain rfl : i = n := by omega
      have e : cnt q i = ((List.range i).filter q).length := rfl
      rw [e, List.getElem?_append_right (Nat.le_refl _)]
      simp [hq]
theorem filter_range_inv (q : Nat → Bool) {n i j : Nat} (h : ((List.range n).filter q)[j]? = some i) : i < n ∧ q i = true ∧ cnt q i = j := by
  induction n with
  | zero => simp at h
  | succ n ih =>
    rw [List.range_succ, List.filter_append] at h
    by_cases hj : j < ((List.range n).filter q).length
    · rw [List.getElem?_append_left hj] at h
      obtain ⟨h1, h2, h3⟩ := ih h
      exact ⟨by omega, h2, h3⟩
    · rw [List.getElem?_append_right (by omega)] at h
      cases hq : q n
      · simp [hq] at h
      · have e : [n].filter q = [n] := by simp [hq]
        rw [e] at h
        obtain ⟨h1, h2⟩ := List.getElem?_eq_some_iff.1 h
        simp at h1 h2
        subst h2
        refine ⟨by omega, hq, ?_⟩
        unfold cnt
        omega

theorem psi_eq (l : List Ev) (t : Int) : psi l t = ((List.range l.length).filter (isT l t)).map fun k => (evI l k, clk l k) := by
  unfold psi prs
  rw [List.filter_map]
  rfl
theorem psi_len (l : List Ev) (t : Int) : (psi l t).length = cnt (isT l t) l.length := by rw [psi_eq, List.length_map]; rfl
theorem psi_get {l : List Ev} {t : Int} {i : Nat} (hi : i < l.length) (ht : isT l t i = true) : (psi l t)[cnt (isT l t) i]? = some (evI l i, clk l i) := by
  rw [psi_eq, List.getElem?_map, filter_range_get _ hi ht]
  rfl
theorem psi_inv {l : List Ev} {t : Int} {j : Nat} {p : Ev × (Int → Nat)} (h : (psi l t)[j]? = some p) : ∃ i, i < l.length ∧ isT l t i = true ∧ cnt (isT l t) i = j ∧ p = (evI l i, clk l i) := by
  rw [psi_eq, List.getElem?_map] at h
  obtain ⟨i, h1, h2⟩ := Option.map_eq_some_iff.1 h
  obtain ⟨h3, h4, h5⟩ := filter_range_inv _ h1
  exact ⟨i, h3, h4, h5, h2.symm⟩

/-- The place of a thread's event behind m others. -/
def At (l : List Ev) (t : Int) (m i : Nat) : Prop := i < l.length ∧ isT l t i = true ∧ cnt (isT l t) i = m
theorem At.uniq {l : List Ev} {t : Int} {m i j : Nat} (h : At l t m i) (k : At l t m j) : i = j := by
  rcases Nat.lt_trichotomy i j with hl | he | hl
  · have := cnt_lt _ hl h.2.1
    have := h.2.2
    have := k.2.2
    omega
  · exact he
  · have := cnt_lt _ hl k.2.1
    have := h.2.2
    have := k.2.2
    omega
theorem at_ex {l : List Ev} {t : Int} {m : Nat} (h : m < cnt (isT l t) l.length) : ∃ i, At l t m i := by
  rw [← psi_len] at h
  obtain ⟨i, h1, h2, h3, _⟩ := psi_inv (List.getElem?_eq_getElem h)
  exact ⟨i, h1, h2, h3⟩
theorem At.lt {l : List Ev} {t : Int} {m i : Nat} (h : At l t m i) : m < cnt (isT l t) l.length := by
  have := cnt_lt _ h.1 h.2.1
  rw [h.2.2] at this
  exact this
theorem isT_iff {l : List Ev} {t : Int} {i : Nat} : isT l t i = true ↔ (evI l i).thread = t := by unfold isT; rw [decide_eq_true_eq]
theorem at_self {l : List Ev} {i : Nat} (h : i < l.length) : At l (evI l i).thread (cnt (isT l (evI l i).thread) i) i := ⟨h, isT_iff.2 rfl, rfl⟩
theorem num_eq (l : List Ev) (i : Nat) : num l i = cnt (isT l (evI l i).thread) i + 1 := by unfold num; rw [cnt_succ, if_pos (isT_iff.2 rfl)]

theorem clk_iff {l : List Ev} {i m : Nat} {u : Int} (hi : i < l.length) : m < clk l i u ↔ ∃ k, At l u m k ∧ hb l k i = true := by
  constructor
  · intro h
    have h1 := clk_le_cnt l i u
    have h2 := cnt_mono (isT l u) (show i + 1 ≤ l.length by omega)
    obtain ⟨k, hk⟩ := at_ex (l := l) (t := u) (m := m) (by omega)
    refine ⟨k, hk, hb_iff_num.2 ?_⟩
    have ht := isT_iff.1 hk.2.1
    rw [num_eq, ht, hk.2.2]
    omega
  · rintro ⟨k, hk, hh⟩
    have h1 := hb_iff_num.1 hh
    have ht := isT_iff.1 hk.2.1
    rw [num_eq, ht, hk.2.2] at h1
    omega

/-- P4.2: the same events of each thread, in order, and of each pair of them the one before the other alike. -/
def SameD (a b : List Ev) : Prop := a.length = b.length ∧ ∃ tw : Nat → Nat, (∀ i, i < a.length → At b (evI a i).thread (cnt (isT a (evI a i).thread) i) (tw i) ∧ evI b (tw i) = evI a i) ∧
  ∀ i k, i < a.length → k < a.length → hb a k i = hb b (tw k) (tw i)

/-- All threads are 0 to 3. -/
def In4 (l : List Ev) : Prop := ∀ e ∈ l, 0 ≤ e.thread ∧ e.thread ≤ 3
theorem len_sum {l : List Ev} (h : In4 l) (n : Nat) (hn : n ≤ l.length) : n = cnt (isT l 0) n + cnt (isT l 1) n + cnt (isT l 2) n + cnt (isT l 3) n := by
  induction n with
  | zero => rfl
  | succ n ih =>
    have h1 := ih (by omega)
    have h2 := h _ (evI_mem (l := l) (i := n) (by omega))
    simp only [cnt_succ, isT_iff]
    rcases (by omega : (evI l n).thread = 0 ∨ (evI l n).thread = 1 ∨ (evI l n).thread = 2 ∨ (evI l n).thread = 3) with e | e | e | e <;> simp [e] <;> omega
theorem cnt_none {l : List Ev} (h : In4 l) {t : Int} (ht : ¬ (0 ≤ t ∧ t ≤ 3)) : cnt (isT l t) l.length = 0 := by
  have : ∀ n, n ≤ l.length → cnt (isT l t) n = 0 := by
    intro n
    induction n with
    | zero => intro _; rfl
    | succ n ih =>
      intro hn
      have h2 := h _ (evI_mem (l := l) (i := n) (by omega))
      rw [cnt_succ, ih (by omega), if_neg]
      rw [isT_iff]
      intro e
      exact ht (by omega)
  exact this _ (Nat.le_refl _)

theorem Sim.cnt {a b : List Ev} (h : Sim a b) (t : Int) : cnt (isT a t) a.length = cnt (isT b t) b.length := by rw [← psi_len, ← psi_len, h t]
theorem Sim.len {a b : List Ev} (h : Sim a b) (ha : In4 a) (hb : In4 b) : a.length = b.length := by
  have h1 := len_sum ha a.length (Nat.le_refl _)
  have h2 := len_sum hb b.length (Nat.le_refl _)
  have := h.cnt 0
  have := h.cnt 1
  have := h.cnt 2
  have := h.cnt 3
  omega
/-- Where an event of the one stands in the other. -/
theorem Sim.at {a b : List Ev} (h : Sim a b) {i : Nat} (hi : i < a.length) : ∃ k, At b (evI a i).thread (Proofs.Ytopklnehhebhmaa.cnt (isT a (evI a i).thread) i) k ∧ evI b k = evI a i ∧ clk b k = clk a i := by
  have h1 := psi_get hi (isT_iff.2 rfl)
  rw [h] at h1
  obtain ⟨k, h2, h3, h4, h5⟩ := psi_inv h1
  injection h5 with h5 h6
  exact ⟨k, ⟨h2, h3, h4⟩, h5.symm, h6.symm⟩

theorem sameD_of_sim {a b : List Ev} (h : Sim a b) (ha : In4 a) (hb4 : In4 b) : SameD a b := by
  refine ⟨h.len ha hb4, ?_⟩
  have hx : ∀ i, ∃ k, i < a.length → At b (evI a i).thread (cnt (isT a (evI a i).thread) i) k ∧ evI b k = evI a i ∧ clk b k = clk a i := fun i => by
    by_cases hi : i < a.length
    · obtain ⟨k, hk⟩ := h.at hi
      exact ⟨k, fun _ => hk⟩
    · exact ⟨0, fun hi' => absurd hi' hi⟩
  obtain ⟨tw, hto⟩ := Classical.skolem.1 hx
  refine ⟨tw, fun i hi => ⟨(hto i hi).1, (hto i hi).2.1⟩, fun i k hi hk => ?_⟩
  have h1 := hto i hi
  have h2 := hto k hk
  rw [Bool.eq_iff_iff, hb_iff_num, hb_iff_num, h1.2.2, num_eq, num_eq, h2.2.1, h2.1.2.2]

theorem sim_of_sameD {a b : List Ev} (h : SameD a b) (ha : In4 a) (hb4 : In4 b) : Sim a b := by
  obtain ⟨hl, tw, h1, h2⟩ := h
  -- no thread has more events in the one than in the other
  have hle : ∀ t, cnt (isT a t) a.length ≤ cnt (isT b t) b.length := by
    intro t
    apply Classical.byContradiction
    intro hn
    obtain ⟨i, hi⟩ := at_ex (l := a) (t := t) (m := cnt (isT b t) b.length) (by omega)
    have h3 := (h1 i hi.1).1
    have ht := isT_iff.1 hi.2.1
    rw [ht, hi.2.2] at h3
    have := h3.lt
    omega
  have heq : ∀ t, cnt (isT a t) a.length = cnt (isT b t) b.length := by
    intro t
    by_cases ht : 0 ≤ t ∧ t ≤ 3
    · have s1 := len_sum ha a.length (Nat.le_refl _)
      have s2 := len_sum hb4 b.length (Nat.le_refl _)
      have l0 := hle 0
      have l1 := hle 1
      have l2 := hle 2
      have l3 := hle 3
      rcases (by omega : t = 0 ∨ t = 1 ∨ t = 2 ∨ t = 3) with rfl | rfl | rfl | rfl <;> omega
    · rw [cnt_none ha ht, cnt_none hb4 ht]
  have hclk : ∀ i, i < a.length → clk b (tw i) = clk a i := by
    intro i hi
    funext u
    obtain ⟨g1, g2⟩ := h1 i hi
    have key : ∀ m, m < clk a i u ↔ m < clk b (tw i) u := by
      intro m
      rw [clk_iff hi, clk_iff g1.1]
      constructor
      · rintro ⟨k, hk, hh⟩
        have h3 := (h1 k hk.1).1
        have ht := isT_iff.1 hk.2.1
        rw [ht, hk.2.2] at h3
        exact ⟨tw k, h3, by rw [← h2 i k hi hk.1]; exact hh⟩
      · rintro ⟨k', hk', hh⟩
        obtain ⟨k, hk⟩ := at_ex (l := a) (t := u) (m := m) (by rw [heq]; exact hk'.lt)
        have h3 := (h1 k hk.1).1
        have ht := isT_iff.1 hk.2.1
        rw [ht, hk.2.2] at h3
        obtain rfl := h3.uniq hk'
        exact ⟨k, hk, by rw [h2 i k hi hk.1]; exact hh⟩
    apply Nat.le_antisymm
    · apply Nat.le_of_not_lt
      intro hc
      have := (key _).2 hc
      omega
    · apply Nat.le_of_not_lt
      intro hc
      have := (key _).1 hc
      omega
  intro t
  apply List.ext_getElem?
  intro j
  by_cases hj : j < cnt (isT a t) a.length
  · obtain ⟨i, hi⟩ := at_ex hj
    obtain ⟨g1, g2⟩ := h1 i hi.1
    have ht := isT_iff.1 hi.2.1
    rw [ht, hi.2.2] at g1
    have e1 := psi_get hi.1 hi.2.1
    have e2 := psi_get g1.1 g1.2.1
    rw [hi.2.2] at e1
    rw [g1.2.2] at e2
    rw [e1, e2, g2, hclk i hi.1]
  · rw [List.getElem?_eq_none (by rw [psi_len]; omega), List.getElem?_eq_none (by rw [psi_len, ← heq]; omega)]

theorem sameD_iff {a b : List Ev} (ha : In4 a) (hb4 : In4 b) : SameD a b ↔ Sim a b := ⟨fun h => sim_of_sameD h ha hb4, fun h => sameD_of_sim h ha hb4⟩

/-- One event more behind both. -/
theorem psi_snoc (l : List Ev) (e : Ev) (t : Int) : psi (l ++ [e]) t = psi l t ++ if e.thread = t then [(e, nxt (prs l) e)] else [] := by
  unfold psi
  rw [prs_snoc, List.filter_append]
  congr 1
  by_cases h : e.thread = t <;> simp [h]
theorem mem_prs {l : List Ev} {p : Ev × (Int → Nat)} : p ∈ prs l ↔ p ∈ psi l p.1.thread := by
  unfold psi
  rw [List.mem_filter]
  simp
theorem sim_snoc (a b : List Ev) (e : Ev) : Sim (a ++ [e]) (b ++ [e]) ↔ Sim a b := by
  constructor
  · intro h t
    have ht := h t
    rw [psi_snoc, psi_snoc] at ht
    by_cases he : e.thread = t
    · rw [if_pos he, if_pos he] at ht
      exact (List.append_inj' ht rfl).1
    · rw [if_neg he, if_neg he, List.append_nil, List.append_nil] at ht
      exact ht
  · intro h t
    have hn : nxt (prs a) e = nxt (prs b) e := nxt_mem (fun p => by rw [mem_prs, mem_prs, h]) e
    rw [psi_snoc, psi_snoc, h t, hn]

/-- Two places of a row, one behind the other. -/
theorem split_two {l : List Ev} {i : Nat} (h : i + 1 < l.length) : l = l.take i ++ l[i] :: l[i + 1] :: l.drop (i + 2) ∧ (l.set i l[i + 1]).set (i + 1) l[i] = l.take i ++ l[i + 1] :: l[i] :: l.drop (i + 2) := by
  have e1 : l = l.take i ++ l[i] :: l[i + 1] :: l.drop (i + 2) := by
    conv => lhs; rw [← List.take_append_drop i l, List.drop_eq_getElem_cons (show i < l.length by omega), List.drop_eq_getElem_cons h]
  refine ⟨e1, ?_⟩
  have hi : (l.take i).length = i := by simp; omega
  generalize l[i] = x at *
  generalize l[i + 1] = y at *
  generalize l.take i = p at *
  generalize l.drop (i + 2) = q at *
  subst e1
  subst hi
  rw [List.set_append_right _ _ (by omega), List.set_append_right _ _ (by omega)]
  simp

end Go.Proofs.Ytopklnehhebhmaa

/-
  Plain data for layer 5: what swaps of neighbours that don't depend on one another leave as it is, is alike for rows that are the same. Nothing of the translation.
-/
namespace Go.Proofs.Ytopklnehhebhmaa

/-- A thing that is told of rows, whatever neighbours that don't depend on one another are swapped. -/
def Blind {T : Type} (F : List Ev → T) : Prop := ∀ (x y : List Ev) (e f : Ev), dep e f = false → F (x ++ e :: f :: y) = F (x ++ f :: e :: y)

theorem Blind.move {T : Type} {F : List Ev → T} (h : Blind F) (e : Ev) (y : List Ev) : ∀ x : List Ev, (∀ f ∈ y, dep e f = false) → F (x ++ e :: y) = F (x ++ y ++ [e]) := by
  induction y with
  | nil => intro x _; rw [List.append_nil]
  | cons f y ih =>
    intro x hy
    rw [h x y e f (hy f (by simp)), show x ++ f :: e :: y = (x ++ [f]) ++ e :: y by simp, ih (x ++ [f]) (fun g hg => hy g (by simp [hg]))]
    congr 1
    simp
theorem sim_move (e : Ev) (y : List Ev) : ∀ x : List Ev, (∀ f ∈ y, dep e f = false) → Sim (x ++ e :: y) (x ++ y ++ [e]) := by
  induction y with
  | nil => intro x _; rw [List.append_nil]; exact Sim.refl _
  | cons f y ih =>
    intro x hy
    have h1 : Sim (x ++ e :: f :: y) (x ++ f :: e :: y) := sim_swap (hy f (by simp))
    have h2 := ih (x ++ [f]) (fun g hg => hy g (by simp [hg]))
    rw [show (x ++ [f]) ++ e :: y = x ++ f :: e :: y by simp, show x ++ [f] ++ y ++ [e] = x ++ f :: y ++ [e] by simp] at h2
    exact h1.trans h2

theorem mem_prs_inv {l : List Ev} {p : Ev × (Int → Nat)} (h : p ∈ prs l) : ∃ i, i < l.length ∧ p = (evI l i, clk l i) := by
  unfold prs at h
  obtain ⟨i, hi, e⟩ := List.mem_map.1 h
  exact ⟨i, List.mem_range.1 hi, e.symm⟩
theorem prs_mem {l : List Ev} {i : Nat} (h : i < l.length) : (evI l i, clk l i) ∈ prs l := List.mem_map.2 ⟨i, List.mem_range.2 h, rfl⟩
theorem split_at {l : List Ev} {k : Nat} (h : k < l.length) : l = l.take k ++ evI l k :: l.drop (k + 1) := by
  conv => lhs; rw [← List.take_append_drop k l, List.drop_eq_getElem_cons h]
  rw [evI_get h]

/-- The last event of the one row stands in the other one, and nothing behind it depends on it. -/
theorem sim_last {a b : List Ev} {e : Ev} (h : Sim (a ++ [e]) b) : ∃ x y, b = x ++ e :: y ∧ ∀ f ∈ y, dep e f = false := by
  have hp : psi (a ++ [e]) e.thread = psi a e.thread ++ [(e, nxt (prs a) e)] := by rw [psi_snoc, if_pos rfl]
  have hq := h e.thread
  have hl := congrArg List.length hq
  have hN : cnt (isT (a ++ [e]) e.thread) (a ++ [e]).length = cnt (isT a e.thread) a.length + 1 := by
    rw [← psi_len, hp, List.length_append, psi_len]
    rfl
  rw [psi_len, psi_len, hN] at hl
  have hg : (psi b e.thread)[cnt (isT a e.thread) a.length]? = some (e, nxt (prs a) e) := by
    rw [← hq, hp, List.getElem?_append_right (by rw [psi_len]; exact Nat.le_refl _), psi_len, Nat.sub_self]
    rfl
  obtain ⟨k, hk, hkt, hkc, hke⟩ := psi_inv hg
  injection hke with hke _
  refine ⟨b.take k, b.drop (k + 1), by rw [hke]; exact split_at hk, fun f hf => ?_⟩
  cases hd : dep e f
  · rfl
  · exfalso
    obtain ⟨m, hm, hfm⟩ := List.mem_iff_getElem.1 hf
    rw [List.length_drop] at hm
    have hj : k + 1 + m < b.length := by omega
    have hfj : evI b (k + 1 + m) = f := by rw [evI_get hj, ← hfm, List.getElem_drop]
    have hbj : hb b k (k + 1 + m) = true := hb_dep (by omega) (by rw [← hke, hfj]; exact hd)
    have h1 := hb_iff_num.1 hbj
    rw [num_eq, ← hke, hkc] at h1
    have hmem : (evI b (k + 1 + m), clk b (k + 1 + m)) ∈ prs (a ++ [e]) := by rw [mem_prs, h, ← mem_prs]; exact prs_mem hj
    obtain ⟨i, hi, hie⟩ := mem_prs_inv hmem
    injection hie with hie1 hie2
    rw [hie2] at h1
    have h2 := clk_le_cnt (a ++ [e]) i e.thread
    rw [List.length_append, List.length_singleton] at hi
    rcases Nat.lt_or_eq_of_le (show i ≤ a.length by omega) with hia | hia
    · have h3 := cnt_mono (isT (a ++ [e]) e.thread) (show i + 1 ≤ a.length by omega)
      have h4 : cnt (isT (a ++ [e]) e.thread) a.length = cnt (isT a e.thread) a.length := cnt_congr _ fun j hj => by unfold isT; rw [evI_append hj]
      omega
    · have he2 : evI (a ++ [e]) i = e := by rw [hia]; unfold evI; simp [List.getD]
      rw [he2] at hie1
      have h5 : isT b e.thread (k + 1 + m) = true := isT_iff.2 (by rw [hie1])
      have h6 := (show At b e.thread _ _ from ⟨hj, h5, rfl⟩).lt
      have h7 := cnt_lt (isT b e.thread) (show k < k + 1 + m by omega) hkt
      omega

theorem psi_nil (t : Int) : psi [] t = [] := rfl

/-- Rows that are the same are alike in all that such swaps leave. -/
theorem sim_fun {T : Type} (n : Nat) : ∀ (a b : List Ev) (F : List Ev → T), a.length = n → Sim a b → Blind F → F a = F b := by
  induction n with
  | zero =>
    intro a b F hn h _
    obtain rfl := List.eq_nil_of_length_eq_zero hn
    rcases b with _ | ⟨e, b⟩
    · rfl
    · exfalso
      have h1 := psi_get (l := e :: b) (t := e.thread) (i := 0) (by simp) (isT_iff.2 rfl)
      rw [← h, psi_nil] at h1
      simp at h1
  | succ n ih =>
    intro a b F hn h hF
    have hne : a ≠ [] := by rintro rfl; simp at hn
    obtain ⟨a', e, rfl⟩ : ∃ a' e, a = a' ++ [e] := ⟨a.dropLast, a.getLast hne, (List.dropLast_concat_getLast hne).symm⟩
    obtain ⟨x, y, rfl, hy⟩ := sim_last h
    rw [hF.move e y x hy]
    have h2 : Sim (a' ++ [e]) (x ++ y ++ [e]) := h.trans (sim_move e y x hy)
    have h3 := (sim_snoc a' (x ++ y) e).1 h2
    refine ih a' (x ++ y) (fun l => F (l ++ [e])) (by simpa using hn) h3 (fun p q u v huv => ?_)
    have := hF p (q ++ [e]) u v huv
    simpa using this

end Go.Proofs.Ytopklnehhebhmaa

/-
  Plain data: two threads whose next events are independent, and who both may, come to one state in either order. Nothing of the translation.
-/
namespace Go.Proofs.Ytopklnehhebhmaa

theorem dep_vars {s : St} {a b : Int} {i j : Ins} (hd : dep (s.ev a i) (s.ev b j) = false) (h1 : i.kind = 2) (h2 : j.kind = 1 ∨ j.kind = 2) : i.x ≠ j.x := by
  intro hx
  have e1 : s.ev a i = ⟨a, 3, i.x, false⟩ := by simp [St.ev, h1]
  rw [e1] at hd
  rcases h2 with h2 | h2
  · have e2 : s.ev b j = ⟨b, 2, j.x, false⟩ := by simp [St.ev, h2]
    rw [e2] at hd
    simp [dep, hx] at hd
  · have e2 : s.ev b j = ⟨b, 3, j.x, false⟩ := by simp [St.ev, h2]
    rw [e2] at hd
    simp [dep, hx] at hd

theorem ev_mut {s : St} {a : Int} {i : Ins} (h : i.kind = 5 ∨ (i.kind = 6 ∧ s.who i.x = a)) : (s.ev a i).obj = i.x ∧ ((s.ev a i).kind = 4 ∨ (s.ev a i).kind = 5) := by
  rcases h with h | ⟨h, hw⟩
  · simp [St.ev, h]
  · simp [St.ev, h, hw]

theorem dep_muts {s : St} {a b : Int} {i j : Ins} (hd : dep (s.ev a i) (s.ev b j) = false) (h1 : i.kind = 5 ∨ (i.kind = 6 ∧ s.who i.x = a)) (h2 : j.kind = 5 ∨ (j.kind = 6 ∧ s.who j.x = b)) : i.x ≠ j.x := by
  intro hx
  obtain ⟨o1, k1⟩ := ev_mut h1
  obtain ⟨o2, k2⟩ := ev_mut h2
  unfold dep at hd
  rw [decide_eq_false_iff_not] at hd
  exact hd (.inr ⟨by rw [o1, o2, hx], .inr ⟨k1, k2⟩⟩)

theorem St.Ok.hold_do {F : Nat} {s : St} (h : s.Ok F) {a b : Int} {i : Ins} (hi : s.ins a = some i) (hm : s.may a = true) (hab : a ≠ b) (hb : 0 ≤ b) (x : Int) : ((s.do_ a i).who x = b) ↔ (s.who x = b) := by
  rw [h.who_do hi x]
  split
  · rename_i h5
    have := St.may_free hi hm h5.1
    rw [St.who_eq h5.2]
    omega
  split
  · rename_i h6
    rw [St.who_eq h6.2.2, h6.2.1]
    omega
  · exact Iff.rfl

theorem St.ins_do {s : St} {a b : Int} {i : Ins} (hi : s.ins a = some i) (hb : s.has b) (hab : a ≠ b) : (s.do_ a i).ins b = s.ins b := by
  obtain ⟨ha, _, _⟩ := St.ins_has hi
  have hl : (s.do_ a i).ts.length = s.ts.length := by simp [St.do_]
  have hh : (s.do_ a i).has b ↔ s.has b := by unfold St.has; rw [hl]
  have hth : (s.do_ a i).th b.toNat = s.th b.toNat := by
    rw [St.th_do s a i ha, if_neg]
    unfold St.has at ha hb
    omega
  have hc : (s.do_ a i).code b.toNat = s.code b.toNat := rfl
  unfold St.ins
  rw [hth, hc]
  by_cases hx : s.has b
  · simp [hx, hh]
  · simp [hx, hh]

theorem St.Ok.thr_do {F : Nat} {s : St} (h : s.Ok F) {a b : Int} {i j : Ins} (hi : s.ins a = some i) (hj : s.ins b = some j) (hab : a ≠ b) (hd : dep (s.ev a i) (s.ev b j) = false) : (s.do_ a i).thr b j = s.thr b j := by
  obtain ⟨ha, _, _⟩ := St.ins_has hi
  obtain ⟨hb, _, _⟩ := St.ins_has hj
  have hth : (s.do_ a i).th b.toNat = s.th b.toNat := by
    rw [St.th_do s a i ha, if_neg]
    unfold St.has at ha hb
    omega
  have hr : (s.do_ a i).reg b j = s.reg b j := by unfold St.reg; rw [hth]
  have hv : j.kind = 1 → (s.do_ a i).var j.x = s.var j.x := by
    intro h1
    rw [h.var_do hi j.x, if_neg]
    rintro ⟨h2, hx⟩
    have := dep_vars hd h2 (.inl h1)
    have := (h.obj hi).1 (.inr h2)
    have := (h.obj hj).1 (.inl h1)
    omega
  unfold St.thr
  rw [hth, hr]
  by_cases h1 : j.kind = 1
  · rw [hv h1]
  · simp [h1]

theorem St.Ok.may_do {F : Nat} {s : St} (h : s.Ok F) {a b : Int} {i j : Ins} (hi : s.ins a = some i) (hj : s.ins b = some j) (hmb : s.may b = true) (hab : a ≠ b) (hd : dep (s.ev a i) (s.ev b j) = false) : (s.do_ a i).may b = true := by
  obtain ⟨hb, _, _⟩ := St.ins_has hj
  have h1 := St.ins_do hi hb hab
  unfold St.may
  rw [h1, hj]
  simp only [decide_eq_true_eq]
  intro h5
  have hf := St.may_free hj hmb h5
  rw [h.who_do hi]
  split
  · rename_i hx
    have := dep_muts hd (.inl hx.1) (.inl h5)
    have := (h.obj hi).2.1 (.inl hx.1)
    have := (h.obj hj).2.1 (.inl h5)
    omega
  split
  · omega
  · exact hf

theorem St.Ok.do_swap {F : Nat} {s : St} (h : s.Ok F) {a b : Int} {i j : Ins} (hi : s.ins a = some i) (hj : s.ins b = some j) (hma : s.may a = true) (hmb : s.may b = true) (hab : a ≠ b)
    (hd : dep (s.ev a i) (s.ev b j) = false) : (s.do_ a i).do_ b j = (s.do_ b j).do_ a i := by
  obtain ⟨ha, _, _⟩ := St.ins_has hi
  obtain ⟨hb, _, _⟩ := St.ins_has hj
  have hd' : dep (s.ev b j) (s.ev a i) = false := by rw [dep_symm]; exact hd
  have hn : a.toNat ≠ b.toNat := by unfold St.has at ha hb; omega
  have t1 := h.thr_do hi hj hab hd
  have t2 := h.thr_do hj hi (Ne.symm hab) hd'
  have w1 := h.hold_do hi hma hab (by unfold St.has at hb; exact hb.1) j.x
  have w2 := h.hold_do hj hmb (Ne.symm hab) (by unfold St.has at ha; exact ha.1) i.x
  have r1 : (s.do_ a i).reg b j = s.reg b j := by
    unfold St.reg
    rw [St.th_do s a i ha, if_neg (Ne.symm hn)]
  have r2 : (s.do_ b j).reg a i = s.reg a i := by
    unfold St.reg
    rw [St.th_do s b j hb, if_neg hn]
  obtain ⟨oi1, oi2, _⟩ := h.obj hi
  obtain ⟨oj1, oj2, _⟩ := h.obj hj
  have ets : ((s.do_ a i).do_ b j).ts = ((s.do_ b j).do_ a i).ts := by
    show (s.ts.set a.toNat (s.thr a i)).set b.toNat ((s.do_ a i).thr b j) = (s.ts.set b.toNat (s.thr b j)).set a.toNat ((s.do_ b j).thr a i)
    rw [t1, t2, List.set_comm _ _ hn]
  have ev : ((s.do_ a i).do_ b j).v = ((s.do_ b j).do_ a i).v := by
    show (if j.kind = 2 then (if i.kind = 2 then s.v.set i.x.toNat (s.reg a i) else s.v).set j.x.toNat ((s.do_ a i).reg b j) else if i.kind = 2 then s.v.set i.x.toNat (s.reg a i) else s.v) =
      (if i.kind = 2 then (if j.kind = 2 then s.v.set j.x.toNat (s.reg b j) else s.v).set i.x.toNat ((s.do_ b j).reg a i) else if j.kind = 2 then s.v.set j.x.toNat (s.reg b j) else s.v)
    rw [r1, r2]
    by_cases h1 : i.kind = 2
    · by_cases h2 : j.kind = 2
      · have hne := dep_vars hd h1 (.inr h2)
        have := oi1 (.inr h1)
        have := oj1 (.inr h2)
        simp only [h1, h2, if_true]
        exact List.set_comm _ _ (by omega)
      · simp [h1, h2]
    · by_cases h2 : j.kind = 2
      · simp [h1, h2]
      · simp [h1, h2]
  have em : ((s.do_ a i).do_ b j).m = ((s.do_ b j).do_ a i).m := by
    show (if j.kind = 5 then (s.do_ a i).m.set j.x.toNat b else if j.kind = 6 ∧ (s.do_ a i).who j.x = b then (s.do_ a i).m.set j.x.toNat (-1) else (s.do_ a i).m) =
      (if i.kind = 5 then (s.do_ b j).m.set i.x.toNat a else if i.kind = 6 ∧ (s.do_ b j).who i.x = a then (s.do_ b j).m.set i.x.toNat (-1) else (s.do_ b j).m)
    have mi : (s.do_ a i).m = if i.kind = 5 then s.m.set i.x.toNat a else if i.kind = 6 ∧ s.who i.x = a then s.m.set i.x.toNat (-1) else s.m := rfl
    have mj : (s.do_ b j).m = if j.kind = 5 then s.m.set j.x.toNat b else if j.kind = 6 ∧ s.who j.x = b then s.m.set j.x.toNat (-1) else s.m := rfl
    simp only [w1, w2]
    rw [mi, mj]
    by_cases p : i.kind = 5 ∨ (i.kind = 6 ∧ s.who i.x = a)
    · by_cases q : j.kind = 5 ∨ (j.kind = 6 ∧ s.who j.x = b)
      · have hne := dep_muts hd p q
        have := oi2 (by omega)
        have := oj2 (by omega)
        have hx : i.x.toNat ≠ j.x.toNat := by omega
        rcases p with p | p
        · rcases q with q | q
          · simp only [p, q, if_true]
            exact List.set_comm _ _ hx
          · simp [p, q]
            exact List.set_comm _ _ hx
        · rcases q with q | q
          · simp [p, q]
            exact List.set_comm _ _ hx
          · simp [p, q]
            exact List.set_comm _ _ hx
      · have q1 : ¬ j.kind = 5 := fun e => q (.inl e)
        have q2 : ¬ (j.kind = 6 ∧ s.who j.x = b) := fun e => q (.inr e)
        simp only [q1, q2, if_false]
    · have p1 : ¬ i.kind = 5 := fun e => p (.inl e)
      have p2 : ¬ (i.kind = 6 ∧ s.who i.x = a) := fun e => p (.inr e)
      simp only [p1, p2, if_false]
  have ep : ((s.do_ a i).do_ b j).p = ((s.do_ b j).do_ a i).p := rfl
  generalize (s.do_ a i).do_ b j = z at *
  generalize (s.do_ b j).do_ a i = z' at *
  cases z
  cases z'
  simp_all

theorem St.step_may {s : St} {t : Int} {i : Ins} (hi : s.ins t = some i) (hm : s.may t = true) : s.step t = (0, s.ev t i, s.do_ t i) := by
  obtain ⟨ht, _, _⟩ := St.ins_has hi
  unfold St.step
  rw [if_pos ht, hi]
  simp [hm]

theorem St.Ok.ev_do {F : Nat} {s : St} (h : s.Ok F) {a b : Int} {i j : Ins} (hi : s.ins a = some i) (hj : s.ins b = some j) (hma : s.may a = true) (hab : a ≠ b) : (s.do_ a i).ev b j = s.ev b j := by
  obtain ⟨hb, _, _⟩ := St.ins_has hj
  have h1 := h.next_do hi hma (Ne.symm hab)
  unfold St.next at h1
  rw [St.ins_do hi hb hab, hj] at h1
  simpa using h1

/-- Both orders. -/
theorem St.Ok.swap {F : Nat} {s : St} (h : s.Ok F) {a b : Int} {x y : Ev} (hx : s.next a = some x) (hy : s.next b = some y) (hma : s.may a = true) (hmb : s.may b = true) (hab : a ≠ b) (hd : dep x y = false) :
    ∃ c d z, s.step a = (0, x, c) ∧ c.step b = (0, y, z) ∧ s.step b = (0, y, d) ∧ d.step a = (0, x, z) ∧ c.Ok F ∧ d.Ok F ∧ z.Ok F := by
  unfold St.next at hx hy
  obtain ⟨i, hi, rfl⟩ := Option.map_eq_some_iff.1 hx
  obtain ⟨j, hj, rfl⟩ := Option.map_eq_some_iff.1 hy
  have hd' : dep (s.ev b j) (s.ev a i) = false := by rw [dep_symm]; exact hd
  obtain ⟨ha, _, _⟩ := St.ins_has hi
  obtain ⟨hb, _, _⟩ := St.ins_has hj
  have i1 := (St.ins_do hi hb hab).trans hj
  have i2 := (St.ins_do hj ha (Ne.symm hab)).trans hi
  refine ⟨s.do_ a i, s.do_ b j, (s.do_ a i).do_ b j, St.step_may hi hma, ?_, St.step_may hj hmb, ?_, h.do_ok hi, h.do_ok hj, (h.do_ok hi).do_ok i1⟩
  · rw [St.step_may i1 (h.may_do hi hj hmb hab hd), h.ev_do hi hj hma hab]
  · rw [St.step_may i2 (h.may_do hj hi hma (Ne.symm hab) hd'), h.ev_do hj hi hmb (Ne.symm hab), h.do_swap hi hj hma hmb hab hd]

end Go.Proofs.Ytopklnehhebhmaa

/-
  Plain data: rows of steps; steps of threads that are never dependent, in any order of threads, have the same events each. Nothing of the translation.
-/
namespace Go.Proofs.Ytopklnehhebhmaa

theorem St.ev_thread (s : St) (t : Int) (i : Ins) : (s.ev t i).thread = t := by
  unfold St.ev
  repeat' split
  all_goals rfl

theorem St.step_ok0 {s : St} {t : Int} {e : Ev} {s1 : St} (h : s.step t = (0, e, s1)) : ∃ i, s.ins t = some i ∧ s.may t = true ∧ e = s.ev t i ∧ s1 = s.do_ t i := by
  rcases s.step_cases t with ⟨i, hi, hm, e1⟩ | ⟨c, hc, e1⟩
  · rw [e1] at h
    injection h with _ h
    injection h with h1 h2
    exact ⟨i, hi, hm, h1.symm, h2.symm⟩
  · rw [e1] at h
    injection h with h _
    omega

/-- Two steps of independent events, the other way round. -/
theorem St.Ok.swap_back {F : Nat} {s : St} (h : s.Ok F) {u t : Int} {e x : Ev} {s1 s2 : St} (h1 : s.step u = (0, e, s1)) (h2 : s1.step t = (0, x, s2)) (hut : u ≠ t) (hd : dep e x = false) :
    ∃ d, s.step t = (0, x, d) ∧ d.step u = (0, e, s2) ∧ d.Ok F := by
  obtain ⟨i, hi, hm, rfl, rfl⟩ := St.step_ok0 h1
  obtain ⟨j, hj, hmj, rfl, rfl⟩ := St.step_ok0 h2
  have hnx := h.next_do hi hm (Ne.symm hut)
  obtain ⟨hhas, _, _⟩ := St.ins_has hj
  have hl : (s.do_ u i).ts.length = s.ts.length := by simp [St.do_]
  have hhas' : s.has t := by unfold St.has at hhas ⊢; rw [hl] at hhas; exact hhas
  have hj' : s.ins t = some j := by rw [← St.ins_do hi hhas' hut]; exact hj
  have hev : (s.do_ u i).ev t j = s.ev t j := h.ev_do hi hj' hm hut
  rw [hev] at hd ⊢
  have hmt : s.may t = true := by
    unfold St.may
    rw [hj']
    simp only [decide_eq_true_eq]
    intro h5
    have hf := St.may_free hj hmj h5
    rw [h.who_do hi] at hf
    split at hf
    · rename_i hx
      have := dep_muts hd (.inl hx.1) (.inl h5)
      have := (h.obj hi).2.1 (.inl hx.1)
      have := (h.obj hj').2.1 (.inl h5)
      omega
    split at hf
    · rename_i hx
      have := dep_muts hd (.inr ⟨hx.1, hx.2.1⟩) (.inl h5)
      have := (h.obj hi).2.1 (.inr hx.1)
      have := (h.obj hj').2.1 (.inl h5)
      omega
    · exact hf
  have hx : s.next u = some (s.ev u i) := by unfold St.next; rw [hi]; rfl
  have hy : s.next t = some (s.ev t j) := by unfold St.next; rw [hj']; rfl
  obtain ⟨c, d, z, s1', s2', s3', s4', _, okd, _⟩ := h.swap hx hy hm hmt hut hd
  refine ⟨d, s3', ?_, okd⟩
  rw [h1] at s1'
  injection s1' with _ q
  injection q with _ q
  subst q
  rw [h2] at s2'
  injection s2' with _ q
  injection q with _ q
  rw [s4', q]

/-- Steps that are done, one behind the other. -/
def Runs : St → List Int → List Ev → St → Prop
  | s, [], l, z => l = [] ∧ z = s
  | s, t :: row, l, z => ∃ e s1 l', s.step t = (0, e, s1) ∧ Runs s1 row l' z ∧ l = e :: l'

theorem Runs.ok {F : Nat} {row : List Int} : ∀ {s : St} {l : List Ev} {z : St}, Runs s row l z → s.Ok F → z.Ok F := by
  induction row with
  | nil => intro s l z h ok; rw [h.2]; exact ok
  | cons t row ih =>
    intro s l z h ok
    obtain ⟨e, s1, l', h1, h2, rfl⟩ := h
    have := ok.step_ok t
    rw [h1] at this
    exact ih h2 this

theorem runs_append {a b : List Int} : ∀ {s : St} {l : List Ev} {z : St}, Runs s (a ++ b) l z ↔ ∃ la lb s1, Runs s a la s1 ∧ Runs s1 b lb z ∧ l = la ++ lb := by
  induction a with
  | nil =>
    intro s l z
    constructor
    · intro h; exact ⟨[], l, s, ⟨rfl, rfl⟩, h, rfl⟩
    · rintro ⟨la, lb, s1, ⟨rfl, rfl⟩, h, rfl⟩; exact h
  | cons t a ih =>
    intro s l z
    constructor
    · rintro ⟨e, s1, l', h1, h2, rfl⟩
      obtain ⟨la, lb, s2, h3, h4, rfl⟩ := ih.1 h2
      exact ⟨e :: la, lb, s2, ⟨e, s1, la, h1, h3, rfl⟩, h4, rfl⟩
    · rintro ⟨la, lb, s2, ⟨e, s1, la', h1, h3, rfl⟩, h4, rfl⟩
      exact ⟨e, s1, la' ++ lb, h1, ih.2 ⟨la', lb, s2, h3, h4, rfl⟩, rfl⟩

theorem Runs.has {row : List Int} : ∀ {s : St} {l : List Ev} {z : St}, Runs s row l z → ∀ t ∈ row, s.has t := by
  induction row with
  | nil => intro s l z _ t ht; cases ht
  | cons u row ih =>
    intro s l z h t ht
    obtain ⟨e, s1, l', h1, h2, rfl⟩ := h
    obtain ⟨i, hi, _, _, rfl⟩ := St.step_ok0 h1
    rcases List.mem_cons.1 ht with rfl | ht
    · exact (St.ins_has hi).1
    · have := ih h2 t ht
      unfold St.has at this ⊢
      simpa [St.do_] using this

theorem Runs.threads {row : List Int} : ∀ {s : St} {l : List Ev} {z : St}, Runs s row l z → l.map Ev.thread = row := by
  induction row with
  | nil => intro s l z h; rw [h.1]; rfl
  | cons u row ih =>
    intro s l z h
    obtain ⟨e, s1, l', h1, h2, rfl⟩ := h
    obtain ⟨i, _, _, rfl, rfl⟩ := St.step_ok0 h1
    simp [ih h2, St.ev_thread]

/-- Events of unlike threads don't depend on one another. -/
def Indep (l : List Ev) : Prop := l.Pairwise fun a b => a.thread ≠ b.thread → dep a b = false

/-- A step behind steps of another thread. -/
theorem runs_move {F : Nat} {t u : Int} (htu : u ≠ t) {rest : List Int} {e : Ev} {rs : List Ev} (ts : List Int) : ∀ {s : St} {es : List Ev} {z : St}, s.Ok F → (∀ x ∈ ts, x = t) → es.length = ts.length → (∀ x ∈ es, dep e x = false) →
    Runs s (u :: (ts ++ rest)) (e :: (es ++ rs)) z → Runs s (ts ++ u :: rest) (es ++ e :: rs) z := by
  induction ts with
  | nil =>
    intro s es z ok _ hl _ h
    have : es = [] := List.eq_nil_of_length_eq_zero hl
    subst this
    exact h
  | cons t' ts ih =>
    intro s es z ok ht hl hd h
    obtain rfl : t' = t := ht t' (by simp)
    match es, hl with
    | x :: es, hl =>
      obtain ⟨e', s1, l', h1, ⟨x', s2, l2, h2, h3, q2⟩, q1⟩ := h
      injection q1 with q1 q1'
      subst q1 q1'
      injection q2 with q2 q2'
      subst q2 q2'
      obtain ⟨d, hd1, hd2, okd⟩ := ok.swap_back h1 h2 htu (hd _ (by simp))
      refine ⟨x, d, es ++ e :: rs, hd1, ih okd (fun y hy => ht y (by simp [hy])) (by simpa using hl) (fun y hy => hd y (by simp [hy])) ?_, rfl⟩
      exact ⟨e, s2, es ++ rs, hd2, h3, rfl⟩

/-- The steps of one thread first. -/
theorem runs_part {F : Nat} (t : Int) {row : List Int} : ∀ {s : St} {l : List Ev} {z : St}, s.Ok F → Indep l → Runs s row l z →
    Runs s (row.filter (fun x => decide (x = t)) ++ row.filter (fun x => !decide (x = t))) (l.filter (fun e => decide (e.thread = t)) ++ l.filter (fun e => !decide (e.thread = t))) z := by
  induction row with
  | nil => intro s l z _ _ h; rw [h.1, h.2]; exact ⟨rfl, rfl⟩
  | cons u row ih =>
    intro s l z ok hi h
    obtain ⟨e, s1, l', h1, h2, rfl⟩ := h
    have ok1 : s1.Ok F := by have := ok.step_ok u; rw [h1] at this; exact this
    unfold Indep at hi
    rw [List.pairwise_cons] at hi
    have h3 := ih ok1 hi.2 h2
    have het : e.thread = u := by obtain ⟨i, _, _, rfl, _⟩ := St.step_ok0 h1; exact St.ev_thread _ _ _
    by_cases hu : u = t
    · have e1 : (u :: row).filter (fun x => decide (x = t)) = u :: row.filter (fun x => decide (x = t)) := by simp [hu]
      have e2 : (u :: row).filter (fun x => !decide (x = t)) = row.filter (fun x => !decide (x = t)) := by simp [hu]
      have e3 : (e :: l').filter (fun e => decide (e.thread = t)) = e :: l'.filter (fun e => decide (e.thread = t)) := by simp [het, hu]
      have e4 : (e :: l').filter (fun e => !decide (e.thread = t)) = l'.filter (fun e => !decide (e.thread = t)) := by simp [het, hu]
      rw [e1, e2, e3, e4]
      exact ⟨e, s1, _, h1, h3, rfl⟩
    · have e1 : (u :: row).filter (fun x => decide (x = t)) = row.filter (fun x => decide (x = t)) := by simp [hu]
      have e2 : (u :: row).filter (fun x => !decide (x = t)) = u :: row.filter (fun x => !decide (x = t)) := by simp [hu]
      have e3 : (e :: l').filter (fun e => decide (e.thread = t)) = l'.filter (fun e => decide (e.thread = t)) := by simp [het, hu]
      have e4 : (e :: l').filter (fun e => !decide (e.thread = t)) = e :: l'.filter (fun e => !decide (e.thread = t)) := by simp [het, hu]
      rw [e1, e2, e3, e4]
      refine runs_move hu _ ok (fun x hx => ?_) ?_ (fun x hx => ?_) ⟨e, s1, _, h1, h3, rfl⟩
      · simpa using (List.mem_filter.1 hx).2
      · rw [← h2.threads, List.filter_map]
        simp [Function.comp_def]
      · obtain ⟨h4, h5⟩ := List.mem_filter.1 hx
        refine hi.1 x h4 ?_
        rw [het]
        simp at h5
        omega

/-- The row sorted by its threads, up to n. -/
def srt (row : List Int) : Nat → List Int
  | 0 => []
  | n + 1 => srt row n ++ row.filter fun x => decide (x = (n : Int))
def srtE (l : List Ev) : Nat → List Ev
  | 0 => []
  | n + 1 => srtE l n ++ l.filter fun e => decide (e.thread = (n : Int))

theorem filter_step {T : Type} (f : T → Int) (l : List T) (n : Nat) : (l.filter fun x => decide ((n : Int) ≤ f x)).filter (fun x => decide (f x = (n : Int))) = l.filter (fun x => decide (f x = (n : Int))) ∧
    (l.filter fun x => decide ((n : Int) ≤ f x)).filter (fun x => !decide (f x = (n : Int))) = l.filter (fun x => decide (((n + 1 : Nat) : Int) ≤ f x)) := by
  rw [List.filter_filter, List.filter_filter]
  constructor
  · apply List.filter_congr
    intro x _
    rw [Bool.eq_iff_iff]
    simp
    omega
  · apply List.filter_congr
    intro x _
    rw [Bool.eq_iff_iff]
    simp
    omega

theorem runs_srt {F : Nat} {row : List Int} {s : St} {l : List Ev} {z : St} (ok : s.Ok F) (hi : Indep l) (h : Runs s row l z) (n : Nat) :
    Runs s (srt row n ++ row.filter fun x => decide ((n : Int) ≤ x)) (srtE l n ++ l.filter fun e => decide ((n : Int) ≤ e.thread)) z := by
  induction n with
  | zero =>
    have e1 : row.filter (fun x => decide (((0 : Nat) : Int) ≤ x)) = row := by
      rw [List.filter_eq_self]
      intro x hx
      have := h.has x hx
      unfold St.has at this
      simp
      omega
    have e2 : l.filter (fun e => decide (((0 : Nat) : Int) ≤ e.thread)) = l := by
      rw [List.filter_eq_self]
      intro e he
      have := h.has e.thread (by rw [← h.threads]; exact List.mem_map_of_mem he)
      unfold St.has at this
      simp
      omega
    rw [e1, e2]
    exact h
  | succ n ih =>
    obtain ⟨la, lb, s1, h1, h2, q⟩ := runs_append.1 ih
    have hla : la.length = (srtE l n).length := by
      have := congrArg List.length h1.threads
      rw [List.length_map] at this
      rw [this]
      have ht := h.threads
      clear this q h2 h1 ih
      subst ht
      induction n with
      | zero => rfl
      | succ n ih =>
        unfold srt srtE
        rw [List.length_append, List.length_append, ih, List.filter_map]
        simp [Function.comp_def]
    obtain ⟨rfl, rfl⟩ := List.append_inj q.symm hla
    have hi2 : Indep (l.filter fun e => decide ((n : Int) ≤ e.thread)) := List.Pairwise.filter _ hi
    have h3 := runs_part (n : Int) (h1.ok ok) hi2 h2
    have f1 := filter_step (fun x : Int => x) row n
    rw [f1.1, f1.2] at h3
    rw [(filter_step Ev.thread l n).1, (filter_step Ev.thread l n).2] at h3
    have h4 := runs_append.2 ⟨_, _, s1, h1, h3, rfl⟩
    unfold srt srtE
    rw [List.append_assoc, List.append_assoc]
    exact h4

theorem runs_sorted {F : Nat} {row : List Int} {s : St} {l : List Ev} {z : St} (ok : s.Ok F) (h4 : s.ts.length ≤ 4) (hi : Indep l) (h : Runs s row l z) : Runs s (srt row 4) (srtE l 4) z := by
  have h1 := runs_srt ok hi h 4
  have e1 : row.filter (fun x => decide (((4 : Nat) : Int) ≤ x)) = [] := by
    rw [List.filter_eq_nil_iff]
    intro x hx
    have := h.has x hx
    unfold St.has at this
    simp
    omega
  have e2 : l.filter (fun e => decide (((4 : Nat) : Int) ≤ e.thread)) = [] := by
    rw [List.filter_eq_nil_iff]
    intro e he
    have := h.has e.thread (by rw [← h.threads]; exact List.mem_map_of_mem he)
    unfold St.has at this
    simp
    omega
  rw [e1, e2, List.append_nil, List.append_nil] at h1
  exact h1

theorem srtE_filter (l : List Ev) (t n : Nat) : (srtE l n).filter (fun e => decide (e.thread = (t : Int))) = if t < n then l.filter (fun e => decide (e.thread = (t : Int))) else [] := by
  induction n with
  | zero => rfl
  | succ n ih =>
    unfold srtE
    rw [List.filter_append, ih, List.filter_filter]
    by_cases h1 : t < n
    · rw [if_pos h1, if_pos (by omega)]
      have : l.filter (fun e => decide (e.thread = (t : Int)) && decide (e.thread = (n : Int))) = [] := by
        rw [List.filter_eq_nil_iff]
        intro e _
        simp
        omega
      rw [this, List.append_nil]
    · rw [if_neg h1, List.nil_append]
      by_cases h2 : t = n
      · subst h2
        rw [if_pos (by omega)]
        simp
      · rw [if_neg (by omega), List.filter_eq_nil_iff]
        intro e _
        simp
        omega

theorem len_filter {T : Type} (q : T → Bool) (l : List T) : (l.filter q).length + (l.filter fun x => !q x).length = l.length := by
  induction l with
  | nil => rfl
  | cons x l ih => cases h : q x <;> simp [h] <;> omega

theorem srtE_length {l : List Ev} {s : St} {row : List Int} {z : St} (hr : Runs s row l z) (h4 : s.ts.length ≤ 4) : (srtE l 4).length = l.length := by
  have : ∀ n : Nat, (srtE l n).length + (l.filter fun e => decide ((n : Int) ≤ e.thread)).length = l.length := by
    intro n
    induction n with
    | zero =>
      rw [List.filter_eq_self.2]
      · simp [srtE]
      · intro e he
        have := hr.has e.thread (by rw [← hr.threads]; exact List.mem_map_of_mem he)
        unfold St.has at this
        simp
        omega
    | succ n ih =>
      have e1 := filter_step Ev.thread l n
      rw [← e1.2]
      unfold srtE
      rw [List.length_append, ← e1.1]
      have e2 := len_filter (fun e : Ev => decide (e.thread = (n : Int))) (l.filter fun e => decide ((n : Int) ≤ e.thread))
      omega
  have h0 := this 4
  have e2 : l.filter (fun e => decide (((4 : Nat) : Int) ≤ e.thread)) = [] := by
    rw [List.filter_eq_nil_iff]
    intro e he
    have := hr.has e.thread (by rw [← hr.threads]; exact List.mem_map_of_mem he)
    unfold St.has at this
    simp
    omega
  rw [e2] at h0
  simpa using h0

end Go.Proofs.Ytopklnehhebhmaa

/-
  Plain data: executions as rows of events; rows that are the same are done alike. Nothing of the translation.
-/
namespace Go.Proofs.Ytopklnehhebhmaa

/-- From s the events l are done, one behind the other, and z is come to. -/
def Ex : St → List Ev → St → Prop
  | s, [], z => z = s
  | s, e :: l, z => ∃ s1, s.step e.thread = (0, e, s1) ∧ Ex s1 l z

theorem ex_append {a b : List Ev} : ∀ {s z : St}, Ex s (a ++ b) z ↔ ∃ s1, Ex s a s1 ∧ Ex s1 b z := by
  induction a with
  | nil =>
    intro s z
    constructor
    · intro h; exact ⟨s, rfl, h⟩
    · rintro ⟨s1, rfl, h⟩; exact h
  | cons e a ih =>
    intro s z
    constructor
    · rintro ⟨s1, h1, h2⟩
      obtain ⟨s2, h3, h4⟩ := ih.1 h2
      exact ⟨s2, ⟨s1, h1, h3⟩, h4⟩
    · rintro ⟨s2, ⟨s1, h1, h3⟩, h4⟩
      exact ⟨s1, h1, ih.2 ⟨s2, h3, h4⟩⟩
theorem ex_det {l : List Ev} : ∀ {s z z' : St}, Ex s l z → Ex s l z' → z = z' := by
  induction l with
  | nil => intro s z z' h h'; rw [h, h']
  | cons e l ih =>
    rintro s z z' ⟨s1, h1, h2⟩ ⟨s2, h3, h4⟩
    rw [h1] at h3
    injection h3 with _ h3
    injection h3 with _ h3
    subst h3
    exact ih h2 h4
theorem Ex.ok {F : Nat} {l : List Ev} : ∀ {s z : St}, Ex s l z → s.Ok F → z.Ok F := by
  induction l with
  | nil => intro s z h ok; rw [h]; exact ok
  | cons e l ih =>
    rintro s z ⟨s1, h1, h2⟩ ok
    have := ok.step_ok e.thread
    rw [h1] at this
    exact ih h2 this
theorem step_next {s : St} {t : Int} {e : Ev} {s1 : St} (h : s.step t = (0, e, s1)) : s.next t = some e ∧ s.may t = true ∧ e.thread = t := by
  obtain ⟨i, hi, hm, rfl, rfl⟩ := St.step_ok0 h
  exact ⟨by unfold St.next; rw [hi]; rfl, hm, St.ev_thread _ _ _⟩
theorem next_step {s : St} {t : Int} {e : Ev} (h : s.next t = some e) (hm : s.may t = true) : ∃ s1, s.step t = (0, e, s1) := by
  unfold St.next at h
  obtain ⟨i, hi, rfl⟩ := Option.map_eq_some_iff.1 h
  exact ⟨_, St.step_may hi hm⟩
theorem next_thread {s : St} {t : Int} {e : Ev} (h : s.next t = some e) : e.thread = t := by
  unfold St.next at h
  obtain ⟨i, hi, rfl⟩ := Option.map_eq_some_iff.1 h
  exact St.ev_thread _ _ _
theorem step_fuel {s : St} {t : Int} {e : Ev} {s1 : St} (h : s.step t = (0, e, s1)) : s1.fuel + 1 = s.fuel := by
  obtain ⟨i, hi, hm, rfl, rfl⟩ := St.step_ok0 h
  exact St.fuel_do hi
theorem dep_ne {e f : Ev} (h : dep e f = false) : e.thread ≠ f.thread := by
  intro he
  rw [dep_thread he] at h
  cases h
theorem dep_symm' {e f : Ev} (h : dep e f = false) : dep f e = false := by rw [dep_symm]; exact h

theorem ex_two {F : Nat} {s z : St} {e f : Ev} {y : List Ev} (ok : s.Ok F) (hd : dep e f = false) (h : Ex s (e :: f :: y) z) : Ex s (f :: e :: y) z := by
  obtain ⟨s1, h1, s2, h2, h3⟩ := h
  obtain ⟨d, hd1, hd2, _⟩ := ok.swap_back h1 h2 (dep_ne hd) hd
  exact ⟨d, hd1, s2, hd2, h3⟩
theorem ex_blind {F : Nat} {s : St} (ok : s.Ok F) (z : St) : Blind (fun l => Ex s l z) := by
  intro x y e f hd
  dsimp only
  apply propext
  rw [ex_append, ex_append]
  constructor
  · rintro ⟨s1, h1, h2⟩; exact ⟨s1, h1, ex_two (h1.ok ok) hd h2⟩
  · rintro ⟨s1, h1, h2⟩; exact ⟨s1, h1, ex_two (h1.ok ok) (dep_symm' hd) h2⟩
/-- Rows that are the same are done alike, and come to the same. -/
theorem ex_sim {F : Nat} {s z : St} {a b : List Ev} (ok : s.Ok F) (h : Sim a b) : Ex s a z ↔ Ex s b z := by
  have := sim_fun _ a b (fun l => Ex s l z) rfl h (ex_blind ok z)
  exact iff_of_eq this
theorem sim_length {a b : List Ev} (h : Sim a b) : a.length = b.length := sim_fun _ a b List.length rfl h (fun x y e f _ => by simp)
theorem sim_cons (e : Ev) {a b : List Ev} (h : Sim a b) : Sim (e :: a) (e :: b) := by
  intro t
  exact sim_fun _ a b (fun l => psi (e :: l) t) rfl h (fun x y u v hd => sim_swap (x := e :: x) hd t)
theorem sim_right {a b : List Ev} (h : Sim a b) (y : List Ev) : Sim (a ++ y) (b ++ y) := by
  intro t
  exact sim_fun _ a b (fun l => psi (l ++ y) t) rfl h (fun x z u v hd => by
    dsimp only
    rw [show (x ++ u :: v :: z) ++ y = x ++ u :: v :: (z ++ y) by simp, show (x ++ v :: u :: z) ++ y = x ++ v :: u :: (z ++ y) by simp]
    exact sim_swap hd t)
/-- An event that depends on nothing ahead of it, first. -/
theorem sim_front {a b : List Ev} {p : Ev} (h : ∀ x ∈ a, dep p x = false) : Sim (a ++ p :: b) (p :: (a ++ b)) := by
  have h1 := sim_right (sim_move p a [] h) b
  rw [List.nil_append, List.nil_append] at h1
  rw [show a ++ [p] ++ b = a ++ p :: b by simp, show p :: a ++ b = p :: (a ++ b) by simp] at h1
  exact h1.symm

/-- What a thread does next stays, while it does nothing. -/
theorem ex_next {F : Nat} {l : List Ev} {u : Int} : ∀ {s z : St}, s.Ok F → Ex s l z → (∀ x ∈ l, x.thread ≠ u) → z.next u = s.next u := by
  induction l with
  | nil => intro s z _ h _; rw [h]
  | cons e l ih =>
    rintro s z ok ⟨s1, h1, h2⟩ hu
    have ok1 := ok.step_ok e.thread
    have hn := ok.next_step e.thread (u := u) (Ne.symm (hu e (by simp)))
    rw [h1] at ok1 hn
    rw [ih ok1 h2 (fun x hx => hu x (by simp [hx]))]
    exact hn
/-- What may be done, and doesn't depend on what is done, may be done ahead of it, or behind it. -/
theorem ex_comm {F : Nat} {t : Int} {p : Ev} {w : List Ev} : ∀ {s z : St}, s.Ok F → s.next t = some p → s.may t = true → Ex s w z → (∀ x ∈ w, dep p x = false) →
    z.next t = some p ∧ z.may t = true ∧ ∃ z', Ex s (p :: w) z' ∧ Ex s (w ++ [p]) z' := by
  induction w with
  | nil =>
    intro s z _ hn hm h _
    obtain rfl : z = s := h
    obtain ⟨s1, h1⟩ := next_step hn hm
    have ht := next_thread hn
    subst ht
    exact ⟨hn, hm, s1, ⟨s1, h1, rfl⟩, ⟨s1, h1, rfl⟩⟩
  | cons x w ih =>
    rintro s z ok hn hm ⟨s1, h1, h2⟩ hd
    have ht := next_thread hn
    subst ht
    have hdx := hd x (by simp)
    obtain ⟨hxn, hxm, _⟩ := step_next h1
    obtain ⟨c, d, z2, a1, a2, a3, a4, okc, _, _⟩ := ok.swap hxn hn hxm hm (dep_ne (dep_symm' hdx)) (dep_symm' hdx)
    rw [h1] at a1
    injection a1 with _ a1
    injection a1 with _ a1
    subst a1
    obtain ⟨n1, m1, _⟩ := step_next a2
    obtain ⟨r1, r2, z', r3, r4⟩ := ih okc n1 m1 h2 (fun y hy => hd y (by simp [hy]))
    exact ⟨r1, r2, z', ex_two ok (dep_symm' hdx) ⟨s1, h1, r3⟩, ⟨s1, h1, r4⟩⟩

/-- A thread that could begin. -/
def Ini (t : Int) (w : List Ev) : Prop := ∃ a p b, w = a ++ p :: b ∧ p.thread = t ∧ ∀ x ∈ a, dep p x = false

/-- In a row behind another one: what happens before what. -/
theorem evI_right (s a : List Ev) (i : Nat) : evI (s ++ a) (s.length + i) = evI a i := by
  unfold evI
  simp only [List.getD]
  rw [List.getElem?_append_right (by omega), Nat.add_sub_cancel_left]
theorem hb_right (s a : List Ev) {j : Nat} : ∀ {i : Nat}, hb (s ++ a) (s.length + i) (s.length + j) = true ↔ hb a i j = true := by
  induction j using Nat.strongRecOn with
  | _ j ih =>
    intro i
    rw [hb_def, hb_def]
    constructor
    · rintro (h | ⟨m, hm, hd, h⟩)
      · exact .inl (by omega)
      · have hle := hb_le h
        obtain ⟨m', rfl⟩ : ∃ m', m = s.length + m' := ⟨m - s.length, by omega⟩
        rw [evI_right, evI_right] at hd
        exact .inr ⟨m', by omega, hd, (ih m' (by omega)).1 h⟩
    · rintro (h | ⟨m, hm, hd, h⟩)
      · exact .inl (by omega)
      · refine .inr ⟨s.length + m, by omega, ?_, (ih m hm).2 h⟩
        rw [evI_right, evI_right]
        exact hd

/-- The first event happens before none that it doesn't lead to. -/
theorem hb_first {p : Ev} {w y : List Ev} (h : ∀ x ∈ w, dep p x = false) {m : Nat} : m < w.length → hb (p :: (w ++ y)) 0 (m + 1) = false := by
  induction m using Nat.strongRecOn with
  | _ m ih =>
    intro hm
    cases hh : hb (p :: (w ++ y)) 0 (m + 1)
    · rfl
    · exfalso
      rcases (hb_def _ _ _).1 hh with h0 | ⟨i, hi, hd, h1⟩
      · omega
      · rcases i with _ | i
        · have e1 : evI (p :: (w ++ y)) 0 = p := rfl
          have e2 : evI (p :: (w ++ y)) (m + 1) = evI w m := by
            have : evI (p :: (w ++ y)) (m + 1) = evI (w ++ y) m := rfl
            rw [this, evI_append hm]
          rw [e1, e2, h _ (evI_mem hm)] at hd
          cases hd
        · rw [ih i (by omega) (by omega)] at h1
          cases h1

end Go.Proofs.Ytopklnehhebhmaa
