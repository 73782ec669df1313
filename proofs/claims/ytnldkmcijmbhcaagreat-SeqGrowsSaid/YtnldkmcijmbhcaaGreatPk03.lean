import Derived.Lib.Tables
import Derived.Laws.Shifts
import Derived.Test.YtnldkmcijmbhcaaGreatPk01
import Derived.Test.YtnldkmcijmbhcaaGreatPk02

/-
  Plain data: rows of steps; steps of threads that are never dependent, in any order of threads, have the same events each. Nothing of the translation.
-/
namespace Go.Proofs.YtnldkmcijmbhcaaGreat

theorem St.ev_thread (s : St) (t : Int) (i : Ins) : (s.ev t i).thread = t := by
  unfold St.ev
  repeat' split
  all_goals rfl

theorem St.step_ok0 {s : St} {t : Int} {e : Ev} {s1 : St} (h : s.step t = (0, e, s1)) : ∃ i, s.ins t = some i ∧ s.may t = true ∧ e = s.ev t i ∧ s1 = s.do_ t i := by
  rcases s.step_cases t with ⟨i, hi, hm, e1⟩ | ⟨c, hc, e1⟩
  · rw [e1] at h
    injection h with _ h
    injection h with h1 h2
    exact ⟨i, hi, hm, h1.symm, h2.symm⟩
  · rw [e1] at h
    injection h with h _
    omega

/-- Two steps of independent events, the other way round. -/
theorem St.Ok.swap_back {F : Nat} {s : St} (h : s.Ok F) {u t : Int} {e x : Ev} {s1 s2 : St} (h1 : s.step u = (0, e, s1)) (h2 : s1.step t = (0, x, s2)) (hut : u ≠ t) (hd : dep e x = false) :
    ∃ d, s.step t = (0, x, d) ∧ d.step u = (0, e, s2) ∧ d.Ok F := by
  obtain ⟨i, hi, hm, rfl, rfl⟩ := St.step_ok0 h1
  obtain ⟨j, hj, hmj, rfl, rfl⟩ := St.step_ok0 h2
  have hnx := h.next_do hi hm (Ne.symm hut)
  obtain ⟨hhas, _, _⟩ := St.ins_has hj
  have hl : (s.do_ u i).ts.length = s.ts.length := by simp [St.do_]
  have hhas' : s.has t := by unfold St.has at hhas ⊢; rw [hl] at hhas; exact hhas
  have hj' : s.ins t = some j := by rw [← St.ins_do hi hhas' hut]; exact hj
  have hev : (s.do_ u i).ev t j = s.ev t j := h.ev_do hi hj' hm hut
  rw [hev] at hd ⊢
  have hmt : s.may t = true := by
    unfold St.may
    rw [hj']
    simp only [decide_eq_true_eq]
    intro h5
    have hf := St.may_free hj hmj h5
    rw [h.who_do hi] at hf
    split at hf
    · rename_i hx
      have := dep_muts hd (.inl hx.1) (.inl h5)
      have := (h.obj hi).2.1 (.inl hx.1)
      have := (h.obj hj').2.1 (.inl h5)
      omega
    split at hf
    · rename_i hx
      have := dep_muts hd (.inr ⟨hx.1, hx.2.1⟩) (.inl h5)
      have := (h.obj hi).2.1 (.inr hx.1)
      have := (h.obj hj').2.1 (.inl h5)
      omega
    · exact hf
  have hx : s.next u = some (s.ev u i) := by unfold St.next; rw [hi]; rfl
  have hy : s.next t = some (s.ev t j) := by unfold St.next; rw [hj']; rfl
  obtain ⟨c, d, z, s1', s2', s3', s4', _, okd, _⟩ := h.swap hx hy hm hmt hut hd
  refine ⟨d, s3', ?_, okd⟩
  rw [h1] at s1'
  injection s1' with _ q
  injection q with _ q
  subst q
  rw [h2] at s2'
  injection s2' with _ q
  injection q with _ q
  rw [s4', q]

/-- Steps that are done, one behind the other. -/
def Runs : St → List Int → List Ev → St → Prop
  | s, [], l, z => l = [] ∧ z = s
  | s, t :: row, l, z => ∃ e s1 l', s.step t = (0, e, s1) ∧ Runs s1 row l' z ∧ l = e :: l'

theorem Runs.ok {F : Nat} {row : List Int} : ∀ {s : St} {l : List Ev} {z : St}, Runs s row l z → s.Ok F → z.Ok F := by
  induction row with
  | nil => intro s l z h ok; rw [h.2]; exact ok
  | cons t row ih =>
    intro s l z h ok
    obtain ⟨e, s1, l', h1, h2, rfl⟩ := h
    have := ok.step_ok t
    rw [h1] at this
    exact ih h2 this

theorem Runs.has {row : List Int} : ∀ {s : St} {l : List Ev} {z : St}, Runs s row l z → ∀ t ∈ row, s.has t := by
  induction row with
  | nil => intro s l z _ t ht; cases ht
  | cons u row ih =>
    intro s l z h t ht
    obtain ⟨e, s1, l', h1, h2, rfl⟩ := h
    obtain ⟨i, hi, _, _, rfl⟩ := St.step_ok0 h1
    rcases List.mem_cons.1 ht with rfl | ht
    · exact (St.ins_has hi).1
    · have := ih h2 t ht
      unfold St.has at this ⊢
      simpa [St.do_] using this

theorem Runs.threads {row : List Int} : ∀ {s : St} {l : List Ev} {z : St}, Runs s row l z → l.map Ev.thread = row := by
  induction row with
  | nil => intro s l z h; rw [h.1]; rfl
  | cons u row ih =>
    intro s l z h
    obtain ⟨e, s1, l', h1, h2, rfl⟩ := h
    obtain ⟨i, _, _, rfl, rfl⟩ := St.step_ok0 h1
    simp [ih h2, St.ev_thread]

end Go.Proofs.YtnldkmcijmbhcaaGreat

/-
  Plain data: executions as rows of events; rows that are the same are done alike. Nothing of the translation.
-/
namespace Go.Proofs.YtnldkmcijmbhcaaGreat

/-- From s the events l are done, one behind the other, and z is come to. -/
def Ex : St → List Ev → St → Prop
  | s, [], z => z = s
  | s, e :: l, z => ∃ s1, s.step e.thread = (0, e, s1) ∧ Ex s1 l z

theorem ex_append {a b : List Ev} : ∀ {s z : St}, Ex s (a ++ b) z ↔ ∃ s1, Ex s a s1 ∧ Ex s1 b z := by
  induction a with
  | nil =>
    intro s z
    constructor
    · intro h; exact ⟨s, rfl, h⟩
    · rintro ⟨s1, rfl, h⟩; exact h
  | cons e a ih =>
    intro s z
    constructor
    · rintro ⟨s1, h1, h2⟩
      obtain ⟨s2, h3, h4⟩ := ih.1 h2
      exact ⟨s2, ⟨s1, h1, h3⟩, h4⟩
    · rintro ⟨s2, ⟨s1, h1, h3⟩, h4⟩
      exact ⟨s1, h1, ih.2 ⟨s2, h3, h4⟩⟩
theorem ex_det {l : List Ev} : ∀ {s z z' : St}, Ex s l z → Ex s l z' → z = z' := by
  induction l with
  | nil => intro s z z' h h'; rw [h, h']
  | cons e l ih =>
    rintro s z z' ⟨s1, h1, h2⟩ ⟨s2, h3, h4⟩
    rw [h1] at h3
    injection h3 with _ h3
    injection h3 with _ h3
    subst h3
    exact ih h2 h4
theorem Ex.ok {F : Nat} {l : List Ev} : ∀ {s z : St}, Ex s l z → s.Ok F → z.Ok F := by
  induction l with
  | nil => intro s z h ok; rw [h]; exact ok
  | cons e l ih =>
    rintro s z ⟨s1, h1, h2⟩ ok
    have := ok.step_ok e.thread
    rw [h1] at this
    exact ih h2 this
theorem step_next {s : St} {t : Int} {e : Ev} {s1 : St} (h : s.step t = (0, e, s1)) : s.next t = some e ∧ s.may t = true ∧ e.thread = t := by
  obtain ⟨i, hi, hm, rfl, rfl⟩ := St.step_ok0 h
  exact ⟨by unfold St.next; rw [hi]; rfl, hm, St.ev_thread _ _ _⟩
theorem next_step {s : St} {t : Int} {e : Ev} (h : s.next t = some e) (hm : s.may t = true) : ∃ s1, s.step t = (0, e, s1) := by
  unfold St.next at h
  obtain ⟨i, hi, rfl⟩ := Option.map_eq_some_iff.1 h
  exact ⟨_, St.step_may hi hm⟩
theorem next_thread {s : St} {t : Int} {e : Ev} (h : s.next t = some e) : e.thread = t := by
  unfold St.next at h
  obtain ⟨i, hi, rfl⟩ := Option.map_eq_some_iff.1 h
  exact St.ev_thread _ _ _
theorem step_fuel {s : St} {t : Int} {e : Ev} {s1 : St} (h : s.step t = (0, e, s1)) : s1.fuel + 1 = s.fuel := by
  obtain ⟨i, hi, hm, rfl, rfl⟩ := St.step_ok0 h
  exact St.fuel_do hi
theorem dep_ne {e f : Ev} (h : dep e f = false) : e.thread ≠ f.thread := by
  intro he
  rw [dep_thread he] at h
  cases h
theorem dep_symm' {e f : Ev} (h : dep e f = false) : dep f e = false := by rw [dep_symm]; exact h

theorem ex_two {F : Nat} {s z : St} {e f : Ev} {y : List Ev} (ok : s.Ok F) (hd : dep e f = false) (h : Ex s (e :: f :: y) z) : Ex s (f :: e :: y) z := by
  obtain ⟨s1, h1, s2, h2, h3⟩ := h
  obtain ⟨d, hd1, hd2, _⟩ := ok.swap_back h1 h2 (dep_ne hd) hd
  exact ⟨d, hd1, s2, hd2, h3⟩
theorem ex_blind {F : Nat} {s : St} (ok : s.Ok F) (z : St) : Blind (fun l => Ex s l z) := by
  intro x y e f hd
  dsimp only
  apply propext
  rw [ex_append, ex_append]
  constructor
  · rintro ⟨s1, h1, h2⟩; exact ⟨s1, h1, ex_two (h1.ok ok) hd h2⟩
  · rintro ⟨s1, h1, h2⟩; exact ⟨s1, h1, ex_two (h1.ok ok) (dep_symm' hd) h2⟩
/-- Rows that are the same are done alike, and come to the same. -/
theorem ex_sim {F : Nat} {s z : St} {a b : List Ev} (ok : s.Ok F) (h : Sim a b) : Ex s a z ↔ Ex s b z := by
  have := sim_fun _ a b (fun l => Ex s l z) rfl h (ex_blind ok z)
  exact iff_of_eq this
theorem sim_length {a b : List Ev} (h : Sim a b) : a.length = b.length := sim_fun _ a b List.length rfl h (fun x y e f _ => by simp)
theorem sim_cons (e : Ev) {a b : List Ev} (h : Sim a b) : Sim (e :: a) (e :: b) := by
  intro t
  exact sim_fun _ a b (fun l => psi (e :: l) t) rfl h (fun x y u v hd => sim_swap (x := e :: x) hd t)
theorem sim_right {a b : List Ev} (h : Sim a b) (y : List Ev) : Sim (a ++ y) (b ++ y) := by
  intro t
  exact sim_fun _ a b (fun l => psi (l ++ y) t) rfl h (fun x z u v hd => by
    dsimp only
    rw [show (x ++ u :: v :: z) ++ y = x ++ u :: v :: (z ++ y) by simp, show (x ++ v :: u :: z) ++ y = x ++ v :: u :: (z ++ y) by simp]
    exact sim_swap hd t)
/-- An event that depends on nothing ahead of it, first. -/
theorem sim_front {a b : List Ev} {p : Ev} (h : ∀ x ∈ a, dep p x = false) : Sim (a ++ p :: b) (p :: (a ++ b)) := by
  have h1 := sim_right (sim_move p a [] h) b
  rw [List.nil_append, List.nil_append] at h1
  rw [show a ++ [p] ++ b = a ++ p :: b by simp, show p :: a ++ b = p :: (a ++ b) by simp] at h1
  exact h1.symm

/-- What a thread does next stays, while it does nothing. -/
theorem ex_next {F : Nat} {l : List Ev} {u : Int} : ∀ {s z : St}, s.Ok F → Ex s l z → (∀ x ∈ l, x.thread ≠ u) → z.next u = s.next u := by
  induction l with
  | nil => intro s z _ h _; rw [h]
  | cons e l ih =>
    rintro s z ok ⟨s1, h1, h2⟩ hu
    have ok1 := ok.step_ok e.thread
    have hn := ok.next_step e.thread (u := u) (Ne.symm (hu e (by simp)))
    rw [h1] at ok1 hn
    rw [ih ok1 h2 (fun x hx => hu x (by simp [hx]))]
    exact hn
/-- What may be done, and doesn't depend on what is done, may be done ahead of it, or behind it. -/
theorem ex_comm {F : Nat} {t : Int} {p : Ev} {w : List Ev} : ∀ {s z : St}, s.Ok F → s.next t = some p → s.may t = true → Ex s w z → (∀ x ∈ w, dep p x = false) →
    z.next t = some p ∧ z.may t = true ∧ ∃ z', Ex s (p :: w) z' ∧ Ex s (w ++ [p]) z' := by
  induction w with
  | nil =>
    intro s z _ hn hm h _
    obtain rfl : z = s := h
    obtain ⟨s1, h1⟩ := next_step hn hm
    have ht := next_thread hn
    subst ht
    exact ⟨hn, hm, s1, ⟨s1, h1, rfl⟩, ⟨s1, h1, rfl⟩⟩
  | cons x w ih =>
    rintro s z ok hn hm ⟨s1, h1, h2⟩ hd
    have ht := next_thread hn
    subst ht
    have hdx := hd x (by simp)
    obtain ⟨hxn, hxm, _⟩ := step_next h1
    obtain ⟨c, d, z2, a1, a2, a3, a4, okc, _, _⟩ := ok.swap hxn hn hxm hm (dep_ne (dep_symm' hdx)) (dep_symm' hdx)
    rw [h1] at a1
    injection a1 with _ a1
    injection a1 with _ a1
    subst a1
    obtain ⟨n1, m1, _⟩ := step_next a2
    obtain ⟨r1, r2, z', r3, r4⟩ := ih okc n1 m1 h2 (fun y hy => hd y (by simp [hy]))
    exact ⟨r1, r2, z', ex_two ok (dep_symm' hdx) ⟨s1, h1, r3⟩, ⟨s1, h1, r4⟩⟩

/-- A thread that could begin. -/
def Ini (t : Int) (w : List Ev) : Prop := ∃ a p b, w = a ++ p :: b ∧ p.thread = t ∧ ∀ x ∈ a, dep p x = false

/-- In a row behind another one: what happens before what. -/
theorem evI_right (s a : List Ev) (i : Nat) : evI (s ++ a) (s.length + i) = evI a i := by
  unfold evI
  simp only [List.getD]
  rw [List.getElem?_append_right (by omega), Nat.add_sub_cancel_left]
theorem hb_right (s a : List Ev) {j : Nat} : ∀ {i : Nat}, hb (s ++ a) (s.length + i) (s.length + j) = true ↔ hb a i j = true := by
  induction j using Nat.strongRecOn with
  | _ j ih =>
    intro i
    rw [hb_def, hb_def]
    constructor
    · rintro (h | ⟨m, hm, hd, h⟩)
      · exact .inl (by omega)
      · have hle := hb_le h
        obtain ⟨m', rfl⟩ : ∃ m', m = s.length + m' := ⟨m - s.length, by omega⟩
        rw [evI_right, evI_right] at hd
        exact .inr ⟨m', by omega, hd, (ih m' (by omega)).1 h⟩
    · rintro (h | ⟨m, hm, hd, h⟩)
      · exact .inl (by omega)
      · refine .inr ⟨s.length + m, by omega, ?_, (ih m hm).2 h⟩
        rw [evI_right, evI_right]
        exact hd

/-- The first event happens before none that it doesn't lead to. -/
theorem hb_first {p : Ev} {w y : List Ev} (h : ∀ x ∈ w, dep p x = false) {m : Nat} : m < w.length → hb (p :: (w ++ y)) 0 (m + 1) = false := by
  induction m using Nat.strongRecOn with
  | _ m ih =>
    intro hm
    cases hh : hb (p :: (w ++ y)) 0 (m + 1)
    · rfl
    · exfalso
      rcases (hb_def _ _ _).1 hh with h0 | ⟨i, hi, hd, h1⟩
      · omega
      · rcases i with _ | i
        · have e1 : evI (p :: (w ++ y)) 0 = p := rfl
          have e2 : evI (p :: (w ++ y)) (m + 1) = evI w m := by
            have : evI (p :: (w ++ y)) (m + 1) = evI (w ++ y) m := rfl
            rw [this, evI_append hm]
          rw [e1, e2, h _ (evI_mem hm)] at hd
          cases hd
        · rw [ih i (by omega) (by omega)] at h1
          cases h1

end Go.Proofs.YtnldkmcijmbhcaaGreat

/- Who sleeps, plainly. -/
namespace Go.Proofs.YtnldkmcijmbhcaaGreat

/-- Of a set, as a number: which ones. -/
def bitsL (n : Nat) : List Nat := (List.range 8).filter fun t => n.testBit t
/-- Does a thread sleep behind a step of another one? -/
def childO (nx : Int → Option Ev) (asl ear : Nat) (t : Int) (u : Nat) : Bool := match nx t with
  | none => false
  | some e => match nx (u : Int) with
    | none => false
    | some x => decide ((u : Int) ≠ t) && (asl.testBit u || ear.testBit u) && !dep x e
/-- Which ones, of the first k. -/
def childTo (nx : Int → Option Ev) (asl ear : Nat) (t : Int) (k : Nat) : List Nat := (List.range k).filter (childO nx asl ear t)
def childB (s : St) (asl ear : Nat) (t : Int) (u : Nat) : Bool := childO s.next asl ear t u
theorem childB_iff {s : St} {asl ear : Nat} {t : Int} {u : Nat} : childB s asl ear t u = true ↔ ∃ e x, s.next t = some e ∧ s.next (u : Int) = some x ∧ (u : Int) ≠ t ∧ (asl.testBit u || ear.testBit u) = true ∧ dep x e = false := by
  unfold childB childO
  cases h1 : s.next t with
  | none => simp
  | some e =>
    cases h2 : s.next (u : Int) with
    | none => simp
    | some x =>
      simp only [Bool.and_eq_true, decide_eq_true_eq, Bool.not_eq_true', Option.some.injEq]
      constructor
      · rintro ⟨⟨h3, h4⟩, h5⟩
        exact ⟨e, x, rfl, rfl, h3, h4, h5⟩
      · rintro ⟨e', x', rfl, rfl, h3, h4, h5⟩
        exact ⟨⟨h3, h4⟩, h5⟩
end Go.Proofs.YtnldkmcijmbhcaaGreat

/- Numbers as integers; a row of one's own is one from any earlier size on. -/
namespace Go.Proofs.YtnldkmcijmbhcaaGreat
open Go.RowKit

def ints (l : List Nat) : List Int := l.map fun (i : Nat) => (i : Int)
theorem ints_len (l : List Nat) : (ints l).length = l.length := by simp [ints]
theorem ownN_low {w : World} {B A : Nat} {v : Value} {l : List Int} (h : OwnN w B v l) (hA : A ≤ B) : OwnN w A v l := by
  obtain ⟨h1, h2 | ⟨g, cap, cur, h2, h3, h4⟩⟩ := h
  · exact ⟨h1, .inl h2⟩
  · exact ⟨h1, .inr ⟨g, cap, cur, h2, by omega, h4⟩⟩

theorem ints_app (a b : List Nat) : ints (a ++ b) = ints a ++ ints b := by simp [ints]
theorem ints_get {l : List Nat} {i : Nat} (h : i < l.length) : (ints l)[i]'(by rw [ints_len]; exact h) = (l[i] : Int) := by simp [ints]
theorem ints_mem {l : List Nat} {i : Nat} : (i : Int) ∈ ints l ↔ i ∈ l := by
  unfold ints
  rw [List.mem_map]
  constructor
  · rintro ⟨j, hj, e⟩
    have : j = i := by omega
    subst this
    exact hj
  · intro h
    exact ⟨i, h, rfl⟩

end Go.Proofs.YtnldkmcijmbhcaaGreat

/- Sets of threads as numbers below 256: one more, one less, of a list, how many. -/
namespace Go.Proofs.YtnldkmcijmbhcaaGreat

/-- The set of one thread; nobody, if a set can't be of it. -/
def aloneN (t : Int) : Nat := if 0 ≤ t ∧ t < 8 then 2 ^ t.toNat else 0
theorem aloneN_lt (t : Int) : aloneN t < 256 := by
  unfold aloneN
  split
  · rename_i h
    have h8 : t.toNat < 8 := by omega
    exact Nat.pow_lt_pow_right (a := 2) (n := 8) (by omega) h8
  · omega
theorem testBit_alone {t : Int} {i : Nat} (hi : i < 8) : (aloneN t).testBit i = decide (t = i) := by
  unfold aloneN
  split
  · rename_i h
    rw [Nat.testBit_two_pow]
    by_cases e : t = i
    · subst e; simp
    · have e2 : ¬ (t.toNat = i) := by omega
      simp [e, e2]
  · rename_i h
    rw [Nat.zero_testBit]
    symm
    simp only [decide_eq_false_iff_not]
    omega
/-- Is a thread of a set? -/
def hasB (n : Nat) (t : Int) : Bool := decide (0 ≤ t ∧ t < 8) && n.testBit t.toNat
theorem hasB_nat (n : Nat) {i : Nat} (hi : i < 8) : hasB n (i : Int) = n.testBit i := by
  unfold hasB
  have h : (0 : Int) ≤ i ∧ (i : Int) < 8 := by omega
  simp [h]
theorem and_alone (n : Nat) (t : Int) : (n &&& aloneN t = 0) ↔ hasB n t = false := by
  unfold hasB
  by_cases h : 0 ≤ t ∧ t < 8
  · have e : aloneN t = 2 ^ t.toNat := by unfold aloneN; rw [if_pos h]
    rw [e]
    simp only [h, and_self, decide_true, Bool.true_and]
    constructor
    · intro h0
      have := congrArg (fun m => Nat.testBit m t.toNat) h0
      simpa [Nat.testBit_and, Nat.testBit_two_pow] using this
    · intro h0
      apply Nat.eq_of_testBit_eq
      intro j
      rw [Nat.testBit_and, Nat.testBit_two_pow, Nat.zero_testBit]
      by_cases e : t.toNat = j
      · subst e; simp [h0]
      · simp [e]
  · have e : aloneN t = 0 := by unfold aloneN; rw [if_neg h]
    rw [e]
    simp [h]
/-- One more, one less. -/
def wt (n : Nat) (t : Int) : Nat := n ||| aloneN t
def wl (n : Nat) (t : Int) : Nat := wo n (aloneN t)
theorem or_lt8 {n m : Nat} (hn : n < 256) (hm : m < 256) : n ||| m < 256 := Nat.or_lt_two_pow (n := 8) hn hm
theorem wt_lt {n : Nat} (hn : n < 256) (t : Int) : wt n t < 256 := or_lt8 hn (aloneN_lt t)
theorem wl_lt {n : Nat} (hn : n < 256) (t : Int) : wl n t < 256 := wo_lt _ _ hn
theorem testBit_wt {n : Nat} {t : Int} {i : Nat} (hi : i < 8) : (wt n t).testBit i = (n.testBit i || decide (t = i)) := by
  unfold wt
  rw [Nat.testBit_or, testBit_alone hi]
theorem testBit_wl {n : Nat} (hn : n < 256) {t : Int} {i : Nat} (hi : i < 8) : (wl n t).testBit i = (n.testBit i && !decide (t = i)) := by
  unfold wl
  rw [testBit_wo hn (aloneN_lt t), testBit_alone hi]
/-- Of a list. -/
def ofN (l : List Int) : Nat := l.foldl wt 0
theorem foldl_wt_lt (l : List Int) : ∀ {n : Nat}, n < 256 → l.foldl wt n < 256 := by
  induction l with
  | nil => intro n h; exact h
  | cons t l ih => intro n h; exact ih (wt_lt h t)
theorem ofN_lt (l : List Int) : ofN l < 256 := foldl_wt_lt l (by omega)
theorem ofN_snoc (l : List Int) (t : Int) : ofN (l ++ [t]) = wt (ofN l) t := by
  unfold ofN
  rw [List.foldl_append]
  rfl
theorem testBit_foldl (l : List Int) {i : Nat} (hi : i < 8) : ∀ n : Nat, (l.foldl wt n).testBit i = (n.testBit i || decide ((i : Int) ∈ l)) := by
  induction l with
  | nil => intro n; simp
  | cons t l ih =>
    intro n
    rw [List.foldl_cons, ih, testBit_wt hi]
    by_cases e : t = (i : Int)
    · subst e; simp
    · have e2 : ¬ ((i : Int) = t) := fun h => e h.symm
      simp [e, e2]
theorem testBit_ofN (l : List Int) {i : Nat} (hi : i < 8) : (ofN l).testBit i = decide ((i : Int) ∈ l) := by
  unfold ofN
  rw [testBit_foldl l hi]
  simp
/-- Which ones, of the first k. -/
def bitsTo (n k : Nat) : List Nat := (List.range k).filter fun t => n.testBit t
theorem bitsTo_yes {n k : Nat} (h : n.testBit k = true) : bitsTo n (k + 1) = bitsTo n k ++ [k] := by
  unfold bitsTo
  rw [List.range_succ, List.filter_append]
  simp [h]
theorem bitsTo_no {n k : Nat} (h : n.testBit k = false) : bitsTo n (k + 1) = bitsTo n k := by
  unfold bitsTo
  rw [List.range_succ, List.filter_append]
  simp [h]
theorem bitsTo_len (n k : Nat) : (bitsTo n k).length ≤ k := by
  unfold bitsTo
  refine Nat.le_trans (List.length_filter_le _ _) ?_
  rw [List.length_range]
  exact Nat.le_refl _
theorem bitsL_len (n : Nat) : (bitsL n).length ≤ 8 := bitsTo_len n 8
theorem mem_bits {n i : Nat} : i ∈ bitsL n ↔ i < 8 ∧ n.testBit i = true := by
  unfold bitsL
  rw [List.mem_filter, List.mem_range]
end Go.Proofs.YtnldkmcijmbhcaaGreat

/- The contracts of sleep's sets. -/
namespace Go.Proofs.YtnldkmcijmbhcaaGreat
open Go.RowKit

theorem alone_mid : ∀ k : Fin 8, (2 : Int) ^ k.val % 256 = ((aloneN (k.val : Int) : Nat) : Int) := by decide +kernel
set_option maxRecDepth 100000 in
theorem alone_any (t : Int) (w : World) : Calls Tryz.prog 66 #[.int .i64 t] w fun r w' => r = .returned (.int .u8 (aloneN t : Nat)) ∧ w = w' := by
  by_cases h0 : t < 0
  · have HA : Hid (aloneN t = 0) := by show _ = _; unfold aloneN; rw [if_neg (by omega)]
    go_enter Tryz.func66, Tryz.ntmps66
    go_wp2
    go_ret
    exact ⟨by rw [HA.out]; rfl, rfl⟩
  · by_cases h8 : t < 8
    · obtain ⟨k, rfl⟩ : ∃ k : Nat, t = k := ⟨t.toNat, by omega⟩
      have HA := Lib.hid (alone_mid ⟨k, by omega⟩)
      have h9 : ¬ ((k : Int) ≥ 8) := by omega
      go_enter Tryz.func66, Tryz.ntmps66
      go_wp2
      go_ret
      exact ⟨by rw [← HA.out]; rfl, rfl⟩
    · have HA : Hid (aloneN t = 0) := by show _ = _; unfold aloneN; rw [if_neg (by omega)]
      have h9 : t ≥ 8 := by omega
      go_enter Tryz.func66, Tryz.ntmps66
      go_wp2
      go_ret
      exact ⟨by rw [HA.out]; rfl, rfl⟩

set_option maxRecDepth 100000 in
theorem has_any {n : Nat} (hn : n < 256) (t : Int) (w : World) : Calls Tryz.prog 62 #[.int .u8 n, .int .i64 t] w fun r w' => r = .returned (.bool (hasB n t)) ∧ w = w' := by
  have HQ : Hid (bits .and .u8 (n : Int) (aloneN t : Int) = ((n &&& aloneN t : Nat) : Int)) := bits_and_u8 n (aloneN t) hn (aloneN_lt t)
  have HB : Hid ((((n &&& aloneN t : Nat) : Int) != 0) = hasB n t) := by
    show _ = _
    have := and_alone n t
    cases hb : hasB n t
    · rw [this.2 hb]; rfl
    · rw [bne_iff_ne]
      intro h0
      rw [this.1 (by omega)] at hb
      cases hb
  go_enter Tryz.func62, Tryz.ntmps62
  go_wp2_with fail
  refine (alone_any t w).mono ?_
  rintro r w' ⟨rfl, rfl⟩
  go_wp2
  go_ret
  exact ⟨by rw [HQ.out, HB.out]; rfl, rfl⟩

set_option maxRecDepth 100000 in
theorem with_any {n : Nat} (hn : n < 256) (t : Int) (w : World) : Calls Tryz.prog 42 #[.int .u8 n, .int .i64 t] w fun r w' => r = .returned (.int .u8 (wt n t : Nat)) ∧ w = w' := by
  have HQ : Hid (bits .or .u8 (n : Int) (aloneN t : Int) = ((wt n t : Nat) : Int)) := bits_or_u8 n (aloneN t) hn (aloneN_lt t)
  go_enter Tryz.func42, Tryz.ntmps42
  go_wp2_with fail
  refine (alone_any t w).mono ?_
  rintro r w' ⟨rfl, rfl⟩
  go_wp2
  go_ret
  exact ⟨by rw [HQ.out]; rfl, rfl⟩

set_option maxRecDepth 100000 in
theorem without_any {n : Nat} (hn : n < 256) (t : Int) (w : World) : Calls Tryz.prog 70 #[.int .u8 n, .int .i64 t] w fun r w' => r = .returned (.int .u8 (wl n t : Nat)) ∧ w = w' := by
  have HQ : Hid (bits .andNot .u8 (n : Int) (aloneN t : Int) = ((wl n t : Nat) : Int)) := bits_andNot_u8 n (aloneN t) hn (aloneN_lt t)
  go_enter Tryz.func70, Tryz.ntmps70
  go_wp2_with fail
  refine (alone_any t w).mono ?_
  rintro r w' ⟨rfl, rfl⟩
  go_wp2
  go_ret
  exact ⟨by rw [HQ.out]; rfl, rfl⟩

set_option maxRecDepth 100000 in
theorem union_any {n m : Nat} (hn : n < 256) (hm : m < 256) (w : World) : Calls Tryz.prog 69 #[.int .u8 n, .int .u8 m] w fun r w' => r = .returned (.int .u8 (n ||| m : Nat)) ∧ w = w' := by
  have HQ := Lib.hid (bits_or_u8 n m hn hm)
  go_enter Tryz.func69, Tryz.ntmps69
  go_wp2
  go_ret
  exact ⟨by rw [HQ.out]; rfl, rfl⟩

set_option maxRecDepth 100000 in
set_option maxHeartbeats 1000000 in
theorem of_any (a : Option Addr) (cap : Nat) (l : List Int) (w : World) (hl : NumsAt w a l) (hm : l.length ≤ 1000) :
    Calls Tryz.prog 21 #[.slice a l.length cap] w fun r w' => r = .returned (.int .u8 (ofN l : Nat)) ∧ w = w' := by
  have HL := Lib.hid hl
  clear hl
  go_enter Tryz.func21, Tryz.ntmps21
  go_wp2
  go_loopw [3, 8] (fun z i wr => ∃ k : Nat, k ≤ l.length ∧ i = .int .i64 k ∧ z = .int .u8 (ofN (l.take k) : Nat) ∧ wr = w) (fun _ i _ => l.length - (intOf i).toNat)
  case atStart => exact ⟨0, Nat.zero_le _, rfl, rfl, rfl⟩
  case round =>
    obtain ⟨k, hk, rfl, rfl, rfl⟩ := hrel
    by_cases hlt : k < l.length
    · obtain ⟨b, o, rfl, hc⟩ := HL.out.2 (by intro e; simp [e] at hlt)
      have hck := hc k hlt
      have HT : Hid (ofN (l.take (k + 1)) = wt (ofN (l.take k)) l[k]) := by
        show _ = _
        rw [List.take_succ_eq_append_getElem hlt, ofN_snoc]
      go_wp2_with fail
      refine (with_any (ofN_lt _) _ _).mono ?_
      rintro r w' ⟨rfl, rfl⟩
      go_wp2
      go_roundw
      case rel => exact ⟨k + 1, by omega, by go_num, by rw [HT.out], by trivial⟩
      case measure => simp [intOf]; omega
    · obtain rfl : k = l.length := by omega
      go_wp2
      go_ret
      exact ⟨by rw [List.take_length]; rfl, rfl⟩

set_option maxRecDepth 100000 in
set_option maxHeartbeats 1000000 in
theorem setAll_any {n : Nat} (hn : n < 256) (w : World) :
    Calls Tryz.prog 67 #[.int .u8 n] w fun r w' => ∃ v, r = .returned v ∧ OwnN w' w.heap.size v (ints (bitsL n)) ∧ Below w.heap.size w w' := by
  go_enter Tryz.func67, Tryz.ntmps67
  go_wp2
  go_loopw [3, 5] (fun l i wr => ∃ k : Nat, k ≤ 8 ∧ i = .int .i64 k ∧ OwnN wr w.heap.size l (ints (bitsTo n k)) ∧ Below w.heap.size w wr) (fun _ i _ => 8 - (intOf i).toNat)
  case atStart => exact ⟨0, Nat.zero_le _, rfl, ownN_nil _ _, Below.refl _ _⟩
  case round =>
    obtain ⟨k, hk, rfl, hown, hb⟩ := hrel
    by_cases hlt : k < 8
    · have hle := bitsTo_len n k
      rw [← ints_len] at hle
      have hz := hb.size
      have HH := Lib.hid (hasB_nat n hlt)
      have HY := Lib.hid (bitsTo_yes (n := n) (k := k))
      have HN := Lib.hid (bitsTo_no (n := n) (k := k))
      go_wp2_with fail
      refine (has_any hn (k : Int) wr).mono ?_
      rintro r w' ⟨rfl, rfl⟩
      rw [HH.out]
      cases hm : n.testBit k
      · have HR := Lib.hid (HN.out hm)
        clear hm
        go_wp2
        go_roundw
        case rel => exact ⟨k + 1, by omega, by go_num, by rw [HR.out]; exact hown, hb⟩
        case measure => simp [intOf]; omega
      · have HR : Hid (ints (bitsTo n (k + 1)) = ints (bitsTo n k) ++ [(k : Int)]) := by
          show _ = _
          rw [HY.out hm, ints_app]; rfl
        clear hm
        go_wp2_with (at_builtin; refine wp_appendN rfl (.tmp 11) (.tmp 13) rfl w.heap.size _ (ints (bitsTo n k)) rfl (hown.alloc _) ⟨wr.heap.size, 0, none⟩ 1 1 rfl [(k : Int)] rfl (nums_new wr [(k : Int)] _ _ rfl) (by simp; omega) (by simp; omega) ?_; intro v1 w2 hown2 hb3 _)
        have hb4 := (hb.alloc hz _).trans hb3
        go_roundw
        case rel => exact ⟨k + 1, by omega, by go_num, by rw [HR.out]; exact hown2, hb4⟩
        case measure => simp [intOf]; omega
    · obtain rfl : k = 8 := by omega
      go_wp2
      go_ret
      exact ⟨_, rfl, hown, hb⟩

end Go.Proofs.YtnldkmcijmbhcaaGreat

/- The contracts of may, Next, Enabled. -/
namespace Go.Proofs.YtnldkmcijmbhcaaGreat
open Go.RowKit

/-- May an event be done? -/
def St.free (s : St) (e : Ev) : Bool := e.kind != 4 || s.who e.obj == -1

set_option maxRecDepth 100000 in
set_option maxHeartbeats 1000000 in
theorem may_any {s : St} {b : Nat} {w : World} (h : StAt w b s) (e : Ev) (h4 : e.kind = 4 → 0 ≤ e.obj ∧ e.obj < 2) :
    Calls Tryz.prog 74 #[.pointer (some ⟨b, 0, none⟩), evV e] w fun r w' => r = .returned (.bool (s.free e)) ∧ Below w.heap.size w w' := by
  have hbl := h.lt
  have H := Lib.hid h
  clear h
  obtain ⟨t, k, o, f⟩ := e
  unfold evV
  dsimp only at *
  by_cases hk : k = 4
  · subst hk
    obtain ⟨hx0, hx2⟩ := h4 rfl
    obtain ⟨y, rfl⟩ : ∃ y : Nat, o = y := ⟨o.toNat, by omega⟩
    have hy : y < 2 := by omega
    have c0 := H.out.num (154 + y) (by omega)
    rw [stNum_who] at c0
    have hv : s.m.getD y (-1) = s.who y := rfl
    rw [hv] at c0
    clear hv
    have hfr : s.free ⟨t, 4, y, f⟩ = (s.who y == -1) := by simp [St.free]
    rw [hfr]
    clear hfr h4 hx0 hx2
    generalize s.who y = g at *
    go_enter Tryz.func74, Tryz.ntmps74
    go_wp2
    go_quiet (fail)
    go_wp2
    go_ret
    exact ⟨rfl, (below_alloc1 w _).drewN⟩
  · have hq : (k != 4) = true := by simpa using hk
    have hfr : s.free ⟨t, k, o, f⟩ = true := by simp [St.free, hk]
    rw [hfr]
    clear hfr h4 hk
    go_enter Tryz.func74, Tryz.ntmps74
    go_wp2
    go_quiet (fail)
    go_wp2
    go_ret
    exact ⟨rfl, (below_alloc1 w _).drewN⟩

theorem evR_none : evR none = .tuple #[.agg #[.int .i64 0, .int .i64 0, .int .i64 0, .bool false], .bool false] := rfl
theorem evR_some (e : Ev) : evR (some e) = .tuple #[.agg #[.int .i64 e.thread, .int .i64 e.kind, .int .i64 e.obj, .bool e.fail], .bool true] := rfl

theorem St.ins_nat {s : St} {t : Int} {i : Ins} (h : s.ins t = some i) : ∃ k : Nat, t = k ∧ k < s.ts.length := by
  have := (St.ins_has h).1
  unfold St.has at this
  exact ⟨t.toNat, by omega, by omega⟩

theorem event_of {F : Nat} {s : St} {b : Nat} {w : World} (h : StAt w b s) (ok : s.Ok F) {t : Nat} {i : Ins} (hi : s.ins t = some i) :
    Calls Tryz.prog 73 #[.pointer (some ⟨b, 0, none⟩), .int .i64 t, .agg #[.int .i64 i.kind, .int .i64 i.r, .int .i64 i.x, .int .i64 i.n]] w fun r w' => r = .returned (evV (s.ev t i)) ∧ Below w.heap.size w w' := by
  obtain ⟨k, e, hk⟩ := St.ins_nat hi
  obtain ⟨o1, o2, o3, o4, o5, o6⟩ := ok.obj hi
  exact event_any h ok t (by omega) i (fun h => o2 (.inr h)) (fun _ => ⟨o4, o5⟩)

set_option maxRecDepth 100000 in
set_option maxHeartbeats 1000000 in
theorem next_any {F : Nat} {s : St} {b : Nat} {w : World} (h : StAt w b s) (ok : s.Ok F) (t : Int) :
    Calls Tryz.prog 58 #[.pointer (some ⟨b, 0, none⟩), .int .i64 t] w fun r w' => r = .returned (evR (s.next t)) ∧ Below w.heap.size w w' := by
  have H := Lib.hid h
  have OK := Lib.hid ok
  clear h ok
  cases hi : s.ins t with
  | none =>
    have hn : s.next t = none := by unfold St.next; rw [hi]; rfl
    rw [hn, evR_none]
    have HI := Lib.hid hi
    clear hn hi
    go_enter Tryz.func58, Tryz.ntmps58
    go_wp2_with fail
    refine (instr_any (H.out.later (below_alloc1 _ _)) OK.out t).mono ?_
    rw [HI.out, insR_none]
    rintro r w1 ⟨rfl, hb1⟩
    have hw1 : Below w.heap.size w w1 := (below_alloc1 w _).trans (hb1.mono (by simp))
    have hz : w.heap.size < w1.heap.size := by have := hb1.size; simp at this; omega
    have hc : ∀ o, w1.cell? ⟨w.heap.size, o, none⟩ = (w.alloc (.cells #[.int .i64 0, .int .i64 0, .int .i64 0, .bool false] 81)).cell? ⟨w.heap.size, o, none⟩ := fun o => hb1.cell (p := ⟨w.heap.size, o, none⟩) (by simp)
    have hf : ∀ o, w1.frozen? ⟨w.heap.size, o, none⟩ = (w.alloc (.cells #[.int .i64 0, .int .i64 0, .int .i64 0, .bool false] 81)).frozen? ⟨w.heap.size, o, none⟩ := fun o => hb1.frozen (p := ⟨w.heap.size, o, none⟩) (by simp)
    clear hb1
    go_wp2
    refine bodyPost_ret (v := .tuple #[.agg #[.int .i64 0, .int .i64 0, .int .i64 0, .bool false], .bool false]) (by simp [results, Tryz.results58, go_sem, hc, hz]) rfl ⟨rfl, ?_⟩
    exact (below_set4 hw1 (Nat.le_refl _) _ _ _ _).alloc (by simp [World.setCell]; omega) _
  | some i =>
    obtain ⟨k, rfl, hk⟩ := St.ins_nat hi
    have hn : s.next k = some (s.ev k i) := by unfold St.next; rw [hi]; rfl
    rw [hn, evR_some]
    have HI := Lib.hid hi
    clear hn hi
    go_enter Tryz.func58, Tryz.ntmps58
    go_wp2_with fail
    refine (instr_any (H.out.later (below_alloc1 _ _)) OK.out k).mono ?_
    rw [HI.out, insR_some]
    rintro r w1 ⟨rfl, hb1⟩
    have hw1 : Below w.heap.size w w1 := (below_alloc1 w _).trans (hb1.mono (by simp))
    have hz : w.heap.size < w1.heap.size := by have := hb1.size; simp at this; omega
    have hc : ∀ o, w1.cell? ⟨w.heap.size, o, none⟩ = (w.alloc (.cells #[.int .i64 0, .int .i64 0, .int .i64 0, .bool false] 81)).cell? ⟨w.heap.size, o, none⟩ := fun o => hb1.cell (p := ⟨w.heap.size, o, none⟩) (by simp)
    have hf : ∀ o, w1.frozen? ⟨w.heap.size, o, none⟩ = (w.alloc (.cells #[.int .i64 0, .int .i64 0, .int .i64 0, .bool false] 81)).frozen? ⟨w.heap.size, o, none⟩ := fun o => hb1.frozen (p := ⟨w.heap.size, o, none⟩) (by simp)
    clear hb1
    go_wp2_with fail
    refine (event_of ((H.out.later hw1).later (below_alloc1 _ _)) OK.out HI.out).mono ?_
    unfold evV
    rintro r w2 ⟨rfl, hb2⟩
    have hw2 : Below w1.heap.size w1 w2 := (below_alloc1 w1 _).trans (hb2.mono (by simp))
    have hz2 : w1.heap.size < w2.heap.size := by have := hb2.size; simp at this; omega
    have hz3 : w.heap.size < w2.heap.size := by omega
    have hc2 : ∀ o, w2.cell? ⟨w.heap.size, o, none⟩ = w1.cell? ⟨w.heap.size, o, none⟩ := fun o => hw2.cell (p := ⟨w.heap.size, o, none⟩) hz
    have hf2 : ∀ o, w2.frozen? ⟨w.heap.size, o, none⟩ = w1.frozen? ⟨w.heap.size, o, none⟩ := fun o => hw2.frozen (p := ⟨w.heap.size, o, none⟩) hz
    clear hb2
    go_wp2
    refine bodyPost_ret (v := .tuple #[.agg #[.int .i64 (s.ev k i).thread, .int .i64 (s.ev k i).kind, .int .i64 (s.ev k i).obj, .bool (s.ev k i).fail], .bool true]) (by simp [results, Tryz.results58, go_sem, hc, hc2]) rfl ⟨rfl, ?_⟩
    exact below_set4 (hw1.trans (hw2.mono (by omega))) (Nat.le_refl _) _ _ _ _

theorem St.may_eq {F : Nat} {s : St} (ok : s.Ok F) (t : Int) : s.may t = match s.next t with | none => false | some e => s.free e := by
  unfold St.may St.next
  cases hi : s.ins t with
  | none => rfl
  | some i =>
    simp only [Option.map_some]
    obtain ⟨o1, o2, o3, o4, o5, o6⟩ := ok.obj hi
    by_cases h5 : i.kind = 5
    · have ev : s.ev t i = ⟨t, 4, i.x, false⟩ := by unfold St.ev; rw [if_neg (by omega), if_neg (by omega), if_pos h5]
      have hx := o2 (.inl h5)
      have hk : i.x.toNat < s.m.length := by have := ok.ml; omega
      have hmm := ok.mm (s.who i.x) (by unfold St.who; rw [getD_lt _ hk]; exact List.getElem_mem hk)
      rw [ev, Bool.eq_iff_iff]
      simp [St.free, h5]
      omega
    · have : (s.ev t i).kind ≠ 4 := by
        unfold St.ev
        repeat' split
        all_goals (first | omega | (simp; done))
      simp [St.free, h5, this]

theorem ev_obj {F : Nat} {s : St} (ok : s.Ok F) {t : Int} {i : Ins} (hi : s.ins t = some i) (h : (s.ev t i).kind = 4) : 0 ≤ (s.ev t i).obj ∧ (s.ev t i).obj < 2 := by
  obtain ⟨o1, o2, o3, o4, o5, o6⟩ := ok.obj hi
  by_cases h5 : i.kind = 5
  · have ev : s.ev t i = ⟨t, 4, i.x, false⟩ := by unfold St.ev; rw [if_neg (by omega), if_neg (by omega), if_pos h5]
    rw [ev]
    exact o2 (.inl h5)
  · exfalso
    revert h
    unfold St.ev
    repeat' split
    all_goals (first | omega | (simp; done))

theorem next_obj {F : Nat} {s : St} (ok : s.Ok F) {t : Int} {e : Ev} (he : s.next t = some e) (h : e.kind = 4) : 0 ≤ e.obj ∧ e.obj < 2 := by
  unfold St.next at he
  obtain ⟨i, hi, rfl⟩ := Option.map_eq_some_iff.1 he
  exact ev_obj ok hi h

theorem may_of {F : Nat} {s : St} {b : Nat} {w : World} (h : StAt w b s) (ok : s.Ok F) {t : Int} {e : Ev} (he : s.next t = some e) :
    Calls Tryz.prog 74 #[.pointer (some ⟨b, 0, none⟩), .agg #[.int .i64 e.thread, .int .i64 e.kind, .int .i64 e.obj, .bool e.fail]] w fun r w' => r = .returned (.bool (s.may t)) ∧ Below w.heap.size w w' := by
  have := may_any h e (next_obj ok he)
  rw [St.may_eq ok, he]
  exact this

end Go.Proofs.YtnldkmcijmbhcaaGreat

/- The contracts of Enabled, All. -/
namespace Go.Proofs.YtnldkmcijmbhcaaGreat
open Go.RowKit

set_option maxRecDepth 100000 in
set_option maxHeartbeats 1000000 in
theorem enabled_any {F : Nat} {s : St} {b : Nat} {w : World} (h : StAt w b s) (ok : s.Ok F) (t : Int) :
    Calls Tryz.prog 60 #[.pointer (some ⟨b, 0, none⟩), .int .i64 t] w fun r w' => r = .returned (.bool (s.may t)) ∧ Below w.heap.size w w' := by
  have H := Lib.hid h
  have OK := Lib.hid ok
  clear h ok
  cases hn : s.next t with
  | none =>
    have hm : s.may t = false := by rw [St.may_eq OK.out, hn]
    rw [hm]
    have HN := Lib.hid hn
    clear hn hm
    go_enter Tryz.func60, Tryz.ntmps60
    go_wp2_with fail
    refine (next_any H.out OK.out t).mono ?_
    rw [HN.out, evR_none]
    rintro r w1 ⟨rfl, hb1⟩
    have hz := hb1.size
    go_wp2
    go_ret
    exact ⟨rfl, hb1.alloc hz _⟩
  | some e =>
    have HN := Lib.hid hn
    clear hn
    go_enter Tryz.func60, Tryz.ntmps60
    go_wp2_with fail
    refine (next_any H.out OK.out t).mono ?_
    rw [HN.out, evR_some]
    rintro r w1 ⟨rfl, hb1⟩
    have hz := hb1.size
    have H2 := Lib.hid ((H.out.later hb1).later (below_alloc1 w1 (.cells #[.int .i64 e.thread, .int .i64 e.kind, .int .i64 e.obj, .bool e.fail] 81)))
    have hb2 := hb1.alloc hz (.cells #[.int .i64 e.thread, .int .i64 e.kind, .int .i64 e.obj, .bool e.fail] 81)
    clear hb1
    go_wp2_with fail
    refine (may_of H2.out OK.out HN.out).mono ?_
    rintro r w2 ⟨rfl, hb3⟩
    have hb4 := hb2.trans (hb3.mono (by simp; omega))
    clear hb2 hb3
    go_wp2
    go_ret
    exact ⟨rfl, hb4⟩

def St.allTo (s : St) (k : Nat) : List Int := ((List.range k).map Int.ofNat).filter s.may
theorem St.allTo_succ (s : St) (k : Nat) : s.allTo (k + 1) = s.allTo k ++ if s.may k = true then [(k : Int)] else [] := by
  unfold St.allTo
  rw [List.range_succ, List.map_append, List.filter_append]
  congr 1
  have e : Int.ofNat k = (k : Int) := rfl
  by_cases h : s.may k = true
  · simp [h]
  · simp [h]
theorem St.allTo_le (s : St) (k : Nat) : (s.allTo k).length ≤ k := by
  unfold St.allTo
  exact Nat.le_trans (List.length_filter_le _ _) (by simp)

set_option maxRecDepth 100000 in
set_option maxHeartbeats 1000000 in
theorem all_any {F : Nat} {s : St} {b : Nat} {w : World} (h : StAt w b s) (ok : s.Ok F) :
    Calls Tryz.prog 37 #[.pointer (some ⟨b, 0, none⟩)] w fun r w' => ∃ v, r = .returned v ∧ OwnN w' w.heap.size v s.all ∧ Below w.heap.size w w' := by
  have h4 := ok.len4
  have H := Lib.hid h
  have OK := Lib.hid ok
  clear h ok
  go_enter Tryz.func37, Tryz.ntmps37
  go_wp2_with (go_at_call 57; refine (threads_any H.out).mono ?_; rintro r w' ⟨rfl, rfl⟩)
  go_loopw [3, 7] (fun l i wr => ∃ k : Nat, k ≤ s.ts.length ∧ i = .int .i64 k ∧ OwnN wr w.heap.size l (s.allTo k) ∧ Below w.heap.size w wr) (fun _ i _ => s.ts.length - (intOf i).toNat)
  case atStart => exact ⟨0, Nat.zero_le _, rfl, ownN_nil _ _, Below.refl _ _⟩
  case round =>
    obtain ⟨k, hk, rfl, hown, hb⟩ := hrel
    by_cases hlt : k < s.ts.length
    · have hle := s.allTo_le k
      have HS := Lib.hid (s.allTo_succ k)
      go_wp2_with fail
      refine (enabled_any (H.out.later hb) OK.out k).mono ?_
      rintro r w1 ⟨rfl, hb1⟩
      have hb2 := hb.trans (hb1.mono hb.size)
      have hown1 := hown.later hb1
      have hz := hb2.size
      clear hown hb hb1
      cases hm : s.may k
      · have HR : Hid (s.allTo (k + 1) = s.allTo k) := by
          show _ = _
          rw [HS.out, hm]; simp
        clear hm
        go_wp2
        go_roundw
        case rel => exact ⟨k + 1, by omega, by go_num, by rw [HR.out]; exact hown1, hb2⟩
        case measure => simp [intOf]; omega
      · have HR : Hid (s.allTo (k + 1) = s.allTo k ++ [(k : Int)]) := by
          show _ = _
          rw [HS.out, hm]; simp
        clear hm
        go_wp2_with (at_builtin; refine wp_appendN rfl (.tmp 13) (.tmp 15) rfl w.heap.size _ (s.allTo k) rfl (hown1.alloc _) ⟨w1.heap.size, 0, none⟩ 1 1 rfl [(k : Int)] rfl (nums_new w1 [(k : Int)] _ _ rfl) (by simp; omega) (by simp; omega) ?_; intro v1 w2 hown2 hb3 _)
        have hb4 := (hb2.alloc hz _).trans hb3
        go_roundw
        case rel => exact ⟨k + 1, by omega, by go_num, by rw [HR.out]; exact hown2, hb4⟩
        case measure => simp [intOf]; omega
    · obtain rfl : k = s.ts.length := by omega
      go_wp2
      go_ret
      exact ⟨_, rfl, hown, hb⟩

end Go.Proofs.YtnldkmcijmbhcaaGreat

/- Who sleeps, of sets as numbers. -/
namespace Go.Proofs.YtnldkmcijmbhcaaGreat

/-- Does a thread do something next that doesn't depend on an event? -/
def apart (nx : Int → Option Ev) (e : Ev) (u : Nat) : Bool := match nx (u : Int) with
  | none => false
  | some x => !dep e x
theorem apart_none {nx : Int → Option Ev} {e : Ev} {u : Nat} (h : nx (u : Int) = none) : apart nx e u = false := by unfold apart; rw [h]
theorem apart_some {nx : Int → Option Ev} {e x : Ev} {u : Nat} (h : nx (u : Int) = some x) : apart nx e u = !dep e x := by unfold apart; rw [h]
theorem child_all {nx : Int → Option Ev} {e : Ev} {asl ear : Nat} {t : Int} (h : nx t = some e) (ha : asl < 256) (he : ear < 256) :
    (bitsL (wl (asl ||| ear) t)).filter (apart nx e) = childTo nx asl ear t 8 := by
  unfold bitsL childTo
  rw [List.filter_filter]
  refine List.filter_congr fun u hu => ?_
  have hu8 : u < 8 := List.mem_range.1 hu
  rw [testBit_wl (or_lt8 ha he) hu8, Nat.testBit_or]
  unfold apart childO
  rw [h]
  cases h2 : nx (u : Int) with
  | none => simp
  | some x =>
    dsimp only
    rw [dep_symm e x]
    by_cases e1 : t = (u : Int)
    · simp [e1]
    · have e2 : ¬ ((u : Int) = t) := fun h => e1 h.symm
      simp [e1, e2]
      cases asl.testBit u <;> cases ear.testBit u <;> cases dep x e <;> rfl
theorem child_none {nx : Int → Option Ev} {asl ear : Nat} {t : Int} (h : nx t = none) (k : Nat) : childTo nx asl ear t k = [] := by
  unfold childTo
  rw [List.filter_eq_nil_iff]
  intro u _
  unfold childO
  rw [h]
  exact Bool.false_ne_true
/-- The same, as a set. -/
def childN (nx : Int → Option Ev) (asl ear : Nat) (t : Int) : Nat := ofN (ints (childTo nx asl ear t 8))
theorem childN_lt (nx : Int → Option Ev) (asl ear : Nat) (t : Int) : childN nx asl ear t < 256 := ofN_lt _
theorem testBit_childN (nx : Int → Option Ev) (asl ear : Nat) (t : Int) {i : Nat} (hi : i < 8) : (childN nx asl ear t).testBit i = childO nx asl ear t i := by
  unfold childN
  rw [testBit_ofN _ hi]
  have h : ((i : Int) ∈ ints (childTo nx asl ear t 8)) ↔ childO nx asl ear t i = true := by
    rw [ints_mem]
    unfold childTo
    rw [List.mem_filter, List.mem_range]
    exact ⟨fun h => h.2, fun h => ⟨hi, h⟩⟩
  cases hb : childO nx asl ear t i
  · rw [decide_eq_false_iff_not, h, hb]; exact Bool.false_ne_true
  · rw [decide_eq_true_eq, h, hb]
/-- A number is among a set's just if it is of it. -/
theorem mem_has (n : Nat) (x : Int) : decide (x ∈ ints (bitsL n)) = hasB n x := by
  unfold hasB
  by_cases h : 0 ≤ x ∧ x < 8
  · obtain ⟨i, rfl⟩ : ∃ i : Nat, x = i := ⟨x.toNat, by omega⟩
    have hi : i < 8 := by omega
    simp only [h, and_self, decide_true, Bool.true_and, Int.toNat_natCast]
    cases hb : n.testBit i
    · rw [decide_eq_false_iff_not, ints_mem, mem_bits, hb]
      exact fun h => Bool.false_ne_true h.2
    · rw [decide_eq_true_eq, ints_mem, mem_bits, hb]
      exact ⟨hi, rfl⟩
  · simp only [h, decide_false, Bool.false_and, decide_eq_false_iff_not]
    intro hx
    unfold ints at hx
    obtain ⟨i, hi, rfl⟩ := List.mem_map.1 hx
    have := (mem_bits.1 hi).1
    omega
/-- Do all sleep who may? -/
def blockedB (all : List Int) (asl : Nat) : Bool := !all.isEmpty && all.all (hasB asl)
theorem of_zero {l : List Int} (h : ∀ x ∈ l, 0 ≤ x ∧ x < 8) : ofN l = 0 ↔ l = [] := by
  constructor
  · intro h0
    cases l with
    | nil => rfl
    | cons x l =>
      obtain ⟨i, rfl⟩ : ∃ i : Nat, x = i := ⟨x.toNat, by have := h x (by simp); omega⟩
      have hi : i < 8 := by have := h (i : Int) (by simp); omega
      have := testBit_ofN ((i : Int) :: l) hi
      rw [h0, Nat.zero_testBit] at this
      simp at this
  · rintro rfl; rfl
theorem wo_zero {l : List Int} {asl : Nat} (ha : asl < 256) (h : ∀ x ∈ l, 0 ≤ x ∧ x < 8) : wo (ofN l) asl = 0 ↔ l.all (hasB asl) = true := by
  rw [List.all_eq_true]
  constructor
  · intro h0 x hx
    obtain ⟨i, rfl⟩ : ∃ i : Nat, x = i := ⟨x.toNat, by have := h x hx; omega⟩
    have hi : i < 8 := by have := h (i : Int) hx; omega
    rw [hasB_nat _ hi]
    have h1 := testBit_wo (i := i) (ofN_lt l) ha
    rw [h0, Nat.zero_testBit, testBit_ofN _ hi] at h1
    simpa [hx] using h1
  · intro h0
    refine set_ext (wo_lt _ _ (ofN_lt l)) (by omega) fun i hi => ?_
    rw [testBit_wo (ofN_lt l) ha, testBit_ofN _ hi, Nat.zero_testBit]
    by_cases hx : (i : Int) ∈ l
    · have := h0 _ hx
      rw [hasB_nat _ hi] at this
      simp [this]
    · simp [hx]
theorem all_small {F : Nat} {s : St} (ok : s.Ok F) : ∀ x ∈ s.all, 0 ≤ x ∧ x < 8 := by
  intro x hx
  have h4 := ok.len4
  unfold St.all at hx
  obtain ⟨i, hi, rfl⟩ := List.mem_map.1 (List.mem_filter.1 hx).1
  have := List.mem_range.1 hi
  simp only [Int.ofNat_eq_natCast]
  omega
theorem all_len8 {F : Nat} {s : St} (ok : s.Ok F) : s.all.length ≤ 4 := by
  have h4 := ok.len4
  unfold St.all
  refine Nat.le_trans (List.length_filter_le _ _) ?_
  rw [List.length_map, List.length_range]
  exact h4

end Go.Proofs.YtnldkmcijmbhcaaGreat

/- Races, plainly. -/
namespace Go.Proofs.YtnldkmcijmbhcaaGreat

/-- The last one of a thread's events among the first n. -/
def lastT (l : List Ev) (t : Int) : Nat → Option Nat
  | 0 => none
  | n + 1 => if (evI l n).thread = t then some n else lastT l t n
theorem lastT_some {l : List Ev} {t : Int} : ∀ {n j : Nat}, lastT l t n = some j → j < n ∧ (evI l j).thread = t := by
  intro n
  induction n with
  | zero => intro j h; cases h
  | succ n ih =>
    intro j h
    rw [lastT] at h
    split at h
    · rename_i ht
      injection h with h
      subst h
      exact ⟨Nat.lt_succ_self _, ht⟩
    · have := ih h
      exact ⟨by omega, this.2⟩
/-- Does it happen before the thread's last event? -/
def knownB (l : List Ev) (t : Int) (i : Nat) : Bool := match lastT l t l.length with
  | none => false
  | some j => hb l i j
/-- The places that race with what a thread does next. -/
def raceAt (l : List Ev) (e : Ev) (i : Nat) : Bool := decide ((evI l i).thread ≠ e.thread) && dep (evI l i) e && !knownB l e.thread i
def withL (l : List Ev) (e : Ev) : List Nat := (List.range l.length).filter (raceAt l e)
theorem mem_withL {l : List Ev} {e : Ev} {i : Nat} : i ∈ withL l e ↔ i < l.length ∧ (evI l i).thread ≠ e.thread ∧ dep (evI l i) e = true ∧ knownB l e.thread i = false := by
  unfold withL raceAt
  rw [List.mem_filter, List.mem_range, Bool.and_eq_true, Bool.and_eq_true, decide_eq_true_eq, Bool.not_eq_true']
  exact ⟨fun h => ⟨h.1, h.2.1.1, h.2.1.2, h.2.2⟩, fun h => ⟨h.1, ⟨h.2.1, h.2.2.1⟩, h.2.2.2⟩⟩
end Go.Proofs.YtnldkmcijmbhcaaGreat

/- The races of what threads do next, as a row. -/
namespace Go.Proofs.YtnldkmcijmbhcaaGreat

/-- The races of one thread at these places. -/
def rcT (t : Int) (ats : List Nat) : List (Nat × Int) := ats.map fun i => (i, t)
/-- The races with what threads do next, whoever tells what that is. -/
def racesN (nx : Int → Option Ev) (l : List Ev) (n : Nat) : List (Nat × Int) := (List.range n).flatMap fun (t : Nat) => match nx (t : Int) with
  | none => []
  | some e => rcT (t : Int) (withL l e)
theorem racesN_succ (nx : Int → Option Ev) (l : List Ev) (n : Nat) : racesN nx l (n + 1) = racesN nx l n ++ match nx n with
    | none => []
    | some e => rcT (n : Int) (withL l e) := by
  unfold racesN
  rw [List.range_succ, List.flatMap_append]
  simp
theorem withL_len (l : List Ev) (e : Ev) : (withL l e).length ≤ l.length := by
  unfold withL
  refine Nat.le_trans (List.length_filter_le _ _) ?_
  rw [List.length_range]
  exact Nat.le_refl _
theorem racesN_len (nx : Int → Option Ev) (l : List Ev) (n : Nat) : (racesN nx l n).length ≤ n * l.length := by
  induction n with
  | zero => exact Nat.zero_le _
  | succ n ih =>
    rw [racesN_succ, List.length_append, Nat.add_mul, Nat.one_mul]
    have h : (match nx n with
      | none => []
      | some e => rcT (n : Int) (withL l e)).length ≤ l.length := by
      split
      · exact Nat.zero_le _
      · unfold rcT
        rw [List.length_map]
        exact withL_len _ _
    omega
theorem mem_racesN {nx : Int → Option Ev} {l : List Ev} {i : Nat} {u : Int} : ∀ {n : Nat}, (i, u) ∈ racesN nx l n ↔ ∃ k : Nat, k < n ∧ u = (k : Int) ∧ ∃ f, nx u = some f ∧ i ∈ withL l f := by
  intro n
  induction n with
  | zero => simp [racesN]
  | succ n ih =>
    rw [racesN_succ, List.mem_append, ih]
    constructor
    · rintro (⟨k, hk, h⟩ | h)
      · exact ⟨k, by omega, h⟩
      · cases hf : nx (n : Int) with
        | none => rw [hf] at h; cases h
        | some f =>
          rw [hf] at h
          obtain ⟨j, hj, e⟩ := List.mem_map.1 h
          injection e with e1 e2
          subst e1 e2
          exact ⟨n, by omega, rfl, f, hf, hj⟩
    · rintro ⟨k, hk, rfl, f, hf, hi⟩
      by_cases e : k = n
      · subst e
        right
        rw [hf]
        exact List.mem_map.2 ⟨i, hi, rfl⟩
      · exact .inl ⟨k, by omega, rfl, f, hf, hi⟩

end Go.Proofs.YtnldkmcijmbhcaaGreat

/- Walks, plainly: how many prefixes there are from a state on, and where they end. -/
namespace Go.Proofs.YtnldkmcijmbhcaaGreat

abbrev Ends := List (St × List Ev)
/-- How many prefixes there are from here on. -/
def St.pre : Nat → St → Nat
  | 0, _ => 1
  | n + 1, s => 1 + (s.all.map fun t => St.pre n (s.step t).2.2).sum
/-- All ends from here on, with what was done. -/
def St.runs : Nat → St → List Ev → List (St × List Ev)
  | 0, s, row => [(s, row)]
  | n + 1, s, row => if s.all = [] then [(s, row)] else s.all.flatMap fun t => St.runs n (s.step t).2.2 (row ++ [(s.step t).2.1])
theorem pre_pos (n : Nat) (s : St) : 1 ≤ s.pre n := by
  cases n with
  | zero => exact Nat.le_refl _
  | succ n => unfold St.pre; omega
theorem all_step {s : St} {t : Int} (h : t ∈ s.all) : ∃ i, s.step t = (0, s.ev t i, s.do_ t i) ∧ (s.do_ t i).fuel + 1 = s.fuel := by
  unfold St.all at h
  have hm := (List.mem_filter.1 h).2
  rcases s.step_cases t with ⟨i, hi, _, e⟩ | ⟨e, he, e'⟩
  · exact ⟨i, e, St.fuel_do hi⟩
  · exfalso
    unfold St.may at hm
    cases hi : s.ins t with
    | none => rw [hi] at hm; cases hm
    | some i =>
      have := St.step_may hi (by unfold St.may; exact hm)
      rw [this] at e'
      injection e' with e' _
      omega
theorem all_step' {s : St} {t : Int} (h : t ∈ s.all) : ∃ e s1, s.step t = (0, e, s1) ∧ s1.fuel + 1 = s.fuel := by
  obtain ⟨i, h1, h2⟩ := all_step h
  exact ⟨_, _, h1, h2⟩
theorem all_none {s : St} (h : s.fuel = 0) : s.all = [] := by
  apply Classical.byContradiction
  intro hn
  obtain ⟨t, ht⟩ := List.exists_mem_of_ne_nil _ hn
  obtain ⟨_, _, _, h2⟩ := all_step' ht
  omega
theorem St.all_len (s : St) : s.all.length ≤ s.ts.length := by
  unfold St.all
  exact Nat.le_trans (List.length_filter_le _ _) (by simp)
theorem fuel_le {F : Nat} {s : St} (ok : s.Ok F) : s.fuel ≤ 32 := by
  have h : ∀ l : List Nat, (∀ x ∈ l, x ≤ 8) → l.sum ≤ 8 * l.length := by
    intro l
    induction l with
    | nil => intro _; simp
    | cons a l ih =>
      intro h
      have h0 := h a (by simp)
      have h1 := ih fun x hx => h x (by simp [hx])
      simp only [List.sum_cons, List.length_cons]
      omega
  have h1 := h (s.ts.map Thr.fuel) (fun x hx => by
    obtain ⟨y, hy, rfl⟩ := List.mem_map.1 hx
    have := (ok.thr y hy).2.2
    have := ok.f8
    omega)
  have h4 := ok.len
  have h5 := ok.right
  unfold rightPg at h5
  rw [Bool.and_eq_true, decide_eq_true_eq] at h5
  unfold St.fuel
  rw [List.length_map] at h1
  omega
/-- Of the first j threads that may: prefixes and ends. -/
def preTo (n : Nat) (s : St) (j : Nat) : Nat := ((s.all.take j).map fun t => St.pre n (s.step t).2.2).sum
def runsTo (n : Nat) (s : St) (row : List Ev) (j : Nat) : List (St × List Ev) := (s.all.take j).flatMap fun t => St.runs n (s.step t).2.2 (row ++ [(s.step t).2.1])
theorem preTo_succ (n : Nat) (s : St) {j : Nat} (h : j < s.all.length) : preTo n s (j + 1) = preTo n s j + St.pre n (s.step s.all[j]).2.2 := by
  unfold preTo
  rw [List.take_succ_eq_append_getElem h, List.map_append, List.sum_append]
  simp
theorem runsTo_succ (n : Nat) (s : St) (row : List Ev) {j : Nat} (h : j < s.all.length) : runsTo n s row (j + 1) = runsTo n s row j ++ St.runs n (s.step s.all[j]).2.2 (row ++ [(s.step s.all[j]).2.1]) := by
  unfold runsTo
  rw [List.take_succ_eq_append_getElem h, List.flatMap_append]
  simp
theorem preTo_all (n : Nat) (s : St) : St.pre (n + 1) s = 1 + preTo n s s.all.length := by
  unfold preTo
  rw [List.take_length]
  rfl
theorem runsTo_all (n : Nat) (s : St) (row : List Ev) (h : s.all ≠ []) : St.runs (n + 1) s row = runsTo n s row s.all.length := by
  unfold runsTo
  rw [List.take_length]
  show (if s.all = [] then _ else _) = _
  rw [if_neg h]
theorem runs_end (n : Nat) (s : St) (row : List Ev) (h : s.all = []) : St.runs n s row = [(s, row)] ∧ St.pre n s = 1 := by
  cases n with
  | zero => exact ⟨rfl, rfl⟩
  | succ n =>
    refine ⟨?_, ?_⟩
    · show (if s.all = [] then _ else _) = _
      rw [if_pos h]
    · unfold St.pre
      rw [h]
      rfl

theorem sum_map_le {T : Type} (l : List T) (f g : T → Nat) (h : ∀ x ∈ l, f x ≤ g x) : (l.map f).sum ≤ (l.map g).sum := by
  induction l with
  | nil => simp
  | cons a l ih =>
    have h0 := h a (by simp)
    have h1 := ih fun x hx => h x (by simp [hx])
    simp only [List.map_cons, List.sum_cons]
    omega
theorem runs_le (n : Nat) : ∀ (s : St) (row : List Ev), (s.runs n row).length ≤ s.pre n := by
  induction n with
  | zero => intro s row; exact Nat.le_refl _
  | succ n ih =>
    intro s row
    show (if s.all = [] then _ else _ : List (St × List Ev)).length ≤ _
    unfold St.pre
    split
    · simp
    · rw [List.length_flatMap]
      have := sum_map_le s.all (fun t => (St.runs n (s.step t).2.2 (row ++ [(s.step t).2.1])).length) (fun t => St.pre n (s.step t).2.2) (fun t _ => ih _ _)
      omega
def s0 (p : Pg) (fuel : Int) : St := St.new p fuel.toNat
def okPg (p : Pg) (fuel : Int) : Prop := rightPg p = true ∧ 0 ≤ fuel ∧ fuel ≤ 8
instance (p : Pg) (fuel : Int) : Decidable (okPg p fuel) := inferInstanceAs (Decidable (_ ∧ _))
/-- How many prefixes, and where they end. -/
def preW (p : Pg) (fuel : Int) : Nat := (s0 p fuel).pre 33
def runsW (p : Pg) (fuel : Int) : List (St × List Ev) := (s0 p fuel).runs 33 []

end Go.Proofs.YtnldkmcijmbhcaaGreat

/- An event in a box of its own. -/
namespace Go.Proofs.YtnldkmcijmbhcaaGreat
open Go.RowKit

end Go.Proofs.YtnldkmcijmbhcaaGreat

/- The contracts of event's below, ofVariable, ofMutex, Depends, Right, toByte, fromByte, and of the document's Depends, Right, Byte. -/
namespace Go.Proofs.YtnldkmcijmbhcaaGreat
open Go.RowKit

theorem eBelow_any (n e : Int) (w : World) : Calls Tryz.prog 117 #[.int .i64 n, .int .i64 e] w fun r w' => r = .returned (.bool (belowB n e)) ∧ w = w' := by
  go_enter Tryz.func117, Tryz.ntmps117
  go_wp2
  all_goals
    go_ret
    refine ⟨ret_bool ?_, rfl⟩
    simp [belowB]
    try omega

theorem ofVariable_any (e : Ev) (w : World) : Calls Tryz.prog 103 #[.agg #[.int .i64 e.thread, .int .i64 e.kind, .int .i64 e.obj, .bool e.fail]] w fun r w' => r = .returned (.bool (memE e)) ∧ Below w.heap.size w w' := by
  obtain ⟨t, k, o, f⟩ := e
  dsimp only
  go_enter Tryz.func103, Tryz.ntmps103
  go_wp2
  all_goals
    go_ret
    refine ⟨ret_bool ?_, below_alloc1 _ _⟩
    rw [Bool.eq_iff_iff]
    simp [memE]
    try omega

theorem ofMutex_any (e : Ev) (w : World) : Calls Tryz.prog 104 #[.agg #[.int .i64 e.thread, .int .i64 e.kind, .int .i64 e.obj, .bool e.fail]] w fun r w' => r = .returned (.bool (mutE e)) ∧ Below w.heap.size w w' := by
  obtain ⟨t, k, o, f⟩ := e
  dsimp only
  go_enter Tryz.func104, Tryz.ntmps104
  go_wp2
  all_goals
    go_ret
    refine ⟨ret_bool ?_, below_alloc1 _ _⟩
    rw [Bool.eq_iff_iff]
    simp [mutE]
    try omega

set_option maxRecDepth 100000 in
set_option maxHeartbeats 1000000 in
theorem evRight_any (e : Ev) (w : World) : Calls Tryz.prog 99 #[.agg #[.int .i64 e.thread, .int .i64 e.kind, .int .i64 e.obj, .bool e.fail]] w fun r w' => r = .returned (.bool (rightEv e)) ∧ Below w.heap.size w w' := by
  obtain ⟨t, k, o, f⟩ := e
  dsimp only
  go_enter Tryz.func99, Tryz.ntmps99
  go_wp2_with (go_at_call 117; refine (eBelow_any _ _ _).mono ?_; rintro r w' ⟨rfl, rfl⟩)
  all_goals
    go_ret
    refine ⟨ret_bool ?_, below_alloc1 _ _⟩
    simp [belowB] at *
    rw [Bool.eq_iff_iff]
    simp [rightEv, *]
    try (first | omega | (cases f <;> simp <;> omega))

set_option maxRecDepth 100000 in
set_option maxHeartbeats 1000000 in
theorem refEvRight_any (e : Ev) (w : World) : Calls Tryz.prog 87 #[.agg #[.int .i64 e.thread, .int .i64 e.kind, .int .i64 e.obj, .bool e.fail]] w fun r w' => r = .returned (.bool (rightEv e)) ∧ Below w.heap.size w w' := by
  obtain ⟨t, k, o, f⟩ := e
  dsimp only
  go_enter Tryz.func87, Tryz.ntmps87
  go_wp2
  all_goals
    go_ret
    refine ⟨ret_bool ?_, below_alloc1 _ _⟩
    simp at *
    rw [Bool.eq_iff_iff]
    simp [rightEv, *]
    try (first | omega | (cases f <;> simp <;> omega))

theorem two_boxes (e f : Ev) (w : World) : EvBox ((w.alloc (.cells #[.int .i64 e.thread, .int .i64 e.kind, .int .i64 e.obj, .bool e.fail] 81)).alloc (.cells #[.int .i64 f.thread, .int .i64 f.kind, .int .i64 f.obj, .bool f.fail] 81)) w.heap.size e ∧ EvBox ((w.alloc (.cells #[.int .i64 e.thread, .int .i64 e.kind, .int .i64 e.obj, .bool e.fail] 81)).alloc (.cells #[.int .i64 f.thread, .int .i64 f.kind, .int .i64 f.obj, .bool f.fail] 81)) (w.heap.size + 1) f :=
  ⟨heap_alloc2_old w _ _, heap_alloc2_new w _ _⟩

set_option maxRecDepth 100000 in
set_option maxHeartbeats 1000000 in
theorem depends_any (e f : Ev) (w : World) : Calls Tryz.prog 71 #[.agg #[.int .i64 e.thread, .int .i64 e.kind, .int .i64 e.obj, .bool e.fail], .agg #[.int .i64 f.thread, .int .i64 f.kind, .int .i64 f.obj, .bool f.fail]] w fun r w' => r = .returned (.bool (dep e f)) ∧ Below w.heap.size w w' := by
  obtain ⟨he, hf⟩ := two_boxes e f w
  have HE := Lib.hid he
  have HF := Lib.hid hf
  have hb0 := below_alloc2 w (.cells #[.int .i64 e.thread, .int .i64 e.kind, .int .i64 e.obj, .bool e.fail] 81) (.cells #[.int .i64 f.thread, .int .i64 f.kind, .int .i64 f.obj, .bool f.fail] 81)
  clear he hf
  by_cases h1 : e.thread = f.thread
  · have HD : Hid (dep e f = true) := by show _ = _; simp [dep, h1]
    have q1 : (e.thread == f.thread) = true := by simp [h1]
    clear h1 HE HF
    go_enter Tryz.func71, Tryz.ntmps71
    go_wp2
    go_ret
    exact ⟨ret_bool HD.out.symm, hb0⟩
  by_cases h2 : e.obj = f.obj
  case neg =>
    have HD : Hid (dep e f = false) := by show _ = _; simp [dep, h1, h2]
    have q1 : (e.thread == f.thread) = false := by simp [h1]
    have q2 : (e.obj != f.obj) = true := by simp [h2]
    clear h1 h2 HE HF
    go_enter Tryz.func71, Tryz.ntmps71
    go_wp2
    go_ret
    exact ⟨ret_bool HD.out.symm, hb0⟩
  have q1 : (e.thread == f.thread) = false := by simp [h1]
  have q2 : (e.obj != f.obj) = false := by simp [h2]
  have HT := Lib.hid h1
  have HO := Lib.hid h2
  clear h1 h2
  go_enter Tryz.func71, Tryz.ntmps71
  go_wp2_with fail
  generalize (w.alloc (.cells #[.int .i64 e.thread, .int .i64 e.kind, .int .i64 e.obj, .bool e.fail] 81)).alloc (.cells #[.int .i64 f.thread, .int .i64 f.kind, .int .i64 f.obj, .bool f.fail] 81) = W0 at *
  refine (ofVariable_any e _).mono ?_
  rintro r w1 ⟨rfl, hb1⟩
  have HE1 := Lib.hid (HE.out.later hb1)
  have HF1 := Lib.hid (HF.out.later hb1)
  have hw1 : Below w.heap.size w w1 := hb0.trans (hb1.mono hb0.size)
  clear HE HF hb0 hb1
  obtain ⟨e0, e1, e2, e3⟩ := HE1.out.cells
  obtain ⟨f0, f1, f2, f3⟩ := HF1.out.cells
  have le := HE1.out.lt
  have lf := HF1.out.lt
  generalize hm : memE e = m
  cases m
  · go_wp2_with fail
    refine (ofMutex_any e _).mono ?_
    rintro r w2 ⟨rfl, hb2⟩
    have hw2 : Below w.heap.size w w2 := hw1.trans (hb2.mono hw1.size)
    have g0 := cell_later hb2 f0
    have g1 := cell_later hb2 f1
    have g2 := cell_later hb2 f2
    have g3 := cell_later hb2 f3
    have lg := Nat.lt_of_lt_of_le lf hb2.size
    generalize hx : mutE e = x
    cases x
    · go_wp2
      go_ret
      refine ⟨ret_bool ?_, hw2⟩
      unfold memE at hm
      unfold mutE at hx
      simp at hm hx
      simp [dep, HT.out, HO.out, hm, hx]
    · clear e0 e1 e2 e3 f0 f1 f2 f3 le lf hb2
      go_wp2_with fail
      refine (ofMutex_any f _).mono ?_
      rintro r w3 ⟨rfl, hb3⟩
      have hw3 : Below w.heap.size w w3 := hw2.trans (hb3.mono hw2.size)
      go_wp2
      go_ret
      refine ⟨ret_bool ?_, hw3⟩
      unfold memE at hm
      unfold mutE at hx ⊢
      simp at hm hx
      simp [dep, HT.out, HO.out, hm, hx]
  · go_wp2_with fail
    refine (ofVariable_any f _).mono ?_
    rintro r w2 ⟨rfl, hb2⟩
    have hw2 : Below w.heap.size w w2 := hw1.trans (hb2.mono hw1.size)
    have d0 := cell_later hb2 e0
    have d1 := cell_later hb2 e1
    have d2 := cell_later hb2 e2
    have d3 := cell_later hb2 e3
    have ld := Nat.lt_of_lt_of_le le hb2.size
    have g0 := cell_later hb2 f0
    have g1 := cell_later hb2 f1
    have g2 := cell_later hb2 f2
    have g3 := cell_later hb2 f3
    have lg := Nat.lt_of_lt_of_le lf hb2.size
    clear e0 e1 e2 e3 f0 f1 f2 f3 le lf hb2
    generalize hx : memE f = x
    cases x
    · go_wp2_with fail
      refine (ofMutex_any e _).mono ?_
      rintro r w3 ⟨rfl, hb3⟩
      have hx3 : mutE e = false := by
        unfold memE at hm
        unfold mutE
        simp at hm ⊢
        omega
      rw [hx3]
      have hw3 : Below w.heap.size w w3 := hw2.trans (hb3.mono hw2.size)
      go_wp2
      go_ret
      refine ⟨ret_bool ?_, hw3⟩
      unfold memE at hm hx
      unfold mutE at hx3
      simp at hm hx hx3
      simp [dep, HT.out, HO.out, hm, hx, hx3]
    · go_wp2
      all_goals
        go_ret
        refine ⟨ret_bool ?_, hw2⟩
        unfold memE at hm hx
        simp at *
        rw [Bool.eq_iff_iff]
        simp [dep, HT.out, HO.out, *]
        try omega

set_option maxRecDepth 100000 in
set_option maxHeartbeats 1000000 in
theorem refDepends_any (e f : Ev) (w : World) : Calls Tryz.prog 90 #[.agg #[.int .i64 e.thread, .int .i64 e.kind, .int .i64 e.obj, .bool e.fail], .agg #[.int .i64 f.thread, .int .i64 f.kind, .int .i64 f.obj, .bool f.fail]] w fun r w' => r = .returned (.bool (dep e f)) ∧ Below w.heap.size w w' := by
  go_enter Tryz.func90, Tryz.ntmps90
  go_wp2
  all_goals
    go_ret
    refine ⟨ret_bool ?_, below_alloc2 _ _ _⟩
    simp at *
    rw [Bool.eq_iff_iff]
    simp [dep, *]
    try omega

end Go.Proofs.YtnldkmcijmbhcaaGreat

/- The contracts of event's toByte, fromByte, and of the document's Byte. -/
namespace Go.Proofs.YtnldkmcijmbhcaaGreat
open Go.RowKit

set_option maxRecDepth 100000 in
set_option maxHeartbeats 1000000 in
theorem toByte_any (e : Ev) (h : rightEv e = true) (w : World) : Calls Tryz.prog 118 #[.agg #[.int .i64 e.thread, .int .i64 e.kind, .int .i64 e.obj, .bool e.fail]] w fun r w' => r = .returned (.int .u8 (evB e)) ∧ Below w.heap.size w w' := by
  have bd := rightEv_bd h
  clear h
  obtain ⟨t, k, o, f⟩ := e
  dsimp only at bd ⊢
  obtain ⟨b0, b1, b2, b3, b4, b5⟩ := bd
  unfold evB
  cases f
  · go_enter Tryz.func118, Tryz.ntmps118
    go_wp2
    go_ret
    refine ⟨?_, below_alloc1 _ _⟩
    simp
  · go_enter Tryz.func118, Tryz.ntmps118
    go_wp2
    go_ret
    refine ⟨?_, below_alloc1 _ _⟩
    simp

set_option maxRecDepth 100000 in
set_option maxHeartbeats 1000000 in
theorem refByte_any (e : Ev) (h : rightEv e = true) (w : World) : Calls Tryz.prog 114 #[.agg #[.int .i64 e.thread, .int .i64 e.kind, .int .i64 e.obj, .bool e.fail]] w fun r w' => r = .returned (.int .i64 (evB e)) ∧ Below w.heap.size w w' := by
  have bd := rightEv_bd h
  clear h
  obtain ⟨t, k, o, f⟩ := e
  dsimp only at bd ⊢
  obtain ⟨b0, b1, b2, b3, b4, b5⟩ := bd
  unfold evB
  cases f
  · go_enter Tryz.func114, Tryz.ntmps114
    go_wp2
    go_ret
    refine ⟨?_, below_alloc1 _ _⟩
    simp
  · go_enter Tryz.func114, Tryz.ntmps114
    go_wp2
    go_ret
    refine ⟨?_, below_alloc1 _ _⟩
    simp


end Go.Proofs.YtnldkmcijmbhcaaGreat

/- Numbers as bytes, and as a text. -/
namespace Go.Proofs.YtnldkmcijmbhcaaGreat
open Go.RowKit

/-- Numbers as a text. -/
def bstr (ns : List Int) : ByteArray := ⟨(ns.map fun n => UInt8.ofNat n.toNat).toArray⟩

theorem foldl_bstr (ns : List Int) (s : ByteArray) : ns.foldl (fun r n => r.push (UInt8.ofNat n.toNat)) s = ⟨s.data ++ (ns.map fun n => UInt8.ofNat n.toNat).toArray⟩ := by
  induction ns generalizing s with
  | nil => simp
  | cons n ns ih =>
    rw [List.foldl_cons, ih]
    simp [ByteArray.push]

/-- A row of bytes of the call's own. -/
def OwnB (w : World) (B : Nat) (v : Value) (ns : List Int) : Prop := w.ownsRow B 5 1 v ns.length (ns.map (Value.int .u8))

theorem OwnB.alloc {w : World} {B : Nat} {v : Value} {ns : List Int} (h : OwnB w B v ns) (o : Obj) : OwnB (w.alloc o) B v ns := World.ownsRow.alloc h o

theorem OwnB.slice {w : World} {B : Nat} {v : Value} {ns : List Int} (h : OwnB w B v ns) (hn : ns ≠ []) : ∃ g cap, v = .slice (some ⟨g, 0, none⟩) ns.length cap ∧ ∀ j u, (ns.map (Value.int .u8))[j]? = some u → w.cell? (Addr.add ⟨g, 0, none⟩ j) = some u := by
  obtain ⟨h1, h2 | ⟨g, cap, cur, h2, h3, h4, h5, h6, h7, h8⟩⟩ := h
  · exact absurd (List.eq_nil_of_length_eq_zero h2.2) hn
  · refine ⟨g, cap, h2, ?_⟩
    exact World.ownsRow.cells (base := B) (e := 5) (size := 1) ⟨h1, .inr ⟨g, cap, cur, h2, h3, h4, h5, h6, h7, h8⟩⟩ (by rw [h2]; rfl)

theorem run_bstr {w : World} {B : Nat} {v : Value} {ns : List Int} (h : OwnB w B v ns) (hn : ns ≠ []) : (convert 25 9 v).run Tryz.prog w = .ok (.string (bstr ns)) w := by
  obtain ⟨g, cap, rfl, hc⟩ := h.slice hn
  rw [run_convert_bytes_string w _ _ 5 _ _ _ Tryz.underlying25 Tryz.underlying5 Tryz.underlying9]
  have hl := run_loadCells_list (P := Tryz.prog) w ⟨g, 0, none⟩ (ns.map (Value.int .u8)) hc
  rw [List.length_map] at hl
  rw [run_bytesToString w _ _ _ ns hl, foldl_bstr]
  have e : ByteArray.empty.data = #[] := rfl
  rw [e, Array.empty_append]
  rfl

theorem bytes_new (w : World) (ms : List Int) (t : TypeId) (g : Nat) (hg : g = w.heap.size) : ∀ j u, (ms.map (Value.int .u8))[j]? = some u → (w.alloc (.cells (ms.map (Value.int .u8)).toArray t)).cell? (Addr.add ⟨g, 0, none⟩ j) = some u := by
  subst hg
  intro j u hj
  have e : Addr.add ⟨w.heap.size, 0, none⟩ j = ⟨w.heap.size, j, none⟩ := by
    unfold Addr.add
    split
    · rename_i h0; subst h0; rfl
    · simp
  rw [e, World.cell?_alloc_new]
  simpa using hj

theorem wp_appendB {w : World} {ops : Array Oper} {rest : List Oper} {o : Oper} {a : Act} {Q : Exit → Act → World → Prop} (hgd : o.guard = none) (s x : Operand)
    (ho : o.op = .call { callee := .builtin .append, args := #[s, x], argTypes := #[25, 25] }) (B : Nat) (v : Value) (ns : List Int) (hs : a.eval s = v) (hown : OwnB w B v ns)
    (ad : Addr) (m c : Nat) (hx : a.eval x = .slice (some ad) m c) (ms : List Int) (hm : ms.length = m) (hnews : ∀ j u, (ms.map (Value.int .u8))[j]? = some u → w.cell? (ad.add j) = some u)
    (hlen : ns.length + m ≤ 1000000000) (hB : B ≤ w.heap.size)
    (h : ∀ v' w', OwnB w' B v' (ns ++ ms) → Below B w w' → wpList Tryz.prog ops Q rest (a.put o.dst v') w') : wpList Tryz.prog ops Q (o :: rest) a w := by
  have hinfo : (Tryz.prog.info? 5).map (fun i => (i.zero, i.size, i.bytes)) = some (some (.int .u8 0), 1, 1) := by kernel_rfl
  obtain ⟨i, hi, hzz⟩ := Option.map_eq_some_iff.1 hinfo
  simp only [Prod.mk.injEq] at hzz
  obtain ⟨hz, hsz, hby⟩ := hzz
  refine wpList_append_own w hgd s x 25 ho B 5 i (.int .u8 0) 1 1 Tryz.underlying25 hi hz hsz hby rfl (by decide) v ns.length (ns.map (Value.int .u8)) hs hown ad m c (ms.map (Value.int .u8)) hx (by simp [hm]) hnews
    (by intro u hu; obtain ⟨y, _, rfl⟩ := List.mem_map.1 hu; rfl) (by unfold maxLen; omega) (by omega) hB ?_
  intro v' w' h1 h2 _
  refine h v' w' ?_ ((Below.refl B w).grown h2 hB (fun k hk => (World.ownsRow.lt hown k hk).1))
  unfold OwnB
  rw [List.length_append, List.map_append, hm]
  exact h1

end Go.Proofs.YtnldkmcijmbhcaaGreat
