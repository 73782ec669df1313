import Derived.ProofKit
import Derived.Lib.SmallJoins
import Derived.Deep.Slices
import Derived.Deep.Fields
import Derived.OpenShut
import Derived.StillTailTactics
import Derived.Laws.StructEq
import Derived.Lib.Tables
import Derived.Laws.Shifts
import Derived.Test.YtbmhcnldcfaipaaPk01
import Derived.Test.YtbmhcnldcfaipaaPk02
import Derived.Test.YtbmhcnldcfaipaaPk04

/-
  Plain data: rows of steps; steps of threads that are never dependent, in any order of threads, have the same events each. Nothing of the translation.
-/
namespace Go.Proofs.Ytbmhcnldcfaipaa

theorem St.ev_thread (s : St) (t : Int) (i : Ins) : (s.ev t i).thread = t := by
  unfold St.ev
  repeat' split
  all_goals rfl

theorem St.step_ok0 {s : St} {t : Int} {e : Ev} {s1 : St} (h : s.step t = (0, e, s1)) : ∃ i, s.ins t = some i ∧ s.may t = true ∧ e = s.ev t i ∧ s1 = s.do_ t i := by
  rcases s.step_cases t with ⟨i, hi, hm, e1⟩ | ⟨c, hc, e1⟩
  · rw [e1] at h
    injection h with _ h
    injection h with h1 h2
    exact ⟨i, hi, hm, h1.symm, h2.symm⟩
  · rw [e1] at h
    injection h with h _
    omega

/-- Two steps of independent events, the other way round. -/
theorem St.Ok.swap_back {F : Nat} {s : St} (h : s.Ok F) {u t : Int} {e x : Ev} {s1 s2 : St} (h1 : s.step u = (0, e, s1)) (h2 : s1.step t = (0, x, s2)) (hut : u ≠ t) (hd : dep e x = false) :
    ∃ d, s.step t = (0, x, d) ∧ d.step u = (0, e, s2) ∧ d.Ok F := by
  obtain ⟨i, hi, hm, rfl, rfl⟩ := St.step_ok0 h1
  obtain ⟨j, hj, hmj, rfl, rfl⟩ := St.step_ok0 h2
  have hnx := h.next_do hi hm (Ne.symm hut)
  obtain ⟨hhas, _, _⟩ := St.ins_has hj
  have hl : (s.do_ u i).ts.length = s.ts.length := by simp [St.do_]
  have hhas' : s.has t := by unfold St.has at hhas ⊢; rw [hl] at hhas; exact hhas
  have hj' : s.ins t = some j := by rw [← St.ins_do hi hhas' hut]; exact hj
  have hev : (s.do_ u i).ev t j = s.ev t j := h.ev_do hi hj' hm hut
  rw [hev] at hd ⊢
  have hmt : s.may t = true := by
    unfold St.may
    rw [hj']
    simp only [decide_eq_true_eq]
    intro h5
    have hf := St.may_free hj hmj h5
    rw [h.who_do hi] at hf
    split at hf
    · rename_i hx
      have := dep_muts hd (.inl hx.1) (.inl h5)
      have := (h.obj hi).2.1 (.inl hx.1)
      have := (h.obj hj').2.1 (.inl h5)
      omega
    split at hf
    · rename_i hx
      have := dep_muts hd (.inr ⟨hx.1, hx.2.1⟩) (.inl h5)
      have := (h.obj hi).2.1 (.inr hx.1)
      have := (h.obj hj').2.1 (.inl h5)
      omega
    · exact hf
  have hx : s.next u = some (s.ev u i) := by unfold St.next; rw [hi]; rfl
  have hy : s.next t = some (s.ev t j) := by unfold St.next; rw [hj']; rfl
  obtain ⟨c, d, z, s1', s2', s3', s4', _, okd, _⟩ := h.swap hx hy hm hmt hut hd
  refine ⟨d, s3', ?_, okd⟩
  rw [h1] at s1'
  injection s1' with _ q
  injection q with _ q
  subst q
  rw [h2] at s2'
  injection s2' with _ q
  injection q with _ q
  rw [s4', q]

/-- Steps that are done, one behind the other. -/
def Runs : St → List Int → List Ev → St → Prop
  | s, [], l, z => l = [] ∧ z = s
  | s, t :: row, l, z => ∃ e s1 l', s.step t = (0, e, s1) ∧ Runs s1 row l' z ∧ l = e :: l'

theorem Runs.ok {F : Nat} {row : List Int} : ∀ {s : St} {l : List Ev} {z : St}, Runs s row l z → s.Ok F → z.Ok F := by
  induction row with
  | nil => intro s l z h ok; rw [h.2]; exact ok
  | cons t row ih =>
    intro s l z h ok
    obtain ⟨e, s1, l', h1, h2, rfl⟩ := h
    have := ok.step_ok t
    rw [h1] at this
    exact ih h2 this

theorem runs_append {a b : List Int} : ∀ {s : St} {l : List Ev} {z : St}, Runs s (a ++ b) l z ↔ ∃ la lb s1, Runs s a la s1 ∧ Runs s1 b lb z ∧ l = la ++ lb := by
  induction a with
  | nil =>
    intro s l z
    constructor
    · intro h; exact ⟨[], l, s, ⟨rfl, rfl⟩, h, rfl⟩
    · rintro ⟨la, lb, s1, ⟨rfl, rfl⟩, h, rfl⟩; exact h
  | cons t a ih =>
    intro s l z
    constructor
    · rintro ⟨e, s1, l', h1, h2, rfl⟩
      obtain ⟨la, lb, s2, h3, h4, rfl⟩ := ih.1 h2
      exact ⟨e :: la, lb, s2, ⟨e, s1, la, h1, h3, rfl⟩, h4, rfl⟩
    · rintro ⟨la, lb, s2, ⟨e, s1, la', h1, h3, rfl⟩, h4, rfl⟩
      exact ⟨e, s1, la' ++ lb, h1, ih.2 ⟨la', lb, s2, h3, h4, rfl⟩, rfl⟩

theorem Runs.has {row : List Int} : ∀ {s : St} {l : List Ev} {z : St}, Runs s row l z → ∀ t ∈ row, s.has t := by
  induction row with
  | nil => intro s l z _ t ht; cases ht
  | cons u row ih =>
    intro s l z h t ht
    obtain ⟨e, s1, l', h1, h2, rfl⟩ := h
    obtain ⟨i, hi, _, _, rfl⟩ := St.step_ok0 h1
    rcases List.mem_cons.1 ht with rfl | ht
    · exact (St.ins_has hi).1
    · have := ih h2 t ht
      unfold St.has at this ⊢
      simpa [St.do_] using this

theorem Runs.threads {row : List Int} : ∀ {s : St} {l : List Ev} {z : St}, Runs s row l z → l.map Ev.thread = row := by
  induction row with
  | nil => intro s l z h; rw [h.1]; rfl
  | cons u row ih =>
    intro s l z h
    obtain ⟨e, s1, l', h1, h2, rfl⟩ := h
    obtain ⟨i, _, _, rfl, rfl⟩ := St.step_ok0 h1
    simp [ih h2, St.ev_thread]

/-- Events of unlike threads don't depend on one another. -/
def Indep (l : List Ev) : Prop := l.Pairwise fun a b => a.thread ≠ b.thread → dep a b = false

/-- A step behind steps of another thread. -/
theorem runs_move {F : Nat} {t u : Int} (htu : u ≠ t) {rest : List Int} {e : Ev} {rs : List Ev} (ts : List Int) : ∀ {s : St} {es : List Ev} {z : St}, s.Ok F → (∀ x ∈ ts, x = t) → es.length = ts.length → (∀ x ∈ es, dep e x = false) →
    Runs s (u :: (ts ++ rest)) (e :: (es ++ rs)) z → Runs s (ts ++ u :: rest) (es ++ e :: rs) z := by
  induction ts with
  | nil =>
    intro s es z ok _ hl _ h
    have : es = [] := List.eq_nil_of_length_eq_zero hl
    subst this
    exact h
  | cons t' ts ih =>
    intro s es z ok ht hl hd h
    obtain rfl : t' = t := ht t' (by simp)
    match es, hl with
    | x :: es, hl =>
      obtain ⟨e', s1, l', h1, ⟨x', s2, l2, h2, h3, q2⟩, q1⟩ := h
      injection q1 with q1 q1'
      subst q1 q1'
      injection q2 with q2 q2'
      subst q2 q2'
      obtain ⟨d, hd1, hd2, okd⟩ := ok.swap_back h1 h2 htu (hd _ (by simp))
      refine ⟨x, d, es ++ e :: rs, hd1, ih okd (fun y hy => ht y (by simp [hy])) (by simpa using hl) (fun y hy => hd y (by simp [hy])) ?_, rfl⟩
      exact ⟨e, s2, es ++ rs, hd2, h3, rfl⟩

/-- The steps of one thread first. -/
theorem runs_part {F : Nat} (t : Int) {row : List Int} : ∀ {s : St} {l : List Ev} {z : St}, s.Ok F → Indep l → Runs s row l z →
    Runs s (row.filter (fun x => decide (x = t)) ++ row.filter (fun x => !decide (x = t))) (l.filter (fun e => decide (e.thread = t)) ++ l.filter (fun e => !decide (e.thread = t))) z := by
  induction row with
  | nil => intro s l z _ _ h; rw [h.1, h.2]; exact ⟨rfl, rfl⟩
  | cons u row ih =>
    intro s l z ok hi h
    obtain ⟨e, s1, l', h1, h2, rfl⟩ := h
    have ok1 : s1.Ok F := by have := ok.step_ok u; rw [h1] at this; exact this
    unfold Indep at hi
    rw [List.pairwise_cons] at hi
    have h3 := ih ok1 hi.2 h2
    have het : e.thread = u := by obtain ⟨i, _, _, rfl, _⟩ := St.step_ok0 h1; exact St.ev_thread _ _ _
    by_cases hu : u = t
    · have e1 : (u :: row).filter (fun x => decide (x = t)) = u :: row.filter (fun x => decide (x = t)) := by simp [hu]
      have e2 : (u :: row).filter (fun x => !decide (x = t)) = row.filter (fun x => !decide (x = t)) := by simp [hu]
      have e3 : (e :: l').filter (fun e => decide (e.thread = t)) = e :: l'.filter (fun e => decide (e.thread = t)) := by simp [het, hu]
      have e4 : (e :: l').filter (fun e => !decide (e.thread = t)) = l'.filter (fun e => !decide (e.thread = t)) := by simp [het, hu]
      rw [e1, e2, e3, e4]
      exact ⟨e, s1, _, h1, h3, rfl⟩
    · have e1 : (u :: row).filter (fun x => decide (x = t)) = row.filter (fun x => decide (x = t)) := by simp [hu]
      have e2 : (u :: row).filter (fun x => !decide (x = t)) = u :: row.filter (fun x => !decide (x = t)) := by simp [hu]
      have e3 : (e :: l').filter (fun e => decide (e.thread = t)) = l'.filter (fun e => decide (e.thread = t)) := by simp [het, hu]
      have e4 : (e :: l').filter (fun e => !decide (e.thread = t)) = e :: l'.filter (fun e => !decide (e.thread = t)) := by simp [het, hu]
      rw [e1, e2, e3, e4]
      refine runs_move hu _ ok (fun x hx => ?_) ?_ (fun x hx => ?_) ⟨e, s1, _, h1, h3, rfl⟩
      · simpa using (List.mem_filter.1 hx).2
      · rw [← h2.threads, List.filter_map]
        simp [Function.comp_def]
      · obtain ⟨h4, h5⟩ := List.mem_filter.1 hx
        refine hi.1 x h4 ?_
        rw [het]
        simp at h5
        omega

/-- The row sorted by its threads, up to n. -/
def srt (row : List Int) : Nat → List Int
  | 0 => []
  | n + 1 => srt row n ++ row.filter fun x => decide (x = (n : Int))
def srtE (l : List Ev) : Nat → List Ev
  | 0 => []
  | n + 1 => srtE l n ++ l.filter fun e => decide (e.thread = (n : Int))

theorem filter_step {T : Type} (f : T → Int) (l : List T) (n : Nat) : (l.filter fun x => decide ((n : Int) ≤ f x)).filter (fun x => decide (f x = (n : Int))) = l.filter (fun x => decide (f x = (n : Int))) ∧
    (l.filter fun x => decide ((n : Int) ≤ f x)).filter (fun x => !decide (f x = (n : Int))) = l.filter (fun x => decide (((n + 1 : Nat) : Int) ≤ f x)) := by
  rw [List.filter_filter, List.filter_filter]
  constructor
  · apply List.filter_congr
    intro x _
    rw [Bool.eq_iff_iff]
    simp
    omega
  · apply List.filter_congr
    intro x _
    rw [Bool.eq_iff_iff]
    simp
    omega

theorem runs_srt {F : Nat} {row : List Int} {s : St} {l : List Ev} {z : St} (ok : s.Ok F) (hi : Indep l) (h : Runs s row l z) (n : Nat) :
    Runs s (srt row n ++ row.filter fun x => decide ((n : Int) ≤ x)) (srtE l n ++ l.filter fun e => decide ((n : Int) ≤ e.thread)) z := by
  induction n with
  | zero =>
    have e1 : row.filter (fun x => decide (((0 : Nat) : Int) ≤ x)) = row := by
      rw [List.filter_eq_self]
      intro x hx
      have := h.has x hx
      unfold St.has at this
      simp
      omega
    have e2 : l.filter (fun e => decide (((0 : Nat) : Int) ≤ e.thread)) = l := by
      rw [List.filter_eq_self]
      intro e he
      have := h.has e.thread (by rw [← h.threads]; exact List.mem_map_of_mem he)
      unfold St.has at this
      simp
      omega
    rw [e1, e2]
    exact h
  | succ n ih =>
    obtain ⟨la, lb, s1, h1, h2, q⟩ := runs_append.1 ih
    have hla : la.length = (srtE l n).length := by
      have := congrArg List.length h1.threads
      rw [List.length_map] at this
      rw [this]
      have ht := h.threads
      clear this q h2 h1 ih
      subst ht
      induction n with
      | zero => rfl
      | succ n ih =>
        unfold srt srtE
        rw [List.length_append, List.length_append, ih, List.filter_map]
        simp [Function.comp_def]
    obtain ⟨rfl, rfl⟩ := List.append_inj q.symm hla
    have hi2 : Indep (l.filter fun e => decide ((n : Int) ≤ e.thread)) := List.Pairwise.filter _ hi
    have h3 := runs_part (n : Int) (h1.ok ok) hi2 h2
    have f1 := filter_step (fun x : Int => x) row n
    rw [f1.1, f1.2] at h3
    rw [(filter_step Ev.thread l n).1, (filter_step Ev.thread l n).2] at h3
    have h4 := runs_append.2 ⟨_, _, s1, h1, h3, rfl⟩
    unfold srt srtE
    rw [List.append_assoc, List.append_assoc]
    exact h4

theorem runs_sorted {F : Nat} {row : List Int} {s : St} {l : List Ev} {z : St} (ok : s.Ok F) (h4 : s.ts.length ≤ 4) (hi : Indep l) (h : Runs s row l z) : Runs s (srt row 4) (srtE l 4) z := by
  have h1 := runs_srt ok hi h 4
  have e1 : row.filter (fun x => decide (((4 : Nat) : Int) ≤ x)) = [] := by
    rw [List.filter_eq_nil_iff]
    intro x hx
    have := h.has x hx
    unfold St.has at this
    simp
    omega
  have e2 : l.filter (fun e => decide (((4 : Nat) : Int) ≤ e.thread)) = [] := by
    rw [List.filter_eq_nil_iff]
    intro e he
    have := h.has e.thread (by rw [← h.threads]; exact List.mem_map_of_mem he)
    unfold St.has at this
    simp
    omega
  rw [e1, e2, List.append_nil, List.append_nil] at h1
  exact h1

theorem srtE_filter (l : List Ev) (t n : Nat) : (srtE l n).filter (fun e => decide (e.thread = (t : Int))) = if t < n then l.filter (fun e => decide (e.thread = (t : Int))) else [] := by
  induction n with
  | zero => rfl
  | succ n ih =>
    unfold srtE
    rw [List.filter_append, ih, List.filter_filter]
    by_cases h1 : t < n
    · rw [if_pos h1, if_pos (by omega)]
      have : l.filter (fun e => decide (e.thread = (t : Int)) && decide (e.thread = (n : Int))) = [] := by
        rw [List.filter_eq_nil_iff]
        intro e _
        simp
        omega
      rw [this, List.append_nil]
    · rw [if_neg h1, List.nil_append]
      by_cases h2 : t = n
      · subst h2
        rw [if_pos (by omega)]
        simp
      · rw [if_neg (by omega), List.filter_eq_nil_iff]
        intro e _
        simp
        omega

theorem len_filter {T : Type} (q : T → Bool) (l : List T) : (l.filter q).length + (l.filter fun x => !q x).length = l.length := by
  induction l with
  | nil => rfl
  | cons x l ih => cases h : q x <;> simp [h] <;> omega

theorem srtE_length {l : List Ev} {s : St} {row : List Int} {z : St} (hr : Runs s row l z) (h4 : s.ts.length ≤ 4) : (srtE l 4).length = l.length := by
  have : ∀ n : Nat, (srtE l n).length + (l.filter fun e => decide ((n : Int) ≤ e.thread)).length = l.length := by
    intro n
    induction n with
    | zero =>
      rw [List.filter_eq_self.2]
      · simp [srtE]
      · intro e he
        have := hr.has e.thread (by rw [← hr.threads]; exact List.mem_map_of_mem he)
        unfold St.has at this
        simp
        omega
    | succ n ih =>
      have e1 := filter_step Ev.thread l n
      rw [← e1.2]
      unfold srtE
      rw [List.length_append, ← e1.1]
      have e2 := len_filter (fun e : Ev => decide (e.thread = (n : Int))) (l.filter fun e => decide ((n : Int) ≤ e.thread))
      omega
  have h0 := this 4
  have e2 : l.filter (fun e => decide (((4 : Nat) : Int) ≤ e.thread)) = [] := by
    rw [List.filter_eq_nil_iff]
    intro e he
    have := hr.has e.thread (by rw [← hr.threads]; exact List.mem_map_of_mem he)
    unfold St.has at this
    simp
    omega
  rw [e2] at h0
  simpa using h0

end Go.Proofs.Ytbmhcnldcfaipaa

/-
  Plain data: executions as rows of events; rows that are the same are done alike. Nothing of the translation.
-/
namespace Go.Proofs.Ytbmhcnldcfaipaa

/-- From s the events l are done, one behind the other, and z is come to. -/
def Ex : St → List Ev → St → Prop
  | s, [], z => z = s
  | s, e :: l, z => ∃ s1, s.step e.thread = (0, e, s1) ∧ Ex s1 l z

theorem ex_append {a b : List Ev} : ∀ {s z : St}, Ex s (a ++ b) z ↔ ∃ s1, Ex s a s1 ∧ Ex s1 b z := by
  induction a with
  | nil =>
    intro s z
    constructor
    · intro h; exact ⟨s, rfl, h⟩
    · rintro ⟨s1, rfl, h⟩; exact h
  | cons e a ih =>
    intro s z
    constructor
    · rintro ⟨s1, h1, h2⟩
      obtain ⟨s2, h3, h4⟩ := ih.1 h2
      exact ⟨s2, ⟨s1, h1, h3⟩, h4⟩
    · rintro ⟨s2, ⟨s1, h1, h3⟩, h4⟩
      exact ⟨s1, h1, ih.2 ⟨s2, h3, h4⟩⟩
theorem ex_det {l : List Ev} : ∀ {s z z' : St}, Ex s l z → Ex s l z' → z = z' := by
  induction l with
  | nil => intro s z z' h h'; rw [h, h']
  | cons e l ih =>
    rintro s z z' ⟨s1, h1, h2⟩ ⟨s2, h3, h4⟩
    rw [h1] at h3
    injection h3 with _ h3
    injection h3 with _ h3
    subst h3
    exact ih h2 h4
theorem Ex.ok {F : Nat} {l : List Ev} : ∀ {s z : St}, Ex s l z → s.Ok F → z.Ok F := by
  induction l with
  | nil => intro s z h ok; rw [h]; exact ok
  | cons e l ih =>
    rintro s z ⟨s1, h1, h2⟩ ok
    have := ok.step_ok e.thread
    rw [h1] at this
    exact ih h2 this
theorem step_next {s : St} {t : Int} {e : Ev} {s1 : St} (h : s.step t = (0, e, s1)) : s.next t = some e ∧ s.may t = true ∧ e.thread = t := by
  obtain ⟨i, hi, hm, rfl, rfl⟩ := St.step_ok0 h
  exact ⟨by unfold St.next; rw [hi]; rfl, hm, St.ev_thread _ _ _⟩
theorem next_step {s : St} {t : Int} {e : Ev} (h : s.next t = some e) (hm : s.may t = true) : ∃ s1, s.step t = (0, e, s1) := by
  unfold St.next at h
  obtain ⟨i, hi, rfl⟩ := Option.map_eq_some_iff.1 h
  exact ⟨_, St.step_may hi hm⟩
theorem next_thread {s : St} {t : Int} {e : Ev} (h : s.next t = some e) : e.thread = t := by
  unfold St.next at h
  obtain ⟨i, hi, rfl⟩ := Option.map_eq_some_iff.1 h
  exact St.ev_thread _ _ _
theorem step_fuel {s : St} {t : Int} {e : Ev} {s1 : St} (h : s.step t = (0, e, s1)) : s1.fuel + 1 = s.fuel := by
  obtain ⟨i, hi, hm, rfl, rfl⟩ := St.step_ok0 h
  exact St.fuel_do hi
theorem dep_ne {e f : Ev} (h : dep e f = false) : e.thread ≠ f.thread := by
  intro he
  rw [dep_thread he] at h
  cases h
theorem dep_symm' {e f : Ev} (h : dep e f = false) : dep f e = false := by rw [dep_symm]; exact h

theorem ex_two {F : Nat} {s z : St} {e f : Ev} {y : List Ev} (ok : s.Ok F) (hd : dep e f = false) (h : Ex s (e :: f :: y) z) : Ex s (f :: e :: y) z := by
  obtain ⟨s1, h1, s2, h2, h3⟩ := h
  obtain ⟨d, hd1, hd2, _⟩ := ok.swap_back h1 h2 (dep_ne hd) hd
  exact ⟨d, hd1, s2, hd2, h3⟩
theorem ex_blind {F : Nat} {s : St} (ok : s.Ok F) (z : St) : Blind (fun l => Ex s l z) := by
  intro x y e f hd
  dsimp only
  apply propext
  rw [ex_append, ex_append]
  constructor
  · rintro ⟨s1, h1, h2⟩; exact ⟨s1, h1, ex_two (h1.ok ok) hd h2⟩
  · rintro ⟨s1, h1, h2⟩; exact ⟨s1, h1, ex_two (h1.ok ok) (dep_symm' hd) h2⟩
/-- Rows that are the same are done alike, and come to the same. -/
theorem ex_sim {F : Nat} {s z : St} {a b : List Ev} (ok : s.Ok F) (h : Sim a b) : Ex s a z ↔ Ex s b z := by
  have := sim_fun _ a b (fun l => Ex s l z) rfl h (ex_blind ok z)
  exact iff_of_eq this
theorem sim_length {a b : List Ev} (h : Sim a b) : a.length = b.length := sim_fun _ a b List.length rfl h (fun x y e f _ => by simp)
theorem sim_cons (e : Ev) {a b : List Ev} (h : Sim a b) : Sim (e :: a) (e :: b) := by
  intro t
  exact sim_fun _ a b (fun l => psi (e :: l) t) rfl h (fun x y u v hd => sim_swap (x := e :: x) hd t)
theorem sim_right {a b : List Ev} (h : Sim a b) (y : List Ev) : Sim (a ++ y) (b ++ y) := by
  intro t
  exact sim_fun _ a b (fun l => psi (l ++ y) t) rfl h (fun x z u v hd => by
    dsimp only
    rw [show (x ++ u :: v :: z) ++ y = x ++ u :: v :: (z ++ y) by simp, show (x ++ v :: u :: z) ++ y = x ++ v :: u :: (z ++ y) by simp]
    exact sim_swap hd t)
/-- An event that depends on nothing ahead of it, first. -/
theorem sim_front {a b : List Ev} {p : Ev} (h : ∀ x ∈ a, dep p x = false) : Sim (a ++ p :: b) (p :: (a ++ b)) := by
  have h1 := sim_right (sim_move p a [] h) b
  rw [List.nil_append, List.nil_append] at h1
  rw [show a ++ [p] ++ b = a ++ p :: b by simp, show p :: a ++ b = p :: (a ++ b) by simp] at h1
  exact h1.symm

/-- What a thread does next stays, while it does nothing. -/
theorem ex_next {F : Nat} {l : List Ev} {u : Int} : ∀ {s z : St}, s.Ok F → Ex s l z → (∀ x ∈ l, x.thread ≠ u) → z.next u = s.next u := by
  induction l with
  | nil => intro s z _ h _; rw [h]
  | cons e l ih =>
    rintro s z ok ⟨s1, h1, h2⟩ hu
    have ok1 := ok.step_ok e.thread
    have hn := ok.next_step e.thread (u := u) (Ne.symm (hu e (by simp)))
    rw [h1] at ok1 hn
    rw [ih ok1 h2 (fun x hx => hu x (by simp [hx]))]
    exact hn
/-- What may be done, and doesn't depend on what is done, may be done ahead of it, or behind it. -/
theorem ex_comm {F : Nat} {t : Int} {p : Ev} {w : List Ev} : ∀ {s z : St}, s.Ok F → s.next t = some p → s.may t = true → Ex s w z → (∀ x ∈ w, dep p x = false) →
    z.next t = some p ∧ z.may t = true ∧ ∃ z', Ex s (p :: w) z' ∧ Ex s (w ++ [p]) z' := by
  induction w with
  | nil =>
    intro s z _ hn hm h _
    obtain rfl : z = s := h
    obtain ⟨s1, h1⟩ := next_step hn hm
    have ht := next_thread hn
    subst ht
    exact ⟨hn, hm, s1, ⟨s1, h1, rfl⟩, ⟨s1, h1, rfl⟩⟩
  | cons x w ih =>
    rintro s z ok hn hm ⟨s1, h1, h2⟩ hd
    have ht := next_thread hn
    subst ht
    have hdx := hd x (by simp)
    obtain ⟨hxn, hxm, _⟩ := step_next h1
    obtain ⟨c, d, z2, a1, a2, a3, a4, okc, _, _⟩ := ok.swap hxn hn hxm hm (dep_ne (dep_symm' hdx)) (dep_symm' hdx)
    rw [h1] at a1
    injection a1 with _ a1
    injection a1 with _ a1
    subst a1
    obtain ⟨n1, m1, _⟩ := step_next a2
    obtain ⟨r1, r2, z', r3, r4⟩ := ih okc n1 m1 h2 (fun y hy => hd y (by simp [hy]))
    exact ⟨r1, r2, z', ex_two ok (dep_symm' hdx) ⟨s1, h1, r3⟩, ⟨s1, h1, r4⟩⟩

/-- A thread that could begin. -/
def Ini (t : Int) (w : List Ev) : Prop := ∃ a p b, w = a ++ p :: b ∧ p.thread = t ∧ ∀ x ∈ a, dep p x = false

/-- In a row behind another one: what happens before what. -/
theorem evI_right (s a : List Ev) (i : Nat) : evI (s ++ a) (s.length + i) = evI a i := by
  unfold evI
  simp only [List.getD]
  rw [List.getElem?_append_right (by omega), Nat.add_sub_cancel_left]
theorem hb_right (s a : List Ev) {j : Nat} : ∀ {i : Nat}, hb (s ++ a) (s.length + i) (s.length + j) = true ↔ hb a i j = true := by
  induction j using Nat.strongRecOn with
  | _ j ih =>
    intro i
    rw [hb_def, hb_def]
    constructor
    · rintro (h | ⟨m, hm, hd, h⟩)
      · exact .inl (by omega)
      · have hle := hb_le h
        obtain ⟨m', rfl⟩ : ∃ m', m = s.length + m' := ⟨m - s.length, by omega⟩
        rw [evI_right, evI_right] at hd
        exact .inr ⟨m', by omega, hd, (ih m' (by omega)).1 h⟩
    · rintro (h | ⟨m, hm, hd, h⟩)
      · exact .inl (by omega)
      · refine .inr ⟨s.length + m, by omega, ?_, (ih m hm).2 h⟩
        rw [evI_right, evI_right]
        exact hd

/-- The first event happens before none that it doesn't lead to. -/
theorem hb_first {p : Ev} {w y : List Ev} (h : ∀ x ∈ w, dep p x = false) {m : Nat} : m < w.length → hb (p :: (w ++ y)) 0 (m + 1) = false := by
  induction m using Nat.strongRecOn with
  | _ m ih =>
    intro hm
    cases hh : hb (p :: (w ++ y)) 0 (m + 1)
    · rfl
    · exfalso
      rcases (hb_def _ _ _).1 hh with h0 | ⟨i, hi, hd, h1⟩
      · omega
      · rcases i with _ | i
        · have e1 : evI (p :: (w ++ y)) 0 = p := rfl
          have e2 : evI (p :: (w ++ y)) (m + 1) = evI w m := by
            have : evI (p :: (w ++ y)) (m + 1) = evI (w ++ y) m := rfl
            rw [this, evI_append hm]
          rw [e1, e2, h _ (evI_mem hm)] at hd
          cases hd
        · rw [ih i (by omega) (by omega)] at h1
          cases h1

end Go.Proofs.Ytbmhcnldcfaipaa

/- What a step does may be: an event that is right. -/
namespace Go.Proofs.Ytbmhcnldcfaipaa

theorem ev_right {F : Nat} {s : St} (ok : s.Ok F) {t : Int} {e : Ev} {s1 : St} (h : s.step t = (0, e, s1)) : rightEv e = true := by
  obtain ⟨i, hi, _, rfl, _⟩ := St.step_ok0 h
  have hh := (St.ins_has hi).1
  have h4 : s.ts.length ≤ 4 := by
    have h1 := ok.len
    have h2 := ok.right
    unfold rightPg at h2
    rw [Bool.and_eq_true, decide_eq_true_eq] at h2
    omega
  unfold St.has at hh
  obtain ⟨o1, o2, _, _, _, _⟩ := ok.obj hi
  unfold rightEv St.ev
  rw [decide_eq_true_eq]
  repeat' split
  all_goals dsimp only
  all_goals (refine ⟨hh.1, by omega, ?_⟩)
  · exact .inr (.inl ⟨.inl rfl, by omega, by omega, rfl⟩)
  · exact .inr (.inl ⟨.inr rfl, by omega, by omega, rfl⟩)
  · exact .inr (.inr ⟨.inl rfl, by omega, by omega, rfl⟩)
  · exact .inr (.inr ⟨.inr rfl, by omega, by omega, rfl⟩)
  · exact .inl ⟨rfl, rfl⟩
  · exact .inl ⟨rfl, rfl⟩
  · exact .inl ⟨rfl, rfl⟩

end Go.Proofs.Ytbmhcnldcfaipaa

/- An event in a box of its own. -/
namespace Go.Proofs.Ytbmhcnldcfaipaa
open Go.RowKit

end Go.Proofs.Ytbmhcnldcfaipaa

/- The contracts of event's below, ofVariable, ofMutex, Depends, Right, toByte, fromByte, and of the document's Depends, Right, Byte. -/
namespace Go.Proofs.Ytbmhcnldcfaipaa
open Go.RowKit

theorem ofVariable_any (e : Ev) (w : World) : Calls Try.prog 46 #[.agg #[.int .i64 e.thread, .int .i64 e.kind, .int .i64 e.obj, .bool e.fail]] w fun r w' => r = .returned (.bool (memE e)) ∧ Below w.heap.size w w' := by
  obtain ⟨t, k, o, f⟩ := e
  dsimp only
  go_enter Try.func46, Try.ntmps46
  go_wp2
  all_goals
    go_ret
    refine ⟨ret_bool ?_, below_alloc1 _ _⟩
    rw [Bool.eq_iff_iff]
    simp [memE]
    try omega

theorem ofMutex_any (e : Ev) (w : World) : Calls Try.prog 47 #[.agg #[.int .i64 e.thread, .int .i64 e.kind, .int .i64 e.obj, .bool e.fail]] w fun r w' => r = .returned (.bool (mutE e)) ∧ Below w.heap.size w w' := by
  obtain ⟨t, k, o, f⟩ := e
  dsimp only
  go_enter Try.func47, Try.ntmps47
  go_wp2
  all_goals
    go_ret
    refine ⟨ret_bool ?_, below_alloc1 _ _⟩
    rw [Bool.eq_iff_iff]
    simp [mutE]
    try omega

theorem two_boxes (e f : Ev) (w : World) : EvBox ((w.alloc (.cells #[.int .i64 e.thread, .int .i64 e.kind, .int .i64 e.obj, .bool e.fail] 54)).alloc (.cells #[.int .i64 f.thread, .int .i64 f.kind, .int .i64 f.obj, .bool f.fail] 54)) w.heap.size e ∧ EvBox ((w.alloc (.cells #[.int .i64 e.thread, .int .i64 e.kind, .int .i64 e.obj, .bool e.fail] 54)).alloc (.cells #[.int .i64 f.thread, .int .i64 f.kind, .int .i64 f.obj, .bool f.fail] 54)) (w.heap.size + 1) f :=
  ⟨heap_alloc2_old w _ _, heap_alloc2_new w _ _⟩

set_option maxRecDepth 100000 in
set_option maxHeartbeats 1000000 in
theorem depends_any (e f : Ev) (w : World) : Calls Try.prog 31 #[.agg #[.int .i64 e.thread, .int .i64 e.kind, .int .i64 e.obj, .bool e.fail], .agg #[.int .i64 f.thread, .int .i64 f.kind, .int .i64 f.obj, .bool f.fail]] w fun r w' => r = .returned (.bool (dep e f)) ∧ Below w.heap.size w w' := by
  obtain ⟨he, hf⟩ := two_boxes e f w
  have HE := Lib.hid he
  have HF := Lib.hid hf
  have hb0 := below_alloc2 w (.cells #[.int .i64 e.thread, .int .i64 e.kind, .int .i64 e.obj, .bool e.fail] 54) (.cells #[.int .i64 f.thread, .int .i64 f.kind, .int .i64 f.obj, .bool f.fail] 54)
  clear he hf
  by_cases h1 : e.thread = f.thread
  · have HD : Hid (dep e f = true) := by show _ = _; simp [dep, h1]
    have q1 : (e.thread == f.thread) = true := by simp [h1]
    clear h1 HE HF
    go_enter Try.func31, Try.ntmps31
    go_wp2
    go_ret
    exact ⟨ret_bool HD.out.symm, hb0⟩
  by_cases h2 : e.obj = f.obj
  case neg =>
    have HD : Hid (dep e f = false) := by show _ = _; simp [dep, h1, h2]
    have q1 : (e.thread == f.thread) = false := by simp [h1]
    have q2 : (e.obj != f.obj) = true := by simp [h2]
    clear h1 h2 HE HF
    go_enter Try.func31, Try.ntmps31
    go_wp2
    go_ret
    exact ⟨ret_bool HD.out.symm, hb0⟩
  have q1 : (e.thread == f.thread) = false := by simp [h1]
  have q2 : (e.obj != f.obj) = false := by simp [h2]
  have HT := Lib.hid h1
  have HO := Lib.hid h2
  clear h1 h2
  go_enter Try.func31, Try.ntmps31
  go_wp2_with fail
  generalize (w.alloc (.cells #[.int .i64 e.thread, .int .i64 e.kind, .int .i64 e.obj, .bool e.fail] 54)).alloc (.cells #[.int .i64 f.thread, .int .i64 f.kind, .int .i64 f.obj, .bool f.fail] 54) = W0 at *
  refine (ofVariable_any e _).mono ?_
  rintro r w1 ⟨rfl, hb1⟩
  have HE1 := Lib.hid (HE.out.later hb1)
  have HF1 := Lib.hid (HF.out.later hb1)
  have hw1 : Below w.heap.size w w1 := hb0.trans (hb1.mono hb0.size)
  clear HE HF hb0 hb1
  obtain ⟨e0, e1, e2, e3⟩ := HE1.out.cells
  obtain ⟨f0, f1, f2, f3⟩ := HF1.out.cells
  have le := HE1.out.lt
  have lf := HF1.out.lt
  generalize hm : memE e = m
  cases m
  · go_wp2_with fail
    refine (ofMutex_any e _).mono ?_
    rintro r w2 ⟨rfl, hb2⟩
    have hw2 : Below w.heap.size w w2 := hw1.trans (hb2.mono hw1.size)
    have g0 := cell_later hb2 f0
    have g1 := cell_later hb2 f1
    have g2 := cell_later hb2 f2
    have g3 := cell_later hb2 f3
    have lg := Nat.lt_of_lt_of_le lf hb2.size
    generalize hx : mutE e = x
    cases x
    · go_wp2
      go_ret
      refine ⟨ret_bool ?_, hw2⟩
      unfold memE at hm
      unfold mutE at hx
      simp at hm hx
      simp [dep, HT.out, HO.out, hm, hx]
    · clear e0 e1 e2 e3 f0 f1 f2 f3 le lf hb2
      go_wp2_with fail
      refine (ofMutex_any f _).mono ?_
      rintro r w3 ⟨rfl, hb3⟩
      have hw3 : Below w.heap.size w w3 := hw2.trans (hb3.mono hw2.size)
      go_wp2
      go_ret
      refine ⟨ret_bool ?_, hw3⟩
      unfold memE at hm
      unfold mutE at hx ⊢
      simp at hm hx
      simp [dep, HT.out, HO.out, hm, hx]
  · go_wp2_with fail
    refine (ofVariable_any f _).mono ?_
    rintro r w2 ⟨rfl, hb2⟩
    have hw2 : Below w.heap.size w w2 := hw1.trans (hb2.mono hw1.size)
    have d0 := cell_later hb2 e0
    have d1 := cell_later hb2 e1
    have d2 := cell_later hb2 e2
    have d3 := cell_later hb2 e3
    have ld := Nat.lt_of_lt_of_le le hb2.size
    have g0 := cell_later hb2 f0
    have g1 := cell_later hb2 f1
    have g2 := cell_later hb2 f2
    have g3 := cell_later hb2 f3
    have lg := Nat.lt_of_lt_of_le lf hb2.size
    clear e0 e1 e2 e3 f0 f1 f2 f3 le lf hb2
    generalize hx : memE f = x
    cases x
    · go_wp2_with fail
      refine (ofMutex_any e _).mono ?_
      rintro r w3 ⟨rfl, hb3⟩
      have hx3 : mutE e = false := by
        unfold memE at hm
        unfold mutE
        simp at hm ⊢
        omega
      rw [hx3]
      have hw3 : Below w.heap.size w w3 := hw2.trans (hb3.mono hw2.size)
      go_wp2
      go_ret
      refine ⟨ret_bool ?_, hw3⟩
      unfold memE at hm hx
      unfold mutE at hx3
      simp at hm hx hx3
      simp [dep, HT.out, HO.out, hm, hx, hx3]
    · go_wp2
      all_goals
        go_ret
        refine ⟨ret_bool ?_, hw2⟩
        unfold memE at hm hx
        simp at *
        rw [Bool.eq_iff_iff]
        simp [dep, HT.out, HO.out, *]
        try omega

set_option maxRecDepth 100000 in
set_option maxHeartbeats 1000000 in
theorem refDepends_any (e f : Ev) (w : World) : Calls Try.prog 38 #[.agg #[.int .i64 e.thread, .int .i64 e.kind, .int .i64 e.obj, .bool e.fail], .agg #[.int .i64 f.thread, .int .i64 f.kind, .int .i64 f.obj, .bool f.fail]] w fun r w' => r = .returned (.bool (dep e f)) ∧ Below w.heap.size w w' := by
  go_enter Try.func38, Try.ntmps38
  go_wp2
  all_goals
    go_ret
    refine ⟨ret_bool ?_, below_alloc2 _ _ _⟩
    simp at *
    rw [Bool.eq_iff_iff]
    simp [dep, *]
    try omega

end Go.Proofs.Ytbmhcnldcfaipaa

/- Rows that may be, and the contract of the document's Rows. -/
namespace Go.Proofs.Ytbmhcnldcfaipaa
open Go.RowKit

/-- May all events be? -/
def rightL (l : List Ev) : Bool := l.all rightEv
theorem rightL_take (l : List Ev) (k : Nat) (h : k < l.length) : rightL (l.take (k + 1)) = (rightL (l.take k) && rightEv l[k]) := by
  unfold rightL
  rw [List.take_succ_eq_append_getElem h, List.all_append]
  simp
theorem rightL_no {l : List Ev} {k : Nat} (h : k < l.length) (hr : rightEv l[k] = false) : rightL l = false := by
  unfold rightL
  rw [List.all_eq_false]
  exact ⟨l[k], List.getElem_mem h, by simp [hr]⟩
theorem rightL_get {l : List Ev} (h : rightL l = true) {k : Nat} (hk : k < l.length) : rightEv l[k] = true := by
  unfold rightL at h
  exact List.all_eq_true.1 h _ (List.getElem_mem hk)

end Go.Proofs.Ytbmhcnldcfaipaa

/- The events of a row that may be done are right; who may does something next. -/
namespace Go.Proofs.Ytbmhcnldcfaipaa
open Go.RowKit

theorem run_right {F : Nat} (row : List Int) : ∀ {s : St}, s.Ok F → (s.run row).2.1.all rightEv = true := by
  induction row with
  | nil => intro s _; rfl
  | cons t row ih =>
    intro s ok
    rw [St.run]
    split
    · rename_i h0
      split
      · have h1 : rightEv (s.step t).2.1 = true := ev_right ok (t := t) (e := (s.step t).2.1) (s1 := (s.step t).2.2) (by rw [← h0])
        have h2 := ih (ok.step_ok t)
        simp only [List.all_cons, h1, h2, Bool.and_self]
      · rfl
    · rfl
theorem rep_right {p : Pg} {fuel : Int} {row : List Int} {e : Int} {es : List Ev} {s : St} (h : rep p fuel row = (e, es, some s)) : rightL es = true := by
  obtain ⟨_, hg, _, rfl⟩ := rep_some h
  unfold goodPg at hg
  rw [Bool.and_eq_true, decide_eq_true_eq] at hg
  exact run_right row (new_ok hg.1 fuel.toNat (by omega))
theorem may_next {s : St} {t : Int} (h : s.may t = true) : ∃ x s', s.next t = some x ∧ s.step t = (0, x, s') ∧ 0 ≤ t ∧ t < s.ts.length := by
  unfold St.may at h
  cases hi : s.ins t with
  | none => rw [hi] at h; cases h
  | some i =>
    have hm : s.may t = true := by unfold St.may; exact h
    have hh := (St.ins_has hi).1
    unfold St.has at hh
    exact ⟨s.ev t i, s.do_ t i, by unfold St.next; rw [hi]; rfl, St.step_may hi hm, hh⟩


end Go.Proofs.Ytbmhcnldcfaipaa

/- Arguments that are numbers, or rows of numbers, opened. -/
namespace Go.Proofs.Ytbmhcnldcfaipaa
open Go.RowKit Go.Deep Go.Joins Go.WideShapes Go.ChangeShapes

section
variable {H : Type} {enc : TypeId × Value → H} {W : World} {base : Nat} {spare : Nat → Bool} {held : Bool}

theorem wf_in64 {n : Int} (h : (Lit.int .i64 n).wf = true) : in64 n := by
  simp [Lit.wf, IntKind.min, IntKind.max, IntKind.signed, IntKind.bits] at h
  unfold in64
  omega

set_option maxRecDepth 100000 in
theorem int_of_trod {r : Reach} {b0 : Nat} {v : Value} {d : DataW H} {p : List MemPlace} (hv : Value.okWide Try.prog W r b0 3 v) (h : DataW.Trod enc Try.prog W base spare held 3 v d p) :
    ∃ n : Int, v = .int .i64 n ∧ in64 n := by
  obtain ⟨n, e, _, _, hw⟩ := open_int Try.underlying3 hv h
  exact ⟨n, e, wf_in64 hw⟩

set_option maxRecDepth 100000 in
theorem nums_of_trod {r : Reach} {b0 : Nat} {v : Value} {d : DataW H} {p : List MemPlace} (hv : Value.okWide Try.prog W r b0 22 v) (h : DataW.Trod enc Try.prog W base spare held 22 v d p) :
    ∃ (a : Option Addr) (ns : List Int) (cap : Nat), v = .slice a ns.length cap ∧ NumsAt W a ns ∧ (a = none → cap = 0) ∧ ∀ n ∈ ns, in64 n := by
  obtain ⟨a, len, cap, rfl⟩ := okWide_slice Try.underlying22 hv
  obtain ⟨fuel, hf⟩ := h
  rcases open_ints Try.underlying22 Try.underlying3 (by kernel_rfl) hf with ⟨e, _⟩ | ⟨a', len', cap', zs, e, _, hl, hm, hz, _, hc, hw⟩
  · simp [Value.cells] at e
    obtain ⟨rfl, rfl, rfl⟩ := e
    exact ⟨none, [], 0, rfl, ⟨by simp [maxLen], fun h => absurd rfl h⟩, fun _ => rfl, by simp⟩
  · simp [Value.cells] at e
    obtain ⟨rfl, rfl, rfl⟩ := e
    have hlz : len ≤ zs.length := by rw [hz]; split <;> omega
    have hlt : (zs.take len).length = len := by simp; omega
    refine ⟨some a', zs.take len, cap, by rw [hlt], ⟨by rw [hlt]; omega, fun hne => ?_⟩, by simp, fun n hn => wf_in64 (hw n (List.mem_of_mem_take hn))⟩
    have hpos : 0 < len := by
      rcases Nat.eq_zero_or_pos len with h | h
      · subst h; simp at hne
      · exact h
    have h0 := hc 0 (by omega)
    have hsp := World.cell?_spot h0
    have hsp' : a'.spot = none := by simpa [Addr.add] using hsp
    obtain ⟨b, o, s⟩ := a'
    subst hsp'
    refine ⟨b, o, rfl, fun i hi => ?_⟩
    have hi' : i < len := by omega
    have := hc i (by omega)
    rw [add_row, getD_lt _ (by omega)] at this
    rw [this]
    simp
end
end Go.Proofs.Ytbmhcnldcfaipaa

/- An argument that is a program, opened. -/
namespace Go.Proofs.Ytbmhcnldcfaipaa
open Go.RowKit Go.Deep Go.Joins Go.WideShapes Go.ChangeShapes

section
variable {H : Type} {enc : TypeId × Value → H} {W : World} {base : Nat} {spare : Nat → Bool} {held : Bool}

set_option maxRecDepth 100000 in
theorem ins_of_trod {fuel : Nat} {cs : List Value} {x : DataW H × List MemPlace} (h : DataW.trod enc Try.prog W base spare held fuel 64 cs = some x) :
    ∃ i : Ins, cs = [.int .i64 i.kind, .int .i64 i.r, .int .i64 i.x, .int .i64 i.n] := by
  obtain ⟨xs, n, _, _, hlen, hxl, hf⟩ := DataW.trod_struct Try.underlying64 h
  have h4 : cs.length = 4 := hlen.trans (by kernel_rfl)
  have hx4 : xs.length = 4 := hxl.trans rfl
  match cs, h4, xs, hx4 with
  | [c0, c1, c2, c3], _, [x0, x1, x2, x3], _ =>
    have e1 : Try.prog.cellsOf 3 = 1 := by kernel_rfl
    have e2 : Try.prog.cellsOf 2 = 1 := by kernel_rfl
    have g0 := hf 0 _ rfl
    have g1 := hf 1 _ rfl
    have g2 := hf 2 _ rfl
    have g3 := hf 3 _ rfl
    simp [e1, e2] at g0 g1 g2 g3
    obtain ⟨n0, r0, _⟩ := DataW.trod_int Try.underlying3 g0
    obtain ⟨n1, r1, _⟩ := DataW.trod_int Try.underlying3 g1
    obtain ⟨n2, r2, _⟩ := DataW.trod_int Try.underlying3 g2
    obtain ⟨n3, r3, _⟩ := DataW.trod_int Try.underlying2 g3
    simp at r0 r1 r2 r3
    exact ⟨⟨n0, n1, n2, n3⟩, by simp [r0, r1, r2, r3]⟩

set_option maxRecDepth 100000 in
theorem code_of_trod {fuel : Nat} {cs : List Value} {x : DataW H × List MemPlace} (h : DataW.trod enc Try.prog W base spare held fuel 65 cs = some x) :
    ∃ (a : Option Addr) (l : List Ins) (cap : Nat), cs = [.slice a l.length cap] ∧ CodeAt W a l ∧ (a = none → cap = 0) := by
  rcases open_slice Try.underlying65 h with ⟨rfl, _⟩ | ⟨a, len, cap, m, n, D, Pl, rfl, _, hl, hm, hmm, _, hi⟩
  · exact ⟨none, [], 0, rfl, ⟨by simp [maxLen], fun h => absurd rfl h⟩, fun _ => rfl⟩
  · have e4 : Try.prog.cellsOf 64 = 4 := by kernel_rfl
    have hlm : len ≤ m := by rw [hmm]; split <;> omega
    obtain ⟨l, hll, hx⟩ := exists_list len (fun i (y : Ins) => ∀ j v, [Value.int .i64 y.kind, .int .i64 y.r, .int .i64 y.x, .int .i64 y.n][j]? = some v → W.cell? (a.add (i * 4 + j)) = some v) (fun i hi' => by
      obtain ⟨cs', hc, ht⟩ := hi i (by omega)
      rw [e4] at hc
      obtain ⟨y, rfl⟩ := ins_of_trod ht
      obtain ⟨_, _, hat⟩ := World.cells?_some hc
      refine ⟨y, fun j v hv => ?_⟩
      have hj : j < 4 := by have := (List.getElem?_eq_some_iff.1 hv).1; simpa using this
      rw [← add_add, hat j hj]; exact hv)
    refine ⟨some a, l, cap, by rw [hll], ⟨by omega, fun hne => ?_⟩, fun h => by cases h⟩
    have hpos : 0 < l.length := List.length_pos_iff.2 hne
    have h0 := hx 0 l[0] (List.getElem?_eq_getElem hpos) 0 _ rfl
    have hsp := World.cell?_spot h0
    have hsp' : a.spot = none := by simpa [Addr.add] using hsp
    obtain ⟨b, o, s⟩ := a
    subst hsp'
    refine ⟨b, o, rfl, fun i hi' => ?_⟩
    have hxi := hx i l[i] (List.getElem?_eq_getElem hi')
    have c0 := hxi 0 _ rfl
    have c1 := hxi 1 _ rfl
    have c2 := hxi 2 _ rfl
    have c3 := hxi 3 _ rfl
    simp only [add_row, ← Nat.add_assoc, Nat.add_zero] at c0 c1 c2 c3
    exact ⟨c0, c1, c2, c3⟩

set_option maxRecDepth 100000 in
theorem threads_of_trod {fuel : Nat} {cs : List Value} {x : DataW H × List MemPlace} (h : DataW.trod enc Try.prog W base spare held fuel 35 cs = some x) :
    ∃ (a : Option Addr) (ts : List (List Ins)) (cap : Nat), cs = [.slice a ts.length cap] ∧ ThreadsAt W a ts ∧ (a = none → cap = 0) := by
  rcases open_slice Try.underlying35 h with ⟨rfl, _⟩ | ⟨a, len, cap, m, n, D, Pl, rfl, _, hl, hm, hmm, _, hi⟩
  · exact ⟨none, [], 0, rfl, ⟨by simp [maxLen], fun h => absurd rfl h⟩, fun _ => rfl⟩
  · have e1 : Try.prog.cellsOf 65 = 1 := by kernel_rfl
    have hlm : len ≤ m := by rw [hmm]; split <;> omega
    obtain ⟨ts, hll, hx⟩ := exists_list len (fun i (l : List Ins) => ∃ c ccap, W.cell? (a.add i) = some (.slice c l.length ccap) ∧ CodeAt W c l ∧ (c = none → ccap = 0)) (fun i hi' => by
      obtain ⟨cs', hc, ht⟩ := hi i (by omega)
      rw [e1] at hc
      obtain ⟨c, l, ccap, rfl, h1, h2⟩ := code_of_trod ht
      obtain ⟨_, _, hat⟩ := World.cells?_some hc
      have := hat 0 (by omega)
      rw [add_add] at this
      exact ⟨l, c, ccap, by simpa using this, h1, h2⟩)
    refine ⟨some a, ts, cap, by rw [hll], ⟨by omega, fun hne => ?_⟩, fun h => by cases h⟩
    have hpos : 0 < ts.length := List.length_pos_iff.2 hne
    obtain ⟨c, ccap, h0, _⟩ := hx 0 ts[0] (List.getElem?_eq_getElem hpos)
    have hsp := World.cell?_spot h0
    have hsp' : a.spot = none := by simpa [Addr.add] using hsp
    obtain ⟨b, o, s⟩ := a
    subst hsp'
    refine ⟨b, o, rfl, fun i hi' => ?_⟩
    obtain ⟨c, ccap, h1, h2, h3⟩ := hx i ts[i] (List.getElem?_eq_getElem hi')
    rw [add_row] at h1
    exact ⟨c, ccap, h1, h2, h3⟩

set_option maxRecDepth 100000 in
theorem prog_of_trod {r : Reach} {b0 : Nat} {v : Value} {d : DataW H} {p : List MemPlace} (hv : Value.okWide Try.prog W r b0 37 v) (h : DataW.Trod enc Try.prog W base spare held 37 v d p) :
    ∃ (q : Pg) (a : Option Addr) (cap : Nat), v = pgV q a cap ∧ ThreadsAt W a q.threads ∧ (a = none → cap = 0) := by
  obtain ⟨v0, v1, v2, y0, y1, y2, n, rfl, _, _, h0, h1, h2⟩ := open_agg3 Try.underlying37 (by kernel_rfl) (by kernel_rfl) hv h
  obtain ⟨n0, r0, _⟩ := DataW.trod_int Try.underlying3 h0
  obtain ⟨n1, r1, _⟩ := DataW.trod_int Try.underlying3 h1
  obtain ⟨a, ts, cap, r2, ht, ha⟩ := threads_of_trod h2
  simp at r0 r1 r2
  subst r0 r1 r2
  exact ⟨⟨n0, n1, ts⟩, a, cap, rfl, ht, ha⟩
end
end Go.Proofs.Ytbmhcnldcfaipaa

/- Rows of numbers and of events held against each other: SameInts, SameEvents; two events. -/
namespace Go.Proofs.Ytbmhcnldcfaipaa
open Go.RowKit

set_option maxRecDepth 100000 in
set_option maxHeartbeats 1000000 in
theorem sameInts_any (a a' : Option Addr) (cap cap' : Nat) (l l' : List Int) (w : World) (hl : NumsAt w a l) (hl' : NumsAt w a' l') :
    Calls Try.prog 16 #[.slice a l.length cap, .slice a' l'.length cap'] w fun r w' => r = .returned (.bool (decide (l = l'))) ∧ Below w.heap.size w w' := by
  have hm := hl.1
  have hm' := hl'.1
  unfold maxLen at hm hm'
  have HL := Lib.hid hl
  have HL' := Lib.hid hl'
  clear hl hl'
  by_cases hne : l.length = l'.length
  · have HE := Lib.hid hne
    have hq : ((l.length : Int) != l'.length) = false := by simp [hne]
    have hm2 : l.length ≤ l'.length := by omega
    have hm3 : l'.length ≤ l.length := by omega
    clear hne
    go_enter Try.func16, Try.ntmps16
    go_wp2
    go_loopw [5] (fun i wr => ∃ k : Nat, k ≤ l.length ∧ i = .int .i64 k ∧ Hid (l.take k = l'.take k) ∧ Below w.heap.size w wr) (fun i _ => l.length - (intOf i).toNat)
    case atStart => exact ⟨0, Nat.zero_le _, rfl, rfl, Below.refl _ _⟩
    case round =>
      obtain ⟨k, hk, rfl, hall, hb⟩ := hrel
      by_cases hlt : k < l.length
      · have hlt' : k < l'.length := by omega
        obtain ⟨b, o, rfl, hc⟩ := HL.out.2 (by intro e; simp [e] at hlt)
        obtain ⟨b', o', rfl, hc'⟩ := HL'.out.2 (by intro e; simp [e] at hlt')
        have d0 := cell_later hb (hc k hlt)
        have d0' := cell_later hb (hc' k hlt')
        clear hc hc'
        have HT := Lib.hid (List.take_succ_eq_append_getElem hlt : l.take (k + 1) = l.take k ++ [l[k]])
        have HT' := Lib.hid (List.take_succ_eq_append_getElem hlt' : l'.take (k + 1) = l'.take k ++ [l'[k]])
        by_cases he : l[k] = l'[k]
        · have hq2 : (l[k] != l'[k]) = false := by simp [he]
          have HR : Hid (l.take (k + 1) = l'.take (k + 1)) := by show _ = _; rw [HT.out, HT'.out, hall.out, he]
          clear he
          generalize l[k] = x at *
          generalize l'[k] = x' at *
          go_wp2
          go_quiet (fail)
          go_wp2
          go_roundw
          case rel => exact ⟨k + 1, by omega, by go_num, HR, hb.drewN⟩
          case measure => simp [intOf]; omega
        · have hq2 : (l[k] != l'[k]) = true := by simpa using he
          have HR : Hid (decide (l = l') = false) := by show _ = _; simp; rintro rfl; exact he rfl
          clear he
          generalize l[k] = x at *
          generalize l'[k] = x' at *
          go_wp2
          go_quiet (fail)
          go_wp2
          go_ret
          exact ⟨ret_bool HR.out.symm, hb.drewN⟩
      · obtain rfl : k = l.length := by omega
        have HR : Hid (decide (l = l') = true) := by
          show _ = _
          have h := hall.out
          rw [List.take_length, HE.out, List.take_length] at h
          simp [h]
        go_wp2
        go_ret
        exact ⟨ret_bool HR.out.symm, hb⟩
  · have hq : ((l.length : Int) != l'.length) = true := by simp; omega
    have H : Hid (decide (l = l') = false) := by show _ = _; simp; intro e; exact hne (by rw [e])
    clear hne
    go_enter Try.func16, Try.ntmps16
    go_wp2
    go_ret
    exact ⟨ret_bool H.out.symm, Below.refl _ _⟩

end Go.Proofs.Ytbmhcnldcfaipaa

/- Arguments that are numbers, or rows of numbers, opened. -/

/- The contract of the document's Few. -/
namespace Go.Proofs.Ytbmhcnldcfaipaa
open Go.RowKit

def fewPg (p : Pg) : Bool := p.threads.all (fun l => decide (l.length ≤ 50)) && decide (p.threads.length ≤ 20)

set_option maxRecDepth 100000 in
set_option maxHeartbeats 1000000 in
theorem few_any (p : Pg) (a : Option Addr) (cap : Nat) (w : World) (hp : ThreadsAt w a p.threads) :
    Calls Try.prog 19 #[pgV p a cap] w fun r w' => r = .returned (.bool (fewPg p)) ∧ Below w.heap.size w w' := by
  obtain ⟨V, M, ts⟩ := p
  unfold pgV
  dsimp only at *
  have hm := hp.1
  unfold maxLen at hm
  have HL := Lib.hid hp
  clear hp
  go_enter Try.func19, Try.ntmps19
  go_wp2
  go_loop [3] (fun i => ∃ k : Nat, k ≤ ts.length ∧ i = .int .i64 k ∧ Hid ((ts.take k).all (fun l => decide (l.length ≤ 50)) = true)) (fun i => ts.length - (intOf i).toNat)
  case atStart => exact ⟨0, Nat.zero_le _, rfl, rfl⟩
  case round =>
    obtain ⟨k, hk, rfl, hall⟩ := hrel
    by_cases hlt : k < ts.length
    · obtain ⟨b, o, rfl, hc⟩ := HL.out.2 (by intro e; simp [e] at hlt)
      obtain ⟨c, ccap, c0, c1, _⟩ := hc k hlt
      have hz := cell_block c0
      dsimp only at hz
      have ht : (ts.take (k + 1)) = ts.take k ++ [ts[k]] := List.take_succ_eq_append_getElem hlt
      have hcm := c1.1
      unfold maxLen at hcm
      clear c1 hc
      by_cases h50 : 50 < ts[k].length
      · have HR : Hid (fewPg ⟨V, M, ts⟩ = false) := by
          show _ = _
          unfold fewPg
          dsimp only
          rw [Bool.and_eq_false_iff, List.all_eq_false]; exact .inl ⟨ts[k], List.getElem_mem _, by simp; omega⟩
        clear ht
        go_wp2
        go_ret
        exact ⟨ret_bool HR.out.symm, below_alloc1 _ _⟩
      · have HR : Hid ((ts.take (k + 1)).all (fun l => decide (l.length ≤ 50)) = true) := by
          show _ = _
          rw [ht, List.all_append, hall.out]; simp; omega
        clear ht
        go_wp2
        go_round
        case rel => exact ⟨k + 1, by omega, by go_num, HR⟩
        case measure => simp [intOf]; omega
    · obtain rfl : k = ts.length := by omega
      have HR : Hid (fewPg ⟨V, M, ts⟩ = decide (ts.length ≤ 20)) := by
        show _ = _
        have := hall.out
        rw [List.take_length] at this
        unfold fewPg
        dsimp only
        rw [this, Bool.true_and]
      go_wp2
      go_ret
      exact ⟨ret_bool (by rw [HR.out]; simp; omega), below_alloc1 _ _⟩
end Go.Proofs.Ytbmhcnldcfaipaa

/- Bytes as sets: what the machine's words do, in Nat. -/
namespace Go.Proofs.Ytbmhcnldcfaipaa
open Go

theorem u8_ofInt (n : Nat) (h : n < 256) : (BitVec.ofInt 8 (n : Int)).toNat = n := by
  rw [BitVec.ofInt_natCast, BitVec.toNat_ofNat]
  exact Nat.mod_eq_of_lt h
theorem u8_wrap (n : Nat) (h : n < 256) : IntKind.u8.wrap (n : Int) = n := by
  have := IntWalk.u8_in (n : Int) (by omega)
  exact this
theorem bits_or_u8 (n m : Nat) (hn : n < 256) (hm : m < 256) : bits .or .u8 (n : Int) (m : Int) = ((n ||| m : Nat) : Int) := by
  show IntKind.u8.wrap ((BitVec.ofInt 8 (n : Int) ||| BitVec.ofInt 8 (m : Int)).toNat : Int) = _
  rw [BitVec.toNat_or, u8_ofInt n hn, u8_ofInt m hm]
  exact u8_wrap _ (Nat.or_lt_two_pow (n := 8) hn hm)
theorem bits_and_u8 (n m : Nat) (hn : n < 256) (hm : m < 256) : bits .and .u8 (n : Int) (m : Int) = ((n &&& m : Nat) : Int) := by
  show IntKind.u8.wrap ((BitVec.ofInt 8 (n : Int) &&& BitVec.ofInt 8 (m : Int)).toNat : Int) = _
  rw [BitVec.toNat_and, u8_ofInt n hn, u8_ofInt m hm]
  exact u8_wrap _ (Nat.and_lt_two_pow (n := 8) _ hm)
/-- n without those of m. -/
def wo (n m : Nat) : Nat := n &&& (255 - m)
theorem bits_andNot_u8 (n m : Nat) (hn : n < 256) (hm : m < 256) : bits .andNot .u8 (n : Int) (m : Int) = ((wo n m : Nat) : Int) := by
  show IntKind.u8.wrap ((BitVec.ofInt 8 (n : Int) &&& ~~~(BitVec.ofInt 8 (m : Int))).toNat : Int) = _
  rw [BitVec.toNat_and, BitVec.toNat_not, u8_ofInt n hn, u8_ofInt m hm]
  exact u8_wrap _ (Nat.and_lt_two_pow (n := 8) _ (by omega))
theorem wo_lt (n m : Nat) (hn : n < 256) : wo n m < 256 := Nat.lt_of_le_of_lt (Nat.and_le_left) hn
theorem testBit_lt8 {n i : Nat} (hn : n < 256) (h : n.testBit i = true) : i < 8 := by
  apply Classical.byContradiction
  intro hi
  rw [Nat.testBit_lt_two_pow (Nat.lt_of_lt_of_le hn (show 2 ^ 8 ≤ 2 ^ i from Nat.pow_le_pow_right (by omega) (by omega)))] at h
  cases h
theorem testBit_wo {n m i : Nat} (hn : n < 256) (hm : m < 256) : (wo n m).testBit i = (n.testBit i && !m.testBit i) := by
  unfold wo
  rw [Nat.testBit_and]
  by_cases hi : i < 8
  · have h : (255 - m).testBit i = !m.testBit i := by
      have h1 := Nat.testBit_two_pow_sub_succ (n := 8) (x := m) hm i
      have e : 2 ^ 8 - (m + 1) = 255 - m := by omega
      rw [e] at h1
      rw [h1]
      simp [hi]
    rw [h]
  · cases hb : n.testBit i
    · simp
    · exact absurd (testBit_lt8 hn hb) hi
/-- Two sets with the same members are one. -/
theorem set_ext {n m : Nat} (hn : n < 256) (hm : m < 256) (h : ∀ i, i < 8 → n.testBit i = m.testBit i) : n = m := by
  apply Nat.eq_of_testBit_eq
  intro i
  by_cases hi : i < 8
  · exact h i hi
  · have h1 : n.testBit i = false := by
      rw [Bool.eq_false_iff]
      intro h
      exact hi (testBit_lt8 hn h)
    have h2 : m.testBit i = false := by
      rw [Bool.eq_false_iff]
      intro h
      exact hi (testBit_lt8 hm h)
    rw [h1, h2]

end Go.Proofs.Ytbmhcnldcfaipaa

/- Who sleeps, plainly. -/
namespace Go.Proofs.Ytbmhcnldcfaipaa

/-- What doesn't depend on a step may be done behind it just if ahead of it, and is the same. -/
theorem may_same {F : Nat} {s s1 : St} (ok : s.Ok F) {a b : Int} {e x : Ev} (h : s.step a = (0, e, s1)) (hb : s.next b = some x) (hd : dep x e = false) : s1.next b = some x ∧ s1.may b = s.may b := by
  obtain ⟨i, hi, hm, rfl, rfl⟩ := St.step_ok0 h
  unfold St.next at hb
  obtain ⟨j, hj, rfl⟩ := Option.map_eq_some_iff.1 hb
  have hba : b ≠ a := by
    have := dep_ne hd
    rwa [St.ev_thread, St.ev_thread] at this
  have hbh := (St.ins_has hj).1
  have h1 := ok.next_do hi hm hba
  have h2 : s.next b = some (s.ev b j) := by unfold St.next; rw [hj]; rfl
  refine ⟨h1.trans h2, ?_⟩
  unfold St.may
  rw [St.ins_do hi hbh (Ne.symm hba), hj]
  dsimp only
  by_cases h5 : j.kind = 5
  · have hw : (s.do_ a i).who j.x = s.who j.x := by
      rw [ok.who_do hi]
      obtain ⟨_, p2, _⟩ := ok.obj hi
      obtain ⟨_, q2, _⟩ := ok.obj hj
      split
      · rename_i hh
        exact absurd (show j.x = i.x by have := p2 (.inl hh.1); have := q2 (.inl h5); omega) (dep_muts hd (.inl h5) (.inl hh.1))
      split
      · rename_i _ hh
        exact absurd (show j.x = i.x by have := p2 (.inr hh.1); have := q2 (.inl h5); omega) (dep_muts hd (.inl h5) (.inr ⟨hh.1, hh.2.1⟩))
      · rfl
    rw [hw]
  · simp [h5]

/-- Of a set, as a number: which ones. -/
def bitsL (n : Nat) : List Nat := (List.range 8).filter fun t => n.testBit t
/-- Does a thread sleep behind a step of another one? -/
def childO (nx : Int → Option Ev) (asl ear : Nat) (t : Int) (u : Nat) : Bool := match nx t with
  | none => false
  | some e => match nx (u : Int) with
    | none => false
    | some x => decide ((u : Int) ≠ t) && (asl.testBit u || ear.testBit u) && !dep x e
/-- Which ones, of the first k. -/
def childTo (nx : Int → Option Ev) (asl ear : Nat) (t : Int) (k : Nat) : List Nat := (List.range k).filter (childO nx asl ear t)
def childB (s : St) (asl ear : Nat) (t : Int) (u : Nat) : Bool := childO s.next asl ear t u
def childL (s : St) (asl ear : Nat) (t : Int) : List Nat := childTo s.next asl ear t 8
theorem childB_iff {s : St} {asl ear : Nat} {t : Int} {u : Nat} : childB s asl ear t u = true ↔ ∃ e x, s.next t = some e ∧ s.next (u : Int) = some x ∧ (u : Int) ≠ t ∧ (asl.testBit u || ear.testBit u) = true ∧ dep x e = false := by
  unfold childB childO
  cases h1 : s.next t with
  | none => simp
  | some e =>
    cases h2 : s.next (u : Int) with
    | none => simp
    | some x =>
      simp only [Bool.and_eq_true, decide_eq_true_eq, Bool.not_eq_true', Option.some.injEq]
      constructor
      · rintro ⟨⟨h3, h4⟩, h5⟩
        exact ⟨e, x, rfl, rfl, h3, h4, h5⟩
      · rintro ⟨e', x', rfl, rfl, h3, h4, h5⟩
        exact ⟨⟨h3, h4⟩, h5⟩
/-- Who sleeps still would do the same, and may just if it might. -/
theorem child_same {F : Nat} {s s1 : St} (ok : s.Ok F) {asl ear : Nat} {t : Int} {e : Ev} (h : s.step t = (0, e, s1)) {u : Nat} (hu : childB s asl ear t u = true) : ∃ x, s.next (u : Int) = some x ∧ s1.next (u : Int) = some x ∧ s1.may (u : Int) = s.may (u : Int) := by
  obtain ⟨e', x, h1, h2, _, _, h5⟩ := childB_iff.1 hu
  have := (step_next h).1
  rw [h1] at this
  injection this with this
  subst this
  obtain ⟨g1, g2⟩ := may_same ok h h2 h5
  exact ⟨x, h2, g1, g2⟩
/-- With more asleep ahead, who were gone into anyway, as many sleep. -/
theorem child_more (s : St) (asl ear : Nat) (t : Int) (u : Nat) : childB s (asl ||| ear) ear t u = childB s asl ear t u := by
  have h : ((asl ||| ear).testBit u || ear.testBit u) = (asl.testBit u || ear.testBit u) := by
    rw [Nat.testBit_or]
    cases asl.testBit u <;> cases ear.testBit u <;> rfl
  unfold childB childO
  rw [h]

end Go.Proofs.Ytbmhcnldcfaipaa

/- Numbers as integers; a row of one's own is one from any earlier size on. -/
namespace Go.Proofs.Ytbmhcnldcfaipaa
open Go.RowKit

def ints (l : List Nat) : List Int := l.map fun (i : Nat) => (i : Int)
theorem ints_len (l : List Nat) : (ints l).length = l.length := by simp [ints]
theorem ownN_low {w : World} {B A : Nat} {v : Value} {l : List Int} (h : OwnN w B v l) (hA : A ≤ B) : OwnN w A v l := by
  obtain ⟨h1, h2 | ⟨g, cap, cur, h2, h3, h4⟩⟩ := h
  · exact ⟨h1, .inl h2⟩
  · exact ⟨h1, .inr ⟨g, cap, cur, h2, by omega, h4⟩⟩

theorem ints_app (a b : List Nat) : ints (a ++ b) = ints a ++ ints b := by simp [ints]
theorem ints_get {l : List Nat} {i : Nat} (h : i < l.length) : (ints l)[i]'(by rw [ints_len]; exact h) = (l[i] : Int) := by simp [ints]
theorem ints_mem {l : List Nat} {i : Nat} : (i : Int) ∈ ints l ↔ i ∈ l := by
  unfold ints
  rw [List.mem_map]
  constructor
  · rintro ⟨j, hj, e⟩
    have : j = i := by omega
    subst this
    exact hj
  · intro h
    exact ⟨i, h, rfl⟩

end Go.Proofs.Ytbmhcnldcfaipaa

/- Sets of threads as numbers below 256: one more, one less, of a list, how many. -/
namespace Go.Proofs.Ytbmhcnldcfaipaa

/-- The set of one thread; nobody, if a set can't be of it. -/
def aloneN (t : Int) : Nat := if 0 ≤ t ∧ t < 8 then 2 ^ t.toNat else 0
theorem aloneN_lt (t : Int) : aloneN t < 256 := by
  unfold aloneN
  split
  · rename_i h
    have h8 : t.toNat < 8 := by omega
    exact Nat.pow_lt_pow_right (a := 2) (n := 8) (by omega) h8
  · omega
theorem testBit_alone {t : Int} {i : Nat} (hi : i < 8) : (aloneN t).testBit i = decide (t = i) := by
  unfold aloneN
  split
  · rename_i h
    rw [Nat.testBit_two_pow]
    by_cases e : t = i
    · subst e; simp
    · have e2 : ¬ (t.toNat = i) := by omega
      simp [e, e2]
  · rename_i h
    rw [Nat.zero_testBit]
    symm
    simp only [decide_eq_false_iff_not]
    omega
/-- Is a thread of a set? -/
def hasB (n : Nat) (t : Int) : Bool := decide (0 ≤ t ∧ t < 8) && n.testBit t.toNat
theorem hasB_nat (n : Nat) {i : Nat} (hi : i < 8) : hasB n (i : Int) = n.testBit i := by
  unfold hasB
  have h : (0 : Int) ≤ i ∧ (i : Int) < 8 := by omega
  simp [h]
theorem and_alone (n : Nat) (t : Int) : (n &&& aloneN t = 0) ↔ hasB n t = false := by
  unfold hasB
  by_cases h : 0 ≤ t ∧ t < 8
  · have e : aloneN t = 2 ^ t.toNat := by unfold aloneN; rw [if_pos h]
    rw [e]
    simp only [h, and_self, decide_true, Bool.true_and]
    constructor
    · intro h0
      have := congrArg (fun m => Nat.testBit m t.toNat) h0
      simpa [Nat.testBit_and, Nat.testBit_two_pow] using this
    · intro h0
      apply Nat.eq_of_testBit_eq
      intro j
      rw [Nat.testBit_and, Nat.testBit_two_pow, Nat.zero_testBit]
      by_cases e : t.toNat = j
      · subst e; simp [h0]
      · simp [e]
  · have e : aloneN t = 0 := by unfold aloneN; rw [if_neg h]
    rw [e]
    simp [h]
/-- One more, one less. -/
def wt (n : Nat) (t : Int) : Nat := n ||| aloneN t
def wl (n : Nat) (t : Int) : Nat := wo n (aloneN t)
theorem or_lt8 {n m : Nat} (hn : n < 256) (hm : m < 256) : n ||| m < 256 := Nat.or_lt_two_pow (n := 8) hn hm
theorem wt_lt {n : Nat} (hn : n < 256) (t : Int) : wt n t < 256 := or_lt8 hn (aloneN_lt t)
theorem wl_lt {n : Nat} (hn : n < 256) (t : Int) : wl n t < 256 := wo_lt _ _ hn
theorem testBit_wt {n : Nat} {t : Int} {i : Nat} (hi : i < 8) : (wt n t).testBit i = (n.testBit i || decide (t = i)) := by
  unfold wt
  rw [Nat.testBit_or, testBit_alone hi]
theorem testBit_wl {n : Nat} (hn : n < 256) {t : Int} {i : Nat} (hi : i < 8) : (wl n t).testBit i = (n.testBit i && !decide (t = i)) := by
  unfold wl
  rw [testBit_wo hn (aloneN_lt t), testBit_alone hi]
/-- Of a list. -/
def ofN (l : List Int) : Nat := l.foldl wt 0
theorem foldl_wt_lt (l : List Int) : ∀ {n : Nat}, n < 256 → l.foldl wt n < 256 := by
  induction l with
  | nil => intro n h; exact h
  | cons t l ih => intro n h; exact ih (wt_lt h t)
theorem ofN_lt (l : List Int) : ofN l < 256 := foldl_wt_lt l (by omega)
theorem ofN_snoc (l : List Int) (t : Int) : ofN (l ++ [t]) = wt (ofN l) t := by
  unfold ofN
  rw [List.foldl_append]
  rfl
theorem testBit_foldl (l : List Int) {i : Nat} (hi : i < 8) : ∀ n : Nat, (l.foldl wt n).testBit i = (n.testBit i || decide ((i : Int) ∈ l)) := by
  induction l with
  | nil => intro n; simp
  | cons t l ih =>
    intro n
    rw [List.foldl_cons, ih, testBit_wt hi]
    by_cases e : t = (i : Int)
    · subst e; simp
    · have e2 : ¬ ((i : Int) = t) := fun h => e h.symm
      simp [e, e2]
theorem testBit_ofN (l : List Int) {i : Nat} (hi : i < 8) : (ofN l).testBit i = decide ((i : Int) ∈ l) := by
  unfold ofN
  rw [testBit_foldl l hi]
  simp
/-- Which ones, of the first k. -/
def bitsTo (n k : Nat) : List Nat := (List.range k).filter fun t => n.testBit t
theorem bitsTo_yes {n k : Nat} (h : n.testBit k = true) : bitsTo n (k + 1) = bitsTo n k ++ [k] := by
  unfold bitsTo
  rw [List.range_succ, List.filter_append]
  simp [h]
theorem bitsTo_no {n k : Nat} (h : n.testBit k = false) : bitsTo n (k + 1) = bitsTo n k := by
  unfold bitsTo
  rw [List.range_succ, List.filter_append]
  simp [h]
theorem bitsTo_len (n k : Nat) : (bitsTo n k).length ≤ k := by
  unfold bitsTo
  refine Nat.le_trans (List.length_filter_le _ _) ?_
  rw [List.length_range]
  exact Nat.le_refl _
theorem bitsL_len (n : Nat) : (bitsL n).length ≤ 8 := bitsTo_len n 8
theorem mem_bits {n i : Nat} : i ∈ bitsL n ↔ i < 8 ∧ n.testBit i = true := by
  unfold bitsL
  rw [List.mem_filter, List.mem_range]
theorem of_bits {n : Nat} (hn : n < 256) : ofN (ints (bitsL n)) = n := by
  refine set_ext (ofN_lt _) hn fun i hi => ?_
  rw [testBit_ofN _ hi]
  have h : ((i : Int) ∈ ints (bitsL n)) ↔ n.testBit i = true := by
    rw [ints_mem, mem_bits]
    exact ⟨fun h => h.2, fun h => ⟨hi, h⟩⟩
  cases hb : n.testBit i
  · rw [decide_eq_false_iff_not, h, hb]; exact Bool.false_ne_true
  · rw [decide_eq_true_eq, h, hb]
theorem filter_or_len (p q : Nat → Bool) (l : List Nat) : (l.filter fun x => p x || q x).length ≤ (l.filter p).length + (l.filter q).length := by
  induction l with
  | nil => simp
  | cons x l ih =>
    rw [List.filter_cons, List.filter_cons, List.filter_cons]
    cases p x <;> cases q x <;> simp <;> omega
theorem union_len (n m : Nat) : (bitsL (n ||| m)).length ≤ (bitsL n).length + (bitsL m).length := by
  have := filter_or_len n.testBit m.testBit (List.range 8)
  unfold bitsL
  simpa [Nat.testBit_or] using this
theorem pop_bits : ∀ n : Fin 256, Lib.pop8 (n.val : Int) = ((bitsL n.val).length : Nat) := by decide +kernel
theorem pop_len {n : Nat} (hn : n < 256) : Lib.pop8 (n : Int) = ((bitsL n).length : Nat) := pop_bits ⟨n, hn⟩

end Go.Proofs.Ytbmhcnldcfaipaa

/- The contracts of sleep's sets. -/
namespace Go.Proofs.Ytbmhcnldcfaipaa
open Go.RowKit

theorem alone_mid : ∀ k : Fin 8, (2 : Int) ^ k.val % 256 = ((aloneN (k.val : Int) : Nat) : Int) := by decide +kernel
theorem pop_wrap : ∀ n : Fin 256, wrap64 (Lib.pop8 (n.val : Int)) = ((bitsL n.val).length : Nat) := by decide +kernel
set_option maxRecDepth 100000 in
theorem alone_any (t : Int) (w : World) : Calls Try.prog 33 #[.int .i64 t] w fun r w' => r = .returned (.int .u8 (aloneN t : Nat)) ∧ w = w' := by
  by_cases h0 : t < 0
  · have HA : Hid (aloneN t = 0) := by show _ = _; unfold aloneN; rw [if_neg (by omega)]
    go_enter Try.func33, Try.ntmps33
    go_wp2
    go_ret
    exact ⟨by rw [HA.out]; rfl, rfl⟩
  · by_cases h8 : t < 8
    · obtain ⟨k, rfl⟩ : ∃ k : Nat, t = k := ⟨t.toNat, by omega⟩
      have HA := Lib.hid (alone_mid ⟨k, by omega⟩)
      have h9 : ¬ ((k : Int) ≥ 8) := by omega
      go_enter Try.func33, Try.ntmps33
      go_wp2
      go_ret
      exact ⟨by rw [← HA.out]; rfl, rfl⟩
    · have HA : Hid (aloneN t = 0) := by show _ = _; unfold aloneN; rw [if_neg (by omega)]
      have h9 : t ≥ 8 := by omega
      go_enter Try.func33, Try.ntmps33
      go_wp2
      go_ret
      exact ⟨by rw [HA.out]; rfl, rfl⟩

set_option maxRecDepth 100000 in
theorem has_any {n : Nat} (hn : n < 256) (t : Int) (w : World) : Calls Try.prog 10 #[.int .u8 n, .int .i64 t] w fun r w' => r = .returned (.bool (hasB n t)) ∧ w = w' := by
  have HQ : Hid (bits .and .u8 (n : Int) (aloneN t : Int) = ((n &&& aloneN t : Nat) : Int)) := bits_and_u8 n (aloneN t) hn (aloneN_lt t)
  have HB : Hid ((((n &&& aloneN t : Nat) : Int) != 0) = hasB n t) := by
    show _ = _
    have := and_alone n t
    cases hb : hasB n t
    · rw [this.2 hb]; rfl
    · rw [bne_iff_ne]
      intro h0
      rw [this.1 (by omega)] at hb
      cases hb
  go_enter Try.func10, Try.ntmps10
  go_wp2_with fail
  refine (alone_any t w).mono ?_
  rintro r w' ⟨rfl, rfl⟩
  go_wp2
  go_ret
  exact ⟨by rw [HQ.out, HB.out]; rfl, rfl⟩

set_option maxRecDepth 100000 in
theorem with_any {n : Nat} (hn : n < 256) (t : Int) (w : World) : Calls Try.prog 13 #[.int .u8 n, .int .i64 t] w fun r w' => r = .returned (.int .u8 (wt n t : Nat)) ∧ w = w' := by
  have HQ : Hid (bits .or .u8 (n : Int) (aloneN t : Int) = ((wt n t : Nat) : Int)) := bits_or_u8 n (aloneN t) hn (aloneN_lt t)
  go_enter Try.func13, Try.ntmps13
  go_wp2_with fail
  refine (alone_any t w).mono ?_
  rintro r w' ⟨rfl, rfl⟩
  go_wp2
  go_ret
  exact ⟨by rw [HQ.out]; rfl, rfl⟩

set_option maxRecDepth 100000 in
theorem without_any {n : Nat} (hn : n < 256) (t : Int) (w : World) : Calls Try.prog 14 #[.int .u8 n, .int .i64 t] w fun r w' => r = .returned (.int .u8 (wl n t : Nat)) ∧ w = w' := by
  have HQ : Hid (bits .andNot .u8 (n : Int) (aloneN t : Int) = ((wl n t : Nat) : Int)) := bits_andNot_u8 n (aloneN t) hn (aloneN_lt t)
  go_enter Try.func14, Try.ntmps14
  go_wp2_with fail
  refine (alone_any t w).mono ?_
  rintro r w' ⟨rfl, rfl⟩
  go_wp2
  go_ret
  exact ⟨by rw [HQ.out]; rfl, rfl⟩

set_option maxRecDepth 100000 in
theorem union_any {n m : Nat} (hn : n < 256) (hm : m < 256) (w : World) : Calls Try.prog 12 #[.int .u8 n, .int .u8 m] w fun r w' => r = .returned (.int .u8 (n ||| m : Nat)) ∧ w = w' := by
  have HQ := Lib.hid (bits_or_u8 n m hn hm)
  go_enter Try.func12, Try.ntmps12
  go_wp2
  go_ret
  exact ⟨by rw [HQ.out]; rfl, rfl⟩

set_option maxRecDepth 100000 in
theorem ones_any {n : Nat} (hn : n < 256) (w : World) : Calls Try.prog 34 #[.int .u8 n] w fun r w' => r = .returned (.int .i64 ((bitsL n).length : Nat)) ∧ w = w' := by
  have h0 : (n : Int) ≤ 255 := by omega
  have HP := Lib.hid (pop_wrap ⟨n, hn⟩)
  have HL := bitsL_len n
  go_enter Try.func34, Try.ntmps34
  go_wp2
  go_ret
  exact ⟨by rw [HP.out]; rfl, rfl⟩

set_option maxRecDepth 100000 in
theorem len_any {n : Nat} (hn : n < 256) (w : World) : Calls Try.prog 18 #[.int .u8 n] w fun r w' => r = .returned (.int .i64 ((bitsL n).length : Nat)) ∧ w = w' := by
  go_enter Try.func18, Try.ntmps18
  go_wp2_with fail
  refine (ones_any hn w).mono ?_
  rintro r w' ⟨rfl, rfl⟩
  go_wp2
  go_ret
  exact ⟨rfl, rfl⟩

set_option maxRecDepth 100000 in
set_option maxHeartbeats 1000000 in
theorem of_any (a : Option Addr) (cap : Nat) (l : List Int) (w : World) (hl : NumsAt w a l) (hm : l.length ≤ 1000) :
    Calls Try.prog 15 #[.slice a l.length cap] w fun r w' => r = .returned (.int .u8 (ofN l : Nat)) ∧ w = w' := by
  have HL := Lib.hid hl
  clear hl
  go_enter Try.func15, Try.ntmps15
  go_wp2
  go_loopw [3, 8] (fun z i wr => ∃ k : Nat, k ≤ l.length ∧ i = .int .i64 k ∧ z = .int .u8 (ofN (l.take k) : Nat) ∧ wr = w) (fun _ i _ => l.length - (intOf i).toNat)
  case atStart => exact ⟨0, Nat.zero_le _, rfl, rfl, rfl⟩
  case round =>
    obtain ⟨k, hk, rfl, rfl, rfl⟩ := hrel
    by_cases hlt : k < l.length
    · obtain ⟨b, o, rfl, hc⟩ := HL.out.2 (by intro e; simp [e] at hlt)
      have hck := hc k hlt
      have HT : Hid (ofN (l.take (k + 1)) = wt (ofN (l.take k)) l[k]) := by
        show _ = _
        rw [List.take_succ_eq_append_getElem hlt, ofN_snoc]
      go_wp2_with fail
      refine (with_any (ofN_lt _) _ _).mono ?_
      rintro r w' ⟨rfl, rfl⟩
      go_wp2
      go_roundw
      case rel => exact ⟨k + 1, by omega, by go_num, by rw [HT.out], by trivial⟩
      case measure => simp [intOf]; omega
    · obtain rfl : k = l.length := by omega
      go_wp2
      go_ret
      exact ⟨by rw [List.take_length]; rfl, rfl⟩

set_option maxRecDepth 100000 in
set_option maxHeartbeats 1000000 in
theorem setAll_any {n : Nat} (hn : n < 256) (w : World) :
    Calls Try.prog 17 #[.int .u8 n] w fun r w' => ∃ v, r = .returned v ∧ OwnN w' w.heap.size v (ints (bitsL n)) ∧ Below w.heap.size w w' := by
  go_enter Try.func17, Try.ntmps17
  go_wp2
  go_loopw [3, 5] (fun l i wr => ∃ k : Nat, k ≤ 8 ∧ i = .int .i64 k ∧ OwnN wr w.heap.size l (ints (bitsTo n k)) ∧ Below w.heap.size w wr) (fun _ i _ => 8 - (intOf i).toNat)
  case atStart => exact ⟨0, Nat.zero_le _, rfl, ownN_nil _ _, Below.refl _ _⟩
  case round =>
    obtain ⟨k, hk, rfl, hown, hb⟩ := hrel
    by_cases hlt : k < 8
    · have hle := bitsTo_len n k
      rw [← ints_len] at hle
      have hz := hb.size
      have HH := Lib.hid (hasB_nat n hlt)
      have HY := Lib.hid (bitsTo_yes (n := n) (k := k))
      have HN := Lib.hid (bitsTo_no (n := n) (k := k))
      go_wp2_with fail
      refine (has_any hn (k : Int) wr).mono ?_
      rintro r w' ⟨rfl, rfl⟩
      rw [HH.out]
      cases hm : n.testBit k
      · have HR := Lib.hid (HN.out hm)
        clear hm
        go_wp2
        go_roundw
        case rel => exact ⟨k + 1, by omega, by go_num, by rw [HR.out]; exact hown, hb⟩
        case measure => simp [intOf]; omega
      · have HR : Hid (ints (bitsTo n (k + 1)) = ints (bitsTo n k) ++ [(k : Int)]) := by
          show _ = _
          rw [HY.out hm, ints_app]; rfl
        clear hm
        go_wp2_with (at_builtin; refine wp_appendN rfl (.tmp 11) (.tmp 13) rfl w.heap.size _ (ints (bitsTo n k)) rfl (hown.alloc _) ⟨wr.heap.size, 0, none⟩ 1 1 rfl [(k : Int)] rfl (nums_new wr [(k : Int)] _ _ rfl) (by simp; omega) (by simp; omega) ?_; intro v1 w2 hown2 hb3 _)
        have hb4 := (hb.alloc hz _).trans hb3
        go_roundw
        case rel => exact ⟨k + 1, by omega, by go_num, by rw [HR.out]; exact hown2, hb4⟩
        case measure => simp [intOf]; omega
    · obtain rfl : k = 8 := by omega
      go_wp2
      go_ret
      exact ⟨_, rfl, hown, hb⟩

end Go.Proofs.Ytbmhcnldcfaipaa

/- The contracts of the document's In and Bits, and of two rows of numbers held against one another. -/
namespace Go.Proofs.Ytbmhcnldcfaipaa
open Go.RowKit

/-- A row of numbers has its cells. -/
theorem num_at {w : World} {a : Option Addr} {l : List Int} (h : NumsAt w a l) {k : Nat} (hk : k < l.length) : ∃ b o, a = some ⟨b, o, none⟩ ∧ w.cell? ⟨b, o + k, none⟩ = some (.int .i64 l[k]) := by
  obtain ⟨b, o, rfl, hc⟩ := h.2 (by intro e; rw [e] at hk; simp at hk)
  exact ⟨b, o, rfl, hc k hk⟩

set_option maxRecDepth 100000 in
set_option maxHeartbeats 1000000 in
theorem refIn_any (a : Option Addr) (cap : Nat) (l : List Int) (x : Int) (w : World) (hl : NumsAt w a l) (hm : l.length ≤ 1000) :
    Calls Try.prog 11 #[.slice a l.length cap, .int .i64 x] w fun r w' => r = .returned (.bool (decide (x ∈ l))) ∧ w = w' := by
  have HL := Lib.hid hl
  clear hl
  go_enter Try.func11, Try.ntmps11
  go_wp2
  go_loopw [5] (fun i wr => ∃ k : Nat, k ≤ l.length ∧ i = .int .i64 k ∧ x ∉ l.take k ∧ wr = w) (fun i _ => l.length - (intOf i).toNat)
  case atStart => exact ⟨0, Nat.zero_le _, rfl, by simp, rfl⟩
  case round =>
    obtain ⟨k, hk, rfl, hno, rfl⟩ := hrel
    by_cases hlt : k < l.length
    · obtain ⟨b, o, rfl, hck⟩ := num_at HL.out hlt
      by_cases he : l[k] = x
      · have hq : (l[k] == x) = true := by simp [he]
        have HX : Hid (decide (x ∈ l) = true) := by
          show _ = _
          rw [decide_eq_true_eq, ← he]
          exact List.getElem_mem hlt
        clear he hno
        go_wp2
        go_ret
        exact ⟨by rw [HX.out]; rfl, rfl⟩
      · have hq : (l[k] == x) = false := by simp [he]
        have HX : Hid (x ∉ l.take (k + 1)) := by
          show ¬ _
          rw [List.take_succ_eq_append_getElem hlt, List.mem_append, List.mem_singleton]
          rintro (h | h)
          · exact hno h
          · exact he h.symm
        clear he hno
        go_wp2
        go_roundw
        case rel => exact ⟨k + 1, by omega, by go_num, HX.out, by trivial⟩
        case measure => simp [intOf]; omega
    · obtain rfl : k = l.length := by omega
      rw [List.take_length] at hno
      have HX : Hid (decide (x ∈ l) = false) := by
        show _ = _
        simp [hno]
      clear hno
      go_wp2
      go_ret
      exact ⟨by rw [HX.out]; rfl, rfl⟩

theorem bit_mid : ∀ (n : Fin 256) (k : Fin 8), ((n.val : Int) / 2 ^ k.val).tmod 2 = if n.val.testBit k.val then 1 else 0 := by decide +kernel

set_option maxRecDepth 100000 in
set_option maxHeartbeats 1000000 in
theorem refBits_any {n : Nat} (hn : n < 256) (w : World) :
    Calls Try.prog 9 #[.int .i64 n] w fun r w' => ∃ v, r = .returned v ∧ OwnN w' w.heap.size v (ints (bitsL n)) ∧ Below w.heap.size w w' := by
  go_enter Try.func9, Try.ntmps9
  go_wp2
  go_loopw [3, 4] (fun l i wr => ∃ k : Nat, k ≤ 8 ∧ i = .int .i64 k ∧ OwnN wr w.heap.size l (ints (bitsTo n k)) ∧ Below w.heap.size w wr) (fun _ i _ => 8 - (intOf i).toNat)
  case atStart => exact ⟨0, Nat.zero_le _, rfl, ownN_nil _ _, Below.refl _ _⟩
  case round =>
    obtain ⟨k, hk, rfl, hown, hb⟩ := hrel
    by_cases hlt : k < 8
    · have hle := bitsTo_len n k
      rw [← ints_len] at hle
      have hz := hb.size
      have hbm := bit_mid ⟨n, hn⟩ ⟨k, hlt⟩
      have HY := Lib.hid (bitsTo_yes (n := n) (k := k))
      have HN := Lib.hid (bitsTo_no (n := n) (k := k))
      cases hm : n.testBit k
      · have HR := Lib.hid (HN.out hm)
        have hq : (((n : Int) / 2 ^ k).tmod 2 == 1) = false := by rw [hbm]; simp [hm]
        clear hm hbm
        go_wp2
        go_roundw
        case rel => exact ⟨k + 1, by omega, by go_num, by rw [HR.out]; exact hown, hb⟩
        case measure => simp [intOf]; omega
      · have HR : Hid (ints (bitsTo n (k + 1)) = ints (bitsTo n k) ++ [(k : Int)]) := by
          show _ = _
          rw [HY.out hm, ints_app]; rfl
        have hq : (((n : Int) / 2 ^ k).tmod 2 == 1) = true := by rw [hbm]; simp [hm]
        clear hm hbm
        go_wp2_with (at_builtin; refine wp_appendN rfl (.tmp 14) (.tmp 16) rfl w.heap.size _ (ints (bitsTo n k)) rfl (hown.alloc _) ⟨wr.heap.size, 0, none⟩ 1 1 rfl [(k : Int)] rfl (nums_new wr [(k : Int)] _ _ rfl) (by simp; omega) (by simp; omega) ?_; intro v1 w2 hown2 hb3 _)
        have hb4 := (hb.alloc hz _).trans hb3
        go_roundw
        case rel => exact ⟨k + 1, by omega, by go_num, by rw [HR.out]; exact hown2, hb4⟩
        case measure => simp [intOf]; omega
    · obtain rfl : k = 8 := by omega
      go_wp2
      go_ret
      exact ⟨_, rfl, hown, hb⟩

end Go.Proofs.Ytbmhcnldcfaipaa

/- Who sleeps, of sets as numbers. -/
namespace Go.Proofs.Ytbmhcnldcfaipaa

/-- Does a thread do something next that doesn't depend on an event? -/
def apart (nx : Int → Option Ev) (e : Ev) (u : Nat) : Bool := match nx (u : Int) with
  | none => false
  | some x => !dep e x
theorem apart_none {nx : Int → Option Ev} {e : Ev} {u : Nat} (h : nx (u : Int) = none) : apart nx e u = false := by unfold apart; rw [h]
theorem apart_some {nx : Int → Option Ev} {e x : Ev} {u : Nat} (h : nx (u : Int) = some x) : apart nx e u = !dep e x := by unfold apart; rw [h]
theorem child_all {nx : Int → Option Ev} {e : Ev} {asl ear : Nat} {t : Int} (h : nx t = some e) (ha : asl < 256) (he : ear < 256) :
    (bitsL (wl (asl ||| ear) t)).filter (apart nx e) = childTo nx asl ear t 8 := by
  unfold bitsL childTo
  rw [List.filter_filter]
  refine List.filter_congr fun u hu => ?_
  have hu8 : u < 8 := List.mem_range.1 hu
  rw [testBit_wl (or_lt8 ha he) hu8, Nat.testBit_or]
  unfold apart childO
  rw [h]
  cases h2 : nx (u : Int) with
  | none => simp
  | some x =>
    dsimp only
    rw [dep_symm e x]
    by_cases e1 : t = (u : Int)
    · simp [e1]
    · have e2 : ¬ ((u : Int) = t) := fun h => e1 h.symm
      simp [e1, e2]
      cases asl.testBit u <;> cases ear.testBit u <;> cases dep x e <;> rfl
theorem child_none {nx : Int → Option Ev} {asl ear : Nat} {t : Int} (h : nx t = none) (k : Nat) : childTo nx asl ear t k = [] := by
  unfold childTo
  rw [List.filter_eq_nil_iff]
  intro u _
  unfold childO
  rw [h]
  exact Bool.false_ne_true
theorem childTo_yes {nx : Int → Option Ev} {asl ear : Nat} {t : Int} {k : Nat} (h : childO nx asl ear t k = true) : ints (childTo nx asl ear t (k + 1)) = ints (childTo nx asl ear t k) ++ [(k : Int)] := by
  unfold childTo
  rw [List.range_succ, List.filter_append, ints_app]
  simp [h, ints]
theorem childTo_no {nx : Int → Option Ev} {asl ear : Nat} {t : Int} {k : Nat} (h : childO nx asl ear t k = false) : childTo nx asl ear t (k + 1) = childTo nx asl ear t k := by
  unfold childTo
  rw [List.range_succ, List.filter_append]
  simp [h]
theorem childTo_len (nx : Int → Option Ev) (asl ear : Nat) (t : Int) (k : Nat) : (childTo nx asl ear t k).length ≤ k := by
  unfold childTo
  refine Nat.le_trans (List.length_filter_le _ _) ?_
  rw [List.length_range]
  exact Nat.le_refl _
/-- The same, as a set. -/
def childN (nx : Int → Option Ev) (asl ear : Nat) (t : Int) : Nat := ofN (ints (childTo nx asl ear t 8))
theorem childN_lt (nx : Int → Option Ev) (asl ear : Nat) (t : Int) : childN nx asl ear t < 256 := ofN_lt _
theorem testBit_childN (nx : Int → Option Ev) (asl ear : Nat) (t : Int) {i : Nat} (hi : i < 8) : (childN nx asl ear t).testBit i = childO nx asl ear t i := by
  unfold childN
  rw [testBit_ofN _ hi]
  have h : ((i : Int) ∈ ints (childTo nx asl ear t 8)) ↔ childO nx asl ear t i = true := by
    rw [ints_mem]
    unfold childTo
    rw [List.mem_filter, List.mem_range]
    exact ⟨fun h => h.2, fun h => ⟨hi, h⟩⟩
  cases hb : childO nx asl ear t i
  · rw [decide_eq_false_iff_not, h, hb]; exact Bool.false_ne_true
  · rw [decide_eq_true_eq, h, hb]
theorem bits_childN (nx : Int → Option Ev) (asl ear : Nat) (t : Int) : bitsL (childN nx asl ear t) = childTo nx asl ear t 8 := by
  unfold bitsL childTo
  exact List.filter_congr fun u hu => testBit_childN nx asl ear t (List.mem_range.1 hu)
/-- A number is among a set's just if it is of it. -/
theorem mem_has (n : Nat) (x : Int) : decide (x ∈ ints (bitsL n)) = hasB n x := by
  unfold hasB
  by_cases h : 0 ≤ x ∧ x < 8
  · obtain ⟨i, rfl⟩ : ∃ i : Nat, x = i := ⟨x.toNat, by omega⟩
    have hi : i < 8 := by omega
    simp only [h, and_self, decide_true, Bool.true_and, Int.toNat_natCast]
    cases hb : n.testBit i
    · rw [decide_eq_false_iff_not, ints_mem, mem_bits, hb]
      exact fun h => Bool.false_ne_true h.2
    · rw [decide_eq_true_eq, ints_mem, mem_bits, hb]
      exact ⟨hi, rfl⟩
  · simp only [h, decide_false, Bool.false_and, decide_eq_false_iff_not]
    intro hx
    unfold ints at hx
    obtain ⟨i, hi, rfl⟩ := List.mem_map.1 hx
    have := (mem_bits.1 hi).1
    omega
/-- Do all sleep who may? -/
def blockedB (all : List Int) (asl : Nat) : Bool := !all.isEmpty && all.all (hasB asl)
theorem of_zero {l : List Int} (h : ∀ x ∈ l, 0 ≤ x ∧ x < 8) : ofN l = 0 ↔ l = [] := by
  constructor
  · intro h0
    cases l with
    | nil => rfl
    | cons x l =>
      obtain ⟨i, rfl⟩ : ∃ i : Nat, x = i := ⟨x.toNat, by have := h x (by simp); omega⟩
      have hi : i < 8 := by have := h (i : Int) (by simp); omega
      have := testBit_ofN ((i : Int) :: l) hi
      rw [h0, Nat.zero_testBit] at this
      simp at this
  · rintro rfl; rfl
theorem wo_zero {l : List Int} {asl : Nat} (ha : asl < 256) (h : ∀ x ∈ l, 0 ≤ x ∧ x < 8) : wo (ofN l) asl = 0 ↔ l.all (hasB asl) = true := by
  rw [List.all_eq_true]
  constructor
  · intro h0 x hx
    obtain ⟨i, rfl⟩ : ∃ i : Nat, x = i := ⟨x.toNat, by have := h x hx; omega⟩
    have hi : i < 8 := by have := h (i : Int) hx; omega
    rw [hasB_nat _ hi]
    have h1 := testBit_wo (i := i) (ofN_lt l) ha
    rw [h0, Nat.zero_testBit, testBit_ofN _ hi] at h1
    simpa [hx] using h1
  · intro h0
    refine set_ext (wo_lt _ _ (ofN_lt l)) (by omega) fun i hi => ?_
    rw [testBit_wo (ofN_lt l) ha, testBit_ofN _ hi, Nat.zero_testBit]
    by_cases hx : (i : Int) ∈ l
    · have := h0 _ hx
      rw [hasB_nat _ hi] at this
      simp [this]
    · simp [hx]
theorem all_small {F : Nat} {s : St} (ok : s.Ok F) : ∀ x ∈ s.all, 0 ≤ x ∧ x < 8 := by
  intro x hx
  have h4 := ok.len4
  unfold St.all at hx
  obtain ⟨i, hi, rfl⟩ := List.mem_map.1 (List.mem_filter.1 hx).1
  have := List.mem_range.1 hi
  simp only [Int.ofNat_eq_natCast]
  omega
theorem all_len8 {F : Nat} {s : St} (ok : s.Ok F) : s.all.length ≤ 4 := by
  have h4 := ok.len4
  unfold St.all
  refine Nat.le_trans (List.length_filter_le _ _) ?_
  rw [List.length_map, List.length_range]
  exact h4

end Go.Proofs.Ytbmhcnldcfaipaa

/- Of a state that is none: how many threads, what one does next, who may. -/
namespace Go.Proofs.Ytbmhcnldcfaipaa
open Go.RowKit

theorem nil_threads (w : World) : Calls Try.prog 30 #[.pointer none] w fun r w' => r = .returned (.int .i64 0) ∧ w = w' := by
  go_enter Try.func30, Try.ntmps30
  go_wp2
  go_ret
  exact ⟨rfl, rfl⟩
theorem nil_instr (t : Int) (w : World) : Calls Try.prog 43 #[.pointer none, .int .i64 t] w fun r w' => r = .returned (.tuple #[.agg #[.int .i64 0, .int .i64 0, .int .i64 0, .int .i64 0], .bool false]) ∧ Below w.heap.size w w' := by
  have hb : belowB t 0 = false := decide_eq_false (by omega)
  go_enter Try.func43, Try.ntmps43
  go_wp2_with (first
    | (go_at_call 42; refine (sbelow_any _ _ _).mono ?_; rintro r w' ⟨rfl, rfl⟩)
    | (go_at_call 30; refine (nil_threads _).mono ?_; rintro r w' ⟨rfl, rfl⟩))
  exact bodyPost_ret (v := .tuple #[.agg #[.int .i64 0, .int .i64 0, .int .i64 0, .int .i64 0], .bool false]) (by simp [results, Try.results43, go_sem]) rfl ⟨rfl, below_alloc1 w _⟩
theorem nil_next (t : Int) (w : World) : Calls Try.prog 29 #[.pointer none, .int .i64 t] w fun r w' => r = .returned (.tuple #[.agg #[.int .i64 0, .int .i64 0, .int .i64 0, .bool false], .bool false]) ∧ Below w.heap.size w w' := by
  go_enter Try.func29, Try.ntmps29
  go_wp2_with fail
  refine (nil_instr t _).mono ?_
  rintro r w1 ⟨rfl, hb1⟩
  have hw1 : Below w.heap.size w w1 := (below_alloc1 w _).trans (hb1.mono (by simp))
  have hz : w.heap.size < w1.heap.size := by have := hb1.size; simp at this; omega
  have hc : ∀ o, w1.cell? ⟨w.heap.size, o, none⟩ = (w.alloc (.cells #[.int .i64 0, .int .i64 0, .int .i64 0, .bool false] 54)).cell? ⟨w.heap.size, o, none⟩ := fun o => hb1.cell (p := ⟨w.heap.size, o, none⟩) (by simp)
  have hf : ∀ o, w1.frozen? ⟨w.heap.size, o, none⟩ = (w.alloc (.cells #[.int .i64 0, .int .i64 0, .int .i64 0, .bool false] 54)).frozen? ⟨w.heap.size, o, none⟩ := fun o => hb1.frozen (p := ⟨w.heap.size, o, none⟩) (by simp)
  clear hb1
  go_wp2
  refine bodyPost_ret (v := .tuple #[.agg #[.int .i64 0, .int .i64 0, .int .i64 0, .bool false], .bool false]) (by simp [results, Try.results29, go_sem, hc, hz]) rfl ⟨rfl, ?_⟩
  exact (below_set4 hw1 (Nat.le_refl _) _ _ _ _).alloc (by simp [World.setCell]; omega) _
theorem nil_all (w : World) : Calls Try.prog 39 #[.pointer none] w fun r w' => r = .returned (.slice none 0 0) ∧ w = w' := by
  go_enter Try.func39, Try.ntmps39
  go_wp2_with (go_at_call 30; refine (nil_threads _).mono ?_; rintro r w' ⟨rfl, rfl⟩)
  go_loop [3, 7] (fun l i => l = .slice none 0 0 ∧ i = .int .i64 0) (fun _ _ => 0)
  case atStart => exact ⟨rfl, rfl⟩
  case round =>
    obtain ⟨rfl, rfl⟩ := hrel
    go_wp2
    go_ret
    exact ⟨rfl, rfl⟩

end Go.Proofs.Ytbmhcnldcfaipaa

/- The contracts of Child and Blocked. -/
namespace Go.Proofs.Ytbmhcnldcfaipaa
open Go.RowKit

theorem childS_yes {nx : Int → Option Ev} {e : Ev} {l : List Nat} {k : Nat} (hk : k < l.length) (h : apart nx e l[k] = true) : ofN (ints ((l.take (k + 1)).filter (apart nx e))) = wt (ofN (ints ((l.take k).filter (apart nx e)))) (l[k] : Int) := by
  rw [List.take_succ_eq_append_getElem hk, List.filter_append, ints_app]
  simp only [List.filter_cons, h, if_true, List.filter_nil]
  exact ofN_snoc _ _
theorem childS_no {nx : Int → Option Ev} {e : Ev} {l : List Nat} {k : Nat} (hk : k < l.length) (h : apart nx e l[k] = false) : ofN (ints ((l.take (k + 1)).filter (apart nx e))) = ofN (ints ((l.take k).filter (apart nx e))) := by
  rw [List.take_succ_eq_append_getElem hk, List.filter_append]
  simp [h]

set_option maxRecDepth 100000 in
set_option maxHeartbeats 4000000 in
theorem child_gen (o : Option Addr) (nx : Int → Option Ev) {asl ear : Nat} (ha : asl < 256) (he : ear < 256) (t : Int) (w : World)
    (hn : ∀ W, Below w.heap.size w W → ∀ t, Calls Try.prog 29 #[.pointer o, .int .i64 t] W fun r w' => r = .returned (evR (nx t)) ∧ Below W.heap.size W w') :
    Calls Try.prog 22 #[.pointer o, .int .u8 asl, .int .u8 ear, .int .i64 t] w fun r w' => r = .returned (.int .u8 (childN nx asl ear t : Nat)) ∧ Below w.heap.size w w' := by
  have HN := Lib.hid hn
  clear hn
  cases h : nx t with
  | none =>
    have HC : Hid (childN nx asl ear t = 0) := by
      show _ = _
      unfold childN
      rw [child_none h]; rfl
    have H := Lib.hid h
    clear h
    go_enter Try.func22, Try.ntmps22
    go_wp2_with fail
    refine (HN.out w (Below.refl _ _) t).mono ?_
    rw [H.out, evR_none]
    rintro r w1 ⟨rfl, hb1⟩
    have hz := hb1.size
    go_wp2
    go_ret
    exact ⟨by rw [HC.out]; rfl, hb1.alloc hz _⟩
  | some e =>
    have HC := Lib.hid (child_all h ha he)
    have H := Lib.hid h
    have HL8 := bitsL_len (wl (asl ||| ear) t)
    clear h
    go_enter Try.func22, Try.ntmps22
    go_wp2_with fail
    refine (HN.out w (Below.refl _ _) t).mono ?_
    rw [H.out, evR_some]
    rintro r w1 ⟨rfl, hb1⟩
    have hz1 := hb1.size
    have HX : Hid (EvBox (w1.alloc (.cells #[.int .i64 e.thread, .int .i64 e.kind, .int .i64 e.obj, .bool e.fail] 54)) w1.heap.size e) := EvBox.new w1 e
    have HB2 := Lib.hid (hb1.alloc hz1 (.cells #[.int .i64 e.thread, .int .i64 e.kind, .int .i64 e.obj, .bool e.fail] 54))
    clear hb1
    go_wp2_with fail
    refine (union_any ha he _).mono ?_
    rintro r w' ⟨rfl, rfl⟩
    go_wp2_with fail
    refine (without_any (or_lt8 ha he) t _).mono ?_
    rintro r w' ⟨rfl, rfl⟩
    go_wp2_with fail
    refine (setAll_any (wl_lt (or_lt8 ha he) t) _).mono ?_
    rintro r w3 ⟨v, rfl, hv, hb3⟩
    obtain ⟨a3, c3, rfl, hr3, _⟩ := hv.form (by rw [ints_len]; omega)
    have HR := Lib.hid hr3
    have HX3 := Lib.hid (HX.out.later hb3)
    have HB3 := Lib.hid (HB2.out.trans (hb3.mono HB2.out.size))
    clear hv hr3 hb3 HX HB2
    generalize bitsL (wl (asl ||| ear) t) = l at *
    rw [ints_len] at *
    go_wp2_with fail
    go_loopw [11, 31] (fun z i wr => ∃ k : Nat, k ≤ l.length ∧ i = .int .i64 k ∧ z = .int .u8 (ofN (ints ((l.take k).filter (apart nx e))) : Nat) ∧ Hid (Below w3.heap.size w3 wr)) (fun _ i _ => l.length - (intOf i).toNat)
    case atStart => exact ⟨0, Nat.zero_le _, rfl, rfl, Below.refl _ _⟩
    case round =>
      obtain ⟨k, hk, rfl, rfl, HW⟩ := hrel
      have hzw := HW.out.size
      by_cases hlt : k < l.length
      · obtain ⟨b, o3, rfl, hck⟩ := num_at (HR.out.later HW.out) (k := k) (by rw [ints_len]; exact hlt)
        rw [ints_get hlt] at hck
        have HY := Lib.hid (childS_yes (nx := nx) (e := e) hlt)
        have HNO := Lib.hid (childS_no (nx := nx) (e := e) hlt)
        have HBW := Lib.hid (HB3.out.trans (HW.out.mono HB3.out.size))
        cases h2 : nx (l[k] : Int) with
        | none =>
          have HS := Lib.hid (HNO.out (apart_none h2))
          have H2 := Lib.hid h2
          clear h2
          go_wp2_with fail
          refine (HN.out wr HBW.out _).mono ?_
          rw [H2.out, evR_none]
          rintro r w4 ⟨rfl, hb4⟩
          have hb5 := (HW.out.trans (hb4.mono HW.out.size)).alloc (by have := hb4.size; omega) (.cells #[.int .i64 0, .int .i64 0, .int .i64 0, .bool false] 54)
          have HW5 := Lib.hid hb5
          clear hb4 hb5
          go_wp2
          go_roundw
          case rel => exact ⟨k + 1, by omega, by go_num, by rw [HS.out], HW5.out⟩
          case measure => simp [intOf]; omega
        | some x =>
          have HD := Lib.hid (apart_some (e := e) h2)
          have H2 := Lib.hid h2
          clear h2
          go_wp2_with fail
          refine (HN.out wr HBW.out _).mono ?_
          rw [H2.out, evR_some]
          rintro r w4 ⟨rfl, hb4⟩
          have hz4 := hb4.size
          have hb5 := (HW.out.trans (hb4.mono HW.out.size)).alloc (by have := hb4.size; omega) (.cells #[.int .i64 x.thread, .int .i64 x.kind, .int .i64 x.obj, .bool x.fail] 54)
          have HW5 := Lib.hid hb5
          obtain ⟨e0, e1, e2, e3⟩ := (HX3.out.later hb5).cells
          obtain ⟨x0, x1, x2, x3⟩ := (EvBox.new w4 x).cells
          clear hb4 hb5
          go_wp2_with fail
          refine (depends_any e x _).mono ?_
          rintro r w6 ⟨rfl, hb6⟩
          have HW6 := Lib.hid (HW5.out.trans (hb6.mono HW5.out.size))
          clear hb6 e0 e1 e2 e3 x0 x1 x2 x3
          cases hd : dep e x
          · have HS := Lib.hid (HY.out (by rw [HD.out, hd]; rfl))
            clear hd
            go_wp2_with fail
            refine (with_any (ofN_lt _) _ _).mono ?_
            rintro r w' ⟨rfl, rfl⟩
            go_wp2
            go_roundw
            case rel => exact ⟨k + 1, by omega, by go_num, by rw [HS.out], HW6.out⟩
            case measure => simp [intOf]; omega
          · have HS := Lib.hid (HNO.out (by rw [HD.out, hd]; rfl))
            clear hd
            go_wp2
            go_roundw
            case rel => exact ⟨k + 1, by omega, by go_num, by rw [HS.out], HW6.out⟩
            case measure => simp [intOf]; omega
      · obtain rfl : k = l.length := by omega
        have HBW := Lib.hid (HB3.out.trans (HW.out.mono HB3.out.size))
        have HF : Hid (ofN (ints ((l.take l.length).filter (apart nx e))) = childN nx asl ear t) := by
          show _ = _
          rw [List.take_length, HC.out]; rfl
        go_wp2
        go_ret
        exact ⟨by rw [← HF.out]; rfl, HBW.out⟩

set_option maxRecDepth 100000 in
set_option maxHeartbeats 1000000 in
theorem blocked_gen (o : Option Addr) (all : List Int) (hs : ∀ x ∈ all, 0 ≤ x ∧ x < 8) (hm : all.length ≤ 1000) {asl : Nat} (ha : asl < 256) (w : World)
    (hn : Calls Try.prog 39 #[.pointer o] w fun r w' => ∃ v, r = .returned v ∧ OwnN w' w.heap.size v all ∧ Below w.heap.size w w') :
    Calls Try.prog 24 #[.pointer o, .int .u8 asl] w fun r w' => r = .returned (.bool (blockedB all asl)) ∧ Below w.heap.size w w' := by
  have HN := Lib.hid hn
  clear hn
  have HQ : Hid (bits .andNot .u8 (ofN all : Int) (asl : Int) = ((wo (ofN all) asl : Nat) : Int)) := bits_andNot_u8 (ofN all) asl (ofN_lt _) ha
  have h1 := of_zero hs
  have h2 := wo_zero ha hs
  go_enter Try.func24, Try.ntmps24
  go_wp2_with fail
  refine HN.out.mono ?_
  rintro r w1 ⟨v, rfl, hv, hb1⟩
  obtain ⟨a3, c3, rfl, hr3, _⟩ := hv.form (by omega)
  go_wp2_with fail
  refine (of_any a3 c3 all w1 hr3 hm).mono ?_
  rintro r w' ⟨rfl, rfl⟩
  by_cases hz : ofN all = 0
  · have hq : (((ofN all : Nat) : Int) != 0) = false := by simp [hz]
    have HB : Hid (blockedB all asl = false) := by
      show _ = _
      rw [h1.1 hz]; rfl
    clear h1 h2 hz
    go_wp2
    go_ret
    exact ⟨by rw [HB.out]; rfl, hb1⟩
  · have hq : (((ofN all : Nat) : Int) != 0) = true := by simp; omega
    have hne : all.isEmpty = false := by
      cases hall : all with
      | nil => exact absurd (h1.2 hall) hz
      | cons => rfl
    have HB : Hid (((((wo (ofN all) asl : Nat) : Int)) == 0) = blockedB all asl) := by
      show _ = _
      unfold blockedB
      rw [hne]
      cases hb : all.all (hasB asl)
      · have : wo (ofN all) asl ≠ 0 := fun h => by rw [h2.1 h] at hb; cases hb
        simp; omega
      · simp [h2.2 hb]
    clear h1 h2 hz hne
    go_wp2
    go_ret
    exact ⟨by rw [← HB.out, ← HQ.out]; rfl, hb1⟩

end Go.Proofs.Ytbmhcnldcfaipaa

/- The contract of awake, of layer 8: true. -/
namespace Go.Proofs.Ytbmhcnldcfaipaa
open Go.RowKit

theorem nums_lit (W : World) (l : List Int) (t : TypeId) (hm : l.length ≤ 1000) : NumsAt (W.alloc (.cells (l.map (Value.int .i64)).toArray t)) (some ⟨W.heap.size, 0, none⟩) l := by
  refine ⟨by unfold maxLen; omega, fun _ => ⟨W.heap.size, 0, rfl, fun i hi => ?_⟩⟩
  have := nums_new W l t W.heap.size rfl i (.int .i64 l[i]) (by simp [hi])
  rw [add_row] at this
  exact this
theorem of_lit (W : World) (l : List Int) (n : Nat) (t : TypeId) (os : Array Value) (ho : os = (l.map (Value.int .i64)).toArray) (k : Nat) (hk : l.length = k) (hm : k ≤ 1000) (hn : ofN l = n) :
    Calls Try.prog 15 #[.slice (some ⟨W.heap.size, 0, none⟩) k k] (W.alloc (.cells os t)) fun r w' => r = .returned (.int .u8 n) ∧ Below W.heap.size W w' := by
  subst hk ho hn
  refine (of_any (some ⟨W.heap.size, 0, none⟩) l.length l _ (nums_lit W l t hm) hm).mono ?_
  rintro r w' ⟨rfl, rfl⟩
  exact ⟨rfl, below_alloc1 W _⟩
theorem len_lit (z : Int) (n k : Nat) (hz : z = n) (hn : n < 256) (hk : (bitsL n).length = k) (W : World) : Calls Try.prog 18 #[.int .u8 z] W fun r w' => r = .returned (.int .i64 k) ∧ W = w' := by
  subst hz hk
  exact len_any hn W
theorem has_lit (z : Int) (n : Nat) (t : Int) (b : Bool) (hz : z = n) (hn : n < 256) (hb : hasB n t = b) (W : World) : Calls Try.prog 10 #[.int .u8 z, .int .i64 t] W fun r w' => r = .returned (.bool b) ∧ W = w' := by
  subst hz hb
  exact has_any hn t W
theorem with_lit (z : Int) (n : Nat) (t : Int) (m : Nat) (hz : z = n) (hn : n < 256) (hm : wt n t = m) (W : World) : Calls Try.prog 13 #[.int .u8 z, .int .i64 t] W fun r w' => r = .returned (.int .u8 m) ∧ W = w' := by
  subst hz hm
  exact with_any hn t W
theorem without_lit (z : Int) (n : Nat) (t : Int) (m : Nat) (hz : z = n) (hn : n < 256) (hm : wl n t = m) (W : World) : Calls Try.prog 14 #[.int .u8 z, .int .i64 t] W fun r w' => r = .returned (.int .u8 m) ∧ W = w' := by
  subst hz hm
  exact without_any hn t W
theorem union_lit (y z : Int) (n k : Nat) (m : Nat) (hy : y = n) (hz : z = k) (hn : n < 256) (hk : k < 256) (hm : n ||| k = m) (W : World) : Calls Try.prog 12 #[.int .u8 y, .int .u8 z] W fun r w' => r = .returned (.int .u8 m) ∧ W = w' := by
  subst hy hz hm
  exact union_any hn hk W
theorem setAll_lit (z : Int) (n : Nat) (l : List Int) (k : Nat) (hz : z = n) (hn : n < 256) (hl : ints (bitsL n) = l) (hk : l.length = k) (hm : k ≤ 1000) (W : World) : Calls Try.prog 17 #[.int .u8 z] W fun r w' => ∃ a cap, r = .returned (.slice a k cap) ∧ NumsAt w' a l ∧ Below W.heap.size W w' := by
  subst hz hl hk
  refine (setAll_any hn W).mono ?_
  rintro r w' ⟨v, rfl, ho, hb⟩
  obtain ⟨a, cap, rfl, hn, _⟩ := ho.form (by omega)
  exact ⟨a, cap, rfl, hn, hb⟩
theorem same_lit (W : World) (a : Option Addr) (cap : Nat) (l : List Int) (t : TypeId) (os : Array Value) (ho : os = (l.map (Value.int .i64)).toArray) (k : Nat) (hk : l.length = k) (hm : k ≤ 1000) (h : NumsAt W a l) :
    Calls Try.prog 16 #[.slice a k cap, .slice (some ⟨W.heap.size, 0, none⟩) k k] (W.alloc (.cells os t)) fun r w' => r = .returned (.bool true) ∧ Below W.heap.size W w' := by
  subst hk ho
  refine (sameInts_any a (some ⟨W.heap.size, 0, none⟩) cap l.length l l _ (h.later (below_alloc1 W _)) (nums_lit W l t hm)).mono ?_
  rintro r w' ⟨rfl, hb⟩
  exact ⟨by simp, (below_alloc1 W _).trans (hb.mono (by simp))⟩

def wk8L : Ins := ⟨1, 0, 0, 0⟩
def wk8W : Ins := ⟨2, 0, 0, 0⟩
def wk8P : Pg := ⟨1, 0, [[wk8L], [wk8L], [wk8W]]⟩
def wk8S : St := St.new wk8P 1
theorem wk8_right : rightPg wk8P = true := by decide
theorem wk8_ok : wk8S.Ok 1 := new_ok wk8_right 1 (by omega)
theorem wk8_child : childN wk8S.next 0 5 1 = 1 := by decide +kernel
theorem wk8_block7 : blockedB wk8S.all 7 = true := by decide +kernel
theorem wk8_block3 : blockedB wk8S.all 3 = false := by decide +kernel
theorem wk8_code (w : World) (k : Int) : CodeAt (w.alloc (.cells #[.int .i64 k, .int .i64 0, .int .i64 0, .int .i64 0] 64)) (some ⟨w.heap.size, 0, none⟩) [⟨k, 0, 0, 0⟩] := by
  refine ⟨by simp [maxLen], fun _ => ⟨w.heap.size, 0, rfl, fun i hi => ?_⟩⟩
  have hi' : i < 1 := hi
  obtain rfl : i = 0 := by omega
  simp
theorem wk8_threads (w : World) (c d : Option Addr) (h : CodeAt w c [wk8L]) (h2 : CodeAt w d [wk8W]) (hc : c ≠ none) (hd : d ≠ none) : ThreadsAt (w.alloc (.cells #[.slice c 1 1, .slice c 1 1, .slice d 1 1] 65)) (some ⟨w.heap.size, 0, none⟩) wk8P.threads := by
  refine ⟨by simp [maxLen, wk8P], fun _ => ⟨w.heap.size, 0, rfl, fun i hi => ?_⟩⟩
  have hi' : i < 3 := hi
  obtain rfl | rfl | rfl : i = 0 ∨ i = 1 ∨ i = 2 := by omega
  · exact ⟨c, 1, by simp [wk8P], h.later (below_alloc1 _ _), fun e => absurd e hc⟩
  · exact ⟨c, 1, by simp [wk8P], h.later (below_alloc1 _ _), fun e => absurd e hc⟩
  · exact ⟨d, 1, by simp [wk8P], h2.later (below_alloc1 _ _), fun e => absurd e hd⟩
theorem wk8_mem (w : World) : ThreadsAt (((w.alloc (.cells #[.int .i64 1, .int .i64 0, .int .i64 0, .int .i64 0] 64)).alloc (.cells #[.int .i64 2, .int .i64 0, .int .i64 0, .int .i64 0] 64)).alloc (.cells #[.slice (some ⟨w.heap.size, 0, none⟩) 1 1, .slice (some ⟨w.heap.size, 0, none⟩) 1 1, .slice (some ⟨w.heap.size + 1, 0, none⟩) 1 1] 65)) (some ⟨w.heap.size + 1 + 1, 0, none⟩) wk8P.threads := by
  have h1 := (wk8_code w 1).later (below_alloc1 _ (.cells #[.int .i64 2, .int .i64 0, .int .i64 0, .int .i64 0] 64))
  have h2 := wk8_code (w.alloc (.cells #[.int .i64 1, .int .i64 0, .int .i64 0, .int .i64 0] 64)) 2
  simp only [World.size_alloc] at h2
  have := wk8_threads _ _ _ h1 h2 (by simp) (by simp)
  simpa only [World.size_alloc] using this
theorem wk8_child_any {W : World} {g : Nat} (h : StAt W g wk8S) (y z : Int) (hy : y = 0) (hz : z = 5) : Calls Try.prog 22 #[.pointer (some ⟨g, 0, none⟩), .int .u8 y, .int .u8 z, .int .i64 1] W fun r w' => r = .returned (.int .u8 1) ∧ Below W.heap.size W w' := by
  subst hy hz
  have := child_gen (asl := 0) (ear := 5) (some ⟨g, 0, none⟩) wk8S.next (by omega) (by omega) 1 W (fun W' hb t => next_any (h.later hb) wk8_ok t)
  rw [wk8_child] at this
  exact this
theorem wk8_blocked_any {W : World} {g : Nat} (h : StAt W g wk8S) (z : Int) (n : Nat) (b : Bool) (hz : z = n) (hn : n < 256) (hb : blockedB wk8S.all n = b) : Calls Try.prog 24 #[.pointer (some ⟨g, 0, none⟩), .int .u8 z] W fun r w' => r = .returned (.bool b) ∧ Below W.heap.size W w' := by
  subst hz hb
  exact blocked_gen (some ⟨g, 0, none⟩) wk8S.all (all_small wk8_ok) (by have := all_len8 wk8_ok; omega) hn W (all_any h wk8_ok)
theorem blocked_nil {n : Nat} (hn : n < 256) (W : World) : Calls Try.prog 24 #[.pointer none, .int .u8 n] W fun r w' => r = .returned (.bool false) ∧ Below W.heap.size W w' :=
  blocked_gen none [] (by simp) (by simp) hn W ((nil_all W).mono fun r w' ⟨h1, h2⟩ => by subst h2; exact ⟨_, h1, ownN_nil _ _, Below.refl _ _⟩)
theorem blocked_nil7 (z : Int) (hz : z = 7) (W : World) : Calls Try.prog 24 #[.pointer none, .int .u8 z] W fun r w' => r = .returned (.bool false) ∧ Below W.heap.size W w' := by
  subst hz
  exact blocked_nil (n := 7) (by omega) W

set_option maxRecDepth 100000 in
set_option maxHeartbeats 8000000 in
theorem awake8_any (w : World) : Calls Try.prog 8 #[] w fun r w' => r = .returned (.bool true) ∧ Below w.heap.size w w' := by
  have HM := Lib.hid (wk8_mem w)
  have hb : Below w.heap.size w (((w.alloc (.cells #[.int .i64 1, .int .i64 0, .int .i64 0, .int .i64 0] 64)).alloc (.cells #[.int .i64 2, .int .i64 0, .int .i64 0, .int .i64 0] 64)).alloc (.cells #[.slice (some ⟨w.heap.size, 0, none⟩) 1 1, .slice (some ⟨w.heap.size, 0, none⟩) 1 1, .slice (some ⟨w.heap.size + 1, 0, none⟩) 1 1] 65)) := ((below_alloc1 w _).alloc (by simp) _).alloc (by simp; omega) _
  go_enter Try.func8, Try.ntmps8
  go_wp2_with fail
  generalize ((w.alloc (.cells #[.int .i64 1, .int .i64 0, .int .i64 0, .int .i64 0] 64)).alloc (.cells #[.int .i64 2, .int .i64 0, .int .i64 0, .int .i64 0] 64)).alloc (.cells #[.slice (some ⟨w.heap.size, 0, none⟩) 1 1, .slice (some ⟨w.heap.size, 0, none⟩) 1 1, .slice (some ⟨w.heap.size + 1, 0, none⟩) 1 1] 65) = W3 at *
  refine (new_yes wk8P (some ⟨w.heap.size + 1 + 1, 0, none⟩) 3 1 W3 HM.out wk8_right (by omega)).mono ?_
  rintro r W0 ⟨g, rfl, _, hs, hb0⟩
  have HS : Hid (StAt W0 g wk8S) := hs
  have HB0 := Lib.hid (hb.trans (hb0.mono hb.size))
  have HK0 := Lib.hid (Below.refl W0.heap.size W0)
  clear hs hb hb0 HM
  go_wp2_with fail
  refine (of_lit W0 [0, 2, 9, -1] 5 _ _ (by rfl) 4 rfl (by omega) (by decide)).mono ?_
  rintro r W1 ⟨rfl, hb⟩
  have HK1 := Lib.hid (HK0.out.trans (hb.mono HK0.out.size))
  clear hb HK0
  go_wp2_with fail
  refine (len_lit _ 5 2 rfl (by omega) (by decide) _).mono ?_
  rintro r w' ⟨rfl, rfl⟩
  go_wp2_with fail
  refine (has_lit _ 5 2 true rfl (by omega) (by decide) _).mono ?_
  rintro r w' ⟨rfl, rfl⟩
  go_wp2_with fail
  refine (has_lit _ 5 1 false rfl (by omega) (by decide) _).mono ?_
  rintro r w' ⟨rfl, rfl⟩
  go_wp2_with fail
  refine (has_lit _ 5 (-1) false rfl (by omega) (by decide) _).mono ?_
  rintro r w' ⟨rfl, rfl⟩
  go_wp2_with fail
  refine (with_lit _ 5 1 7 rfl (by omega) (by decide) _).mono ?_
  rintro r w' ⟨rfl, rfl⟩
  go_wp2_with fail
  refine (of_lit W1 [0, 1, 2] 7 _ _ (by rfl) 3 rfl (by omega) (by decide)).mono ?_
  rintro r W2 ⟨rfl, hb⟩
  have HK2 := Lib.hid (HK1.out.trans (hb.mono HK1.out.size))
  clear hb HK1
  go_wp2_with fail
  refine (without_lit _ 5 0 4 rfl (by omega) (by decide) _).mono ?_
  rintro r w' ⟨rfl, rfl⟩
  go_wp2_with fail
  refine (of_lit W2 [2] 4 _ _ (by rfl) 1 rfl (by omega) (by decide)).mono ?_
  rintro r W3 ⟨rfl, hb⟩
  have HK3 := Lib.hid (HK2.out.trans (hb.mono HK2.out.size))
  clear hb HK2
  go_wp2_with fail
  refine (setAll_lit _ 5 [0, 2] 2 rfl (by omega) (by decide) rfl (by omega) _).mono ?_
  rintro r W4 ⟨a, cap, rfl, hn, hb⟩
  have HNA := Lib.hid hn
  have HK4 := Lib.hid (HK3.out.trans (hb.mono HK3.out.size))
  clear hb hn HK3
  go_wp2_with fail
  refine (same_lit W4 a cap [0, 2] _ _ (by rfl) 2 rfl (by omega) HNA.out).mono ?_
  rintro r W5 ⟨rfl, hb⟩
  have HK5 := Lib.hid (HK4.out.trans (hb.mono HK4.out.size))
  clear hb HK4
  go_wp2_with fail
  refine (of_lit W5 [1] 2 _ _ (by rfl) 1 rfl (by omega) (by decide)).mono ?_
  rintro r W6 ⟨rfl, hb⟩
  have HK6 := Lib.hid (HK5.out.trans (hb.mono HK5.out.size))
  clear hb HK5
  go_wp2_with fail
  refine (union_lit _ _ 2 5 7 rfl rfl (by omega) (by omega) (by decide) _).mono ?_
  rintro r w' ⟨rfl, rfl⟩
  go_wp2_with fail
  refine (of_lit W6 [0, 1, 2] 7 _ _ (by rfl) 3 rfl (by omega) (by decide)).mono ?_
  rintro r W7 ⟨rfl, hb⟩
  have HK7 := Lib.hid (HK6.out.trans (hb.mono HK6.out.size))
  clear hb HK6
  go_wp2_with fail
  refine (of_lit W7 [0, 2] 5 _ _ (by rfl) 2 rfl (by omega) (by decide)).mono ?_
  rintro r W8 ⟨rfl, hb⟩
  have HK8 := Lib.hid (HK7.out.trans (hb.mono HK7.out.size))
  clear hb HK7
  go_wp2_with fail
  refine (wk8_child_any (HS.out.later HK8.out) _ _ rfl rfl).mono ?_
  rintro r W9 ⟨rfl, hb⟩
  have HK9 := Lib.hid (HK8.out.trans (hb.mono HK8.out.size))
  clear hb HK8
  go_wp2_with fail
  refine (of_lit W9 [0] 1 _ _ (by rfl) 1 rfl (by omega) (by decide)).mono ?_
  rintro r W10 ⟨rfl, hb⟩
  have HK10 := Lib.hid (HK9.out.trans (hb.mono HK9.out.size))
  clear hb HK9
  go_wp2_with fail
  refine (of_lit W10 [0, 1, 2] 7 _ _ (by rfl) 3 rfl (by omega) (by decide)).mono ?_
  rintro r W11 ⟨rfl, hb⟩
  have HK11 := Lib.hid (HK10.out.trans (hb.mono HK10.out.size))
  clear hb HK10
  go_wp2_with fail
  refine (wk8_blocked_any (HS.out.later HK11.out) _ 7 true rfl (by omega) wk8_block7).mono ?_
  rintro r W12 ⟨rfl, hb⟩
  have HK12 := Lib.hid (HK11.out.trans (hb.mono HK11.out.size))
  clear hb HK11
  go_wp2_with fail
  refine (of_lit W12 [0, 1] 3 _ _ (by rfl) 2 rfl (by omega) (by decide)).mono ?_
  rintro r W13 ⟨rfl, hb⟩
  have HK13 := Lib.hid (HK12.out.trans (hb.mono HK12.out.size))
  clear hb HK12
  go_wp2_with fail
  refine (wk8_blocked_any (HS.out.later HK13.out) _ 3 false rfl (by omega) wk8_block3).mono ?_
  rintro r W14 ⟨rfl, hb⟩
  have HK14 := Lib.hid (HK13.out.trans (hb.mono HK13.out.size))
  clear hb HK13
  go_wp2_with fail
  refine (blocked_nil7 _ rfl W14).mono ?_
  rintro r W15 ⟨rfl, hb⟩
  have HK15 := Lib.hid (HK14.out.trans (hb.mono HK14.out.size))
  clear hb HK14
  go_wp2
  go_ret
  exact ⟨rfl, HB0.out.trans (HK15.out.mono HB0.out.size)⟩

end Go.Proofs.Ytbmhcnldcfaipaa
