import Derived.Lib.Tables
import Derived.BigQuiet
import Derived.Deep.QuietTactic
import Derived.WalkLawsBesides
import Derived.Lib.Hide
import Derived.Laws.Rows
import Derived.Laws.Tables
import Derived.Laws.StructEq
import Derived.StillTailTactics
import Derived.Laws.EntriesVeiled
import Derived.Deep.RegionHeld3
import Derived.Test.YtkphdmfcmfojeaaRows
import Derived.Test.YtkphdmfcmfojeaaPk01

/-
  Plain data: rows of steps; steps of threads that are never dependent, in any order of threads, have the same events each. Nothing of the translation.
-/
namespace Go.Proofs.Ytkphdmfcmfojeaa

theorem St.ev_thread (s : St) (t : Int) (i : Ins) : (s.ev t i).thread = t := by
  unfold St.ev
  repeat' split
  all_goals rfl

theorem St.step_ok0 {s : St} {t : Int} {e : Ev} {s1 : St} (h : s.step t = (0, e, s1)) : ∃ i, s.ins t = some i ∧ s.may t = true ∧ e = s.ev t i ∧ s1 = s.do_ t i := by
  rcases s.step_cases t with ⟨i, hi, hm, e1⟩ | ⟨c, hc, e1⟩
  · rw [e1] at h
    injection h with _ h
    injection h with h1 h2
    exact ⟨i, hi, hm, h1.symm, h2.symm⟩
  · rw [e1] at h
    injection h with h _
    omega

/-- Two steps of independent events, the other way round. -/
theorem St.Ok.swap_back {F : Nat} {s : St} (h : s.Ok F) {u t : Int} {e x : Ev} {s1 s2 : St} (h1 : s.step u = (0, e, s1)) (h2 : s1.step t = (0, x, s2)) (hut : u ≠ t) (hd : dep e x = false) :
    ∃ d, s.step t = (0, x, d) ∧ d.step u = (0, e, s2) ∧ d.Ok F := by
  obtain ⟨i, hi, hm, rfl, rfl⟩ := St.step_ok0 h1
  obtain ⟨j, hj, hmj, rfl, rfl⟩ := St.step_ok0 h2
  have hnx := h.next_do hi hm (Ne.symm hut)
  obtain ⟨hhas, _, _⟩ := St.ins_has hj
  have hl : (s.do_ u i).ts.length = s.ts.length := by simp [St.do_]
  have hhas' : s.has t := by unfold St.has at hhas ⊢; rw [hl] at hhas; exact hhas
  have hj' : s.ins t = some j := by rw [← St.ins_do hi hhas' hut]; exact hj
  have hev : (s.do_ u i).ev t j = s.ev t j := h.ev_do hi hj' hm hut
  rw [hev] at hd ⊢
  have hmt : s.may t = true := by
    unfold St.may
    rw [hj']
    simp only [decide_eq_true_eq]
    intro h5
    have hf := St.may_free hj hmj h5
    rw [h.who_do hi] at hf
    split at hf
    · rename_i hx
      have := dep_muts hd (.inl hx.1) (.inl h5)
      have := (h.obj hi).2.1 (.inl hx.1)
      have := (h.obj hj').2.1 (.inl h5)
      omega
    split at hf
    · rename_i hx
      have := dep_muts hd (.inr ⟨hx.1, hx.2.1⟩) (.inl h5)
      have := (h.obj hi).2.1 (.inr hx.1)
      have := (h.obj hj').2.1 (.inl h5)
      omega
    · exact hf
  have hx : s.next u = some (s.ev u i) := by unfold St.next; rw [hi]; rfl
  have hy : s.next t = some (s.ev t j) := by unfold St.next; rw [hj']; rfl
  obtain ⟨c, d, z, s1', s2', s3', s4', _, okd, _⟩ := h.swap hx hy hm hmt hut hd
  refine ⟨d, s3', ?_, okd⟩
  rw [h1] at s1'
  injection s1' with _ q
  injection q with _ q
  subst q
  rw [h2] at s2'
  injection s2' with _ q
  injection q with _ q
  rw [s4', q]

/-- Steps that are done, one behind the other. -/
def Runs : St → List Int → List Ev → St → Prop
  | s, [], l, z => l = [] ∧ z = s
  | s, t :: row, l, z => ∃ e s1 l', s.step t = (0, e, s1) ∧ Runs s1 row l' z ∧ l = e :: l'

theorem Runs.ok {F : Nat} {row : List Int} : ∀ {s : St} {l : List Ev} {z : St}, Runs s row l z → s.Ok F → z.Ok F := by
  induction row with
  | nil => intro s l z h ok; rw [h.2]; exact ok
  | cons t row ih =>
    intro s l z h ok
    obtain ⟨e, s1, l', h1, h2, rfl⟩ := h
    have := ok.step_ok t
    rw [h1] at this
    exact ih h2 this

theorem runs_append {a b : List Int} : ∀ {s : St} {l : List Ev} {z : St}, Runs s (a ++ b) l z ↔ ∃ la lb s1, Runs s a la s1 ∧ Runs s1 b lb z ∧ l = la ++ lb := by
  induction a with
  | nil =>
    intro s l z
    constructor
    · intro h; exact ⟨[], l, s, ⟨rfl, rfl⟩, h, rfl⟩
    · rintro ⟨la, lb, s1, ⟨rfl, rfl⟩, h, rfl⟩; exact h
  | cons t a ih =>
    intro s l z
    constructor
    · rintro ⟨e, s1, l', h1, h2, rfl⟩
      obtain ⟨la, lb, s2, h3, h4, rfl⟩ := ih.1 h2
      exact ⟨e :: la, lb, s2, ⟨e, s1, la, h1, h3, rfl⟩, h4, rfl⟩
    · rintro ⟨la, lb, s2, ⟨e, s1, la', h1, h3, rfl⟩, h4, rfl⟩
      exact ⟨e, s1, la' ++ lb, h1, ih.2 ⟨la', lb, s2, h3, h4, rfl⟩, rfl⟩

theorem Runs.has {row : List Int} : ∀ {s : St} {l : List Ev} {z : St}, Runs s row l z → ∀ t ∈ row, s.has t := by
  induction row with
  | nil => intro s l z _ t ht; cases ht
  | cons u row ih =>
    intro s l z h t ht
    obtain ⟨e, s1, l', h1, h2, rfl⟩ := h
    obtain ⟨i, hi, _, _, rfl⟩ := St.step_ok0 h1
    rcases List.mem_cons.1 ht with rfl | ht
    · exact (St.ins_has hi).1
    · have := ih h2 t ht
      unfold St.has at this ⊢
      simpa [St.do_] using this

theorem Runs.threads {row : List Int} : ∀ {s : St} {l : List Ev} {z : St}, Runs s row l z → l.map Ev.thread = row := by
  induction row with
  | nil => intro s l z h; rw [h.1]; rfl
  | cons u row ih =>
    intro s l z h
    obtain ⟨e, s1, l', h1, h2, rfl⟩ := h
    obtain ⟨i, _, _, rfl, rfl⟩ := St.step_ok0 h1
    simp [ih h2, St.ev_thread]

/-- Events of unlike threads don't depend on one another. -/
def Indep (l : List Ev) : Prop := l.Pairwise fun a b => a.thread ≠ b.thread → dep a b = false

/-- A step behind steps of another thread. -/
theorem runs_move {F : Nat} {t u : Int} (htu : u ≠ t) {rest : List Int} {e : Ev} {rs : List Ev} (ts : List Int) : ∀ {s : St} {es : List Ev} {z : St}, s.Ok F → (∀ x ∈ ts, x = t) → es.length = ts.length → (∀ x ∈ es, dep e x = false) →
    Runs s (u :: (ts ++ rest)) (e :: (es ++ rs)) z → Runs s (ts ++ u :: rest) (es ++ e :: rs) z := by
  induction ts with
  | nil =>
    intro s es z ok _ hl _ h
    have : es = [] := List.eq_nil_of_length_eq_zero hl
    subst this
    exact h
  | cons t' ts ih =>
    intro s es z ok ht hl hd h
    obtain rfl : t' = t := ht t' (by simp)
    match es, hl with
    | x :: es, hl =>
      obtain ⟨e', s1, l', h1, ⟨x', s2, l2, h2, h3, q2⟩, q1⟩ := h
      injection q1 with q1 q1'
      subst q1 q1'
      injection q2 with q2 q2'
      subst q2 q2'
      obtain ⟨d, hd1, hd2, okd⟩ := ok.swap_back h1 h2 htu (hd _ (by simp))
      refine ⟨x, d, es ++ e :: rs, hd1, ih okd (fun y hy => ht y (by simp [hy])) (by simpa using hl) (fun y hy => hd y (by simp [hy])) ?_, rfl⟩
      exact ⟨e, s2, es ++ rs, hd2, h3, rfl⟩

/-- The steps of one thread first. -/
theorem runs_part {F : Nat} (t : Int) {row : List Int} : ∀ {s : St} {l : List Ev} {z : St}, s.Ok F → Indep l → Runs s row l z →
    Runs s (row.filter (fun x => decide (x = t)) ++ row.filter (fun x => !decide (x = t))) (l.filter (fun e => decide (e.thread = t)) ++ l.filter (fun e => !decide (e.thread = t))) z := by
  induction row with
  | nil => intro s l z _ _ h; rw [h.1, h.2]; exact ⟨rfl, rfl⟩
  | cons u row ih =>
    intro s l z ok hi h
    obtain ⟨e, s1, l', h1, h2, rfl⟩ := h
    have ok1 : s1.Ok F := by have := ok.step_ok u; rw [h1] at this; exact this
    unfold Indep at hi
    rw [List.pairwise_cons] at hi
    have h3 := ih ok1 hi.2 h2
    have het : e.thread = u := by obtain ⟨i, _, _, rfl, _⟩ := St.step_ok0 h1; exact St.ev_thread _ _ _
    by_cases hu : u = t
    · have e1 : (u :: row).filter (fun x => decide (x = t)) = u :: row.filter (fun x => decide (x = t)) := by simp [hu]
      have e2 : (u :: row).filter (fun x => !decide (x = t)) = row.filter (fun x => !decide (x = t)) := by simp [hu]
      have e3 : (e :: l').filter (fun e => decide (e.thread = t)) = e :: l'.filter (fun e => decide (e.thread = t)) := by simp [het, hu]
      have e4 : (e :: l').filter (fun e => !decide (e.thread = t)) = l'.filter (fun e => !decide (e.thread = t)) := by simp [het, hu]
      rw [e1, e2, e3, e4]
      exact ⟨e, s1, _, h1, h3, rfl⟩
    · have e1 : (u :: row).filter (fun x => decide (x = t)) = row.filter (fun x => decide (x = t)) := by simp [hu]
      have e2 : (u :: row).filter (fun x => !decide (x = t)) = u :: row.filter (fun x => !decide (x = t)) := by simp [hu]
      have e3 : (e :: l').filter (fun e => decide (e.thread = t)) = l'.filter (fun e => decide (e.thread = t)) := by simp [het, hu]
      have e4 : (e :: l').filter (fun e => !decide (e.thread = t)) = e :: l'.filter (fun e => !decide (e.thread = t)) := by simp [het, hu]
      rw [e1, e2, e3, e4]
      refine runs_move hu _ ok (fun x hx => ?_) ?_ (fun x hx => ?_) ⟨e, s1, _, h1, h3, rfl⟩
      · simpa using (List.mem_filter.1 hx).2
      · rw [← h2.threads, List.filter_map]
        simp [Function.comp_def]
      · obtain ⟨h4, h5⟩ := List.mem_filter.1 hx
        refine hi.1 x h4 ?_
        rw [het]
        simp at h5
        omega

/-- The row sorted by its threads, up to n. -/
def srt (row : List Int) : Nat → List Int
  | 0 => []
  | n + 1 => srt row n ++ row.filter fun x => decide (x = (n : Int))
def srtE (l : List Ev) : Nat → List Ev
  | 0 => []
  | n + 1 => srtE l n ++ l.filter fun e => decide (e.thread = (n : Int))

theorem filter_step {T : Type} (f : T → Int) (l : List T) (n : Nat) : (l.filter fun x => decide ((n : Int) ≤ f x)).filter (fun x => decide (f x = (n : Int))) = l.filter (fun x => decide (f x = (n : Int))) ∧
    (l.filter fun x => decide ((n : Int) ≤ f x)).filter (fun x => !decide (f x = (n : Int))) = l.filter (fun x => decide (((n + 1 : Nat) : Int) ≤ f x)) := by
  rw [List.filter_filter, List.filter_filter]
  constructor
  · apply List.filter_congr
    intro x _
    rw [Bool.eq_iff_iff]
    simp
    omega
  · apply List.filter_congr
    intro x _
    rw [Bool.eq_iff_iff]
    simp
    omega

theorem runs_srt {F : Nat} {row : List Int} {s : St} {l : List Ev} {z : St} (ok : s.Ok F) (hi : Indep l) (h : Runs s row l z) (n : Nat) :
    Runs s (srt row n ++ row.filter fun x => decide ((n : Int) ≤ x)) (srtE l n ++ l.filter fun e => decide ((n : Int) ≤ e.thread)) z := by
  induction n with
  | zero =>
    have e1 : row.filter (fun x => decide (((0 : Nat) : Int) ≤ x)) = row := by
      rw [List.filter_eq_self]
      intro x hx
      have := h.has x hx
      unfold St.has at this
      simp
      omega
    have e2 : l.filter (fun e => decide (((0 : Nat) : Int) ≤ e.thread)) = l := by
      rw [List.filter_eq_self]
      intro e he
      have := h.has e.thread (by rw [← h.threads]; exact List.mem_map_of_mem he)
      unfold St.has at this
      simp
      omega
    rw [e1, e2]
    exact h
  | succ n ih =>
    obtain ⟨la, lb, s1, h1, h2, q⟩ := runs_append.1 ih
    have hla : la.length = (srtE l n).length := by
      have := congrArg List.length h1.threads
      rw [List.length_map] at this
      rw [this]
      have ht := h.threads
      clear this q h2 h1 ih
      subst ht
      induction n with
      | zero => rfl
      | succ n ih =>
        unfold srt srtE
        rw [List.length_append, List.length_append, ih, List.filter_map]
        simp [Function.comp_def]
    obtain ⟨rfl, rfl⟩ := List.append_inj q.symm hla
    have hi2 : Indep (l.filter fun e => decide ((n : Int) ≤ e.thread)) := List.Pairwise.filter _ hi
    have h3 := runs_part (n : Int) (h1.ok ok) hi2 h2
    have f1 := filter_step (fun x : Int => x) row n
    rw [f1.1, f1.2] at h3
    rw [(filter_step Ev.thread l n).1, (filter_step Ev.thread l n).2] at h3
    have h4 := runs_append.2 ⟨_, _, s1, h1, h3, rfl⟩
    unfold srt srtE
    rw [List.append_assoc, List.append_assoc]
    exact h4

theorem runs_sorted {F : Nat} {row : List Int} {s : St} {l : List Ev} {z : St} (ok : s.Ok F) (h4 : s.ts.length ≤ 4) (hi : Indep l) (h : Runs s row l z) : Runs s (srt row 4) (srtE l 4) z := by
  have h1 := runs_srt ok hi h 4
  have e1 : row.filter (fun x => decide (((4 : Nat) : Int) ≤ x)) = [] := by
    rw [List.filter_eq_nil_iff]
    intro x hx
    have := h.has x hx
    unfold St.has at this
    simp
    omega
  have e2 : l.filter (fun e => decide (((4 : Nat) : Int) ≤ e.thread)) = [] := by
    rw [List.filter_eq_nil_iff]
    intro e he
    have := h.has e.thread (by rw [← h.threads]; exact List.mem_map_of_mem he)
    unfold St.has at this
    simp
    omega
  rw [e1, e2, List.append_nil, List.append_nil] at h1
  exact h1

theorem srtE_filter (l : List Ev) (t n : Nat) : (srtE l n).filter (fun e => decide (e.thread = (t : Int))) = if t < n then l.filter (fun e => decide (e.thread = (t : Int))) else [] := by
  induction n with
  | zero => rfl
  | succ n ih =>
    unfold srtE
    rw [List.filter_append, ih, List.filter_filter]
    by_cases h1 : t < n
    · rw [if_pos h1, if_pos (by omega)]
      have : l.filter (fun e => decide (e.thread = (t : Int)) && decide (e.thread = (n : Int))) = [] := by
        rw [List.filter_eq_nil_iff]
        intro e _
        simp
        omega
      rw [this, List.append_nil]
    · rw [if_neg h1, List.nil_append]
      by_cases h2 : t = n
      · subst h2
        rw [if_pos (by omega)]
        simp
      · rw [if_neg (by omega), List.filter_eq_nil_iff]
        intro e _
        simp
        omega

theorem len_filter {T : Type} (q : T → Bool) (l : List T) : (l.filter q).length + (l.filter fun x => !q x).length = l.length := by
  induction l with
  | nil => rfl
  | cons x l ih => cases h : q x <;> simp [h] <;> omega

theorem srtE_length {l : List Ev} {s : St} {row : List Int} {z : St} (hr : Runs s row l z) (h4 : s.ts.length ≤ 4) : (srtE l 4).length = l.length := by
  have : ∀ n : Nat, (srtE l n).length + (l.filter fun e => decide ((n : Int) ≤ e.thread)).length = l.length := by
    intro n
    induction n with
    | zero =>
      rw [List.filter_eq_self.2]
      · simp [srtE]
      · intro e he
        have := hr.has e.thread (by rw [← hr.threads]; exact List.mem_map_of_mem he)
        unfold St.has at this
        simp
        omega
    | succ n ih =>
      have e1 := filter_step Ev.thread l n
      rw [← e1.2]
      unfold srtE
      rw [List.length_append, ← e1.1]
      have e2 := len_filter (fun e : Ev => decide (e.thread = (n : Int))) (l.filter fun e => decide ((n : Int) ≤ e.thread))
      omega
  have h0 := this 4
  have e2 : l.filter (fun e => decide (((4 : Nat) : Int) ≤ e.thread)) = [] := by
    rw [List.filter_eq_nil_iff]
    intro e he
    have := hr.has e.thread (by rw [← hr.threads]; exact List.mem_map_of_mem he)
    unfold St.has at this
    simp
    omega
  rw [e2] at h0
  simpa using h0

end Go.Proofs.Ytkphdmfcmfojeaa

/-
  Plain data: executions as rows of events; rows that are the same are done alike. Nothing of the translation.
-/
namespace Go.Proofs.Ytkphdmfcmfojeaa

/-- From s the events l are done, one behind the other, and z is come to. -/
def Ex : St → List Ev → St → Prop
  | s, [], z => z = s
  | s, e :: l, z => ∃ s1, s.step e.thread = (0, e, s1) ∧ Ex s1 l z

theorem ex_append {a b : List Ev} : ∀ {s z : St}, Ex s (a ++ b) z ↔ ∃ s1, Ex s a s1 ∧ Ex s1 b z := by
  induction a with
  | nil =>
    intro s z
    constructor
    · intro h; exact ⟨s, rfl, h⟩
    · rintro ⟨s1, rfl, h⟩; exact h
  | cons e a ih =>
    intro s z
    constructor
    · rintro ⟨s1, h1, h2⟩
      obtain ⟨s2, h3, h4⟩ := ih.1 h2
      exact ⟨s2, ⟨s1, h1, h3⟩, h4⟩
    · rintro ⟨s2, ⟨s1, h1, h3⟩, h4⟩
      exact ⟨s1, h1, ih.2 ⟨s2, h3, h4⟩⟩
theorem ex_det {l : List Ev} : ∀ {s z z' : St}, Ex s l z → Ex s l z' → z = z' := by
  induction l with
  | nil => intro s z z' h h'; rw [h, h']
  | cons e l ih =>
    rintro s z z' ⟨s1, h1, h2⟩ ⟨s2, h3, h4⟩
    rw [h1] at h3
    injection h3 with _ h3
    injection h3 with _ h3
    subst h3
    exact ih h2 h4
theorem Ex.ok {F : Nat} {l : List Ev} : ∀ {s z : St}, Ex s l z → s.Ok F → z.Ok F := by
  induction l with
  | nil => intro s z h ok; rw [h]; exact ok
  | cons e l ih =>
    rintro s z ⟨s1, h1, h2⟩ ok
    have := ok.step_ok e.thread
    rw [h1] at this
    exact ih h2 this
theorem step_next {s : St} {t : Int} {e : Ev} {s1 : St} (h : s.step t = (0, e, s1)) : s.next t = some e ∧ s.may t = true ∧ e.thread = t := by
  obtain ⟨i, hi, hm, rfl, rfl⟩ := St.step_ok0 h
  exact ⟨by unfold St.next; rw [hi]; rfl, hm, St.ev_thread _ _ _⟩
theorem next_step {s : St} {t : Int} {e : Ev} (h : s.next t = some e) (hm : s.may t = true) : ∃ s1, s.step t = (0, e, s1) := by
  unfold St.next at h
  obtain ⟨i, hi, rfl⟩ := Option.map_eq_some_iff.1 h
  exact ⟨_, St.step_may hi hm⟩
theorem next_thread {s : St} {t : Int} {e : Ev} (h : s.next t = some e) : e.thread = t := by
  unfold St.next at h
  obtain ⟨i, hi, rfl⟩ := Option.map_eq_some_iff.1 h
  exact St.ev_thread _ _ _
theorem step_fuel {s : St} {t : Int} {e : Ev} {s1 : St} (h : s.step t = (0, e, s1)) : s1.fuel + 1 = s.fuel := by
  obtain ⟨i, hi, hm, rfl, rfl⟩ := St.step_ok0 h
  exact St.fuel_do hi
theorem dep_ne {e f : Ev} (h : dep e f = false) : e.thread ≠ f.thread := by
  intro he
  rw [dep_thread he] at h
  cases h
theorem dep_symm' {e f : Ev} (h : dep e f = false) : dep f e = false := by rw [dep_symm]; exact h

theorem ex_two {F : Nat} {s z : St} {e f : Ev} {y : List Ev} (ok : s.Ok F) (hd : dep e f = false) (h : Ex s (e :: f :: y) z) : Ex s (f :: e :: y) z := by
  obtain ⟨s1, h1, s2, h2, h3⟩ := h
  obtain ⟨d, hd1, hd2, _⟩ := ok.swap_back h1 h2 (dep_ne hd) hd
  exact ⟨d, hd1, s2, hd2, h3⟩
theorem ex_blind {F : Nat} {s : St} (ok : s.Ok F) (z : St) : Blind (fun l => Ex s l z) := by
  intro x y e f hd
  dsimp only
  apply propext
  rw [ex_append, ex_append]
  constructor
  · rintro ⟨s1, h1, h2⟩; exact ⟨s1, h1, ex_two (h1.ok ok) hd h2⟩
  · rintro ⟨s1, h1, h2⟩; exact ⟨s1, h1, ex_two (h1.ok ok) (dep_symm' hd) h2⟩
/-- Rows that are the same are done alike, and come to the same. -/
theorem ex_sim {F : Nat} {s z : St} {a b : List Ev} (ok : s.Ok F) (h : Sim a b) : Ex s a z ↔ Ex s b z := by
  have := sim_fun _ a b (fun l => Ex s l z) rfl h (ex_blind ok z)
  exact iff_of_eq this
theorem sim_length {a b : List Ev} (h : Sim a b) : a.length = b.length := sim_fun _ a b List.length rfl h (fun x y e f _ => by simp)
theorem sim_cons (e : Ev) {a b : List Ev} (h : Sim a b) : Sim (e :: a) (e :: b) := by
  intro t
  exact sim_fun _ a b (fun l => psi (e :: l) t) rfl h (fun x y u v hd => sim_swap (x := e :: x) hd t)
theorem sim_right {a b : List Ev} (h : Sim a b) (y : List Ev) : Sim (a ++ y) (b ++ y) := by
  intro t
  exact sim_fun _ a b (fun l => psi (l ++ y) t) rfl h (fun x z u v hd => by
    dsimp only
    rw [show (x ++ u :: v :: z) ++ y = x ++ u :: v :: (z ++ y) by simp, show (x ++ v :: u :: z) ++ y = x ++ v :: u :: (z ++ y) by simp]
    exact sim_swap hd t)
/-- An event that depends on nothing ahead of it, first. -/
theorem sim_front {a b : List Ev} {p : Ev} (h : ∀ x ∈ a, dep p x = false) : Sim (a ++ p :: b) (p :: (a ++ b)) := by
  have h1 := sim_right (sim_move p a [] h) b
  rw [List.nil_append, List.nil_append] at h1
  rw [show a ++ [p] ++ b = a ++ p :: b by simp, show p :: a ++ b = p :: (a ++ b) by simp] at h1
  exact h1.symm

/-- What a thread does next stays, while it does nothing. -/
theorem ex_next {F : Nat} {l : List Ev} {u : Int} : ∀ {s z : St}, s.Ok F → Ex s l z → (∀ x ∈ l, x.thread ≠ u) → z.next u = s.next u := by
  induction l with
  | nil => intro s z _ h _; rw [h]
  | cons e l ih =>
    rintro s z ok ⟨s1, h1, h2⟩ hu
    have ok1 := ok.step_ok e.thread
    have hn := ok.next_step e.thread (u := u) (Ne.symm (hu e (by simp)))
    rw [h1] at ok1 hn
    rw [ih ok1 h2 (fun x hx => hu x (by simp [hx]))]
    exact hn
/-- What may be done, and doesn't depend on what is done, may be done ahead of it, or behind it. -/
theorem ex_comm {F : Nat} {t : Int} {p : Ev} {w : List Ev} : ∀ {s z : St}, s.Ok F → s.next t = some p → s.may t = true → Ex s w z → (∀ x ∈ w, dep p x = false) →
    z.next t = some p ∧ z.may t = true ∧ ∃ z', Ex s (p :: w) z' ∧ Ex s (w ++ [p]) z' := by
  induction w with
  | nil =>
    intro s z _ hn hm h _
    obtain rfl : z = s := h
    obtain ⟨s1, h1⟩ := next_step hn hm
    have ht := next_thread hn
    subst ht
    exact ⟨hn, hm, s1, ⟨s1, h1, rfl⟩, ⟨s1, h1, rfl⟩⟩
  | cons x w ih =>
    rintro s z ok hn hm ⟨s1, h1, h2⟩ hd
    have ht := next_thread hn
    subst ht
    have hdx := hd x (by simp)
    obtain ⟨hxn, hxm, _⟩ := step_next h1
    obtain ⟨c, d, z2, a1, a2, a3, a4, okc, _, _⟩ := ok.swap hxn hn hxm hm (dep_ne (dep_symm' hdx)) (dep_symm' hdx)
    rw [h1] at a1
    injection a1 with _ a1
    injection a1 with _ a1
    subst a1
    obtain ⟨n1, m1, _⟩ := step_next a2
    obtain ⟨r1, r2, z', r3, r4⟩ := ih okc n1 m1 h2 (fun y hy => hd y (by simp [hy]))
    exact ⟨r1, r2, z', ex_two ok (dep_symm' hdx) ⟨s1, h1, r3⟩, ⟨s1, h1, r4⟩⟩

/-- A thread that could begin. -/
def Ini (t : Int) (w : List Ev) : Prop := ∃ a p b, w = a ++ p :: b ∧ p.thread = t ∧ ∀ x ∈ a, dep p x = false

/-- In a row behind another one: what happens before what. -/
theorem evI_right (s a : List Ev) (i : Nat) : evI (s ++ a) (s.length + i) = evI a i := by
  unfold evI
  simp only [List.getD]
  rw [List.getElem?_append_right (by omega), Nat.add_sub_cancel_left]
theorem hb_right (s a : List Ev) {j : Nat} : ∀ {i : Nat}, hb (s ++ a) (s.length + i) (s.length + j) = true ↔ hb a i j = true := by
  induction j using Nat.strongRecOn with
  | _ j ih =>
    intro i
    rw [hb_def, hb_def]
    constructor
    · rintro (h | ⟨m, hm, hd, h⟩)
      · exact .inl (by omega)
      · have hle := hb_le h
        obtain ⟨m', rfl⟩ : ∃ m', m = s.length + m' := ⟨m - s.length, by omega⟩
        rw [evI_right, evI_right] at hd
        exact .inr ⟨m', by omega, hd, (ih m' (by omega)).1 h⟩
    · rintro (h | ⟨m, hm, hd, h⟩)
      · exact .inl (by omega)
      · refine .inr ⟨s.length + m, by omega, ?_, (ih m hm).2 h⟩
        rw [evI_right, evI_right]
        exact hd

/-- The first event happens before none that it doesn't lead to. -/
theorem hb_first {p : Ev} {w y : List Ev} (h : ∀ x ∈ w, dep p x = false) {m : Nat} : m < w.length → hb (p :: (w ++ y)) 0 (m + 1) = false := by
  induction m using Nat.strongRecOn with
  | _ m ih =>
    intro hm
    cases hh : hb (p :: (w ++ y)) 0 (m + 1)
    · rfl
    · exfalso
      rcases (hb_def _ _ _).1 hh with h0 | ⟨i, hi, hd, h1⟩
      · omega
      · rcases i with _ | i
        · have e1 : evI (p :: (w ++ y)) 0 = p := rfl
          have e2 : evI (p :: (w ++ y)) (m + 1) = evI w m := by
            have : evI (p :: (w ++ y)) (m + 1) = evI (w ++ y) m := rfl
            rw [this, evI_append hm]
          rw [e1, e2, h _ (evI_mem hm)] at hd
          cases hd
        · rw [ih i (by omega) (by omega)] at h1
          cases h1

end Go.Proofs.Ytkphdmfcmfojeaa

/- Who sleeps, plainly. -/
namespace Go.Proofs.Ytkphdmfcmfojeaa

/-- What doesn't depend on a step may be done behind it just if ahead of it, and is the same. -/
theorem may_same {F : Nat} {s s1 : St} (ok : s.Ok F) {a b : Int} {e x : Ev} (h : s.step a = (0, e, s1)) (hb : s.next b = some x) (hd : dep x e = false) : s1.next b = some x ∧ s1.may b = s.may b := by
  obtain ⟨i, hi, hm, rfl, rfl⟩ := St.step_ok0 h
  unfold St.next at hb
  obtain ⟨j, hj, rfl⟩ := Option.map_eq_some_iff.1 hb
  have hba : b ≠ a := by
    have := dep_ne hd
    rwa [St.ev_thread, St.ev_thread] at this
  have hbh := (St.ins_has hj).1
  have h1 := ok.next_do hi hm hba
  have h2 : s.next b = some (s.ev b j) := by unfold St.next; rw [hj]; rfl
  refine ⟨h1.trans h2, ?_⟩
  unfold St.may
  rw [St.ins_do hi hbh (Ne.symm hba), hj]
  dsimp only
  by_cases h5 : j.kind = 5
  · have hw : (s.do_ a i).who j.x = s.who j.x := by
      rw [ok.who_do hi]
      obtain ⟨_, p2, _⟩ := ok.obj hi
      obtain ⟨_, q2, _⟩ := ok.obj hj
      split
      · rename_i hh
        exact absurd (show j.x = i.x by have := p2 (.inl hh.1); have := q2 (.inl h5); omega) (dep_muts hd (.inl h5) (.inl hh.1))
      split
      · rename_i _ hh
        exact absurd (show j.x = i.x by have := p2 (.inr hh.1); have := q2 (.inl h5); omega) (dep_muts hd (.inl h5) (.inr ⟨hh.1, hh.2.1⟩))
      · rfl
    rw [hw]
  · simp [h5]

/-- Of a set, as a number: which ones. -/
def bitsL (n : Nat) : List Nat := (List.range 8).filter fun t => n.testBit t
/-- Does a thread sleep behind a step of another one? -/
def childO (nx : Int → Option Ev) (asl ear : Nat) (t : Int) (u : Nat) : Bool := match nx t with
  | none => false
  | some e => match nx (u : Int) with
    | none => false
    | some x => decide ((u : Int) ≠ t) && (asl.testBit u || ear.testBit u) && !dep x e
/-- Which ones, of the first k. -/
def childTo (nx : Int → Option Ev) (asl ear : Nat) (t : Int) (k : Nat) : List Nat := (List.range k).filter (childO nx asl ear t)
def childB (s : St) (asl ear : Nat) (t : Int) (u : Nat) : Bool := childO s.next asl ear t u
def childL (s : St) (asl ear : Nat) (t : Int) : List Nat := childTo s.next asl ear t 8
theorem childB_iff {s : St} {asl ear : Nat} {t : Int} {u : Nat} : childB s asl ear t u = true ↔ ∃ e x, s.next t = some e ∧ s.next (u : Int) = some x ∧ (u : Int) ≠ t ∧ (asl.testBit u || ear.testBit u) = true ∧ dep x e = false := by
  unfold childB childO
  cases h1 : s.next t with
  | none => simp
  | some e =>
    cases h2 : s.next (u : Int) with
    | none => simp
    | some x =>
      simp only [Bool.and_eq_true, decide_eq_true_eq, Bool.not_eq_true', Option.some.injEq]
      constructor
      · rintro ⟨⟨h3, h4⟩, h5⟩
        exact ⟨e, x, rfl, rfl, h3, h4, h5⟩
      · rintro ⟨e', x', rfl, rfl, h3, h4, h5⟩
        exact ⟨⟨h3, h4⟩, h5⟩
/-- Who sleeps still would do the same, and may just if it might. -/
theorem child_same {F : Nat} {s s1 : St} (ok : s.Ok F) {asl ear : Nat} {t : Int} {e : Ev} (h : s.step t = (0, e, s1)) {u : Nat} (hu : childB s asl ear t u = true) : ∃ x, s.next (u : Int) = some x ∧ s1.next (u : Int) = some x ∧ s1.may (u : Int) = s.may (u : Int) := by
  obtain ⟨e', x, h1, h2, _, _, h5⟩ := childB_iff.1 hu
  have := (step_next h).1
  rw [h1] at this
  injection this with this
  subst this
  obtain ⟨g1, g2⟩ := may_same ok h h2 h5
  exact ⟨x, h2, g1, g2⟩
/-- With more asleep ahead, who were gone into anyway, as many sleep. -/
theorem child_more (s : St) (asl ear : Nat) (t : Int) (u : Nat) : childB s (asl ||| ear) ear t u = childB s asl ear t u := by
  have h : ((asl ||| ear).testBit u || ear.testBit u) = (asl.testBit u || ear.testBit u) := by
    rw [Nat.testBit_or]
    cases asl.testBit u <;> cases ear.testBit u <;> rfl
  unfold childB childO
  rw [h]

end Go.Proofs.Ytkphdmfcmfojeaa

/- Numbers as integers; a row of one's own is one from any earlier size on. -/
namespace Go.Proofs.Ytkphdmfcmfojeaa
open Go.RowKit

def ints (l : List Nat) : List Int := l.map fun (i : Nat) => (i : Int)
theorem ints_len (l : List Nat) : (ints l).length = l.length := by simp [ints]
theorem ownN_low {w : World} {B A : Nat} {v : Value} {l : List Int} (h : OwnN w B v l) (hA : A ≤ B) : OwnN w A v l := by
  obtain ⟨h1, h2 | ⟨g, cap, cur, h2, h3, h4⟩⟩ := h
  · exact ⟨h1, .inl h2⟩
  · exact ⟨h1, .inr ⟨g, cap, cur, h2, by omega, h4⟩⟩

theorem ints_app (a b : List Nat) : ints (a ++ b) = ints a ++ ints b := by simp [ints]
theorem ints_get {l : List Nat} {i : Nat} (h : i < l.length) : (ints l)[i]'(by rw [ints_len]; exact h) = (l[i] : Int) := by simp [ints]
theorem ints_mem {l : List Nat} {i : Nat} : (i : Int) ∈ ints l ↔ i ∈ l := by
  unfold ints
  rw [List.mem_map]
  constructor
  · rintro ⟨j, hj, e⟩
    have : j = i := by omega
    subst this
    exact hj
  · intro h
    exact ⟨i, h, rfl⟩

end Go.Proofs.Ytkphdmfcmfojeaa

/- Sets of threads as numbers below 256: one more, one less, of a list, how many. -/
namespace Go.Proofs.Ytkphdmfcmfojeaa

/-- The set of one thread; nobody, if a set can't be of it. -/
def aloneN (t : Int) : Nat := if 0 ≤ t ∧ t < 8 then 2 ^ t.toNat else 0
theorem aloneN_lt (t : Int) : aloneN t < 256 := by
  unfold aloneN
  split
  · rename_i h
    have h8 : t.toNat < 8 := by omega
    exact Nat.pow_lt_pow_right (a := 2) (n := 8) (by omega) h8
  · omega
theorem testBit_alone {t : Int} {i : Nat} (hi : i < 8) : (aloneN t).testBit i = decide (t = i) := by
  unfold aloneN
  split
  · rename_i h
    rw [Nat.testBit_two_pow]
    by_cases e : t = i
    · subst e; simp
    · have e2 : ¬ (t.toNat = i) := by omega
      simp [e, e2]
  · rename_i h
    rw [Nat.zero_testBit]
    symm
    simp only [decide_eq_false_iff_not]
    omega
/-- Is a thread of a set? -/
def hasB (n : Nat) (t : Int) : Bool := decide (0 ≤ t ∧ t < 8) && n.testBit t.toNat
theorem hasB_nat (n : Nat) {i : Nat} (hi : i < 8) : hasB n (i : Int) = n.testBit i := by
  unfold hasB
  have h : (0 : Int) ≤ i ∧ (i : Int) < 8 := by omega
  simp [h]
theorem and_alone (n : Nat) (t : Int) : (n &&& aloneN t = 0) ↔ hasB n t = false := by
  unfold hasB
  by_cases h : 0 ≤ t ∧ t < 8
  · have e : aloneN t = 2 ^ t.toNat := by unfold aloneN; rw [if_pos h]
    rw [e]
    simp only [h, and_self, decide_true, Bool.true_and]
    constructor
    · intro h0
      have := congrArg (fun m => Nat.testBit m t.toNat) h0
      simpa [Nat.testBit_and, Nat.testBit_two_pow] using this
    · intro h0
      apply Nat.eq_of_testBit_eq
      intro j
      rw [Nat.testBit_and, Nat.testBit_two_pow, Nat.zero_testBit]
      by_cases e : t.toNat = j
      · subst e; simp [h0]
      · simp [e]
  · have e : aloneN t = 0 := by unfold aloneN; rw [if_neg h]
    rw [e]
    simp [h]
/-- One more, one less. -/
def wt (n : Nat) (t : Int) : Nat := n ||| aloneN t
def wl (n : Nat) (t : Int) : Nat := wo n (aloneN t)
theorem or_lt8 {n m : Nat} (hn : n < 256) (hm : m < 256) : n ||| m < 256 := Nat.or_lt_two_pow (n := 8) hn hm
theorem wt_lt {n : Nat} (hn : n < 256) (t : Int) : wt n t < 256 := or_lt8 hn (aloneN_lt t)
theorem wl_lt {n : Nat} (hn : n < 256) (t : Int) : wl n t < 256 := wo_lt _ _ hn
theorem testBit_wt {n : Nat} {t : Int} {i : Nat} (hi : i < 8) : (wt n t).testBit i = (n.testBit i || decide (t = i)) := by
  unfold wt
  rw [Nat.testBit_or, testBit_alone hi]
theorem testBit_wl {n : Nat} (hn : n < 256) {t : Int} {i : Nat} (hi : i < 8) : (wl n t).testBit i = (n.testBit i && !decide (t = i)) := by
  unfold wl
  rw [testBit_wo hn (aloneN_lt t), testBit_alone hi]
/-- Of a list. -/
def ofN (l : List Int) : Nat := l.foldl wt 0
theorem foldl_wt_lt (l : List Int) : ∀ {n : Nat}, n < 256 → l.foldl wt n < 256 := by
  induction l with
  | nil => intro n h; exact h
  | cons t l ih => intro n h; exact ih (wt_lt h t)
theorem ofN_lt (l : List Int) : ofN l < 256 := foldl_wt_lt l (by omega)
theorem ofN_snoc (l : List Int) (t : Int) : ofN (l ++ [t]) = wt (ofN l) t := by
  unfold ofN
  rw [List.foldl_append]
  rfl
theorem testBit_foldl (l : List Int) {i : Nat} (hi : i < 8) : ∀ n : Nat, (l.foldl wt n).testBit i = (n.testBit i || decide ((i : Int) ∈ l)) := by
  induction l with
  | nil => intro n; simp
  | cons t l ih =>
    intro n
    rw [List.foldl_cons, ih, testBit_wt hi]
    by_cases e : t = (i : Int)
    · subst e; simp
    · have e2 : ¬ ((i : Int) = t) := fun h => e h.symm
      simp [e, e2]
theorem testBit_ofN (l : List Int) {i : Nat} (hi : i < 8) : (ofN l).testBit i = decide ((i : Int) ∈ l) := by
  unfold ofN
  rw [testBit_foldl l hi]
  simp
/-- Which ones, of the first k. -/
def bitsTo (n k : Nat) : List Nat := (List.range k).filter fun t => n.testBit t
theorem bitsTo_yes {n k : Nat} (h : n.testBit k = true) : bitsTo n (k + 1) = bitsTo n k ++ [k] := by
  unfold bitsTo
  rw [List.range_succ, List.filter_append]
  simp [h]
theorem bitsTo_no {n k : Nat} (h : n.testBit k = false) : bitsTo n (k + 1) = bitsTo n k := by
  unfold bitsTo
  rw [List.range_succ, List.filter_append]
  simp [h]
theorem bitsTo_len (n k : Nat) : (bitsTo n k).length ≤ k := by
  unfold bitsTo
  refine Nat.le_trans (List.length_filter_le _ _) ?_
  rw [List.length_range]
  exact Nat.le_refl _
theorem bitsL_len (n : Nat) : (bitsL n).length ≤ 8 := bitsTo_len n 8
theorem mem_bits {n i : Nat} : i ∈ bitsL n ↔ i < 8 ∧ n.testBit i = true := by
  unfold bitsL
  rw [List.mem_filter, List.mem_range]
theorem of_bits {n : Nat} (hn : n < 256) : ofN (ints (bitsL n)) = n := by
  refine set_ext (ofN_lt _) hn fun i hi => ?_
  rw [testBit_ofN _ hi]
  have h : ((i : Int) ∈ ints (bitsL n)) ↔ n.testBit i = true := by
    rw [ints_mem, mem_bits]
    exact ⟨fun h => h.2, fun h => ⟨hi, h⟩⟩
  cases hb : n.testBit i
  · rw [decide_eq_false_iff_not, h, hb]; exact Bool.false_ne_true
  · rw [decide_eq_true_eq, h, hb]
theorem filter_or_len (p q : Nat → Bool) (l : List Nat) : (l.filter fun x => p x || q x).length ≤ (l.filter p).length + (l.filter q).length := by
  induction l with
  | nil => simp
  | cons x l ih =>
    rw [List.filter_cons, List.filter_cons, List.filter_cons]
    cases p x <;> cases q x <;> simp <;> omega
theorem union_len (n m : Nat) : (bitsL (n ||| m)).length ≤ (bitsL n).length + (bitsL m).length := by
  have := filter_or_len n.testBit m.testBit (List.range 8)
  unfold bitsL
  simpa [Nat.testBit_or] using this
theorem pop_bits : ∀ n : Fin 256, Lib.pop8 (n.val : Int) = ((bitsL n.val).length : Nat) := by decide +kernel
theorem pop_len {n : Nat} (hn : n < 256) : Lib.pop8 (n : Int) = ((bitsL n).length : Nat) := pop_bits ⟨n, hn⟩

end Go.Proofs.Ytkphdmfcmfojeaa

/- The contracts of below, rightInstr. -/
namespace Go.Proofs.Ytkphdmfcmfojeaa
open Go.RowKit

theorem below_any (n e : Int) (w : World) : Calls Try.prog 90 #[.int .i64 n, .int .i64 e] w fun r w' => r = .returned (.bool (belowB n e)) ∧ w = w' := by
  go_enter Try.func90, Try.ntmps90
  go_wp2
  all_goals
    go_ret
    refine ⟨ret_bool ?_, rfl⟩
    simp [belowB]
    try omega

set_option maxRecDepth 100000 in
set_option maxHeartbeats 1000000 in
theorem rightInstr_any (V M size : Int) (hs : 0 ≤ size) (hs2 : size ≤ 1000) (t : Value) (i : Ins) (w : World) :
    Calls Try.prog 96 #[.agg #[.int .i64 V, .int .i64 M, t], .int .i64 size, insV i] w fun r w' => r = .returned (.bool (rightIns V M size i)) ∧ Below w.heap.size w w' := by
  obtain ⟨k, ri, x, n⟩ := i
  unfold insV
  dsimp only
  go_enter Try.func96, Try.ntmps96
  go_wp2_with (go_at_call 90; refine (below_any _ _ _).mono ?_; rintro r w' ⟨rfl, rfl⟩)
  all_goals
    go_ret
    refine ⟨ret_bool ?_, below_alloc2 _ _ _⟩
    simp [belowB] at *
    rw [Bool.eq_iff_iff]
    simp [rightIns, *]
    try omega

end Go.Proofs.Ytkphdmfcmfojeaa

/- A state of the program in memory: one block of 156 numbers. -/
namespace Go.Proofs.Ytkphdmfcmfojeaa
open Go.RowKit

def ins0 : Ins := ⟨0, 0, 0, 0⟩
def insNum (i : Ins) (k : Nat) : Int := if k = 0 then i.kind else if k = 1 then i.r else if k = 2 then i.x else i.n

/-- The number of cell k of a thread's 37. -/
def thrNum (c : List Ins) (x : Thr) (k : Nat) : Int :=
  if k < 32 then insNum (c.getD (k / 4) ins0) (k % 4)
  else if k = 32 then c.length
  else if k = 33 then x.at_
  else if k = 34 then x.fuel
  else x.r.getD (k - 35) 0

/-- The number of cell o of a state's 156. -/
def stNum (s : St) (o : Nat) : Int :=
  if o = 0 then s.ts.length
  else if o = 1 then s.p.mutexes
  else if o < 150 then thrNum (s.code ((o - 2) / 37)) (s.th ((o - 2) / 37)) ((o - 2) % 37)
  else if o < 154 then s.v.getD (o - 150) 0
  else s.m.getD (o - 154) (-1)

def numA (f : Nat → Int) : Array Value := ((List.range 156).map fun o => Value.int .i64 (f o)).toArray

theorem numA_size (f : Nat → Int) : (numA f).size = 156 := by simp [numA]
theorem numA_get (f : Nat → Int) (o : Nat) (h : o < 156) : (numA f)[o]? = some (.int .i64 (f o)) := by simp [numA, h]
theorem numA_one (f : Nat → Int) : (numA f).all (·.oneCell') = true := by
  simp [numA, Value.oneCell']
theorem numA_set (f g : Nat → Int) (o : Nat) (n : Int) (ho : o < 156) (h : ∀ j, j < 156 → g j = if j = o then n else f j) : (numA f).setIfInBounds o (.int .i64 n) = numA g := by
  apply Array.ext_getElem?
  intro j
  rw [Array.getElem?_setIfInBounds]
  by_cases hj : j < 156
  · rw [numA_get g j hj, h j hj]
    by_cases e : o = j
    · subst e; simp [numA_size, hj]
    · rw [if_neg e, if_neg (fun e' => e e'.symm), numA_get f j hj]
  · have h1 : (numA g)[j]? = none := Array.getElem?_eq_none (by rw [numA_size]; omega)
    have h2 : (numA f)[j]? = none := Array.getElem?_eq_none (by rw [numA_size]; omega)
    rw [h1, h2]
    split
    · rw [numA_size, if_neg (by omega)]
    · rfl
theorem numA_congr (f g : Nat → Int) (h : ∀ j, j < 156 → f j = g j) : numA f = numA g := by
  unfold numA
  congr 1
  apply List.map_congr_left
  intro j hj
  rw [h j (by simpa using hj)]

/-- In block b lies the state s. -/
def StAt (w : World) (b : Nat) (s : St) : Prop := w.heap[b]? = some (.cells (numA (stNum s)) 153 (0, 0))

theorem StAt.lt {w : World} {b : Nat} {s : St} (h : StAt w b s) : b < w.heap.size := (Array.getElem?_eq_some_iff.1 h).1
theorem StAt.num {w : World} {b : Nat} {s : St} (h : StAt w b s) (o : Nat) (ho : o < 156) : w.cell? ⟨b, o, none⟩ = some (.int .i64 (stNum s o)) := by
  rw [cell_of_row w b o _ _ _ h, numA_get _ _ ho]
theorem StAt.frozen {w : World} {b : Nat} {s : St} (h : StAt w b s) (o : Nat) : w.frozen? ⟨b, o, none⟩ = false := by
  simp [World.frozen?, show w.heap[b]? = _ from h]
theorem StAt.set {w : World} {b : Nat} {s : St} (h : StAt w b s) (s' : St) (o : Nat) (n : Int) (ho : o < 156) (hs : ∀ j, j < 156 → stNum s' j = if j = o then n else stNum s j) : StAt (w.setCell ⟨b, o, none⟩ (.int .i64 n)) b s' := by
  have := heap_setCell_same w b o _ _ (.int .i64 n) h
  rw [numA_set _ _ o n ho hs] at this
  exact this
theorem StAt.later {w w' : World} {b : Nat} {s : St} (h : StAt w b s) (hb : Below w.heap.size w w') : StAt w' b s := (hb.block b h.lt).trans h
theorem StAt.drew {w : World} {b : Nat} {s : St} (h : StAt w b s) : StAt w.drew b s := h

theorem stNum_threads (s : St) : stNum s 0 = s.ts.length := rfl
theorem stNum_mutexes (s : St) : stNum s 1 = s.p.mutexes := rfl
theorem stNum_thr (s : St) (t k : Nat) (ht : t < 4) (hk : k < 37) : stNum s (2 + t * 37 + k) = thrNum (s.code t) (s.th t) k := by
  unfold stNum
  rw [if_neg (by omega), if_neg (by omega), if_pos (by omega), show (2 + t * 37 + k - 2) / 37 = t by omega, show (2 + t * 37 + k - 2) % 37 = k by omega]
theorem stNum_var (s : St) (x : Nat) (h : x < 4) : stNum s (150 + x) = s.v.getD x 0 := by
  unfold stNum
  rw [if_neg (by omega), if_neg (by omega), if_neg (by omega), if_pos (by omega), show 150 + x - 150 = x by omega]
theorem stNum_who (s : St) (x : Nat) : stNum s (154 + x) = s.m.getD x (-1) := by
  unfold stNum
  rw [if_neg (by omega), if_neg (by omega), if_neg (by omega), if_neg (by omega), show 154 + x - 154 = x by omega]

theorem stNum_put (s : St) (t : Nat) (y : Thr) (k : Nat) (n : Int) (ht : t < s.ts.length) (h4 : s.ts.length ≤ 4) (hk : k < 37) (hy : ∀ j, j < 37 → thrNum (s.code t) y j = if j = k then n else thrNum (s.code t) (s.th t) j) :
    ∀ j, j < 156 → stNum (s.put t y) j = if j = 2 + t * 37 + k then n else stNum s j := by
  intro j hj
  have hth : ∀ u, (s.put t y).th u = if u = t then y else s.th u := fun u => by
    unfold St.put St.th
    simp only [Int.toNat_natCast]
    exact getD_set _ _ _ _ _ ht
  have hcd : ∀ u, (s.put t y).code u = s.code u := fun _ => rfl
  unfold stNum
  by_cases h0 : j = 0
  · rw [if_pos h0, if_neg (by omega), if_pos h0]; simp [St.put]
  rw [if_neg h0, if_neg (c := j = 0) h0]
  by_cases h1 : j = 1
  · rw [if_pos h1, if_neg (by omega), if_pos h1]; rfl
  rw [if_neg h1, if_neg (c := j = 1) h1]
  by_cases h2 : j < 150
  · rw [if_pos h2, if_pos h2, hth, hcd]
    by_cases e : (j - 2) / 37 = t
    · rw [if_pos e, e, hy _ (by omega)]
      by_cases e2 : (j - 2) % 37 = k
      · rw [if_pos e2, if_pos (by omega)]
      · rw [if_neg e2, if_neg (by omega)]
    · rw [if_neg e, if_neg (by omega)]
  · rw [if_neg h2, if_neg (c := j < 150) h2, if_neg (c := j = 2 + t * 37 + k) (by omega)]; rfl

theorem thrNum_at (c : List Ins) (x : Thr) (n : Nat) : ∀ j, j < 37 → thrNum c { x with at_ := n } j = if j = 33 then (n : Int) else thrNum c x j := by
  intro j hj
  unfold thrNum
  dsimp only
  by_cases e : j = 33
  · subst e; simp
  · rw [if_neg e]; simp only [e, if_false]
theorem thrNum_fuel (c : List Ins) (x : Thr) (n : Nat) : ∀ j, j < 37 → thrNum c { x with fuel := n } j = if j = 34 then (n : Int) else thrNum c x j := by
  intro j hj
  unfold thrNum
  dsimp only
  by_cases e : j = 34
  · subst e; simp
  · rw [if_neg e]; simp only [e, if_false]
theorem thrNum_reg (c : List Ins) (x : Thr) (r : Nat) (n : Int) (hr : r < 2) (hl : x.r.length = 2) : ∀ j, j < 37 → thrNum c { x with r := x.r.set r n } j = if j = 35 + r then n else thrNum c x j := by
  intro j hj
  unfold thrNum
  dsimp only
  by_cases h1 : j < 35
  · rw [if_neg (c := j = 35 + r) (by omega)]
    by_cases a : j < 32
    · simp [a]
    · by_cases b : j = 32
      · simp [b]
      · by_cases c : j = 33
        · simp [c]
        · have : j = 34 := by omega
          simp [this]
  · have a1 : ¬ j < 32 := by omega
    have a2 : ¬ j = 32 := by omega
    have a3 : ¬ j = 33 := by omega
    have a4 : ¬ j = 34 := by omega
    simp only [a1, a2, a3, a4, if_false]
    rw [getD_set _ _ _ _ _ (by omega)]
    by_cases e : j = 35 + r
    · rw [if_pos (by omega), if_pos e]
    · rw [if_neg (by omega), if_neg e]

theorem stNum_setVar (s : St) (x : Nat) (n : Int) (hx : x < 4) (hl : s.v.length = 4) : ∀ j, j < 156 → stNum { s with v := s.v.set x n } j = if j = 150 + x then n else stNum s j := by
  intro j hj
  unfold stNum St.th St.code
  dsimp only
  by_cases h2 : j < 150
  · rw [if_neg (c := j = 150 + x) (by omega)]; simp only [h2, if_true]
  · rw [if_neg (by omega), if_neg (by omega), if_neg h2]
    by_cases h3 : j < 154
    · rw [if_pos h3, getD_set _ _ _ _ _ (by omega)]
      by_cases e : j = 150 + x
      · rw [if_pos (by omega), if_pos e]
      · rw [if_neg (by omega), if_neg e, if_neg (by omega), if_neg (by omega), if_neg h2, if_pos h3]
    · rw [if_neg h3, if_neg (c := j = 150 + x) (by omega), if_neg (by omega), if_neg (by omega), if_neg h2, if_neg h3]
theorem stNum_setWho (s : St) (x : Nat) (n : Int) (hx : x < 2) (hl : s.m.length = 2) : ∀ j, j < 156 → stNum { s with m := s.m.set x n } j = if j = 154 + x then n else stNum s j := by
  intro j hj
  unfold stNum St.th St.code
  dsimp only
  by_cases h3 : j < 154
  · rw [if_neg (c := j = 154 + x) (by omega)]; simp only [h3, if_true]
  · rw [if_neg (by omega), if_neg (by omega), if_neg (by omega), if_neg h3, getD_set _ _ _ _ _ (by omega)]
    by_cases e : j = 154 + x
    · rw [if_pos (by omega), if_pos e]
    · rw [if_neg (by omega), if_neg e, if_neg (by omega), if_neg (by omega), if_neg (by omega), if_neg h3]

theorem Only.stAt {b c : Nat} {w w' : World} {s : St} (h : Only b w w') (hs : StAt w c s) (hc : c ≠ b) : StAt w' c s := (h.block c hs.lt hc).trans hs

end Go.Proofs.Ytkphdmfcmfojeaa

/- The contracts of what only reads a state: below, Threads, Var, Holder, instr, event, may. -/
namespace Go.Proofs.Ytkphdmfcmfojeaa
open Go.RowKit

theorem sbelow_any (n e : Int) (w : World) : Calls Try.prog 74 #[.int .i64 n, .int .i64 e] w fun r w' => r = .returned (.bool (belowB n e)) ∧ w = w' := by
  go_enter Try.func74, Try.ntmps74
  go_wp2
  all_goals
    go_ret
    refine ⟨ret_bool ?_, rfl⟩
    simp [belowB]
    try omega

theorem threads_any {s : St} {b : Nat} {w : World} (h : StAt w b s) : Calls Try.prog 65 #[.pointer (some ⟨b, 0, none⟩)] w fun r w' => r = .returned (.int .i64 s.ts.length) ∧ w = w' := by
  have c0 := h.num 0 (by omega)
  rw [stNum_threads] at c0
  have H := Lib.hid h
  clear h
  go_enter Try.func65, Try.ntmps65
  go_wp2
  go_ret
  exact ⟨rfl, rfl⟩

/-- An instruction, if there is one, as a value. -/
def insR (o : Option Ins) : Value := .tuple #[insV (o.getD ins0), .bool o.isSome]
/-- An event, if there is one, as a value. -/
def evR (o : Option Ev) : Value := .tuple #[evV (o.getD ev0), .bool o.isSome]

theorem thrNum_ins (c : List Ins) (x : Thr) (j : Nat) (hj : j < 8) (d : Nat) (hd : d < 4) : thrNum c x (j * 4 + d) = insNum (c.getD j ins0) d := by
  unfold thrNum
  rw [if_pos (by omega), show (j * 4 + d) / 4 = j by omega, show (j * 4 + d) % 4 = d by omega]

theorem thr_fuel (c : List Ins) (x : Thr) : thrNum c x 34 = x.fuel := rfl
theorem thr_at (c : List Ins) (x : Thr) : thrNum c x 33 = x.at_ := rfl
theorem thr_reg (c : List Ins) (x : Thr) (y : Nat) : thrNum c x (35 + y) = x.r.getD y 0 := by
  unfold thrNum
  rw [if_neg (by omega), if_neg (by omega), if_neg (by omega), if_neg (by omega), show 35 + y - 35 = y by omega]
theorem thr_size (c : List Ins) (x : Thr) : thrNum c x 32 = c.length := rfl
theorem St.Ok.len4 {F : Nat} {s : St} (h : s.Ok F) : s.ts.length ≤ 4 := by
  have := h.right
  unfold rightPg at this
  rw [Bool.and_eq_true, decide_eq_true_eq] at this
  have := h.len
  omega
theorem St.Ok.code8 {F : Nat} {s : St} (h : s.Ok F) (k : Nat) (hk : k < s.ts.length) : (s.code k).length ≤ 8 := by
  have hl := h.len
  unfold St.code
  rw [getD_lt _ (by omega)]
  exact (rightPg_code h.right (by omega)).1

theorem insR_none : insR none = .tuple #[.agg #[.int .i64 0, .int .i64 0, .int .i64 0, .int .i64 0], .bool false] := rfl
theorem insR_some (i : Ins) : insR (some i) = .tuple #[.agg #[.int .i64 i.kind, .int .i64 i.r, .int .i64 i.x, .int .i64 i.n], .bool true] := rfl

set_option maxRecDepth 100000 in
set_option maxHeartbeats 1000000 in
theorem instr_any {F : Nat} {s : St} {b : Nat} {w : World} (h : StAt w b s) (ok : s.Ok F) (t : Int) :
    Calls Try.prog 85 #[.pointer (some ⟨b, 0, none⟩), .int .i64 t] w fun r w' => r = .returned (insR (s.ins t)) ∧ Below w.heap.size w w' := by
  have hbl := h.lt
  have H := Lib.hid h
  have OK := Lib.hid ok
  clear h ok
  cases hb : belowB t s.ts.length
  · have hn : s.ins t = none := by
      unfold St.ins
      rw [if_neg (fun e => by have := e.1; unfold St.has at this; simp [belowB] at hb; omega)]
    rw [hn, insR_none]
    clear hn
    go_enter Try.func85, Try.ntmps85
    go_wp2_with (first
      | (go_at_call 74; refine (sbelow_any _ _ _).mono ?_; rintro r w' ⟨rfl, rfl⟩)
      | (go_at_call 65; refine (threads_any (H.out.later (below_alloc1 _ _))).mono ?_; rintro r w' ⟨rfl, rfl⟩))
    exact bodyPost_ret (v := .tuple #[.agg #[.int .i64 0, .int .i64 0, .int .i64 0, .int .i64 0], .bool false]) (by simp [results, Try.results85, go_sem]) rfl ⟨rfl, below_alloc1 w _⟩
  · obtain ⟨k, rfl⟩ : ∃ k : Nat, t = k := ⟨t.toNat, by simp [belowB] at hb; omega⟩
    have hk : k < s.ts.length := by simp [belowB] at hb; omega
    have h4 := OK.out.len4
    have hpl := OK.out.place k hk
    have h8 := OK.out.code8 k hk
    have cf := H.out.num (2 + k * 37 + 34) (by omega)
    rw [stNum_thr _ _ _ (by omega) (by omega), thr_fuel] at cf
    have ca := H.out.num (2 + k * 37 + 33) (by omega)
    rw [stNum_thr _ _ _ (by omega) (by omega), thr_at] at ca
    have cs := H.out.num (2 + k * 37 + 32) (by omega)
    rw [stNum_thr _ _ _ (by omega) (by omega), thr_size] at cs
    by_cases hf : (s.th k).fuel = 0
    · have hn : s.ins k = none := by
        unfold St.ins
        rw [if_neg (fun e => by have := e.2; simp at this; omega)]
      rw [hn, insR_none]
      rw [hf] at cf
      clear hn hf
      have hd : decide (((0 : Nat) : Int) = 0) = true := rfl
      go_enter Try.func85, Try.ntmps85
      go_wp2_with (first
        | (go_at_call 74; refine (sbelow_any _ _ _).mono ?_; rintro r w' ⟨rfl, rfl⟩)
        | (go_at_call 65; refine (threads_any (H.out.later (below_alloc1 _ _))).mono ?_; rintro r w' ⟨rfl, rfl⟩))
      go_quiet (fail)
      go_wp2
      exact bodyPost_ret (v := .tuple #[.agg #[.int .i64 0, .int .i64 0, .int .i64 0, .int .i64 0], .bool false]) (by simp [results, Try.results85, go_sem]) rfl ⟨rfl, below_set4 (below_alloc1 w _).drewN (Nat.le_refl _) _ _ _ _⟩
    · by_cases ha : (s.th k).at_ = (s.code k).length
      · have hn : s.ins k = none := by
          unfold St.ins
          split
          · exact List.getElem?_eq_none (by simp [ha])
          · rfl
        rw [hn, insR_none]
        have hf' : ((((s.th k).fuel : Nat) : Int) == 0) = false := by simp; omega
        have ha' : ((((s.th k).at_ : Nat) : Int) == (s.code k).length) = true := by simp [ha]
        clear hn hf ha
        generalize (s.th k).fuel = f at *
        generalize (s.th k).at_ = at_ at *
        generalize (s.code k).length = n at *
        go_enter Try.func85, Try.ntmps85
        go_wp2_with (first
          | (go_at_call 74; refine (sbelow_any _ _ _).mono ?_; rintro r w' ⟨rfl, rfl⟩)
          | (go_at_call 65; refine (threads_any (H.out.later (below_alloc1 _ _))).mono ?_; rintro r w' ⟨rfl, rfl⟩))
        go_quiet (fail)
        go_wp2
        exact bodyPost_ret (v := .tuple #[.agg #[.int .i64 0, .int .i64 0, .int .i64 0, .int .i64 0], .bool false]) (by simp [results, Try.results85, go_sem]) rfl ⟨rfl, below_set4 (below_alloc1 w _).drewN (Nat.le_refl _) _ _ _ _⟩
      · have hlt : (s.th k).at_ < (s.code k).length := by omega
        have hn : s.ins k = some (s.code k)[(s.th k).at_] := by
          unfold St.ins
          rw [if_pos ⟨⟨by omega, by omega⟩, by simpa using hf⟩]
          simp only [Int.toNat_natCast]
          exact List.getElem?_eq_getElem hlt
        rw [hn, insR_some]
        have hi : ∀ d, d < 4 → w.cell? ⟨b, 2 + k * 37 + (s.th k).at_ * 4 + d, none⟩ = some (.int .i64 (insNum (s.code k)[(s.th k).at_] d)) := by
          intro d hd
          have := H.out.num (2 + k * 37 + ((s.th k).at_ * 4 + d)) (by omega)
          rw [stNum_thr _ _ _ (by omega) (by omega), thrNum_ins _ _ _ (by omega) _ hd, getD_lt _ hlt] at this
          rw [Nat.add_assoc]
          exact this
        have c0 : w.cell? ⟨b, 2 + k * 37 + (s.th k).at_ * 4, none⟩ = some (.int .i64 (s.code k)[(s.th k).at_].kind) := hi 0 (by omega)
        have c1 : w.cell? ⟨b, 2 + k * 37 + (s.th k).at_ * 4 + 1, none⟩ = some (.int .i64 (s.code k)[(s.th k).at_].r) := hi 1 (by omega)
        have c2 : w.cell? ⟨b, 2 + k * 37 + (s.th k).at_ * 4 + 2, none⟩ = some (.int .i64 (s.code k)[(s.th k).at_].x) := hi 2 (by omega)
        have c3 : w.cell? ⟨b, 2 + k * 37 + (s.th k).at_ * 4 + 3, none⟩ = some (.int .i64 (s.code k)[(s.th k).at_].n) := hi 3 (by omega)
        generalize (s.code k)[(s.th k).at_] = i at *
        have hf' : ((((s.th k).fuel : Nat) : Int) == 0) = false := by simp; omega
        have ha' : ((((s.th k).at_ : Nat) : Int) == (s.code k).length) = false := by simp; omega
        have ha8 : (s.th k).at_ < 8 := by omega
        clear hn hf ha hi
        generalize (s.th k).fuel = f at *
        generalize (s.th k).at_ = at_ at *
        generalize (s.code k).length = n at *
        go_enter Try.func85, Try.ntmps85
        go_wp2_with (first
          | (go_at_call 74; refine (sbelow_any _ _ _).mono ?_; rintro r w' ⟨rfl, rfl⟩)
          | (go_at_call 65; refine (threads_any (H.out.later (below_alloc1 _ _))).mono ?_; rintro r w' ⟨rfl, rfl⟩))
        go_quiet (fail)
        go_wp2
        go_region
        go_wp2
        exact bodyPost_ret (v := .tuple #[.agg #[.int .i64 i.kind, .int .i64 i.r, .int .i64 i.x, .int .i64 i.n], .bool true]) (by simp [results, Try.results85, go_sem]) rfl ⟨rfl, below_set4 (below_alloc1 w _).drewN.drew (Nat.le_refl _) _ _ _ _⟩

set_option maxRecDepth 100000 in
set_option maxHeartbeats 2000000 in
theorem event_any {F : Nat} {s : St} {b : Nat} {w : World} (h : StAt w b s) (ok : s.Ok F) (t : Nat) (ht : t < s.ts.length) (i : Ins) (h6 : i.kind = 6 → 0 ≤ i.x ∧ i.x < 2) (h8 : i.kind = 8 → 0 ≤ i.r ∧ i.r < 2) :
    Calls Try.prog 86 #[.pointer (some ⟨b, 0, none⟩), .int .i64 t, insV i] w fun r w' => r = .returned (evV (s.ev t i)) ∧ Below w.heap.size w w' := by
  have hbl := h.lt
  have h4 := ok.len4
  have H := Lib.hid h
  clear h ok
  obtain ⟨kd, r, x, n⟩ := i
  unfold insV
  dsimp only at *
  by_cases e1 : kd = 1
  · subst e1
    have hev : s.ev t ⟨1, r, x, n⟩ = ⟨t, 2, x, false⟩ := rfl
    rw [hev, evV_mk]
    clear hev h6 h8
    go_enter Try.func86, Try.ntmps86
    go_wp2
    exact bodyPost_ret (v := .agg #[.int .i64 t, .int .i64 2, .int .i64 x, .bool false]) (by simp [results, Try.results86, go_sem]) rfl ⟨rfl, below_alloc2 w _ _⟩
  by_cases e2 : kd = 2
  · subst e2
    have hev : s.ev t ⟨2, r, x, n⟩ = ⟨t, 3, x, false⟩ := rfl
    rw [hev, evV_mk]
    clear hev h6 h8
    go_enter Try.func86, Try.ntmps86
    go_wp2
    exact bodyPost_ret (v := .agg #[.int .i64 t, .int .i64 3, .int .i64 x, .bool false]) (by simp [results, Try.results86, go_sem]) rfl ⟨rfl, below_alloc2 w _ _⟩
  by_cases e5 : kd = 5
  · subst e5
    have hev : s.ev t ⟨5, r, x, n⟩ = ⟨t, 4, x, false⟩ := rfl
    rw [hev, evV_mk]
    clear hev h6 h8
    go_enter Try.func86, Try.ntmps86
    go_wp2
    exact bodyPost_ret (v := .agg #[.int .i64 t, .int .i64 4, .int .i64 x, .bool false]) (by simp [results, Try.results86, go_sem]) rfl ⟨rfl, below_alloc2 w _ _⟩
  by_cases e6 : kd = 6
  · subst e6
    obtain ⟨hx0, hx2⟩ := h6 rfl
    obtain ⟨y, rfl⟩ : ∃ y : Nat, x = y := ⟨x.toNat, by omega⟩
    have hy : y < 2 := by omega
    have c0 := H.out.num (154 + y) (by omega)
    rw [stNum_who] at c0
    have hv : s.m.getD y (-1) = s.who y := rfl
    rw [hv] at c0
    clear hv h6 h8 hx0 hx2
    by_cases hw : s.who y = t
    · have hev : s.ev t ⟨6, r, y, n⟩ = ⟨t, 5, y, false⟩ := by simp [St.ev, hw]
      rw [hev, evV_mk]
      rw [hw] at c0
      clear hev hw
      go_enter Try.func86, Try.ntmps86
      go_wp2
      go_quiet (fail)
      go_wp2
      exact bodyPost_ret (v := .agg #[.int .i64 t, .int .i64 5, .int .i64 y, .bool false]) (by simp [results, Try.results86, go_sem]) rfl ⟨rfl, below_set4 (below_alloc2 w _ _).drewN (by omega) _ _ _ _⟩
    · have hev : s.ev t ⟨6, r, y, n⟩ = ⟨t, 1, 0, true⟩ := by simp [St.ev, hw]
      rw [hev, evV_mk]
      have hq : (s.who y == (t : Int)) = false := by simpa using hw
      clear hev hw
      go_enter Try.func86, Try.ntmps86
      go_wp2
      go_quiet (fail)
      go_wp2
      exact bodyPost_ret (v := .agg #[.int .i64 t, .int .i64 1, .int .i64 0, .bool true]) (by simp [results, Try.results86, go_sem]) rfl ⟨rfl, below_set4 (below_alloc2 w _ _).drewN (by omega) _ _ _ _⟩
  by_cases e8 : kd = 8
  · subst e8
    obtain ⟨hx0, hx2⟩ := h8 rfl
    obtain ⟨y, rfl⟩ : ∃ y : Nat, r = y := ⟨r.toNat, by omega⟩
    have hy : y < 2 := by omega
    have c0 := H.out.num (2 + t * 37 + (35 + y)) (by omega)
    rw [stNum_thr _ _ _ (by omega) (by omega), thr_reg, ← Nat.add_assoc] at c0
    have hev : s.ev t ⟨8, y, x, n⟩ = ⟨t, 1, 0, (s.th t).r.getD y 0 == 0⟩ := rfl
    rw [hev, evV_mk]
    generalize (s.th t).r.getD y 0 = g at *
    clear hev h6 h8 hx0 hx2
    go_enter Try.func86, Try.ntmps86
    go_wp2
    go_region
    go_wp2
    exact bodyPost_ret (v := .agg #[.int .i64 t, .int .i64 1, .int .i64 0, .bool (g == 0)]) (by simp [results, Try.results86, go_sem]) rfl ⟨rfl, (below_alloc2 w _ _).drew⟩
  · have hev : s.ev t ⟨kd, r, x, n⟩ = ⟨t, 1, 0, false⟩ := by simp [St.ev, e1, e2, e5, e6, e8]
    rw [hev, evV_mk]
    have f1 : (kd == 1) = false := by simpa using e1
    have f2 : (kd == 2) = false := by simpa using e2
    have f5 : (kd == 5) = false := by simpa using e5
    have f6 : (kd == 6) = false := by simpa using e6
    have f8 : (kd == 8) = false := by simpa using e8
    clear hev h6 h8 e1 e2 e5 e6 e8
    go_enter Try.func86, Try.ntmps86
    go_wp2
    exact bodyPost_ret (v := .agg #[.int .i64 t, .int .i64 1, .int .i64 0, .bool false]) (by simp [results, Try.results86, go_sem]) rfl ⟨rfl, below_alloc2 w _ _⟩


end Go.Proofs.Ytkphdmfcmfojeaa

/- Who sleeps, of sets as numbers. -/
namespace Go.Proofs.Ytkphdmfcmfojeaa

/-- Does a thread do something next that doesn't depend on an event? -/
def apart (nx : Int → Option Ev) (e : Ev) (u : Nat) : Bool := match nx (u : Int) with
  | none => false
  | some x => !dep e x
theorem apart_none {nx : Int → Option Ev} {e : Ev} {u : Nat} (h : nx (u : Int) = none) : apart nx e u = false := by unfold apart; rw [h]
theorem apart_some {nx : Int → Option Ev} {e x : Ev} {u : Nat} (h : nx (u : Int) = some x) : apart nx e u = !dep e x := by unfold apart; rw [h]
theorem child_all {nx : Int → Option Ev} {e : Ev} {asl ear : Nat} {t : Int} (h : nx t = some e) (ha : asl < 256) (he : ear < 256) :
    (bitsL (wl (asl ||| ear) t)).filter (apart nx e) = childTo nx asl ear t 8 := by
  unfold bitsL childTo
  rw [List.filter_filter]
  refine List.filter_congr fun u hu => ?_
  have hu8 : u < 8 := List.mem_range.1 hu
  rw [testBit_wl (or_lt8 ha he) hu8, Nat.testBit_or]
  unfold apart childO
  rw [h]
  cases h2 : nx (u : Int) with
  | none => simp
  | some x =>
    dsimp only
    rw [dep_symm e x]
    by_cases e1 : t = (u : Int)
    · simp [e1]
    · have e2 : ¬ ((u : Int) = t) := fun h => e1 h.symm
      simp [e1, e2]
      cases asl.testBit u <;> cases ear.testBit u <;> cases dep x e <;> rfl
theorem child_none {nx : Int → Option Ev} {asl ear : Nat} {t : Int} (h : nx t = none) (k : Nat) : childTo nx asl ear t k = [] := by
  unfold childTo
  rw [List.filter_eq_nil_iff]
  intro u _
  unfold childO
  rw [h]
  exact Bool.false_ne_true
theorem childTo_yes {nx : Int → Option Ev} {asl ear : Nat} {t : Int} {k : Nat} (h : childO nx asl ear t k = true) : ints (childTo nx asl ear t (k + 1)) = ints (childTo nx asl ear t k) ++ [(k : Int)] := by
  unfold childTo
  rw [List.range_succ, List.filter_append, ints_app]
  simp [h, ints]
theorem childTo_no {nx : Int → Option Ev} {asl ear : Nat} {t : Int} {k : Nat} (h : childO nx asl ear t k = false) : childTo nx asl ear t (k + 1) = childTo nx asl ear t k := by
  unfold childTo
  rw [List.range_succ, List.filter_append]
  simp [h]
theorem childTo_len (nx : Int → Option Ev) (asl ear : Nat) (t : Int) (k : Nat) : (childTo nx asl ear t k).length ≤ k := by
  unfold childTo
  refine Nat.le_trans (List.length_filter_le _ _) ?_
  rw [List.length_range]
  exact Nat.le_refl _
/-- The same, as a set. -/
def childN (nx : Int → Option Ev) (asl ear : Nat) (t : Int) : Nat := ofN (ints (childTo nx asl ear t 8))
theorem childN_lt (nx : Int → Option Ev) (asl ear : Nat) (t : Int) : childN nx asl ear t < 256 := ofN_lt _
theorem testBit_childN (nx : Int → Option Ev) (asl ear : Nat) (t : Int) {i : Nat} (hi : i < 8) : (childN nx asl ear t).testBit i = childO nx asl ear t i := by
  unfold childN
  rw [testBit_ofN _ hi]
  have h : ((i : Int) ∈ ints (childTo nx asl ear t 8)) ↔ childO nx asl ear t i = true := by
    rw [ints_mem]
    unfold childTo
    rw [List.mem_filter, List.mem_range]
    exact ⟨fun h => h.2, fun h => ⟨hi, h⟩⟩
  cases hb : childO nx asl ear t i
  · rw [decide_eq_false_iff_not, h, hb]; exact Bool.false_ne_true
  · rw [decide_eq_true_eq, h, hb]
theorem bits_childN (nx : Int → Option Ev) (asl ear : Nat) (t : Int) : bitsL (childN nx asl ear t) = childTo nx asl ear t 8 := by
  unfold bitsL childTo
  exact List.filter_congr fun u hu => testBit_childN nx asl ear t (List.mem_range.1 hu)
/-- A number is among a set's just if it is of it. -/
theorem mem_has (n : Nat) (x : Int) : decide (x ∈ ints (bitsL n)) = hasB n x := by
  unfold hasB
  by_cases h : 0 ≤ x ∧ x < 8
  · obtain ⟨i, rfl⟩ : ∃ i : Nat, x = i := ⟨x.toNat, by omega⟩
    have hi : i < 8 := by omega
    simp only [h, and_self, decide_true, Bool.true_and, Int.toNat_natCast]
    cases hb : n.testBit i
    · rw [decide_eq_false_iff_not, ints_mem, mem_bits, hb]
      exact fun h => Bool.false_ne_true h.2
    · rw [decide_eq_true_eq, ints_mem, mem_bits, hb]
      exact ⟨hi, rfl⟩
  · simp only [h, decide_false, Bool.false_and, decide_eq_false_iff_not]
    intro hx
    unfold ints at hx
    obtain ⟨i, hi, rfl⟩ := List.mem_map.1 hx
    have := (mem_bits.1 hi).1
    omega
/-- Do all sleep who may? -/
def blockedB (all : List Int) (asl : Nat) : Bool := !all.isEmpty && all.all (hasB asl)
theorem of_zero {l : List Int} (h : ∀ x ∈ l, 0 ≤ x ∧ x < 8) : ofN l = 0 ↔ l = [] := by
  constructor
  · intro h0
    cases l with
    | nil => rfl
    | cons x l =>
      obtain ⟨i, rfl⟩ : ∃ i : Nat, x = i := ⟨x.toNat, by have := h x (by simp); omega⟩
      have hi : i < 8 := by have := h (i : Int) (by simp); omega
      have := testBit_ofN ((i : Int) :: l) hi
      rw [h0, Nat.zero_testBit] at this
      simp at this
  · rintro rfl; rfl
theorem wo_zero {l : List Int} {asl : Nat} (ha : asl < 256) (h : ∀ x ∈ l, 0 ≤ x ∧ x < 8) : wo (ofN l) asl = 0 ↔ l.all (hasB asl) = true := by
  rw [List.all_eq_true]
  constructor
  · intro h0 x hx
    obtain ⟨i, rfl⟩ : ∃ i : Nat, x = i := ⟨x.toNat, by have := h x hx; omega⟩
    have hi : i < 8 := by have := h (i : Int) hx; omega
    rw [hasB_nat _ hi]
    have h1 := testBit_wo (i := i) (ofN_lt l) ha
    rw [h0, Nat.zero_testBit, testBit_ofN _ hi] at h1
    simpa [hx] using h1
  · intro h0
    refine set_ext (wo_lt _ _ (ofN_lt l)) (by omega) fun i hi => ?_
    rw [testBit_wo (ofN_lt l) ha, testBit_ofN _ hi, Nat.zero_testBit]
    by_cases hx : (i : Int) ∈ l
    · have := h0 _ hx
      rw [hasB_nat _ hi] at this
      simp [this]
    · simp [hx]
theorem all_small {F : Nat} {s : St} (ok : s.Ok F) : ∀ x ∈ s.all, 0 ≤ x ∧ x < 8 := by
  intro x hx
  have h4 := ok.len4
  unfold St.all at hx
  obtain ⟨i, hi, rfl⟩ := List.mem_map.1 (List.mem_filter.1 hx).1
  have := List.mem_range.1 hi
  simp only [Int.ofNat_eq_natCast]
  omega
theorem all_len8 {F : Nat} {s : St} (ok : s.Ok F) : s.all.length ≤ 4 := by
  have h4 := ok.len4
  unfold St.all
  refine Nat.le_trans (List.length_filter_le _ _) ?_
  rw [List.length_map, List.length_range]
  exact h4

end Go.Proofs.Ytkphdmfcmfojeaa

/- Two events held against one another. -/
namespace Go.Proofs.Ytkphdmfcmfojeaa
open Go.RowKit


theorem run_eql_ev (e e' : Ev) (w : World) :
    (binOp .eql 128 (.agg #[.int .i64 e.thread, .int .i64 e.kind, .int .i64 e.obj, .bool e.fail]) (.agg #[.int .i64 e'.thread, .int .i64 e'.kind, .int .i64 e'.obj, .bool e'.fail])).run Try.prog w = .ok (.bool (decide (e = e'))) w := by
  rw [run_eql_struct]
  simp [run_equal_ev]
theorem run_neq_ev (e e' : Ev) (w : World) :
    (binOp .neq 128 (.agg #[.int .i64 e.thread, .int .i64 e.kind, .int .i64 e.obj, .bool e.fail]) (.agg #[.int .i64 e'.thread, .int .i64 e'.kind, .int .i64 e'.obj, .bool e'.fail])).run Try.prog w = .ok (.bool (decide (e ≠ e'))) w := by
  rw [run_neq_struct]
  simp [run_equal_ev]

end Go.Proofs.Ytkphdmfcmfojeaa

/- Rows of events: append, SameEvents. -/
namespace Go.Proofs.Ytkphdmfcmfojeaa
open Go.RowKit

end Go.Proofs.Ytkphdmfcmfojeaa

/- The contracts of may, Next, Enabled. -/
namespace Go.Proofs.Ytkphdmfcmfojeaa
open Go.RowKit

/-- May an event be done? -/
def St.free (s : St) (e : Ev) : Bool := e.kind != 4 || s.who e.obj == -1

set_option maxRecDepth 100000 in
set_option maxHeartbeats 1000000 in
theorem may_any {s : St} {b : Nat} {w : World} (h : StAt w b s) (e : Ev) (h4 : e.kind = 4 → 0 ≤ e.obj ∧ e.obj < 2) :
    Calls Try.prog 67 #[.pointer (some ⟨b, 0, none⟩), evV e] w fun r w' => r = .returned (.bool (s.free e)) ∧ Below w.heap.size w w' := by
  have hbl := h.lt
  have H := Lib.hid h
  clear h
  obtain ⟨t, k, o, f⟩ := e
  unfold evV
  dsimp only at *
  by_cases hk : k = 4
  · subst hk
    obtain ⟨hx0, hx2⟩ := h4 rfl
    obtain ⟨y, rfl⟩ : ∃ y : Nat, o = y := ⟨o.toNat, by omega⟩
    have hy : y < 2 := by omega
    have c0 := H.out.num (154 + y) (by omega)
    rw [stNum_who] at c0
    have hv : s.m.getD y (-1) = s.who y := rfl
    rw [hv] at c0
    clear hv
    have hfr : s.free ⟨t, 4, y, f⟩ = (s.who y == -1) := by simp [St.free]
    rw [hfr]
    clear hfr h4 hx0 hx2
    generalize s.who y = g at *
    go_enter Try.func67, Try.ntmps67
    go_wp2
    go_quiet (fail)
    go_wp2
    go_ret
    exact ⟨rfl, (below_alloc1 w _).drewN⟩
  · have hq : (k != 4) = true := by simpa using hk
    have hfr : s.free ⟨t, k, o, f⟩ = true := by simp [St.free, hk]
    rw [hfr]
    clear hfr h4 hk
    go_enter Try.func67, Try.ntmps67
    go_wp2
    go_quiet (fail)
    go_wp2
    go_ret
    exact ⟨rfl, (below_alloc1 w _).drewN⟩

theorem evR_none : evR none = .tuple #[.agg #[.int .i64 0, .int .i64 0, .int .i64 0, .bool false], .bool false] := rfl
theorem evR_some (e : Ev) : evR (some e) = .tuple #[.agg #[.int .i64 e.thread, .int .i64 e.kind, .int .i64 e.obj, .bool e.fail], .bool true] := rfl

theorem St.ins_nat {s : St} {t : Int} {i : Ins} (h : s.ins t = some i) : ∃ k : Nat, t = k ∧ k < s.ts.length := by
  have := (St.ins_has h).1
  unfold St.has at this
  exact ⟨t.toNat, by omega, by omega⟩

theorem event_of {F : Nat} {s : St} {b : Nat} {w : World} (h : StAt w b s) (ok : s.Ok F) {t : Nat} {i : Ins} (hi : s.ins t = some i) :
    Calls Try.prog 86 #[.pointer (some ⟨b, 0, none⟩), .int .i64 t, .agg #[.int .i64 i.kind, .int .i64 i.r, .int .i64 i.x, .int .i64 i.n]] w fun r w' => r = .returned (evV (s.ev t i)) ∧ Below w.heap.size w w' := by
  obtain ⟨k, e, hk⟩ := St.ins_nat hi
  obtain ⟨o1, o2, o3, o4, o5, o6⟩ := ok.obj hi
  exact event_any h ok t (by omega) i (fun h => o2 (.inr h)) (fun _ => ⟨o4, o5⟩)

theorem insV_eq (i : Ins) : insV i = .agg #[.int .i64 i.kind, .int .i64 i.r, .int .i64 i.x, .int .i64 i.n] := rfl

set_option maxRecDepth 100000 in
set_option maxHeartbeats 1000000 in
theorem next_any {F : Nat} {s : St} {b : Nat} {w : World} (h : StAt w b s) (ok : s.Ok F) (t : Int) :
    Calls Try.prog 66 #[.pointer (some ⟨b, 0, none⟩), .int .i64 t] w fun r w' => r = .returned (evR (s.next t)) ∧ Below w.heap.size w w' := by
  have H := Lib.hid h
  have OK := Lib.hid ok
  clear h ok
  cases hi : s.ins t with
  | none =>
    have hn : s.next t = none := by unfold St.next; rw [hi]; rfl
    rw [hn, evR_none]
    have HI := Lib.hid hi
    clear hn hi
    go_enter Try.func66, Try.ntmps66
    go_wp2_with fail
    refine (instr_any (H.out.later (below_alloc1 _ _)) OK.out t).mono ?_
    rw [HI.out, insR_none]
    rintro r w1 ⟨rfl, hb1⟩
    have hw1 : Below w.heap.size w w1 := (below_alloc1 w _).trans (hb1.mono (by simp))
    have hz : w.heap.size < w1.heap.size := by have := hb1.size; simp at this; omega
    have hc : ∀ o, w1.cell? ⟨w.heap.size, o, none⟩ = (w.alloc (.cells #[.int .i64 0, .int .i64 0, .int .i64 0, .bool false] 128)).cell? ⟨w.heap.size, o, none⟩ := fun o => hb1.cell (p := ⟨w.heap.size, o, none⟩) (by simp)
    have hf : ∀ o, w1.frozen? ⟨w.heap.size, o, none⟩ = (w.alloc (.cells #[.int .i64 0, .int .i64 0, .int .i64 0, .bool false] 128)).frozen? ⟨w.heap.size, o, none⟩ := fun o => hb1.frozen (p := ⟨w.heap.size, o, none⟩) (by simp)
    clear hb1
    go_wp2
    refine bodyPost_ret (v := .tuple #[.agg #[.int .i64 0, .int .i64 0, .int .i64 0, .bool false], .bool false]) (by simp [results, Try.results66, go_sem, hc, hz]) rfl ⟨rfl, ?_⟩
    exact (below_set4 hw1 (Nat.le_refl _) _ _ _ _).alloc (by simp [World.setCell]; omega) _
  | some i =>
    obtain ⟨k, rfl, hk⟩ := St.ins_nat hi
    have hn : s.next k = some (s.ev k i) := by unfold St.next; rw [hi]; rfl
    rw [hn, evR_some]
    have HI := Lib.hid hi
    clear hn hi
    go_enter Try.func66, Try.ntmps66
    go_wp2_with fail
    refine (instr_any (H.out.later (below_alloc1 _ _)) OK.out k).mono ?_
    rw [HI.out, insR_some]
    rintro r w1 ⟨rfl, hb1⟩
    have hw1 : Below w.heap.size w w1 := (below_alloc1 w _).trans (hb1.mono (by simp))
    have hz : w.heap.size < w1.heap.size := by have := hb1.size; simp at this; omega
    have hc : ∀ o, w1.cell? ⟨w.heap.size, o, none⟩ = (w.alloc (.cells #[.int .i64 0, .int .i64 0, .int .i64 0, .bool false] 128)).cell? ⟨w.heap.size, o, none⟩ := fun o => hb1.cell (p := ⟨w.heap.size, o, none⟩) (by simp)
    have hf : ∀ o, w1.frozen? ⟨w.heap.size, o, none⟩ = (w.alloc (.cells #[.int .i64 0, .int .i64 0, .int .i64 0, .bool false] 128)).frozen? ⟨w.heap.size, o, none⟩ := fun o => hb1.frozen (p := ⟨w.heap.size, o, none⟩) (by simp)
    clear hb1
    go_wp2_with fail
    refine (event_of ((H.out.later hw1).later (below_alloc1 _ _)) OK.out HI.out).mono ?_
    unfold evV
    rintro r w2 ⟨rfl, hb2⟩
    have hw2 : Below w1.heap.size w1 w2 := (below_alloc1 w1 _).trans (hb2.mono (by simp))
    have hz2 : w1.heap.size < w2.heap.size := by have := hb2.size; simp at this; omega
    have hz3 : w.heap.size < w2.heap.size := by omega
    have hc2 : ∀ o, w2.cell? ⟨w.heap.size, o, none⟩ = w1.cell? ⟨w.heap.size, o, none⟩ := fun o => hw2.cell (p := ⟨w.heap.size, o, none⟩) hz
    have hf2 : ∀ o, w2.frozen? ⟨w.heap.size, o, none⟩ = w1.frozen? ⟨w.heap.size, o, none⟩ := fun o => hw2.frozen (p := ⟨w.heap.size, o, none⟩) hz
    clear hb2
    go_wp2
    refine bodyPost_ret (v := .tuple #[.agg #[.int .i64 (s.ev k i).thread, .int .i64 (s.ev k i).kind, .int .i64 (s.ev k i).obj, .bool (s.ev k i).fail], .bool true]) (by simp [results, Try.results66, go_sem, hc, hc2]) rfl ⟨rfl, ?_⟩
    exact below_set4 (hw1.trans (hw2.mono (by omega))) (Nat.le_refl _) _ _ _ _

theorem St.may_eq {F : Nat} {s : St} (ok : s.Ok F) (t : Int) : s.may t = match s.next t with | none => false | some e => s.free e := by
  unfold St.may St.next
  cases hi : s.ins t with
  | none => rfl
  | some i =>
    simp only [Option.map_some]
    obtain ⟨o1, o2, o3, o4, o5, o6⟩ := ok.obj hi
    by_cases h5 : i.kind = 5
    · have ev : s.ev t i = ⟨t, 4, i.x, false⟩ := by unfold St.ev; rw [if_neg (by omega), if_neg (by omega), if_pos h5]
      have hx := o2 (.inl h5)
      have hk : i.x.toNat < s.m.length := by have := ok.ml; omega
      have hmm := ok.mm (s.who i.x) (by unfold St.who; rw [getD_lt _ hk]; exact List.getElem_mem hk)
      rw [ev, Bool.eq_iff_iff]
      simp [St.free, h5]
      omega
    · have : (s.ev t i).kind ≠ 4 := by
        unfold St.ev
        repeat' split
        all_goals (first | omega | (simp; done))
      simp [St.free, h5, this]

theorem ev_obj {F : Nat} {s : St} (ok : s.Ok F) {t : Int} {i : Ins} (hi : s.ins t = some i) (h : (s.ev t i).kind = 4) : 0 ≤ (s.ev t i).obj ∧ (s.ev t i).obj < 2 := by
  obtain ⟨o1, o2, o3, o4, o5, o6⟩ := ok.obj hi
  by_cases h5 : i.kind = 5
  · have ev : s.ev t i = ⟨t, 4, i.x, false⟩ := by unfold St.ev; rw [if_neg (by omega), if_neg (by omega), if_pos h5]
    rw [ev]
    exact o2 (.inl h5)
  · exfalso
    revert h
    unfold St.ev
    repeat' split
    all_goals (first | omega | (simp; done))

theorem next_obj {F : Nat} {s : St} (ok : s.Ok F) {t : Int} {e : Ev} (he : s.next t = some e) (h : e.kind = 4) : 0 ≤ e.obj ∧ e.obj < 2 := by
  unfold St.next at he
  obtain ⟨i, hi, rfl⟩ := Option.map_eq_some_iff.1 he
  exact ev_obj ok hi h

theorem may_of {F : Nat} {s : St} {b : Nat} {w : World} (h : StAt w b s) (ok : s.Ok F) {t : Int} {e : Ev} (he : s.next t = some e) :
    Calls Try.prog 67 #[.pointer (some ⟨b, 0, none⟩), .agg #[.int .i64 e.thread, .int .i64 e.kind, .int .i64 e.obj, .bool e.fail]] w fun r w' => r = .returned (.bool (s.may t)) ∧ Below w.heap.size w w' := by
  have := may_any h e (next_obj ok he)
  rw [St.may_eq ok, he]
  exact this

end Go.Proofs.Ytkphdmfcmfojeaa

/- The contracts of the deeds: load, store, set, add, lock, unlock, jump, assert. -/
namespace Go.Proofs.Ytkphdmfcmfojeaa
open Go.RowKit

theorem StAt.setReg {w : World} {b : Nat} {s : St} (h : StAt w b s) (t y : Nat) (n : Int) (ht : t < s.ts.length) (h4 : s.ts.length ≤ 4) (hy : y < 2) (hl : (s.th t).r.length = 2) :
    StAt (w.setCell ⟨b, 2 + t * 37 + 35 + y, none⟩ (.int .i64 n)) b (s.put t { s.th t with r := (s.th t).r.set y n }) := by
  rw [Nat.add_assoc]
  exact h.set _ _ n (by omega) (stNum_put s t _ (35 + y) n ht h4 (by omega) (thrNum_reg _ _ y n hy hl))
theorem StAt.setAt {w : World} {b : Nat} {s : St} (h : StAt w b s) (t n : Nat) (ht : t < s.ts.length) (h4 : s.ts.length ≤ 4) :
    StAt (w.setCell ⟨b, 2 + t * 37 + 33, none⟩ (.int .i64 n)) b (s.put t { s.th t with at_ := n }) :=
  h.set _ _ n (by omega) (stNum_put s t _ 33 n ht h4 (by omega) (thrNum_at _ _ n))
theorem StAt.setFuel {w : World} {b : Nat} {s : St} (h : StAt w b s) (t n : Nat) (ht : t < s.ts.length) (h4 : s.ts.length ≤ 4) :
    StAt (w.setCell ⟨b, 2 + t * 37 + 34, none⟩ (.int .i64 n)) b (s.put t { s.th t with fuel := n }) :=
  h.set _ _ n (by omega) (stNum_put s t _ 34 n ht h4 (by omega) (thrNum_fuel _ _ n))
theorem StAt.setVar {w : World} {b : Nat} {s : St} (h : StAt w b s) (x : Nat) (n : Int) (hx : x < 4) (hl : s.v.length = 4) :
    StAt (w.setCell ⟨b, 150 + x, none⟩ (.int .i64 n)) b { s with v := s.v.set x n } := h.set _ _ n (by omega) (stNum_setVar s x n hx hl)
theorem StAt.setWho {w : World} {b : Nat} {s : St} (h : StAt w b s) (x : Nat) (n : Int) (hx : x < 2) (hl : s.m.length = 2) :
    StAt (w.setCell ⟨b, 154 + x, none⟩ (.int .i64 n)) b { s with m := s.m.set x n } := h.set _ _ n (by omega) (stNum_setWho s x n hx hl)

theorem Only.drewN {b : Nat} {w w' : World} (h : Only b w w') {n : Nat} : Only b w (w'.drewN n) := ⟨h.os, h.tape, h.output, h.size, h.block⟩
theorem only_alloc (b : Nat) (w : World) (o : Obj) : Only b w (w.alloc o) := (Only.refl b w).alloc o

set_option maxRecDepth 100000 in
set_option maxHeartbeats 1000000 in
theorem load_any {s : St} {b : Nat} {w : World} (h : StAt w b s) (t : Nat) (ht : t < s.ts.length) (h4 : s.ts.length ≤ 4) (kd n : Int) (r x : Nat) (hr : r < 2) (hx : x < 4) (hl : (s.th t).r.length = 2) :
    Calls Try.prog 98 #[.pointer (some ⟨b, 0, none⟩), .int .i64 t, .agg #[.int .i64 kd, .int .i64 r, .int .i64 x, .int .i64 n]] w fun e w' => e = .returned (.tuple #[]) ∧ StAt w' b (s.put t { s.th t with r := (s.th t).r.set r (s.v.getD x 0) }) ∧ Only b w w' := by
  have hbl := h.lt
  have H := Lib.hid h
  have HB := Lib.hid (h.later (below_alloc1 w (.cells #[.int .i64 kd, .int .i64 r, .int .i64 x, .int .i64 n] 94)))
  have hfz := fun o => HB.out.frozen o
  have hff := fun o => h.frozen o
  clear h
  have c1 := H.out.num (150 + x) (by omega)
  rw [stNum_var _ _ hx] at c1
  generalize hg : s.v.getD x 0 = g at *
  clear hg
  have c0 := H.out.num (2 + t * 37 + (35 + r)) (by omega)
  rw [stNum_thr _ _ _ (by omega) (by omega), thr_reg, ← Nat.add_assoc] at c0
  go_enter Try.func98, Try.ntmps98
  go_wp2
  go_region
  go_wp2
  refine bodyPost_end (results_none rfl _ _ _) rfl ⟨rfl, ?_, ?_⟩
  · exact ((H.out.setReg t r g ht h4 hr hl).later (below_alloc1 _ _)).drew
  · exact (((Only.refl b w).setCell _ _).alloc _).drew

set_option maxRecDepth 100000 in
set_option maxHeartbeats 1000000 in
theorem store_any {s : St} {b : Nat} {w : World} (h : StAt w b s) (t : Nat) (ht : t < s.ts.length) (h4 : s.ts.length ≤ 4) (kd n : Int) (r x : Nat) (hr : r < 2) (hx : x < 4) (hl : s.v.length = 4) :
    Calls Try.prog 99 #[.pointer (some ⟨b, 0, none⟩), .int .i64 t, .agg #[.int .i64 kd, .int .i64 r, .int .i64 x, .int .i64 n]] w fun e w' => e = .returned (.tuple #[]) ∧ StAt w' b ({ s with v := s.v.set x ((s.th t).r.getD r 0) }) ∧ Only b w w' := by
  have hbl := h.lt
  have H := Lib.hid h
  have HB := Lib.hid (h.later (below_alloc1 w (.cells #[.int .i64 kd, .int .i64 r, .int .i64 x, .int .i64 n] 94)))
  have hfz := fun o => HB.out.frozen o
  have hff := fun o => h.frozen o
  clear h
  have c1 := H.out.num (150 + x) (by omega)
  have c0 := H.out.num (2 + t * 37 + (35 + r)) (by omega)
  rw [stNum_thr _ _ _ (by omega) (by omega), thr_reg, ← Nat.add_assoc] at c0
  generalize hg : (s.th t).r.getD r 0 = g at *
  clear hg
  go_enter Try.func99, Try.ntmps99
  go_wp2
  go_region
  go_wp2
  refine bodyPost_end (results_none rfl _ _ _) rfl ⟨rfl, ?_, ?_⟩
  · exact ((H.out.setVar x g hx hl).later (below_alloc1 _ _)).drew
  · exact (((Only.refl b w).setCell _ _).alloc _).drew

set_option maxRecDepth 100000 in
set_option maxHeartbeats 1000000 in
theorem set_any {s : St} {b : Nat} {w : World} (h : StAt w b s) (t : Nat) (ht : t < s.ts.length) (h4 : s.ts.length ≤ 4) (kd n : Int) (r x : Nat) (hr : r < 2) (hl : (s.th t).r.length = 2) :
    Calls Try.prog 100 #[.pointer (some ⟨b, 0, none⟩), .int .i64 t, .agg #[.int .i64 kd, .int .i64 r, .int .i64 x, .int .i64 n]] w fun e w' => e = .returned (.tuple #[]) ∧ StAt w' b (s.put t { s.th t with r := (s.th t).r.set r n }) ∧ Only b w w' := by
  have hbl := h.lt
  have H := Lib.hid h
  have HB := Lib.hid (h.later (below_alloc1 w (.cells #[.int .i64 kd, .int .i64 r, .int .i64 x, .int .i64 n] 94)))
  have hfz := fun o => HB.out.frozen o
  have hff := fun o => h.frozen o
  clear h
  have c0 := H.out.num (2 + t * 37 + (35 + r)) (by omega)
  rw [stNum_thr _ _ _ (by omega) (by omega), thr_reg, ← Nat.add_assoc] at c0
  go_enter Try.func100, Try.ntmps100
  go_wp2
  go_region
  go_wp2
  refine bodyPost_end (results_none rfl _ _ _) rfl ⟨rfl, ?_, ?_⟩
  · exact ((H.out.setReg t r n ht h4 hr hl).later (below_alloc1 _ _)).drew
  · exact (((Only.refl b w).setCell _ _).alloc _).drew

set_option maxRecDepth 100000 in
set_option maxHeartbeats 1000000 in
theorem add_any {s : St} {b : Nat} {w : World} (h : StAt w b s) (t : Nat) (ht : t < s.ts.length) (h4 : s.ts.length ≤ 4) (kd n : Int) (r x : Nat) (hr : r < 2) (hl : (s.th t).r.length = 2) :
    Calls Try.prog 101 #[.pointer (some ⟨b, 0, none⟩), .int .i64 t, .agg #[.int .i64 kd, .int .i64 r, .int .i64 x, .int .i64 n]] w fun e w' => e = .returned (.tuple #[]) ∧ StAt w' b (s.put t { s.th t with r := (s.th t).r.set r (IntKind.i64.wrap ((s.th t).r.getD r 0 + n)) }) ∧ Only b w w' := by
  have hbl := h.lt
  have H := Lib.hid h
  have HB := Lib.hid (h.later (below_alloc1 w (.cells #[.int .i64 kd, .int .i64 r, .int .i64 x, .int .i64 n] 94)))
  have hfz := fun o => HB.out.frozen o
  have hff := fun o => h.frozen o
  clear h
  have c0 := H.out.num (2 + t * 37 + (35 + r)) (by omega)
  rw [stNum_thr _ _ _ (by omega) (by omega), thr_reg, ← Nat.add_assoc] at c0
  generalize hg : (s.th t).r.getD r 0 = g at *
  clear hg
  go_enter Try.func101, Try.ntmps101
  go_wp2
  go_region
  go_wp2
  have e : wrap64 (g + n) = IntKind.i64.wrap (g + n) := by rw [IntKind.wrap_i64]; unfold wrap64; first | rfl | omega
  rw [e]
  refine bodyPost_end (results_none rfl _ _ _) rfl ⟨rfl, ?_, ?_⟩
  · exact ((H.out.setReg t r (IntKind.i64.wrap (g + n)) ht h4 hr hl).later (below_alloc1 _ _)).drew
  · exact (((Only.refl b w).setCell _ _).alloc _).drew

set_option maxRecDepth 100000 in
set_option maxHeartbeats 1000000 in
theorem lock_any {s : St} {b : Nat} {w : World} (h : StAt w b s) (t : Nat) (_ht : t < s.ts.length) (_h4 : s.ts.length ≤ 4) (kd n : Int) (r x : Nat) (hx : x < 2) (hl : s.m.length = 2) :
    Calls Try.prog 102 #[.pointer (some ⟨b, 0, none⟩), .int .i64 t, .agg #[.int .i64 kd, .int .i64 r, .int .i64 x, .int .i64 n]] w fun e w' => e = .returned (.tuple #[]) ∧ StAt w' b ({ s with m := s.m.set x t }) ∧ Only b w w' := by
  have hbl := h.lt
  have H := Lib.hid h
  have HB := Lib.hid (h.later (below_alloc1 w (.cells #[.int .i64 kd, .int .i64 r, .int .i64 x, .int .i64 n] 94)))
  have hfz := fun o => HB.out.frozen o
  have hff := fun o => h.frozen o
  clear h
  have c1 := H.out.num (154 + x) (by omega)
  go_enter Try.func102, Try.ntmps102
  go_wp2
  go_region
  go_wp2
  refine bodyPost_end (results_none rfl _ _ _) rfl ⟨rfl, ?_, ?_⟩
  · exact ((H.out.setWho x t hx hl).later (below_alloc1 _ _)).drew
  · exact (((Only.refl b w).setCell _ _).alloc _).drew

set_option maxRecDepth 100000 in
set_option maxHeartbeats 1000000 in
theorem unlock_any {s : St} {b : Nat} {w : World} (h : StAt w b s) (t : Nat) (_ht : t < s.ts.length) (_h4 : s.ts.length ≤ 4) (kd n : Int) (r x : Nat) (hx : x < 2) (hl : s.m.length = 2) :
    Calls Try.prog 103 #[.pointer (some ⟨b, 0, none⟩), .int .i64 t, .agg #[.int .i64 kd, .int .i64 r, .int .i64 x, .int .i64 n]] w fun e w' => e = .returned (.tuple #[]) ∧ StAt w' b (if s.who x = t then { s with m := s.m.set x (-1) } else s) ∧ Only b w w' := by
  have hbl := h.lt
  have H := Lib.hid h
  have HB := Lib.hid (h.later (below_alloc1 w (.cells #[.int .i64 kd, .int .i64 r, .int .i64 x, .int .i64 n] 94)))
  have hfz := fun o => HB.out.frozen o
  have hff := fun o => h.frozen o
  clear h
  have c1 := H.out.num (154 + x) (by omega)
  rw [stNum_who] at c1
  have hv : s.m.getD x (-1) = s.who x := rfl
  rw [hv] at c1
  clear hv
  by_cases hw : s.who x = t
  · rw [if_pos hw]
    rw [hw] at c1
    clear hw
    go_enter Try.func103, Try.ntmps103
    go_wp2
    go_quiet (fail)
    go_wp2
    go_region
    go_wp2
    refine bodyPost_end (results_none rfl _ _ _) rfl ⟨rfl, ?_, ?_⟩
    · exact StAt.setWho (w := ((w.alloc _).drewN _).drew) HB.out x (-1) hx hl
    · exact ((only_alloc b w _).drewN.drew).setCell _ _
  · rw [if_neg hw]
    have hq : (s.who x == (t : Int)) = false := by simpa using hw
    clear hw
    go_enter Try.func103, Try.ntmps103
    go_wp2
    go_quiet (fail)
    go_wp2
    refine bodyPost_end (results_none rfl _ _ _) rfl ⟨rfl, ?_, ?_⟩
    · exact HB.out
    · exact (only_alloc b w _).drewN

set_option maxRecDepth 100000 in
set_option maxHeartbeats 1000000 in
theorem jump_any {s : St} {b : Nat} {w : World} (h : StAt w b s) (t : Nat) (ht : t < s.ts.length) (h4 : s.ts.length ≤ 4) (kd n : Int) (r x : Nat) (hr : r < 2) :
    Calls Try.prog 104 #[.pointer (some ⟨b, 0, none⟩), .int .i64 t, .agg #[.int .i64 kd, .int .i64 r, .int .i64 x, .int .i64 n]] w fun e w' => e = .returned (.tuple #[]) ∧ StAt w' b (if (s.th t).r.getD r 0 = 0 then s else s.put t { s.th t with at_ := x }) ∧ Only b w w' := by
  have hbl := h.lt
  have H := Lib.hid h
  have HB := Lib.hid (h.later (below_alloc1 w (.cells #[.int .i64 kd, .int .i64 r, .int .i64 x, .int .i64 n] 94)))
  have hfz := fun o => HB.out.frozen o
  have hff := fun o => h.frozen o
  clear h
  have c0 := H.out.num (2 + t * 37 + (35 + r)) (by omega)
  rw [stNum_thr _ _ _ (by omega) (by omega), thr_reg, ← Nat.add_assoc] at c0
  have c1 := H.out.num (2 + t * 37 + 33) (by omega)
  by_cases hw : (s.th t).r.getD r 0 = 0
  · rw [if_pos hw]
    rw [hw] at c0
    clear hw
    go_enter Try.func104, Try.ntmps104
    go_wp2
    go_quiet (fail)
    go_wp2
    refine bodyPost_end (results_none rfl _ _ _) rfl ⟨rfl, ?_, ?_⟩
    · exact HB.out
    · exact (only_alloc b w _).drewN
  · rw [if_neg hw]
    have hq : ((s.th t).r.getD r 0 != 0) = true := by simpa using hw
    generalize (s.th t).r.getD r 0 = g at *
    clear hw
    go_enter Try.func104, Try.ntmps104
    go_wp2
    go_quiet (fail)
    go_wp2
    refine bodyPost_end (results_none rfl _ _ _) rfl ⟨rfl, ?_, ?_⟩
    · exact StAt.setAt (w := (w.alloc _).drewN _) HB.out t x ht h4
    · exact (only_alloc b w _).drewN.setCell _ _

set_option maxRecDepth 100000 in
set_option maxHeartbeats 1000000 in
theorem assert_any {s : St} {b : Nat} {w : World} (h : StAt w b s) (t : Nat) (_ht : t < s.ts.length) (_h4 : s.ts.length ≤ 4) (kd n : Int) (r x : Int) :
    Calls Try.prog 105 #[.pointer (some ⟨b, 0, none⟩), .int .i64 t, .agg #[.int .i64 kd, .int .i64 r, .int .i64 x, .int .i64 n]] w fun e w' => e = .returned (.tuple #[]) ∧ StAt w' b (s) ∧ Only b w w' := by
  have hbl := h.lt
  have H := Lib.hid h
  have HB := Lib.hid (h.later (below_alloc1 w (.cells #[.int .i64 kd, .int .i64 r, .int .i64 x, .int .i64 n] 94)))
  have hfz := fun o => HB.out.frozen o
  have hff := fun o => h.frozen o
  clear h
  go_enter Try.func105, Try.ntmps105
  go_wp2
  refine bodyPost_end (results_none rfl _ _ _) rfl ⟨rfl, ?_, ?_⟩
  · exact HB.out
  · exact only_alloc b w _

end Go.Proofs.Ytkphdmfcmfojeaa

/- The contract of do. -/
namespace Go.Proofs.Ytkphdmfcmfojeaa
open Go.RowKit

set_option maxRecDepth 100000 in
set_option maxHeartbeats 1000000 in
theorem deeds_any (w : World) : Calls Try.prog 97 #[] w fun r w' => r = .returned (.agg #[.nilFunc, .func (.func 98) #[] #[], .func (.func 99) #[] #[], .func (.func 100) #[] #[], .func (.func 101) #[] #[], .func (.func 102) #[] #[], .func (.func 103) #[] #[], .func (.func 104) #[] #[], .func (.func 105) #[] #[]]) ∧ Below w.heap.size w w' := by
  go_enter Try.func97, Try.ntmps97
  go_wp2
  refine bodyPost_ret (v := .agg #[.nilFunc, .func (.func 98) #[] #[], .func (.func 99) #[] #[], .func (.func 100) #[] #[], .func (.func 101) #[] #[], .func (.func 102) #[] #[], .func (.func 103) #[] #[], .func (.func 104) #[] #[], .func (.func 105) #[] #[]]) ?_ rfl ⟨rfl, below_alloc1 w _⟩
  simp [results, Try.results97, go_sem]

theorem Only.setNew {b g : Nat} {w w1 : World} (h : Only b w w1) (hg : w.heap.size ≤ g) (o : Nat) (v : Value) : Only b w (w1.setCell ⟨g, o, none⟩ v) :=
  ⟨h.os, h.tape, h.output, by simp [World.setCell]; exact h.size, fun k hk hb => (Below.heap_setCell _ _ _ _ (by show k ≠ g; omega)).trans (h.block k hk hb)⟩
theorem Only.set4 {b g : Nat} {w w1 : World} (h : Only b w w1) (hg : w.heap.size ≤ g) (v0 v1 v2 v3 : Value) : Only b w ((((w1.setCell ⟨g, 0, none⟩ v0).setCell ⟨g, 1, none⟩ v1).setCell ⟨g, 2, none⟩ v2).setCell ⟨g, 3, none⟩ v3) :=
  (((h.setNew hg 0 v0).setNew hg 1 v1).setNew hg 2 v2).setNew hg 3 v3
theorem StAt.other {b g : Nat} {w : World} {s : St} (h : StAt w b s) (hg : b ≠ g) (o : Nat) (v : Value) : StAt (w.setCell ⟨g, o, none⟩ v) b s := (Below.heap_setCell _ _ _ _ hg).trans h
theorem StAt.other4 {b g : Nat} {w : World} {s : St} (h : StAt w b s) (hg : b ≠ g) (v0 v1 v2 v3 : Value) : StAt ((((w.setCell ⟨g, 0, none⟩ v0).setCell ⟨g, 1, none⟩ v1).setCell ⟨g, 2, none⟩ v2).setCell ⟨g, 3, none⟩ v3) b s :=
  (((h.other hg 0 v0).other hg 1 v1).other hg 2 v2).other hg 3 v3

theorem St.put_th (s : St) (t : Nat) (y : Thr) (ht : t < s.ts.length) : (s.put t y).th t = y := by
  unfold St.put St.th
  simp only [Int.toNat_natCast]
  rw [getD_set _ _ _ _ _ ht, if_pos rfl]
theorem St.put_put (s : St) (t : Nat) (y z : Thr) : (s.put t y).put t z = s.put t z := by
  simp [St.put]
theorem St.put_len (s : St) (t : Nat) (y : Thr) : (s.put t y).ts.length = s.ts.length := by
  simp [St.put]

/-- The thread behind fuel and place. -/
def St.go (s : St) (t : Nat) : St := s.put t { s.th t with fuel := (s.th t).fuel - 1, at_ := (s.th t).at_ + 1 }
theorem St.go_th (s : St) (t : Nat) (ht : t < s.ts.length) : (s.go t).th t = { s.th t with fuel := (s.th t).fuel - 1, at_ := (s.th t).at_ + 1 } := St.put_th _ _ _ ht
theorem StAt.go {w : World} {b : Nat} {s : St} (h : StAt w b s) (t f a : Nat) (ht : t < s.ts.length) (h4 : s.ts.length ≤ 4) (hf : (s.th t).fuel = f + 1) (ha : (s.th t).at_ = a) :
    StAt ((w.setCell ⟨b, 2 + t * 37 + 34, none⟩ (.int .i64 f)).setCell ⟨b, 2 + t * 37 + 33, none⟩ (.int .i64 ((a + 1 : Nat) : Int))) b (s.go t) := by
  have h1 := h.setFuel t f ht h4
  have h2 := h1.setAt t (a + 1) (by rw [St.put_len]; exact ht) (by rw [St.put_len]; exact h4)
  rw [St.put_th _ _ _ ht, St.put_put] at h2
  unfold St.go
  rw [hf, ha]
  exact h2

theorem thr_go (s : St) (t : Nat) (i : Ins) (_ht : t < s.ts.length) : s.do_ t i = { s.put t (s.thr t i) with
    v := if i.kind = 2 then s.v.set i.x.toNat (s.reg t i) else s.v
    m := if i.kind = 5 then s.m.set i.x.toNat t else if i.kind = 6 ∧ s.who i.x = t then s.m.set i.x.toNat (-1) else s.m } := rfl

theorem go_load (s : St) (t r x : Nat) (n : Int) (ht : t < s.ts.length) : (s.go t).put t { (s.go t).th t with r := ((s.go t).th t).r.set r ((s.go t).v.getD x 0) } = s.do_ t ⟨1, r, x, n⟩ := by
  rw [St.go_th s t ht]; unfold St.go; rw [St.put_put, thr_go s t _ ht]; rfl
theorem go_store (s : St) (t r x : Nat) (n : Int) (ht : t < s.ts.length) : { s.go t with v := (s.go t).v.set x (((s.go t).th t).r.getD r 0) } = s.do_ t ⟨2, r, x, n⟩ := by
  rw [St.go_th s t ht, thr_go s t _ ht]; rfl
theorem go_set (s : St) (t r x : Nat) (n : Int) (ht : t < s.ts.length) : (s.go t).put t { (s.go t).th t with r := ((s.go t).th t).r.set r n } = s.do_ t ⟨3, r, x, n⟩ := by
  rw [St.go_th s t ht]; unfold St.go; rw [St.put_put, thr_go s t _ ht]; rfl
theorem go_add (s : St) (t r x : Nat) (n : Int) (ht : t < s.ts.length) : (s.go t).put t { (s.go t).th t with r := ((s.go t).th t).r.set r (IntKind.i64.wrap (((s.go t).th t).r.getD r 0 + n)) } = s.do_ t ⟨4, r, x, n⟩ := by
  rw [St.go_th s t ht]; unfold St.go; rw [St.put_put, thr_go s t _ ht]; rfl
theorem go_lock (s : St) (t r x : Nat) (n : Int) (ht : t < s.ts.length) : { s.go t with m := (s.go t).m.set x t } = s.do_ t ⟨5, r, x, n⟩ := by
  rw [thr_go s t _ ht]; rfl
theorem go_unlock (s : St) (t r x : Nat) (n : Int) (ht : t < s.ts.length) : (if (s.go t).who x = t then { s.go t with m := (s.go t).m.set x (-1) } else s.go t) = s.do_ t ⟨6, r, x, n⟩ := by
  have e : (s.go t).who x = s.who x := rfl
  rw [thr_go s t _ ht, e]
  dsimp only
  by_cases h : s.who x = t
  · rw [if_pos h]; simp only [h, and_self, if_true, Int.toNat_natCast]; rfl
  · rw [if_neg h]; simp only [h, and_false, if_false]; rfl
theorem go_jump (s : St) (t r x : Nat) (n : Int) (ht : t < s.ts.length) : (if ((s.go t).th t).r.getD r 0 = 0 then s.go t else (s.go t).put t { (s.go t).th t with at_ := x }) = s.do_ t ⟨7, r, x, n⟩ := by
  rw [St.go_th s t ht, thr_go s t _ ht]
  unfold St.go
  rw [St.put_put]
  by_cases h : (s.th t).r.getD r 0 = 0
  · have h' : s.reg t ⟨7, r, x, n⟩ = 0 := h
    dsimp only
    rw [if_pos h]
    unfold St.thr
    simp only [h', ne_eq, not_true, and_false, if_false]
    rfl
  · have h' : ¬ s.reg t ⟨7, r, x, n⟩ = 0 := h
    dsimp only
    rw [if_neg h]
    unfold St.thr
    simp only [h', ne_eq, not_false_eq_true, and_self, if_true, Int.toNat_natCast]
    rfl
theorem go_assert (s : St) (t r x : Nat) (n : Int) (ht : t < s.ts.length) : s.go t = s.do_ t ⟨8, r, x, n⟩ := by
  rw [thr_go s t _ ht]; rfl

end Go.Proofs.Ytkphdmfcmfojeaa

/- The contract of do. -/
namespace Go.Proofs.Ytkphdmfcmfojeaa
open Go.RowKit

set_option maxRecDepth 100000 in
set_option maxHeartbeats 4000000 in
theorem do_any {F : Nat} {s : St} {b : Nat} {w : World} (h : StAt w b s) (ok : s.Ok F) (t : Nat) (i : Ins) (hi : s.ins t = some i) :
    Calls Try.prog 94 #[.pointer (some ⟨b, 0, none⟩), .int .i64 t, .agg #[.int .i64 i.kind, .int .i64 i.r, .int .i64 i.x, .int .i64 i.n]] w fun e w' => e = .returned (.tuple #[]) ∧ StAt w' b (s.do_ t i) ∧ Only b w w' := by
  obtain ⟨o1, o2, o3, o4, o5, o6⟩ := ok.obj hi
  obtain ⟨_, hf, _⟩ := St.ins_has hi
  have hk : i.kind = 1 ∨ i.kind = 2 ∨ i.kind = 3 ∨ i.kind = 4 ∨ i.kind = 5 ∨ i.kind = 6 ∨ i.kind = 7 ∨ i.kind = 8 := by
    have := (ok.ins_right hi).1
    unfold rightIns at this
    repeat' split at this
    all_goals first | omega | (cases this)
  have hx0 : 0 ≤ i.x := by
    have := (ok.ins_right hi).1
    unfold rightIns at this
    repeat' split at this
    all_goals first | (simp only [decide_eq_true_eq] at this; omega) | (cases this)
  obtain ⟨k, hkk, ht⟩ := St.ins_nat hi
  obtain rfl : t = k := by omega
  have h4 := ok.len4
  have hbl := h.lt
  have hrl : (s.th t).r.length = 2 := (ok.thr _ (St.th_mem ht)).1
  have hvl := ok.vl
  have hml := ok.ml
  obtain ⟨kd, r, x, n⟩ := i
  dsimp only at *
  obtain ⟨r, rfl⟩ : ∃ y : Nat, r = y := ⟨r.toNat, by omega⟩
  obtain ⟨x, rfl⟩ : ∃ y : Nat, x = y := ⟨x.toNat, by omega⟩
  obtain ⟨f, hf⟩ : ∃ f, (s.th t).fuel = f + 1 := ⟨(s.th t).fuel - 1, by simp at hf; omega⟩
  have c0 := h.num (2 + t * 37 + 34) (by omega)
  rw [stNum_thr _ _ _ (by omega) (by omega), thr_fuel, hf, Int.natCast_add] at c0
  have c1 := h.num (2 + t * 37 + 33) (by omega)
  rw [stNum_thr _ _ _ (by omega) (by omega), thr_at] at c1
  have hf8 : f ≤ 1000 := by have := (ok.thr _ (St.th_mem ht)).2.2; have := ok.f8; omega
  have ha8 : (s.th t).at_ ≤ 8 := by have := ok.place t ht; have := ok.code8 t ht; omega
  have HG := Lib.hid (h.go t f (s.th t).at_ ht h4 hf rfl)
  have hff := fun o => h.frozen o
  generalize (s.th t).at_ = a at *
  have H := Lib.hid h
  have OK := Lib.hid ok
  have HK := Lib.hid hk
  have HT := Lib.hid (And.intro hrl (And.intro hvl (And.intro hml (And.intro o1 (And.intro o2 o3)))))
  clear h ok hk hf hi hkk hrl hvl hml o1 o2 o3 o6
  go_enter Try.func94, Try.ntmps94
  go_wp2
  have HW : Hid (StAt (((w.setCell ⟨b, 2 + t * 37 + 34, none⟩ (.int .i64 f)).setCell ⟨b, 2 + t * 37 + 33, none⟩ (.int .i64 (a + 1))).alloc (.cells #[.int .i64 kd, .int .i64 r, .int .i64 x, .int .i64 n] 94)) b (s.go t)) := HG.out.later (below_alloc1 _ _)
  have HO : Hid (Only b w (((w.setCell ⟨b, 2 + t * 37 + 34, none⟩ (.int .i64 f)).setCell ⟨b, 2 + t * 37 + 33, none⟩ (.int .i64 (a + 1))).alloc (.cells #[.int .i64 kd, .int .i64 r, .int .i64 x, .int .i64 n] 94))) := (((Only.refl b w).setCell _ _).setCell _ _).alloc _
  have HZ : Hid (w.heap.size < (((w.setCell ⟨b, 2 + t * 37 + 34, none⟩ (.int .i64 f)).setCell ⟨b, 2 + t * 37 + 33, none⟩ (.int .i64 (a + 1))).alloc (.cells #[.int .i64 kd, .int .i64 r, .int .i64 x, .int .i64 n] 94)).heap.size) := by show _ < _; simp [World.setCell]
  have HC : Hid ((((w.setCell ⟨b, 2 + t * 37 + 34, none⟩ (.int .i64 f)).setCell ⟨b, 2 + t * 37 + 33, none⟩ (.int .i64 (a + 1))).alloc (.cells #[.int .i64 kd, .int .i64 r, .int .i64 x, .int .i64 n] 94)).heap[w.heap.size]? = some (.cells #[.int .i64 kd, .int .i64 r, .int .i64 x, .int .i64 n] 94 (0, 0))) := by
    show _ = _
    have := heap_alloc_new ((w.setCell ⟨b, 2 + t * 37 + 34, none⟩ (.int .i64 f)).setCell ⟨b, 2 + t * 37 + 33, none⟩ (.int .i64 (a + 1))) (.cells #[.int .i64 kd, .int .i64 r, .int .i64 x, .int .i64 n] 94)
    simpa [World.setCell] using this
  clear c0 c1 hff HG H
  generalize ((w.setCell ⟨b, 2 + t * 37 + 34, none⟩ (.int .i64 f)).setCell ⟨b, 2 + t * 37 + 33, none⟩ (.int .i64 (a + 1))).alloc (.cells #[.int .i64 kd, .int .i64 r, .int .i64 x, .int .i64 n] 94) = W at *
  generalize w.heap.size = gw at *
  have hz := HZ.out
  have HQ : Hid (∀ w', Below W.heap.size W w' → w'.cell? ⟨gw, 0, none⟩ = some (.int .i64 kd) ∧ Below W.heap.size W w') := fun w' h => ⟨by rw [h.cell (p := ⟨gw, 0, none⟩) hz]; simp [World.cell?, HC.out], h⟩
  have HQ2 : Hid (∀ w', Below W.heap.size W w' → w'.cell? ⟨gw, 0, none⟩ = some (.int .i64 kd) ∧ w'.cell? ⟨gw, 1, none⟩ = some (.int .i64 r) ∧ w'.cell? ⟨gw, 2, none⟩ = some (.int .i64 x) ∧ w'.cell? ⟨gw, 3, none⟩ = some (.int .i64 n)) := fun w' h => by
    refine ⟨?_, ?_, ?_, ?_⟩
    · rw [h.cell (p := ⟨gw, 0, none⟩) hz]; simp [World.cell?, HC.out]
    · rw [h.cell (p := ⟨gw, 1, none⟩) hz]; simp [World.cell?, HC.out]
    · rw [h.cell (p := ⟨gw, 2, none⟩) hz]; simp [World.cell?, HC.out]
    · rw [h.cell (p := ⟨gw, 3, none⟩) hz]; simp [World.cell?, HC.out]
  have hB9 : Below W.heap.size W W.drew := (Below.refl _ _).drew
  clear HZ HC
  rcases HK.out with rfl | rfl | rfl | rfl | rfl | rfl | rfl | rfl
  · have hix : ∀ w', (Instr.index 179 (.agg #[.nilFunc, .func (.func 98) #[] #[], .func (.func 99) #[] #[], .func (.func 100) #[] #[], .func (.func 101) #[] #[], .func (.func 102) #[] #[], .func (.func 103) #[] #[], .func (.func 104) #[] #[], .func (.func 105) #[] #[]]) (.int .i64 1)).run Try.prog w' = .ok (.func (.func 98) #[] #[]) w' := fun w' => run_index_one w' 1 Try.underlying179 Try.underlying178 rfl (by kernel_rfl) (by omega) rfl
    go_region_held3 (fun w' => w'.cell? ⟨gw, 0, none⟩ = some (.int .i64 1) ∧ Below W.heap.size W w') (first | exact HQ.out _ hB9 | exact HQ.out _ hB10)
      (first | (go_at_call 97; refine (deeds_any _).mono ?_; rintro r1 w10 ⟨rfl, hb10⟩; have hB10 := hB9.trans (hb10.mono hB9.size)))
    obtain ⟨q0, q1, q2, q3⟩ := HQ2.out _ hB10
    go_wp2_with fail
    obtain ⟨hrl, hvl, hml, o1, o2, o3⟩ := HT.out
    refine (load_any (HW.out.later hB10) t (by rw [St.go, St.put_len]; exact ht) (by rw [St.go, St.put_len]; exact h4) _ _ r x (by omega) (by have := o1 (by simp); omega) (by rw [St.go_th _ _ ht]; exact hrl)).mono ?_
    rintro r1 w11 ⟨rfl, hs, ho⟩
    clear hrl hvl hml o1 o2 o3
    rw [go_load s t r x n ht] at hs
    go_wp2
    exact bodyPost_end (results_none rfl _ _ _) rfl ⟨rfl, hs, (HO.out.trans (.of_below hB10)).trans ho⟩
  · have hix : ∀ w', (Instr.index 179 (.agg #[.nilFunc, .func (.func 98) #[] #[], .func (.func 99) #[] #[], .func (.func 100) #[] #[], .func (.func 101) #[] #[], .func (.func 102) #[] #[], .func (.func 103) #[] #[], .func (.func 104) #[] #[], .func (.func 105) #[] #[]]) (.int .i64 2)).run Try.prog w' = .ok (.func (.func 99) #[] #[]) w' := fun w' => run_index_one w' 2 Try.underlying179 Try.underlying178 rfl (by kernel_rfl) (by omega) rfl
    go_region_held3 (fun w' => w'.cell? ⟨gw, 0, none⟩ = some (.int .i64 2) ∧ Below W.heap.size W w') (first | exact HQ.out _ hB9 | exact HQ.out _ hB10)
      (first | (go_at_call 97; refine (deeds_any _).mono ?_; rintro r1 w10 ⟨rfl, hb10⟩; have hB10 := hB9.trans (hb10.mono hB9.size)))
    obtain ⟨q0, q1, q2, q3⟩ := HQ2.out _ hB10
    go_wp2_with fail
    obtain ⟨hrl, hvl, hml, o1, o2, o3⟩ := HT.out
    refine (store_any (HW.out.later hB10) t (by rw [St.go, St.put_len]; exact ht) (by rw [St.go, St.put_len]; exact h4) _ _ r x (by omega) (by have := o1 (by simp); omega) hvl).mono ?_
    rintro r1 w11 ⟨rfl, hs, ho⟩
    clear hrl hvl hml o1 o2 o3
    rw [go_store s t r x n ht] at hs
    go_wp2
    exact bodyPost_end (results_none rfl _ _ _) rfl ⟨rfl, hs, (HO.out.trans (.of_below hB10)).trans ho⟩
  · have hix : ∀ w', (Instr.index 179 (.agg #[.nilFunc, .func (.func 98) #[] #[], .func (.func 99) #[] #[], .func (.func 100) #[] #[], .func (.func 101) #[] #[], .func (.func 102) #[] #[], .func (.func 103) #[] #[], .func (.func 104) #[] #[], .func (.func 105) #[] #[]]) (.int .i64 3)).run Try.prog w' = .ok (.func (.func 100) #[] #[]) w' := fun w' => run_index_one w' 3 Try.underlying179 Try.underlying178 rfl (by kernel_rfl) (by omega) rfl
    go_region_held3 (fun w' => w'.cell? ⟨gw, 0, none⟩ = some (.int .i64 3) ∧ Below W.heap.size W w') (first | exact HQ.out _ hB9 | exact HQ.out _ hB10)
      (first | (go_at_call 97; refine (deeds_any _).mono ?_; rintro r1 w10 ⟨rfl, hb10⟩; have hB10 := hB9.trans (hb10.mono hB9.size)))
    obtain ⟨q0, q1, q2, q3⟩ := HQ2.out _ hB10
    go_wp2_with fail
    obtain ⟨hrl, hvl, hml, o1, o2, o3⟩ := HT.out
    refine (set_any (HW.out.later hB10) t (by rw [St.go, St.put_len]; exact ht) (by rw [St.go, St.put_len]; exact h4) _ _ r x (by omega) (by rw [St.go_th _ _ ht]; exact hrl)).mono ?_
    rintro r1 w11 ⟨rfl, hs, ho⟩
    clear hrl hvl hml o1 o2 o3
    rw [go_set s t r x n ht] at hs
    go_wp2
    exact bodyPost_end (results_none rfl _ _ _) rfl ⟨rfl, hs, (HO.out.trans (.of_below hB10)).trans ho⟩
  · have hix : ∀ w', (Instr.index 179 (.agg #[.nilFunc, .func (.func 98) #[] #[], .func (.func 99) #[] #[], .func (.func 100) #[] #[], .func (.func 101) #[] #[], .func (.func 102) #[] #[], .func (.func 103) #[] #[], .func (.func 104) #[] #[], .func (.func 105) #[] #[]]) (.int .i64 4)).run Try.prog w' = .ok (.func (.func 101) #[] #[]) w' := fun w' => run_index_one w' 4 Try.underlying179 Try.underlying178 rfl (by kernel_rfl) (by omega) rfl
    go_region_held3 (fun w' => w'.cell? ⟨gw, 0, none⟩ = some (.int .i64 4) ∧ Below W.heap.size W w') (first | exact HQ.out _ hB9 | exact HQ.out _ hB10)
      (first | (go_at_call 97; refine (deeds_any _).mono ?_; rintro r1 w10 ⟨rfl, hb10⟩; have hB10 := hB9.trans (hb10.mono hB9.size)))
    obtain ⟨q0, q1, q2, q3⟩ := HQ2.out _ hB10
    go_wp2_with fail
    obtain ⟨hrl, hvl, hml, o1, o2, o3⟩ := HT.out
    refine (add_any (HW.out.later hB10) t (by rw [St.go, St.put_len]; exact ht) (by rw [St.go, St.put_len]; exact h4) _ _ r x (by omega) (by rw [St.go_th _ _ ht]; exact hrl)).mono ?_
    rintro r1 w11 ⟨rfl, hs, ho⟩
    clear hrl hvl hml o1 o2 o3
    rw [go_add s t r x n ht] at hs
    go_wp2
    exact bodyPost_end (results_none rfl _ _ _) rfl ⟨rfl, hs, (HO.out.trans (.of_below hB10)).trans ho⟩
  · have hix : ∀ w', (Instr.index 179 (.agg #[.nilFunc, .func (.func 98) #[] #[], .func (.func 99) #[] #[], .func (.func 100) #[] #[], .func (.func 101) #[] #[], .func (.func 102) #[] #[], .func (.func 103) #[] #[], .func (.func 104) #[] #[], .func (.func 105) #[] #[]]) (.int .i64 5)).run Try.prog w' = .ok (.func (.func 102) #[] #[]) w' := fun w' => run_index_one w' 5 Try.underlying179 Try.underlying178 rfl (by kernel_rfl) (by omega) rfl
    go_region_held3 (fun w' => w'.cell? ⟨gw, 0, none⟩ = some (.int .i64 5) ∧ Below W.heap.size W w') (first | exact HQ.out _ hB9 | exact HQ.out _ hB10)
      (first | (go_at_call 97; refine (deeds_any _).mono ?_; rintro r1 w10 ⟨rfl, hb10⟩; have hB10 := hB9.trans (hb10.mono hB9.size)))
    obtain ⟨q0, q1, q2, q3⟩ := HQ2.out _ hB10
    go_wp2_with fail
    obtain ⟨hrl, hvl, hml, o1, o2, o3⟩ := HT.out
    refine (lock_any (HW.out.later hB10) t (by rw [St.go, St.put_len]; exact ht) (by rw [St.go, St.put_len]; exact h4) _ _ r x (by have := o2 (by simp); omega) hml).mono ?_
    rintro r1 w11 ⟨rfl, hs, ho⟩
    clear hrl hvl hml o1 o2 o3
    rw [go_lock s t r x n ht] at hs
    go_wp2
    exact bodyPost_end (results_none rfl _ _ _) rfl ⟨rfl, hs, (HO.out.trans (.of_below hB10)).trans ho⟩
  · have hix : ∀ w', (Instr.index 179 (.agg #[.nilFunc, .func (.func 98) #[] #[], .func (.func 99) #[] #[], .func (.func 100) #[] #[], .func (.func 101) #[] #[], .func (.func 102) #[] #[], .func (.func 103) #[] #[], .func (.func 104) #[] #[], .func (.func 105) #[] #[]]) (.int .i64 6)).run Try.prog w' = .ok (.func (.func 103) #[] #[]) w' := fun w' => run_index_one w' 6 Try.underlying179 Try.underlying178 rfl (by kernel_rfl) (by omega) rfl
    go_region_held3 (fun w' => w'.cell? ⟨gw, 0, none⟩ = some (.int .i64 6) ∧ Below W.heap.size W w') (first | exact HQ.out _ hB9 | exact HQ.out _ hB10)
      (first | (go_at_call 97; refine (deeds_any _).mono ?_; rintro r1 w10 ⟨rfl, hb10⟩; have hB10 := hB9.trans (hb10.mono hB9.size)))
    obtain ⟨q0, q1, q2, q3⟩ := HQ2.out _ hB10
    go_wp2_with fail
    obtain ⟨hrl, hvl, hml, o1, o2, o3⟩ := HT.out
    refine (unlock_any (HW.out.later hB10) t (by rw [St.go, St.put_len]; exact ht) (by rw [St.go, St.put_len]; exact h4) _ _ r x (by have := o2 (by simp); omega) hml).mono ?_
    rintro r1 w11 ⟨rfl, hs, ho⟩
    clear hrl hvl hml o1 o2 o3
    rw [go_unlock s t r x n ht] at hs
    go_wp2
    exact bodyPost_end (results_none rfl _ _ _) rfl ⟨rfl, hs, (HO.out.trans (.of_below hB10)).trans ho⟩
  · have hix : ∀ w', (Instr.index 179 (.agg #[.nilFunc, .func (.func 98) #[] #[], .func (.func 99) #[] #[], .func (.func 100) #[] #[], .func (.func 101) #[] #[], .func (.func 102) #[] #[], .func (.func 103) #[] #[], .func (.func 104) #[] #[], .func (.func 105) #[] #[]]) (.int .i64 7)).run Try.prog w' = .ok (.func (.func 104) #[] #[]) w' := fun w' => run_index_one w' 7 Try.underlying179 Try.underlying178 rfl (by kernel_rfl) (by omega) rfl
    go_region_held3 (fun w' => w'.cell? ⟨gw, 0, none⟩ = some (.int .i64 7) ∧ Below W.heap.size W w') (first | exact HQ.out _ hB9 | exact HQ.out _ hB10)
      (first | (go_at_call 97; refine (deeds_any _).mono ?_; rintro r1 w10 ⟨rfl, hb10⟩; have hB10 := hB9.trans (hb10.mono hB9.size)))
    obtain ⟨q0, q1, q2, q3⟩ := HQ2.out _ hB10
    go_wp2_with fail
    obtain ⟨hrl, hvl, hml, o1, o2, o3⟩ := HT.out
    refine (jump_any (HW.out.later hB10) t (by rw [St.go, St.put_len]; exact ht) (by rw [St.go, St.put_len]; exact h4) _ _ r x (by omega)).mono ?_
    rintro r1 w11 ⟨rfl, hs, ho⟩
    clear hrl hvl hml o1 o2 o3
    rw [go_jump s t r x n ht] at hs
    go_wp2
    exact bodyPost_end (results_none rfl _ _ _) rfl ⟨rfl, hs, (HO.out.trans (.of_below hB10)).trans ho⟩
  · have hix : ∀ w', (Instr.index 179 (.agg #[.nilFunc, .func (.func 98) #[] #[], .func (.func 99) #[] #[], .func (.func 100) #[] #[], .func (.func 101) #[] #[], .func (.func 102) #[] #[], .func (.func 103) #[] #[], .func (.func 104) #[] #[], .func (.func 105) #[] #[]]) (.int .i64 8)).run Try.prog w' = .ok (.func (.func 105) #[] #[]) w' := fun w' => run_index_one w' 8 Try.underlying179 Try.underlying178 rfl (by kernel_rfl) (by omega) rfl
    go_region_held3 (fun w' => w'.cell? ⟨gw, 0, none⟩ = some (.int .i64 8) ∧ Below W.heap.size W w') (first | exact HQ.out _ hB9 | exact HQ.out _ hB10)
      (first | (go_at_call 97; refine (deeds_any _).mono ?_; rintro r1 w10 ⟨rfl, hb10⟩; have hB10 := hB9.trans (hb10.mono hB9.size)))
    obtain ⟨q0, q1, q2, q3⟩ := HQ2.out _ hB10
    go_wp2_with fail
    obtain ⟨hrl, hvl, hml, o1, o2, o3⟩ := HT.out
    refine (assert_any (HW.out.later hB10) t (by rw [St.go, St.put_len]; exact ht) (by rw [St.go, St.put_len]; exact h4) _ _ r x).mono ?_
    rintro r1 w11 ⟨rfl, hs, ho⟩
    clear hrl hvl hml o1 o2 o3
    rw [go_assert s t r x n ht] at hs
    go_wp2
    exact bodyPost_end (results_none rfl _ _ _) rfl ⟨rfl, hs, (HO.out.trans (.of_below hB10)).trans ho⟩

end Go.Proofs.Ytkphdmfcmfojeaa
