/-
  Plain data: rows of steps; steps of threads that are never dependent, in any order of threads, have the same events each. Nothing of the translation.
-/
import Derived.Test.YtfhndbibabbnlaaSwapPlain
namespace Go.Proofs.Ytfhndbibabbnlaa

theorem St.ev_thread (s : St) (t : Int) (i : Ins) : (s.ev t i).thread = t := by
  unfold St.ev
  repeat' split
  all_goals rfl

theorem St.step_ok0 {s : St} {t : Int} {e : Ev} {s1 : St} (h : s.step t = (0, e, s1)) : ∃ i, s.ins t = some i ∧ s.may t = true ∧ e = s.ev t i ∧ s1 = s.do_ t i := by
  rcases s.step_cases t with ⟨i, hi, hm, e1⟩ | ⟨c, hc, e1⟩
  · rw [e1] at h
    injection h with _ h
    injection h with h1 h2
    exact ⟨i, hi, hm, h1.symm, h2.symm⟩
  · rw [e1] at h
    injection h with h _
    omega

/-- Two steps of independent events, the other way round. -/
theorem St.Ok.swap_back {F : Nat} {s : St} (h : s.Ok F) {u t : Int} {e x : Ev} {s1 s2 : St} (h1 : s.step u = (0, e, s1)) (h2 : s1.step t = (0, x, s2)) (hut : u ≠ t) (hd : dep e x = false) :
    ∃ d, s.step t = (0, x, d) ∧ d.step u = (0, e, s2) ∧ d.Ok F := by
  obtain ⟨i, hi, hm, rfl, rfl⟩ := St.step_ok0 h1
  obtain ⟨j, hj, hmj, rfl, rfl⟩ := St.step_ok0 h2
  have hnx := h.next_do hi hm (Ne.symm hut)
  obtain ⟨hhas, _, _⟩ := St.ins_has hj
  have hl : (s.do_ u i).ts.length = s.ts.length := by simp [St.do_]
  have hhas' : s.has t := by unfold St.has at hhas ⊢; rw [hl] at hhas; exact hhas
  have hj' : s.ins t = some j := by rw [← St.ins_do hi hhas' hut]; exact hj
  have hev : (s.do_ u i).ev t j = s.ev t j := h.ev_do hi hj' hm hut
  rw [hev] at hd ⊢
  have hmt : s.may t = true := by
    unfold St.may
    rw [hj']
    simp only [decide_eq_true_eq]
    intro h5
    have hf := St.may_free hj hmj h5
    rw [h.who_do hi] at hf
    split at hf
    · rename_i hx
      have := dep_muts hd (.inl hx.1) (.inl h5)
      have := (h.obj hi).2.1 (.inl hx.1)
      have := (h.obj hj').2.1 (.inl h5)
      omega
    split at hf
    · rename_i hx
      have := dep_muts hd (.inr ⟨hx.1, hx.2.1⟩) (.inl h5)
      have := (h.obj hi).2.1 (.inr hx.1)
      have := (h.obj hj').2.1 (.inl h5)
      omega
    · exact hf
  have hx : s.next u = some (s.ev u i) := by unfold St.next; rw [hi]; rfl
  have hy : s.next t = some (s.ev t j) := by unfold St.next; rw [hj']; rfl
  obtain ⟨c, d, z, s1', s2', s3', s4', _, okd, _⟩ := h.swap hx hy hm hmt hut hd
  refine ⟨d, s3', ?_, okd⟩
  rw [h1] at s1'
  injection s1' with _ q
  injection q with _ q
  subst q
  rw [h2] at s2'
  injection s2' with _ q
  injection q with _ q
  rw [s4', q]

/-- Steps that are done, one behind the other. -/
def Runs : St → List Int → List Ev → St → Prop
  | s, [], l, z => l = [] ∧ z = s
  | s, t :: row, l, z => ∃ e s1 l', s.step t = (0, e, s1) ∧ Runs s1 row l' z ∧ l = e :: l'

theorem Runs.ok {F : Nat} {row : List Int} : ∀ {s : St} {l : List Ev} {z : St}, Runs s row l z → s.Ok F → z.Ok F := by
  induction row with
  | nil => intro s l z h ok; rw [h.2]; exact ok
  | cons t row ih =>
    intro s l z h ok
    obtain ⟨e, s1, l', h1, h2, rfl⟩ := h
    have := ok.step_ok t
    rw [h1] at this
    exact ih h2 this

theorem runs_append {a b : List Int} : ∀ {s : St} {l : List Ev} {z : St}, Runs s (a ++ b) l z ↔ ∃ la lb s1, Runs s a la s1 ∧ Runs s1 b lb z ∧ l = la ++ lb := by
  induction a with
  | nil =>
    intro s l z
    constructor
    · intro h; exact ⟨[], l, s, ⟨rfl, rfl⟩, h, rfl⟩
    · rintro ⟨la, lb, s1, ⟨rfl, rfl⟩, h, rfl⟩; exact h
  | cons t a ih =>
    intro s l z
    constructor
    · rintro ⟨e, s1, l', h1, h2, rfl⟩
      obtain ⟨la, lb, s2, h3, h4, rfl⟩ := ih.1 h2
      exact ⟨e :: la, lb, s2, ⟨e, s1, la, h1, h3, rfl⟩, h4, rfl⟩
    · rintro ⟨la, lb, s2, ⟨e, s1, la', h1, h3, rfl⟩, h4, rfl⟩
      exact ⟨e, s1, la' ++ lb, h1, ih.2 ⟨la', lb, s2, h3, h4, rfl⟩, rfl⟩

theorem Runs.has {row : List Int} : ∀ {s : St} {l : List Ev} {z : St}, Runs s row l z → ∀ t ∈ row, s.has t := by
  induction row with
  | nil => intro s l z _ t ht; cases ht
  | cons u row ih =>
    intro s l z h t ht
    obtain ⟨e, s1, l', h1, h2, rfl⟩ := h
    obtain ⟨i, hi, _, _, rfl⟩ := St.step_ok0 h1
    rcases List.mem_cons.1 ht with rfl | ht
    · exact (St.ins_has hi).1
    · have := ih h2 t ht
      unfold St.has at this ⊢
      simpa [St.do_] using this

theorem Runs.threads {row : List Int} : ∀ {s : St} {l : List Ev} {z : St}, Runs s row l z → l.map Ev.thread = row := by
  induction row with
  | nil => intro s l z h; rw [h.1]; rfl
  | cons u row ih =>
    intro s l z h
    obtain ⟨e, s1, l', h1, h2, rfl⟩ := h
    obtain ⟨i, _, _, rfl, rfl⟩ := St.step_ok0 h1
    simp [ih h2, St.ev_thread]

/-- Events of unlike threads don't depend on one another. -/
def Indep (l : List Ev) : Prop := l.Pairwise fun a b => a.thread ≠ b.thread → dep a b = false

/-- A step behind steps of another thread. -/
theorem runs_move {F : Nat} {t u : Int} (htu : u ≠ t) {rest : List Int} {e : Ev} {rs : List Ev} (ts : List Int) : ∀ {s : St} {es : List Ev} {z : St}, s.Ok F → (∀ x ∈ ts, x = t) → es.length = ts.length → (∀ x ∈ es, dep e x = false) →
    Runs s (u :: (ts ++ rest)) (e :: (es ++ rs)) z → Runs s (ts ++ u :: rest) (es ++ e :: rs) z := by
  induction ts with
  | nil =>
    intro s es z ok _ hl _ h
    have : es = [] := List.eq_nil_of_length_eq_zero hl
    subst this
    exact h
  | cons t' ts ih =>
    intro s es z ok ht hl hd h
    obtain rfl : t' = t := ht t' (by simp)
    match es, hl with
    | x :: es, hl =>
      obtain ⟨e', s1, l', h1, ⟨x', s2, l2, h2, h3, q2⟩, q1⟩ := h
      injection q1 with q1 q1'
      subst q1 q1'
      injection q2 with q2 q2'
      subst q2 q2'
      obtain ⟨d, hd1, hd2, okd⟩ := ok.swap_back h1 h2 htu (hd _ (by simp))
      refine ⟨x, d, es ++ e :: rs, hd1, ih okd (fun y hy => ht y (by simp [hy])) (by simpa using hl) (fun y hy => hd y (by simp [hy])) ?_, rfl⟩
      exact ⟨e, s2, es ++ rs, hd2, h3, rfl⟩

/-- The steps of one thread first. -/
theorem runs_part {F : Nat} (t : Int) {row : List Int} : ∀ {s : St} {l : List Ev} {z : St}, s.Ok F → Indep l → Runs s row l z →
    Runs s (row.filter (fun x => decide (x = t)) ++ row.filter (fun x => !decide (x = t))) (l.filter (fun e => decide (e.thread = t)) ++ l.filter (fun e => !decide (e.thread = t))) z := by
  induction row with
  | nil => intro s l z _ _ h; rw [h.1, h.2]; exact ⟨rfl, rfl⟩
  | cons u row ih =>
    intro s l z ok hi h
    obtain ⟨e, s1, l', h1, h2, rfl⟩ := h
    have ok1 : s1.Ok F := by have := ok.step_ok u; rw [h1] at this; exact this
    unfold Indep at hi
    rw [List.pairwise_cons] at hi
    have h3 := ih ok1 hi.2 h2
    have het : e.thread = u := by obtain ⟨i, _, _, rfl, _⟩ := St.step_ok0 h1; exact St.ev_thread _ _ _
    by_cases hu : u = t
    · have e1 : (u :: row).filter (fun x => decide (x = t)) = u :: row.filter (fun x => decide (x = t)) := by simp [hu]
      have e2 : (u :: row).filter (fun x => !decide (x = t)) = row.filter (fun x => !decide (x = t)) := by simp [hu]
      have e3 : (e :: l').filter (fun e => decide (e.thread = t)) = e :: l'.filter (fun e => decide (e.thread = t)) := by simp [het, hu]
      have e4 : (e :: l').filter (fun e => !decide (e.thread = t)) = l'.filter (fun e => !decide (e.thread = t)) := by simp [het, hu]
      rw [e1, e2, e3, e4]
      exact ⟨e, s1, _, h1, h3, rfl⟩
    · have e1 : (u :: row).filter (fun x => decide (x = t)) = row.filter (fun x => decide (x = t)) := by simp [hu]
      have e2 : (u :: row).filter (fun x => !decide (x = t)) = u :: row.filter (fun x => !decide (x = t)) := by simp [hu]
      have e3 : (e :: l').filter (fun e => decide (e.thread = t)) = l'.filter (fun e => decide (e.thread = t)) := by simp [het, hu]
      have e4 : (e :: l').filter (fun e => !decide (e.thread = t)) = e :: l'.filter (fun e => !decide (e.thread = t)) := by simp [het, hu]
      rw [e1, e2, e3, e4]
      refine runs_move hu _ ok (fun x hx => ?_) ?_ (fun x hx => ?_) ⟨e, s1, _, h1, h3, rfl⟩
      · simpa using (List.mem_filter.1 hx).2
      · rw [← h2.threads, List.filter_map]
        simp [Function.comp_def]
      · obtain ⟨h4, h5⟩ := List.mem_filter.1 hx
        refine hi.1 x h4 ?_
        rw [het]
        simp at h5
        omega

/-- The row sorted by its threads, up to n. -/
def srt (row : List Int) : Nat → List Int
  | 0 => []
  | n + 1 => srt row n ++ row.filter fun x => decide (x = (n : Int))
def srtE (l : List Ev) : Nat → List Ev
  | 0 => []
  | n + 1 => srtE l n ++ l.filter fun e => decide (e.thread = (n : Int))

theorem filter_step {T : Type} (f : T → Int) (l : List T) (n : Nat) : (l.filter fun x => decide ((n : Int) ≤ f x)).filter (fun x => decide (f x = (n : Int))) = l.filter (fun x => decide (f x = (n : Int))) ∧
    (l.filter fun x => decide ((n : Int) ≤ f x)).filter (fun x => !decide (f x = (n : Int))) = l.filter (fun x => decide (((n + 1 : Nat) : Int) ≤ f x)) := by
  rw [List.filter_filter, List.filter_filter]
  constructor
  · apply List.filter_congr
    intro x _
    rw [Bool.eq_iff_iff]
    simp
    omega
  · apply List.filter_congr
    intro x _
    rw [Bool.eq_iff_iff]
    simp
    omega

theorem runs_srt {F : Nat} {row : List Int} {s : St} {l : List Ev} {z : St} (ok : s.Ok F) (hi : Indep l) (h : Runs s row l z) (n : Nat) :
    Runs s (srt row n ++ row.filter fun x => decide ((n : Int) ≤ x)) (srtE l n ++ l.filter fun e => decide ((n : Int) ≤ e.thread)) z := by
  induction n with
  | zero =>
    have e1 : row.filter (fun x => decide (((0 : Nat) : Int) ≤ x)) = row := by
      rw [List.filter_eq_self]
      intro x hx
      have := h.has x hx
      unfold St.has at this
      simp
      omega
    have e2 : l.filter (fun e => decide (((0 : Nat) : Int) ≤ e.thread)) = l := by
      rw [List.filter_eq_self]
      intro e he
      have := h.has e.thread (by rw [← h.threads]; exact List.mem_map_of_mem he)
      unfold St.has at this
      simp
      omega
    rw [e1, e2]
    exact h
  | succ n ih =>
    obtain ⟨la, lb, s1, h1, h2, q⟩ := runs_append.1 ih
    have hla : la.length = (srtE l n).length := by
      have := congrArg List.length h1.threads
      rw [List.length_map] at this
      rw [this]
      have ht := h.threads
      clear this q h2 h1 ih
      subst ht
      induction n with
      | zero => rfl
      | succ n ih =>
        unfold srt srtE
        rw [List.length_append, List.length_append, ih, List.filter_map]
        simp [Function.comp_def]
    obtain ⟨rfl, rfl⟩ := List.append_inj q.symm hla
    have hi2 : Indep (l.filter fun e => decide ((n : Int) ≤ e.thread)) := List.Pairwise.filter _ hi
    have h3 := runs_part (n : Int) (h1.ok ok) hi2 h2
    have f1 := filter_step (fun x : Int => x) row n
    rw [f1.1, f1.2] at h3
    rw [(filter_step Ev.thread l n).1, (filter_step Ev.thread l n).2] at h3
    have h4 := runs_append.2 ⟨_, _, s1, h1, h3, rfl⟩
    unfold srt srtE
    rw [List.append_assoc, List.append_assoc]
    exact h4

theorem runs_sorted {F : Nat} {row : List Int} {s : St} {l : List Ev} {z : St} (ok : s.Ok F) (h4 : s.ts.length ≤ 4) (hi : Indep l) (h : Runs s row l z) : Runs s (srt row 4) (srtE l 4) z := by
  have h1 := runs_srt ok hi h 4
  have e1 : row.filter (fun x => decide (((4 : Nat) : Int) ≤ x)) = [] := by
    rw [List.filter_eq_nil_iff]
    intro x hx
    have := h.has x hx
    unfold St.has at this
    simp
    omega
  have e2 : l.filter (fun e => decide (((4 : Nat) : Int) ≤ e.thread)) = [] := by
    rw [List.filter_eq_nil_iff]
    intro e he
    have := h.has e.thread (by rw [← h.threads]; exact List.mem_map_of_mem he)
    unfold St.has at this
    simp
    omega
  rw [e1, e2, List.append_nil, List.append_nil] at h1
  exact h1

theorem srtE_filter (l : List Ev) (t n : Nat) : (srtE l n).filter (fun e => decide (e.thread = (t : Int))) = if t < n then l.filter (fun e => decide (e.thread = (t : Int))) else [] := by
  induction n with
  | zero => rfl
  | succ n ih =>
    unfold srtE
    rw [List.filter_append, ih, List.filter_filter]
    by_cases h1 : t < n
    · rw [if_pos h1, if_pos (by omega)]
      have : l.filter (fun e => decide (e.thread = (t : Int)) && decide (e.thread = (n : Int))) = [] := by
        rw [List.filter_eq_nil_iff]
        intro e _
        simp
        omega
      rw [this, List.append_nil]
    · rw [if_neg h1, List.nil_append]
      by_cases h2 : t = n
      · subst h2
        rw [if_pos (by omega)]
        simp
      · rw [if_neg (by omega), List.filter_eq_nil_iff]
        intro e _
        simp
        omega

theorem len_filter {T : Type} (q : T → Bool) (l : List T) : (l.filter q).length + (l.filter fun x => !q x).length = l.length := by
  induction l with
  | nil => rfl
  | cons x l ih => cases h : q x <;> simp [h] <;> omega

theorem srtE_length {l : List Ev} {s : St} {row : List Int} {z : St} (hr : Runs s row l z) (h4 : s.ts.length ≤ 4) : (srtE l 4).length = l.length := by
  have : ∀ n : Nat, (srtE l n).length + (l.filter fun e => decide ((n : Int) ≤ e.thread)).length = l.length := by
    intro n
    induction n with
    | zero =>
      rw [List.filter_eq_self.2]
      · simp [srtE]
      · intro e he
        have := hr.has e.thread (by rw [← hr.threads]; exact List.mem_map_of_mem he)
        unfold St.has at this
        simp
        omega
    | succ n ih =>
      have e1 := filter_step Ev.thread l n
      rw [← e1.2]
      unfold srtE
      rw [List.length_append, ← e1.1]
      have e2 := len_filter (fun e : Ev => decide (e.thread = (n : Int))) (l.filter fun e => decide ((n : Int) ≤ e.thread))
      omega
  have h0 := this 4
  have e2 : l.filter (fun e => decide (((4 : Nat) : Int) ≤ e.thread)) = [] := by
    rw [List.filter_eq_nil_iff]
    intro e he
    have := hr.has e.thread (by rw [← hr.threads]; exact List.mem_map_of_mem he)
    unfold St.has at this
    simp
    omega
  rw [e2] at h0
  simpa using h0

end Go.Proofs.Ytfhndbibabbnlaa
