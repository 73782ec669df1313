/-
  Plain data for layer 4: rows that are the same, but for an order that doesn't matter. Nothing of the translation.
-/
import Derived.Test.YtljlaopjimkcmaaClkPlain
namespace Go.Proofs.Ytljlaopjimkcmaa

/-- The events of a row with their clocks, and those of one thread. -/
def prs (l : List Ev) : List (Ev × (Int → Nat)) := (List.range l.length).map fun k => (evI l k, clk l k)
def psi (l : List Ev) (t : Int) : List (Ev × (Int → Nat)) := (prs l).filter fun p => decide (p.1.thread = t)
/-- Each thread has the same events, with the same clocks. -/
def Sim (a b : List Ev) : Prop := ∀ t, psi a t = psi b t

theorem Sim.refl (a : List Ev) : Sim a a := fun _ => rfl
theorem Sim.symm {a b : List Ev} (h : Sim a b) : Sim b a := fun t => (h t).symm
theorem Sim.trans {a b c : List Ev} (h : Sim a b) (k : Sim b c) : Sim a c := fun t => (h t).trans (k t)

/-- The clock of an event behind those that are there. -/
def topL (ps : List (Ev × (Int → Nat))) (t : Int) : Nat := ps.foldr (fun p m => max (p.2 t) m) 0
def nxt (ps : List (Ev × (Int → Nat))) (e : Ev) : Int → Nat := fun t => topL (ps.filter fun p => dep p.1 e) t + if e.thread = t then 1 else 0

theorem topL_le {ps : List (Ev × (Int → Nat))} {t : Int} {b : Nat} : topL ps t ≤ b ↔ ∀ p ∈ ps, p.2 t ≤ b := by
  induction ps with
  | nil => simp [topL]
  | cons p ps ih =>
    have e : topL (p :: ps) t = max (p.2 t) (topL ps t) := rfl
    rw [e, Nat.max_le, ih]
    simp
theorem topL_append (ps qs : List (Ev × (Int → Nat))) (t : Int) : topL (ps ++ qs) t = max (topL ps t) (topL qs t) := by
  induction ps with
  | nil => simp [topL]
  | cons p ps ih =>
    have e : topL (p :: ps ++ qs) t = max (p.2 t) (topL (ps ++ qs) t) := rfl
    have e2 : topL (p :: ps) t = max (p.2 t) (topL ps t) := rfl
    rw [e, ih, e2, Nat.max_assoc]
theorem topL_mem {ps qs : List (Ev × (Int → Nat))} (h : ∀ p, p ∈ ps ↔ p ∈ qs) (t : Int) : topL ps t = topL qs t :=
  Nat.le_antisymm (topL_le.2 fun p hp => topL_le.1 (Nat.le_refl _) p ((h p).1 hp)) (topL_le.2 fun p hp => topL_le.1 (Nat.le_refl _) p ((h p).2 hp))
theorem nxt_mem {ps qs : List (Ev × (Int → Nat))} (h : ∀ p, p ∈ ps ↔ p ∈ qs) (e : Ev) : nxt ps e = nxt qs e := by
  funext t
  unfold nxt
  rw [topL_mem (qs := qs.filter fun p => dep p.1 e) (fun p => by rw [List.mem_filter, List.mem_filter, h])]

theorem top_succ (f : Nat → Nat) (q : Nat → Bool) (n : Nat) : top f q (n + 1) = if q n = true then max (top f q n) (f n) else top f q n := rfl
theorem top_topL (l : List Ev) (e : Ev) (t : Int) (n : Nat) : top (fun i => clk l i t) (fun i => dep (evI l i) e) n = topL (((List.range n).map fun k => (evI l k, clk l k)).filter fun p => dep p.1 e) t := by
  induction n with
  | zero => rfl
  | succ n ih =>
    rw [List.range_succ, List.map_append, List.filter_append, topL_append, ← ih, top_succ]
    by_cases h : dep (evI l n) e = true
    · rw [if_pos h]
      simp [h, topL]
    · rw [if_neg h]
      simp [h, topL]

theorem prs_snoc (l : List Ev) (e : Ev) : prs (l ++ [e]) = prs l ++ [(e, nxt (prs l) e)] := by
  unfold prs
  rw [List.length_append, List.length_singleton, List.range_succ, List.map_append]
  have h1 : (List.range l.length).map (fun k => (evI (l ++ [e]) k, clk (l ++ [e]) k)) = (List.range l.length).map fun k => (evI l k, clk l k) := by
    apply List.map_congr_left
    intro k hk
    rw [List.mem_range] at hk
    have : clk (l ++ [e]) k = clk l k := funext fun t => clk_append hk t
    rw [this, evI_append hk]
  have h2 : evI (l ++ [e]) l.length = e := by unfold evI; simp [List.getD]
  have h3 : clk (l ++ [e]) l.length = nxt ((List.range l.length).map fun k => (evI l k, clk l k)) e := by
    funext t
    rw [clk_top, h2, top_topL (l ++ [e]) e t, h1]
    rfl
  rw [h1, List.map_singleton, h2, h3]

/-- A row goes on. -/
def grow (ps : List (Ev × (Int → Nat))) : List Ev → List (Ev × (Int → Nat))
  | [] => ps
  | e :: y => grow (ps ++ [(e, nxt ps e)]) y
theorem grow_cons (ps : List (Ev × (Int → Nat))) (e : Ev) (y : List Ev) : grow ps (e :: y) = grow (ps ++ [(e, nxt ps e)]) y := rfl
theorem prs_grow (y : List Ev) : ∀ x : List Ev, prs (x ++ y) = grow (prs x) y := by
  induction y with
  | nil => intro x; rw [List.append_nil]; rfl
  | cons e y ih =>
    intro x
    rw [show x ++ e :: y = (x ++ [e]) ++ y by simp, ih, prs_snoc]
    rfl
theorem grow_same (y : List Ev) : ∀ {ps qs : List (Ev × (Int → Nat))}, (∀ p, p ∈ ps ↔ p ∈ qs) → ∃ z, grow ps y = ps ++ z ∧ grow qs y = qs ++ z := by
  induction y with
  | nil => intro ps qs _; exact ⟨[], by simp [grow], by simp [grow]⟩
  | cons e y ih =>
    intro ps qs h
    have hn := nxt_mem h e
    obtain ⟨z, h1, h2⟩ := ih (ps := ps ++ [(e, nxt ps e)]) (qs := qs ++ [(e, nxt ps e)]) (fun p => by rw [List.mem_append, List.mem_append, h])
    refine ⟨(e, nxt ps e) :: z, ?_, ?_⟩
    · unfold grow
      rw [h1]
      simp
    · unfold grow
      rw [← hn, h2]
      simp

/-- Two neighbours that don't depend on one another swapped: the same. -/
theorem sim_swap {x y : List Ev} {e f : Ev} (hd : dep e f = false) : Sim (x ++ e :: f :: y) (x ++ f :: e :: y) := by
  have hd' : dep f e = false := by rw [dep_symm]; exact hd
  have hne : e.thread ≠ f.thread := by
    intro h
    rw [dep_thread h] at hd
    cases hd
  have n1 : nxt (prs x ++ [(e, nxt (prs x) e)]) f = nxt (prs x) f := by
    funext t
    unfold nxt
    rw [List.filter_append]
    simp [hd]
  have n2 : nxt (prs x ++ [(f, nxt (prs x) f)]) e = nxt (prs x) e := by
    funext t
    unfold nxt
    rw [List.filter_append]
    simp [hd']
  have e1 : prs (x ++ e :: f :: y) = grow (prs x ++ [(e, nxt (prs x) e), (f, nxt (prs x) f)]) y := by
    rw [prs_grow, grow_cons, grow_cons, n1, List.append_assoc]
    rfl
  have e2 : prs (x ++ f :: e :: y) = grow (prs x ++ [(f, nxt (prs x) f), (e, nxt (prs x) e)]) y := by
    rw [prs_grow, grow_cons, grow_cons, n2, List.append_assoc]
    rfl
  obtain ⟨z, h1, h2⟩ := grow_same y (ps := prs x ++ [(e, nxt (prs x) e), (f, nxt (prs x) f)]) (qs := prs x ++ [(f, nxt (prs x) f), (e, nxt (prs x) e)]) (fun p => by simp only [List.mem_append, List.mem_cons, List.not_mem_nil, or_false]; constructor <;> (rintro (h | h | h) <;> simp [h]))
  intro t
  unfold psi
  rw [e1, e2, h1, h2]
  simp only [List.filter_append]
  congr 2
  by_cases he : e.thread = t
  · have hf : f.thread ≠ t := by omega
    simp [he, hf]
  · simp [List.filter_cons, he]

theorem prs_take {x l : List Ev} {a b : Ev} (hlt : x.length + 1 < (x ++ l).length) (hl : ∀ i, i < x.length → evI (x ++ l) i = evI x i) (h0 : evI (x ++ l) x.length = a) (h1 : evI (x ++ l) (x.length + 1) = b) :
    (prs (x ++ l)).take (x.length + 2) = prs x ++ [(a, clk (x ++ l) x.length), (b, clk (x ++ l) (x.length + 1))] := by
  unfold prs
  rw [← List.map_take, List.take_range, show min (x.length + 2) (x ++ l).length = x.length + 1 + 1 by omega, List.range_succ, List.range_succ, List.map_append, List.map_append, List.append_assoc]
  congr 1
  · apply List.map_congr_left
    intro k hk
    rw [List.mem_range] at hk
    have : clk (x ++ l) k = clk x k := funext fun t => clk_append hk t
    rw [this, hl k hk]
  · simp [h0, h1]

/-- Two neighbours of unlike threads that depend on one another swapped: not the same. -/
theorem sim_swap_dep {x y : List Ev} {e f : Ev} (hd : dep e f = true) (hne : e.thread ≠ f.thread) : ¬ Sim (x ++ f :: e :: y) (x ++ e :: f :: y) := by
  intro h
  have hl : ∀ (a b : Ev) (i : Nat), i < x.length → evI (x ++ a :: b :: y) i = evI x i := fun a b i hi => evI_append hi
  have h0 : ∀ (a b : Ev), evI (x ++ a :: b :: y) x.length = a := fun a b => by unfold evI; simp [List.getD]
  have h1 : ∀ (a b : Ev), evI (x ++ a :: b :: y) (x.length + 1) = b := fun a b => by
    unfold evI
    simp only [List.getD]
    rw [List.getElem?_append_right (by omega), show x.length + 1 - x.length = 1 by omega]
    rfl
  have hlt : ∀ (a b : Ev), x.length + 1 < (x ++ a :: b :: y).length := fun a b => by simp
  -- the clock of e, in the one and in the other
  have c1 : clk (x ++ e :: f :: y) x.length f.thread ≤ cnt (isT x f.thread) x.length := by
    refine Nat.le_trans (clk_le_cnt _ _ _) ?_
    rw [cnt_succ, if_neg (by unfold isT; rw [h0]; simpa using hne)]
    exact Nat.le_of_eq (cnt_congr _ fun i hi => by unfold isT; rw [hl _ _ i hi])
  have c2 : cnt (isT x f.thread) x.length + 1 ≤ clk (x ++ f :: e :: y) (x.length + 1) f.thread := by
    have hb1 : hb (x ++ f :: e :: y) x.length (x.length + 1) = true := hb_dep (by omega) (by rw [h0, h1, dep_symm]; exact hd)
    have h2 := hb_iff_num.1 hb1
    rw [h0] at h2
    refine Nat.le_trans ?_ h2
    unfold num
    rw [h0, cnt_succ, if_pos (by unfold isT; rw [h0]; simp)]
    exact Nat.add_le_add_right (Nat.le_of_eq (cnt_congr _ fun i hi => by unfold isT; rw [hl _ _ i hi])) 1
  -- both stand at one place of the thread's events
  have ht := h e.thread
  have hp1 : prs (x ++ f :: e :: y) = prs x ++ ((f, clk (x ++ f :: e :: y) x.length) :: (e, clk (x ++ f :: e :: y) (x.length + 1)) :: (prs (x ++ f :: e :: y)).drop (x.length + 2)) := by
    conv => lhs; rw [← List.take_append_drop (x.length + 2) (prs (x ++ f :: e :: y))]
    rw [show prs x ++ ((f, clk (x ++ f :: e :: y) x.length) :: (e, clk (x ++ f :: e :: y) (x.length + 1)) :: (prs (x ++ f :: e :: y)).drop (x.length + 2)) = (prs x ++ [(f, clk (x ++ f :: e :: y) x.length), (e, clk (x ++ f :: e :: y) (x.length + 1))]) ++ (prs (x ++ f :: e :: y)).drop (x.length + 2) by simp]
    congr 1
    exact prs_take (hlt f e) (hl f e) (h0 f e) (h1 f e)
  have hp2 : prs (x ++ e :: f :: y) = prs x ++ ((e, clk (x ++ e :: f :: y) x.length) :: (f, clk (x ++ e :: f :: y) (x.length + 1)) :: (prs (x ++ e :: f :: y)).drop (x.length + 2)) := by
    conv => lhs; rw [← List.take_append_drop (x.length + 2) (prs (x ++ e :: f :: y))]
    rw [show prs x ++ ((e, clk (x ++ e :: f :: y) x.length) :: (f, clk (x ++ e :: f :: y) (x.length + 1)) :: (prs (x ++ e :: f :: y)).drop (x.length + 2)) = (prs x ++ [(e, clk (x ++ e :: f :: y) x.length), (f, clk (x ++ e :: f :: y) (x.length + 1))]) ++ (prs (x ++ e :: f :: y)).drop (x.length + 2) by simp]
    congr 1
    exact prs_take (hlt e f) (hl e f) (h0 e f) (h1 e f)
  unfold psi at ht
  rw [hp1, hp2, List.filter_append, List.filter_append] at ht
  have ht2 := List.append_cancel_left ht
  simp only [List.filter_cons, decide_eq_true_eq] at ht2
  rw [if_neg (Ne.symm hne)] at ht2
  simp only [if_true] at ht2
  injection ht2 with ht3 _
  injection ht3 with _ ht4
  have := congrFun ht4 f.thread
  omega

end Go.Proofs.Ytljlaopjimkcmaa
