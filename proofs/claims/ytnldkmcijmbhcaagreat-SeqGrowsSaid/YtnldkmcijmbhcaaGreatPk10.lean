import Derived.Deep.RegionHeld3
import Derived.Test.YtnldkmcijmbhcaaGreatPk02
import Derived.Test.YtnldkmcijmbhcaaGreatPk03
import Derived.Test.YtnldkmcijmbhcaaGreatPk04

/- A row's unlike events, each with its places; who races, told by them. -/
namespace Go.Proofs.YtnldkmcijmbhcaaGreat

abbrev Gp := Ev × List (Nat × Nat)
/-- One event more: its place, and which one of its thread's it is. -/
def addG : List Gp → Ev → Nat × Nat → List Gp
  | [], e, p => [(e, [p])]
  | g :: gs, e, p => if g.1 = e then (g.1, g.2 ++ [p]) :: gs else g :: addG gs e p
def grp (l : List Ev) : Nat → List Gp
  | 0 => []
  | n + 1 => addG (grp l n) (evI l n) (n, num l n)
/-- The clock of a thread's last event among the first n. -/
def lasts (l : List Ev) (n : Nat) (t u : Int) : Nat := match lastT l t n with
  | none => 0
  | some j => clk l j u
/-- The places of one group that aren't known, falling. -/
def rcG (known : Nat) (ps : List (Nat × Nat)) : List Nat := ((ps.filter fun p => decide (known < p.2)).map (·.1)).reverse
def rcL (ls : Int → Int → Nat) (gs : List Gp) (e : Ev) : List Nat :=
  gs.flatMap fun g => if g.1.thread ≠ e.thread ∧ dep g.1 e = true then rcG (ls e.thread g.1.thread) g.2 else []
/-- All places. -/
def allG (gs : List Gp) : List Nat := gs.flatMap fun g => g.2.map (·.1)
theorem allG_add (gs : List Gp) (e : Ev) (p : Nat × Nat) : (allG (addG gs e p)).Perm (allG gs ++ [p.1]) := by
  induction gs with
  | nil => exact List.Perm.refl _
  | cons g gs ih =>
    unfold addG
    split
    · unfold allG
      rw [List.flatMap_cons, List.flatMap_cons, List.map_append]
      simp only [List.map_cons, List.map_nil, List.append_assoc]
      exact List.Perm.append_left _ List.perm_append_comm
    · unfold allG at *
      rw [List.flatMap_cons, List.flatMap_cons, List.append_assoc]
      exact List.Perm.append_left _ ih
theorem allG_grp (l : List Ev) (n : Nat) : (allG (grp l n)).Perm (List.range n) := by
  induction n with
  | zero => exact List.Perm.refl _
  | succ n ih =>
    rw [List.range_succ]
    exact (allG_add _ _ _).trans (List.Perm.append_right _ ih)
/-- What holds of each group: its places are those of its event, below n, and their numbers rise. -/
def GOk (l : List Ev) (n : Nat) (g : Gp) : Prop := (∀ p ∈ g.2, evI l p.1 = g.1 ∧ p.2 = num l p.1 ∧ p.1 < n) ∧ g.2.Pairwise (fun a b => a.2 < b.2)
theorem GOk.mono {l : List Ev} {n m : Nat} {g : Gp} (h : GOk l n g) (hm : n ≤ m) : GOk l m g :=
  ⟨fun p hp => ⟨(h.1 p hp).1, (h.1 p hp).2.1, Nat.lt_of_lt_of_le (h.1 p hp).2.2 hm⟩, h.2⟩
theorem num_lt {l : List Ev} {i n : Nat} (h : i < n) (ht : (evI l i).thread = (evI l n).thread) : num l i < num l n := by
  unfold num
  rw [ht]
  have h1 : cnt (isT l (evI l n).thread) (i + 1) ≤ cnt (isT l (evI l n).thread) n := cnt_mono _ h
  have h2 : cnt (isT l (evI l n).thread) n < cnt (isT l (evI l n).thread) (n + 1) := cnt_lt _ (Nat.lt_succ_self n) (by unfold isT; simp)
  omega
theorem gok_add {l : List Ev} {n : Nat} (gs : List Gp) (h : ∀ g ∈ gs, GOk l n g) : ∀ g ∈ addG gs (evI l n) (n, num l n), GOk l (n + 1) g := by
  induction gs with
  | nil =>
    intro g hg
    rw [addG, List.mem_singleton] at hg
    subst hg
    refine ⟨fun p hp => ?_, List.pairwise_singleton _ _⟩
    rw [List.mem_singleton] at hp
    subst hp
    exact ⟨rfl, rfl, Nat.lt_succ_self _⟩
  | cons g gs ih =>
    intro x hx
    unfold addG at hx
    split at hx
    · rename_i he
      rcases List.mem_cons.1 hx with rfl | hx
      · have hg := h g List.mem_cons_self
        refine ⟨fun p hp => ?_, ?_⟩
        · rcases List.mem_append.1 hp with hp | hp
          · exact ⟨(hg.1 p hp).1, (hg.1 p hp).2.1, Nat.lt_succ_of_lt (hg.1 p hp).2.2⟩
          · rw [List.mem_singleton] at hp
            subst hp
            exact ⟨he.symm, rfl, Nat.lt_succ_self _⟩
        · rw [List.pairwise_append]
          refine ⟨hg.2, List.pairwise_singleton _ _, fun a ha b hb => ?_⟩
          rw [List.mem_singleton] at hb
          subst hb
          obtain ⟨h1, h2, h3⟩ := hg.1 a ha
          rw [h2]
          exact num_lt h3 (by rw [h1, he])
      · exact (h x (List.mem_cons_of_mem _ hx)).mono (Nat.le_succ _)
    · rcases List.mem_cons.1 hx with rfl | hx
      · exact (h x List.mem_cons_self).mono (Nat.le_succ _)
      · exact ih (fun y hy => h y (List.mem_cons_of_mem _ hy)) x hx
theorem gok_grp (l : List Ev) (n : Nat) : ∀ g ∈ grp l n, GOk l n g := by
  induction n with
  | zero => intro g hg; cases hg
  | succ n ih => exact gok_add _ ih

/-- The places, rising, that race with e: told by clocks. -/
def rcQ (l : List Ev) (n : Nat) (e : Ev) (i : Nat) : Bool := decide ((evI l i).thread ≠ e.thread) && dep (evI l i) e && decide (lasts l n e.thread (evI l i).thread < num l i)
def raced (l : List Ev) (n : Nat) (e : Ev) : List Nat := (List.range n).filter (rcQ l n e)
theorem rcG_perm {l : List Ev} {n : Nat} {e : Ev} {g : Gp} (h : GOk l n g) :
    (if g.1.thread ≠ e.thread ∧ dep g.1 e = true then rcG (lasts l n e.thread g.1.thread) g.2 else []).Perm ((g.2.map (·.1)).filter (rcQ l n e)) := by
  by_cases hc : g.1.thread ≠ e.thread ∧ dep g.1 e = true
  · rw [if_pos hc]
    refine (List.reverse_perm _).trans ?_
    have : (g.2.map (·.1)).filter (rcQ l n e) = (g.2.filter fun p => decide (lasts l n e.thread g.1.thread < p.2)).map (·.1) := by
      rw [List.filter_map]
      congr 1
      apply List.filter_congr
      intro p hp
      obtain ⟨h1, h2, _⟩ := h.1 p hp
      show rcQ l n e p.1 = _
      unfold rcQ
      rw [h1, ← h2, hc.2, decide_eq_true hc.1]
      rfl
    rw [this]
  · rw [if_neg hc]
    have : (g.2.map (·.1)).filter (rcQ l n e) = [] := by
      rw [List.filter_eq_nil_iff]
      intro i hi hq
      obtain ⟨p, hp, rfl⟩ := List.mem_map.1 hi
      obtain ⟨h1, _, _⟩ := h.1 p hp
      unfold rcQ at hq
      rw [h1, Bool.and_eq_true, Bool.and_eq_true, decide_eq_true_eq] at hq
      exact hc hq.1
    rw [this]
theorem rcL_perm (l : List Ev) (n : Nat) (e : Ev) : (rcL (lasts l n) (grp l n) e).Perm (raced l n e) := by
  have key : ∀ gs : List Gp, (∀ g ∈ gs, GOk l n g) → (rcL (lasts l n) gs e).Perm ((allG gs).filter (rcQ l n e)) := by
    intro gs
    induction gs with
    | nil => intro _; exact List.Perm.refl _
    | cons g gs ih =>
      intro h
      unfold rcL allG at *
      rw [List.flatMap_cons, List.flatMap_cons, List.filter_append]
      exact List.Perm.append (rcG_perm (h g List.mem_cons_self)) (ih fun x hx => h x (List.mem_cons_of_mem _ hx))
  exact (key _ (gok_grp l n)).trans ((allG_grp l n).filter _)
/-- Sorted they are these. -/
theorem rcL_sorted (l : List Ev) (n : Nat) (e : Ev) {L : List Nat} (h1 : L.Perm (rcL (lasts l n) (grp l n) e)) (h2 : L.Pairwise (· ≤ ·)) : L = raced l n e := by
  have hp := h1.trans (rcL_perm l n e)
  have hr : (raced l n e).Pairwise (· ≤ ·) := (List.Pairwise.filter _ (List.pairwise_lt_range (n := n))).imp fun h => Nat.le_of_lt h
  exact hp.eq_of_pairwise (le := (· ≤ ·)) (fun a b _ _ h3 h4 => Nat.le_antisymm h3 h4) h2 hr

theorem evI_take {l : List Ev} {n i : Nat} (h : i < n) : evI (l.take n) i = evI l i := by
  unfold evI
  simp [List.getD, List.getElem?_take_of_lt h]
theorem lastT_take {l : List Ev} {t : Int} {n : Nat} : ∀ {m : Nat}, m ≤ n → lastT (l.take n) t m = lastT l t m := by
  intro m
  induction m with
  | zero => intro _; rfl
  | succ m ih =>
    intro h
    rw [lastT, lastT, evI_take (by omega), ih (by omega)]
/-- The document's races are these. -/
theorem withL_take {l : List Ev} {n : Nat} (e : Ev) (hn : n ≤ l.length) : withL (l.take n) e = raced l n e := by
  unfold withL raced
  have hl : (l.take n).length = n := by rw [List.length_take, Nat.min_eq_left hn]
  rw [hl]
  apply List.filter_congr
  intro i hi
  have hi' := List.mem_range.1 hi
  unfold raceAt rcQ
  rw [evI_take hi']
  congr 1
  unfold knownB lasts
  rw [hl, lastT_take (Nat.le_refl n)]
  cases hj : lastT l e.thread n with
  | none =>
    show (!false) = decide (0 < num l i)
    have : 0 < num l i := by
      unfold num
      rw [cnt_succ]
      have : isT l (evI l i).thread i = true := by unfold isT; simp
      rw [this]
      simp
    simp [this]
  | some j =>
    obtain ⟨hjn, _⟩ := lastT_some hj
    show (!(hb (l.take n) i j)) = decide (clk l j (evI l i).thread < num l i)
    have h1 : hb (l.take n) i j = hb l i j := by
      have := hb_append_eq (l := l.take n) (m := l.drop n) i (k := j) (by rw [hl]; exact hjn)
      rw [List.take_append_drop] at this
      exact this.symm
    rw [h1]
    cases hb' : hb l i j
    · have : ¬ num l i ≤ clk l j (evI l i).thread := fun h => by rw [← hb_iff_num, hb'] at h; cases h
      simp; omega
    · have := hb_iff_num.1 hb'
      simp; omega
theorem withL_raced (l : List Ev) (e : Ev) : withL l e = raced l l.length e := by
  have := withL_take (l := l) (n := l.length) e (Nat.le_refl _)
  rwa [List.take_length] at this
theorem raced_mem {l : List Ev} {n : Nat} {e : Ev} {i : Nat} (h : i ∈ raced l n e) : i < n := List.mem_range.1 (List.mem_filter.1 h).1
theorem raced_len (l : List Ev) (n : Nat) (e : Ev) : (raced l n e).length ≤ n := by
  have := List.length_filter_le (rcQ l n e) (List.range n)
  unfold raced
  rwa [List.length_range] at this
theorem rcL_len (l : List Ev) (n : Nat) (e : Ev) : (rcL (lasts l n) (grp l n) e).length ≤ n := by
  rw [(rcL_perm l n e).length_eq]
  exact raced_len l n e
theorem rcL_mem {l : List Ev} {n : Nat} {e : Ev} {i : Nat} (h : i ∈ rcL (lasts l n) (grp l n) e) : i < n := raced_mem ((rcL_perm l n e).mem_iff.1 h)
theorem addG_length_le (gs : List Gp) (e : Ev) (p : Nat × Nat) : (addG gs e p).length ≤ gs.length + 1 := by
  induction gs with
  | nil => exact Nat.le_refl _
  | cons g gs ih =>
    unfold addG
    split
    · simp
    · simp only [List.length_cons]; omega
theorem grp_len (l : List Ev) (n : Nat) : (grp l n).length ≤ n := by
  induction n with
  | zero => exact Nat.le_refl _
  | succ n ih =>
    have := addG_length_le (grp l n) (evI l n) (n, num l n)
    show (addG _ _ _).length ≤ _
    omega
theorem grp_small (l : List Ev) (n : Nat) : ∀ g ∈ grp l n, g.2.length ≤ n := by
  intro g hg
  have h1 := (allG_grp l n).length_eq
  rw [List.length_range] at h1
  rw [← h1]
  have h2 : (g.2.map (·.1)).Sublist (allG (grp l n)) := by
    have h3 := List.sublist_flatten_of_mem (List.mem_map.2 ⟨g, hg, rfl⟩ : g.2.map (·.1) ∈ (grp l n).map fun g => g.2.map (·.1))
    rwa [← List.flatMap_def] at h3
  simpa using h2.length_le
/-- Where the like event stands. -/
theorem addG_at {gs : List Gp} {e : Ev} {p : Nat × Nat} {k : Nat} (hk : k < gs.length) (hn : ∀ i (h : i < k), (gs[i]'(by omega)).1 ≠ e) (he : gs[k].1 = e) : addG gs e p = gs.set k (gs[k].1, gs[k].2 ++ [p]) := by
  induction gs generalizing k with
  | nil => simp at hk
  | cons g gs ih =>
    cases k with
    | zero =>
      unfold addG
      rw [if_pos (by simpa using he)]
      rfl
    | succ k =>
      unfold addG
      rw [if_neg (by simpa using hn 0 (by omega))]
      rw [List.set_cons_succ]
      congr 1
      exact ih (by simpa using hk) (fun i h => by simpa using hn (i + 1) (by omega)) (by simpa using he)
theorem addG_new {gs : List Gp} {e : Ev} {p : Nat × Nat} (hn : ∀ x ∈ gs, x.1 ≠ e) : addG gs e p = gs ++ [(e, [p])] := by
  induction gs with
  | nil => rfl
  | cons g gs ih =>
    unfold addG
    rw [if_neg (hn g List.mem_cons_self), ih fun x hx => hn x (List.mem_cons_of_mem _ hx)]
    rfl
theorem lasts_succ (l : List Ev) (n : Nat) (t u : Int) : lasts l (n + 1) t u = if (evI l n).thread = t then clk l n u else lasts l n t u := by
  unfold lasts
  rw [lastT]
  by_cases h : (evI l n).thread = t
  · rw [if_pos h, if_pos h]
  · rw [if_neg h, if_neg h]

/-- Of a falling row the first ones are all that aren't known. -/
theorem filter_take {ps : List (Nat × Nat)} {known : Nat} : ∀ {k : Nat}, ps.Pairwise (fun a b => b.2 < a.2) → k ≤ ps.length → (∀ i (_ : i < k), known < (ps.getD i (0, 0)).2) → (k < ps.length → (ps.getD k (0, 0)).2 ≤ known) → ps.filter (fun p => decide (known < p.2)) = ps.take k := by
  induction ps with
  | nil => intro k _ hk _ _; simp
  | cons p ps ih =>
    intro k hp hk h1 h2
    rw [List.pairwise_cons] at hp
    cases k with
    | zero =>
      have h0 : p.2 ≤ known := by simpa using h2 (by simp)
      rw [List.take_zero, List.filter_eq_nil_iff]
      intro x hx hq
      rw [decide_eq_true_eq] at hq
      rcases List.mem_cons.1 hx with rfl | hx
      · omega
      · have := hp.1 x hx; omega
    | succ k =>
      have h0 : known < p.2 := by simpa using h1 0 (by omega)
      rw [List.filter_cons_of_pos (by simpa using h0), List.take_succ_cons]
      congr 1
      exact ih hp.2 (by simpa using hk) (fun i h => by simpa using h1 (i + 1) (by omega)) (fun h => by simpa using h2 (by simpa using h))
theorem rcG_take {ps : List (Nat × Nat)} {known k : Nat} (hs : ps.Pairwise (fun a b => a.2 < b.2)) (hk : k ≤ ps.length) (h1 : ∀ i (_ : i < k), known < (ps.reverse.getD i (0, 0)).2) (h2 : k < ps.length → (ps.reverse.getD k (0, 0)).2 ≤ known) : rcG known ps = (ps.reverse.take k).map (·.1) := by
  unfold rcG
  rw [← List.map_reverse, ← List.filter_reverse, filter_take (k := k) (List.pairwise_reverse.2 hs) (by rw [List.length_reverse]; exact hk) h1 (by rw [List.length_reverse]; exact h2)]

end Go.Proofs.YtnldkmcijmbhcaaGreat

/-
  Plain data for layer 4: events with their clocks, and the last one of each. Nothing of the translation.
-/
namespace Go.Proofs.YtnldkmcijmbhcaaGreat

/-- An event with its clock. -/
structure Mk where
  e : Ev
  c : Nat → Nat

/-- The event at a place, with its clock. -/
def mkOf (l : List Ev) (k : Nat) : Mk := ⟨evI l k, fun t => clk l k t⟩

/-- How many of a thread's events happen before e, by the marks of those ahead. -/
def kn (ms : List Mk) (e : Ev) (t : Nat) : Nat := ms.foldl (fun a m => if dep m.e e then max a (m.c t) else a) 0
theorem kn_snoc (ms : List Mk) (m : Mk) (e : Ev) (t : Nat) : kn (ms ++ [m]) e t = if dep m.e e then max (kn ms e t) (m.c t) else kn ms e t := by
  unfold kn
  rw [List.foldl_append]
  rfl
theorem kn_take (ms : List Mk) (e : Ev) (t k : Nat) (h : k < ms.length) : kn (ms.take (k + 1)) e t = if dep ms[k].e e then max (kn (ms.take k) e t) (ms[k].c t) else kn (ms.take k) e t := by
  rw [List.take_succ_eq_append_getElem h, kn_snoc]
theorem fold_ge (ms : List Mk) (e : Ev) (t a : Nat) : a ≤ ms.foldl (fun a m => if dep m.e e then max a (m.c t) else a) a ∧ ∀ m ∈ ms, dep m.e e = true → m.c t ≤ ms.foldl (fun a m => if dep m.e e then max a (m.c t) else a) a := by
  induction ms generalizing a with
  | nil => exact ⟨Nat.le_refl _, fun m h => by cases h⟩
  | cons x ms ih =>
    rw [List.foldl_cons]
    by_cases hx : dep x.e e = true
    · rw [if_pos hx]
      obtain ⟨h1, h2⟩ := ih (max a (x.c t))
      refine ⟨by omega, fun m hm hd => ?_⟩
      rcases List.mem_cons.1 hm with rfl | hm
      · omega
      · exact h2 m hm hd
    · rw [if_neg hx]
      obtain ⟨h1, h2⟩ := ih a
      refine ⟨h1, fun m hm hd => ?_⟩
      rcases List.mem_cons.1 hm with rfl | hm
      · exact absurd hd hx
      · exact h2 m hm hd
theorem fold_le (ms : List Mk) (e : Ev) (t a b : Nat) (ha : a ≤ b) (h : ∀ m ∈ ms, dep m.e e = true → m.c t ≤ b) : ms.foldl (fun a m => if dep m.e e then max a (m.c t) else a) a ≤ b := by
  induction ms generalizing a with
  | nil => exact ha
  | cons x ms ih =>
    rw [List.foldl_cons]
    refine ih _ ?_ (fun m hm => h m (by simp [hm]))
    split
    · rename_i hx
      have := h x (by simp) hx
      omega
    · exact ha

/-- The marks hold, of the first n events, the last one of all that are like. -/
def Lst (l : List Ev) (n : Nat) (ms : List Mk) : Prop :=
  ms.length ≤ n ∧ (∀ m ∈ ms, ∃ i, i < n ∧ m = mkOf l i) ∧ ∀ i, i < n → ∃ j, i ≤ j ∧ j < n ∧ evI l j = evI l i ∧ mkOf l j ∈ ms
theorem lst_zero (l : List Ev) : Lst l 0 [] := ⟨Nat.le_refl _, fun m h => (by cases h), fun i h => (by omega)⟩

theorem Lst.kn {l : List Ev} {n : Nat} {ms : List Mk} (h : Lst l n ms) (t : Nat) : kn ms (evI l n) t = top (fun i => clk l i t) (fun i => dep (evI l i) (evI l n)) n := by
  apply Nat.le_antisymm
  · refine fold_le ms _ t 0 _ (Nat.zero_le _) fun m hm hd => ?_
    obtain ⟨i, hi, rfl⟩ := h.2.1 m hm
    exact top_ge (f := fun i => clk l i t) (q := fun i => dep (evI l i) (evI l n)) hi hd
  · refine top_le fun i hi hd => ?_
    obtain ⟨j, hij, hj, he, hm⟩ := h.2.2 i hi
    refine Nat.le_trans (clk_mono (hb_thread hij (by rw [he])) t) ?_
    exact (fold_ge ms (evI l n) t 0).2 _ hm (by show dep (evI l j) _ = true; rw [he]; exact hd)

/-- The clock of an event is what is known of those ahead, and one more of its own thread. -/
theorem Lst.clk {l : List Ev} {n : Nat} {ms : List Mk} (h : Lst l n ms) (t : Nat) : clk l n t = Proofs.YtnldkmcijmbhcaaGreat.kn ms (evI l n) t + if (evI l n).thread = (t : Int) then 1 else 0 := by
  rw [clk_top, h.kn]

/-- The mark takes the place of the first like one, or stands behind. -/
def keepM : List Mk → Mk → List Mk
  | [], m => [m]
  | x :: ms, m => if x.e = m.e then m :: ms else x :: keepM ms m
theorem keepM_at {ms : List Mk} {m : Mk} {k : Nat} (hk : k < ms.length) (hn : ∀ i (h : i < k), (ms[i]'(by omega)).e ≠ m.e) (he : ms[k].e = m.e) : keepM ms m = ms.set k m := by
  induction ms generalizing k with
  | nil => simp at hk
  | cons x ms ih =>
    unfold keepM
    cases k with
    | zero =>
      simp only [List.getElem_cons_zero] at he
      rw [if_pos he]
      rfl
    | succ k =>
      have h0 := hn 0 (by omega)
      simp only [List.getElem_cons_zero] at h0
      rw [if_neg h0, List.set_cons_succ]
      congr 1
      refine ih (by simpa using hk) (fun i hi => ?_) (by simpa using he)
      have := hn (i + 1) (by omega)
      simpa using this
theorem keepM_new {ms : List Mk} {m : Mk} (hn : ∀ x ∈ ms, x.e ≠ m.e) : keepM ms m = ms ++ [m] := by
  induction ms with
  | nil => rfl
  | cons x ms ih =>
    unfold keepM
    rw [if_neg (hn x (by simp)), ih (fun y hy => hn y (by simp [hy]))]
    rfl
theorem keepM_len (ms : List Mk) (m : Mk) : (keepM ms m).length ≤ ms.length + 1 := by
  induction ms with
  | nil => simp [keepM]
  | cons x ms ih =>
    unfold keepM
    split
    · simp
    · simpa using ih
theorem mem_keepM (ms : List Mk) (m : Mk) : m ∈ keepM ms m := by
  induction ms with
  | nil => simp [keepM]
  | cons x ms ih => unfold keepM; split <;> simp [ih]
theorem of_mem_keepM {ms : List Mk} {m x : Mk} (h : x ∈ keepM ms m) : x = m ∨ x ∈ ms := by
  induction ms with
  | nil => simp [keepM] at h; exact .inl h
  | cons y ms ih =>
    unfold keepM at h
    split at h
    · rcases List.mem_cons.1 h with h | h
      · exact .inl h
      · exact .inr (by simp [h])
    · rcases List.mem_cons.1 h with h | h
      · exact .inr (by simp [h])
      · rcases ih h with h | h
        · exact .inl h
        · exact .inr (by simp [h])
theorem mem_keepM_of {ms : List Mk} {m x : Mk} (h : x ∈ ms) (hne : x.e ≠ m.e) : x ∈ keepM ms m := by
  induction ms with
  | nil => cases h
  | cons y ms ih =>
    unfold keepM
    rcases List.mem_cons.1 h with rfl | h
    · rw [if_neg hne]
      simp
    · split
      · simp [h]
      · simp [ih h]

theorem Lst.keep {l : List Ev} {n : Nat} {ms : List Mk} (h : Lst l n ms) : Lst l (n + 1) (keepM ms (mkOf l n)) := by
  refine ⟨Nat.le_trans (keepM_len _ _) (by have := h.1; omega), fun m hm => ?_, fun i hi => ?_⟩
  · rcases of_mem_keepM hm with rfl | hm
    · exact ⟨n, by omega, rfl⟩
    · obtain ⟨i, hi, e⟩ := h.2.1 m hm
      exact ⟨i, by omega, e⟩
  · by_cases hin : i = n
    · subst hin
      exact ⟨i, Nat.le_refl _, hi, rfl, mem_keepM _ _⟩
    · obtain ⟨j, hij, hj, he, hm⟩ := h.2.2 i (by omega)
      by_cases hje : evI l j = evI l n
      · exact ⟨n, by omega, by omega, by rw [← he, hje], mem_keepM _ _⟩
      · exact ⟨j, hij, by omega, he, mem_keepM_of hm hje⟩

end Go.Proofs.YtnldkmcijmbhcaaGreat

/- Rows of events with their clocks; the contract of clock's known. -/
namespace Go.Proofs.YtnldkmcijmbhcaaGreat
open Go.RowKit

def mkCell (m : Mk) : List Value := evCell m.e ++ nums4 (fun t => (m.c t : Int))
theorem mkCell_len (m : Mk) : (mkCell m).length = 8 := rfl
theorem mkCell_one (m : Mk) : ∀ v ∈ mkCell m, v.oneCell' = true := by
  intro v hv
  simp [mkCell, evCell, nums4] at hv
  rcases hv with rfl | rfl | rfl | rfl | rfl | rfl | rfl | rfl <;> rfl

theorem RowAt.mk {w : World} {a : Option Addr} {ms : List Mk} (h : RowAt w a 8 mkCell ms) (k : Nat) (hk : k < ms.length) : ∃ b o, a = some ⟨b, o, none⟩ ∧
    (w.cell? ⟨b, o + k * 8, none⟩ = some (.int .i64 ms[k].e.thread) ∧ w.cell? ⟨b, o + k * 8 + 1, none⟩ = some (.int .i64 ms[k].e.kind) ∧ w.cell? ⟨b, o + k * 8 + 2, none⟩ = some (.int .i64 ms[k].e.obj) ∧ w.cell? ⟨b, o + k * 8 + 3, none⟩ = some (.bool ms[k].e.fail)) ∧
    (w.cell? ⟨b, o + k * 8 + 4, none⟩ = some (.int .i64 (ms[k].c 0)) ∧ w.cell? ⟨b, o + k * 8 + 5, none⟩ = some (.int .i64 (ms[k].c 1)) ∧ w.cell? ⟨b, o + k * 8 + 6, none⟩ = some (.int .i64 (ms[k].c 2)) ∧ w.cell? ⟨b, o + k * 8 + 7, none⟩ = some (.int .i64 (ms[k].c 3))) := by
  obtain ⟨b, o, rfl, hc⟩ := h.2 (by intro e; simp [e] at hk)
  exact ⟨b, o, rfl, ⟨hc k hk 0 _ rfl, hc k hk 1 _ rfl, hc k hk 2 _ rfl, hc k hk 3 _ rfl⟩, hc k hk 4 _ rfl, hc k hk 5 _ rfl, hc k hk 6 _ rfl, hc k hk 7 _ rfl⟩

theorem MidAt.only {w w' : World} {g b : Nat} {t : TypeId} {xs : List Value} (h : MidAt w g t xs) (ho : Only b w w') (hb : g ≠ b) : MidAt w' g t xs := (ho.block g h.lt hb).trans h
theorem MidAt.four {w : World} {g : Nat} {t : TypeId} {c : Nat → Int} (h : MidAt w g t (nums4 c)) : w.cell? ⟨g, 0, none⟩ = some (.int .i64 (c 0)) ∧ w.cell? ⟨g, 1, none⟩ = some (.int .i64 (c 1)) ∧ w.cell? ⟨g, 2, none⟩ = some (.int .i64 (c 2)) ∧ w.cell? ⟨g, 3, none⟩ = some (.int .i64 (c 3)) :=
  ⟨by rw [h.cell]; rfl, by rw [h.cell]; rfl, by rw [h.cell]; rfl, by rw [h.cell]; rfl⟩
theorem mid_new (w : World) (t : TypeId) (c : Nat → Int) : MidAt (w.alloc (.cells #[.int .i64 (c 0), .int .i64 (c 1), .int .i64 (c 2), .int .i64 (c 3)] t)) w.heap.size t (nums4 c) := heap_alloc_new w _

/-- The four numbers, the first j of them raised. -/
def mix4 (f c : Nat → Nat) (j : Nat) : Nat → Int := fun t => if t < j then (if f t < c t then (c t : Int) else (f t : Int)) else (f t : Int)
theorem mix4_set (f c : Nat → Nat) (j : Nat) (h : j < 4) : (nums4 (mix4 f c j)).set j (.int .i64 (if f j < c j then (c j : Int) else (f j : Int))) = nums4 (mix4 f c (j + 1)) := by
  rw [nums4_set _ _ h]
  apply nums4_congr
  intro t _
  unfold mix4
  by_cases e : t = j
  · subst e
    rw [if_pos rfl, if_pos (show t < t + 1 by omega)]
  · rw [if_neg e]
    by_cases h2 : t < j
    · rw [if_pos h2, if_pos (show t < j + 1 by omega)]
    · rw [if_neg h2, if_neg (show ¬ t < j + 1 by omega)]

theorem below_step {w8 W w' : World} (h1 : Below w8.heap.size w8 W) (hb : Below W.heap.size W w') : Below w8.heap.size w8 w' := h1.trans (hb.mono h1.size)

/-- What known holds in memory between two rounds. -/
def KnW (w : World) (e : Ev) (c : Nat → Int) (n0 : Nat) (w' : World) : Prop :=
  EvBox w' n0 e ∧ MidAt w' (n0 + 1) 118 (nums4 fun _ => 0) ∧ MidAt w' (n0 + 1 + 1) 118 (nums4 c) ∧ Below n0 w w'

theorem KnW.later {w w1 w' : World} {e : Ev} {c : Nat → Int} {n0 : Nat} (h : KnW w e c n0 w1) (hb : Below w1.heap.size w1 w') : KnW w e c n0 w' :=
  ⟨h.1.later hb, h.2.1.later hb, h.2.2.1.later hb, h.2.2.2.trans (hb.mono (by have := h.2.2.1.lt; omega))⟩
theorem KnW.set {w w1 : World} {e : Ev} {c : Nat → Int} {n0 : Nat} (h : KnW w e c n0 w1) (j : Nat) (d : Nat → Int) (v : Value) (hd : (nums4 c).set j v = nums4 d) : KnW w e d n0 (w1.setCell ⟨n0 + 1 + 1, j, none⟩ v) := by
  have ho : Only (n0 + 1 + 1) w1 (w1.setCell ⟨n0 + 1 + 1, j, none⟩ v) := (Only.refl _ _).setCell _ _
  refine ⟨h.1.only ho (by omega), h.2.1.only ho (by omega), ?_, h.2.2.2.setCell (p := ⟨n0 + 1 + 1, j, none⟩) (by show n0 ≤ n0 + 1 + 1; omega) v⟩
  rw [← hd]
  exact h.2.2.1.set j v

theorem max_ifN (a b : Nat) : (if a < b then (b : Int) else (a : Int)) = max (a : Int) (b : Int) := by split <;> omega

set_option maxRecDepth 100000 in
set_option maxHeartbeats 4000000 in
theorem known_any (a : Option Addr) (cap : Nat) (ms : List Mk) (e : Ev) (w : World) (hl : RowAt w a 8 mkCell ms) :
    Calls Tryz.prog 93 #[.slice a ms.length cap, .agg #[.int .i64 e.thread, .int .i64 e.kind, .int .i64 e.obj, .bool e.fail]] w fun r w' =>
      r = .returned (.agg #[.int .i64 (kn ms e 0), .int .i64 (kn ms e 1), .int .i64 (kn ms e 2), .int .i64 (kn ms e 3)]) ∧ Below w.heap.size w w' := by
  have hm := hl.1
  unfold maxLen at hm
  have HL := Lib.hid hl
  clear hl
  have H0 : Hid (KnW w e (fun t => (kn (ms.take 0) e t : Int)) w.heap.size (((w.alloc (.cells #[.int .i64 e.thread, .int .i64 e.kind, .int .i64 e.obj, .bool e.fail] 81)).alloc (.cells #[.int .i64 0, .int .i64 0, .int .i64 0, .int .i64 0] 118)).alloc (.cells #[.int .i64 0, .int .i64 0, .int .i64 0, .int .i64 0] 118))) := by
    have b1 := EvBox.new w e
    have b2 := mid_new (w.alloc (.cells #[.int .i64 e.thread, .int .i64 e.kind, .int .i64 e.obj, .bool e.fail] 81)) 118 (fun _ => 0)
    have b3 := mid_new ((w.alloc (.cells #[.int .i64 e.thread, .int .i64 e.kind, .int .i64 e.obj, .bool e.fail] 81)).alloc (.cells #[.int .i64 0, .int .i64 0, .int .i64 0, .int .i64 0] 118)) 118 (fun _ => 0)
    simp only [World.size_alloc] at b2 b3
    exact ⟨(b1.later (below_alloc2 _ _ _)), b2.later (below_alloc1 _ _), b3, ((below_alloc2 w _ _).alloc (by simp; omega) _)⟩
  go_enter Tryz.func93, Tryz.ntmps93
  go_wp2
  go_loopw [11] (fun i wr => ∃ k : Nat, k ≤ ms.length ∧ i = .int .i64 k ∧ Hid (KnW w e (fun t => (kn (ms.take k) e t : Int)) w.heap.size wr)) (fun i _ => ms.length - (intOf i).toNat)
  case atStart => exact ⟨0, Nat.zero_le _, rfl, H0⟩
  case round =>
    clear H0
    obtain ⟨k, hk, rfl, HK⟩ := hrel
    by_cases hlt : k < ms.length
    · obtain ⟨b, o, rfl, hx, hc⟩ := HL.out.mk k hlt
      have HKT := Lib.hid (fun t => kn_take ms e t k hlt)
      have hb := HK.out.2.2.2
      obtain ⟨e0, e1, e2, e3⟩ := HK.out.1.cells
      obtain ⟨x0, x1, x2, x3⟩ := hx
      obtain ⟨y0, y1, y2, y3⟩ := hc
      have g0 := cell_later hb x0
      have g1 := cell_later hb x1
      have g2 := cell_later hb x2
      have g3 := cell_later hb x3
      have HC := Lib.hid (And.intro (cell_later hb y0) (And.intro (cell_later hb y1) (And.intro (cell_later hb y2) (cell_later hb y3))))
      clear x0 x1 x2 x3 y0 y1 y2 y3
      generalize ms[k] = m at *
      have HQ : Hid (∀ w', Below wr.heap.size wr w' → w'.cell? ⟨b, o + k * 8, none⟩ = some (.int .i64 m.e.thread) ∧ w'.cell? ⟨b, o + k * 8 + 1, none⟩ = some (.int .i64 m.e.kind) ∧ w'.cell? ⟨b, o + k * 8 + 2, none⟩ = some (.int .i64 m.e.obj) ∧ w'.cell? ⟨b, o + k * 8 + 3, none⟩ = some (.bool m.e.fail) ∧
          w'.cell? ⟨w.heap.size, 0, none⟩ = some (.int .i64 e.thread) ∧ w'.cell? ⟨w.heap.size, 1, none⟩ = some (.int .i64 e.kind) ∧ w'.cell? ⟨w.heap.size, 2, none⟩ = some (.int .i64 e.obj) ∧ w'.cell? ⟨w.heap.size, 3, none⟩ = some (.bool e.fail) ∧ Below wr.heap.size wr w') := by
        intro w' h
        exact ⟨cell_later h g0, cell_later h g1, cell_later h g2, cell_later h g3, cell_later h e0, cell_later h e1, cell_later h e2, cell_later h e3, h⟩
      have hB9 : Below wr.heap.size wr wr.drew := (Below.refl _ _).drew
      obtain ⟨D, hD⟩ : ∃ D, dep m.e e = D := ⟨_, rfl⟩
      have HD1 : Hid (∀ w', Calls Tryz.prog 71 #[.agg #[.int .i64 m.e.thread, .int .i64 m.e.kind, .int .i64 m.e.obj, .bool m.e.fail], .agg #[.int .i64 e.thread, .int .i64 e.kind, .int .i64 e.obj, .bool e.fail]] w' fun r w'' => r = .returned (.bool D) ∧ Below w'.heap.size w' w'') := fun w' => by rw [← hD]; exact depends_any m.e e w'
      have HDD := Lib.hid hD
      clear hD e0 e1 e2 e3 g0 g1 g2 g3
      go_wp2_with fail
      go_region_held3 (fun w' => w'.cell? ⟨b, o + k * 8, none⟩ = some (.int .i64 m.e.thread) ∧ w'.cell? ⟨b, o + k * 8 + 1, none⟩ = some (.int .i64 m.e.kind) ∧ w'.cell? ⟨b, o + k * 8 + 2, none⟩ = some (.int .i64 m.e.obj) ∧ w'.cell? ⟨b, o + k * 8 + 3, none⟩ = some (.bool m.e.fail) ∧
          w'.cell? ⟨w.heap.size, 0, none⟩ = some (.int .i64 e.thread) ∧ w'.cell? ⟨w.heap.size, 1, none⟩ = some (.int .i64 e.kind) ∧ w'.cell? ⟨w.heap.size, 2, none⟩ = some (.int .i64 e.obj) ∧ w'.cell? ⟨w.heap.size, 3, none⟩ = some (.bool e.fail) ∧ Below wr.heap.size wr w') (first | exact HQ.out _ hB9 | exact HQ.out _ hB10)
        (first | (go_at_call 71; ((with_reducible refine (HD1.out _).mono ?_); rintro r w10 ⟨rfl, hb10⟩; have hB10 := below_step hB9 hb10; clear hB9)))
      have HK1 := Lib.hid (HK.out.later hB10)
      have HC1 := Lib.hid (And.intro (cell_later hB10 HC.out.1) (And.intro (cell_later hB10 HC.out.2.1) (And.intro (cell_later hB10 HC.out.2.2.1) (cell_later hB10 HC.out.2.2.2))))
      clear HK HC hB10 hb HQ
      cases D
      · have HR : Hid (KnW w e (fun t => (kn (ms.take (k + 1)) e t : Int)) w.heap.size w10) := by
          have h : (fun t => (kn (ms.take (k + 1)) e t : Int)) = fun t => (kn (ms.take k) e t : Int) := by
            funext t
            rw [HKT.out t, HDD.out, if_neg (by simp)]
          show KnW _ _ _ _ _
          rw [h]
          exact HK1.out
        clear HKT HDD HD1 HC1
        go_wp2
        go_roundw
        case rel => exact ⟨k + 1, by omega, by go_num, HR⟩
        case measure => simp [intOf]; omega
      · have HE : Hid (∀ t, mix4 (fun t => kn (ms.take k) e t) m.c 4 t = if t < 4 then (kn (ms.take (k + 1)) e t : Int) else kn (ms.take k) e t) := by
          intro t
          unfold mix4
          split
          · rw [HKT.out t, HDD.out, if_pos rfl]
            simp only [Nat.max_def]
            split <;> split <;> omega
          · rfl
        clear HKT HDD HD1
        obtain ⟨y0, y1, y2, y3⟩ := HC1.out
        go_wp2
        go_loopw [26] (fun j wr2 => ∃ q : Nat, q ≤ 4 ∧ j = .int .i64 q ∧ Hid (KnW w e (mix4 (fun t => kn (ms.take k) e t) m.c q) w.heap.size wr2)) (fun j _ => 4 - (intOf j).toNat)
        case atStart => exact ⟨0, by omega, rfl, HK1⟩
        case round =>
          clear y0 y1 y2 y3 HC1 HK1
          obtain ⟨q, hq, rfl, HM⟩ := hrel
          by_cases hq4 : q < 4
          · have hcell : wr.cell? ⟨w.heap.size + 1 + 1, q, none⟩ = some (.int .i64 (kn (ms.take k) e q)) := by
              rw [HM.out.2.2.1.cell, nums4_get _ hq4]
              unfold mix4
              rw [if_neg (by omega)]
            have hf := HM.out.2.2.1.frozen q
            have HS : Hid (KnW w e (mix4 (fun t => kn (ms.take k) e t) m.c (q + 1)) w.heap.size (wr.setCell ⟨w.heap.size + 1 + 1, q, none⟩ (.int .i64 (if kn (ms.take k) e q < m.c q then (m.c q : Int) else (kn (ms.take k) e q : Int))))) := HM.out.set q _ _ (mix4_set _ _ _ hq4)
            clear HM HE
            have hix := fun w => run_index4 (P := Tryz.prog) w (t := 118) (elem := 3) (fun t => (m.c t : Int)) q Tryz.underlying118 Tryz.underlying3 rfl (by kernel_rfl) hq4
            go_wp2
            go_roundw
            case rel => first | exact ⟨q + 1, by omega, by go_num, HS⟩ | exact ⟨q + 1, by omega, by go_num, by have h := HS; rw [max_ifN] at h; exact h⟩
            case measure => simp [intOf]; omega
          · obtain rfl : q = 4 := by omega
            have HR : Hid (KnW w e (fun t => (kn (ms.take (k + 1)) e t : Int)) w.heap.size wr) := by
              have h := HM.out
              have h2 : nums4 (mix4 (fun t => kn (ms.take k) e t) m.c 4) = nums4 (fun t => (kn (ms.take (k + 1)) e t : Int)) := nums4_congr fun t ht => by rw [HE.out t, if_pos ht]
              exact ⟨h.1, h.2.1, by rw [← h2]; exact h.2.2.1, h.2.2.2⟩
            clear HM HE
            go_wp2
            go_roundw
            case rel => exact ⟨k + 1, by omega, by go_num, HR⟩
            case measure => simp [intOf]; omega
    · obtain rfl : k = ms.length := by omega
      have HK2 : Hid (KnW w e (fun t => (kn ms e t : Int)) w.heap.size wr) := by have h := HK.out; rw [List.take_length] at h; exact h
      clear HK
      obtain ⟨c0, c1, c2, c3⟩ := HK2.out.2.2.1.four
      obtain ⟨z0, z1, z2, z3⟩ := HK2.out.2.1.four
      have f0 := HK2.out.2.1.frozen 0
      have f1 := HK2.out.2.1.frozen 1
      have f2 := HK2.out.2.1.frozen 2
      have f3 := HK2.out.2.1.frozen 3
      have hb := HK2.out.2.2.2
      go_wp2
      refine bodyPost_ret (v := .agg #[.int .i64 (kn ms e 0), .int .i64 (kn ms e 1), .int .i64 (kn ms e 2), .int .i64 (kn ms e 3)]) ?_ rfl ⟨rfl, ?_⟩
      · simp [results, Tryz.results93, go_sem, z0, z1, z2, z3]
      · exact (((hb.setCell (p := ⟨w.heap.size + 1, 0, none⟩) (by simp) _).setCell (p := ⟨w.heap.size + 1, 1, none⟩) (by simp) _).setCell (p := ⟨w.heap.size + 1, 2, none⟩) (by simp) _).setCell (p := ⟨w.heap.size + 1, 3, none⟩) (by simp) _

end Go.Proofs.YtnldkmcijmbhcaaGreat
