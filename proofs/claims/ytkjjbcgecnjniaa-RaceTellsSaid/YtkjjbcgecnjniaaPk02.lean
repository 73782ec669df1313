import Derived.BigQuiet
import Derived.Deep.QuietTactic
import Derived.WalkLawsBesides
import Derived.Lib.Hide
import Derived.Laws.Rows
import Derived.Laws.Tables
import Derived.StillTailTactics
import Derived.Laws.StructEq
import Derived.ProofKit
import Derived.Lib.SmallJoins
import Derived.Deep.Slices
import Derived.Deep.Fields
import Derived.OpenShut
import Derived.Laws.OwnMore
import Derived.Maps.AppendAt
import Derived.Lib.SliceRun
import Derived.Deep.OwnRows
import Derived.Deep.RegionHeld3
import Derived.Test.YtkjjbcgecnjniaaRows
import Derived.Test.YtkjjbcgecnjniaaPk01

/- Races, plainly. -/
namespace Go.Proofs.Ytkjjbcgecnjniaa

/-- The last one of a thread's events among the first n. -/
def lastT (l : List Ev) (t : Int) : Nat → Option Nat
  | 0 => none
  | n + 1 => if (evI l n).thread = t then some n else lastT l t n
theorem lastT_some {l : List Ev} {t : Int} : ∀ {n j : Nat}, lastT l t n = some j → j < n ∧ (evI l j).thread = t := by
  intro n
  induction n with
  | zero => intro j h; cases h
  | succ n ih =>
    intro j h
    rw [lastT] at h
    split at h
    · rename_i ht
      injection h with h
      subst h
      exact ⟨Nat.lt_succ_self _, ht⟩
    · have := ih h
      exact ⟨by omega, this.2⟩
theorem lastT_none {l : List Ev} {t : Int} : ∀ {n : Nat}, lastT l t n = none → ∀ j, j < n → (evI l j).thread ≠ t := by
  intro n
  induction n with
  | zero => intro _ j hj; omega
  | succ n ih =>
    intro h j hj
    rw [lastT] at h
    split at h
    · cases h
    · rename_i ht
      by_cases e : j = n
      · subst e; exact ht
      · exact ih h j (by omega)
/-- Does it happen before the thread's last event? -/
def knownB (l : List Ev) (t : Int) (i : Nat) : Bool := match lastT l t l.length with
  | none => false
  | some j => hb l i j
/-- The places that race with what a thread does next. -/
def raceAt (l : List Ev) (e : Ev) (i : Nat) : Bool := decide ((evI l i).thread ≠ e.thread) && dep (evI l i) e && !knownB l e.thread i
def withL (l : List Ev) (e : Ev) : List Nat := (List.range l.length).filter (raceAt l e)
def revAt (l : List Ev) (k : Nat) : List (Nat × Int) := (withL (l.take k) (evI l k)).map fun i => (i, (evI l k).thread)
def revTo (l : List Ev) (n : Nat) : List (Nat × Int) := (List.range n).flatMap (revAt l)
def revL (l : List Ev) : List (Nat × Int) := revTo l l.length
def racesTo (s : St) (l : List Ev) (n : Nat) : List (Nat × Int) := (List.range n).flatMap fun (t : Nat) => match s.next (t : Int) with
  | none => []
  | some e => (withL l e).map fun i => (i, (t : Int))
def racesL (s : St) (l : List Ev) : List (Nat × Int) := racesTo s l s.ts.length

theorem mem_withL {l : List Ev} {e : Ev} {i : Nat} : i ∈ withL l e ↔ i < l.length ∧ (evI l i).thread ≠ e.thread ∧ dep (evI l i) e = true ∧ knownB l e.thread i = false := by
  unfold withL raceAt
  rw [List.mem_filter, List.mem_range, Bool.and_eq_true, Bool.and_eq_true, decide_eq_true_eq, Bool.not_eq_true']
  exact ⟨fun h => ⟨h.1, h.2.1.1, h.2.1.2, h.2.2⟩, fun h => ⟨h.1, ⟨h.2.1, h.2.2.1⟩, h.2.2.2⟩⟩
theorem mem_revTo {l : List Ev} {n : Nat} {x : Nat × Int} : x ∈ revTo l n ↔ ∃ k, k < n ∧ x.1 ∈ withL (l.take k) (evI l k) ∧ x.2 = (evI l k).thread := by
  unfold revTo revAt
  rw [List.mem_flatMap]
  constructor
  · rintro ⟨k, hk, h⟩
    obtain ⟨i, hi, rfl⟩ := List.mem_map.1 h
    exact ⟨k, List.mem_range.1 hk, hi, rfl⟩
  · rintro ⟨k, hk, h1, h2⟩
    refine ⟨k, List.mem_range.2 hk, List.mem_map.2 ⟨x.1, h1, ?_⟩⟩
    rw [← h2]
theorem revTo_succ (l : List Ev) (n : Nat) : revTo l (n + 1) = revTo l n ++ revAt l n := by
  unfold revTo
  rw [List.range_succ, List.flatMap_append]
  simp
theorem racesTo_succ (s : St) (l : List Ev) (n : Nat) : racesTo s l (n + 1) = racesTo s l n ++ match s.next n with
    | none => []
    | some e => (withL l e).map fun i => (i, (n : Int)) := by
  unfold racesTo
  rw [List.range_succ, List.flatMap_append]
  simp
/-- The races of a beginning are the beginning of the races. -/
theorem revTo_take {l : List Ev} {m n : Nat} (hm : m ≤ n) (hn : n ≤ l.length) : revTo (l.take n) m = revTo l m := by
  unfold revTo
  have : ∀ k, k ∈ List.range m → revAt (l.take n) k = revAt l k := by
    intro k hk
    have hk' := List.mem_range.1 hk
    have h1 : evI (l.take n) k = evI l k := by
      unfold evI
      rw [getD_lt _ (by rw [List.length_take]; omega), getD_lt _ (by omega), List.getElem_take]
    have h2 : (l.take n).take k = l.take k := by rw [List.take_take]; congr 1; omega
    unfold revAt
    rw [h1, h2]
  generalize List.range m = R at this
  induction R with
  | nil => rfl
  | cons k R ih => rw [List.flatMap_cons, List.flatMap_cons, this k List.mem_cons_self, ih fun j hj => this j (List.mem_cons_of_mem _ hj)]
theorem revL_take {l : List Ev} {m : Nat} (hm : m ≤ l.length) : revL (l.take m) = revTo l m := by
  unfold revL
  rw [List.length_take, Nat.min_eq_left hm]
  exact revTo_take (Nat.le_refl _) hm
theorem revTo_prefix (l : List Ev) {m n : Nat} (h : m ≤ n) : ∃ z, revTo l n = revTo l m ++ z := by
  induction n with
  | zero => exact ⟨[], by rw [List.append_nil, show m = 0 by omega]⟩
  | succ n ih =>
    by_cases e : m = n + 1
    · subst e; exact ⟨[], (List.append_nil _).symm⟩
    · obtain ⟨z, hz⟩ := ih (by omega)
      exact ⟨z ++ revAt l n, by rw [revTo_succ, hz, List.append_assoc]⟩
theorem revL_snoc (l : List Ev) (e : Ev) : revL (l ++ [e]) = revL l ++ (withL l e).map fun i => (i, e.thread) := by
  unfold revL
  rw [List.length_append, List.length_singleton, revTo_succ]
  have h1 : revTo (l ++ [e]) l.length = revTo l l.length := by
    have := revTo_take (l := l ++ [e]) (m := l.length) (n := l.length) (Nat.le_refl _) (by simp)
    rw [List.take_left'] at this
    · exact this.symm
    · rfl
  have h2 : evI (l ++ [e]) l.length = e := by
    unfold evI
    rw [getD_lt _ (by simp)]
    simp
  rw [h1]
  unfold revAt
  rw [h2, List.take_left' rfl]
/-- Two neighbours race, just if they are of unlike threads and depend on one another. -/
theorem race_next {l : List Ev} {i : Nat} (h : i + 1 < l.length) : i ∈ withL (l.take (i + 1)) (evI l (i + 1)) ↔ (evI l i).thread ≠ (evI l (i + 1)).thread ∧ dep (evI l i) (evI l (i + 1)) = true := by
  have h1 : evI (l.take (i + 1)) i = evI l i := by
    unfold evI
    rw [getD_lt _ (by rw [List.length_take]; omega), getD_lt _ (by omega), List.getElem_take]
  rw [mem_withL, h1]
  refine ⟨fun h => ⟨h.2.1, h.2.2.1⟩, fun hh => ⟨by rw [List.length_take]; omega, hh.1, hh.2, ?_⟩⟩
  unfold knownB
  cases hl : lastT (l.take (i + 1)) (evI l (i + 1)).thread (l.take (i + 1)).length with
  | none => rfl
  | some j =>
    obtain ⟨g1, g2⟩ := lastT_some hl
    rw [List.length_take] at g1
    show hb _ i j = false
    rw [Bool.eq_false_iff]
    intro hb1
    have := hb_le hb1
    obtain rfl : i = j := by omega
    rw [h1] at g2
    exact hh.1 g2
theorem found_iff {l : List Ev} {i : Nat} (h : i + 1 < l.length) : (i, (evI l (i + 1)).thread) ∈ revTo l (i + 2) ↔ (evI l i).thread ≠ (evI l (i + 1)).thread ∧ dep (evI l i) (evI l (i + 1)) = true := by
  rw [mem_revTo, ← race_next h]
  constructor
  · rintro ⟨k, hk, h1, h2⟩
    dsimp only at h1 h2
    have := (mem_withL.1 h1).1
    rw [List.length_take] at this
    obtain rfl : k = i + 1 := by omega
    exact h1
  · intro h1
    exact ⟨i + 1, by omega, h1, rfl⟩

/-- Events of unlike threads don't depend on one another. -/
def Loose (l : List Ev) : Prop := ∀ a ∈ l, ∀ b ∈ l, a.thread ≠ b.thread → dep a b = false
theorem no_cross {l : List Ev} (h : revL l = []) : ∀ k, k < l.length → ∀ i, i < k → (evI l i).thread ≠ (evI l k).thread → dep (evI l i) (evI l k) = false := by
  intro k
  induction k using Nat.strongRecOn with
  | _ k ih =>
    intro hk i hi ht
    rw [Bool.eq_false_iff]
    intro hd
    have hnot : i ∉ withL (l.take k) (evI l k) := by
      intro hm
      have : (i, (evI l k).thread) ∈ revL l := mem_revTo.2 ⟨k, hk, hm, rfl⟩
      rw [h] at this
      cases this
    have hI : ∀ j, j < k → evI (l.take k) j = evI l j := fun j hj => by
      unfold evI
      rw [getD_lt _ (by rw [List.length_take]; omega), getD_lt _ (by omega), List.getElem_take]
    rw [mem_withL, hI i hi, List.length_take] at hnot
    have hkn : knownB (l.take k) (evI l k).thread i = true := by
      rw [← Bool.not_eq_false]
      intro e
      exact hnot ⟨by omega, ht, hd, e⟩
    unfold knownB at hkn
    cases hl : lastT (l.take k) (evI l k).thread (l.take k).length with
    | none => rw [hl] at hkn; cases hkn
    | some j =>
      rw [hl] at hkn
      obtain ⟨g1, g2⟩ := lastT_some hl
      rw [List.length_take] at g1
      have hjk : j < k := by omega
      rw [hI j hjk] at g2
      -- a chain from i to j would have two of unlike threads that depend on one another
      have chain : ∀ m, m < k → ∀ a, hb (l.take k) a m = true → (evI l a).thread = (evI l m).thread := by
        intro m
        induction m using Nat.strongRecOn with
        | _ m ihm =>
          intro hm a ha
          rcases (hb_def _ a m).1 ha with rfl | ⟨q, hq, hdq, haq⟩
          · rfl
          · rw [hI q (by omega), hI m hm] at hdq
            have h1 := ihm q hq (by omega) a haq
            rw [h1]
            apply Classical.byContradiction
            intro hne
            have := ih m hm (by omega) q hq hne
            rw [this] at hdq
            cases hdq
      have := chain j hjk i hkn
      rw [g2] at this
      exact ht this
theorem loose_of {l : List Ev} (h : revL l = []) : Loose l := by
  have key := no_cross h
  intro a ha b hb ht
  obtain ⟨i, hi, rfl⟩ := List.getElem_of_mem ha
  obtain ⟨j, hj, rfl⟩ := List.getElem_of_mem hb
  rw [← evI_get hi, ← evI_get hj] at ht ⊢
  rcases Nat.lt_trichotomy i j with hij | rfl | hij
  · exact key j hj i hij ht
  · exact absurd rfl ht
  · exact dep_symm' (key i hi j hij (Ne.symm ht))
/-- Those of one thread first. -/
theorem loose_first {l : List Ev} (h : Loose l) (t : Int) : Sim (l.filter (fun e => decide (e.thread = t)) ++ l.filter (fun e => !decide (e.thread = t))) l := by
  induction l with
  | nil => exact Sim.refl _
  | cons e l ih =>
    have ih' := ih fun a ha b hb => h a (List.mem_cons_of_mem _ ha) b (List.mem_cons_of_mem _ hb)
    by_cases ht : e.thread = t
    · have h1 : (e :: l).filter (fun e => decide (e.thread = t)) = e :: l.filter (fun e => decide (e.thread = t)) := by rw [List.filter_cons_of_pos (by simp [ht])]
      have h2 : (e :: l).filter (fun e => !decide (e.thread = t)) = l.filter (fun e => !decide (e.thread = t)) := by rw [List.filter_cons_of_neg (by simp [ht])]
      rw [h1, h2, List.cons_append]
      exact sim_cons e ih'
    · have h1 : (e :: l).filter (fun e => decide (e.thread = t)) = l.filter (fun e => decide (e.thread = t)) := by rw [List.filter_cons_of_neg (by simp [ht])]
      have h2 : (e :: l).filter (fun e => !decide (e.thread = t)) = e :: l.filter (fun e => !decide (e.thread = t)) := by rw [List.filter_cons_of_pos (by simp [ht])]
      rw [h1, h2]
      refine (sim_front fun x hx => ?_).trans (sim_cons e ih')
      obtain ⟨hx1, hx2⟩ := List.mem_filter.1 hx
      rw [decide_eq_true_eq] at hx2
      exact h e List.mem_cons_self x (List.mem_cons_of_mem _ hx1) (by rw [hx2]; exact ht)
/-- Each of some threads' events, one behind the other. -/
def byThr (l : List Ev) (ts : List Int) : List Ev := ts.flatMap fun t => l.filter fun e => decide (e.thread = t)
theorem loose_sub {l : List Ev} (h : Loose l) (q : Ev → Bool) : Loose (l.filter q) := fun a ha b hb => h a (List.mem_filter.1 ha).1 b (List.mem_filter.1 hb).1
theorem sim_left (x : List Ev) {a b : List Ev} (h : Sim a b) : Sim (x ++ a) (x ++ b) := by
  induction x with
  | nil => exact h
  | cons e x ih => exact sim_cons e ih
theorem loose_by (ts : List Int) : ∀ {l : List Ev}, Loose l → ts.Nodup → (∀ e ∈ l, e.thread ∈ ts) → Sim (byThr l ts) l := by
  induction ts with
  | nil =>
    intro l _ _ hm
    cases l with
    | nil => exact Sim.refl _
    | cons e l => exact absurd (hm e List.mem_cons_self) (by simp)
  | cons t ts ih =>
    intro l h hn hm
    obtain ⟨hn1, hn2⟩ := List.nodup_cons.1 hn
    have h1 := ih (l := l.filter fun e => !decide (e.thread = t)) (loose_sub h _) hn2 (fun e he => by
      obtain ⟨he1, he2⟩ := List.mem_filter.1 he
      simp at he2
      rcases List.mem_cons.1 (hm e he1) with h | h
      · exact absurd h he2
      · exact h)
    have h2 : byThr (l.filter fun e => !decide (e.thread = t)) ts = byThr l ts := by
      unfold byThr
      have : ∀ u ∈ ts, (l.filter fun e => !decide (e.thread = t)).filter (fun e => decide (e.thread = u)) = l.filter fun e => decide (e.thread = u) := by
        intro u hu
        rw [List.filter_filter]
        apply List.filter_congr
        intro e _
        by_cases hut : e.thread = u
        · have : e.thread ≠ t := fun h => hn1 (by rw [← h, hut]; exact hu)
          simp [hut]
          intro h'
          exact this (hut.trans h')
        · simp [hut]
      clear ih hn hm h1 hn1 hn2
      induction ts with
      | nil => rfl
      | cons u ts ih => rw [List.flatMap_cons, List.flatMap_cons, this u List.mem_cons_self, ih fun v hv => this v (List.mem_cons_of_mem _ hv)]
    rw [h2] at h1
    show Sim (l.filter (fun e => decide (e.thread = t)) ++ byThr l ts) l
    exact (sim_left _ h1).trans (loose_first h t)

end Go.Proofs.Ytkjjbcgecnjniaa

/- A row's unlike events, each with its places; who races, told by them. -/
namespace Go.Proofs.Ytkjjbcgecnjniaa

abbrev Gp := Ev × List (Nat × Nat)
/-- One event more: its place, and which one of its thread's it is. -/
def addG : List Gp → Ev → Nat × Nat → List Gp
  | [], e, p => [(e, [p])]
  | g :: gs, e, p => if g.1 = e then (g.1, g.2 ++ [p]) :: gs else g :: addG gs e p
def grp (l : List Ev) : Nat → List Gp
  | 0 => []
  | n + 1 => addG (grp l n) (evI l n) (n, num l n)
/-- The clock of a thread's last event among the first n. -/
def lasts (l : List Ev) (n : Nat) (t u : Int) : Nat := match lastT l t n with
  | none => 0
  | some j => clk l j u
/-- The places of one group that aren't known, falling. -/
def rcG (known : Nat) (ps : List (Nat × Nat)) : List Nat := ((ps.filter fun p => decide (known < p.2)).map (·.1)).reverse
def rcL (ls : Int → Int → Nat) (gs : List Gp) (e : Ev) : List Nat :=
  gs.flatMap fun g => if g.1.thread ≠ e.thread ∧ dep g.1 e = true then rcG (ls e.thread g.1.thread) g.2 else []
/-- All places. -/
def allG (gs : List Gp) : List Nat := gs.flatMap fun g => g.2.map (·.1)
theorem allG_add (gs : List Gp) (e : Ev) (p : Nat × Nat) : (allG (addG gs e p)).Perm (allG gs ++ [p.1]) := by
  induction gs with
  | nil => exact List.Perm.refl _
  | cons g gs ih =>
    unfold addG
    split
    · unfold allG
      rw [List.flatMap_cons, List.flatMap_cons, List.map_append]
      simp only [List.map_cons, List.map_nil, List.append_assoc]
      exact List.Perm.append_left _ List.perm_append_comm
    · unfold allG at *
      rw [List.flatMap_cons, List.flatMap_cons, List.append_assoc]
      exact List.Perm.append_left _ ih
theorem allG_grp (l : List Ev) (n : Nat) : (allG (grp l n)).Perm (List.range n) := by
  induction n with
  | zero => exact List.Perm.refl _
  | succ n ih =>
    rw [List.range_succ]
    exact (allG_add _ _ _).trans (List.Perm.append_right _ ih)
/-- What holds of each group: its places are those of its event, below n, and their numbers rise. -/
def GOk (l : List Ev) (n : Nat) (g : Gp) : Prop := (∀ p ∈ g.2, evI l p.1 = g.1 ∧ p.2 = num l p.1 ∧ p.1 < n) ∧ g.2.Pairwise (fun a b => a.2 < b.2)
theorem GOk.mono {l : List Ev} {n m : Nat} {g : Gp} (h : GOk l n g) (hm : n ≤ m) : GOk l m g :=
  ⟨fun p hp => ⟨(h.1 p hp).1, (h.1 p hp).2.1, Nat.lt_of_lt_of_le (h.1 p hp).2.2 hm⟩, h.2⟩
theorem num_lt {l : List Ev} {i n : Nat} (h : i < n) (ht : (evI l i).thread = (evI l n).thread) : num l i < num l n := by
  unfold num
  rw [ht]
  have h1 : cnt (isT l (evI l n).thread) (i + 1) ≤ cnt (isT l (evI l n).thread) n := cnt_mono _ h
  have h2 : cnt (isT l (evI l n).thread) n < cnt (isT l (evI l n).thread) (n + 1) := cnt_lt _ (Nat.lt_succ_self n) (by unfold isT; simp)
  omega
theorem gok_add {l : List Ev} {n : Nat} (gs : List Gp) (h : ∀ g ∈ gs, GOk l n g) : ∀ g ∈ addG gs (evI l n) (n, num l n), GOk l (n + 1) g := by
  induction gs with
  | nil =>
    intro g hg
    rw [addG, List.mem_singleton] at hg
    subst hg
    refine ⟨fun p hp => ?_, List.pairwise_singleton _ _⟩
    rw [List.mem_singleton] at hp
    subst hp
    exact ⟨rfl, rfl, Nat.lt_succ_self _⟩
  | cons g gs ih =>
    intro x hx
    unfold addG at hx
    split at hx
    · rename_i he
      rcases List.mem_cons.1 hx with rfl | hx
      · have hg := h g List.mem_cons_self
        refine ⟨fun p hp => ?_, ?_⟩
        · rcases List.mem_append.1 hp with hp | hp
          · exact ⟨(hg.1 p hp).1, (hg.1 p hp).2.1, Nat.lt_succ_of_lt (hg.1 p hp).2.2⟩
          · rw [List.mem_singleton] at hp
            subst hp
            exact ⟨he.symm, rfl, Nat.lt_succ_self _⟩
        · rw [List.pairwise_append]
          refine ⟨hg.2, List.pairwise_singleton _ _, fun a ha b hb => ?_⟩
          rw [List.mem_singleton] at hb
          subst hb
          obtain ⟨h1, h2, h3⟩ := hg.1 a ha
          rw [h2]
          exact num_lt h3 (by rw [h1, he])
      · exact (h x (List.mem_cons_of_mem _ hx)).mono (Nat.le_succ _)
    · rcases List.mem_cons.1 hx with rfl | hx
      · exact (h x List.mem_cons_self).mono (Nat.le_succ _)
      · exact ih (fun y hy => h y (List.mem_cons_of_mem _ hy)) x hx
theorem gok_grp (l : List Ev) (n : Nat) : ∀ g ∈ grp l n, GOk l n g := by
  induction n with
  | zero => intro g hg; cases hg
  | succ n ih => exact gok_add _ ih

/-- The places, rising, that race with e: told by clocks. -/
def rcQ (l : List Ev) (n : Nat) (e : Ev) (i : Nat) : Bool := decide ((evI l i).thread ≠ e.thread) && dep (evI l i) e && decide (lasts l n e.thread (evI l i).thread < num l i)
def raced (l : List Ev) (n : Nat) (e : Ev) : List Nat := (List.range n).filter (rcQ l n e)
theorem rcG_perm {l : List Ev} {n : Nat} {e : Ev} {g : Gp} (h : GOk l n g) :
    (if g.1.thread ≠ e.thread ∧ dep g.1 e = true then rcG (lasts l n e.thread g.1.thread) g.2 else []).Perm ((g.2.map (·.1)).filter (rcQ l n e)) := by
  by_cases hc : g.1.thread ≠ e.thread ∧ dep g.1 e = true
  · rw [if_pos hc]
    refine (List.reverse_perm _).trans ?_
    have : (g.2.map (·.1)).filter (rcQ l n e) = (g.2.filter fun p => decide (lasts l n e.thread g.1.thread < p.2)).map (·.1) := by
      rw [List.filter_map]
      congr 1
      apply List.filter_congr
      intro p hp
      obtain ⟨h1, h2, _⟩ := h.1 p hp
      show rcQ l n e p.1 = _
      unfold rcQ
      rw [h1, ← h2, hc.2, decide_eq_true hc.1]
      rfl
    rw [this]
  · rw [if_neg hc]
    have : (g.2.map (·.1)).filter (rcQ l n e) = [] := by
      rw [List.filter_eq_nil_iff]
      intro i hi hq
      obtain ⟨p, hp, rfl⟩ := List.mem_map.1 hi
      obtain ⟨h1, _, _⟩ := h.1 p hp
      unfold rcQ at hq
      rw [h1, Bool.and_eq_true, Bool.and_eq_true, decide_eq_true_eq] at hq
      exact hc hq.1
    rw [this]
theorem rcL_perm (l : List Ev) (n : Nat) (e : Ev) : (rcL (lasts l n) (grp l n) e).Perm (raced l n e) := by
  have key : ∀ gs : List Gp, (∀ g ∈ gs, GOk l n g) → (rcL (lasts l n) gs e).Perm ((allG gs).filter (rcQ l n e)) := by
    intro gs
    induction gs with
    | nil => intro _; exact List.Perm.refl _
    | cons g gs ih =>
      intro h
      unfold rcL allG at *
      rw [List.flatMap_cons, List.flatMap_cons, List.filter_append]
      exact List.Perm.append (rcG_perm (h g List.mem_cons_self)) (ih fun x hx => h x (List.mem_cons_of_mem _ hx))
  exact (key _ (gok_grp l n)).trans ((allG_grp l n).filter _)
/-- Sorted they are these. -/
theorem rcL_sorted (l : List Ev) (n : Nat) (e : Ev) {L : List Nat} (h1 : L.Perm (rcL (lasts l n) (grp l n) e)) (h2 : L.Pairwise (· ≤ ·)) : L = raced l n e := by
  have hp := h1.trans (rcL_perm l n e)
  have hr : (raced l n e).Pairwise (· ≤ ·) := (List.Pairwise.filter _ (List.pairwise_lt_range (n := n))).imp fun h => Nat.le_of_lt h
  exact hp.eq_of_pairwise (le := (· ≤ ·)) (fun a b _ _ h3 h4 => Nat.le_antisymm h3 h4) h2 hr

theorem evI_take {l : List Ev} {n i : Nat} (h : i < n) : evI (l.take n) i = evI l i := by
  unfold evI
  simp [List.getD, List.getElem?_take_of_lt h]
theorem lastT_take {l : List Ev} {t : Int} {n : Nat} : ∀ {m : Nat}, m ≤ n → lastT (l.take n) t m = lastT l t m := by
  intro m
  induction m with
  | zero => intro _; rfl
  | succ m ih =>
    intro h
    rw [lastT, lastT, evI_take (by omega), ih (by omega)]
/-- The document's races are these. -/
theorem withL_take {l : List Ev} {n : Nat} (e : Ev) (hn : n ≤ l.length) : withL (l.take n) e = raced l n e := by
  unfold withL raced
  have hl : (l.take n).length = n := by rw [List.length_take, Nat.min_eq_left hn]
  rw [hl]
  apply List.filter_congr
  intro i hi
  have hi' := List.mem_range.1 hi
  unfold raceAt rcQ
  rw [evI_take hi']
  congr 1
  unfold knownB lasts
  rw [hl, lastT_take (Nat.le_refl n)]
  cases hj : lastT l e.thread n with
  | none =>
    show (!false) = decide (0 < num l i)
    have : 0 < num l i := by
      unfold num
      rw [cnt_succ]
      have : isT l (evI l i).thread i = true := by unfold isT; simp
      rw [this]
      simp
    simp [this]
  | some j =>
    obtain ⟨hjn, _⟩ := lastT_some hj
    show (!(hb (l.take n) i j)) = decide (clk l j (evI l i).thread < num l i)
    have h1 : hb (l.take n) i j = hb l i j := by
      have := hb_append_eq (l := l.take n) (m := l.drop n) i (k := j) (by rw [hl]; exact hjn)
      rw [List.take_append_drop] at this
      exact this.symm
    rw [h1]
    cases hb' : hb l i j
    · have : ¬ num l i ≤ clk l j (evI l i).thread := fun h => by rw [← hb_iff_num, hb'] at h; cases h
      simp; omega
    · have := hb_iff_num.1 hb'
      simp; omega
theorem withL_raced (l : List Ev) (e : Ev) : withL l e = raced l l.length e := by
  have := withL_take (l := l) (n := l.length) e (Nat.le_refl _)
  rwa [List.take_length] at this
theorem raced_mem {l : List Ev} {n : Nat} {e : Ev} {i : Nat} (h : i ∈ raced l n e) : i < n := List.mem_range.1 (List.mem_filter.1 h).1
theorem raced_len (l : List Ev) (n : Nat) (e : Ev) : (raced l n e).length ≤ n := by
  have := List.length_filter_le (rcQ l n e) (List.range n)
  unfold raced
  rwa [List.length_range] at this
theorem rcL_len (l : List Ev) (n : Nat) (e : Ev) : (rcL (lasts l n) (grp l n) e).length ≤ n := by
  rw [(rcL_perm l n e).length_eq]
  exact raced_len l n e
theorem rcL_mem {l : List Ev} {n : Nat} {e : Ev} {i : Nat} (h : i ∈ rcL (lasts l n) (grp l n) e) : i < n := raced_mem ((rcL_perm l n e).mem_iff.1 h)
theorem addG_length_le (gs : List Gp) (e : Ev) (p : Nat × Nat) : (addG gs e p).length ≤ gs.length + 1 := by
  induction gs with
  | nil => exact Nat.le_refl _
  | cons g gs ih =>
    unfold addG
    split
    · simp
    · simp only [List.length_cons]; omega
theorem grp_len (l : List Ev) (n : Nat) : (grp l n).length ≤ n := by
  induction n with
  | zero => exact Nat.le_refl _
  | succ n ih =>
    have := addG_length_le (grp l n) (evI l n) (n, num l n)
    show (addG _ _ _).length ≤ _
    omega
theorem grp_small (l : List Ev) (n : Nat) : ∀ g ∈ grp l n, g.2.length ≤ n := by
  intro g hg
  have h1 := (allG_grp l n).length_eq
  rw [List.length_range] at h1
  rw [← h1]
  have h2 : (g.2.map (·.1)).Sublist (allG (grp l n)) := by
    have h3 := List.sublist_flatten_of_mem (List.mem_map.2 ⟨g, hg, rfl⟩ : g.2.map (·.1) ∈ (grp l n).map fun g => g.2.map (·.1))
    rwa [← List.flatMap_def] at h3
  simpa using h2.length_le
/-- Where the like event stands. -/
theorem addG_at {gs : List Gp} {e : Ev} {p : Nat × Nat} {k : Nat} (hk : k < gs.length) (hn : ∀ i (h : i < k), (gs[i]'(by omega)).1 ≠ e) (he : gs[k].1 = e) : addG gs e p = gs.set k (gs[k].1, gs[k].2 ++ [p]) := by
  induction gs generalizing k with
  | nil => simp at hk
  | cons g gs ih =>
    cases k with
    | zero =>
      unfold addG
      rw [if_pos (by simpa using he)]
      rfl
    | succ k =>
      unfold addG
      rw [if_neg (by simpa using hn 0 (by omega))]
      rw [List.set_cons_succ]
      congr 1
      exact ih (by simpa using hk) (fun i h => by simpa using hn (i + 1) (by omega)) (by simpa using he)
theorem addG_new {gs : List Gp} {e : Ev} {p : Nat × Nat} (hn : ∀ x ∈ gs, x.1 ≠ e) : addG gs e p = gs ++ [(e, [p])] := by
  induction gs with
  | nil => rfl
  | cons g gs ih =>
    unfold addG
    rw [if_neg (hn g List.mem_cons_self), ih fun x hx => hn x (List.mem_cons_of_mem _ hx)]
    rfl
theorem lasts_succ (l : List Ev) (n : Nat) (t u : Int) : lasts l (n + 1) t u = if (evI l n).thread = t then clk l n u else lasts l n t u := by
  unfold lasts
  rw [lastT]
  by_cases h : (evI l n).thread = t
  · rw [if_pos h, if_pos h]
  · rw [if_neg h, if_neg h]

/-- Of a falling row the first ones are all that aren't known. -/
theorem filter_take {ps : List (Nat × Nat)} {known : Nat} : ∀ {k : Nat}, ps.Pairwise (fun a b => b.2 < a.2) → k ≤ ps.length → (∀ i (_ : i < k), known < (ps.getD i (0, 0)).2) → (k < ps.length → (ps.getD k (0, 0)).2 ≤ known) → ps.filter (fun p => decide (known < p.2)) = ps.take k := by
  induction ps with
  | nil => intro k _ hk _ _; simp
  | cons p ps ih =>
    intro k hp hk h1 h2
    rw [List.pairwise_cons] at hp
    cases k with
    | zero =>
      have h0 : p.2 ≤ known := by simpa using h2 (by simp)
      rw [List.take_zero, List.filter_eq_nil_iff]
      intro x hx hq
      rw [decide_eq_true_eq] at hq
      rcases List.mem_cons.1 hx with rfl | hx
      · omega
      · have := hp.1 x hx; omega
    | succ k =>
      have h0 : known < p.2 := by simpa using h1 0 (by omega)
      rw [List.filter_cons_of_pos (by simpa using h0), List.take_succ_cons]
      congr 1
      exact ih hp.2 (by simpa using hk) (fun i h => by simpa using h1 (i + 1) (by omega)) (fun h => by simpa using h2 (by simpa using h))
theorem rcG_take {ps : List (Nat × Nat)} {known k : Nat} (hs : ps.Pairwise (fun a b => a.2 < b.2)) (hk : k ≤ ps.length) (h1 : ∀ i (_ : i < k), known < (ps.reverse.getD i (0, 0)).2) (h2 : k < ps.length → (ps.reverse.getD k (0, 0)).2 ≤ known) : rcG known ps = (ps.reverse.take k).map (·.1) := by
  unfold rcG
  rw [← List.map_reverse, ← List.filter_reverse, filter_take (k := k) (List.pairwise_reverse.2 hs) (by rw [List.length_reverse]; exact hk) h1 (by rw [List.length_reverse]; exact h2)]

end Go.Proofs.Ytkjjbcgecnjniaa

/- Memory: rows of numbers and of events, boxes, worlds that differ in a block. No function of the program. -/
namespace Go.RowKit
theorem Below.drewN {B : Nat} {a w : World} (h : Below B a w) {n : Nat} : Below B a (w.drewN n) := ⟨h.os, h.tape, h.output, h.size, h.block⟩
end Go.RowKit
namespace Go.Proofs.Ytkjjbcgecnjniaa
open Go.RowKit

theorem ret_bool {a b : Bool} (h : a = b) : Ending.returned (.bool a) = .returned (.bool b) := by rw [h]
theorem below_alloc1 (w : World) (o : Obj) : Below w.heap.size w (w.alloc o) := (Below.refl _ _).alloc (Nat.le_refl _) _
theorem below_alloc2 (w : World) (o o2 : Obj) : Below w.heap.size w ((w.alloc o).alloc o2) := ((Below.refl _ _).alloc (Nat.le_refl _) _).alloc (by simp) _

/-- All but block b is as it was. -/
structure Only (b : Nat) (w w' : World) : Prop where
  os : w'.os = w.os
  tape : w'.tape = w.tape
  output : w'.output = w.output
  size : w.heap.size ≤ w'.heap.size
  block : ∀ k, k < w.heap.size → k ≠ b → w'.heap[k]? = w.heap[k]?

theorem Only.refl (b : Nat) (w : World) : Only b w w := ⟨rfl, rfl, rfl, Nat.le_refl _, fun _ _ _ => rfl⟩
theorem Only.trans {b : Nat} {u v w : World} (h : Only b u v) (k : Only b v w) : Only b u w :=
  ⟨k.os.trans h.os, k.tape.trans h.tape, k.output.trans h.output, Nat.le_trans h.size k.size, fun i hi hb => (k.block i (Nat.lt_of_lt_of_le hi h.size) hb).trans (h.block i hi hb)⟩
theorem Only.of_below {b : Nat} {w w' : World} (h : Below w.heap.size w w') : Only b w w' := ⟨h.os, h.tape, h.output, h.size, fun k hk _ => h.block k hk⟩
theorem Only.drew {b : Nat} {w w' : World} (h : Only b w w') : Only b w w'.drew := ⟨h.os, h.tape, h.output, h.size, h.block⟩
theorem Only.alloc {b : Nat} {w w' : World} (h : Only b w w') (o : Obj) : Only b w (w'.alloc o) := h.trans (.of_below ((Below.refl _ _).alloc (Nat.le_refl _) _))
theorem Only.setCell {b : Nat} {w w' : World} (h : Only b w w') (o : Nat) (v : Value) : Only b w (w'.setCell ⟨b, o, none⟩ v) :=
  h.trans ⟨rfl, rfl, rfl, by simp [World.setCell], fun k _ hb => Below.heap_setCell _ _ _ _ hb⟩
theorem Only.below {b B : Nat} {w w' : World} (h : Only b w w') (hB : B ≤ b) (hw : B ≤ w.heap.size) : Below B w w' :=
  ⟨h.os, h.tape, h.output, h.size, fun k hk => h.block k (by omega) (by omega)⟩
def evV (e : Ev) : Value := .agg #[.int .i64 e.thread, .int .i64 e.kind, .int .i64 e.obj, .bool e.fail]

theorem below_set4 {B g : Nat} {a w : World} (h : Below B a w) (hg : B ≤ g) (v0 v1 v2 v3 : Value) : Below B a ((((w.setCell ⟨g, 0, none⟩ v0).setCell ⟨g, 1, none⟩ v1).setCell ⟨g, 2, none⟩ v2).setCell ⟨g, 3, none⟩ v3) :=
  (((h.setCell (p := ⟨g, 0, none⟩) hg _).setCell (p := ⟨g, 1, none⟩) hg _).setCell (p := ⟨g, 2, none⟩) hg _).setCell (p := ⟨g, 3, none⟩) hg _

theorem evV_mk (t k o : Int) (f : Bool) : evV ⟨t, k, o, f⟩ = .agg #[.int .i64 t, .int .i64 k, .int .i64 o, .bool f] := rfl

/-- A row of numbers of the call's own. -/
def OwnN (w : World) (B : Nat) (v : Value) (ns : List Int) : Prop := w.ownsRow B 3 1 v ns.length (ns.map (Value.int .i64))
theorem OwnN.alloc {w : World} {B : Nat} {v : Value} {l : List Int} (h : OwnN w B v l) (o : Obj) : OwnN (w.alloc o) B v l := World.ownsRow.alloc h o
theorem ownN_nil (w : World) (B : Nat) : OwnN w B (.slice none 0 0) [] := World.ownsRow_nil w B _ _
theorem ownsRow_later {w w' : World} {base : Nat} {e : TypeId} {size : Nat} {v : Value} {n : Nat} {xs : List Value} (h : w.ownsRow base e size v n xs) (hb : Below w.heap.size w w') : w'.ownsRow base e size v n xs := by
  obtain ⟨h1, h2 | ⟨g, cap, cur, h2, h3, h4, h5⟩⟩ := h
  · exact ⟨h1, .inl h2⟩
  · exact ⟨h1, .inr ⟨g, cap, cur, h2, h3, (hb.block g (Array.getElem?_eq_some_iff.1 h4).1).trans h4, h5⟩⟩
theorem OwnN.later {w w' : World} {B : Nat} {v : Value} {l : List Int} (h : OwnN w B v l) (hb : Below w.heap.size w w') : OwnN w' B v l := ownsRow_later h hb

theorem nums_new (w : World) (ms : List Int) (t : TypeId) (g : Nat) (hg : g = w.heap.size) : ∀ j u, (ms.map (Value.int .i64))[j]? = some u → (w.alloc (.cells (ms.map (Value.int .i64)).toArray t)).cell? (Addr.add ⟨g, 0, none⟩ j) = some u := by
  subst hg
  intro j u hj
  have e : Addr.add ⟨w.heap.size, 0, none⟩ j = ⟨w.heap.size, j, none⟩ := by
    unfold Addr.add
    split
    · rename_i h0; subst h0; rfl
    · simp
  rw [e, World.cell?_alloc_new]
  simpa using hj

theorem wp_appendN {w : World} {ops : Array Oper} {rest : List Oper} {o : Oper} {a : Act} {Q : Exit → Act → World → Prop} (hgd : o.guard = none) (s x : Operand)
    (ho : o.op = .call { callee := .builtin .append, args := #[s, x], argTypes := #[25, 25] }) (B : Nat) (v : Value) (ns : List Int) (hs : a.eval s = v) (hown : OwnN w B v ns)
    (ad : Addr) (m c : Nat) (hx : a.eval x = .slice (some ad) m c) (ms : List Int) (hm : ms.length = m) (hnews : ∀ j u, (ms.map (Value.int .i64))[j]? = some u → w.cell? (ad.add j) = some u)
    (hlen : ns.length + m ≤ 1000000000) (hB : B ≤ w.heap.size)
    (h : ∀ v' w', OwnN w' B v' (ns ++ ms) → Below B w w' → w.grownBy w' v.ownBlock → wpList Try.prog ops Q rest (a.put o.dst v') w') : wpList Try.prog ops Q (o :: rest) a w := by
  have hinfo : (Try.prog.info? 3).map (fun i => (i.zero, i.size, i.bytes)) = some (some (.int .i64 0), 1, 8) := by kernel_rfl
  obtain ⟨i, hi, hzz⟩ := Option.map_eq_some_iff.1 hinfo
  simp only [Prod.mk.injEq] at hzz
  obtain ⟨hz, hsz, hby⟩ := hzz
  refine wpList_append_own w hgd s x 25 ho B 3 i (.int .i64 0) 1 8 Try.underlying25 hi hz hsz hby rfl (by decide) v ns.length (ns.map (Value.int .i64)) hs hown ad m c (ms.map (Value.int .i64)) hx (by simp [hm]) hnews
    (by intro u hu; obtain ⟨y, _, rfl⟩ := List.mem_map.1 hu; rfl) (by unfold maxLen; omega) (by omega) hB ?_
  intro v' w' h1 h2 _
  refine h v' w' ?_ ((Below.refl B w).grown h2 hB (fun k hk => (World.ownsRow.lt hown k hk).1)) h2
  unfold OwnN
  rw [List.length_append, List.map_append, hm]
  exact h1

/-- From the place a on lie, in w, the numbers ns. -/
def NumsAt (w : World) (a : Option Addr) (ns : List Int) : Prop :=
  ns.length ≤ maxLen ∧ (ns ≠ [] → ∃ b o, a = some ⟨b, o, none⟩ ∧ ∀ i (h : i < ns.length), w.cell? ⟨b, o + i, none⟩ = some (.int .i64 ns[i]))

theorem NumsAt.later {w w' : World} {a : Option Addr} {ns : List Int} (h : NumsAt w a ns) (hb : Below w.heap.size w w') : NumsAt w' a ns := by
  refine ⟨h.1, fun hn => ?_⟩
  obtain ⟨b, o, rfl, hc⟩ := h.2 hn
  exact ⟨b, o, rfl, fun i hi => cell_later hb (hc i hi)⟩

theorem OwnN.form {w : World} {B : Nat} {v : Value} {ns : List Int} (h : OwnN w B v ns) (hm : ns.length ≤ 1000000) : ∃ a cap, v = .slice a ns.length cap ∧ NumsAt w a ns ∧ (a = none → cap = 0) := by
  obtain ⟨h1, ⟨h2, h3⟩ | ⟨g, cap, cur, h2, h3, h4, h5, h6, h7, h8⟩⟩ := h
  · have e : ns = [] := List.eq_nil_of_length_eq_zero h3
    subst e
    exact ⟨none, 0, h2, ⟨by simp [maxLen], fun h => absurd rfl h⟩, fun _ => rfl⟩
  · refine ⟨some ⟨g, 0, none⟩, cap, h2, ⟨by unfold maxLen; omega, fun _ => ⟨g, 0, rfl, fun i hi => ?_⟩⟩, by simp⟩
    have hj : (ns.map (Value.int .i64))[i]? = some (.int .i64 ns[i]) := by simp [hi]
    rw [← h8, List.getElem?_take_of_lt (by omega)] at hj
    simp [World.cell?, h4]
    simpa using hj

theorem run_part_one {P : Program} (w : World) {t : TypeId} {d : TypeDesc} {xs : Array Value} {o : Nat} {v : Value} (hu : P.underlying t = some d) (hd : (match d with | .struct _ | .array _ _ => true | _ => false) = false) (hx : xs[o]? = some v) : (part t xs o).run P w = .ok v w := by
  have hagg : (isAgg t).run P w = .ok false w := by
    unfold isAgg
    rw [Sem.run_bind, run_underlying hu w]
    cases d <;> simp_all
  simp [part, hagg, hx]

theorem run_eqFields_consI {P : Program} (w : World) (d : Nat) (xs ys : Array Value) (f : Field) (fs : List Field) (k k' : IntKind) (a b : Int) (hn : f.name ≠ "_") (hu : P.underlying f.type = some (.int k'))
    (hx : xs[f.offset]? = some (.int k a)) (hy : ys[f.offset]? = some (.int k b)) :
    (Op.eqFields (d + 1) xs ys (f :: fs)).run P w = if a == b then (Op.eqFields (d + 1) xs ys fs).run P w else .ok false w := by
  rw [Op.eqFields, if_pos hn]
  simp only [Sem.run_bind, run_part_one w hu rfl hx, run_part_one w hu rfl hy, Result.andThen_ok, run_equalIn_int w d f.type k k' a b hu]
  cases h : (a == b) <;> simp

theorem run_eqFields_consB {P : Program} (w : World) (d : Nat) (xs ys : Array Value) (f : Field) (fs : List Field) (a b : Bool) (hn : f.name ≠ "_") (hu : P.underlying f.type = some .bool)
    (hx : xs[f.offset]? = some (.bool a)) (hy : ys[f.offset]? = some (.bool b)) :
    (Op.eqFields (d + 1) xs ys (f :: fs)).run P w = if a == b then (Op.eqFields (d + 1) xs ys fs).run P w else .ok false w := by
  rw [Op.eqFields, if_pos hn]
  simp only [Sem.run_bind, run_part_one w hu rfl hx, run_part_one w hu rfl hy, Result.andThen_ok, run_equalIn_bool w d f.type a b hu]
  cases h : (a == b) <;> simp

set_option maxRecDepth 100000 in
theorem run_equal_ev (e e' : Ev) (w : World) :
    (Op.equalIn 10000 50 (.agg #[.int .i64 e.thread, .int .i64 e.kind, .int .i64 e.obj, .bool e.fail]) (.agg #[.int .i64 e'.thread, .int .i64 e'.kind, .int .i64 e'.obj, .bool e'.fail])).run Try.prog w = .ok (decide (e = e')) w := by
  have hd : decide (e = e') = ((e.thread == e'.thread) && ((e.kind == e'.kind) && ((e.obj == e'.obj) && (e.fail == e'.fail)))) := by
    obtain ⟨a, b, c, d⟩ := e
    obtain ⟨a', b', c', d'⟩ := e'
    rw [Bool.eq_iff_iff]
    simp
  rw [hd]
  obtain ⟨a, b, c, d⟩ := e
  obtain ⟨a', b', c', d'⟩ := e'
  dsimp only
  clear hd
  have ht : Try.prog.underlying 50 = some (.struct (Try.prog.fieldsOf 50)) := by kernel_rfl
  have hp : Try.prog.stoodInHeld 50 = false := by kernel_rfl
  rw [run_equalIn_agg (P := Try.prog) w 9999 _ _ _ ht hp]
  unfold Program.fieldsOf
  rw [Try.underlying50]
  dsimp only
  rw [run_eqFields_consI (P := Try.prog) w 9998 _ _ _ _ .i64 .i64 a a' (by simp) Try.underlying3 rfl rfl]
  rw [run_eqFields_consI (P := Try.prog) w 9998 _ _ _ _ .i64 .i64 b b' (by simp) Try.underlying3 rfl rfl]
  rw [run_eqFields_consI (P := Try.prog) w 9998 _ _ _ _ .i64 .i64 c c' (by simp) Try.underlying3 rfl rfl]
  rw [run_eqFields_consB (P := Try.prog) w 9998 _ _ _ _ d d' (by simp) Try.underlying4 rfl rfl]
  rw [Op.eqFields]
  cases (a == a') <;> cases (b == b') <;> cases (c == c') <;> cases (d == d') <;> simp

/-- An event in a box. -/
def EvBox (w : World) (g : Nat) (e : Ev) : Prop := w.heap[g]? = some (.cells #[.int .i64 e.thread, .int .i64 e.kind, .int .i64 e.obj, .bool e.fail] 50 (0, 0))
theorem EvBox.lt {w : World} {g : Nat} {e : Ev} (h : EvBox w g e) : g < w.heap.size := (Array.getElem?_eq_some_iff.1 h).1
theorem EvBox.only {w w' : World} {b g : Nat} {e : Ev} (h : EvBox w g e) (ho : Only b w w') (hb : g ≠ b) : EvBox w' g e := (ho.block g h.lt hb).trans h
theorem EvBox.later {w w' : World} {g : Nat} {e : Ev} (h : EvBox w g e) (hb : Below w.heap.size w w') : EvBox w' g e := (hb.block g h.lt).trans h
theorem EvBox.new (w : World) (e : Ev) : EvBox (w.alloc (.cells #[.int .i64 e.thread, .int .i64 e.kind, .int .i64 e.obj, .bool e.fail] 50)) w.heap.size e := heap_alloc_new w _
theorem EvBox.cells {w : World} {g : Nat} {e : Ev} (h : EvBox w g e) : w.cell? ⟨g, 0, none⟩ = some (.int .i64 e.thread) ∧ w.cell? ⟨g, 1, none⟩ = some (.int .i64 e.kind) ∧ w.cell? ⟨g, 2, none⟩ = some (.int .i64 e.obj) ∧ w.cell? ⟨g, 3, none⟩ = some (.bool e.fail) := by
  simp [World.cell?, show w.heap[g]? = _ from h]

def evCell (e : Ev) : List Value := [.int .i64 e.thread, .int .i64 e.kind, .int .i64 e.obj, .bool e.fail]
def evCells (l : List Ev) : List Value := l.flatMap evCell
theorem evCells_length (l : List Ev) : (evCells l).length = l.length * 4 := by
  induction l with
  | nil => rfl
  | cons i l ih => simp only [evCells, evCell, List.flatMap_cons, List.length_append, List.length_cons, List.length_nil] at *; omega
theorem evCells_append (a b : List Ev) : evCells (a ++ b) = evCells a ++ evCells b := by simp [evCells]
theorem evCells_get (l : List Ev) (i j : Nat) (h : i < l.length) (hj : j < 4) : (evCells l)[i * 4 + j]? = (evCell l[i])[j]? := by
  induction l generalizing i with
  | nil => simp at h
  | cons x l ih =>
    cases i with
    | zero =>
      simp only [evCells, List.flatMap_cons, Nat.zero_mul, Nat.zero_add, List.getElem_cons_zero]
      rw [List.getElem?_append_left (by simpa [evCell] using hj)]
    | succ i =>
      have := ih i (by simpa using h)
      simp only [evCells, List.flatMap_cons, List.getElem_cons_succ] at *
      rw [List.getElem?_append_right (by simp [evCell]; omega), ← this]
      congr 1
      simp [evCell]
      omega
theorem evCells_one (l : List Ev) : ∀ v ∈ evCells l, v.oneCell' = true := by
  intro v hv
  simp only [evCells, List.mem_flatMap] at hv
  obtain ⟨i, _, hv⟩ := hv
  simp [evCell] at hv
  rcases hv with rfl | rfl | rfl | rfl <;> rfl

/-- A row of events of the call's own. -/
def OwnE (w : World) (B : Nat) (v : Value) (es : List Ev) : Prop := w.ownsRow B 50 4 v es.length (evCells es)
theorem OwnE.alloc {w : World} {B : Nat} {v : Value} {l : List Ev} (h : OwnE w B v l) (o : Obj) : OwnE (w.alloc o) B v l := World.ownsRow.alloc h o
theorem ownE_nil (w : World) (B : Nat) : OwnE w B (.slice none 0 0) [] := World.ownsRow_nil w B _ _
theorem OwnE.later {w w' : World} {B : Nat} {v : Value} {l : List Ev} (h : OwnE w B v l) (hb : Below w.heap.size w w') : OwnE w' B v l := ownsRow_later h hb
theorem ownsRow_only {w w' : World} {g base : Nat} {e : TypeId} {size : Nat} {v : Value} {n : Nat} {xs : List Value} (h : w.ownsRow base e size v n xs) (ho : Only g w w') (hg : g < base) : w'.ownsRow base e size v n xs := by
  obtain ⟨h1, h2 | ⟨b, cap, cur, h2, h3, h4, h5⟩⟩ := h
  · exact ⟨h1, .inl h2⟩
  · exact ⟨h1, .inr ⟨b, cap, cur, h2, h3, (ho.block b (Array.getElem?_eq_some_iff.1 h4).1 (by omega)).trans h4, h5⟩⟩
theorem OwnE.only {w w' : World} {B g : Nat} {v : Value} {l : List Ev} (h : OwnE w B v l) (ho : Only g w w') (hg : g < B) : OwnE w' B v l := ownsRow_only h ho hg

theorem ev_new (w : World) (e : Ev) (t : TypeId) (g : Nat) (hg : g = w.heap.size) : ∀ j u, (evCells [e])[j]? = some u → (w.alloc (.cells #[.int .i64 e.thread, .int .i64 e.kind, .int .i64 e.obj, .bool e.fail] t)).cell? (Addr.add ⟨g, 0, none⟩ j) = some u := by
  subst hg
  intro j u hj
  have e : Addr.add ⟨w.heap.size, 0, none⟩ j = ⟨w.heap.size, j, none⟩ := by
    unfold Addr.add
    split
    · rename_i h0; subst h0; rfl
    · simp
  rw [e, World.cell?_alloc_new]
  simpa [evCells, evCell] using hj

theorem wp_appendE {w : World} {ops : Array Oper} {rest : List Oper} {o : Oper} {a : Act} {Q : Exit → Act → World → Prop} (hgd : o.guard = none) (s x : Operand)
    (ho : o.op = .call { callee := .builtin .append, args := #[s, x], argTypes := #[26, 26] }) (B : Nat) (v : Value) (es : List Ev) (hs : a.eval s = v) (hown : OwnE w B v es)
    (ad : Addr) (hx : a.eval x = .slice (some ad) 1 1) (e : Ev) (hnews : ∀ j u, (evCells [e])[j]? = some u → w.cell? (ad.add j) = some u)
    (hlen : es.length ≤ 1000000) (hB : B ≤ w.heap.size)
    (h : ∀ v' w', OwnE w' B v' (es ++ [e]) → Below B w w' → wpList Try.prog ops Q rest (a.put o.dst v') w') : wpList Try.prog ops Q (o :: rest) a w := by
  have hinfo : (Try.prog.info? 50).map (fun i => (i.zero, i.size, i.bytes)) = some (some (.agg #[.int .i64 0, .int .i64 0, .int .i64 0, .bool false]), 4, 32) := by kernel_rfl
  obtain ⟨t, hi, hzz⟩ := Option.map_eq_some_iff.1 hinfo
  simp only [Prod.mk.injEq] at hzz
  obtain ⟨hz, hsz, hby⟩ := hzz
  refine wpList_append_own w hgd s x 26 ho B 50 t (.agg #[.int .i64 0, .int .i64 0, .int .i64 0, .bool false]) 4 32 Try.underlying26 hi hz hsz hby rfl (by decide) v es.length (evCells es) hs hown ad 1 1 (evCells [e]) hx rfl hnews
    (evCells_one _) (by unfold maxLen; omega) (by omega) hB ?_
  intro v' w' h1 h2 _
  refine h v' w' ?_ ((Below.refl B w).grown h2 hB (fun k hk => (World.ownsRow.lt hown k hk).1))
  unfold OwnE
  rw [List.length_append, evCells_append]
  exact h1

/-- From the place a on lie, in w, the events es. -/
def EvsAt (w : World) (a : Option Addr) (es : List Ev) : Prop :=
  es.length ≤ maxLen ∧ (es ≠ [] → ∃ b o, a = some ⟨b, o, none⟩ ∧ ∀ i (h : i < es.length), w.cell? ⟨b, o + i * 4, none⟩ = some (.int .i64 es[i].thread) ∧ w.cell? ⟨b, o + i * 4 + 1, none⟩ = some (.int .i64 es[i].kind) ∧
    w.cell? ⟨b, o + i * 4 + 2, none⟩ = some (.int .i64 es[i].obj) ∧ w.cell? ⟨b, o + i * 4 + 3, none⟩ = some (.bool es[i].fail))
theorem EvsAt.later {w w' : World} {a : Option Addr} {es : List Ev} (h : EvsAt w a es) (hb : Below w.heap.size w w') : EvsAt w' a es := by
  refine ⟨h.1, fun hn => ?_⟩
  obtain ⟨b, o, rfl, hc⟩ := h.2 hn
  refine ⟨b, o, rfl, fun i hi => ?_⟩
  obtain ⟨h0, h1, h2, h3⟩ := hc i hi
  exact ⟨cell_later hb h0, cell_later hb h1, cell_later hb h2, cell_later hb h3⟩
theorem evsAt_nil (w : World) (a : Option Addr) : EvsAt w a [] := ⟨by simp [maxLen], fun h => absurd rfl h⟩

theorem OwnE.form {w : World} {B : Nat} {v : Value} {es : List Ev} (h : OwnE w B v es) (hm : es.length ≤ 1000000) : ∃ a cap, v = .slice a es.length cap ∧ EvsAt w a es := by
  obtain ⟨h1, ⟨h2, h3⟩ | ⟨g, cap, cur, h2, h3, h4, h5, h6, h7, h8⟩⟩ := h
  · have e : es = [] := List.eq_nil_of_length_eq_zero h3
    subst e
    exact ⟨none, 0, h2, evsAt_nil _ _⟩
  · have hcell : ∀ j u, (evCells es)[j]? = some u → w.cell? ⟨g, j, none⟩ = some u := by
      intro j u hj
      have hjl : j < es.length * 4 := by
        have := (List.getElem?_eq_some_iff.1 hj).1
        rw [evCells_length] at this
        exact this
      rw [← h8, List.getElem?_take_of_lt (by omega)] at hj
      simp [World.cell?, h4]
      simpa using hj
    refine ⟨some ⟨g, 0, none⟩, cap, h2, ⟨by unfold maxLen; omega, fun _ => ⟨g, 0, rfl, fun i hi => ?_⟩⟩⟩
    simp only [Nat.zero_add]
    exact ⟨hcell _ _ (evCells_get es i 0 hi (by omega)), hcell _ _ (evCells_get es i 1 hi (by omega)), hcell _ _ (evCells_get es i 2 hi (by omega)), hcell _ _ (evCells_get es i 3 hi (by omega))⟩


theorem add_row (b o k : Nat) : Addr.add ⟨b, o, none⟩ k = ⟨b, o + k, none⟩ := by
  unfold Addr.add
  split
  · rename_i h; subst h; rfl
  · rfl

theorem run_index_one {P : Program} (w : World) {t elem : TypeId} {n : Nat} {cs : Array Value} {d : TypeDesc} (i : Nat) {v : Value} (hu : P.underlying t = some (.array n elem)) (he : P.underlying elem = some d)
    (hd : (match d with | .struct _ | .array _ _ => true | _ => false) = false) (hs : (P.info? elem).map (·.size) = some 1) (hi : i < n) (hv : cs[i]? = some v) : (Instr.index t (.agg cs) (.int .i64 i)).run P w = .ok v w := by
  cases hq : P.info? elem with
  | none => simp [hq] at hs
  | some x =>
    have hx : x.size = 1 := by simpa [hq] using hs
    have hagg : (isAgg elem).run P w = .ok false w := by
      unfold isAgg
      rw [Sem.run_bind, run_underlying he w]
      cases d <;> simp_all
    simp [Instr.index, asIntOf, run_underlying hu, hi, sizeOf, typeInfo, hq, hx, part, hagg, hv]

end Go.Proofs.Ytkjjbcgecnjniaa

/- Rows of elements of several cells each, whatever they are. -/
namespace Go.Proofs.Ytkjjbcgecnjniaa
open Go.RowKit

section
variable {T : Type} {f : T → List Value} {n : Nat}

def cellsL (f : T → List Value) (l : List T) : List Value := l.flatMap f
theorem cellsL_length (hf : ∀ x, (f x).length = n) (l : List T) : (cellsL f l).length = l.length * n := by
  induction l with
  | nil => simp [cellsL]
  | cons x l ih =>
    unfold cellsL at *
    rw [List.flatMap_cons, List.length_append, ih, hf, List.length_cons, Nat.add_mul, Nat.one_mul]
    omega
theorem cellsL_append (f : T → List Value) (a b : List T) : cellsL f (a ++ b) = cellsL f a ++ cellsL f b := by simp [cellsL]
theorem cellsL_get (hf : ∀ x, (f x).length = n) (l : List T) (i j : Nat) (h : i < l.length) (hj : j < n) : (cellsL f l)[i * n + j]? = (f l[i])[j]? := by
  induction l generalizing i with
  | nil => simp at h
  | cons x l ih =>
    cases i with
    | zero =>
      simp only [cellsL, List.flatMap_cons, Nat.zero_mul, Nat.zero_add, List.getElem_cons_zero]
      rw [List.getElem?_append_left (by rw [hf]; exact hj)]
    | succ i =>
      have := ih i (by simpa using h)
      have e : (i + 1) * n + j - (f x).length = i * n + j := by rw [hf, Nat.add_mul]; omega
      simp only [cellsL, List.flatMap_cons, List.getElem_cons_succ] at *
      rw [List.getElem?_append_right (by rw [hf, Nat.add_mul]; omega), e, this]
theorem cellsL_one (h1 : ∀ x, ∀ v ∈ f x, v.oneCell' = true) (l : List T) : ∀ v ∈ cellsL f l, v.oneCell' = true := by
  intro v hv
  simp only [cellsL, List.mem_flatMap] at hv
  obtain ⟨x, _, hv⟩ := hv
  exact h1 x v hv
theorem cellsL_single (f : T → List Value) (x : T) : cellsL f [x] = f x := by simp [cellsL]
/-- Where a place of the cells stands. -/
theorem cellsL_ext (hf : ∀ x, (f x).length = n) (hn : 0 < n) {l : List T} {xs : List Value} (hl : xs.length = l.length * n) (h : ∀ i (h : i < l.length), ∀ j, j < n → xs[i * n + j]? = (f l[i])[j]?) : xs = cellsL f l := by
  apply List.ext_getElem?
  intro p
  by_cases hp : p < l.length * n
  · have h1 : p / n < l.length := Nat.div_lt_of_lt_mul (by rw [Nat.mul_comm]; exact hp)
    have h2 : p % n < n := Nat.mod_lt _ hn
    have e : p = p / n * n + p % n := by rw [Nat.mul_comm]; exact (Nat.div_add_mod p n).symm
    rw [e, h _ h1 _ h2, cellsL_get hf _ _ _ h1 h2]
  · rw [List.getElem?_eq_none (by omega), List.getElem?_eq_none (by rw [cellsL_length hf]; omega)]

/-- From the place a on lie, in w, the elements l. -/
def RowAt (w : World) (a : Option Addr) (n : Nat) (f : T → List Value) (l : List T) : Prop :=
  l.length ≤ maxLen ∧ (l ≠ [] → ∃ b o, a = some ⟨b, o, none⟩ ∧ ∀ i (h : i < l.length) j u, (f l[i])[j]? = some u → w.cell? ⟨b, o + i * n + j, none⟩ = some u)
theorem RowAt.later {w w' : World} {a : Option Addr} {l : List T} (h : RowAt w a n f l) (hb : Below w.heap.size w w') : RowAt w' a n f l := by
  refine ⟨h.1, fun hn => ?_⟩
  obtain ⟨b, o, rfl, hc⟩ := h.2 hn
  exact ⟨b, o, rfl, fun i hi j u hj => cell_later hb (hc i hi j u hj)⟩
theorem rowAt_nil (w : World) (a : Option Addr) (n : Nat) (f : T → List Value) : RowAt w a n f [] := ⟨by simp [maxLen], fun h => absurd rfl h⟩
/-- A piece of a row. -/
theorem RowAt.part {w : World} {b o : Nat} {l : List T} (h : RowAt w (some ⟨b, o, none⟩) n f l) (i m : Nat) : RowAt w (some ⟨b, o + i * n, none⟩) n f ((l.drop i).take m) := by
  refine ⟨Nat.le_trans (List.length_take_le' _ _) (Nat.le_trans (by simp) h.1), fun hn => ⟨b, o + i * n, rfl, fun k hk j u hj => ?_⟩⟩
  have hk' : i + k < l.length := by simp at hk; omega
  obtain ⟨b', o', e, hc⟩ := h.2 (by intro e; simp [e] at hk')
  cases e
  have h1 := hc (i + k) hk' j u (by simpa using hj)
  rw [Nat.add_mul, ← Nat.add_assoc] at h1
  exact h1

/-- A row of the call's own. -/
def OwnRow (w : World) (B : Nat) (t : TypeId) (n : Nat) (f : T → List Value) (v : Value) (l : List T) : Prop := w.ownsRow B t n v l.length (cellsL f l)
theorem OwnRow.alloc {w : World} {B : Nat} {t : TypeId} {v : Value} {l : List T} (h : OwnRow w B t n f v l) (o : Obj) : OwnRow (w.alloc o) B t n f v l := World.ownsRow.alloc h o
theorem ownRow_nil (w : World) (B : Nat) (t : TypeId) (n : Nat) (f : T → List Value) : OwnRow w B t n f (.slice none 0 0) [] := World.ownsRow_nil w B _ _
theorem OwnRow.later {w w' : World} {B : Nat} {t : TypeId} {v : Value} {l : List T} (h : OwnRow w B t n f v l) (hb : Below w.heap.size w w') : OwnRow w' B t n f v l := ownsRow_later h hb
theorem OwnRow.only {w w' : World} {B g : Nat} {t : TypeId} {v : Value} {l : List T} (h : OwnRow w B t n f v l) (ho : Only g w w') (hg : g < B) : OwnRow w' B t n f v l := ownsRow_only h ho hg
theorem OwnRow.form {w : World} {B : Nat} {t : TypeId} {v : Value} {l : List T} (h : OwnRow w B t n f v l) (hf : ∀ x, (f x).length = n) (hm : l.length ≤ 1000000) : ∃ a cap, v = .slice a l.length cap ∧ RowAt w a n f l ∧ (a = none → cap = 0) := by
  obtain ⟨h1, ⟨h2, h3⟩ | ⟨g, cap, cur, h2, h3, h4, h5, h6, h7, h8⟩⟩ := h
  · have e : l = [] := List.eq_nil_of_length_eq_zero h3
    subst e
    exact ⟨none, 0, h2, rowAt_nil _ _ _ _, fun _ => rfl⟩
  · refine ⟨some ⟨g, 0, none⟩, cap, h2, ⟨by unfold maxLen; omega, fun _ => ⟨g, 0, rfl, fun i hi j u hj => ?_⟩⟩, by simp⟩
    have hjn : j < n := by rw [← hf l[i]]; exact (List.getElem?_eq_some_iff.1 hj).1
    rw [← cellsL_get hf l i j hi hjn, ← h8] at hj
    have hlt : i * n + j < l.length * n := by
      have : (i + 1) * n ≤ l.length * n := Nat.mul_le_mul_right n hi
      rw [Nat.add_mul, Nat.one_mul] at this
      omega
    rw [List.getElem?_take_of_lt hlt] at hj
    simp [World.cell?, h4]
    simpa using hj
/-- A row that is not empty lies in a block of its own. -/
theorem OwnRow.block {w : World} {B : Nat} {t : TypeId} {v : Value} {l : List T} (h : OwnRow w B t n f v l) (hn : l ≠ []) : ∃ g cap, v = .slice (some ⟨g, 0, none⟩) l.length cap ∧ B ≤ g ∧ g < w.heap.size := by
  obtain ⟨h1, ⟨h2, h3⟩ | ⟨g, cap, cur, h2, h3, h4, h5, h6, h7, h8⟩⟩ := h
  · exact absurd (List.eq_nil_of_length_eq_zero h3) hn
  · exact ⟨g, cap, h2, h3, (Array.getElem?_eq_some_iff.1 h4).1⟩

theorem cells_new (w : World) (cs : List Value) (t : TypeId) (g : Nat) (hg : g = w.heap.size) : ∀ j u, cs[j]? = some u → (w.alloc (.cells cs.toArray t)).cell? (Addr.add ⟨g, 0, none⟩ j) = some u := by
  subst hg
  intro j u hj
  have e : Addr.add ⟨w.heap.size, 0, none⟩ j = ⟨w.heap.size, j, none⟩ := by rw [add_row, Nat.zero_add]
  rw [e, World.cell?_alloc_new]
  simpa using hj

/-- One element more. -/
theorem wp_appendR {P : Program} {w : World} {ops : Array Oper} {rest : List Oper} {o : Oper} {a : Act} {Q : Exit → Act → World → Prop} (st et : TypeId) (bytes : Nat) (z : Value) (hu : P.underlying st = some (.slice et))
    (hinfo : (P.info? et).map (fun i => (i.zero, i.size, i.bytes)) = some (some z, n, bytes)) (hz : z.cells.size = n) (hn : 0 < n) (hby : bytes ≤ 1000) (hf : ∀ x, (f x).length = n)
    (hgd : o.guard = none) (s x : Operand) (ho : o.op = .call { callee := .builtin .append, args := #[s, x], argTypes := #[st, st] }) (B : Nat) (v : Value) (l : List T) (hs : a.eval s = v) (hown : OwnRow w B et n f v l)
    (ad : Addr) (hx : a.eval x = .slice (some ad) 1 1) (e : T) (h1 : ∀ v ∈ f e, v.oneCell' = true) (hnews : ∀ j u, (f e)[j]? = some u → w.cell? (ad.add j) = some u) (hlen : l.length ≤ 1000000) (hB : B ≤ w.heap.size)
    (h : ∀ v' w', OwnRow w' B et n f v' (l ++ [e]) → Below B w w' → w.grownBy w' v.ownBlock → wpList P ops Q rest (a.put o.dst v') w') : wpList P ops Q (o :: rest) a w := by
  obtain ⟨i, hi, hzz⟩ := Option.map_eq_some_iff.1 hinfo
  simp only [Prod.mk.injEq] at hzz
  obtain ⟨hiz, hisz, hiby⟩ := hzz
  refine wpList_append_own w hgd s x st ho B et i z n bytes hu hi hiz hisz hiby hz hn v l.length (cellsL f l) hs hown ad 1 1 (f e) hx (by rw [hf, Nat.one_mul]) hnews
    h1 (by unfold maxLen; omega) ?_ hB ?_
  · have : (l.length + 1) * bytes ≤ 1000001 * 1000 := Nat.mul_le_mul (by omega) hby
    omega
  intro v' w' h2 h3 _
  refine h v' w' ?_ ((Below.refl B w).grown h3 hB (fun k hk => (World.ownsRow.lt hown k hk).1)) h3
  unfold OwnRow
  rw [List.length_append, cellsL_append, cellsL_single]
  exact h2

/-- One element more, and where the row lies then. -/
theorem wp_appendAt {P : Program} {w : World} {o : Oper} {a : Act} {K : Act → World → Prop} {Q : Exit → Act → World → Prop} (st et : TypeId) (bytes : Nat) (z : Value) (hu : P.underlying st = some (.slice et))
    (hinfo : (P.info? et).map (fun i => (i.zero, i.size, i.bytes)) = some (some z, n, bytes)) (hz : z.cells.size = n) (hn : 0 < n) (hby : bytes ≤ 1000) (hf : ∀ x, (f x).length = n)
    (s x : Operand) (ho : o.op = .call { callee := .builtin .append, args := #[s, x], argTypes := #[st, st] }) (B : Nat) (v : Value) (l : List T) (hs : a.eval s = v) (hown : OwnRow w B et n f v l)
    (ad : Addr) (hx : a.eval x = .slice (some ad) 1 1) (e : T) (h1 : ∀ v ∈ f e, v.oneCell' = true) (hnews : ∀ j u, (f e)[j]? = some u → w.cell? (ad.add j) = some u) (hlen : l.length ≤ 1000000) (hB : B ≤ w.heap.size)
    (h : ∀ v' w', OwnRow w' B et n f v' (l ++ [e]) → Below B w w' → w.grownBy w' v.ownBlock → (v'.ownBlock = v.ownBlock ∨ v'.ownBlock = some w.heap.size) → K (a.put o.dst v') w') : Oper.wp P o a w K Q := by
  obtain ⟨i, hi, hzz⟩ := Option.map_eq_some_iff.1 hinfo
  simp only [Prod.mk.injEq] at hzz
  obtain ⟨hiz, hisz, hiby⟩ := hzz
  have hbb : (l.length + 1) * bytes ≤ 140737488355328 := by
    have : (l.length + 1) * bytes ≤ 1000001 * 1000 := Nat.mul_le_mul (by omega) hby
    omega
  obtain ⟨v', w', hrun, r1, r2, _, r4⟩ := run_append_own_at (P := P) w B st o.type et i z n bytes hu hi hiz hisz hiby hz hn v l.length (cellsL f l) hown ad 1 1 (f e) (by rw [hf, Nat.one_mul]) hnews h1 (by unfold maxLen; omega) hbb hB
  have hK := h v' w' (by unfold OwnRow; rw [List.length_append, cellsL_append, cellsL_single]; exact r1) ((Below.refl B w).grown r2 hB (fun k hk => (World.ownsRow.lt hown k hk).1)) r2 r4
  unfold Oper.wp
  simp [execOp, ho, resolve, invoke, builtin, hs, hx, hrun, Result.andThen]
  exact hK
/-- The same in a region whose order is drawn. -/
theorem step_appendAt {P : Program} {w : World} {ops : Array Oper} {o : Oper} {a : Act} {K : Act → World → Prop} {Q : Exit → Act → World → Prop} {E : Prop} (st et : TypeId) (bytes : Nat) (z : Value) (hu : P.underlying st = some (.slice et))
    (hinfo : (P.info? et).map (fun i => (i.zero, i.size, i.bytes)) = some (some z, n, bytes)) (hz : z.cells.size = n) (hn : 0 < n) (hby : bytes ≤ 1000) (hf : ∀ x, (f x).length = n) (hgd : o.guard = none)
    (s x : Operand) (ho : o.op = .call { callee := .builtin .append, args := #[s, x], argTypes := #[st, st] }) (B : Nat) (v : Value) (l : List T) (hs : a.eval s = v) (hown : OwnRow w B et n f v l)
    (ad : Addr) (hx : a.eval x = .slice (some ad) 1 1) (e : T) (h1 : ∀ v ∈ f e, v.oneCell' = true) (hnews : ∀ j u, (f e)[j]? = some u → w.cell? (ad.add j) = some u) (hlen : l.length ≤ 1000000) (hB : B ≤ w.heap.size)
    (h : ∀ v' w', OwnRow w' B et n f v' (l ++ [e]) → Below B w w' → w.grownBy w' v.ownBlock → (v'.ownBlock = v.ownBlock ∨ v'.ownBlock = some w.heap.size) → K (a.put o.dst v') w') : if Region.wanted o (yielded ops a.tmps) = true then Oper.wp P o a w K Q else E := by
  have hw : Region.wanted o (yielded ops a.tmps) = true := by simp [Region.wanted, hgd]
  rw [if_pos hw]
  exact wp_appendAt st et bytes z hu hinfo hz hn hby hf s x ho B v l hs hown ad hx e h1 hnews hlen hB h

/-- Four numbers in a block. -/
def nums4 (c : Nat → Int) : List Value := [.int .i64 (c 0), .int .i64 (c 1), .int .i64 (c 2), .int .i64 (c 3)]
theorem nums4_congr {c d : Nat → Int} (h : ∀ t, t < 4 → c t = d t) : nums4 c = nums4 d := by
  unfold nums4
  rw [h 0 (by omega), h 1 (by omega), h 2 (by omega), h 3 (by omega)]
theorem nums4_get (c : Nat → Int) {t : Nat} (h : t < 4) : (nums4 c)[t]? = some (.int .i64 (c t)) := by
  rcases (by omega : t = 0 ∨ t = 1 ∨ t = 2 ∨ t = 3) with rfl | rfl | rfl | rfl <;> rfl
theorem nums4_set (c : Nat → Int) (v : Int) {t : Nat} (h : t < 4) : (nums4 c).set t (.int .i64 v) = nums4 (fun j => if j = t then v else c j) := by
  rcases (by omega : t = 0 ∨ t = 1 ∨ t = 2 ∨ t = 3) with rfl | rfl | rfl | rfl <;> rfl

theorem run_index4 {P : Program} (w : World) {t elem : TypeId} {d : TypeDesc} (c : Nat → Int) (q : Nat) (hu : P.underlying t = some (.array 4 elem)) (he : P.underlying elem = some d)
    (hd : (match d with | .struct _ | .array _ _ => true | _ => false) = false) (hs : (P.info? elem).map (·.size) = some 1) (hq : q < 4) : (Instr.index t (.agg #[.int .i64 (c 0), .int .i64 (c 1), .int .i64 (c 2), .int .i64 (c 3)]) (.int .i64 (q : Int))).run P w = .ok (.int .i64 (c q)) w :=
  run_index_one w q hu he hd hs hq (by rcases (by omega : q = 0 ∨ q = 1 ∨ q = 2 ∨ q = 3) with rfl | rfl | rfl | rfl <;> rfl)
end

end Go.Proofs.Ytkjjbcgecnjniaa

/-
  Plain data for layer 4: events with their clocks, and the last one of each. Nothing of the translation.
-/
namespace Go.Proofs.Ytkjjbcgecnjniaa

/-- An event with its clock. -/
structure Mk where
  e : Ev
  c : Nat → Nat

/-- The event at a place, with its clock. -/
def mkOf (l : List Ev) (k : Nat) : Mk := ⟨evI l k, fun t => clk l k t⟩

/-- How many of a thread's events happen before e, by the marks of those ahead. -/
def kn (ms : List Mk) (e : Ev) (t : Nat) : Nat := ms.foldl (fun a m => if dep m.e e then max a (m.c t) else a) 0
theorem kn_nil (e : Ev) (t : Nat) : kn [] e t = 0 := rfl
theorem kn_snoc (ms : List Mk) (m : Mk) (e : Ev) (t : Nat) : kn (ms ++ [m]) e t = if dep m.e e then max (kn ms e t) (m.c t) else kn ms e t := by
  unfold kn
  rw [List.foldl_append]
  rfl
theorem kn_take (ms : List Mk) (e : Ev) (t k : Nat) (h : k < ms.length) : kn (ms.take (k + 1)) e t = if dep ms[k].e e then max (kn (ms.take k) e t) (ms[k].c t) else kn (ms.take k) e t := by
  rw [List.take_succ_eq_append_getElem h, kn_snoc]
theorem fold_ge (ms : List Mk) (e : Ev) (t a : Nat) : a ≤ ms.foldl (fun a m => if dep m.e e then max a (m.c t) else a) a ∧ ∀ m ∈ ms, dep m.e e = true → m.c t ≤ ms.foldl (fun a m => if dep m.e e then max a (m.c t) else a) a := by
  induction ms generalizing a with
  | nil => exact ⟨Nat.le_refl _, fun m h => by cases h⟩
  | cons x ms ih =>
    rw [List.foldl_cons]
    by_cases hx : dep x.e e = true
    · rw [if_pos hx]
      obtain ⟨h1, h2⟩ := ih (max a (x.c t))
      refine ⟨by omega, fun m hm hd => ?_⟩
      rcases List.mem_cons.1 hm with rfl | hm
      · omega
      · exact h2 m hm hd
    · rw [if_neg hx]
      obtain ⟨h1, h2⟩ := ih a
      refine ⟨h1, fun m hm hd => ?_⟩
      rcases List.mem_cons.1 hm with rfl | hm
      · exact absurd hd hx
      · exact h2 m hm hd
theorem fold_le (ms : List Mk) (e : Ev) (t a b : Nat) (ha : a ≤ b) (h : ∀ m ∈ ms, dep m.e e = true → m.c t ≤ b) : ms.foldl (fun a m => if dep m.e e then max a (m.c t) else a) a ≤ b := by
  induction ms generalizing a with
  | nil => exact ha
  | cons x ms ih =>
    rw [List.foldl_cons]
    refine ih _ ?_ (fun m hm => h m (by simp [hm]))
    split
    · rename_i hx
      have := h x (by simp) hx
      omega
    · exact ha

/-- The marks hold, of the first n events, the last one of all that are like. -/
def Lst (l : List Ev) (n : Nat) (ms : List Mk) : Prop :=
  ms.length ≤ n ∧ (∀ m ∈ ms, ∃ i, i < n ∧ m = mkOf l i) ∧ ∀ i, i < n → ∃ j, i ≤ j ∧ j < n ∧ evI l j = evI l i ∧ mkOf l j ∈ ms
theorem lst_zero (l : List Ev) : Lst l 0 [] := ⟨Nat.le_refl _, fun m h => (by cases h), fun i h => (by omega)⟩

theorem Lst.kn {l : List Ev} {n : Nat} {ms : List Mk} (h : Lst l n ms) (t : Nat) : kn ms (evI l n) t = top (fun i => clk l i t) (fun i => dep (evI l i) (evI l n)) n := by
  apply Nat.le_antisymm
  · refine fold_le ms _ t 0 _ (Nat.zero_le _) fun m hm hd => ?_
    obtain ⟨i, hi, rfl⟩ := h.2.1 m hm
    exact top_ge (f := fun i => clk l i t) (q := fun i => dep (evI l i) (evI l n)) hi hd
  · refine top_le fun i hi hd => ?_
    obtain ⟨j, hij, hj, he, hm⟩ := h.2.2 i hi
    refine Nat.le_trans (clk_mono (hb_thread hij (by rw [he])) t) ?_
    exact (fold_ge ms (evI l n) t 0).2 _ hm (by show dep (evI l j) _ = true; rw [he]; exact hd)

/-- The clock of an event is what is known of those ahead, and one more of its own thread. -/
theorem Lst.clk {l : List Ev} {n : Nat} {ms : List Mk} (h : Lst l n ms) (t : Nat) : clk l n t = Proofs.Ytkjjbcgecnjniaa.kn ms (evI l n) t + if (evI l n).thread = (t : Int) then 1 else 0 := by
  rw [clk_top, h.kn]

/-- The mark takes the place of the first like one, or stands behind. -/
def keepM : List Mk → Mk → List Mk
  | [], m => [m]
  | x :: ms, m => if x.e = m.e then m :: ms else x :: keepM ms m
theorem keepM_at {ms : List Mk} {m : Mk} {k : Nat} (hk : k < ms.length) (hn : ∀ i (h : i < k), (ms[i]'(by omega)).e ≠ m.e) (he : ms[k].e = m.e) : keepM ms m = ms.set k m := by
  induction ms generalizing k with
  | nil => simp at hk
  | cons x ms ih =>
    unfold keepM
    cases k with
    | zero =>
      simp only [List.getElem_cons_zero] at he
      rw [if_pos he]
      rfl
    | succ k =>
      have h0 := hn 0 (by omega)
      simp only [List.getElem_cons_zero] at h0
      rw [if_neg h0, List.set_cons_succ]
      congr 1
      refine ih (by simpa using hk) (fun i hi => ?_) (by simpa using he)
      have := hn (i + 1) (by omega)
      simpa using this
theorem keepM_new {ms : List Mk} {m : Mk} (hn : ∀ x ∈ ms, x.e ≠ m.e) : keepM ms m = ms ++ [m] := by
  induction ms with
  | nil => rfl
  | cons x ms ih =>
    unfold keepM
    rw [if_neg (hn x (by simp)), ih (fun y hy => hn y (by simp [hy]))]
    rfl
theorem keepM_len (ms : List Mk) (m : Mk) : (keepM ms m).length ≤ ms.length + 1 := by
  induction ms with
  | nil => simp [keepM]
  | cons x ms ih =>
    unfold keepM
    split
    · simp
    · simpa using ih
theorem mem_keepM (ms : List Mk) (m : Mk) : m ∈ keepM ms m := by
  induction ms with
  | nil => simp [keepM]
  | cons x ms ih => unfold keepM; split <;> simp [ih]
theorem of_mem_keepM {ms : List Mk} {m x : Mk} (h : x ∈ keepM ms m) : x = m ∨ x ∈ ms := by
  induction ms with
  | nil => simp [keepM] at h; exact .inl h
  | cons y ms ih =>
    unfold keepM at h
    split at h
    · rcases List.mem_cons.1 h with h | h
      · exact .inl h
      · exact .inr (by simp [h])
    · rcases List.mem_cons.1 h with h | h
      · exact .inr (by simp [h])
      · rcases ih h with h | h
        · exact .inl h
        · exact .inr (by simp [h])
theorem mem_keepM_of {ms : List Mk} {m x : Mk} (h : x ∈ ms) (hne : x.e ≠ m.e) : x ∈ keepM ms m := by
  induction ms with
  | nil => cases h
  | cons y ms ih =>
    unfold keepM
    rcases List.mem_cons.1 h with rfl | h
    · rw [if_neg hne]
      simp
    · split
      · simp [h]
      · simp [ih h]

theorem Lst.keep {l : List Ev} {n : Nat} {ms : List Mk} (h : Lst l n ms) : Lst l (n + 1) (keepM ms (mkOf l n)) := by
  refine ⟨Nat.le_trans (keepM_len _ _) (by have := h.1; omega), fun m hm => ?_, fun i hi => ?_⟩
  · rcases of_mem_keepM hm with rfl | hm
    · exact ⟨n, by omega, rfl⟩
    · obtain ⟨i, hi, e⟩ := h.2.1 m hm
      exact ⟨i, by omega, e⟩
  · by_cases hin : i = n
    · subst hin
      exact ⟨i, Nat.le_refl _, hi, rfl, mem_keepM _ _⟩
    · obtain ⟨j, hij, hj, he, hm⟩ := h.2.2 i (by omega)
      by_cases hje : evI l j = evI l n
      · exact ⟨n, by omega, by omega, by rw [← he, hje], mem_keepM _ _⟩
      · exact ⟨j, hij, by omega, he, mem_keepM_of hm hje⟩

end Go.Proofs.Ytkjjbcgecnjniaa

/- A row that the call has made, and fills place by place. -/
namespace Go.Proofs.Ytkjjbcgecnjniaa
open Go.RowKit

theorem run_make_k {P : Program} (t e : TypeId) (z : Value) (k bytes : Nat) (ht : P.underlying t = some (.slice e)) (hinfo : (P.info? e).map (fun i => (i.zero, i.size, i.bytes)) = some (some z, k, bytes))
    (n : Nat) (hbytes : bytes * n ≤ 281474976710656) (h63 : n ≤ 9223372036854775807) (w : World) :
    (Instr.makeSlice t (.int .i64 (n : Int)) (.int .i64 (n : Int))).run P w = .ok (.slice (some ⟨w.heap.size, 0, none⟩) n n) (w.alloc (.cells (madeCells z.cells (n * k)) e)) := by
  obtain ⟨i, hi, hzz⟩ := Option.map_eq_some_iff.1 hinfo
  simp only [Prod.mk.injEq] at hzz
  obtain ⟨hz, hs, hb⟩ := hzz
  have hb' : (i.bytes : Int) * (n : Int) ≤ 281474976710656 := by
    rw [hb, ← Int.natCast_mul]; omega
  have h := run_make (P := P) w t e i z ht hi hz .i64 .i64 n n (by omega) (by omega) hb' (by omega)
  rw [hs] at h
  simpa using h

/-- In w the block g is the row xs. -/
def MidAt (w : World) (g : Nat) (t : TypeId) (xs : List Value) : Prop := w.heap[g]? = some (.cells xs.toArray t (0, 0))
theorem MidAt.lt {w : World} {g : Nat} {t : TypeId} {xs : List Value} (h : MidAt w g t xs) : g < w.heap.size := (Array.getElem?_eq_some_iff.1 h).1
theorem MidAt.later {w w' : World} {g : Nat} {t : TypeId} {xs : List Value} (h : MidAt w g t xs) (hb : Below w.heap.size w w') : MidAt w' g t xs := (hb.block g h.lt).trans h
theorem MidAt.cell {w : World} {g : Nat} {t : TypeId} {xs : List Value} (h : MidAt w g t xs) (j : Nat) : w.cell? ⟨g, j, none⟩ = xs[j]? := by
  simp [World.cell?, show w.heap[g]? = _ from h]
theorem MidAt.frozen {w : World} {g : Nat} {t : TypeId} {xs : List Value} (h : MidAt w g t xs) (j : Nat) : w.frozen? ⟨g, j, none⟩ = false := by
  simp [World.frozen?, show w.heap[g]? = _ from h]
theorem MidAt.set {w : World} {g : Nat} {t : TypeId} {xs : List Value} (h : MidAt w g t xs) (j : Nat) (v : Value) : MidAt (w.setCell ⟨g, j, none⟩ v) g t (xs.set j v) := by
  have := heap_setCell_same w g j _ _ v h
  unfold MidAt
  rw [this]
  simp
theorem MidAt.made (w : World) (t : TypeId) (z : Value) (n : Nat) : MidAt (w.alloc (.cells (madeCells #[z] n) t)) w.heap.size t (List.replicate n z) := by
  have := heap_alloc_new w (.cells (madeCells #[z] n) t)
  unfold MidAt
  rw [this]
  simp [madeCells]
  apply Array.ext <;> simp [Nat.mod_one]

/-- The first k places are filled. -/
def fill {T : Type} (f : T → Value) (z : Value) (l : List T) (k : Nat) : List Value := (l.take k).map f ++ List.replicate (l.length - k) z
theorem fill_zero {T : Type} (f : T → Value) (z : Value) (l : List T) : fill f z l 0 = List.replicate l.length z := by simp [fill]
theorem fill_all {T : Type} (f : T → Value) (z : Value) (l : List T) : fill f z l l.length = l.map f := by simp [fill]
theorem fill_length {T : Type} (f : T → Value) (z : Value) (l : List T) (k : Nat) (h : k ≤ l.length) : (fill f z l k).length = l.length := by simp [fill]; omega
theorem fill_set {T : Type} (f : T → Value) (z : Value) (l : List T) (k : Nat) (h : k < l.length) : (fill f z l k).set k (f l[k]) = fill f z l (k + 1) := by
  unfold fill
  have e : k - ((l.take k).map f).length = 0 := by simp; omega
  rw [List.set_append_right _ _ (by simp; omega), e, List.take_succ_eq_append_getElem h, show l.length - k = (l.length - (k + 1)) + 1 by omega, List.replicate_succ, List.map_append, List.append_assoc]
  rfl

theorem MidAt.nums {w : World} {g : Nat} {t : TypeId} {ns : List Int} (h : MidAt w g t (ns.map (Value.int .i64))) (hm : ns.length ≤ 1000000) : NumsAt w (some ⟨g, 0, none⟩) ns := by
  refine ⟨by unfold maxLen; omega, fun _ => ⟨g, 0, rfl, fun i hi => ?_⟩⟩
  rw [Nat.zero_add, h.cell]
  simp [hi]

end Go.Proofs.Ytkjjbcgecnjniaa

/- An event in a box of its own. -/
namespace Go.Proofs.Ytkjjbcgecnjniaa
open Go.RowKit

end Go.Proofs.Ytkjjbcgecnjniaa

/- The contracts of event's below, ofVariable, ofMutex, Depends, Right, toByte, fromByte, and of the document's Depends, Right, Byte. -/
namespace Go.Proofs.Ytkjjbcgecnjniaa
open Go.RowKit

theorem eBelow_any (n e : Int) (w : World) : Calls Try.prog 63 #[.int .i64 n, .int .i64 e] w fun r w' => r = .returned (.bool (belowB n e)) ∧ w = w' := by
  go_enter Try.func63, Try.ntmps63
  go_wp2
  all_goals
    go_ret
    refine ⟨ret_bool ?_, rfl⟩
    simp [belowB]
    try omega

theorem ofVariable_any (e : Ev) (w : World) : Calls Try.prog 58 #[.agg #[.int .i64 e.thread, .int .i64 e.kind, .int .i64 e.obj, .bool e.fail]] w fun r w' => r = .returned (.bool (memE e)) ∧ Below w.heap.size w w' := by
  obtain ⟨t, k, o, f⟩ := e
  dsimp only
  go_enter Try.func58, Try.ntmps58
  go_wp2
  all_goals
    go_ret
    refine ⟨ret_bool ?_, below_alloc1 _ _⟩
    rw [Bool.eq_iff_iff]
    simp [memE]
    try omega

theorem ofMutex_any (e : Ev) (w : World) : Calls Try.prog 59 #[.agg #[.int .i64 e.thread, .int .i64 e.kind, .int .i64 e.obj, .bool e.fail]] w fun r w' => r = .returned (.bool (mutE e)) ∧ Below w.heap.size w w' := by
  obtain ⟨t, k, o, f⟩ := e
  dsimp only
  go_enter Try.func59, Try.ntmps59
  go_wp2
  all_goals
    go_ret
    refine ⟨ret_bool ?_, below_alloc1 _ _⟩
    rw [Bool.eq_iff_iff]
    simp [mutE]
    try omega

set_option maxRecDepth 100000 in
set_option maxHeartbeats 1000000 in
theorem evRight_any (e : Ev) (w : World) : Calls Try.prog 52 #[.agg #[.int .i64 e.thread, .int .i64 e.kind, .int .i64 e.obj, .bool e.fail]] w fun r w' => r = .returned (.bool (rightEv e)) ∧ Below w.heap.size w w' := by
  obtain ⟨t, k, o, f⟩ := e
  dsimp only
  go_enter Try.func52, Try.ntmps52
  go_wp2_with (go_at_call 63; refine (eBelow_any _ _ _).mono ?_; rintro r w' ⟨rfl, rfl⟩)
  all_goals
    go_ret
    refine ⟨ret_bool ?_, below_alloc1 _ _⟩
    simp [belowB] at *
    rw [Bool.eq_iff_iff]
    simp [rightEv, *]
    try (first | omega | (cases f <;> simp <;> omega))

set_option maxRecDepth 100000 in
set_option maxHeartbeats 1000000 in
theorem refEvRight_any (e : Ev) (w : World) : Calls Try.prog 31 #[.agg #[.int .i64 e.thread, .int .i64 e.kind, .int .i64 e.obj, .bool e.fail]] w fun r w' => r = .returned (.bool (rightEv e)) ∧ Below w.heap.size w w' := by
  obtain ⟨t, k, o, f⟩ := e
  dsimp only
  go_enter Try.func31, Try.ntmps31
  go_wp2
  all_goals
    go_ret
    refine ⟨ret_bool ?_, below_alloc1 _ _⟩
    simp at *
    rw [Bool.eq_iff_iff]
    simp [rightEv, *]
    try (first | omega | (cases f <;> simp <;> omega))

theorem two_boxes (e f : Ev) (w : World) : EvBox ((w.alloc (.cells #[.int .i64 e.thread, .int .i64 e.kind, .int .i64 e.obj, .bool e.fail] 50)).alloc (.cells #[.int .i64 f.thread, .int .i64 f.kind, .int .i64 f.obj, .bool f.fail] 50)) w.heap.size e ∧ EvBox ((w.alloc (.cells #[.int .i64 e.thread, .int .i64 e.kind, .int .i64 e.obj, .bool e.fail] 50)).alloc (.cells #[.int .i64 f.thread, .int .i64 f.kind, .int .i64 f.obj, .bool f.fail] 50)) (w.heap.size + 1) f :=
  ⟨heap_alloc2_old w _ _, heap_alloc2_new w _ _⟩

set_option maxRecDepth 100000 in
set_option maxHeartbeats 1000000 in
theorem depends_any (e f : Ev) (w : World) : Calls Try.prog 46 #[.agg #[.int .i64 e.thread, .int .i64 e.kind, .int .i64 e.obj, .bool e.fail], .agg #[.int .i64 f.thread, .int .i64 f.kind, .int .i64 f.obj, .bool f.fail]] w fun r w' => r = .returned (.bool (dep e f)) ∧ Below w.heap.size w w' := by
  obtain ⟨he, hf⟩ := two_boxes e f w
  have HE := Lib.hid he
  have HF := Lib.hid hf
  have hb0 := below_alloc2 w (.cells #[.int .i64 e.thread, .int .i64 e.kind, .int .i64 e.obj, .bool e.fail] 50) (.cells #[.int .i64 f.thread, .int .i64 f.kind, .int .i64 f.obj, .bool f.fail] 50)
  clear he hf
  by_cases h1 : e.thread = f.thread
  · have HD : Hid (dep e f = true) := by show _ = _; simp [dep, h1]
    have q1 : (e.thread == f.thread) = true := by simp [h1]
    clear h1 HE HF
    go_enter Try.func46, Try.ntmps46
    go_wp2
    go_ret
    exact ⟨ret_bool HD.out.symm, hb0⟩
  by_cases h2 : e.obj = f.obj
  case neg =>
    have HD : Hid (dep e f = false) := by show _ = _; simp [dep, h1, h2]
    have q1 : (e.thread == f.thread) = false := by simp [h1]
    have q2 : (e.obj != f.obj) = true := by simp [h2]
    clear h1 h2 HE HF
    go_enter Try.func46, Try.ntmps46
    go_wp2
    go_ret
    exact ⟨ret_bool HD.out.symm, hb0⟩
  have q1 : (e.thread == f.thread) = false := by simp [h1]
  have q2 : (e.obj != f.obj) = false := by simp [h2]
  have HT := Lib.hid h1
  have HO := Lib.hid h2
  clear h1 h2
  go_enter Try.func46, Try.ntmps46
  go_wp2_with fail
  generalize (w.alloc (.cells #[.int .i64 e.thread, .int .i64 e.kind, .int .i64 e.obj, .bool e.fail] 50)).alloc (.cells #[.int .i64 f.thread, .int .i64 f.kind, .int .i64 f.obj, .bool f.fail] 50) = W0 at *
  refine (ofVariable_any e _).mono ?_
  rintro r w1 ⟨rfl, hb1⟩
  have HE1 := Lib.hid (HE.out.later hb1)
  have HF1 := Lib.hid (HF.out.later hb1)
  have hw1 : Below w.heap.size w w1 := hb0.trans (hb1.mono hb0.size)
  clear HE HF hb0 hb1
  obtain ⟨e0, e1, e2, e3⟩ := HE1.out.cells
  obtain ⟨f0, f1, f2, f3⟩ := HF1.out.cells
  have le := HE1.out.lt
  have lf := HF1.out.lt
  generalize hm : memE e = m
  cases m
  · go_wp2_with fail
    refine (ofMutex_any e _).mono ?_
    rintro r w2 ⟨rfl, hb2⟩
    have hw2 : Below w.heap.size w w2 := hw1.trans (hb2.mono hw1.size)
    have g0 := cell_later hb2 f0
    have g1 := cell_later hb2 f1
    have g2 := cell_later hb2 f2
    have g3 := cell_later hb2 f3
    have lg := Nat.lt_of_lt_of_le lf hb2.size
    generalize hx : mutE e = x
    cases x
    · go_wp2
      go_ret
      refine ⟨ret_bool ?_, hw2⟩
      unfold memE at hm
      unfold mutE at hx
      simp at hm hx
      simp [dep, HT.out, HO.out, hm, hx]
    · clear e0 e1 e2 e3 f0 f1 f2 f3 le lf hb2
      go_wp2_with fail
      refine (ofMutex_any f _).mono ?_
      rintro r w3 ⟨rfl, hb3⟩
      have hw3 : Below w.heap.size w w3 := hw2.trans (hb3.mono hw2.size)
      go_wp2
      go_ret
      refine ⟨ret_bool ?_, hw3⟩
      unfold memE at hm
      unfold mutE at hx ⊢
      simp at hm hx
      simp [dep, HT.out, HO.out, hm, hx]
  · go_wp2_with fail
    refine (ofVariable_any f _).mono ?_
    rintro r w2 ⟨rfl, hb2⟩
    have hw2 : Below w.heap.size w w2 := hw1.trans (hb2.mono hw1.size)
    have d0 := cell_later hb2 e0
    have d1 := cell_later hb2 e1
    have d2 := cell_later hb2 e2
    have d3 := cell_later hb2 e3
    have ld := Nat.lt_of_lt_of_le le hb2.size
    have g0 := cell_later hb2 f0
    have g1 := cell_later hb2 f1
    have g2 := cell_later hb2 f2
    have g3 := cell_later hb2 f3
    have lg := Nat.lt_of_lt_of_le lf hb2.size
    clear e0 e1 e2 e3 f0 f1 f2 f3 le lf hb2
    generalize hx : memE f = x
    cases x
    · go_wp2_with fail
      refine (ofMutex_any e _).mono ?_
      rintro r w3 ⟨rfl, hb3⟩
      have hx3 : mutE e = false := by
        unfold memE at hm
        unfold mutE
        simp at hm ⊢
        omega
      rw [hx3]
      have hw3 : Below w.heap.size w w3 := hw2.trans (hb3.mono hw2.size)
      go_wp2
      go_ret
      refine ⟨ret_bool ?_, hw3⟩
      unfold memE at hm hx
      unfold mutE at hx3
      simp at hm hx hx3
      simp [dep, HT.out, HO.out, hm, hx, hx3]
    · go_wp2
      all_goals
        go_ret
        refine ⟨ret_bool ?_, hw2⟩
        unfold memE at hm hx
        simp at *
        rw [Bool.eq_iff_iff]
        simp [dep, HT.out, HO.out, *]
        try omega

set_option maxRecDepth 100000 in
set_option maxHeartbeats 1000000 in
theorem refDepends_any (e f : Ev) (w : World) : Calls Try.prog 51 #[.agg #[.int .i64 e.thread, .int .i64 e.kind, .int .i64 e.obj, .bool e.fail], .agg #[.int .i64 f.thread, .int .i64 f.kind, .int .i64 f.obj, .bool f.fail]] w fun r w' => r = .returned (.bool (dep e f)) ∧ Below w.heap.size w w' := by
  go_enter Try.func51, Try.ntmps51
  go_wp2
  all_goals
    go_ret
    refine ⟨ret_bool ?_, below_alloc2 _ _ _⟩
    simp at *
    rw [Bool.eq_iff_iff]
    simp [dep, *]
    try omega

end Go.Proofs.Ytkjjbcgecnjniaa

/- Rows of events with their clocks; the contract of clock's known. -/
namespace Go.Proofs.Ytkjjbcgecnjniaa
open Go.RowKit

def mkCell (m : Mk) : List Value := evCell m.e ++ nums4 (fun t => (m.c t : Int))
theorem mkCell_len (m : Mk) : (mkCell m).length = 8 := rfl
theorem mkCell_one (m : Mk) : ∀ v ∈ mkCell m, v.oneCell' = true := by
  intro v hv
  simp [mkCell, evCell, nums4] at hv
  rcases hv with rfl | rfl | rfl | rfl | rfl | rfl | rfl | rfl <;> rfl

theorem RowAt.mk {w : World} {a : Option Addr} {ms : List Mk} (h : RowAt w a 8 mkCell ms) (k : Nat) (hk : k < ms.length) : ∃ b o, a = some ⟨b, o, none⟩ ∧
    (w.cell? ⟨b, o + k * 8, none⟩ = some (.int .i64 ms[k].e.thread) ∧ w.cell? ⟨b, o + k * 8 + 1, none⟩ = some (.int .i64 ms[k].e.kind) ∧ w.cell? ⟨b, o + k * 8 + 2, none⟩ = some (.int .i64 ms[k].e.obj) ∧ w.cell? ⟨b, o + k * 8 + 3, none⟩ = some (.bool ms[k].e.fail)) ∧
    (w.cell? ⟨b, o + k * 8 + 4, none⟩ = some (.int .i64 (ms[k].c 0)) ∧ w.cell? ⟨b, o + k * 8 + 5, none⟩ = some (.int .i64 (ms[k].c 1)) ∧ w.cell? ⟨b, o + k * 8 + 6, none⟩ = some (.int .i64 (ms[k].c 2)) ∧ w.cell? ⟨b, o + k * 8 + 7, none⟩ = some (.int .i64 (ms[k].c 3))) := by
  obtain ⟨b, o, rfl, hc⟩ := h.2 (by intro e; simp [e] at hk)
  exact ⟨b, o, rfl, ⟨hc k hk 0 _ rfl, hc k hk 1 _ rfl, hc k hk 2 _ rfl, hc k hk 3 _ rfl⟩, hc k hk 4 _ rfl, hc k hk 5 _ rfl, hc k hk 6 _ rfl, hc k hk 7 _ rfl⟩

theorem MidAt.only {w w' : World} {g b : Nat} {t : TypeId} {xs : List Value} (h : MidAt w g t xs) (ho : Only b w w') (hb : g ≠ b) : MidAt w' g t xs := (ho.block g h.lt hb).trans h
theorem MidAt.four {w : World} {g : Nat} {t : TypeId} {c : Nat → Int} (h : MidAt w g t (nums4 c)) : w.cell? ⟨g, 0, none⟩ = some (.int .i64 (c 0)) ∧ w.cell? ⟨g, 1, none⟩ = some (.int .i64 (c 1)) ∧ w.cell? ⟨g, 2, none⟩ = some (.int .i64 (c 2)) ∧ w.cell? ⟨g, 3, none⟩ = some (.int .i64 (c 3)) :=
  ⟨by rw [h.cell]; rfl, by rw [h.cell]; rfl, by rw [h.cell]; rfl, by rw [h.cell]; rfl⟩
theorem mid_new (w : World) (t : TypeId) (c : Nat → Int) : MidAt (w.alloc (.cells #[.int .i64 (c 0), .int .i64 (c 1), .int .i64 (c 2), .int .i64 (c 3)] t)) w.heap.size t (nums4 c) := heap_alloc_new w _

/-- The four numbers, the first j of them raised. -/
def mix4 (f c : Nat → Nat) (j : Nat) : Nat → Int := fun t => if t < j then (if f t < c t then (c t : Int) else (f t : Int)) else (f t : Int)
theorem mix4_set (f c : Nat → Nat) (j : Nat) (h : j < 4) : (nums4 (mix4 f c j)).set j (.int .i64 (if f j < c j then (c j : Int) else (f j : Int))) = nums4 (mix4 f c (j + 1)) := by
  rw [nums4_set _ _ h]
  apply nums4_congr
  intro t _
  unfold mix4
  by_cases e : t = j
  · subst e
    rw [if_pos rfl, if_pos (show t < t + 1 by omega)]
  · rw [if_neg e]
    by_cases h2 : t < j
    · rw [if_pos h2, if_pos (show t < j + 1 by omega)]
    · rw [if_neg h2, if_neg (show ¬ t < j + 1 by omega)]

theorem below_step {w8 W w' : World} (h1 : Below w8.heap.size w8 W) (hb : Below W.heap.size W w') : Below w8.heap.size w8 w' := h1.trans (hb.mono h1.size)

/-- What known holds in memory between two rounds. -/
def KnW (w : World) (e : Ev) (c : Nat → Int) (n0 : Nat) (w' : World) : Prop :=
  EvBox w' n0 e ∧ MidAt w' (n0 + 1) 66 (nums4 fun _ => 0) ∧ MidAt w' (n0 + 1 + 1) 66 (nums4 c) ∧ Below n0 w w'

theorem KnW.later {w w1 w' : World} {e : Ev} {c : Nat → Int} {n0 : Nat} (h : KnW w e c n0 w1) (hb : Below w1.heap.size w1 w') : KnW w e c n0 w' :=
  ⟨h.1.later hb, h.2.1.later hb, h.2.2.1.later hb, h.2.2.2.trans (hb.mono (by have := h.2.2.1.lt; omega))⟩
theorem KnW.set {w w1 : World} {e : Ev} {c : Nat → Int} {n0 : Nat} (h : KnW w e c n0 w1) (j : Nat) (d : Nat → Int) (v : Value) (hd : (nums4 c).set j v = nums4 d) : KnW w e d n0 (w1.setCell ⟨n0 + 1 + 1, j, none⟩ v) := by
  have ho : Only (n0 + 1 + 1) w1 (w1.setCell ⟨n0 + 1 + 1, j, none⟩ v) := (Only.refl _ _).setCell _ _
  refine ⟨h.1.only ho (by omega), h.2.1.only ho (by omega), ?_, h.2.2.2.setCell (p := ⟨n0 + 1 + 1, j, none⟩) (by show n0 ≤ n0 + 1 + 1; omega) v⟩
  rw [← hd]
  exact h.2.2.1.set j v

set_option maxRecDepth 100000 in
set_option maxHeartbeats 4000000 in
theorem known_any (a : Option Addr) (cap : Nat) (ms : List Mk) (e : Ev) (w : World) (hl : RowAt w a 8 mkCell ms) :
    Calls Try.prog 44 #[.slice a ms.length cap, .agg #[.int .i64 e.thread, .int .i64 e.kind, .int .i64 e.obj, .bool e.fail]] w fun r w' =>
      r = .returned (.agg #[.int .i64 (kn ms e 0), .int .i64 (kn ms e 1), .int .i64 (kn ms e 2), .int .i64 (kn ms e 3)]) ∧ Below w.heap.size w w' := by
  have hm := hl.1
  unfold maxLen at hm
  have HL := Lib.hid hl
  clear hl
  have H0 : Hid (KnW w e (fun t => (kn (ms.take 0) e t : Int)) w.heap.size (((w.alloc (.cells #[.int .i64 e.thread, .int .i64 e.kind, .int .i64 e.obj, .bool e.fail] 50)).alloc (.cells #[.int .i64 0, .int .i64 0, .int .i64 0, .int .i64 0] 66)).alloc (.cells #[.int .i64 0, .int .i64 0, .int .i64 0, .int .i64 0] 66))) := by
    have b1 := EvBox.new w e
    have b2 := mid_new (w.alloc (.cells #[.int .i64 e.thread, .int .i64 e.kind, .int .i64 e.obj, .bool e.fail] 50)) 66 (fun _ => 0)
    have b3 := mid_new ((w.alloc (.cells #[.int .i64 e.thread, .int .i64 e.kind, .int .i64 e.obj, .bool e.fail] 50)).alloc (.cells #[.int .i64 0, .int .i64 0, .int .i64 0, .int .i64 0] 66)) 66 (fun _ => 0)
    simp only [World.size_alloc] at b2 b3
    exact ⟨(b1.later (below_alloc2 _ _ _)), b2.later (below_alloc1 _ _), b3, ((below_alloc2 w _ _).alloc (by simp; omega) _)⟩
  go_enter Try.func44, Try.ntmps44
  go_wp2
  go_loopw [11] (fun i wr => ∃ k : Nat, k ≤ ms.length ∧ i = .int .i64 k ∧ Hid (KnW w e (fun t => (kn (ms.take k) e t : Int)) w.heap.size wr)) (fun i _ => ms.length - (intOf i).toNat)
  case atStart => exact ⟨0, Nat.zero_le _, rfl, H0⟩
  case round =>
    clear H0
    obtain ⟨k, hk, rfl, HK⟩ := hrel
    by_cases hlt : k < ms.length
    · obtain ⟨b, o, rfl, hx, hc⟩ := HL.out.mk k hlt
      have HKT := Lib.hid (fun t => kn_take ms e t k hlt)
      have hb := HK.out.2.2.2
      obtain ⟨e0, e1, e2, e3⟩ := HK.out.1.cells
      obtain ⟨x0, x1, x2, x3⟩ := hx
      obtain ⟨y0, y1, y2, y3⟩ := hc
      have g0 := cell_later hb x0
      have g1 := cell_later hb x1
      have g2 := cell_later hb x2
      have g3 := cell_later hb x3
      have HC := Lib.hid (And.intro (cell_later hb y0) (And.intro (cell_later hb y1) (And.intro (cell_later hb y2) (cell_later hb y3))))
      clear x0 x1 x2 x3 y0 y1 y2 y3
      generalize ms[k] = m at *
      have HQ : Hid (∀ w', Below wr.heap.size wr w' → w'.cell? ⟨b, o + k * 8, none⟩ = some (.int .i64 m.e.thread) ∧ w'.cell? ⟨b, o + k * 8 + 1, none⟩ = some (.int .i64 m.e.kind) ∧ w'.cell? ⟨b, o + k * 8 + 2, none⟩ = some (.int .i64 m.e.obj) ∧ w'.cell? ⟨b, o + k * 8 + 3, none⟩ = some (.bool m.e.fail) ∧
          w'.cell? ⟨w.heap.size, 0, none⟩ = some (.int .i64 e.thread) ∧ w'.cell? ⟨w.heap.size, 1, none⟩ = some (.int .i64 e.kind) ∧ w'.cell? ⟨w.heap.size, 2, none⟩ = some (.int .i64 e.obj) ∧ w'.cell? ⟨w.heap.size, 3, none⟩ = some (.bool e.fail) ∧ Below wr.heap.size wr w') := by
        intro w' h
        exact ⟨cell_later h g0, cell_later h g1, cell_later h g2, cell_later h g3, cell_later h e0, cell_later h e1, cell_later h e2, cell_later h e3, h⟩
      have hB9 : Below wr.heap.size wr wr.drew := (Below.refl _ _).drew
      obtain ⟨D, hD⟩ : ∃ D, dep m.e e = D := ⟨_, rfl⟩
      have HD1 : Hid (∀ w', Calls Try.prog 46 #[.agg #[.int .i64 m.e.thread, .int .i64 m.e.kind, .int .i64 m.e.obj, .bool m.e.fail], .agg #[.int .i64 e.thread, .int .i64 e.kind, .int .i64 e.obj, .bool e.fail]] w' fun r w'' => r = .returned (.bool D) ∧ Below w'.heap.size w' w'') := fun w' => by rw [← hD]; exact depends_any m.e e w'
      have HDD := Lib.hid hD
      clear hD e0 e1 e2 e3 g0 g1 g2 g3
      go_wp2_with fail
      go_region_held3 (fun w' => w'.cell? ⟨b, o + k * 8, none⟩ = some (.int .i64 m.e.thread) ∧ w'.cell? ⟨b, o + k * 8 + 1, none⟩ = some (.int .i64 m.e.kind) ∧ w'.cell? ⟨b, o + k * 8 + 2, none⟩ = some (.int .i64 m.e.obj) ∧ w'.cell? ⟨b, o + k * 8 + 3, none⟩ = some (.bool m.e.fail) ∧
          w'.cell? ⟨w.heap.size, 0, none⟩ = some (.int .i64 e.thread) ∧ w'.cell? ⟨w.heap.size, 1, none⟩ = some (.int .i64 e.kind) ∧ w'.cell? ⟨w.heap.size, 2, none⟩ = some (.int .i64 e.obj) ∧ w'.cell? ⟨w.heap.size, 3, none⟩ = some (.bool e.fail) ∧ Below wr.heap.size wr w') (first | exact HQ.out _ hB9 | exact HQ.out _ hB10)
        (first | (go_at_call 46; ((with_reducible refine (HD1.out _).mono ?_); rintro r w10 ⟨rfl, hb10⟩; have hB10 := below_step hB9 hb10; clear hB9)))
      have HK1 := Lib.hid (HK.out.later hB10)
      have HC1 := Lib.hid (And.intro (cell_later hB10 HC.out.1) (And.intro (cell_later hB10 HC.out.2.1) (And.intro (cell_later hB10 HC.out.2.2.1) (cell_later hB10 HC.out.2.2.2))))
      clear HK HC hB10 hb HQ
      cases D
      · have HR : Hid (KnW w e (fun t => (kn (ms.take (k + 1)) e t : Int)) w.heap.size w10) := by
          have h : (fun t => (kn (ms.take (k + 1)) e t : Int)) = fun t => (kn (ms.take k) e t : Int) := by
            funext t
            rw [HKT.out t, HDD.out, if_neg (by simp)]
          show KnW _ _ _ _ _
          rw [h]
          exact HK1.out
        clear HKT HDD HD1 HC1
        go_wp2
        go_roundw
        case rel => exact ⟨k + 1, by omega, by go_num, HR⟩
        case measure => simp [intOf]; omega
      · have HE : Hid (∀ t, mix4 (fun t => kn (ms.take k) e t) m.c 4 t = if t < 4 then (kn (ms.take (k + 1)) e t : Int) else kn (ms.take k) e t) := by
          intro t
          unfold mix4
          split
          · rw [HKT.out t, HDD.out, if_pos rfl]
            simp only [Nat.max_def]
            split <;> split <;> omega
          · rfl
        clear HKT HDD HD1
        obtain ⟨y0, y1, y2, y3⟩ := HC1.out
        go_wp2
        go_loopw [26] (fun j wr2 => ∃ q : Nat, q ≤ 4 ∧ j = .int .i64 q ∧ Hid (KnW w e (mix4 (fun t => kn (ms.take k) e t) m.c q) w.heap.size wr2)) (fun j _ => 4 - (intOf j).toNat)
        case atStart => exact ⟨0, by omega, rfl, HK1⟩
        case round =>
          clear y0 y1 y2 y3 HC1 HK1
          obtain ⟨q, hq, rfl, HM⟩ := hrel
          by_cases hq4 : q < 4
          · have hcell : wr.cell? ⟨w.heap.size + 1 + 1, q, none⟩ = some (.int .i64 (kn (ms.take k) e q)) := by
              rw [HM.out.2.2.1.cell, nums4_get _ hq4]
              unfold mix4
              rw [if_neg (by omega)]
            have hf := HM.out.2.2.1.frozen q
            have HS : Hid (KnW w e (mix4 (fun t => kn (ms.take k) e t) m.c (q + 1)) w.heap.size (wr.setCell ⟨w.heap.size + 1 + 1, q, none⟩ (.int .i64 (if kn (ms.take k) e q < m.c q then (m.c q : Int) else (kn (ms.take k) e q : Int))))) := HM.out.set q _ _ (mix4_set _ _ _ hq4)
            clear HM HE
            have hix := fun w => run_index4 (P := Try.prog) w (t := 66) (elem := 3) (fun t => (m.c t : Int)) q Try.underlying66 Try.underlying3 rfl (by kernel_rfl) hq4
            go_wp2
            go_roundw
            case rel => exact ⟨q + 1, by omega, by go_num, HS⟩
            case measure => simp [intOf]; omega
          · obtain rfl : q = 4 := by omega
            have HR : Hid (KnW w e (fun t => (kn (ms.take (k + 1)) e t : Int)) w.heap.size wr) := by
              have h := HM.out
              have h2 : nums4 (mix4 (fun t => kn (ms.take k) e t) m.c 4) = nums4 (fun t => (kn (ms.take (k + 1)) e t : Int)) := nums4_congr fun t ht => by rw [HE.out t, if_pos ht]
              exact ⟨h.1, h.2.1, by rw [← h2]; exact h.2.2.1, h.2.2.2⟩
            clear HM HE
            go_wp2
            go_roundw
            case rel => exact ⟨k + 1, by omega, by go_num, HR⟩
            case measure => simp [intOf]; omega
    · obtain rfl : k = ms.length := by omega
      have HK2 : Hid (KnW w e (fun t => (kn ms e t : Int)) w.heap.size wr) := by have h := HK.out; rw [List.take_length] at h; exact h
      clear HK
      obtain ⟨c0, c1, c2, c3⟩ := HK2.out.2.2.1.four
      obtain ⟨z0, z1, z2, z3⟩ := HK2.out.2.1.four
      have f0 := HK2.out.2.1.frozen 0
      have f1 := HK2.out.2.1.frozen 1
      have f2 := HK2.out.2.1.frozen 2
      have f3 := HK2.out.2.1.frozen 3
      have hb := HK2.out.2.2.2
      go_wp2
      refine bodyPost_ret (v := .agg #[.int .i64 (kn ms e 0), .int .i64 (kn ms e 1), .int .i64 (kn ms e 2), .int .i64 (kn ms e 3)]) ?_ rfl ⟨rfl, ?_⟩
      · simp [results, Try.results44, go_sem, z0, z1, z2, z3]
      · exact (((hb.setCell (p := ⟨w.heap.size + 1, 0, none⟩) (by simp) _).setCell (p := ⟨w.heap.size + 1, 1, none⟩) (by simp) _).setCell (p := ⟨w.heap.size + 1, 2, none⟩) (by simp) _).setCell (p := ⟨w.heap.size + 1, 3, none⟩) (by simp) _

end Go.Proofs.Ytkjjbcgecnjniaa

/- The contract of clock's keep: a row of marks of the call's own. -/
namespace Go.Proofs.Ytkjjbcgecnjniaa
open Go.RowKit

/-- A row of marks of the call's own. -/
def OwnM (w : World) (B : Nat) (v : Value) (ms : List Mk) : Prop := OwnRow w B 90 8 mkCell v ms

theorem OwnM.cells {w : World} {B g cap : Nat} {ms : List Mk} (h : OwnM w B (.slice (some ⟨g, 0, none⟩) ms.length cap) ms) (k : Nat) (hk : k < ms.length) :
    (w.cell? ⟨g, k * 8, none⟩ = some (.int .i64 ms[k].e.thread) ∧ w.cell? ⟨g, k * 8 + 1, none⟩ = some (.int .i64 ms[k].e.kind) ∧ w.cell? ⟨g, k * 8 + 2, none⟩ = some (.int .i64 ms[k].e.obj) ∧ w.cell? ⟨g, k * 8 + 3, none⟩ = some (.bool ms[k].e.fail)) ∧
    (w.cell? ⟨g, k * 8 + 4, none⟩ = some (.int .i64 (ms[k].c 0)) ∧ w.cell? ⟨g, k * 8 + 5, none⟩ = some (.int .i64 (ms[k].c 1)) ∧ w.cell? ⟨g, k * 8 + 6, none⟩ = some (.int .i64 (ms[k].c 2)) ∧ w.cell? ⟨g, k * 8 + 7, none⟩ = some (.int .i64 (ms[k].c 3))) := by
  have hc : ∀ j, j < 8 → w.cell? ⟨g, k * 8 + j, none⟩ = (mkCell ms[k])[j]? := fun j hj => by
    rw [World.ownsRow.cellAt h _ (by omega), cellsL_get mkCell_len ms k j hk hj]
  exact ⟨⟨hc 0 (by omega), hc 1 (by omega), hc 2 (by omega), hc 3 (by omega)⟩, hc 4 (by omega), hc 5 (by omega), hc 6 (by omega), hc 7 (by omega)⟩
theorem OwnM.frozen {w : World} {B g cap : Nat} {ms : List Mk} (h : OwnM w B (.slice (some ⟨g, 0, none⟩) ms.length cap) ms) (j : Nat) : w.frozen? ⟨g, j, none⟩ = false := World.ownsRow.frozenAt h j

theorem set8_cells (ms : List Mk) (m : Mk) (k : Nat) (hk : k < ms.length) : ((((((((cellsL mkCell ms).set (k * 8) (.int .i64 m.e.thread)).set (k * 8 + 1) (.int .i64 m.e.kind)).set (k * 8 + 2) (.int .i64 m.e.obj)).set (k * 8 + 3) (.bool m.e.fail)).set (k * 8 + 4) (.int .i64 (m.c 0))).set (k * 8 + 5) (.int .i64 (m.c 1))).set (k * 8 + 6) (.int .i64 (m.c 2))).set (k * 8 + 7) (.int .i64 (m.c 3)) = cellsL mkCell (ms.set k m) := by
  apply cellsL_ext mkCell_len (by omega)
  · simp only [List.length_set]
    exact cellsL_length mkCell_len ms
  · intro i hi j hj
    have hi' : i < ms.length := by simpa using hi
    have hlen : (cellsL mkCell ms).length = ms.length * 8 := cellsL_length mkCell_len ms
    by_cases hik : i = k
    · subst hik
      rw [List.getElem_set_self]
      rcases (by omega : j = 0 ∨ j = 1 ∨ j = 2 ∨ j = 3 ∨ j = 4 ∨ j = 5 ∨ j = 6 ∨ j = 7) with rfl | rfl | rfl | rfl | rfl | rfl | rfl | rfl <;> simp [mkCell, evCell, nums4, hlen, List.getElem?_set] <;> omega
    · rw [List.getElem_set_ne (by omega)]
      simp only [List.getElem?_set]
      rw [if_neg (by omega), if_neg (by omega), if_neg (by omega), if_neg (by omega), if_neg (by omega), if_neg (by omega), if_neg (by omega), if_neg (by omega)]
      exact cellsL_get mkCell_len ms i j hi' hj

theorem OwnM.set8 {w : World} {B g cap : Nat} {ms : List Mk} (h : OwnM w B (.slice (some ⟨g, 0, none⟩) ms.length cap) ms) (m : Mk) (k : Nat) (hk : k < ms.length) :
    OwnM ((((((((w.setCell ⟨g, k * 8, none⟩ (.int .i64 m.e.thread)).setCell ⟨g, k * 8 + 1, none⟩ (.int .i64 m.e.kind)).setCell ⟨g, k * 8 + 2, none⟩ (.int .i64 m.e.obj)).setCell ⟨g, k * 8 + 3, none⟩ (.bool m.e.fail)).setCell ⟨g, k * 8 + 4, none⟩ (.int .i64 (m.c 0))).setCell ⟨g, k * 8 + 5, none⟩ (.int .i64 (m.c 1))).setCell ⟨g, k * 8 + 6, none⟩ (.int .i64 (m.c 2))).setCell ⟨g, k * 8 + 7, none⟩ (.int .i64 (m.c 3)))
      B (.slice (some ⟨g, 0, none⟩) ms.length cap) (ms.set k m) ∧
    Below B w ((((((((w.setCell ⟨g, k * 8, none⟩ (.int .i64 m.e.thread)).setCell ⟨g, k * 8 + 1, none⟩ (.int .i64 m.e.kind)).setCell ⟨g, k * 8 + 2, none⟩ (.int .i64 m.e.obj)).setCell ⟨g, k * 8 + 3, none⟩ (.bool m.e.fail)).setCell ⟨g, k * 8 + 4, none⟩ (.int .i64 (m.c 0))).setCell ⟨g, k * 8 + 5, none⟩ (.int .i64 (m.c 1))).setCell ⟨g, k * 8 + 6, none⟩ (.int .i64 (m.c 2))).setCell ⟨g, k * 8 + 7, none⟩ (.int .i64 (m.c 3))) := by
  have hB : B ≤ g := (World.ownsRow.lt h g rfl).1
  constructor
  · unfold OwnM OwnRow
    rw [← set8_cells ms m k hk, List.length_set]
    have h0 := (World.ownsRow.stored h (k * 8) (.int .i64 m.e.thread)).1
    have h1 := (World.ownsRow.stored h0 (k * 8 + 1) (.int .i64 m.e.kind)).1
    have h2 := (World.ownsRow.stored h1 (k * 8 + 2) (.int .i64 m.e.obj)).1
    have h3 := (World.ownsRow.stored h2 (k * 8 + 3) (.bool m.e.fail)).1
    have h4 := (World.ownsRow.stored h3 (k * 8 + 4) (.int .i64 (m.c 0))).1
    have h5 := (World.ownsRow.stored h4 (k * 8 + 5) (.int .i64 (m.c 1))).1
    have h6 := (World.ownsRow.stored h5 (k * 8 + 6) (.int .i64 (m.c 2))).1
    exact (World.ownsRow.stored h6 (k * 8 + 7) (.int .i64 (m.c 3))).1
  · exact ((((((((Below.refl B w).setCell (p := ⟨g, _, none⟩) hB _).setCell (p := ⟨g, _, none⟩) hB _).setCell (p := ⟨g, _, none⟩) hB _).setCell (p := ⟨g, _, none⟩) hB _).setCell (p := ⟨g, _, none⟩) hB _).setCell (p := ⟨g, _, none⟩) hB _).setCell (p := ⟨g, _, none⟩) hB _).setCell (p := ⟨g, _, none⟩) hB _

theorem OwnM.back {w : World} {B : Nat} {v : Value} {ms ms' : List Mk} (h : OwnM w B v ms) (e : ms = ms') : OwnM w B v ms' := e ▸ h
theorem OwnM.nil_iff {w : World} {B : Nat} {a : Option Addr} {n cap : Nat} {ms : List Mk} (h : OwnM w B (.slice a n cap) ms) : n = ms.length := by
  obtain ⟨h1, ⟨h2, h3⟩ | ⟨g, cap, cur, h2, _⟩⟩ := h
  · simp at h2
    omega
  · simp at h2
    omega

/-- What keep answers. -/
def KeepR (B : Nat) (w : World) (ms : List Mk) (r : Ending) (w' : World) : Prop := ∃ v, r = .returned v ∧ OwnM w' B v ms ∧ Below B w w'

def MkBox (w : World) (g : Nat) (m : Mk) : Prop := MidAt w g 90 (mkCell m)
theorem MkBox.cells {w : World} {g : Nat} {m : Mk} (h : MkBox w g m) : w.cell? ⟨g, 0, none⟩ = some (.int .i64 m.e.thread) ∧ w.cell? ⟨g, 1, none⟩ = some (.int .i64 m.e.kind) ∧ w.cell? ⟨g, 2, none⟩ = some (.int .i64 m.e.obj) ∧ w.cell? ⟨g, 3, none⟩ = some (.bool m.e.fail) ∧
    w.cell? ⟨g, 4, none⟩ = some (.int .i64 (m.c 0)) ∧ w.cell? ⟨g, 5, none⟩ = some (.int .i64 (m.c 1)) ∧ w.cell? ⟨g, 6, none⟩ = some (.int .i64 (m.c 2)) ∧ w.cell? ⟨g, 7, none⟩ = some (.int .i64 (m.c 3)) :=
  ⟨by rw [MidAt.cell h]; rfl, by rw [MidAt.cell h]; rfl, by rw [MidAt.cell h]; rfl, by rw [MidAt.cell h]; rfl, by rw [MidAt.cell h]; rfl, by rw [MidAt.cell h]; rfl, by rw [MidAt.cell h]; rfl, by rw [MidAt.cell h]; rfl⟩
theorem mkBox_new (w : World) (m : Mk) : MkBox (w.alloc (.cells #[.int .i64 m.e.thread, .int .i64 m.e.kind, .int .i64 m.e.obj, .bool m.e.fail, .int .i64 (m.c 0), .int .i64 (m.c 1), .int .i64 (m.c 2), .int .i64 (m.c 3)] 90)) w.heap.size m := heap_alloc_new w _
theorem infoMark : (Try.prog.info? 90).map (fun i => (i.zero, i.size, i.bytes)) = some (some (.agg #[.int .i64 0, .int .i64 0, .int .i64 0, .bool false, .int .i64 0, .int .i64 0, .int .i64 0, .int .i64 0]), 8, 64) := by kernel_rfl

set_option maxRecDepth 100000 in
set_option maxHeartbeats 4000000 in
theorem keep_any (B : Nat) (v : Value) (ms : List Mk) (m : Mk) (w : World) (hown : OwnM w B v ms) (hB : B ≤ w.heap.size) (hm : ms.length ≤ 1000000) :
    Calls Try.prog 45 #[v, .agg #[.int .i64 m.e.thread, .int .i64 m.e.kind, .int .i64 m.e.obj, .bool m.e.fail, .int .i64 (m.c 0), .int .i64 (m.c 1), .int .i64 (m.c 2), .int .i64 (m.c 3)]] w (KeepR B w (keepM ms m)) := by
  obtain ⟨a, cap, rfl, _, _⟩ := hown.form mkCell_len hm
  have H0 := Lib.hid (And.intro (mkBox_new w m) (And.intro (OwnRow.alloc hown (.cells #[.int .i64 m.e.thread, .int .i64 m.e.kind, .int .i64 m.e.obj, .bool m.e.fail, .int .i64 (m.c 0), .int .i64 (m.c 1), .int .i64 (m.c 2), .int .i64 (m.c 3)] 90)) (below_alloc1 w (.cells #[.int .i64 m.e.thread, .int .i64 m.e.kind, .int .i64 m.e.obj, .bool m.e.fail, .int .i64 (m.c 0), .int .i64 (m.c 1), .int .i64 (m.c 2), .int .i64 (m.c 3)] 90))))
  clear hown
  go_enter Try.func45, Try.ntmps45
  go_wp2
  go_loopw [8] (fun i wr => ∃ k : Nat, k ≤ ms.length ∧ i = .int .i64 k ∧ Hid (∀ j (h : j < k) (h2 : j < ms.length), (ms[j]).e ≠ m.e) ∧ Hid (MkBox wr w.heap.size m ∧ OwnM wr B (.slice a ms.length cap) ms ∧ Below w.heap.size w wr)) (fun i _ => ms.length - (intOf i).toNat)
  case atStart => exact ⟨0, Nat.zero_le _, rfl, (fun j h => absurd h (by omega)), H0⟩
  case round =>
    clear H0
    obtain ⟨k, hk, rfl, HN, HW⟩ := hrel
    obtain ⟨c0, c1, c2, c3, c4, c5, c6, c7⟩ := HW.out.1.cells
    have hb := HW.out.2.2
    by_cases hlt : k < ms.length
    · obtain ⟨g, cap', hv, hg, hgl⟩ := HW.out.2.1.block (by intro e; simp [e] at hlt)
      obtain ⟨rfl, rfl⟩ : a = some ⟨g, 0, none⟩ ∧ cap = cap' := by simpa using hv
      clear hv
      obtain ⟨⟨x0, x1, x2, x3⟩, y4, y5, y6, y7⟩ := HW.out.2.1.cells k hlt
      have heq := run_equal_ev ms[k].e m.e
      by_cases he : ms[k].e = m.e
      · have hq2 : decide (ms[k].e = m.e) = true := by simp [he]
        rw [hq2] at heq
        have HE := Lib.hid (keepM_at hlt (fun i hi => HN.out i hi (by omega)) he)
        obtain ⟨f0, f1, f2, f3⟩ := And.intro (HW.out.2.1.frozen (k * 8)) (And.intro (HW.out.2.1.frozen (k * 8 + 1)) (And.intro (HW.out.2.1.frozen (k * 8 + 2)) (HW.out.2.1.frozen (k * 8 + 3))))
        obtain ⟨f4, f5, f6, f7⟩ := And.intro (HW.out.2.1.frozen (k * 8 + 4)) (And.intro (HW.out.2.1.frozen (k * 8 + 5)) (And.intro (HW.out.2.1.frozen (k * 8 + 6)) (HW.out.2.1.frozen (k * 8 + 7))))
        have HS : Hid (∀ n, _ ∧ _) := fun n => OwnM.set8 (w := wr.drewN n) HW.out.2.1 m k hlt
        clear he hq2 HN HW
        generalize ms[k] = x at *
        go_wp2
        go_quiet (fail)
        go_wp2
        go_ret
        refine ⟨.slice (some ⟨g, 0, none⟩) ms.length cap, rfl, ?_, ?_⟩
        · rw [HE.out]
          exact (HS.out nq).1
        · exact (hb.mono hB).drewN.trans (HS.out nq).2
      · have hq2 : decide (ms[k].e = m.e) = false := by simpa using he
        rw [hq2] at heq
        have HN2 : Hid (∀ j (h : j < k + 1) (h2 : j < ms.length), (ms[j]).e ≠ m.e) := by
          intro j hj hj2
          by_cases e : j = k
          · subst e; exact he
          · exact HN.out j (by omega) hj2
        clear he hq2 HN y4 y5 y6 y7
        generalize ms[k] = x at *
        go_wp2
        go_quiet (fail)
        go_wp2
        go_roundw
        case rel => exact ⟨k + 1, by omega, by go_num, HN2, HW.out.1, HW.out.2.1, hb.drewN⟩
        case measure => simp [intOf]; omega
    · obtain rfl : k = ms.length := by omega
      have HE := Lib.hid (keepM_new (ms := ms) (m := m) (fun x hx => by
        obtain ⟨i, hi, rfl⟩ := List.mem_iff_getElem.1 hx
        exact HN.out i hi hi))
      have hz := hb.size
      go_wp2_with (at_builtin; refine wp_appendR (f := mkCell) (n := 8) 85 90 64 (.agg #[.int .i64 0, .int .i64 0, .int .i64 0, .bool false, .int .i64 0, .int .i64 0, .int .i64 0, .int .i64 0]) Try.underlying85 infoMark rfl (by omega) (by omega) mkCell_len rfl (.tmp 25) (.tmp 27) rfl B _ ms rfl (OwnRow.alloc HW.out.2.1 _) ⟨wr.heap.size, 0, none⟩ rfl m (mkCell_one m) (cells_new wr (mkCell m) _ _ rfl) (by omega) (by simp; omega) ?_; intro v1 w2 hown2 hb3 _)
      go_ret
      exact ⟨v1, rfl, by rw [HE.out]; exact hown2, ((hb.mono hB).trans (below_alloc1 _ _ |>.mono (by omega))).trans hb3⟩

end Go.Proofs.Ytkjjbcgecnjniaa

/- Rows that may be, and the contract of the document's Rows. -/
namespace Go.Proofs.Ytkjjbcgecnjniaa
open Go.RowKit

/-- May all events be? -/
def rightL (l : List Ev) : Bool := l.all rightEv
theorem rightL_take (l : List Ev) (k : Nat) (h : k < l.length) : rightL (l.take (k + 1)) = (rightL (l.take k) && rightEv l[k]) := by
  unfold rightL
  rw [List.take_succ_eq_append_getElem h, List.all_append]
  simp
theorem rightL_no {l : List Ev} {k : Nat} (h : k < l.length) (hr : rightEv l[k] = false) : rightL l = false := by
  unfold rightL
  rw [List.all_eq_false]
  exact ⟨l[k], List.getElem_mem h, by simp [hr]⟩
theorem rightL_get {l : List Ev} (h : rightL l = true) {k : Nat} (hk : k < l.length) : rightEv l[k] = true := by
  unfold rightL at h
  exact List.all_eq_true.1 h _ (List.getElem_mem hk)

set_option maxRecDepth 100000 in
set_option maxHeartbeats 1000000 in
theorem rows_any (a : Option Addr) (cap : Nat) (l : List Ev) (w : World) (hl : EvsAt w a l) :
    Calls Try.prog 17 #[.slice a l.length cap] w fun r w' => r = .returned (.bool (rightL l)) ∧ Below w.heap.size w w' := by
  have hm := hl.1
  unfold maxLen at hm
  have HL := Lib.hid hl
  clear hl
  go_enter Try.func17, Try.ntmps17
  go_wp2
  go_loopw [3] (fun i wr => ∃ k : Nat, k ≤ l.length ∧ i = .int .i64 k ∧ Hid (rightL (l.take k) = true) ∧ Below w.heap.size w wr) (fun i _ => l.length - (intOf i).toNat)
  case atStart => exact ⟨0, Nat.zero_le _, rfl, rfl, Below.refl _ _⟩
  case round =>
    obtain ⟨k, hk, rfl, HR, hb⟩ := hrel
    by_cases hlt : k < l.length
    · obtain ⟨b, o, rfl, hc⟩ := HL.out.2 (by intro e; simp [e] at hlt)
      obtain ⟨c0, c1, c2, c3⟩ := hc k hlt
      have d0 := cell_later hb c0
      have d1 := cell_later hb c1
      have d2 := cell_later hb c2
      have d3 := cell_later hb c3
      have HT := Lib.hid (rightL_take l k hlt)
      have hx1 : Hid (rightEv l[k] = false → rightL l = false) := fun h => rightL_no hlt h
      clear hc c0 c1 c2 c3
      generalize l[k] = x at *
      go_wp2_with fail
      refine (refEvRight_any x _).mono ?_
      rintro r w2 ⟨rfl, hb5⟩
      have hb6 := hb.trans (hb5.mono hb.size)
      clear hb5
      cases hr : rightEv x
      · have HN := Lib.hid (hx1.out hr)
        clear hx1 HT
        go_wp2
        go_ret
        exact ⟨ret_bool HN.out.symm, hb6⟩
      · have HN : Hid (rightL (l.take (k + 1)) = true) := by show _ = _; rw [HT.out, HR.out, hr]; rfl
        clear hx1 HT
        go_wp2
        go_roundw
        case rel => exact ⟨k + 1, by omega, by go_num, HN, hb6⟩
        case measure => simp [intOf]; omega
    · obtain rfl : k = l.length := by omega
      have HE : Hid (rightL l = true) := by have h := HR.out; rw [List.take_length] at h; exact h
      go_wp2
      go_ret
      exact ⟨ret_bool HE.out.symm, hb⟩

end Go.Proofs.Ytkjjbcgecnjniaa

/- The contracts of clock's below and right. -/
namespace Go.Proofs.Ytkjjbcgecnjniaa
open Go.RowKit

set_option maxRecDepth 100000 in
set_option maxHeartbeats 1000000 in
theorem cRight_any (a : Option Addr) (cap : Nat) (l : List Ev) (w : World) (hl : EvsAt w a l) :
    Calls Try.prog 32 #[.slice a l.length cap] w fun r w' => r = .returned (.bool (rightL l)) ∧ Below w.heap.size w w' := by
  have hm := hl.1
  unfold maxLen at hm
  have HL := Lib.hid hl
  clear hl
  go_enter Try.func32, Try.ntmps32
  go_wp2
  go_loopw [7] (fun i wr => ∃ k : Nat, k ≤ l.length ∧ i = .int .i64 k ∧ Hid (rightL (l.take k) = true) ∧ Below w.heap.size w wr) (fun i _ => l.length - (intOf i).toNat)
  case atStart => exact ⟨0, Nat.zero_le _, rfl, rfl, Below.refl _ _⟩
  case round =>
    obtain ⟨k, hk, rfl, HR, hb⟩ := hrel
    by_cases hlt : k < l.length
    · obtain ⟨b, o, rfl, hc⟩ := HL.out.2 (by intro e; simp [e] at hlt)
      obtain ⟨c0, c1, c2, c3⟩ := hc k hlt
      have d0 := cell_later hb c0
      have d1 := cell_later hb c1
      have d2 := cell_later hb c2
      have d3 := cell_later hb c3
      have HT := Lib.hid (rightL_take l k hlt)
      have hx1 : Hid (rightEv l[k] = false → rightL l = false) := fun h => rightL_no hlt h
      have hb4 := hb.alloc hb.size (.cells #[.int .i64 l[k].thread, .int .i64 l[k].kind, .int .i64 l[k].obj, .bool l[k].fail] 50)
      clear hc c0 c1 c2 c3
      generalize l[k] = x at *
      go_wp2_with fail
      refine (evRight_any x _).mono ?_
      rintro r w2 ⟨rfl, hb5⟩
      have hb6 := hb4.trans (hb5.mono hb4.size)
      clear hb4 hb5
      cases hr : rightEv x
      · have HN := Lib.hid (hx1.out hr)
        clear hx1 HT
        go_wp2
        go_ret
        exact ⟨ret_bool HN.out.symm, hb6⟩
      · have HN : Hid (rightL (l.take (k + 1)) = true) := by show _ = _; rw [HT.out, HR.out, hr]; rfl
        clear hx1 HT
        go_wp2
        go_roundw
        case rel => exact ⟨k + 1, by omega, by go_num, HN, hb6⟩
        case measure => simp [intOf]; omega
    · obtain rfl : k = l.length := by omega
      have HE : Hid (rightL l = true) := by have h := HR.out; rw [List.take_length] at h; exact h
      go_wp2
      go_ret
      exact ⟨ret_bool HE.out.symm, hb⟩

end Go.Proofs.Ytkjjbcgecnjniaa
