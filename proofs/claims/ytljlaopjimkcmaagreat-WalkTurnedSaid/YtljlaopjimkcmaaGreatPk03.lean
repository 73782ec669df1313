import Derived.BigQuiet
import Derived.Deep.QuietTactic
import Derived.WalkLawsBesides
import Derived.Lib.Hide
import Derived.Lib.SliceRun
import Derived.Deep.OwnRows
import Derived.RangeFuncNested
import Derived.RangeFuncBound
import Derived.RangeFuncCalls
import Derived.RangeFuncLeaves
import Derived.RangeFuncBox
import Derived.Shelf.Abstract
import Derived.Shelf.RegionOpen
import Derived.WalkKit
import Derived.OwnWalkIn
import Derived.TacticsInMore
import Derived.LoopNIn
import Derived.LoopIn
import Derived.Sort.QuietIn
import Derived.Test.YtljlaopjimkcmaaGreatRows
import Derived.Test.YtljlaopjimkcmaaGreatPk01
import Derived.Test.YtljlaopjimkcmaaGreatPk02

/-
  Plain data: two threads whose next events are independent, and who both may, come to one state in either order. Nothing of the translation.
-/
namespace Go.Proofs.YtljlaopjimkcmaaGreat

theorem dep_vars {s : St} {a b : Int} {i j : Ins} (hd : dep (s.ev a i) (s.ev b j) = false) (h1 : i.kind = 2) (h2 : j.kind = 1 ∨ j.kind = 2) : i.x ≠ j.x := by
  intro hx
  have e1 : s.ev a i = ⟨a, 3, i.x, false⟩ := by simp [St.ev, h1]
  rw [e1] at hd
  rcases h2 with h2 | h2
  · have e2 : s.ev b j = ⟨b, 2, j.x, false⟩ := by simp [St.ev, h2]
    rw [e2] at hd
    simp [dep, hx] at hd
  · have e2 : s.ev b j = ⟨b, 3, j.x, false⟩ := by simp [St.ev, h2]
    rw [e2] at hd
    simp [dep, hx] at hd

theorem ev_mut {s : St} {a : Int} {i : Ins} (h : i.kind = 5 ∨ (i.kind = 6 ∧ s.who i.x = a)) : (s.ev a i).obj = i.x ∧ ((s.ev a i).kind = 4 ∨ (s.ev a i).kind = 5) := by
  rcases h with h | ⟨h, hw⟩
  · simp [St.ev, h]
  · simp [St.ev, h, hw]

theorem dep_muts {s : St} {a b : Int} {i j : Ins} (hd : dep (s.ev a i) (s.ev b j) = false) (h1 : i.kind = 5 ∨ (i.kind = 6 ∧ s.who i.x = a)) (h2 : j.kind = 5 ∨ (j.kind = 6 ∧ s.who j.x = b)) : i.x ≠ j.x := by
  intro hx
  obtain ⟨o1, k1⟩ := ev_mut h1
  obtain ⟨o2, k2⟩ := ev_mut h2
  unfold dep at hd
  rw [decide_eq_false_iff_not] at hd
  exact hd (.inr ⟨by rw [o1, o2, hx], .inr ⟨k1, k2⟩⟩)

theorem St.Ok.hold_do {F : Nat} {s : St} (h : s.Ok F) {a b : Int} {i : Ins} (hi : s.ins a = some i) (hm : s.may a = true) (hab : a ≠ b) (hb : 0 ≤ b) (x : Int) : ((s.do_ a i).who x = b) ↔ (s.who x = b) := by
  rw [h.who_do hi x]
  split
  · rename_i h5
    have := St.may_free hi hm h5.1
    rw [St.who_eq h5.2]
    omega
  split
  · rename_i h6
    rw [St.who_eq h6.2.2, h6.2.1]
    omega
  · exact Iff.rfl

theorem St.ins_do {s : St} {a b : Int} {i : Ins} (hi : s.ins a = some i) (hb : s.has b) (hab : a ≠ b) : (s.do_ a i).ins b = s.ins b := by
  obtain ⟨ha, _, _⟩ := St.ins_has hi
  have hl : (s.do_ a i).ts.length = s.ts.length := by simp [St.do_]
  have hh : (s.do_ a i).has b ↔ s.has b := by unfold St.has; rw [hl]
  have hth : (s.do_ a i).th b.toNat = s.th b.toNat := by
    rw [St.th_do s a i ha, if_neg]
    unfold St.has at ha hb
    omega
  have hc : (s.do_ a i).code b.toNat = s.code b.toNat := rfl
  unfold St.ins
  rw [hth, hc]
  by_cases hx : s.has b
  · simp [hx, hh]
  · simp [hx, hh]

theorem St.Ok.thr_do {F : Nat} {s : St} (h : s.Ok F) {a b : Int} {i j : Ins} (hi : s.ins a = some i) (hj : s.ins b = some j) (hab : a ≠ b) (hd : dep (s.ev a i) (s.ev b j) = false) : (s.do_ a i).thr b j = s.thr b j := by
  obtain ⟨ha, _, _⟩ := St.ins_has hi
  obtain ⟨hb, _, _⟩ := St.ins_has hj
  have hth : (s.do_ a i).th b.toNat = s.th b.toNat := by
    rw [St.th_do s a i ha, if_neg]
    unfold St.has at ha hb
    omega
  have hr : (s.do_ a i).reg b j = s.reg b j := by unfold St.reg; rw [hth]
  have hv : j.kind = 1 → (s.do_ a i).var j.x = s.var j.x := by
    intro h1
    rw [h.var_do hi j.x, if_neg]
    rintro ⟨h2, hx⟩
    have := dep_vars hd h2 (.inl h1)
    have := (h.obj hi).1 (.inr h2)
    have := (h.obj hj).1 (.inl h1)
    omega
  unfold St.thr
  rw [hth, hr]
  by_cases h1 : j.kind = 1
  · rw [hv h1]
  · simp [h1]

theorem St.Ok.may_do {F : Nat} {s : St} (h : s.Ok F) {a b : Int} {i j : Ins} (hi : s.ins a = some i) (hj : s.ins b = some j) (hmb : s.may b = true) (hab : a ≠ b) (hd : dep (s.ev a i) (s.ev b j) = false) : (s.do_ a i).may b = true := by
  obtain ⟨hb, _, _⟩ := St.ins_has hj
  have h1 := St.ins_do hi hb hab
  unfold St.may
  rw [h1, hj]
  simp only [decide_eq_true_eq]
  intro h5
  have hf := St.may_free hj hmb h5
  rw [h.who_do hi]
  split
  · rename_i hx
    have := dep_muts hd (.inl hx.1) (.inl h5)
    have := (h.obj hi).2.1 (.inl hx.1)
    have := (h.obj hj).2.1 (.inl h5)
    omega
  split
  · omega
  · exact hf

theorem St.Ok.do_swap {F : Nat} {s : St} (h : s.Ok F) {a b : Int} {i j : Ins} (hi : s.ins a = some i) (hj : s.ins b = some j) (hma : s.may a = true) (hmb : s.may b = true) (hab : a ≠ b)
    (hd : dep (s.ev a i) (s.ev b j) = false) : (s.do_ a i).do_ b j = (s.do_ b j).do_ a i := by
  obtain ⟨ha, _, _⟩ := St.ins_has hi
  obtain ⟨hb, _, _⟩ := St.ins_has hj
  have hd' : dep (s.ev b j) (s.ev a i) = false := by rw [dep_symm]; exact hd
  have hn : a.toNat ≠ b.toNat := by unfold St.has at ha hb; omega
  have t1 := h.thr_do hi hj hab hd
  have t2 := h.thr_do hj hi (Ne.symm hab) hd'
  have w1 := h.hold_do hi hma hab (by unfold St.has at hb; exact hb.1) j.x
  have w2 := h.hold_do hj hmb (Ne.symm hab) (by unfold St.has at ha; exact ha.1) i.x
  have r1 : (s.do_ a i).reg b j = s.reg b j := by
    unfold St.reg
    rw [St.th_do s a i ha, if_neg (Ne.symm hn)]
  have r2 : (s.do_ b j).reg a i = s.reg a i := by
    unfold St.reg
    rw [St.th_do s b j hb, if_neg hn]
  obtain ⟨oi1, oi2, _⟩ := h.obj hi
  obtain ⟨oj1, oj2, _⟩ := h.obj hj
  have ets : ((s.do_ a i).do_ b j).ts = ((s.do_ b j).do_ a i).ts := by
    show (s.ts.set a.toNat (s.thr a i)).set b.toNat ((s.do_ a i).thr b j) = (s.ts.set b.toNat (s.thr b j)).set a.toNat ((s.do_ b j).thr a i)
    rw [t1, t2, List.set_comm _ _ hn]
  have ev : ((s.do_ a i).do_ b j).v = ((s.do_ b j).do_ a i).v := by
    show (if j.kind = 2 then (if i.kind = 2 then s.v.set i.x.toNat (s.reg a i) else s.v).set j.x.toNat ((s.do_ a i).reg b j) else if i.kind = 2 then s.v.set i.x.toNat (s.reg a i) else s.v) =
      (if i.kind = 2 then (if j.kind = 2 then s.v.set j.x.toNat (s.reg b j) else s.v).set i.x.toNat ((s.do_ b j).reg a i) else if j.kind = 2 then s.v.set j.x.toNat (s.reg b j) else s.v)
    rw [r1, r2]
    by_cases h1 : i.kind = 2
    · by_cases h2 : j.kind = 2
      · have hne := dep_vars hd h1 (.inr h2)
        have := oi1 (.inr h1)
        have := oj1 (.inr h2)
        simp only [h1, h2, if_true]
        exact List.set_comm _ _ (by omega)
      · simp [h1, h2]
    · by_cases h2 : j.kind = 2
      · simp [h1, h2]
      · simp [h1, h2]
  have em : ((s.do_ a i).do_ b j).m = ((s.do_ b j).do_ a i).m := by
    show (if j.kind = 5 then (s.do_ a i).m.set j.x.toNat b else if j.kind = 6 ∧ (s.do_ a i).who j.x = b then (s.do_ a i).m.set j.x.toNat (-1) else (s.do_ a i).m) =
      (if i.kind = 5 then (s.do_ b j).m.set i.x.toNat a else if i.kind = 6 ∧ (s.do_ b j).who i.x = a then (s.do_ b j).m.set i.x.toNat (-1) else (s.do_ b j).m)
    have mi : (s.do_ a i).m = if i.kind = 5 then s.m.set i.x.toNat a else if i.kind = 6 ∧ s.who i.x = a then s.m.set i.x.toNat (-1) else s.m := rfl
    have mj : (s.do_ b j).m = if j.kind = 5 then s.m.set j.x.toNat b else if j.kind = 6 ∧ s.who j.x = b then s.m.set j.x.toNat (-1) else s.m := rfl
    simp only [w1, w2]
    rw [mi, mj]
    by_cases p : i.kind = 5 ∨ (i.kind = 6 ∧ s.who i.x = a)
    · by_cases q : j.kind = 5 ∨ (j.kind = 6 ∧ s.who j.x = b)
      · have hne := dep_muts hd p q
        have := oi2 (by omega)
        have := oj2 (by omega)
        have hx : i.x.toNat ≠ j.x.toNat := by omega
        rcases p with p | p
        · rcases q with q | q
          · simp only [p, q, if_true]
            exact List.set_comm _ _ hx
          · simp [p, q]
            exact List.set_comm _ _ hx
        · rcases q with q | q
          · simp [p, q]
            exact List.set_comm _ _ hx
          · simp [p, q]
            exact List.set_comm _ _ hx
      · have q1 : ¬ j.kind = 5 := fun e => q (.inl e)
        have q2 : ¬ (j.kind = 6 ∧ s.who j.x = b) := fun e => q (.inr e)
        simp only [q1, q2, if_false]
    · have p1 : ¬ i.kind = 5 := fun e => p (.inl e)
      have p2 : ¬ (i.kind = 6 ∧ s.who i.x = a) := fun e => p (.inr e)
      simp only [p1, p2, if_false]
  have ep : ((s.do_ a i).do_ b j).p = ((s.do_ b j).do_ a i).p := rfl
  generalize (s.do_ a i).do_ b j = z at *
  generalize (s.do_ b j).do_ a i = z' at *
  cases z
  cases z'
  simp_all

theorem St.step_may {s : St} {t : Int} {i : Ins} (hi : s.ins t = some i) (hm : s.may t = true) : s.step t = (0, s.ev t i, s.do_ t i) := by
  obtain ⟨ht, _, _⟩ := St.ins_has hi
  unfold St.step
  rw [if_pos ht, hi]
  simp [hm]

theorem St.Ok.ev_do {F : Nat} {s : St} (h : s.Ok F) {a b : Int} {i j : Ins} (hi : s.ins a = some i) (hj : s.ins b = some j) (hma : s.may a = true) (hab : a ≠ b) : (s.do_ a i).ev b j = s.ev b j := by
  obtain ⟨hb, _, _⟩ := St.ins_has hj
  have h1 := h.next_do hi hma (Ne.symm hab)
  unfold St.next at h1
  rw [St.ins_do hi hb hab, hj] at h1
  simpa using h1

/-- Both orders. -/
theorem St.Ok.swap {F : Nat} {s : St} (h : s.Ok F) {a b : Int} {x y : Ev} (hx : s.next a = some x) (hy : s.next b = some y) (hma : s.may a = true) (hmb : s.may b = true) (hab : a ≠ b) (hd : dep x y = false) :
    ∃ c d z, s.step a = (0, x, c) ∧ c.step b = (0, y, z) ∧ s.step b = (0, y, d) ∧ d.step a = (0, x, z) ∧ c.Ok F ∧ d.Ok F ∧ z.Ok F := by
  unfold St.next at hx hy
  obtain ⟨i, hi, rfl⟩ := Option.map_eq_some_iff.1 hx
  obtain ⟨j, hj, rfl⟩ := Option.map_eq_some_iff.1 hy
  have hd' : dep (s.ev b j) (s.ev a i) = false := by rw [dep_symm]; exact hd
  obtain ⟨ha, _, _⟩ := St.ins_has hi
  obtain ⟨hb, _, _⟩ := St.ins_has hj
  have i1 := (St.ins_do hi hb hab).trans hj
  have i2 := (St.ins_do hj ha (Ne.symm hab)).trans hi
  refine ⟨s.do_ a i, s.do_ b j, (s.do_ a i).do_ b j, St.step_may hi hma, ?_, St.step_may hj hmb, ?_, h.do_ok hi, h.do_ok hj, (h.do_ok hi).do_ok i1⟩
  · rw [St.step_may i1 (h.may_do hi hj hmb hab hd), h.ev_do hi hj hma hab]
  · rw [St.step_may i2 (h.may_do hj hi hma (Ne.symm hab) hd'), h.ev_do hj hi hmb (Ne.symm hab), h.do_swap hi hj hma hmb hab hd]

end Go.Proofs.YtljlaopjimkcmaaGreat

/-
  Plain data: rows of steps; steps of threads that are never dependent, in any order of threads, have the same events each. Nothing of the translation.
-/
namespace Go.Proofs.YtljlaopjimkcmaaGreat

theorem St.ev_thread (s : St) (t : Int) (i : Ins) : (s.ev t i).thread = t := by
  unfold St.ev
  repeat' split
  all_goals rfl

theorem St.step_ok0 {s : St} {t : Int} {e : Ev} {s1 : St} (h : s.step t = (0, e, s1)) : ∃ i, s.ins t = some i ∧ s.may t = true ∧ e = s.ev t i ∧ s1 = s.do_ t i := by
  rcases s.step_cases t with ⟨i, hi, hm, e1⟩ | ⟨c, hc, e1⟩
  · rw [e1] at h
    injection h with _ h
    injection h with h1 h2
    exact ⟨i, hi, hm, h1.symm, h2.symm⟩
  · rw [e1] at h
    injection h with h _
    omega

/-- Two steps of independent events, the other way round. -/
theorem St.Ok.swap_back {F : Nat} {s : St} (h : s.Ok F) {u t : Int} {e x : Ev} {s1 s2 : St} (h1 : s.step u = (0, e, s1)) (h2 : s1.step t = (0, x, s2)) (hut : u ≠ t) (hd : dep e x = false) :
    ∃ d, s.step t = (0, x, d) ∧ d.step u = (0, e, s2) ∧ d.Ok F := by
  obtain ⟨i, hi, hm, rfl, rfl⟩ := St.step_ok0 h1
  obtain ⟨j, hj, hmj, rfl, rfl⟩ := St.step_ok0 h2
  have hnx := h.next_do hi hm (Ne.symm hut)
  obtain ⟨hhas, _, _⟩ := St.ins_has hj
  have hl : (s.do_ u i).ts.length = s.ts.length := by simp [St.do_]
  have hhas' : s.has t := by unfold St.has at hhas ⊢; rw [hl] at hhas; exact hhas
  have hj' : s.ins t = some j := by rw [← St.ins_do hi hhas' hut]; exact hj
  have hev : (s.do_ u i).ev t j = s.ev t j := h.ev_do hi hj' hm hut
  rw [hev] at hd ⊢
  have hmt : s.may t = true := by
    unfold St.may
    rw [hj']
    simp only [decide_eq_true_eq]
    intro h5
    have hf := St.may_free hj hmj h5
    rw [h.who_do hi] at hf
    split at hf
    · rename_i hx
      have := dep_muts hd (.inl hx.1) (.inl h5)
      have := (h.obj hi).2.1 (.inl hx.1)
      have := (h.obj hj').2.1 (.inl h5)
      omega
    split at hf
    · rename_i hx
      have := dep_muts hd (.inr ⟨hx.1, hx.2.1⟩) (.inl h5)
      have := (h.obj hi).2.1 (.inr hx.1)
      have := (h.obj hj').2.1 (.inl h5)
      omega
    · exact hf
  have hx : s.next u = some (s.ev u i) := by unfold St.next; rw [hi]; rfl
  have hy : s.next t = some (s.ev t j) := by unfold St.next; rw [hj']; rfl
  obtain ⟨c, d, z, s1', s2', s3', s4', _, okd, _⟩ := h.swap hx hy hm hmt hut hd
  refine ⟨d, s3', ?_, okd⟩
  rw [h1] at s1'
  injection s1' with _ q
  injection q with _ q
  subst q
  rw [h2] at s2'
  injection s2' with _ q
  injection q with _ q
  rw [s4', q]

/-- Steps that are done, one behind the other. -/
def Runs : St → List Int → List Ev → St → Prop
  | s, [], l, z => l = [] ∧ z = s
  | s, t :: row, l, z => ∃ e s1 l', s.step t = (0, e, s1) ∧ Runs s1 row l' z ∧ l = e :: l'

theorem Runs.ok {F : Nat} {row : List Int} : ∀ {s : St} {l : List Ev} {z : St}, Runs s row l z → s.Ok F → z.Ok F := by
  induction row with
  | nil => intro s l z h ok; rw [h.2]; exact ok
  | cons t row ih =>
    intro s l z h ok
    obtain ⟨e, s1, l', h1, h2, rfl⟩ := h
    have := ok.step_ok t
    rw [h1] at this
    exact ih h2 this

theorem runs_append {a b : List Int} : ∀ {s : St} {l : List Ev} {z : St}, Runs s (a ++ b) l z ↔ ∃ la lb s1, Runs s a la s1 ∧ Runs s1 b lb z ∧ l = la ++ lb := by
  induction a with
  | nil =>
    intro s l z
    constructor
    · intro h; exact ⟨[], l, s, ⟨rfl, rfl⟩, h, rfl⟩
    · rintro ⟨la, lb, s1, ⟨rfl, rfl⟩, h, rfl⟩; exact h
  | cons t a ih =>
    intro s l z
    constructor
    · rintro ⟨e, s1, l', h1, h2, rfl⟩
      obtain ⟨la, lb, s2, h3, h4, rfl⟩ := ih.1 h2
      exact ⟨e :: la, lb, s2, ⟨e, s1, la, h1, h3, rfl⟩, h4, rfl⟩
    · rintro ⟨la, lb, s2, ⟨e, s1, la', h1, h3, rfl⟩, h4, rfl⟩
      exact ⟨e, s1, la' ++ lb, h1, ih.2 ⟨la', lb, s2, h3, h4, rfl⟩, rfl⟩

theorem Runs.has {row : List Int} : ∀ {s : St} {l : List Ev} {z : St}, Runs s row l z → ∀ t ∈ row, s.has t := by
  induction row with
  | nil => intro s l z _ t ht; cases ht
  | cons u row ih =>
    intro s l z h t ht
    obtain ⟨e, s1, l', h1, h2, rfl⟩ := h
    obtain ⟨i, hi, _, _, rfl⟩ := St.step_ok0 h1
    rcases List.mem_cons.1 ht with rfl | ht
    · exact (St.ins_has hi).1
    · have := ih h2 t ht
      unfold St.has at this ⊢
      simpa [St.do_] using this

theorem Runs.threads {row : List Int} : ∀ {s : St} {l : List Ev} {z : St}, Runs s row l z → l.map Ev.thread = row := by
  induction row with
  | nil => intro s l z h; rw [h.1]; rfl
  | cons u row ih =>
    intro s l z h
    obtain ⟨e, s1, l', h1, h2, rfl⟩ := h
    obtain ⟨i, _, _, rfl, rfl⟩ := St.step_ok0 h1
    simp [ih h2, St.ev_thread]

/-- Events of unlike threads don't depend on one another. -/
def Indep (l : List Ev) : Prop := l.Pairwise fun a b => a.thread ≠ b.thread → dep a b = false

/-- A step behind steps of another thread. -/
theorem runs_move {F : Nat} {t u : Int} (htu : u ≠ t) {rest : List Int} {e : Ev} {rs : List Ev} (ts : List Int) : ∀ {s : St} {es : List Ev} {z : St}, s.Ok F → (∀ x ∈ ts, x = t) → es.length = ts.length → (∀ x ∈ es, dep e x = false) →
    Runs s (u :: (ts ++ rest)) (e :: (es ++ rs)) z → Runs s (ts ++ u :: rest) (es ++ e :: rs) z := by
  induction ts with
  | nil =>
    intro s es z ok _ hl _ h
    have : es = [] := List.eq_nil_of_length_eq_zero hl
    subst this
    exact h
  | cons t' ts ih =>
    intro s es z ok ht hl hd h
    obtain rfl : t' = t := ht t' (by simp)
    match es, hl with
    | x :: es, hl =>
      obtain ⟨e', s1, l', h1, ⟨x', s2, l2, h2, h3, q2⟩, q1⟩ := h
      injection q1 with q1 q1'
      subst q1 q1'
      injection q2 with q2 q2'
      subst q2 q2'
      obtain ⟨d, hd1, hd2, okd⟩ := ok.swap_back h1 h2 htu (hd _ (by simp))
      refine ⟨x, d, es ++ e :: rs, hd1, ih okd (fun y hy => ht y (by simp [hy])) (by simpa using hl) (fun y hy => hd y (by simp [hy])) ?_, rfl⟩
      exact ⟨e, s2, es ++ rs, hd2, h3, rfl⟩

/-- The steps of one thread first. -/
theorem runs_part {F : Nat} (t : Int) {row : List Int} : ∀ {s : St} {l : List Ev} {z : St}, s.Ok F → Indep l → Runs s row l z →
    Runs s (row.filter (fun x => decide (x = t)) ++ row.filter (fun x => !decide (x = t))) (l.filter (fun e => decide (e.thread = t)) ++ l.filter (fun e => !decide (e.thread = t))) z := by
  induction row with
  | nil => intro s l z _ _ h; rw [h.1, h.2]; exact ⟨rfl, rfl⟩
  | cons u row ih =>
    intro s l z ok hi h
    obtain ⟨e, s1, l', h1, h2, rfl⟩ := h
    have ok1 : s1.Ok F := by have := ok.step_ok u; rw [h1] at this; exact this
    unfold Indep at hi
    rw [List.pairwise_cons] at hi
    have h3 := ih ok1 hi.2 h2
    have het : e.thread = u := by obtain ⟨i, _, _, rfl, _⟩ := St.step_ok0 h1; exact St.ev_thread _ _ _
    by_cases hu : u = t
    · have e1 : (u :: row).filter (fun x => decide (x = t)) = u :: row.filter (fun x => decide (x = t)) := by simp [hu]
      have e2 : (u :: row).filter (fun x => !decide (x = t)) = row.filter (fun x => !decide (x = t)) := by simp [hu]
      have e3 : (e :: l').filter (fun e => decide (e.thread = t)) = e :: l'.filter (fun e => decide (e.thread = t)) := by simp [het, hu]
      have e4 : (e :: l').filter (fun e => !decide (e.thread = t)) = l'.filter (fun e => !decide (e.thread = t)) := by simp [het, hu]
      rw [e1, e2, e3, e4]
      exact ⟨e, s1, _, h1, h3, rfl⟩
    · have e1 : (u :: row).filter (fun x => decide (x = t)) = row.filter (fun x => decide (x = t)) := by simp [hu]
      have e2 : (u :: row).filter (fun x => !decide (x = t)) = u :: row.filter (fun x => !decide (x = t)) := by simp [hu]
      have e3 : (e :: l').filter (fun e => decide (e.thread = t)) = l'.filter (fun e => decide (e.thread = t)) := by simp [het, hu]
      have e4 : (e :: l').filter (fun e => !decide (e.thread = t)) = e :: l'.filter (fun e => !decide (e.thread = t)) := by simp [het, hu]
      rw [e1, e2, e3, e4]
      refine runs_move hu _ ok (fun x hx => ?_) ?_ (fun x hx => ?_) ⟨e, s1, _, h1, h3, rfl⟩
      · simpa using (List.mem_filter.1 hx).2
      · rw [← h2.threads, List.filter_map]
        simp [Function.comp_def]
      · obtain ⟨h4, h5⟩ := List.mem_filter.1 hx
        refine hi.1 x h4 ?_
        rw [het]
        simp at h5
        omega

/-- The row sorted by its threads, up to n. -/
def srt (row : List Int) : Nat → List Int
  | 0 => []
  | n + 1 => srt row n ++ row.filter fun x => decide (x = (n : Int))
def srtE (l : List Ev) : Nat → List Ev
  | 0 => []
  | n + 1 => srtE l n ++ l.filter fun e => decide (e.thread = (n : Int))

theorem filter_step {T : Type} (f : T → Int) (l : List T) (n : Nat) : (l.filter fun x => decide ((n : Int) ≤ f x)).filter (fun x => decide (f x = (n : Int))) = l.filter (fun x => decide (f x = (n : Int))) ∧
    (l.filter fun x => decide ((n : Int) ≤ f x)).filter (fun x => !decide (f x = (n : Int))) = l.filter (fun x => decide (((n + 1 : Nat) : Int) ≤ f x)) := by
  rw [List.filter_filter, List.filter_filter]
  constructor
  · apply List.filter_congr
    intro x _
    rw [Bool.eq_iff_iff]
    simp
    omega
  · apply List.filter_congr
    intro x _
    rw [Bool.eq_iff_iff]
    simp
    omega

theorem runs_srt {F : Nat} {row : List Int} {s : St} {l : List Ev} {z : St} (ok : s.Ok F) (hi : Indep l) (h : Runs s row l z) (n : Nat) :
    Runs s (srt row n ++ row.filter fun x => decide ((n : Int) ≤ x)) (srtE l n ++ l.filter fun e => decide ((n : Int) ≤ e.thread)) z := by
  induction n with
  | zero =>
    have e1 : row.filter (fun x => decide (((0 : Nat) : Int) ≤ x)) = row := by
      rw [List.filter_eq_self]
      intro x hx
      have := h.has x hx
      unfold St.has at this
      simp
      omega
    have e2 : l.filter (fun e => decide (((0 : Nat) : Int) ≤ e.thread)) = l := by
      rw [List.filter_eq_self]
      intro e he
      have := h.has e.thread (by rw [← h.threads]; exact List.mem_map_of_mem he)
      unfold St.has at this
      simp
      omega
    rw [e1, e2]
    exact h
  | succ n ih =>
    obtain ⟨la, lb, s1, h1, h2, q⟩ := runs_append.1 ih
    have hla : la.length = (srtE l n).length := by
      have := congrArg List.length h1.threads
      rw [List.length_map] at this
      rw [this]
      have ht := h.threads
      clear this q h2 h1 ih
      subst ht
      induction n with
      | zero => rfl
      | succ n ih =>
        unfold srt srtE
        rw [List.length_append, List.length_append, ih, List.filter_map]
        simp [Function.comp_def]
    obtain ⟨rfl, rfl⟩ := List.append_inj q.symm hla
    have hi2 : Indep (l.filter fun e => decide ((n : Int) ≤ e.thread)) := List.Pairwise.filter _ hi
    have h3 := runs_part (n : Int) (h1.ok ok) hi2 h2
    have f1 := filter_step (fun x : Int => x) row n
    rw [f1.1, f1.2] at h3
    rw [(filter_step Ev.thread l n).1, (filter_step Ev.thread l n).2] at h3
    have h4 := runs_append.2 ⟨_, _, s1, h1, h3, rfl⟩
    unfold srt srtE
    rw [List.append_assoc, List.append_assoc]
    exact h4

theorem runs_sorted {F : Nat} {row : List Int} {s : St} {l : List Ev} {z : St} (ok : s.Ok F) (h4 : s.ts.length ≤ 4) (hi : Indep l) (h : Runs s row l z) : Runs s (srt row 4) (srtE l 4) z := by
  have h1 := runs_srt ok hi h 4
  have e1 : row.filter (fun x => decide (((4 : Nat) : Int) ≤ x)) = [] := by
    rw [List.filter_eq_nil_iff]
    intro x hx
    have := h.has x hx
    unfold St.has at this
    simp
    omega
  have e2 : l.filter (fun e => decide (((4 : Nat) : Int) ≤ e.thread)) = [] := by
    rw [List.filter_eq_nil_iff]
    intro e he
    have := h.has e.thread (by rw [← h.threads]; exact List.mem_map_of_mem he)
    unfold St.has at this
    simp
    omega
  rw [e1, e2, List.append_nil, List.append_nil] at h1
  exact h1

theorem srtE_filter (l : List Ev) (t n : Nat) : (srtE l n).filter (fun e => decide (e.thread = (t : Int))) = if t < n then l.filter (fun e => decide (e.thread = (t : Int))) else [] := by
  induction n with
  | zero => rfl
  | succ n ih =>
    unfold srtE
    rw [List.filter_append, ih, List.filter_filter]
    by_cases h1 : t < n
    · rw [if_pos h1, if_pos (by omega)]
      have : l.filter (fun e => decide (e.thread = (t : Int)) && decide (e.thread = (n : Int))) = [] := by
        rw [List.filter_eq_nil_iff]
        intro e _
        simp
        omega
      rw [this, List.append_nil]
    · rw [if_neg h1, List.nil_append]
      by_cases h2 : t = n
      · subst h2
        rw [if_pos (by omega)]
        simp
      · rw [if_neg (by omega), List.filter_eq_nil_iff]
        intro e _
        simp
        omega

theorem len_filter {T : Type} (q : T → Bool) (l : List T) : (l.filter q).length + (l.filter fun x => !q x).length = l.length := by
  induction l with
  | nil => rfl
  | cons x l ih => cases h : q x <;> simp [h] <;> omega

theorem srtE_length {l : List Ev} {s : St} {row : List Int} {z : St} (hr : Runs s row l z) (h4 : s.ts.length ≤ 4) : (srtE l 4).length = l.length := by
  have : ∀ n : Nat, (srtE l n).length + (l.filter fun e => decide ((n : Int) ≤ e.thread)).length = l.length := by
    intro n
    induction n with
    | zero =>
      rw [List.filter_eq_self.2]
      · simp [srtE]
      · intro e he
        have := hr.has e.thread (by rw [← hr.threads]; exact List.mem_map_of_mem he)
        unfold St.has at this
        simp
        omega
    | succ n ih =>
      have e1 := filter_step Ev.thread l n
      rw [← e1.2]
      unfold srtE
      rw [List.length_append, ← e1.1]
      have e2 := len_filter (fun e : Ev => decide (e.thread = (n : Int))) (l.filter fun e => decide ((n : Int) ≤ e.thread))
      omega
  have h0 := this 4
  have e2 : l.filter (fun e => decide (((4 : Nat) : Int) ≤ e.thread)) = [] := by
    rw [List.filter_eq_nil_iff]
    intro e he
    have := hr.has e.thread (by rw [← hr.threads]; exact List.mem_map_of_mem he)
    unfold St.has at this
    simp
    omega
  rw [e2] at h0
  simpa using h0

end Go.Proofs.YtljlaopjimkcmaaGreat

/-
  Plain data: executions as rows of events; rows that are the same are done alike. Nothing of the translation.
-/
namespace Go.Proofs.YtljlaopjimkcmaaGreat

/-- From s the events l are done, one behind the other, and z is come to. -/
def Ex : St → List Ev → St → Prop
  | s, [], z => z = s
  | s, e :: l, z => ∃ s1, s.step e.thread = (0, e, s1) ∧ Ex s1 l z

theorem ex_append {a b : List Ev} : ∀ {s z : St}, Ex s (a ++ b) z ↔ ∃ s1, Ex s a s1 ∧ Ex s1 b z := by
  induction a with
  | nil =>
    intro s z
    constructor
    · intro h; exact ⟨s, rfl, h⟩
    · rintro ⟨s1, rfl, h⟩; exact h
  | cons e a ih =>
    intro s z
    constructor
    · rintro ⟨s1, h1, h2⟩
      obtain ⟨s2, h3, h4⟩ := ih.1 h2
      exact ⟨s2, ⟨s1, h1, h3⟩, h4⟩
    · rintro ⟨s2, ⟨s1, h1, h3⟩, h4⟩
      exact ⟨s1, h1, ih.2 ⟨s2, h3, h4⟩⟩
theorem ex_det {l : List Ev} : ∀ {s z z' : St}, Ex s l z → Ex s l z' → z = z' := by
  induction l with
  | nil => intro s z z' h h'; rw [h, h']
  | cons e l ih =>
    rintro s z z' ⟨s1, h1, h2⟩ ⟨s2, h3, h4⟩
    rw [h1] at h3
    injection h3 with _ h3
    injection h3 with _ h3
    subst h3
    exact ih h2 h4
theorem Ex.ok {F : Nat} {l : List Ev} : ∀ {s z : St}, Ex s l z → s.Ok F → z.Ok F := by
  induction l with
  | nil => intro s z h ok; rw [h]; exact ok
  | cons e l ih =>
    rintro s z ⟨s1, h1, h2⟩ ok
    have := ok.step_ok e.thread
    rw [h1] at this
    exact ih h2 this
theorem step_next {s : St} {t : Int} {e : Ev} {s1 : St} (h : s.step t = (0, e, s1)) : s.next t = some e ∧ s.may t = true ∧ e.thread = t := by
  obtain ⟨i, hi, hm, rfl, rfl⟩ := St.step_ok0 h
  exact ⟨by unfold St.next; rw [hi]; rfl, hm, St.ev_thread _ _ _⟩
theorem next_step {s : St} {t : Int} {e : Ev} (h : s.next t = some e) (hm : s.may t = true) : ∃ s1, s.step t = (0, e, s1) := by
  unfold St.next at h
  obtain ⟨i, hi, rfl⟩ := Option.map_eq_some_iff.1 h
  exact ⟨_, St.step_may hi hm⟩
theorem next_thread {s : St} {t : Int} {e : Ev} (h : s.next t = some e) : e.thread = t := by
  unfold St.next at h
  obtain ⟨i, hi, rfl⟩ := Option.map_eq_some_iff.1 h
  exact St.ev_thread _ _ _
theorem step_fuel {s : St} {t : Int} {e : Ev} {s1 : St} (h : s.step t = (0, e, s1)) : s1.fuel + 1 = s.fuel := by
  obtain ⟨i, hi, hm, rfl, rfl⟩ := St.step_ok0 h
  exact St.fuel_do hi
theorem dep_ne {e f : Ev} (h : dep e f = false) : e.thread ≠ f.thread := by
  intro he
  rw [dep_thread he] at h
  cases h
theorem dep_symm' {e f : Ev} (h : dep e f = false) : dep f e = false := by rw [dep_symm]; exact h

theorem ex_two {F : Nat} {s z : St} {e f : Ev} {y : List Ev} (ok : s.Ok F) (hd : dep e f = false) (h : Ex s (e :: f :: y) z) : Ex s (f :: e :: y) z := by
  obtain ⟨s1, h1, s2, h2, h3⟩ := h
  obtain ⟨d, hd1, hd2, _⟩ := ok.swap_back h1 h2 (dep_ne hd) hd
  exact ⟨d, hd1, s2, hd2, h3⟩
theorem ex_blind {F : Nat} {s : St} (ok : s.Ok F) (z : St) : Blind (fun l => Ex s l z) := by
  intro x y e f hd
  dsimp only
  apply propext
  rw [ex_append, ex_append]
  constructor
  · rintro ⟨s1, h1, h2⟩; exact ⟨s1, h1, ex_two (h1.ok ok) hd h2⟩
  · rintro ⟨s1, h1, h2⟩; exact ⟨s1, h1, ex_two (h1.ok ok) (dep_symm' hd) h2⟩
/-- Rows that are the same are done alike, and come to the same. -/
theorem ex_sim {F : Nat} {s z : St} {a b : List Ev} (ok : s.Ok F) (h : Sim a b) : Ex s a z ↔ Ex s b z := by
  have := sim_fun _ a b (fun l => Ex s l z) rfl h (ex_blind ok z)
  exact iff_of_eq this
theorem sim_length {a b : List Ev} (h : Sim a b) : a.length = b.length := sim_fun _ a b List.length rfl h (fun x y e f _ => by simp)
theorem sim_cons (e : Ev) {a b : List Ev} (h : Sim a b) : Sim (e :: a) (e :: b) := by
  intro t
  exact sim_fun _ a b (fun l => psi (e :: l) t) rfl h (fun x y u v hd => sim_swap (x := e :: x) hd t)
theorem sim_right {a b : List Ev} (h : Sim a b) (y : List Ev) : Sim (a ++ y) (b ++ y) := by
  intro t
  exact sim_fun _ a b (fun l => psi (l ++ y) t) rfl h (fun x z u v hd => by
    dsimp only
    rw [show (x ++ u :: v :: z) ++ y = x ++ u :: v :: (z ++ y) by simp, show (x ++ v :: u :: z) ++ y = x ++ v :: u :: (z ++ y) by simp]
    exact sim_swap hd t)
/-- An event that depends on nothing ahead of it, first. -/
theorem sim_front {a b : List Ev} {p : Ev} (h : ∀ x ∈ a, dep p x = false) : Sim (a ++ p :: b) (p :: (a ++ b)) := by
  have h1 := sim_right (sim_move p a [] h) b
  rw [List.nil_append, List.nil_append] at h1
  rw [show a ++ [p] ++ b = a ++ p :: b by simp, show p :: a ++ b = p :: (a ++ b) by simp] at h1
  exact h1.symm

/-- What a thread does next stays, while it does nothing. -/
theorem ex_next {F : Nat} {l : List Ev} {u : Int} : ∀ {s z : St}, s.Ok F → Ex s l z → (∀ x ∈ l, x.thread ≠ u) → z.next u = s.next u := by
  induction l with
  | nil => intro s z _ h _; rw [h]
  | cons e l ih =>
    rintro s z ok ⟨s1, h1, h2⟩ hu
    have ok1 := ok.step_ok e.thread
    have hn := ok.next_step e.thread (u := u) (Ne.symm (hu e (by simp)))
    rw [h1] at ok1 hn
    rw [ih ok1 h2 (fun x hx => hu x (by simp [hx]))]
    exact hn
/-- What may be done, and doesn't depend on what is done, may be done ahead of it, or behind it. -/
theorem ex_comm {F : Nat} {t : Int} {p : Ev} {w : List Ev} : ∀ {s z : St}, s.Ok F → s.next t = some p → s.may t = true → Ex s w z → (∀ x ∈ w, dep p x = false) →
    z.next t = some p ∧ z.may t = true ∧ ∃ z', Ex s (p :: w) z' ∧ Ex s (w ++ [p]) z' := by
  induction w with
  | nil =>
    intro s z _ hn hm h _
    obtain rfl : z = s := h
    obtain ⟨s1, h1⟩ := next_step hn hm
    have ht := next_thread hn
    subst ht
    exact ⟨hn, hm, s1, ⟨s1, h1, rfl⟩, ⟨s1, h1, rfl⟩⟩
  | cons x w ih =>
    rintro s z ok hn hm ⟨s1, h1, h2⟩ hd
    have ht := next_thread hn
    subst ht
    have hdx := hd x (by simp)
    obtain ⟨hxn, hxm, _⟩ := step_next h1
    obtain ⟨c, d, z2, a1, a2, a3, a4, okc, _, _⟩ := ok.swap hxn hn hxm hm (dep_ne (dep_symm' hdx)) (dep_symm' hdx)
    rw [h1] at a1
    injection a1 with _ a1
    injection a1 with _ a1
    subst a1
    obtain ⟨n1, m1, _⟩ := step_next a2
    obtain ⟨r1, r2, z', r3, r4⟩ := ih okc n1 m1 h2 (fun y hy => hd y (by simp [hy]))
    exact ⟨r1, r2, z', ex_two ok (dep_symm' hdx) ⟨s1, h1, r3⟩, ⟨s1, h1, r4⟩⟩

/-- A thread that could begin. -/
def Ini (t : Int) (w : List Ev) : Prop := ∃ a p b, w = a ++ p :: b ∧ p.thread = t ∧ ∀ x ∈ a, dep p x = false

/-- In a row behind another one: what happens before what. -/
theorem evI_right (s a : List Ev) (i : Nat) : evI (s ++ a) (s.length + i) = evI a i := by
  unfold evI
  simp only [List.getD]
  rw [List.getElem?_append_right (by omega), Nat.add_sub_cancel_left]
theorem hb_right (s a : List Ev) {j : Nat} : ∀ {i : Nat}, hb (s ++ a) (s.length + i) (s.length + j) = true ↔ hb a i j = true := by
  induction j using Nat.strongRecOn with
  | _ j ih =>
    intro i
    rw [hb_def, hb_def]
    constructor
    · rintro (h | ⟨m, hm, hd, h⟩)
      · exact .inl (by omega)
      · have hle := hb_le h
        obtain ⟨m', rfl⟩ : ∃ m', m = s.length + m' := ⟨m - s.length, by omega⟩
        rw [evI_right, evI_right] at hd
        exact .inr ⟨m', by omega, hd, (ih m' (by omega)).1 h⟩
    · rintro (h | ⟨m, hm, hd, h⟩)
      · exact .inl (by omega)
      · refine .inr ⟨s.length + m, by omega, ?_, (ih m hm).2 h⟩
        rw [evI_right, evI_right]
        exact hd

/-- The first event happens before none that it doesn't lead to. -/
theorem hb_first {p : Ev} {w y : List Ev} (h : ∀ x ∈ w, dep p x = false) {m : Nat} : m < w.length → hb (p :: (w ++ y)) 0 (m + 1) = false := by
  induction m using Nat.strongRecOn with
  | _ m ih =>
    intro hm
    cases hh : hb (p :: (w ++ y)) 0 (m + 1)
    · rfl
    · exfalso
      rcases (hb_def _ _ _).1 hh with h0 | ⟨i, hi, hd, h1⟩
      · omega
      · rcases i with _ | i
        · have e1 : evI (p :: (w ++ y)) 0 = p := rfl
          have e2 : evI (p :: (w ++ y)) (m + 1) = evI w m := by
            have : evI (p :: (w ++ y)) (m + 1) = evI (w ++ y) m := rfl
            rw [this, evI_append hm]
          rw [e1, e2, h _ (evI_mem hm)] at hd
          cases hd
        · rw [ih i (by omega) (by omega)] at h1
          cases h1

end Go.Proofs.YtljlaopjimkcmaaGreat

/- Walks, plainly: how many prefixes there are from a state on, and where they end. -/
namespace Go.Proofs.YtljlaopjimkcmaaGreat

/-- How many prefixes there are from here on. -/
def St.pre : Nat → St → Nat
  | 0, _ => 1
  | n + 1, s => 1 + (s.all.map fun t => St.pre n (s.step t).2.2).sum
/-- All ends from here on, with what was done. -/
def St.runs : Nat → St → List Ev → List (St × List Ev)
  | 0, s, row => [(s, row)]
  | n + 1, s, row => if s.all = [] then [(s, row)] else s.all.flatMap fun t => St.runs n (s.step t).2.2 (row ++ [(s.step t).2.1])
theorem pre_pos (n : Nat) (s : St) : 1 ≤ s.pre n := by
  cases n with
  | zero => exact Nat.le_refl _
  | succ n => unfold St.pre; omega
theorem all_step {s : St} {t : Int} (h : t ∈ s.all) : ∃ i, s.step t = (0, s.ev t i, s.do_ t i) ∧ (s.do_ t i).fuel + 1 = s.fuel := by
  unfold St.all at h
  have hm := (List.mem_filter.1 h).2
  rcases s.step_cases t with ⟨i, hi, _, e⟩ | ⟨e, he, e'⟩
  · exact ⟨i, e, St.fuel_do hi⟩
  · exfalso
    unfold St.may at hm
    cases hi : s.ins t with
    | none => rw [hi] at hm; cases hm
    | some i =>
      have := St.step_may hi (by unfold St.may; exact hm)
      rw [this] at e'
      injection e' with e' _
      omega
theorem all_step' {s : St} {t : Int} (h : t ∈ s.all) : ∃ e s1, s.step t = (0, e, s1) ∧ s1.fuel + 1 = s.fuel := by
  obtain ⟨i, h1, h2⟩ := all_step h
  exact ⟨_, _, h1, h2⟩
theorem all_none {s : St} (h : s.fuel = 0) : s.all = [] := by
  apply Classical.byContradiction
  intro hn
  obtain ⟨t, ht⟩ := List.exists_mem_of_ne_nil _ hn
  obtain ⟨_, _, _, h2⟩ := all_step' ht
  omega
theorem St.all_len (s : St) : s.all.length ≤ s.ts.length := by
  unfold St.all
  exact Nat.le_trans (List.length_filter_le _ _) (by simp)
theorem fuel_le {F : Nat} {s : St} (ok : s.Ok F) : s.fuel ≤ 32 := by
  have h : ∀ l : List Nat, (∀ x ∈ l, x ≤ 8) → l.sum ≤ 8 * l.length := by
    intro l
    induction l with
    | nil => intro _; simp
    | cons a l ih =>
      intro h
      have h0 := h a (by simp)
      have h1 := ih fun x hx => h x (by simp [hx])
      simp only [List.sum_cons, List.length_cons]
      omega
  have h1 := h (s.ts.map Thr.fuel) (fun x hx => by
    obtain ⟨y, hy, rfl⟩ := List.mem_map.1 hx
    have := (ok.thr y hy).2.2
    have := ok.f8
    omega)
  have h4 := ok.len
  have h5 := ok.right
  unfold rightPg at h5
  rw [Bool.and_eq_true, decide_eq_true_eq] at h5
  unfold St.fuel
  rw [List.length_map] at h1
  omega
/-- Of the first j threads that may: prefixes and ends. -/
def preTo (n : Nat) (s : St) (j : Nat) : Nat := ((s.all.take j).map fun t => St.pre n (s.step t).2.2).sum
def runsTo (n : Nat) (s : St) (row : List Ev) (j : Nat) : List (St × List Ev) := (s.all.take j).flatMap fun t => St.runs n (s.step t).2.2 (row ++ [(s.step t).2.1])
theorem preTo_succ (n : Nat) (s : St) {j : Nat} (h : j < s.all.length) : preTo n s (j + 1) = preTo n s j + St.pre n (s.step s.all[j]).2.2 := by
  unfold preTo
  rw [List.take_succ_eq_append_getElem h, List.map_append, List.sum_append]
  simp
theorem runsTo_succ (n : Nat) (s : St) (row : List Ev) {j : Nat} (h : j < s.all.length) : runsTo n s row (j + 1) = runsTo n s row j ++ St.runs n (s.step s.all[j]).2.2 (row ++ [(s.step s.all[j]).2.1]) := by
  unfold runsTo
  rw [List.take_succ_eq_append_getElem h, List.flatMap_append]
  simp
theorem preTo_all (n : Nat) (s : St) : St.pre (n + 1) s = 1 + preTo n s s.all.length := by
  unfold preTo
  rw [List.take_length]
  rfl
theorem preTo_le (n : Nat) (s : St) (j : Nat) : preTo n s j ≤ preTo n s s.all.length := by
  unfold preTo
  rw [List.take_length]
  conv => rhs; rw [← List.take_append_drop j s.all]
  rw [List.map_append, List.sum_append]
  omega
theorem runsTo_all (n : Nat) (s : St) (row : List Ev) (h : s.all ≠ []) : St.runs (n + 1) s row = runsTo n s row s.all.length := by
  unfold runsTo
  rw [List.take_length]
  show (if s.all = [] then _ else _) = _
  rw [if_neg h]
theorem runs_end (n : Nat) (s : St) (row : List Ev) (h : s.all = []) : St.runs n s row = [(s, row)] ∧ St.pre n s = 1 := by
  cases n with
  | zero => exact ⟨rfl, rfl⟩
  | succ n =>
    refine ⟨?_, ?_⟩
    · show (if s.all = [] then _ else _) = _
      rw [if_pos h]
    · unfold St.pre
      rw [h]
      rfl

theorem sum_map_le {T : Type} (l : List T) (f g : T → Nat) (h : ∀ x ∈ l, f x ≤ g x) : (l.map f).sum ≤ (l.map g).sum := by
  induction l with
  | nil => simp
  | cons a l ih =>
    have h0 := h a (by simp)
    have h1 := ih fun x hx => h x (by simp [hx])
    simp only [List.map_cons, List.sum_cons]
    omega
theorem runs_le (n : Nat) : ∀ (s : St) (row : List Ev), (s.runs n row).length ≤ s.pre n := by
  induction n with
  | zero => intro s row; exact Nat.le_refl _
  | succ n ih =>
    intro s row
    show (if s.all = [] then _ else _ : List (St × List Ev)).length ≤ _
    unfold St.pre
    split
    · simp
    · rw [List.length_flatMap]
      have := sum_map_le s.all (fun t => (St.runs n (s.step t).2.2 (row ++ [(s.step t).2.1])).length) (fun t => St.pre n (s.step t).2.2) (fun t _ => ih _ _)
      omega
theorem runsTo_le (n : Nat) (s : St) (row : List Ev) (j : Nat) : (runsTo n s row j).length ≤ preTo n s j := by
  unfold runsTo preTo
  rw [List.length_flatMap]
  exact sum_map_le _ _ _ fun t _ => runs_le n _ _

def s0 (p : Pg) (fuel : Int) : St := St.new p fuel.toNat
def okPg (p : Pg) (fuel : Int) : Prop := rightPg p = true ∧ 0 ≤ fuel ∧ fuel ≤ 8
instance (p : Pg) (fuel : Int) : Decidable (okPg p fuel) := inferInstanceAs (Decidable (_ ∧ _))
/-- How many prefixes, and where they end. -/
def preW (p : Pg) (fuel : Int) : Nat := (s0 p fuel).pre 33
def runsW (p : Pg) (fuel : Int) : List (St × List Ev) := (s0 p fuel).runs 33 []

end Go.Proofs.YtljlaopjimkcmaaGreat

/- What goOver's closure is asked, and answers; and what it finds at one step more. -/
namespace Go.Proofs.YtljlaopjimkcmaaGreat
open Go.RowKit

/-- The closure, over the blocks of what it has captured. -/
def goV (P M A G : Nat) : Value := .func (.func 41) #[] #[.pointer (some ⟨P, 0, none⟩), .pointer (some ⟨M, 0, none⟩), .pointer (some ⟨A, 0, none⟩), .pointer (some ⟨G, 0, none⟩)]
structure CapC (W : World) (P M A G most : Nat) (fnV : Value) : Prop where
  m : W.cell? ⟨M, 0, none⟩ = some (.int .i64 (most : Int))
  a : W.cell? ⟨A, 0, none⟩ = some fnV
  g : W.cell? ⟨G, 0, none⟩ = some (goV P M A G)
structure Apart (X : Nat → Prop) (B P M A G : Nat) : Prop where
  p : P < B
  m : M < B
  a : A < B
  g : G < B
  pm : P ≠ M
  pa : P ≠ A
  pg : P ≠ G
  xp : ¬ X P
  xm : ¬ X M
  xa : ¬ X A
  xg : ¬ X G
  xb : ∀ k, X k → k < B
/-- What a call may change: the count, what is told at ends, and where the row lies. -/
def SV (X : Nat → Prop) (P : Nat) (v : Value) (k : Nat) : Prop := k = P ∨ X k ∨ v.ownBlock = some k
abbrev Ends := List (St × List Ev)
def KeepC (X : Nat → Prop) (I : Ends → World → Prop) : Prop := ∀ acc W W', I acc W → W.heap.size ≤ W'.heap.size → (∀ k, X k → k < W.heap.size → W'.heap[k]? = W.heap[k]?) → I acc W'
def EndC (F : Nat) (X : Nat → Prop) (I : Ends → World → Prop) (fn : Nat) (args : Value → Value → Array Value) : Prop :=
  ∀ acc W b (s : St) (row : List Ev) a cap, I acc W → s.Ok F → StAt W b s → ¬ X b → EvsAt W a row → row.length ≤ 100 → acc.length ≤ 1000 →
    Calls Tryz.prog fn (args (.pointer (some ⟨b, 0, none⟩)) (.slice a row.length cap)) W fun r W' => r = .returned (.tuple #[]) ∧ I (acc ++ [(s, row)]) W' ∧ OnlyS X W W'
def GoR (X : Nat → Prop) (I : Ends → World → Prop) (B P most n : Nat) (s : St) (row : List Ev) (v : Value) (acc : Ends) (c : Nat) (W : World) (r : Ending) (W' : World) : Prop :=
  ((c + s.pre n ≤ most ∧ r = .returned (.bool true) ∧ W'.cell? ⟨P, 0, none⟩ = some (.int .i64 ((c + s.pre n : Nat) : Int)) ∧ W'.frozen? ⟨P, 0, none⟩ = false ∧ I (acc ++ s.runs n row) W' ∧ OwnE W' B v row) ∨
    (most < c + s.pre n ∧ r = .returned (.bool false))) ∧ OnlyS (SV X P v) W W'
def GoH (F : Nat) (X : Nat → Prop) (I : Ends → World → Prop) (B P M A G most : Nat) (fnV : Value) (n : Nat) : Prop :=
  ∀ (s : St) (row : List Ev) (v : Value) (W : World) (b : Nat) (acc : Ends) (c : Nat), s.Ok F → s.fuel ≤ n → row.length + n ≤ 100 → OwnE W B v row → B ≤ W.heap.size → StAt W b s → b ≠ P → ¬ X b → CapC W P M A G most fnV →
    W.cell? ⟨P, 0, none⟩ = some (.int .i64 (c : Int)) → W.frozen? ⟨P, 0, none⟩ = false → c ≤ most → acc.length ≤ c → I acc W →
    Calls Tryz.prog 41 #[.pointer (some ⟨b, 0, none⟩), v, .pointer (some ⟨P, 0, none⟩), .pointer (some ⟨M, 0, none⟩), .pointer (some ⟨A, 0, none⟩), .pointer (some ⟨G, 0, none⟩)] W (GoR X I B P most n s row v acc c W)

section
variable {X : Nat → Prop} {I : Ends → World → Prop} {B P M A G most : Nat} {fnV : Value}
theorem CapC.onlyS {W W' : World} {S : Nat → Prop} (h : CapC W P M A G most fnV) (ho : OnlyS S W W') (hm : ¬ S M) (ha : ¬ S A) (hg : ¬ S G) : CapC W' P M A G most fnV :=
  ⟨ho.cell h.m hm, ho.cell h.a ha, ho.cell h.g hg⟩
theorem own_range {W : World} {v : Value} {row : List Ev} (h : OwnE W B v row) {g : Nat} (hg : v.ownBlock = some g) : B ≤ g ∧ g < W.heap.size := World.ownsRow.lt h g hg
/-- What is captured is none of what a call may change. -/
theorem CapC.sv {W W' : World} {v : Value} {row : List Ev} (hA : Apart X B P M A G) (h : CapC W P M A G most fnV) (hv : OwnE W B v row) (ho : OnlyS (SV X P v) W W') : CapC W' P M A G most fnV := by
  refine h.onlyS ho ?_ ?_ ?_
  · rintro (e | e | e)
    · exact hA.pm e.symm
    · exact hA.xm e
    · have := (own_range hv e).1; have := hA.m; omega
  · rintro (e | e | e)
    · exact hA.pa e.symm
    · exact hA.xa e
    · have := (own_range hv e).1; have := hA.a; omega
  · rintro (e | e | e)
    · exact hA.pg e.symm
    · exact hA.xg e
    · have := (own_range hv e).1; have := hA.g; omega

theorem cell_top (w : World) (v : Value) (t : TypeId) : (w.alloc (.cells #[v] t)).cell? ⟨w.heap.size, 0, none⟩ = some v := by
  rw [World.cell?_alloc_new]
  rfl
theorem frozen_top (w : World) (v : Value) (t : TypeId) : (w.alloc (.cells #[v] t)).frozen? ⟨w.heap.size, 0, none⟩ = false := by
  have h : (w.alloc (.cells #[v] t)).heap[w.heap.size]? = some (.cells #[v] t (0, 0)) := heap_alloc_new w _
  unfold World.frozen?
  dsimp only
  rw [h]
  rfl
theorem cell_top1 (w : World) (o : Obj) (v : Value) (t : TypeId) : ((w.alloc o).alloc (.cells #[v] t)).cell? ⟨w.heap.size + 1, 0, none⟩ = some v := by
  have h := cell_top (w.alloc o) v t
  rwa [World.size_alloc] at h
theorem cell_top2 (w : World) (o o2 : Obj) (v : Value) (t : TypeId) : (((w.alloc o).alloc o2).alloc (.cells #[v] t)).cell? ⟨w.heap.size + 1 + 1, 0, none⟩ = some v := by
  have h := cell_top1 (w.alloc o) o2 v t
  rwa [World.size_alloc] at h
theorem below_alloc3 (w : World) (o o2 o3 : Obj) : Below w.heap.size w (((w.alloc o).alloc o2).alloc o3) := (below_alloc2 w o o2).trans ((below_alloc1 _ o3).mono (below_alloc2 w o o2).size)
theorem st_not_row {W : World} {v : Value} {row : List Ev} {b : Nat} {s : St} (hs : StAt W b s) (hv : OwnE W B v row) : v.ownBlock ≠ some b := by
  intro e
  obtain ⟨_, ⟨rfl, _⟩ | ⟨g, cap, cur, rfl, _, hg, _⟩⟩ := hv
  · cases e
  · injection e with e
    have e2 : g = b := e
    subst e2
    rw [show W.heap[g]? = _ from hs] at hg
    injection hg with hg
    injection hg with _ h2
    exact absurd h2 (by decide)
theorem go_child {F n : Nat} {s1 : St} {row : List Ev} {e : Ev} {v v' : Value} {wr W8 W9 : World} {nb c : Nat} {acc : Ends} (hA : Apart X B P M A G) (hK : KeepC X I) (ih : GoH F X I B P M A G most fnV n)
    (ok : s1.Ok F) (hf : s1.fuel ≤ n) (hl : row.length + 1 + n ≤ 100) (hB : B ≤ wr.heap.size) (hc : CapC wr P M A G most fnV) (cp : wr.cell? ⟨P, 0, none⟩ = some (.int .i64 (c : Int))) (fp : wr.frozen? ⟨P, 0, none⟩ = false) (hcm : c ≤ most) (hac : acc.length ≤ c)
    (hI : I acc wr) (hv : OwnE wr B v row) (hb8 : Below wr.heap.size wr W8) (hs8 : StAt W8 nb s1) (hnb : wr.heap.size ≤ nb) (h1 : OwnE W9 B v' (row ++ [e])) (h2 : W8.grownBy W9 v.ownBlock) (h3 : OwnE W9 B v row)
    (h4 : (∃ g cap, v = .slice (some ⟨g, 0, none⟩) row.length cap ∧ v' = .slice (some ⟨g, 0, none⟩) (row.length + 1) cap) ∨ v'.ownBlock = some W8.heap.size) :
    Calls Tryz.prog 41 #[.pointer (some ⟨nb, 0, none⟩), v', .pointer (some ⟨P, 0, none⟩), .pointer (some ⟨M, 0, none⟩), .pointer (some ⟨A, 0, none⟩), .pointer (some ⟨G, 0, none⟩)] W9
      fun r W10 => ((c + s1.pre n ≤ most ∧ r = .returned (.bool true) ∧ W10.cell? ⟨P, 0, none⟩ = some (.int .i64 ((c + s1.pre n : Nat) : Int)) ∧ W10.frozen? ⟨P, 0, none⟩ = false ∧ I (acc ++ s1.runs n (row ++ [e])) W10 ∧ OwnE W10 B v row) ∨
        (most < c + s1.pre n ∧ r = .returned (.bool false))) ∧ OnlyS (SV X P v) wr W10 ∧ OnlyS (fun k => SV X P v k ∨ W8.heap.size ≤ k) W8 W10 := by
  have hg : ∀ g, v.ownBlock = some g → B ≤ g ∧ g < wr.heap.size := fun g h => own_range hv h
  have h8s := hb8.size
  have h9s := h2.size
  have hp := hA.p
  have o89 : OnlyS (SV X P v) W8 W9 := ⟨h2.os, h2.tape, h2.output, h2.size, fun k hk hs => h2.block k hk (fun e => hs (.inr (.inr e.symm)))⟩
  have or9 : OnlyS (SV X P v) wr W9 := .after hb8 o89
  have hnS : ¬ SV X P v nb := by
    rintro (e | e | e)
    · omega
    · have := hA.xb _ e; omega
    · have := (hg _ e).2; omega
  have hs9 := hs8.onlyS o89 hnS
  have hc9 := hc.sv hA hv or9
  have hPb : W9.heap[P]? = wr.heap[P]? := by
    rw [h2.block P (by omega) (fun e => by have := (hg P e.symm).1; omega), hb8.block P (by omega)]
  have cp9 : W9.cell? ⟨P, 0, none⟩ = some (.int .i64 (c : Int)) := by rw [World.cell?_of_block (w := wr) (a := ⟨P, 0, none⟩) hPb]; exact cp
  have fp9 : W9.frozen? ⟨P, 0, none⟩ = false := by rw [World.frozen?_of_block (w := wr) (a := ⟨P, 0, none⟩) hPb]; exact fp
  have hI9 : I acc W9 := hK acc wr W9 hI (by omega) (fun k hk hkw => by
    rw [h2.block k (by omega) (fun e => by have := (hg k e.symm).1; have := hA.xb k hk; omega), hb8.block k hkw])
  have hsame : ∀ k, k < W8.heap.size → ¬ SV X P v k → ¬ SV X P v' k := by
    rintro k hk hs (e | e | e)
    · exact hs (.inl e)
    · exact hs (.inr (.inl e))
    · rcases h4 with ⟨g, cap, rfl, rfl⟩ | h4
      · exact hs (.inr (.inr e))
      · rw [h4] at e
        injection e with e
        omega
  refine (ih s1 (row ++ [e]) v' W9 nb acc c ok hf (by simp; omega) h1 (by omega) hs9 (by omega) (fun hx => by have := hA.xb _ hx; omega) hc9 cp9 fp9 hcm hac hI9).mono ?_
  rintro r W10 ⟨h, ho⟩
  have hs10 := ho.size
  refine ⟨?_, ⟨ho.os.trans or9.os, ho.tape.trans or9.tape, ho.output.trans or9.output, by omega, fun k hk hs => ?_⟩, ⟨ho.os.trans o89.os, ho.tape.trans o89.tape, ho.output.trans o89.output, by omega, fun k hk hs => ?_⟩⟩
  · rcases h with ⟨q1, q2, q3, q4, q5, q6⟩ | h
    · refine .inl ⟨q1, q2, q3, q4, q5, ?_⟩
      rcases h4 with ⟨g, cap, rfl, rfl⟩ | h4
      · exact OwnE.back rfl q6
      · refine h3.onlyS ho fun g hgv => ?_
        have hgg := hg g hgv
        rintro (e | e | e)
        · omega
        · have := hA.xb _ e; omega
        · rw [h4] at e
          injection e with e
          omega
    · exact .inr h
  · rw [ho.block k (by omega) (hsame k (by omega) hs), or9.block k hk hs]
  · have hs' : ¬ SV X P v k := fun e => hs (.inl e)
    rw [ho.block k (by omega) (hsame k hk hs'), o89.block k hk hs']
end

end Go.Proofs.YtljlaopjimkcmaaGreat

/- The contracts of below, rightInstr. -/
namespace Go.Proofs.YtljlaopjimkcmaaGreat
open Go.RowKit

theorem below_any (n e : Int) (w : World) : Calls Tryz.prog 55 #[.int .i64 n, .int .i64 e] w fun r w' => r = .returned (.bool (belowB n e)) ∧ w = w' := by
  go_enter Tryz.func55, Tryz.ntmps55
  go_wp2
  all_goals
    go_ret
    refine ⟨ret_bool ?_, rfl⟩
    simp [belowB]
    try omega

set_option maxRecDepth 100000 in
set_option maxHeartbeats 1000000 in
theorem rightInstr_any (V M size : Int) (hs : 0 ≤ size) (hs2 : size ≤ 1000) (t : Value) (i : Ins) (w : World) :
    Calls Tryz.prog 68 #[.agg #[.int .i64 V, .int .i64 M, t], .int .i64 size, insV i] w fun r w' => r = .returned (.bool (rightIns V M size i)) ∧ Below w.heap.size w w' := by
  obtain ⟨k, ri, x, n⟩ := i
  unfold insV
  dsimp only
  go_enter Tryz.func68, Tryz.ntmps68
  go_wp2_with (go_at_call 55; refine (below_any _ _ _).mono ?_; rintro r w' ⟨rfl, rfl⟩)
  all_goals
    go_ret
    refine ⟨ret_bool ?_, below_alloc2 _ _ _⟩
    simp [belowB] at *
    rw [Bool.eq_iff_iff]
    simp [rightIns, *]
    try omega

end Go.Proofs.YtljlaopjimkcmaaGreat

/- The contracts of what only reads a state: below, Threads, Var, Holder, instr, event, may. -/
namespace Go.Proofs.YtljlaopjimkcmaaGreat
open Go.RowKit

theorem sbelow_any (n e : Int) (w : World) : Calls Tryz.prog 30 #[.int .i64 n, .int .i64 e] w fun r w' => r = .returned (.bool (belowB n e)) ∧ w = w' := by
  go_enter Tryz.func30, Tryz.ntmps30
  go_wp2
  all_goals
    go_ret
    refine ⟨ret_bool ?_, rfl⟩
    simp [belowB]
    try omega

theorem threads_any {s : St} {b : Nat} {w : World} (h : StAt w b s) : Calls Tryz.prog 31 #[.pointer (some ⟨b, 0, none⟩)] w fun r w' => r = .returned (.int .i64 s.ts.length) ∧ w = w' := by
  have c0 := h.num 0 (by omega)
  rw [stNum_threads] at c0
  have H := Lib.hid h
  clear h
  go_enter Tryz.func31, Tryz.ntmps31
  go_wp2
  go_ret
  exact ⟨rfl, rfl⟩

/-- An instruction, if there is one, as a value. -/
def insR (o : Option Ins) : Value := .tuple #[insV (o.getD ins0), .bool o.isSome]
/-- An event, if there is one, as a value. -/
def evR (o : Option Ev) : Value := .tuple #[evV (o.getD ev0), .bool o.isSome]

theorem thrNum_ins (c : List Ins) (x : Thr) (j : Nat) (hj : j < 8) (d : Nat) (hd : d < 4) : thrNum c x (j * 4 + d) = insNum (c.getD j ins0) d := by
  unfold thrNum
  rw [if_pos (by omega), show (j * 4 + d) / 4 = j by omega, show (j * 4 + d) % 4 = d by omega]

theorem thr_fuel (c : List Ins) (x : Thr) : thrNum c x 34 = x.fuel := rfl
theorem thr_at (c : List Ins) (x : Thr) : thrNum c x 33 = x.at_ := rfl
theorem thr_reg (c : List Ins) (x : Thr) (y : Nat) : thrNum c x (35 + y) = x.r.getD y 0 := by
  unfold thrNum
  rw [if_neg (by omega), if_neg (by omega), if_neg (by omega), if_neg (by omega), show 35 + y - 35 = y by omega]
theorem thr_size (c : List Ins) (x : Thr) : thrNum c x 32 = c.length := rfl
theorem St.Ok.len4 {F : Nat} {s : St} (h : s.Ok F) : s.ts.length ≤ 4 := by
  have := h.right
  unfold rightPg at this
  rw [Bool.and_eq_true, decide_eq_true_eq] at this
  have := h.len
  omega
theorem St.Ok.code8 {F : Nat} {s : St} (h : s.Ok F) (k : Nat) (hk : k < s.ts.length) : (s.code k).length ≤ 8 := by
  have hl := h.len
  unfold St.code
  rw [getD_lt _ (by omega)]
  exact (rightPg_code h.right (by omega)).1

theorem insR_none : insR none = .tuple #[.agg #[.int .i64 0, .int .i64 0, .int .i64 0, .int .i64 0], .bool false] := rfl
theorem insR_some (i : Ins) : insR (some i) = .tuple #[.agg #[.int .i64 i.kind, .int .i64 i.r, .int .i64 i.x, .int .i64 i.n], .bool true] := rfl

set_option maxRecDepth 100000 in
set_option maxHeartbeats 1000000 in
theorem instr_any {F : Nat} {s : St} {b : Nat} {w : World} (h : StAt w b s) (ok : s.Ok F) (t : Int) :
    Calls Tryz.prog 33 #[.pointer (some ⟨b, 0, none⟩), .int .i64 t] w fun r w' => r = .returned (insR (s.ins t)) ∧ Below w.heap.size w w' := by
  have hbl := h.lt
  have H := Lib.hid h
  have OK := Lib.hid ok
  clear h ok
  cases hb : belowB t s.ts.length
  · have hn : s.ins t = none := by
      unfold St.ins
      rw [if_neg (fun e => by have := e.1; unfold St.has at this; simp [belowB] at hb; omega)]
    rw [hn, insR_none]
    clear hn
    go_enter Tryz.func33, Tryz.ntmps33
    go_wp2_with (first
      | (go_at_call 30; refine (sbelow_any _ _ _).mono ?_; rintro r w' ⟨rfl, rfl⟩)
      | (go_at_call 31; refine (threads_any (H.out.later (below_alloc1 _ _))).mono ?_; rintro r w' ⟨rfl, rfl⟩))
    exact bodyPost_ret (v := .tuple #[.agg #[.int .i64 0, .int .i64 0, .int .i64 0, .int .i64 0], .bool false]) (by simp [results, Tryz.results33, go_sem]) rfl ⟨rfl, below_alloc1 w _⟩
  · obtain ⟨k, rfl⟩ : ∃ k : Nat, t = k := ⟨t.toNat, by simp [belowB] at hb; omega⟩
    have hk : k < s.ts.length := by simp [belowB] at hb; omega
    have h4 := OK.out.len4
    have hpl := OK.out.place k hk
    have h8 := OK.out.code8 k hk
    have cf := H.out.num (2 + k * 37 + 34) (by omega)
    rw [stNum_thr _ _ _ (by omega) (by omega), thr_fuel] at cf
    have ca := H.out.num (2 + k * 37 + 33) (by omega)
    rw [stNum_thr _ _ _ (by omega) (by omega), thr_at] at ca
    have cs := H.out.num (2 + k * 37 + 32) (by omega)
    rw [stNum_thr _ _ _ (by omega) (by omega), thr_size] at cs
    by_cases hf : (s.th k).fuel = 0
    · have hn : s.ins k = none := by
        unfold St.ins
        rw [if_neg (fun e => by have := e.2; simp at this; omega)]
      rw [hn, insR_none]
      rw [hf] at cf
      clear hn hf
      have hd : decide (((0 : Nat) : Int) = 0) = true := rfl
      go_enter Tryz.func33, Tryz.ntmps33
      go_wp2_with (first
        | (go_at_call 30; refine (sbelow_any _ _ _).mono ?_; rintro r w' ⟨rfl, rfl⟩)
        | (go_at_call 31; refine (threads_any (H.out.later (below_alloc1 _ _))).mono ?_; rintro r w' ⟨rfl, rfl⟩))
      go_quiet (fail)
      go_wp2
      exact bodyPost_ret (v := .tuple #[.agg #[.int .i64 0, .int .i64 0, .int .i64 0, .int .i64 0], .bool false]) (by simp [results, Tryz.results33, go_sem]) rfl ⟨rfl, below_set4 (below_alloc1 w _).drewN (Nat.le_refl _) _ _ _ _⟩
    · by_cases ha : (s.th k).at_ = (s.code k).length
      · have hn : s.ins k = none := by
          unfold St.ins
          split
          · exact List.getElem?_eq_none (by simp [ha])
          · rfl
        rw [hn, insR_none]
        have hf' : ((((s.th k).fuel : Nat) : Int) == 0) = false := by simp; omega
        have ha' : ((((s.th k).at_ : Nat) : Int) == (s.code k).length) = true := by simp [ha]
        clear hn hf ha
        generalize (s.th k).fuel = f at *
        generalize (s.th k).at_ = at_ at *
        generalize (s.code k).length = n at *
        go_enter Tryz.func33, Tryz.ntmps33
        go_wp2_with (first
          | (go_at_call 30; refine (sbelow_any _ _ _).mono ?_; rintro r w' ⟨rfl, rfl⟩)
          | (go_at_call 31; refine (threads_any (H.out.later (below_alloc1 _ _))).mono ?_; rintro r w' ⟨rfl, rfl⟩))
        go_quiet (fail)
        go_wp2
        exact bodyPost_ret (v := .tuple #[.agg #[.int .i64 0, .int .i64 0, .int .i64 0, .int .i64 0], .bool false]) (by simp [results, Tryz.results33, go_sem]) rfl ⟨rfl, below_set4 (below_alloc1 w _).drewN (Nat.le_refl _) _ _ _ _⟩
      · have hlt : (s.th k).at_ < (s.code k).length := by omega
        have hn : s.ins k = some (s.code k)[(s.th k).at_] := by
          unfold St.ins
          rw [if_pos ⟨⟨by omega, by omega⟩, by simpa using hf⟩]
          simp only [Int.toNat_natCast]
          exact List.getElem?_eq_getElem hlt
        rw [hn, insR_some]
        have hi : ∀ d, d < 4 → w.cell? ⟨b, 2 + k * 37 + (s.th k).at_ * 4 + d, none⟩ = some (.int .i64 (insNum (s.code k)[(s.th k).at_] d)) := by
          intro d hd
          have := H.out.num (2 + k * 37 + ((s.th k).at_ * 4 + d)) (by omega)
          rw [stNum_thr _ _ _ (by omega) (by omega), thrNum_ins _ _ _ (by omega) _ hd, getD_lt _ hlt] at this
          rw [Nat.add_assoc]
          exact this
        have c0 : w.cell? ⟨b, 2 + k * 37 + (s.th k).at_ * 4, none⟩ = some (.int .i64 (s.code k)[(s.th k).at_].kind) := hi 0 (by omega)
        have c1 : w.cell? ⟨b, 2 + k * 37 + (s.th k).at_ * 4 + 1, none⟩ = some (.int .i64 (s.code k)[(s.th k).at_].r) := hi 1 (by omega)
        have c2 : w.cell? ⟨b, 2 + k * 37 + (s.th k).at_ * 4 + 2, none⟩ = some (.int .i64 (s.code k)[(s.th k).at_].x) := hi 2 (by omega)
        have c3 : w.cell? ⟨b, 2 + k * 37 + (s.th k).at_ * 4 + 3, none⟩ = some (.int .i64 (s.code k)[(s.th k).at_].n) := hi 3 (by omega)
        generalize (s.code k)[(s.th k).at_] = i at *
        have hf' : ((((s.th k).fuel : Nat) : Int) == 0) = false := by simp; omega
        have ha' : ((((s.th k).at_ : Nat) : Int) == (s.code k).length) = false := by simp; omega
        have ha8 : (s.th k).at_ < 8 := by omega
        clear hn hf ha hi
        generalize (s.th k).fuel = f at *
        generalize (s.th k).at_ = at_ at *
        generalize (s.code k).length = n at *
        go_enter Tryz.func33, Tryz.ntmps33
        go_wp2_with (first
          | (go_at_call 30; refine (sbelow_any _ _ _).mono ?_; rintro r w' ⟨rfl, rfl⟩)
          | (go_at_call 31; refine (threads_any (H.out.later (below_alloc1 _ _))).mono ?_; rintro r w' ⟨rfl, rfl⟩))
        go_quiet (fail)
        go_wp2
        go_region
        go_wp2
        exact bodyPost_ret (v := .tuple #[.agg #[.int .i64 i.kind, .int .i64 i.r, .int .i64 i.x, .int .i64 i.n], .bool true]) (by simp [results, Tryz.results33, go_sem]) rfl ⟨rfl, below_set4 (below_alloc1 w _).drewN.drew (Nat.le_refl _) _ _ _ _⟩

set_option maxRecDepth 100000 in
set_option maxHeartbeats 2000000 in
theorem event_any {F : Nat} {s : St} {b : Nat} {w : World} (h : StAt w b s) (ok : s.Ok F) (t : Nat) (ht : t < s.ts.length) (i : Ins) (h6 : i.kind = 6 → 0 ≤ i.x ∧ i.x < 2) (h8 : i.kind = 8 → 0 ≤ i.r ∧ i.r < 2) :
    Calls Tryz.prog 34 #[.pointer (some ⟨b, 0, none⟩), .int .i64 t, insV i] w fun r w' => r = .returned (evV (s.ev t i)) ∧ Below w.heap.size w w' := by
  have hbl := h.lt
  have h4 := ok.len4
  have H := Lib.hid h
  clear h ok
  obtain ⟨kd, r, x, n⟩ := i
  unfold insV
  dsimp only at *
  by_cases e1 : kd = 1
  · subst e1
    have hev : s.ev t ⟨1, r, x, n⟩ = ⟨t, 2, x, false⟩ := rfl
    rw [hev, evV_mk]
    clear hev h6 h8
    go_enter Tryz.func34, Tryz.ntmps34
    go_wp2
    exact bodyPost_ret (v := .agg #[.int .i64 t, .int .i64 2, .int .i64 x, .bool false]) (by simp [results, Tryz.results34, go_sem]) rfl ⟨rfl, below_alloc2 w _ _⟩
  by_cases e2 : kd = 2
  · subst e2
    have hev : s.ev t ⟨2, r, x, n⟩ = ⟨t, 3, x, false⟩ := rfl
    rw [hev, evV_mk]
    clear hev h6 h8
    go_enter Tryz.func34, Tryz.ntmps34
    go_wp2
    exact bodyPost_ret (v := .agg #[.int .i64 t, .int .i64 3, .int .i64 x, .bool false]) (by simp [results, Tryz.results34, go_sem]) rfl ⟨rfl, below_alloc2 w _ _⟩
  by_cases e5 : kd = 5
  · subst e5
    have hev : s.ev t ⟨5, r, x, n⟩ = ⟨t, 4, x, false⟩ := rfl
    rw [hev, evV_mk]
    clear hev h6 h8
    go_enter Tryz.func34, Tryz.ntmps34
    go_wp2
    exact bodyPost_ret (v := .agg #[.int .i64 t, .int .i64 4, .int .i64 x, .bool false]) (by simp [results, Tryz.results34, go_sem]) rfl ⟨rfl, below_alloc2 w _ _⟩
  by_cases e6 : kd = 6
  · subst e6
    obtain ⟨hx0, hx2⟩ := h6 rfl
    obtain ⟨y, rfl⟩ : ∃ y : Nat, x = y := ⟨x.toNat, by omega⟩
    have hy : y < 2 := by omega
    have c0 := H.out.num (154 + y) (by omega)
    rw [stNum_who] at c0
    have hv : s.m.getD y (-1) = s.who y := rfl
    rw [hv] at c0
    clear hv h6 h8 hx0 hx2
    by_cases hw : s.who y = t
    · have hev : s.ev t ⟨6, r, y, n⟩ = ⟨t, 5, y, false⟩ := by simp [St.ev, hw]
      rw [hev, evV_mk]
      rw [hw] at c0
      clear hev hw
      go_enter Tryz.func34, Tryz.ntmps34
      go_wp2
      go_quiet (fail)
      go_wp2
      exact bodyPost_ret (v := .agg #[.int .i64 t, .int .i64 5, .int .i64 y, .bool false]) (by simp [results, Tryz.results34, go_sem]) rfl ⟨rfl, below_set4 (below_alloc2 w _ _).drewN (by omega) _ _ _ _⟩
    · have hev : s.ev t ⟨6, r, y, n⟩ = ⟨t, 1, 0, true⟩ := by simp [St.ev, hw]
      rw [hev, evV_mk]
      have hq : (s.who y == (t : Int)) = false := by simpa using hw
      clear hev hw
      go_enter Tryz.func34, Tryz.ntmps34
      go_wp2
      go_quiet (fail)
      go_wp2
      exact bodyPost_ret (v := .agg #[.int .i64 t, .int .i64 1, .int .i64 0, .bool true]) (by simp [results, Tryz.results34, go_sem]) rfl ⟨rfl, below_set4 (below_alloc2 w _ _).drewN (by omega) _ _ _ _⟩
  by_cases e8 : kd = 8
  · subst e8
    obtain ⟨hx0, hx2⟩ := h8 rfl
    obtain ⟨y, rfl⟩ : ∃ y : Nat, r = y := ⟨r.toNat, by omega⟩
    have hy : y < 2 := by omega
    have c0 := H.out.num (2 + t * 37 + (35 + y)) (by omega)
    rw [stNum_thr _ _ _ (by omega) (by omega), thr_reg, ← Nat.add_assoc] at c0
    have hev : s.ev t ⟨8, y, x, n⟩ = ⟨t, 1, 0, (s.th t).r.getD y 0 == 0⟩ := rfl
    rw [hev, evV_mk]
    generalize (s.th t).r.getD y 0 = g at *
    clear hev h6 h8 hx0 hx2
    go_enter Tryz.func34, Tryz.ntmps34
    go_wp2
    go_region
    go_wp2
    exact bodyPost_ret (v := .agg #[.int .i64 t, .int .i64 1, .int .i64 0, .bool (g == 0)]) (by simp [results, Tryz.results34, go_sem]) rfl ⟨rfl, (below_alloc2 w _ _).drew⟩
  · have hev : s.ev t ⟨kd, r, x, n⟩ = ⟨t, 1, 0, false⟩ := by simp [St.ev, e1, e2, e5, e6, e8]
    rw [hev, evV_mk]
    have f1 : (kd == 1) = false := by simpa using e1
    have f2 : (kd == 2) = false := by simpa using e2
    have f5 : (kd == 5) = false := by simpa using e5
    have f6 : (kd == 6) = false := by simpa using e6
    have f8 : (kd == 8) = false := by simpa using e8
    clear hev h6 h8 e1 e2 e5 e6 e8
    go_enter Tryz.func34, Tryz.ntmps34
    go_wp2
    exact bodyPost_ret (v := .agg #[.int .i64 t, .int .i64 1, .int .i64 0, .bool false]) (by simp [results, Tryz.results34, go_sem]) rfl ⟨rfl, below_alloc2 w _ _⟩


end Go.Proofs.YtljlaopjimkcmaaGreat

/- The contracts of may, Next, Enabled. -/
namespace Go.Proofs.YtljlaopjimkcmaaGreat
open Go.RowKit

/-- May an event be done? -/
def St.free (s : St) (e : Ev) : Bool := e.kind != 4 || s.who e.obj == -1

set_option maxRecDepth 100000 in
set_option maxHeartbeats 1000000 in
theorem may_any {s : St} {b : Nat} {w : World} (h : StAt w b s) (e : Ev) (h4 : e.kind = 4 → 0 ≤ e.obj ∧ e.obj < 2) :
    Calls Tryz.prog 35 #[.pointer (some ⟨b, 0, none⟩), evV e] w fun r w' => r = .returned (.bool (s.free e)) ∧ Below w.heap.size w w' := by
  have hbl := h.lt
  have H := Lib.hid h
  clear h
  obtain ⟨t, k, o, f⟩ := e
  unfold evV
  dsimp only at *
  by_cases hk : k = 4
  · subst hk
    obtain ⟨hx0, hx2⟩ := h4 rfl
    obtain ⟨y, rfl⟩ : ∃ y : Nat, o = y := ⟨o.toNat, by omega⟩
    have hy : y < 2 := by omega
    have c0 := H.out.num (154 + y) (by omega)
    rw [stNum_who] at c0
    have hv : s.m.getD y (-1) = s.who y := rfl
    rw [hv] at c0
    clear hv
    have hfr : s.free ⟨t, 4, y, f⟩ = (s.who y == -1) := by simp [St.free]
    rw [hfr]
    clear hfr h4 hx0 hx2
    generalize s.who y = g at *
    go_enter Tryz.func35, Tryz.ntmps35
    go_wp2
    go_quiet (fail)
    go_wp2
    go_ret
    exact ⟨rfl, (below_alloc1 w _).drewN⟩
  · have hq : (k != 4) = true := by simpa using hk
    have hfr : s.free ⟨t, k, o, f⟩ = true := by simp [St.free, hk]
    rw [hfr]
    clear hfr h4 hk
    go_enter Tryz.func35, Tryz.ntmps35
    go_wp2
    go_quiet (fail)
    go_wp2
    go_ret
    exact ⟨rfl, (below_alloc1 w _).drewN⟩

theorem evR_none : evR none = .tuple #[.agg #[.int .i64 0, .int .i64 0, .int .i64 0, .bool false], .bool false] := rfl
theorem evR_some (e : Ev) : evR (some e) = .tuple #[.agg #[.int .i64 e.thread, .int .i64 e.kind, .int .i64 e.obj, .bool e.fail], .bool true] := rfl

theorem St.ins_nat {s : St} {t : Int} {i : Ins} (h : s.ins t = some i) : ∃ k : Nat, t = k ∧ k < s.ts.length := by
  have := (St.ins_has h).1
  unfold St.has at this
  exact ⟨t.toNat, by omega, by omega⟩

theorem event_of {F : Nat} {s : St} {b : Nat} {w : World} (h : StAt w b s) (ok : s.Ok F) {t : Nat} {i : Ins} (hi : s.ins t = some i) :
    Calls Tryz.prog 34 #[.pointer (some ⟨b, 0, none⟩), .int .i64 t, .agg #[.int .i64 i.kind, .int .i64 i.r, .int .i64 i.x, .int .i64 i.n]] w fun r w' => r = .returned (evV (s.ev t i)) ∧ Below w.heap.size w w' := by
  obtain ⟨k, e, hk⟩ := St.ins_nat hi
  obtain ⟨o1, o2, o3, o4, o5, o6⟩ := ok.obj hi
  exact event_any h ok t (by omega) i (fun h => o2 (.inr h)) (fun _ => ⟨o4, o5⟩)

theorem insV_eq (i : Ins) : insV i = .agg #[.int .i64 i.kind, .int .i64 i.r, .int .i64 i.x, .int .i64 i.n] := rfl

set_option maxRecDepth 100000 in
set_option maxHeartbeats 1000000 in
theorem next_any {F : Nat} {s : St} {b : Nat} {w : World} (h : StAt w b s) (ok : s.Ok F) (t : Int) :
    Calls Tryz.prog 52 #[.pointer (some ⟨b, 0, none⟩), .int .i64 t] w fun r w' => r = .returned (evR (s.next t)) ∧ Below w.heap.size w w' := by
  have H := Lib.hid h
  have OK := Lib.hid ok
  clear h ok
  cases hi : s.ins t with
  | none =>
    have hn : s.next t = none := by unfold St.next; rw [hi]; rfl
    rw [hn, evR_none]
    have HI := Lib.hid hi
    clear hn hi
    go_enter Tryz.func52, Tryz.ntmps52
    go_wp2_with fail
    refine (instr_any (H.out.later (below_alloc1 _ _)) OK.out t).mono ?_
    rw [HI.out, insR_none]
    rintro r w1 ⟨rfl, hb1⟩
    have hw1 : Below w.heap.size w w1 := (below_alloc1 w _).trans (hb1.mono (by simp))
    have hz : w.heap.size < w1.heap.size := by have := hb1.size; simp at this; omega
    have hc : ∀ o, w1.cell? ⟨w.heap.size, o, none⟩ = (w.alloc (.cells #[.int .i64 0, .int .i64 0, .int .i64 0, .bool false] 51)).cell? ⟨w.heap.size, o, none⟩ := fun o => hb1.cell (p := ⟨w.heap.size, o, none⟩) (by simp)
    have hf : ∀ o, w1.frozen? ⟨w.heap.size, o, none⟩ = (w.alloc (.cells #[.int .i64 0, .int .i64 0, .int .i64 0, .bool false] 51)).frozen? ⟨w.heap.size, o, none⟩ := fun o => hb1.frozen (p := ⟨w.heap.size, o, none⟩) (by simp)
    clear hb1
    go_wp2
    refine bodyPost_ret (v := .tuple #[.agg #[.int .i64 0, .int .i64 0, .int .i64 0, .bool false], .bool false]) (by simp [results, Tryz.results52, go_sem, hc, hz]) rfl ⟨rfl, ?_⟩
    exact (below_set4 hw1 (Nat.le_refl _) _ _ _ _).alloc (by simp [World.setCell]; omega) _
  | some i =>
    obtain ⟨k, rfl, hk⟩ := St.ins_nat hi
    have hn : s.next k = some (s.ev k i) := by unfold St.next; rw [hi]; rfl
    rw [hn, evR_some]
    have HI := Lib.hid hi
    clear hn hi
    go_enter Tryz.func52, Tryz.ntmps52
    go_wp2_with fail
    refine (instr_any (H.out.later (below_alloc1 _ _)) OK.out k).mono ?_
    rw [HI.out, insR_some]
    rintro r w1 ⟨rfl, hb1⟩
    have hw1 : Below w.heap.size w w1 := (below_alloc1 w _).trans (hb1.mono (by simp))
    have hz : w.heap.size < w1.heap.size := by have := hb1.size; simp at this; omega
    have hc : ∀ o, w1.cell? ⟨w.heap.size, o, none⟩ = (w.alloc (.cells #[.int .i64 0, .int .i64 0, .int .i64 0, .bool false] 51)).cell? ⟨w.heap.size, o, none⟩ := fun o => hb1.cell (p := ⟨w.heap.size, o, none⟩) (by simp)
    have hf : ∀ o, w1.frozen? ⟨w.heap.size, o, none⟩ = (w.alloc (.cells #[.int .i64 0, .int .i64 0, .int .i64 0, .bool false] 51)).frozen? ⟨w.heap.size, o, none⟩ := fun o => hb1.frozen (p := ⟨w.heap.size, o, none⟩) (by simp)
    clear hb1
    go_wp2_with fail
    refine (event_of ((H.out.later hw1).later (below_alloc1 _ _)) OK.out HI.out).mono ?_
    unfold evV
    rintro r w2 ⟨rfl, hb2⟩
    have hw2 : Below w1.heap.size w1 w2 := (below_alloc1 w1 _).trans (hb2.mono (by simp))
    have hz2 : w1.heap.size < w2.heap.size := by have := hb2.size; simp at this; omega
    have hz3 : w.heap.size < w2.heap.size := by omega
    have hc2 : ∀ o, w2.cell? ⟨w.heap.size, o, none⟩ = w1.cell? ⟨w.heap.size, o, none⟩ := fun o => hw2.cell (p := ⟨w.heap.size, o, none⟩) hz
    have hf2 : ∀ o, w2.frozen? ⟨w.heap.size, o, none⟩ = w1.frozen? ⟨w.heap.size, o, none⟩ := fun o => hw2.frozen (p := ⟨w.heap.size, o, none⟩) hz
    clear hb2
    go_wp2
    refine bodyPost_ret (v := .tuple #[.agg #[.int .i64 (s.ev k i).thread, .int .i64 (s.ev k i).kind, .int .i64 (s.ev k i).obj, .bool (s.ev k i).fail], .bool true]) (by simp [results, Tryz.results52, go_sem, hc, hc2]) rfl ⟨rfl, ?_⟩
    exact below_set4 (hw1.trans (hw2.mono (by omega))) (Nat.le_refl _) _ _ _ _

theorem St.may_eq {F : Nat} {s : St} (ok : s.Ok F) (t : Int) : s.may t = match s.next t with | none => false | some e => s.free e := by
  unfold St.may St.next
  cases hi : s.ins t with
  | none => rfl
  | some i =>
    simp only [Option.map_some]
    obtain ⟨o1, o2, o3, o4, o5, o6⟩ := ok.obj hi
    by_cases h5 : i.kind = 5
    · have ev : s.ev t i = ⟨t, 4, i.x, false⟩ := by unfold St.ev; rw [if_neg (by omega), if_neg (by omega), if_pos h5]
      have hx := o2 (.inl h5)
      have hk : i.x.toNat < s.m.length := by have := ok.ml; omega
      have hmm := ok.mm (s.who i.x) (by unfold St.who; rw [getD_lt _ hk]; exact List.getElem_mem hk)
      rw [ev, Bool.eq_iff_iff]
      simp [St.free, h5]
      omega
    · have : (s.ev t i).kind ≠ 4 := by
        unfold St.ev
        repeat' split
        all_goals (first | omega | (simp; done))
      simp [St.free, h5, this]

theorem ev_obj {F : Nat} {s : St} (ok : s.Ok F) {t : Int} {i : Ins} (hi : s.ins t = some i) (h : (s.ev t i).kind = 4) : 0 ≤ (s.ev t i).obj ∧ (s.ev t i).obj < 2 := by
  obtain ⟨o1, o2, o3, o4, o5, o6⟩ := ok.obj hi
  by_cases h5 : i.kind = 5
  · have ev : s.ev t i = ⟨t, 4, i.x, false⟩ := by unfold St.ev; rw [if_neg (by omega), if_neg (by omega), if_pos h5]
    rw [ev]
    exact o2 (.inl h5)
  · exfalso
    revert h
    unfold St.ev
    repeat' split
    all_goals (first | omega | (simp; done))

theorem next_obj {F : Nat} {s : St} (ok : s.Ok F) {t : Int} {e : Ev} (he : s.next t = some e) (h : e.kind = 4) : 0 ≤ e.obj ∧ e.obj < 2 := by
  unfold St.next at he
  obtain ⟨i, hi, rfl⟩ := Option.map_eq_some_iff.1 he
  exact ev_obj ok hi h

theorem may_of {F : Nat} {s : St} {b : Nat} {w : World} (h : StAt w b s) (ok : s.Ok F) {t : Int} {e : Ev} (he : s.next t = some e) :
    Calls Tryz.prog 35 #[.pointer (some ⟨b, 0, none⟩), .agg #[.int .i64 e.thread, .int .i64 e.kind, .int .i64 e.obj, .bool e.fail]] w fun r w' => r = .returned (.bool (s.may t)) ∧ Below w.heap.size w w' := by
  have := may_any h e (next_obj ok he)
  rw [St.may_eq ok, he]
  exact this

end Go.Proofs.YtljlaopjimkcmaaGreat

/- The contracts of somebodyWaits, and of what Deadlocks is told of ends. -/
namespace Go.Proofs.YtljlaopjimkcmaaGreat
open Go.RowKit

/-- Would some thread do something next? -/
def waits (s : St) : Bool := (List.range s.ts.length).any fun t => (s.next t).isSome
def waitsTo (s : St) (k : Nat) : Bool := (List.range k).any fun t => (s.next t).isSome
theorem waitsTo_succ (s : St) (k : Nat) : waitsTo s (k + 1) = (waitsTo s k || (s.next k).isSome) := by
  unfold waitsTo
  rw [List.range_succ, List.any_append]
  simp
theorem waits_yes {s : St} {k : Nat} (h : k < s.ts.length) (hk : (s.next k).isSome = true) : waits s = true := by
  unfold waits
  exact List.any_eq_true.2 ⟨k, List.mem_range.2 h, hk⟩

set_option maxRecDepth 100000 in
set_option maxHeartbeats 2000000 in
theorem waits_any {F : Nat} {s : St} {b : Nat} {w : World} (h : StAt w b s) (ok : s.Ok F) :
    Calls Tryz.prog 27 #[.pointer (some ⟨b, 0, none⟩)] w fun r w' => r = .returned (.bool (waits s)) ∧ Below w.heap.size w w' := by
  have H := Lib.hid h
  have OK := Lib.hid ok
  have h4 := ok.len4
  clear h ok
  go_enter Tryz.func27, Tryz.ntmps27
  go_wp2_with fail
  refine (threads_any H.out).mono ?_
  rintro r w1 ⟨rfl, rfl⟩
  go_wp2_with fail
  go_loopw [8] (fun i wr => ∃ k : Nat, k ≤ s.ts.length ∧ i = .int .i64 k ∧ Hid (waitsTo s k = false) ∧ Hid (Below w.heap.size w wr)) (fun i _ => s.ts.length - (intOf i).toNat)
  case atStart => exact ⟨0, Nat.zero_le _, rfl, rfl, Below.refl _ _⟩
  case round =>
    obtain ⟨k, hk, rfl, HW, HB⟩ := hrel
    by_cases hlt : k < s.ts.length
    · have HR := Lib.hid (H.out.later HB.out)
      have HYES : Hid ((s.next k).isSome = true → waits s = true) := waits_yes hlt
      have HNO : Hid ((s.next k).isSome = false → waitsTo s (k + 1) = false) := fun h => by rw [waitsTo_succ, HW.out, h]; rfl
      have hBB := HB.out.size
      go_wp2_with fail
      refine (next_any HR.out OK.out k).mono ?_
      rintro r w2 ⟨rfl, hb2⟩
      unfold evR
      generalize (s.next k).getD ev0 = e at *
      have hev : evV e = .agg #[.int .i64 e.thread, .int .i64 e.kind, .int .i64 e.obj, .bool e.fail] := rfl
      rw [hev]
      have HB2 := Lib.hid ((HB.out.trans (hb2.mono hBB)).alloc (HB.out.trans (hb2.mono hBB)).size (.cells #[.int .i64 e.thread, .int .i64 e.kind, .int .i64 e.obj, .bool e.fail] 51))
      clear hev hb2
      cases hn : (s.next k).isSome
      · have HN := Lib.hid (HNO.out hn)
        clear hn HNO HYES
        go_wp2_with fail
        go_roundw
        case rel => exact ⟨k + 1, by omega, by go_num, HN.out, HB2.out⟩
        case measure => simp [intOf]; omega
      · have HN := Lib.hid (HYES.out hn)
        clear hn HNO HYES
        go_wp2_with fail
        go_ret
        exact ⟨ret_bool HN.out.symm, HB2.out⟩
    · obtain rfl : k = s.ts.length := by omega
      have HN : Hid (waits s = false) := HW.out
      go_wp2_with fail
      go_ret
      exact ⟨ret_bool HN.out.symm, HB.out⟩

/-- How many ends there are at which somebody waits. -/
def stuckN (l : Ends) : Nat := (l.filter fun x => waits x.1).length
def DI (rb : Nat) (acc : Ends) (W : World) : Prop := acc.length ≤ 1000000 ∧ W.cell? ⟨rb, 0, none⟩ = some (.int .i64 (stuckN acc : Int)) ∧ W.frozen? ⟨rb, 0, none⟩ = false

theorem stuckN_snoc (l : Ends) (s : St) (row : List Ev) : stuckN (l ++ [(s, row)]) = stuckN l + if waits s then 1 else 0 := by
  unfold stuckN
  rw [List.filter_append, List.length_append]
  cases h : waits s <;> simp [h]
theorem stuckN_le (l : Ends) : stuckN l ≤ l.length := List.length_filter_le _ _
theorem DI_keep (rb : Nat) : KeepC (fun k => k = rb) (DI rb) := by
  intro acc W W' h hs hb
  have hlt : rb < W.heap.size := cell_block h.2.1
  have hk := hb rb rfl hlt
  exact ⟨h.1, by rw [World.cell?_of_block (w := W) (a := ⟨rb, 0, none⟩) hk]; exact h.2.1, by rw [World.frozen?_of_block (w := W) (a := ⟨rb, 0, none⟩) hk]; exact h.2.2⟩

set_option maxRecDepth 100000 in
set_option maxHeartbeats 2000000 in
theorem deadEnd_any {F : Nat} (rb : Nat) (acc : Ends) (W : World) (b : Nat) (s : St) (row : List Ev) (a : Option Addr) (cap : Nat) (hI : DI rb acc W) (hacc : acc.length ≤ 999999) (ok : s.Ok F) (hs : StAt W b s) :
    Calls Tryz.prog 26 #[.pointer (some ⟨b, 0, none⟩), .slice a row.length cap, .pointer (some ⟨rb, 0, none⟩)] W fun r W' => r = .returned (.tuple #[]) ∧ DI rb (acc ++ [(s, row)]) W' ∧ OnlyS (fun k => k = rb) W W' := by
  have HI := Lib.hid hI
  have HW := Lib.hid (waits_any hs ok)
  have HST := Lib.hid (stuckN_snoc acc s row)
  have hsl := stuckN_le acc
  have hrb : rb < W.heap.size := cell_block hI.2.1
  clear hI hs ok
  go_enter Tryz.func26, Tryz.ntmps26
  go_wp2_with fail
  refine HW.out.mono ?_
  rintro r W1 ⟨rfl, hb1⟩
  have c1 := cell_later hb1 HI.out.2.1
  have f1 := (hb1.frozen (p := ⟨rb, 0, none⟩) hrb).trans HI.out.2.2
  cases hw : waits s
  · have HS : Hid (DI rb (acc ++ [(s, row)]) W1) := ⟨by rw [List.length_append, List.length_singleton]; omega, by rw [HST.out, hw]; exact c1, f1⟩
    clear hw
    go_wp2_with fail
    go_end0
    exact ⟨rfl, HS.out, .of_below hb1⟩
  · have hwr : IntKind.i64.wrap ((stuckN acc : Int) + 1) = (stuckN acc : Int) + 1 := IntWalk.i64_in _ (by omega)
    have HS : Hid (DI rb (acc ++ [(s, row)]) (W1.setCell ⟨rb, 0, none⟩ (.int .i64 ((stuckN acc : Int) + 1)))) := ⟨by rw [List.length_append, List.length_singleton]; omega, by rw [HST.out, hw]; exact World.cell?_setCell_same _ _ _ c1, (World.frozen?_setCell _ _ _ _).trans f1⟩
    have HO : Hid (OnlyS (fun k => k = rb) W (W1.setCell ⟨rb, 0, none⟩ (.int .i64 ((stuckN acc : Int) + 1)))) := (OnlyS.of_below (S := fun k => k = rb) hb1).setCell (p := ⟨rb, 0, none⟩) rfl _
    clear hw
    go_wp2_with fail
    go_end0
    exact ⟨rfl, HS.out, HO.out⟩

end Go.Proofs.YtljlaopjimkcmaaGreat

/- The contracts of event's toByte, fromByte, and of the document's Byte. -/
namespace Go.Proofs.YtljlaopjimkcmaaGreat
open Go.RowKit

set_option maxRecDepth 100000 in
set_option maxHeartbeats 1000000 in
theorem toByte_any (e : Ev) (h : rightEv e = true) (w : World) : Calls Tryz.prog 77 #[.agg #[.int .i64 e.thread, .int .i64 e.kind, .int .i64 e.obj, .bool e.fail]] w fun r w' => r = .returned (.int .u8 (evB e)) ∧ Below w.heap.size w w' := by
  have bd := rightEv_bd h
  clear h
  obtain ⟨t, k, o, f⟩ := e
  dsimp only at bd ⊢
  obtain ⟨b0, b1, b2, b3, b4, b5⟩ := bd
  unfold evB
  cases f
  · go_enter Tryz.func77, Tryz.ntmps77
    go_wp2
    go_ret
    refine ⟨?_, below_alloc1 _ _⟩
    simp
  · go_enter Tryz.func77, Tryz.ntmps77
    go_wp2
    go_ret
    refine ⟨?_, below_alloc1 _ _⟩
    simp

set_option maxRecDepth 100000 in
set_option maxHeartbeats 1000000 in
theorem refByte_any (e : Ev) (h : rightEv e = true) (w : World) : Calls Tryz.prog 112 #[.agg #[.int .i64 e.thread, .int .i64 e.kind, .int .i64 e.obj, .bool e.fail]] w fun r w' => r = .returned (.int .i64 (evB e)) ∧ Below w.heap.size w w' := by
  have bd := rightEv_bd h
  clear h
  obtain ⟨t, k, o, f⟩ := e
  dsimp only at bd ⊢
  obtain ⟨b0, b1, b2, b3, b4, b5⟩ := bd
  unfold evB
  cases f
  · go_enter Tryz.func112, Tryz.ntmps112
    go_wp2
    go_ret
    refine ⟨?_, below_alloc1 _ _⟩
    simp
  · go_enter Tryz.func112, Tryz.ntmps112
    go_wp2
    go_ret
    refine ⟨?_, below_alloc1 _ _⟩
    simp


end Go.Proofs.YtljlaopjimkcmaaGreat

/- Numbers as bytes, and as a text. -/
namespace Go.Proofs.YtljlaopjimkcmaaGreat
open Go.RowKit

/-- Numbers as a text. -/
def bstr (ns : List Int) : ByteArray := ⟨(ns.map fun n => UInt8.ofNat n.toNat).toArray⟩

theorem foldl_bstr (ns : List Int) (s : ByteArray) : ns.foldl (fun r n => r.push (UInt8.ofNat n.toNat)) s = ⟨s.data ++ (ns.map fun n => UInt8.ofNat n.toNat).toArray⟩ := by
  induction ns generalizing s with
  | nil => simp
  | cons n ns ih =>
    rw [List.foldl_cons, ih]
    simp [ByteArray.push]

/-- A row of bytes of the call's own. -/
def OwnB (w : World) (B : Nat) (v : Value) (ns : List Int) : Prop := w.ownsRow B 5 1 v ns.length (ns.map (Value.int .u8))

theorem OwnB.alloc {w : World} {B : Nat} {v : Value} {ns : List Int} (h : OwnB w B v ns) (o : Obj) : OwnB (w.alloc o) B v ns := World.ownsRow.alloc h o

theorem ownB_made (w : World) (B : Nat) (hB : B ≤ w.heap.size) (ns : List Int) (hm : ns.length ≤ maxLen) : OwnB (w.alloc (.cells (ns.map (Value.int .u8)).toArray 5)) B (.slice (some ⟨w.heap.size, 0, none⟩) ns.length ns.length) ns := by
  refine ⟨by simp, .inr ⟨w.heap.size, ns.length, (ns.map (Value.int .u8)).toArray, rfl, hB, (MapKept.heap_alloc w _).1, Nat.le_refl _, hm, by simp, ?_⟩⟩
  rw [List.take_of_length_le (by simp)]

theorem OwnB.slice {w : World} {B : Nat} {v : Value} {ns : List Int} (h : OwnB w B v ns) (hn : ns ≠ []) : ∃ g cap, v = .slice (some ⟨g, 0, none⟩) ns.length cap ∧ ∀ j u, (ns.map (Value.int .u8))[j]? = some u → w.cell? (Addr.add ⟨g, 0, none⟩ j) = some u := by
  obtain ⟨h1, h2 | ⟨g, cap, cur, h2, h3, h4, h5, h6, h7, h8⟩⟩ := h
  · exact absurd (List.eq_nil_of_length_eq_zero h2.2) hn
  · refine ⟨g, cap, h2, ?_⟩
    exact World.ownsRow.cells (base := B) (e := 5) (size := 1) ⟨h1, .inr ⟨g, cap, cur, h2, h3, h4, h5, h6, h7, h8⟩⟩ (by rw [h2]; rfl)

theorem run_bstr {w : World} {B : Nat} {v : Value} {ns : List Int} (h : OwnB w B v ns) (hn : ns ≠ []) : (convert 42 9 v).run Tryz.prog w = .ok (.string (bstr ns)) w := by
  obtain ⟨g, cap, rfl, hc⟩ := h.slice hn
  rw [run_convert_bytes_string w _ _ 5 _ _ _ Tryz.underlying42 Tryz.underlying5 Tryz.underlying9]
  have hl := run_loadCells_list (P := Tryz.prog) w ⟨g, 0, none⟩ (ns.map (Value.int .u8)) hc
  rw [List.length_map] at hl
  rw [run_bytesToString w _ _ _ ns hl, foldl_bstr]
  have e : ByteArray.empty.data = #[] := rfl
  rw [e, Array.empty_append]
  rfl

theorem bytes_new (w : World) (ms : List Int) (t : TypeId) (g : Nat) (hg : g = w.heap.size) : ∀ j u, (ms.map (Value.int .u8))[j]? = some u → (w.alloc (.cells (ms.map (Value.int .u8)).toArray t)).cell? (Addr.add ⟨g, 0, none⟩ j) = some u := by
  subst hg
  intro j u hj
  have e : Addr.add ⟨w.heap.size, 0, none⟩ j = ⟨w.heap.size, j, none⟩ := by
    unfold Addr.add
    split
    · rename_i h0; subst h0; rfl
    · simp
  rw [e, World.cell?_alloc_new]
  simpa using hj

theorem wp_appendB {w : World} {ops : Array Oper} {rest : List Oper} {o : Oper} {a : Act} {Q : Exit → Act → World → Prop} (hgd : o.guard = none) (s x : Operand)
    (ho : o.op = .call { callee := .builtin .append, args := #[s, x], argTypes := #[42, 42] }) (B : Nat) (v : Value) (ns : List Int) (hs : a.eval s = v) (hown : OwnB w B v ns)
    (ad : Addr) (m c : Nat) (hx : a.eval x = .slice (some ad) m c) (ms : List Int) (hm : ms.length = m) (hnews : ∀ j u, (ms.map (Value.int .u8))[j]? = some u → w.cell? (ad.add j) = some u)
    (hlen : ns.length + m ≤ 1000000000) (hB : B ≤ w.heap.size)
    (h : ∀ v' w', OwnB w' B v' (ns ++ ms) → Below B w w' → wpList Tryz.prog ops Q rest (a.put o.dst v') w') : wpList Tryz.prog ops Q (o :: rest) a w := by
  have hinfo : (Tryz.prog.info? 5).map (fun i => (i.zero, i.size, i.bytes)) = some (some (.int .u8 0), 1, 1) := by kernel_rfl
  obtain ⟨i, hi, hzz⟩ := Option.map_eq_some_iff.1 hinfo
  simp only [Prod.mk.injEq] at hzz
  obtain ⟨hz, hsz, hby⟩ := hzz
  refine wpList_append_own w hgd s x 42 ho B 5 i (.int .u8 0) 1 1 Tryz.underlying42 hi hz hsz hby rfl (by decide) v ns.length (ns.map (Value.int .u8)) hs hown ad m c (ms.map (Value.int .u8)) hx (by simp [hm]) hnews
    (by intro u hu; obtain ⟨y, _, rfl⟩ := List.mem_map.1 hu; rfl) (by unfold maxLen; omega) (by omega) hB ?_
  intro v' w' h1 h2 _
  refine h v' w' ?_ ((Below.refl B w).grown h2 hB (fun k hk => (World.ownsRow.lt hown k hk).1))
  unfold OwnB
  rw [List.length_append, List.map_append, hm]
  exact h1

end Go.Proofs.YtljlaopjimkcmaaGreat

/- A row that the call has made, and fills place by place. -/
namespace Go.Proofs.YtljlaopjimkcmaaGreat
open Go.RowKit

theorem run_make_k {P : Program} (t e : TypeId) (z : Value) (k bytes : Nat) (ht : P.underlying t = some (.slice e)) (hinfo : (P.info? e).map (fun i => (i.zero, i.size, i.bytes)) = some (some z, k, bytes))
    (n : Nat) (hbytes : bytes * n ≤ 281474976710656) (h63 : n ≤ 9223372036854775807) (w : World) :
    (Instr.makeSlice t (.int .i64 (n : Int)) (.int .i64 (n : Int))).run P w = .ok (.slice (some ⟨w.heap.size, 0, none⟩) n n) (w.alloc (.cells (madeCells z.cells (n * k)) e)) := by
  obtain ⟨i, hi, hzz⟩ := Option.map_eq_some_iff.1 hinfo
  simp only [Prod.mk.injEq] at hzz
  obtain ⟨hz, hs, hb⟩ := hzz
  have hb' : (i.bytes : Int) * (n : Int) ≤ 281474976710656 := by
    rw [hb, ← Int.natCast_mul]; omega
  have h := run_make (P := P) w t e i z ht hi hz .i64 .i64 n n (by omega) (by omega) hb' (by omega)
  rw [hs] at h
  simpa using h

/-- In w the block g is the row xs. -/
def MidAt (w : World) (g : Nat) (t : TypeId) (xs : List Value) : Prop := w.heap[g]? = some (.cells xs.toArray t (0, 0))
theorem MidAt.lt {w : World} {g : Nat} {t : TypeId} {xs : List Value} (h : MidAt w g t xs) : g < w.heap.size := (Array.getElem?_eq_some_iff.1 h).1
theorem MidAt.later {w w' : World} {g : Nat} {t : TypeId} {xs : List Value} (h : MidAt w g t xs) (hb : Below w.heap.size w w') : MidAt w' g t xs := (hb.block g h.lt).trans h
theorem MidAt.cell {w : World} {g : Nat} {t : TypeId} {xs : List Value} (h : MidAt w g t xs) (j : Nat) : w.cell? ⟨g, j, none⟩ = xs[j]? := by
  simp [World.cell?, show w.heap[g]? = _ from h]
theorem MidAt.frozen {w : World} {g : Nat} {t : TypeId} {xs : List Value} (h : MidAt w g t xs) (j : Nat) : w.frozen? ⟨g, j, none⟩ = false := by
  simp [World.frozen?, show w.heap[g]? = _ from h]
theorem MidAt.set {w : World} {g : Nat} {t : TypeId} {xs : List Value} (h : MidAt w g t xs) (j : Nat) (v : Value) : MidAt (w.setCell ⟨g, j, none⟩ v) g t (xs.set j v) := by
  have := heap_setCell_same w g j _ _ v h
  unfold MidAt
  rw [this]
  simp
theorem MidAt.made (w : World) (t : TypeId) (z : Value) (n : Nat) : MidAt (w.alloc (.cells (madeCells #[z] n) t)) w.heap.size t (List.replicate n z) := by
  have := heap_alloc_new w (.cells (madeCells #[z] n) t)
  unfold MidAt
  rw [this]
  simp [madeCells]
  apply Array.ext <;> simp [Nat.mod_one]

/-- The first k places are filled. -/
def fill {T : Type} (f : T → Value) (z : Value) (l : List T) (k : Nat) : List Value := (l.take k).map f ++ List.replicate (l.length - k) z
theorem fill_zero {T : Type} (f : T → Value) (z : Value) (l : List T) : fill f z l 0 = List.replicate l.length z := by simp [fill]
theorem fill_all {T : Type} (f : T → Value) (z : Value) (l : List T) : fill f z l l.length = l.map f := by simp [fill]
theorem fill_length {T : Type} (f : T → Value) (z : Value) (l : List T) (k : Nat) (h : k ≤ l.length) : (fill f z l k).length = l.length := by simp [fill]; omega
theorem fill_set {T : Type} (f : T → Value) (z : Value) (l : List T) (k : Nat) (h : k < l.length) : (fill f z l k).set k (f l[k]) = fill f z l (k + 1) := by
  unfold fill
  have e : k - ((l.take k).map f).length = 0 := by simp; omega
  rw [List.set_append_right _ _ (by simp; omega), e, List.take_succ_eq_append_getElem h, show l.length - k = (l.length - (k + 1)) + 1 by omega, List.replicate_succ, List.map_append, List.append_assoc]
  rfl

theorem MidAt.nums {w : World} {g : Nat} {t : TypeId} {ns : List Int} (h : MidAt w g t (ns.map (Value.int .i64))) (hm : ns.length ≤ 1000000) : NumsAt w (some ⟨g, 0, none⟩) ns := by
  refine ⟨by unfold maxLen; omega, fun _ => ⟨g, 0, rfl, fun i hi => ?_⟩⟩
  rw [Nat.zero_add, h.cell]
  simp [hi]

end Go.Proofs.YtljlaopjimkcmaaGreat

/- The contracts of event's Read and of the document's. -/
namespace Go.Proofs.YtljlaopjimkcmaaGreat
open Go.RowKit

/-- The events of bytes, whether they may be or not. -/
def evsOf (s : List UInt8) : List Ev := s.map fun b => evOf b.toNat
def readOk (s : List UInt8) : Bool := (evsOf s).all rightEv
def readE (s : List UInt8) : List Ev := if readOk s then evsOf s else []

theorem set4 (pre zs : List Value) (z0 z1 z2 z3 v0 v1 v2 v3 : Value) (n : Nat) (hn : n = pre.length) :
    ((((pre ++ z0 :: z1 :: z2 :: z3 :: zs).set n v0).set (n + 1) v1).set (n + 2) v2).set (n + 3) v3 = pre ++ v0 :: v1 :: v2 :: v3 :: zs := by
  subst hn
  rw [List.set_append_right _ _ (by omega), List.set_append_right _ _ (by omega), List.set_append_right _ _ (by omega), List.set_append_right _ _ (by omega)]
  rw [show pre.length - pre.length = 0 by omega, show pre.length + 1 - pre.length = 1 by omega, show pre.length + 2 - pre.length = 2 by omega, show pre.length + 3 - pre.length = 3 by omega]
  rfl

/-- In the middle of reading: the block g has n events' room, the first ones are es. -/
def ERow (w : World) (g n : Nat) (es : List Ev) : Prop := es.length ≤ n ∧ ∃ zs : List Value, zs.length = (n - es.length) * 4 ∧ MidAt w g 51 (evCells es ++ zs)
theorem ERow.lt {w : World} {g n : Nat} {es : List Ev} (h : ERow w g n es) : g < w.heap.size := by obtain ⟨_, _, _, h⟩ := h; exact h.lt
theorem ERow.later {w w' : World} {g n : Nat} {es : List Ev} (h : ERow w g n es) (hb : Below w.heap.size w w') : ERow w' g n es := by
  obtain ⟨h1, zs, h2, h3⟩ := h
  exact ⟨h1, zs, h2, h3.later hb⟩
theorem ERow.frozen {w : World} {g n : Nat} {es : List Ev} (h : ERow w g n es) (j : Nat) : w.frozen? ⟨g, j, none⟩ = false := by obtain ⟨_, _, _, h⟩ := h; exact h.frozen j
theorem ERow.cell {w : World} {g n : Nat} {es : List Ev} (h : ERow w g n es) (j : Nat) (hj : j < n * 4) : ∃ v, w.cell? ⟨g, j, none⟩ = some v := by
  obtain ⟨h1, zs, h2, h3⟩ := h
  rw [h3.cell]
  exact ⟨_, List.getElem?_eq_getElem (by rw [List.length_append, evCells_length, h2, ← Nat.add_mul]; omega)⟩
theorem ERow.push {w : World} {g n k : Nat} {es : List Ev} (h : ERow w g n es) (hk : k = es.length) (hlt : k < n) (x : Ev) :
    ERow ((((w.setCell ⟨g, k * 4, none⟩ (.int .i64 x.thread)).setCell ⟨g, k * 4 + 1, none⟩ (.int .i64 x.kind)).setCell ⟨g, k * 4 + 2, none⟩ (.int .i64 x.obj)).setCell ⟨g, k * 4 + 3, none⟩ (.bool x.fail)) g n (es ++ [x]) := by
  obtain ⟨h1, zs, h2, h3⟩ := h
  subst hk
  match zs, h2 with
  | z0 :: z1 :: z2 :: z3 :: zs, h2 =>
    refine ⟨by simp; omega, zs, by simp at h2 ⊢; omega, ?_⟩
    have := (((h3.set (es.length * 4) (.int .i64 x.thread)).set (es.length * 4 + 1) (.int .i64 x.kind)).set (es.length * 4 + 2) (.int .i64 x.obj)).set (es.length * 4 + 3) (.bool x.fail)
    rw [set4 _ _ _ _ _ _ _ _ _ _ _ (by rw [evCells_length])] at this
    rw [evCells_append, List.append_assoc]
    exact this
  | [], h2 => simp at h2; omega
  | [_], h2 => simp at h2; omega
  | [_, _], h2 => simp at h2; omega
  | [_, _, _], h2 => simp at h2; omega
theorem ERow.made (w : World) (n : Nat) : ERow (w.alloc (.cells (madeCells #[.int .i64 0, .int .i64 0, .int .i64 0, .bool false] (n * 4)) 51)) w.heap.size n [] := by
  refine ⟨Nat.zero_le _, (madeCells #[.int .i64 0, .int .i64 0, .int .i64 0, .bool false] (n * 4)).toList, by simp [size_madeCells], ?_⟩
  have := heap_alloc_new w (.cells (madeCells #[.int .i64 0, .int .i64 0, .int .i64 0, .bool false] (n * 4)) 51)
  unfold MidAt
  rw [this]
  simp [evCells]
theorem ERow.evs {w : World} {g n : Nat} {es : List Ev} (h : ERow w g n es) (hm : es.length ≤ 1000000) : EvsAt w (some ⟨g, 0, none⟩) es := by
  obtain ⟨h1, zs, h2, h3⟩ := h
  have hcell : ∀ j u, (evCells es)[j]? = some u → w.cell? ⟨g, j, none⟩ = some u := by
    intro j u hj
    rw [h3.cell, List.getElem?_append_left (List.getElem?_eq_some_iff.1 hj).1]
    exact hj
  refine ⟨by unfold maxLen; omega, fun _ => ⟨g, 0, rfl, fun i hi => ?_⟩⟩
  simp only [Nat.zero_add]
  exact ⟨hcell _ _ (evCells_get es i 0 hi (by omega)), hcell _ _ (evCells_get es i 1 hi (by omega)), hcell _ _ (evCells_get es i 2 hi (by omega)), hcell _ _ (evCells_get es i 3 hi (by omega))⟩

theorem readE_no {s : List UInt8} {b : UInt8} (hb : b ∈ s) (h : rightEv (evOf b.toNat) = false) : readOk s = false ∧ readE s = [] := by
  have h1 : readOk s = false := by
    unfold readOk evsOf
    rw [List.all_eq_false]
    exact ⟨_, List.mem_map.2 ⟨b, hb, rfl⟩, by simp [h]⟩
  refine ⟨h1, ?_⟩
  unfold readE
  rw [h1]
  rfl

def ReadPost (B : Nat) (w : World) (s : List UInt8) (bad : Value) (good : Value) (r : Ending) (w' : World) : Prop :=
  ∃ a cap, r = .returned (.tuple #[.slice a (readE s).length cap, if readOk s then good else bad]) ∧ EvsAt w' a (readE s) ∧ Below B w w'

theorem readPost_no {B : Nat} {w w' : World} {s : List UInt8} {bad good : Value} (h : readOk s = false ∧ readE s = []) (hb : Below B w w') : ReadPost B w s bad good (.returned (.tuple #[.slice none 0 0, bad])) w' :=
  ⟨none, 0, by rw [h.1, h.2]; rfl, by rw [h.2]; exact evsAt_nil _ _, hb⟩
theorem readPost_yes {B : Nat} {w w' : World} {s : List UInt8} {bad good : Value} (h : (evsOf s).all rightEv = true) (a : Option Addr) (n cap : Nat) (hn : n = s.length) (he : EvsAt w' a (evsOf s)) (hb : Below B w w') : ReadPost B w s bad good (.returned (.tuple #[.slice a n cap, good])) w' := by
  have h1 : readOk s = true := h
  have h2 : readE s = evsOf s := by unfold readE; rw [h1]; rfl
  refine ⟨a, cap, ?_, by rw [h2]; exact he, hb⟩
  rw [h1, h2, hn]
  simp [evsOf]

theorem evsOf_take (s : List UInt8) (k : Nat) (h : k < s.length) : evsOf (s.take (k + 1)) = evsOf (s.take k) ++ [evOf s[k].toNat] := by
  unfold evsOf
  rw [List.take_succ_eq_append_getElem h, List.map_append]
  rfl

end Go.Proofs.YtljlaopjimkcmaaGreat

/- The contracts of event's Read and of the document's, once more: the row is the call's own. -/
namespace Go.Proofs.YtljlaopjimkcmaaGreat
open Go.RowKit

theorem ERow.own {w : World} {B n : Nat} {es : List Ev} (h : ERow w B n es) (hn : es.length = n) (hm : n ≤ 1000000) : OwnE w B (.slice (some ⟨B, 0, none⟩) n n) es := by
  obtain ⟨h1, zs, h2, h3⟩ := h
  have hz : zs = [] := List.eq_nil_of_length_eq_zero (by omega)
  subst hz
  rw [List.append_nil] at h3
  refine ⟨by rw [evCells_length], .inr ⟨B, n, (evCells es).toArray, by rw [hn], Nat.le_refl _, h3, by omega, by unfold maxLen; omega, by simp [evCells_length, hn], ?_⟩⟩
  rw [hn, List.take_of_length_le]
  simp [evCells_length, hn]
def ReadPostO (B : Nat) (w : World) (s : List UInt8) (bad : Value) (good : Value) (r : Ending) (w' : World) : Prop :=
  ∃ a cap, r = .returned (.tuple #[.slice a (readE s).length cap, if readOk s then good else bad]) ∧ OwnE w' B (.slice a (readE s).length cap) (readE s) ∧ Below B w w'
theorem readPostO_no {B : Nat} {w w' : World} {s : List UInt8} {bad good : Value} (h : readOk s = false ∧ readE s = []) (hb : Below B w w') : ReadPostO B w s bad good (.returned (.tuple #[.slice none 0 0, bad])) w' :=
  ⟨none, 0, by rw [h.1, h.2]; rfl, by rw [h.2]; exact ownE_nil _ _, hb⟩
theorem readPostO_yes {B : Nat} {w w' : World} {s : List UInt8} {bad good : Value} (h : (evsOf s).all rightEv = true) (a : Option Addr) (n cap : Nat) (hn : n = s.length) (he : OwnE w' B (.slice a n cap) (evsOf s)) (hb : Below B w w') : ReadPostO B w s bad good (.returned (.tuple #[.slice a n cap, good])) w' := by
  have h1 : readOk s = true := h
  have h2 : readE s = evsOf s := by unfold readE; rw [h1]; rfl
  have h3 : (evsOf s).length = n := by rw [hn]; simp [evsOf]
  refine ⟨a, cap, ?_, by rw [h2, h3]; exact he, hb⟩
  rw [h1, h2, hn]
  simp [evsOf]

end Go.Proofs.YtljlaopjimkcmaaGreat

/- The contracts of levelOf's closure, of slices.IndexFunc and of slices.ContainsFunc with it. -/
namespace Go.Proofs.YtljlaopjimkcmaaGreat
open Go.RowKit

set_option maxRecDepth 100000 in
set_option maxHeartbeats 1000000 in
theorem ahead_any (x e : Ev) (g : Nat) (w : World) (hb : EvBox w g e) :
    Calls Tryz.prog 80 #[.agg #[.int .i64 x.thread, .int .i64 x.kind, .int .i64 x.obj, .bool x.fail], .pointer (some ⟨g, 0, none⟩)] w fun r w' => r = .returned (.bool (dep x e)) ∧ Below w.heap.size w w' := by
  have hba := below_alloc1 w (.cells #[.int .i64 x.thread, .int .i64 x.kind, .int .i64 x.obj, .bool x.fail] 51)
  obtain ⟨c0, c1, c2, c3⟩ := (hb.later hba).cells
  obtain ⟨d0, d1, d2, d3⟩ := (EvBox.new w x).cells
  clear hb
  go_enter Tryz.func80, Tryz.ntmps80
  go_wp2_with fail
  refine (depends_any x e _).mono ?_
  rintro r w' ⟨rfl, hb'⟩
  have hB := hba.trans (hb'.mono hba.size)
  go_wp2
  go_ret
  exact ⟨rfl, hB⟩

def IdxR (es : List Ev) (e : Ev) (w : World) (r : Ending) (w' : World) : Prop := ∃ z : Int, r = .returned (.int .i64 z) ∧ decide (0 ≤ z) = es.any (fun x => dep x e) ∧ Below w.heap.size w w'

set_option maxRecDepth 100000 in
set_option maxHeartbeats 2000000 in
theorem indexE_any (a : Option Addr) (cap : Nat) (es : List Ev) (e : Ev) (g : Nat) (w : World) (hl : EvsAt w a es) (hb : EvBox w g e) :
    Calls Tryz.prog 99 #[.slice a es.length cap, .func (.func 80) #[] #[.pointer (some ⟨g, 0, none⟩)]] w (IdxR es e w) := by
  have hm := hl.1
  unfold maxLen at hm
  have HL := Lib.hid hl
  have HB := Lib.hid hb
  clear hl hb
  go_enter Tryz.func99, Tryz.ntmps99
  go_wp2
  go_loopw [8] (fun i wr => ∃ k : Nat, k ≤ es.length ∧ i = .int .i64 k ∧ Hid (∀ j (h : j < es.length), j < k → dep es[j] e = false) ∧ Below w.heap.size w wr) (fun i _ => es.length - (intOf i).toNat)
  case atStart => exact ⟨0, Nat.zero_le _, rfl, (fun j _ h => absurd h (by omega)), Below.refl _ _⟩
  case round =>
    obtain ⟨k, hk, rfl, HA, hbw⟩ := hrel
    by_cases hlt : k < es.length
    · obtain ⟨b, o, rfl, hc⟩ := HL.out.2 (by intro e; simp [e] at hlt)
      obtain ⟨c0, c1, c2, c3⟩ := hc k hlt
      have d0 := cell_later hbw c0
      have d1 := cell_later hbw c1
      have d2 := cell_later hbw c2
      have d3 := cell_later hbw c3
      have HX := Lib.hid (HB.out.later hbw)
      have h1 : Hid (dep es[k] e = true → es.any (fun x => dep x e) = true) := fun h => List.any_eq_true.2 ⟨_, List.getElem_mem hlt, h⟩
      have h2 : Hid (dep es[k] e = false → ∀ j (h : j < es.length), j < k + 1 → dep es[j] e = false) := fun h j hj hjk => by
        by_cases e' : j = k
        · subst e'; exact h
        · exact HA.out j hj (by omega)
      clear hc c0 c1 c2 c3
      generalize es[k] = x at *
      go_wp2_with fail
      refine (ahead_any x e g _ HX.out).mono ?_
      rintro r w2 ⟨rfl, hb5⟩
      have hb6 := hbw.trans (hb5.mono hbw.size)
      clear hb5
      cases hr : dep x e
      · have HN := Lib.hid (h2.out hr)
        clear h1 h2
        go_wp2
        go_roundw
        case rel => exact ⟨k + 1, by omega, by go_num, HN, hb6⟩
        case measure => simp [intOf]; omega
      · have HN := Lib.hid (h1.out hr)
        clear h1 h2
        go_wp2
        go_ret
        exact ⟨k, rfl, by rw [HN.out]; simp, hb6⟩
    · have HN : Hid (es.any (fun x => dep x e) = false) := by
        show _ = _
        rw [List.any_eq_false]
        intro x hx
        obtain ⟨j, hj, rfl⟩ := List.mem_iff_getElem.1 hx
        rw [HA.out j hj (by omega)]
        simp
      obtain rfl : k = es.length := by omega
      go_wp2
      go_ret
      exact ⟨-1, rfl, by rw [HN.out]; simp, hbw⟩

set_option maxRecDepth 100000 in
set_option maxHeartbeats 1000000 in
theorem containsE_any (a : Option Addr) (cap : Nat) (es : List Ev) (e : Ev) (g : Nat) (w : World) (hl : EvsAt w a es) (hb : EvBox w g e) :
    Calls Tryz.prog 79 #[.slice a es.length cap, .func (.func 80) #[] #[.pointer (some ⟨g, 0, none⟩)]] w fun r w' => r = .returned (.bool (es.any fun x => dep x e)) ∧ Below w.heap.size w w' := by
  have H := Lib.hid (indexE_any a cap es e g w hl hb)
  clear hl hb
  go_enter Tryz.func79, Tryz.ntmps79
  go_wp2_with fail
  refine H.out.mono ?_
  rintro r w' ⟨z, rfl, hz, hb'⟩
  have HZ := Lib.hid hz
  clear hz
  go_wp2
  go_ret
  exact ⟨ret_bool HZ.out, hb'⟩

end Go.Proofs.YtljlaopjimkcmaaGreat

/- A range from the end on: which rounds have come. -/
namespace Go.Proofs.YtljlaopjimkcmaaGreat
open Go.RowKit Go.Shelf

/-- What has come when k rounds are over: f 0, .., f (k - 1). -/
def upto {T : Type} (f : Nat → T) (k : Nat) : List T := (List.range k).map f
theorem upto_succ {T : Type} (f : Nat → T) (k : Nat) : upto f (k + 1) = upto f k ++ [f k] := by simp [upto, List.range_succ]
theorem upto_length {T : Type} (f : Nat → T) (k : Nat) : (upto f k).length = k := by simp [upto]

/-- The rounds' places, from the end on. -/
def Backs (n k : Nat) (pre : List (Fin n)) : Prop := pre.map (fun q => q.val) = upto (fun k => n - 1 - k) k
theorem backs_nil (n : Nat) : Backs n 0 [] := rfl
theorem Backs.len {n k : Nat} {pre : List (Fin n)} (h : Backs n k pre) : pre.length = k := by
  have := congrArg List.length h
  simpa [upto_length] using this
theorem Backs.snoc {n k : Nat} {pre : List (Fin n)} (h : Backs n k pre) {q : Fin n} (hq : q.val = n - 1 - k) : Backs n (k + 1) (pre ++ [q]) := by
  unfold Backs at *
  rw [List.map_append, h, upto_succ]
  simp [hq]
theorem Backs.mem {n k : Nat} {pre : List (Fin n)} (h : Backs n k pre) {j : Nat} (hj : n - k ≤ j) (hjn : j < n) (hk : k ≤ n) : (⟨j, hjn⟩ : Fin n) ∈ pre := by
  have h1 : j ∈ pre.map (fun q => q.val) := by
    unfold Backs at h
    rw [h]
    unfold upto
    rw [List.mem_map]
    exact ⟨n - 1 - j, by rw [List.mem_range]; omega, by omega⟩
  obtain ⟨q, hq, e⟩ := List.mem_map.1 h1
  have : q = ⟨j, hjn⟩ := Fin.ext e
  rw [← this]
  exact hq
theorem MidAt.keptRow {w w' : World} {g : Nat} {t : TypeId} {xs : List Value} {row : Option Nat} (h : MidAt w g t xs) (hg : w.grownBy w' row) (hr : ∀ r, row = some r → ∃ o : Obj, w.heap[r]? = some o ∧ o.isCells = false) : MidAt w' g t xs := by
  refine (hg.block g h.lt fun e => ?_).trans h
  obtain ⟨o, ho, hc⟩ := hr g e.symm
  unfold MidAt at h
  rw [h] at ho
  cases ho
  cases hc

end Go.Proofs.YtljlaopjimkcmaaGreat

/- The contracts of slices.Backward over a row of levels, and of what it hands back. -/
namespace Go.Proofs.YtljlaopjimkcmaaGreat
open Go.RowKit Go.Shelf

attribute [local go_sem] Oper.semAt_some

def backL (cs : List Sl) (q : Fin cs.length) : Array Value := #[.int .i64 (q.val : Int), .slice cs[q.val].a cs[q.val].n cs[q.val].c]

set_option maxRecDepth 100000 in
set_option maxHeartbeats 2000000 in
theorem backL1_in (F : Fence) (n : Nat) (h7 : F.fn 98) (hro : F.round = none) (hn : 1 ≤ n) (l Bs n₀ : Nat) (a : Option Addr) (cap : Nat) (cs : List Sl) (hreach : cs.length ≤ 1000) (hbs : Bs < n₀)
    (J Jx : List (Fin cs.length) → World → Prop)
    (hY : ∀ pre x W, J pre W → pre.length < cs.length → YieldAt F (n - 1) Tryz.prog l (backL cs x) W fun e W' => (e = .returned (.bool true) ∧ J (pre ++ [x]) W' ∧ Below n₀ W W') ∨ (e = .returned (.bool false) ∧ Jx (pre ++ [x]) W'))
    (W : World) (hBs : W.cell? ⟨Bs, 0, none⟩ = some (.slice a cs.length cap)) (hrow : RowAt W a 1 slCell cs) (hb : 0 < cs.length → ∀ b o, a = some ⟨b, o, none⟩ → b < n₀) (h0 : J [] W) :
    CallsIn F n Tryz.prog 98 #[.func (.yield l) #[] #[], .pointer (some ⟨Bs, 0, none⟩)] W fun e W' => (∃ v, e = .returned v) ∧
      ((∃ ys, Backs cs.length cs.length ys ∧ J ys W') ∨ (∃ pre, (∃ k, k ≤ cs.length ∧ Backs cs.length k pre) ∧ Jx pre W')) := by
  refine callsIn_of_wp Tryz.func98 rfl h7 ?_ hro
  simp only [Tryz.ntmps98, List.size_toArray, List.length_cons, List.length_nil, Nat.reduceAdd, Nat.reduceSub, Array.replicate_succ, Array.replicate_zero, List.push_toArray, List.append_toArray, List.nil_append, List.cons_append]
  gi_wp2
  gi_loopw [3] (fun i wr => ∃ (k : Nat) (z : Int) (pre : List (Fin cs.length)), k ≤ cs.length ∧ i = .int .i64 z ∧ Hid (z = (cs.length : Int) - 1 - k) ∧ Hid (Backs cs.length k pre) ∧ J pre wr ∧ Below n₀ W wr) (fun i _ => (intOf i + 1).toNat)
  case atStart => exact ⟨0, _, [], Nat.zero_le _, rfl, (by show _ = _; omega), backs_nil _, h0, Below.refl _ _⟩
  case round =>
    obtain ⟨k, z, pre, hk, rfl, HZ, HP, hJs, hnx⟩ := hrel
    have cBs := (hnx.cell (p := ⟨Bs, 0, none⟩) hbs).trans hBs
    by_cases hlt : k < cs.length
    · obtain ⟨b, o, rfl, hcell⟩ := hrow.2 (by intro e; simp [e] at hlt)
      have hbn := hb (by omega) b o rfl
      obtain ⟨q, hq⟩ : ∃ q : Nat, q = cs.length - 1 - k := ⟨_, rfl⟩
      obtain rfl : z = (q : Int) := by have := HZ.out; omega
      have hql : q < cs.length := by omega
      have c0 : wr.cell? ⟨b, o + q, none⟩ = some (.slice cs[q].a cs[q].n cs[q].c) := by
        have h := (hnx.cell (p := ⟨b, o + q * 1 + 0, none⟩) hbn).trans (hcell q hql 0 _ rfl)
        rw [Nat.mul_one, Nat.add_zero] at h
        exact h
      obtain ⟨fn, tmps, assign, body, hy, hR⟩ := hY pre ⟨q, hql⟩ wr hJs (by rw [HP.out.len]; exact hlt)
      dsimp only [backL] at hy
      have HQ := Lib.hid hq
      have HP2 : Hid (Backs cs.length (k + 1) (pre ++ [⟨q, hql⟩])) := HP.out.snoc hq
      clear hcell hq
      gi_wp2
      refine hR.mono ?_
      rintro e W3 (⟨rfl, hJ3, hk3⟩ | ⟨rfl, hJx3⟩)
      · gi_wp2
        go_roundw
        case rel => exact ⟨k + 1, (q : Int) - 1, _, by omega, by go_num, (by show _ = _; have := HQ.out; omega), HP2, hJ3, hnx.trans hk3⟩
        case measure => simp [intOf]
      · gi_wp2
        refine bodyPost_ret (results_none rfl _ _ _) rfl ?_
        exact ⟨⟨_, rfl⟩, .inr ⟨_, ⟨k + 1, by omega, HP2.out⟩, hJx3⟩⟩
    · obtain rfl : k = cs.length := by omega
      obtain rfl : z = -1 := by have := HZ.out; omega
      gi_wp2
      go_end0
      exact ⟨⟨_, rfl⟩, .inl ⟨_, HP.out, hJs⟩⟩

set_option maxHeartbeats 1000000 in
theorem backL_in (F : Fence) (n : Nat) (h5 : F.fn 78) (hro : F.round = none) (a : Option Addr) (len cap : Nat) (w : World) :
    CallsIn F n Tryz.prog 78 #[.slice a len cap] w fun e w' => e = .returned (.func (.func 98) #[] #[.pointer (some ⟨w.heap.size, 0, none⟩)]) ∧ w' = w.alloc (.cells #[.slice a len cap] 94) := by
  refine callsIn_of_wp Tryz.func78 rfl h5 ?_ hro
  simp only [Tryz.ntmps78, List.size_toArray, List.length_cons, List.length_nil, Nat.reduceAdd, Nat.reduceSub, Array.replicate_succ, Array.replicate_zero, List.push_toArray, List.append_toArray, List.nil_append, List.cons_append]
  gi_wp2
  go_ret
  exact ⟨rfl, rfl⟩

theorem backL_stops (F : Fence) (n : Nat) (h7 : F.fn 98) (hro : F.round = none) (hn : 1 ≤ n) (Bs n₀ : Nat) (a : Option Addr) (cap : Nat) (cs : List Sl) (hreach : cs.length ≤ 1000) (w : World) (hbs : Bs < n₀) (hn₀ : n₀ ≤ w.heap.size)
    (hc : w.cell? ⟨Bs, 0, none⟩ = some (.slice a cs.length cap)) (hrow : RowAt w a 1 slCell cs) (hb : 0 < cs.length → ∀ b o, a = some ⟨b, o, none⟩ → b < n₀) :
    SeqStopsK F n Tryz.prog 98 #[.pointer (some ⟨Bs, 0, none⟩)] (backL cs) (Below n₀) (fun ys => Backs cs.length cs.length ys) (fun pre => ∃ k, k ≤ cs.length ∧ Backs cs.length k pre) cs.length w := fun l J Jx W hW _ _ hY h0 => by
  have hc' := (hW.cell (p := ⟨Bs, 0, none⟩) (show Bs < w.heap.size by omega)).trans hc
  exact backL1_in F n h7 hro hn l Bs n₀ a cap cs hreach hbs J Jx hY W hc' (hrow.later hW) hb h0

end Go.Proofs.YtljlaopjimkcmaaGreat
