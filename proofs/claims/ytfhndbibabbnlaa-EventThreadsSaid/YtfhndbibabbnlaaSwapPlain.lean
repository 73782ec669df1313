/-
  Plain data: two threads whose next events are independent, and who both may, come to one state in either order. Nothing of the translation.
-/
import Derived.Test.YtfhndbibabbnlaaEvPlain
namespace Go.Proofs.Ytfhndbibabbnlaa

theorem dep_vars {s : St} {a b : Int} {i j : Ins} (hd : dep (s.ev a i) (s.ev b j) = false) (h1 : i.kind = 2) (h2 : j.kind = 1 ∨ j.kind = 2) : i.x ≠ j.x := by
  intro hx
  have e1 : s.ev a i = ⟨a, 3, i.x, false⟩ := by simp [St.ev, h1]
  rw [e1] at hd
  rcases h2 with h2 | h2
  · have e2 : s.ev b j = ⟨b, 2, j.x, false⟩ := by simp [St.ev, h2]
    rw [e2] at hd
    simp [dep, hx] at hd
  · have e2 : s.ev b j = ⟨b, 3, j.x, false⟩ := by simp [St.ev, h2]
    rw [e2] at hd
    simp [dep, hx] at hd

theorem ev_mut {s : St} {a : Int} {i : Ins} (h : i.kind = 5 ∨ (i.kind = 6 ∧ s.who i.x = a)) : (s.ev a i).obj = i.x ∧ ((s.ev a i).kind = 4 ∨ (s.ev a i).kind = 5) := by
  rcases h with h | ⟨h, hw⟩
  · simp [St.ev, h]
  · simp [St.ev, h, hw]

theorem dep_muts {s : St} {a b : Int} {i j : Ins} (hd : dep (s.ev a i) (s.ev b j) = false) (h1 : i.kind = 5 ∨ (i.kind = 6 ∧ s.who i.x = a)) (h2 : j.kind = 5 ∨ (j.kind = 6 ∧ s.who j.x = b)) : i.x ≠ j.x := by
  intro hx
  obtain ⟨o1, k1⟩ := ev_mut h1
  obtain ⟨o2, k2⟩ := ev_mut h2
  unfold dep at hd
  rw [decide_eq_false_iff_not] at hd
  exact hd (.inr ⟨by rw [o1, o2, hx], .inr ⟨k1, k2⟩⟩)

theorem St.Ok.hold_do {F : Nat} {s : St} (h : s.Ok F) {a b : Int} {i : Ins} (hi : s.ins a = some i) (hm : s.may a = true) (hab : a ≠ b) (hb : 0 ≤ b) (x : Int) : ((s.do_ a i).who x = b) ↔ (s.who x = b) := by
  rw [h.who_do hi x]
  split
  · rename_i h5
    have := St.may_free hi hm h5.1
    rw [St.who_eq h5.2]
    omega
  split
  · rename_i h6
    rw [St.who_eq h6.2.2, h6.2.1]
    omega
  · exact Iff.rfl

theorem St.ins_do {s : St} {a b : Int} {i : Ins} (hi : s.ins a = some i) (hb : s.has b) (hab : a ≠ b) : (s.do_ a i).ins b = s.ins b := by
  obtain ⟨ha, _, _⟩ := St.ins_has hi
  have hl : (s.do_ a i).ts.length = s.ts.length := by simp [St.do_]
  have hh : (s.do_ a i).has b ↔ s.has b := by unfold St.has; rw [hl]
  have hth : (s.do_ a i).th b.toNat = s.th b.toNat := by
    rw [St.th_do s a i ha, if_neg]
    unfold St.has at ha hb
    omega
  have hc : (s.do_ a i).code b.toNat = s.code b.toNat := rfl
  unfold St.ins
  rw [hth, hc]
  by_cases hx : s.has b
  · simp [hx, hh]
  · simp [hx, hh]

theorem St.Ok.thr_do {F : Nat} {s : St} (h : s.Ok F) {a b : Int} {i j : Ins} (hi : s.ins a = some i) (hj : s.ins b = some j) (hab : a ≠ b) (hd : dep (s.ev a i) (s.ev b j) = false) : (s.do_ a i).thr b j = s.thr b j := by
  obtain ⟨ha, _, _⟩ := St.ins_has hi
  obtain ⟨hb, _, _⟩ := St.ins_has hj
  have hth : (s.do_ a i).th b.toNat = s.th b.toNat := by
    rw [St.th_do s a i ha, if_neg]
    unfold St.has at ha hb
    omega
  have hr : (s.do_ a i).reg b j = s.reg b j := by unfold St.reg; rw [hth]
  have hv : j.kind = 1 → (s.do_ a i).var j.x = s.var j.x := by
    intro h1
    rw [h.var_do hi j.x, if_neg]
    rintro ⟨h2, hx⟩
    have := dep_vars hd h2 (.inl h1)
    have := (h.obj hi).1 (.inr h2)
    have := (h.obj hj).1 (.inl h1)
    omega
  unfold St.thr
  rw [hth, hr]
  by_cases h1 : j.kind = 1
  · rw [hv h1]
  · simp [h1]

theorem St.Ok.may_do {F : Nat} {s : St} (h : s.Ok F) {a b : Int} {i j : Ins} (hi : s.ins a = some i) (hj : s.ins b = some j) (hmb : s.may b = true) (hab : a ≠ b) (hd : dep (s.ev a i) (s.ev b j) = false) : (s.do_ a i).may b = true := by
  obtain ⟨hb, _, _⟩ := St.ins_has hj
  have h1 := St.ins_do hi hb hab
  unfold St.may
  rw [h1, hj]
  simp only [decide_eq_true_eq]
  intro h5
  have hf := St.may_free hj hmb h5
  rw [h.who_do hi]
  split
  · rename_i hx
    have := dep_muts hd (.inl hx.1) (.inl h5)
    have := (h.obj hi).2.1 (.inl hx.1)
    have := (h.obj hj).2.1 (.inl h5)
    omega
  split
  · omega
  · exact hf

theorem St.Ok.do_swap {F : Nat} {s : St} (h : s.Ok F) {a b : Int} {i j : Ins} (hi : s.ins a = some i) (hj : s.ins b = some j) (hma : s.may a = true) (hmb : s.may b = true) (hab : a ≠ b)
    (hd : dep (s.ev a i) (s.ev b j) = false) : (s.do_ a i).do_ b j = (s.do_ b j).do_ a i := by
  obtain ⟨ha, _, _⟩ := St.ins_has hi
  obtain ⟨hb, _, _⟩ := St.ins_has hj
  have hd' : dep (s.ev b j) (s.ev a i) = false := by rw [dep_symm]; exact hd
  have hn : a.toNat ≠ b.toNat := by unfold St.has at ha hb; omega
  have t1 := h.thr_do hi hj hab hd
  have t2 := h.thr_do hj hi (Ne.symm hab) hd'
  have w1 := h.hold_do hi hma hab (by unfold St.has at hb; exact hb.1) j.x
  have w2 := h.hold_do hj hmb (Ne.symm hab) (by unfold St.has at ha; exact ha.1) i.x
  have r1 : (s.do_ a i).reg b j = s.reg b j := by
    unfold St.reg
    rw [St.th_do s a i ha, if_neg (Ne.symm hn)]
  have r2 : (s.do_ b j).reg a i = s.reg a i := by
    unfold St.reg
    rw [St.th_do s b j hb, if_neg hn]
  obtain ⟨oi1, oi2, _⟩ := h.obj hi
  obtain ⟨oj1, oj2, _⟩ := h.obj hj
  have ets : ((s.do_ a i).do_ b j).ts = ((s.do_ b j).do_ a i).ts := by
    show (s.ts.set a.toNat (s.thr a i)).set b.toNat ((s.do_ a i).thr b j) = (s.ts.set b.toNat (s.thr b j)).set a.toNat ((s.do_ b j).thr a i)
    rw [t1, t2, List.set_comm _ _ hn]
  have ev : ((s.do_ a i).do_ b j).v = ((s.do_ b j).do_ a i).v := by
    show (if j.kind = 2 then (if i.kind = 2 then s.v.set i.x.toNat (s.reg a i) else s.v).set j.x.toNat ((s.do_ a i).reg b j) else if i.kind = 2 then s.v.set i.x.toNat (s.reg a i) else s.v) =
      (if i.kind = 2 then (if j.kind = 2 then s.v.set j.x.toNat (s.reg b j) else s.v).set i.x.toNat ((s.do_ b j).reg a i) else if j.kind = 2 then s.v.set j.x.toNat (s.reg b j) else s.v)
    rw [r1, r2]
    by_cases h1 : i.kind = 2
    · by_cases h2 : j.kind = 2
      · have hne := dep_vars hd h1 (.inr h2)
        have := oi1 (.inr h1)
        have := oj1 (.inr h2)
        simp only [h1, h2, if_true]
        exact List.set_comm _ _ (by omega)
      · simp [h1, h2]
    · by_cases h2 : j.kind = 2
      · simp [h1, h2]
      · simp [h1, h2]
  have em : ((s.do_ a i).do_ b j).m = ((s.do_ b j).do_ a i).m := by
    show (if j.kind = 5 then (s.do_ a i).m.set j.x.toNat b else if j.kind = 6 ∧ (s.do_ a i).who j.x = b then (s.do_ a i).m.set j.x.toNat (-1) else (s.do_ a i).m) =
      (if i.kind = 5 then (s.do_ b j).m.set i.x.toNat a else if i.kind = 6 ∧ (s.do_ b j).who i.x = a then (s.do_ b j).m.set i.x.toNat (-1) else (s.do_ b j).m)
    have mi : (s.do_ a i).m = if i.kind = 5 then s.m.set i.x.toNat a else if i.kind = 6 ∧ s.who i.x = a then s.m.set i.x.toNat (-1) else s.m := rfl
    have mj : (s.do_ b j).m = if j.kind = 5 then s.m.set j.x.toNat b else if j.kind = 6 ∧ s.who j.x = b then s.m.set j.x.toNat (-1) else s.m := rfl
    simp only [w1, w2]
    rw [mi, mj]
    by_cases p : i.kind = 5 ∨ (i.kind = 6 ∧ s.who i.x = a)
    · by_cases q : j.kind = 5 ∨ (j.kind = 6 ∧ s.who j.x = b)
      · have hne := dep_muts hd p q
        have := oi2 (by omega)
        have := oj2 (by omega)
        have hx : i.x.toNat ≠ j.x.toNat := by omega
        rcases p with p | p
        · rcases q with q | q
          · simp only [p, q, if_true]
            exact List.set_comm _ _ hx
          · simp [p, q]
            exact List.set_comm _ _ hx
        · rcases q with q | q
          · simp [p, q]
            exact List.set_comm _ _ hx
          · simp [p, q]
            exact List.set_comm _ _ hx
      · have q1 : ¬ j.kind = 5 := fun e => q (.inl e)
        have q2 : ¬ (j.kind = 6 ∧ s.who j.x = b) := fun e => q (.inr e)
        simp only [q1, q2, if_false]
    · have p1 : ¬ i.kind = 5 := fun e => p (.inl e)
      have p2 : ¬ (i.kind = 6 ∧ s.who i.x = a) := fun e => p (.inr e)
      simp only [p1, p2, if_false]
  have ep : ((s.do_ a i).do_ b j).p = ((s.do_ b j).do_ a i).p := rfl
  generalize (s.do_ a i).do_ b j = z at *
  generalize (s.do_ b j).do_ a i = z' at *
  cases z
  cases z'
  simp_all

theorem St.step_may {s : St} {t : Int} {i : Ins} (hi : s.ins t = some i) (hm : s.may t = true) : s.step t = (0, s.ev t i, s.do_ t i) := by
  obtain ⟨ht, _, _⟩ := St.ins_has hi
  unfold St.step
  rw [if_pos ht, hi]
  simp [hm]

theorem St.Ok.ev_do {F : Nat} {s : St} (h : s.Ok F) {a b : Int} {i j : Ins} (hi : s.ins a = some i) (hj : s.ins b = some j) (hma : s.may a = true) (hab : a ≠ b) : (s.do_ a i).ev b j = s.ev b j := by
  obtain ⟨hb, _, _⟩ := St.ins_has hj
  have h1 := h.next_do hi hma (Ne.symm hab)
  unfold St.next at h1
  rw [St.ins_do hi hb hab, hj] at h1
  simpa using h1

/-- Both orders. -/
theorem St.Ok.swap {F : Nat} {s : St} (h : s.Ok F) {a b : Int} {x y : Ev} (hx : s.next a = some x) (hy : s.next b = some y) (hma : s.may a = true) (hmb : s.may b = true) (hab : a ≠ b) (hd : dep x y = false) :
    ∃ c d z, s.step a = (0, x, c) ∧ c.step b = (0, y, z) ∧ s.step b = (0, y, d) ∧ d.step a = (0, x, z) ∧ c.Ok F ∧ d.Ok F ∧ z.Ok F := by
  unfold St.next at hx hy
  obtain ⟨i, hi, rfl⟩ := Option.map_eq_some_iff.1 hx
  obtain ⟨j, hj, rfl⟩ := Option.map_eq_some_iff.1 hy
  have hd' : dep (s.ev b j) (s.ev a i) = false := by rw [dep_symm]; exact hd
  obtain ⟨ha, _, _⟩ := St.ins_has hi
  obtain ⟨hb, _, _⟩ := St.ins_has hj
  have i1 := (St.ins_do hi hb hab).trans hj
  have i2 := (St.ins_do hj ha (Ne.symm hab)).trans hi
  refine ⟨s.do_ a i, s.do_ b j, (s.do_ a i).do_ b j, St.step_may hi hma, ?_, St.step_may hj hmb, ?_, h.do_ok hi, h.do_ok hj, (h.do_ok hi).do_ok i1⟩
  · rw [St.step_may i1 (h.may_do hi hj hmb hab hd), h.ev_do hi hj hma hab]
  · rw [St.step_may i2 (h.may_do hj hi hma (Ne.symm hab) hd'), h.ev_do hj hi hmb (Ne.symm hab), h.do_swap hi hj hma hmb hab hd]

end Go.Proofs.Ytfhndbibabbnlaa
