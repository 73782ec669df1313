import Derived.Test.YtnldkmcijmbhcaaGreatPk02
import Derived.Test.YtnldkmcijmbhcaaGreatPk03
import Derived.Test.YtnldkmcijmbhcaaGreatPk06
import Derived.Test.YtnldkmcijmbhcaaGreatPk07

/- Walks, plainly: of a program whose threads stand the other way round there are as many prefixes, ends, classes, and ends at which somebody waits. -/
namespace Go.Proofs.YtnldkmcijmbhcaaGreat

/-- Of n threads: the same one, counted from the other end. -/
def flipT (n : Nat) (t : Int) : Int := (n : Int) - 1 - t
def flipE (n : Nat) (e : Ev) : Ev := { e with thread := flipT n e.thread }
def flipP (p : Pg) : Pg := { p with threads := p.threads.reverse }
def flipM (n : Nat) (x : Int) : Int := if x < 0 then x else flipT n x
def flipS (s : St) : St := { p := flipP s.p, ts := s.ts.reverse, v := s.v, m := s.m.map (flipM s.ts.length) }
theorem flipT_inj {n : Nat} {a b : Int} : flipT n a = flipT n b ↔ a = b := by unfold flipT; omega
theorem flipT_flip (n : Nat) (a : Int) : flipT n (flipT n a) = a := by unfold flipT; omega
theorem flip_has {s : St} {t : Int} : (flipS s).has (flipT s.ts.length t) ↔ s.has t := by
  unfold St.has flipS flipT
  dsimp only
  rw [List.length_reverse]
  omega
theorem getD_reverse {T : Type} (l : List T) (d : T) {n : Nat} (hn : l.length = n) {t : Int} (h0 : 0 ≤ t) (h1 : t < n) : l.reverse.getD (flipT n t).toNat d = l.getD t.toNat d := by
  have e : (flipT n t).toNat = n - 1 - t.toNat := by unfold flipT; omega
  have h2 : t.toNat < l.length := by omega
  rw [e, getD_lt _ (by rw [List.length_reverse]; omega), getD_lt _ h2, List.getElem_reverse]
  congr 1
  omega
theorem flip_th {s : St} {t : Int} (h : s.has t) : (flipS s).th (flipT s.ts.length t).toNat = s.th t.toNat := getD_reverse s.ts thr0 rfl h.1 h.2
theorem flip_code {F : Nat} {s : St} (ok : s.Ok F) {t : Int} (h : s.has t) : (flipS s).code (flipT s.ts.length t).toNat = s.code t.toNat := getD_reverse s.p.threads [] ok.len.symm h.1 h.2
theorem flip_ins {F : Nat} {s : St} (ok : s.Ok F) {t : Int} : (flipS s).ins (flipT s.ts.length t) = s.ins t := by
  by_cases h : s.has t
  · unfold St.ins
    rw [flip_th h, flip_code ok h]
    simp only [h, flip_has.2 h]
  · have h' : ¬ (flipS s).has (flipT s.ts.length t) := fun e => h (flip_has.1 e)
    unfold St.ins
    simp only [h, h', false_and, if_false]
theorem flip_reg {s : St} {t : Int} (h : s.has t) (i : Ins) : (flipS s).reg (flipT s.ts.length t) i = s.reg t i := by
  unfold St.reg
  rw [flip_th h]
theorem flip_who (s : St) (x : Int) : (flipS s).who x = flipM s.ts.length (s.who x) := by
  have e : flipM s.ts.length (-1) = -1 := rfl
  unfold St.who
  show (s.m.map (flipM s.ts.length)).getD x.toNat (-1) = _
  simp only [List.getD, List.getElem?_map]
  cases h : s.m[x.toNat]? with
  | none => simp [e]
  | some y => simp
theorem flip_who_eq {s : St} {t : Int} (h : s.has t) (x : Int) : (flipS s).who x = flipT s.ts.length t ↔ s.who x = t := by
  rw [flip_who]
  unfold St.has at h
  unfold flipM flipT
  split <;> omega
theorem who_mm {F : Nat} {s : St} (ok : s.Ok F) (x : Int) : s.who x = -1 ∨ (0 ≤ s.who x ∧ s.who x < s.ts.length) := by
  unfold St.who
  simp only [List.getD]
  cases h : s.m[x.toNat]? with
  | none => exact .inl rfl
  | some y =>
    have := ok.mm y (List.mem_of_getElem? h)
    simp only [Option.getD_some]
    omega
theorem flip_free {F : Nat} {s : St} (ok : s.Ok F) (x : Int) : (flipS s).who x < 0 ↔ s.who x < 0 := by
  rw [flip_who]
  have := who_mm ok x
  unfold flipM flipT
  split <;> omega
theorem flip_ev {s : St} {t : Int} (h : s.has t) (i : Ins) : (flipS s).ev (flipT s.ts.length t) i = flipE s.ts.length (s.ev t i) := by
  unfold St.ev
  rw [flip_reg h]
  simp only [flip_who_eq h]
  unfold flipE
  repeat' split
  all_goals rfl
theorem flip_next {F : Nat} {s : St} (ok : s.Ok F) (t : Int) : (flipS s).next (flipT s.ts.length t) = (s.next t).map (flipE s.ts.length) := by
  unfold St.next
  rw [flip_ins ok]
  cases h : s.ins t with
  | none => rfl
  | some i =>
    have hh := (St.ins_has h).1
    simp [flip_ev hh]
theorem flip_may {F : Nat} {s : St} (ok : s.Ok F) (t : Int) : (flipS s).may (flipT s.ts.length t) = s.may t := by
  unfold St.may
  rw [flip_ins ok]
  cases h : s.ins t with
  | none => rfl
  | some i => simp only [flip_free ok]
theorem flip_thr {s : St} {t : Int} (h : s.has t) (i : Ins) : (flipS s).thr (flipT s.ts.length t) i = s.thr t i := by
  have hv : (flipS s).var i.x = s.var i.x := rfl
  unfold St.thr
  rw [flip_th h, flip_reg h, hv]
theorem reverse_set {T : Type} (l : List T) {n : Nat} (hn : l.length = n) {t : Int} (h0 : 0 ≤ t) (h1 : t < n) (y : T) : l.reverse.set (flipT n t).toNat y = (l.set t.toNat y).reverse := by
  apply List.ext_getElem
  · simp
  · intro i hi1 hi2
    rw [List.getElem_set, List.getElem_reverse, List.getElem_reverse, List.getElem_set]
    simp only [List.length_set, List.length_reverse] at hi1 hi2 ⊢
    have : (flipT n t).toNat = i ↔ t.toNat = l.length - 1 - i := by unfold flipT; omega
    simp only [this]
theorem flip_do {s : St} {t : Int} (h : s.has t) (i : Ins) : flipS (s.do_ t i) = (flipS s).do_ (flipT s.ts.length t) i := by
  have hl : (s.do_ t i).ts.length = s.ts.length := by simp [St.do_]
  have e1 : (flipS (s.do_ t i)).ts = ((flipS s).do_ (flipT s.ts.length t) i).ts := by
    show (s.ts.set t.toNat (s.thr t i)).reverse = s.ts.reverse.set (flipT s.ts.length t).toNat ((flipS s).thr (flipT s.ts.length t) i)
    rw [flip_thr h, reverse_set s.ts rfl h.1 h.2]
  have e2 : (flipS (s.do_ t i)).v = ((flipS s).do_ (flipT s.ts.length t) i).v := by
    show (if i.kind = 2 then s.v.set i.x.toNat (s.reg t i) else s.v) = if i.kind = 2 then s.v.set i.x.toNat ((flipS s).reg (flipT s.ts.length t) i) else s.v
    rw [flip_reg h]
  have e3 : (flipS (s.do_ t i)).m = ((flipS s).do_ (flipT s.ts.length t) i).m := by
    show (if i.kind = 5 then s.m.set i.x.toNat t else if i.kind = 6 ∧ s.who i.x = t then s.m.set i.x.toNat (-1) else s.m).map (flipM (s.do_ t i).ts.length) =
      (if i.kind = 5 then (s.m.map (flipM s.ts.length)).set i.x.toNat (flipT s.ts.length t) else if i.kind = 6 ∧ (flipS s).who i.x = flipT s.ts.length t then (s.m.map (flipM s.ts.length)).set i.x.toNat (-1) else s.m.map (flipM s.ts.length))
    rw [hl]
    simp only [flip_who_eq h]
    have f1 : flipM s.ts.length t = flipT s.ts.length t := by unfold flipM; rw [if_neg (by have := h.1; omega)]
    have f2 : flipM s.ts.length (-1) = -1 := rfl
    split
    · rw [List.map_set, f1]
    split
    · rw [List.map_set, f2]
    · rfl
  have e4 : (flipS (s.do_ t i)).p = ((flipS s).do_ (flipT s.ts.length t) i).p := rfl
  generalize flipS (s.do_ t i) = x at *
  generalize (flipS s).do_ (flipT s.ts.length t) i = y at *
  cases x
  cases y
  simp_all
theorem flip_ok {F : Nat} {s : St} (ok : s.Ok F) : (flipS s).Ok F := by
  have hn : (flipS s).ts.length = s.ts.length := by show s.ts.reverse.length = _; rw [List.length_reverse]
  have hp : rightPg (flipP s.p) = true := by
    have := ok.right
    unfold rightPg flipP at *
    dsimp only
    rw [Bool.and_eq_true, decide_eq_true_eq, List.all_eq_true] at *
    rw [List.length_reverse]
    exact ⟨this.1, fun x hx => this.2 x (List.mem_reverse.1 hx)⟩
  refine ⟨ok.f8, hp, ?_, ok.vl, ?_, ?_, ?_, ok.vv, ?_, ?_⟩
  · show s.ts.reverse.length = s.p.threads.reverse.length
    rw [List.length_reverse, List.length_reverse]
    exact ok.len
  · show (s.m.map _).length = 2
    rw [List.length_map]
    exact ok.ml
  · intro x hx
    exact ok.thr x (List.mem_reverse.1 hx)
  · intro k hk
    rw [hn] at hk
    have hh : s.has (flipT s.ts.length k) := by unfold St.has flipT; omega
    have e : (flipT s.ts.length (flipT s.ts.length (k : Int))).toNat = k := by rw [flipT_flip]; omega
    have h1 := flip_th hh
    have h2 := flip_code ok hh
    rw [e] at h1 h2
    rw [h1, h2]
    refine ok.place _ ?_
    unfold flipT
    omega
  · intro x hx
    rw [hn]
    obtain ⟨y, hy, rfl⟩ := List.mem_map.1 hx
    have := ok.mm y hy
    unfold flipM flipT
    split <;> omega
  · intro k hk
    have h1 := ok.free k hk
    show (s.m.map (flipM s.ts.length)).getD k (-1) = -1
    simp only [List.getD, List.getElem?_map] at *
    cases h : s.m[k]? with
    | none => rfl
    | some y =>
      rw [h] at h1
      simp only [Option.getD_some] at h1
      subst h1
      rfl
theorem flip_step {F : Nat} {s : St} (ok : s.Ok F) {t : Int} (h : t ∈ s.all) : (flipS s).step (flipT s.ts.length t) = (0, flipE s.ts.length (s.step t).2.1, flipS (s.step t).2.2) ∧ (s.step t).2.2.ts.length = s.ts.length ∧ (s.step t).2.2.Ok F := by
  unfold St.all at h
  have hm := (List.mem_filter.1 h).2
  have ok1 := ok.step_ok t
  rcases s.step_cases t with ⟨i, hi, _, e⟩ | ⟨e, he, e'⟩
  · have hh := (St.ins_has hi).1
    rw [e] at ok1 ⊢
    have hi' : (flipS s).ins (flipT s.ts.length t) = some i := (flip_ins ok).trans hi
    refine ⟨?_, by simp [St.do_], ok1⟩
    rw [St.step_may hi' ((flip_may ok t).trans hm), flip_ev hh, flip_do hh]
  · exfalso
    unfold St.may at hm
    cases hi : s.ins t with
    | none => rw [hi] at hm; cases hm
    | some i =>
      have := St.step_may hi (by unfold St.may; exact hm)
      rw [this] at e'
      injection e' with e' _
      omega
theorem flip_range (n : Nat) : (((List.range n).map Int.ofNat).map (flipT n)) = ((List.range n).map Int.ofNat).reverse := by
  apply List.ext_getElem
  · simp
  · intro i h1 h2
    simp at h1 h2 ⊢
    unfold flipT
    omega
theorem flip_all {F : Nat} {s : St} (ok : s.Ok F) : (flipS s).all = (s.all.map (flipT s.ts.length)).reverse := by
  have hn : (flipS s).ts.length = s.ts.length := by show s.ts.reverse.length = _; rw [List.length_reverse]
  unfold St.all
  rw [hn]
  have h1 : (((List.range s.ts.length).map Int.ofNat).filter s.may).map (flipT s.ts.length) = (((List.range s.ts.length).map Int.ofNat).map (flipT s.ts.length)).filter (flipS s).may := by
    generalize (List.range s.ts.length).map Int.ofNat = L
    rw [List.filter_map]
    congr 1
    apply List.filter_congr
    intro x _
    exact (flip_may ok x).symm
  rw [h1, flip_range, List.filter_reverse, List.reverse_reverse]
theorem flip_all_nil {F : Nat} {s : St} (ok : s.Ok F) : (flipS s).all = [] ↔ s.all = [] := by
  rw [flip_all ok]
  simp
theorem flip_pre {F : Nat} (n : Nat) : ∀ {s : St}, s.Ok F → (flipS s).pre n = s.pre n := by
  induction n with
  | zero => intro s _; rfl
  | succ n ih =>
    intro s ok
    unfold St.pre
    congr 1
    rw [flip_all ok, List.map_reverse, List.map_map]
    have h1 : (s.all.map ((fun t => St.pre n ((flipS s).step t).2.2) ∘ flipT s.ts.length)) = s.all.map fun t => St.pre n (s.step t).2.2 := by
      apply List.map_congr_left
      intro t ht
      obtain ⟨e1, e2, e3⟩ := flip_step ok ht
      show St.pre n ((flipS s).step (flipT s.ts.length t)).2.2 = _
      rw [e1]
      exact ih e3
    rw [h1]
    exact (List.reverse_perm _).sum_nat
theorem flip_runs {F : Nat} (n : Nat) : ∀ {s : St} (row : List Ev), s.Ok F → ((flipS s).runs n (row.map (flipE s.ts.length))).Perm ((s.runs n row).map fun x => (flipS x.1, x.2.map (flipE s.ts.length))) := by
  induction n with
  | zero => intro s row _; exact List.Perm.refl _
  | succ n ih =>
    intro s row ok
    show (if (flipS s).all = [] then _ else _ : List (St × List Ev)).Perm (List.map _ (if s.all = [] then _ else _))
    by_cases h : s.all = []
    · rw [if_pos ((flip_all_nil ok).2 h), if_pos h]
      exact List.Perm.refl _
    · rw [if_neg (fun e => h ((flip_all_nil ok).1 e)), if_neg h, flip_all ok, List.map_flatMap]
      refine ((List.reverse_perm _).flatMap_right _).trans ?_
      rw [List.flatMap_map]
      have hmem : ∀ t ∈ s.all, t ∈ s.all := fun _ h => h
      generalize hL : s.all = L at hmem ⊢
      have hmem' : ∀ t ∈ L, t ∈ s.all := fun t ht => by rw [hL]; exact ht
      clear hmem hL
      induction L with
      | nil => exact List.Perm.refl _
      | cons t L ihL =>
        rw [List.flatMap_cons, List.flatMap_cons]
        refine List.Perm.append ?_ (ihL fun t ht => hmem' t (List.mem_cons_of_mem _ ht))
        obtain ⟨e1, e2, e3⟩ := flip_step ok (hmem' t List.mem_cons_self)
        rw [e1]
        have := ih (row ++ [(s.step t).2.1]) e3
        rw [e2, List.map_append] at this
        exact this

theorem flip_s0 (p : Pg) (fuel : Int) : flipS (s0 p fuel) = s0 (flipP p) fuel := by
  unfold flipS s0 St.new flipP
  dsimp only
  congr 1
  rw [← List.map_reverse]
theorem right_flip (p : Pg) : rightPg (flipP p) = rightPg p := by
  unfold rightPg flipP
  dsimp only
  rw [List.length_reverse, List.all_reverse]
end Go.Proofs.YtnldkmcijmbhcaaGreat

/- What a step does may be: an event that is right. -/
namespace Go.Proofs.YtnldkmcijmbhcaaGreat

theorem ev_right {F : Nat} {s : St} (ok : s.Ok F) {t : Int} {e : Ev} {s1 : St} (h : s.step t = (0, e, s1)) : rightEv e = true := by
  obtain ⟨i, hi, _, rfl, _⟩ := St.step_ok0 h
  have hh := (St.ins_has hi).1
  have h4 : s.ts.length ≤ 4 := by
    have h1 := ok.len
    have h2 := ok.right
    unfold rightPg at h2
    rw [Bool.and_eq_true, decide_eq_true_eq] at h2
    omega
  unfold St.has at hh
  obtain ⟨o1, o2, _, _, _, _⟩ := ok.obj hi
  unfold rightEv St.ev
  rw [decide_eq_true_eq]
  repeat' split
  all_goals dsimp only
  all_goals (refine ⟨hh.1, by omega, ?_⟩)
  · exact .inr (.inl ⟨.inl rfl, by omega, by omega, rfl⟩)
  · exact .inr (.inl ⟨.inr rfl, by omega, by omega, rfl⟩)
  · exact .inr (.inr ⟨.inl rfl, by omega, by omega, rfl⟩)
  · exact .inr (.inr ⟨.inr rfl, by omega, by omega, rfl⟩)
  · exact .inl ⟨rfl, rfl⟩
  · exact .inl ⟨rfl, rfl⟩
  · exact .inl ⟨rfl, rfl⟩

end Go.Proofs.YtnldkmcijmbhcaaGreat

/- Walks, plainly: whatever is done to its end is among the ends. -/
namespace Go.Proofs.YtnldkmcijmbhcaaGreat

theorem mem_all {s : St} {t : Int} {e : Ev} {s1 : St} (h : s.step t = (0, e, s1)) : t ∈ s.all := by
  obtain ⟨i, hi, hm, _, _⟩ := St.step_ok0 h
  have hh := (St.ins_has hi).1
  unfold St.has at hh
  unfold St.all
  refine List.mem_filter.2 ⟨List.mem_map.2 ⟨t.toNat, List.mem_range.2 (by omega), ?_⟩, hm⟩
  show ((t.toNat : Nat) : Int) = t
  omega
theorem mem_runs {n : Nat} : ∀ {l : List Ev} {s z : St} (row : List Ev), Ex s l z → z.all = [] → s.fuel ≤ n → (z, row ++ l) ∈ s.runs n row := by
  induction n with
  | zero =>
    intro l s z row h hz hf
    cases l with
    | nil => obtain rfl := h; rw [List.append_nil, (runs_end 0 z row hz).1]; exact List.mem_singleton.2 rfl
    | cons e l =>
      obtain ⟨s1, h1, _⟩ := h
      have := step_fuel h1
      omega
  | succ n ih =>
    intro l s z row h hz hf
    cases l with
    | nil => obtain rfl := h; rw [List.append_nil, (runs_end (n + 1) z row hz).1]; exact List.mem_singleton.2 rfl
    | cons e l =>
      obtain ⟨s1, h1, h2⟩ := h
      have h3 := step_fuel h1
      have hm := mem_all h1
      have hne : s.all ≠ [] := List.ne_nil_of_mem hm
      show _ ∈ (if s.all = [] then _ else _ : List (St × List Ev))
      rw [if_neg hne, List.mem_flatMap]
      refine ⟨e.thread, hm, ?_⟩
      rw [h1]
      have := ih (row ++ [e]) h2 hz (by omega)
      rwa [List.append_assoc] at this
theorem ex_snoc {s z z1 : St} {l : List Ev} {e : Ev} {t : Int} (h : Ex s l z) (h1 : z.step t = (0, e, z1)) : Ex s (l ++ [e]) z1 := by
  have ht := (step_next h1).2.2
  exact ex_append.2 ⟨z, h, z1, by rw [ht]; exact h1, rfl⟩
theorem find_key {p : Pg} {fuel : Int} {z : St} {row : List Ev} {F : Nat} (ok : (s0 p fuel).Ok F) (h : Ex (s0 p fuel) row z) (hz : z.all = []) : keyB row ∈ sortK (keysOf (runsW p fuel)) := by
  have hf := fuel_le ok
  have hm := mem_runs (n := 33) [] h hz (by omega)
  rw [List.nil_append] at hm
  exact mem_sortK.2 (List.mem_map.2 ⟨_, hm, rfl⟩)
theorem ex_len {l : List Ev} : ∀ {s z : St}, Ex s l z → l.length + z.fuel = s.fuel := by
  induction l with
  | nil => intro s z h; rw [h]; simp
  | cons e l ih =>
    rintro s z ⟨s1, h1, h2⟩
    have := ih h2
    have := step_fuel h1
    rw [List.length_cons]
    omega
end Go.Proofs.YtnldkmcijmbhcaaGreat

/- Who waits, plainly. -/
namespace Go.Proofs.YtnldkmcijmbhcaaGreat

/-- Would some thread do something next? -/
def waits (s : St) : Bool := (List.range s.ts.length).any fun t => (s.next t).isSome
def waitsTo (s : St) (k : Nat) : Bool := (List.range k).any fun t => (s.next t).isSome
theorem waitsTo_succ (s : St) (k : Nat) : waitsTo s (k + 1) = (waitsTo s k || (s.next k).isSome) := by
  unfold waitsTo
  rw [List.range_succ, List.any_append]
  simp
/-- How many ends there are at which somebody waits. -/
def stuckN (l : Ends) : Nat := (l.filter fun x => waits x.1).length
end Go.Proofs.YtnldkmcijmbhcaaGreat

/- Walks of small programs, reckoned. -/
namespace Go.Proofs.YtnldkmcijmbhcaaGreat

end Go.Proofs.YtnldkmcijmbhcaaGreat

/- Walks, plainly: of a program whose threads stand the other way round there are as many classes. -/
namespace Go.Proofs.YtnldkmcijmbhcaaGreat

theorem dep_flip (n : Nat) (a b : Ev) : dep (flipE n a) (flipE n b) = dep a b := by
  unfold dep flipE
  dsimp only
  simp only [flipT_inj]
theorem map_flip (n : Nat) (l : List Ev) : (l.map (flipE n)).map (flipE n) = l := by
  rw [List.map_map]
  have : (flipE n ∘ flipE n) = id := by
    funext e
    show flipE n (flipE n e) = e
    unfold flipE
    dsimp only
    rw [flipT_flip]
  rw [this, List.map_id]
theorem sim_flip (n : Nat) {a b : List Ev} (h : Sim a b) : Sim (a.map (flipE n)) (b.map (flipE n)) := by
  refine (lvls_iff _ _).1 (sim_fun _ a b (fun l => lvls (l.map (flipE n))) rfl h ?_)
  intro x y e f hd
  dsimp only
  simp only [List.map_append, List.map_cons]
  exact lvls_blind _ _ _ _ (by rw [dep_flip]; exact hd)
theorem sim_flip_iff (n : Nat) (a b : List Ev) : Sim (a.map (flipE n)) (b.map (flipE n)) ↔ Sim a b := by
  refine ⟨fun h => ?_, sim_flip n⟩
  have := sim_flip n h
  rwa [map_flip, map_flip] at this
theorem runs_ex (n : Nat) : ∀ (s : St) (row : List Ev) (x : St × List Ev), x ∈ s.runs n row → ∃ l, x.2 = row ++ l ∧ Ex s l x.1 := by
  induction n with
  | zero =>
    intro s row x hx
    obtain rfl := List.mem_singleton.1 hx
    exact ⟨[], (List.append_nil _).symm, rfl⟩
  | succ n ih =>
    intro s row x hx
    by_cases h : s.all = []
    · rw [(runs_end (n + 1) s row h).1] at hx
      obtain rfl := List.mem_singleton.1 hx
      exact ⟨[], (List.append_nil _).symm, rfl⟩
    · have hx' : x ∈ (if s.all = [] then [(s, row)] else s.all.flatMap fun t => St.runs n (s.step t).2.2 (row ++ [(s.step t).2.1])) := hx
      rw [if_neg h, List.mem_flatMap] at hx'
      obtain ⟨t, ht, hx2⟩ := hx'
      obtain ⟨e, s1, h1, h2⟩ := all_step' ht
      rw [h1] at hx2
      obtain ⟨l, g1, g2⟩ := ih s1 _ x hx2
      have ht := (step_next h1).2.2
      exact ⟨e :: l, by rw [g1, List.append_assoc]; rfl, s1, by rw [ht]; exact h1, g2⟩
theorem ex_right {F : Nat} {l : List Ev} : ∀ {s z : St}, s.Ok F → Ex s l z → rightL l = true := by
  induction l with
  | nil => intro s z _ _; rfl
  | cons e l ih =>
    rintro s z ok ⟨s1, h1, h2⟩
    have ok1 := ok.step_ok e.thread
    rw [h1] at ok1
    rw [rightL_all, List.all_cons, Bool.and_eq_true]
    exact ⟨ev_right ok h1, ih ok1 h2⟩
theorem runs_right {F : Nat} {s : St} (ok : s.Ok F) {n : Nat} {x : St × List Ev} (h : x ∈ s.runs n []) : rightL x.2 = true ∧ x.2.length ≤ 200 := by
  obtain ⟨l, h1, h2⟩ := runs_ex n s [] x h
  rw [List.nil_append] at h1
  rw [h1]
  have := ex_len h2
  have := fuel_le ok
  exact ⟨ex_right ok h2, by omega⟩
theorem keyB_iff {a b : List Ev} (ha : rightL a = true) (hb : rightL b = true) (hl : a.length ≤ 200) (hl' : b.length ≤ 200) : keyB a = keyB b ↔ Sim a b := by
  unfold keyB
  rw [key_iff ha hl hl']
  exact ⟨fun h => h.2.2, fun h => ⟨ha, hb, h⟩⟩

theorem dedup_count {T : Type} (f g : T → Key) : ∀ l : List T, (∀ x ∈ l, ∀ y ∈ l, f x = f y ↔ g x = g y) → (dedupK (l.map f)).length = (dedupK (l.map g)).length := by
  intro l
  induction l with
  | nil => intro _; rfl
  | cons x l ih =>
    intro h
    have h1 := ih fun y hy z hz => h y (List.mem_cons_of_mem _ hy) z (List.mem_cons_of_mem _ hz)
    have h2 : f x ∈ l.map f ↔ g x ∈ l.map g := by
      simp only [List.mem_map]
      constructor
      · rintro ⟨y, hy, e⟩
        exact ⟨y, hy, (h y (List.mem_cons_of_mem _ hy) x List.mem_cons_self).1 e⟩
      · rintro ⟨y, hy, e⟩
        exact ⟨y, hy, (h y (List.mem_cons_of_mem _ hy) x List.mem_cons_self).2 e⟩
    rw [List.map_cons, List.map_cons, dedupK, dedupK]
    by_cases hm : f x ∈ l.map f
    · rw [if_pos hm, if_pos (h2.1 hm)]
      exact h1
    · rw [if_neg hm, if_neg (fun e => hm (h2.2 e)), List.length_cons, List.length_cons, h1]
theorem dedup_perm {a b : List Key} (h : a.Perm b) : (dedupK a).length = (dedupK b).length := by
  refine ((List.perm_ext_iff_of_nodup (nodup_dedupK a) (nodup_dedupK b)).2 fun x => ?_).length_eq
  rw [mem_dedupK, mem_dedupK]
  exact h.mem_iff

theorem waits_flip {F : Nat} {s : St} (ok : s.Ok F) : waits (flipS s) = waits s := by
  have key : ∀ {s : St}, s.Ok F → waits s = true → waits (flipS s) = true := by
    intro s ok h
    unfold waits at h ⊢
    obtain ⟨k, hk, hn⟩ := List.any_eq_true.1 h
    have hk' := List.mem_range.1 hk
    have hl : (flipS s).ts.length = s.ts.length := by show s.ts.reverse.length = _; rw [List.length_reverse]
    refine List.any_eq_true.2 ⟨s.ts.length - 1 - k, List.mem_range.2 (by rw [hl]; omega), ?_⟩
    have e : ((s.ts.length - 1 - k : Nat) : Int) = flipT s.ts.length k := by unfold flipT; omega
    rw [e, flip_next ok, Option.isSome_map]
    exact hn
  have hinv : ∀ {s : St}, s.Ok F → flipS (flipS s) = s := by
    intro s ok
    have hl : (flipS s).ts.length = s.ts.length := by show s.ts.reverse.length = _; rw [List.length_reverse]
    obtain ⟨⟨V, M, ths⟩, ts, v, m⟩ := s
    unfold flipS flipP
    dsimp only
    simp only [List.reverse_reverse, List.length_reverse, List.map_map]
    have hm : m.map (flipM ts.length ∘ flipM ts.length) = m := by
      conv => rhs; rw [← List.map_id m]
      apply List.map_congr_left
      intro x hx
      have := ok.mm x hx
      show flipM ts.length (flipM ts.length x) = x
      dsimp only at this
      unfold flipM flipT
      split
      · rfl
      · split <;> omega
    rw [hm]
  cases h : waits s with
  | true => exact key ok h
  | false =>
    rw [Bool.eq_false_iff]
    intro h2
    have := key (flip_ok ok) h2
    rw [hinv ok, h] at this
    cases this
/-- As many of each. -/
theorem turned_all {p : Pg} {fuel : Int} (hok : okPg p fuel) : okPg (flipP p) fuel ∧ preW (flipP p) fuel = preW p fuel ∧ (runsW (flipP p) fuel).length = (runsW p fuel).length ∧ stuckN (runsW (flipP p) fuel) = stuckN (runsW p fuel) ∧
    (sortK (keysOf (runsW (flipP p) fuel))).length = (sortK (keysOf (runsW p fuel))).length := by
  have ok : (s0 p fuel).Ok fuel.toNat := new_ok hok.1 fuel.toNat (by have := hok.2; omega)
  have hokf : okPg (flipP p) fuel := ⟨by rw [right_flip]; exact hok.1, hok.2⟩
  have okf : (s0 (flipP p) fuel).Ok fuel.toNat := new_ok hokf.1 fuel.toNat (by have := hok.2; omega)
  have hp := flip_runs 33 (s := s0 p fuel) [] ok
  rw [flip_s0] at hp
  have hp' : (runsW (flipP p) fuel).Perm ((runsW p fuel).map fun x => (flipS x.1, x.2.map (flipE (s0 p fuel).ts.length))) := hp
  refine ⟨hokf, ?_, ?_, ?_, ?_⟩
  · unfold preW
    rw [← flip_s0]
    exact flip_pre 33 ok
  · rw [hp'.length_eq, List.length_map]
  · unfold stuckN
    rw [(hp'.filter _).length_eq, List.filter_map, List.length_map]
    congr 1
    apply List.filter_congr
    intro x hx
    have hx1 : ∃ l, x.2 = [] ++ l ∧ Ex (s0 p fuel) l x.1 := runs_ex 33 (s0 p fuel) [] x hx
    obtain ⟨l, _, hx2⟩ := hx1
    exact waits_flip (hx2.ok ok)
  · rw [sortK_length, sortK_length]
    have h1 : (keysOf (runsW (flipP p) fuel)).Perm ((runsW p fuel).map fun x => keyB (x.2.map (flipE (s0 p fuel).ts.length))) := by
      unfold keysOf
      have := hp'.map (fun x => keyB x.2)
      rw [List.map_map] at this
      exact this
    rw [dedup_perm h1]
    unfold keysOf
    refine dedup_count _ _ _ fun x hx y hy => ?_
    obtain ⟨rx, lx⟩ := runs_right ok hx
    obtain ⟨ry, ly⟩ := runs_right ok hy
    have hfx : rightL (x.2.map (flipE (s0 p fuel).ts.length)) = true := by
      have hm : (flipS x.1, x.2.map (flipE (s0 p fuel).ts.length)) ∈ runsW (flipP p) fuel := hp'.mem_iff.2 (List.mem_map.2 ⟨x, hx, rfl⟩)
      exact (runs_right okf hm).1
    have hfy : rightL (y.2.map (flipE (s0 p fuel).ts.length)) = true := by
      have hm : (flipS y.1, y.2.map (flipE (s0 p fuel).ts.length)) ∈ runsW (flipP p) fuel := hp'.mem_iff.2 (List.mem_map.2 ⟨y, hy, rfl⟩)
      exact (runs_right okf hm).1
    rw [keyB_iff hfx hfy (by rw [List.length_map]; exact lx) (by rw [List.length_map]; exact ly), keyB_iff rx ry lx ly, sim_flip_iff]

end Go.Proofs.YtnldkmcijmbhcaaGreat

/- Walks, plainly: without instructions that take a mutex nobody waits at an end. -/
namespace Go.Proofs.YtnldkmcijmbhcaaGreat

theorem step_p (s : St) (t : Int) : (s.step t).2.2.p = s.p := by
  rcases s.step_cases t with ⟨i, _, _, e⟩ | ⟨e, _, e'⟩
  · rw [e]; rfl
  · rw [e']
theorem runs_done (n : Nat) : ∀ (s : St) (row : List Ev) (x : St × List Ev), x ∈ s.runs n row → s.fuel ≤ n → x.1.all = [] ∧ x.1.p = s.p := by
  induction n with
  | zero =>
    intro s row x hx hf
    obtain rfl := List.mem_singleton.1 hx
    exact ⟨all_none (s := s) (by omega), rfl⟩
  | succ n ih =>
    intro s row x hx hf
    by_cases h : s.all = []
    · rw [(runs_end (n + 1) s row h).1] at hx
      obtain rfl := List.mem_singleton.1 hx
      exact ⟨h, rfl⟩
    · have hx' : x ∈ (if s.all = [] then [(s, row)] else s.all.flatMap fun t => St.runs n (s.step t).2.2 (row ++ [(s.step t).2.1])) := hx
      rw [if_neg h, List.mem_flatMap] at hx'
      obtain ⟨t, ht, hx2⟩ := hx'
      obtain ⟨e, s1, h1, h2⟩ := all_step' ht
      rw [h1] at hx2
      have hp := step_p s t
      rw [h1] at hp
      obtain ⟨g1, g2⟩ := ih s1 _ x hx2 (by omega)
      exact ⟨g1, g2.trans hp⟩
end Go.Proofs.YtnldkmcijmbhcaaGreat

/- A tree's ends, plainly: each is a class, none twice, and once it is closed they are all; its nodes are no more than the prefixes. -/
namespace Go.Proofs.YtnldkmcijmbhcaaGreat

/-- The state behind a row. -/
def doneSt (s : St) (row : List Ev) : St := row.foldl (fun s e => (s.step e.thread).2.2) s
theorem ex_done {row : List Ev} : ∀ {s z : St}, Ex s row z → z = doneSt s row := by
  induction row with
  | nil => intro s z h; exact h
  | cons e row ih =>
    rintro s z ⟨s1, h1, h2⟩
    have := ih h2
    rw [this]
    show _ = doneSt (s.step e.thread).2.2 row
    rw [h1]
theorem all_may {s : St} : s.all = [] ↔ ∀ t, s.may t = false := by
  constructor
  · intro h t
    rw [Bool.eq_false_iff]
    intro hm
    obtain ⟨e, he⟩ := may_next hm
    obtain ⟨s1, hs⟩ := next_step he hm
    have := mem_all hs
    rw [h] at this
    cases this
  · intro h
    rw [List.eq_nil_iff_forall_not_mem]
    intro t ht
    unfold St.all at ht
    have := (List.mem_filter.1 ht).2
    rw [h] at this
    cases this
def endsT (s0 : St) (T : List Nd) : List Nd := T.filter fun n => decide ((doneSt s0 n.row).all = [])
def keysT (s0 : St) (T : List Nd) : List Key := (endsT s0 T).map fun n => keyB n.row
section
variable {p : Pg} {fuel : Int} {F : Nat} {T : List Nd}
theorem row_right {s0 : St} (ok : s0.Ok F) (h : TreeOk s0 T) {n : Nd} (hn : n ∈ T) : rightL n.row = true ∧ n.row.length ≤ 200 := by
  obtain ⟨z, hz⟩ := h.rows n hn
  have := ex_len hz
  have := fuel_le ok
  exact ⟨ex_right ok hz, by omega⟩
theorem nodup_map_on {A B : Type} {f : A → B} {l : List A} (hn : l.Nodup) (h : ∀ x ∈ l, ∀ y ∈ l, f x = f y → x = y) : (l.map f).Nodup := by
  induction l with
  | nil => exact List.nodup_nil
  | cons a l ih =>
    obtain ⟨h1, h2⟩ := List.nodup_cons.1 hn
    rw [List.map_cons, List.nodup_cons]
    refine ⟨fun hm => ?_, ih h2 fun x hx y hy => h x (List.mem_cons_of_mem _ hx) y (List.mem_cons_of_mem _ hy)⟩
    obtain ⟨b, hb, e⟩ := List.mem_map.1 hm
    obtain rfl := h b (List.mem_cons_of_mem _ hb) a List.mem_cons_self e
    exact h1 hb
theorem nodup_of_map {A B : Type} {f : A → B} {l : List A} (h : (l.map f).Nodup) : l.Nodup := by
  induction l with
  | nil => exact List.nodup_nil
  | cons a l ih =>
    rw [List.map_cons, List.nodup_cons] at h
    exact List.nodup_cons.2 ⟨fun hm => h.1 (List.mem_map.2 ⟨a, hm, rfl⟩), ih h.2⟩
/-- No class twice. -/
theorem keysT_nodup {s0 : St} (ok : s0.Ok F) (h : TreeOk s0 T) : (keysT s0 T).Nodup := by
  unfold keysT
  refine nodup_map_on ((nodup_of_map h.nodup).filter _) fun x hx y hy e => ?_
  have hx' := (List.mem_filter.1 hx).1
  have hy' := (List.mem_filter.1 hy).1
  obtain ⟨r1, l1⟩ := row_right ok h hx'
  obtain ⟨r2, l2⟩ := row_right ok h hy'
  have hs := (keyB_iff r1 r2 l1 l2).1 e
  exact h.uniq hx' hy' (h.expl0.only ok ⟨x, hx', rfl⟩ ⟨y, hy', rfl⟩ hs)
/-- Each one is a class. -/
theorem keysT_sub (ok : (s0 p fuel).Ok F) (h : TreeOk (s0 p fuel) T) {k : Key} (hk : k ∈ keysT (s0 p fuel) T) : k ∈ keysOf (runsW p fuel) := by
  unfold keysT at hk
  obtain ⟨n, hn, rfl⟩ := List.mem_map.1 hk
  obtain ⟨hn1, hn2⟩ := List.mem_filter.1 hn
  rw [decide_eq_true_eq] at hn2
  obtain ⟨z, hz⟩ := h.rows n hn1
  have hzd := ex_done hz
  rw [← hzd] at hn2
  exact mem_sortK.1 (find_key ok hz hn2)
/-- All classes, once it is closed. -/
theorem keysT_all (ok : (s0 p fuel).Ok F) (h : TreeOk (s0 p fuel) T) (hd : TreeDone (s0 p fuel) T) {k : Key} (hk : k ∈ keysOf (runsW p fuel)) : k ∈ keysT (s0 p fuel) T := by
  unfold keysOf at hk
  obtain ⟨x, hx, rfl⟩ := List.mem_map.1 hk
  have hf := fuel_le ok
  obtain ⟨hx1, _⟩ := runs_done 33 (s0 p fuel) [] x hx (by omega)
  obtain ⟨l, hl1, hl2⟩ := runs_ex 33 (s0 p fuel) [] x hx
  rw [List.nil_append] at hl1
  obtain ⟨v, ⟨n, hn, rfl⟩, ⟨z, hz, hzm⟩, hsim, _⟩ := (h.expl hd).ends ok ⟨x.1, hl2, all_may.1 hx1⟩
  obtain ⟨r1, l1⟩ := row_right ok h hn
  obtain ⟨r2, l2⟩ := runs_right ok hx
  rw [hl1] at r2 l2 ⊢
  rw [(keyB_iff r2 r1 l2 l1).2 hsim.symm]
  unfold keysT
  refine List.mem_map.2 ⟨n, List.mem_filter.2 ⟨hn, ?_⟩, rfl⟩
  rw [decide_eq_true_eq, ← ex_done hz]
  exact all_may.2 hzm
theorem dedupK_nodup {l : List Key} (h : l.Nodup) : dedupK l = l := by
  induction l with
  | nil => rfl
  | cons x l ih =>
    obtain ⟨h1, h2⟩ := List.nodup_cons.1 h
    rw [dedupK, if_neg h1, ih h2]
theorem sortK_nodup_len {l : List Key} (h : l.Nodup) : (sortK l).length = l.length := by rw [sortK_length, dedupK_nodup h]
theorem sortK_ext {a b : List Key} (h : ∀ x, x ∈ a ↔ x ∈ b) : sortK a = sortK b := by
  have h1 := List.perm_ext_iff_of_nodup (nodup_dedupK a) (nodup_dedupK b)
  unfold sortK
  exact (sortK_of_perm (ks := b) (nodup_dedupK a) (fun x => by rw [mem_dedupK]; exact h x)).trans rfl
/-- Once it is closed: the keys, and how many there are. -/
theorem keysT_exact (ok : (s0 p fuel).Ok F) (h : TreeOk (s0 p fuel) T) (hd : TreeDone (s0 p fuel) T) : sortK (keysT (s0 p fuel) T) = sortK (keysOf (runsW p fuel)) ∧ (keysT (s0 p fuel) T).length = (sortK (keysOf (runsW p fuel))).length := by
  have e := sortK_ext (a := keysT (s0 p fuel) T) (b := keysOf (runsW p fuel)) fun x => ⟨keysT_sub ok h, keysT_all ok h hd⟩
  exact ⟨e, by rw [← e, sortK_nodup_len (keysT_nodup ok h)]⟩

/-- All prefixes. -/
def prefs : Nat → St → List Ev → List (List Ev)
  | 0, _, row => [row]
  | n + 1, s, row => row :: s.all.flatMap fun t => prefs n (s.step t).2.2 (row ++ [(s.step t).2.1])
theorem prefs_len (n : Nat) : ∀ (s : St) (row : List Ev), (prefs n s row).length = s.pre n := by
  induction n with
  | zero => intro s row; rfl
  | succ n ih =>
    intro s row
    show (row :: _).length = 1 + _
    rw [List.length_cons, List.length_flatMap, Nat.add_comm]
    congr 2
    apply List.map_congr_left
    intro t _
    exact ih _ _
theorem mem_prefs {n : Nat} : ∀ {l : List Ev} {s z : St} (row : List Ev), Ex s l z → l.length ≤ n → row ++ l ∈ prefs n s row := by
  induction n with
  | zero =>
    intro l s z row _ hl
    obtain rfl : l = [] := List.length_eq_zero_iff.1 (by omega)
    rw [List.append_nil]
    exact List.mem_singleton.2 rfl
  | succ n ih =>
    intro l s z row h hl
    cases l with
    | nil => rw [List.append_nil]; exact List.mem_cons_self
    | cons e l =>
      obtain ⟨s1, h1, h2⟩ := h
      refine List.mem_cons_of_mem _ (List.mem_flatMap.2 ⟨e.thread, mem_all h1, ?_⟩)
      rw [h1]
      have := ih (row ++ [e]) h2 (by rw [List.length_cons] at hl; omega)
      rwa [List.append_assoc] at this
theorem tree_len (ok : (s0 p fuel).Ok F) (h : TreeOk (s0 p fuel) T) : T.length ≤ preW p fuel := by
  have h1 : (T.map Nd.row).length ≤ (prefs 33 (s0 p fuel) []).length := nodup_len h.nodup fun x hx => by
    obtain ⟨n, hn, rfl⟩ := List.mem_map.1 hx
    obtain ⟨z, hz⟩ := h.rows n hn
    have := mem_prefs (n := 33) [] hz (by have := ex_len hz; have := fuel_le ok; omega)
    rwa [List.nil_append] at this
  rw [List.length_map, prefs_len] at h1
  exact h1
theorem growT_len (T : List Nd) (r : List Ev) (t : Int) (x : Nd) : (growT T r t x).length = T.length + 1 := by
  unfold growT
  rw [List.length_append, List.length_map, List.length_singleton]
end

end Go.Proofs.YtnldkmcijmbhcaaGreat

/- Marks on a tree, plainly: where each race marks all who may, and all who are marked were gone into or sleep, it is closed. -/
namespace Go.Proofs.YtnldkmcijmbhcaaGreat

/-- Who is to be gone into, at each node's row. -/
structure MarkOk (s0 : St) (T : List Nd) (M : List Ev → Int → Prop) : Prop where
  race : ∀ b ∈ T, ∀ z u f i, Ex s0 b.row z → z.next u = some f → i ∈ withL b.row f → ∀ t y, Ex s0 (b.row.take i) y → y.may t = true → M (b.row.take i) t
  any : ∀ n ∈ T, ∀ z t, Ex s0 n.row z → z.may t = true → n.z t = false → ∃ t', z.may t' = true ∧ n.z t' = false ∧ M n.row t'
theorem known_none {l : List Ev} {t : Int} {i : Nat} (h : ∀ j, j < l.length → (evI l j).thread = t → hb l i j = false) : knownB l t i = false := by
  unfold knownB
  cases hl : lastT l t l.length with
  | none => rfl
  | some j =>
    obtain ⟨h1, h2⟩ := lastT_some hl
    exact h j h1 h2
theorem MarkOk.done {s0 : St} {T : List Nd} {M : List Ev → Int → Prop} (h : MarkOk s0 T M) (hg : ∀ n ∈ T, ∀ t, M n.row t → t ∈ n.g ∨ n.z t = true) : TreeDone s0 T := by
  refine ⟨?_, ?_⟩
  · intro n hn z t hx hm hz hnil
    obtain ⟨t', h1, h2, h3⟩ := h.any n hn z t hx hm hz
    rcases hg n hn t' h3 with h4 | h4
    · rw [hnil] at h4
      cases h4
    · rw [h2] at h4
      cases h4
  · intro b hb n hn e v z u f hbr hx hnx hu hd hnb t y hy hm
    have hft := next_thread hnx
    have hlen : n.row.length < b.row.length := by rw [hbr]; simp
    have hev : evI b.row n.row.length = e := by
      rw [hbr]
      unfold evI
      rw [getD_lt _ (by simp)]
      simp
    have htk : b.row.take n.row.length = n.row := by rw [hbr]; simp
    have hw : n.row.length ∈ withL b.row f := by
      rw [mem_withL, hev]
      refine ⟨hlen, fun h => hu (by rw [← hft]; exact h.symm), hd, ?_⟩
      rw [hft]
      exact known_none hnb
    have := h.race b hb z u f n.row.length hx hnx hw t y (by rw [htk]; exact hy) hm
    rw [htk] at this
    exact hg n hn t this
theorem MarkOk.more {s0 : St} {T : List Nd} {M M' : List Ev → Int → Prop} (h : MarkOk s0 T M) (hm : ∀ l t, M l t → M' l t) : MarkOk s0 T M' :=
  ⟨fun b hb z u f i h1 h2 h3 t y h4 h5 => hm _ _ (h.race b hb z u f i h1 h2 h3 t y h4 h5), fun n hn z t h1 h2 h3 => by
    obtain ⟨t', g1, g2, g3⟩ := h.any n hn z t h1 h2 h3
    exact ⟨t', g1, g2, hm _ _ g3⟩⟩
/-- A node more, whose races are marked. -/
theorem MarkOk.grow {s0 : St} {T : List Nd} {M : List Ev → Int → Prop} (h : MarkOk s0 T M) (r : List Ev) (t : Int) {x : Nd}
    (hrace : ∀ z u f i, Ex s0 x.row z → z.next u = some f → i ∈ withL x.row f → ∀ t y, Ex s0 (x.row.take i) y → y.may t = true → M (x.row.take i) t)
    (hany : ∀ z t, Ex s0 x.row z → z.may t = true → x.z t = false → ∃ t', z.may t' = true ∧ x.z t' = false ∧ M x.row t') : MarkOk s0 (growT T r t x) M := by
  refine ⟨?_, ?_⟩
  · intro b hb
    rcases mem_growT.1 hb with ⟨a, ha, rfl⟩ | rfl
    · rw [updG_row]; exact h.race a ha
    · exact hrace
  · intro n hn
    rcases mem_growT.1 hn with ⟨a, ha, rfl⟩ | rfl
    · rw [updG_row, updG_z]; exact h.any a ha
    · exact hany

end Go.Proofs.YtnldkmcijmbhcaaGreat

/- Trees where no node was gone into twice, plainly: a line, with one end at most; one thread alone. -/
namespace Go.Proofs.YtnldkmcijmbhcaaGreat

theorem ahead_one {g : List Int} (h : g.length ≤ 1) (u t : Int) : ¬ Ahead g u t := by
  rintro ⟨g1, g2, rfl, hu⟩
  have := List.length_pos_of_mem hu
  simp only [List.length_append, List.length_cons] at h
  omega
theorem ex_p {l : List Ev} : ∀ {s z : St}, Ex s l z → z.p = s.p ∧ z.ts.length = s.ts.length := by
  induction l with
  | nil => intro s z h; rw [show z = s from h]; exact ⟨rfl, rfl⟩
  | cons e l ih =>
    rintro s z ⟨s1, h1, h2⟩
    obtain ⟨i, _, _, _, h6⟩ := St.step_ok0 h1
    obtain ⟨g1, g2⟩ := ih h2
    exact ⟨by rw [g1, h6]; rfl, by rw [g2, h6]; exact List.length_set⟩

section
variable {s0 : St} {T : List Nd}

theorem TreeOk.z_line (h : TreeOk s0 T) (h1 : ∀ n ∈ T, n.g.length ≤ 1) : ∀ (k : Nat) (n : Nd), n ∈ T → n.row.length = k → ∀ t, n.z t = false := by
  intro k
  induction k with
  | zero =>
    intro n hn hk t
    obtain ⟨m, hm, hmr, hmz⟩ := h.root
    obtain rfl := h.uniq hn hm (by rw [hmr]; exact List.length_eq_zero_iff.1 hk)
    exact hmz t
  | succ k ih =>
    intro n hn hk t
    rcases List.eq_nil_or_concat n.row with e | ⟨l, e, hr⟩
    · rw [e] at hk; cases hk
    rw [List.concat_eq_append] at hr
    obtain ⟨a, ha, har, _⟩ := h.par n hn l e hr
    obtain ⟨z, hz⟩ := h.rows a ha
    have hw := h.wake a ha n hn e z (by rw [har]; exact hr) hz t
    rw [Bool.eq_false_iff]
    intro hzt
    obtain ⟨_, h2 | h2, _⟩ := hw.1 hzt
    · rw [hr, List.length_append, List.length_singleton] at hk
      rw [ih a ha (by rw [har]; omega) t] at h2
      cases h2
    · exact ahead_one (h1 a ha) _ _ h2
theorem TreeOk.take (h : TreeOk s0 T) {n : Nd} (hn : n ∈ T) (k : Nat) : ∃ b ∈ T, b.row = n.row.take k := by
  have := h.expl0.below (n.row.drop k) (l := n.row.take k) (by rw [List.take_append_drop]; exact ⟨n, hn, rfl⟩)
  exact this
theorem step_det {s : St} {t : Int} {e f : Ev} {s1 s2 : St} (h : s.step t = (0, e, s1)) (h' : s.step t = (0, f, s2)) : e = f := by
  rw [h] at h'
  injection h' with _ h'
  injection h' with h'
theorem one_mem {g : List Int} (h : g.length ≤ 1) {a b : Int} (ha : a ∈ g) (hb : b ∈ g) : a = b := by
  match g, h with
  | [], _ => cases ha
  | [x], _ => rw [List.mem_singleton.1 ha, List.mem_singleton.1 hb]
theorem TreeOk.pre_line (h : TreeOk s0 T) (h1 : ∀ n ∈ T, n.g.length ≤ 1) : ∀ (k : Nat) (a b : Nd), a ∈ T → b ∈ T → a.row.length = k → k ≤ b.row.length → a.row = b.row.take k := by
  intro k
  induction k with
  | zero =>
    intro a b _ _ hk _
    rw [List.take_zero]
    exact List.length_eq_zero_iff.1 hk
  | succ k ih =>
    intro a b ha hb hk hle
    rcases List.eq_nil_or_concat a.row with e | ⟨l, e, hr⟩
    · rw [e] at hk; cases hk
    rw [List.concat_eq_append] at hr
    obtain ⟨a', ha', har, hag⟩ := h.par a ha l e hr
    obtain ⟨b', hb', hbr⟩ := h.take hb (k + 1)
    have hbk : b'.row = b.row.take k ++ [b.row[k]] := by rw [hbr]; exact List.take_succ_eq_append_getElem (by omega)
    obtain ⟨b2, hb2, hb2r, hb2g⟩ := h.par b' hb' _ _ hbk
    have hlk : l.length = k := by rw [hr, List.length_append, List.length_singleton] at hk; omega
    have hl : l = b.row.take k := by
      rw [← har]
      exact ih a' b ha' hb (by rw [har]; exact hlk) (by omega)
    obtain rfl := h.uniq ha' hb2 (by rw [har, hb2r, hl])
    have het := one_mem (h1 a' ha') hag hb2g
    obtain ⟨z, z1, hz, hs, _⟩ := h.expl0.step (l := l) (e := e) ⟨a, ha, hr⟩
    obtain ⟨y, y1, hy, hs2, _⟩ := h.expl0.step (l := b.row.take k) (e := b.row[k]) ⟨b', hb', hbk⟩
    rw [← hl] at hy
    obtain rfl := ex_det hz hy
    rw [het] at hs
    have := step_det hs hs2
    rw [hr, List.take_succ_eq_append_getElem (by omega), ← hl, this]
theorem TreeOk.len_line (h : TreeOk s0 T) (h1 : ∀ n ∈ T, n.g.length ≤ 1) {N : Nat} (hN : ∀ n ∈ T, n.row.length ≤ N) : T.length ≤ N + 1 := by
  have hnd : (T.map fun n => n.row.length).Nodup := by
    have : ∀ L : List Nd, (∀ x ∈ L, x ∈ T) → (L.map Nd.row).Nodup → (L.map fun n => n.row.length).Nodup := by
      intro L
      induction L with
      | nil => intro _ _; exact List.nodup_nil
      | cons x L ih =>
        intro hL hn
        rw [List.map_cons, List.nodup_cons] at *
        refine ⟨fun hx => ?_, ih (fun y hy => hL y (List.mem_cons_of_mem _ hy)) hn.2⟩
        obtain ⟨y, hy, hyl⟩ := List.mem_map.1 hx
        apply hn.1
        have hyT := hL y (List.mem_cons_of_mem _ hy)
        have hxT := hL x List.mem_cons_self
        have := h.pre_line h1 _ x y hxT hyT rfl (by omega)
        rw [this, List.take_of_length_le (by omega)]
        exact List.mem_map.2 ⟨y, hy, rfl⟩
    exact this T (fun _ h => h) h.nodup
  have := nodup_len hnd (b := List.range (N + 1)) fun x hx => by
    obtain ⟨n, hn, rfl⟩ := List.mem_map.1 hx
    have := hN n hn
    exact List.mem_range.2 (by omega)
  rwa [List.length_map, List.length_range] at this
/-- At most one end. -/
theorem TreeOk.end_line (h : TreeOk s0 T) (h1 : ∀ n ∈ T, n.g.length ≤ 1) {a b : Nd} (ha : a ∈ T) (hb : b ∈ T) {y z : St} (hy : Ex s0 a.row y) (hz : Ex s0 b.row z) (ey : ∀ t, y.may t = false) (ez : ∀ t, z.may t = false) : a = b := by
  have key : ∀ {a b : Nd}, a ∈ T → b ∈ T → ∀ {y : St}, Ex s0 a.row y → (∀ t, y.may t = false) → a.row.length ≤ b.row.length → a = b := by
    intro a b ha hb y hy ey hle
    have hp := h.pre_line h1 _ a b ha hb rfl hle
    rcases Nat.lt_or_ge a.row.length b.row.length with hlt | hge
    · exfalso
      obtain ⟨b', hb', hbr⟩ := h.take hb (a.row.length + 1)
      rw [List.take_succ_eq_append_getElem hlt, ← hp] at hbr
      obtain ⟨w, w1, hw, hs, _⟩ := h.expl0.step (l := a.row) ⟨b', hb', hbr⟩
      obtain rfl := ex_det hy hw
      have := (step_next hs).2.1
      rw [ey] at this
      cases this
    · exact h.uniq ha hb (by rw [hp, List.take_of_length_le hge])
  rcases Nat.le_total a.row.length b.row.length with hle | hle
  · exact key ha hb hy ey hle
  · exact (key hb ha hz ez hle).symm
theorem max_row {T : List Nd} (h : T ≠ []) : ∃ n ∈ T, ∀ m ∈ T, m.row.length ≤ n.row.length := by
  induction T with
  | nil => exact absurd rfl h
  | cons x T ih =>
    by_cases hT : T = []
    · subst hT
      exact ⟨x, List.mem_cons_self, fun m hm => by rw [List.mem_singleton.1 hm]; exact Nat.le_refl _⟩
    · obtain ⟨n, hn, hm⟩ := ih hT
      rcases Nat.le_total x.row.length n.row.length with hle | hle
      · refine ⟨n, List.mem_cons_of_mem _ hn, fun m hmm => ?_⟩
        rcases List.mem_cons.1 hmm with rfl | hmm
        · exact hle
        · exact hm m hmm
      · refine ⟨x, List.mem_cons_self, fun m hmm => ?_⟩
        rcases List.mem_cons.1 hmm with rfl | hmm
        · exact Nat.le_refl _
        · exact Nat.le_trans (hm m hmm) hle
/-- One end at least, where all was gone into. -/
theorem TreeOk.has_end (h : TreeOk s0 T) (hz : ∀ n ∈ T, ∀ t, n.z t = false) (hd : ∀ n ∈ T, ∀ z t, Ex s0 n.row z → z.may t = true → n.z t = false → n.g ≠ []) : ∃ n ∈ T, ∃ z, Ex s0 n.row z ∧ ∀ t, z.may t = false := by
  obtain ⟨r, hr, _⟩ := h.root
  obtain ⟨n, hn, hmax⟩ := max_row (T := T) (by rintro rfl; cases hr)
  obtain ⟨z, hx⟩ := h.rows n hn
  refine ⟨n, hn, z, hx, fun t => ?_⟩
  rw [Bool.eq_false_iff]
  intro hm
  have hg := hd n hn z t hx hm (hz n hn t)
  obtain ⟨u, hu⟩ := List.exists_mem_of_ne_nil _ hg
  obtain ⟨_, e, _, _, _, _, b, hb, hbr⟩ := h.kid n hn u hu
  have := hmax b hb
  rw [hbr, List.length_append, List.length_singleton] at this
  omega

/-- One thread alone. -/
theorem step_has {s : St} {t : Int} {e : Ev} {s1 : St} (h : s.step t = (0, e, s1)) : 0 ≤ t ∧ t < s.ts.length := by
  obtain ⟨i, hi, _⟩ := St.step_ok0 h
  have := (St.ins_has hi).1
  exact this
theorem TreeOk.g_one (h : TreeOk s0 T) (h1 : s0.ts.length = 1) : ∀ n ∈ T, n.g.length ≤ 1 := by
  intro n hn
  have h0 : ∀ t ∈ n.g, t ∈ [(0 : Int)] := by
    intro t ht
    obtain ⟨z, e, z1, hx, hs, _⟩ := h.kid n hn t ht
    have := step_has hs
    rw [(ex_p hx).2, h1] at this
    rw [List.mem_singleton]
    omega
  have := nodup_len (h.once n hn) h0
  exact this
theorem all_one {s : St} (h : s.ts.length = 1) : s.all = [] ∨ s.all = [0] := by
  unfold St.all
  rw [h]
  cases hm : s.may 0
  · exact .inl (by simp [hm])
  · exact .inr (by simp [hm])
theorem runs_one (n : Nat) : ∀ {s : St} (row : List Ev), s.ts.length = 1 → (s.runs n row).length = 1 := by
  induction n with
  | zero => intro s row _; rfl
  | succ n ih =>
    intro s row h
    unfold St.runs
    rcases all_one h with e | e
    · rw [if_pos e]; rfl
    · rw [if_neg (by rw [e]; simp), e]
      simp only [List.flatMap_cons, List.flatMap_nil, List.append_nil]
      obtain ⟨e1, s1, hs, _⟩ := all_step' (s := s) (t := 0) (by rw [e]; simp)
      rw [hs]
      exact ih _ (by rw [(ex_p (l := [e1]) (s := s) (z := s1) ⟨s1, by rw [(step_next hs).2.2]; exact hs, rfl⟩).2]; exact h)
theorem pre_one (n : Nat) : ∀ {s : St}, s.ts.length = 1 → ∃ l z, Ex s l z ∧ l.length + 1 = s.pre n := by
  induction n with
  | zero => intro s _; exact ⟨[], s, rfl, rfl⟩
  | succ n ih =>
    intro s h
    rcases all_one h with e | e
    · refine ⟨[], s, rfl, ?_⟩
      show 1 = 1 + _
      rw [e]; rfl
    · obtain ⟨e1, s1, hs, _⟩ := all_step' (s := s) (t := 0) (by rw [e]; simp)
      have hs' : s.step e1.thread = (0, e1, s1) := by rw [(step_next hs).2.2]; exact hs
      obtain ⟨l, z, hx, hl⟩ := ih (s := s1) (by rw [(ex_p (l := [e1]) (s := s) (z := s1) ⟨s1, hs', rfl⟩).2]; exact h)
      refine ⟨e1 :: l, z, ⟨s1, hs', hx⟩, ?_⟩
      show l.length + 1 + 1 = 1 + _
      rw [e]
      simp only [List.map_cons, List.map_nil, List.sum_cons, List.sum_nil, Nat.add_zero]
      rw [hs]
      dsimp only
      omega
/-- Each row is a node's, where all was gone into. -/
theorem TreeOk.all_in (h : TreeOk s0 T) (h1 : s0.ts.length = 1) (hd : ∀ n ∈ T, ∀ z t, Ex s0 n.row z → z.may t = true → n.z t = false → n.g ≠ []) : ∀ (k : Nat) (l : List Ev) (z : St), l.length = k → Ex s0 l z → ∃ n ∈ T, n.row = l := by
  have hg := h.g_one h1
  intro k
  induction k with
  | zero =>
    intro l z hk _
    obtain ⟨m, hm, hmr, _⟩ := h.root
    exact ⟨m, hm, by rw [hmr]; exact (List.length_eq_zero_iff.1 hk).symm⟩
  | succ k ih =>
    intro l z hk hx
    rcases List.eq_nil_or_concat l with e | ⟨l', e, rfl⟩
    · rw [e] at hk; cases hk
    rw [List.concat_eq_append] at hx hk ⊢
    obtain ⟨y, hy, y1, hs, _⟩ := ex_append.1 hx
    obtain ⟨n, hn, rfl⟩ := ih l' y (by simpa using hk) hy
    have hgn := hd n hn y e.thread hy (step_next hs).2.1 (h.z_line hg _ n hn rfl _)
    obtain ⟨u, hu⟩ := List.exists_mem_of_ne_nil _ hgn
    obtain ⟨w, f, w1, hw, hs2, _, b, hb, hbr⟩ := h.kid n hn u hu
    obtain rfl := ex_det hy hw
    have q1 := step_has hs
    have q2 := step_has hs2
    rw [(ex_p hy).2, h1] at q1 q2
    have e1 : u = e.thread := by omega
    rw [e1] at hs2
    rw [step_det hs2 hs] at hbr
    exact ⟨b, hb, hbr⟩
theorem TreeOk.len_one (h : TreeOk s0 T) (h1 : s0.ts.length = 1) (hd : ∀ n ∈ T, ∀ z t, Ex s0 n.row z → z.may t = true → n.z t = false → n.g ≠ []) (n : Nat) : s0.pre n ≤ T.length := by
  obtain ⟨l, z, hx, hl⟩ := pre_one n h1
  have hnd : ((List.range (l.length + 1)).map fun k => l.take k).Nodup := by
    rw [List.nodup_iff_pairwise_ne, List.pairwise_map]
    refine List.Pairwise.imp_of_mem ?_ (List.pairwise_lt_range (n := l.length + 1))
    intro i j hi hj hij e
    have hi' := List.mem_range.1 hi
    have hj' := List.mem_range.1 hj
    have := congrArg List.length e
    rw [List.length_take, List.length_take] at this
    omega
  have hin : ∀ x ∈ ((List.range (l.length + 1)).map fun k => l.take k), x ∈ T.map Nd.row := by
    intro x hx'
    obtain ⟨k, hk, rfl⟩ := List.mem_map.1 hx'
    have : ∃ y, Ex s0 (l.take k) y := by
      rw [← List.take_append_drop k l] at hx
      obtain ⟨y, hy, _⟩ := ex_append.1 hx
      exact ⟨y, hy⟩
    obtain ⟨y, hy⟩ := this
    obtain ⟨n, hn, hr⟩ := h.all_in h1 hd _ _ _ rfl hy
    exact List.mem_map.2 ⟨n, hn, hr⟩
  have := nodup_len hnd hin
  rw [List.length_map, List.length_range, List.length_map] at this
  omega

end
end Go.Proofs.YtnldkmcijmbhcaaGreat

/- Programs whose threads share nothing, plainly: no two of their threads' events depend on one another. -/
namespace Go.Proofs.YtnldkmcijmbhcaaGreat

/-- Do two threads' instructions never meet? -/
def ShareNo (p : Pg) : Prop := ∀ t u, t < p.threads.length → u < p.threads.length → t ≠ u → ∀ a ∈ p.threads.getD t [], ∀ b ∈ p.threads.getD u [],
  ¬ (a.x = b.x ∧ ((a.kind ≤ 2 ∧ b.kind ≤ 2 ∧ (a.kind = 2 ∨ b.kind = 2)) ∨ (a.kind = 5 ∧ b.kind = 5)))
/-- An event that a program's thread could do. -/
structure From (p : Pg) (e : Ev) : Prop where
  thr : 0 ≤ e.thread ∧ e.thread < p.threads.length
  rd : e.kind = 2 → ∃ i ∈ p.threads.getD e.thread.toNat [], i.kind = 1 ∧ i.x = e.obj
  wr : e.kind = 3 → ∃ i ∈ p.threads.getD e.thread.toNat [], i.kind = 2 ∧ i.x = e.obj
  mu : e.kind = 4 ∨ e.kind = 5 → ∃ i ∈ p.threads.getD e.thread.toNat [], i.kind = 5 ∧ i.x = e.obj
theorem from_apart {p : Pg} (h : ShareNo p) {e f : Ev} (he : From p e) (hf : From p f) (hne : e.thread ≠ f.thread) : dep e f = false := by
  have h1 := he.thr
  have h2 := hf.thr
  have hs := h e.thread.toNat f.thread.toNat (by omega) (by omega) (by omega)
  unfold dep
  rw [decide_eq_false_iff_not]
  rintro (hd | ⟨ho, ⟨k1, k2, k3⟩ | ⟨k1, k2⟩⟩)
  · exact hne hd
  · rcases k1 with k1 | k1 <;> rcases k2 with k2 | k2
    · omega
    · obtain ⟨i, hi, ik, ix⟩ := he.rd k1
      obtain ⟨j, hj, jk, jx⟩ := hf.wr k2
      exact hs i hi j hj ⟨by omega, .inl ⟨by omega, by omega, .inr jk⟩⟩
    · obtain ⟨i, hi, ik, ix⟩ := he.wr k1
      obtain ⟨j, hj, jk, jx⟩ := hf.rd k2
      exact hs i hi j hj ⟨by omega, .inl ⟨by omega, by omega, .inl ik⟩⟩
    · obtain ⟨i, hi, ik, ix⟩ := he.wr k1
      obtain ⟨j, hj, jk, jx⟩ := hf.wr k2
      exact hs i hi j hj ⟨by omega, .inl ⟨by omega, by omega, .inl ik⟩⟩
  · obtain ⟨i, hi, ik, ix⟩ := he.mu k1
    obtain ⟨j, hj, jk, jx⟩ := hf.mu k2
    exact hs i hi j hj ⟨by omega, .inr ⟨ik, jk⟩⟩

/-- Who has a mutex could take it. -/
def HeldBy (s : St) : Prop := ∀ (k : Nat) (t : Nat), s.m.getD k (-1) = (t : Int) → ∃ i ∈ s.code t, i.kind = 5 ∧ i.x = (k : Int)
theorem held_new (p : Pg) (F : Nat) : HeldBy (St.new p F) := by
  intro k t h
  have h0 : (St.new p F).m.getD k (-1) = -1 := by
    match k with
    | 0 => rfl
    | 1 => rfl
    | k + 2 => rfl
  omega
theorem held_do {F : Nat} {s : St} (ok : s.Ok F) (h : HeldBy s) {t : Int} {i : Ins} (hi : s.ins t = some i) : HeldBy (s.do_ t i) := by
  obtain ⟨hh, _, hc⟩ := St.ins_has hi
  unfold St.has at hh
  obtain ⟨_, o2, _⟩ := ok.obj hi
  have hml := ok.ml
  intro k u hk
  have hk' : (if i.kind = 5 then s.m.set i.x.toNat t else if i.kind = 6 ∧ s.who i.x = t then s.m.set i.x.toNat (-1) else s.m).getD k (-1) = (u : Int) := hk
  show ∃ j ∈ s.code u, _
  split at hk'
  · rename_i h5
    obtain ⟨x0, x1⟩ := o2 (.inl h5)
    rw [getD_set _ _ _ _ _ (by omega)] at hk'
    split at hk'
    · rename_i hkx
      refine ⟨i, ?_, h5, by omega⟩
      have hu : t.toNat = u := by omega
      rw [hu] at hc
      exact List.mem_of_getElem? hc
    · exact h k u hk'
  · split at hk'
    · rename_i h6
      obtain ⟨x0, x1⟩ := o2 (.inr h6.1)
      rw [getD_set _ _ _ _ _ (by omega)] at hk'
      split at hk'
      · omega
      · exact h k u hk'
    · exact h k u hk'
theorem next_from {F : Nat} {s : St} (ok : s.Ok F) (h : HeldBy s) {t : Int} {e : Ev} (hn : s.next t = some e) : From s.p e := by
  unfold St.next at hn
  obtain ⟨i, hi, rfl⟩ := Option.map_eq_some_iff.1 hn
  obtain ⟨hh, _, hc⟩ := St.ins_has hi
  unfold St.has at hh
  have hlen := ok.len
  obtain ⟨_, o2, _⟩ := ok.obj hi
  have hmem : i ∈ s.p.threads.getD t.toNat [] := List.mem_of_getElem? hc
  have ht := St.ev_thread s t i
  refine ⟨by rw [ht]; omega, ?_, ?_, ?_⟩
  all_goals rw [ht]
  · unfold St.ev
    repeat' split
    all_goals dsimp only
    all_goals intro hk
    all_goals first | omega | exact ⟨i, hmem, by assumption, rfl⟩
  · unfold St.ev
    repeat' split
    all_goals dsimp only
    all_goals intro hk
    all_goals first | omega | exact ⟨i, hmem, by assumption, rfl⟩
  · unfold St.ev
    split
    · dsimp only; intro hk; omega
    split
    · dsimp only; intro hk; omega
    split
    · rename_i h5; exact fun _ => ⟨i, hmem, h5, rfl⟩
    split
    · rename_i h6
      split
      · rename_i hw
        intro _
        obtain ⟨x0, x1⟩ := o2 (.inr h6)
        dsimp only
        have := h i.x.toNat t.toNat (by unfold St.who at hw; omega)
        obtain ⟨j, hj, j5, jx⟩ := this
        exact ⟨j, hj, j5, by omega⟩
      · dsimp only; intro hk; omega
    split
    · dsimp only; intro hk; omega
    · dsimp only; intro hk; omega
theorem ex_from {F : Nat} {l : List Ev} : ∀ {s z : St}, s.Ok F → HeldBy s → Ex s l z → HeldBy z ∧ z.p = s.p ∧ ∀ e ∈ l, From s.p e := by
  induction l with
  | nil => intro s z _ h hx; rw [show z = s from hx]; exact ⟨h, rfl, fun e he => by cases he⟩
  | cons e l ih =>
    rintro s z ok h ⟨s1, h1, h2⟩
    have h3 := next_from ok h (step_next h1).1
    obtain ⟨i, hi, _, _, h6⟩ := St.step_ok0 h1
    have ok1 := ok.step_ok e.thread
    rw [h1] at ok1
    have hh := held_do ok h hi
    rw [← h6] at hh
    obtain ⟨g1, g2, g3⟩ := ih ok1 hh h2
    have hp : s1.p = s.p := by rw [h6]; rfl
    rw [hp] at g2 g3
    refine ⟨g1, g2, fun f hf => ?_⟩
    rcases List.mem_cons.1 hf with rfl | hf
    · exact h3
    · exact g3 f hf
/-- Of such a program no event behind a row depends on another thread's in it. -/
theorem share_next {F : Nat} {p : Pg} (hp : ShareNo p) (ok : (St.new p F).Ok F) {l : List Ev} {z : St} (hx : Ex (St.new p F) l z) {u : Int} {f : Ev} (hn : z.next u = some f) : ∀ e ∈ l, e.thread ≠ f.thread → dep e f = false := by
  intro e he hne
  obtain ⟨g1, g2, g3⟩ := ex_from ok (held_new p F) hx
  have h1 := next_from (hx.ok ok) g1 hn
  rw [g2] at h1
  exact from_apart hp (g3 e he) h1 hne
/-- Nor two threads' next ones on one another. -/
theorem share_two {F : Nat} {p : Pg} (hp : ShareNo p) (ok : (St.new p F).Ok F) {l : List Ev} {z : St} (hx : Ex (St.new p F) l z) {t u : Int} {e f : Ev} (he : z.next t = some e) (hf : z.next u = some f) (hne : t ≠ u) : dep e f = false := by
  obtain ⟨g1, g2, _⟩ := ex_from ok (held_new p F) hx
  have h1 := next_from (hx.ok ok) g1 he
  have h2 := next_from (hx.ok ok) g1 hf
  rw [g2] at h1 h2
  exact from_apart hp h1 h2 (by rw [next_thread he, next_thread hf]; exact hne)

end Go.Proofs.YtnldkmcijmbhcaaGreat

/- Whence marks come, plainly: from a node's own choice, or from a race; without races no node is gone into twice. -/
namespace Go.Proofs.YtnldkmcijmbhcaaGreat

theorem share_with {F : Nat} {p : Pg} (hp : ShareNo p) (ok : (St.new p F).Ok F) {l : List Ev} {z : St} (hx : Ex (St.new p F) l z) {u : Int} {f : Ev} (hn : z.next u = some f) : withL l f = [] := by
  rw [List.eq_nil_iff_forall_not_mem]
  intro i hi
  obtain ⟨h1, h2, h3, _⟩ := mem_withL.1 hi
  have hm : evI l i ∈ l := by
    unfold evI
    rw [getD_lt _ h1]
    exact List.getElem_mem h1
  rw [share_next hp ok hx hn _ hm h2] at h3
  cases h3

/-- Each mark is a node's own choice, or some race's. -/
def MarkBy (s0 : St) (T : List Nd) (M C : List Ev → Int → Prop) : Prop :=
  ∀ n ∈ T, ∀ t, M n.row t → C n.row t ∨ ∃ b ∈ T, ∃ z u f i, Ex s0 b.row z ∧ z.next u = some f ∧ i ∈ withL b.row f ∧ b.row.take i = n.row
theorem nodup_one {g : List Int} (hn : g.Nodup) (h : ∀ a ∈ g, ∀ b ∈ g, a = b) : g.length ≤ 1 := by
  match g, hn, h with
  | [], _, _ => exact Nat.zero_le _
  | [x], _, _ => exact Nat.le_refl _
  | x :: y :: g, hn, h =>
    have e := h x (by simp) y (by simp)
    subst e
    simp at hn
theorem share_line {F : Nat} {p : Pg} (hp : ShareNo p) (ok : (St.new p F).Ok F) {T : List Nd} {M C : List Ev → Int → Prop} (h : TreeOk (St.new p F) T) (hb : MarkBy (St.new p F) T M C) (hg : ∀ n ∈ T, ∀ t ∈ n.g, M n.row t) (hc : ∀ r t t', C r t → C r t' → t = t') : ∀ n ∈ T, n.g.length ≤ 1 := by
  intro n hn
  have hC : ∀ t ∈ n.g, C n.row t := by
    intro t ht
    rcases hb n hn t (hg n hn t ht) with h1 | ⟨b, _, z, u, f, i, hx, hnx, hi, _⟩
    · exact h1
    · rw [share_with hp ok hx hnx] at hi
      cases hi
  exact nodup_one (h.once n hn) fun a ha b hb => hc _ _ _ (hC a ha) (hC b hb)
theorem filter_one {T : List Nd} (hn : T.Nodup) (P : Nd → Bool) (h1 : ∃ n ∈ T, P n = true) (h2 : ∀ a ∈ T, ∀ b ∈ T, P a = true → P b = true → a = b) : (T.filter P).length = 1 := by
  obtain ⟨n, hnT, hP⟩ := h1
  have hm : n ∈ T.filter P := List.mem_filter.2 ⟨hnT, hP⟩
  have hnd := hn.filter P
  match hf : T.filter P, hm, hnd with
  | [], hm, _ => cases hm
  | [x], _, _ => rfl
  | x :: y :: l, _, hnd =>
    have hx : x ∈ T.filter P := by rw [hf]; simp
    have hy : y ∈ T.filter P := by rw [hf]; simp
    obtain ⟨a1, a2⟩ := List.mem_filter.1 hx
    obtain ⟨b1, b2⟩ := List.mem_filter.1 hy
    have := h2 x a1 y b1 a2 b2
    rw [this] at hnd
    simp at hnd

end Go.Proofs.YtnldkmcijmbhcaaGreat
