import Derived.Maps.AppendAt
import Derived.BigQuiet
import Derived.Test.YtnldkmcijmbhcaaGreatPk01
import Derived.Test.YtnldkmcijmbhcaaGreatPk04
import Derived.Test.YtnldkmcijmbhcaaGreatPk06
import Derived.Test.YtnldkmcijmbhcaaGreatPk07
import Derived.Test.YtnldkmcijmbhcaaGreatPk08

/- One worker's exploration keeps the tree's rules: its nodes are a tree, its marks are the races'. -/
namespace Go.Proofs.YtnldkmcijmbhcaaGreat

theorem all_mem {s : St} {t : Int} : t ∈ s.all ↔ s.may t = true := by
  constructor
  · intro h
    unfold St.all at h
    exact (List.mem_filter.1 h).2
  · intro h
    obtain ⟨e, he⟩ := may_next h
    obtain ⟨s1, hs⟩ := next_step he h
    exact mem_all hs
theorem next_small {F : Nat} {s : St} (ok : s.Ok F) {t : Int} {e : Ev} (h : s.next t = some e) : 0 ≤ t ∧ t < s.ts.length ∧ s.ts.length ≤ 4 := by
  unfold St.next at h
  obtain ⟨i, hi, _⟩ := Option.map_eq_some_iff.1 h
  obtain ⟨hh, _, _⟩ := St.ins_has hi
  unfold St.has at hh
  exact ⟨hh.1, hh.2, ok.len4⟩
theorem has_ofN {l : List Int} {t : Int} (h : 0 ≤ t ∧ t < 8) : hasB (ofN l) t = true ↔ t ∈ l := by
  obtain ⟨i, rfl⟩ : ∃ i : Nat, t = i := ⟨t.toNat, by omega⟩
  have hi : i < 8 := by omega
  rw [hasB_nat _ hi, testBit_ofN _ hi, decide_eq_true_eq]
theorem has_small {n : Nat} {t : Int} (h : hasB n t = true) : 0 ≤ t ∧ t < 8 := by
  unfold hasB at h
  rw [Bool.and_eq_true, decide_eq_true_eq] at h
  exact h.1
theorem has_wt {n : Nat} {t u : Int} (h : 0 ≤ t ∧ t < 8) : hasB (wt n t) u = true ↔ hasB n u = true ∨ u = t := by
  by_cases hu : 0 ≤ u ∧ u < 8
  · obtain ⟨i, rfl⟩ : ∃ i : Nat, u = i := ⟨u.toNat, by omega⟩
    have hi : i < 8 := by omega
    rw [hasB_nat _ hi, hasB_nat _ hi, testBit_wt hi, Bool.or_eq_true, decide_eq_true_eq]
    exact ⟨fun h => h.imp_right Eq.symm, fun h => h.imp_right Eq.symm⟩
  · constructor
    · intro h; exact absurd (has_small h) hu
    · rintro (h | h)
      · exact absurd (has_small h) hu
      · rw [h] at hu; exact absurd ‹_› hu
theorem has_childN {s : St} {a g : Nat} {t : Int} {e : Ev} (he : s.next t = some e) (u : Int) : hasB (childN s.next a g t) u = true ↔ u ≠ t ∧ (hasB a u = true ∨ hasB g u = true) ∧ ∃ f, s.next u = some f ∧ dep f e = false := by
  by_cases hu : 0 ≤ u ∧ u < 8
  · obtain ⟨i, rfl⟩ : ∃ i : Nat, u = i := ⟨u.toNat, by omega⟩
    have hi : i < 8 := by omega
    rw [hasB_nat _ hi, hasB_nat _ hi, hasB_nat _ hi, testBit_childN _ _ _ _ hi]
    have := childB_iff (s := s) (asl := a) (ear := g) (t := t) (u := i)
    unfold childB at this
    rw [this]
    constructor
    · rintro ⟨e', x, h1, h2, h3, h4, h5⟩
      rw [he] at h1
      injection h1 with h1
      subst h1
      exact ⟨h3, by rwa [Bool.or_eq_true] at h4, x, h2, h5⟩
    · rintro ⟨h3, h4, x, h2, h5⟩
      exact ⟨e, x, he, h2, h3, by rwa [Bool.or_eq_true], h5⟩
  · constructor
    · intro h; exact absurd (has_small h) hu
    · rintro ⟨_, h | h, _⟩ <;> exact absurd (has_small h) hu
theorem mem_left {n : PN} {t : Int} : t ∈ n.left ↔ hasB n.go t = true ∧ hasB n.gone t = false ∧ hasB n.z t = false := by
  unfold PN.left
  rw [List.mem_filter]
  have h1 : t ∈ ints (bitsL n.go) ↔ hasB n.go t = true := by rw [← mem_has, decide_eq_true_eq]
  rw [h1]
  simp
theorem mem_awake {n : PN} {t : Int} : t ∈ n.awake ↔ n.st.may t = true ∧ hasB n.z t = false := by
  unfold PN.awake
  rw [List.mem_filter, all_mem]
  simp
theorem pick_mem (o : List Int) (c : Nat) {l : List Int} (h : l ≠ []) : pick o c l ∈ l := by
  have hp : 0 < l.length := List.length_pos_iff.2 h
  unfold pick
  split
  · rw [getD_lt _ hp]; exact List.getElem_mem _
  · have : (if c < o.length then (o.getD c 0).toNat % l.length else 0) < l.length := by
      split
      · exact Nat.mod_lt _ hp
      · exact hp
    rw [getD_lt _ this]
    exact List.getElem_mem _

/-- Where nodes were marked. -/
def mk1 (n : PN) : PN := { n with go := ofN n.st.all }
theorem markAll_at (rs : List (Nat × Int)) : ∀ (path : List PN) (i : Nat), i < path.length → (∀ r ∈ rs, r.1 < path.length) → (markAll path rs).getD i pn0 = if i ∈ rs.map Prod.fst then mk1 (path.getD i pn0) else path.getD i pn0 := by
  induction rs with
  | nil => intro path i _ _; rfl
  | cons r rs ih =>
    intro path i hi hr
    have hr0 := hr r (by simp)
    show (markAll (markOne path r.1) rs).getD i pn0 = _
    rw [ih (markOne path r.1) i (by rw [markOne_len]; exact hi) (fun r' h' => by rw [markOne_len]; exact hr r' (List.mem_cons_of_mem _ h'))]
    have h1 : (markOne path r.1).getD i pn0 = if i = r.1 then mk1 (path.getD i pn0) else path.getD i pn0 := by
      unfold markOne
      rw [getD_set _ _ _ _ _ hr0]
      split
      · rename_i e; subst e; rfl
      · rfl
    rw [h1, List.map_cons]
    by_cases e : i = r.1
    · rw [if_pos e, if_pos (show i ∈ r.1 :: rs.map Prod.fst by rw [e]; simp)]
      split <;> rfl
    · rw [if_neg e]
      by_cases e2 : i ∈ rs.map Prod.fst
      · rw [if_pos e2, if_pos (List.mem_cons_of_mem _ e2)]
      · rw [if_neg e2, if_neg (by rw [List.mem_cons]; exact fun h => h.elim e e2)]
theorem racesX_lt {x : Xp} {s : St} : ∀ r ∈ racesX x s, r.1 < x.row.length := by
  intro r hr
  unfold racesX at hr
  obtain ⟨k, _, _, f, _, hi⟩ := mem_racesN.1 (show (r.1, r.2) ∈ _ from hr)
  exact (mem_withL.1 hi).1

/-- Where all sleep who may. -/
def blkT (s0 : St) (T : List Nd) : List Nd := T.filter fun n => decide ((doneSt s0 n.row).all ≠ []) && (doneSt s0 n.row).all.all n.z
theorem ends_grow (s0 : St) (T : List Nd) (r : List Ev) (t : Int) (x : Nd) : endsT s0 (growT T r t x) = (endsT s0 T).map (updG r t) ++ (if (doneSt s0 x.row).all = [] then [x] else []) := by
  unfold endsT growT
  rw [List.filter_append, List.filter_map]
  have h : ((fun n : Nd => decide ((doneSt s0 n.row).all = [])) ∘ updG r t) = fun n : Nd => decide ((doneSt s0 n.row).all = []) := by
    funext n
    show decide ((doneSt s0 (updG r t n).row).all = []) = _
    rw [updG_row]
  rw [h]
  congr 1
  by_cases h : (doneSt s0 x.row).all = []
  · rw [if_pos h, List.filter_cons_of_pos (by simpa using h)]; rfl
  · rw [if_neg h, List.filter_cons_of_neg (by simpa using h)]; rfl
theorem keys_grow (s0 : St) (T : List Nd) (r : List Ev) (t : Int) (x : Nd) : keysT s0 (growT T r t x) = keysT s0 T ++ (if (doneSt s0 x.row).all = [] then [keyB x.row] else []) := by
  unfold keysT
  rw [ends_grow, List.map_append, List.map_map]
  have h : ((fun n : Nd => keyB n.row) ∘ updG r t) = fun n : Nd => keyB n.row := by
    funext n
    show keyB (updG r t n).row = _
    rw [updG_row]
  rw [h]
  congr 1
  split <;> rfl
theorem blk_grow (s0 : St) (T : List Nd) (r : List Ev) (t : Int) (x : Nd) : (blkT s0 (growT T r t x)).length = (blkT s0 T).length + (if (doneSt s0 x.row).all ≠ [] ∧ (doneSt s0 x.row).all.all x.z = true then 1 else 0) := by
  unfold blkT growT
  rw [List.filter_append, List.filter_map, List.length_append, List.length_map]
  have h : ((fun n : Nd => decide ((doneSt s0 n.row).all ≠ []) && (doneSt s0 n.row).all.all n.z) ∘ updG r t) = fun n : Nd => decide ((doneSt s0 n.row).all ≠ []) && (doneSt s0 n.row).all.all n.z := by
    funext n
    show (decide ((doneSt s0 (updG r t n).row).all ≠ []) && (doneSt s0 (updG r t n).row).all.all (updG r t n).z) = _
    rw [updG_row, updG_z]
  rw [h]
  congr 1
  by_cases h : (doneSt s0 x.row).all ≠ [] ∧ (doneSt s0 x.row).all.all x.z = true
  · rw [if_pos h, List.filter_cons_of_pos (by rw [Bool.and_eq_true, decide_eq_true_eq]; exact h)]; rfl
  · rw [if_neg h, List.filter_cons_of_neg (by rw [Bool.and_eq_true, decide_eq_true_eq]; exact h)]; rfl

/-- A node of the path, as the tree has it. -/
def AtX (s0 : St) (T : List Nd) (M : List Ev → Int → Prop) (r : List Ev) (n : PN) : Prop :=
  ∃ m ∈ T, m.row = r ∧ Ex s0 r n.st ∧ n.z < 256 ∧ n.go < 256 ∧ n.gone < 256 ∧ (∀ t, m.z t = hasB n.z t) ∧ (∀ t, t ∈ m.g ↔ hasB n.gone t = true) ∧ ∀ t, M r t ↔ hasB n.go t = true
structure InvX (s0 : St) (x : Xp) (T : List Nd) (M C : List Ev → Int → Prop) : Prop where
  ok : TreeOk s0 T
  marks : MarkOk s0 T M
  by_ : MarkBy s0 T M C
  one : ∀ r t t', C r t → C r t' → t = t'
  cT : ∀ r t, C r t → ∃ n ∈ T, n.row = r
  mT : ∀ r t, M r t → ∃ n ∈ T, n.row = r
  plen : x.path.length = x.row.length + 1
  at_ : ∀ i, i < x.path.length → AtX s0 T M (x.row.take i) (x.path.getD i pn0)
  off : ∀ n ∈ T, (∀ i, i ≤ x.row.length → n.row ≠ x.row.take i) → ∀ t, M n.row t → t ∈ n.g ∨ n.z t = true
  gm : ∀ n ∈ T, ∀ t ∈ n.g, M n.row t
  may : ∀ n ∈ T, ∀ z t, Ex s0 n.row z → M n.row t → z.may t = true
  nodes : x.nodes = T.length
  runs : x.runs = (endsT s0 T).length
  keys : x.keys = keysT s0 T
  blk : x.blocked = (blkT s0 T).length

/-- Ahead of a node's making: its row is there, and its state. -/
structure PreX (s0 : St) (x : Xp) (s : St) (z : Nat) (T : List Nd) (M C : List Ev → Int → Prop) : Prop where
  ok : TreeOk s0 T
  new : ∃ n ∈ T, n.row = x.row ∧ n.g = [] ∧ (∀ t, n.z t = hasB z t)
  st : Ex s0 x.row s
  z8 : z < 256
  race : ∀ b ∈ T, b.row ≠ x.row → ∀ z u f i, Ex s0 b.row z → z.next u = some f → i ∈ withL b.row f → ∀ t y, Ex s0 (b.row.take i) y → y.may t = true → M (b.row.take i) t
  any : ∀ n ∈ T, n.row ≠ x.row → ∀ z t, Ex s0 n.row z → z.may t = true → n.z t = false → ∃ t', z.may t' = true ∧ n.z t' = false ∧ M n.row t'
  by_ : ∀ n ∈ T, ∀ t, M n.row t → C n.row t ∨ ∃ b ∈ T, ∃ z u f i, Ex s0 b.row z ∧ z.next u = some f ∧ i ∈ withL b.row f ∧ b.row.take i = n.row
  one : ∀ r t t', C r t → C r t' → t = t'
  cT : ∀ r t, C r t → r ≠ x.row ∧ ∃ n ∈ T, n.row = r
  mT : ∀ r t, M r t → r ≠ x.row ∧ ∃ n ∈ T, n.row = r
  plen : x.path.length = x.row.length
  at_ : ∀ i, i < x.path.length → AtX s0 T M (x.row.take i) (x.path.getD i pn0)
  off : ∀ n ∈ T, (∀ i, i ≤ x.row.length → n.row ≠ x.row.take i) → ∀ t, M n.row t → t ∈ n.g ∨ n.z t = true
  gm : ∀ n ∈ T, ∀ t ∈ n.g, M n.row t
  may : ∀ n ∈ T, ∀ z t, Ex s0 n.row z → M n.row t → z.may t = true
  nodes : x.nodes + 1 = T.length
  runs : x.runs + (if s.all = [] then 1 else 0) = (endsT s0 T).length
  keys : x.keys ++ (if s.all = [] then [keyB x.row] else []) = keysT s0 T
  blk : x.blocked + (if s.all ≠ [] ∧ s.all.all (hasB z) = true then 1 else 0) = (blkT s0 T).length

theorem take_eq_take {r : List Ev} {i j : Nat} (hi : i ≤ r.length) (hj : j ≤ r.length) (h : r.take i = r.take j) : i = j := by
  have := congrArg List.length h
  rw [List.length_take, List.length_take] at this
  omega
section
variable {F : Nat} {s0 : St} {x : Xp} {T : List Nd} {M C : List Ev → Int → Prop}

theorem PreX.make (ok0 : s0.Ok F) {s : St} {z : Nat} (h : PreX s0 x s z T M C) : ∃ M' C', InvX s0 (makeX x s z) T M' C' := by
  obtain ⟨nd, hnd, hndr, hndg, hndz⟩ := h.new
  have oks : s.Ok F := h.st.ok ok0
  -- who is marked now
  let A : List Int := (PN.awake ⟨s, z, 0, 0⟩)
  let p : Int := pick x.order x.choices A
  let C' : List Ev → Int → Prop := fun r t => C r t ∨ (r = x.row ∧ A ≠ [] ∧ t = p)
  let M' : List Ev → Int → Prop := fun r t => M r t ∨ (∃ q ∈ racesX x s, r = x.row.take q.1 ∧ ∃ y, Ex s0 r y ∧ y.may t = true) ∨ (r = x.row ∧ A ≠ [] ∧ t = p)
  have hap : A ≠ [] → s.may p = true ∧ hasB z p = false := fun hA => mem_awake.1 (pick_mem x.order x.choices hA)
  have hmayM : ∀ n ∈ T, ∀ y t, Ex s0 n.row y → M' n.row t → y.may t = true := by
    rintro n hn y t hy (h1 | ⟨q, _, _, w, hw, hm⟩ | ⟨hr, hA, rfl⟩)
    · exact h.may n hn y t hy h1
    · rw [ex_det hy hw]; exact hm
    · rw [hr] at hy
      rw [ex_det hy h.st]
      exact (hap hA).1
  have hrow : ∀ q ∈ racesX x s, ∃ m ∈ T, m.row = x.row.take q.1 := by
    intro q hq
    have hl := racesX_lt q hq
    obtain ⟨m, hm, hmr, _⟩ := h.at_ q.1 (by rw [h.plen]; exact hl)
    exact ⟨m, hm, hmr⟩
  have hmk : MarkOk s0 T M' := by
    refine ⟨?_, ?_⟩
    · intro b hb y u f i hy hn hi t w hw hm
      by_cases hbr : b.row = x.row
      · rw [hbr] at hy hi hw ⊢
        rw [ex_det hy h.st] at hn
        obtain ⟨u0, u1, u2⟩ := next_small oks hn
        refine .inr (.inl ⟨(i, u), ?_, rfl, w, hw, hm⟩)
        exact mem_racesN.2 ⟨u.toNat, by omega, by omega, f, hn, hi⟩
      · exact .inl (h.race b hb hbr y u f i hy hn hi t w hw hm)
    · intro n hn y t hy hm hz
      by_cases hnr : n.row = x.row
      · have e := h.ok.uniq hn hnd (hnr.trans hndr.symm)
        subst e
        rw [hnr] at hy ⊢
        rw [ex_det hy h.st] at hm ⊢
        have hA : A ≠ [] := List.ne_nil_of_mem (mem_awake.2 ⟨hm, by rw [← hndz]; exact hz⟩)
        exact ⟨p, (hap hA).1, by rw [hndz]; exact (hap hA).2, .inr (.inr ⟨rfl, hA, rfl⟩)⟩
      · obtain ⟨t', h1, h2, h3⟩ := h.any n hn hnr y t hy hm hz
        exact ⟨t', h1, h2, .inl h3⟩
  have hby : MarkBy s0 T M' C' := by
    rintro n hn t (h1 | ⟨q, hq, hr, w, hw, hm⟩ | h1)
    · rcases h.by_ n hn t h1 with h2 | h2
      · exact .inl (.inl h2)
      · exact .inr h2
    · obtain ⟨k, hk, hu, f, hf, hi⟩ := mem_racesN.1 (show (q.1, q.2) ∈ _ from hq)
      exact .inr ⟨nd, hnd, s, q.2, f, q.1, by rw [hndr]; exact h.st, hf, by rw [hndr]; exact hi, by rw [hndr, hr]⟩
    · exact .inl (.inr h1)
  have hone : ∀ r t t', C' r t → C' r t' → t = t' := by
    rintro r t t' (h1 | ⟨h1, _, rfl⟩) (h2 | ⟨h2, _, rfl⟩)
    · exact h.one r t t' h1 h2
    · exact absurd h2 (h.cT r t h1).1
    · exact absurd h1 (h.cT r t' h2).1
    · rfl
  have hcT : ∀ r t, C' r t → ∃ n ∈ T, n.row = r := by
    rintro r t (h1 | ⟨h1, _, _⟩)
    · exact (h.cT r t h1).2
    · exact ⟨nd, hnd, hndr.trans h1.symm⟩
  have hmT : ∀ r t, M' r t → ∃ n ∈ T, n.row = r := by
    rintro r t (h1 | ⟨q, hq, hr, _⟩ | ⟨h1, _, _⟩)
    · exact (h.mT r t h1).2
    · rw [hr]; exact hrow q hq
    · exact ⟨nd, hnd, hndr.trans h1.symm⟩
  have hoff : ∀ n ∈ T, (∀ i, i ≤ x.row.length → n.row ≠ x.row.take i) → ∀ t, M' n.row t → t ∈ n.g ∨ n.z t = true := by
    rintro n hn hi t (h1 | ⟨q, hq, hr, _⟩ | ⟨h1, _, _⟩)
    · exact h.off n hn hi t h1
    · exact absurd hr (hi q.1 (Nat.le_of_lt (racesX_lt q hq)))
    · exact absurd (h1.trans (List.take_length (l := x.row)).symm) (hi _ (Nat.le_refl _))
  have hgm : ∀ n ∈ T, ∀ t ∈ n.g, M' n.row t := fun n hn t ht => .inl (h.gm n hn t ht)
  -- the nodes of the path
  have hat : ∀ g : Nat, g < 256 → (∀ t, hasB g t = true ↔ A ≠ [] ∧ t = p) → ∀ i, i < (markAll x.path (racesX x s) ++ [(⟨s, z, g, 0⟩ : PN)]).length → AtX s0 T M' (x.row.take i) ((markAll x.path (racesX x s) ++ [(⟨s, z, g, 0⟩ : PN)]).getD i pn0) := by
    intro g hg hgt i hi
    rw [List.length_append, markAll_len, List.length_singleton] at hi
    by_cases hil : i < x.path.length
    · have hil' : i < x.row.length := by rw [← h.plen]; exact hil
      have e1 : (markAll x.path (racesX x s) ++ [(⟨s, z, g, 0⟩ : PN)]).getD i pn0 = (markAll x.path (racesX x s)).getD i pn0 := by
        rw [List.getD_eq_getElem?_getD, List.getD_eq_getElem?_getD, List.getElem?_append_left (by rw [markAll_len]; exact hil)]
      rw [e1, markAll_at _ _ _ hil (fun r hr => by rw [h.plen]; exact racesX_lt r hr)]
      obtain ⟨m, hm, hmr, hmx, b1, b2, b3, hmz, hmg, hmM⟩ := h.at_ i hil
      have hne : x.row.take i ≠ x.row := by
        intro e
        have := congrArg List.length e
        rw [List.length_take] at this
        omega
      have okm : (x.path.getD i pn0).st.Ok F := hmx.ok ok0
      split
      · rename_i hmem
        refine ⟨m, hm, hmr, hmx, b1, ofN_lt _, b3, hmz, hmg, fun t => ?_⟩
        show M' _ t ↔ hasB (ofN (x.path.getD i pn0).st.all) t = true
        obtain ⟨q, hq, hqi⟩ := List.mem_map.1 hmem
        constructor
        · intro hM
          have hmt := hmayM m hm _ t (by rw [hmr]; exact hmx) (by rw [hmr]; exact hM)
          have := all_mem.2 hmt
          exact (has_ofN (all_small okm t this)).2 this
        · intro hB
          have := (has_ofN (has_small hB)).1 hB
          exact .inr (.inl ⟨q, hq, by rw [hqi], _, hmx, all_mem.1 this⟩)
      · rename_i hmem
        refine ⟨m, hm, hmr, hmx, b1, b2, b3, hmz, hmg, fun t => ?_⟩
        rw [← hmM t]
        constructor
        · rintro (h1 | ⟨q, hq, hr, _⟩ | ⟨h1, _, _⟩)
          · exact h1
          · exfalso
            have := take_eq_take (by omega) (Nat.le_of_lt (racesX_lt q hq)) hr
            exact hmem (List.mem_map.2 ⟨q, hq, this.symm⟩)
          · exact absurd h1 hne
        · exact .inl
    · have e0 : i = x.path.length := by omega
      subst e0
      have e1 : (markAll x.path (racesX x s) ++ [(⟨s, z, g, 0⟩ : PN)]).getD x.path.length pn0 = ⟨s, z, g, 0⟩ := by
        rw [List.getD_eq_getElem?_getD, List.getElem?_append_right (by rw [markAll_len]; exact Nat.le_refl _), markAll_len, Nat.sub_self]
        rfl
      rw [e1, h.plen, List.take_length]
      refine ⟨nd, hnd, hndr, h.st, h.z8, hg, by show 0 < 256; omega, hndz, fun t => ?_, fun t => ?_⟩
      · rw [hndg]
        constructor
        · intro h; cases h
        · intro h
          exfalso
          have h2 := has_small h
          obtain ⟨k, rfl⟩ : ∃ k : Nat, t = k := ⟨t.toNat, by omega⟩
          rw [hasB_nat _ (by omega)] at h
          rw [Nat.zero_testBit] at h
          cases h
      · rw [hgt t]
        constructor
        · rintro (h1 | ⟨q, hq, hr, _⟩ | ⟨_, h1, h2⟩)
          · exact absurd rfl (h.mT _ t h1).1
          · exfalso
            have h1 := congrArg List.length hr
            have := racesX_lt q hq
            rw [List.length_take] at h1
            omega
          · exact ⟨h1, h2⟩
        · rintro ⟨h1, h2⟩
          exact .inr (.inr ⟨rfl, h1, h2⟩)
  have hzero : ∀ t, hasB 0 t = false := by
    intro t
    unfold hasB
    rw [Nat.zero_testBit, Bool.and_false]
  have hplen : ∀ n : PN, (markAll x.path (racesX x s) ++ [n]).length = x.row.length + 1 := fun n => by rw [List.length_append, markAll_len, h.plen, List.length_singleton]
  refine ⟨M', C', ?_⟩
  by_cases hA : A = []
  · have hgt : ∀ t, hasB 0 t = true ↔ A ≠ [] ∧ t = p := fun t => by rw [hzero]; exact ⟨fun h => absurd h Bool.false_ne_true, fun h => absurd hA h.1⟩
    have hall : s.all.all (hasB z) = true := by
      rw [List.all_eq_true]
      intro t ht
      cases hz : hasB z t
      · have : t ∈ A := mem_awake.2 ⟨all_mem.1 ht, hz⟩
        rw [hA] at this
        cases this
      · rfl
    by_cases hs : s.all = []
    · have hb : blockedB s.all z = false := by unfold blockedB; rw [hs]; rfl
      have e : makeX x s z = { x with nodes := x.nodes + 1, path := markAll x.path (racesX x s) ++ [⟨s, z, 0, 0⟩], runs := x.runs + 1, keys := x.keys ++ [keyB x.row] } := by
        unfold makeX
        dsimp only
        rw [if_neg (by simpa using hA), if_neg (by rw [hb]; exact Bool.false_ne_true)]
      have h1 := h.runs
      have h2 := h.keys
      have h3 := h.blk
      rw [if_pos hs] at h1 h2
      rw [if_neg (fun hh => hh.1 hs)] at h3
      rw [e]
      exact ⟨h.ok, hmk, hby, hone, hcT, hmT, hplen _, hat 0 (by omega) hgt, hoff, hgm, hmayM, h.nodes, h1, h2, h3⟩
    · have hb : blockedB s.all z = true := by
        unfold blockedB
        rw [hall, Bool.and_true]
        cases hsa : s.all with
        | nil => exact absurd hsa hs
        | cons a l => rfl
      have e : makeX x s z = { x with nodes := x.nodes + 1, path := markAll x.path (racesX x s) ++ [⟨s, z, 0, 0⟩], blocked := x.blocked + 1 } := by
        unfold makeX
        dsimp only
        rw [if_neg (by simpa using hA), if_pos hb]
      have h1 := h.runs
      have h2 := h.keys
      have h3 := h.blk
      rw [if_neg hs] at h1 h2
      rw [if_pos ⟨hs, hall⟩] at h3
      rw [List.append_nil] at h2
      rw [e]
      exact ⟨h.ok, hmk, hby, hone, hcT, hmT, hplen _, hat 0 (by omega) hgt, hoff, hgm, hmayM, h.nodes, h1, h2, h3⟩
  · have hp := hap hA
    have hps := all_small oks p (all_mem.2 hp.1)
    have hgt : ∀ t, hasB (ofN [p]) t = true ↔ A ≠ [] ∧ t = p := fun t => by
      constructor
      · intro h
        exact ⟨hA, List.mem_singleton.1 ((has_ofN (has_small h)).1 h)⟩
      · rintro ⟨_, rfl⟩
        exact (has_ofN hps).2 (by simp)
    have e : makeX x s z = { x with nodes := x.nodes + 1, path := markAll x.path (racesX x s) ++ [⟨s, z, ofN [p], 0⟩], choices := picked x.choices A } := by
      unfold makeX
      dsimp only
      rw [if_pos (show (PN.awake ⟨s, z, 0, 0⟩) ≠ [] from hA)]
    have hs : s.all ≠ [] := List.ne_nil_of_mem (all_mem.2 hp.1)
    have hnall : ¬ (s.all.all (hasB z) = true) := by
      rw [List.all_eq_true]
      intro hh
      have := hh p (all_mem.2 hp.1)
      rw [hp.2] at this
      cases this
    have h1 := h.runs
    have h2 := h.keys
    have h3 := h.blk
    rw [if_neg hs] at h1 h2
    rw [if_neg (fun hh => hnall hh.2)] at h3
    rw [List.append_nil] at h2
    rw [e]
    exact ⟨h.ok, hmk, hby, hone, hcT, hmT, hplen _, hat _ (ofN_lt _) hgt, hoff, hgm, hmayM, h.nodes, h1, h2, h3⟩

/-- What comes back to a node ahead of which nothing is left. -/
theorem InvX.cut (h : InvX s0 x T M C) {k : Nat} (hk : k < x.path.length) (hl : ∀ i, k < i → i < x.path.length → (x.path.getD i pn0).left = []) : InvX s0 { x with path := x.path.take (k + 1), row := x.row.take k } T M C := by
  have hpl := h.plen
  refine ⟨h.ok, h.marks, h.by_, h.one, h.cT, h.mT, ?_, ?_, ?_, h.gm, h.may, h.nodes, h.runs, h.keys, h.blk⟩
  · show (x.path.take (k + 1)).length = (x.row.take k).length + 1
    rw [List.length_take, List.length_take]
    omega
  · intro i hi
    have hi' : i < k + 1 := by
      have : i < (x.path.take (k + 1)).length := hi
      rw [List.length_take] at this
      omega
    show AtX s0 T M ((x.row.take k).take i) ((x.path.take (k + 1)).getD i pn0)
    rw [List.take_take, Nat.min_eq_left (by omega), getD_take _ hi']
    exact h.at_ i (by omega)
  · intro n hn hne t hM
    by_cases hex : ∃ j, j ≤ x.row.length ∧ n.row = x.row.take j
    · obtain ⟨j, hj, hjr⟩ := hex
      have hkj : k < j := by
        apply Classical.byContradiction
        intro hle
        have : n.row ≠ (x.row.take k).take j := hne j (by show j ≤ (x.row.take k).length; rw [List.length_take]; omega)
        rw [List.take_take, Nat.min_eq_left (by omega)] at this
        exact this hjr
      obtain ⟨m, hm, hmr, _, _, _, _, hmz, hmg, hmM⟩ := h.at_ j (by omega)
      obtain rfl := h.ok.uniq hn hm (hjr.trans hmr.symm)
      rw [hjr, hmM] at hM
      have hl' := hl j hkj (by omega)
      rw [hmg, hmz]
      apply Classical.byContradiction
      intro hno
      rw [not_or] at hno
      have : t ∈ (x.path.getD j pn0).left := mem_left.2 ⟨hM, by simpa using hno.1, by simpa using hno.2⟩
      rw [hl'] at this
      cases this
    · exact h.off n hn (fun i hi e => hex ⟨i, hi, e⟩) t hM
theorem InvX.back (h : InvX s0 x T M C) : InvX s0 (backX x) T M C := by
  unfold backX
  cases hl : lastLeft x.path x.path.length with
  | some k =>
    obtain ⟨h1, _, h3⟩ := lastLeft_lt hl
    exact h.cut h1 h3
  | none =>
    have h1 := lastLeft_none hl
    exact h.cut (k := 0) (by rw [h.plen]; omega) fun i _ hi => h1 i hi
/-- Behind going back the last node is one where somebody is left. -/
theorem back_last (ha : anyX x = true) : (lastX (backX x)).left ≠ [] := by
  unfold anyX at ha
  obtain ⟨k, hk⟩ := Option.isSome_iff_exists.1 ha
  obtain ⟨h1, h2, _⟩ := lastLeft_lt hk
  have e : backX x = { x with path := x.path.take (k + 1), row := x.row.take k } := by unfold backX; rw [hk]
  rw [e]
  unfold lastX
  show ((x.path.take (k + 1)).getD ((x.path.take (k + 1)).length - 1) pn0).left ≠ []
  rw [List.length_take, Nat.min_eq_left (by omega), Nat.add_sub_cancel, getD_take _ (by omega)]
  exact h2
theorem InvX.closed (h : InvX s0 x T M C) (ha : anyX x = false) : ∀ n ∈ T, ∀ t, M n.row t → t ∈ n.g ∨ n.z t = true := by
  unfold anyX at ha
  have hl := lastLeft_none (Option.isNone_iff_eq_none.1 (by simpa using ha))
  intro n hn t hM
  by_cases hex : ∃ j, j ≤ x.row.length ∧ n.row = x.row.take j
  · obtain ⟨j, hj, hjr⟩ := hex
    have hpl := h.plen
    obtain ⟨m, hm, hmr, _, _, _, _, hmz, hmg, hmM⟩ := h.at_ j (by omega)
    obtain rfl := h.ok.uniq hn hm (hjr.trans hmr.symm)
    rw [hjr, hmM] at hM
    have hl' := hl j (by omega)
    rw [hmg, hmz]
    apply Classical.byContradiction
    intro hno
    rw [not_or] at hno
    have : t ∈ (x.path.getD j pn0).left := mem_left.2 ⟨hM, by simpa using hno.1, by simpa using hno.2⟩
    rw [hl'] at this
    cases this
  · exact h.off n hn (fun i hi e => hex ⟨i, hi, e⟩) t hM
theorem InvX.done (h : InvX s0 x T M C) (ha : anyX x = false) : TreeDone s0 T := h.marks.done (h.closed ha)

theorem InvX.last (h : InvX s0 x T M C) : AtX s0 T M x.row (lastX x) := by
  have hpl := h.plen
  have := h.at_ (x.path.length - 1) (by omega)
  rw [show x.path.length - 1 = x.row.length by omega, List.take_length] at this
  unfold lastX
  rw [show x.path.length - 1 = x.row.length by omega]
  exact this
/-- One node more. -/
theorem InvX.go (ok0 : s0.Ok F) (h : InvX s0 x T M C) (hl : (lastX x).left ≠ []) : ∃ T' M' C', InvX s0 (goX x) T' M' C' := by
  have hpl := h.plen
  have hnd : x.path.length - 1 = x.row.length := by omega
  obtain ⟨m, hm, hmr, hmx, b1, b2, b3, hmz, hmg, hmM⟩ := h.last
  generalize hn : lastX x = n at *
  have ht := pick_mem x.order x.choices hl
  generalize hp : pick x.order x.choices n.left = t at *
  obtain ⟨t1, t2, t3⟩ := mem_left.1 ht
  have okn : n.st.Ok F := hmx.ok ok0
  have hmay : n.st.may t = true := h.may m hm n.st t (by rw [hmr]; exact hmx) (by rw [hmr]; exact (hmM t).2 t1)
  obtain ⟨e, he⟩ := may_next hmay
  obtain ⟨s1, hs⟩ := next_step he hmay
  have het : e.thread = t := (step_next hs).2.2
  have ht8 := has_small t1
  have htg : t ∉ m.g := by rw [hmg, t2]; exact Bool.false_ne_true
  have hchild := has_childN (s := n.st) (a := n.z) (g := n.gone) he
  let nd : Nd := ⟨x.row ++ [e], hasB (childN n.st.next n.z n.gone t), []⟩
  have hgrow : TreeOk s0 (growT T x.row t nd) := by
    have := h.ok.grow hm htg (by rw [hmz, t3]) (z := n.st) (z1 := s1) (e := e) (by rw [hmr]; exact hmx) hs (x := nd) (by rw [hmr]) rfl fun u => by
      show hasB (childN n.st.next n.z n.gone t) u = true ↔ _
      rw [hchild u, hmz, hmg]
    rwa [hmr] at this
  have hfresh : ∀ b ∈ T, b.row ≠ x.row ++ [e] := by
    intro b hb hbr
    obtain ⟨a, ha, har, hag⟩ := h.ok.par b hb _ _ hbr
    obtain rfl := h.ok.uniq hm ha (hmr.trans har.symm)
    rw [het] at hag
    exact htg hag
  have hx1 : Ex s0 (x.row ++ [e]) s1 := ex_append.2 ⟨n.st, hmx, s1, by rw [het]; exact hs, rfl⟩
  have hds : doneSt s0 (x.row ++ [e]) = s1 := (ex_done hx1).symm
  have hold : ∀ b ∈ growT T x.row t nd, b.row ≠ x.row ++ [e] → ∃ a ∈ T, b = updG x.row t a := by
    intro b hb hne
    rcases mem_growT.1 hb with h1 | rfl
    · exact h1
    · exact absurd rfl hne
  have hpre : PreX s0 { x with choices := picked x.choices n.left, path := x.path.set (x.path.length - 1) { n with gone := wt n.gone t }, row := x.row ++ [(n.st.step t).2.1] } (n.st.step t).2.2 (childN n.st.next n.z n.gone t) (growT T x.row t nd) M C := by
    rw [hs]
    dsimp only
    refine ⟨hgrow, ⟨nd, mem_growT.2 (.inr rfl), rfl, rfl, fun _ => rfl⟩, hx1, childN_lt _ _ _ _, ?_, ?_, ?_, h.one, ?_, ?_, ?_, ?_, ?_, ?_, ?_, ?_, ?_, ?_, ?_⟩
    · intro b hb hne
      obtain ⟨a, ha, rfl⟩ := hold b hb hne
      rw [updG_row]
      exact h.marks.race a ha
    · intro b hb hne
      obtain ⟨a, ha, rfl⟩ := hold b hb hne
      rw [updG_row, updG_z]
      exact h.marks.any a ha
    · intro b hb u hM
      have hmem : ∃ a ∈ T, a.row = b.row := h.mT _ _ hM
      obtain ⟨a, ha, har⟩ := hmem
      rw [← har] at hM ⊢
      rcases h.by_ a ha u hM with h1 | ⟨c, hc, z, u', f, i, g1, g2, g3, g4⟩
      · exact .inl h1
      · exact .inr ⟨_, mem_growT.2 (.inl ⟨c, hc, rfl⟩), z, u', f, i, by rw [updG_row]; exact g1, g2, by rw [updG_row]; exact g3, by rw [updG_row]; exact g4⟩
    · intro r u hC
      obtain ⟨a, ha, har⟩ := h.cT r u hC
      exact ⟨by rw [← har]; exact hfresh a ha, _, mem_growT.2 (.inl ⟨a, ha, rfl⟩), by rw [updG_row]; exact har⟩
    · intro r u hM
      obtain ⟨a, ha, har⟩ := h.mT r u hM
      exact ⟨by rw [← har]; exact hfresh a ha, _, mem_growT.2 (.inl ⟨a, ha, rfl⟩), by rw [updG_row]; exact har⟩
    · show (x.path.set _ _).length = (x.row ++ [e]).length
      rw [List.length_set, List.length_append, List.length_singleton, hpl]
    · intro i hi
      have hi' : i < x.path.length := by
        have : i < (x.path.set (x.path.length - 1) { n with gone := wt n.gone t }).length := hi
        rwa [List.length_set] at this
      show AtX s0 (growT T x.row t nd) M ((x.row ++ [e]).take i) ((x.path.set (x.path.length - 1) { n with gone := wt n.gone t }).getD i pn0)
      rw [getD_set _ _ _ _ _ (by omega), List.take_append_of_le_length (by omega)]
      obtain ⟨a, ha, har, hax, c1, c2, c3, haz, hag, haM⟩ := h.at_ i hi'
      split
      · rename_i e0
        have hir : x.row.take i = x.row := by rw [e0, hnd, List.take_length]
        rw [hir]
        refine ⟨updG x.row t m, mem_growT.2 (.inl ⟨m, hm, rfl⟩), by rw [updG_row]; exact hmr, hmx, b1, b2, wt_lt b3 t, fun u => by rw [updG_z]; exact hmz u, fun u => ?_, hmM⟩
        show u ∈ _ ↔ hasB (wt n.gone t) u = true
        rw [updG_g, if_pos hmr, List.mem_append, List.mem_singleton, has_wt ht8, hmg]
      · rename_i e0
        refine ⟨updG x.row t a, mem_growT.2 (.inl ⟨a, ha, rfl⟩), by rw [updG_row]; exact har, hax, c1, c2, c3, fun u => by rw [updG_z]; exact haz u, fun u => ?_, haM⟩
        rw [updG_g, if_neg (by
          rw [har]
          intro e1
          have := congrArg List.length e1
          rw [List.length_take] at this
          omega)]
        exact hag u
    · intro b hb hne u hM
      have hbr : b.row ≠ x.row ++ [e] := by
        have := hne (x.row ++ [e]).length (Nat.le_refl _)
        rwa [List.take_length] at this
      obtain ⟨a, ha, rfl⟩ := hold b hb hbr
      rw [updG_row] at hM hne
      have hne' : ∀ i, i ≤ x.row.length → a.row ≠ x.row.take i := by
        intro i hi
        have := hne i (by show i ≤ (x.row ++ [e]).length; rw [List.length_append]; omega)
        rwa [List.take_append_of_le_length hi] at this
      have har : a.row ≠ x.row := by
        have := hne' x.row.length (Nat.le_refl _)
        rwa [List.take_length] at this
      rw [updG_z, updG_g, if_neg har]
      exact h.off a ha hne' u hM
    · intro b hb u hu
      rcases mem_growT.1 hb with ⟨a, ha, rfl⟩ | rfl
      · rw [updG_row]
        rw [updG_g] at hu
        split at hu
        · rename_i har
          rcases List.mem_append.1 hu with hu | hu
          · exact h.gm a ha u hu
          · rw [List.mem_singleton.1 hu, har]
            exact (hmM t).2 t1
        · exact h.gm a ha u hu
      · cases hu
    · intro b hb y u hy hM
      obtain ⟨a, ha, har⟩ := h.mT _ _ hM
      rw [← har] at hy hM
      exact h.may a ha y u hy hM
    · show x.nodes + 1 = _
      rw [growT_len, h.nodes]
    · show x.runs + _ = _
      rw [ends_grow, hds, h.runs, List.length_append, List.length_map]
      split <;> rfl
    · show x.keys ++ _ = _
      rw [keys_grow, hds, h.keys]
    · show x.blocked + _ = _
      rw [blk_grow, hds, h.blk]
  obtain ⟨M', C', hI⟩ := hpre.make ok0
  refine ⟨growT T x.row t nd, M', C', ?_⟩
  have e : goX x = makeX { x with choices := picked x.choices n.left, path := x.path.set (x.path.length - 1) { n with gone := wt n.gone t }, row := x.row ++ [(n.st.step t).2.1] } (n.st.step t).2.2 (childN n.st.next n.z n.gone t) := by
    unfold goX
    rw [hn]
    dsimp only
    rw [hp]
  rw [e]
  exact hI

theorem first_inv (ok0 : s0.Ok F) (order : List Int) : ∃ T M C, InvX s0 (firstX s0 order) T M C := by
  have hroot := tree_root s0
  have hds : doneSt s0 [] = s0 := rfl
  have hz0 : ∀ t, hasB 0 t = false := by
    intro t
    unfold hasB
    rw [Nat.zero_testBit, Bool.and_false]
  have hpre : PreX s0 ⟨[], [], order, 0, [], 0, 0, 0⟩ s0 0 [⟨[], fun _ => false, []⟩] (fun _ _ => False) (fun _ _ => False) := by
    refine ⟨hroot, ⟨_, List.mem_singleton.2 rfl, rfl, rfl, fun t => (hz0 t).symm⟩, rfl, by omega, ?_, ?_, ?_, ?_, ?_, ?_, rfl, ?_, ?_, ?_, ?_, rfl, ?_, ?_, ?_⟩
    · intro b hb hne
      rw [List.mem_singleton.1 hb] at hne
      exact absurd rfl hne
    · intro b hb hne
      rw [List.mem_singleton.1 hb] at hne
      exact absurd rfl hne
    · intro _ _ _ h; exact h.elim
    · intro _ _ _ h; exact h.elim
    · intro _ _ h; exact h.elim
    · intro _ _ h; exact h.elim
    · intro i hi; cases hi
    · intro _ _ _ _ h; exact h.elim
    · intro b hb t ht
      rw [List.mem_singleton.1 hb] at ht
      cases ht
    · intro _ _ _ _ _ h; exact h.elim
    · show 0 + _ = _
      unfold endsT
      by_cases h : s0.all = []
      · rw [if_pos h, List.filter_cons_of_pos (by simpa [hds] using h)]; rfl
      · rw [if_neg h, List.filter_cons_of_neg (by simpa [hds] using h)]; rfl
    · show [] ++ _ = _
      unfold keysT endsT
      by_cases h : s0.all = []
      · rw [if_pos h, List.filter_cons_of_pos (by simpa [hds] using h)]; rfl
      · rw [if_neg h, List.filter_cons_of_neg (by simpa [hds] using h)]; rfl
    · show 0 + _ = _
      unfold blkT
      by_cases h : s0.all ≠ [] ∧ s0.all.all (hasB 0) = true
      · exfalso
        obtain ⟨t, ht⟩ := List.exists_mem_of_ne_nil _ h.1
        have := List.all_eq_true.1 h.2 t ht
        rw [hz0] at this
        cases this
      · rw [if_neg h, List.filter_cons_of_neg (by
          rw [Bool.and_eq_true, decide_eq_true_eq]
          rintro ⟨h1, h2⟩
          obtain ⟨t, ht⟩ := List.exists_mem_of_ne_nil _ h1
          have := List.all_eq_true.1 h2 t ht
          cases this)]
        rfl
  obtain ⟨M', C', h⟩ := hpre.make ok0
  exact ⟨_, M', C', h⟩
theorem it_inv (ok0 : s0.Ok F) (n : Nat) : ∀ {x : Xp} {T : List Nd} {M C : List Ev → Int → Prop}, InvX s0 x T M C → ∃ T' M' C', InvX s0 (itX n x) T' M' C' := by
  induction n with
  | zero => intro x T M C h; exact ⟨T, M, C, h.back⟩
  | succ n ih =>
    intro x T M C h
    unfold itX
    split
    · rename_i ha
      obtain ⟨T1, M1, C1, h1⟩ := h.back.go ok0 (back_last ha)
      exact ih h1
    · exact ⟨T, M, C, h.back⟩
theorem end_inv (ok0 : s0.Ok F) (order : List Int) (budget : Int) : ∃ T M C, InvX s0 (endX s0 order budget) T M C := by
  obtain ⟨T, M, C, h⟩ := first_inv ok0 order
  exact it_inv ok0 _ h
end

end Go.Proofs.YtnldkmcijmbhcaaGreat

/- A node's making but for its place on the path; boxes of nodes. -/
namespace Go.Proofs.YtnldkmcijmbhcaaGreat
open Go.RowKit

def markX (x : Xp) (s : St) : Xp := { x with nodes := x.nodes + 1, path := markAll x.path (racesX x s) }
def halfX (x : Xp) (s : St) (z : Nat) : Xp := { makeX x s z with path := markAll x.path (racesX x s) }
def newN (x : Xp) (s : St) (z : Nat) : PN := if (PN.awake ⟨s, z, 0, 0⟩) ≠ [] then ⟨s, z, ofN [pick x.order x.choices (PN.awake ⟨s, z, 0, 0⟩)], 0⟩ else ⟨s, z, 0, 0⟩
theorem make_half (x : Xp) (s : St) (z : Nat) : makeX x s z = { halfX x s z with path := (halfX x s z).path ++ [newN x s z] } := by
  unfold halfX newN makeX
  dsimp only
  split
  · rfl
  · split <;> rfl
theorem half_awake {x : Xp} {s : St} {z : Nat} (h : (PN.awake ⟨s, z, 0, 0⟩) ≠ []) : halfX x s z = { markX x s with choices := picked x.choices (PN.awake ⟨s, z, 0, 0⟩) } ∧ newN x s z = ⟨s, z, ofN [pick x.order x.choices (PN.awake ⟨s, z, 0, 0⟩)], 0⟩ := by
  unfold halfX newN makeX markX
  dsimp only
  rw [if_pos h, if_pos h]
  exact ⟨rfl, rfl⟩
theorem half_blocked {x : Xp} {s : St} {z : Nat} (h : (PN.awake ⟨s, z, 0, 0⟩) = []) (hb : blockedB s.all z = true) : halfX x s z = { markX x s with blocked := x.blocked + 1 } ∧ newN x s z = ⟨s, z, 0, 0⟩ := by
  unfold halfX newN makeX markX
  dsimp only
  rw [if_neg (by rw [h]; simp), if_pos hb, if_neg (by rw [h]; simp)]
  exact ⟨rfl, rfl⟩
theorem half_end {x : Xp} {s : St} {z : Nat} (h : (PN.awake ⟨s, z, 0, 0⟩) = []) (hb : blockedB s.all z = false) : halfX x s z = { markX x s with runs := x.runs + 1, keys := x.keys ++ [keyB x.row] } ∧ newN x s z = ⟨s, z, 0, 0⟩ := by
  unfold halfX newN makeX markX
  dsimp only
  rw [if_neg (by rw [h]; simp), if_neg (by rw [hb]; exact Bool.false_ne_true), if_neg (by rw [h]; simp)]
  exact ⟨rfl, rfl⟩

/-- A node in a box of its own. -/
def BoxAt (w : World) (nb sb : Nat) (n : PN) : Prop := w.heap[nb]? = some (.cells #[.pointer (some ⟨sb, 0, none⟩), .int .u8 (n.z : Nat), .int .u8 (n.go : Nat), .int .u8 (n.gone : Nat)] 101 (0, 0))
theorem BoxAt.lt {w : World} {nb sb : Nat} {n : PN} (h : BoxAt w nb sb n) : nb < w.heap.size := (Array.getElem?_eq_some_iff.1 h).1
theorem BoxAt.later {w w' : World} {nb sb : Nat} {n : PN} (h : BoxAt w nb sb n) (hb : Below w.heap.size w w') : BoxAt w' nb sb n := (hb.block nb h.lt).trans h
theorem BoxAt.cells {w : World} {nb sb : Nat} {n : PN} (h : BoxAt w nb sb n) : w.cell? ⟨nb, 0, none⟩ = some (.pointer (some ⟨sb, 0, none⟩)) ∧ w.cell? ⟨nb, 1, none⟩ = some (.int .u8 (n.z : Nat)) ∧ w.cell? ⟨nb, 2, none⟩ = some (.int .u8 (n.go : Nat)) ∧ w.cell? ⟨nb, 3, none⟩ = some (.int .u8 (n.gone : Nat)) := by
  refine ⟨?_, ?_, ?_, ?_⟩ <;> (rw [cell_of_row w nb _ _ _ _ h]; rfl)
theorem BoxAt.node {w : World} {nb sb : Nat} {n : PN} (h : BoxAt w nb sb n) : NodeAt w nb 0 sb n := ⟨h.cells.1, h.cells.2.1, h.cells.2.2.1, h.cells.2.2.2⟩
theorem BoxAt.frozen {w : World} {nb sb : Nat} {n : PN} (h : BoxAt w nb sb n) (j : Nat) : w.frozen? ⟨nb, j, none⟩ = false := by simp [World.frozen?, show w.heap[nb]? = _ from h]
theorem BoxAt.new (w : World) (sb : Nat) (n : PN) : BoxAt (w.alloc (.cells #[.pointer (some ⟨sb, 0, none⟩), .int .u8 (n.z : Nat), .int .u8 (n.go : Nat), .int .u8 (n.gone : Nat)] 101)) w.heap.size sb n := heap_alloc_new w _
theorem BoxAt.setGo {w : World} {nb sb : Nat} {n : PN} (h : BoxAt w nb sb n) (g : Nat) : BoxAt (w.setCell ⟨nb, 2, none⟩ (.int .u8 (g : Nat))) nb sb { n with go := g } := heap_setCell_same w nb 2 _ _ _ h

section
variable {w w' : World} {B xb oc nb sb : Nat} {pv rv kv : Value} {oa : Option Addr} {ps : List (Nat × PN)} {x : Xp} {n : PN}
/-- A store into the box leaves the worker as it was. -/
theorem XM.box (h : XM w B xb pv rv kv oa oc ps x) (hB : B ≤ w.heap.size) (hn : BoxAt w nb sb n) (hb : B ≤ nb) (hp : pv.ownBlock ≠ some nb) (j : Nat) (v : Value) : XM (w.setCell ⟨nb, j, none⟩ v) B xb pv rv kv oa oc ps x := by
  have hg := grown_set w nb j v
  have ht : Ty w B (some nb) 101 := by
    intro r hr
    injection hr with hr
    subst hr
    exact ⟨hb, _, hn⟩
  refine ⟨h.low, (hg.block xb h.lt fun e => ?_).trans h.blk, h.eq, World.ownsRow.kept h.path hg (.inr hp), own_keptT h.row hg ht (Ne.symm tyPnEv), own_keptT h.keys hg ht (Ne.symm tyPnSt), bytes_below h.ord h.ordB (below_keptT hg ht hB), h.ordB, fun q hq => st_keptT (h.sts q hq) hg ht tyPnSS⟩
  injection e with e
  subst e
  rw [show BoxAt w xb sb n ↔ _ from Iff.rfl, BoxAt, h.blk] at hn
  injection hn with hn
  injection hn with _ h2
  exact tyPnEx h2.symm
theorem BoxAt.only (h : BoxAt w nb sb n) (ho : Only xb w w') (hne : nb ≠ xb) : BoxAt w' nb sb n := (ho.block nb h.lt hne).trans h
theorem BoxAt.setX (h : BoxAt w nb sb n) (hne : nb ≠ xb) (j : Nat) (v : Value) : BoxAt (w.setCell ⟨xb, j, none⟩ v) nb sb n := h.only ((Only.refl xb w).setCell j v) hne
theorem StAt.onlyX {s : St} (h : StAt w sb s) (ho : Only xb w w') (hne : sb ≠ xb) : StAt w' sb s := (ho.block sb h.lt hne).trans h
theorem XM.ne_st {s : St} (h : XM w B xb pv rv kv oa oc ps x) (hs : StAt w sb s) : sb ≠ xb := by
  rintro rfl
  rw [StAt, h.blk] at hs
  injection hs with hs
  injection hs with _ h2
  exact tyExSS h2
theorem BoxAt.ne_st {b : Nat} {s : St} (h : BoxAt w nb sb n) (hs : StAt w b s) : b ≠ nb := by
  rintro rfl
  rw [StAt, show w.heap[b]? = _ from h] at hs
  injection hs with hs
  injection hs with _ h2
  exact tyPnSS h2
theorem XM.own_lt (h : XM w B xb pv rv kv oa oc ps x) : ∀ k, pv.ownBlock = some k → k < w.heap.size := fun k hk => (World.ownsRow.lt h.path k hk).2
end

end Go.Proofs.YtnldkmcijmbhcaaGreat

/- The contract of choose. -/
namespace Go.Proofs.YtnldkmcijmbhcaaGreat
open Go.RowKit

theorem pick_one {o : List Int} {c : Nat} {l : List Int} (h : l.length = 1) : pick o c l = l.getD 0 0 ∧ picked c l = c := by
  unfold pick picked
  rw [if_pos h, if_pos h]
  exact ⟨rfl, rfl⟩
theorem pick_more {o : List Int} {c : Nat} {l : List Int} (h : l.length ≠ 1) : picked c l = c + 1 ∧ (c < o.length → pick o c l = l.getD ((o.getD c 0).toNat % l.length) 0) ∧ (¬ c < o.length → pick o c l = l.getD 0 0) := by
  unfold pick picked
  rw [if_neg h, if_neg h]
  exact ⟨rfl, fun hc => by rw [if_pos hc], fun hc => by rw [if_neg hc]⟩

set_option maxRecDepth 100000 in
set_option maxHeartbeats 4000000 in
theorem choose_any {w : World} {B xb oc A cap : Nat} {pv rv kv : Value} {oa a : Option Addr} {ps : List (Nat × PN)} {x : Xp} {l : List Int} (h : XM w B xb pv rv kv oa oc ps x) (hB : B ≤ w.heap.size) (hl : OwnN w A (.slice a l.length cap) l) (hne : l ≠ []) (hm : l.length ≤ 1000) (hc : x.choices ≤ 1000000) (_ho : x.order.length ≤ 1000) (hbs : ∀ n ∈ x.order, 0 ≤ n ∧ n < 256) :
    Calls Tryz.prog 39 #[.pointer (some ⟨xb, 0, none⟩), .slice a l.length cap] w fun r w' => r = .returned (.int .i64 (pick x.order x.choices l)) ∧ XM w' B xb pv rv kv oa oc ps { x with choices := picked x.choices l } ∧ Only xb w w' := by
  obtain ⟨g, cap', e, hAg, hgw⟩ := hl.block hne
  injection e with e1 _ e2
  subst e1 e2
  have hpos : 0 < l.length := List.length_pos_iff.2 hne
  have hcell : ∀ k, k < l.length → w.cell? ⟨g, k, none⟩ = some (.int .i64 (l.getD k 0)) := fun k hk => (ownN_cell hl hk).1
  have hgx : g ≠ xb := by
    rintro rfl
    obtain ⟨_, cs, hcs⟩ := own_ty hl g rfl
    rw [h.blk] at hcs
    injection hcs with hcs
    injection hcs with _ h2
    exact absurd h2 (by decide)
  by_cases h1 : l.length = 1
  · obtain ⟨p1, p2⟩ := pick_one (o := x.order) (c := x.choices) h1
    have c0 := hcell 0 (by omega)
    have hq : ((l.length : Int) == 1) = true := by simp [h1]
    have HP := Lib.hid p1
    have HX : Hid (XM w B xb pv rv kv oa oc ps { x with choices := picked x.choices l }) := by rw [p2]; exact h
    clear h hl hne hcell hbs p1 p2 h1
    generalize l.getD 0 0 = y at *
    go_enter Tryz.func39, Tryz.ntmps39
    go_wp2
    go_ret
    exact ⟨by rw [HP.out]; rfl, HX.out, Only.refl _ _⟩
  · obtain ⟨p1, p2, p3⟩ := pick_more (o := x.order) (c := x.choices) h1
    have hq : ((l.length : Int) == 1) = false := by simp; omega
    obtain ⟨_, _, x2, x3, _⟩ := h.cells
    have f3 := h.frozen 3
    have HX : Hid (∀ q, XM ((w.drewN q).setCell ⟨xb, 3, none⟩ (.int .i64 ((x.choices : Int) + 1))) B xb pv rv kv oa oc ps { x with choices := picked x.choices l }) := fun q => by
      rw [p1]
      have := (show XM (w.drewN q) B xb pv rv kv oa oc ps x from ⟨h.low, h.blk, h.eq, h.path, h.row, h.keys, h.ord, h.ordB, h.sts⟩).setChoices hB (x.choices + 1)
      exact this
    have HO : Hid (∀ q, Only xb w ((w.drewN q).setCell ⟨xb, 3, none⟩ (.int .i64 ((x.choices : Int) + 1)))) := fun q => (show Only xb w (w.drewN q) from ⟨rfl, rfl, rfl, Nat.le_refl _, fun _ _ _ => rfl⟩).setCell 3 _
    have HC : Hid (∀ q k, k < l.length → ((w.drewN q).setCell ⟨xb, 3, none⟩ (.int .i64 ((x.choices : Int) + 1))).cell? ⟨g, k, none⟩ = some (.int .i64 (l.getD k 0))) := fun q k hk => by
      rw [World.cell?_of_block (w := w.drewN q) (a := ⟨g, k, none⟩) (Below.heap_setCell _ _ _ _ hgx)]
      exact hcell k hk
    by_cases hlt : x.choices < x.order.length
    · have HP := Lib.hid (p2 hlt)
      obtain ⟨ob, oo, rfl, hoc⟩ := h.ord.2 (by intro e; simp [e] at hlt)
      have hc1 := hoc x.choices hlt
      obtain ⟨v0, v1⟩ := hbs _ (List.getElem_mem hlt)
      have hm1 : (x.order.getD x.choices 0).toNat % l.length < l.length := Nat.mod_lt _ hpos
      have hgd : x.order.getD x.choices 0 = x.order[x.choices] := getD_lt _ hlt
      have hrm : (x.order[x.choices]).tmod (l.length : Int) = (((x.order.getD x.choices 0).toNat % l.length : Nat) : Int) := by
        rw [hgd]
        generalize x.order[x.choices] = z at *
        obtain ⟨k, rfl⟩ : ∃ k : Nat, z = k := ⟨z.toNat, by omega⟩
        rw [Int.toNat_natCast]
        rfl
      have HCK : Hid (∀ q, ((w.drewN q).setCell ⟨xb, 3, none⟩ (.int .i64 ((x.choices : Int) + 1))).cell? ⟨g, (x.order.getD x.choices 0).toNat % l.length, none⟩ = some (.int .i64 (l.getD ((x.order.getD x.choices 0).toNat % l.length) 0))) := fun q => HC.out q _ hm1
      clear h hl hne hcell hbs p1 p2 p3 h1 hoc hgd HC
      generalize (x.order.getD x.choices 0).toNat % l.length = m at *
      generalize l.getD m 0 = y at *
      generalize x.order[x.choices] = z at *
      generalize x.order.length = on at *
      generalize x.choices = ch at *
      go_enter Tryz.func39, Tryz.ntmps39
      go_wp2_with fail
      go_quiet (fail)
      generalize nq = q1 at *
      go_wp2_with fail
      go_quiet (fail)
      have hck := HCK.out (q1 + nq)
      go_wp2
      go_ret
      exact ⟨by rw [HP.out]; rfl, HX.out _, HO.out _⟩
    · have HP := Lib.hid (p3 hlt)
      have HCK : Hid (∀ q, ((w.drewN q).setCell ⟨xb, 3, none⟩ (.int .i64 ((x.choices : Int) + 1))).cell? ⟨g, 0, none⟩ = some (.int .i64 (l.getD 0 0))) := fun q => HC.out q 0 hpos
      clear h hl hne hcell hbs p1 p2 p3 h1 HC
      generalize l.getD 0 0 = y at *
      generalize x.order.length = on at *
      generalize x.choices = ch at *
      go_enter Tryz.func39, Tryz.ntmps39
      go_wp2_with fail
      go_quiet (fail)
      have hck := HCK.out nq
      go_wp2
      go_ret
      exact ⟨by rw [HP.out]; rfl, HX.out _, HO.out _⟩

end Go.Proofs.YtnldkmcijmbhcaaGreat

/- Where a row of one's own lies, or that it is empty; a step leaves rows of other types alone. -/
namespace Go.Proofs.YtnldkmcijmbhcaaGreat
open Go.RowKit

theorem OwnE.form2 {w : World} {B : Nat} {v : Value} {es : List Ev} (h : OwnE w B v es) (hm : es.length ≤ 1000000) : ∃ a cap, v = .slice a es.length cap ∧ EvsAt w a es ∧ (a = none → cap = 0 ∧ es = []) := by
  obtain ⟨a, cap, e, he⟩ := h.form hm
  refine ⟨a, cap, e, he, fun ha => ?_⟩
  subst ha
  obtain ⟨h1, ⟨h2, h3⟩ | ⟨g, cap', cur, h2, _⟩⟩ := h
  · rw [e] at h2
    injection h2 with _ _ h4
    exact ⟨h4, List.eq_nil_of_length_eq_zero h3⟩
  · rw [e] at h2
    injection h2 with h4
    cases h4
theorem OwnRow.form2 {T : Type} {f : T → List Value} {n : Nat} {w : World} {B : Nat} {t : TypeId} {v : Value} {l : List T} (h : OwnRow w B t n f v l) (hf : ∀ x, (f x).length = n) (hm : l.length ≤ 1000000) : ∃ a cap, v = .slice a l.length cap ∧ RowAt w a n f l ∧ l.length ≤ cap ∧ ((a = none ∧ cap = 0 ∧ l = []) ∨ ∃ g, a = some ⟨g, 0, none⟩) := by
  obtain ⟨a, cap, e, he, h0⟩ := h.form hf hm
  obtain ⟨h1, ⟨h2, h3⟩ | ⟨g, cap', cur, h2, h3, h4, h5, h6, h7, h8⟩⟩ := h
  · rw [e] at h2
    injection h2 with h4 _ h5
    exact ⟨a, cap, e, he, by omega, .inl ⟨h4, h5, List.eq_nil_of_length_eq_zero h3⟩⟩
  · rw [e] at h2
    injection h2 with h4' _ h5'
    subst h5'
    exact ⟨a, cap, e, he, by omega, .inr ⟨g, h4'⟩⟩
theorem OwnE.at_ {w : World} {B n cap : Nat} {a : Option Addr} {es : List Ev} (h : OwnE w B (.slice a n cap) es) (hm : es.length ≤ 1000000 := by omega) : EvsAt w a es := by
  obtain ⟨a', cap', e, he⟩ := h.form hm
  injection e with e
  subst e
  exact he

end Go.Proofs.YtnldkmcijmbhcaaGreat

/- The contract of goBack. -/
namespace Go.Proofs.YtnldkmcijmbhcaaGreat
open Go.RowKit

/-- What is left of the worker when it has come back to a node. -/
def cutX (x : Xp) (k : Nat) : Xp := { x with path := x.path.take (k + 1), row := x.row.take k }
theorem cut_some {x : Xp} {k : Nat} (h : lastLeft x.path x.path.length = some k) : backX x = cutX x k ∧ anyX x = true := by
  unfold backX anyX
  rw [h]
  exact ⟨rfl, rfl⟩
theorem cut_none {x : Xp} (h : lastLeft x.path x.path.length = none) : backX x = cutX x 0 ∧ anyX x = false := by
  unfold backX anyX
  rw [h]
  exact ⟨rfl, rfl⟩
/-- What a call of the worker's answers, and leaves. -/
def ExR (B xb : Nat) (oa : Option Addr) (oc : Nat) (y : Xp) (w : World) : Prop := ∃ pv rv kv ps, XM w B xb pv rv kv oa oc ps y

set_option maxRecDepth 100000 in
set_option maxHeartbeats 8000000 in
theorem goBack_any {w : World} {B xb oc : Nat} {pv rv kv : Value} {oa : Option Addr} {ps : List (Nat × PN)} {x : Xp} (h : XM w B xb pv rv kv oa oc ps x) (hB : B ≤ w.heap.size) (hl : x.path.length ≤ 1000) (hr : x.row.length ≤ 1000)
    (hrow : x.path.length ≤ x.row.length + 1) (hrow2 : x.row.length ≤ x.path.length) (hbits : ∀ n ∈ x.path, n.z < 256 ∧ n.go < 256 ∧ n.gone < 256) :
    Calls Tryz.prog 22 #[.pointer (some ⟨xb, 0, none⟩)] w fun r w' => r = .returned (.bool (anyX x)) ∧ ExR B xb oa oc (backX x) w' ∧ Below B w w' := by
  have hpl : ps.length = x.path.length := by rw [← h.eq, List.length_map]
  obtain ⟨pa, pc, rfl, _, _⟩ := OwnRow.form2 h.path pnCell_len (by omega)
  obtain ⟨ra, rc, rfl, _, _⟩ := h.row.form2 (by omega)
  rw [hpl] at h
  have HSOME : Hid (∀ k, lastLeft x.path x.path.length = some k → backX x = cutX x k ∧ anyX x = true) := fun k hk => cut_some hk
  have HNONE : Hid (lastLeft x.path x.path.length = none → backX x = cutX x 0 ∧ anyX x = false) := fun hk => cut_none hk
  have HSTEP : Hid (∀ k, k < x.path.length → lastLeft x.path (k + 1) = if (x.path.getD k pn0).left ≠ [] then some k else lastLeft x.path k) := fun k _ => rfl
  have HZ : Hid (lastLeft x.path 0 = none) := rfl
  have HBITS : Hid (∀ k, k < x.path.length → (x.path.getD k pn0).z < 256 ∧ (x.path.getD k pn0).go < 256 ∧ (x.path.getD k pn0).gone < 256) := fun k hk => by
    rw [getD_lt _ hk]
    exact hbits _ (List.getElem_mem hk)
  have HXP : Hid (ps.map Prod.snd = x.path) := h.eq
  have HL : Hid (lastLeft x.path x.path.length = lastLeft x.path x.path.length) := rfl
  obtain ⟨x0, _⟩ := h.cells
  have hcut : cutX x x.path.length = { x with path := x.path, row := x.row } := by
    unfold cutX
    rw [List.take_of_length_le (by omega), List.take_of_length_le (by omega)]
  have HX0 : Hid (XM w B xb (.slice pa x.path.length pc) (.slice ra x.row.length rc) kv oa oc (ps.take (x.path.length + 1)) (cutX x x.path.length)) := by
    rw [hcut, List.take_of_length_le (by omega)]
    exact h
  have HN0 : Hid (x.path.length ≤ pc) := (ownRow_len h.path).2
  have HR0 : Hid (x.row.length ≤ rc) := (ownRow_len (f := evCell) (T := Ev) h.row).2
  have HPA : Hid (x.path.length ≠ 0 → ∃ g, pa = some ⟨g, 0, none⟩) := fun hn => by
    obtain ⟨g, cap, e, _⟩ := h.path.block (by intro e; rw [e] at hpl; simp at hpl; omega)
    injection e with e
    exact ⟨g, e⟩
  clear h hbits hpl hcut
  go_enter Tryz.func22, Tryz.ntmps22
  go_wp2
  go_loopw [3] (fun z wr => ∃ (i : Int) (k pn rn : Nat), k ≤ x.path.length ∧ pn ≤ pc ∧ rn ≤ rc ∧ k ≤ pn ∧ k ≤ rn + 1 ∧ (k : Int) ≤ i + 1 ∧ i + 1 ≤ k ∧ z = .int .i64 i ∧ Hid (lastLeft x.path x.path.length = lastLeft x.path k) ∧
    Hid (XM wr B xb (.slice pa pn pc) (.slice ra rn rc) kv oa oc (ps.take (k + 1)) (cutX x k)) ∧ Hid (Below B w wr)) (fun z _ => (intOf z + 1).toNat)
  case atStart => exact ⟨(x.path.length : Int) - 1, x.path.length, x.path.length, x.row.length, Nat.le_refl _, HN0.out, HR0.out, Nat.le_refl _, by omega, by omega, by omega, rfl, rfl, HX0, Below.refl _ _⟩
  case round =>
    obtain ⟨i, k, pn, rn, hk, hpn, hrn, hkp, hkr, hi1, hi2, rfl, HK, HX, HBW⟩ := hrel
    by_cases hk0 : k = 0
    · subst hk0
      obtain rfl : i = -1 := by omega
      have HE : Hid (backX x = cutX x 0 ∧ anyX x = false) := HNONE.out (HK.out.trans HZ.out)
      clear HK
      go_wp2
      go_ret
      exact ⟨by rw [HE.out.2]; rfl, ⟨_, _, _, _, by rw [HE.out.1]; exact HX.out⟩, HBW.out⟩
    · obtain ⟨m, rfl⟩ : ∃ m, k = m + 1 := ⟨k - 1, by omega⟩
      obtain rfl : i = m := by omega
      have hBw : B ≤ wr.heap.size := Nat.le_trans hB HBW.out.size
      obtain ⟨g, hg⟩ := HPA.out (by omega)
      subst hg
      obtain ⟨x0, x1, _⟩ := HX.out.cells
      have f0 := HX.out.frozen 0
      have hp1 : OwnRow wr B 101 4 pnCell (.slice (some ⟨g, 0, none⟩) (m + 1) pc) (ps.take (m + 1)) := by
        have := own_takeO pnCell_len HX.out.path (k := m + 1) hkp
        rwa [List.take_take, Nat.min_eq_left (by omega)] at this
      have HX1 : Hid (XM (wr.setCell ⟨xb, 0, none⟩ (.slice (some ⟨g, 0, none⟩) (m + 1) pc)) B xb (.slice (some ⟨g, 0, none⟩) (m + 1) pc) (.slice ra rn rc) kv oa oc (ps.take (m + 1)) { cutX x (m + 1) with path := (ps.take (m + 1)).map Prod.snd }) :=
        HX.out.setPath hBw hp1 fun q hq => HX.out.sts q (List.mem_of_mem_take (i := m + 1) (by rw [List.take_take, Nat.min_eq_left (by omega)]; exact hq))
      obtain ⟨_, y1, _⟩ := HX1.out.cells
      have f1 := HX1.out.frozen 1
      have hB1 : B ≤ (wr.setCell ⟨xb, 0, none⟩ (.slice (some ⟨g, 0, none⟩) (m + 1) pc)).heap.size := by simp [World.setCell]; exact hBw
      have hr1 := ownE_takeO HX1.out.row (k := m) (by omega)
      have HX2 : Hid (XM ((wr.setCell ⟨xb, 0, none⟩ (.slice (some ⟨g, 0, none⟩) (m + 1) pc)).setCell ⟨xb, 1, none⟩ (.slice ra m rc)) B xb (.slice (some ⟨g, 0, none⟩) (m + 1) pc) (.slice ra m rc) kv oa oc (ps.take (m + 1)) (cutX x m)) := by
        have := HX1.out.setRow hB1 hr1
        have e : { ({ cutX x (m + 1) with path := (ps.take (m + 1)).map Prod.snd } : Xp) with row := ({ cutX x (m + 1) with path := (ps.take (m + 1)).map Prod.snd } : Xp).row.take m } = cutX x m := by
          unfold cutX
          dsimp only
          rw [List.take_take, Nat.min_eq_left (by omega), List.map_take, HXP.out]
        rw [e] at this
        exact this
      have HB2 : Hid (Below B w ((wr.setCell ⟨xb, 0, none⟩ (.slice (some ⟨g, 0, none⟩) (m + 1) pc)).setCell ⟨xb, 1, none⟩ (.slice ra m rc))) := (HBW.out.setCell (p := ⟨xb, 0, none⟩) HX.out.low _).setCell (p := ⟨xb, 1, none⟩) HX.out.low _
      obtain ⟨z0, _⟩ := HX2.out.cells
      have hml : m < (ps.take (m + 1)).length := by
        have h1 := congrArg List.length HXP.out
        rw [List.length_map] at h1
        rw [List.length_take]
        omega
      have hnode := (HX2.out.node hml).1
      have hgd : (ps.take (m + 1))[m].2 = x.path.getD m pn0 := by
        have h1 : ((ps.take (m + 1)).map Prod.snd).getD m pn0 = (cutX x m).path.getD m pn0 := by rw [HX2.out.eq]
        rw [show (cutX x m).path = x.path.take (m + 1) from rfl, getD_take _ (by omega)] at h1
        rw [← h1, List.getD_eq_getElem?_getD, List.getElem?_map, List.getElem?_eq_getElem hml]
        rfl
      rw [hgd] at hnode
      obtain ⟨b1, b2, b3⟩ := HBITS.out m (by omega)
      have HLEFT := Lib.hid (left_any hnode b1 b2 b3)
      have hll : (x.path.getD m pn0).left.length ≤ 8 := by
        unfold PN.left
        refine Nat.le_trans (List.length_filter_le _ _) ?_
        rw [ints_len]
        exact bitsL_len _
      have HS := HSTEP.out m (by omega)
      have HY : Hid ((x.path.getD m pn0).left ≠ [] → backX x = cutX x m ∧ anyX x = true) := fun hne => HSOME.out m (by rw [HK.out, HS, if_pos hne])
      have HN : Hid ((x.path.getD m pn0).left = [] → lastLeft x.path x.path.length = lastLeft x.path m) := fun he => by rw [HK.out, HS, if_neg (by rw [he]; simp)]
      clear HK HX HX1 hp1 hr1 hnode hgd b1 b2 b3 HS hml
      generalize (x.path.getD m pn0).left = L at *
      generalize hW2 : ((wr.setCell ⟨xb, 0, none⟩ (.slice (some ⟨g, 0, none⟩) (m + 1) pc)).setCell ⟨xb, 1, none⟩ (.slice ra m rc)) = W2 at *
      go_wp2_with fail
      refine HLEFT.out.mono ?_
      rintro r w3 ⟨v, rfl, hv, hb3⟩
      obtain ⟨a3, c3, rfl, _, _⟩ := hv.form (by omega)
      have HX3 := Lib.hid (HX2.out.later hb3)
      have HB3 : Hid (Below B w w3) := HB2.out.trans (hb3.mono (Nat.le_trans hB HB2.out.size))
      clear HX2 HB2 hv hb3 HLEFT hW2
      by_cases hL : L = []
      · have HK := Lib.hid (HN.out hL)
        subst hL
        clear HY HN
        go_wp2
        go_roundw
        case rel => exact ⟨(m : Int) - 1, m, m + 1, m, by omega, by omega, by omega, by omega, by omega, by omega, by omega, rfl, HK, HX3, HB3⟩
        case measure => simp [intOf]
      · have HE := Lib.hid (HY.out hL)
        have hpos : 0 < L.length := List.length_pos_iff.2 hL
        clear HY HN hL
        go_wp2
        go_ret
        exact ⟨by rw [HE.out.2]; rfl, ⟨_, _, _, _, by rw [HE.out.1]; exact HX3.out⟩, HB3.out⟩

end Go.Proofs.YtnldkmcijmbhcaaGreat
