import Derived.Deep.RegionHeld3
import Derived.StillTail
import Derived.Deep.RegionLaw
import Derived.Laws.OwnMore
import Derived.BigQuiet
import Derived.Deep.QuietTactic
import Derived.WalkLawsBesides
import Derived.Lib.Hide
import Derived.Laws.Rows
import Derived.Laws.Tables
import Derived.Test.YtkjjbcgecnjniaaRows
import Derived.Test.YtkjjbcgecnjniaaPk01
import Derived.Test.YtkjjbcgecnjniaaPk02
import Derived.Test.YtkjjbcgecnjniaaPk03

/- A region whose order is drawn, and whose last operation waits for all others: walked with that one left out, then it. -/
namespace Go.Proofs.Ytkjjbcgecnjniaa
open Go

section
variable {P : Program} {ops : Array Oper} {Q : Exit → Act → World → Prop} {md : Region.Mode}

/-- An operation that does nothing, in another one's place. -/
def nopOf (o : Oper) : Oper := { o with op := .move (.const undef) }
def butLast (k : Nat) (o : Oper) (ops : Array Oper) : Array Oper := ops.setIfInBounds k (nopOf o)
def exitOr (Q : Exit → Act → World → Prop) (R : Act → World → Prop) : Exit → Act → World → Prop
  | .normal => R
  | e => Q e

theorem exitOr_normal {R : Act → World → Prop} {a : Act} {w : World} (h : R a w) : exitOr Q R .normal a w := h
theorem oper_wpQ {o : Oper} {a : Act} {w : World} {K : Act → World → Prop} {R : Act → World → Prop} (hh : o.wp P a w K (exitOr Q R)) : o.wp P a w K Q := by
  unfold Oper.wp at *
  generalize (execOp a.eval o).run P w = r at *
  cases r with
  | ok n w' =>
    cases n <;> simp only [Oper.upon] at hh ⊢ <;>
      first
        | exact hh
        | exact Calls.mono hh (fun e w'' he => by cases e <;> exact he)
  | halt x w' => cases x <;> simp only [Oper.upon] at hh ⊢ <;> exact hh
theorem but_get {k : Nat} {o : Oper} (ho : ops[k]? = some o) : (butLast k o ops)[k]? = some (nopOf o) := by
  have := (Array.getElem?_eq_some_iff.1 ho).1
  simp [butLast, this]
theorem but_other {k i : Nat} {o : Oper} (hi : i ≠ k) : (butLast k o ops)[i]? = ops[i]? := by
  simp [butLast, Ne.symm hi]
theorem but_size {k : Nat} {o : Oper} : (butLast k o ops).size = ops.size := by simp [butLast]
theorem but_map {k : Nat} {o : Oper} (ho : ops[k]? = some o) {T : Type} (f : Oper → T) (hf : f (nopOf o) = f o) (i : Nat) : ((butLast k o ops)[i]?).map f = (ops[i]?).map f := by
  by_cases e : i = k
  · subst e; rw [but_get ho, ho]; simp [hf]
  · rw [but_other e]
theorem but_ready {k : Nat} {o : Oper} (ho : ops[k]? = some o) (listed : Array Bool) : Region.ready md (butLast k o ops) listed = Region.ready md ops listed := by
  unfold Region.ready
  rw [but_size]
  apply List.filter_congr
  intro i _
  rw [but_map ho _ rfl]
theorem but_yielded {k : Nat} {o : Oper} (ho : ops[k]? = some o) (t : Array Value) : yielded (butLast k o ops) t = yielded ops t := by
  funext j
  unfold yielded
  have h := but_map (T := Option Tmp) ho (fun o => o.dst) rfl j
  have e : ∀ x : Option Oper, x.bind (fun o => o.dst) = (x.map fun o => o.dst).join := by intro x; cases x <;> rfl
  rw [e, e, h]
/-- The first one that has not come up may come up. -/
theorem ready_some (hac : ∀ (j : Nat) (oj : Oper), ops[j]? = some oj → ∀ e ∈ oj.after, e.on < j) (listed : Array Bool) (hs : listed.size = ops.size) : ∀ k, k < ops.size → listed.getD k true = false → Region.ready md ops listed ≠ [] := by
  intro k
  induction k using Nat.strongRecOn with
  | _ k ih =>
    intro hk hl
    by_cases h : ∀ e ∈ (ops[k]).after, Region.binds md e = true → listed.getD e.on false = true
    · intro h0
      have : k ∈ Region.ready md ops listed := mem_ready.2 ⟨hl, ops[k], by simp [hk], h⟩
      rw [h0] at this
      cases this
    · simp only [Classical.not_forall] at h
      obtain ⟨e, he, _, h3⟩ := h
      have h4 := hac k ops[k] (by simp [hk]) e he
      refine ih e.on h4 (by omega) ?_
      have h5 : e.on < listed.size := by omega
      simp [Array.getD, h5] at h3 ⊢
      exact h3
theorem ready_none (listed : Array Bool) (h : ∀ j, j < ops.size → listed.getD j true = true) : Region.ready md ops listed = [] := by
  cases h0 : Region.ready md ops listed with
  | nil => rfl
  | cons x xs =>
    have hx : x ∈ Region.ready md ops listed := by rw [h0]; exact List.mem_cons_self
    obtain ⟨h1, o, h2, _⟩ := mem_ready.1 hx
    rw [h x (Array.getElem?_eq_some_iff.1 h2).1] at h1
    cases h1
theorem listed_at {l : Array Bool} {j : Nat} {d : Bool} (hj : j < l.size) : l.getD j d = l[j] := by simp [Array.getD, hj]
theorem nop_wp {o : Oper} {a : Act} {w : World} {K : Act → World → Prop} (hd : o.dst = none) (h : (nopOf o).wp P a w K Q ∨ ((nopOf o).asks P a w ∧ LetsOut Q)) : K a w := by
  rcases h with h | ⟨h, _⟩
  · simp [nopOf, Oper.wp, execOp, Oper.upon, hd, Act.put] at h
    exact h
  · exfalso
    have h1 : noRoomEvent ∈ (#[] : Array Event) := h.1
    simp at h1
/-- Whatever has come up came behind what it waits for. -/
def Closed (md : Region.Mode) (ops : Array Oper) (listed : Array Bool) : Prop := ∀ (m : Nat) (om : Oper), ops[m]? = some om → listed.getD m false = true → ∀ e ∈ om.after, Region.binds md e = true → listed.getD e.on false = true
theorem listed_set {l : Array Bool} {i j : Nat} (h : l.getD j false = true) : (l.setIfInBounds i true).getD j false = true := by
  have hj : j < l.size := by
    rcases Nat.lt_or_ge j l.size with h' | h'
    · exact h'
    · rw [Array.getD, dif_neg (by omega)] at h; cases h
  rw [listed_at hj] at h
  rw [listed_at (by simpa using hj), Array.getElem_setIfInBounds]
  split
  · rfl
  · exact h
theorem Closed.set {listed : Array Bool} {i : Nat} (h : Closed md ops listed) (hi : i ∈ Region.ready md ops listed) : Closed md ops (listed.setIfInBounds i true) := by
  intro m om hm hl e he hb
  obtain ⟨_, oi, hoi, hall⟩ := mem_ready.1 hi
  by_cases e1 : m = i
  · subst e1
    rw [hm] at hoi
    injection hoi with hoi
    subst hoi
    exact listed_set (hall e he hb)
  · refine listed_set (h m om hm ?_ e he hb)
    have hms : m < listed.size := by
      rcases Nat.lt_or_ge m listed.size with h' | h'
      · exact h'
      · rw [Array.getD, dif_neg (by simp; omega)] at hl; cases hl
    rw [listed_at (by simpa using hms), Array.getElem_setIfInBounds, if_neg (fun e2 => e1 e2.symm)] at hl
    rw [listed_at hms]
    exact hl
theorem any_but_last {k : Nat} {o : Oper} (ho : ops[k]? = some o) (hk : ops.size = k + 1) (hd : o.dst = none) (hg : o.guard = none) (hw : ∀ j, j < k → Region.waitsFor md ops k j = true ∨ ∃ m, Region.waitsFor md ops k m = true ∧ Region.waitsFor md ops m j = true)
    (hac : ∀ (j : Nat) (oj : Oper), ops[j]? = some oj → ∀ e ∈ oj.after, e.on < j) :
    ∀ (fuel : Nat) (listed : Array Bool) (a : Act) (w : World), listed.size = ops.size → listed.getD k true = false → Closed md ops listed → wpAny P md (butLast k o ops) (exitOr Q fun a w => wpOp P ops Q k (Q .normal) a w) fuel listed a w → wpAny P md ops Q fuel listed a w := by
  intro fuel
  induction fuel with
  | zero =>
    intro listed a w hs hl hcl h
    have h1 := h.1
    rw [but_ready ho] at h1
    exact absurd h1 (ready_some hac listed hs k (by omega) hl)
  | succ fuel ih =>
    intro listed a w hs hl hcl h
    obtain ⟨_, h2⟩ := h
    rw [but_ready ho] at h2
    refine ⟨fun h0 => absurd h0 (ready_some hac listed hs k (by omega) hl), fun i hi => ?_⟩
    have h3 := h2 i hi
    by_cases e : i = k
    · subst e
      obtain ⟨_, o', ho', hall⟩ := mem_ready.1 hi
      have hlist : ∀ j, j < ops.size → (listed.setIfInBounds i true).getD j true = true := by
        intro j hj
        have hjs : j < listed.size := by omega
        by_cases e : j = i
        · subst e; simp [Array.getD, hjs]
        · have hwl : ∀ m, Region.waitsFor md ops i m = true → listed.getD m false = true := by
            intro m hm
            obtain ⟨oj, h4, e', he', hb, hon⟩ := Region.waitsFor_spec hm
            rw [ho'] at h4
            injection h4 with h4
            subst h4
            have h5 := hall e' he' hb
            rwa [hon] at h5
          have h5 : listed.getD j false = true := by
            rcases hw j (by omega) with h6 | ⟨m, h6, h7⟩
            · exact hwl j h6
            · obtain ⟨om, h8, e', he', hb, hon⟩ := Region.waitsFor_spec h7
              have h9 := hcl m om h8 (hwl m h6) e' he' hb
              rwa [hon] at h9
          rw [listed_at hjs] at h5
          rw [listed_at (by simpa using hjs), Array.getElem_setIfInBounds, if_neg (fun e2 => e e2.symm)]
          exact h5
      have h4 : wpAny P md (butLast i o ops) (exitOr Q fun a w => wpOp P ops Q i (Q .normal) a w) fuel (listed.setIfInBounds i true) a w := by
        unfold wpOp at h3
        rw [but_get ho] at h3
        have hwn : Region.wanted (nopOf o) (yielded (butLast i o ops) a.tmps) = true := by simp [Region.wanted, nopOf, hg]
        simp only [hwn, if_true] at h3
        exact nop_wp hd h3
      have hr : Region.ready md (butLast i o ops) (listed.setIfInBounds i true) = [] := by rw [but_ready ho]; exact ready_none _ hlist
      have h5 : wpOp P ops Q i (Q .normal) a w := by
        cases fuel with
        | zero => exact h4.2
        | succ f => exact h4.1 hr
      exact wpOp_mono (fun a' w' h6 => wpAny_done (ready_none _ hlist) h6 fuel) h5
    · unfold wpOp at h3 ⊢
      rw [but_other e, but_yielded ho] at h3
      have hK : ∀ a' w', wpAny P md (butLast k o ops) (exitOr Q fun a w => wpOp P ops Q k (Q .normal) a w) fuel (listed.setIfInBounds i true) a' w' → wpAny P md ops Q fuel (listed.setIfInBounds i true) a' w' := fun a' w' h6 =>
        ih (listed.setIfInBounds i true) a' w' (by simpa using hs) (by
          have hks : k < listed.size := by omega
          simp [Array.getD, hks, e] at hl ⊢
          exact hl) (hcl.set hi) h6
      cases hoi : ops[i]? with
      | none => simp only [hoi] at h3 ⊢; exact hK _ _ h3
      | some oi =>
        simp only [hoi] at h3 ⊢
        by_cases hwn : Region.wanted oi (yielded ops a.tmps) = true
        · simp only [hwn, if_true] at h3 ⊢
          rcases h3 with h3 | ⟨h3, b, v, h4⟩
          · exact .inl (Oper.wp_mono hK (oper_wpQ h3))
          · exact .inr ⟨h3, b, v, h4⟩
        · simp only [hwn] at h3 ⊢
          exact hK _ _ h3
/-- The check, by the machine. -/
def lastB (ops : Array Oper) (k : Nat) : Bool :=
  (List.range k).all (fun j => Region.waitsFor .any ops k j || (List.range k).any fun m => Region.waitsFor .any ops k m && Region.waitsFor .any ops m j) && (List.range ops.size).all (fun j => ((ops[j]?).map fun o => o.after.all fun e => decide (e.on < j)).getD true)
theorem region_but_last {id k : Nat} {o : Oper} {a : Act} {w : World} (hm : P.follows .mixedOrders = true) (ho : ops[k]? = some o) (hk : ops.size = k + 1) (hd : o.dst = none) (hg : o.guard = none) (hB : lastB ops k = true) {ops' : Array Oper} (he : butLast k o ops = ops') {S : World → Prop}
    (h : wpAnyH P .any ops' (exitOr Q fun a w => wpOp P ops Q k (Q .normal) a w) S ops'.size (Array.replicate ops'.size false) a { w with drawn := w.drawn + 1 }) : (Code.region id ops true).wp P Q a w := by
  subst he
  unfold lastB at hB
  rw [Bool.and_eq_true, List.all_eq_true, List.all_eq_true] at hB
  refine wp_region_any hm (any_but_last ho hk hd hg (fun j hj => ?_) (fun j oj hj e he => ?_) _ _ _ _ (by simp) (by simp [hk]) (fun m om _ hl => ?_) ?_)
  · have h1 := hB.1 j (List.mem_range.2 hj)
    rw [Bool.or_eq_true, List.any_eq_true] at h1
    rcases h1 with h1 | ⟨m, _, h1⟩
    · exact .inl h1
    · rw [Bool.and_eq_true] at h1
      exact .inr ⟨m, h1⟩
  · have h1 := hB.2 j (List.mem_range.2 (Array.getElem?_eq_some_iff.1 hj).1)
    rw [hj] at h1
    simp at h1
    obtain ⟨n, hn, rfl⟩ := Array.getElem_of_mem he
    exact h1 n hn
  · simp [Array.getD] at hl
  · have h1 := wpAny_of_held _ _ _ _ h
    rw [but_size] at h1
    exact h1
end

end Go.Proofs.Ytkjjbcgecnjniaa

/- The contract of race's add. -/
namespace Go.Proofs.Ytkjjbcgecnjniaa
open Go.RowKit

/-- One element more, and where the row lies then: a step of a list of steps. -/
theorem wpl_appendAt {T : Type} {f : T → List Value} {m : Nat} {P : Program} {w : World} {ops : Array Oper} {rest : List Oper} {o : Oper} {a : Act} {Q : Exit → Act → World → Prop} (st et : TypeId) (bytes : Nat) (z : Value) (hu : P.underlying st = some (.slice et))
    (hinfo : (P.info? et).map (fun i => (i.zero, i.size, i.bytes)) = some (some z, m, bytes)) (hz : z.cells.size = m) (hn : 0 < m) (hby : bytes ≤ 1000) (hf : ∀ x, (f x).length = m) (hgd : o.guard = none)
    (s x : Operand) (ho : o.op = .call { callee := .builtin .append, args := #[s, x], argTypes := #[st, st] }) (B : Nat) (v : Value) (l : List T) (hs : a.eval s = v) (hown : OwnRow w B et m f v l)
    (ad : Addr) (hx : a.eval x = .slice (some ad) 1 1) (e : T) (h1 : ∀ v ∈ f e, v.oneCell' = true) (hnews : ∀ j u, (f e)[j]? = some u → w.cell? (ad.add j) = some u) (hlen : l.length ≤ 1000000) (hB : B ≤ w.heap.size)
    (h : ∀ v' w', OwnRow w' B et m f v' (l ++ [e]) → Below B w w' → w.grownBy w' v.ownBlock → (v'.ownBlock = v.ownBlock ∨ v'.ownBlock = some w.heap.size) → wpList P ops Q rest (a.put o.dst v') w') : wpList P ops Q (o :: rest) a w :=
  wpList_plain hgd fun _ hK => wp_appendAt st et bytes z hu hinfo hz hn hby hf s x ho B v l hs hown ad hx e h1 hnews hlen hB fun v' w' h2 h3 h4 h5 => hK _ _ (h v' w' h2 h3 h4 h5)

/-- One place more, in a region whose order is drawn. -/
theorem step_appendPl {w : World} {ops : Array Oper} {o : Oper} {a : Act} {K : Act → World → Prop} {Q : Exit → Act → World → Prop} {E : Prop} (hgd : o.guard = none) (s x : Operand)
    (ho : o.op = .call { callee := .builtin .append, args := #[s, x], argTypes := #[111, 111] }) (B : Nat) (v : Value) (l : List (Nat × Nat)) (hs : a.eval s = v) (hown : OwnRow w B 119 2 plCell v l)
    (ad : Addr) (hx : a.eval x = .slice (some ad) 1 1) (e : Nat × Nat) (hnews : ∀ j u, (plCell e)[j]? = some u → w.cell? (ad.add j) = some u) (hlen : l.length ≤ 1000000) (hB : B ≤ w.heap.size)
    (h : ∀ v' w', OwnRow w' B 119 2 plCell v' (l ++ [e]) → Below B w w' → w.grownBy w' v.ownBlock → (v'.ownBlock = v.ownBlock ∨ v'.ownBlock = some w.heap.size) → K (a.put o.dst v') w') : if Region.wanted o (yielded ops a.tmps) = true then Oper.wp Try.prog o a w K Q else E :=
  step_appendAt 111 119 16 (.agg #[.int .i64 0, .int .i64 0]) Try.underlying111 infoPl rfl (by omega) (by omega) plCell_len hgd s x ho B v l hs hown ad hx e (plCell_one _) hnews hlen hB h
/-- One unlike event more, in a region whose order is drawn. -/
theorem step_appendGp {w : World} {ops : Array Oper} {o : Oper} {a : Act} {K : Act → World → Prop} {Q : Exit → Act → World → Prop} {E : Prop} (hgd : o.guard = none) (s x : Operand)
    (ho : o.op = .call { callee := .builtin .append, args := #[s, x], argTypes := #[68, 68] }) (B : Nat) (v : Value) (l : List (Ev × Sp)) (hs : a.eval s = v) (hown : OwnRow w B 113 5 gpCell v l)
    (ad : Addr) (hx : a.eval x = .slice (some ad) 1 1) (e : Ev × Sp) (hnews : ∀ j u, (gpCell e)[j]? = some u → w.cell? (ad.add j) = some u) (hlen : l.length ≤ 1000000) (hB : B ≤ w.heap.size)
    (h : ∀ v' w', OwnRow w' B 113 5 gpCell v' (l ++ [e]) → Below B w w' → w.grownBy w' v.ownBlock → (v'.ownBlock = v.ownBlock ∨ v'.ownBlock = some w.heap.size) → K (a.put o.dst v') w') : if Region.wanted o (yielded ops a.tmps) = true then Oper.wp Try.prog o a w K Q else E :=
  step_appendAt 68 113 56 (.agg #[.int .i64 0, .int .i64 0, .int .i64 0, .bool false, .slice none 0 0]) Try.underlying68 infoGp rfl (by omega) (by omega) gpCell_len hgd s x ho B v l hs hown ad hx e (gpCell_one _) hnews hlen hB h
/-- All that is known behind a place more. -/
theorem PastM.put_res {w wa : World} {P B g N cap k M : Nat} {cs : List (Nat → Nat)} {xs : List (Ev × Sp)} {gs : List Gp} {p : Nat × Nat} {u0 u1 : Value} (h : PastM w P B cs (.slice (some ⟨g, 0, none⟩) N cap) xs gs) (hba : Below w.heap.size w wa) (hk : k < xs.length) (hk2 : k < gs.length) (_ : M ≠ P)
    (hq0 : MidAt w M 119 [u0, u1]) (hMB : (spV xs[k].2).ownBlock ≠ some M) (v3 : Value) (w4 : World)
    (ho : OwnRow w4 B 119 2 plCell v3 (gs[k].2 ++ [p])) (hb5 : Below B wa w4) (hgrow : wa.grownBy w4 (spV xs[k].2).ownBlock) (hwhere : v3.ownBlock = (spV xs[k].2).ownBlock ∨ v3.ownBlock = some wa.heap.size) :
    ∃ g3 cap3, v3 = .slice (some ⟨g3, 0, none⟩) (gs[k].2.length + 1) cap3 ∧
      PastM (w4.setCell ⟨g, k * 5 + 4, none⟩ (.slice (some ⟨g3, 0, none⟩) (gs[k].2.length + 1) cap3)) P B cs (.slice (some ⟨g, 0, none⟩) N cap) (xs.set k (xs[k].1, ⟨some ⟨g3, 0, none⟩, gs[k].2.length + 1, cap3⟩)) (gs.set k (gs[k].1, gs[k].2 ++ [p])) ∧
      Aside P B w (w4.setCell ⟨g, k * 5 + 4, none⟩ (.slice (some ⟨g3, 0, none⟩) (gs[k].2.length + 1) cap3)) ∧
      (w4.cell? ⟨P, 16, none⟩ = some (.slice (some ⟨g, 0, none⟩) N cap) ∧ w4.cell? ⟨M, 0, none⟩ = some u0 ∧ w4.cell? ⟨M, 1, none⟩ = some u1) ∧
      (∀ u, World.cell? (w4.setCell ⟨g, k * 5 + 4, none⟩ u) ⟨P, 16, none⟩ = some (.slice (some ⟨g, 0, none⟩) N cap) ∧ World.cell? (w4.setCell ⟨g, k * 5 + 4, none⟩ u) ⟨M, 0, none⟩ = some u0 ∧ World.cell? (w4.setCell ⟨g, k * 5 + 4, none⟩ u) ⟨M, 1, none⟩ = some u1) ∧
      w4.cell? ⟨g, k * 5 + 4, none⟩ = some (.slice xs[k].2.a xs[k].2.n xs[k].2.c) ∧ w4.frozen? ⟨g, k * 5 + 4, none⟩ = false := by
  obtain ⟨g3, cap3, hv3, _, _⟩ := OwnRow.block ho (by simp)
  rw [List.length_append, List.length_singleton] at hv3
  subst hv3
  have hF := PastM.put (s' := ⟨some ⟨g3, 0, none⟩, gs[k].2.length + 1, cap3⟩) h hba hk hk2 ho hb5 hgrow hwhere
  have ha := h.later hba
  have hM := (hq0.later hba)
  have hM4 : MidAt w4 M 119 [u0, u1] := (hgrow.block M hM.lt (fun e => hMB e.symm)).trans hM
  have hP4 : PaAt w4 P cs (.slice (some ⟨g, 0, none⟩) N cap) := (hb5.block P h.lt).trans ha.blk
  have hgB : B ≤ g := by
    rcases ha.own.form with ⟨e, _⟩ | ⟨g', c', e, h4, _⟩
    · cases e
    · injection e with e; injection e with e; injection e with e; omega
  have hout : w4.ownsRow B 113 5 (.slice (some ⟨g, 0, none⟩) N cap) xs.length (cellsL gpCell xs) := World.ownsRow.kept ha.own.outer hgrow (rows_unlike ha.own.outer (ha.own.inner k hk hk2) tyGp)
  have hMg : M ≠ g := fun e => by
    have h1 := row_type hout (q := g) rfl _ _ _ (show w4.heap[g]? = _ from e ▸ hM4)
    exact tyGp h1.symm
  have hPg : P ≠ g := by have := h.lt; omega
  refine ⟨g3, cap3, rfl, hF.1, hF.2.1, ⟨hP4.slice ha.four, hM4.cell 0, hM4.cell 1⟩, fun u => ?_, ?_, hF.2.2.2⟩
  · have hon : Only g w4 (w4.setCell ⟨g, k * 5 + 4, none⟩ u) := (Only.refl _ _).setCell _ _
    have hP5 : PaAt (w4.setCell ⟨g, k * 5 + 4, none⟩ u) P cs (.slice (some ⟨g, 0, none⟩) N cap) := (hon.block P (MidAt.lt hP4) hPg).trans hP4
    have hM5 : MidAt (w4.setCell ⟨g, k * 5 + 4, none⟩ u) M 119 [u0, u1] := (hon.block M hM4.lt hMg).trans hM4
    exact ⟨hP5.slice ha.four, hM5.cell 0, hM5.cell 1⟩
  · rw [ha.own.cell_grown (j := 4) hk hk (by omega) hgrow]
    rfl

def PastR (w : World) (P B : Nat) (l : List Ev) (n : Nat) (w' : World) : Prop := ∃ v xs, PastM w' P B (csOf l n) v xs (grp l n) ∧ Aside P B w w'

set_option maxRecDepth 100000 in
set_option maxHeartbeats 4000000 in
theorem padd_any (P B n : Nat) (l : List Ev) (v : Value) (xs : List (Ev × Sp)) (w : World) (hp : PastM w P B (csOf l n) v xs (grp l n)) (hr : rightL l = true) (hn : n < l.length) (hm : l.length ≤ 1000) :
    Calls Try.prog 26 #[.pointer (some ⟨P, 0, none⟩), .agg #[.int .i64 (evI l n).thread, .int .i64 (evI l n).kind, .int .i64 (evI l n).obj, .bool (evI l n).fail], .int .i64 n, .agg #[.int .i64 (clk l n 0), .int .i64 (clk l n 1), .int .i64 (clk l n 2), .int .i64 (clk l n 3)]] w fun r w' => r = .returned (.tuple #[]) ∧ PastR w P B l (n + 1) w' := by
  have hth := rightEv_bd (e := evI l n) (by rw [evI_get hn]; exact rightL_get hr hn)
  have HCS := Lib.hid (fun th h4 => csOf_succ l n th h4)
  have HOWN : Hid (∀ t : Nat, (evI l n).thread = t → clk l n t = num l n) := fun t ht => by rw [← ht]; exact clk_own l n
  have HE : Hid (∃ e, e = evI l n) := ⟨_, rfl⟩
  have HG : Hid (grp l (n + 1) = addG (grp l n) (evI l n) (n, num l n)) := rfl
  have hgl := grp_len l n
  have HGS := Lib.hid (grp_small l n)
  unfold PastR
  generalize grp l (n + 1) = GS at *
  generalize grp l n = gs at *
  have HP := Lib.hid hp
  clear hp
  generalize evI l n = e at *
  obtain ⟨et, ek, eo, ef⟩ := e
  dsimp only at hth HCS HOWN ⊢
  obtain ⟨th, rfl⟩ : ∃ th : Nat, et = th := ⟨et.toNat, by omega⟩
  have hth4 : th < 4 := by omega
  have hti : (th : Int) < 4 := by omega
  have hti0 : (0 : Int) ≤ th := by omega
  clear hth HE
  have hb0 := below_alloc2 w (.cells #[.int .i64 (th : Int), .int .i64 ek, .int .i64 eo, .bool ef] 50) (.cells #[.int .i64 (clk l n 0), .int .i64 (clk l n 1), .int .i64 (clk l n 2), .int .i64 (clk l n 3)] 66)
  have HBX : Hid (EvBox ((w.alloc (.cells #[.int .i64 (th : Int), .int .i64 ek, .int .i64 eo, .bool ef] 50)).alloc (.cells #[.int .i64 (clk l n 0), .int .i64 (clk l n 1), .int .i64 (clk l n 2), .int .i64 (clk l n 3)] 66)) w.heap.size ⟨th, ek, eo, ef⟩) := (EvBox.new w ⟨th, ek, eo, ef⟩).later (below_alloc1 _ _)
  have HCB : Hid (MidAt ((w.alloc (.cells #[.int .i64 (th : Int), .int .i64 ek, .int .i64 eo, .bool ef] 50)).alloc (.cells #[.int .i64 (clk l n 0), .int .i64 (clk l n 1), .int .i64 (clk l n 2), .int .i64 (clk l n 3)] 66)) (w.heap.size + 1) 66 (nums4 fun u => (clk l n u : Nat))) := heap_alloc2_new w _ _
  go_enter Try.func26, Try.ntmps26
  go_wp2_with fail
  generalize hW0 : (w.alloc (.cells #[.int .i64 (th : Int), .int .i64 ek, .int .i64 eo, .bool ef] 50)).alloc (.cells #[.int .i64 (clk l n 0), .int .i64 (clk l n 1), .int .i64 (clk l n 2), .int .i64 (clk l n 3)] 66) = W0 at *
  have hP := HP.out.later hb0
  obtain ⟨e0, e1, e2, e3⟩ := HBX.out.cells
  obtain ⟨c0, c1, c2, c3⟩ := HCB.out.four
  have p0 := hP.blk.num (t := th) (u := 0) hth4 (by omega)
  have p1 := hP.blk.num (t := th) (u := 1) hth4 (by omega)
  have p2 := hP.blk.num (t := th) (u := 2) hth4 (by omega)
  have p3 := hP.blk.num (t := th) (u := 3) hth4 (by omega)
  have f0 := hP.blk.frozen (th * 4)
  have f1 := hP.blk.frozen (th * 4 + 1)
  have f2 := hP.blk.frozen (th * 4 + 2)
  have f3 := hP.blk.frozen (th * 4 + 3)
  rw [Nat.add_zero] at p0
  go_region
  have hlast : PastM ((((W0.setCell ⟨P, th * 4, none⟩ (.int .i64 (clk l n 0))).setCell ⟨P, th * 4 + 1, none⟩ (.int .i64 (clk l n 1))).setCell ⟨P, th * 4 + 2, none⟩ (.int .i64 (clk l n 2))).setCell ⟨P, th * 4 + 3, none⟩ (.int .i64 (clk l n 3))) P B ((csOf l n).set th fun u : Nat => clk l n u) v xs gs ∧ Aside P B W0 ((((W0.setCell ⟨P, th * 4, none⟩ (.int .i64 (clk l n 0))).setCell ⟨P, th * 4 + 1, none⟩ (.int .i64 (clk l n 1))).setCell ⟨P, th * 4 + 2, none⟩ (.int .i64 (clk l n 2))).setCell ⟨P, th * 4 + 3, none⟩ (.int .i64 (clk l n 3))) := hP.last hth4 (fun u : Nat => clk l n u)
  have hon : Only P W0 ((((W0.setCell ⟨P, th * 4, none⟩ (.int .i64 (clk l n 0))).setCell ⟨P, th * 4 + 1, none⟩ (.int .i64 (clk l n 1))).setCell ⟨P, th * 4 + 2, none⟩ (.int .i64 (clk l n 2))).setCell ⟨P, th * 4 + 3, none⟩ (.int .i64 (clk l n 3))) := ((((Only.refl _ _).setCell _ _).setCell _ _).setCell _ _).setCell _ _
  have hPw : P < w.heap.size := Nat.lt_of_lt_of_le HP.out.lt HP.out.le
  have HPM : Hid (PastM ((((W0.setCell ⟨P, th * 4, none⟩ (.int .i64 (clk l n 0))).setCell ⟨P, th * 4 + 1, none⟩ (.int .i64 (clk l n 1))).setCell ⟨P, th * 4 + 2, none⟩ (.int .i64 (clk l n 2))).setCell ⟨P, th * 4 + 3, none⟩ (.int .i64 (clk l n 3))).drew P B (csOf l (n + 1)) v xs gs) := (hlast.1.congr (csOf_len _ _) (HCS.out th hth4 rfl)).later ((Below.refl _ _).drew)
  have HAS : Hid (Aside P B w ((((W0.setCell ⟨P, th * 4, none⟩ (.int .i64 (clk l n 0))).setCell ⟨P, th * 4 + 1, none⟩ (.int .i64 (clk l n 1))).setCell ⟨P, th * 4 + 2, none⟩ (.int .i64 (clk l n 2))).setCell ⟨P, th * 4 + 3, none⟩ (.int .i64 (clk l n 3))).drew) := ((Aside.of_below hb0 HP.out.le).trans hlast.2).trans (Aside.of_below ((Below.refl _ _).drew) (Nat.le_trans hP.le hon.size))
  have HB1 : Hid (EvBox ((((W0.setCell ⟨P, th * 4, none⟩ (.int .i64 (clk l n 0))).setCell ⟨P, th * 4 + 1, none⟩ (.int .i64 (clk l n 1))).setCell ⟨P, th * 4 + 2, none⟩ (.int .i64 (clk l n 2))).setCell ⟨P, th * 4 + 3, none⟩ (.int .i64 (clk l n 3))).drew w.heap.size ⟨th, ek, eo, ef⟩) := (HBX.out.only hon (by omega)).later ((Below.refl _ _).drew)
  have HC1 : Hid (MidAt ((((W0.setCell ⟨P, th * 4, none⟩ (.int .i64 (clk l n 0))).setCell ⟨P, th * 4 + 1, none⟩ (.int .i64 (clk l n 1))).setCell ⟨P, th * 4 + 2, none⟩ (.int .i64 (clk l n 2))).setCell ⟨P, th * 4 + 3, none⟩ (.int .i64 (clk l n 3))).drew (w.heap.size + 1) 66 (nums4 fun u => (clk l n u : Nat))) := (hon.block _ (MidAt.lt HCB.out) (by omega)).trans HCB.out
  clear hlast hon hP p0 p1 p2 p3 f0 f1 f2 f3 e0 e1 e2 e3 c0 c1 c2 c3 hW0 hb0 HBX HCB
  generalize ((((W0.setCell ⟨P, th * 4, none⟩ (.int .i64 (clk l n 0))).setCell ⟨P, th * 4 + 1, none⟩ (.int .i64 (clk l n 1))).setCell ⟨P, th * 4 + 2, none⟩ (.int .i64 (clk l n 2))).setCell ⟨P, th * 4 + 3, none⟩ (.int .i64 (clk l n 3))).drew = W1 at *
  obtain ⟨e0, e1, e2, e3⟩ := HB1.out.cells
  have c0 := MidAt.cell HC1.out th
  rw [nums4_get _ hth4] at c0
  rw [HOWN.out th rfl] at c0
  obtain ⟨va, vc, rfl, HV⟩ : ∃ va vc, v = .slice va gs.length vc ∧ Hid (gs = [] ∨ ∃ g, va = some ⟨g, 0, none⟩) := by
    rcases HPM.out.own.form with ⟨h1, h2⟩ | ⟨g, c, h1, _⟩
    · exact ⟨none, 0, by rw [h1, h2]; rfl, .inl h2⟩
    · exact ⟨_, c, h1, .inr ⟨g, rfl⟩⟩
  have hv := HPM.out.blk.slice (csOf_len _ _)
  have HSP0 : Hid (∀ i (hi : i < xs.length), (spV xs[i].2).ownBlock ≠ some W1.heap.size) := fun i hi e => by
    have := (World.ownsRow.lt (HPM.out.own.inner i hi (by rw [← HPM.out.own.len]; exact hi)) _ e).2
    omega
  have HW1B : Hid (B ≤ W1.heap.size) := HPM.out.le
  have hba := below_alloc1 W1 (.cells #[.int .i64 (n : Int), .int .i64 (num l n : Int)] 119)
  have hv2 := cell_later hba hv
  have HPM2 := Lib.hid (HPM.out.later hba)
  have HAS2 : Hid (Aside P B w (W1.alloc (.cells #[.int .i64 (n : Int), .int .i64 (num l n : Int)] 119))) := HAS.out.trans (Aside.of_below hba HPM.out.le)
  have HB2 := Lib.hid (HB1.out.later hba)
  have HPL : Hid (MidAt (W1.alloc (.cells #[.int .i64 (n : Int), .int .i64 (num l n : Int)] 119)) W1.heap.size 119 (plCell (n, num l n))) := heap_alloc_new _ _
  have hsz : (W1.alloc (.cells #[.int .i64 (n : Int), .int .i64 (num l n : Int)] 119)).heap.size = W1.heap.size + 1 := by simp
  go_wp2_with fail
  clear e0 e1 e2 e3 c0 hv hv2 hba HPM HAS HB1 HC1
  generalize W1.alloc (.cells #[.int .i64 (n : Int), .int .i64 (num l n : Int)] 119) = W2 at *
  go_loopw [28] (fun i wr => ∃ k : Nat, k ≤ gs.length ∧ i = .int .i64 k ∧ Hid (∀ j (h : j < k) (h2 : j < gs.length), (gs[j]).1 ≠ ⟨th, ek, eo, ef⟩) ∧ Hid (Below W2.heap.size W2 wr)) (fun i _ => gs.length - (intOf i).toNat)
  case atStart => exact ⟨0, Nat.zero_le _, rfl, (fun j h => absurd h (by omega)), Below.refl _ _⟩
  case round =>
    obtain ⟨k, hk, rfl, HN, HB⟩ := hrel
    have HM := Lib.hid (HPM2.out.later HB.out)
    have HA : Hid (Aside P B w wr) := HAS2.out.trans (Aside.of_below HB.out HPM2.out.le)
    have HBX := Lib.hid (HB2.out.later HB.out)
    have HPX := Lib.hid (HPL.out.later HB.out)
    have hv := HM.out.blk.slice (csOf_len _ _)
    have hvf := HM.out.blk.frozen 16
    obtain ⟨e0, e1, e2, e3⟩ := HBX.out.cells
    have q0 : wr.cell? ⟨W1.heap.size, 0, none⟩ = some (.int .i64 (n : Int)) := MidAt.cell HPX.out 0
    have q1 : wr.cell? ⟨W1.heap.size, 1, none⟩ = some (.int .i64 (num l n : Int)) := MidAt.cell HPX.out 1
    by_cases hlt : k < gs.length
    · obtain ⟨g, rfl⟩ : ∃ g, va = some ⟨g, 0, none⟩ := by
        rcases HV.out with h | h
        · rw [h] at hlt; simp at hlt
        · exact h
      have hkx : k < xs.length := by rw [HM.out.own.len]; exact hlt
      have hev := HM.out.own.evs k hkx hlt
      have x0 := HM.out.own.cell (j := 0) hkx (by omega)
      have x1 := HM.out.own.cell (j := 1) hkx (by omega)
      have x2 := HM.out.own.cell (j := 2) hkx (by omega)
      have x3 := HM.out.own.cell (j := 3) hkx (by omega)
      have x4 := HM.out.own.cell (j := 4) hkx (by omega)
      have heq := run_equal_ev gs[k].1 ⟨th, ek, eo, ef⟩
      rw [Nat.add_zero] at x0
      simp only [gpCell, hev, List.getElem?_cons_zero, List.getElem?_cons_succ] at x0 x1 x2 x3 x4
      by_cases he : gs[k].1 = ⟨th, ek, eo, ef⟩
      · have hq2 : decide (gs[k].1 = (⟨th, ek, eo, ef⟩ : Ev)) = true := by simp [he]
        rw [hq2] at heq
        have HE := Lib.hid (addG_at (p := (n, num l n)) hlt (fun i hi => HN.out i hi (by omega)) he)
        clear hq2
        go_wp2
        go_quiet (fail)
        go_wp2_with fail
        have hdr : Below wr.heap.size wr (wr.drewN nq) := (Below.refl _ wr).drewN
        have HM3 := Lib.hid (HM.out.later hdr)
        have HA3 : Hid (Aside P B w (wr.drewN nq)) := HA.out.trans (Aside.of_below hdr HM.out.le)
        have HPX3 := Lib.hid (HPX.out.later hdr)
        clear hv hvf e0 e1 e2 e3 q0 q1 x0 x1 x2 x3 x4 HM HA HPX HBX HB hdr heq he HN HPM2 HAS2 HPL HB2
        generalize wr.drewN nq = W3 at *
        have hv := HM3.out.blk.slice (csOf_len _ _)
        have q0 : W3.cell? ⟨W1.heap.size, 0, none⟩ = some (.int .i64 (n : Int)) := MidAt.cell HPX3.out 0
        have q1 : W3.cell? ⟨W1.heap.size, 1, none⟩ = some (.int .i64 (num l n : Int)) := MidAt.cell HPX3.out 1
        have x4 := HM3.out.own.cell (j := 4) hkx (by omega)
        simp only [gpCell, List.getElem?_cons_zero, List.getElem?_cons_succ] at x4
        have hin := Lib.hid (HM3.out.own.inner k hkx hlt)
        have HSPX : Hid ((spV xs[k].2).ownBlock ≠ some W1.heap.size) := HSP0.out k hkx
        have hgk := HGS.out gs[k] (List.getElem_mem hlt)
        have hle3 := HM3.out.le
        have HQ : Hid (∀ W', Below W3.heap.size W3 W' → W'.cell? ⟨P, 16, none⟩ = some (.slice (some ⟨g, 0, none⟩) gs.length vc) ∧ W'.cell? ⟨W1.heap.size, 0, none⟩ = some (.int .i64 (n : Int)) ∧ W'.cell? ⟨W1.heap.size, 1, none⟩ = some (.int .i64 (num l n : Int))) :=
          fun W' hb => ⟨cell_later hb hv, cell_later hb q0, cell_later hb q1⟩
        have hx4d : World.cell? W3.drew ⟨g, k * 5 + 4, none⟩ = some (.slice xs[k].2.a xs[k].2.n xs[k].2.c) := x4
        clear hv q0 q1
        have hWA : Below W3.heap.size W3 (W3.alloc (.cells #[.int .i64 (n : Int), .int .i64 (num l n : Int)] 119)).drew := (below_alloc1 W3 _).drew
        have HOA : Hid (OwnRow (W3.alloc (.cells #[.int .i64 (n : Int), .int .i64 (num l n : Int)] 119)).drew B 119 2 plCell (.slice xs[k].2.a xs[k].2.n xs[k].2.c) gs[k].2) := hin.out.later hWA
        have HNEW : Hid (∀ j u, (plCell (n, num l n))[j]? = some u → World.cell? (W3.alloc (.cells #[.int .i64 (n : Int), .int .i64 (num l n : Int)] 119)).drew (Addr.add ⟨W3.heap.size, 0, none⟩ j) = some u) := cells_new W3 (plCell (n, num l n)) _ _ rfl
        have hlX : gs[k].2.length ≤ 1000000 := by omega
        have hBX : B ≤ (World.heap (W3.alloc (.cells #[.int .i64 (n : Int), .int .i64 (num l n : Int)] 119)).drew).size := Nat.le_trans hle3 hWA.size
        have HRES := Lib.hid (PastM.put_res (p := (n, num l n)) HM3.out hWA hkx hlt (by have h1 := HM3.out.lt; have h2 := HW1B.out; omega) HPX3.out HSPX.out)
        have hS1 := HQ.out _ hWA
        have hx4a := cell_later hWA x4
        have hS0 := HQ.out _ (Below.refl _ W3).drew
        have hS4 : (fun W' => W'.cell? ⟨P, 16, none⟩ = some (.slice (some ⟨g, 0, none⟩) gs.length vc) ∧ W'.cell? ⟨W1.heap.size, 0, none⟩ = some (.int .i64 (n : Int)) ∧ W'.cell? ⟨W1.heap.size, 1, none⟩ = some (.int .i64 (num l n : Int)) ∧ W'.cell? ⟨g, k * 5 + 4, none⟩ = some (.slice xs[k].2.a xs[k].2.n xs[k].2.c)) W3.drew := ⟨hS0.1, hS0.2.1, hS0.2.2, x4⟩
        have hS5 : (fun W' => W'.cell? ⟨P, 16, none⟩ = some (.slice (some ⟨g, 0, none⟩) gs.length vc) ∧ W'.cell? ⟨W1.heap.size, 0, none⟩ = some (.int .i64 (n : Int)) ∧ W'.cell? ⟨W1.heap.size, 1, none⟩ = some (.int .i64 (num l n : Int)) ∧ W'.cell? ⟨g, k * 5 + 4, none⟩ = some (.slice xs[k].2.a xs[k].2.n xs[k].2.c)) (W3.alloc (.cells #[.int .i64 (n : Int), .int .i64 (num l n : Int)] 119)).drew := ⟨hS1.1, hS1.2.1, hS1.2.2, hx4a⟩
        refine region_but_last (k := 18) (S := (fun W' => W'.cell? ⟨P, 16, none⟩ = some (.slice (some ⟨g, 0, none⟩) gs.length vc) ∧ W'.cell? ⟨W1.heap.size, 0, none⟩ = some (.int .i64 (n : Int)) ∧ W'.cell? ⟨W1.heap.size, 1, none⟩ = some (.int .i64 (num l n : Int)) ∧ W'.cell? ⟨g, k * 5 + 4, none⟩ = some (.slice xs[k].2.a xs[k].2.n xs[k].2.c))) (by kernel_rfl) rfl rfl rfl rfl (by kernel_rfl) rfl ?_
        simp only [butLast, nopOf, List.setIfInBounds_toArray, List.set_cons_succ, List.set_cons_zero, List.getElem_toArray, List.getElem_cons_zero, List.getElem_cons_succ, List.size_toArray, List.length_cons, List.length_nil, Nat.reduceAdd]
        change wpAnyH _ _ _ _ _ _ _ _ W3.drew
        refine wpAnyH_take (i := 0) (v := ?_) rfl (by kernel_rfl) (by kernel_rfl) (by kernel_rfl) (fun _ _ _ h => h) (Or.inl ⟨by rfl, ?yield⟩) hS4 ?_
        case yield => ((intro w hSw; (try dsimp only at hSw); go_simp) <;> with_reducible rfl)
        try simp only [List.getElem_toArray, List.getElem_cons_zero, Act.put, List.setIfInBounds_toArray, List.set_cons_zero, List.set_cons_succ]
        refine wpAnyH_take (i := 1) (v := ?_) rfl (by kernel_rfl) (by kernel_rfl) (by kernel_rfl) (fun _ _ _ h => h) (Or.inl ⟨by rfl, ?yield⟩) hS4 ?_
        case yield => ((intro w hSw; (try dsimp only at hSw); go_simp) <;> with_reducible rfl)
        try simp only [List.getElem_toArray, List.getElem_cons_zero, List.getElem_cons_succ, Act.put, List.setIfInBounds_toArray, List.set_cons_zero, List.set_cons_succ]
        refine wpAnyH_take (i := 2) (v := ?_) rfl (by kernel_rfl) (by kernel_rfl) (by kernel_rfl) (fun _ _ _ h => h) (Or.inl ⟨by rfl, ?yield⟩) hS4 ?_
        case yield => ((intro w hSw; (try dsimp only at hSw); go_simp) <;> with_reducible rfl)
        try simp only [List.getElem_toArray, List.getElem_cons_zero, List.getElem_cons_succ, Act.put, List.setIfInBounds_toArray, List.set_cons_zero, List.set_cons_succ]
        refine wpAnyH_take (i := 3) (v := ?_) rfl (by kernel_rfl) (by kernel_rfl) (by kernel_rfl) (fun _ _ _ h => h) (Or.inl ⟨by rfl, ?yield⟩) hS4 ?_
        case yield => ((intro w hSw; (try dsimp only at hSw); go_simp) <;> with_reducible rfl)
        try simp only [List.getElem_toArray, List.getElem_cons_zero, List.getElem_cons_succ, Act.put, List.setIfInBounds_toArray, List.set_cons_zero, List.set_cons_succ]
        refine wpAnyH_take (i := 4) (v := ?_) rfl (by kernel_rfl) (by kernel_rfl) (by kernel_rfl) (fun _ _ _ h => h) (Or.inl ⟨by rfl, ?yield⟩) hS4 ?_
        case yield => ((intro w hSw; (try dsimp only at hSw); go_simp) <;> with_reducible rfl)
        try simp only [List.getElem_toArray, List.getElem_cons_zero, List.getElem_cons_succ, Act.put, List.setIfInBounds_toArray, List.set_cons_zero, List.set_cons_succ]
        refine wpAnyH_take (i := 5) (v := ?_) rfl (by kernel_rfl) (by kernel_rfl) (by kernel_rfl) (fun _ _ _ h => h) (Or.inl ⟨by rfl, ?yield⟩) hS4 ?_
        case yield => ((intro w hSw; (try dsimp only at hSw); go_simp) <;> with_reducible rfl)
        try simp only [List.getElem_toArray, List.getElem_cons_zero, List.getElem_cons_succ, Act.put, List.setIfInBounds_toArray, List.set_cons_zero, List.set_cons_succ]
        refine wpAnyH_take (i := 6) (v := ?_) rfl (by kernel_rfl) (by kernel_rfl) (by kernel_rfl) (fun _ _ _ h => h) (Or.inl ⟨by rfl, ?yield⟩) hS4 ?_
        case yield => ((intro w hSw; (try dsimp only at hSw); go_simp) <;> with_reducible rfl)
        try simp only [List.getElem_toArray, List.getElem_cons_zero, List.getElem_cons_succ, Act.put, List.setIfInBounds_toArray, List.set_cons_zero, List.set_cons_succ]
        refine wpAnyH_take (i := 7) (v := ?_) rfl (by kernel_rfl) (by kernel_rfl) (by kernel_rfl) (fun _ _ _ h => h) (Or.inl ⟨by rfl, ?yield⟩) hS4 ?_
        case yield => ((intro w hSw; (try dsimp only at hSw); go_simp) <;> with_reducible rfl)
        try simp only [List.getElem_toArray, List.getElem_cons_zero, List.getElem_cons_succ, Act.put, List.setIfInBounds_toArray, List.set_cons_zero, List.set_cons_succ]
        refine wpAnyH_take (i := 8) (v := ?_) rfl (by kernel_rfl) (by kernel_rfl) (by kernel_rfl) (fun _ _ _ h => h) (Or.inl ⟨by rfl, ?yield⟩) hS4 ?_
        case yield => ((intro w hSw; (try dsimp only at hSw); go_simp) <;> with_reducible rfl)
        try simp only [List.getElem_toArray, List.getElem_cons_zero, List.getElem_cons_succ, Act.put, List.setIfInBounds_toArray, List.set_cons_zero, List.set_cons_succ]
        refine wpAnyH_take (i := 9) (v := ?_) rfl (by kernel_rfl) (by kernel_rfl) (by kernel_rfl) (fun _ _ _ h => h) (Or.inl ⟨by rfl, ?yield⟩) hS4 ?_
        case yield => ((intro w hSw; (try dsimp only at hSw); go_simp) <;> with_reducible rfl)
        try simp only [List.getElem_toArray, List.getElem_cons_zero, List.getElem_cons_succ, Act.put, List.setIfInBounds_toArray, List.set_cons_zero, List.set_cons_succ]
        refine wpAnyH_take (i := 10) (v := ?_) rfl (by kernel_rfl) (by kernel_rfl) (by kernel_rfl) (fun _ _ _ h => h) (Or.inl ⟨by rfl, ?yield⟩) hS4 ?_
        case yield => ((intro w hSw; (try dsimp only at hSw); go_simp) <;> with_reducible rfl)
        try simp only [List.getElem_toArray, List.getElem_cons_zero, List.getElem_cons_succ, Act.put, List.setIfInBounds_toArray, List.set_cons_zero, List.set_cons_succ]
        refine wpAnyH_take (i := 11) (v := ?_) rfl (by kernel_rfl) (by kernel_rfl) (by kernel_rfl) (fun _ _ _ h => h) (Or.inl ⟨by rfl, ?yield⟩) hS4 ?_
        case yield => ((intro w hSw; (try dsimp only at hSw); go_simp) <;> with_reducible rfl)
        try simp only [List.getElem_toArray, List.getElem_cons_zero, List.getElem_cons_succ, Act.put, List.setIfInBounds_toArray, List.set_cons_zero, List.set_cons_succ]
        refine wpAnyH_take (i := 12) (v := ?_) rfl (by kernel_rfl) (by kernel_rfl) (by kernel_rfl) (fun _ _ _ h => h) (Or.inl ⟨by rfl, ?yield⟩) hS4 ?_
        case yield => ((intro w hSw; (try dsimp only at hSw); go_simp) <;> with_reducible rfl)
        try simp only [List.getElem_toArray, List.getElem_cons_zero, List.getElem_cons_succ, Act.put, List.setIfInBounds_toArray, List.set_cons_zero, List.set_cons_succ]
        refine wpAnyH_take (i := 13) (v := ?_) rfl (by kernel_rfl) (by kernel_rfl) (by kernel_rfl) (fun _ _ _ h => h) (Or.inl ⟨by rfl, ?yield⟩) hS4 ?_
        case yield => ((intro w hSw; (try dsimp only at hSw); go_simp) <;> with_reducible rfl)
        try simp only [List.getElem_toArray, List.getElem_cons_zero, List.getElem_cons_succ, Act.put, List.setIfInBounds_toArray, List.set_cons_zero, List.set_cons_succ]
        refine wpAnyH_ready (rs := [14]) (by kernel_rfl) (by simp) (AllReadyH.cons rfl (fun K hK => ?_) AllReadyH.nil)
        go_simp
        refine hK.out _ _ hS5 (fun _ => ?_)
        try simp only [List.getElem_toArray, List.getElem_cons_zero, List.getElem_cons_succ, Act.put, List.setIfInBounds_toArray, List.set_cons_zero, List.set_cons_succ]
        refine wpAnyH_ready (rs := [15]) (by kernel_rfl) (by simp) (AllReadyH.cons rfl (fun K hK => ?_) AllReadyH.nil)
        refine step_appendPl (w := (W3.alloc (.cells #[.int .i64 (n : Int), .int .i64 (num l n : Int)] 119)).drew) (by rfl) (.tmp 53) (.tmp 55) (by rfl) B _ gs[k].2 (by rfl) HOA.out ⟨W3.heap.size, 0, none⟩ (by rfl) (n, num l n) HNEW.out hlX hBX ?_
        intro v3 w4 h1 h2 h3 h4
        obtain ⟨g3, cap3, e3, r1, r2, hS6, r5, hx4, hf4⟩ := HRES.out v3 w4 h1 h2 h3 h4
        subst e3
        have HF1 := Lib.hid r1
        have HF2 := Lib.hid r2
        clear h1 h2 h3 h4 r1 r2 r5
        have hS7 : (fun W' => W'.cell? ⟨P, 16, none⟩ = some (.slice (some ⟨g, 0, none⟩) gs.length vc) ∧ W'.cell? ⟨W1.heap.size, 0, none⟩ = some (.int .i64 (n : Int)) ∧ W'.cell? ⟨W1.heap.size, 1, none⟩ = some (.int .i64 (num l n : Int)) ∧ W'.cell? ⟨g, k * 5 + 4, none⟩ = some (.slice xs[k].2.a xs[k].2.n xs[k].2.c)) w4 := ⟨hS6.1, hS6.2.1, hS6.2.2, hx4⟩
        refine hK.out _ _ hS7 (fun _ => ?_)
        try simp only [List.getElem_toArray, List.getElem_cons_zero, List.getElem_cons_succ, Act.put, List.setIfInBounds_toArray, List.set_cons_zero, List.set_cons_succ]
        refine wpAnyH_take (i := 16) (v := ?_) rfl (by kernel_rfl) (by kernel_rfl) (by kernel_rfl) (fun _ _ _ h => h) (Or.inl ⟨by rfl, ?yield⟩) hS7 ?_
        case yield => ((intro w hSw; (try dsimp only at hSw); go_simp) <;> with_reducible rfl)
        try simp only [List.getElem_toArray, List.getElem_cons_zero, List.getElem_cons_succ, Act.put, List.setIfInBounds_toArray, List.set_cons_zero, List.set_cons_succ]
        refine wpAnyH_take (i := 17) (v := ?_) rfl (by kernel_rfl) (by kernel_rfl) (by kernel_rfl) (fun _ _ _ h => h) (Or.inl ⟨by rfl, ?yield⟩) hS7 ?_
        case yield => ((intro w hSw; (try dsimp only at hSw); go_simp) <;> with_reducible rfl)
        try simp only [List.getElem_toArray, List.getElem_cons_zero, List.getElem_cons_succ, Act.put, List.setIfInBounds_toArray, List.set_cons_zero, List.set_cons_succ]
        refine wpAnyH_take (i := 18) (v := ?_) rfl (by kernel_rfl) (by kernel_rfl) (by kernel_rfl) (fun _ _ _ h => h) (Or.inl ⟨by rfl, ?yield⟩) hS7 ?_
        case yield => ((intro w hSw; (try dsimp only at hSw); go_simp) <;> with_reducible rfl)
        try simp only [List.getElem_toArray, List.getElem_cons_zero, List.getElem_cons_succ, Act.put]
        refine wpAnyH_done (by kernel_rfl) ?_ _
        clear hS0 hS1 hS4 hS5 hS6 hS7 hx4a hx4d x4 HRES HOA HNEW
        refine exitOr_normal ?_
        refine wpOp_step rfl (fun K hK => ?_)
        try simp only [List.getElem_toArray, List.getElem_cons_zero, List.getElem_cons_succ, Act.put]
        go_simp
        refine hK _ _ ?_
        have HFA := Lib.hid (HA3.out.trans HF2.out)
        rw [← HE.out, ← HG.out] at HF1
        clear HF2 hin HM3 HA3 HE HG hgk hf4 HQ hx4
        go_wp2
        refine bodyPost_ret (results_none rfl _ _ _) rfl ?_
        first
          | exact ⟨rfl, ⟨_, _, HF1.out⟩, HFA.out⟩
          | exact ⟨rfl, _, _, HF1.out, HFA.out⟩
      · have hq2 : decide (gs[k].1 = (⟨th, ek, eo, ef⟩ : Ev)) = false := by simpa using he
        rw [hq2] at heq
        have HN2 : Hid (∀ j (h : j < k + 1) (h2 : j < gs.length), (gs[j]).1 ≠ ⟨th, ek, eo, ef⟩) := by
          intro j hj hj2
          by_cases e : j = k
          · subst e; exact he
          · exact HN.out j (by omega) hj2
        clear he hq2 HN
        generalize gs[k].1 = x at *
        go_wp2
        go_quiet (fail)
        go_wp2
        go_roundw
        case rel => exact ⟨k + 1, by omega, by go_num, HN2, HB.out.drewN⟩
        case measure => simp [intOf]; omega
    · obtain rfl : k = gs.length := by omega
      have HE := Lib.hid (addG_new (e := ⟨th, ek, eo, ef⟩) (p := (n, num l n)) (gs := gs) (fun x hx => by
        obtain ⟨i, hi, rfl⟩ := List.mem_iff_getElem.1 hx
        exact HN.out i hi hi))
      rw [← HG.out] at HE
      have hle := HM.out.le
      have hxl : xs.length ≤ 1000 := by have := HM.out.own.len; omega
      have hb2 := below_alloc2 wr (.cells #[.int .i64 (n : Int), .int .i64 (num l n : Int)] 119) (.cells #[.int .i64 (th : Int), .int .i64 ek, .int .i64 eo, .bool ef, .slice (some ⟨wr.heap.size, 0, none⟩) 1 1] 113)
      have hb1 := below_alloc1 wr (.cells #[.int .i64 (n : Int), .int .i64 (num l n : Int)] 119)
      have HSP : Hid (OwnRow ((wr.alloc (.cells #[.int .i64 (n : Int), .int .i64 (num l n : Int)] 119)).alloc (.cells #[.int .i64 (th : Int), .int .i64 ek, .int .i64 eo, .bool ef, .slice (some ⟨wr.heap.size, 0, none⟩) 1 1] 113)).drew B 119 2 plCell (spV ⟨some ⟨wr.heap.size, 0, none⟩, 1, 1⟩) [(n, num l n)]) :=
        ⟨rfl, .inr ⟨wr.heap.size, 1, _, rfl, hle, heap_alloc2_old wr _ _, Nat.le_refl _, by simp [maxLen], rfl, rfl⟩⟩
      have hPl := HM.out.lt
      have HQ9 : Hid (∀ W', Below wr.heap.size wr W' → (fun W' => W'.cell? ⟨P, 16, none⟩ = some (.slice va gs.length vc) ∧ (W'.cell? ⟨w.heap.size, 0, none⟩ = some (.int .i64 (th : Int)) ∧ W'.cell? ⟨w.heap.size, 1, none⟩ = some (.int .i64 ek) ∧ W'.cell? ⟨w.heap.size, 2, none⟩ = some (.int .i64 eo) ∧ W'.cell? ⟨w.heap.size, 3, none⟩ = some (.bool ef)) ∧ W'.cell? ⟨W1.heap.size, 0, none⟩ = some (.int .i64 (n : Int)) ∧ W'.cell? ⟨W1.heap.size, 1, none⟩ = some (.int .i64 (num l n : Int))) W') :=
        fun W' hb => ⟨cell_later hb hv, ⟨cell_later hb e0, cell_later hb e1, cell_later hb e2, cell_later hb e3⟩, cell_later hb q0, cell_later hb q1⟩
      have hSa := HQ9.out _ (Below.refl _ wr).drew
      have hSb := HQ9.out _ hb1.drew
      have hSc := HQ9.out _ hb2.drew
      go_wp2_with fail
      refine region_but_last (k := 13) (S := (fun W' => W'.cell? ⟨P, 16, none⟩ = some (.slice va gs.length vc) ∧ (W'.cell? ⟨w.heap.size, 0, none⟩ = some (.int .i64 (th : Int)) ∧ W'.cell? ⟨w.heap.size, 1, none⟩ = some (.int .i64 ek) ∧ W'.cell? ⟨w.heap.size, 2, none⟩ = some (.int .i64 eo) ∧ W'.cell? ⟨w.heap.size, 3, none⟩ = some (.bool ef)) ∧ W'.cell? ⟨W1.heap.size, 0, none⟩ = some (.int .i64 (n : Int)) ∧ W'.cell? ⟨W1.heap.size, 1, none⟩ = some (.int .i64 (num l n : Int)))) (by kernel_rfl) rfl rfl rfl rfl (by kernel_rfl) rfl ?_
      simp only [butLast, nopOf, List.setIfInBounds_toArray, List.set_cons_succ, List.set_cons_zero, List.getElem_toArray, List.getElem_cons_zero, List.getElem_cons_succ, List.size_toArray, List.length_cons, List.length_nil, Nat.reduceAdd]
      change wpAnyH _ _ _ _ _ _ _ _ wr.drew
      refine wpAnyH_take (i := 0) (v := ?_) rfl (by kernel_rfl) (by kernel_rfl) (by kernel_rfl) (fun _ _ _ h => h) (Or.inl ⟨by rfl, ?yield⟩) hSa ?_
      case yield => ((intro w hSw; (try dsimp only at hSw); go_simp) <;> with_reducible rfl)
      try simp only [List.getElem_toArray, List.getElem_cons_zero, Act.put, List.setIfInBounds_toArray, List.set_cons_zero, List.set_cons_succ]
      refine wpAnyH_take (i := 1) (v := ?_) rfl (by kernel_rfl) (by kernel_rfl) (by kernel_rfl) (fun _ _ _ h => h) (Or.inl ⟨by rfl, ?yield⟩) hSa ?_
      case yield => ((intro w hSw; (try dsimp only at hSw); go_simp) <;> with_reducible rfl)
      try simp only [List.getElem_toArray, List.getElem_cons_zero, List.getElem_cons_succ, Act.put, List.setIfInBounds_toArray, List.set_cons_zero, List.set_cons_succ]
      refine wpAnyH_take (i := 2) (v := ?_) rfl (by kernel_rfl) (by kernel_rfl) (by kernel_rfl) (fun _ _ _ h => h) (Or.inl ⟨by rfl, ?yield⟩) hSa ?_
      case yield => ((intro w hSw; (try dsimp only at hSw); go_simp) <;> with_reducible rfl)
      try simp only [List.getElem_toArray, List.getElem_cons_zero, List.getElem_cons_succ, Act.put, List.setIfInBounds_toArray, List.set_cons_zero, List.set_cons_succ]
      refine wpAnyH_take (i := 3) (v := ?_) rfl (by kernel_rfl) (by kernel_rfl) (by kernel_rfl) (fun _ _ _ h => h) (Or.inl ⟨by rfl, ?yield⟩) hSa ?_
      case yield => ((intro w hSw; (try dsimp only at hSw); go_simp) <;> with_reducible rfl)
      try simp only [List.getElem_toArray, List.getElem_cons_zero, List.getElem_cons_succ, Act.put, List.setIfInBounds_toArray, List.set_cons_zero, List.set_cons_succ]
      refine wpAnyH_take (i := 4) (v := ?_) rfl (by kernel_rfl) (by kernel_rfl) (by kernel_rfl) (fun _ _ _ h => h) (Or.inl ⟨by rfl, ?yield⟩) hSa ?_
      case yield => ((intro w hSw; (try dsimp only at hSw); go_simp) <;> with_reducible rfl)
      try simp only [List.getElem_toArray, List.getElem_cons_zero, List.getElem_cons_succ, Act.put, List.setIfInBounds_toArray, List.set_cons_zero, List.set_cons_succ]
      refine wpAnyH_take (i := 5) (v := ?_) rfl (by kernel_rfl) (by kernel_rfl) (by kernel_rfl) (fun _ _ _ h => h) (Or.inl ⟨by rfl, ?yield⟩) hSa ?_
      case yield => ((intro w hSw; (try dsimp only at hSw); go_simp) <;> with_reducible rfl)
      try simp only [List.getElem_toArray, List.getElem_cons_zero, List.getElem_cons_succ, Act.put, List.setIfInBounds_toArray, List.set_cons_zero, List.set_cons_succ]
      refine wpAnyH_take (i := 6) (v := ?_) rfl (by kernel_rfl) (by kernel_rfl) (by kernel_rfl) (fun _ _ _ h => h) (Or.inl ⟨by rfl, ?yield⟩) hSa ?_
      case yield => ((intro w hSw; (try dsimp only at hSw); go_simp) <;> with_reducible rfl)
      try simp only [List.getElem_toArray, List.getElem_cons_zero, List.getElem_cons_succ, Act.put, List.setIfInBounds_toArray, List.set_cons_zero, List.set_cons_succ]
      refine wpAnyH_ready (rs := [7]) (by kernel_rfl) (by simp) (AllReadyH.cons rfl (fun K hK => ?_) AllReadyH.nil)
      go_simp
      refine hK.out _ _ hSb (fun _ => ?_)
      try simp only [List.getElem_toArray, List.getElem_cons_zero, List.getElem_cons_succ, Act.put, List.setIfInBounds_toArray, List.set_cons_zero, List.set_cons_succ]
      refine wpAnyH_take (i := 8) (v := ?_) rfl (by kernel_rfl) (by kernel_rfl) (by kernel_rfl) (fun _ _ _ h => h) (Or.inl ⟨by rfl, ?yield⟩) hSb ?_
      case yield => ((intro w hSw; (try dsimp only at hSw); go_simp) <;> with_reducible rfl)
      try simp only [List.getElem_toArray, List.getElem_cons_zero, List.getElem_cons_succ, Act.put, List.setIfInBounds_toArray, List.set_cons_zero, List.set_cons_succ]
      refine wpAnyH_ready (rs := [9]) (by kernel_rfl) (by simp) (AllReadyH.cons rfl (fun K hK => ?_) AllReadyH.nil)
      go_simp
      refine hK.out _ _ hSc (fun _ => ?_)
      try simp only [List.getElem_toArray, List.getElem_cons_zero, List.getElem_cons_succ, Act.put, List.setIfInBounds_toArray, List.set_cons_zero, List.set_cons_succ]
      refine wpAnyH_ready (rs := [10]) (by kernel_rfl) (by simp) (AllReadyH.cons rfl (fun K hK => ?_) AllReadyH.nil)
      refine step_appendGp (w := ((wr.alloc (.cells #[.int .i64 (n : Int), .int .i64 (num l n : Int)] 119)).alloc (.cells #[.int .i64 (th : Int), .int .i64 ek, .int .i64 eo, .bool ef, .slice (some ⟨wr.heap.size, 0, none⟩) 1 1] 113)).drew) (by rfl) (.tmp 64) (.tmp 69) (by rfl) B _ xs (by rfl) (OwnRow.alloc (OwnRow.alloc HM.out.own.outer _) _) ⟨wr.heap.size + 1, 0, none⟩ (by rfl) (⟨th, ek, eo, ef⟩, ⟨some ⟨wr.heap.size, 0, none⟩, 1, 1⟩) (cells_new (wr.alloc (.cells #[.int .i64 (n : Int), .int .i64 (num l n : Int)] 119)) (gpCell (⟨th, ek, eo, ef⟩, ⟨some ⟨wr.heap.size, 0, none⟩, 1, 1⟩)) _ _ (by simp)) (by omega) (by simp; omega) ?_
      intro v3 w4 hown4 hb5 hgrow hwhere
      obtain ⟨g3, cap3, hv3, _, _⟩ := OwnRow.block hown4 (by simp)
      rw [List.length_append, List.length_singleton] at hv3
      subst hv3
      have HF := Lib.hid (PastM.new (s := ⟨some ⟨wr.heap.size, 0, none⟩, 1, 1⟩) (q := wr.heap.size) HM.out hb2.drew HSP.out rfl (Nat.le_refl _) hown4 hb5 hgrow)
      have hne : ∀ (q : Nat) (t : TypeId) (ys : List Value), MidAt wr q t ys → t ≠ 113 → some q ≠ (Value.slice va gs.length vc).ownBlock := fun q t ys hm ht e => ht (row_type HM.out.own.outer e.symm _ _ _ hm)
      have hbx4 : EvBox w4 w.heap.size ⟨th, ek, eo, ef⟩ := (hgrow.block _ (HBX.out.later hb2.drew).lt (hne _ _ [.int .i64 th, .int .i64 ek, .int .i64 eo, .bool ef] HBX.out (by decide))).trans (HBX.out.later hb2.drew)
      have hpx4 : MidAt w4 W1.heap.size 119 (plCell (n, num l n)) := (hgrow.block _ (HPX.out.later hb2.drew).lt (hne _ _ _ HPX.out (by decide))).trans (HPX.out.later hb2.drew)
      have hv4 := (hb5.cell (p := ⟨P, 16, none⟩) hPl).trans (cell_later hb2 hv)
      have hf4 := (hb5.frozen (p := ⟨P, 16, none⟩) hPl).trans ((HM.out.later hb2).blk.frozen 16)
      have hSd : (fun W' => W'.cell? ⟨P, 16, none⟩ = some (.slice va gs.length vc) ∧ (W'.cell? ⟨w.heap.size, 0, none⟩ = some (.int .i64 (th : Int)) ∧ W'.cell? ⟨w.heap.size, 1, none⟩ = some (.int .i64 ek) ∧ W'.cell? ⟨w.heap.size, 2, none⟩ = some (.int .i64 eo) ∧ W'.cell? ⟨w.heap.size, 3, none⟩ = some (.bool ef)) ∧ W'.cell? ⟨W1.heap.size, 0, none⟩ = some (.int .i64 (n : Int)) ∧ W'.cell? ⟨W1.heap.size, 1, none⟩ = some (.int .i64 (num l n : Int))) w4 := ⟨hv4, hbx4.cells, hpx4.cell 0, hpx4.cell 1⟩
      clear hown4 hb5 hgrow hwhere hbx4 hpx4 hne
      refine hK.out _ _ hSd (fun _ => ?_)
      try simp only [List.getElem_toArray, List.getElem_cons_zero, List.getElem_cons_succ, Act.put, List.setIfInBounds_toArray, List.set_cons_zero, List.set_cons_succ]
      refine wpAnyH_take (i := 11) (v := ?_) rfl (by kernel_rfl) (by kernel_rfl) (by kernel_rfl) (fun _ _ _ h => h) (Or.inl ⟨by rfl, ?yield⟩) hSd ?_
      case yield => ((intro w hSw; (try dsimp only at hSw); go_simp) <;> with_reducible rfl)
      try simp only [List.getElem_toArray, List.getElem_cons_zero, List.getElem_cons_succ, Act.put, List.setIfInBounds_toArray, List.set_cons_zero, List.set_cons_succ]
      refine wpAnyH_take (i := 12) (v := ?_) rfl (by kernel_rfl) (by kernel_rfl) (by kernel_rfl) (fun _ _ _ h => h) (Or.inl ⟨by rfl, ?yield⟩) hSd ?_
      case yield => ((intro w hSw; (try dsimp only at hSw); go_simp) <;> with_reducible rfl)
      try simp only [List.getElem_toArray, List.getElem_cons_zero, List.getElem_cons_succ, Act.put, List.setIfInBounds_toArray, List.set_cons_zero, List.set_cons_succ]
      refine wpAnyH_take (i := 13) (v := ?_) rfl (by kernel_rfl) (by kernel_rfl) (by kernel_rfl) (fun _ _ _ h => h) (Or.inl ⟨by rfl, ?yield⟩) hSd ?_
      case yield => ((intro w hSw; (try dsimp only at hSw); go_simp) <;> with_reducible rfl)
      try simp only [List.getElem_toArray, List.getElem_cons_zero, List.getElem_cons_succ, Act.put]
      refine wpAnyH_done (by kernel_rfl) ?_ _
      have HFA := Lib.hid (HA.out.trans HF.out.2)
      have HFP := Lib.hid HF.out.1
      rw [← HE.out] at HFP
      clear HF HM HA hSa hSb hSc hSd HQ9 HE HG HSP HPX HBX e0 e1 e2 e3 q0 q1 hv hvf
      refine exitOr_normal ?_
      refine wpOp_step rfl (fun K hK => ?_)
      try simp only [List.getElem_toArray, List.getElem_cons_zero, List.getElem_cons_succ, Act.put]
      go_simp
      refine hK _ _ ?_
      go_wp2
      go_end0
      first
        | exact ⟨rfl, ⟨_, _, HFP.out⟩, HFA.out⟩
        | exact ⟨rfl, _, _, HFP.out, HFA.out⟩

end Go.Proofs.Ytkjjbcgecnjniaa

/- append(.., row...) of whatever elements onto a row of the call's own. -/
namespace Go.Proofs.Ytkjjbcgecnjniaa
open Go.RowKit

section
variable {T : Type} {f : T → List Value} {n : Nat}

theorem RowAt.cellAt {w : World} {b o : Nat} {l : List T} (h : RowAt w (some ⟨b, o, none⟩) n f l) (hf : ∀ x, (f x).length = n) (hn : 0 < n) (j : Nat) (u : Value) (hj : (cellsL f l)[j]? = some u) : w.cell? (Addr.add ⟨b, o, none⟩ j) = some u := by
  have hjl : j < l.length * n := by
    have := (List.getElem?_eq_some_iff.1 hj).1
    rwa [cellsL_length hf] at this
  obtain ⟨b', o', e, hc⟩ := h.2 (by rintro rfl; simp at hjl)
  cases e
  have hi : j / n < l.length := Nat.div_lt_of_lt_mul (by rw [Nat.mul_comm]; exact hjl)
  have e : j / n * n + j % n = j := Nat.div_add_mod' j n
  have hg := cellsL_get hf l (j / n) (j % n) hi (Nat.mod_lt j hn)
  rw [e, hj] at hg
  have h1 := hc (j / n) hi (j % n) u hg.symm
  rw [Nat.add_assoc, e] at h1
  rw [add_row]
  exact h1

/-- A whole row more. -/
theorem wp_copyR {P : Program} {w : World} {o : Oper} {a : Act} {K : Act → World → Prop} {Q : Exit → Act → World → Prop} (st et : TypeId) (bytes : Nat) (z : Value) (hu : P.underlying st = some (.slice et))
    (hinfo : (P.info? et).map (fun i => (i.zero, i.size, i.bytes)) = some (some z, n, bytes)) (hz : z.cells.size = n) (hn : 0 < n) (hby : bytes ≤ 1000) (hf : ∀ x, (f x).length = n) (h1 : ∀ x, ∀ v ∈ f x, v.oneCell' = true)
    (s x : Operand) (ho : o.op = .call { callee := .builtin .append, args := #[s, x], argTypes := #[st, st] }) (B : Nat) (v : Value) (l : List T) (hs : a.eval s = v) (hown : OwnRow w B et n f v l)
    (ra : Option Addr) (rcap : Nat) (row : List T) (hx : a.eval x = .slice ra row.length rcap) (hrow : RowAt w ra n f row) (hra : ra = none → rcap = 0 ∧ row = []) (hlen : l.length + row.length ≤ 1000000) (hB : B ≤ w.heap.size)
    (h : ∀ v' w', OwnRow w' B et n f v' (l ++ row) → Below B w w' → w.grownBy w' v.ownBlock → K (a.put o.dst v') w') : Oper.wp P o a w K Q := by
  obtain ⟨i, hi, hzz⟩ := Option.map_eq_some_iff.1 hinfo
  simp only [Prod.mk.injEq] at hzz
  obtain ⟨hiz, hisz, hiby⟩ := hzz
  have hbb : (l.length + row.length) * bytes ≤ 140737488355328 := by
    have : (l.length + row.length) * bytes ≤ 1000000 * 1000 := Nat.mul_le_mul hlen hby
    omega
  cases ra with
  | none =>
    obtain ⟨rfl, rfl⟩ := hra rfl
    have hrun := run_append_owned_none (P := P) (w := w) B st o.type et i n hu hi v l.length (cellsL f l) hown
    have hK := h v w (by rw [List.append_nil]; exact hown) (Below.refl _ _) ⟨rfl, rfl, rfl, Nat.le_refl _, fun _ _ _ => rfl⟩
    unfold Oper.wp
    simp [execOp, ho, resolve, invoke, builtin, hs, hx, hrun, Result.andThen]
    exact hK
  | some ad =>
    by_cases hne : row = []
    · subst hne
      refine wp_append_own w s x st ho B et i z n bytes hu hi hiz hisz hiby hz hn v l.length (cellsL f l) hs hown ad 0 rcap [] hx (by simp) (by simp) (by simp) (by unfold maxLen; simp at hlen; omega) (by simpa using hbb) hB ?_
      intro v' w' h2 h3 _
      refine h v' w' ?_ ((Below.refl B w).grown h3 hB (fun k hk => (World.ownsRow.lt hown k hk).1)) h3
      unfold OwnRow
      simpa using h2
    · obtain ⟨b, o', e, hc⟩ := hrow.2 hne
      injection e with e
      subst e
      refine wp_append_own w s x st ho B et i z n bytes hu hi hiz hisz hiby hz hn v l.length (cellsL f l) hs hown ⟨b, o', none⟩ row.length rcap (cellsL f row) hx (by rw [cellsL_length hf]) (fun j u hj => hrow.cellAt hf hn j u hj)
        (cellsL_one h1 _) (by unfold maxLen; omega) hbb hB ?_
      intro v' w' h2 h3 _
      refine h v' w' ?_ ((Below.refl B w).grown h3 hB (fun k hk => (World.ownsRow.lt hown k hk).1)) h3
      unfold OwnRow
      rw [List.length_append, cellsL_append]
      exact h2
/-- The same in a region whose order is drawn. -/
theorem step_copyR {P : Program} {w : World} {ops : Array Oper} {o : Oper} {a : Act} {K : Act → World → Prop} {Q : Exit → Act → World → Prop} {E : Prop} (st et : TypeId) (bytes : Nat) (z : Value) (hu : P.underlying st = some (.slice et))
    (hinfo : (P.info? et).map (fun i => (i.zero, i.size, i.bytes)) = some (some z, n, bytes)) (hz : z.cells.size = n) (hn : 0 < n) (hby : bytes ≤ 1000) (hf : ∀ x, (f x).length = n) (h1 : ∀ x, ∀ v ∈ f x, v.oneCell' = true) (hgd : o.guard = none)
    (s x : Operand) (ho : o.op = .call { callee := .builtin .append, args := #[s, x], argTypes := #[st, st] }) (B : Nat) (v : Value) (l : List T) (hs : a.eval s = v) (hown : OwnRow w B et n f v l)
    (ra : Option Addr) (rcap : Nat) (row : List T) (hx : a.eval x = .slice ra row.length rcap) (hrow : RowAt w ra n f row) (hra : ra = none → rcap = 0 ∧ row = []) (hlen : l.length + row.length ≤ 1000000) (hB : B ≤ w.heap.size)
    (h : ∀ v' w', OwnRow w' B et n f v' (l ++ row) → Below B w w' → w.grownBy w' v.ownBlock → K (a.put o.dst v') w') : if Region.wanted o (yielded ops a.tmps) = true then Oper.wp P o a w K Q else E := by
  have hw : Region.wanted o (yielded ops a.tmps) = true := by simp [Region.wanted, hgd]
  rw [if_pos hw]
  exact wp_copyR st et bytes z hu hinfo hz hn hby hf h1 s x ho B v l hs hown ra rcap row hx hrow hra hlen hB h
theorem wpl_copyR {P : Program} {w : World} {ops : Array Oper} {rest : List Oper} {o : Oper} {a : Act} {Q : Exit → Act → World → Prop} (st et : TypeId) (bytes : Nat) (z : Value) (hu : P.underlying st = some (.slice et))
    (hinfo : (P.info? et).map (fun i => (i.zero, i.size, i.bytes)) = some (some z, n, bytes)) (hz : z.cells.size = n) (hn : 0 < n) (hby : bytes ≤ 1000) (hf : ∀ x, (f x).length = n) (h1 : ∀ x, ∀ v ∈ f x, v.oneCell' = true) (hgd : o.guard = none)
    (s x : Operand) (ho : o.op = .call { callee := .builtin .append, args := #[s, x], argTypes := #[st, st] }) (B : Nat) (v : Value) (l : List T) (hs : a.eval s = v) (hown : OwnRow w B et n f v l)
    (ra : Option Addr) (rcap : Nat) (row : List T) (hx : a.eval x = .slice ra row.length rcap) (hrow : RowAt w ra n f row) (hra : ra = none → rcap = 0 ∧ row = []) (hlen : l.length + row.length ≤ 1000000) (hB : B ≤ w.heap.size)
    (h : ∀ v' w', OwnRow w' B et n f v' (l ++ row) → Below B w w' → w.grownBy w' v.ownBlock → wpList P ops Q rest (a.put o.dst v') w') : wpList P ops Q (o :: rest) a w :=
  wpList_plain hgd fun _ hK => wp_copyR st et bytes z hu hinfo hz hn hby hf h1 s x ho B v l hs hown ra rcap row hx hrow hra hlen hB fun v' w' h2 h3 h4 => hK _ _ (h v' w' h2 h3 h4)
end

end Go.Proofs.Ytkjjbcgecnjniaa

/- The beginning race keeps, while it goes along a row's clocks. -/
namespace Go.Proofs.Ytkjjbcgecnjniaa
open Go.RowKit

/-- All below B but the beginning's own block lies as it lay. -/
structure Low (P B : Nat) (w w' : World) : Prop where
  os : w'.os = w.os
  tape : w'.tape = w.tape
  output : w'.output = w.output
  size : w.heap.size ≤ w'.heap.size
  low : ∀ k, k < B → k ≠ P → w'.heap[k]? = w.heap[k]?
theorem Low.refl (P B : Nat) (w : World) : Low P B w w := ⟨rfl, rfl, rfl, Nat.le_refl _, fun _ _ _ => rfl⟩
theorem Low.trans {P B : Nat} {a b c : World} (h : Low P B a b) (k : Low P B b c) : Low P B a c :=
  ⟨k.os.trans h.os, k.tape.trans h.tape, k.output.trans h.output, Nat.le_trans h.size k.size, fun i hi hp => (k.low i hi hp).trans (h.low i hi hp)⟩
theorem Aside.toLow {P B : Nat} {w w' : World} (h : Aside P B w w') : Low P B w w' := ⟨h.os, h.tape, h.output, h.size, h.low⟩
theorem Low.of_below {P B : Nat} {w w' : World} (h : Below B w w') : Low P B w w' := ⟨h.os, h.tape, h.output, h.size, fun k hk _ => h.block k hk⟩
theorem Low.below {P B A : Nat} {w w' : World} (h : Low P B w w') (hP : A ≤ P) (hA : A ≤ B) : Below A w w' :=
  ⟨h.os, h.tape, h.output, h.size, fun k hk => h.low k (by omega) (by omega)⟩
theorem Low.cell {P B : Nat} {w w' : World} (h : Low P B w w') {a : Addr} (hB : a.block < B) (hP : a.block ≠ P) : w'.cell? a = w.cell? a := by
  unfold World.cell?
  rw [h.low _ hB hP]

/-- A row of races that grows leaves the beginning as it is. -/
theorem PastM.race {w w' : World} {P B n m : Nat} {cs : List (Nat → Nat)} {v v2 : Value} {xs : List (Ev × Sp)} {gs : List Gp} {ys : List Value} (h : PastM w P B cs v xs gs) (ho : w.ownsRow B 48 n v2 m ys) (hb : Below B w w') (hg : w.grownBy w' v2.ownBlock) : PastM w' P B cs v xs gs :=
  ⟨(hb.block P h.lt).trans h.blk, h.own.kept hg (fun r hr t ds hc => by
    have := row_type ho hr _ _ _ hc
    subst this
    exact ⟨by decide, by decide⟩), h.lt, Nat.le_trans h.le hb.size, h.four⟩

/-- A beginning without events. -/
theorem PastM.begin {w W1 : World} (l : List Ev) (hb : Below (w.heap.size + 1) (w.alloc (.cells #[.int .i64 0, .int .i64 0, .int .i64 0, .int .i64 0, .int .i64 0, .int .i64 0, .int .i64 0, .int .i64 0, .int .i64 0, .int .i64 0, .int .i64 0, .int .i64 0, .int .i64 0, .int .i64 0, .int .i64 0, .int .i64 0, .slice none 0 0] 70)) W1) :
    PastM W1 w.heap.size W1.heap.size (csOf l 0) (.slice none 0 0) [] (grp l 0) := by
  have h0 : PaAt (w.alloc (.cells #[.int .i64 0, .int .i64 0, .int .i64 0, .int .i64 0, .int .i64 0, .int .i64 0, .int .i64 0, .int .i64 0, .int .i64 0, .int .i64 0, .int .i64 0, .int .i64 0, .int .i64 0, .int .i64 0, .int .i64 0, .int .i64 0, .slice none 0 0] 70)) w.heap.size (csOf l 0) (.slice none 0 0) := heap_alloc_new w _
  have hs := hb.size
  rw [World.size_alloc] at hs
  exact ⟨(hb.block _ (Nat.lt_succ_self _)).trans h0, ownG_nil _ _, by omega, Nat.le_refl _, csOf_len _ _⟩
theorem num_pos (l : List Ev) (k : Nat) : 0 < num l k := by
  unfold num
  rw [cnt_succ]
  have : isT l (evI l k).thread k = true := by unfold isT; simp
  rw [this]
  simp
/-- A row's clocks, while the beginning grows. -/
theorem clk_low {W1 W : World} {P : Nat} {l : List Ev} {a : Option Addr} (hr : rightL l = true) (hrow : RowAt W1 a 4 ckCell (cks l)) (hP : PaAt W1 P (csOf l 0) (.slice none 0 0)) (hlow : Low P W1.heap.size W1 W) {k : Nat} (hk : k < l.length) :
    ∃ b o, a = some ⟨b, o, none⟩ ∧ W.cell? ⟨b, o + k * 4, none⟩ = some (.int .i64 (clk l k 0)) ∧ W.cell? ⟨b, o + k * 4 + 1, none⟩ = some (.int .i64 (clk l k 1)) ∧ W.cell? ⟨b, o + k * 4 + 2, none⟩ = some (.int .i64 (clk l k 2)) ∧ W.cell? ⟨b, o + k * 4 + 3, none⟩ = some (.int .i64 (clk l k 3)) := by
  have hlc := cks_len hr
  have hkc : k < (cks l).length := by omega
  obtain ⟨b, o, rfl, hc⟩ := hrow.2 (by intro e; rw [e] at hkc; simp at hkc)
  have hb : b < W1.heap.size := cell_block (hc k hkc 0 _ rfl)
  have hbP : b ≠ P := by
    rintro rfl
    have ht := rightEv_bd (e := evI l k) (by rw [evI_get hk]; exact rightL_get hr hk)
    obtain ⟨t, h1⟩ : ∃ t : Nat, (evI l k).thread = t := ⟨(evI l k).thread.toNat, by omega⟩
    have ht4 : t < 4 := by omega
    have h2 : W1.cell? ⟨b, o + k * 4 + t, none⟩ = some (.int .i64 (clk l k t)) := hc k hkc t _ (by rw [cks_get hr hk]; exact nums4_get _ ht4)
    have h3 := clk_own l k
    rw [h1] at h3
    have h4 := num_pos l k
    rw [h3] at h2
    rw [MidAt.cell hP] at h2
    have h5 := List.mem_of_getElem? h2
    have h6 : cellsL ckCell (csOf l 0) = List.replicate 16 (.int .i64 0) := rfl
    rw [h6] at h5
    rcases List.mem_append.1 h5 with h5 | h5
    · have h7 := (List.mem_replicate.1 h5).2
      injection h7 with _ h7
      omega
    · rw [List.mem_singleton] at h5
      cases h5
  have hcell : ∀ j u, (ckCell ((cks l)[k]))[j]? = some u → W.cell? ⟨b, o + k * 4 + j, none⟩ = some u := fun j u hj => (hlow.cell (a := ⟨b, o + k * 4 + j, none⟩) hb hbP).trans (hc k hkc j u hj)
  rw [cks_get hr hk] at hcell
  exact ⟨b, o, rfl, hcell 0 _ rfl, hcell 1 _ rfl, hcell 2 _ rfl, hcell 3 _ rfl⟩

theorem ownRow_low {T : Type} {w : World} {B A n : Nat} {t : TypeId} {f : T → List Value} {v : Value} {l : List T} (h : OwnRow w B t n f v l) (hA : A ≤ B) : OwnRow w A t n f v l := by
  obtain ⟨h1, h2 | ⟨g, cap, cur, h3, h4, h5⟩⟩ := h
  · exact ⟨h1, .inl h2⟩
  · exact ⟨h1, .inr ⟨g, cap, cur, h3, Nat.le_trans hA h4, h5⟩⟩
/-- The list that is told. -/
theorem wpl_appendRcs {w : World} {ops : Array Oper} {rest : List Oper} {o : Oper} {a : Act} {Q : Exit → Act → World → Prop} (hgd : o.guard = none)
    (s x : Operand) (ho : o.op = .call { callee := .builtin .append, args := #[s, x], argTypes := #[39, 39] }) (B : Nat) (v : Value) (l : List (Nat × Int)) (hs : a.eval s = v) (hown : OwnRow w B 48 2 rcCell v l)
    (u : Value) (row : List (Nat × Int)) (hx : a.eval x = u) (hrow : OwnRow w B 48 2 rcCell u row) (hlen : l.length + row.length ≤ 1000000) (hB : B ≤ w.heap.size)
    (h : ∀ v' w', OwnRow w' B 48 2 rcCell v' (l ++ row) → Below B w w' → w.grownBy w' v.ownBlock → wpList Try.prog ops Q rest (a.put o.dst v') w') : wpList Try.prog ops Q (o :: rest) a w := by
  obtain ⟨ra, rcap, rfl, hr, hn⟩ := hrow.form rcCell_len (by omega)
  refine wpl_copyR 39 48 16 _ Try.underlying39 infoRc rfl (by omega) (by omega) rcCell_len rcCell_one hgd s x ho B v l hs hown ra rcap row hx hr (fun e => ⟨hn e, ?_⟩) hlen hB h
  rcases hrow with ⟨_, ⟨_, h2⟩ | ⟨g, cap, cur, h2, _⟩⟩
  · exact List.eq_nil_of_length_eq_zero h2
  · subst e
    cases h2

end Go.Proofs.Ytkjjbcgecnjniaa

/- A part of a row, and one of its events. -/
namespace Go.Proofs.Ytkjjbcgecnjniaa
open Go.RowKit

theorem EvsAt.take {w : World} {a : Option Addr} {l : List Ev} (h : EvsAt w a l) (k : Nat) : EvsAt w a (l.take k) := by
  refine ⟨Nat.le_trans (List.length_take_le' _ _) h.1, fun hn => ?_⟩
  obtain ⟨b, o, rfl, hc⟩ := h.2 (by intro e; simp [e] at hn)
  refine ⟨b, o, rfl, fun i hi => ?_⟩
  have hi' : i < l.length := by simp at hi; omega
  have h1 := hc i hi'
  simpa using h1
theorem EvsAt.one {w : World} {a : Option Addr} {l : List Ev} (h : EvsAt w a l) {k : Nat} (hk : k < l.length) : ∃ b o, a = some ⟨b, o, none⟩ ∧ w.cell? ⟨b, o + k * 4, none⟩ = some (.int .i64 (evI l k).thread) ∧ w.cell? ⟨b, o + k * 4 + 1, none⟩ = some (.int .i64 (evI l k).kind) ∧
    w.cell? ⟨b, o + k * 4 + 2, none⟩ = some (.int .i64 (evI l k).obj) ∧ w.cell? ⟨b, o + k * 4 + 3, none⟩ = some (.bool (evI l k).fail) := by
  obtain ⟨b, o, rfl, hc⟩ := h.2 (by intro e; simp [e] at hk)
  refine ⟨b, o, rfl, ?_⟩
  rw [evI_get hk]
  exact hc k hk
theorem cnt_le_k (q : Nat → Bool) (n : Nat) : cnt q n ≤ n := by
  induction n with
  | zero => exact Nat.le_refl _
  | succ n ih => rw [cnt_succ]; split <;> omega

end Go.Proofs.Ytkjjbcgecnjniaa

/- The contract of race's Reversible. -/
namespace Go.Proofs.Ytkjjbcgecnjniaa
open Go.RowKit

/-- The races in a row, or none. -/
def rev4 (l : List Ev) : List (Nat × Int) := if rightL l = true then revL l else []
def RevR (l : List Ev) (w : World) (r : Ending) (w' : World) : Prop :=
  ∃ rv, r = .returned rv ∧ OwnRow w' w.heap.size 48 2 rcCell rv (rev4 l) ∧ Below w.heap.size w w'
/-- What holds ahead of event k. -/
def RvW (P : Nat) (l : List Ev) (W1 : World) (k : Nat) (lv : Value) (W : World) : Prop :=
  (∃ v xs, PastM W P W1.heap.size (csOf l k) v xs (grp l k)) ∧ OwnRow W W1.heap.size 48 2 rcCell lv (revTo l k) ∧ Low P W1.heap.size W1 W
theorem revTo_len (l : List Ev) (n : Nat) : (revTo l n).length ≤ n * n := by
  induction n with
  | zero => exact Nat.le_refl _
  | succ n ih =>
    rw [revTo_succ, List.length_append]
    have h1 : (revAt l n).length ≤ n := by
      unfold revAt
      rw [List.length_map]
      unfold withL
      refine Nat.le_trans (List.length_filter_le _ _) ?_
      rw [List.length_range, List.length_take]
      omega
    have h2 : (n + 1) * (n + 1) = n * n + 2 * n + 1 := by rw [Nat.add_mul, Nat.mul_add, Nat.mul_add]; omega
    omega
theorem revAt_raced {l : List Ev} {k : Nat} (h : k < l.length) : revAt l k = rcT (evI l k).thread (raced l k (evI l k)) := by
  unfold revAt rcT
  rw [withL_take _ (by omega)]

set_option maxRecDepth 100000 in
set_option maxHeartbeats 4000000 in
theorem reversible_any (a : Option Addr) (cap : Nat) (l : List Ev) (w : World) (hl : EvsAt w a l) (hm : l.length ≤ 200) :
    Calls Try.prog 13 #[.slice a l.length cap] w (RevR l w) := by
  have HL := Lib.hid hl
  clear hl
  unfold RevR
  have hb0 := below_alloc1 w (.cells #[.int .i64 0, .int .i64 0, .int .i64 0, .int .i64 0, .int .i64 0, .int .i64 0, .int .i64 0, .int .i64 0, .int .i64 0, .int .i64 0, .int .i64 0, .int .i64 0, .int .i64 0, .int .i64 0, .int .i64 0, .int .i64 0, .slice none 0 0] 70)
  go_enter Try.func13, Try.ntmps13
  go_wp2_with fail
  refine (clocks_any a cap l _ (HL.out.later hb0) (by omega)).mono ?_
  rintro r W1 ⟨a', cap', rfl, hrow, hb1⟩
  have hb1' := hb1
  rw [World.size_alloc] at hb1'
  have HPM : Hid (PastM W1 w.heap.size W1.heap.size (csOf l 0) (.slice none 0 0) [] (grp l 0)) := PastM.begin l hb1'
  have HB1 : Hid (Below w.heap.size w W1) := hb0.trans (hb1.mono hb0.size)
  have hsz : w.heap.size + 1 ≤ W1.heap.size := by
    have := hb1.size
    rwa [World.size_alloc] at this
  have HROW := Lib.hid hrow
  clear hb0 hb1 hb1' hrow
  cases hr : rightL l
  · have hc0 : (cks l).length = 0 := by rw [cks_wrong hr]; rfl
    rw [hc0]
    go_wp2_with fail
    go_loopw [4, 10] (fun v i wr => v = .slice none 0 0 ∧ i = .int .i64 0 ∧ wr = W1) (fun _ _ _ => 0)
    case atStart => exact ⟨rfl, rfl, rfl⟩
    case round =>
      obtain ⟨rfl, rfl, rfl⟩ := hrel
      go_wp2
      go_ret
      refine ⟨_, rfl, ?_, HB1.out⟩
      unfold rev4
      rw [if_neg (by rw [hr]; simp)]
      exact ownRow_nil _ _ _ _ _
  · have hc0 : (cks l).length = l.length := cks_len hr
    rw [hc0]
    go_wp2_with fail
    go_loopw [4, 10] (fun v i wr => ∃ k : Nat, k ≤ l.length ∧ i = .int .i64 k ∧ Hid (RvW w.heap.size l W1 k v wr)) (fun _ i _ => l.length - (intOf i).toNat)
    case atStart => exact ⟨0, Nat.zero_le _, rfl, ⟨_, _, HPM.out⟩, ownRow_nil _ _ _ _ _, Low.refl _ _ _⟩
    case round =>
      obtain ⟨k, hk, rfl, HR⟩ := hrel
      by_cases hlt : k < l.length
      · obtain ⟨⟨v, xs, hp⟩, ho, hlow⟩ := HR.out
        obtain ⟨b, o, rfl, c0, c1, c2, c3⟩ := clk_low hr HROW.out HPM.out.blk hlow hlt
        have hBw : Below w.heap.size w wr := HB1.out.trans (hlow.below (Nat.le_refl _) (by omega))
        obtain ⟨b2, o2, rfl, t0, t1, t2, t3⟩ := (HL.out.later hBw).one hlt
        have hb2 := below_alloc1 wr (.cells #[.int .i64 (clk l k 0), .int .i64 (clk l k 1), .int .i64 (clk l k 2), .int .i64 (clk l k 3)] 66)
        have ht := rightEv_bd (e := evI l k) (by rw [evI_get hlt]; exact rightL_get hr hlt)
        have HP2 := Lib.hid (hp.later hb2)
        have HO2 := Lib.hid (ho.later hb2)
        have HLW2 : Hid (Low w.heap.size W1.heap.size W1 (wr.alloc (.cells #[.int .i64 (clk l k 0), .int .i64 (clk l k 1), .int .i64 (clk l k 2), .int .i64 (clk l k 3)] 66))) := hlow.trans (Low.of_below (hb2.mono hp.le))
        have HT : Hid (MidAt (wr.alloc (.cells #[.int .i64 (clk l k 0), .int .i64 (clk l k 1), .int .i64 (clk l k 2), .int .i64 (clk l k 3)] 66)) wr.heap.size 66 (nums4 fun u => (clk l k u : Nat))) := heap_alloc_new _ _
        have HEV : Hid (∀ W', Below w.heap.size w W' → W'.cell? ⟨b2, o2 + k * 4, none⟩ = some (.int .i64 (evI l k).thread) ∧ W'.cell? ⟨b2, o2 + k * 4 + 1, none⟩ = some (.int .i64 (evI l k).kind) ∧ W'.cell? ⟨b2, o2 + k * 4 + 2, none⟩ = some (.int .i64 (evI l k).obj) ∧ W'.cell? ⟨b2, o2 + k * 4 + 3, none⟩ = some (.bool (evI l k).fail)) := by
          intro W' hb
          obtain ⟨b3, o3, e3, s0, s1, s2, s3⟩ := (HL.out.later hb).one hlt
          cases e3
          exact ⟨s0, s1, s2, s3⟩
        have s0 := cell_later hb2 t0
        have s1 := cell_later hb2 t1
        have s2 := cell_later hb2 t2
        have s3 := cell_later hb2 t3
        have HWS : Hid (w.heap.size + 1 ≤ wr.heap.size) := by
          have := hp.le
          show _ ≤ _
          omega
        clear hp ho hlow hBw t0 t1 t2 t3 hb2
        go_wp2_with fail
        refine (racing_any w.heap.size W1.heap.size k l (evI l k) v xs _ HP2.out hr (by omega) hm ht.1 (by omega)).mono ?_
        rintro r W2 ⟨rv, rfl, hrv, hb3⟩
        have HRV := Lib.hid hrv
        have HB3 := Lib.hid hb3
        have ho3 := HO2.out.later hb3
        have hp3 := HP2.out.later hb3
        have hle3 : W1.heap.size ≤ W2.heap.size := hp3.le
        have hrl : (revTo l k).length + (rcT (evI l k).thread (raced l k (evI l k))).length ≤ 1000000 := by
          have h7 := revTo_len l k
          have h8 := raced_len l k (evI l k)
          have h9 : k * k ≤ 200 * 200 := Nat.mul_le_mul (by omega) (by omega)
          unfold rcT
          rw [List.length_map]
          omega
        have hrv2 : OwnRow W2 W1.heap.size 48 2 rcCell rv (rcT (evI l k).thread (raced l k (evI l k))) := ownRow_low hrv HP2.out.le
        go_wp2_with (at_builtin; refine wpl_appendRcs rfl _ _ rfl W1.heap.size _ (revTo l k) rfl ho3 _ _ rfl hrv2 hrl hle3 ?_; intro v4 w4 h4 hb4 hg4)
        have HP4 := Lib.hid (hp3.race ho3 hb4 hg4)
        have HO4 : Hid (OwnRow w4 W1.heap.size 48 2 rcCell v4 (revTo l (k + 1))) := by
          show OwnRow _ _ _ _ _ _ _
          rw [revTo_succ, revAt_raced hlt]
          exact h4
        have HT4 : Hid (MidAt w4 wr.heap.size 66 (nums4 fun u => (clk l k u : Nat))) := by
          have h7 := HT.out.later hb3
          exact (hg4.block _ h7.lt (fun e => absurd (row_type ho3 e.symm _ _ _ h7) (by decide))).trans h7
        have HLW4 : Hid (Low w.heap.size W1.heap.size W1 w4) := (HLW2.out.trans (Low.of_below (hb3.mono HP2.out.le))).trans (Low.of_below hb4)
        have HQ : Hid (∀ W', Below w.heap.size w W' → MidAt W' wr.heap.size 66 (nums4 fun u => (clk l k u : Nat)) →
            (W'.cell? ⟨b2, o2 + k * 4, none⟩ = some (.int .i64 (evI l k).thread) ∧ W'.cell? ⟨b2, o2 + k * 4 + 1, none⟩ = some (.int .i64 (evI l k).kind) ∧ W'.cell? ⟨b2, o2 + k * 4 + 2, none⟩ = some (.int .i64 (evI l k).obj) ∧ W'.cell? ⟨b2, o2 + k * 4 + 3, none⟩ = some (.bool (evI l k).fail)) ∧
            (W'.cell? ⟨wr.heap.size, 0, none⟩ = some (.int .i64 (clk l k 0)) ∧ W'.cell? ⟨wr.heap.size, 1, none⟩ = some (.int .i64 (clk l k 1)) ∧ W'.cell? ⟨wr.heap.size, 2, none⟩ = some (.int .i64 (clk l k 2)) ∧ W'.cell? ⟨wr.heap.size, 3, none⟩ = some (.int .i64 (clk l k 3)))) :=
          fun W' hb hM => ⟨HEV.out W' hb, hM.four⟩
        have HADD := Lib.hid (padd_any w.heap.size W1.heap.size k l v xs w4.drew (HP4.out.later (Below.refl _ w4).drew) hr hlt (by omega))
        have hS0 := HQ.out w4.drew ((HB1.out.trans (HLW4.out.below (Nat.le_refl _) (by omega))).drew) HT4.out
        clear ho3 hp3 hrv2 h4 hb4 hg4 hb3 s0 s1 s2 s3 c0 c1 c2 c3 hrv hrl
        go_region_held3 (fun W' =>
            (W'.cell? ⟨b2, o2 + k * 4, none⟩ = some (.int .i64 (evI l k).thread) ∧ W'.cell? ⟨b2, o2 + k * 4 + 1, none⟩ = some (.int .i64 (evI l k).kind) ∧ W'.cell? ⟨b2, o2 + k * 4 + 2, none⟩ = some (.int .i64 (evI l k).obj) ∧ W'.cell? ⟨b2, o2 + k * 4 + 3, none⟩ = some (.bool (evI l k).fail)) ∧
            (W'.cell? ⟨wr.heap.size, 0, none⟩ = some (.int .i64 (clk l k 0)) ∧ W'.cell? ⟨wr.heap.size, 1, none⟩ = some (.int .i64 (clk l k 1)) ∧ W'.cell? ⟨wr.heap.size, 2, none⟩ = some (.int .i64 (clk l k 2)) ∧ W'.cell? ⟨wr.heap.size, 3, none⟩ = some (.int .i64 (clk l k 3))))
          (first | exact hS0 | exact hS5)
          (first | (go_at_call 26; ((with_reducible refine HADD.out.mono ?_); rintro r w5 ⟨rfl, v5, xs5, hp5, ha5⟩; have HP5 := Lib.hid hp5; have HA5 := Lib.hid ha5; have HLW5 : Hid (Low w.heap.size W1.heap.size W1 w5) := HLW4.out.trans ((Low.of_below (Below.refl _ w4).drew).trans ha5.toLow); have hS5 := HQ.out w5 (HB1.out.trans (HLW5.out.below (Nat.le_refl _) (by omega))) (ha5.keep _ _ _ _ HT4.out (by decide) (by decide) (by decide)); clear hp5 ha5)))
        have HO5 : Hid (OwnRow w5 W1.heap.size 48 2 rcCell v4 (revTo l (k + 1))) := HA5.out.row (World.ownsRow.drew HO4.out) (by decide) (by decide) (by decide)
        clear hS0 hS5 HA5 HO4 HADD HT4 HT HLW4 HLW2 HEV HP2 HO2 HP4 HQ HRV HB3
        go_wp2
        go_roundw
        case rel => exact ⟨k + 1, by omega, by go_num, ⟨_, _, HP5.out⟩, HO5.out, HLW5.out⟩
        case measure => simp [intOf]; omega
      · obtain rfl : k = l.length := by omega
        obtain ⟨_, ho, hlow⟩ := HR.out
        go_wp2
        go_ret
        refine ⟨_, rfl, ?_, HB1.out.trans (hlow.below (Nat.le_refl _) (by omega))⟩
        unfold rev4
        rw [if_pos hr]
        exact ownRow_low ho (by omega)

end Go.Proofs.Ytkjjbcgecnjniaa

/- The contracts of below, rightInstr. -/
namespace Go.Proofs.Ytkjjbcgecnjniaa
open Go.RowKit

theorem below_any (n e : Int) (w : World) : Calls Try.prog 54 #[.int .i64 n, .int .i64 e] w fun r w' => r = .returned (.bool (belowB n e)) ∧ w = w' := by
  go_enter Try.func54, Try.ntmps54
  go_wp2
  all_goals
    go_ret
    refine ⟨ret_bool ?_, rfl⟩
    simp [belowB]
    try omega

set_option maxRecDepth 100000 in
set_option maxHeartbeats 1000000 in
theorem rightInstr_any (V M size : Int) (hs : 0 ≤ size) (hs2 : size ≤ 1000) (t : Value) (i : Ins) (w : World) :
    Calls Try.prog 72 #[.agg #[.int .i64 V, .int .i64 M, t], .int .i64 size, insV i] w fun r w' => r = .returned (.bool (rightIns V M size i)) ∧ Below w.heap.size w w' := by
  obtain ⟨k, ri, x, n⟩ := i
  unfold insV
  dsimp only
  go_enter Try.func72, Try.ntmps72
  go_wp2_with (go_at_call 54; refine (below_any _ _ _).mono ?_; rintro r w' ⟨rfl, rfl⟩)
  all_goals
    go_ret
    refine ⟨ret_bool ?_, below_alloc2 _ _ _⟩
    simp [belowB] at *
    rw [Bool.eq_iff_iff]
    simp [rightIns, *]
    try omega

end Go.Proofs.Ytkjjbcgecnjniaa

/- A state of the program in memory: one block of 156 numbers. -/
namespace Go.Proofs.Ytkjjbcgecnjniaa
open Go.RowKit

def ins0 : Ins := ⟨0, 0, 0, 0⟩
def insNum (i : Ins) (k : Nat) : Int := if k = 0 then i.kind else if k = 1 then i.r else if k = 2 then i.x else i.n

/-- The number of cell k of a thread's 37. -/
def thrNum (c : List Ins) (x : Thr) (k : Nat) : Int :=
  if k < 32 then insNum (c.getD (k / 4) ins0) (k % 4)
  else if k = 32 then c.length
  else if k = 33 then x.at_
  else if k = 34 then x.fuel
  else x.r.getD (k - 35) 0

/-- The number of cell o of a state's 156. -/
def stNum (s : St) (o : Nat) : Int :=
  if o = 0 then s.ts.length
  else if o = 1 then s.p.mutexes
  else if o < 150 then thrNum (s.code ((o - 2) / 37)) (s.th ((o - 2) / 37)) ((o - 2) % 37)
  else if o < 154 then s.v.getD (o - 150) 0
  else s.m.getD (o - 154) (-1)

def numA (f : Nat → Int) : Array Value := ((List.range 156).map fun o => Value.int .i64 (f o)).toArray

theorem numA_size (f : Nat → Int) : (numA f).size = 156 := by simp [numA]
theorem numA_get (f : Nat → Int) (o : Nat) (h : o < 156) : (numA f)[o]? = some (.int .i64 (f o)) := by simp [numA, h]
theorem numA_one (f : Nat → Int) : (numA f).all (·.oneCell') = true := by
  simp [numA, Value.oneCell']
theorem numA_set (f g : Nat → Int) (o : Nat) (n : Int) (ho : o < 156) (h : ∀ j, j < 156 → g j = if j = o then n else f j) : (numA f).setIfInBounds o (.int .i64 n) = numA g := by
  apply Array.ext_getElem?
  intro j
  rw [Array.getElem?_setIfInBounds]
  by_cases hj : j < 156
  · rw [numA_get g j hj, h j hj]
    by_cases e : o = j
    · subst e; simp [numA_size, hj]
    · rw [if_neg e, if_neg (fun e' => e e'.symm), numA_get f j hj]
  · have h1 : (numA g)[j]? = none := Array.getElem?_eq_none (by rw [numA_size]; omega)
    have h2 : (numA f)[j]? = none := Array.getElem?_eq_none (by rw [numA_size]; omega)
    rw [h1, h2]
    split
    · rw [numA_size, if_neg (by omega)]
    · rfl
theorem numA_congr (f g : Nat → Int) (h : ∀ j, j < 156 → f j = g j) : numA f = numA g := by
  unfold numA
  congr 1
  apply List.map_congr_left
  intro j hj
  rw [h j (by simpa using hj)]

/-- In block b lies the state s. -/
def StAt (w : World) (b : Nat) (s : St) : Prop := w.heap[b]? = some (.cells (numA (stNum s)) 99 (0, 0))

theorem StAt.lt {w : World} {b : Nat} {s : St} (h : StAt w b s) : b < w.heap.size := (Array.getElem?_eq_some_iff.1 h).1
theorem StAt.num {w : World} {b : Nat} {s : St} (h : StAt w b s) (o : Nat) (ho : o < 156) : w.cell? ⟨b, o, none⟩ = some (.int .i64 (stNum s o)) := by
  rw [cell_of_row w b o _ _ _ h, numA_get _ _ ho]
theorem StAt.frozen {w : World} {b : Nat} {s : St} (h : StAt w b s) (o : Nat) : w.frozen? ⟨b, o, none⟩ = false := by
  simp [World.frozen?, show w.heap[b]? = _ from h]
theorem StAt.set {w : World} {b : Nat} {s : St} (h : StAt w b s) (s' : St) (o : Nat) (n : Int) (ho : o < 156) (hs : ∀ j, j < 156 → stNum s' j = if j = o then n else stNum s j) : StAt (w.setCell ⟨b, o, none⟩ (.int .i64 n)) b s' := by
  have := heap_setCell_same w b o _ _ (.int .i64 n) h
  rw [numA_set _ _ o n ho hs] at this
  exact this
theorem StAt.later {w w' : World} {b : Nat} {s : St} (h : StAt w b s) (hb : Below w.heap.size w w') : StAt w' b s := (hb.block b h.lt).trans h
theorem StAt.drew {w : World} {b : Nat} {s : St} (h : StAt w b s) : StAt w.drew b s := h

theorem stNum_threads (s : St) : stNum s 0 = s.ts.length := rfl
theorem stNum_mutexes (s : St) : stNum s 1 = s.p.mutexes := rfl
theorem stNum_thr (s : St) (t k : Nat) (ht : t < 4) (hk : k < 37) : stNum s (2 + t * 37 + k) = thrNum (s.code t) (s.th t) k := by
  unfold stNum
  rw [if_neg (by omega), if_neg (by omega), if_pos (by omega), show (2 + t * 37 + k - 2) / 37 = t by omega, show (2 + t * 37 + k - 2) % 37 = k by omega]
theorem stNum_var (s : St) (x : Nat) (h : x < 4) : stNum s (150 + x) = s.v.getD x 0 := by
  unfold stNum
  rw [if_neg (by omega), if_neg (by omega), if_neg (by omega), if_pos (by omega), show 150 + x - 150 = x by omega]
theorem stNum_who (s : St) (x : Nat) : stNum s (154 + x) = s.m.getD x (-1) := by
  unfold stNum
  rw [if_neg (by omega), if_neg (by omega), if_neg (by omega), if_neg (by omega), show 154 + x - 154 = x by omega]

theorem stNum_put (s : St) (t : Nat) (y : Thr) (k : Nat) (n : Int) (ht : t < s.ts.length) (h4 : s.ts.length ≤ 4) (hk : k < 37) (hy : ∀ j, j < 37 → thrNum (s.code t) y j = if j = k then n else thrNum (s.code t) (s.th t) j) :
    ∀ j, j < 156 → stNum (s.put t y) j = if j = 2 + t * 37 + k then n else stNum s j := by
  intro j hj
  have hth : ∀ u, (s.put t y).th u = if u = t then y else s.th u := fun u => by
    unfold St.put St.th
    simp only [Int.toNat_natCast]
    exact getD_set _ _ _ _ _ ht
  have hcd : ∀ u, (s.put t y).code u = s.code u := fun _ => rfl
  unfold stNum
  by_cases h0 : j = 0
  · rw [if_pos h0, if_neg (by omega), if_pos h0]; simp [St.put]
  rw [if_neg h0, if_neg (c := j = 0) h0]
  by_cases h1 : j = 1
  · rw [if_pos h1, if_neg (by omega), if_pos h1]; rfl
  rw [if_neg h1, if_neg (c := j = 1) h1]
  by_cases h2 : j < 150
  · rw [if_pos h2, if_pos h2, hth, hcd]
    by_cases e : (j - 2) / 37 = t
    · rw [if_pos e, e, hy _ (by omega)]
      by_cases e2 : (j - 2) % 37 = k
      · rw [if_pos e2, if_pos (by omega)]
      · rw [if_neg e2, if_neg (by omega)]
    · rw [if_neg e, if_neg (by omega)]
  · rw [if_neg h2, if_neg (c := j < 150) h2, if_neg (c := j = 2 + t * 37 + k) (by omega)]; rfl

theorem thrNum_at (c : List Ins) (x : Thr) (n : Nat) : ∀ j, j < 37 → thrNum c { x with at_ := n } j = if j = 33 then (n : Int) else thrNum c x j := by
  intro j hj
  unfold thrNum
  dsimp only
  by_cases e : j = 33
  · subst e; simp
  · rw [if_neg e]; simp only [e, if_false]
theorem thrNum_fuel (c : List Ins) (x : Thr) (n : Nat) : ∀ j, j < 37 → thrNum c { x with fuel := n } j = if j = 34 then (n : Int) else thrNum c x j := by
  intro j hj
  unfold thrNum
  dsimp only
  by_cases e : j = 34
  · subst e; simp
  · rw [if_neg e]; simp only [e, if_false]
theorem thrNum_reg (c : List Ins) (x : Thr) (r : Nat) (n : Int) (hr : r < 2) (hl : x.r.length = 2) : ∀ j, j < 37 → thrNum c { x with r := x.r.set r n } j = if j = 35 + r then n else thrNum c x j := by
  intro j hj
  unfold thrNum
  dsimp only
  by_cases h1 : j < 35
  · rw [if_neg (c := j = 35 + r) (by omega)]
    by_cases a : j < 32
    · simp [a]
    · by_cases b : j = 32
      · simp [b]
      · by_cases c : j = 33
        · simp [c]
        · have : j = 34 := by omega
          simp [this]
  · have a1 : ¬ j < 32 := by omega
    have a2 : ¬ j = 32 := by omega
    have a3 : ¬ j = 33 := by omega
    have a4 : ¬ j = 34 := by omega
    simp only [a1, a2, a3, a4, if_false]
    rw [getD_set _ _ _ _ _ (by omega)]
    by_cases e : j = 35 + r
    · rw [if_pos (by omega), if_pos e]
    · rw [if_neg (by omega), if_neg e]

theorem stNum_setVar (s : St) (x : Nat) (n : Int) (hx : x < 4) (hl : s.v.length = 4) : ∀ j, j < 156 → stNum { s with v := s.v.set x n } j = if j = 150 + x then n else stNum s j := by
  intro j hj
  unfold stNum St.th St.code
  dsimp only
  by_cases h2 : j < 150
  · rw [if_neg (c := j = 150 + x) (by omega)]; simp only [h2, if_true]
  · rw [if_neg (by omega), if_neg (by omega), if_neg h2]
    by_cases h3 : j < 154
    · rw [if_pos h3, getD_set _ _ _ _ _ (by omega)]
      by_cases e : j = 150 + x
      · rw [if_pos (by omega), if_pos e]
      · rw [if_neg (by omega), if_neg e, if_neg (by omega), if_neg (by omega), if_neg h2, if_pos h3]
    · rw [if_neg h3, if_neg (c := j = 150 + x) (by omega), if_neg (by omega), if_neg (by omega), if_neg h2, if_neg h3]
theorem stNum_setWho (s : St) (x : Nat) (n : Int) (hx : x < 2) (hl : s.m.length = 2) : ∀ j, j < 156 → stNum { s with m := s.m.set x n } j = if j = 154 + x then n else stNum s j := by
  intro j hj
  unfold stNum St.th St.code
  dsimp only
  by_cases h3 : j < 154
  · rw [if_neg (c := j = 154 + x) (by omega)]; simp only [h3, if_true]
  · rw [if_neg (by omega), if_neg (by omega), if_neg (by omega), if_neg h3, getD_set _ _ _ _ _ (by omega)]
    by_cases e : j = 154 + x
    · rw [if_pos (by omega), if_pos e]
    · rw [if_neg (by omega), if_neg e, if_neg (by omega), if_neg (by omega), if_neg (by omega), if_neg h3]

theorem Only.stAt {b c : Nat} {w w' : World} {s : St} (h : Only b w w') (hs : StAt w c s) (hc : c ≠ b) : StAt w' c s := (h.block c hs.lt hc).trans hs

end Go.Proofs.Ytkjjbcgecnjniaa

/- The contracts of what only reads a state: below, Threads, Var, Holder, instr, event, may. -/
namespace Go.Proofs.Ytkjjbcgecnjniaa
open Go.RowKit

theorem sbelow_any (n e : Int) (w : World) : Calls Try.prog 37 #[.int .i64 n, .int .i64 e] w fun r w' => r = .returned (.bool (belowB n e)) ∧ w = w' := by
  go_enter Try.func37, Try.ntmps37
  go_wp2
  all_goals
    go_ret
    refine ⟨ret_bool ?_, rfl⟩
    simp [belowB]
    try omega

theorem threads_any {s : St} {b : Nat} {w : World} (h : StAt w b s) : Calls Try.prog 28 #[.pointer (some ⟨b, 0, none⟩)] w fun r w' => r = .returned (.int .i64 s.ts.length) ∧ w = w' := by
  have c0 := h.num 0 (by omega)
  rw [stNum_threads] at c0
  have H := Lib.hid h
  clear h
  go_enter Try.func28, Try.ntmps28
  go_wp2
  go_ret
  exact ⟨rfl, rfl⟩

/-- An instruction, if there is one, as a value. -/
def insR (o : Option Ins) : Value := .tuple #[insV (o.getD ins0), .bool o.isSome]
/-- An event, if there is one, as a value. -/
def evR (o : Option Ev) : Value := .tuple #[evV (o.getD ev0), .bool o.isSome]

theorem thrNum_ins (c : List Ins) (x : Thr) (j : Nat) (hj : j < 8) (d : Nat) (hd : d < 4) : thrNum c x (j * 4 + d) = insNum (c.getD j ins0) d := by
  unfold thrNum
  rw [if_pos (by omega), show (j * 4 + d) / 4 = j by omega, show (j * 4 + d) % 4 = d by omega]

theorem thr_fuel (c : List Ins) (x : Thr) : thrNum c x 34 = x.fuel := rfl
theorem thr_at (c : List Ins) (x : Thr) : thrNum c x 33 = x.at_ := rfl
theorem thr_reg (c : List Ins) (x : Thr) (y : Nat) : thrNum c x (35 + y) = x.r.getD y 0 := by
  unfold thrNum
  rw [if_neg (by omega), if_neg (by omega), if_neg (by omega), if_neg (by omega), show 35 + y - 35 = y by omega]
theorem thr_size (c : List Ins) (x : Thr) : thrNum c x 32 = c.length := rfl
theorem St.Ok.len4 {F : Nat} {s : St} (h : s.Ok F) : s.ts.length ≤ 4 := by
  have := h.right
  unfold rightPg at this
  rw [Bool.and_eq_true, decide_eq_true_eq] at this
  have := h.len
  omega
theorem St.Ok.code8 {F : Nat} {s : St} (h : s.Ok F) (k : Nat) (hk : k < s.ts.length) : (s.code k).length ≤ 8 := by
  have hl := h.len
  unfold St.code
  rw [getD_lt _ (by omega)]
  exact (rightPg_code h.right (by omega)).1

theorem insR_none : insR none = .tuple #[.agg #[.int .i64 0, .int .i64 0, .int .i64 0, .int .i64 0], .bool false] := rfl
theorem insR_some (i : Ins) : insR (some i) = .tuple #[.agg #[.int .i64 i.kind, .int .i64 i.r, .int .i64 i.x, .int .i64 i.n], .bool true] := rfl

set_option maxRecDepth 100000 in
set_option maxHeartbeats 1000000 in
theorem instr_any {F : Nat} {s : St} {b : Nat} {w : World} (h : StAt w b s) (ok : s.Ok F) (t : Int) :
    Calls Try.prog 38 #[.pointer (some ⟨b, 0, none⟩), .int .i64 t] w fun r w' => r = .returned (insR (s.ins t)) ∧ Below w.heap.size w w' := by
  have hbl := h.lt
  have H := Lib.hid h
  have OK := Lib.hid ok
  clear h ok
  cases hb : belowB t s.ts.length
  · have hn : s.ins t = none := by
      unfold St.ins
      rw [if_neg (fun e => by have := e.1; unfold St.has at this; simp [belowB] at hb; omega)]
    rw [hn, insR_none]
    clear hn
    go_enter Try.func38, Try.ntmps38
    go_wp2_with (first
      | (go_at_call 37; refine (sbelow_any _ _ _).mono ?_; rintro r w' ⟨rfl, rfl⟩)
      | (go_at_call 28; refine (threads_any (H.out.later (below_alloc1 _ _))).mono ?_; rintro r w' ⟨rfl, rfl⟩))
    exact bodyPost_ret (v := .tuple #[.agg #[.int .i64 0, .int .i64 0, .int .i64 0, .int .i64 0], .bool false]) (by simp [results, Try.results38, go_sem]) rfl ⟨rfl, below_alloc1 w _⟩
  · obtain ⟨k, rfl⟩ : ∃ k : Nat, t = k := ⟨t.toNat, by simp [belowB] at hb; omega⟩
    have hk : k < s.ts.length := by simp [belowB] at hb; omega
    have h4 := OK.out.len4
    have hpl := OK.out.place k hk
    have h8 := OK.out.code8 k hk
    have cf := H.out.num (2 + k * 37 + 34) (by omega)
    rw [stNum_thr _ _ _ (by omega) (by omega), thr_fuel] at cf
    have ca := H.out.num (2 + k * 37 + 33) (by omega)
    rw [stNum_thr _ _ _ (by omega) (by omega), thr_at] at ca
    have cs := H.out.num (2 + k * 37 + 32) (by omega)
    rw [stNum_thr _ _ _ (by omega) (by omega), thr_size] at cs
    by_cases hf : (s.th k).fuel = 0
    · have hn : s.ins k = none := by
        unfold St.ins
        rw [if_neg (fun e => by have := e.2; simp at this; omega)]
      rw [hn, insR_none]
      rw [hf] at cf
      clear hn hf
      have hd : decide (((0 : Nat) : Int) = 0) = true := rfl
      go_enter Try.func38, Try.ntmps38
      go_wp2_with (first
        | (go_at_call 37; refine (sbelow_any _ _ _).mono ?_; rintro r w' ⟨rfl, rfl⟩)
        | (go_at_call 28; refine (threads_any (H.out.later (below_alloc1 _ _))).mono ?_; rintro r w' ⟨rfl, rfl⟩))
      go_quiet (fail)
      go_wp2
      exact bodyPost_ret (v := .tuple #[.agg #[.int .i64 0, .int .i64 0, .int .i64 0, .int .i64 0], .bool false]) (by simp [results, Try.results38, go_sem]) rfl ⟨rfl, below_set4 (below_alloc1 w _).drewN (Nat.le_refl _) _ _ _ _⟩
    · by_cases ha : (s.th k).at_ = (s.code k).length
      · have hn : s.ins k = none := by
          unfold St.ins
          split
          · exact List.getElem?_eq_none (by simp [ha])
          · rfl
        rw [hn, insR_none]
        have hf' : ((((s.th k).fuel : Nat) : Int) == 0) = false := by simp; omega
        have ha' : ((((s.th k).at_ : Nat) : Int) == (s.code k).length) = true := by simp [ha]
        clear hn hf ha
        generalize (s.th k).fuel = f at *
        generalize (s.th k).at_ = at_ at *
        generalize (s.code k).length = n at *
        go_enter Try.func38, Try.ntmps38
        go_wp2_with (first
          | (go_at_call 37; refine (sbelow_any _ _ _).mono ?_; rintro r w' ⟨rfl, rfl⟩)
          | (go_at_call 28; refine (threads_any (H.out.later (below_alloc1 _ _))).mono ?_; rintro r w' ⟨rfl, rfl⟩))
        go_quiet (fail)
        go_wp2
        exact bodyPost_ret (v := .tuple #[.agg #[.int .i64 0, .int .i64 0, .int .i64 0, .int .i64 0], .bool false]) (by simp [results, Try.results38, go_sem]) rfl ⟨rfl, below_set4 (below_alloc1 w _).drewN (Nat.le_refl _) _ _ _ _⟩
      · have hlt : (s.th k).at_ < (s.code k).length := by omega
        have hn : s.ins k = some (s.code k)[(s.th k).at_] := by
          unfold St.ins
          rw [if_pos ⟨⟨by omega, by omega⟩, by simpa using hf⟩]
          simp only [Int.toNat_natCast]
          exact List.getElem?_eq_getElem hlt
        rw [hn, insR_some]
        have hi : ∀ d, d < 4 → w.cell? ⟨b, 2 + k * 37 + (s.th k).at_ * 4 + d, none⟩ = some (.int .i64 (insNum (s.code k)[(s.th k).at_] d)) := by
          intro d hd
          have := H.out.num (2 + k * 37 + ((s.th k).at_ * 4 + d)) (by omega)
          rw [stNum_thr _ _ _ (by omega) (by omega), thrNum_ins _ _ _ (by omega) _ hd, getD_lt _ hlt] at this
          rw [Nat.add_assoc]
          exact this
        have c0 : w.cell? ⟨b, 2 + k * 37 + (s.th k).at_ * 4, none⟩ = some (.int .i64 (s.code k)[(s.th k).at_].kind) := hi 0 (by omega)
        have c1 : w.cell? ⟨b, 2 + k * 37 + (s.th k).at_ * 4 + 1, none⟩ = some (.int .i64 (s.code k)[(s.th k).at_].r) := hi 1 (by omega)
        have c2 : w.cell? ⟨b, 2 + k * 37 + (s.th k).at_ * 4 + 2, none⟩ = some (.int .i64 (s.code k)[(s.th k).at_].x) := hi 2 (by omega)
        have c3 : w.cell? ⟨b, 2 + k * 37 + (s.th k).at_ * 4 + 3, none⟩ = some (.int .i64 (s.code k)[(s.th k).at_].n) := hi 3 (by omega)
        generalize (s.code k)[(s.th k).at_] = i at *
        have hf' : ((((s.th k).fuel : Nat) : Int) == 0) = false := by simp; omega
        have ha' : ((((s.th k).at_ : Nat) : Int) == (s.code k).length) = false := by simp; omega
        have ha8 : (s.th k).at_ < 8 := by omega
        clear hn hf ha hi
        generalize (s.th k).fuel = f at *
        generalize (s.th k).at_ = at_ at *
        generalize (s.code k).length = n at *
        go_enter Try.func38, Try.ntmps38
        go_wp2_with (first
          | (go_at_call 37; refine (sbelow_any _ _ _).mono ?_; rintro r w' ⟨rfl, rfl⟩)
          | (go_at_call 28; refine (threads_any (H.out.later (below_alloc1 _ _))).mono ?_; rintro r w' ⟨rfl, rfl⟩))
        go_quiet (fail)
        go_wp2
        go_region
        go_wp2
        exact bodyPost_ret (v := .tuple #[.agg #[.int .i64 i.kind, .int .i64 i.r, .int .i64 i.x, .int .i64 i.n], .bool true]) (by simp [results, Try.results38, go_sem]) rfl ⟨rfl, below_set4 (below_alloc1 w _).drewN.drew (Nat.le_refl _) _ _ _ _⟩

set_option maxRecDepth 100000 in
set_option maxHeartbeats 2000000 in
theorem event_any {F : Nat} {s : St} {b : Nat} {w : World} (h : StAt w b s) (ok : s.Ok F) (t : Nat) (ht : t < s.ts.length) (i : Ins) (h6 : i.kind = 6 → 0 ≤ i.x ∧ i.x < 2) (h8 : i.kind = 8 → 0 ≤ i.r ∧ i.r < 2) :
    Calls Try.prog 39 #[.pointer (some ⟨b, 0, none⟩), .int .i64 t, insV i] w fun r w' => r = .returned (evV (s.ev t i)) ∧ Below w.heap.size w w' := by
  have hbl := h.lt
  have h4 := ok.len4
  have H := Lib.hid h
  clear h ok
  obtain ⟨kd, r, x, n⟩ := i
  unfold insV
  dsimp only at *
  by_cases e1 : kd = 1
  · subst e1
    have hev : s.ev t ⟨1, r, x, n⟩ = ⟨t, 2, x, false⟩ := rfl
    rw [hev, evV_mk]
    clear hev h6 h8
    go_enter Try.func39, Try.ntmps39
    go_wp2
    exact bodyPost_ret (v := .agg #[.int .i64 t, .int .i64 2, .int .i64 x, .bool false]) (by simp [results, Try.results39, go_sem]) rfl ⟨rfl, below_alloc2 w _ _⟩
  by_cases e2 : kd = 2
  · subst e2
    have hev : s.ev t ⟨2, r, x, n⟩ = ⟨t, 3, x, false⟩ := rfl
    rw [hev, evV_mk]
    clear hev h6 h8
    go_enter Try.func39, Try.ntmps39
    go_wp2
    exact bodyPost_ret (v := .agg #[.int .i64 t, .int .i64 3, .int .i64 x, .bool false]) (by simp [results, Try.results39, go_sem]) rfl ⟨rfl, below_alloc2 w _ _⟩
  by_cases e5 : kd = 5
  · subst e5
    have hev : s.ev t ⟨5, r, x, n⟩ = ⟨t, 4, x, false⟩ := rfl
    rw [hev, evV_mk]
    clear hev h6 h8
    go_enter Try.func39, Try.ntmps39
    go_wp2
    exact bodyPost_ret (v := .agg #[.int .i64 t, .int .i64 4, .int .i64 x, .bool false]) (by simp [results, Try.results39, go_sem]) rfl ⟨rfl, below_alloc2 w _ _⟩
  by_cases e6 : kd = 6
  · subst e6
    obtain ⟨hx0, hx2⟩ := h6 rfl
    obtain ⟨y, rfl⟩ : ∃ y : Nat, x = y := ⟨x.toNat, by omega⟩
    have hy : y < 2 := by omega
    have c0 := H.out.num (154 + y) (by omega)
    rw [stNum_who] at c0
    have hv : s.m.getD y (-1) = s.who y := rfl
    rw [hv] at c0
    clear hv h6 h8 hx0 hx2
    by_cases hw : s.who y = t
    · have hev : s.ev t ⟨6, r, y, n⟩ = ⟨t, 5, y, false⟩ := by simp [St.ev, hw]
      rw [hev, evV_mk]
      rw [hw] at c0
      clear hev hw
      go_enter Try.func39, Try.ntmps39
      go_wp2
      go_quiet (fail)
      go_wp2
      exact bodyPost_ret (v := .agg #[.int .i64 t, .int .i64 5, .int .i64 y, .bool false]) (by simp [results, Try.results39, go_sem]) rfl ⟨rfl, below_set4 (below_alloc2 w _ _).drewN (by omega) _ _ _ _⟩
    · have hev : s.ev t ⟨6, r, y, n⟩ = ⟨t, 1, 0, true⟩ := by simp [St.ev, hw]
      rw [hev, evV_mk]
      have hq : (s.who y == (t : Int)) = false := by simpa using hw
      clear hev hw
      go_enter Try.func39, Try.ntmps39
      go_wp2
      go_quiet (fail)
      go_wp2
      exact bodyPost_ret (v := .agg #[.int .i64 t, .int .i64 1, .int .i64 0, .bool true]) (by simp [results, Try.results39, go_sem]) rfl ⟨rfl, below_set4 (below_alloc2 w _ _).drewN (by omega) _ _ _ _⟩
  by_cases e8 : kd = 8
  · subst e8
    obtain ⟨hx0, hx2⟩ := h8 rfl
    obtain ⟨y, rfl⟩ : ∃ y : Nat, r = y := ⟨r.toNat, by omega⟩
    have hy : y < 2 := by omega
    have c0 := H.out.num (2 + t * 37 + (35 + y)) (by omega)
    rw [stNum_thr _ _ _ (by omega) (by omega), thr_reg, ← Nat.add_assoc] at c0
    have hev : s.ev t ⟨8, y, x, n⟩ = ⟨t, 1, 0, (s.th t).r.getD y 0 == 0⟩ := rfl
    rw [hev, evV_mk]
    generalize (s.th t).r.getD y 0 = g at *
    clear hev h6 h8 hx0 hx2
    go_enter Try.func39, Try.ntmps39
    go_wp2
    go_region
    go_wp2
    exact bodyPost_ret (v := .agg #[.int .i64 t, .int .i64 1, .int .i64 0, .bool (g == 0)]) (by simp [results, Try.results39, go_sem]) rfl ⟨rfl, (below_alloc2 w _ _).drew⟩
  · have hev : s.ev t ⟨kd, r, x, n⟩ = ⟨t, 1, 0, false⟩ := by simp [St.ev, e1, e2, e5, e6, e8]
    rw [hev, evV_mk]
    have f1 : (kd == 1) = false := by simpa using e1
    have f2 : (kd == 2) = false := by simpa using e2
    have f5 : (kd == 5) = false := by simpa using e5
    have f6 : (kd == 6) = false := by simpa using e6
    have f8 : (kd == 8) = false := by simpa using e8
    clear hev h6 h8 e1 e2 e5 e6 e8
    go_enter Try.func39, Try.ntmps39
    go_wp2
    exact bodyPost_ret (v := .agg #[.int .i64 t, .int .i64 1, .int .i64 0, .bool false]) (by simp [results, Try.results39, go_sem]) rfl ⟨rfl, below_alloc2 w _ _⟩


end Go.Proofs.Ytkjjbcgecnjniaa
