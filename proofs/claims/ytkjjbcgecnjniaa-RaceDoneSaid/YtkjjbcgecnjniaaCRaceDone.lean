/-
  RaceDone: the races of what a thread does next are those that its event has, once it is done, in the row with it: the law answers true, and its arguments read as they did.
  For every input, whatever its size and however its parts share memory; nothing is asked of it but what the statement's own form asks.
-/
import Derived.Deep.DeepCutAuto
import Derived.WalkKit
import Derived.ProofKit
import Derived.OpenShut
import Derived.Test.YtkjjbcgecnjniaaRows
import Derived.Test.YtkjjbcgecnjniaaPk01
import Derived.Test.YtkjjbcgecnjniaaPk04
import Derived.Test.YtkjjbcgecnjniaaPk05
import Derived.Test.YtkjjbcgecnjniaaPk06
import Derived.Test.YtkjjbcgecnjniaaPk07

/- What a step does may be: an event that is right. -/
namespace Go.Proofs.Ytkjjbcgecnjniaa

theorem ev_right {F : Nat} {s : St} (ok : s.Ok F) {t : Int} {e : Ev} {s1 : St} (h : s.step t = (0, e, s1)) : rightEv e = true := by
  obtain ⟨i, hi, _, rfl, _⟩ := St.step_ok0 h
  have hh := (St.ins_has hi).1
  have h4 : s.ts.length ≤ 4 := by
    have h1 := ok.len
    have h2 := ok.right
    unfold rightPg at h2
    rw [Bool.and_eq_true, decide_eq_true_eq] at h2
    omega
  unfold St.has at hh
  obtain ⟨o1, o2, _, _, _, _⟩ := ok.obj hi
  unfold rightEv St.ev
  rw [decide_eq_true_eq]
  repeat' split
  all_goals dsimp only
  all_goals (refine ⟨hh.1, by omega, ?_⟩)
  · exact .inr (.inl ⟨.inl rfl, by omega, by omega, rfl⟩)
  · exact .inr (.inl ⟨.inr rfl, by omega, by omega, rfl⟩)
  · exact .inr (.inr ⟨.inl rfl, by omega, by omega, rfl⟩)
  · exact .inr (.inr ⟨.inr rfl, by omega, by omega, rfl⟩)
  · exact .inl ⟨rfl, rfl⟩
  · exact .inl ⟨rfl, rfl⟩
  · exact .inl ⟨rfl, rfl⟩

end Go.Proofs.Ytkjjbcgecnjniaa

/- The races of what a thread does next, and those of the row with it. -/
namespace Go.Proofs.Ytkjjbcgecnjniaa
open Go.RowKit

theorem run_right {F : Nat} (row : List Int) : ∀ {s : St}, s.Ok F → (s.run row).2.1.all rightEv = true := by
  induction row with
  | nil => intro s _; rfl
  | cons t row ih =>
    intro s ok
    rw [St.run]
    split
    · rename_i h0
      split
      · have h1 : rightEv (s.step t).2.1 = true := ev_right ok (t := t) (e := (s.step t).2.1) (s1 := (s.step t).2.2) (by rw [← h0])
        have h2 := ih (ok.step_ok t)
        simp only [List.all_cons, h1, h2, Bool.and_self]
      · rfl
    · rfl
theorem rep_right {p : Pg} {fuel : Int} {row : List Int} {e : Int} {es : List Ev} {s : St} (h : rep p fuel row = (e, es, some s)) : rightL es = true := by
  obtain ⟨_, hg, _, rfl⟩ := rep_some h
  unfold goodPg at hg
  rw [Bool.and_eq_true, decide_eq_true_eq] at hg
  exact run_right row (new_ok hg.1 fuel.toNat (by omega))
theorem rightL_snoc7 {l : List Ev} {e : Ev} (h : rightL l = true) (he : rightEv e = true) : rightL (l ++ [e]) = true := by
  unfold rightL at *
  rw [List.all_append, h]
  simp [he]
/-- Those of one thread. -/
def ofT (t : Int) (L : List (Nat × Int)) : List (Nat × Int) := L.filter fun x => decide (x.2 = t)
theorem ofT_yes {t : Int} {L : List (Nat × Int)} {k : Nat} (hk : k < L.length) (h : L[k].2 = t) : ofT t (L.take (k + 1)) = ofT t (L.take k) ++ [L[k]] := by
  unfold ofT
  rw [List.take_succ_eq_append_getElem hk, List.filter_append]
  simp [h]
theorem ofT_no {t : Int} {L : List (Nat × Int)} {k : Nat} (hk : k < L.length) (h : L[k].2 ≠ t) : ofT t (L.take (k + 1)) = ofT t (L.take k) := by
  unfold ofT
  rw [List.take_succ_eq_append_getElem hk, List.filter_append]
  simp [h]
theorem ofT_len (t : Int) (L : List (Nat × Int)) : (ofT t L).length ≤ L.length := List.length_filter_le _ _
theorem ofT_rcT_same (t : Int) (l : List Nat) : ofT t (rcT t l) = rcT t l := by
  unfold ofT
  rw [List.filter_eq_self]
  intro x hx
  obtain ⟨i, _, rfl⟩ := List.mem_map.1 hx
  simp
theorem ofT_rcT_ne {t u : Int} (h : u ≠ t) (l : List Nat) : ofT t (rcT u l) = [] := by
  unfold ofT
  rw [List.filter_eq_nil_iff]
  intro x hx
  obtain ⟨i, _, rfl⟩ := List.mem_map.1 hx
  simpa using h
theorem ofT_app (t : Int) (a b : List (Nat × Int)) : ofT t (a ++ b) = ofT t a ++ ofT t b := List.filter_append _ _
theorem ofT_races_lt (nx : Int → Option Ev) (l : List Ev) {t : Nat} : ∀ {n : Nat}, n ≤ t → ofT (t : Int) (racesN nx l n) = [] := by
  intro n
  induction n with
  | zero => intro _; rfl
  | succ n ih =>
    intro h
    rw [racesN_succ, ofT_app, ih (by omega)]
    split
    · rfl
    · rw [ofT_rcT_ne (by omega)]
      rfl
theorem ofT_races {nx : Int → Option Ev} {l : List Ev} {t : Nat} {e : Ev} (h : nx t = some e) : ∀ {n : Nat}, t < n → ofT (t : Int) (racesN nx l n) = rcT (t : Int) (withL l e) := by
  intro n
  induction n with
  | zero => intro h; omega
  | succ n ih =>
    intro hn
    rw [racesN_succ, ofT_app]
    by_cases e1 : t = n
    · subst e1
      rw [ofT_races_lt nx l (Nat.le_refl _), h, List.nil_append]
      exact ofT_rcT_same _ _
    · rw [ih (by omega)]
      split
      · simp [ofT]
      · rw [ofT_rcT_ne (by omega), List.append_nil]
theorem rev4_snoc {l : List Ev} {e : Ev} (h : rightL l = true) (he : rightEv e = true) : rev4 (l ++ [e]) = rev4 l ++ rcT e.thread (withL l e) := by
  unfold rev4
  rw [if_pos h, if_pos (rightL_snoc7 h he), revL_snoc]
  rfl

end Go.Proofs.Ytkjjbcgecnjniaa

/- A whole row of events behind a row of one's own, and what else stays. -/
namespace Go.Proofs.Ytkjjbcgecnjniaa
open Go.RowKit

theorem wp_copyE2 {w : World} {o : Oper} {a : Act} {K : Act → World → Prop} {Q : Exit → Act → World → Prop} (s x : Operand)
    (ho : o.op = .call { callee := .builtin .append, args := #[s, x], argTypes := #[26, 26] }) (B : Nat) (v : Value) (es : List Ev) (hs : a.eval s = v) (hown : OwnE w B v es)
    (ra : Option Addr) (rcap : Nat) (row : List Ev) (hx : a.eval x = .slice ra row.length rcap) (hrow : EvsAt w ra row) (hra : ra = none → rcap = 0 ∧ row = [])
    (hlen : es.length + row.length ≤ 1000000) (hB : B ≤ w.heap.size)
    (h : ∀ v' w', OwnE w' B v' (es ++ row) → Below B w w' → w.grownBy w' v.ownBlock → K (a.put o.dst v') w') : Oper.wp Try.prog o a w K Q := by
  have hinfo : (Try.prog.info? 50).map (fun i => (i.zero, i.size, i.bytes)) = some (some (.agg #[.int .i64 0, .int .i64 0, .int .i64 0, .bool false]), 4, 32) := by kernel_rfl
  obtain ⟨i, hi, hzz⟩ := Option.map_eq_some_iff.1 hinfo
  simp only [Prod.mk.injEq] at hzz
  obtain ⟨hz, hsz, hby⟩ := hzz
  cases ra with
  | none =>
    obtain ⟨rfl, rfl⟩ := hra rfl
    have hrun := run_append_owned_none (P := Try.prog) (w := w) B 26 o.type 50 i 4 Try.underlying26 hi v es.length (evCells es) hown
    have hK := h v w (by rw [List.append_nil]; exact hown) (Below.refl _ _) ⟨rfl, rfl, rfl, Nat.le_refl _, fun _ _ _ => rfl⟩
    unfold Oper.wp
    simp [execOp, ho, resolve, invoke, builtin, hs, hx, hrun, Result.andThen]
    exact hK
  | some ad =>
    by_cases hne : row = []
    · subst hne
      refine wp_append_own w s x 26 ho B 50 i (.agg #[.int .i64 0, .int .i64 0, .int .i64 0, .bool false]) 4 32 Try.underlying26 hi hz hsz hby rfl (by decide) v es.length (evCells es) hs hown ad 0 rcap [] hx (by simp) (by simp) (by simp) (by unfold maxLen; omega) (by omega) hB ?_
      intro v' w' h1 h2 _
      refine h v' w' ?_ ((Below.refl B w).grown h2 hB (fun k hk => (World.ownsRow.lt hown k hk).1)) h2
      unfold OwnE
      simpa using h1
    · obtain ⟨b, o', e, hc⟩ := hrow.2 hne
      injection e with e
      subst e
      refine wp_append_own w s x 26 ho B 50 i (.agg #[.int .i64 0, .int .i64 0, .int .i64 0, .bool false]) 4 32 Try.underlying26 hi hz hsz hby rfl (by decide) v es.length (evCells es) hs hown ⟨b, o', none⟩ row.length rcap (evCells row) hx (by rw [evCells_length]) (fun j u hj => hrow.cellAt j u hj)
        (evCells_one _) (by unfold maxLen; omega) (by omega) hB ?_
      intro v' w' h1 h2 _
      refine h v' w' ?_ ((Below.refl B w).grown h2 hB (fun k hk => (World.ownsRow.lt hown k hk).1)) h2
      unfold OwnE
      rw [List.length_append, evCells_append]
      exact h1

/-- The same in a region whose order is drawn. -/
theorem step_copyE2 {w : World} {ops : Array Oper} {o : Oper} {a : Act} {K : Act → World → Prop} {Q : Exit → Act → World → Prop} {E : Prop} (hgd : o.guard = none) (s x : Operand)
    (ho : o.op = .call { callee := .builtin .append, args := #[s, x], argTypes := #[26, 26] }) (B : Nat) (v : Value) (es : List Ev) (hs : a.eval s = v) (hown : OwnE w B v es)
    (ra : Option Addr) (rcap : Nat) (row : List Ev) (hx : a.eval x = .slice ra row.length rcap) (hrow : EvsAt w ra row) (hra : ra = none → rcap = 0 ∧ row = [])
    (hlen : es.length + row.length ≤ 1000000) (hB : B ≤ w.heap.size)
    (h : ∀ v' w', OwnE w' B v' (es ++ row) → Below B w w' → w.grownBy w' v.ownBlock → K (a.put o.dst v') w') : if Region.wanted o (yielded ops a.tmps) = true then Oper.wp Try.prog o a w K Q else E := by
  have hw : Region.wanted o (yielded ops a.tmps) = true := by simp [Region.wanted, hgd]
  rw [if_pos hw]
  exact wp_copyE2 s x ho B v es hs hown ra rcap row hx hrow hra hlen hB h

theorem evs_one1 (w : World) (e : Ev) : EvsAt (w.alloc (.cells #[.int .i64 e.thread, .int .i64 e.kind, .int .i64 e.obj, .bool e.fail] 50)) (some ⟨w.heap.size, 0, none⟩) [e] := by
  refine ⟨by simp [maxLen], fun _ => ⟨w.heap.size, 0, rfl, fun i hi => ?_⟩⟩
  obtain rfl : i = 0 := by simp at hi; omega
  simp
theorem EvsAt.grown {w w' : World} {g : Nat} {l : List Ev} {row : Option Nat} (h : EvsAt w (some ⟨g, 0, none⟩) l) (hg : w.grownBy w' row) (hne : some g ≠ row) : EvsAt w' (some ⟨g, 0, none⟩) l := by
  refine ⟨h.1, fun hn => ?_⟩
  obtain ⟨b, o, e, hc⟩ := h.2 hn
  cases e
  refine ⟨g, 0, rfl, fun i hi => ?_⟩
  obtain ⟨h0, h1, h2, h3⟩ := hc i hi
  have hs : ∀ o, w'.cell? ⟨g, o, none⟩ = w.cell? ⟨g, o, none⟩ := fun o => World.cell?_of_block (hg.block g (cell_block h0) hne)
  exact ⟨(hs _).trans h0, (hs _).trans h1, (hs _).trans h2, (hs _).trans h3⟩

/-- The three ways in which an empty row and a row of one come to lie. -/
structure Ways (W : World) (e : Ev) : Prop where
  a : OwnE (W.alloc (.cells #[] 50)).drew W.heap.size (.slice (some ⟨W.heap.size, 0, none⟩) 0 0) []
  b : OwnE ((W.alloc (.cells #[] 50)).alloc (.cells #[.int .i64 e.thread, .int .i64 e.kind, .int .i64 e.obj, .bool e.fail] 50)).drew W.heap.size (.slice (some ⟨W.heap.size, 0, none⟩) 0 0) []
  bt : EvsAt ((W.alloc (.cells #[] 50)).alloc (.cells #[.int .i64 e.thread, .int .i64 e.kind, .int .i64 e.obj, .bool e.fail] 50)).drew (some ⟨W.heap.size + 1, 0, none⟩) [e]
  c : OwnE ((W.alloc (.cells #[.int .i64 e.thread, .int .i64 e.kind, .int .i64 e.obj, .bool e.fail] 50)).alloc (.cells #[] 50)).drew W.heap.size (.slice (some ⟨W.heap.size + 1, 0, none⟩) 0 0) []
  ct : EvsAt ((W.alloc (.cells #[.int .i64 e.thread, .int .i64 e.kind, .int .i64 e.obj, .bool e.fail] 50)).alloc (.cells #[] 50)).drew (some ⟨W.heap.size, 0, none⟩) [e]
theorem ways (W : World) (e : Ev) : Ways W e := by
  have h0 : OwnE (W.alloc (.cells #[] 50)) W.heap.size (.slice (some ⟨W.heap.size, 0, none⟩) 0 0) [] := ownE_empty W _ rfl
  have h1 : OwnE ((W.alloc (.cells #[.int .i64 e.thread, .int .i64 e.kind, .int .i64 e.obj, .bool e.fail] 50)).alloc (.cells #[] 50)) (W.heap.size + 1) (.slice (some ⟨W.heap.size + 1, 0, none⟩) 0 0) [] := by
    have := ownE_empty (W.alloc (.cells #[.int .i64 e.thread, .int .i64 e.kind, .int .i64 e.obj, .bool e.fail] 50)) _ rfl
    rwa [World.size_alloc] at this
  have h2 := evs_one1 (W.alloc (.cells #[] 50)) e
  rw [World.size_alloc] at h2
  have h3 := (evs_one1 W e).later (below_alloc1 _ (.cells #[] 50))
  refine ⟨h0, OwnE.alloc h0 _, h2, ?_, h3⟩
  obtain ⟨g1, g2 | ⟨g, cap, cur, g2, g3, g4⟩⟩ := h1
  · exact ⟨g1, .inl g2⟩
  · exact ⟨g1, .inr ⟨g, cap, cur, g2, by omega, g4⟩⟩

end Go.Proofs.Ytkjjbcgecnjniaa

/- RaceDone: the races of what a thread does next are those that its event has, once it is done, in the row with it. -/
namespace Go.Proofs.Ytkjjbcgecnjniaa
open Go.RowKit

theorem ownsRow_onlyNe {w w' : World} {g base size n : Nat} {e : TypeId} {v : Value} {xs : List Value} (h : w.ownsRow base e size v n xs) (hne : v.ownBlock ≠ some g) (ho : Only g w w') : w'.ownsRow base e size v n xs := by
  obtain ⟨h1, h2 | ⟨b, cap, cur, h2, h3, h4, h5⟩⟩ := h
  · exact ⟨h1, .inl h2⟩
  · refine ⟨h1, .inr ⟨b, cap, cur, h2, h3, (ho.block b (Array.getElem?_eq_some_iff.1 h4).1 ?_).trans h4, h5⟩⟩
    rintro rfl
    apply hne
    rw [h2]
    rfl
theorem st_not_own {W : World} {v : Value} {b base size n : Nat} {e : TypeId} {xs : List Value} {s : St} (hs : StAt W b s) (hv : W.ownsRow base e size v n xs) (he : e ≠ 99) : v.ownBlock ≠ some b := by
  intro e1
  obtain ⟨_, ⟨rfl, _⟩ | ⟨g, cap, cur, rfl, _, hg, _⟩⟩ := hv
  · cases e1
  · injection e1 with e1
    have e2 : g = b := e1
    subst e2
    rw [show W.heap[g]? = _ from hs] at hg
    injection hg with hg
    injection hg with _ h2
    exact he h2.symm
theorem OwnE.form2 {w : World} {B : Nat} {v : Value} {es : List Ev} (h : OwnE w B v es) (hm : es.length ≤ 1000000) : ∃ a cap, v = .slice a es.length cap ∧ EvsAt w a es ∧ (a = none → cap = 0 ∧ es = []) := by
  obtain ⟨a, cap, e, he⟩ := h.form hm
  refine ⟨a, cap, e, he, fun ha => ?_⟩
  subst ha
  obtain ⟨h1, ⟨h2, h3⟩ | ⟨g, cap', cur, h2, _⟩⟩ := h
  · rw [e] at h2
    injection h2 with _ _ h4
    exact ⟨h4, List.eq_nil_of_length_eq_zero h3⟩
  · rw [e] at h2
    injection h2 with h4
    cases h4
theorem OwnRow.form2 {T : Type} {f : T → List Value} {n : Nat} {w : World} {B : Nat} {t : TypeId} {v : Value} {l : List T} (h : OwnRow w B t n f v l) (hf : ∀ x, (f x).length = n) (hm : l.length ≤ 1000000) : ∃ a cap, v = .slice a l.length cap ∧ RowAt w a n f l ∧ l.length ≤ cap ∧ ((a = none ∧ cap = 0 ∧ l = []) ∨ ∃ g, a = some ⟨g, 0, none⟩) := by
  obtain ⟨a, cap, e, he, h0⟩ := h.form hf hm
  obtain ⟨h1, ⟨h2, h3⟩ | ⟨g, cap', cur, h2, h3, h4, h5, h6, h7, h8⟩⟩ := h
  · rw [e] at h2
    injection h2 with h4 _ h5
    exact ⟨a, cap, e, he, by omega, .inl ⟨h4, h5, List.eq_nil_of_length_eq_zero h3⟩⟩
  · rw [e] at h2
    injection h2 with h4' _ h5'
    subst h5'
    exact ⟨a, cap, e, he, by omega, .inr ⟨g, h4'⟩⟩
theorem OwnE.at_ {w : World} {B n cap : Nat} {a : Option Addr} {es : List Ev} (h : OwnE w B (.slice a n cap) es) (hm : es.length ≤ 1000000 := by omega) : EvsAt w a es := by
  obtain ⟨a', cap', e, he⟩ := h.form hm
  injection e with e
  subst e
  exact he
theorem may_next {s : St} {t : Int} (h : s.may t = true) : ∃ x s', s.next t = some x ∧ s.step t = (0, x, s') ∧ 0 ≤ t ∧ t < s.ts.length := by
  unfold St.may at h
  cases hi : s.ins t with
  | none => rw [hi] at h; cases h
  | some i =>
    have hm : s.may t = true := by unfold St.may; exact h
    have hh := (St.ins_has hi).1
    unfold St.has at hh
    exact ⟨s.ev t i, s.do_ t i, by unfold St.next; rw [hi]; rfl, St.step_may hi hm, hh⟩

set_option maxRecDepth 100000 in
set_option maxHeartbeats 8000000 in
theorem raceDone_any (p : Pg) (a : Option Addr) (cap : Nat) (fuel : Int) (ra : Option Addr) (row : List Int) (rcap : Nat) (t : Int) (w : World) (hp : ThreadsAt w a p.threads) (hrow : NumsAt w ra row) :
    Calls Try.prog 6 #[.agg #[.int .i64 p.vars, .int .i64 p.mutexes, .slice a p.threads.length cap], .int .i64 fuel, .slice ra row.length rcap, .int .i64 t] w fun r w' => r = .returned (.bool true) ∧ Below w.heap.size w w' := by
  have hrm := hrow.1
  unfold maxLen at hrm
  have HP := Lib.hid hp
  have HROW := Lib.hid hrow
  clear hp hrow
  go_enter Try.func6, Try.ntmps6
  go_wp2_with fail
  refine (awake7_any _).mono ?_
  rintro r w1 ⟨rfl, hb1⟩
  have hc1 : ∀ o, w1.cell? ⟨w.heap.size, o, none⟩ = (w.alloc (.cells #[.int .i64 p.vars, .int .i64 p.mutexes, .slice a p.threads.length cap] 24)).cell? ⟨w.heap.size, o, none⟩ := fun o => hb1.cell (p := ⟨w.heap.size, o, none⟩) (by simp)
  have hw1 : Below w.heap.size w w1 := (below_alloc1 w _).trans (hb1.mono (by simp))
  have hz1 : w.heap.size < w1.heap.size := by have := hb1.size; simp at this; omega
  clear hb1
  go_wp2_with fail
  refine (few_any p a cap w1 (HP.out.later hw1)).mono ?_
  rintro r w2 ⟨rfl, hb2⟩
  have hc2 : ∀ o, w2.cell? ⟨w.heap.size, o, none⟩ = w1.cell? ⟨w.heap.size, o, none⟩ := fun o => hb2.cell (p := ⟨w.heap.size, o, none⟩) hz1
  have hw2 : Below w.heap.size w w2 := hw1.trans (hb2.mono hw1.size)
  have hz2 : w.heap.size < w2.heap.size := by have := hb2.size; omega
  clear hb2
  cases hf : fewPg p
  · clear hf hc1 hc2
    go_wp2_with fail
    refine (awake7_any _).mono ?_
    rintro r w3 ⟨rfl, hb3⟩
    have hw3 : Below w.heap.size w w3 := hw2.trans (hb3.mono hw2.size)
    go_wp2
    go_ret
    exact ⟨rfl, hw3⟩
  clear hf
  by_cases hN : 40 < row.length
  · clear hc1 hc2
    go_wp2_with fail
    refine (awake7_any _).mono ?_
    rintro r w3 ⟨rfl, hb3⟩
    have hw3 : Below w.heap.size w w3 := hw2.trans (hb3.mono hw2.size)
    go_wp2
    go_ret
    exact ⟨rfl, hw3⟩
  have c0 : w2.cell? ⟨w.heap.size, 0, none⟩ = some (.int .i64 p.vars) := by rw [hc2, hc1]; simp
  have c1 : w2.cell? ⟨w.heap.size, 1, none⟩ = some (.int .i64 p.mutexes) := by rw [hc2, hc1]; simp
  have c2 : w2.cell? ⟨w.heap.size, 2, none⟩ = some (.slice a p.threads.length cap) := by rw [hc2, hc1]; simp
  clear hc1 hc2
  go_wp2_with fail
  refine (replay_any p a cap fuel ra rcap row w2 (HP.out.later hw2) (HROW.out.later hw2) (by omega)).mono ?_
  rintro r w3 ⟨hb3, hmt⟩
  have HW3 := Lib.hid (hw2.trans (hb3.mono hw2.size))
  clear c0 c1 c2 hb3 hw1 hw2
  rcases hrep : rep p fuel row with ⟨e, es, _ | s⟩
  · have q0 : (e == 0) = false := by simpa using rep_none hrep
    have q1 : (e != 0) = true := by simpa using rep_none hrep
    rw [hrep] at hmt
    dsimp only at hmt
    obtain rfl := hmt
    clear hrep
    go_wp2
    go_ret
    exact ⟨rfl, HW3.out⟩
  obtain ⟨rfl, _, _⟩ := rep_some hrep
  have hel := rep_len hrep
  have HRT := Lib.hid (rep_right hrep)
  rw [hrep] at hmt
  dsimp only at hmt
  obtain ⟨g, v, rfl, hg, hs, ok, ho⟩ := hmt
  obtain ⟨av, cv, rfl, hE, hna⟩ := OwnE.form2 ho (by omega)
  have HS := Lib.hid hs
  have OK := Lib.hid ok
  have HE := Lib.hid hE
  have HO := Lib.hid ho
  have HNA := Lib.hid hna
  have h4 := ok.len4
  clear hs ok ho hE hrep hna
  go_wp2_with fail
  refine (enabled_any HS.out OK.out t).mono ?_
  rintro r w4 ⟨rfl, hb4⟩
  cases hm : s.may t
  · have HW4 := Lib.hid (HW3.out.trans (hb4.mono HW3.out.size))
    clear hm hb4
    go_wp2
    go_ret
    exact ⟨rfl, HW4.out⟩
  obtain ⟨x, s', hnx, hst, ht0, htl⟩ := may_next hm
  have HNX := Lib.hid hnx
  have HST := Lib.hid hst
  have hxt := next_thread hnx
  have HXT := Lib.hid hxt
  have HXR := Lib.hid (ev_right OK.out hst)
  clear hm hnx hst hxt
  go_wp2_with fail
  refine (races_st (HS.out.later hb4) OK.out h4 av cv es (HE.out.later hb4) (by omega)).mono ?_
  rintro r w5 ⟨rv, rfl, hrv, hb5⟩
  have HB5 : Hid (Below w3.heap.size w3 w5) := hb4.trans (hb5.mono hb4.size)
  have hlA : (racesN s.next (okL es) s.ts.length).length ≤ 800 := by
    have h1 := racesN_len s.next (okL es) s.ts.length
    have h2 := okL_len es
    have h3 : s.ts.length * (okL es).length ≤ 4 * 200 := Nat.mul_le_mul h4 (by omega)
    omega
  have HRA : Hid (ofT t (racesN s.next (okL es) s.ts.length) = rcT t (withL es x)) := by
    have h1 : okL es = es := by unfold okL; rw [if_pos HRT.out]
    have h2 := ofT_races (nx := s.next) (l := es) (t := t.toNat) (e := x) (by rw [Int.toNat_of_nonneg ht0]; exact HNX.out) (n := s.ts.length) (by omega)
    rw [Int.toNat_of_nonneg ht0] at h2
    show _ = _
    rw [h1, h2]
  generalize racesN s.next (okL es) s.ts.length = RA at *
  obtain ⟨a5, c5, rfl, h5, _⟩ := hrv.form rcCell_len (by omega)
  have H5 := Lib.hid h5
  have hsz5 : w3.heap.size ≤ w5.heap.size := HB5.out.size
  clear hrv h5 hb4 hb5
  go_wp2_with fail
  go_loopw [12, 52] (fun v i wr => ∃ k : Nat, k ≤ RA.length ∧ i = .int .i64 k ∧ Hid (OwnRow wr w5.heap.size 48 2 rcCell v (ofT t (RA.take k))) ∧ Hid (Below w5.heap.size w5 wr)) (fun _ i _ => RA.length - (intOf i).toNat)
  case atStart => exact ⟨0, Nat.zero_le _, rfl, ownRow_nil _ _ _ _ _, Below.refl _ _⟩
  case round =>
    obtain ⟨k, hk, rfl, HV, HW⟩ := hrel
    have hsW : w5.heap.size ≤ wr.heap.size := HW.out.size
    by_cases hlt : k < RA.length
    · obtain ⟨b, o, rfl, d0, d1⟩ := rc_at (H5.out.later HW.out) hlt
      have hofl := ofT_len t (RA.take k)
      rw [List.length_take] at hofl
      by_cases hth : RA[k].2 = t
      · have HT := Lib.hid (ofT_yes hlt hth)
        have hq : (RA[k].2 == t) = true := by simp [hth]
        clear hth
        go_wp2_with (at_builtin; refine wp_appendR (f := rcCell) (n := 2) 39 48 16 (.agg #[.int .i64 0, .int .i64 0]) Try.underlying39 infoRc rfl (by omega) (by omega) rcCell_len rfl _ _ rfl w5.heap.size _ (ofT t (RA.take k)) rfl ((HV.out.alloc _).alloc _) ⟨wr.heap.size + 1, 0, none⟩ rfl RA[k] (rcCell_one _) (cells_new (wr.alloc (.cells #[.int .i64 (RA[k].1 : Nat), .int .i64 RA[k].2] 48)) (rcCell RA[k]) _ _ (by simp)) (by omega) (by simp; omega) ?_; intro v6 w6 h6 hb6 hg6)
        have HO8 : Hid (OwnRow w6 w5.heap.size 48 2 rcCell v6 (ofT t (RA.take (k + 1)))) := by
          show OwnRow _ _ _ _ _ _ _
          rw [HT.out]
          exact h6
        have HB6 : Hid (Below w5.heap.size w5 w6) := ((HW.out.alloc hsW _).alloc (by simp; omega) _).trans hb6
        clear HT h6 hb6 hg6 HV HW
        go_wp2
        go_roundw
        case rel => exact ⟨k + 1, by omega, by go_num, HO8.out, HB6.out⟩
        case measure => simp [intOf]; omega
      · have HT := Lib.hid (ofT_no hlt hth)
        have hq : (RA[k].2 == t) = false := by simp [hth]
        have HV2 : Hid (OwnRow (wr.alloc (.cells #[.int .i64 (RA[k].1 : Nat), .int .i64 RA[k].2] 48)) w5.heap.size 48 2 rcCell u12 (ofT t (RA.take (k + 1)))) := by
          show OwnRow _ _ _ _ _ _ _
          rw [HT.out]
          exact HV.out.alloc _
        have HB6 : Hid (Below w5.heap.size w5 (wr.alloc (.cells #[.int .i64 (RA[k].1 : Nat), .int .i64 RA[k].2] 48))) := HW.out.alloc hsW _
        clear hth HT HV HW
        go_wp2
        go_roundw
        case rel => exact ⟨k + 1, by omega, by go_num, HV2.out, HB6.out⟩
        case measure => simp [intOf]; omega
    · obtain rfl : k = RA.length := by omega
      have hF := HV.out
      rw [List.take_length, HRA.out] at hF
      have HAH := Lib.hid hF
      have HBR : Hid (Below w3.heap.size w3 wr) := HB5.out.trans (HW.out.mono hsz5)
      clear hF HV HW H5 HB5 HRA
      have hwl : (withL es x).length ≤ 200 := by have := withL_len es x; omega
      go_wp2_with fail
      refine (step_any (HS.out.later HBR.out) OK.out t).mono ?_
      rw [HST.out]
      rintro r w7 ⟨rfl, hs7, ho7⟩
      have hst3 := HS.out.later HBR.out
      have hor := ownsRow_onlyNe (ownsRow_later HO.out HBR.out) (st_not_own hst3 (ownsRow_later HO.out HBR.out) (by decide)) ho7
      have hah := ownsRow_onlyNe HAH.out (st_not_own hst3 HAH.out (by decide)) ho7
      have hbw : Below w.heap.size w w7 := (HW3.out.trans (HBR.out.mono HW3.out.size)).trans (ho7.below (by omega) (by have := HBR.out.size; have := HW3.out.size; omega))
      have HO7 : Hid (OwnE w7 w2.heap.size (.slice av es.length cv) es) := hor
      have HAH7 : Hid (OwnRow w7 w5.heap.size 48 2 rcCell u12 (rcT t (withL es x))) := hah
      have HBW7 := Lib.hid hbw
      have HE7 : Hid (EvsAt w7 av es) := OwnE.at_ (B := w2.heap.size) hor
      clear hst3 hor hah hbw hs7 ho7 HAH HO HE HBR HS HST HNX
      unfold stepV evV
      dsimp only
      have hbx := below_alloc1 w7 (.cells #[.int .i64 x.thread, .int .i64 x.kind, .int .i64 x.obj, .bool x.fail] 50)
      have HBX : Hid (EvBox (w7.alloc (.cells #[.int .i64 x.thread, .int .i64 x.kind, .int .i64 x.obj, .bool x.fail] 50)) w7.heap.size x) := EvBox.new w7 x
      have HO8 := Lib.hid (HO7.out.later hbx)
      have HE8 := Lib.hid (HE7.out.later hbx)
      have HAH8 := Lib.hid (HAH7.out.later hbx)
      have HBW8 := Lib.hid (HBW7.out.trans (hbx.mono HBW7.out.size))
      clear HO7 HAH7 HBW7 HE7 hbx
      go_wp2_with fail
      generalize w7.alloc (.cells #[.int .i64 x.thread, .int .i64 x.kind, .int .i64 x.obj, .bool x.fail] 50) = W at *
      generalize w7.heap.size = xb at *
      have hzl : ([] : List Ev).length + es.length ≤ 1000000 := by simp; omega
      have hzl2 : ([] ++ es : List Ev).length + [x].length ≤ 1000000 := by simp; omega
      have hzl3 : (([] ++ es) ++ [x] : List Ev).length ≤ 1000000 := by simp; omega
      have HWY := Lib.hid (ways W x)
      have HEW : Hid (∀ W', Below W.heap.size W W' → EvsAt W' av es) := fun W' h => HE8.out.later h
      have HQ : Hid (∀ W', Below W.heap.size W W' → W'.cell? ⟨xb, 0, none⟩ = some (.int .i64 x.thread) ∧ W'.cell? ⟨xb, 1, none⟩ = some (.int .i64 x.kind) ∧ W'.cell? ⟨xb, 2, none⟩ = some (.int .i64 x.obj) ∧ W'.cell? ⟨xb, 3, none⟩ = some (.bool x.fail)) := fun w' h => (HBX.out.later h).cells
      have HREV : Hid (∀ W' a' c', Below W.heap.size W W' → EvsAt W' a' (([] ++ es) ++ [x]) → Calls Try.prog 13 #[.slice a' (es.length + 1) c'] W' (RevR (([] ++ es) ++ [x]) W')) := fun W' a' c' _ h => by
        have h1 := reversible_any a' c' _ W' h (by simp; omega)
        rw [show (([] ++ es) ++ [x] : List Ev).length = es.length + 1 by simp] at h1
        exact h1
      unfold RevR at HREV
      have hB9 : Below W.heap.size W W.drew := (Below.refl _ _).drew
      have hBA : Below W.heap.size W (W.alloc (.cells #[] 50)).drew := (below_alloc1 W _).drew
      have hBE : Below W.heap.size W (W.alloc (.cells #[.int .i64 x.thread, .int .i64 x.kind, .int .i64 x.obj, .bool x.fail] 50)).drew := (below_alloc1 W _).drew
      have hBAE : Below W.heap.size W ((W.alloc (.cells #[] 50)).alloc (.cells #[.int .i64 x.thread, .int .i64 x.kind, .int .i64 x.obj, .bool x.fail] 50)).drew := (below_alloc2 W _ _).drew
      have hBEA : Below W.heap.size W ((W.alloc (.cells #[.int .i64 x.thread, .int .i64 x.kind, .int .i64 x.obj, .bool x.fail] 50)).alloc (.cells #[] 50)).drew := (below_alloc2 W _ _).drew
      have hF1 := HQ.out _ hB9
      have hF2 := HQ.out _ hBA
      have hF3 := HQ.out _ hBE
      have hF4 := HQ.out _ hBAE
      have hF5 := HQ.out _ hBEA
      go_cut [17] (fun s17 wx => ∃ w7, OwnRow wx w7 48 2 rcCell s17 (rev4 (([] ++ es) ++ [x])) ∧ Below W.heap.size W wx)
      case first =>
        go_region_held3 (fun W' => W'.cell? ⟨xb, 0, none⟩ = some (.int .i64 x.thread) ∧ W'.cell? ⟨xb, 1, none⟩ = some (.int .i64 x.kind) ∧ W'.cell? ⟨xb, 2, none⟩ = some (.int .i64 x.obj) ∧ W'.cell? ⟨xb, 3, none⟩ = some (.bool x.fail))
          (first | exact hF1 | exact hF2 | exact hF3 | exact hF4 | exact hF5 | exact hF6 | exact hF7 | exact hF8 | exact hF9)
          (first
            | (refine step_copyE2 (w := (W.alloc (.cells #[] 50)).drew) (by rfl) (.tmp 71) (.tmp 72) (by rfl) W.heap.size _ [] (by rfl) HWY.out.a av cv es (by rfl) (HEW.out (W.alloc (.cells #[] 50)).drew hBA) HNA.out hzl hBA.size ?_; intro v6 w6 h6 hb6 hg6; have H6 := Lib.hid h6; have hB6 : Below W.heap.size W w6 := (hBA).trans hb6; have hF6 := HQ.out _ hB6; have hF7 := HQ.out _ (hB6.alloc hB6.size (.cells #[.int .i64 x.thread, .int .i64 x.kind, .int .i64 x.obj, .bool x.fail] 50)); clear h6 hb6 hg6)
            | (refine step_copyE2 (w := ((W.alloc (.cells #[] 50)).alloc (.cells #[.int .i64 x.thread, .int .i64 x.kind, .int .i64 x.obj, .bool x.fail] 50)).drew) (by rfl) (.tmp 71) (.tmp 72) (by rfl) W.heap.size _ [] (by rfl) HWY.out.b av cv es (by rfl) (HEW.out ((W.alloc (.cells #[] 50)).alloc (.cells #[.int .i64 x.thread, .int .i64 x.kind, .int .i64 x.obj, .bool x.fail] 50)).drew hBAE) HNA.out hzl hBAE.size ?_; intro v6 w6 h6 hb6 hg6; have H6 := Lib.hid h6; have hB6 : Below W.heap.size W w6 := (hBAE).trans hb6; have hF6 := HQ.out _ hB6; have hF7 := HQ.out _ (hB6.alloc hB6.size (.cells #[.int .i64 x.thread, .int .i64 x.kind, .int .i64 x.obj, .bool x.fail] 50)); have HT6 := Lib.hid (EvsAt.grown HWY.out.bt hg6 (by intro e; injection e with e; exact absurd e (by simp))); clear h6 hb6 hg6)
            | (refine step_copyE2 (w := ((W.alloc (.cells #[.int .i64 x.thread, .int .i64 x.kind, .int .i64 x.obj, .bool x.fail] 50)).alloc (.cells #[] 50)).drew) (by rfl) (.tmp 71) (.tmp 72) (by rfl) W.heap.size _ [] (by rfl) HWY.out.c av cv es (by rfl) (HEW.out ((W.alloc (.cells #[.int .i64 x.thread, .int .i64 x.kind, .int .i64 x.obj, .bool x.fail] 50)).alloc (.cells #[] 50)).drew hBEA) HNA.out hzl hBEA.size ?_; intro v6 w6 h6 hb6 hg6; have H6 := Lib.hid h6; have hB6 : Below W.heap.size W w6 := (hBEA).trans hb6; have hF6 := HQ.out _ hB6; have hF7 := HQ.out _ (hB6.alloc hB6.size (.cells #[.int .i64 x.thread, .int .i64 x.kind, .int .i64 x.obj, .bool x.fail] 50)); have HT6 := Lib.hid (EvsAt.grown HWY.out.ct hg6 (by intro e; injection e with e; exact absurd e (by simp))); clear h6 hb6 hg6)
            | (refine step_copyE2 (w := w6) (by rfl) (.tmp 73) (.tmp 75) (by rfl) W.heap.size _ ([] ++ es) (by rfl) H6.out (some ⟨_, 0, none⟩) 1 [x] (by rfl) HT6.out (by intro h; cases h) hzl2 hB6.size ?_; intro v7 w7 h7 hb7 hg7; have hB7 : Below W.heap.size W w7 := hB6.trans hb7; have H7 := Lib.hid h7; obtain ⟨a7, c7, hv7, he7, _⟩ := OwnE.form2 h7 hzl3; subst hv7; have HE7 := Lib.hid he7; have hF8 := HQ.out _ hB7; clear h7 hb7 hg7 he7)
            | (refine step_copyE2 (w := w6.alloc (.cells #[.int .i64 x.thread, .int .i64 x.kind, .int .i64 x.obj, .bool x.fail] 50)) (by rfl) (.tmp 73) (.tmp 75) (by rfl) W.heap.size _ ([] ++ es) (by rfl) (H6.out.alloc _) (some ⟨w6.heap.size, 0, none⟩) 1 [x] (by rfl) (evs_one1 w6 x) (by intro h; cases h) hzl2 (hB6.alloc hB6.size (.cells #[.int .i64 x.thread, .int .i64 x.kind, .int .i64 x.obj, .bool x.fail] 50)).size ?_; intro v7 w7 h7 hb7 hg7; have hB7 : Below W.heap.size W w7 := (hB6.alloc hB6.size (.cells #[.int .i64 x.thread, .int .i64 x.kind, .int .i64 x.obj, .bool x.fail] 50)).trans hb7; have H7 := Lib.hid h7; obtain ⟨a7, c7, hv7, he7, _⟩ := OwnE.form2 h7 hzl3; subst hv7; have HE7 := Lib.hid he7; have hF8 := HQ.out _ hB7; clear h7 hb7 hg7 he7)
            | (go_at_call 13; ((with_reducible refine (HREV.out _ _ _ hB7 HE7.out).mono ?_); rintro r w8 ⟨rv, rfl, hrv, hb8⟩; have hB8 := hB7.trans (hb8.mono hB7.size); have hF9 := HQ.out _ hB8; have HRV8 := Lib.hid hrv; clear hrv hb8)))
        all_goals go_wp2_with fail
        all_goals go_meet
        all_goals exact ⟨_, HRV8.out, hB8⟩
      case rest =>
        obtain ⟨w7, hrv, hbc⟩ := hcut
        rw [List.nil_append, rev4_snoc HRT.out HXR.out, HXT.out] at hrv
        have hR : (rev4 es).length ≤ 40000 := by
          unfold rev4
          split
          · have h1 := revTo_len es es.length
            have h2 : es.length * es.length ≤ 40 * 40 := Nat.mul_le_mul (by omega) (by omega)
            unfold revL
            omega
          · exact Nat.zero_le _
        have hQ : (rcT t (withL es x)).length ≤ 200 := by unfold rcT; rw [List.length_map]; exact hwl
        have HREV2 : Hid (∀ W', Below W.heap.size W W' → Calls Try.prog 13 #[.slice av es.length cv] W' (RevR es W')) := fun W' h => reversible_any av cv es W' (HE8.out.later h) (by omega)
        unfold RevR at HREV2
        generalize rev4 es = R at *
        generalize rcT t (withL es x) = Q at *
        obtain ⟨a8, c8, rfl, h8, hle8, hf8⟩ := OwnRow.form2 hrv rcCell_len (by rw [List.length_append]; omega)
        rw [List.length_append] at *
        obtain ⟨a12, c12, rfl, h12, _⟩ := OwnRow.form (HAH8.out.later hbc) rcCell_len (by omega)
        have H8 := Lib.hid h8
        have H12 := Lib.hid h12
        have HBC := Lib.hid hbc
        clear hrv h8 h12 hbc HREV HQ HEW HWY hzl hzl2 hzl3 hB9 hBA hBE hBAE hBEA hF1 hF2 hF3 hF4 hF5 HAH8
        go_wp2_with fail
        refine (HREV2.out wc HBC.out).mono ?_
        rintro r w9 ⟨rv, rfl, hrv, hb9⟩
        obtain ⟨a9, c9, rfl, h9, _⟩ := OwnRow.form hrv rcCell_len (by omega)
        have HB9 := Lib.hid hb9
        clear hrv hb9 h9 HREV2
        rcases hf8 with ⟨rfl, rfl, hnil⟩ | ⟨g8, rfl⟩
        · obtain ⟨rfl, rfl⟩ := List.append_eq_nil_iff.1 hnil
          have h13 : RowAt w9 none 2 rcCell [] := rowAt_nil _ _ _ _
          go_wp2_with fail
          refine (like_any _ _ [] w9 h13 (by simp)).mono ?_
          rintro r w10 ⟨rv, rfl, hrv, hb10⟩
          obtain ⟨a10, c10, rfl, h10, _⟩ := OwnRow.form hrv rcCell_len (by simp)
          have HB10 := Lib.hid (HB9.out.trans (hb10.mono HB9.out.size))
          clear hrv hb10 h13
          go_wp2_with fail
          refine (like_any a12 c12 [] w10 (H12.out.later HB10.out) (by simp)).mono ?_
          rintro r w11 ⟨rv, rfl, hrv, hb11⟩
          obtain ⟨a11, c11, rfl, h11, _⟩ := OwnRow.form hrv rcCell_len (by simp)
          have h1011 := h10.later hb11
          have HB11 := Lib.hid (HB10.out.trans (hb11.mono HB10.out.size))
          clear hrv hb11 h10
          go_wp2_with fail
          refine (refSame7_any a10 a11 c10 c11 [] w11 h1011 h11 (by simp)).mono ?_
          rintro r w12 ⟨rfl, hb12⟩
          have HB12 := Lib.hid (HBC.out.trans ((HB11.out.trans (hb12.mono HB11.out.size)).mono HBC.out.size))
          have HB13 := Lib.hid (HBW8.out.trans (HB12.out.mono HBW8.out.size))
          clear hb12 h1011 h11
          go_wp2
          go_ret
          exact ⟨rfl, HB13.out⟩
        by_cases hc8 : c8 = R.length
        · obtain rfl : Q = [] := List.eq_nil_of_length_eq_zero (by omega)
          subst hc8
          have h13 : RowAt w9 (some ⟨g8, 0, none⟩) 2 rcCell [] := rowAt_nil _ _ _ _
          go_wp2_with fail
          refine (like_any _ _ [] w9 h13 (by simp)).mono ?_
          rintro r w10 ⟨rv, rfl, hrv, hb10⟩
          obtain ⟨a10, c10, rfl, h10, _⟩ := OwnRow.form hrv rcCell_len (by simp)
          have HB10 := Lib.hid (HB9.out.trans (hb10.mono HB9.out.size))
          clear hrv hb10 h13
          go_wp2_with fail
          refine (like_any a12 c12 [] w10 (H12.out.later HB10.out) (by simp)).mono ?_
          rintro r w11 ⟨rv, rfl, hrv, hb11⟩
          obtain ⟨a11, c11, rfl, h11, _⟩ := OwnRow.form hrv rcCell_len (by simp)
          have h1011 := h10.later hb11
          have HB11 := Lib.hid (HB10.out.trans (hb11.mono HB10.out.size))
          clear hrv hb11 h10
          go_wp2_with fail
          refine (refSame7_any a10 a11 c10 c11 [] w11 h1011 h11 (by simp)).mono ?_
          rintro r w12 ⟨rfl, hb12⟩
          have HB12 := Lib.hid (HBC.out.trans ((HB11.out.trans (hb12.mono HB11.out.size)).mono HBC.out.size))
          have HB13 := Lib.hid (HBW8.out.trans (HB12.out.mono HBW8.out.size))
          clear hb12 h1011 h11
          go_wp2
          go_ret
          exact ⟨rfl, HB13.out⟩
        · have h13 : RowAt w9 (some ⟨g8, R.length * 2, none⟩) 2 rcCell Q := by
            have h := (H8.out.part R.length Q.length).later HB9.out
            rw [List.drop_left, List.take_length, Nat.zero_add] at h
            exact h
          go_wp2_with fail
          refine (like_any _ _ Q w9 h13 (by omega)).mono ?_
          rintro r w10 ⟨rv, rfl, hrv, hb10⟩
          obtain ⟨a10, c10, rfl, h10, _⟩ := OwnRow.form hrv rcCell_len (by omega)
          have HB10 := Lib.hid (HB9.out.trans (hb10.mono HB9.out.size))
          clear hrv hb10 h13
          go_wp2_with fail
          refine (like_any a12 c12 Q w10 (H12.out.later HB10.out) (by omega)).mono ?_
          rintro r w11 ⟨rv, rfl, hrv, hb11⟩
          obtain ⟨a11, c11, rfl, h11, _⟩ := OwnRow.form hrv rcCell_len (by omega)
          have h1011 := h10.later hb11
          have HB11 := Lib.hid (HB10.out.trans (hb11.mono HB10.out.size))
          clear hrv hb11 h10
          go_wp2_with fail
          refine (refSame7_any a10 a11 c10 c11 Q w11 h1011 h11 (by omega)).mono ?_
          rintro r w12 ⟨rfl, hb12⟩
          have HB12 := Lib.hid (HBC.out.trans ((HB11.out.trans (hb12.mono HB11.out.size)).mono HBC.out.size))
          have HB13 := Lib.hid (HBW8.out.trans (HB12.out.mono HBW8.out.size))
          clear hb12 h1011 h11
          go_wp2
          go_ret
          exact ⟨rfl, HB13.out⟩

end Go.Proofs.Ytkjjbcgecnjniaa

/-
  RaceDone: the races of what a thread does next are those that its event has, once it is done, in the row with it: the law answers true, and its arguments read as they did.
  For every input, whatever its size and however its parts share memory; nothing is asked of it but what the statement's own form asks.
-/
namespace Go.Proofs.Ytkjjbcgecnjniaa.raceDone
open Go.ChangeShapes Go.WideShapes Go.ChangeAt Go.RowKit

theorem own : ownKnob Try.prog.godebug = none := by kernel_rfl
theorem laidOut : laidOutB Try.prog = true := by kernel_rfl

set_option maxRecDepth 100000 in
theorem lifted (os : Os) (started : os.Started) (H : Type) (enc : TypeId × Value → H) :
    ReturnsInHanded {} Try.checked os 6 .any (Rows.raceDoneSpec.pre6 enc Try.prog Try.f6 Rows.raceDoneRow.domain false) (Rows.raceDoneSpec.post enc Try.prog Try.f6 false true false false) := by
  refine returnsInHanded_of_change (C := Try.checked) own started (by kernel_rfl) Try.func6
    (ChangeSpec.witness6 (enc := enc) (C := Try.checked) false ⟨#[], #[.agg #[.int .i64 0, .int .i64 0, .slice none 0 0], .int .i64 0, .slice none 0 0, .int .i64 0], []⟩ 8 (by kernel_rfl) (by kernel_rfl) (by kernel_rfl) (by kernel_rfl)) ?_
  intro W base args ds gs before hval0 hW hcnd _
  have hval : ∀ (j : Nat) t v, Try.f6.params[j]? = some t → args[j]? = some v → Value.okWide Try.prog W .any base t v := hval0
  have hW' := hW
  obtain ⟨p, q, hA0, hV, rfl, hfz, hnd⟩ := hW
  have hA : DataW.TrodAll enc Try.prog W 0 (fun _ => true) true Try.f6.params.toList args.toList ds p := hA0
  rw [Try.params6] at hA hval
  obtain ⟨v0, vs0, d0, ds0, p0, q0, hargs, rfl, rfl, h0, r0⟩ := trodAll_cons hA
  obtain ⟨v1, vs1, d1, ds1, p1, q1, rfl, rfl, rfl, h1, r1⟩ := trodAll_cons r0
  obtain ⟨v2, vs2, d2, ds2, p2, q2, rfl, rfl, rfl, h2, r2⟩ := trodAll_cons r1
  obtain ⟨v3, vs3, d3, ds3, p3, q3, rfl, rfl, rfl, h3, r3⟩ := trodAll_cons r2
  obtain ⟨rfl, rfl, rfl⟩ := trodAll_nil r3
  obtain rfl : args = #[v0, v1, v2, v3] := by cases args; simp_all
  obtain ⟨rfl, rfl⟩ := trodVars_none hV
  have k0 := h0
  have lt0 : ∀ x ∈ p0, x.block < W.heap.size := by obtain ⟨m, hm⟩ := k0; exact DataW.trod_lt m _ _ _ hm
  have k1 := h1
  have lt1 : ∀ x ∈ p1, x.block < W.heap.size := by obtain ⟨m, hm⟩ := k1; exact DataW.trod_lt m _ _ _ hm
  have k2 := h2
  have lt2 : ∀ x ∈ p2, x.block < W.heap.size := by obtain ⟨m, hm⟩ := k2; exact DataW.trod_lt m _ _ _ hm
  have k3 := h3
  have lt3 : ∀ x ∈ p3, x.block < W.heap.size := by obtain ⟨m, hm⟩ := k3; exact DataW.trod_lt m _ _ _ hm
  obtain ⟨pg0, a0, cap0, rfl, hx0, _⟩ := prog_of_trod (hval 0 24 v0 rfl rfl) h0
  obtain ⟨n1, rfl, hx1⟩ := int_of_trod (hval 1 3 v1 rfl rfl) h1
  obtain ⟨a2, ns2, cap2, rfl, hx2, _, hr2⟩ := nums_of_trod (hval 2 25 v2 rfl rfl) h2
  obtain ⟨n3, rfl, hx3⟩ := int_of_trod (hval 3 3 v3 rfl rfl) h3
  clear hA0 hval0
  refine (raceDone_any pg0 a0 cap0 n1 a2 ns2 cap2 n3 W hx0 hx2).mono fun e W' ⟨he, bel⟩ => ?_
  subst he
  exact ⟨_, rfl, _, _, _, [], _, [], hW', trodAll_mk1 (shut_bool Try.underlying4 _), (trodAll_cons_mk (Below.trod laidOut (by kernel_rfl) (of_decide_eq_true (by kernel_rfl)) k0 bel lt0) (trodAll_cons_mk (Below.trod laidOut (by kernel_rfl) (of_decide_eq_true (by kernel_rfl)) k1 bel lt1) (trodAll_cons_mk (Below.trod laidOut (by kernel_rfl) (of_decide_eq_true (by kernel_rfl)) k2 bel lt2) (trodAll_cons_mk (Below.trod laidOut (by kernel_rfl) (of_decide_eq_true (by kernel_rfl)) k3 bel lt3) trodAll_mk0)))), rfl, bel.frame _, fun h => by cases h⟩

theorem over : Rows.raceDoneRow.holds Try.pinned (OpenSpec.ofChange Rows.raceDoneSpec) :=
  OpenClaim.holds_of_wide 6 Try.f6 rfl rfl rfl rfl rfl rfl rfl ⟨rfl, rfl, rfl, rfl, rfl⟩ rfl rfl rfl rfl rfl (by kernel_rfl) Try.func6 (by kernel_rfl)
    (of_decide_eq_true (by kernel_rfl)) (by unfold Func.isWrapper; first | (rw [if_pos (by decide +kernel)]; kernel_rfl) | (rw [if_neg (by decide +kernel)]; exact ⟨rfl, rfl⟩))
    (fun os started H enc _ => lifted os started H enc)

theorem proved : Rows.RaceDoneSaid := over
end Go.Proofs.Ytkjjbcgecnjniaa.raceDone
