/- A whole row of events behind a row of one's own, and what else stays. -/
import Derived.Test.YtfefidmbkbigoaaEvCopy
import Derived.Test.YtfefidmbkbigoaaNumber
namespace Go.Proofs.Ytfefidmbkbigoaa
open Go.RowKit

theorem wp_copyE2 {w : World} {o : Oper} {a : Act} {K : Act → World → Prop} {Q : Exit → Act → World → Prop} (s x : Operand)
    (ho : o.op = .call { callee := .builtin .append, args := #[s, x], argTypes := #[22, 22] }) (B : Nat) (v : Value) (es : List Ev) (hs : a.eval s = v) (hown : OwnE w B v es)
    (ra : Option Addr) (rcap : Nat) (row : List Ev) (hx : a.eval x = .slice ra row.length rcap) (hrow : EvsAt w ra row) (hra : ra = none → rcap = 0 ∧ row = [])
    (hlen : es.length + row.length ≤ 1000000) (hB : B ≤ w.heap.size)
    (h : ∀ v' w', OwnE w' B v' (es ++ row) → Below B w w' → w.grownBy w' v.ownBlock → K (a.put o.dst v') w') : Oper.wp Try.prog o a w K Q := by
  have hinfo : (Try.prog.info? 28).map (fun i => (i.zero, i.size, i.bytes)) = some (some (.agg #[.int .i64 0, .int .i64 0, .int .i64 0, .bool false]), 4, 32) := by kernel_rfl
  obtain ⟨i, hi, hzz⟩ := Option.map_eq_some_iff.1 hinfo
  simp only [Prod.mk.injEq] at hzz
  obtain ⟨hz, hsz, hby⟩ := hzz
  cases ra with
  | none =>
    obtain ⟨rfl, rfl⟩ := hra rfl
    have hrun := run_append_owned_none (P := Try.prog) (w := w) B 22 o.type 28 i 4 Try.underlying22 hi v es.length (evCells es) hown
    have hK := h v w (by rw [List.append_nil]; exact hown) (Below.refl _ _) ⟨rfl, rfl, rfl, Nat.le_refl _, fun _ _ _ => rfl⟩
    unfold Oper.wp
    simp [execOp, ho, resolve, invoke, builtin, hs, hx, hrun, Result.andThen]
    exact hK
  | some ad =>
    by_cases hne : row = []
    · subst hne
      refine wp_append_own w s x 22 ho B 28 i (.agg #[.int .i64 0, .int .i64 0, .int .i64 0, .bool false]) 4 32 Try.underlying22 hi hz hsz hby rfl (by decide) v es.length (evCells es) hs hown ad 0 rcap [] hx (by simp) (by simp) (by simp) (by unfold maxLen; omega) (by omega) hB ?_
      intro v' w' h1 h2 _
      refine h v' w' ?_ ((Below.refl B w).grown h2 hB (fun k hk => (World.ownsRow.lt hown k hk).1)) h2
      unfold OwnE
      simpa using h1
    · obtain ⟨b, o', e, hc⟩ := hrow.2 hne
      injection e with e
      subst e
      refine wp_append_own w s x 22 ho B 28 i (.agg #[.int .i64 0, .int .i64 0, .int .i64 0, .bool false]) 4 32 Try.underlying22 hi hz hsz hby rfl (by decide) v es.length (evCells es) hs hown ⟨b, o', none⟩ row.length rcap (evCells row) hx (by rw [evCells_length]) (fun j u hj => hrow.cellAt j u hj)
        (evCells_one _) (by unfold maxLen; omega) (by omega) hB ?_
      intro v' w' h1 h2 _
      refine h v' w' ?_ ((Below.refl B w).grown h2 hB (fun k hk => (World.ownsRow.lt hown k hk).1)) h2
      unfold OwnE
      rw [List.length_append, evCells_append]
      exact h1

/-- The same in a region whose order is drawn. -/
theorem step_copyE2 {w : World} {ops : Array Oper} {o : Oper} {a : Act} {K : Act → World → Prop} {Q : Exit → Act → World → Prop} {E : Prop} (hgd : o.guard = none) (s x : Operand)
    (ho : o.op = .call { callee := .builtin .append, args := #[s, x], argTypes := #[22, 22] }) (B : Nat) (v : Value) (es : List Ev) (hs : a.eval s = v) (hown : OwnE w B v es)
    (ra : Option Addr) (rcap : Nat) (row : List Ev) (hx : a.eval x = .slice ra row.length rcap) (hrow : EvsAt w ra row) (hra : ra = none → rcap = 0 ∧ row = [])
    (hlen : es.length + row.length ≤ 1000000) (hB : B ≤ w.heap.size)
    (h : ∀ v' w', OwnE w' B v' (es ++ row) → Below B w w' → w.grownBy w' v.ownBlock → K (a.put o.dst v') w') : if Region.wanted o (yielded ops a.tmps) = true then Oper.wp Try.prog o a w K Q else E := by
  have hw : Region.wanted o (yielded ops a.tmps) = true := by simp [Region.wanted, hgd]
  rw [if_pos hw]
  exact wp_copyE2 s x ho B v es hs hown ra rcap row hx hrow hra hlen hB h

theorem evs_one1 (w : World) (e : Ev) : EvsAt (w.alloc (.cells #[.int .i64 e.thread, .int .i64 e.kind, .int .i64 e.obj, .bool e.fail] 28)) (some ⟨w.heap.size, 0, none⟩) [e] := by
  refine ⟨by simp [maxLen], fun _ => ⟨w.heap.size, 0, rfl, fun i hi => ?_⟩⟩
  obtain rfl : i = 0 := by simp at hi; omega
  simp
theorem EvsAt.grown {w w' : World} {g : Nat} {l : List Ev} {row : Option Nat} (h : EvsAt w (some ⟨g, 0, none⟩) l) (hg : w.grownBy w' row) (hne : some g ≠ row) : EvsAt w' (some ⟨g, 0, none⟩) l := by
  refine ⟨h.1, fun hn => ?_⟩
  obtain ⟨b, o, e, hc⟩ := h.2 hn
  cases e
  refine ⟨g, 0, rfl, fun i hi => ?_⟩
  obtain ⟨h0, h1, h2, h3⟩ := hc i hi
  have hs : ∀ o, w'.cell? ⟨g, o, none⟩ = w.cell? ⟨g, o, none⟩ := fun o => World.cell?_of_block (hg.block g (cell_block h0) hne)
  exact ⟨(hs _).trans h0, (hs _).trans h1, (hs _).trans h2, (hs _).trans h3⟩

/-- The three ways in which an empty row and a row of one come to lie. -/
structure Ways (W : World) (e : Ev) : Prop where
  a : OwnE (W.alloc (.cells #[] 28)).drew W.heap.size (.slice (some ⟨W.heap.size, 0, none⟩) 0 0) []
  b : OwnE ((W.alloc (.cells #[] 28)).alloc (.cells #[.int .i64 e.thread, .int .i64 e.kind, .int .i64 e.obj, .bool e.fail] 28)).drew W.heap.size (.slice (some ⟨W.heap.size, 0, none⟩) 0 0) []
  bt : EvsAt ((W.alloc (.cells #[] 28)).alloc (.cells #[.int .i64 e.thread, .int .i64 e.kind, .int .i64 e.obj, .bool e.fail] 28)).drew (some ⟨W.heap.size + 1, 0, none⟩) [e]
  c : OwnE ((W.alloc (.cells #[.int .i64 e.thread, .int .i64 e.kind, .int .i64 e.obj, .bool e.fail] 28)).alloc (.cells #[] 28)).drew W.heap.size (.slice (some ⟨W.heap.size + 1, 0, none⟩) 0 0) []
  ct : EvsAt ((W.alloc (.cells #[.int .i64 e.thread, .int .i64 e.kind, .int .i64 e.obj, .bool e.fail] 28)).alloc (.cells #[] 28)).drew (some ⟨W.heap.size, 0, none⟩) [e]
theorem ways (W : World) (e : Ev) : Ways W e := by
  have h0 : OwnE (W.alloc (.cells #[] 28)) W.heap.size (.slice (some ⟨W.heap.size, 0, none⟩) 0 0) [] := ownE_empty W _ rfl
  have h1 : OwnE ((W.alloc (.cells #[.int .i64 e.thread, .int .i64 e.kind, .int .i64 e.obj, .bool e.fail] 28)).alloc (.cells #[] 28)) (W.heap.size + 1) (.slice (some ⟨W.heap.size + 1, 0, none⟩) 0 0) [] := by
    have := ownE_empty (W.alloc (.cells #[.int .i64 e.thread, .int .i64 e.kind, .int .i64 e.obj, .bool e.fail] 28)) _ rfl
    rwa [World.size_alloc] at this
  have h2 := evs_one1 (W.alloc (.cells #[] 28)) e
  rw [World.size_alloc] at h2
  have h3 := (evs_one1 W e).later (below_alloc1 _ (.cells #[] 28))
  refine ⟨h0, OwnE.alloc h0 _, h2, ?_, h3⟩
  obtain ⟨g1, g2 | ⟨g, cap, cur, g2, g3, g4⟩⟩ := h1
  · exact ⟨g1, .inl g2⟩
  · exact ⟨g1, .inr ⟨g, cap, cur, g2, by omega, g4⟩⟩

end Go.Proofs.Ytfefidmbkbigoaa
