/- What FoataMore lays: the row with one event more. -/
import Derived.Test.YtfefidmbkbigoaaWake5
import Derived.Test.YtfefidmbkbigoaaEvRows
import Derived.Test.YtfefidmbkbigoaaCopyE2
namespace Go.Proofs.Ytfefidmbkbigoaa
open Go.RowKit

/-- A row of one's own, or the empty one wherever it lies. -/
def Em (w : World) (B : Nat) (v : Value) (l : List Ev) : Prop := OwnE w B v l ∨ (l = [] ∧ ∃ g, v = .slice (some ⟨g, 0, none⟩) 0 0)
theorem Em.form {w : World} {B : Nat} {v : Value} {l : List Ev} (h : Em w B v l) (hm : l.length ≤ 1000000) : ∃ a cap, v = .slice a l.length cap ∧ EvsAt w a l := by
  rcases h with h | ⟨rfl, g, rfl⟩
  · exact OwnE.form h hm
  · exact ⟨_, _, rfl, evsAt_nil _ _⟩

theorem wp_copyEm {w : World} {o : Oper} {a : Act} {K : Act → World → Prop} {Q : Exit → Act → World → Prop} (s x : Operand)
    (ho : o.op = .call { callee := .builtin .append, args := #[s, x], argTypes := #[22, 22] }) (B : Nat) (v : Value) (es : List Ev) (hs : a.eval s = v) (hown : Em w B v es)
    (ra : Option Addr) (rcap : Nat) (row : List Ev) (hx : a.eval x = .slice ra row.length rcap) (hrow : EvsAt w ra row) (hra : ra = none → rcap = 0 ∧ row = [])
    (hlen : es.length + row.length ≤ 1000000) (hB : B ≤ w.heap.size)
    (h : ∀ v' w', Em w' B v' (es ++ row) → Below B w w' → K (a.put o.dst v') w') : Oper.wp Try.prog o a w K Q := by
  rcases hown with hown | ⟨rfl, g, rfl⟩
  · exact wp_copyE s x ho B v es hs hown ra rcap row hx hrow hra hlen hB fun v' w' h1 h2 => h v' w' (.inl h1) h2
  · obtain ⟨i, hi, hzz⟩ := Option.map_eq_some_iff.1 infoEv
    simp only [Prod.mk.injEq] at hzz
    obtain ⟨hz, hsz, hby⟩ := hzz
    have hk : ∀ {v' w'}, (Builtin.append_ #[22, 22] o.type #[.slice (some ⟨g, 0, none⟩) 0 0, .slice ra row.length rcap]).run Try.prog w = .ok v' w' → K (a.put o.dst v') w' → Oper.wp Try.prog o a w K Q := fun {v' w'} hrun hK => by
      unfold Oper.wp
      simp [execOp, ho, resolve, invoke, builtin, hs, hx, hrun, Result.andThen]
      exact hK
    by_cases hne : row = []
    · subst hne
      have hsrc : Src Try.prog i.size 22 (.slice ra ([] : List Ev).length rcap) 0 [] w := by
        cases ra with
        | none => exact Src.ofNil w Try.underlying22 _
        | some ad => exact Src.ofSlice w Try.underlying22 ad 0 rcap [] (by simp) (by simp) (by simp)
      have hrun : (Builtin.append_ #[22, 22] o.type #[.slice (some ⟨g, 0, none⟩) 0 0, .slice ra ([] : List Ev).length rcap]).run Try.prog w = .ok (.slice (some ⟨g, 0, none⟩) 0 0) w := by
        have h1 := hsrc.len
        have h2 := hsrc.cells
        simp [Builtin.append_, run_underlying Try.underlying22, sizeOf, typeInfo, hi, storeCells] at h1 h2 ⊢
        simp [h1, h2, storeCells]
      exact hk hrun (h _ _ (.inr ⟨rfl, g, rfl⟩) (Below.refl _ _))
    · obtain ⟨b, o', e, hc⟩ := hrow.2 hne
      subst e
      have hpos : 0 < row.length := List.length_pos_iff.2 hne
      have hsrc : Src Try.prog i.size 22 (.slice (some ⟨b, o', none⟩) row.length rcap) row.length (evCells row) w := by
        rw [hsz]
        exact Src.ofSlice w Try.underlying22 ⟨b, o', none⟩ row.length rcap (evCells row) (by rw [evCells_length]) (fun j u hj => hrow.cellAt j u hj) (evCells_one _)
      have hold : (Builtin.firstCells i.size 0 (.slice (some ⟨g, 0, none⟩) 0 0)).run Try.prog w.drew = .ok ([] : List Value).toArray w.drew := by
        rw [hsz]
        exact run_firstCells_some w.drew 4 0 ⟨g, 0, none⟩ 0 0 [] rfl (by simp)
      have hrun := run_append_grow_src (P := Try.prog) w 22 22 o.type 28 i _ Try.underlying22 hi hz (some ⟨g, 0, none⟩) 0 0 [] hold _ row.length (evCells row) hsrc (by omega) (by omega) (by rw [hby]; exact growslice_fits (by omega) (by omega))
      rw [Nat.zero_add] at hrun
      refine hk hrun (h _ _ (.inl ?_) ?_)
      · have hge := grownCap_ge w row.length 0 28
        have hle := grownCap_le_maxLen w row.length 0 28 (by unfold maxLen; omega)
        refine ⟨by rw [evCells_length], .inr ⟨w.heap.size, _, _, by rw [List.nil_append], hB, heap_alloc_new w.drew _, by rw [List.nil_append]; omega, hle, ?_, ?_⟩⟩
        · simp [Builtin.zeroCells, Value.cells, evCells_length]
          omega
        · simp only [List.nil_append, Array.toList_append]
          rw [List.take_left' (by simp [evCells_length])]
      · exact ((Below.refl _ _).drew).alloc hB _

theorem step_copyEm {w : World} {ops : Array Oper} {o : Oper} {a : Act} {K : Act → World → Prop} {Q : Exit → Act → World → Prop} {E : Prop} (hgd : o.guard = none) (s x : Operand)
    (ho : o.op = .call { callee := .builtin .append, args := #[s, x], argTypes := #[22, 22] }) (B : Nat) (v : Value) (es : List Ev) (hs : a.eval s = v) (hown : Em w B v es)
    (ra : Option Addr) (rcap : Nat) (row : List Ev) (hx : a.eval x = .slice ra row.length rcap) (hrow : EvsAt w ra row) (hra : ra = none → rcap = 0 ∧ row = [])
    (hlen : es.length + row.length ≤ 1000000) (hB : B ≤ w.heap.size)
    (h : ∀ v' w', Em w' B v' (es ++ row) → Below B w w' → K (a.put o.dst v') w') : if Region.wanted o (yielded ops a.tmps) = true then Oper.wp Try.prog o a w K Q else E := by
  have hw : Region.wanted o (yielded ops a.tmps) = true := by simp [Region.wanted, hgd]
  rw [if_pos hw]
  exact wp_copyEm s x ho B v es hs hown ra rcap row hx hrow hra hlen hB h
theorem Em.alloc {w : World} {B : Nat} {v : Value} {l : List Ev} (h : Em w B v l) (o : Obj) : Em (w.alloc o) B v l := by
  rcases h with h | h
  · exact .inl (h.alloc o)
  · exact .inr h
theorem evs_one2 (w : World) (o : Obj) (e : Ev) : EvsAt ((w.alloc o).alloc (.cells #[.int .i64 e.thread, .int .i64 e.kind, .int .i64 e.obj, .bool e.fail] 28)) (some ⟨w.heap.size + 1, 0, none⟩) [e] := by
  have h := evs_one1 (w.alloc o) e
  rwa [World.size_alloc] at h
/-- The row with one event more, as it comes to lie. -/
theorem em_more (l : List Ev) (e : Ev) (hl : l.length ≤ 100) : ∃ L2 : List Ev, L2 = l ++ [e] ∧ ∀ (v : Value) (W : World) (B : Nat), Em W B v (([] ++ l) ++ [e]) → ∃ a7 c7, v = .slice a7 L2.length c7 ∧ EvsAt W a7 L2 := by
  refine ⟨l ++ [e], rfl, fun v W B h => ?_⟩
  rw [List.nil_append] at h
  exact h.form (by simp; omega)

end Go.Proofs.Ytfefidmbkbigoaa
