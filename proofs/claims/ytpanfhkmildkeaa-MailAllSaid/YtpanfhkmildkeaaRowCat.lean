/- append(.., row...) of whatever elements onto a row of the call's own. -/
import Derived.Test.YtpanfhkmildkeaaCells
import Derived.Laws.OwnMore
namespace Go.Proofs.Ytpanfhkmildkeaa
open Go.RowKit

section
variable {T : Type} {f : T → List Value} {n : Nat}

theorem RowAt.cellAt {w : World} {b o : Nat} {l : List T} (h : RowAt w (some ⟨b, o, none⟩) n f l) (hf : ∀ x, (f x).length = n) (hn : 0 < n) (j : Nat) (u : Value) (hj : (cellsL f l)[j]? = some u) : w.cell? (Addr.add ⟨b, o, none⟩ j) = some u := by
  have hjl : j < l.length * n := by
    have := (List.getElem?_eq_some_iff.1 hj).1
    rwa [cellsL_length hf] at this
  obtain ⟨b', o', e, hc⟩ := h.2 (by rintro rfl; simp at hjl)
  cases e
  have hi : j / n < l.length := Nat.div_lt_of_lt_mul (by rw [Nat.mul_comm]; exact hjl)
  have e : j / n * n + j % n = j := Nat.div_add_mod' j n
  have hg := cellsL_get hf l (j / n) (j % n) hi (Nat.mod_lt j hn)
  rw [e, hj] at hg
  have h1 := hc (j / n) hi (j % n) u hg.symm
  rw [Nat.add_assoc, e] at h1
  rw [add_row]
  exact h1

/-- A whole row more. -/
theorem wp_copyR {P : Program} {w : World} {o : Oper} {a : Act} {K : Act → World → Prop} {Q : Exit → Act → World → Prop} (st et : TypeId) (bytes : Nat) (z : Value) (hu : P.underlying st = some (.slice et))
    (hinfo : (P.info? et).map (fun i => (i.zero, i.size, i.bytes)) = some (some z, n, bytes)) (hz : z.cells.size = n) (hn : 0 < n) (hby : bytes ≤ 1000) (hf : ∀ x, (f x).length = n) (h1 : ∀ x, ∀ v ∈ f x, v.oneCell' = true)
    (s x : Operand) (ho : o.op = .call { callee := .builtin .append, args := #[s, x], argTypes := #[st, st] }) (B : Nat) (v : Value) (l : List T) (hs : a.eval s = v) (hown : OwnRow w B et n f v l)
    (ra : Option Addr) (rcap : Nat) (row : List T) (hx : a.eval x = .slice ra row.length rcap) (hrow : RowAt w ra n f row) (hra : ra = none → rcap = 0 ∧ row = []) (hlen : l.length + row.length ≤ 1000000) (hB : B ≤ w.heap.size)
    (h : ∀ v' w', OwnRow w' B et n f v' (l ++ row) → Below B w w' → w.grownBy w' v.ownBlock → K (a.put o.dst v') w') : Oper.wp P o a w K Q := by
  obtain ⟨i, hi, hzz⟩ := Option.map_eq_some_iff.1 hinfo
  simp only [Prod.mk.injEq] at hzz
  obtain ⟨hiz, hisz, hiby⟩ := hzz
  have hbb : (l.length + row.length) * bytes ≤ 140737488355328 := by
    have : (l.length + row.length) * bytes ≤ 1000000 * 1000 := Nat.mul_le_mul hlen hby
    omega
  cases ra with
  | none =>
    obtain ⟨rfl, rfl⟩ := hra rfl
    have hrun := run_append_owned_none (P := P) (w := w) B st o.type et i n hu hi v l.length (cellsL f l) hown
    have hK := h v w (by rw [List.append_nil]; exact hown) (Below.refl _ _) ⟨rfl, rfl, rfl, Nat.le_refl _, fun _ _ _ => rfl⟩
    unfold Oper.wp
    simp [execOp, ho, resolve, invoke, builtin, hs, hx, hrun, Result.andThen]
    exact hK
  | some ad =>
    by_cases hne : row = []
    · subst hne
      refine wp_append_own w s x st ho B et i z n bytes hu hi hiz hisz hiby hz hn v l.length (cellsL f l) hs hown ad 0 rcap [] hx (by simp) (by simp) (by simp) (by unfold maxLen; simp at hlen; omega) (by simpa using hbb) hB ?_
      intro v' w' h2 h3 _
      refine h v' w' ?_ ((Below.refl B w).grown h3 hB (fun k hk => (World.ownsRow.lt hown k hk).1)) h3
      unfold OwnRow
      simpa using h2
    · obtain ⟨b, o', e, hc⟩ := hrow.2 hne
      injection e with e
      subst e
      refine wp_append_own w s x st ho B et i z n bytes hu hi hiz hisz hiby hz hn v l.length (cellsL f l) hs hown ⟨b, o', none⟩ row.length rcap (cellsL f row) hx (by rw [cellsL_length hf]) (fun j u hj => hrow.cellAt hf hn j u hj)
        (cellsL_one h1 _) (by unfold maxLen; omega) hbb hB ?_
      intro v' w' h2 h3 _
      refine h v' w' ?_ ((Below.refl B w).grown h3 hB (fun k hk => (World.ownsRow.lt hown k hk).1)) h3
      unfold OwnRow
      rw [List.length_append, cellsL_append]
      exact h2
/-- The same in a region whose order is drawn. -/
theorem step_copyR {P : Program} {w : World} {ops : Array Oper} {o : Oper} {a : Act} {K : Act → World → Prop} {Q : Exit → Act → World → Prop} {E : Prop} (st et : TypeId) (bytes : Nat) (z : Value) (hu : P.underlying st = some (.slice et))
    (hinfo : (P.info? et).map (fun i => (i.zero, i.size, i.bytes)) = some (some z, n, bytes)) (hz : z.cells.size = n) (hn : 0 < n) (hby : bytes ≤ 1000) (hf : ∀ x, (f x).length = n) (h1 : ∀ x, ∀ v ∈ f x, v.oneCell' = true) (hgd : o.guard = none)
    (s x : Operand) (ho : o.op = .call { callee := .builtin .append, args := #[s, x], argTypes := #[st, st] }) (B : Nat) (v : Value) (l : List T) (hs : a.eval s = v) (hown : OwnRow w B et n f v l)
    (ra : Option Addr) (rcap : Nat) (row : List T) (hx : a.eval x = .slice ra row.length rcap) (hrow : RowAt w ra n f row) (hra : ra = none → rcap = 0 ∧ row = []) (hlen : l.length + row.length ≤ 1000000) (hB : B ≤ w.heap.size)
    (h : ∀ v' w', OwnRow w' B et n f v' (l ++ row) → Below B w w' → w.grownBy w' v.ownBlock → K (a.put o.dst v') w') : if Region.wanted o (yielded ops a.tmps) = true then Oper.wp P o a w K Q else E := by
  have hw : Region.wanted o (yielded ops a.tmps) = true := by simp [Region.wanted, hgd]
  rw [if_pos hw]
  exact wp_copyR st et bytes z hu hinfo hz hn hby hf h1 s x ho B v l hs hown ra rcap row hx hrow hra hlen hB h
theorem wpl_copyR {P : Program} {w : World} {ops : Array Oper} {rest : List Oper} {o : Oper} {a : Act} {Q : Exit → Act → World → Prop} (st et : TypeId) (bytes : Nat) (z : Value) (hu : P.underlying st = some (.slice et))
    (hinfo : (P.info? et).map (fun i => (i.zero, i.size, i.bytes)) = some (some z, n, bytes)) (hz : z.cells.size = n) (hn : 0 < n) (hby : bytes ≤ 1000) (hf : ∀ x, (f x).length = n) (h1 : ∀ x, ∀ v ∈ f x, v.oneCell' = true) (hgd : o.guard = none)
    (s x : Operand) (ho : o.op = .call { callee := .builtin .append, args := #[s, x], argTypes := #[st, st] }) (B : Nat) (v : Value) (l : List T) (hs : a.eval s = v) (hown : OwnRow w B et n f v l)
    (ra : Option Addr) (rcap : Nat) (row : List T) (hx : a.eval x = .slice ra row.length rcap) (hrow : RowAt w ra n f row) (hra : ra = none → rcap = 0 ∧ row = []) (hlen : l.length + row.length ≤ 1000000) (hB : B ≤ w.heap.size)
    (h : ∀ v' w', OwnRow w' B et n f v' (l ++ row) → Below B w w' → w.grownBy w' v.ownBlock → wpList P ops Q rest (a.put o.dst v') w') : wpList P ops Q (o :: rest) a w :=
  wpList_plain hgd fun _ hK => wp_copyR st et bytes z hu hinfo hz hn hby hf h1 s x ho B v l hs hown ra rcap row hx hrow hra hlen hB fun v' w' h2 h3 h4 => hK _ _ (h v' w' h2 h3 h4)
end

end Go.Proofs.Ytpanfhkmildkeaa
