/- Two rows of events of the call's own, apart from one another. -/
import Derived.Test.YtfhndbibabbnlaaEvRows
import Derived.Maps.AppendAt
namespace Go.Proofs.Ytfhndbibabbnlaa
open Go.RowKit

def EvPair (w : World) (B : Nat) (va : Value) (xa : List Ev) (vb : Value) (xb : List Ev) : Prop := OwnE w B va xa ∧ OwnE w B vb xb ∧ ∀ k, va.ownBlock = some k → vb.ownBlock ≠ some k
theorem EvPair.swap {w : World} {B : Nat} {va vb : Value} {xa xb : List Ev} (h : EvPair w B va xa vb xb) : EvPair w B vb xb va xa := ⟨h.2.1, h.1, fun k h1 h2 => h.2.2 k h2 h1⟩
theorem EvPair.later {w w' : World} {B : Nat} {va vb : Value} {xa xb : List Ev} (h : EvPair w B va xa vb xb) (hb : Below w.heap.size w w') : EvPair w' B va xa vb xb := ⟨h.1.later hb, h.2.1.later hb, h.2.2⟩
theorem EvPair.start (w : World) (B : Nat) : EvPair w B (.slice none 0 0) [] (.slice none 0 0) [] := ⟨ownE_nil _ _, ownE_nil _ _, by simp [Value.ownBlock]⟩

theorem wp_appendP {w : World} {ops : Array Oper} {rest : List Oper} {o : Oper} {a : Act} {Q : Exit → Act → World → Prop} (hgd : o.guard = none) (s x : Operand)
    (ho : o.op = .call { callee := .builtin .append, args := #[s, x], argTypes := #[27, 27] }) (B : Nat) (v : Value) (es : List Ev) (hs : a.eval s = v) (vb : Value) (xb : List Ev) (hown : EvPair w B v es vb xb)
    (ad : Addr) (hx : a.eval x = .slice (some ad) 1 1) (e : Ev) (hnews : ∀ j u, (evCells [e])[j]? = some u → w.cell? (ad.add j) = some u)
    (hlen : es.length ≤ 1000000) (hB : B ≤ w.heap.size)
    (h : ∀ v' w', EvPair w' B v' (es ++ [e]) vb xb → Below B w w' → wpList Try.prog ops Q rest (a.put o.dst v') w') : wpList Try.prog ops Q (o :: rest) a w := by
  have hinfo : (Try.prog.info? 23).map (fun i => (i.zero, i.size, i.bytes)) = some (some (.agg #[.int .i64 0, .int .i64 0, .int .i64 0, .bool false]), 4, 32) := by kernel_rfl
  obtain ⟨t, hi, hzz⟩ := Option.map_eq_some_iff.1 hinfo
  simp only [Prod.mk.injEq] at hzz
  obtain ⟨hz, hsz, hby⟩ := hzz
  refine wpList_append_own_at w hgd s x 27 ho B 23 t (.agg #[.int .i64 0, .int .i64 0, .int .i64 0, .bool false]) 4 32 Try.underlying27 hi hz hsz hby rfl (by decide) v es.length (evCells es) hs hown.1 ad 1 1 (evCells [e]) hx rfl hnews
    (evCells_one _) (by unfold maxLen; omega) (by omega) hB ?_
  intro v' w' h1 h2 _ h4
  have hb : Below B w w' := (Below.refl B w).grown h2 hB (fun k hk => (World.ownsRow.lt hown.1 k hk).1)
  refine h v' w' ⟨?_, ?_, ?_⟩ hb
  · unfold OwnE
    rw [List.length_append, evCells_append]
    exact h1
  · refine World.ownsRow.kept hown.2.1 h2 ?_
    rcases hv : vb.ownBlock with _ | k
    · exact .inl rfl
    · refine .inr (fun e => ?_)
      exact hown.2.2 k e.symm hv
  · intro k hk
    rcases h4 with h4 | h4
    · exact hown.2.2 k (h4.symm.trans hk)
    · rw [h4] at hk
      injection hk with hk
      subst hk
      intro hv
      have := (World.ownsRow.lt hown.2.1 _ hv).2
      omega

end Go.Proofs.Ytfhndbibabbnlaa
