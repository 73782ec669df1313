/- A map that counts texts, beside a queue. -/
import Derived.Test.YtkphdmfcmfojeaaQuPlays
import Derived.Maps.OwnOps
import Derived.Maps.OwnSet
import Derived.Maps.Views
namespace Go.Proofs.Ytkphdmfcmfojeaa
open Go.RowKit Go.Maps

theorem cntLaw : Keyed Try.prog 9 := string_keyed Try.underlying9
theorem cntZero (w : World) : (zeroValue 3).run Try.prog w = .ok (.int .i64 0) w := by kernel_rfl
theorem cntKey {k : Txt} (h : k.length ≤ 1000) : keyOf Try.prog 9 (.string ⟨k.toArray⟩) = some (.string k) := by
  have := WideMaps.keyOf_string_mk (P := Try.prog) Try.underlying9 (s := ⟨k.toArray⟩) (by unfold maxLen; simp [ByteArray.size]; omega)
  simpa using this
theorem cnt_block {k : TypeId} {R : Value → Option (DataW Unit × List MemPlace)} {b n : Nat} {D : DataW Unit} {w w' : World} (h : w.ownsMap Try.prog k R b n D) (e : w'.heap[b]? = w.heap[b]?) : w'.ownsMap Try.prog k R b n D := by
  obtain ⟨es, c, h1, h2⟩ := h
  exact ⟨es, c, e.trans h1, h2⟩
/-- Texts' numbers in a map. -/
structure CntM (w : World) (mb n : Nat) (f : Txt → Nat) : Prop where
  map : ∃ M : DataW Unit, w.ownsMap Try.prog 9 (plainElem Try.prog 3) mb n M ∧ (∀ k, k.length ≤ 1000 → M.atKey (.string k) (.lit (.int .i64 0)) = .lit (.int .i64 (f k : Nat)))
section
variable {w w' : World} {mb n : Nat} {f : Txt → Nat}
theorem CntM.start (W : World) : CntM (W.alloc (.map #[] 0)) W.heap.size 0 (fun _ => 0) := ⟨⟨.map [], World.ownsMap_made W _ _ _, fun _ _ => rfl⟩⟩
theorem CntM.keep (o : CntM w mb n f) (h : w'.heap[mb]? = w.heap[mb]?) : CntM w' mb n f := by
  obtain ⟨M, hM, b1⟩ := o.map
  exact ⟨⟨M, cnt_block hM h, b1⟩⟩
theorem CntM.lt (o : CntM w mb n f) : mb < w.heap.size := by
  obtain ⟨M, hM, _⟩ := o.map
  exact hM.lt
theorem CntM.mono (o : CntM w mb n f) {n' : Nat} (h : n ≤ n') : CntM w mb n' f := by
  obtain ⟨M, hM, b1⟩ := o.map
  exact ⟨⟨M, hM.mono h, b1⟩⟩
theorem CntM.later (o : CntM w mb n f) (hb : Below w.heap.size w w') : CntM w' mb n f := o.keep (hb.block _ o.lt)
theorem CntM.onlyS (o : CntM w mb n f) {S : Nat → Prop} (ho : OnlyS S w w') (h : ¬ S mb) : CntM w' mb n f := o.keep (ho.block _ o.lt h)
theorem CntM.congr (o : CntM w mb n f) {g : Txt → Nat} (h : ∀ k, f k = g k) : CntM w mb n g := by
  have : f = g := funext h
  rw [← this]; exact o
/-- No block of a queue's is the map's. -/
theorem CntM.apart (o : CntM w mb n f) {B b : Nat} {S : Nat → Prop} {T : List Txt} (q : QU w B b S T) : ¬ S mb := fun hx => by
  obtain ⟨M, ⟨es, ck, e1, _⟩, _⟩ := o.map
  obtain ⟨_, c, ty, e, _⟩ := q.kinds hx
  rw [e1] at e; cases e
set_option maxRecDepth 10000 in
theorem CntM.look (o : CntM w mb n f) {k : Txt} (hk : k.length ≤ 1000) : (Instr.lookup 88 (.map (some mb)) (.string ⟨k.toArray⟩) false).run Try.prog w = .ok (.int .i64 (f k : Nat)) w := by
  obtain ⟨M, hM, b1⟩ := o.map
  obtain ⟨c, hr, hc, _⟩ := hM.lookup_int cntLaw Try.underlying88 Try.underlying3 (cntZero w) (cntKey hk)
  rw [b1 k hk] at hc
  injection hc with hc
  injection hc with _ hc
  rw [hr, hc]
set_option maxRecDepth 10000 in
theorem CntM.put (o : CntM w mb n f) (hn : n ≤ 1000000) {k : Txt} (hk : k.length ≤ 1000) {c : Nat} (hc : c ≤ 1000000) :
    ∃ w', (Instr.mapUpdate 88 (.map (some mb)) (.string ⟨k.toArray⟩) (.int .i64 (c : Nat))).run Try.prog w = .ok () w' ∧ CntM w' mb (n + 1) (fun q => if q = k then c else f q) ∧ OnlyS (fun y => y = mb) w w' := by
  obtain ⟨M, hM, b1⟩ := o.map
  have hw : (Lit.int .i64 (c : Int)).wf = true := WalkArith.wf_i64 (by omega)
  obtain ⟨w', hr, hM', hgr⟩ := hM.update cntLaw Try.underlying88 (by unfold maxLen; omega) (cntKey hk) (plainElem_int Try.underlying3 hw)
  have ho : OnlyS (fun y => y = mb) w w' := ⟨hgr.os, hgr.tape, hgr.output, hgr.size, fun k hk hb => hgr.block k hk (fun e => hb (by simpa using e))⟩
  refine ⟨w', hr, ⟨⟨_, hM', fun q hq => ?_⟩⟩, ho⟩
  by_cases e : q = k
  · subst e
    rw [if_pos rfl, atKey_put_same hM.isMap (by simp [WideAt.IsKeyLit])]
  · rw [if_neg e, atKey_put_other (by intro e2; injection e2 with e2; exact e e2), b1 q hq]
end
theorem count_snoc (l : List Txt) (x k : Txt) : (l ++ [x]).count k = if k = x then l.count x + 1 else l.count k := by
  rw [List.count_append]
  by_cases e : k = x
  · subst e; simp
  · rw [if_neg e]
    have : ([x] : List Txt).count k = 0 := by
      rw [List.count_eq_zero]
      simpa using e
    omega
theorem count_take {T T' : List Txt} {x : Txt} (p : (x :: T').Perm T) (k : Txt) : T'.count k = if k = x then T.count x - 1 else T.count k := by
  rw [← p.count_eq, ← p.count_eq]
  by_cases e : k = x
  · subst e; simp
  · rw [if_neg e, List.count_cons_of_ne (Ne.symm e)]
theorem count_pos {T T' : List Txt} {x : Txt} (p : (x :: T').Perm T) : T.count x = T'.count x + 1 := by
  rw [← p.count_eq]; simp
end Go.Proofs.Ytkphdmfcmfojeaa
