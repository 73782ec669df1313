/- A map from texts to bools that are all true: a set, how many it has, beside other structures. -/
import Derived.Test.YtoaejkfejdaiaaaGen
import Derived.Test.YtoaejkfejdaiaaaQuPlain
import Derived.Maps.OwnOps
import Derived.Maps.OwnSet
import Derived.Maps.Views
namespace Go.Proofs.Ytoaejkfejdaiaaa
open Go.RowKit Go.Maps

theorem boLaw : Keyed Try.prog 9 := string_keyed Try.underlying9
theorem boZero (w : World) : (zeroValue 4).run Try.prog w = .ok (.bool false) w := by kernel_rfl
theorem boElem (x : Bool) : plainElem (H := Unit) Try.prog 4 (.bool x) = some (.lit (.bool x), []) := plainElem_bool Try.underlying4 x
set_option maxRecDepth 100000 in
theorem boElem_inv {v : Value} {b : Bool} {ps : List MemPlace} (h : plainElem (H := Unit) Try.prog 4 v = some (.lit (.bool b), ps)) : v = .bool b := by
  unfold plainElem at h
  simp only [Try.underlying4] at h
  cases v <;> simp at h
  rw [h.1]
theorem boKey {k : Txt} (h : k.length ≤ 1000) : keyOf Try.prog 9 (.string ⟨k.toArray⟩) = some (.string k) := by
  have := WideMaps.keyOf_string_mk (P := Try.prog) Try.underlying9 (s := ⟨k.toArray⟩) (by unfold maxLen; simp [ByteArray.size]; omega)
  simpa using this
theorem bo_block {k : TypeId} {R : Value → Option (DataW Unit × List MemPlace)} {b n : Nat} {D : DataW Unit} {w w' : World} (h : w.ownsMap Try.prog k R b n D) (e : w'.heap[b]? = w.heap[b]?) : w'.ownsMap Try.prog k R b n D := by
  obtain ⟨es, c, h1, h2⟩ := h
  exact ⟨es, c, e.trans h1, h2⟩
/-- The map's texts. -/
structure BM (w : World) (mb n : Nat) (f : Txt → Bool) : Prop where
  map : ∃ M : DataW Unit, w.ownsMap Try.prog 9 (plainElem Try.prog 4) mb n M ∧ ∀ k, k.length ≤ 1000 → M.atKey (.string k) (.lit (.bool false)) = .lit (.bool (f k))
section
variable {w w' : World} {mb n : Nat} {f : Txt → Bool}
theorem BM.start (W : World) : BM (W.alloc (.map #[] 0)) W.heap.size 0 (fun _ => false) := ⟨⟨.map [], World.ownsMap_made W _ _ _, fun _ _ => rfl⟩⟩
theorem BM.keep (o : BM w mb n f) (h : w'.heap[mb]? = w.heap[mb]?) : BM w' mb n f := by
  obtain ⟨M, hM, b1⟩ := o.map
  exact ⟨⟨M, bo_block hM h, b1⟩⟩
theorem BM.lt (o : BM w mb n f) : mb < w.heap.size := by
  obtain ⟨M, hM, _⟩ := o.map
  exact hM.lt
theorem BM.mono (o : BM w mb n f) {n' : Nat} (h : n ≤ n') : BM w mb n' f := by
  obtain ⟨M, hM, b1⟩ := o.map
  exact ⟨⟨M, hM.mono h, b1⟩⟩
theorem BM.later (o : BM w mb n f) (hb : Below w.heap.size w w') : BM w' mb n f := o.keep (hb.block _ o.lt)
theorem BM.onlyS (o : BM w mb n f) {S : Nat → Prop} (ho : OnlyS S w w') (h : ¬ S mb) : BM w' mb n f := o.keep (ho.block _ o.lt h)
theorem BM.congr (o : BM w mb n f) {g : Txt → Bool} (h : ∀ k, f k = g k) : BM w mb n g := by
  have : f = g := funext h
  rw [← this]; exact o
theorem BM.not_cells (o : BM w mb n f) {c : Array Value} {ty : TypeId} {z : Nat × Nat} (h : w.heap[mb]? = some (.cells c ty z)) : False := by
  obtain ⟨M, ⟨es, ck, e1, _⟩, _⟩ := o.map
  rw [e1] at h; cases h
set_option maxRecDepth 10000 in
theorem BM.look (o : BM w mb n f) {k : Txt} (hk : k.length ≤ 1000) : (Instr.lookup 45 (.map (some mb)) (.string ⟨k.toArray⟩) false).run Try.prog w = .ok (.bool (f k)) w := by
  obtain ⟨M, hM, b1⟩ := o.map
  obtain ⟨v, ps, hr, hv⟩ := hM.lookup boLaw Try.underlying45 (boZero w) (boElem false) (boKey hk)
  rw [b1 k hk] at hv
  rw [hr, boElem_inv hv]
set_option maxRecDepth 10000 in
theorem BM.put (o : BM w mb n f) (hn : n ≤ 1000000) {k : Txt} (hk : k.length ≤ 1000) (x : Bool) :
    ∃ w', (Instr.mapUpdate 45 (.map (some mb)) (.string ⟨k.toArray⟩) (.bool x)).run Try.prog w = .ok () w' ∧ BM w' mb (n + 1) (fun q => if q = k then x else f q) ∧ OnlyS (fun y => y = mb) w w' := by
  obtain ⟨M, hM, b1⟩ := o.map
  obtain ⟨w', hr, hM', hgr⟩ := hM.update boLaw Try.underlying45 (by unfold maxLen; omega) (boKey hk) (boElem x)
  have ho : OnlyS (fun y => y = mb) w w' := ⟨hgr.os, hgr.tape, hgr.output, hgr.size, fun k hk hb => hgr.block k hk (fun e => hb (by simpa using e))⟩
  refine ⟨w', hr, ⟨⟨_, hM', fun q hq => ?_⟩⟩, ho⟩
  by_cases e : q = k
  · subst e
    rw [if_pos rfl, atKey_put_same hM.isMap (by simp [WideAt.IsKeyLit])]
  · rw [if_neg e, atKey_put_other (by intro e2; injection e2 with e2; exact e e2), b1 q hq]
set_option maxRecDepth 10000 in
theorem BM.drop (o : BM w mb n f) {k : Txt} (hk : k.length ≤ 1000) (ty : TypeId) :
    ∃ w', (Builtin.delete_ #[45, 9] ty #[.map (some mb), .string ⟨k.toArray⟩]).run Try.prog w = .ok (.tuple #[]) w' ∧ BM w' mb n (fun q => if q = k then false else f q) ∧ OnlyS (fun y => y = mb) w w' := by
  obtain ⟨M, hM, b1⟩ := o.map
  obtain ⟨w', hr, hM', ht⟩ := hM.drop boLaw Try.underlying45 (boKey hk) ty
  have hgr := ht.grown
  have ho : OnlyS (fun y => y = mb) w w' := ⟨hgr.os, hgr.tape, hgr.output, hgr.size, fun k hk hb => hgr.block k hk (fun e => hb (by simpa using e))⟩
  refine ⟨w', hr, ⟨⟨_, hM', fun q hq => ?_⟩⟩, ho⟩
  by_cases e : q = k
  · subst e
    rw [if_pos rfl, atKey_del_same]
  · rw [if_neg e, atKey_del_other (by intro e2; injection e2 with e2; exact e e2), b1 q hq]
end
/-- A set in such a map: what is in it is true there, all else isn't there; how many it has. -/
structure SM (w : World) (mb n : Nat) (f : Txt → Bool) (c : Nat) : Prop where
  map : ∃ M : DataW Unit, w.ownsMap Try.prog 9 (plainElem Try.prog 4) mb n M ∧ (∀ k, k.length ≤ 1000 → M.atKey (.string k) (.lit (.bool false)) = .lit (.bool (f k))) ∧ (∀ k, k.length ≤ 1000 → has M (.string k) = f k) ∧ size M = c ∧ ∀ kl, has M kl = true → ∃ k, kl = .string k ∧ k.length ≤ 1000
section
variable {w w' : World} {mb n c : Nat} {f : Txt → Bool}
theorem SM.bm (o : SM w mb n f c) : BM w mb n f := by
  obtain ⟨M, hM, b1, _⟩ := o.map
  exact ⟨⟨M, hM, b1⟩⟩
theorem SM.start (W : World) : SM (W.alloc (.map #[] 0)) W.heap.size 0 (fun _ => false) 0 := ⟨⟨.map [], World.ownsMap_made W _ _ _, fun _ _ => rfl, fun _ _ => rfl, rfl, fun _ h => by cases h⟩⟩
theorem SM.keep (o : SM w mb n f c) (h : w'.heap[mb]? = w.heap[mb]?) : SM w' mb n f c := by
  obtain ⟨M, hM, r⟩ := o.map
  exact ⟨⟨M, bo_block hM h, r⟩⟩
theorem SM.later (o : SM w mb n f c) (hb : Below w.heap.size w w') : SM w' mb n f c := o.keep (hb.block _ o.bm.lt)
theorem SM.onlyS (o : SM w mb n f c) {S : Nat → Prop} (ho : OnlyS S w w') (h : ¬ S mb) : SM w' mb n f c := o.keep (ho.block _ o.bm.lt h)
theorem SM.congr (o : SM w mb n f c) {g : Txt → Bool} (h : ∀ k, f k = g k) : SM w mb n g c := by
  have : f = g := funext h
  rw [← this]; exact o
theorem SM.mono (o : SM w mb n f c) {n' : Nat} (h : n ≤ n') : SM w mb n' f c := by
  obtain ⟨M, hM, r⟩ := o.map
  exact ⟨⟨M, hM.mono h, r⟩⟩
theorem SM.le (o : SM w mb n f c) : c ≤ n := by
  obtain ⟨M, hM, _, _, rfl, _⟩ := o.map
  exact hM.size_le
set_option maxRecDepth 10000 in
theorem SM.put (o : SM w mb n f c) (hn : n ≤ 1000000) {k : Txt} (hk : k.length ≤ 1000) :
    ∃ w', (Instr.mapUpdate 45 (.map (some mb)) (.string ⟨k.toArray⟩) (.bool true)).run Try.prog w = .ok () w' ∧ SM w' mb (n + 1) (fun q => if q = k then true else f q) (if f k = true then c else c + 1) ∧ OnlyS (fun y => y = mb) w w' := by
  obtain ⟨M, hM, b1, b2, b3, b4⟩ := o.map
  obtain ⟨w', hr, hM', hgr⟩ := hM.update boLaw Try.underlying45 (by unfold maxLen; omega) (boKey hk) (boElem true)
  have ho : OnlyS (fun y => y = mb) w w' := ⟨hgr.os, hgr.tape, hgr.output, hgr.size, fun k hk hb => hgr.block k hk (fun e => hb (by simpa using e))⟩
  refine ⟨w', hr, ⟨⟨_, hM', fun q hq => ?_, fun q hq => ?_, by rw [size_put (hM.tidy boLaw), b2 k hk, b3], fun kl hkl => ?_⟩⟩, ho⟩
  · by_cases e : q = k
    · subst e
      rw [if_pos rfl, atKey_put_same hM.isMap (by simp [WideAt.IsKeyLit])]
    · rw [if_neg e, atKey_put_other (by intro e2; injection e2 with e2; exact e e2), b1 q hq]
  · by_cases e : q = k
    · subst e
      rw [if_pos rfl, has_put_same hM.isMap (by simp [WideAt.IsKeyLit])]
    · rw [if_neg e, has_put_other (by intro e2; injection e2 with e2; exact e e2), b2 q hq]
  · by_cases e : kl = .string k
    · exact ⟨k, e, hk⟩
    · rw [has_put_other e] at hkl
      exact b4 kl hkl
set_option maxRecDepth 10000 in
theorem SM.drop (o : SM w mb n f c) {k : Txt} (hk : k.length ≤ 1000) (ty : TypeId) :
    ∃ w', (Builtin.delete_ #[45, 9] ty #[.map (some mb), .string ⟨k.toArray⟩]).run Try.prog w = .ok (.tuple #[]) w' ∧ SM w' mb n (fun q => if q = k then false else f q) (if f k = true then c - 1 else c) ∧ OnlyS (fun y => y = mb) w w' := by
  obtain ⟨M, hM, b1, b2, b3, b4⟩ := o.map
  obtain ⟨w', hr, hM', ht⟩ := hM.drop boLaw Try.underlying45 (boKey hk) ty
  have hgr := ht.grown
  have ho : OnlyS (fun y => y = mb) w w' := ⟨hgr.os, hgr.tape, hgr.output, hgr.size, fun k hk hb => hgr.block k hk (fun e => hb (by simpa using e))⟩
  have hs := size_del (k := .string k) (hM.tidy boLaw)
  rw [b2 k hk, b3] at hs
  refine ⟨w', hr, ⟨⟨_, hM', fun q hq => ?_, fun q hq => ?_, by cases h : f k <;> simp [h] at hs ⊢ <;> omega, fun kl hkl => ?_⟩⟩, ho⟩
  · by_cases e : q = k
    · subst e
      rw [if_pos rfl, atKey_del_same]
    · rw [if_neg e, atKey_del_other (by intro e2; injection e2 with e2; exact e e2), b1 q hq]
  · by_cases e : q = k
    · subst e
      rw [if_pos rfl, has_del_same]
    · rw [if_neg e, has_del_other (by intro e2; injection e2 with e2; exact e e2), b2 q hq]
  · by_cases e : kl = .string k
    · exact ⟨k, e, hk⟩
    · rw [has_del_other e] at hkl
      exact b4 kl hkl
theorem SM.len (o : SM w mb n f c) (ty : TypeId) : (Builtin.len_ #[45] ty #[.map (some mb)]).run Try.prog w = .ok (.int .i64 (c : Nat)) w := by
  obtain ⟨M, hM, _, _, rfl, _⟩ := o.map
  exact hM.len Try.underlying45 ty
end
end Go.Proofs.Ytoaejkfejdaiaaa
