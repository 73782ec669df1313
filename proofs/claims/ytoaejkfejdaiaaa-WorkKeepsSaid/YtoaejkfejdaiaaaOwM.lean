/- A map from texts to numbers, of which only matters what is in it, and how many: beside other structures. -/
import Derived.Test.YtoaejkfejdaiaaaBoM
namespace Go.Proofs.Ytoaejkfejdaiaaa
open Go.RowKit Go.Maps

theorem owZero (w : World) : (zeroValue 3).run Try.prog w = .ok (.int .i64 0) w := by kernel_rfl
theorem ow_wf {n : Nat} (h : n ≤ 1000000) : (Lit.int .i64 (n : Int)).wf = true := by
  simp [Lit.wf, IntKind.min, IntKind.max, IntKind.signed, IntKind.bits]
  omega
theorem owElem {n : Nat} (h : n ≤ 1000000) : plainElem (H := Unit) Try.prog 3 (.int .i64 (n : Int)) = some (.lit (.int .i64 (n : Int)), []) := plainElem_int Try.underlying3 (ow_wf h)
/-- What is in the map, and how many there are. -/
structure IM (w : World) (mb n : Nat) (f : Txt → Bool) (c : Nat) : Prop where
  map : ∃ M : DataW Unit, w.ownsMap Try.prog 9 (plainElem Try.prog 3) mb n M ∧ (∀ k, k.length ≤ 1000 → has M (.string k) = f k) ∧ size M = c
section
variable {w w' : World} {mb n c : Nat} {f : Txt → Bool}
theorem IM.start (W : World) : IM (W.alloc (.map #[] 0)) W.heap.size 0 (fun _ => false) 0 := ⟨⟨.map [], World.ownsMap_made W _ _ _, fun _ _ => rfl, rfl⟩⟩
theorem IM.keep (o : IM w mb n f c) (h : w'.heap[mb]? = w.heap[mb]?) : IM w' mb n f c := by
  obtain ⟨M, hM, r⟩ := o.map
  exact ⟨⟨M, bo_block hM h, r⟩⟩
theorem IM.lt (o : IM w mb n f c) : mb < w.heap.size := by
  obtain ⟨M, hM, _⟩ := o.map
  exact hM.lt
theorem IM.later (o : IM w mb n f c) (hb : Below w.heap.size w w') : IM w' mb n f c := o.keep (hb.block _ o.lt)
theorem IM.onlyS (o : IM w mb n f c) {S : Nat → Prop} (ho : OnlyS S w w') (h : ¬ S mb) : IM w' mb n f c := o.keep (ho.block _ o.lt h)
theorem IM.congr (o : IM w mb n f c) {g : Txt → Bool} {d : Nat} (h : ∀ k, f k = g k) (e : c = d) : IM w mb n g d := by
  have : f = g := funext h
  rw [← this, ← e]; exact o
theorem IM.mono (o : IM w mb n f c) {n' : Nat} (h : n ≤ n') : IM w mb n' f c := by
  obtain ⟨M, hM, r⟩ := o.map
  exact ⟨⟨M, hM.mono h, r⟩⟩
theorem IM.not_cells (o : IM w mb n f c) {d : Array Value} {ty : TypeId} {z : Nat × Nat} (h : w.heap[mb]? = some (.cells d ty z)) : False := by
  obtain ⟨M, ⟨es, ck, e1, _⟩, _⟩ := o.map
  rw [e1] at h; cases h
set_option maxRecDepth 10000 in
theorem IM.look (o : IM w mb n f c) {k : Txt} (hk : k.length ≤ 1000) : ∃ v, (Instr.lookup 46 (.map (some mb)) (.string ⟨k.toArray⟩) true).run Try.prog w = .ok (.tuple #[v, .bool (f k)]) w := by
  obtain ⟨M, hM, b1, _⟩ := o.map
  obtain ⟨v, ps, hr, _⟩ := hM.look_ok boLaw Try.underlying46 (owZero w) (owElem (n := 0) (by omega)) (boKey hk)
  rw [b1 k hk] at hr
  exact ⟨v, hr⟩
set_option maxRecDepth 10000 in
theorem IM.put (o : IM w mb n f c) (hn : n ≤ 1000000) {k : Txt} (hk : k.length ≤ 1000) {x : Nat} (hx : x ≤ 1000000) :
    ∃ w', (Instr.mapUpdate 46 (.map (some mb)) (.string ⟨k.toArray⟩) (.int .i64 (x : Int))).run Try.prog w = .ok () w' ∧ IM w' mb (n + 1) (fun q => if q = k then true else f q) (if f k = true then c else c + 1) ∧ OnlyS (fun y => y = mb) w w' := by
  obtain ⟨M, hM, b2, b3⟩ := o.map
  obtain ⟨w', hr, hM', hgr⟩ := hM.update boLaw Try.underlying46 (by unfold maxLen; omega) (boKey hk) (owElem hx)
  have ho : OnlyS (fun y => y = mb) w w' := ⟨hgr.os, hgr.tape, hgr.output, hgr.size, fun k hk hb => hgr.block k hk (fun e => hb (by simpa using e))⟩
  refine ⟨w', hr, ⟨⟨_, hM', fun q hq => ?_, by rw [size_put (hM.tidy boLaw), b2 k hk, b3]⟩⟩, ho⟩
  by_cases e : q = k
  · subst e
    rw [if_pos rfl, has_put_same hM.isMap (by simp [WideAt.IsKeyLit])]
  · rw [if_neg e, has_put_other (by intro e2; injection e2 with e2; exact e e2), b2 q hq]
set_option maxRecDepth 10000 in
theorem IM.drop (o : IM w mb n f c) {k : Txt} (hk : k.length ≤ 1000) (ty : TypeId) :
    ∃ w', (Builtin.delete_ #[46, 9] ty #[.map (some mb), .string ⟨k.toArray⟩]).run Try.prog w = .ok (.tuple #[]) w' ∧ IM w' mb n (fun q => if q = k then false else f q) (if f k = true then c - 1 else c) ∧ OnlyS (fun y => y = mb) w w' := by
  obtain ⟨M, hM, b2, b3⟩ := o.map
  obtain ⟨w', hr, hM', ht⟩ := hM.drop boLaw Try.underlying46 (boKey hk) ty
  have hgr := ht.grown
  have ho : OnlyS (fun y => y = mb) w w' := ⟨hgr.os, hgr.tape, hgr.output, hgr.size, fun k hk hb => hgr.block k hk (fun e => hb (by simpa using e))⟩
  have hs := size_del (k := .string k) (hM.tidy boLaw)
  rw [b2 k hk, b3] at hs
  refine ⟨w', hr, ⟨⟨_, hM', fun q hq => ?_, by cases h : f k <;> simp [h] at hs ⊢ <;> omega⟩⟩, ho⟩
  by_cases e : q = k
  · subst e
    rw [if_pos rfl, has_del_same]
  · rw [if_neg e, has_del_other (by intro e2; injection e2 with e2; exact e e2), b2 q hq]
theorem IM.len (o : IM w mb n f c) (ty : TypeId) : (Builtin.len_ #[46] ty #[.map (some mb)]).run Try.prog w = .ok (.int .i64 (c : Nat)) w := by
  obtain ⟨M, hM, _, rfl⟩ := o.map
  exact hM.len Try.underlying46 ty
end
end Go.Proofs.Ytoaejkfejdaiaaa
