/-
  TreeOnce: no thread of a node is gone into twice, and only those who may, are marked, and do not sleep, and a child's sleepers slept, or were gone into ahead: the law answers true, and its arguments read as they did.
  For every input, whatever its size and however its parts share memory; nothing is asked of it but what the statement's own form asks.
-/
import Derived.DeepKeys4
import Derived.Deep.DeepCutAuto
import Derived.Deep.CutBlock
import Derived.WalkKit
import Derived.ProofKit
import Derived.OpenShut
import Derived.Test.YtnldkmcijmbhcaaRows
import Derived.Test.YtnldkmcijmbhcaaPk05
import Derived.Test.YtnldkmcijmbhcaaPk06

/- The law TreeOnce's two maps: who was gone into, who is marked. -/
namespace Go.Proofs.Ytnldkmcijmbhcaa
open Go.RowKit Go.Maps

theorem onLaidOut : laidOutB Try.prog = true := by kernel_rfl
theorem onRow : (73 : TypeId) < Try.prog.types.size := of_decide_eq_true (by kernel_rfl)
theorem onDeep : Try.prog.keyTypeAt 2 73 = true := by kernel_rfl
set_option maxRecDepth 10000 in
theorem onLaw : Keyed Try.prog 73 := by
  refine Keyed.of_law (deep_law_laid onLaidOut (m := 2) (by omega) onRow onDeep ?_)
  rw [Try.underlying73]
theorem onCells : Try.prog.cellsOf 73 = 2 := by kernel_rfl
theorem onCellsS : Try.prog.cellsOf 9 = 1 := by kernel_rfl
theorem onCellsI : Try.prog.cellsOf 3 = 1 := by kernel_rfl
theorem onKeyT : Try.prog.keyType 73 = true := by kernel_rfl
theorem onSize : ∃ n, Try.prog.types.size = n + 1 := ⟨Try.prog.types.size - 1, by have : (0 : Nat) < Try.prog.types.size := of_decide_eq_true (by kernel_rfl); omega⟩
/-- A pair. -/
def pairV (k : Pfx) (x : Int) : Value := .agg #[.string ⟨k.toArray⟩, .int .i64 x]
theorem pairV_inj {k k' : Pfx} {x x' : Int} (h : pairV k x = pairV k' x') : k = k' ∧ x = x' := by
  unfold pairV at h
  injection h with h
  simp at h
  exact h
noncomputable def pairL (k : Pfx) (x : Int) : Lit := (keyOf Try.prog 73 (pairV k x)).getD (.bool false)
theorem pairKey {k : Pfx} (hk : k.length ≤ 1000) {x : Int} (hx : 0 ≤ x ∧ x < 8) : keyOf Try.prog 73 (pairV k x) = some (pairL k x) := by
  have key : ∃ l, keyOf Try.prog 73 (pairV k x) = some l := by
    obtain ⟨n, hn⟩ := onSize
    have hw : (Lit.int .i64 x).wf = true := WalkArith.wf_i64 (by omega)
    have hs : (⟨k.toArray⟩ : ByteArray).size ≤ maxLen := by unfold maxLen; simp [ByteArray.size]; omega
    have hf : (pairV k x).formed Try.prog 73 = true := by simp [pairV, Value.formed, Try.underlying73, onCells]
    unfold keyOf
    rw [Try.underlying73]
    dsimp only
    rw [onKeyT, hf, hn]
    simp [pairV, Value.cells, Program.keyLits, Try.underlying73, Try.underlying9, Try.underlying3, onCells, onCellsS, onCellsI, hs, hw]
  obtain ⟨l, hl⟩ := key
  unfold pairL
  rw [hl]
  rfl
theorem pairL_inj {k k' : Pfx} (hk : k.length ≤ 1000) (hk' : k'.length ≤ 1000) {x x' : Int} (hx : 0 ≤ x ∧ x < 8) (hx' : 0 ≤ x' ∧ x' < 8) (h : pairL k x = pairL k' x') : k = k' ∧ x = x' := by
  have h1 := pairKey hk hx
  rw [h] at h1
  exact pairV_inj (onLaw.inj h1 (pairKey hk' hx'))
theorem zeroB (w : World) : (zeroValue 4).run Try.prog w = .ok (.bool false) w := by kernel_rfl
theorem zeroU (w : World) : (zeroValue 5).run Try.prog w = .ok (.int .u8 0) w := by kernel_rfl

/-- The two maps: who was gone into at which prefix, who is marked there. -/
structure OnceM (w : World) (db mb n : Nat) (g m : Pfx → Nat) (cl : Int) : Prop where
  done : ∃ D : DataW Unit, w.ownsMap Try.prog 73 (plainElem Try.prog 4) db n D ∧ (∀ k x, k.length ≤ 1000 → 0 ≤ x ∧ x < 8 → D.atKey (pairL k x) (.lit (.bool false)) = .lit (.bool (hasB (g k) x)) ∧ Maps.has D (pairL k x) = hasB (g k) x) ∧ (Maps.size D : Int) = cl
  mark : ∃ M : DataW Unit, w.ownsMap Try.prog 9 (plainElem Try.prog 5) mb n M ∧ (∀ k, k.length ≤ 1000 → M.atKey (.string k) (.lit (.int .u8 0)) = .lit (.int .u8 (m k : Nat)))
  small : ∀ k, m k < 256
section
variable {w : World} {db mb n : Nat} {g m : Pfx → Nat} {cl : Int}
theorem hasB_zero (x : Int) : hasB 0 x = false := by unfold hasB; simp
theorem OnceM.start (W : World) (g : Pfx → Nat) (hg : ∀ k, g k = 0) : OnceM ((W.alloc (.map #[] 0)).alloc (.map #[] 0)) W.heap.size (W.heap.size + 1) 0 g (fun _ => 0) 0 := by
  refine ⟨⟨.map [], (World.ownsMap_made W _ _ _).alloc _, fun k x _ _ => ?_, rfl⟩, ⟨.map [], ?_, fun k _ => rfl⟩, fun _ => by omega⟩
  · rw [hg, hasB_zero]
    exact ⟨rfl, rfl⟩
  · have := World.ownsMap_made (H := Unit) (W.alloc (.map #[] 0)) Try.prog 9 (plainElem Try.prog 5)
    rw [World.size_alloc] at this
    exact this
theorem OnceM.keep (o : OnceM w db mb n g m cl) {w' : World} (h1 : w'.heap[db]? = w.heap[db]?) (h2 : w'.heap[mb]? = w.heap[mb]?) : OnceM w' db mb n g m cl := by
  obtain ⟨⟨D, hD, a1, a2⟩, ⟨M, hM, b1⟩, c⟩ := o
  exact ⟨⟨D, tr_block hD h1, a1, a2⟩, ⟨M, tr_block hM h2, b1⟩, c⟩
theorem OnceM.mono (o : OnceM w db mb n g m cl) {n' : Nat} (h : n ≤ n') : OnceM w db mb n' g m cl := by
  obtain ⟨⟨D, hD, a1, a2⟩, ⟨M, hM, b1⟩, c⟩ := o
  exact ⟨⟨D, hD.mono h, a1, a2⟩, ⟨M, hM.mono h, b1⟩, c⟩
theorem OnceM.lt (o : OnceM w db mb n g m cl) : db < w.heap.size ∧ mb < w.heap.size := by
  obtain ⟨⟨D, hD, _⟩, ⟨M, hM, _⟩, _⟩ := o
  exact ⟨hD.lt, hM.lt⟩
theorem OnceM.later (o : OnceM w db mb n g m cl) {w' : World} (hb : Below w.heap.size w w') : OnceM w' db mb n g m cl := o.keep (hb.block _ o.lt.1) (hb.block _ o.lt.2)
theorem OnceM.onlyS (o : OnceM w db mb n g m cl) {S : Nat → Prop} {w' : World} (ho : OnlyS S w w') (h1 : ¬ S db) (h2 : ¬ S mb) : OnceM w' db mb n g m cl := o.keep (ho.block _ o.lt.1 h1) (ho.block _ o.lt.2 h2)
/-- No block of a tree's is one of the maps'. -/
theorem OnceM.apart (o : OnceM w db mb n g m cl) {h : TrH} {gs : List Nat} {l : List TNd} {c : Int} (t : TrAt h w gs l c) (h1 : h.mb < db) (h2 : h.mb < mb) : ¬ TrS h gs db ∧ ¬ TrS h gs mb := by
  obtain ⟨⟨D, ⟨es, ck, e1, _⟩, _⟩, ⟨M, ⟨es2, ck2, e2, _⟩, _⟩, _⟩ := o
  constructor
  · intro hx
    rcases t.kinds hx with ⟨_, _, e, _⟩ | ⟨rfl, _⟩
    · rw [e1] at e; cases e
    · omega
  · intro hx
    rcases t.kinds hx with ⟨_, _, e, _⟩ | ⟨rfl, _⟩
    · rw [e2] at e; cases e
    · omega
set_option maxRecDepth 10000 in
theorem OnceM.look (o : OnceM w db mb n g m cl) {k : Pfx} (hk : k.length ≤ 1000) {x : Int} (hx : 0 ≤ x ∧ x < 8) : (Instr.lookup 70 (.map (some db)) (.agg #[.string ⟨k.toArray⟩, .int .i64 x]) false).run Try.prog w = .ok (.bool (hasB (g k) x)) w := by
  obtain ⟨⟨D, hD, a1, _⟩, _⟩ := o
  obtain ⟨v, ps, hr, hv⟩ := hD.lookup onLaw Try.underlying70 (zeroB w) (plainElem_bool Try.underlying4 false) (pairKey hk hx)
  rw [(a1 k x hk hx).1] at hv
  have : v = .bool (hasB (g k) x) := by
    unfold plainElem at hv
    rw [Try.underlying4] at hv
    split at hv
    · injection hv with hv
      injection hv with hv _
      injection hv with hv
      injection hv with hv
      rw [hv]
    · exact absurd ‹some TypeDesc.bool = some (TypeDesc.int _)› (by simp)
    · exact absurd ‹some TypeDesc.bool = some TypeDesc.string› (by simp)
    · cases hv
  rw [← this]
  exact hr
set_option maxRecDepth 10000 in
theorem OnceM.lookM (o : OnceM w db mb n g m cl) {k : Pfx} (hk : k.length ≤ 1000) : (Instr.lookup 71 (.map (some mb)) (.string ⟨k.toArray⟩) false).run Try.prog w = .ok (.int .u8 (m k : Nat)) w := by
  obtain ⟨_, ⟨M, hM, b1⟩, _⟩ := o
  obtain ⟨c, hr, hc, _⟩ := hM.lookup_int trLaw Try.underlying71 Try.underlying5 (zeroU w) (trKey hk)
  rw [b1 k hk] at hc
  injection hc with hc
  injection hc with _ hc
  rw [hr, hc]
set_option maxRecDepth 10000 in
theorem OnceM.len (o : OnceM w db mb n g m cl) (ty : TypeId) : (Builtin.len_ #[70] ty #[.map (some db)]).run Try.prog w = .ok (.int .i64 cl) w := by
  obtain ⟨⟨D, hD, _, a2⟩, _⟩ := o
  have hl := hD.len Try.underlying70 ty
  rw [a2] at hl
  exact hl
set_option maxRecDepth 10000 in
/-- One more is gone into. -/
theorem OnceM.put (o : OnceM w db mb n g m cl) (hne : db ≠ mb) (hn : n ≤ 1000000) {k : Pfx} (hk : k.length ≤ 1000) {x : Int} (hx : 0 ≤ x ∧ x < 8) (hg : hasB (g k) x = false) {g' : Pfx → Nat} (hg' : ∀ q, g' q = if q = k then wt (g k) x else g q) :
    ∃ w', (Instr.mapUpdate 70 (.map (some db)) (.agg #[.string ⟨k.toArray⟩, .int .i64 x]) (.bool true)).run Try.prog w = .ok () w' ∧ OnceM w' db mb (n + 1) g' m (cl + 1) ∧ OnlyS (fun y => y = db) w w' := by
  obtain ⟨⟨D, hD, a1, a2⟩, ⟨M, hM, b1⟩, c⟩ := o
  obtain ⟨w', hr, hD', hgr⟩ := hD.update onLaw Try.underlying70 (by unfold maxLen; omega) (pairKey hk hx) (plainElem_bool Try.underlying4 true)
  have ho : OnlyS (fun y => y = db) w w' := ⟨hgr.os, hgr.tape, hgr.output, hgr.size, fun k hk hb => hgr.block k hk (fun e => hb (by simpa using e))⟩
  have hlit := onLaw.key (pairKey hk hx)
  refine ⟨w', hr, ⟨⟨_, hD', fun q y hq hy => ?_, ?_⟩, ⟨M, (tr_block hM (ho.block _ hM.lt (Ne.symm hne))).mono (by omega), b1⟩, c⟩, ho⟩
  · rw [hg']
    by_cases e : q = k ∧ y = x
    · obtain ⟨rfl, rfl⟩ := e
      rw [if_pos rfl, atKey_put_same hD.isMap hlit, has_put_same hD.isMap hlit, hasB_same hx rfl]
      exact ⟨rfl, rfl⟩
    · have hne2 : pairL q y ≠ pairL k x := fun e2 => e (pairL_inj hq hk hy hx e2)
      rw [atKey_put_other hne2, has_put_other hne2, (a1 q y hq hy).1, (a1 q y hq hy).2]
      by_cases e3 : q = k
      · subst e3
        have e4 : y ≠ x := fun e4 => e ⟨rfl, e4⟩
        rw [if_pos rfl]
        have : hasB (wt (g q) x) y = hasB (g q) y := by
          obtain ⟨i, rfl⟩ : ∃ i : Nat, y = i := ⟨y.toNat, by omega⟩
          rw [hasB_nat _ (by omega), hasB_nat _ (by omega), testBit_wt (by omega)]
          simp
          intro e5
          exact absurd e5.symm e4
        rw [this]
        exact ⟨rfl, rfl⟩
      · rw [if_neg e3]
        exact ⟨rfl, rfl⟩
  · have hh : Maps.has D (pairL k x) = false := by rw [(a1 k x hk hx).2, hg]
    have := size_put (hD.tidy onLaw) (k := pairL k x) (.lit (.bool true))
    rw [hh] at this
    rw [this, ← a2]
    simp
/-- More are marked. -/
theorem OnceM.putM (o : OnceM w db mb n g m cl) (hne : db ≠ mb) (hn : n ≤ 1000000) {k : Pfx} (hk : k.length ≤ 1000) {s : Nat} (hs : s < 256) :
    ∃ w', (Instr.mapUpdate 71 (.map (some mb)) (.string ⟨k.toArray⟩) (.int .u8 (bits .or .u8 (m k : Int) (s : Int)))).run Try.prog w = .ok () w' ∧ OnceM w' db mb (n + 1) g (fun q => if q = k then m q ||| s else m q) cl ∧ OnlyS (fun y => y = mb) w w' := by
  obtain ⟨⟨D, hD, a1, a2⟩, ⟨M, hM, b1⟩, c⟩ := o
  rw [bits_or_u8 _ _ (c k) hs]
  have h8 : m k ||| s < 256 := or_lt8 (c k) hs
  have hw : (Lit.int .u8 ((m k ||| s : Nat) : Int)).wf = true := by
    generalize m k ||| s = z at *
    simp [Lit.wf, IntKind.min, IntKind.max, IntKind.signed, IntKind.bits]
    omega
  obtain ⟨w', hr, hM', hgr⟩ := hM.update trLaw Try.underlying71 (by unfold maxLen; omega) (trKey hk) (plainElem_int Try.underlying5 hw)
  have ho : OnlyS (fun y => y = mb) w w' := ⟨hgr.os, hgr.tape, hgr.output, hgr.size, fun k hk hb => hgr.block k hk (fun e => hb (by simpa using e))⟩
  refine ⟨w', hr, ⟨⟨D, (tr_block hD (ho.block _ hD.lt hne)).mono (by omega), a1, a2⟩, ⟨_, hM', fun q hq => ?_⟩, fun q => ?_⟩, ho⟩
  · by_cases e : q = k
    · subst e
      rw [if_pos rfl, atKey_put_same hM.isMap (by simp [WideAt.IsKeyLit])]
    · rw [if_neg e, atKey_put_other (by intro e2; injection e2 with e2; exact e e2), b1 q hq]
  · show (if q = k then m q ||| s else m q) < 256
    split
    · exact or_lt8 (c q) hs
    · exact c q
end

end Go.Proofs.Ytnldkmcijmbhcaa

/- The law TreeOnce, walked. -/
namespace Go.Proofs.Ytnldkmcijmbhcaa
open Go.RowKit Go.Maps

/-- Where the law's two maps stand beside a tree. -/
structure OnceF (h : TrH) (w : World) (db mb : Nat) : Prop where
  d : h.mb < db
  m : h.mb < mb
  ne : db ≠ mb
  ld : h.wc.heap.size ≤ db
  lm : h.wc.heap.size ≤ mb
  low : w.heap.size ≤ h.wc.heap.size
/-- What the law's loop leaves: a tree, who was gone into, who is marked. -/
def OnceI (h : TrH) (w : World) (db mb j : Nat) (wr : World) : Prop := ∃ gs l cl mk, l.length ≤ j + 1 ∧ 0 ≤ cl ∧ cl ≤ (j : Int) ∧ TrAt h wr gs l cl ∧ MkOk l mk ∧ OnceM wr db mb j (goneT l) mk cl ∧ Below w.heap.size w wr
theorem once_make (p : Pg) (fuel : Int) (l : List TNd) (k : Pfx) (asl : Nat) (own : Int) : (makeT p fuel l k asl own).2.length ≤ l.length + 1 := by
  unfold makeT
  rcases hr : rep p fuel (rowK k) with ⟨e, es, _ | s⟩
  · dsimp only; omega
  · dsimp only
    split
    · dsimp only; omega
    · split
      · dsimp only; omega
      · simp
theorem once_mark (l : List TNd) (k : Pfx) (set : Nat) : (markT l k set).2.length = l.length := by
  unfold markT
  cases hi : idxT l k with
  | none => rfl
  | some i => simp
theorem once_claim (p : Pg) (fuel : Int) (l : List TNd) (k : Pfx) (d : Int) : (claimT p fuel l k d).2.2.2.length = l.length := by
  unfold claimT
  cases hi : idxT l k with
  | none => rfl
  | some i =>
    dsimp only
    split
    · rfl
    · simp
theorem claim_not (p : Pg) (fuel : Int) (l : List TNd) (k : Pfx) (d : Int) (h : (claimT p fuel l k d).1 ≠ 0) : (claimT p fuel l k d).2.2.2 = l := by
  unfold claimT at *
  cases hi : idxT l k with
  | none => rfl
  | some i =>
    rw [hi] at h
    dsimp only at *
    split
    · rfl
    · rename_i e
      rw [if_neg e] at h
      exact absurd rfl h
theorem aslT_lt {p : Pg} {fuel : Int} {l : List TNd} (ok : TrOk p fuel l) (k : Pfx) : aslT l k < 256 := by
  cases hi : idxT l k with
  | none => unfold aslT; rw [hi]; dsimp only; omega
  | some i =>
    obtain ⟨hil, _⟩ := idxT_some hi
    rw [aslT_at hi hil]
    exact (ok.ok _ (List.getElem_mem hil)).asl
section
variable {h : TrH} {w W6 W7 : World} {db mb j : Nat} {gs gs' : List Nat} {l : List TNd} {cl : Int} {mk : Pfx → Nat}
theorem onceI_make (F : OnceF h w db mb) (hl : l.length ≤ j + 1) (hc : 0 ≤ cl ∧ cl ≤ (j : Int)) (t : TrAt h W6 gs l cl) {k : Pfx} {asl : Nat} {own : Int} (t' : TrAt h W7 gs' (makeT h.p h.fuel l k asl own).2 cl) (ho : OnlyS (TrS h gs) W6 W7) (hm : MkOk l mk) (o : OnceM W6 db mb j (goneT l) mk cl) (hb : Below w.heap.size w W6) : OnceI h w db mb (j + 1) W7 := by
  obtain ⟨a1, a2⟩ := o.apart t F.d F.m
  refine ⟨gs', _, cl, mk, ?_, hc.1, by have := hc.2; omega, t', hm.make _ _ _, ?_, hb.trans ((t.only ho).mono F.low)⟩
  · have := once_make h.p h.fuel l k asl own; omega
  · have e : goneT (makeT h.p h.fuel l k asl own).2 = goneT l := funext fun q => goneT_make _ _ _ _ _ _ _
    rw [e]
    exact (o.onlyS ho a1 a2).mono (by omega)
theorem onceI_no (F : OnceF h w db mb) (hl : l.length ≤ j + 1) (hc : 0 ≤ cl ∧ cl ≤ (j : Int)) (t : TrAt h W6 gs l cl) (t' : TrAt h W7 gs l cl) (ho : OnlyS (TrS h gs) W6 W7) (hm : MkOk l mk) (o : OnceM W6 db mb j (goneT l) mk cl) (hb : Below w.heap.size w W6) : OnceI h w db mb (j + 1) W7 := by
  obtain ⟨a1, a2⟩ := o.apart t F.d F.m
  exact ⟨gs, l, cl, mk, by omega, hc.1, by have := hc.2; omega, t', hm, (o.onlyS ho a1 a2).mono (by omega), hb.trans ((t.only ho).mono F.low)⟩
theorem onceI_mark (F : OnceF h w db mb) (hl : l.length ≤ j + 1) (hc : 0 ≤ cl ∧ cl ≤ (j : Int)) (t : TrAt h W6 gs l cl) {k : Pfx} {set : Nat} (t' : TrAt h W7 gs (markT l k set).2 cl) (ho : OnlyS (TrS h gs) W6 W7) (hm : MkOk l mk) (hb : Below w.heap.size w W6) (h0 : (markT l k set).1 = 0) {W8 : World}
    (o : OnceM W8 db mb (j + 1) (goneT l) (fun q => if q = k then mk q ||| set else mk q) cl) (ho8 : OnlyS (fun y => y = mb) W7 W8) (a2 : ¬ TrS h gs mb) : OnceI h w db mb (j + 1) W8 := by
  have e : goneT (markT l k set).2 = goneT l := funext fun q => goneT_mark t.ok.nodup _ _ _
  have hm' := hm.mark k set
  rw [if_pos h0] at hm'
  refine ⟨gs, _, cl, _, by rw [once_mark]; omega, hc.1, by have := hc.2; omega, t'.onlyS ho8 (fun x hx e => a2 (e ▸ hx)) (fun x hx => by subst hx; exact F.lm), hm', ?_, ?_⟩
  · rw [e]; exact o
  · exact (hb.trans ((t.only ho).mono F.low)).trans ((ho8.below t'.below.size (fun x hx => by subst hx; exact F.lm)).mono F.low)
theorem onceI_mark0 (F : OnceF h w db mb) (hl : l.length ≤ j + 1) (hc : 0 ≤ cl ∧ cl ≤ (j : Int)) (t : TrAt h W6 gs l cl) {k : Pfx} {set : Nat} (t' : TrAt h W7 gs (markT l k set).2 cl) (ho : OnlyS (TrS h gs) W6 W7) (hm : MkOk l mk) (o : OnceM W6 db mb j (goneT l) mk cl) (hb : Below w.heap.size w W6) (h0 : (markT l k set).1 ≠ 0) : OnceI h w db mb (j + 1) W7 := by
  have e : (markT l k set).2 = l := by
    unfold markT at *
    cases hi : idxT l k with
    | none => rfl
    | some i => rw [hi] at h0; exact absurd rfl h0
  rw [e] at t'
  exact onceI_no F hl hc t t' ho hm o hb
/-- A claim that is done, and written down. -/
theorem onceI_claim (F : OnceF h w db mb) {l' : List TNd} (hl : l'.length ≤ j + 1) (hc : 0 ≤ cl ∧ cl ≤ (j : Int)) (t' : TrAt h W7 gs l' (cl + 1)) (hm : MkOk l' mk) (hb : Below w.heap.size w W7) {W8 : World} (o : OnceM W8 db mb (j + 1) (goneT l') mk (cl + 1)) (ho8 : OnlyS (fun y => y = db) W7 W8) (a1 : ¬ TrS h gs db) : OnceI h w db mb (j + 1) W8 :=
  ⟨gs, l', cl + 1, mk, by omega, by omega, by have := hc.2; omega, t'.onlyS ho8 (fun x hx e => a1 (e ▸ hx)) (fun x hx => by subst hx; exact F.ld), hm, o, hb.trans ((ho8.below t'.below.size (fun x hx => by subst hx; exact F.ld)).mono F.low)⟩
end

set_option maxRecDepth 100000 in
set_option maxHeartbeats 16000000 in
theorem treeOnce_any (p : Pg) (a : Option Addr) (cap : Nat) (fuel : Int) (oa : Option Addr) (ol : List TOp) (oc : Nat) (w : World) (hp : ThreadsAt w a p.threads) (ha : a = none → cap = 0) (hord : RowAt w oa 4 opCell ol) (hset : ∀ o ∈ ol, o.set < 256 ∧ o.pre.length ≤ maxLen) :
    Calls Try.prog 4 #[.agg #[.int .i64 p.vars, .int .i64 p.mutexes, .slice a p.threads.length cap], .int .i64 fuel, .slice oa ol.length oc] w fun r w' => r = .returned (.bool true) ∧ Below w.heap.size w w' := by
  have HP := Lib.hid hp
  have HA := Lib.hid ha
  have HOP : Hid (∀ W, Below w.heap.size w W → RowAt W oa 4 opCell ol) := fun W hb => hord.later hb
  have HSET : Hid (∀ o ∈ ol, o.set < 256) := fun o ho => (hset o ho).1
  have HBX : Hid (∀ W, Below (w.alloc (.cells #[.int .i64 p.vars, .int .i64 p.mutexes, .slice a p.threads.length cap] 24)).heap.size (w.alloc (.cells #[.int .i64 p.vars, .int .i64 p.mutexes, .slice a p.threads.length cap] 24)) W → W.cell? ⟨w.heap.size, 0, none⟩ = some (.int .i64 p.vars) ∧ W.cell? ⟨w.heap.size, 1, none⟩ = some (.int .i64 p.mutexes) ∧ W.cell? ⟨w.heap.size, 2, none⟩ = some (.slice a p.threads.length cap)) := fun W hb => ⟨cell_later hb (by simp), cell_later hb (by simp), cell_later hb (by simp)⟩
  have hb1 : Below w.heap.size w (w.alloc (.cells #[.int .i64 p.vars, .int .i64 p.mutexes, .slice a p.threads.length cap] 24)) := below_alloc1 w _
  clear hp ha hord hset
  go_enter Try.func4, Try.ntmps4
  go_wp2_with fail
  generalize w.alloc (.cells #[.int .i64 p.vars, .int .i64 p.mutexes, .slice a p.threads.length cap] 24) = W1 at *
  refine (awake10_any W1).mono ?_
  rintro r W2 ⟨rfl, hb2⟩
  obtain ⟨c0, c1, c2⟩ := HBX.out W2 hb2
  have hb3 := hb1.trans (hb2.mono hb1.size)
  go_wp2_with fail
  refine (few_any p a cap W2 (HP.out.later hb3)).mono ?_
  rintro r W3 ⟨rfl, hb4⟩
  have hb5 := hb2.trans (hb4.mono hb2.size)
  have hb6 := hb3.trans (hb4.mono hb3.size)
  clear c0 c1 c2 hb2 hb3 hb4
  cases hf : fewPg p
  · clear hf
    go_wp2_with fail
    refine (awake10_any _).mono ?_
    rintro r w3 ⟨rfl, hb3⟩
    go_wp2
    go_ret
    exact ⟨rfl, hb6.trans (hb3.mono hb6.size)⟩
  clear hf
  go_wp2_with fail
  refine (few10_any oa oc ol W3 (HOP.out W3 hb6)).mono ?_
  rintro r W4 ⟨rfl, hb7⟩
  have hb8 := hb5.trans (hb7.mono hb5.size)
  have hb9 := hb6.trans (hb7.mono hb6.size)
  clear hb5 hb6 hb7
  cases hfw : fewB ol
  · clear hfw
    go_wp2_with fail
    refine (awake10_any _).mono ?_
    rintro r w3 ⟨rfl, hb3⟩
    go_wp2
    go_ret
    exact ⟨rfl, hb9.trans (hb3.mono hb9.size)⟩
  obtain ⟨hlen, hpre⟩ := fewB_yes hfw
  have HPRE := Lib.hid hpre
  clear hfw hpre
  obtain ⟨c0, c1, c2⟩ := HBX.out W4 hb8
  go_wp2_with fail
  refine (newT_any p a cap fuel W4 (HP.out.later hb9) HA.out).mono ?_
  rintro r W5 hr
  unfold NewTR at hr
  clear c0 c1 c2
  cases hg : goodPg p fuel
  · rw [hg, if_neg (by simp)] at hr
    obtain ⟨rfl, hb10⟩ := hr
    clear hg
    go_wp2
    go_ret
    exact ⟨rfl, hb9.trans (hb10.mono hb9.size)⟩
  rw [hg, if_pos rfl] at hr
  obtain ⟨h, rfl, hhp, hhf, hwc, ht, hb10⟩ := hr
  have hlow : w.heap.size ≤ h.wc.heap.size := Nat.le_trans hb9.size hwc
  have HB5 : Hid (Below w.heap.size w W5) := hb9.trans (hb10.mono hb9.size)
  have HMK0 := Lib.hid (make_lit ht [] (ByteArray.mk #[]) rfl 0 0 rfl (by omega) 0 (by simp) (by simp) (e := (makeT h.p h.fuel [] [] 0 0).1) (l' := (makeT h.p h.fuel [] [] 0 0).2) rfl)
  clear hg hhp hhf hwc ht hb10 hb8 hb9 HBX
  go_wp2_with fail
  refine HMK0.out.mono ?_
  rintro r W6 ⟨gs6, rfl, ht6, hb6⟩
  have hmm := @run_makeMap Try.prog
  have HFX : Hid (OnceF h w W6.heap.size (W6.heap.size + 1)) := ⟨ht6.lt _ (.inr (.inl rfl)), by have := ht6.lt _ (.inr (.inl rfl)); omega, by omega, ht6.below.size, by have := ht6.below.size; omega, hlow⟩
  have HI0 : Hid (OnceI h w W6.heap.size (W6.heap.size + 1) 0 ((W6.alloc (.map #[] 0)).alloc (.map #[] 0))) := by
    have e : goneT (makeT h.p h.fuel [] [] 0 0).2 = fun _ => 0 := funext fun q => (goneT_make _ _ _ _ _ _ _).trans rfl
    refine ⟨gs6, _, 0, fun _ => 0, by have := once_make h.p h.fuel [] [] 0 0; simpa using this, Int.le_refl _, by simp, (ht6.later (below_alloc1 W6 _)).later (below_alloc1 _ _), (mkOk_nil _).make _ _ _, OnceM.start W6 _ (fun k => by rw [e]), ?_⟩
    have hb7 := HB5.out.trans (hb6.mono hlow)
    exact (hb7.alloc hb7.size _).alloc (by rw [World.size_alloc]; have := hb7.size; omega) _
  generalize (makeT h.p h.fuel [] [] 0 0).1 = e6 at *
  clear ht6 hb6 HMK0 HB5 hlow
  go_wp2_with fail
  go_loopw [48] (fun i wr => ∃ j : Nat, j ≤ ol.length ∧ i = .int .i64 j ∧ Hid (OnceI h w W6.heap.size (W6.heap.size + 1) j wr)) (fun i _ => ol.length - (intOf i).toNat)
  case atStart => exact ⟨0, Nat.zero_le _, rfl, HI0⟩
  case round =>
    clear HI0 hmm
    obtain ⟨j, hj, rfl, HI⟩ := hrel
    generalize W6.heap.size + 1 = mb at *
    generalize W6.heap.size = db at *
    by_cases hlt : j < ol.length
    · obtain ⟨gs, l, cl, mk, hlj, hc0, hcj, ht, hmk, hom, hbw⟩ := HI.out
      obtain ⟨b, o, rfl, e0, e1, e2, e3⟩ := (HOP.out _ hbw).op hlt
      have hz := HSET.out _ (List.getElem_mem hlt)
      have hq40 := HPRE.out _ (List.getElem_mem hlt)
      generalize ol[j] = x at *
      obtain ⟨xk, xn, xp, xz⟩ := x
      dsimp only at e0 e1 e2 e3 hz hq40
      have HT6 := Lib.hid (ht.later (below_alloc1 wr (.cells #[.int .i64 xk, .int .i64 xn, .string ⟨xp.toArray⟩, .int .u8 (xz : Nat)] 40)))
      have HO6 := Lib.hid (hom.later (below_alloc1 wr (.cells #[.int .i64 xk, .int .i64 xn, .string ⟨xp.toArray⟩, .int .u8 (xz : Nat)] 40)))
      have HB6 := Lib.hid (hbw.alloc hbw.size (.cells #[.int .i64 xk, .int .i64 xn, .string ⟨xp.toArray⟩, .int .u8 (xz : Nat)] 40))
      have HMK := Lib.hid hmk
      have HAP := Lib.hid (HO6.out.apart HT6.out HFX.out.d HFX.out.m)
      have HBK : Hid ((wr.alloc (.cells #[.int .i64 xk, .int .i64 xn, .string ⟨xp.toArray⟩, .int .u8 (xz : Nat)] 40)).heap[wr.heap.size]? = some (.cells #[.int .i64 xk, .int .i64 xn, .string ⟨xp.toArray⟩, .int .u8 (xz : Nat)] 40 (0, 0))) := heap_alloc_new wr _
      have HNB : Hid (¬ TrS h gs wr.heap.size) := HT6.out.not_row HBK.out (by decide) (by decide)
      have hl101 : l.length ≤ 1000000 := by omega
      have hj101 : j ≤ 1000000 := by omega
      have hbs : wr.heap.size < (wr.alloc (.cells #[.int .i64 xk, .int .i64 xn, .string ⟨xp.toArray⟩, .int .u8 (xz : Nat)] 40)).heap.size := by rw [World.size_alloc]; omega
      clear ht hmk hom hbw
      go_upto_block 2 with (fail)
      generalize wr.alloc (.cells #[.int .i64 xk, .int .i64 xn, .string ⟨xp.toArray⟩, .int .u8 (xz : Nat)] 40) = W6 at *
      generalize wr.heap.size = G6 at *
      have hf6 : ∀ W : World, W.heap[G6]? = some (.cells #[.int .i64 xk, .int .i64 xn, .string ⟨xp.toArray⟩, .int .u8 (xz : Nat)] 40 (0, 0)) → W.cell? ⟨G6, 1, none⟩ = some (.int .i64 xn) ∧ W.cell? ⟨G6, 2, none⟩ = some (.string ⟨xp.toArray⟩) ∧ W.cell? ⟨G6, 3, none⟩ = some (.int .u8 (xz : Nat)) := fun W hW =>
        ⟨by rw [cell_of_row W _ 1 _ _ _ hW]; rfl, by rw [cell_of_row W _ 2 _ _ _ hW]; rfl, by rw [cell_of_row W _ 3 _ _ _ hW]; rfl⟩
      have HF6 := Lib.hid hf6
      clear hf6 e0 e1 e2 e3
      obtain ⟨f1, f2, f3⟩ := HF6.out W6 HBK.out
      by_cases k1 : xk = 1
      · subst k1
        go_wp2_with fail
        refine (make_any HT6.out (by omega) hz xn hl101).mono ?_
        rintro r W7 hm
        obtain ⟨gs', rfl, ht7, ho7, _⟩ := hm
        have HI7 := Lib.hid (onceI_make HFX.out hlj ⟨hc0, hcj⟩ HT6.out ht7 ho7 HMK.out HO6.out HB6.out)
        generalize (makeT h.p h.fuel l xp xz xn).1 = e7 at *
        clear ht7 ho7
        go_wp2_with fail
        go_roundw
        case rel => exact ⟨j + 1, by omega, by go_num, HI7⟩
        case measure => simp [intOf]; omega
      · have q1 : (xk == 1) = false := by simpa using k1
        by_cases k2 : xk = 2
        · subst k2
          go_wp2_with fail
          refine (mark_any HT6.out (by omega) hz).mono ?_
          rintro r W7 ⟨rfl, ht7, ho7⟩
          have hblk7 : W7.heap[G6]? = _ := (ho7.block _ hbs HNB.out).trans HBK.out
          by_cases he : (markT l xp xz).1 = 0
          · rw [he]
            have HO7 := Lib.hid (HO6.out.onlyS ho7 HAP.out.1 HAP.out.2)
            obtain ⟨f1', f2', f3'⟩ := HF6.out W7 hblk7
            have hlk := HO7.out.lookM (k := xp) (by omega)
            obtain ⟨W8, hmu, ho8, hs8⟩ := HO7.out.putM HFX.out.ne hj101 (k := xp) (by omega) hz
            have HI8 := Lib.hid (onceI_mark HFX.out hlj ⟨hc0, hcj⟩ HT6.out ht7 ho7 HMK.out HB6.out he ho8 hs8 HAP.out.2)
            clear ht7 ho7 hblk7 ho8 hs8 f1 f2 f3
            go_wp2_with fail
            go_roundw
            case rel => exact ⟨j + 1, by omega, by go_num, HI8⟩
            case measure => simp [intOf]; omega
          · have HI7 := Lib.hid (onceI_mark0 HFX.out hlj ⟨hc0, hcj⟩ HT6.out ht7 ho7 HMK.out HO6.out HB6.out he)
            have hne : ((markT l xp xz).1 == 0) = false := by simpa using he
            generalize (markT l xp xz).1 = e7 at *
            clear ht7 ho7 hblk7 f1 f2 f3
            go_wp2_with fail
            go_roundw
            case rel => exact ⟨j + 1, by omega, by go_num, HI7⟩
            case measure => simp [intOf]; omega
        · have q2 : (xk == 2) = false := by simpa using k2
          by_cases k3 : xk = 3
          · subst k3
            go_wp2_with fail
            refine (claim_any HT6.out ⟨hc0, by omega⟩ (by omega) xn).mono ?_
            rintro r W7 hr
            unfold ClaimR at hr
            obtain ⟨rfl, ht7, ho7⟩ := hr
            have hblk7 : W7.heap[G6]? = _ := (ho7.block _ hbs HNB.out).trans HBK.out
            by_cases he : (claimT h.p h.fuel l xp xn).1 = 0
            · obtain ⟨e, x, c, l', hcl⟩ : ∃ e x c l', claimT h.p h.fuel l xp xn = (e, x, c, l') := ⟨_, _, _, _, rfl⟩
              have hlen : l'.length = l.length := by have := once_claim h.p h.fuel l xp xn; rw [hcl] at this; exact this
              rw [if_pos he] at ht7
              rw [hcl] at he ht7
              rw [hcl]
              dsimp only at he ht7 ⊢
              subst he
              obtain ⟨u, rfl, hu8, hg0, ⟨es, s, hrep, hmay⟩, hasl, hmkd, hc8, hys, hgq, hmk'⟩ := claim_facts HT6.out.ok HMK.out hcl
              have hu : 0 ≤ (u : Int) ∧ (u : Int) < 8 := by omega
              have HO7 := Lib.hid (HO6.out.onlyS ho7 HAP.out.1 HAP.out.2)
              have HT7 := Lib.hid ht7
              have HMK7 := Lib.hid hmk'
              have HB7 : Hid (Below w.heap.size w W7) := HB6.out.trans ((HT6.out.only ho7).mono HFX.out.low)
              have HBK7 := Lib.hid hblk7
              have HREP := Lib.hid hrep
              have HGQ := Lib.hid hgq
              have HYS := Lib.hid hys
              have HG0 := Lib.hid hg0
              have HMKD := Lib.hid hmkd
              have hsm := HO6.out.small xp
              have has8 := aslT_lt ht7.ok xp
              obtain ⟨f1', f2', f3'⟩ := HF6.out W7 hblk7
              clear ht7 ho7 hblk7 hcl hmk' hrep hgq hys hg0 hmkd f1 f2 f3
              go_wp2_with fail
              refine (at_ok HT7.out (k := xp) (by omega) HREP.out).mono ?_
              rintro r W8 ⟨g8, v8, rfl, hg8, hst8, hsok, how8, hb8⟩
              have HT8 := Lib.hid (HT7.out.later hb8)
              have HO8 := Lib.hid (HO7.out.later hb8)
              have HB8 : Hid (Below w.heap.size w W8) := HB7.out.trans (hb8.mono HB7.out.size)
              have HBK8 := Lib.hid ((hb8.block G6 (Array.getElem?_eq_some_iff.1 HBK7.out).1).trans HBK7.out)
              have hlk := HO8.out.look (k := xp) (by omega) hu
              rw [HG0.out] at hlk
              obtain ⟨e1, e2, e3⟩ := HF6.out W8 HBK8.out
              have HST := Lib.hid hst8
              have HSOK := Lib.hid hsok
              clear hst8 hsok how8 hb8 hg8 f1' f2' f3'
              go_wp2_with fail
              refine (enabled_any HST.out HSOK.out u).mono ?_
              rintro r W9 ⟨rfl, hb9⟩
              rw [hmay]
              have HT9 := Lib.hid (HT8.out.later hb9)
              have HO9 := Lib.hid (HO8.out.later hb9)
              have HB9 : Hid (Below w.heap.size w W9) := HB8.out.trans (hb9.mono HB8.out.size)
              have HBK9 := Lib.hid ((hb9.block G6 (Array.getElem?_eq_some_iff.1 HBK8.out).1).trans HBK8.out)
              obtain ⟨i1, i2, i3⟩ := HF6.out W9 HBK9.out
              clear hb9 hlk e1 e2 e3
              go_wp2_with fail
              refine (asleep_any HT9.out (k := xp) (by omega)).mono ?_
              rintro r W10 ⟨rfl, rfl⟩
              go_wp2_with fail
              refine (has_any has8 u _).mono ?_
              rintro r W10 ⟨rfl, rfl⟩
              rw [hasl]
              have hlm := HO9.out.lookM (k := xp) (by omega)
              go_wp2_with fail
              refine (has_any hsm u _).mono ?_
              rintro r W10 ⟨rfl, rfl⟩
              rw [HMKD.out]
              clear hlm
              go_wp2_with fail
              refine (setAll_any hc8 _).mono ?_
              rintro r W10 ⟨v10, rfl, hown10, hb10⟩
              obtain ⟨ya, yc, rfl, hyn, _⟩ := OwnN.form hown10 (by rw [ints_len]; have := bitsL_len c; omega)
              have HT10 := Lib.hid (HT9.out.later hb10)
              have HO10 := Lib.hid (HO9.out.later hb10)
              have HB10 : Hid (Below w.heap.size w W10) := HB9.out.trans (hb10.mono HB9.out.size)
              have HBK10 := Lib.hid ((hb10.block G6 (Array.getElem?_eq_some_iff.1 HBK9.out).1).trans HBK9.out)
              have HYN := Lib.hid hyn
              have hy8 : ∀ q (hq : q < (ints (bitsL c)).length), 0 ≤ (ints (bitsL c))[q] ∧ (ints (bitsL c))[q] < 8 := fun q hq => by
                obtain ⟨v, hv, e⟩ := List.mem_map.1 (List.getElem_mem hq)
                rw [← e]
                have := (mem_bits.1 hv).1
                exact ⟨Int.natCast_nonneg _, by exact_mod_cast this⟩
              have HY8 := Lib.hid hy8
              have HYS2 : Hid (∀ q (hq : q < (ints (bitsL c)).length), hasB (aslT l' xp) (ints (bitsL c))[q] = true ∨ hasB (goneT l xp) (ints (bitsL c))[q] = true) := fun q hq => HYS.out _ (List.getElem_mem hq)
              have hyl : (ints (bitsL c)).length ≤ 8 := by rw [ints_len]; exact bitsL_len c
              clear hown10 hb10 hyn hy8 i1 i2 i3 HYS
              generalize ints (bitsL c) = ys at *
              go_wp2_with fail
              go_loopw [138] (fun i w2 => ∃ q : Nat, q ≤ ys.length ∧ i = .int .i64 q ∧ w2 = W10) (fun i _ => ys.length - (intOf i).toNat)
              case atStart => exact ⟨0, Nat.zero_le _, rfl, rfl⟩
              case round =>
                obtain ⟨q, hq, rfl, hwr⟩ := hrel
                subst hwr
                by_cases hql : q < ys.length
                · obtain ⟨yb, yo, rfl, hcx⟩ := HYN.out.2 (by intro e; rw [e] at hql; exact absurd hql (Nat.not_lt_zero _))
                  have d1 := hcx q hql
                  have hy := HY8.out q hql
                  have hyg := HYS2.out q hql
                  obtain ⟨i1, i2, i3⟩ := HF6.out _ HBK10.out
                  clear hcx
                  generalize ys[q] = y at *
                  go_wp2_with fail
                  refine (asleep_any HT10.out (k := xp) (by omega)).mono ?_
                  rintro r W11 ⟨rfl, rfl⟩
                  go_wp2_with fail
                  refine (has_any has8 y _).mono ?_
                  rintro r W11 ⟨rfl, rfl⟩
                  cases hb : hasB (aslT l' xp) y
                  · rw [hb] at hyg
                    have hg2 := hyg.resolve_left (by simp)
                    have hlk := HO10.out.look (k := xp) (by omega) hy
                    rw [hg2] at hlk
                    go_wp2_with fail
                    go_roundw
                    case rel => exact ⟨q + 1, by omega, by go_num, by first | rfl | trivial⟩
                    case measure => simp [intOf]; omega
                  · go_wp2_with fail
                    go_roundw
                    case rel => exact ⟨q + 1, by omega, by go_num, by first | rfl | trivial⟩
                    case measure => simp [intOf]; omega
                · obtain rfl : q = ys.length := by omega
                  obtain ⟨i1, i2, i3⟩ := HF6.out _ HBK10.out
                  obtain ⟨W11, hmu, ho11, hs11⟩ := HO10.out.put HFX.out.ne hj101 (k := xp) (by omega) hu HG0.out HGQ.out
                  have HI11 := Lib.hid (onceI_claim HFX.out (by omega) ⟨hc0, hcj⟩ HT10.out HMK7.out HB10.out ho11 hs11 HAP.out.1)
                  clear ho11 hs11
                  go_wp2_with fail
                  go_roundw
                  case rel => exact ⟨j + 1, by omega, by go_num, HI11⟩
                  case measure => simp [intOf]; omega
            · have HI7 := Lib.hid (onceI_no HFX.out hlj ⟨hc0, hcj⟩ HT6.out (by rw [if_neg he, claim_not _ _ _ _ _ he] at ht7; exact ht7) ho7 HMK.out HO6.out HB6.out)
              have hne : ((claimT h.p h.fuel l xp xn).1 != 0) = true := by simpa using he
              generalize (claimT h.p h.fuel l xp xn).1 = e7 at *
              generalize (claimT h.p h.fuel l xp xn).2.1 = x7 at *
              generalize (claimT h.p h.fuel l xp xn).2.2.1 = c7 at *
              clear ht7 ho7 hblk7 f1 f2 f3
              go_wp2_with fail
              go_roundw
              case rel => exact ⟨j + 1, by omega, by go_num, HI7⟩
              case measure => simp [intOf]; omega
          · have q3 : (xk == 3) = false := by simpa using k3
            have HI7 := Lib.hid (onceI_no HFX.out hlj ⟨hc0, hcj⟩ HT6.out HT6.out (OnlyS.refl _ _) HMK.out HO6.out HB6.out)
            go_wp2_with fail
            go_roundw
            case rel => exact ⟨j + 1, by omega, by go_num, HI7⟩
            case measure => simp [intOf]; omega
    · obtain rfl : j = ol.length := by omega
      obtain ⟨gs, l, cl, mk, _, _, _, ht, _, hom, hbw⟩ := HI.out
      have HC := Lib.hid (claims_any ht)
      have hln := fun ty => hom.len ty
      have HB := Lib.hid hbw
      clear ht hom hbw HI
      go_wp2_with fail
      refine HC.out.mono ?_
      rintro r w' ⟨rfl, rfl⟩
      go_wp2
      go_ret
      exact ⟨by simp, HB.out⟩

end Go.Proofs.Ytnldkmcijmbhcaa

/-
  TreeOnce: no thread of a node is gone into twice, and only those who may, are marked, and do not sleep, and a child's sleepers slept, or were gone into ahead: the law answers true, and its arguments read as they did.
  For every input, whatever its size and however its parts share memory; nothing is asked of it but what the statement's own form asks.
-/
namespace Go.Proofs.Ytnldkmcijmbhcaa.treeOnce
open Go.ChangeShapes Go.WideShapes Go.ChangeAt Go.RowKit

theorem own : ownKnob Try.prog.godebug = none := by kernel_rfl
theorem laidOut : laidOutB Try.prog = true := by kernel_rfl

set_option maxRecDepth 100000 in
theorem lifted (os : Os) (started : os.Started) (H : Type) (enc : TypeId × Value → H) :
    ReturnsInHanded {} Try.checked os 4 .any (Rows.treeOnceSpec.pre6 enc Try.prog Try.f4 Rows.treeOnceRow.domain false) (Rows.treeOnceSpec.post enc Try.prog Try.f4 false true false false) := by
  refine returnsInHanded_of_change (C := Try.checked) own started (by kernel_rfl) Try.func4
    (ChangeSpec.witness6 (enc := enc) (C := Try.checked) false ⟨#[], #[.agg #[.int .i64 0, .int .i64 0, .slice none 0 0], .int .i64 0, .slice none 0 0], []⟩ 8 (by kernel_rfl) (by kernel_rfl) (by kernel_rfl) (by kernel_rfl)) ?_
  intro W base args ds gs before hval0 hW hcnd _
  have hval : ∀ (j : Nat) t v, Try.f4.params[j]? = some t → args[j]? = some v → Value.okWide Try.prog W .any base t v := hval0
  have hW' := hW
  obtain ⟨p, q, hA0, hV, rfl, hfz, hnd⟩ := hW
  have hA : DataW.TrodAll enc Try.prog W 0 (fun _ => true) true Try.f4.params.toList args.toList ds p := hA0
  rw [Try.params4] at hA hval
  obtain ⟨v0, vs0, d0, ds0, p0, q0, hargs, rfl, rfl, h0, r0⟩ := trodAll_cons hA
  obtain ⟨v1, vs1, d1, ds1, p1, q1, rfl, rfl, rfl, h1, r1⟩ := trodAll_cons r0
  obtain ⟨v2, vs2, d2, ds2, p2, q2, rfl, rfl, rfl, h2, r2⟩ := trodAll_cons r1
  obtain ⟨rfl, rfl, rfl⟩ := trodAll_nil r2
  obtain rfl : args = #[v0, v1, v2] := by cases args; simp_all
  obtain ⟨rfl, rfl⟩ := trodVars_none hV
  have k0 := h0
  have lt0 : ∀ x ∈ p0, x.block < W.heap.size := by obtain ⟨m, hm⟩ := k0; exact DataW.trod_lt m _ _ _ hm
  have k1 := h1
  have lt1 : ∀ x ∈ p1, x.block < W.heap.size := by obtain ⟨m, hm⟩ := k1; exact DataW.trod_lt m _ _ _ hm
  have k2 := h2
  have lt2 : ∀ x ∈ p2, x.block < W.heap.size := by obtain ⟨m, hm⟩ := k2; exact DataW.trod_lt m _ _ _ hm
  obtain ⟨pg0, a0, cap0, rfl, hx0, hn0⟩ := prog_of_trod (hval 0 24 v0 rfl rfl) h0
  obtain ⟨n1, rfl, hx1⟩ := int_of_trod (hval 1 3 v1 rfl rfl) h1
  obtain ⟨a2, l2, cap2, rfl, hx2, hr2⟩ := ops_of_trod (hval 2 25 v2 rfl rfl) h2
  clear hA0 hval0
  refine (treeOnce_any pg0 a0 cap0 n1 a2 l2 cap2 W hx0 hn0 hx2 hr2).mono fun e W' ⟨he, bel⟩ => ?_
  subst he
  exact ⟨_, rfl, _, _, _, [], _, [], hW', trodAll_mk1 (shut_bool Try.underlying4 _), (trodAll_cons_mk (Below.trod laidOut (by kernel_rfl) (of_decide_eq_true (by kernel_rfl)) k0 bel lt0) (trodAll_cons_mk (Below.trod laidOut (by kernel_rfl) (of_decide_eq_true (by kernel_rfl)) k1 bel lt1) (trodAll_cons_mk (Below.trod laidOut (by kernel_rfl) (of_decide_eq_true (by kernel_rfl)) k2 bel lt2) trodAll_mk0))), rfl, bel.frame _, fun h => by cases h⟩

theorem over : Rows.treeOnceRow.holds Try.pinned (OpenSpec.ofChange Rows.treeOnceSpec) :=
  OpenClaim.holds_of_wide 4 Try.f4 rfl rfl rfl rfl rfl rfl rfl ⟨rfl, rfl, rfl, rfl, rfl⟩ rfl rfl rfl rfl rfl (by kernel_rfl) Try.func4 (by kernel_rfl)
    (of_decide_eq_true (by kernel_rfl)) (by unfold Func.isWrapper; first | (rw [if_pos (by decide +kernel)]; kernel_rfl) | (rw [if_neg (by decide +kernel)]; exact ⟨rfl, rfl⟩))
    (fun os started H enc _ => lifted os started H enc)

theorem proved : Rows.TreeOnceSaid := over
end Go.Proofs.Ytnldkmcijmbhcaa.treeOnce
