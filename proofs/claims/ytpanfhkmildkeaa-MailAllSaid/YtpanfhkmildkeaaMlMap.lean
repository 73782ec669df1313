/- A map from workers to rows of letters, beside boxes. -/
import Derived.Test.YtpanfhkmildkeaaMlList
import Derived.Maps.OwnOps
import Derived.Maps.OwnSet
import Derived.Maps.Views
namespace Go.Proofs.Ytpanfhkmildkeaa
open Go.RowKit Go.Maps

/-- A slice as a datum. -/
def slD : Value → DataW Unit
  | .slice (some ⟨g, 0, none⟩) n c => .agg [.lit (.int .i64 g), .lit (.int .i64 n), .lit (.int .i64 c)]
  | _ => .agg []
/-- How a slice in a map reads. -/
def slR : Value → Option (DataW Unit × List MemPlace)
  | .slice (some ⟨g, 0, none⟩) n c => some (.agg [.lit (.int .i64 g), .lit (.int .i64 n), .lit (.int .i64 c)], [])
  | .slice none 0 0 => some (.agg [], [])
  | _ => none
/-- A row's beginning, or none. -/
def SlV (v : Value) : Prop := v = .slice none 0 0 ∨ ∃ g n c, v = .slice (some ⟨g, 0, none⟩) n c
theorem slR_mk {v : Value} (h : SlV v) : slR v = some (slD v, []) := by
  rcases h with rfl | ⟨g, n, c, rfl⟩ <;> rfl
theorem slR_inv {v u : Value} {ps : List MemPlace} (hu : SlV u) (h : slR v = some (slD u, ps)) : v = u := by
  unfold slR at h
  split at h
  · injection h with h
    injection h with h _
    rcases hu with rfl | ⟨g', n', c', rfl⟩
    · cases h
    · injection h with h
      simp at h
      obtain ⟨h1, h2, h3⟩ := h
      obtain rfl := Int.ofNat_inj.1 h1
      obtain rfl := Int.ofNat_inj.1 h2
      obtain rfl := Int.ofNat_inj.1 h3
      rfl
  · injection h with h
    injection h with h _
    rcases hu with rfl | ⟨g', n', c', rfl⟩
    · rfl
    · cases h
  · cases h
theorem OwnRow.slV {T : Type} {f : T → List Value} {n : Nat} {w : World} {B : Nat} {t : TypeId} {v : Value} {l : List T} (h : OwnRow w B t n f v l) : SlV v := by
  obtain ⟨_, ⟨h2, _⟩ | ⟨g, cap, _, h2, _⟩⟩ := h
  · exact .inl h2
  · exact .inr ⟨g, _, cap, h2⟩
theorem mlLaw : Keyed Try.prog 3 := int_keyed Try.underlying3
theorem mlZero (w : World) : (zeroValue 46).run Try.prog w = .ok (.slice none 0 0) w := by kernel_rfl
theorem ml_wf {n : Int} (h0 : 0 ≤ n) (h1 : n ≤ 1000000) : (Lit.int .i64 n).wf = true := by
  simp [Lit.wf, IntKind.min, IntKind.max, IntKind.signed, IntKind.bits]
  omega
theorem mlKey {k : Nat} (h : k ≤ 1000) : keyOf Try.prog 3 (.int .i64 (k : Int)) = some (.int .i64 k) := keyOf_int_mk Try.underlying3 (ml_wf (by omega) (by omega))
theorem ml_block {P : Program} {k : TypeId} {R : Value → Option (DataW Unit × List MemPlace)} {b n : Nat} {D : DataW Unit} {w w' : World} (h : w.ownsMap P k R b n D) (e : w'.heap[b]? = w.heap[b]?) : w'.ownsMap P k R b n D := by
  obtain ⟨es, c, h1, h2⟩ := h
  exact ⟨es, c, e.trans h1, h2⟩
/-- The map's slices, one a worker. -/
structure SlM (w : World) (mb cnt n : Nat) (vs : Nat → Value) : Prop where
  sl : ∀ k, k < n → SlV (vs k)
  map : ∃ M : DataW Unit, w.ownsMap Try.prog 3 slR mb cnt M ∧ ∀ k : Nat, k < n → M.atKey (.int .i64 k) (.agg []) = slD (vs k)
section
variable {w w' : World} {mb cnt n : Nat} {vs : Nat → Value}
theorem SlM.start (W : World) (n : Nat) : SlM (W.alloc (.map #[] 0)) W.heap.size 0 n (fun _ => .slice none 0 0) := ⟨fun _ _ => .inl rfl, .map [], World.ownsMap_made W _ _ _, fun _ _ => rfl⟩
theorem SlM.keep (o : SlM w mb cnt n vs) (h : w'.heap[mb]? = w.heap[mb]?) : SlM w' mb cnt n vs := by
  obtain ⟨hs, M, hM, b1⟩ := o
  exact ⟨hs, M, ml_block hM h, b1⟩
theorem SlM.lt (o : SlM w mb cnt n vs) : mb < w.heap.size := by
  obtain ⟨_, M, hM, _⟩ := o
  exact hM.lt
theorem SlM.later (o : SlM w mb cnt n vs) (hb : Below w.heap.size w w') : SlM w' mb cnt n vs := o.keep (hb.block _ o.lt)
theorem SlM.onlyS (o : SlM w mb cnt n vs) {S : Nat → Prop} (ho : OnlyS S w w') (h : ¬ S mb) : SlM w' mb cnt n vs := o.keep (ho.block _ o.lt h)
theorem SlM.not_cells (o : SlM w mb cnt n vs) {c : Array Value} {ty : TypeId} {z : Nat × Nat} (h : w.heap[mb]? = some (.cells c ty z)) : False := by
  obtain ⟨_, M, ⟨es, ck, e1, _⟩, _⟩ := o
  rw [e1] at h; cases h
set_option maxRecDepth 10000 in
theorem SlM.look (o : SlM w mb cnt n vs) (hn : n ≤ 64) {k : Nat} (hk : k < n) : (Instr.lookup 45 (.map (some mb)) (.int .i64 (k : Int)) false).run Try.prog w = .ok (vs k) w := by
  obtain ⟨hs, M, hM, b1⟩ := o
  obtain ⟨v, ps, hr, hR⟩ := hM.lookup mlLaw Try.underlying45 (mlZero w) (zd := .agg []) (zp := []) rfl (mlKey (k := k) (by omega))
  rw [b1 k hk] at hR
  rw [hr, slR_inv (hs k hk) hR]
set_option maxRecDepth 10000 in
theorem SlM.put (o : SlM w mb cnt n vs) (hn : n ≤ 64) (hc : cnt ≤ 1000000) {k : Nat} (hk : k < n) {v : Value} (hv : SlV v) :
    ∃ w', (Instr.mapUpdate 45 (.map (some mb)) (.int .i64 (k : Int)) v).run Try.prog w = .ok () w' ∧ SlM w' mb (cnt + 1) n (updF vs k v) ∧ OnlyS (fun y => y = mb) w w' := by
  obtain ⟨hs, M, hM, b1⟩ := o
  obtain ⟨w', hr, hM', hgr⟩ := hM.update mlLaw Try.underlying45 (by unfold maxLen; omega) (mlKey (k := k) (by omega)) (slR_mk hv)
  have ho : OnlyS (fun y => y = mb) w w' := ⟨hgr.os, hgr.tape, hgr.output, hgr.size, fun k hk hb => hgr.block k hk (fun e => hb (by simpa using e))⟩
  refine ⟨w', hr, ⟨fun q hq => ?_, _, hM', fun q hq => ?_⟩, ho⟩
  · by_cases e : q = k
    · subst e; rw [updF_same]; exact hv
    · rw [updF_ne _ _ e]; exact hs q hq
  · by_cases e : q = k
    · subst e
      rw [updF_same, atKey_put_same hM.isMap (by simp [WideAt.IsKeyLit])]
    · rw [updF_ne _ _ e, atKey_put_other (by intro e2; injection e2 with _ e2; omega), b1 q hq]
end
theorem infoLet : (Try.prog.info? 34).map (fun i => (i.zero, i.size, i.bytes)) = some (some (.agg #[.string ByteArray.empty, .int .u8 0]), 2, 24) := by kernel_rfl
theorem letCell_one (l : Let) : ∀ v ∈ letCell l, v.oneCell' = true := by
  intro v hv
  simp [letCell] at hv
  rcases hv with rfl | rfl <;> rfl
/-- What MailAll's first loop leaves: boxes, and each worker's letters in a row, told by the map. -/
structure MAl (w : World) (B b n mb cnt : Nat) (vs : Nat → Value) (T : Nat → List Let) (S : Nat → Prop) (wr : World) : Prop where
  q : MU wr B b n S T
  map : SlM wr mb cnt n vs
  row : ∀ k, k < n → OwnRow wr B 34 2 letCell (vs k) (T k)
  apart : ∀ j k, j < n → k < n → j ≠ k → ∀ x, (vs j).ownBlock = some x → (vs k).ownBlock ≠ some x
  below : Below w.heap.size w wr
  base : w.heap.size ≤ B
  mbase : w.heap.size ≤ mb
section
variable {w wr w' : World} {B b n mb cnt : Nat} {vs : Nat → Value} {T : Nat → List Let} {S : Nat → Prop}
theorem MAl.later (h : MAl w B b n mb cnt vs T S wr) (hb : Below wr.heap.size wr w') : MAl w B b n mb cnt vs T S w' :=
  ⟨h.q.later hb, h.map.later hb, fun k hk => (h.row k hk).later hb, h.apart, h.below.trans (hb.mono h.below.size), h.base, h.mbase⟩
/-- The boxes are changed: all else stays. -/
theorem MAl.kept (h : MAl w B b n mb cnt vs T S wr) (o : OnlyS S wr w') : SlM w' mb cnt n vs ∧ (∀ k, k < n → OwnRow w' B 34 2 letCell (vs k) (T k)) ∧ Below w.heap.size w w' :=
  ⟨h.map.onlyS o fun hs => by
    obtain ⟨_, c, ty, e, _⟩ := h.q.kinds hs
    exact h.map.not_cells e, fun k hk => (h.row k hk).keepQ fun g hg => by
    obtain ⟨_, c, hc⟩ := (h.row k hk).kindQ hg
    exact o.block g (Array.getElem?_eq_some_iff.1 hc).1 (h.q.not_row hc (by decide) (by decide) (by decide)), h.below.trans (h.q.only h.base o)⟩
/-- A letter sent, appended to its worker's row, and the map told. -/
theorem MAl.send (h : MAl w B b n mb cnt vs T S wr) (hn : n ≤ 64) (hc : cnt ≤ 1000000) {j : Nat} (hj : j < n) {l : Let} (hr : SendR B b n S T j l wr w') : ∃ S', SlM w' mb cnt n vs ∧ OwnRow w' B 34 2 letCell (vs j) (T j) ∧ B ≤ w'.heap.size ∧ OnlyS S wr w' ∧
    ∀ (W : World), Below w'.heap.size w' W → ∀ v2 w2, OwnRow w2 B 34 2 letCell v2 (T j ++ [l]) → W.grownBy w2 (vs j).ownBlock → (v2.ownBlock = (vs j).ownBlock ∨ v2.ownBlock = some W.heap.size) →
    ∃ w3, (Instr.mapUpdate 45 (.map (some mb)) (.int .i64 (j : Int)) v2).run Try.prog w2 = .ok () w3 ∧ MAl w B b n mb (cnt + 1) (updF vs j v2) (updF T j (T j ++ [l])) S' w3 ∧ ∀ (g : Nat) c, W.heap[g]? = some (.cells c 30 (0, 0)) → w2.heap[g]? = some (.cells c 30 (0, 0)) := by
  obtain ⟨S', q, ho, hS⟩ := hr
  obtain ⟨m1, r1, b1⟩ := h.kept ho
  refine ⟨S', m1, r1 j hj, q.low, ho, fun W hb v2 w2 hv2 hg hv => ?_⟩
  have o2 : OnlyS (fun y => (vs j).ownBlock = some y) W w2 := ⟨hg.os, hg.tape, hg.output, hg.size, fun k hk hn => hg.block k hk fun e => hn e.symm⟩
  have q2 : MU w2 B b n S' (updF T j (T j ++ [l])) := (q.later hb).onlyS o2 fun y hy e => by
    obtain ⟨_, c, hc⟩ := (r1 j hj).kindQ e
    exact q.not_row hc (by decide) (by decide) (by decide) hy
  have hmb : ¬ (vs j).ownBlock = some mb := fun e => by
    obtain ⟨_, c, hc⟩ := (r1 j hj).kindQ e
    exact m1.not_cells hc
  have m2 := (m1.later hb).onlyS o2 hmb
  have rlt : ∀ k, k < n → ∀ x, (vs k).ownBlock = some x → x < w'.heap.size := fun k hk x hx => by
    obtain ⟨_, c, hc⟩ := (r1 k hk).kindQ hx
    exact (Array.getElem?_eq_some_iff.1 hc).1
  have r2 : ∀ k, k < n → OwnRow w2 B 34 2 letCell (updF vs j v2 k) (updF T j (T j ++ [l]) k) := fun k hk => by
    by_cases e : k = j
    · subst e; rw [updF_same, updF_same]; exact hv2
    · rw [updF_ne _ _ e, updF_ne _ _ e]
      refine ((r1 k hk).later hb).keepQ fun g hg => o2.block g (Nat.lt_of_lt_of_le (rlt k hk g hg) hb.size) fun e2 => ?_
      exact h.apart j k hj hk (Ne.symm e) g e2 hg
  obtain ⟨w3, hrun, m3, o3⟩ := m2.put hn hc hj hv2.slV
  refine ⟨w3, hrun, ⟨q2.onlyS o3 fun y hy e => ?_, m3, fun k hk => (r2 k hk).keepQ fun g hg => ?_, fun i k hi hk hik x hx hy => ?_, ?_, h.base, h.mbase⟩, fun g c hc => o2.row hc fun e => ?_⟩
  · obtain ⟨_, c, ty, e2, _⟩ := q2.kinds hy
    subst e
    exact m2.not_cells e2
  · obtain ⟨_, c, hc⟩ := (r2 k hk).kindQ hg
    exact o3.block g (Array.getElem?_eq_some_iff.1 hc).1 fun e => by
      subst e
      exact m2.not_cells hc
  · have key : ∀ k, k < n → k ≠ j → ∀ x, v2.ownBlock = some x → (vs k).ownBlock = some x → False := fun k hk hkj x h1 h2 => by
      rcases hv with e | e
      · exact h.apart j k hj hk (Ne.symm hkj) x (e ▸ h1) h2
      · rw [e] at h1
        injection h1 with h1
        have h3 := rlt k hk x h2
        have h4 := hb.size
        omega
    by_cases e1 : i = j
    · subst e1
      rw [updF_same] at hx
      rw [updF_ne _ _ (Ne.symm hik)] at hy
      exact key k hk (Ne.symm hik) x hx hy
    · rw [updF_ne _ _ e1] at hx
      by_cases e2 : k = j
      · subst e2
        rw [updF_same] at hy
        exact key i hi e1 x hy hx
      · rw [updF_ne _ _ e2] at hy
        exact h.apart i k hi hk hik x hx hy
  · have b2 := b1.trans (hb.mono b1.size)
    have b3 : Below w.heap.size w w2 := b2.trans (o2.below b2.size fun k hk => Nat.le_trans h.base ((r1 j hj).kindQ hk).1)
    exact b3.trans (o3.below b3.size fun k hk => by subst hk; exact h.mbase)
  · obtain ⟨_, c', hc'⟩ := ((r1 j hj).later hb).kindQ e
    rw [hc] at hc'; injection hc' with hc'; injection hc' with _ hc'
    exact absurd hc' (by decide)
/-- What is left when the workers below i have taken all, and i has taken d. -/
def tk (T : Nat → List Let) (i d : Nat) (q : Nat) : List Let := if q < i then [] else if q = i then (T q).drop d else T q
theorem tk_zero (T : Nat → List Let) (q : Nat) : tk T 0 0 q = T q := by
  unfold tk
  rw [if_neg (by omega)]
  by_cases h : q = 0
  · rw [if_pos h, List.drop_zero]
  · rw [if_neg h]
theorem tk_at (T : Nat → List Let) (i d : Nat) : tk T i d i = (T i).drop d := by
  unfold tk
  rw [if_neg (by omega), if_pos rfl]
theorem tk_step (T : Nat → List Let) (i d : Nat) : updF (tk T i d) i ((T i).drop (d + 1)) = tk T i (d + 1) := by
  funext q
  by_cases h : q = i
  · subst h; rw [updF_same, tk_at]
  · rw [updF_ne _ _ h]
    unfold tk
    rw [if_neg h, if_neg h]
theorem tk_end (T : Nat → List Let) (i q : Nat) : tk T i (T i).length q = tk T (i + 1) 0 q := by
  unfold tk
  by_cases h1 : q < i
  · rw [if_pos h1, if_pos (by omega)]
  · by_cases h2 : q = i
    · subst h2; rw [if_neg h1, if_pos rfl, if_pos (by omega), List.drop_length]
    · rw [if_neg h1, if_neg h2, if_neg (by omega), List.drop_zero]
      split <;> rfl
theorem tk_all (T : Nat → List Let) (n : Nat) : totL n (tk T n 0) = 0 := by
  rw [totL_congr (U := fun _ => ([] : List Let)) fun q hq => by unfold tk; rw [if_pos hq], totL_nil]
theorem totL_mono {α : Type} {n : Nat} {T U : Nat → List α} (h : ∀ j, j < n → (T j).length ≤ (U j).length) : totL n T ≤ totL n U := by
  induction n with
  | zero => exact Nat.le_refl _
  | succ n ih =>
    rw [totL_succ, totL_succ]
    have := ih fun j hj => h j (by omega)
    have := h n (by omega)
    omega
theorem MU.congr {U : Nat → List Let} (h : MU w' B b n S T) (e : ∀ q, q < n → T q = U q) : MU w' B b n S U := by
  obtain ⟨g, ids, le, nx, cx, ls, q, h1, h2⟩ := h
  have e2 : totL n T = totL n U := totL_congr fun q hq => by rw [e q hq]
  exact ⟨g, ids, le, nx, cx, ls, by rw [← e2]; exact q, fun j hj => (h1 j hj).trans (e j hj), h2⟩
/-- The boxes while letters are taken, beside the rows that tell what was sent. -/
structure MTk (w : World) (B b n mb cnt : Nat) (vs : Nat → Value) (T U : Nat → List Let) (S : Nat → Prop) (wr : World) : Prop where
  q : MU wr B b n S U
  map : SlM wr mb cnt n vs
  row : ∀ k, k < n → OwnRow wr B 34 2 letCell (vs k) (T k)
  below : Below w.heap.size w wr
  base : w.heap.size ≤ B
section
variable {U V : Nat → List Let}
theorem MAl.tk (h : MAl w B b n mb cnt vs T S wr) : MTk w B b n mb cnt vs T (tk T 0 0) S wr := ⟨h.q.congr fun q _ => (tk_zero T q).symm, h.map, h.row, h.below, h.base⟩
theorem MTk.later (h : MTk w B b n mb cnt vs T U S wr) (hb : Below wr.heap.size wr w') : MTk w B b n mb cnt vs T U S w' :=
  ⟨h.q.later hb, h.map.later hb, fun k hk => (h.row k hk).later hb, h.below.trans (hb.mono h.below.size), h.base⟩
theorem MTk.congr (h : MTk w B b n mb cnt vs T U S wr) (e : ∀ q, q < n → U q = V q) : MTk w B b n mb cnt vs T V S wr := ⟨h.q.congr e, h.map, h.row, h.below, h.base⟩
theorem MTk.took (h : MTk w B b n mb cnt vs T U S wr) {j : Nat} {r : List Let} (hr : TookR B b n S U j r wr w') : MTk w B b n mb cnt vs T (updF U j r) S w' ∧ OnlyS S wr w' := by
  obtain ⟨q, o⟩ := hr
  refine ⟨⟨q, h.map.onlyS o fun hs => ?_, fun k hk => (h.row k hk).keepQ fun g hg => ?_, h.below.trans (h.q.only h.base o), h.base⟩, o⟩
  · obtain ⟨_, c, ty, e, _⟩ := h.q.kinds hs
    exact h.map.not_cells e
  · obtain ⟨_, c, hc⟩ := (h.row k hk).kindQ hg
    exact o.block g (Array.getElem?_eq_some_iff.1 hc).1 (h.q.not_row hc (by decide) (by decide) (by decide))
theorem RowAt.let {w : World} {a : Option Addr} {l : List Let} (h : RowAt w a 2 letCell l) {k : Nat} (hk : k < l.length) : ∃ b o, a = some ⟨b, o, none⟩ ∧ w.cell? ⟨b, o + k * 2, none⟩ = some (.string ⟨l[k].s.toArray⟩) ∧ w.cell? ⟨b, o + k * 2 + 1, none⟩ = some (.int .u8 l[k].set) := by
  obtain ⟨b, o, rfl, hc⟩ := h.2 (by intro e; simp [e] at hk)
  have h0 := hc k hk 0 _ rfl
  have h1 := hc k hk 1 _ rfl
  exact ⟨b, o, rfl, by simpa using h0, by simpa using h1⟩
end
end
end Go.Proofs.Ytpanfhkmildkeaa
