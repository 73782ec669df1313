import Derived.Maps.AppendAt
import Derived.OwnWalkIn
import Derived.Shelf.SlSortCmp.NoneTotal
import Derived.Test.YtnldkmcijmbhcaaGreatProg
import Derived.Test.YtnldkmcijmbhcaaGreatPk03
import Derived.Test.YtnldkmcijmbhcaaGreatPk05
import Derived.Test.YtnldkmcijmbhcaaGreatPk10
import Derived.Test.YtnldkmcijmbhcaaGreatPk10b

/- A row's unlike events with their places, in memory. -/
namespace Go.Proofs.YtnldkmcijmbhcaaGreat
open Go.RowKit

/-- A slice of places. -/
structure Sp where
  a : Option Addr
  n : Nat
  c : Nat
instance : Inhabited Sp := ⟨⟨none, 0, 0⟩⟩
def spV (s : Sp) : Value := .slice s.a s.n s.c
/-- A place: where it stands, and which one of its thread's it is. -/
def plCell (p : Nat × Nat) : List Value := [.int .i64 p.1, .int .i64 p.2]
theorem plCell_len (p : Nat × Nat) : (plCell p).length = 2 := rfl
theorem plCell_one (p : Nat × Nat) : ∀ v ∈ plCell p, v.oneCell' = true := by
  intro v hv
  simp [plCell] at hv
  rcases hv with rfl | rfl <;> rfl
/-- An unlike event, with its slice. -/
def gpCell (x : Ev × Sp) : List Value := [.int .i64 x.1.thread, .int .i64 x.1.kind, .int .i64 x.1.obj, .bool x.1.fail, .slice x.2.a x.2.n x.2.c]
theorem gpCell_len (x : Ev × Sp) : (gpCell x).length = 5 := rfl
theorem gpCell_one (x : Ev × Sp) : ∀ v ∈ gpCell x, v.oneCell' = true := by
  intro v hv
  simp [gpCell] at hv
  rcases hv with rfl | rfl | rfl | rfl | rfl <;> rfl
theorem infoGp : (Tryz.prog.info? 160).map (fun i => (i.zero, i.size, i.bytes)) = some (some (.agg #[.int .i64 0, .int .i64 0, .int .i64 0, .bool false, .slice none 0 0]), 5, 56) := by kernel_rfl
theorem infoPl : (Tryz.prog.info? 157).map (fun i => (i.zero, i.size, i.bytes)) = some (some (.agg #[.int .i64 0, .int .i64 0]), 2, 16) := by kernel_rfl
theorem tyGp : 160 ≠ 157 := by decide
theorem rows_unlike {w : World} {B B' n n' m m' : Nat} {t t' : TypeId} {v v' : Value} {xs xs' : List Value} (h : w.ownsRow B t n v m xs) (h' : w.ownsRow B' t' n' v' m' xs') (hne : t ≠ t') : v.ownBlock = none ∨ v.ownBlock ≠ v'.ownBlock := by
  obtain ⟨_, ⟨rfl, _⟩ | ⟨g, cap, cur, rfl, _, hg, _⟩⟩ := h
  · exact .inl rfl
  · right
    obtain ⟨_, ⟨rfl, _⟩ | ⟨g', cap', cur', rfl, _, hg', _⟩⟩ := h'
    · simp [Value.ownBlock]
    · intro e
      injection e with e
      have e2 : g = g' := e
      subst e2
      rw [hg] at hg'
      injection hg' with hg'
      injection hg' with _ h2
      exact hne h2

/-- Unlike events of one's own. -/
structure OwnG (w : World) (B : Nat) (v : Value) (xs : List (Ev × Sp)) (gs : List Gp) : Prop where
  len : xs.length = gs.length
  evs : ∀ i (h : i < xs.length) (h' : i < gs.length), xs[i].1 = gs[i].1
  outer : OwnRow w B 160 5 gpCell v xs
  inner : ∀ i (h : i < xs.length) (h' : i < gs.length), OwnRow w B 157 2 plCell (spV xs[i].2) gs[i].2
  apart : ∀ i j (hi : i < xs.length) (hj : j < xs.length), i ≠ j → (spV xs[i].2).ownBlock = none ∨ (spV xs[i].2).ownBlock ≠ (spV xs[j].2).ownBlock
theorem OwnG.later {w w' : World} {B : Nat} {v : Value} {xs : List (Ev × Sp)} {gs : List Gp} (h : OwnG w B v xs gs) (hb : Below w.heap.size w w') : OwnG w' B v xs gs :=
  ⟨h.len, h.evs, h.outer.later hb, fun i hi hj => (h.inner i hi hj).later hb, h.apart⟩
theorem ownG_nil (w : World) (B : Nat) : OwnG w B (.slice none 0 0) [] [] := ⟨rfl, fun i hi => absurd hi (by simp), ownRow_nil _ _ _ _ _, fun i hi => absurd hi (by simp), fun i _ hi => absurd hi (by simp)⟩
theorem OwnG.only {w w' : World} {B g : Nat} {v : Value} {xs : List (Ev × Sp)} {gs : List Gp} (h : OwnG w B v xs gs) (ho : Only g w w') (hg : g < B) : OwnG w' B v xs gs :=
  ⟨h.len, h.evs, h.outer.only ho hg, fun i hi hj => (h.inner i hi hj).only ho hg, h.apart⟩
theorem OwnG.kept {w w' : World} {B : Nat} {v : Value} {xs : List (Ev × Sp)} {gs : List Gp} {row : Option Nat} (h : OwnG w B v xs gs) (hg : w.grownBy w' row) (hr : ∀ r, row = some r → ∀ t cs, w.heap[r]? = some (.cells cs t (0, 0)) → t ≠ 160 ∧ t ≠ 157) : OwnG w' B v xs gs := by
  have key : ∀ {t : TypeId} {n m : Nat} {v' : Value} {ys : List Value}, (t = 160 ∨ t = 157) → w.ownsRow B t n v' m ys → w'.ownsRow B t n v' m ys := by
    intro t n m v' ys ht ho
    refine ho.kept hg ?_
    obtain ⟨_, ⟨rfl, _⟩ | ⟨g, cap, cur, rfl, _, hgb, _⟩⟩ := ho
    · exact .inl rfl
    · right
      intro e
      have := hr g e.symm _ _ hgb
      rcases ht with rfl | rfl
      · exact this.1 rfl
      · exact this.2 rfl
  exact ⟨h.len, h.evs, key (.inl rfl) h.outer, fun i hi hj => key (.inr rfl) (h.inner i hi hj), h.apart⟩

/-- An unlike event more. -/
theorem OwnG.more {w w' : World} {B : Nat} {v v' : Value} {xs : List (Ev × Sp)} {gs : List Gp} {e : Ev} {s : Sp} {ps : List (Nat × Nat)} (h : OwnG w B v xs gs) (ho : OwnRow w' B 160 5 gpCell v' (xs ++ [(e, s)])) (hg : w.grownBy w' v.ownBlock)
    (hs : OwnRow w' B 157 2 plCell (spV s) ps) (hb : ∀ b, (spV s).ownBlock = some b → ∀ i (h : i < xs.length), (spV xs[i].2).ownBlock ≠ some b) :
    OwnG w' B v' (xs ++ [(e, s)]) (gs ++ [(e, ps)]) := by
  have hl := h.len
  refine ⟨by simp [h.len], fun i hi hj => ?_, ho, fun i hi hj => ?_, fun i j hi hj hne => ?_⟩
  · by_cases hlt : i < xs.length
    · rw [List.getElem_append_left hlt, List.getElem_append_left (show i < gs.length by omega)]
      exact h.evs i hlt _
    · have e0 : i = xs.length := by simp at hi; omega
      subst e0
      simp [hl]
  · by_cases hlt : i < xs.length
    · have e1 : (xs ++ [(e, s)])[i] = xs[i] := List.getElem_append_left hlt
      have e2 : (gs ++ [(e, ps)])[i] = gs[i]'(by omega) := List.getElem_append_left (show i < gs.length by omega)
      rw [e1, e2]
      exact World.ownsRow.kept (h.inner i hlt (by omega)) hg (rows_unlike (h.inner i hlt (by omega)) h.outer (Ne.symm tyGp))
    · have e0 : i = xs.length := by simp at hi; omega
      subst e0
      simp only [List.getElem_concat_length, hl]
      exact hs
  · by_cases hlt : i < xs.length
    · have e1 : (xs ++ [(e, s)])[i] = xs[i] := List.getElem_append_left hlt
      rw [e1]
      by_cases hlj : j < xs.length
      · rw [List.getElem_append_left hlj]
        exact h.apart i j hlt hlj hne
      · have e0 : j = xs.length := by simp at hj; omega
        subst e0
        have e2 : (xs ++ [(e, s)])[xs.length] = (e, s) := by simp
        rw [e2]
        cases hq : (spV s).ownBlock with
        | none => cases hq2 : (spV xs[i].2).ownBlock with
          | none => exact .inl rfl
          | some b => exact .inr (by simp)
        | some b => exact .inr (hb b hq i hlt)
    · have e0 : i = xs.length := by simp at hi; omega
      subst e0
      have hlj : j < xs.length := by simp at hj; omega
      have e1 : (xs ++ [(e, s)])[xs.length] = (e, s) := by simp
      rw [e1, List.getElem_append_left hlj]
      cases hq : (spV s).ownBlock with
      | none => exact .inl rfl
      | some b => exact .inr fun e' => hb b hq j hlj e'.symm

theorem gp_set {xs : List (Ev × Sp)} {n : Nat} (hn : n < xs.length) (s : Sp) : (cellsL gpCell xs).set (n * 5 + 4) (.slice s.a s.n s.c) = cellsL gpCell (xs.set n (xs[n].1, s)) := by
  induction xs generalizing n with
  | nil => simp at hn
  | cons x xs ih =>
    cases n with
    | zero => rfl
    | succ n =>
      have := ih (n := n) (by simpa using hn)
      have e : (n + 1) * 5 + 4 = (n * 5 + 4) + 5 := by omega
      simp only [cellsL, List.flatMap_cons, List.set_cons_succ, List.getElem_cons_succ] at *
      rw [← this, e]
      rfl
/-- One event's places, changed. -/
theorem OwnG.put {w w3 : World} {B g N cap n : Nat} {xs : List (Ev × Sp)} {gs : List Gp} {s' : Sp} {ps : List (Nat × Nat)} (h : OwnG w B (.slice (some ⟨g, 0, none⟩) N cap) xs gs) (hn : n < xs.length) (hn2 : n < gs.length)
    (ho : OwnRow w3 B 157 2 plCell (spV s') ps) (hg : w.grownBy w3 (spV xs[n].2).ownBlock) (hb : ∀ b, (spV s').ownBlock = some b → (spV xs[n].2).ownBlock = some b ∨ w.heap.size ≤ b) :
    OwnG (w3.setCell ⟨g, n * 5 + 4, none⟩ (.slice s'.a s'.n s'.c)) B (.slice (some ⟨g, 0, none⟩) N cap) (xs.set n (xs[n].1, s')) (gs.set n (gs[n].1, ps)) ∧ (w3.cell? ⟨g, n * 5 + 4, none⟩).isSome = true ∧ w3.frozen? ⟨g, n * 5 + 4, none⟩ = false := by
  have hl := h.len
  have hout : w3.ownsRow B 160 5 (.slice (some ⟨g, 0, none⟩) N cap) xs.length (cellsL gpCell xs) := World.ownsRow.kept h.outer hg (rows_unlike h.outer (h.inner n hn hn2) tyGp)
  have hN : xs.length = N := by
    obtain ⟨_, ⟨h1, _⟩ | ⟨_, _, _, h1, _⟩⟩ := hout
    · cases h1
    · injection h1 with _ h1
      exact h1.symm
  rw [hN] at hout
  have hst := hout.stored (n * 5 + 4) (.slice s'.a s'.n s'.c)
  rw [gp_set hn s'] at hst
  have hgs : w3.grownBy (w3.setCell ⟨g, n * 5 + 4, none⟩ (.slice s'.a s'.n s'.c)) (some g) := hst.2
  have hkeep : ∀ {v2 : Value} {es : List (Nat × Nat)}, OwnRow w3 B 157 2 plCell v2 es → OwnRow (w3.setCell ⟨g, n * 5 + 4, none⟩ (.slice s'.a s'.n s'.c)) B 157 2 plCell v2 es := fun {v2 es} hv => World.ownsRow.kept hv hgs (rows_unlike hv hout (Ne.symm tyGp))
  refine ⟨⟨by simp [h.len], fun i hi hj => ?_, ?_, fun i hi hj => ?_, fun i j hi hj hne => ?_⟩, ?_, hout.frozenAt _⟩
  · simp only [List.length_set] at hi hj
    by_cases e : n = i
    · subst e
      simp [h.evs n hn hn2]
    · rw [List.getElem_set_ne e, List.getElem_set_ne e]
      exact h.evs i hi hj
  · unfold OwnRow
    rw [List.length_set, hN]
    exact hst.1
  · simp only [List.length_set] at hi hj
    by_cases e : n = i
    · subst e
      simp only [List.getElem_set_self]
      exact hkeep ho
    · rw [List.getElem_set_ne e, List.getElem_set_ne e]
      exact hkeep (World.ownsRow.kept (h.inner i hi hj) hg (h.apart i n hi hn (fun e' => e e'.symm)))
  · simp only [List.length_set] at hi hj
    have hnew : ∀ i (hi : i < xs.length), i ≠ n → (spV s').ownBlock = none ∨ (spV s').ownBlock ≠ (spV xs[i].2).ownBlock := fun i hi hne => by
      cases hb' : (spV s').ownBlock with
      | none => exact .inl rfl
      | some b =>
        right
        intro e
        rcases hb b hb' with h1 | h1
        · rcases h.apart n i hn hi (fun e => hne e.symm) with h2 | h2
          · rw [h1] at h2; cases h2
          · exact h2 (h1.trans e)
        · have := (World.ownsRow.lt (h.inner i hi (by omega)) b e.symm).2
          omega
    by_cases e : n = i
    · subst e
      have e2 : (xs.set n (xs[n].1, s'))[j]'(by simpa using hj) = xs[j] := List.getElem_set_ne hne _
      rw [e2, List.getElem_set_self]
      exact hnew j hj (fun e => hne e.symm)
    · have e1 : (xs.set n (xs[n].1, s'))[i]'(by simpa using hi) = xs[i] := List.getElem_set_ne e _
      rw [e1]
      by_cases e' : n = j
      · subst e'
        rw [List.getElem_set_self]
        rcases hnew i hi hne with h1 | h1
        · cases hb2 : (spV xs[i].2).ownBlock
          · exact .inl rfl
          · right; rw [h1]; simp
        · exact .inr (fun e => h1 e.symm)
      · have e2 : (xs.set n (xs[n].1, s'))[j]'(by simpa using hj) = xs[j] := List.getElem_set_ne e' _
        rw [e2]
        exact h.apart i j hi hj hne
  · rw [hout.cellAt _ (by omega), List.getElem?_eq_getElem (by rw [cellsL_length gpCell_len]; omega)]
    rfl
/-- What stands at a place of the row. -/
theorem OwnG.cell {w : World} {B g N cap n j : Nat} {xs : List (Ev × Sp)} {gs : List Gp} (h : OwnG w B (.slice (some ⟨g, 0, none⟩) N cap) xs gs) (hn : n < xs.length) (hj : j < 5) : w.cell? ⟨g, n * 5 + j, none⟩ = (gpCell xs[n])[j]? := by
  have hout : w.ownsRow B 160 5 (.slice (some ⟨g, 0, none⟩) N cap) xs.length (cellsL gpCell xs) := h.outer
  have hN : xs.length = N := by
    obtain ⟨_, ⟨h1, _⟩ | ⟨_, _, _, h1, _⟩⟩ := hout
    · cases h1
    · injection h1 with _ h1
      exact h1.symm
  rw [hN] at hout
  rw [hout.cellAt _ (by omega), cellsL_get gpCell_len xs n j hn hj]
theorem OwnG.form {w : World} {B : Nat} {v : Value} {xs : List (Ev × Sp)} {gs : List Gp} (h : OwnG w B v xs gs) : (v = .slice none 0 0 ∧ gs = []) ∨ ∃ g cap, v = .slice (some ⟨g, 0, none⟩) gs.length cap ∧ B ≤ g ∧ g < w.heap.size := by
  have hl := h.len
  obtain ⟨_, ⟨h1, h2⟩ | ⟨g, cap, cur, h1, h3, h4, _⟩⟩ := h.outer
  · exact .inl ⟨h1, List.eq_nil_of_length_eq_zero (by omega)⟩
  · exact .inr ⟨g, cap, by rw [h1, hl], h3, (Array.getElem?_eq_some_iff.1 h4).1⟩

end Go.Proofs.YtnldkmcijmbhcaaGreat

/- The beginning of a row that race keeps, in memory. -/
namespace Go.Proofs.YtnldkmcijmbhcaaGreat
open Go.RowKit

/-- The clocks of the four threads' last events. -/
def csOf (l : List Ev) (n : Nat) : List (Nat → Nat) := (List.range 4).map fun (t u : Nat) => lasts l n t u
theorem csOf_len (l : List Ev) (n : Nat) : (csOf l n).length = 4 := rfl
theorem csOf_get (l : List Ev) (n t : Nat) (h : t < 4) : (csOf l n)[t]'(by rw [csOf_len]; exact h) = fun (u : Nat) => lasts l n t u := by simp [csOf]
theorem csOf_succ (l : List Ev) (n th : Nat) (_ : th < 4) (ht : (evI l n).thread = th) : cellsL ckCell (csOf l (n + 1)) = cellsL ckCell ((csOf l n).set th fun (u : Nat) => clk l n u) := by
  refine ck_congr (by simp [csOf_len]) fun i h1 h2 t ht4 => ?_
  have hi : i < 4 := h1
  rw [csOf_get l (n + 1) i hi]
  show lasts l (n + 1) i t = _
  rw [lasts_succ, ht]
  by_cases e : th = i
  · subst e
    simp
  · rw [if_neg (by omega), List.getElem_set_ne e, csOf_get l n i hi]
/-- Its block: sixteen numbers, and a slice. -/
def PaAt (w : World) (P : Nat) (cs : List (Nat → Nat)) (v : Value) : Prop := MidAt w P 122 (cellsL ckCell cs ++ [v])
structure PastM (w : World) (P B : Nat) (cs : List (Nat → Nat)) (v : Value) (xs : List (Ev × Sp)) (gs : List Gp) : Prop where
  blk : PaAt w P cs v
  own : OwnG w B v xs gs
  lt : P < B
  le : B ≤ w.heap.size
  four : cs.length = 4
theorem PastM.later {w w' : World} {P B : Nat} {cs : List (Nat → Nat)} {v : Value} {xs : List (Ev × Sp)} {gs : List Gp} (h : PastM w P B cs v xs gs) (hb : Below w.heap.size w w') : PastM w' P B cs v xs gs :=
  ⟨h.blk.later hb, h.own.later hb, h.lt, Nat.le_trans h.le hb.size, h.four⟩
theorem PastM.congr {w : World} {P B : Nat} {cs ds : List (Nat → Nat)} {v : Value} {xs : List (Ev × Sp)} {gs : List Gp} (h : PastM w P B cs v xs gs) (hl : ds.length = 4) (he : cellsL ckCell ds = cellsL ckCell cs) : PastM w P B ds v xs gs :=
  ⟨by unfold PaAt; rw [he]; exact h.blk, h.own, h.lt, h.le, hl⟩
theorem PaAt.num {w : World} {P : Nat} {cs : List (Nat → Nat)} {v : Value} (h : PaAt w P cs v) {t u : Nat} (ht : t < cs.length) (hu : u < 4) : w.cell? ⟨P, t * 4 + u, none⟩ = some (.int .i64 (cs[t] u)) := by
  have h1 := MidAt.cell h (t * 4 + u)
  have h2 := cellsL_get ckCell_len cs t u ht hu
  rw [List.getElem?_append_left (by rw [cellsL_length ckCell_len]; omega), h2] at h1
  rw [h1]
  exact nums4_get _ hu
theorem PaAt.slice {w : World} {P : Nat} {cs : List (Nat → Nat)} {v : Value} (h : PaAt w P cs v) (h4 : cs.length = 4) : w.cell? ⟨P, 16, none⟩ = some v := by
  have h1 := MidAt.cell h 16
  rw [List.getElem?_append_right (by rw [cellsL_length ckCell_len]; omega), cellsL_length ckCell_len, h4] at h1
  exact h1
theorem PaAt.frozen {w : World} {P : Nat} {cs : List (Nat → Nat)} {v : Value} (h : PaAt w P cs v) (j : Nat) : w.frozen? ⟨P, j, none⟩ = false := MidAt.frozen h j
theorem PaAt.set4 {w : World} {P : Nat} {cs : List (Nat → Nat)} {v : Value} (h : PaAt w P cs v) {k : Nat} (hk : k < cs.length) (c : Nat → Nat) :
    PaAt ((((w.setCell ⟨P, k * 4, none⟩ (.int .i64 (c 0))).setCell ⟨P, k * 4 + 1, none⟩ (.int .i64 (c 1))).setCell ⟨P, k * 4 + 2, none⟩ (.int .i64 (c 2))).setCell ⟨P, k * 4 + 3, none⟩ (.int .i64 (c 3))) P (cs.set k c) v := by
  have h1 := MidAt.set (MidAt.set (MidAt.set (MidAt.set h (k * 4) (.int .i64 (c 0))) (k * 4 + 1) (.int .i64 (c 1))) (k * 4 + 2) (.int .i64 (c 2))) (k * 4 + 3) (.int .i64 (c 3))
  have hl : (cellsL ckCell cs).length = cs.length * 4 := cellsL_length ckCell_len cs
  unfold PaAt
  rw [← ck_set4 cs k c hk]
  rw [List.set_append_left _ _ (by rw [hl]; omega), List.set_append_left _ _ (by rw [List.length_set, hl]; omega), List.set_append_left _ _ (by rw [List.length_set, List.length_set, hl]; omega), List.set_append_left _ _ (by rw [List.length_set, List.length_set, List.length_set, hl]; omega)] at h1
  exact h1
theorem PaAt.put {w : World} {P : Nat} {cs : List (Nat → Nat)} {v : Value} (h : PaAt w P cs v) (h4 : cs.length = 4) (v' : Value) : PaAt (w.setCell ⟨P, 16, none⟩ v') P cs v' := by
  have h1 := MidAt.set h 16 v'
  unfold PaAt
  rw [List.set_append_right _ _ (by rw [cellsL_length ckCell_len]; omega), cellsL_length ckCell_len, h4] at h1
  exact h1

/-- All but the beginning's own memory lies as it lay. -/
structure Aside (P B : Nat) (w w' : World) : Prop where
  os : w'.os = w.os
  tape : w'.tape = w.tape
  output : w'.output = w.output
  size : w.heap.size ≤ w'.heap.size
  low : ∀ k, k < B → k ≠ P → w'.heap[k]? = w.heap[k]?
  keep : ∀ (k : Nat) (cs : Array Value) (t : TypeId) (fr : Nat × Nat), w.heap[k]? = some (Obj.cells cs t fr) → t ≠ 122 → t ≠ 160 → t ≠ 157 → w'.heap[k]? = some (Obj.cells cs t fr)
theorem Aside.refl (P B : Nat) (w : World) : Aside P B w w := ⟨rfl, rfl, rfl, Nat.le_refl _, fun _ _ _ => rfl, fun _ _ _ _ h _ _ _ => h⟩
theorem Aside.trans {P B : Nat} {a b c : World} (h : Aside P B a b) (k : Aside P B b c) : Aside P B a c :=
  ⟨k.os.trans h.os, k.tape.trans h.tape, k.output.trans h.output, Nat.le_trans h.size k.size, fun i hi hp => (k.low i hi hp).trans (h.low i hi hp), fun i cs t fr h0 h1 h2 h3 => k.keep i cs t fr (h.keep i cs t fr h0 h1 h2 h3) h1 h2 h3⟩
theorem Aside.of_below {P B : Nat} {w w' : World} (h : Below w.heap.size w w') (hB : B ≤ w.heap.size) : Aside P B w w' :=
  ⟨h.os, h.tape, h.output, h.size, fun k hk _ => h.block k (Nat.lt_of_lt_of_le hk hB), fun k _ _ _ h0 _ _ _ => (h.block k (Array.getElem?_eq_some_iff.1 h0).1).trans h0⟩
theorem Aside.of_only {P B q : Nat} {w w' : World} (h : Only q w w') (hq : B ≤ q ∨ q = P) (hB : B ≤ w.heap.size) (ht : ∀ cs t fr, w.heap[q]? = some (Obj.cells cs t fr) → t = 122 ∨ t = 160 ∨ t = 157) : Aside P B w w' :=
  ⟨h.os, h.tape, h.output, h.size, fun k hk hp => h.block k (Nat.lt_of_lt_of_le hk hB) (by omega), fun k cs t fr h0 h1 h2 h3 => by
    refine (h.block k (Array.getElem?_eq_some_iff.1 h0).1 fun e => ?_).trans h0
    subst e
    rcases ht cs t fr h0 with e | e | e
    · exact h1 e
    · exact h2 e
    · exact h3 e⟩
theorem Aside.of_grown {P B : Nat} {w w' : World} {row : Option Nat} (hb : Below B w w') (h : w.grownBy w' row) (ht : ∀ q, row = some q → ∀ cs t fr, w.heap[q]? = some (Obj.cells cs t fr) → t = 122 ∨ t = 160 ∨ t = 157) : Aside P B w w' :=
  ⟨hb.os, hb.tape, hb.output, hb.size, fun k hk _ => hb.block k hk, fun k cs t fr h0 h1 h2 h3 => by
    refine (h.block k (Array.getElem?_eq_some_iff.1 h0).1 fun e => ?_).trans h0
    rcases ht k e.symm cs t fr h0 with e | e | e
    · exact h1 e
    · exact h2 e
    · exact h3 e⟩
theorem Aside.below {P B A : Nat} {w w' : World} (h : Aside P B w w') (hP : A ≤ P) (hA : A ≤ B) : Below A w w' :=
  ⟨h.os, h.tape, h.output, h.size, fun k hk => h.low k (by omega) (by omega)⟩
theorem row_type {w : World} {B n m : Nat} {t : TypeId} {v : Value} {ys : List Value} (h : w.ownsRow B t n v m ys) {q : Nat} (hq : v.ownBlock = some q) : ∀ cs t' fr, w.heap[q]? = some (Obj.cells cs t' fr) → t' = t := by
  intro cs t' fr h0
  obtain ⟨_, ⟨rfl, _⟩ | ⟨g, cap, cur, rfl, _, hg, _⟩⟩ := h
  · cases hq
  · injection hq with hq
    have e : g = q := hq
    subst e
    rw [hg] at h0
    injection h0 with h0
    injection h0 with _ h2
    exact h2.symm
/-- A row of another type is kept. -/
theorem Aside.row {P B : Nat} {w w' : World} (h : Aside P B w w') {A n m : Nat} {t : TypeId} {v : Value} {ys : List Value} (ho : w.ownsRow A t n v m ys) (h1 : t ≠ 122) (h2 : t ≠ 160) (h3 : t ≠ 157) : w'.ownsRow A t n v m ys := by
  obtain ⟨e, h4 | ⟨g, cap, cur, h5, h6, h7, h8⟩⟩ := ho
  · exact ⟨e, .inl h4⟩
  · exact ⟨e, .inr ⟨g, cap, cur, h5, h6, h.keep g _ _ _ h7 h1 h2 h3, h8⟩⟩

/-- What stands in the row of unlike events when one's places have grown. -/
theorem OwnG.cell_grown {w w3 : World} {B g N cap n i j : Nat} {xs : List (Ev × Sp)} {gs : List Gp} (h : OwnG w B (.slice (some ⟨g, 0, none⟩) N cap) xs gs) (hn : n < xs.length) (hi : i < xs.length) (hj : j < 5) (hg : w.grownBy w3 (spV xs[n].2).ownBlock) : w3.cell? ⟨g, i * 5 + j, none⟩ = (gpCell xs[i])[j]? := by
  have hout : w3.ownsRow B 160 5 (.slice (some ⟨g, 0, none⟩) N cap) xs.length (cellsL gpCell xs) := World.ownsRow.kept h.outer hg (rows_unlike h.outer (h.inner n hn (by rw [← h.len]; exact hn)) tyGp)
  have hN : xs.length = N := by
    obtain ⟨_, ⟨h1, _⟩ | ⟨_, _, _, h1, _⟩⟩ := hout
    · cases h1
    · injection h1 with _ h1
      exact h1.symm
  rw [hN] at hout
  rw [hout.cellAt _ (by omega), cellsL_get gpCell_len xs i j hi hj]

/-- A thread's last event, newly. -/
theorem PastM.last {w : World} {P B : Nat} {cs : List (Nat → Nat)} {v : Value} {xs : List (Ev × Sp)} {gs : List Gp} (h : PastM w P B cs v xs gs) {k : Nat} (hk : k < 4) (c : Nat → Nat) :
    PastM ((((w.setCell ⟨P, k * 4, none⟩ (.int .i64 (c 0))).setCell ⟨P, k * 4 + 1, none⟩ (.int .i64 (c 1))).setCell ⟨P, k * 4 + 2, none⟩ (.int .i64 (c 2))).setCell ⟨P, k * 4 + 3, none⟩ (.int .i64 (c 3))) P B (cs.set k c) v xs gs ∧
      Aside P B w ((((w.setCell ⟨P, k * 4, none⟩ (.int .i64 (c 0))).setCell ⟨P, k * 4 + 1, none⟩ (.int .i64 (c 1))).setCell ⟨P, k * 4 + 2, none⟩ (.int .i64 (c 2))).setCell ⟨P, k * 4 + 3, none⟩ (.int .i64 (c 3))) := by
  have ho : Only P w ((((w.setCell ⟨P, k * 4, none⟩ (.int .i64 (c 0))).setCell ⟨P, k * 4 + 1, none⟩ (.int .i64 (c 1))).setCell ⟨P, k * 4 + 2, none⟩ (.int .i64 (c 2))).setCell ⟨P, k * 4 + 3, none⟩ (.int .i64 (c 3))) := ((((Only.refl _ _).setCell _ _).setCell _ _).setCell _ _).setCell _ _
  refine ⟨⟨h.blk.set4 (by rw [h.four]; exact hk) c, h.own.only ho h.lt, h.lt, Nat.le_trans h.le ho.size, by rw [List.length_set]; exact h.four⟩, Aside.of_only ho (.inr rfl) h.le fun cs' t fr h0 => ?_⟩
  have hb : w.heap[P]? = _ := h.blk
  rw [hb] at h0
  injection h0 with h0
  injection h0 with _ h2
  exact .inl h2.symm
/-- A place more of an event that was there. -/
theorem PastM.put {w wa w3 : World} {P B g N cap k : Nat} {cs : List (Nat → Nat)} {xs : List (Ev × Sp)} {gs : List Gp} {s' : Sp} {p : Nat × Nat} (h : PastM w P B cs (.slice (some ⟨g, 0, none⟩) N cap) xs gs) (hba : Below w.heap.size w wa) (hk : k < xs.length) (hk2 : k < gs.length)
    (ho : OwnRow w3 B 157 2 plCell (spV s') (gs[k].2 ++ [p])) (hb5 : Below B wa w3) (hgrow : wa.grownBy w3 (spV xs[k].2).ownBlock) (hwhere : (spV s').ownBlock = (spV xs[k].2).ownBlock ∨ (spV s').ownBlock = some wa.heap.size) :
    PastM (w3.setCell ⟨g, k * 5 + 4, none⟩ (.slice s'.a s'.n s'.c)) P B cs (.slice (some ⟨g, 0, none⟩) N cap) (xs.set k (xs[k].1, s')) (gs.set k (gs[k].1, gs[k].2 ++ [p])) ∧ Aside P B w (w3.setCell ⟨g, k * 5 + 4, none⟩ (.slice s'.a s'.n s'.c)) ∧
      (w3.cell? ⟨g, k * 5 + 4, none⟩).isSome = true ∧ w3.frozen? ⟨g, k * 5 + 4, none⟩ = false := by
  have ha := h.later hba
  obtain ⟨h1, h2, h3⟩ := ha.own.put hk hk2 ho hgrow (fun b hb => by
    rcases hwhere with e | e
    · exact .inl (e.symm.trans hb)
    · rw [e] at hb
      injection hb with hb
      exact .inr (by omega))
  have hBg : B ≤ g := by
    rcases ha.own.form with ⟨e, _⟩ | ⟨g', c', e, h4, _⟩
    · cases e
    · injection e with e; injection e with e; injection e with e; omega
  have hout : w3.ownsRow B 160 5 (.slice (some ⟨g, 0, none⟩) N cap) xs.length (cellsL gpCell xs) := World.ownsRow.kept ha.own.outer hgrow (rows_unlike ha.own.outer (ha.own.inner k hk hk2) tyGp)
  have hon : Only g w3 (w3.setCell ⟨g, k * 5 + 4, none⟩ (.slice s'.a s'.n s'.c)) := (Only.refl _ _).setCell _ _
  have hPg : P ≠ g := by have := h.lt; omega
  have hB3 : B ≤ w3.heap.size := Nat.le_trans ha.le hb5.size
  refine ⟨⟨?_, h1, h.lt, Nat.le_trans hB3 hon.size, h.four⟩, ?_, h2, h3⟩
  · have hm : MidAt w3 P _ _ := (hb5.block P h.lt).trans ha.blk
    exact (hon.block P (MidAt.lt hm) hPg).trans hm
  · refine ((Aside.of_below hba h.le).trans (Aside.of_grown hb5 hgrow fun q hq cs t fr h0 => ?_)).trans (Aside.of_only hon (.inl hBg) hB3 fun cs t fr h0 => ?_)
    · exact .inr (.inr (row_type (ha.own.inner k hk hk2) hq cs t fr h0))
    · exact .inr (.inl (row_type hout (q := g) rfl cs t fr h0))
/-- An event that wasn't there. -/
theorem PastM.new {w wa w4 : World} {P B : Nat} {cs : List (Nat → Nat)} {v v' : Value} {xs : List (Ev × Sp)} {gs : List Gp} {e : Ev} {s : Sp} {q : Nat} {p : Nat × Nat} (h : PastM w P B cs v xs gs) (hba : Below w.heap.size w wa)
    (hs : OwnRow wa B 157 2 plCell (spV s) [p]) (hq : (spV s).ownBlock = some q) (hqw : w.heap.size ≤ q)
    (ho : OwnRow w4 B 160 5 gpCell v' (xs ++ [(e, s)])) (hb5 : Below B wa w4) (hgrow : wa.grownBy w4 v.ownBlock) :
    PastM (w4.setCell ⟨P, 16, none⟩ v') P B cs v' (xs ++ [(e, s)]) (gs ++ [(e, [p])]) ∧ Aside P B w (w4.setCell ⟨P, 16, none⟩ v') := by
  have ha := h.later hba
  have hs4 : OwnRow w4 B 157 2 plCell (spV s) [p] := World.ownsRow.kept hs hgrow (rows_unlike hs ha.own.outer (Ne.symm tyGp))
  have h1 := ha.own.more ho hgrow hs4 (fun b hb i hi e' => by
    rw [hq] at hb
    injection hb with hb
    subst hb
    have := (World.ownsRow.lt (h.own.inner i hi (by rw [← h.own.len]; exact hi)) _ e').2
    omega)
  have hon : Only P w4 (w4.setCell ⟨P, 16, none⟩ v') := (Only.refl _ _).setCell _ _
  have hB3 : B ≤ w4.heap.size := Nat.le_trans ha.le hb5.size
  have hm : PaAt w4 P cs v := (hb5.block P h.lt).trans ha.blk
  refine ⟨⟨hm.put h.four v', h1.only hon h.lt, h.lt, Nat.le_trans hB3 hon.size, h.four⟩, ?_⟩
  refine ((Aside.of_below hba h.le).trans (Aside.of_grown hb5 hgrow fun q hq cs t fr h0 => ?_)).trans (Aside.of_only hon (.inr rfl) hB3 fun cs' t fr h0 => ?_)
  · exact .inr (.inl (row_type ha.own.outer hq cs t fr h0))
  · have hb : w4.heap[P]? = _ := hm
    rw [hb] at h0
    injection h0 with h0
    injection h0 with _ h2
    exact .inl h2.symm

end Go.Proofs.YtnldkmcijmbhcaaGreat

/- Races in memory. -/
namespace Go.Proofs.YtnldkmcijmbhcaaGreat
open Go.RowKit

/-- A race: its place, and its thread. -/
def rcCell (r : Nat × Int) : List Value := [.int .i64 r.1, .int .i64 r.2]
theorem rcCell_len (r : Nat × Int) : (rcCell r).length = 2 := rfl
theorem rcCell_one (r : Nat × Int) : ∀ v ∈ rcCell r, v.oneCell' = true := by
  intro v hv
  simp [rcCell] at hv
  rcases hv with rfl | rfl <;> rfl
theorem infoRc : (Tryz.prog.info? 98).map (fun i => (i.zero, i.size, i.bytes)) = some (some (.agg #[.int .i64 0, .int .i64 0]), 2, 16) := by kernel_rfl

end Go.Proofs.YtnldkmcijmbhcaaGreat

/- The contracts of slices.Backward over a row of places, and of what it hands back. -/
namespace Go.Proofs.YtnldkmcijmbhcaaGreat
open Go.RowKit Go.Shelf

attribute [local go_sem] Oper.semAt_some

def backP (ps : List (Nat × Nat)) (q : Fin ps.length) : Array Value := #[.int .i64 (q.val : Int), .agg #[.int .i64 (ps[q.val].1 : Nat), .int .i64 (ps[q.val].2 : Nat)]]
/-- What the rounds keep: all below n, and the iterator's own box. -/
def KeepB (n Bs : Nat) (A B : World) : Prop := Below n A B ∧ B.heap[Bs]? = A.heap[Bs]?
theorem keepB_t {n Bs : Nat} {A B C : World} (h : KeepB n Bs A B) (k : KeepB n Bs B C) : KeepB n Bs A C := ⟨h.1.trans k.1, k.2.trans h.2⟩
theorem KeepB.refl (n Bs : Nat) (A : World) : KeepB n Bs A A := ⟨Below.refl _ _, rfl⟩

set_option maxRecDepth 100000 in
set_option maxHeartbeats 2000000 in
theorem backP1_in (F : Fence) (n : Nat) (h7 : F.fn 115) (hro : F.round = none) (hn : 1 ≤ n) (l Bs n₀ : Nat) (a : Option Addr) (cap : Nat) (ps : List (Nat × Nat)) (hreach : ps.length ≤ 1000)
    (J Jx : List (Fin ps.length) → World → Prop)
    (hY : ∀ pre x W, J pre W → pre.length < ps.length → YieldAt F (n - 1) Tryz.prog l (backP ps x) W fun e W' => (e = .returned (.bool true) ∧ J (pre ++ [x]) W' ∧ KeepB n₀ Bs W W') ∨ (e = .returned (.bool false) ∧ Jx (pre ++ [x]) W'))
    (W : World) (hBs : MidAt W Bs 158 [.slice a ps.length cap]) (hrow : RowAt W a 2 plCell ps) (hb : 0 < ps.length → ∀ b o, a = some ⟨b, o, none⟩ → b < n₀) (h0 : J [] W) :
    CallsIn F n Tryz.prog 115 #[.func (.yield l) #[] #[], .pointer (some ⟨Bs, 0, none⟩)] W fun e W' => (∃ v, e = .returned v) ∧
      ((∃ ys, Backs ps.length ps.length ys ∧ J ys W') ∨ (∃ pre, (∃ k, k ≤ ps.length ∧ Backs ps.length k pre) ∧ Jx pre W')) := by
  refine callsIn_of_wp Tryz.func115 rfl h7 ?_ hro
  have hBsc := hBs.cell 0
  simp only [List.getElem?_cons_zero] at hBsc
  simp only [Tryz.ntmps115, List.size_toArray, List.length_cons, List.length_nil, Nat.reduceAdd, Nat.reduceSub, Array.replicate_succ, Array.replicate_zero, List.push_toArray, List.append_toArray, List.nil_append, List.cons_append]
  gi_wp2
  gi_loopw [3] (fun i wr => ∃ (k : Nat) (z : Int) (pre : List (Fin ps.length)), k ≤ ps.length ∧ i = .int .i64 z ∧ Hid (z = (ps.length : Int) - 1 - k) ∧ Hid (Backs ps.length k pre) ∧ J pre wr ∧ KeepB n₀ Bs W wr) (fun i _ => (intOf i + 1).toNat)
  case atStart => exact ⟨0, _, [], Nat.zero_le _, rfl, (by show _ = _; omega), backs_nil _, h0, KeepB.refl _ _ _⟩
  case round =>
    obtain ⟨k, z, pre, hk, rfl, HZ, HP, hJs, hnx⟩ := hrel
    have cBs := MidAt.cell (hnx.2.trans hBs : MidAt wr Bs 158 _) 0
    simp only [List.getElem?_cons_zero] at cBs
    by_cases hlt : k < ps.length
    · obtain ⟨b, o, rfl, hcell⟩ := hrow.2 (by intro e; simp [e] at hlt)
      have hbn := hb (by omega) b o rfl
      obtain ⟨q, hq⟩ : ∃ q : Nat, q = ps.length - 1 - k := ⟨_, rfl⟩
      obtain rfl : z = (q : Int) := by have := HZ.out; omega
      have hql : q < ps.length := by omega
      have hk2 : ∀ j u, (plCell ps[q])[j]? = some u → wr.cell? ⟨b, o + q * 2 + j, none⟩ = some u := fun j u hj => (hnx.1.cell (p := ⟨b, o + q * 2 + j, none⟩) hbn).trans (hcell q hql j u hj)
      have c0 := hk2 0 _ rfl
      have c1 := hk2 1 _ rfl
      rw [Nat.add_zero] at c0
      obtain ⟨fn, tmps, assign, body, hy, hR⟩ := hY pre ⟨q, hql⟩ wr hJs (by rw [HP.out.len]; exact hlt)
      dsimp only [backP] at hy
      have HQ := Lib.hid hq
      have HP2 : Hid (Backs ps.length (k + 1) (pre ++ [⟨q, hql⟩])) := HP.out.snoc hq
      clear hk2 hcell hq
      gi_wp2
      refine hR.mono ?_
      rintro e W3 (⟨rfl, hJ3, hk3⟩ | ⟨rfl, hJx3⟩)
      · gi_wp2
        go_roundw
        case rel => exact ⟨k + 1, (q : Int) - 1, _, by omega, by go_num, (by show _ = _; have := HQ.out; omega), HP2, hJ3, keepB_t hnx hk3⟩
        case measure => simp [intOf]
      · gi_wp2
        refine bodyPost_ret (results_none rfl _ _ _) rfl ?_
        exact ⟨⟨_, rfl⟩, .inr ⟨_, ⟨k + 1, by omega, HP2.out⟩, hJx3⟩⟩
    · obtain rfl : k = ps.length := by omega
      obtain rfl : z = -1 := by have := HZ.out; omega
      gi_wp2
      go_end0
      exact ⟨⟨_, rfl⟩, .inl ⟨_, HP.out, hJs⟩⟩

set_option maxHeartbeats 1000000 in
theorem backP_in (F : Fence) (n : Nat) (h5 : F.fn 95) (hro : F.round = none) (a : Option Addr) (len cap : Nat) (w : World) :
    CallsIn F n Tryz.prog 95 #[.slice a len cap] w fun e w' => e = .returned (.func (.func 115) #[] #[.pointer (some ⟨w.heap.size, 0, none⟩)]) ∧ w' = w.alloc (.cells #[.slice a len cap] 158) := by
  refine callsIn_of_wp Tryz.func95 rfl h5 ?_ hro
  simp only [Tryz.ntmps95, List.size_toArray, List.length_cons, List.length_nil, Nat.reduceAdd, Nat.reduceSub, Array.replicate_succ, Array.replicate_zero, List.push_toArray, List.append_toArray, List.nil_append, List.cons_append]
  gi_wp2
  go_ret
  exact ⟨rfl, rfl⟩

theorem backP_stops (F : Fence) (n : Nat) (h7 : F.fn 115) (hro : F.round = none) (hn : 1 ≤ n) (Bs n₀ : Nat) (a : Option Addr) (cap : Nat) (ps : List (Nat × Nat)) (hreach : ps.length ≤ 1000) (w : World)
    (hc : MidAt w Bs 158 [.slice a ps.length cap]) (hrow : RowAt w a 2 plCell ps) (hb : 0 < ps.length → ∀ b o, a = some ⟨b, o, none⟩ → b < n₀) :
    SeqStopsK F n Tryz.prog 115 #[.pointer (some ⟨Bs, 0, none⟩)] (backP ps) (KeepB n₀ Bs) (fun ys => Backs ps.length ps.length ys) (fun pre => ∃ k, k ≤ ps.length ∧ Backs ps.length k pre) ps.length w := fun l J Jx W hW _ _ hY h0 =>
  backP1_in F n h7 hro hn l Bs n₀ a cap ps hreach J Jx hY W (hc.later hW) (hrow.later hW) hb h0

end Go.Proofs.YtnldkmcijmbhcaaGreat

/- What race's racing keeps in memory while it goes over places. -/
namespace Go.Proofs.YtnldkmcijmbhcaaGreat
open Go.RowKit Go.Shelf

/-- All that isn't block L, nor a row of races, lies as it lay. -/
def Stay (L : Nat) (w w' : World) : Prop := w.heap.size ≤ w'.heap.size ∧ ∀ (b : Nat) (o : Obj), w.heap[b]? = some o → b ≠ L → (∀ (cs : Array Value) (fr : Nat × Nat), o ≠ Obj.cells cs 98 fr) → w'.heap[b]? = some o
theorem Stay.refl (L : Nat) (w : World) : Stay L w w := ⟨Nat.le_refl _, fun _ _ h _ _ => h⟩
theorem Stay.trans {L : Nat} {a b c : World} (h : Stay L a b) (k : Stay L b c) : Stay L a c := ⟨Nat.le_trans h.1 k.1, fun i o h0 h1 h2 => k.2 i o (h.2 i o h0 h1 h2) h1 h2⟩
theorem Stay.of_below {L : Nat} {w w' : World} (h : Below w.heap.size w w') : Stay L w w' := ⟨h.size, fun b _ h0 _ _ => (h.block b (Array.getElem?_eq_some_iff.1 h0).1).trans h0⟩
theorem Stay.set (L : Nat) (w : World) (o : Nat) (v : Value) : Stay L w (w.setCell ⟨L, o, none⟩ v) :=
  ⟨((Only.refl L w).setCell o v).size, fun b _ h0 h1 _ => (((Only.refl L w).setCell o v).block b (Array.getElem?_eq_some_iff.1 h0).1 h1).trans h0⟩
theorem Stay.grown {L B n m : Nat} {w w' : World} {v : Value} {ys : List Value} (ho : w.ownsRow B 98 n v m ys) (h : w.grownBy w' v.ownBlock) : Stay L w w' := by
  refine ⟨h.size, fun b o h0 _ h2 => (h.block b (Array.getElem?_eq_some_iff.1 h0).1 fun e => ?_).trans h0⟩
  obtain ⟨_, ⟨rfl, _⟩ | ⟨g, cap, cur, rfl, _, hg, _⟩⟩ := ho
  · simp [Value.ownBlock] at e
  · have e2 : b = g := by simpa [Value.ownBlock] using e
    subst e2
    rw [hg] at h0
    injection h0 with h0
    exact h2 _ _ h0.symm
theorem Stay.mid {L : Nat} {w w' : World} (h : Stay L w w') {b : Nat} {t : TypeId} {xs : List Value} (hm : MidAt w b t xs) (hb : b ≠ L) (ht : t ≠ 98) : MidAt w' b t xs :=
  h.2 b _ hm hb fun cs fr e => by injection e with _ e2 _; exact ht e2
theorem stay_own (L : Nat) (w : World) {β : Type} : OwnFrom w.heap.size (fun (_ : β) W => Stay L w W) := fun _ X Y row hs hg hr =>
  ⟨Nat.le_trans hs.1 hg.size, fun b o h0 h1 h2 => (hg.block b (Nat.lt_of_lt_of_le (Array.getElem?_eq_some_iff.1 h0).1 hs.1) (fun e => by
    have := (hr b e.symm).1
    have := (Array.getElem?_eq_some_iff.1 h0).1
    omega)).trans (hs.2 b o h0 h1 h2)⟩

/-- The list: a box, and in it a row of races of the call's own. -/
def RcAt (w : World) (B L : Nat) (t : Int) (ats : List Nat) : Prop := ∃ v, Boxed w L 95 v ∧ OwnRow w B 98 2 rcCell v (rcT t ats)
theorem tyRcL : 95 ≠ 98 := by decide
theorem RcAt.later {w w' : World} {B L : Nat} {t : Int} {ats : List Nat} (h : RcAt w B L t ats) (hb : Below w.heap.size w w') : RcAt w' B L t ats := by
  obtain ⟨v, h1, h2⟩ := h
  exact ⟨v, (hb.block L h1.lt).trans h1, h2.later hb⟩
theorem rcAt_own (B L : Nat) (t : Int) {β : Type} (f : β → List Nat) : Own (fun s W => RcAt W B L t (f s)) := by
  intro s X Y row hs hg hr
  obtain ⟨v, h1, h2⟩ := hs
  refine ⟨v, h1.kept hg (fun e => ?_), World.ownsRow.kept h2 hg ?_⟩
  · obtain ⟨o, ho, hc⟩ := hr L e.symm
    rw [show X.heap[L]? = _ from h1] at ho
    cases ho
    cases hc
  · obtain ⟨_, ⟨rfl, _⟩ | ⟨g, cap, cur, rfl, _, hgb, _⟩⟩ := h2
    · exact .inl rfl
    · refine .inr fun e => ?_
      obtain ⟨o, ho, hc⟩ := hr g (by simpa [Value.ownBlock] using e.symm)
      rw [hgb] at ho
      cases ho
      cases hc
/-- One race more. -/
theorem RcAt.more {W w1 : World} {B L : Nat} {t : Int} {ats : List Nat} {at_ : Nat} {v v' : Value} {tmp : Obj} (h1 : Boxed W L 95 v) (h2 : OwnRow W B 98 2 rcCell v (rcT t ats)) (hB : B ≤ W.heap.size) (hL : B ≤ L)
    (ho : OwnRow w1 B 98 2 rcCell v' (rcT t ats ++ [(at_, t)])) (hg : (W.alloc tmp).grownBy w1 v.ownBlock) :
    RcAt (w1.setCell ⟨L, 0, none⟩ v') B L t (ats ++ [at_]) ∧ Stay L W (w1.setCell ⟨L, 0, none⟩ v') ∧ KeepsOthers W (w1.setCell ⟨L, 0, none⟩ v') ∧ Below B W (w1.setCell ⟨L, 0, none⟩ v') ∧ w1.cell? ⟨L, 0, none⟩ = some v ∧ w1.frozen? ⟨L, 0, none⟩ = false := by
  obtain ⟨a1, a2, a3, a4, a5⟩ := Boxed.appended h1 tyRcL h2 hB hL ho hg
  refine ⟨⟨v', a2, ?_⟩, ?_, a4, a5, a1.cell, a1.frozen⟩
  · unfold rcT at *
    rw [List.map_append]
    exact a3
  · exact (Stay.of_below (below_alloc1 W tmp)).trans ((Stay.grown (OwnRow.alloc h2 tmp) hg).trans (Stay.set L w1 0 v'))

/-- The marks that ranges over functions leave. -/
def Marks (B : Nat) (ds : List Deferred) (W : World) : Prop := ds.Pairwise (· ≠ ·) ∧ ∀ d ∈ ds, ∃ D, d = { target := .collected D, args := #[] } ∧ B ≤ D ∧ W.heap[D]? = some (.deferred (some []))
theorem marks_nil (B : Nat) (W : World) : Marks B [] W := ⟨List.Pairwise.nil, fun _ h => absurd h (by simp)⟩
theorem Marks.kept {B : Nat} {ds : List Deferred} {W W' : World} (h : Marks B ds W) (hk : ∀ D, B ≤ D → W.heap[D]? = some (.deferred (some [])) → W'.heap[D]? = some (.deferred (some []))) : Marks B ds W' :=
  ⟨h.1, fun d hd => by obtain ⟨D, h1, h2, h3⟩ := h.2 d hd; exact ⟨D, h1, h2, hk D h2 h3⟩⟩
theorem Marks.stay {B L : Nat} {ds : List Deferred} {W W' : World} {t : TypeId} {v : Value} (h : Marks B ds W) (hs : Stay L W W') (hL : Boxed W L t v) : Marks B ds W' :=
  h.kept fun D _ hD => hs.2 D _ hD (fun e => by subst e; rw [show W.heap[D]? = _ from hL] at hD; cases hD) (fun cs fr e => by cases e)
theorem Marks.more {B D : Nat} {ds : List Deferred} {W0 W : World} (h0 : Marks B ds W0) (h : Marks B ds W) (hD : W0.heap.size ≤ D) (hB : B ≤ D) (hW : W.heap[D]? = some (.deferred (some []))) : Marks B ({ target := .collected D, args := #[] } :: ds) W := by
  refine ⟨List.pairwise_cons.2 ⟨fun d hd e => ?_, h.1⟩, fun d hd => ?_⟩
  · obtain ⟨D', h1, _, h3⟩ := h0.2 d hd
    rw [← e] at h1
    injection h1 with h1
    injection h1 with h1
    have := (Array.getElem?_eq_some_iff.1 h3).1
    omega
  · rcases List.mem_cons.1 hd with rfl | hd
    · exact ⟨D, rfl, hB, hW⟩
    · exact h.2 d hd
/-- At the end all marks are taken. -/
theorem leaves_marks {F : Fence} {n : Nat} {P : Program} {fn : Func} {tmps : Array Value} {R : Ending → World → Prop} (B : Nat) (G : World → Prop) (hG : ∀ W D o, G W → B ≤ D → W.heap[D]? = some o → o.isCells = false → G (W.putObj D (.deferred none)))
    (hend : ∀ W, G W → ∃ v, (results fn tmps).run P W = .ok v W ∧ R (.returned v) W) : ∀ (ds : List Deferred) (W : World), Marks B ds W → G W → LeavesInM F n P fn tmps R ds .returning W := by
  intro ds
  induction ds with
  | nil => intro W _ h; exact hend W h
  | cons d ds ih =>
    intro W hm h
    obtain ⟨D, rfl, hB, hD⟩ := hm.2 _ List.mem_cons_self
    have hp := List.pairwise_cons.1 hm.1
    refine ⟨by simp, .inl ⟨D, _, rfl, run_takeDeferred hD, ih _ ⟨hp.2, fun d' hd' => ?_⟩ (hG W D _ h hB hD rfl)⟩⟩
    obtain ⟨D', e, h2, h3⟩ := hm.2 d' (List.mem_cons_of_mem _ hd')
    refine ⟨D', e, h2, (World.putObj_heap_other (fun e2 => ?_)).trans h3⟩
    have h4 := hp.1 d' hd'
    rw [e, e2] at h4
    exact h4 rfl

/-- One race more, inside a fence. -/
theorem wpListIn_appendRc {F : Fence} {n : Nat} {w : World} {ops : Array Oper} {rest : List Oper} {o : Oper} {a : Act} {Q : Exit → Act → World → Prop} (hgd : o.guard = none) (s x : Operand)
    (ho : o.op = .call { callee := .builtin .append, args := #[s, x], argTypes := #[95, 95] }) (B : Nat) (v : Value) (l : List (Nat × Int)) (hs : a.eval s = v) (hown : OwnRow w B 98 2 rcCell v l)
    (ad : Addr) (hx : a.eval x = .slice (some ad) 1 1) (e : Nat × Int) (hnews : ∀ j u, (rcCell e)[j]? = some u → w.cell? (ad.add j) = some u) (hlen : l.length ≤ 1000000) (hB : B ≤ w.heap.size)
    (h : ∀ v' w', OwnRow w' B 98 2 rcCell v' (l ++ [e]) → w.grownBy w' v.ownBlock → wpListIn F n Tryz.prog ops Q rest (a.put o.dst v') w') : wpListIn F n Tryz.prog ops Q (o :: rest) a w := by
  obtain ⟨i, hi, hzz⟩ := Option.map_eq_some_iff.1 infoRc
  simp only [Prod.mk.injEq] at hzz
  obtain ⟨hiz, hisz, hiby⟩ := hzz
  refine wpListIn_append_own w hgd s x 95 ho B 98 i _ 2 16 Tryz.underlying95 hi hiz hisz hiby rfl (by decide) v l.length (cellsL rcCell l) hs hown ad 1 1 (rcCell e) hx rfl hnews
    (rcCell_one _) (by unfold maxLen; omega) (by omega) hB ?_
  intro v' w' h2 h3 _
  refine h v' w' ?_ h3
  unfold OwnRow
  rw [List.length_append, cellsL_append, cellsL_single]
  exact h2

theorem Backs.last {n k : Nat} {ini : List (Fin n)} {q : Fin n} (h : Backs n k (ini ++ [q])) : ∃ k', k = k' + 1 ∧ Backs n k' ini ∧ q.val = n - 1 - k' := by
  have hlen := h.len
  rw [List.length_append, List.length_singleton] at hlen
  obtain ⟨k', rfl⟩ : ∃ k', k = k' + 1 := ⟨ini.length, by omega⟩
  have hm : (ini ++ [q]).map (fun q => q.val) = upto (fun k => n - 1 - k) (k' + 1) := h
  rw [List.map_append, upto_succ] at hm
  obtain ⟨h5, h6⟩ := List.append_inj' hm rfl
  exact ⟨k', rfl, h5, by simpa using h6⟩
/-- The rounds that have come tell which places aren't known. -/
theorem rcG_backs {ps : List (Nat × Nat)} {known k : Nat} {pre : List (Fin ps.length)} (hs : ps.Pairwise (fun a b => a.2 < b.2)) (hb : Backs ps.length k pre) (hk : k ≤ ps.length) (h1 : ∀ q ∈ pre, known < (ps[q.val]).2)
    (h2 : ∀ h : k < ps.length, (ps[ps.length - 1 - k]).2 ≤ known) : rcG known ps = pre.map fun q => (ps[q.val]).1 := by
  have hg : ∀ i (h : i < ps.length), ps.reverse.getD i (0, 0) = ps[ps.length - 1 - i] := by
    intro i hi
    simp [List.getD, hi]
  rw [rcG_take hs hk (fun i hi => by
    rw [hg i (by omega)]
    exact h1 ⟨ps.length - 1 - i, by omega⟩ (hb.mem (by omega) (by omega) hk)) (fun h => by rw [hg k h]; exact h2 h)]
  apply List.ext_getElem
  · simp [hb.len, hk]
  · intro i hi1 hi2
    have hip : i < pre.length := by simpa using hi2
    have hik : i < k := by rw [← hb.len]; exact hip
    have hv : (pre[i]).val = ps.length - 1 - i := by
      have h3 : pre.map (fun q => q.val) = upto (fun k => ps.length - 1 - k) k := hb
      have h4 := congrArg (fun z => z[i]?) h3
      simp [upto, hip, hik] at h4
      exact h4
    simp only [List.getElem_map, List.getElem_take, List.getElem_reverse, hv]

theorem keepB_b {w : World} {n Bs : Nat} (hn : n ≤ w.heap.size) (hb : Bs < w.heap.size) : ∀ (W : World) (l : Nat) (o o' : Obj), w.heap.size ≤ l → W.heap[l]? = some o → o.isCells = false → o.isWalk = false → KeepB n Bs W (W.putObj l o') :=
  fun W l o o' h1 h2 h3 h4 => ⟨belowK_b hn W l o o' h1 h2 h3 h4, World.putObj_heap_other (by omega)⟩
theorem Stay.box {L : Nat} {w w' : World} (h : Stay L w w') {b : Nat} {e : Ev} (hm : EvBox w b e) (hb : b ≠ L) : EvBox w' b e :=
  h.2 b _ hm hb fun cs fr e' => by injection e' with _ e2 _; revert e2; decide
theorem rcL_take_len (ls : Int → Int → Nat) (gs : List Gp) (e : Ev) (k : Nat) : (rcL ls (gs.take k) e).length ≤ (rcL ls gs e).length := by
  have h : rcL ls gs e = rcL ls (gs.take k) e ++ rcL ls (gs.drop k) e := by
    unfold rcL
    rw [← List.flatMap_append, List.take_append_drop]
  rw [h, List.length_append]
  omega

end Go.Proofs.YtnldkmcijmbhcaaGreat

/- The library's sort by a function, laid at this dump. -/
namespace Go.Proofs
open Go.Shelf
def Tryz.sortRace_ren : Go.Shelf.Ren := ⟨fun | 6 => 96 | 15 => 48 | 14 => 116 | 28 => 85 | 29 => 86 | 20 => 132 | 21 => 133 | 22 => 134 | 23 => 135 | 24 => 136 | 25 => 137 | 26 => 138 | 27 => 139 | 46 => 144 | 47 => 107 | 48 => 108 | 49 => 145 | 50 => 146 | 57 => 148 | n => n, fun | 22 => 95 | 24 => 98 | 25 => 165 | 3 => 3 | 39 => 26 | 0 => 0 | 53 => 146 | 55 => 148 | 4 => 4 | 46 => 138 | 45 => 137 | 50 => 143 | 5 => 5 | 9 => 9 | 66 => 172 | 70 => 176 | 76 => 190 | 77 => 191 | n => n, fun | n => n⟩
theorem Tryz.sortRace : Go.Proofs.SlLaysF0.n6 Tryz.prog Tryz.sortRace_ren := {
  mixed := by kernel_rfl
  f6 := ⟨Tryz.f96.name, by decide, Tryz.func96.trans (congrArg some (by kernel_rfl))⟩
  f14 := ⟨Tryz.f116.name, by decide, Tryz.func116.trans (congrArg some (by kernel_rfl))⟩
  f15 := Tryz.func48.trans (congrArg some (by kernel_rfl))
  f20 := ⟨Tryz.f132.name, by decide, Tryz.func132.trans (congrArg some (by kernel_rfl))⟩
  f21 := ⟨Tryz.f133.name, by decide, Tryz.func133.trans (congrArg some (by kernel_rfl))⟩
  f22 := ⟨Tryz.f134.name, by decide, Tryz.func134.trans (congrArg some (by kernel_rfl))⟩
  f23 := ⟨Tryz.f135.name, by decide, Tryz.func135.trans (congrArg some (by kernel_rfl))⟩
  f24 := ⟨Tryz.f136.name, by decide, Tryz.func136.trans (congrArg some (by kernel_rfl))⟩
  f25 := ⟨Tryz.f137.name, by decide, Tryz.func137.trans (congrArg some (by kernel_rfl))⟩
  f26 := ⟨Tryz.f138.name, by decide, Tryz.func138.trans (congrArg some (by kernel_rfl))⟩
  f27 := ⟨Tryz.f139.name, by decide, Tryz.func139.trans (congrArg some (by kernel_rfl))⟩
  f28 := Tryz.func85.trans (congrArg some (by kernel_rfl))
  f29 := Tryz.func86.trans (congrArg some (by kernel_rfl))
  f46 := ⟨Tryz.f144.name, by decide, Tryz.func144.trans (congrArg some (by kernel_rfl))⟩
  f47 := Tryz.func107.trans (congrArg some (by kernel_rfl))
  f48 := Tryz.func108.trans (congrArg some (by kernel_rfl))
  f49 := ⟨Tryz.f145.name, by decide, Tryz.func145.trans (congrArg some (by kernel_rfl))⟩
  f50 := ⟨Tryz.f146.name, by decide, Tryz.func146.trans (congrArg some (by kernel_rfl))⟩
  f57 := ⟨Tryz.f148.name, by decide, Tryz.func148.trans (congrArg some (by kernel_rfl))⟩
  t0 := Tryz.underlying0
  a0 := Tryz.isAgg0
  z0 := Tryz.sizeOf0
  v0 := Tryz.zeroValue0
  t3 := Tryz.underlying3
  a3 := Tryz.isAgg3
  z3 := Tryz.sizeOf3
  v3 := Tryz.zeroValue3
  t4 := Tryz.underlying4
  a4 := Tryz.isAgg4
  z4 := Tryz.sizeOf4
  v4 := Tryz.zeroValue4
  t5 := Tryz.underlying5
  a5 := Tryz.isAgg5
  z5 := Tryz.sizeOf5
  v5 := Tryz.zeroValue5
  t9 := Tryz.underlying9
  a9 := Tryz.isAgg9
  z9 := Tryz.sizeOf9
  v9 := Tryz.zeroValue9
  t22 := Tryz.underlying95
  a22 := Tryz.isAgg95
  z22 := Tryz.sizeOf95
  v22 := Tryz.zeroValue95
  t25 := Tryz.underlying165
  a25 := Tryz.isAgg165
  z25 := Tryz.sizeOf165
  v25 := Tryz.zeroValue165
  t39 := Tryz.underlying26
  a39 := Tryz.isAgg26
  z39 := Tryz.sizeOf26
  v39 := Tryz.zeroValue26
  t45 := Tryz.underlying137
  a45 := Tryz.isAgg137
  z45 := Tryz.sizeOf137
  v45 := Tryz.zeroValue137
  t46 := Tryz.underlying138
  a46 := Tryz.isAgg138
  z46 := Tryz.sizeOf138
  v46 := Tryz.zeroValue138
  t50 := Tryz.underlying143
  a50 := Tryz.isAgg143
  z50 := Tryz.sizeOf143
  v50 := Tryz.zeroValue143
  t53 := Tryz.underlying146
  a53 := Tryz.isAgg146
  z53 := Tryz.sizeOf146
  v53 := Tryz.zeroValue146
  t55 := Tryz.underlying148
  a55 := Tryz.isAgg148
  z55 := Tryz.sizeOf148
  v55 := Tryz.zeroValue148
  t66 := Tryz.underlying172
  a66 := Tryz.isAgg172
  z66 := Tryz.sizeOf172
  v66 := Tryz.zeroValue172
  t70 := Tryz.underlying176
  a70 := Tryz.isAgg176
  z70 := Tryz.sizeOf176
  v70 := Tryz.zeroValue176
  t76 := Tryz.underlying190
  a76 := Tryz.isAgg190
  z76 := Tryz.sizeOf190
  v76 := Tryz.zeroValue190
  t77 := Tryz.underlying191
  a77 := Tryz.isAgg191
  z77 := Tryz.sizeOf191
  v77 := Tryz.zeroValue191 }
end Go.Proofs

/- The contract of the library's sort of races by their places. -/
namespace Go.Proofs.YtnldkmcijmbhcaaGreat
open Go.RowKit Go.Shelf Go.Lib Go.Sort

def encR (t : Int) (x : Fin 1000) : List Value := [.int .i64 (x.val : Int), .int .i64 t]
def cfR (x y : Fin 1000) : Int := (x.val : Int) - (y.val : Int)
theorem ltR (x y : Fin 1000) : ltOf cfR x y = decide (x.val < y.val) := by
  unfold ltOf cfR
  by_cases h : x.val < y.val
  · have : (x.val : Int) - (y.val : Int) < 0 := by omega
    simp [h, this]
  · have : ¬ (x.val : Int) - (y.val : Int) < 0 := by omega
    simp [h, this]
theorem swoR : SWO (ltOf cfR) where
  irrefl x := by rw [ltR]; simp
  trans x y z h1 h2 := by rw [ltR] at *; simp at *; omega
  ntrans x y z h1 h2 := by rw [ltR] at *; simp at *; omega
theorem totR (x y : Fin 1000) (h1 : ltOf cfR x y = false) (h2 : ltOf cfR y x = false) : x = y := by rw [ltR] at *; simp at *; omega
theorem geR : (fun x y : Fin 1000 => !ltOf cfR y x) = fun x y => decide (x.val ≤ y.val) := by
  funext x y
  rw [ltR]
  by_cases h : x.val ≤ y.val
  · have h' : ¬ y.val < x.val := by omega
    simp [h, h']
  · have h' : y.val < x.val := by omega
    simp [h, h']

set_option maxHeartbeats 1000000 in
theorem closureR (t : Int) (x y : Fin 1000) (W : World) : Calls Tryz.prog 97 #[.agg #[.int .i64 (x.val : Int), .int .i64 t], .agg #[.int .i64 (y.val : Int), .int .i64 t]] W fun e w' => e = .returned (.int .i64 (cfR x y)) ∧ ∃ q os', w' = Go.Sort.grow (W.drewN q) os' := by
  have hx := x.isLt
  have hy := y.isLt
  unfold cfR
  have hw : IntKind.i64.wrap ((x.val : Int) - (y.val : Int)) = (x.val : Int) - (y.val : Int) := IntWalk.i64_in _ (by omega)
  generalize (x.val : Int) = a at *
  generalize (y.val : Int) = b at *
  go_enter Tryz.func97, Tryz.ntmps97
  go_wp2
  go_ret
  exact ⟨rfl, 0, _, by rw [alloc_eq_grow, alloc_eq_grow, grow_grow]; rfl⟩

theorem flat_cells {α : Type} [Inhabited α] (enc : α → List Value) {k : Nat} (hk : ∀ x, (enc x).length = k) (h0 : 0 < k) (l : List α) : (flatK enc k l.toArray).toList = cellsL enc l := by
  apply cellsL_ext hk h0
  · simp
  · intro i hi j hj
    have hlt : i * k + j < l.length * k := by
      have : (i + 1) * k ≤ l.length * k := Nat.mul_le_mul_right k hi
      rw [Nat.add_mul, Nat.one_mul] at this
      omega
    have e1 : (i * k + j) / k = i := by rw [Nat.mul_comm, Nat.mul_add_div h0, Nat.div_eq_of_lt hj, Nat.add_zero]
    have e2 : (i * k + j) % k = j := by rw [Nat.mul_comm, Nat.mul_add_mod, Nat.mod_eq_of_lt hj]
    unfold flatK
    simp only [Array.toList_map, Array.toList_range, List.size_toArray, List.getElem?_map, List.getElem?_range hlt, Option.map_some, e1, e2]
    have e3 : (l.toArray)[i]! = l[i] := by simp [hi]
    rw [e3, getElem!_pos _ _ (by rw [hk]; exact hj), List.getElem?_eq_getElem (by rw [hk]; exact hj)]
theorem holdsK_of {α : Type} [Inhabited α] {enc : α → List Value} {k : Nat} (hk : ∀ x, (enc x).length = k) (h0 : 0 < k) {w : World} {g : Nat} {cur : Array Value} {e : TypeId} {l : List α} (hb : w.heap[g]? = some (.cells cur e (0, 0))) (ht : cur.toList.take (l.length * k) = cellsL enc l) : HoldsK enc k w g 0 l.toArray := by
  intro j hj
  have hj' : j < l.length * k := by simpa using hj
  refine ⟨?_, by simp [World.frozen?, hb]⟩
  have h1 : (cur.toList.take (l.length * k))[j]? = ((flatK enc k l.toArray).toList)[j]? := by rw [ht, flat_cells enc hk h0]
  rw [List.getElem?_take_of_lt hj'] at h1
  simp only [World.cell?, hb, Nat.zero_add]
  simp only [Option.isSome_none, Bool.false_eq_true, if_false]
  rw [← Array.getElem?_toList, h1, Array.getElem?_toList, getElem!_pos (flatK enc k l.toArray) j hj, Array.getElem?_eq_getElem hj]
  rfl
theorem heap_sortedK {α : Type} [Inhabited α] {enc : α → List Value} {k : Nat} {w : World} {g n : Nat} {os : Array Obj} {cur : Array Value} {e : TypeId} {fr : Nat × Nat} (d : Array α) (hb : w.heap[g]? = some (.cells cur e fr)) :
    (sortWorldK enc k w g 0 n d os).heap[g]? = some (.cells (putCells id 0 (flatK enc k d) cur) e fr) := by
  have hg : g < w.heap.size := (Array.getElem?_eq_some_iff.1 hb).1
  unfold sortWorldK putRowK
  rw [heap_grow_old _ _ (by simpa using hg)]
  simp [putRow, mapBlock, Sort.ahead, Array.getElem?_modify, hb, onCells]
theorem grownBy_sortedK {α : Type} [Inhabited α] {enc : α → List Value} {k : Nat} {w : World} {g n : Nat} {os : Array Obj} (d : Array α) : w.grownBy (sortWorldK enc k w g 0 n d os) (some g) := by
  unfold sortWorldK putRowK
  refine ⟨rfl, rfl, rfl, by simp, fun j hj hne => ?_⟩
  rw [heap_grow_old _ _ (by simpa using hj)]
  have : g ≠ j := fun e => hne (by rw [e])
  simp [putRow, mapBlock, Sort.ahead, Array.getElem?_modify, this]
theorem take_putFlat (cur : Array Value) (F : Array Value) (h : F.size ≤ cur.size) : (putCells id 0 F cur).toList.take F.size = F.toList := by
  apply List.ext_getElem?
  intro j
  by_cases hj : j < F.size
  · rw [List.getElem?_take_of_lt hj, Array.getElem?_toList, Array.getElem?_toList]
    simp [putCells, hj, show j < cur.size by omega]
  · rw [List.getElem?_take_eq_none (by omega), List.getElem?_eq_none (by simp; omega)]

/-- Below a thousand. -/
def fin1 (i : Nat) : Fin 1000 := ⟨i % 1000, Nat.mod_lt _ (by omega)⟩
theorem fin1_val {ats : List Nat} (h : ∀ i ∈ ats, i < 1000) : (ats.map fin1).map (·.val) = ats := by
  rw [List.map_map]
  conv => rhs; rw [← List.map_id ats]
  apply List.map_congr_left
  intro i hi
  exact Nat.mod_eq_of_lt (h i hi)
theorem enc_rc (t : Int) (l : List (Fin 1000)) : cellsL (encR t) l = cellsL rcCell (rcT t (l.map (·.val))) := by
  unfold cellsL rcT
  rw [List.map_map, List.flatMap_map]
  rfl

set_option maxHeartbeats 1000000 in
/-- Sorted by their places, in place. -/
theorem sort_any (t : Int) (ats : List Nat) (B : Nat) (v : Value) (w : World) (ho : OwnRow w B 98 2 rcCell v (rcT t ats)) (hs : ∀ i ∈ ats, i < 1000) (hl : ats.length ≤ 1000) :
    Calls Tryz.prog 96 #[v, .func (.func 97) #[] #[]] w fun r w' => r = .returned (.tuple #[]) ∧
      ∃ L : List Nat, L.Perm ats ∧ L.Pairwise (· ≤ ·) ∧ OwnRow w' B 98 2 rcCell v (rcT t L) ∧ w.grownBy w' v.ownBlock := by
  obtain ⟨h1, ⟨rfl, h2⟩ | ⟨g, cap, cur, rfl, h3, h4, h5, h6, h7, h8⟩⟩ := ho
  · obtain rfl : ats = [] := List.eq_nil_of_length_eq_zero (by unfold rcT at h2; simpa using h2)
    have hS := AnyF.slices_SortFunc_none (P := Tryz.prog) (ρ := Tryz.sortRace_ren) { Tryz.sortRace with } none 0 (.func (.func 97) #[] #[]) w
    change Calls Tryz.prog 96 _ _ _ at hS
    refine hS.mono ?_
    rintro r w' ⟨rfl, rfl⟩
    exact ⟨rfl, [], List.Perm.refl _, List.Pairwise.nil, ⟨rfl, .inl ⟨rfl, rfl⟩⟩, rfl, rfl, rfl, Nat.le_refl _, fun _ _ _ => rfl⟩
  · have hn : (rcT t ats).length = ats.length := by unfold rcT; simp
    rw [hn] at h5 h8 h1
    have hv := fin1_val hs
    have hfl : (ats.map fin1).length = ats.length := by simp
    have h8' : cur.toList.take ((ats.map fin1).length * 2) = cellsL (encR t) (ats.map fin1) := by rw [enc_rc, hv, hfl]; exact h8
    have hH := holdsK_of (enc := encR t) (fun _ => rfl) (by omega) h4 h8'
    have eg : ∀ args w, (callFunc 97 args).run Tryz.prog w = .ok (.enter 97 args) w := enters_of Tryz.func97 (by kernel_rfl) rfl
    have hS := AnyQ.slices_SortFunc_total Tryz.sortRace 2 Tryz.isAgg98 Tryz.sizeOf98 (encR t) (fun _ => rfl) (fun x v hv => by simp [encR] at hv; rcases hv with rfl | rfl <;> rfl) cfR swoR 97 #[] g 0 cap (ats.map fin1).toArray w eg
      (fun _ _ _ _ x y => closureR t x y _) hH (Array.getElem?_eq_some_iff.1 h4).1 (by simp; omega) totR
    rw [geR] at hS
    have hsz : (ats.map fin1).toArray.size = ats.length := by simp
    rw [hsz] at hS
    rw [hn]
    change Calls Tryz.prog 96 _ _ _ at hS
    refine hS.mono ?_
    rintro r w' ⟨rfl, n, os, rfl⟩
    have hp := List.mergeSort_perm (ats.map fin1) (fun x y => decide (x.val ≤ y.val))
    have hpw : ((ats.map fin1).mergeSort fun x y => decide (x.val ≤ y.val)).Pairwise (fun x y => decide (x.val ≤ y.val) = true) :=
      List.pairwise_mergeSort (fun a b c h1 h2 => by simp at *; omega) (fun a b => by simp; omega) _
    generalize ((ats.map fin1).mergeSort fun x y => decide (x.val ≤ y.val)) = S at *
    have hSl : S.length = ats.length := by rw [hp.length_eq, hfl]
    refine ⟨rfl, S.map (·.val), ?_, ?_, ?_, grownBy_sortedK _⟩
    · have := hp.map (·.val)
      rwa [hv] at this
    · rw [List.pairwise_map]
      exact hpw.imp fun h => by simpa using h
    · have hn2 : (rcT t (S.map (·.val))).length = ats.length := by unfold rcT; simp [hSl]
      refine ⟨by rw [cellsL_length rcCell_len, hn2], .inr ⟨g, cap, _, by rw [hn2], h3, heap_sortedK _ h4, by rw [hn2]; exact h5, h6, by simp [putCells, h7], ?_⟩⟩
      have hF : (flatK (encR t) 2 S.toArray).toList = cellsL rcCell (rcT t (S.map (·.val))) := by rw [flat_cells (encR t) (k := 2) (fun _ => rfl) (by omega), enc_rc]
      rw [← hF, hn2]
      have hFs : (flatK (encR t) 2 S.toArray).size = ats.length * 2 := by simp [hSl]
      rw [← hFs]
      exact take_putFlat _ _ (by rw [hFs, h7]; exact Nat.mul_le_mul_right 2 h5)

end Go.Proofs.YtnldkmcijmbhcaaGreat
