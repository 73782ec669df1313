/- Texts of the proof of TreePlays. -/
import Derived.Test.YtkphdmfcmfojeaaPk04b
import Derived.Test.YtkphdmfcmfojeaaPk06
import Derived.Test.YtkphdmfcmfojeaaPk08
import Derived.Test.YtkphdmfcmfojeaaPk09

/- The program's tree and the document's hold the same, call by call. -/
namespace Go.Proofs.Ytkphdmfcmfojeaa
open Go.RowKit

/-- A node of the program's and one of the document's. -/
structure SameN (n : TNd) (r : RNd) (j : Nat) : Prop where
  pre : r.pre = n.pre
  own : r.own = n.own
  asl : r.asl = ints (bitsL n.asl)
  todo : ∀ k : Nat, k < 8 → decide ((k : Int) ∈ r.todo) = n.todo.testBit k
  done : ∀ k : Nat, k < 8 → decide ((k : Int) ∈ r.done) = n.gone.testBit k
  low : ∀ x ∈ r.done, 0 ≤ x ∧ x < 8
  tl : r.todo.length ≤ 8 * j
  dl : r.done.length ≤ j
structure SameT (l : List TNd) (rl : List RNd) (j : Nat) : Prop where
  len : l.length = rl.length
  nodes : ∀ i (h1 : i < l.length) (h2 : i < rl.length), SameN l[i] rl[i] j
  lj : l.length ≤ j
theorem SameN.mono {n : TNd} {r : RNd} {j j' : Nat} (h : SameN n r j) (hj : j ≤ j') : SameN n r j' := ⟨h.pre, h.own, h.asl, h.todo, h.done, h.low, by have := h.tl; omega, by have := h.dl; omega⟩
theorem SameT.mono {l : List TNd} {rl : List RNd} {j j' : Nat} (h : SameT l rl j) (hj : j ≤ j') : SameT l rl j' := ⟨h.len, fun i h1 h2 => (h.nodes i h1 h2).mono hj, by have := h.lj; omega⟩
theorem sameT_nil (j : Nat) : SameT [] [] j := ⟨rfl, fun _i h1 _ => absurd h1 (Nat.not_lt_zero _), Nat.zero_le _⟩
theorem SameT.pres {l : List TNd} {rl : List RNd} {j : Nat} (h : SameT l rl j) : rl.map RNd.pre = l.map TNd.pre := by
  apply List.ext_getElem
  · simp [h.len]
  · intro i h1 h2
    rw [List.length_map] at h1 h2
    rw [List.getElem_map, List.getElem_map]
    exact (h.nodes i h2 h1).pre
theorem SameT.idx {l : List TNd} {rl : List RNd} {j : Nat} (h : SameT l rl j) (k : Pfx) : idxR rl k = idxT l k := by
  have e1 : idxR rl k = (rl.map RNd.pre).findIdx? fun p => decide (p = k) := by unfold idxR; rw [List.findIdx?_map]; rfl
  have e2 : idxT l k = (l.map TNd.pre).findIdx? fun p => decide (p = k) := by unfold idxT; rw [List.findIdx?_map]; rfl
  rw [e1, e2, h.pres]
theorem bits_dec (a : Nat) {k : Nat} (hk : k < 8) : decide ((k : Int) ∈ ints (bitsL a)) = a.testBit k := by rw [mem_has, hasB_nat _ hk]
theorem SameN.left {n : TNd} {r : RNd} {j : Nat} (h : SameN n r j) (ok : n.Ok) : r.leftTo 8 = bitsL n.left := by
  unfold RNd.leftTo bitsL
  refine List.filter_congr fun k hk => ?_
  have hk8 : k < 8 := List.mem_range.1 hk
  unfold TNd.left
  rw [testBit_wo (wo_lt _ _ ok.todo) ok.asl, testBit_wo ok.todo ok.gone, h.todo k hk8, h.done k hk8, h.asl, bits_dec _ hk8]
theorem SameT.set {l : List TNd} {rl : List RNd} {j j' : Nat} (h : SameT l rl j) (hj : j ≤ j') {i : Nat} (_hi : i < l.length) {n : TNd} {r : RNd} (hn : SameN n r j') : SameT (l.set i n) (rl.set i r) j' := by
  refine ⟨by simp [h.len], fun m h1 h2 => ?_, by have := h.lj; simp; omega⟩
  rw [List.length_set] at h1 h2
  rw [List.getElem_set, List.getElem_set]
  by_cases e : i = m
  · rw [if_pos e, if_pos e]; exact hn
  · rw [if_neg e, if_neg e]; exact (h.nodes m h1 h2).mono hj
theorem has_done {n : TNd} {r : RNd} {j : Nat} (h : SameN n r j) (c : UInt8) : decide ((c.toNat : Int) ∈ r.done) = hasB n.gone (c.toNat : Int) := by
  by_cases hc : c.toNat < 8
  · rw [hasB_nat _ hc, h.done _ hc]
  · have h1 : ¬ ((c.toNat : Int) ∈ r.done) := fun hm => by have := (h.low _ hm).2; omega
    have h2 : hasB n.gone (c.toNat : Int) = false := by
      unfold hasB
      rw [decide_eq_false (by omega), Bool.false_and]
    rw [h2]
    exact decide_eq_false h1
theorem SameT.was {l : List TNd} {rl : List RNd} {j : Nat} (h : SameT l rl j) (k : Pfx) : wasR rl k = wasT l k := by
  unfold wasR wasT
  rw [h.idx]
  cases hi : idxT l k.dropLast with
  | none => rfl
  | some i =>
    obtain ⟨hil, _⟩ := idxT_some hi
    have hir : i < rl.length := by rw [← h.len]; exact hil
    dsimp only
    simp only [List.getD, List.getElem?_eq_getElem hil, List.getElem?_eq_getElem hir, Option.getD_some]
    exact has_done (h.nodes i hil hir) _
/-- Make. -/
theorem SameT.make {p : Pg} {F : Int} {l : List TNd} {rl : List RNd} {j : Nat} (h : SameT l rl j) (k : Pfx) (asl : Nat) (own : Int) :
    (makeT p F l k asl own).1 = (makeRn p F rl k (ints (bitsL asl)) own).1 ∧ SameT (makeT p F l k asl own).2 (makeRn p F rl k (ints (bitsL asl)) own).2 (j + 1) := by
  unfold makeT makeRn
  rw [h.idx, h.was]
  rcases hr : rep p F (rowK k) with ⟨e, es, _ | s⟩
  · exact ⟨rfl, h.mono (by omega)⟩
  · dsimp only
    by_cases h1 : (idxT l k).isSome = true
    · rw [if_pos h1, if_pos h1]; exact ⟨rfl, h.mono (by omega)⟩
    · rw [if_neg h1, if_neg h1]
      by_cases h2 : k ≠ [] ∧ wasT l k = false
      · rw [if_pos h2, if_pos h2]; exact ⟨rfl, h.mono (by omega)⟩
      · rw [if_neg h2, if_neg h2]
        refine ⟨rfl, by simp [h.len], fun i i1 i2 => ?_, by have := h.lj; simp; omega⟩
        rw [List.length_append, List.length_singleton] at i1 i2
        by_cases hi : i < l.length
        · rw [List.getElem_append_left hi, List.getElem_append_left (by rw [← h.len]; exact hi)]
          exact (h.nodes i hi _).mono (by omega)
        · obtain rfl : i = l.length := by omega
          rw [List.getElem_append_right (by omega), List.getElem_append_right (by rw [h.len]; omega)]
          simp only [Nat.sub_self, h.len, List.getElem_cons_zero]
          exact ⟨rfl, rfl, rfl, (fun k _ => by simp), (fun k _ => by simp), (fun x hx => by cases hx), Nat.zero_le _, Nat.zero_le _⟩
theorem may_all {F : Nat} {s : St} (_ok : s.Ok F) {k : Nat} (hk : k < 8) : (ofN s.all).testBit k = s.may (k : Int) := by
  rw [testBit_ofN _ hk]
  cases hm : s.may (k : Int)
  · refine decide_eq_false fun h => ?_
    unfold St.all at h
    rw [(List.mem_filter.1 h).2] at hm
    cases hm
  · refine decide_eq_true ?_
    unfold St.all
    refine List.mem_filter.2 ⟨List.mem_map.2 ⟨k, List.mem_range.2 ?_, rfl⟩, hm⟩
    unfold St.may at hm
    cases hi : s.ins (k : Int) with
    | none => rw [hi] at hm; cases hm
    | some i =>
      have := (St.ins_has hi).1
      unfold St.has at this
      omega
/-- The document's Mark. -/
def markRn (rl : List RNd) (k : Pfx) (f : Int → Bool) (ls : List Int) : List RNd := match idxR rl k with
  | none => rl
  | some i => rl.set i { rl.getD i ⟨[], 0, [], [], []⟩ with todo := (rl.getD i ⟨[], 0, [], [], []⟩).todo ++ ls.filter f }
theorem SameT.mark {F : Nat} {l : List TNd} {rl : List RNd} {j : Nat} (h : SameT l rl j) {k : Pfx} {i : Nat} (hi : idxT l k = some i) (hil : i < l.length) (hir : i < rl.length) {s : St} (ok : s.Ok F) (hmay : l[i].may = ofN s.all) (_hok : l[i].Ok) (set : Nat) :
    SameT (markT l k set).2 (rl.set i { rl[i] with todo := rl[i].todo ++ (ints (bitsL set)).filter s.may }) (j + 1) := by
  unfold markT
  rw [hi]
  dsimp only
  simp only [List.getD, List.getElem?_eq_getElem hil, Option.getD_some]
  have hn := h.nodes i hil hir
  refine h.set (by omega) hil ⟨hn.pre, hn.own, hn.asl, fun q hq => ?_, hn.done, hn.low, ?_, Nat.le_trans hn.dl (by omega)⟩
  · show decide ((q : Int) ∈ rl[i].todo ++ (ints (bitsL set)).filter s.may) = (l[i].todo ||| (set &&& l[i].may)).testBit q
    rw [Nat.testBit_or, Nat.testBit_and, ← hn.todo q hq, hmay, may_all ok hq, ← bits_dec set hq]
    simp [List.mem_append, List.mem_filter]
  · show (rl[i].todo ++ (ints (bitsL set)).filter s.may).length ≤ 8 * (j + 1)
    have h1 := hn.tl
    have h2 := List.length_filter_le s.may (ints (bitsL set))
    have h3 := bitsL_len set
    rw [ints_len] at h2
    rw [List.length_append]
    omega
/-- Hand. -/
theorem SameT.hand {l : List TNd} {rl : List RNd} {j : Nat} (h : SameT l rl j) {k : Pfx} {i : Nat} (hi : idxT l k = some i) (hil : i < l.length) (hir : i < rl.length) (own : Int) : SameT (handT l k own).2 (rl.set i { rl[i] with own := own }) (j + 1) := by
  unfold handT
  rw [hi]
  dsimp only
  simp only [List.getD, List.getElem?_eq_getElem hil, Option.getD_some]
  have hn := h.nodes i hil hir
  exact h.set (by omega) hil ⟨hn.pre, rfl, hn.asl, hn.todo, hn.done, hn.low, Nat.le_trans hn.tl (by omega), Nat.le_trans hn.dl (by omega)⟩
/-- Claim. -/
theorem SameT.claim {p : Pg} {F : Int} {l : List TNd} {rl : List RNd} {j : Nat} (h : SameT l rl j) {k : Pfx} {d : Int} {i : Nat} (hi : idxT l k = some i) (hil : i < l.length) (hir : i < rl.length) (hok : l[i].Ok) (hne : rl[i].leftTo 8 ≠ []) :
    let X := (rl[i].leftTo 8).getD (drawN d (rl[i].leftTo 8).length) 0
    (claimT p F l k d).1 = 0 ∧ (claimT p F l k d).2.1 = (X : Int) ∧ (claimT p F l k d).2.2.1 = childN (nextT p F k) l[i].asl l[i].gone X ∧ SameT (claimT p F l k d).2.2.2 (rl.set i { rl[i] with done := rl[i].done ++ [(X : Int)] }) (j + 1) := by
  intro X
  have hn := h.nodes i hil hir
  have hl := hn.left hok
  have hx8 : X < 8 := by
    have hpos : 0 < (rl[i].leftTo 8).length := List.length_pos_iff.2 hne
    have hdl := drawN_lt d hpos
    have hm : X ∈ rl[i].leftTo 8 := by
      show (rl[i].leftTo 8).getD (drawN d (rl[i].leftTo 8).length) 0 ∈ _
      simp only [List.getD, List.getElem?_eq_getElem hdl, Option.getD_some]
      exact List.getElem_mem _
    unfold RNd.leftTo at hm
    exact List.mem_range.1 (List.mem_filter.1 hm).1
  have hX : X = (bitsL l[i].left).getD (drawN d (bitsL l[i].left).length) 0 := by rw [← hl]
  unfold claimT
  rw [hi]
  dsimp only
  simp only [List.getD, List.getElem?_eq_getElem hil, Option.getD_some] at *
  rw [if_neg (by rw [← hl]; exact hne)]
  refine ⟨rfl, by rw [hX], by rw [hX], ?_⟩
  rw [← hX]
  refine h.set (by omega) hil ⟨hn.pre, hn.own, hn.asl, hn.todo, fun q hq => ?_, fun x hx => ?_, Nat.le_trans hn.tl (by omega), ?_⟩
  · show decide ((q : Int) ∈ rl[i].done ++ [(X : Int)]) = (wt l[i].gone X).testBit q
    rw [testBit_wt hq, ← hn.done q hq]
    simp only [List.mem_append, List.mem_singleton, Bool.decide_or]
    congr 1
    by_cases e : (q : Int) = (X : Int)
    · simp [e]
    · rw [decide_eq_false e, decide_eq_false fun e2 => e e2.symm]
  · have hx : x ∈ rl[i].done ++ [(X : Int)] := hx
    rcases List.mem_append.1 hx with hx | hx
    · exact hn.low x hx
    · simp at hx; subst hx; omega
  · show (rl[i].done ++ [(X : Int)]).length ≤ j + 1
    have := hn.dl
    rw [List.length_append, List.length_singleton]
    omega
end Go.Proofs.Ytkphdmfcmfojeaa

/- The two trees side by side. -/
namespace Go.Proofs.Ytkphdmfcmfojeaa
open Go.RowKit

/-- What never changes of the two. -/
structure TwoF (h : TrH) (H : RtH) (w : World) : Prop where
  hp : h.p = H.p
  hf : h.fuel = (H.F : Int)
  wc : H.wc = w
  low : w.heap.size ≤ h.wc.heap.size
  hb : h.wc.heap.size ≤ H.base
section
variable {h : TrH} {H : RtH} {w wr w' : World} {gs : List Nat} {l : List TNd} {cl c2 : Int} {ms : List NM} {rl : List RNd} {vN : Value}
theorem two_apart (pt : TrAt h wr gs l cl) (rt : RtAt H wr ms rl vN c2) : ∀ x, RtS H ms vN x → ¬ TrS h gs x := fun x hx ht => by
  obtain ⟨c, ty, e, e2⟩ := rt.kinds hx
  rcases pt.kinds ht with ⟨c', ty', e3, e4⟩ | ⟨_, es, c', e3⟩
  · rw [e] at e3; injection e3 with e3; injection e3 with _ e3
    subst e3
    rcases e2 with rfl | rfl | rfl | rfl <;> rcases e4 with e4 | e4 <;> exact absurd e4 (by decide)
  · rw [e] at e3; cases e3
theorem two_root (pt : TrAt h wr gs l cl) (rt : RtAt H wr ms rl vN c2) : ¬ TrS h gs H.rb ∧ ¬ TrS h gs H.rt := by
  obtain ⟨g1, _, cur, g2, _⟩ := rt.root
  exact ⟨pt.not_row g1 (by decide) (by decide), pt.not_row g2 (by decide) (by decide)⟩
/-- Behind a call of the program's tree. -/
theorem two_prog (F : TwoF h H w) (pt : TrAt h wr gs l cl) (rt : RtAt H wr ms rl vN c2) (o : OnlyS (TrS h gs) wr w') : RtAt H w' ms rl vN c2 :=
  rt.onlyS o (two_apart pt rt) (two_root pt rt) fun x hx => by rw [F.wc]; exact Nat.le_trans F.low (pt.low x hx)
/-- Behind a call of the document's tree. -/
theorem two_ref (F : TwoF h H w) (pt : TrAt h wr gs l cl) (rt : RtAt H wr ms rl vN c2) (o : OnlyS (RtS H ms vN) wr w') : TrAt h w' gs l cl :=
  pt.onlyS o (fun x hx hr => two_apart pt rt x hr hx) fun x hx => Nat.le_trans F.hb (rt.low x hx)
/-- Both, and what they hold. -/
structure TwoT (h : TrH) (H : RtH) (w : World) (j : Nat) (gs : List Nat) (l : List TNd) (cl : Int) (ms : List NM) (rl : List RNd) (vN : Value) (wr : World) : Prop where
  pt : TrAt h wr gs l cl
  rt : RtAt H wr ms rl vN cl
  same : SameT l rl j
  cl0 : 0 ≤ cl ∧ cl ≤ (j : Int)
theorem TwoT.later {j : Nat} (t : TwoT h H w j gs l cl ms rl vN wr) (hb : Below wr.heap.size wr w') : TwoT h H w j gs l cl ms rl vN w' := ⟨t.pt.later hb, t.rt.later hb, t.same, t.cl0⟩
theorem TwoT.below {j : Nat} (F : TwoF h H w) (t : TwoT h H w j gs l cl ms rl vN wr) : Below w.heap.size w wr := by
  have := t.rt.below
  rw [F.wc] at this
  exact this
/-- A block of an op is none of either's. -/
theorem two_op (pt : TrAt h wr gs l cl) (rt : RtAt H wr ms rl vN c2) {g : Nat} {c : Array Value} (e : wr.heap[g]? = some (.cells c 40 (0, 0))) : ¬ TrS h gs g ∧ ¬ RtS H ms vN g := by
  refine ⟨pt.not_row e (by decide) (by decide), fun hx => ?_⟩
  obtain ⟨c', ty, e3, e4⟩ := rt.kinds hx
  rw [e] at e3; injection e3 with e3; injection e3 with _ e3
  subst e3
  rcases e4 with e4 | e4 | e4 | e4 <;> exact absurd e4 (by decide)
theorem OnlyS.obj {S : Nat → Prop} {w w' : World} (o : OnlyS S w w') {g : Nat} {x : Obj} (h : w.heap[g]? = some x) (hs : ¬ S g) : w'.heap[g]? = some x := (o.block g (Array.getElem?_eq_some_iff.1 h).1 hs).trans h
/-- Who is left, told by the program's nodes. -/
theorem two_left {j : Nat} (s : SameT l rl j) {i : Nat} (hi : i < l.length) (hir : i < rl.length) (ok : l[i].Ok) : rl[i].leftTo 8 = bitsL l[i].left := (s.nodes i hi hir).left ok
end
end Go.Proofs.Ytkphdmfcmfojeaa

/- Calls of the two trees, told of both. -/
namespace Go.Proofs.Ytkphdmfcmfojeaa
open Go.RowKit

/-- What the law's loop leaves. -/
def PlaysT (h : TrH) (H : RtH) (w : World) (j : Nat) (wr : World) : Prop := ∃ gs l cl ms rl vN, TwoT h H w j gs l cl ms rl vN wr
/-- An op's block. -/
def OpBox (W : World) (G : Nat) (xk xn : Int) (xp : Pfx) (xz : Nat) : Prop := W.heap[G]? = some (.cells #[.int .i64 xk, .int .i64 xn, .string ⟨xp.toArray⟩, .int .u8 (xz : Nat)] 40 (0, 0))
theorem OpBox.later {W W' : World} {G : Nat} {xk xn : Int} {xp : Pfx} {xz : Nat} (b : OpBox W G xk xn xp xz) (hb : Below W.heap.size W W') : OpBox W' G xk xn xp xz := (hb.block G (Array.getElem?_eq_some_iff.1 b).1).trans b
theorem OpBox.cells {W : World} {G : Nat} {xk xn : Int} {xp : Pfx} {xz : Nat} (b : OpBox W G xk xn xp xz) : W.cell? ⟨G, 0, none⟩ = some (.int .i64 xk) ∧ W.cell? ⟨G, 1, none⟩ = some (.int .i64 xn) ∧ W.cell? ⟨G, 2, none⟩ = some (.string ⟨xp.toArray⟩) ∧ W.cell? ⟨G, 3, none⟩ = some (.int .u8 (xz : Nat)) :=
  ⟨by rw [cell_of_row W _ 0 _ _ _ b]; rfl, by rw [cell_of_row W _ 1 _ _ _ b]; rfl, by rw [cell_of_row W _ 2 _ _ _ b]; rfl, by rw [cell_of_row W _ 3 _ _ _ b]; rfl⟩
theorem OpBox.ops {W : World} {G : Nat} {xk xn : Int} {xp : Pfx} {xz : Nat} (b : OpBox W G xk xn xp xz) : W.cell? ⟨G, 1, none⟩ = some (.int .i64 xn) ∧ W.cell? ⟨G, 2, none⟩ = some (.string ⟨xp.toArray⟩) ∧ W.cell? ⟨G, 3, none⟩ = some (.int .u8 (xz : Nat)) := b.cells.2
/-- Both trees, an op's block, a set's bits in a row of the call's own. -/
structure SideT (h : TrH) (H : RtH) (G : Nat) (xk xn : Int) (xp : Pfx) (xz : Nat) (v : Value) (ys : List Int) (gs : List Nat) (l : List TNd) (cl : Int) (ms : List NM) (rl : List RNd) (vN : Value) (c2 : Int) (W : World) : Prop where
  pt : TrAt h W gs l cl
  rt : RtAt H W ms rl vN c2
  box : OpBox W G xk xn xp xz
  ow : OwnN W H.base v ys
  vs : ∀ x, v.ownBlock = some x → ¬ RtS H ms vN x
def EndT (h : TrH) (H : RtH) (w : World) (j : Nat) (G : Nat) (xk xn : Int) (xp : Pfx) (xz : Nat) (W : World) : Prop := PlaysT h H w j W ∧ OpBox W G xk xn xp xz
theorem OwnN.at {w : World} {B : Nat} {a : Option Addr} {cap : Nat} {ns : List Int} (h : OwnN w B (.slice a ns.length cap) ns) (hm : ns.length ≤ 1000000) : NumsAt w a ns := by
  obtain ⟨a', c', e, hn, _⟩ := OwnN.form h hm
  injection e with e1 _ _
  rw [e1]
  exact hn
section
variable {h : TrH} {H : RtH} {w W W' : World} {j G : Nat} {xk xn : Int} {xp : Pfx} {xz : Nat} {v : Value} {ya : Option Addr} {yc : Nat} {ys : List Int} {gs gs' : List Nat} {l l' : List TNd} {cl cl' c2 : Int} {ms ms' : List NM} {rl rl' : List RNd} {vN vN' : Value}
theorem PlaysT.later (_F : TwoF h H w) (s : PlaysT h H w j W) (hb : Below W.heap.size W W') : PlaysT h H w j W' := by
  obtain ⟨gs, l, cl, ms, rl, vN, t⟩ := s
  exact ⟨gs, l, cl, ms, rl, vN, t.later hb⟩
theorem EndT.later (F : TwoF h H w) (s : EndT h H w j G xk xn xp xz W) (hb : Below W.heap.size W W') : EndT h H w j G xk xn xp xz W' := ⟨s.1.later F hb, s.2.later hb⟩
theorem SideT.later (s : SideT h H G xk xn xp xz v ys gs l cl ms rl vN c2 W) (hb : Below W.heap.size W W') : SideT h H G xk xn xp xz v ys gs l cl ms rl vN c2 W' :=
  ⟨s.pt.later hb, s.rt.later hb, s.box.later hb, s.ow.later hb, s.vs⟩
theorem SideT.prog (F : TwoF h H w) (s : SideT h H G xk xn xp xz v ys gs l cl ms rl vN c2 W) (o : OnlyS (TrS h gs) W W') (t : TrAt h W' gs' l' cl') : SideT h H G xk xn xp xz v ys gs' l' cl' ms rl vN c2 W' :=
  ⟨t, two_prog F s.pt s.rt o, OnlyS.obj o s.box (two_op s.pt s.rt s.box).1, s.ow.onlyS o (fun g hg => by
    obtain ⟨_, c, hc⟩ := s.ow.kind hg
    exact s.pt.not_row hc (by decide) (by decide)), s.vs⟩
theorem SideT.refd (F : TwoF h H w) (s : SideT h H G xk xn xp xz v ys gs l cl ms rl vN c2 W) (o : OnlyS (RtS H ms vN) W W') (t : RtAt H W' ms' rl' vN' cl) (hs : SameT l rl' j) (hc : 0 ≤ cl ∧ cl ≤ (j : Int)) : EndT h H w j G xk xn xp xz W' :=
  ⟨⟨gs, l, cl, ms', rl', vN', two_ref F s.pt s.rt o, t, hs, hc⟩, OnlyS.obj o s.box (two_op s.pt s.rt s.box).2⟩
theorem SideT.same (s : SideT h H G xk xn xp xz v ys gs l cl ms rl vN cl W) (hs : SameT l rl j) (hc : 0 ≤ cl ∧ cl ≤ (j : Int)) : EndT h H w j G xk xn xp xz W :=
  ⟨⟨gs, l, cl, ms, rl, vN, s.pt, s.rt, hs, hc⟩, s.box⟩
theorem same_done (hs : SameT l rl j) (hj : j ≤ 100) : ∀ n ∈ rl, n.done.length ≤ 1000 := fun n hn => by
  obtain ⟨i, hi, rfl⟩ := List.getElem_of_mem hn
  have := (hs.nodes i (by rw [hs.len]; exact hi) hi).dl
  omega
theorem rep_okS {p : Pg} {F : Nat} {row : List Int} {e : Int} {es : List Ev} {s : St} (hr : rep p (F : Int) row = (e, es, some s)) : s.Ok F := by
  obtain ⟨_, hg, _⟩ := rep_some hr
  have hq := goodPg_iff.1 hg
  have := run_okT row (new_ok hq.1 (F : Int).toNat (by omega))
  rw [rep_state hr] at this
  exact this

theorem side_make1 (F : TwoF h H w) (s : SideT h H G xk xn xp xz v ys gs l cl ms rl vN c2 W) (hz : xz < 256) (hk : xp.length ≤ 900) (hl : l.length ≤ 1000000) :
    Calls Try.prog 16 #[.pointer (some ⟨h.b, 0, none⟩), .string ⟨xp.toArray⟩, .int .u8 (xz : Nat), .int .i64 xn] W fun r W' => r = .returned (.int .i64 (makeT h.p h.fuel l xp xz xn).1) ∧ ∃ gs', SideT h H G xk xn xp xz v ys gs' (makeT h.p h.fuel l xp xz xn).2 cl ms rl vN c2 W' :=
  (make_any s.pt hk hz xn hl).mono fun r W' hm => by
    obtain ⟨gs', rfl, ht, ho, _⟩ := hm
    exact ⟨rfl, gs', s.prog F ho ht⟩
theorem side_make2 (F : TwoF h H w) (s : SideT h H G xk xn xp xz (.slice ya ys.length yc) ys gs (makeT h.p h.fuel l xp xz xn).2 cl ms rl vN cl W) (hs : SameT l rl j) (hj : j ≤ 100) (hc : 0 ≤ cl ∧ cl ≤ (j : Int)) (hys : ys = ints (bitsL xz)) (hk : xp.length ≤ 900) :
    Calls Try.prog 17 #[.pointer (some ⟨H.b, 0, none⟩), .string ⟨xp.toArray⟩, .slice ya ys.length yc, .int .i64 xn] W fun r W' => r = .returned (.int .i64 (makeT h.p h.fuel l xp xz xn).1) ∧ EndT h H w (j + 1) G xk xn xp xz W' :=
  (rtMake_any s.rt hk xn s.ow s.vs (by have := hs.len; have := hs.lj; omega) (same_done hs hj)).mono fun r W' hm => by
    obtain ⟨ms', vN', rfl, rt', ho⟩ := hm
    obtain ⟨e1, e2⟩ := hs.make (p := h.p) (F := h.fuel) xp xz xn
    rw [← hys] at e1 e2
    have eh : makeRn h.p h.fuel rl xp ys xn = makeRn H.p (H.F : Int) rl xp ys xn := by rw [F.hp, F.hf]
    rw [eh] at e1 e2
    exact ⟨by rw [e1], s.refd F ho rt' e2 ⟨hc.1, by have := hc.2; omega⟩⟩
theorem side_mark1 (F : TwoF h H w) (s : SideT h H G xk xn xp xz v ys gs l cl ms rl vN c2 W) (hz : xz < 256) (hk : xp.length ≤ 900) :
    Calls Try.prog 18 #[.pointer (some ⟨h.b, 0, none⟩), .string ⟨xp.toArray⟩, .int .u8 (xz : Nat)] W fun r W' => r = .returned (.int .i64 (markT l xp xz).1) ∧ ∃ gs', SideT h H G xk xn xp xz v ys gs' (markT l xp xz).2 cl ms rl vN c2 W' :=
  (mark_any s.pt (by omega) hz).mono fun r W' hm => by
    obtain ⟨rfl, ht, ho⟩ := hm
    exact ⟨rfl, gs, s.prog F ho ht⟩
theorem side_mark2 (F : TwoF h H w) (ok : TrOk h.p h.fuel l) (s : SideT h H G xk xn xp xz (.slice ya ys.length yc) ys gs (markT l xp xz).2 cl ms rl vN cl W) (hs : SameT l rl j) (hj : j ≤ 100) (hc : 0 ≤ cl ∧ cl ≤ (j : Int)) (hys : ys = ints (bitsL xz)) (hk : xp.length ≤ 900) :
    Calls Try.prog 19 #[.pointer (some ⟨H.b, 0, none⟩), .string ⟨xp.toArray⟩, .slice ya ys.length yc] W fun r W' => r = .returned (.int .i64 (markT l xp xz).1) ∧ EndT h H w (j + 1) G xk xn xp xz W' := by
  have hrl : rl.length ≤ 1000000 := by have := hs.len; have := hs.lj; omega
  cases hi : idxT l xp with
  | none =>
    have hm : markT l xp xz = (6, l) := by unfold markT; rw [hi]
    rw [hm] at s ⊢
    refine (rtMark_none s.rt xp _ hrl (by rw [hs.idx]; exact hi)).mono fun r W' hr => ?_
    obtain ⟨rfl, rfl⟩ := hr
    exact ⟨rfl, s.same (hs.mono (by omega)) ⟨hc.1, by have := hc.2; omega⟩⟩
  | some i =>
    obtain ⟨hil, hpre⟩ := idxT_some hi
    have hir : i < rl.length := by rw [← hs.len]; exact hil
    have him : i < ms.length := by rw [s.rt.len]; exact hir
    obtain ⟨es, st, hrep, hmay⟩ := ok.row _ (List.getElem_mem hil)
    rw [hpre] at hrep
    have hrepH : rep H.p (H.F : Int) (rowK xp) = (0, es, some st) := by rw [← F.hp, ← F.hf]; exact hrep
    have e0 : (markT l xp xz).1 = 0 := by unfold markT; rw [hi]
    have hyl : ys.length ≤ 8 := by rw [hys, ints_len]; exact bitsL_len xz
    have htl := (hs.nodes i hil hir).tl
    refine (rtMark_ok s.rt (by omega) hrl (by rw [hs.idx]; exact hi) him hir hrepH ya yc ys (by omega) (s.ow.at (by omega)) (fun x hx => ?_) (fun x hx => ?_)).mono fun r W' hr => ?_
    · subst hx
      obtain ⟨_, c, hc⟩ := s.ow.kind (g := x.block) rfl
      exact (Array.getElem?_eq_some_iff.1 hc).1
    · subst hx
      exact s.vs x.block rfl
    · obtain ⟨rfl, ⟨m', _, rt'⟩, _, ho⟩ := hr
      have hm := hs.mark hi hil hir (rep_okS hrepH) hmay (ok.ok _ (List.getElem_mem hil)) xz
      rw [← hys] at hm
      exact ⟨by rw [e0], s.refd F ho rt' hm ⟨hc.1, by have := hc.2; omega⟩⟩
theorem side_claim1 (F : TwoF h H w) (s : SideT h H G xk xn xp xz v ys gs l cl ms rl vN c2 W) (hj : j ≤ 100) (hc : 0 ≤ cl ∧ cl ≤ (j : Int)) (hk : xp.length ≤ 900) :
    Calls Try.prog 20 #[.pointer (some ⟨h.b, 0, none⟩), .string ⟨xp.toArray⟩, .int .i64 xn] W fun r W' => r = .returned (.tuple #[.int .i64 (claimT h.p h.fuel l xp xn).2.1, .int .u8 ((claimT h.p h.fuel l xp xn).2.2.1 : Nat), .int .i64 (claimT h.p h.fuel l xp xn).1]) ∧ SideT h H G xk xn xp xz v ys gs (claimT h.p h.fuel l xp xn).2.2.2 (if (claimT h.p h.fuel l xp xn).1 = 0 then cl + 1 else cl) ms rl vN c2 W' :=
  (claim_any s.pt ⟨hc.1, by have := hc.2; omega⟩ (by omega) xn).mono fun r W' hm => by
    unfold ClaimR at hm
    obtain ⟨rfl, ht, ho⟩ := hm
    exact ⟨rfl, s.prog F ho ht⟩
def ClaimE (h : TrH) (H : RtH) (w : World) (j : Nat) (G : Nat) (xk xn : Int) (xp : Pfx) (xz : Nat) (l : List TNd) (r : Ending) (W' : World) : Prop :=
  ∃ (ca : Option Addr) (cc : Nat) (cs : List Int), r = .returned (.tuple #[.int .i64 (claimT h.p h.fuel l xp xn).2.1, .slice ca cs.length cc, .int .i64 (claimT h.p h.fuel l xp xn).1]) ∧ cs = ints (bitsL (claimT h.p h.fuel l xp xn).2.2.1) ∧ NumsAt W' ca cs ∧ (claimT h.p h.fuel l xp xn).2.2.1 < 256 ∧ EndT h H w j G xk xn xp xz W'
theorem side_claim2 (F : TwoF h H w) (ok : TrOk h.p h.fuel l) (s : SideT h H G xk xn xp xz v ys gs (claimT h.p h.fuel l xp xn).2.2.2 (if (claimT h.p h.fuel l xp xn).1 = 0 then cl + 1 else cl) ms rl vN cl W) (hs : SameT l rl j) (hj : j ≤ 100) (hc : 0 ≤ cl ∧ cl ≤ (j : Int)) (hk : xp.length ≤ 900) :
    Calls Try.prog 21 #[.pointer (some ⟨H.b, 0, none⟩), .string ⟨xp.toArray⟩, .int .i64 xn] W (ClaimE h H w (j + 1) G xk xn xp xz l) := by
  have hrl : rl.length ≤ 1000000 := by have := hs.len; have := hs.lj; omega
  have hcj : cl ≤ ((j + 1 : Nat) : Int) := by have := hc.2; omega
  cases hi : idxT l xp with
  | none =>
    have hm : claimT h.p h.fuel l xp xn = (6, 0, 0, l) := by unfold claimT; rw [hi]
    rw [hm] at s
    rw [if_neg (by show ¬ ((6 : Int) = 0); decide)] at s
    refine (rtClaim_none s.rt xp xn hrl (by rw [hs.idx]; exact hi)).mono fun r W' hr => ?_
    obtain ⟨rfl, rfl⟩ := hr
    refine ⟨none, 0, [], by rw [hm]; rfl, by rw [hm]; show [] = ints (bitsL 0); rw [bitsL_zero]; rfl, ⟨by simp [maxLen], fun h => absurd rfl h⟩, by rw [hm]; show 0 < 256; omega, s.same (hs.mono (by omega)) ⟨hc.1, hcj⟩⟩
  | some i =>
    obtain ⟨hil, hpre⟩ := idxT_some hi
    have hir : i < rl.length := by rw [← hs.len]; exact hil
    have him : i < ms.length := by rw [s.rt.len]; exact hir
    have hn := hs.nodes i hil hir
    have hok := ok.ok _ (List.getElem_mem hil)
    have hal : rl[i].asl.length ≤ 1000 := by rw [hn.asl, ints_len]; have := bitsL_len l[i].asl; omega
    have htl : rl[i].todo.length ≤ 1000 := by have := hn.tl; omega
    have hdl : rl[i].done.length ≤ 1000 := by have := hn.dl; omega
    have hlf := hn.left hok
    by_cases he : rl[i].leftTo 8 = []
    · have hm : claimT h.p h.fuel l xp xn = (6, 0, 0, l) := by
        unfold claimT
        rw [hi]
        dsimp only
        simp only [List.getD, List.getElem?_eq_getElem hil, Option.getD_some]
        rw [if_pos (by rw [← hlf]; exact he)]
      rw [hm] at s
      rw [if_neg (by show ¬ ((6 : Int) = 0); decide)] at s
      refine (rtClaim_left s.rt xn hrl (by rw [hs.idx]; exact hi) him hir hal htl hdl he).mono fun r W' hr => ?_
      obtain ⟨rfl, hb⟩ := hr
      refine ⟨none, 0, [], by rw [hm]; rfl, by rw [hm]; show [] = ints (bitsL 0); rw [bitsL_zero]; rfl, ⟨by simp [maxLen], fun h => absurd rfl h⟩, by rw [hm]; show 0 < 256; omega, (s.later hb).same (hs.mono (by omega)) ⟨hc.1, hcj⟩⟩
    · obtain ⟨es, st, hrep, hmay⟩ := ok.row _ (List.getElem_mem hil)
      rw [hpre] at hrep
      have hrepH : rep H.p (H.F : Int) (rowK xp) = (0, es, some st) := by rw [← F.hp, ← F.hf]; exact hrep
      obtain ⟨h1, h2, h3, h4⟩ := hs.claim (p := h.p) (F := h.fuel) (d := xn) hi hil hir hok he
      rw [if_pos h1] at s
      have hnx : nextT h.p h.fuel xp = st.next := by unfold nextT; rw [hrep]
      rw [hnx] at h3
      refine (rtClaim_ok s.rt ⟨hc.1, by have := hc.2; omega⟩ (by omega) xn hrl (by rw [hs.idx]; exact hi) him hir hal htl hdl he hrepH l[i].asl l[i].gone (fun q hq => by rw [hn.asl]; exact bits_dec _ hq) hn.done _ rfl).mono fun r W' hr => ?_
      obtain ⟨v1, v', rfl, hv, rt', _, ho⟩ := hr
      obtain ⟨ca, cc, rfl, hcn, _⟩ := OwnN.form hv (by rw [ints_len]; have := bitsL_len (childN st.next l[i].asl l[i].gone ((rl[i].leftTo 8).getD (drawN xn (rl[i].leftTo 8).length) 0 : Nat)); rw [bits_childN] at this; omega)
      refine ⟨ca, cc, _, by rw [h1, h2], by rw [h3, bits_childN], hcn, by rw [h3]; exact childN_lt _ _ _ _, ?_⟩
      exact s.refd F ho rt' h4 ⟨by have := hc.1; omega, by have := hc.2; omega⟩
theorem side_hand1 (F : TwoF h H w) (s : SideT h H G xk xn xp xz v ys gs l cl ms rl vN c2 W) (hk : xp.length ≤ 900) :
    Calls Try.prog 24 #[.pointer (some ⟨h.b, 0, none⟩), .string ⟨xp.toArray⟩, .int .i64 xn] W fun r W' => r = .returned (.int .i64 (handT l xp xn).1) ∧ SideT h H G xk xn xp xz v ys gs (handT l xp xn).2 cl ms rl vN c2 W' :=
  (hand_any s.pt (by omega) xn).mono fun r W' hm => by
    obtain ⟨rfl, ht, ho⟩ := hm
    exact ⟨rfl, s.prog F ho ht⟩
theorem side_hand2 (F : TwoF h H w) (s : SideT h H G xk xn xp xz v ys gs (handT l xp xn).2 cl ms rl vN cl W) (hs : SameT l rl j) (hc : 0 ≤ cl ∧ cl ≤ (j : Int)) {i : Nat} (hi : idxT l xp = some i) (him : i < ms.length) :
    EndT h H w (j + 1) G xk xn xp xz (W.setCell ⟨ms[i].g, 1, none⟩ (.int .i64 xn)) := by
  obtain ⟨hil, hpre⟩ := idxT_some hi
  have hir : i < rl.length := by rw [← hs.len]; exact hil
  have hn := s.rt.nodes i him hir
  have HO : OnlyS (fun x => x = ms[i].g) W (W.setCell ⟨ms[i].g, 1, none⟩ (.int .i64 xn)) := OnlyS.setCell (S := fun x => x = ms[i].g) (OnlyS.refl _ _) (p := ⟨ms[i].g, 1, none⟩) rfl _
  have hne : ∀ x, x ∈ ms[i].blks → ¬ x = ms[i].g := fun x hx e => by
    obtain ⟨_, c, hc⟩ := hn.kind hx
    rw [e, hn.box] at hc
    injection hc with hc; injection hc with _ hc
    exact absurd hc (by decide)
  refine s.refd F (HO.mono fun x _ hx => .inr (.inr ⟨_, List.getElem_mem him, .inl hx⟩)) (ms' := ms.set i ms[i]) (rl' := rl.set i { rl[i] with own := xn }) (vN' := vN) (s.rt.put him (m := ms[i]) (n := { rl[i] with own := xn }) rfl (HO.mono fun x _ hx => .inl hx) ⟨?_, ?_, ?_, ?_⟩ (s.rt.own _ (List.getElem_mem him)) fun x hx => .inl hx) (hs.hand hi hil hir xn) ⟨hc.1, by have := hc.2; omega⟩
  · rw [heap_setCell_same _ ms[i].g 1 _ _ _ hn.box]; rfl
  · exact hn.asl.onlyS HO fun x hx => hne x (NM.blks_mem.2 (.inl hx))
  · exact hn.todo.onlyS HO fun x hx => hne x (NM.blks_mem.2 (.inr (.inl hx)))
  · exact hn.done.onlyS HO fun x hx => hne x (NM.blks_mem.2 (.inr (.inr hx)))
/-- What the law's second part finds: who has it, who is left, who sleeps, as the program's nodes tell. -/
def MidL (l : List TNd) (k : Pfx) (w : World) (s24 s25 s26 : Value) (wx : World) : Prop :=
  ∃ (la aa : Option Addr) (lc ac : Nat) (lv av : List Int), s24 = .int .i64 (ownT l k) ∧ s25 = .slice la lv.length lc ∧ s26 = .slice aa av.length ac ∧ lv = ints (bitsL (leftT l k)) ∧ av = ints (bitsL (aslT l k)) ∧ NumsAt wx la lv ∧ NumsAt wx aa av ∧ Below w.heap.size w wx
theorem nums_nil (wx : World) (a : Option Addr) : NumsAt wx a [] := ⟨by simp [maxLen], fun h => absurd rfl h⟩
theorem midL_none (hi : idxT l xp = none) (hb : Below W.heap.size W W') (a b : Option Addr) : MidL l xp W (.int .i64 (-1)) (.slice a 0 0) (.slice b 0 0) W' := by
  refine ⟨a, b, 0, 0, [], [], ?_, rfl, rfl, ?_, ?_, nums_nil _ _, nums_nil _ _, hb⟩
  · unfold ownT; rw [hi]
  · unfold leftT; rw [hi]; show [] = ints (bitsL 0); rw [bitsL_zero]; rfl
  · unfold aslT; rw [hi]; show [] = ints (bitsL 0); rw [bitsL_zero]; rfl
theorem midL_some (ok : TrOk h.p h.fuel l) (hs : SameT l rl j) {i : Nat} (hi : idxT l xp = some i) (hir : i < rl.length) {own : Int} (hown : own = rl[i].own) {lv av : List Int} (hlv : lv = ints (rl[i].leftTo 8)) (hav : av = rl[i].asl) {la aa : Option Addr} {lc ac : Nat} (h1 : NumsAt W' la lv) (h2 : NumsAt W' aa av) (hb : Below W.heap.size W W') :
    MidL l xp W (.int .i64 own) (.slice la lv.length lc) (.slice aa av.length ac) W' := by
  obtain ⟨hil, _⟩ := idxT_some hi
  have hn := hs.nodes i hil hir
  refine ⟨la, aa, lc, ac, lv, av, ?_, rfl, rfl, ?_, ?_, h1, h2, hb⟩
  · unfold ownT; rw [hi]; simp only [List.getD, List.getElem?_eq_getElem hil, Option.getD_some]; rw [hown, hn.own]
  · unfold leftT; rw [hi]; simp only [List.getD, List.getElem?_eq_getElem hil, Option.getD_some]; rw [hlv, hn.left (ok.ok _ (List.getElem_mem hil))]
  · unfold aslT; rw [hi]; simp only [List.getD, List.getElem?_eq_getElem hil, Option.getD_some]; rw [hav, hn.asl]
theorem aslT_low (ok : TrOk h.p h.fuel l) : aslT l xp < 256 := by
  cases hi : idxT l xp with
  | none => unfold aslT; rw [hi]; dsimp only; omega
  | some i =>
    obtain ⟨hil, _⟩ := idxT_some hi
    rw [aslT_at hi hil]
    exact (ok.ok _ (List.getElem_mem hil)).asl
end
end Go.Proofs.Ytkphdmfcmfojeaa
