import Derived.Lib.OthersKept
import Derived.Test.YtnldkmcijmbhcaaPk04b
import Derived.Test.YtnldkmcijmbhcaaPk05

/- Rows of texts beside a tree in memory; the worlds that a tree's calls leave. -/
namespace Go.Proofs.Ytnldkmcijmbhcaa
open Go.RowKit

def pfxCell (k : Pfx) : List Value := [.string ⟨k.toArray⟩]
theorem pfxCell_len (k : Pfx) : (pfxCell k).length = 1 := rfl
theorem pfxCell_one (k : Pfx) : ∀ v ∈ pfxCell k, v.oneCell' = true := by
  intro v hv
  simp [pfxCell] at hv
  subst hv
  rfl
theorem infoPfx : (Try.prog.info? 9).map (fun i => (i.zero, i.size, i.bytes)) = some (some (.string ByteArray.empty), 1, 16) := by kernel_rfl
theorem RowAt.pfx {w : World} {a : Option Addr} {ks : List Pfx} (h : RowAt w a 1 pfxCell ks) {j : Nat} (hj : j < ks.length) : ∃ b o, a = some ⟨b, o, none⟩ ∧ w.cell? ⟨b, o + j, none⟩ = some (.string ⟨ks[j].toArray⟩) := by
  obtain ⟨b, o, rfl, hc⟩ := h.2 (by intro e; simp [e] at hj)
  have h1 := hc j hj 0 _ rfl
  rw [Nat.mul_one, Nat.add_zero] at h1
  exact ⟨b, o, rfl, h1⟩

theorem OwnRow.onlyS {T : Type} {f : T → List Value} {n : Nat} {S : Nat → Prop} {w w' : World} {B : Nat} {t : TypeId} {v : Value} {l : List T} (h : OwnRow w B t n f v l) (ho : OnlyS S w w') (hs : ∀ g, v.ownBlock = some g → ¬ S g) : OwnRow w' B t n f v l := by
  obtain ⟨h1, h2 | ⟨g, cap, cur, h2, h3, h4, h5⟩⟩ := h
  · exact ⟨h1, .inl h2⟩
  · refine ⟨h1, .inr ⟨g, cap, cur, h2, h3, (ho.block g (Array.getElem?_eq_some_iff.1 h4).1 (hs g (by rw [h2]; rfl))).trans h4, h5⟩⟩
/-- The block of a row of elements of type t. -/
theorem OwnRow.kind {T : Type} {f : T → List Value} {n : Nat} {w : World} {B : Nat} {t : TypeId} {v : Value} {l : List T} (h : OwnRow w B t n f v l) {g : Nat} (hg : v.ownBlock = some g) : B ≤ g ∧ ∃ c, w.heap[g]? = some (.cells c t (0, 0)) := by
  obtain ⟨h1, ⟨rfl, _⟩ | ⟨g', cap, cur, rfl, h3, h4, h5⟩⟩ := h
  · simp [Value.ownBlock] at hg
  · simp [Value.ownBlock] at hg
    subst hg
    exact ⟨h3, cur, h4⟩
section
variable {h : TrH} {w : World} {gs : List Nat} {l : List TNd} {cl : Int}
/-- What a tree's blocks are: none of another element type's, no iterator, no other map. -/
theorem TrAt.kinds (t : TrAt h w gs l cl) {x : Nat} (hx : TrS h gs x) : (∃ c ty, w.heap[x]? = some (.cells c ty (0, 0)) ∧ (ty = 86 ∨ ty = 98)) ∨ (x = h.mb ∧ ∃ es c, w.heap[x]? = some (.map es c)) := by
  rcases hx with rfl | rfl | hx
  · exact .inl ⟨_, _, t.box, .inl rfl⟩
  · obtain ⟨D, ⟨es, c, h1, _⟩, _⟩ := t.map
    exact .inr ⟨rfl, es, c, h1⟩
  · obtain ⟨i, hi, rfl⟩ := List.getElem_of_mem hx
    exact .inl ⟨_, _, t.nodes i (by have := t.len; omega) hi, .inr rfl⟩
theorem TrAt.not_row (t : TrAt h w gs l cl) {g : Nat} {c : Array Value} {ty : TypeId} (hc : w.heap[g]? = some (.cells c ty (0, 0))) (h1 : ty ≠ 86) (h2 : ty ≠ 98) : ¬ TrS h gs g := fun hx => by
  rcases t.kinds hx with ⟨c', ty', e, e2⟩ | ⟨_, es, c', e⟩
  · rw [hc] at e
    injection e with e
    injection e with _ e
    rcases e2 with rfl | rfl
    · exact h1 e
    · exact h2 e
  · rw [hc] at e; cases e
theorem TrAt.not_iter (t : TrAt h w gs l cl) {g : Nat} {s : ByteArray} {n : Nat} (hc : w.heap[g]? = some (.stringIter s n)) : ¬ TrS h gs g := fun hx => by
  rcases t.kinds hx with ⟨c', ty', e, _⟩ | ⟨_, es, c', e⟩
  · rw [hc] at e; cases e
  · rw [hc] at e; cases e
/-- A row of texts is as it was behind a tree's call. -/
theorem TrAt.rowKept (t : TrAt h w gs l cl) {w' : World} (ho : OnlyS (TrS h gs) w w') {B : Nat} {v : Value} {ks : List Pfx} (hr : OwnRow w B 9 1 pfxCell v ks) : OwnRow w' B 9 1 pfxCell v ks :=
  hr.onlyS ho fun g hg => by
    obtain ⟨_, c, hc⟩ := hr.kind hg
    exact t.not_row hc (by decide) (by decide)
/-- A tree is as it was behind an append to a row of texts. -/
theorem TrAt.grown (t : TrAt h w gs l cl) {w' : World} {B : Nat} {v : Value} {ks : List Pfx} (hr : OwnRow w B 9 1 pfxCell v ks) (hg : w.grownBy w' v.ownBlock) (hB : h.wc.heap.size ≤ B) : TrAt h w' gs l cl := by
  refine t.keep ((Below.refl _ _).grown hg t.below.size fun k hk => ?_) fun x hx => hg.block x (t.lt x hx) fun e => ?_
  · have := (hr.kind hk).1; omega
  · obtain ⟨_, c, hc⟩ := hr.kind e.symm
    exact t.not_row hc (by decide) (by decide) hx
end

end Go.Proofs.Ytnldkmcijmbhcaa

/- Layer 10's tree, plainly: what a claim tells of who is gone into. -/
namespace Go.Proofs.Ytnldkmcijmbhcaa
open Go.RowKit

def goneT (l : List TNd) (k : Pfx) : Nat := match idxT l k with
  | none => 0
  | some i => (l.getD i nd0).gone
theorem goneT_at {l : List TNd} {k : Pfx} {i : Nat} (h : idxT l k = some i) (hi : i < l.length) : goneT l k = l[i].gone := by
  unfold goneT; rw [h]; simp [List.getD, hi]
theorem aslT_at {l : List TNd} {k : Pfx} {i : Nat} (h : idxT l k = some i) (hi : i < l.length) : aslT l k = l[i].asl := by
  unfold aslT; rw [h]; simp [List.getD, hi]
theorem goneT_none {l : List TNd} {k : Pfx} (h : idxT l k = none) : goneT l k = 0 := by unfold goneT; rw [h]
theorem goneT_set {l : List TNd} {i : Nat} (hi : i < l.length) {n : TNd} (e : n.pre = l[i].pre) (hd : (l.map TNd.pre).Nodup) (k : Pfx) : goneT (l.set i n) k = if k = l[i].pre then n.gone else goneT l k := by
  have h1 := idxT_set hi e k
  by_cases hk : k = l[i].pre
  · rw [if_pos hk]
    subst hk
    rw [idxT_of hd hi] at h1
    rw [goneT_at h1 (by simpa using hi)]
    simp
  · rw [if_neg hk]
    cases h2 : idxT l k with
    | none => rw [h2] at h1; rw [goneT_none h1, goneT_none h2]
    | some j =>
      rw [h2] at h1
      obtain ⟨hj, hp⟩ := idxT_some h2
      rw [goneT_at h1 (by simpa using hj), goneT_at h2 hj, List.getElem_set]
      rw [if_neg]
      intro e2
      subst e2
      exact hk hp.symm
theorem aslT_set {l : List TNd} {i : Nat} (hi : i < l.length) {n : TNd} (e : n.pre = l[i].pre) (ha : n.asl = l[i].asl) (k : Pfx) : aslT (l.set i n) k = aslT l k := by
  have h1 := idxT_set hi e k
  unfold aslT
  rw [h1]
  cases h2 : idxT l k with
  | none => rfl
  | some j =>
    obtain ⟨hj, _⟩ := idxT_some h2
    simp only [List.getD, List.length_set, hj, List.getElem?_eq_getElem, Option.getD_some, List.getElem_set]
    split
    · rename_i e2; subst e2; exact ha
    · rfl
theorem goneT_make (p : Pg) (fuel : Int) (l : List TNd) (k : Pfx) (asl : Nat) (own : Int) (q : Pfx) : goneT (makeT p fuel l k asl own).2 q = goneT l q := by
  unfold makeT
  rcases hr : rep p fuel (rowK k) with ⟨e, es, _ | s⟩
  · rfl
  · dsimp only
    split
    · rfl
    · split
      · rfl
      · rename_i hn _
        have hi : idxT l k = none := by
          cases h : idxT l k with
          | none => rfl
          | some i => rw [h] at hn; exact absurd rfl hn
        have h1 := idxT_snoc (n := ⟨k, own, ofN s.all, asl, 0, 0⟩) hi q
        by_cases hq : q = k
        · subst hq
          rw [if_pos rfl] at h1
          rw [goneT_none hi, goneT_at h1 (by simp)]
          simp
        · rw [if_neg hq] at h1
          cases h2 : idxT l q with
          | none => rw [h2] at h1; rw [goneT_none h1, goneT_none h2]
          | some j =>
            rw [h2] at h1
            obtain ⟨hj, _⟩ := idxT_some h2
            rw [goneT_at h1 (by simp; omega), goneT_at h2 hj, List.getElem_append_left hj]
theorem goneT_mark {l : List TNd} (hd : (l.map TNd.pre).Nodup) (k : Pfx) (set : Nat) (q : Pfx) : goneT (markT l k set).2 q = goneT l q := by
  unfold markT
  cases hi : idxT l k with
  | none => rfl
  | some i =>
    obtain ⟨hil, _⟩ := idxT_some hi
    have e : l.getD i ⟨[], 0, 0, 0, 0, 0⟩ = l[i] := by simp [List.getD, hil]
    simp only [e]
    rw [goneT_set hil (by rfl) hd]
    split
    · rename_i hq
      subst hq
      rw [goneT_at (idxT_of hd hil) hil]
    · rfl

/-- All that was marked is known. -/
def MkOk (l : List TNd) (mk : Pfx → Nat) : Prop := ∀ n ∈ l, ∀ i, n.todo.testBit i = true → (mk n.pre).testBit i = true
theorem mkOk_nil (mk : Pfx → Nat) : MkOk [] mk := fun n hn => by cases hn
theorem MkOk.make {p : Pg} {fuel : Int} {l : List TNd} {mk : Pfx → Nat} (h : MkOk l mk) (k : Pfx) (asl : Nat) (own : Int) : MkOk (makeT p fuel l k asl own).2 mk := by
  unfold makeT
  rcases hr : rep p fuel (rowK k) with ⟨e, es, _ | s⟩
  · exact h
  · dsimp only
    split
    · exact h
    · split
      · exact h
      · intro n hn i hi
        rw [List.mem_append, List.mem_singleton] at hn
        rcases hn with hn | rfl
        · exact h n hn i hi
        · simp at hi
theorem mkOk_set {l : List TNd} {mk mk' : Pfx → Nat} (h : MkOk l mk) {i : Nat} (hi : i < l.length) {n : TNd} (e : n.pre = l[i].pre) (h1 : ∀ j, n.todo.testBit j = true → (mk' n.pre).testBit j = true) (h2 : ∀ q j, (mk q).testBit j = true → (mk' q).testBit j = true) : MkOk (l.set i n) mk' := by
  intro m hm j hj
  rcases List.mem_or_eq_of_mem_set hm with hm | rfl
  · exact h2 _ _ (h m hm j hj)
  · exact h1 j hj
/-- Marked, and known. -/
theorem MkOk.mark {l : List TNd} {mk : Pfx → Nat} (h : MkOk l mk) (k : Pfx) (set : Nat) : MkOk (markT l k set).2 (if (markT l k set).1 = 0 then fun q => if q = k then mk q ||| set else mk q else mk) := by
  unfold markT
  cases hi : idxT l k with
  | none => exact h
  | some i =>
    obtain ⟨hil, hp⟩ := idxT_some hi
    have e : l.getD i ⟨[], 0, 0, 0, 0, 0⟩ = l[i] := by simp [List.getD, hil]
    simp only [e, if_true]
    refine mkOk_set h hil rfl (fun j hj => ?_) (fun q j hq => ?_)
    · dsimp only at hj ⊢
      rw [hp, if_pos rfl]
      rw [Nat.testBit_or, Bool.or_eq_true, Nat.testBit_and, Bool.and_eq_true] at hj
      rw [Nat.testBit_or, Bool.or_eq_true]
      rcases hj with hj | hj
      · have := h l[i] (List.getElem_mem hil) j hj
        rw [hp] at this
        exact .inl this
      · exact .inr hj.1
    · split
      · rw [Nat.testBit_or, hq, Bool.true_or]
      · exact hq
theorem may_of_all {F : Nat} {s : St} (_ : s.Ok F) {i : Nat} (h : (ofN s.all).testBit i = true) : s.may (i : Int) = true := by
  have hi : i < 8 := testBit_lt8 (ofN_lt _) h
  rw [testBit_ofN _ hi, decide_eq_true_eq] at h
  unfold St.all at h
  exact (List.mem_filter.1 h).2
theorem run_okT {F : Nat} (row : List Int) : ∀ {s : St}, s.Ok F → (s.run row).2.2.Ok F := by
  induction row with
  | nil => intro s h; exact h
  | cons t row ih =>
    intro s ok
    rw [St.run]
    split
    · split
      · exact ih (ok.step_ok t)
      · exact ok
    · exact ok
theorem rep_state {p : Pg} {fuel : Int} {row : List Int} {e : Int} {es : List Ev} {s : St} (h : rep p fuel row = (e, es, some s)) : ((St.new p fuel.toNat).run row).2.2 = s := by
  unfold rep at h
  split at h
  · unfold comb at h
    split at h
    · injection h with _ h; injection h with _ h; injection h
    · injection h with _ h; injection h with _ h; cases h
  · injection h with _ h; injection h with _ h; cases h
/-- A claim that is done. -/
theorem claim_facts {p : Pg} {fuel : Int} {l l' : List TNd} (ok : TrOk p fuel l) {mk : Pfx → Nat} (hmk : MkOk l mk) {k : Pfx} {d x : Int} {c : Nat} (h : claimT p fuel l k d = (0, x, c, l')) :
    ∃ u : Nat, x = u ∧ u < 8 ∧ hasB (goneT l k) x = false ∧ (∃ es s, rep p fuel (rowK k) = (0, es, some s) ∧ s.may x = true) ∧ hasB (aslT l' k) x = false ∧ hasB (mk k) x = true ∧ c < 256 ∧ (∀ y ∈ ints (bitsL c), hasB (aslT l' k) y = true ∨ hasB (goneT l k) y = true) ∧ (∀ q, goneT l' q = if q = k then wt (goneT l k) x else goneT l q) ∧ MkOk l' mk := by
  unfold claimT at h
  cases hi : idxT l k with
  | none => rw [hi] at h; injection h with h _; cases h
  | some i =>
    obtain ⟨hil, hp⟩ := idxT_some hi
    have e : l.getD i ⟨[], 0, 0, 0, 0, 0⟩ = l[i] := by simp [List.getD, hil]
    rw [hi] at h
    simp only [e] at h
    split at h
    · injection h with h _; cases h
    · rename_i hne
      have hpos : 0 < (bitsL l[i].left).length := List.length_pos_iff.2 hne
      have hdl := drawN_lt d hpos
      obtain ⟨u, hu⟩ : ∃ u, u = (bitsL l[i].left).getD (drawN d (bitsL l[i].left).length) 0 := ⟨_, rfl⟩
      rw [← hu] at h
      injection h with _ h
      injection h with hx h
      injection h with hc h
      have hum : u ∈ bitsL l[i].left := by
        rw [hu]
        simp only [List.getD, List.getElem?_eq_getElem hdl, Option.getD_some]
        exact List.getElem_mem _
      have hu8 : u < 8 := (mem_bits.1 hum).1
      have hok := ok.ok l[i] (List.getElem_mem hil)
      have hxm : (u : Int) ∈ ints (bitsL l[i].left) := ints_mem.2 hum
      obtain ⟨g1, g2, g3⟩ := hok.left_gone hxm
      obtain ⟨es, s, hr, hm⟩ := ok.row l[i] (List.getElem_mem hil)
      have hr2 := hr
      rw [hp] at hr2
      have hsok : s.Ok fuel.toNat := by
        obtain ⟨_, hg, h1, _⟩ := rep_some hr
        unfold goodPg at hg
        rw [Bool.and_eq_true, decide_eq_true_eq] at hg
        have h2 := rep_state hr
        rw [← h2]
        exact run_okT _ (new_ok hg.1 fuel.toNat (by omega))
      have hnx : nextT p fuel k = s.next := by unfold nextT; rw [hr2]
      have ha : aslT l' k = l[i].asl := by
        rw [← h, aslT_set hil (by rfl) (by rfl), aslT_at hi hil]
      have hg0 : goneT l k = l[i].gone := goneT_at hi hil
      rw [hasB_nat _ hu8] at g3
      refine ⟨u, hx.symm, hu8, ?_, ⟨es, s, hr2, ?_⟩, ?_, ?_, ?_, ?_, ?_, ?_⟩
      · rw [hg0, ← hx]; exact g1
      · rw [← hx]
        have := ok.todo l[i] (List.getElem_mem hil) u g3
        rw [hm] at this
        exact may_of_all hsok this
      · rw [ha, ← hx]; exact g2
      · have := hmk l[i] (List.getElem_mem hil) u g3
        rw [hp] at this
        rw [← hx, hasB_nat _ hu8]
        exact this
      · rw [← hc]; exact childN_lt _ _ _ _
      · intro y hy
        rw [← hc, bits_childN] at hy
        obtain ⟨v, hv, rfl⟩ := List.mem_map.1 hy
        have h8 : v < 8 := by
          have := (List.mem_filter.1 hv).1
          simpa using this
        have h9 := (List.mem_filter.1 hv).2
        rw [hnx] at h9
        have h10 : childB s l[i].asl l[i].gone (u : Int) v = true := h9
        rw [childB_iff] at h10
        obtain ⟨_, _, _, _, _, h11, _⟩ := h10
        rw [ha, hg0, hasB_nat _ h8, hasB_nat _ h8]
        rw [Bool.or_eq_true] at h11
        exact h11
      · intro q
        rw [← h, goneT_set hil (by rfl) ok.nodup, hp, hg0, ← hx]
      · rw [← h]
        exact mkOk_set hmk hil rfl (fun j hj => hmk l[i] (List.getElem_mem hil) j hj) (fun _ _ h => h)

end Go.Proofs.Ytnldkmcijmbhcaa
