import Derived.StillTailTactics
import Derived.Laws.StructEq
import Derived.Test.YtkphdmfcmfojeaaPk02
import Derived.Test.YtkphdmfcmfojeaaPk04b
import Derived.Test.YtkphdmfcmfojeaaPk05

/- Layer 10's tree, plainly: what a claim tells of who is gone into. -/
namespace Go.Proofs.Ytkphdmfcmfojeaa
open Go.RowKit

def goneT (l : List TNd) (k : Pfx) : Nat := match idxT l k with
  | none => 0
  | some i => (l.getD i nd0).gone
theorem goneT_at {l : List TNd} {k : Pfx} {i : Nat} (h : idxT l k = some i) (hi : i < l.length) : goneT l k = l[i].gone := by
  unfold goneT; rw [h]; simp [List.getD, hi]
theorem aslT_at {l : List TNd} {k : Pfx} {i : Nat} (h : idxT l k = some i) (hi : i < l.length) : aslT l k = l[i].asl := by
  unfold aslT; rw [h]; simp [List.getD, hi]
theorem goneT_none {l : List TNd} {k : Pfx} (h : idxT l k = none) : goneT l k = 0 := by unfold goneT; rw [h]
theorem goneT_set {l : List TNd} {i : Nat} (hi : i < l.length) {n : TNd} (e : n.pre = l[i].pre) (hd : (l.map TNd.pre).Nodup) (k : Pfx) : goneT (l.set i n) k = if k = l[i].pre then n.gone else goneT l k := by
  have h1 := idxT_set hi e k
  by_cases hk : k = l[i].pre
  · rw [if_pos hk]
    subst hk
    rw [idxT_of hd hi] at h1
    rw [goneT_at h1 (by simpa using hi)]
    simp
  · rw [if_neg hk]
    cases h2 : idxT l k with
    | none => rw [h2] at h1; rw [goneT_none h1, goneT_none h2]
    | some j =>
      rw [h2] at h1
      obtain ⟨hj, hp⟩ := idxT_some h2
      rw [goneT_at h1 (by simpa using hj), goneT_at h2 hj, List.getElem_set]
      rw [if_neg]
      intro e2
      subst e2
      exact hk hp.symm
theorem aslT_set {l : List TNd} {i : Nat} (hi : i < l.length) {n : TNd} (e : n.pre = l[i].pre) (ha : n.asl = l[i].asl) (k : Pfx) : aslT (l.set i n) k = aslT l k := by
  have h1 := idxT_set hi e k
  unfold aslT
  rw [h1]
  cases h2 : idxT l k with
  | none => rfl
  | some j =>
    obtain ⟨hj, _⟩ := idxT_some h2
    simp only [List.getD, List.length_set, hj, List.getElem?_eq_getElem, Option.getD_some, List.getElem_set]
    split
    · rename_i e2; subst e2; exact ha
    · rfl
theorem goneT_make (p : Pg) (fuel : Int) (l : List TNd) (k : Pfx) (asl : Nat) (own : Int) (q : Pfx) : goneT (makeT p fuel l k asl own).2 q = goneT l q := by
  unfold makeT
  rcases hr : rep p fuel (rowK k) with ⟨e, es, _ | s⟩
  · rfl
  · dsimp only
    split
    · rfl
    · split
      · rfl
      · rename_i hn _
        have hi : idxT l k = none := by
          cases h : idxT l k with
          | none => rfl
          | some i => rw [h] at hn; exact absurd rfl hn
        have h1 := idxT_snoc (n := ⟨k, own, ofN s.all, asl, 0, 0⟩) hi q
        by_cases hq : q = k
        · subst hq
          rw [if_pos rfl] at h1
          rw [goneT_none hi, goneT_at h1 (by simp)]
          simp
        · rw [if_neg hq] at h1
          cases h2 : idxT l q with
          | none => rw [h2] at h1; rw [goneT_none h1, goneT_none h2]
          | some j =>
            rw [h2] at h1
            obtain ⟨hj, _⟩ := idxT_some h2
            rw [goneT_at h1 (by simp; omega), goneT_at h2 hj, List.getElem_append_left hj]
theorem goneT_mark {l : List TNd} (hd : (l.map TNd.pre).Nodup) (k : Pfx) (set : Nat) (q : Pfx) : goneT (markT l k set).2 q = goneT l q := by
  unfold markT
  cases hi : idxT l k with
  | none => rfl
  | some i =>
    obtain ⟨hil, _⟩ := idxT_some hi
    have e : l.getD i ⟨[], 0, 0, 0, 0, 0⟩ = l[i] := by simp [List.getD, hil]
    simp only [e]
    rw [goneT_set hil (by rfl) hd]
    split
    · rename_i hq
      subst hq
      rw [goneT_at (idxT_of hd hil) hil]
    · rfl

/-- All that was marked is known. -/
def MkOk (l : List TNd) (mk : Pfx → Nat) : Prop := ∀ n ∈ l, ∀ i, n.todo.testBit i = true → (mk n.pre).testBit i = true
theorem mkOk_nil (mk : Pfx → Nat) : MkOk [] mk := fun n hn => by cases hn
theorem MkOk.make {p : Pg} {fuel : Int} {l : List TNd} {mk : Pfx → Nat} (h : MkOk l mk) (k : Pfx) (asl : Nat) (own : Int) : MkOk (makeT p fuel l k asl own).2 mk := by
  unfold makeT
  rcases hr : rep p fuel (rowK k) with ⟨e, es, _ | s⟩
  · exact h
  · dsimp only
    split
    · exact h
    · split
      · exact h
      · intro n hn i hi
        rw [List.mem_append, List.mem_singleton] at hn
        rcases hn with hn | rfl
        · exact h n hn i hi
        · simp at hi
theorem mkOk_set {l : List TNd} {mk mk' : Pfx → Nat} (h : MkOk l mk) {i : Nat} (hi : i < l.length) {n : TNd} (e : n.pre = l[i].pre) (h1 : ∀ j, n.todo.testBit j = true → (mk' n.pre).testBit j = true) (h2 : ∀ q j, (mk q).testBit j = true → (mk' q).testBit j = true) : MkOk (l.set i n) mk' := by
  intro m hm j hj
  rcases List.mem_or_eq_of_mem_set hm with hm | rfl
  · exact h2 _ _ (h m hm j hj)
  · exact h1 j hj
/-- Marked, and known. -/
theorem MkOk.mark {l : List TNd} {mk : Pfx → Nat} (h : MkOk l mk) (k : Pfx) (set : Nat) : MkOk (markT l k set).2 (if (markT l k set).1 = 0 then fun q => if q = k then mk q ||| set else mk q else mk) := by
  unfold markT
  cases hi : idxT l k with
  | none => exact h
  | some i =>
    obtain ⟨hil, hp⟩ := idxT_some hi
    have e : l.getD i ⟨[], 0, 0, 0, 0, 0⟩ = l[i] := by simp [List.getD, hil]
    simp only [e, if_true]
    refine mkOk_set h hil rfl (fun j hj => ?_) (fun q j hq => ?_)
    · dsimp only at hj ⊢
      rw [hp, if_pos rfl]
      rw [Nat.testBit_or, Bool.or_eq_true, Nat.testBit_and, Bool.and_eq_true] at hj
      rw [Nat.testBit_or, Bool.or_eq_true]
      rcases hj with hj | hj
      · have := h l[i] (List.getElem_mem hil) j hj
        rw [hp] at this
        exact .inl this
      · exact .inr hj.1
    · split
      · rw [Nat.testBit_or, hq, Bool.true_or]
      · exact hq
theorem may_of_all {F : Nat} {s : St} (_ : s.Ok F) {i : Nat} (h : (ofN s.all).testBit i = true) : s.may (i : Int) = true := by
  have hi : i < 8 := testBit_lt8 (ofN_lt _) h
  rw [testBit_ofN _ hi, decide_eq_true_eq] at h
  unfold St.all at h
  exact (List.mem_filter.1 h).2
theorem run_okT {F : Nat} (row : List Int) : ∀ {s : St}, s.Ok F → (s.run row).2.2.Ok F := by
  induction row with
  | nil => intro s h; exact h
  | cons t row ih =>
    intro s ok
    rw [St.run]
    split
    · split
      · exact ih (ok.step_ok t)
      · exact ok
    · exact ok
theorem rep_state {p : Pg} {fuel : Int} {row : List Int} {e : Int} {es : List Ev} {s : St} (h : rep p fuel row = (e, es, some s)) : ((St.new p fuel.toNat).run row).2.2 = s := by
  unfold rep at h
  split at h
  · unfold comb at h
    split at h
    · injection h with _ h; injection h with _ h; injection h
    · injection h with _ h; injection h with _ h; cases h
  · injection h with _ h; injection h with _ h; cases h
/-- A claim that is done. -/
theorem claim_facts {p : Pg} {fuel : Int} {l l' : List TNd} (ok : TrOk p fuel l) {mk : Pfx → Nat} (hmk : MkOk l mk) {k : Pfx} {d x : Int} {c : Nat} (h : claimT p fuel l k d = (0, x, c, l')) :
    ∃ u : Nat, x = u ∧ u < 8 ∧ hasB (goneT l k) x = false ∧ (∃ es s, rep p fuel (rowK k) = (0, es, some s) ∧ s.may x = true) ∧ hasB (aslT l' k) x = false ∧ hasB (mk k) x = true ∧ c < 256 ∧ (∀ y ∈ ints (bitsL c), hasB (aslT l' k) y = true ∨ hasB (goneT l k) y = true) ∧ (∀ q, goneT l' q = if q = k then wt (goneT l k) x else goneT l q) ∧ MkOk l' mk := by
  unfold claimT at h
  cases hi : idxT l k with
  | none => rw [hi] at h; injection h with h _; cases h
  | some i =>
    obtain ⟨hil, hp⟩ := idxT_some hi
    have e : l.getD i ⟨[], 0, 0, 0, 0, 0⟩ = l[i] := by simp [List.getD, hil]
    rw [hi] at h
    simp only [e] at h
    split at h
    · injection h with h _; cases h
    · rename_i hne
      have hpos : 0 < (bitsL l[i].left).length := List.length_pos_iff.2 hne
      have hdl := drawN_lt d hpos
      obtain ⟨u, hu⟩ : ∃ u, u = (bitsL l[i].left).getD (drawN d (bitsL l[i].left).length) 0 := ⟨_, rfl⟩
      rw [← hu] at h
      injection h with _ h
      injection h with hx h
      injection h with hc h
      have hum : u ∈ bitsL l[i].left := by
        rw [hu]
        simp only [List.getD, List.getElem?_eq_getElem hdl, Option.getD_some]
        exact List.getElem_mem _
      have hu8 : u < 8 := (mem_bits.1 hum).1
      have hok := ok.ok l[i] (List.getElem_mem hil)
      have hxm : (u : Int) ∈ ints (bitsL l[i].left) := ints_mem.2 hum
      obtain ⟨g1, g2, g3⟩ := hok.left_gone hxm
      obtain ⟨es, s, hr, hm⟩ := ok.row l[i] (List.getElem_mem hil)
      have hr2 := hr
      rw [hp] at hr2
      have hsok : s.Ok fuel.toNat := by
        obtain ⟨_, hg, h1, _⟩ := rep_some hr
        unfold goodPg at hg
        rw [Bool.and_eq_true, decide_eq_true_eq] at hg
        have h2 := rep_state hr
        rw [← h2]
        exact run_okT _ (new_ok hg.1 fuel.toNat (by omega))
      have hnx : nextT p fuel k = s.next := by unfold nextT; rw [hr2]
      have ha : aslT l' k = l[i].asl := by
        rw [← h, aslT_set hil (by rfl) (by rfl), aslT_at hi hil]
      have hg0 : goneT l k = l[i].gone := goneT_at hi hil
      rw [hasB_nat _ hu8] at g3
      refine ⟨u, hx.symm, hu8, ?_, ⟨es, s, hr2, ?_⟩, ?_, ?_, ?_, ?_, ?_, ?_⟩
      · rw [hg0, ← hx]; exact g1
      · rw [← hx]
        have := ok.todo l[i] (List.getElem_mem hil) u g3
        rw [hm] at this
        exact may_of_all hsok this
      · rw [ha, ← hx]; exact g2
      · have := hmk l[i] (List.getElem_mem hil) u g3
        rw [hp] at this
        rw [← hx, hasB_nat _ hu8]
        exact this
      · rw [← hc]; exact childN_lt _ _ _ _
      · intro y hy
        rw [← hc, bits_childN] at hy
        obtain ⟨v, hv, rfl⟩ := List.mem_map.1 hy
        have h8 : v < 8 := by
          have := (List.mem_filter.1 hv).1
          simpa using this
        have h9 := (List.mem_filter.1 hv).2
        rw [hnx] at h9
        have h10 : childB s l[i].asl l[i].gone (u : Int) v = true := h9
        rw [childB_iff] at h10
        obtain ⟨_, _, _, _, _, h11, _⟩ := h10
        rw [ha, hg0, hasB_nat _ h8, hasB_nat _ h8]
        rw [Bool.or_eq_true] at h11
        exact h11
      · intro q
        rw [← h, goneT_set hil (by rfl) ok.nodup, hp, hg0, ← hx]
      · rw [← h]
        exact mkOk_set hmk hil rfl (fun j hj => hmk l[i] (List.getElem_mem hil) j hj) (fun _ _ h => h)

end Go.Proofs.Ytkphdmfcmfojeaa

/- Rows of numbers and of events held against each other: SameInts, SameEvents; two events. -/
namespace Go.Proofs.Ytkphdmfcmfojeaa
open Go.RowKit

set_option maxRecDepth 100000 in
set_option maxHeartbeats 1000000 in
theorem sameInts_any (a a' : Option Addr) (cap cap' : Nat) (l l' : List Int) (w : World) (hl : NumsAt w a l) (hl' : NumsAt w a' l') :
    Calls Try.prog 22 #[.slice a l.length cap, .slice a' l'.length cap'] w fun r w' => r = .returned (.bool (decide (l = l'))) ∧ Below w.heap.size w w' := by
  have hm := hl.1
  have hm' := hl'.1
  unfold maxLen at hm hm'
  have HL := Lib.hid hl
  have HL' := Lib.hid hl'
  clear hl hl'
  by_cases hne : l.length = l'.length
  · have HE := Lib.hid hne
    have hq : ((l.length : Int) != l'.length) = false := by simp [hne]
    have hm2 : l.length ≤ l'.length := by omega
    have hm3 : l'.length ≤ l.length := by omega
    clear hne
    go_enter Try.func22, Try.ntmps22
    go_wp2
    go_loopw [5] (fun i wr => ∃ k : Nat, k ≤ l.length ∧ i = .int .i64 k ∧ Hid (l.take k = l'.take k) ∧ Below w.heap.size w wr) (fun i _ => l.length - (intOf i).toNat)
    case atStart => exact ⟨0, Nat.zero_le _, rfl, rfl, Below.refl _ _⟩
    case round =>
      obtain ⟨k, hk, rfl, hall, hb⟩ := hrel
      by_cases hlt : k < l.length
      · have hlt' : k < l'.length := by omega
        obtain ⟨b, o, rfl, hc⟩ := HL.out.2 (by intro e; simp [e] at hlt)
        obtain ⟨b', o', rfl, hc'⟩ := HL'.out.2 (by intro e; simp [e] at hlt')
        have d0 := cell_later hb (hc k hlt)
        have d0' := cell_later hb (hc' k hlt')
        clear hc hc'
        have HT := Lib.hid (List.take_succ_eq_append_getElem hlt : l.take (k + 1) = l.take k ++ [l[k]])
        have HT' := Lib.hid (List.take_succ_eq_append_getElem hlt' : l'.take (k + 1) = l'.take k ++ [l'[k]])
        by_cases he : l[k] = l'[k]
        · have hq2 : (l[k] != l'[k]) = false := by simp [he]
          have HR : Hid (l.take (k + 1) = l'.take (k + 1)) := by show _ = _; rw [HT.out, HT'.out, hall.out, he]
          clear he
          generalize l[k] = x at *
          generalize l'[k] = x' at *
          go_wp2
          go_quiet (fail)
          go_wp2
          go_roundw
          case rel => exact ⟨k + 1, by omega, by go_num, HR, hb.drewN⟩
          case measure => simp [intOf]; omega
        · have hq2 : (l[k] != l'[k]) = true := by simpa using he
          have HR : Hid (decide (l = l') = false) := by show _ = _; simp; rintro rfl; exact he rfl
          clear he
          generalize l[k] = x at *
          generalize l'[k] = x' at *
          go_wp2
          go_quiet (fail)
          go_wp2
          go_ret
          exact ⟨ret_bool HR.out.symm, hb.drewN⟩
      · obtain rfl : k = l.length := by omega
        have HR : Hid (decide (l = l') = true) := by
          show _ = _
          have h := hall.out
          rw [List.take_length, HE.out, List.take_length] at h
          simp [h]
        go_wp2
        go_ret
        exact ⟨ret_bool HR.out.symm, hb⟩
  · have hq : ((l.length : Int) != l'.length) = true := by simp; omega
    have H : Hid (decide (l = l') = false) := by show _ = _; simp; intro e; exact hne (by rw [e])
    clear hne
    go_enter Try.func22, Try.ntmps22
    go_wp2
    go_ret
    exact ⟨ret_bool H.out.symm, Below.refl _ _⟩

end Go.Proofs.Ytkphdmfcmfojeaa
