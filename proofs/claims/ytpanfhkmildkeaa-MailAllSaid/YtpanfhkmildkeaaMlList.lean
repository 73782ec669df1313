/- The document's letters beside the boxes: one row of all, and each worker's. -/
import Derived.Test.YtpanfhkmildkeaaMlRef
import Derived.Test.YtpanfhkmildkeaaMlWake
import Derived.Test.YtpanfhkmildkeaaOpenM
import Derived.Test.YtpanfhkmildkeaaRowCat
namespace Go.Proofs.Ytpanfhkmildkeaa
open Go.RowKit

def letL (x : RL) : Let := ⟨x.s, x.set⟩
/-- A worker's letters of all. -/
def ofL (wl : List RL) (j : Nat) : List Let := (wl.filter fun x => x.to == (j : Int)).map letL
theorem ofL_snoc (wl : List RL) (x : RL) {j : Nat} (hx : x.to = j) : updF (ofL wl) j (ofL wl j ++ [letL x]) = ofL (wl ++ [x]) := by
  funext k
  by_cases e : k = j
  · subst e
    rw [updF_same]
    simp [ofL, hx]
  · rw [updF_ne _ _ e]
    have : (x.to == (k : Int)) = false := by rw [hx, beq_eq_false_iff_ne]; omega
    simp [ofL, this]
theorem ofL_count (wl : List RL) (j : Nat) : (ofL wl j).length = countL wl j := by
  unfold ofL countL
  rw [List.length_map, List.countP_eq_length_filter]
theorem countL_out {wl : List RL} {n : Nat} {z : Int} (h : ∀ x ∈ wl, 0 ≤ x.to ∧ x.to < n) (hz : ¬ (0 ≤ z ∧ z < n)) : countL wl z = 0 := by
  unfold countL
  rw [List.countP_eq_zero]
  intro x hx
  have := h x hx
  simp
  omega
theorem totL_nil (n : Nat) : totL n (fun _ => ([] : List Let)) = 0 := by
  induction n with
  | zero => rfl
  | succ n ih => rw [totL_succ, ih]; rfl
theorem ofL_tot {n : Nat} (wl : List RL) (h : ∀ x ∈ wl, 0 ≤ x.to ∧ x.to < n) : totL n (ofL wl) = wl.length := by
  have key : ∀ (l wl : List RL), (∀ x ∈ l, 0 ≤ x.to ∧ x.to < n) → totL n (ofL wl) = wl.length → totL n (ofL (wl ++ l)) = (wl ++ l).length := by
    intro l
    induction l with
    | nil => intro wl _ h; rw [List.append_nil]; exact h
    | cons x l ih =>
      intro wl hl h
      obtain ⟨h0, h1⟩ := hl x List.mem_cons_self
      obtain ⟨j, hj⟩ : ∃ j : Nat, x.to = j := ⟨x.to.toNat, by omega⟩
      have := ih (wl ++ [x]) (fun y hy => hl y (List.mem_cons_of_mem _ hy)) (by
        have e := totL_upd (ofL wl) (ofL wl j ++ [letL x]) (n := n) (j := j) (by omega)
        rw [ofL_snoc wl x hj, List.length_append, List.length_singleton] at e
        rw [List.length_append, List.length_singleton]
        omega)
      rw [List.append_assoc] at this
      exact this
  exact key wl [] h (totL_nil n)
/-- The first one to a worker, and what is ahead of it and behind. -/
theorem first_cases (wl : List RL) (z : Int) : (firstI wl z = -1 ∧ countL wl z = 0) ∨ ∃ l1 x l2, wl = l1 ++ x :: l2 ∧ firstI wl z = l1.length ∧ x.to = z ∧ ∀ y ∈ l1, y.to ≠ z := by
  cases h : firstL wl z with
  | none =>
    refine .inl ⟨by unfold firstI; rw [h], ?_⟩
    unfold firstL at h
    rw [List.findIdx?_eq_none_iff] at h
    unfold countL
    rw [List.countP_eq_zero]
    intro x hx
    rw [h x hx]
    decide
  | some k =>
    have h2 := h
    unfold firstL at h2
    rw [List.findIdx?_eq_some_iff_getElem] at h2
    obtain ⟨hk, h3, h4⟩ := h2
    refine .inr ⟨wl.take k, wl[k], wl.drop (k + 1), ?_, ?_, by simpa using h3, fun y hy => ?_⟩
    · rw [List.getElem_cons_drop, List.take_append_drop]
    · unfold firstI
      rw [h, List.length_take, Nat.min_eq_left (by omega)]
    · obtain ⟨i, hi, rfl⟩ := List.getElem_of_mem hy
      rw [List.length_take] at hi
      have := h4 i (by omega)
      simpa using this
theorem ofL_cut {l1 l2 : List RL} {x : RL} {j : Nat} (hx : x.to = j) (h : ∀ y ∈ l1, y.to ≠ (j : Int)) : ofL (l1 ++ x :: l2) j = letL x :: ofL (l1 ++ l2) j ∧ updF (ofL (l1 ++ x :: l2)) j (ofL (l1 ++ l2) j) = ofL (l1 ++ l2) := by
  have h1 : l1.filter (fun y => y.to == (j : Int)) = [] := by
    rw [List.filter_eq_nil_iff]
    intro y hy
    simpa using h y hy
  refine ⟨by simp [ofL, hx, h1], ?_⟩
  funext k
  by_cases e : k = j
  · subst e; rw [updF_same]
  · rw [updF_ne _ _ e]
    have : (x.to == (k : Int)) = false := by rw [hx, beq_eq_false_iff_ne]; omega
    simp [ofL, this]
theorem infoRL : (Try.prog.info? 36).map (fun i => (i.zero, i.size, i.bytes)) = some (some (.agg #[.int .i64 0, .int .i64 0, .string ByteArray.empty]), 3, 32) := by kernel_rfl
theorem OwnRow.low {T : Type} {f : T → List Value} {n : Nat} {w : World} {B C : Nat} {t : TypeId} {v : Value} {l : List T} (h : OwnRow w B t n f v l) (hC : C ≤ B) : OwnRow w C t n f v l := by
  obtain ⟨h1, h2 | ⟨g, cap, cur, h2, h3, h4⟩⟩ := h
  · exact ⟨h1, .inl h2⟩
  · exact ⟨h1, .inr ⟨g, cap, cur, h2, Nat.le_trans hC h3, h4⟩⟩
theorem OwnRow.lit {T : Type} {f : T → List Value} {n : Nat} (w : World) (t : TypeId) : OwnRow (w.alloc (.cells #[] t)) w.heap.size t n f (.slice (some ⟨w.heap.size, 0, none⟩) 0 0) ([] : List T) :=
  ⟨by simp [cellsL], .inr ⟨w.heap.size, 0, #[], rfl, Nat.le_refl _, heap_alloc_new w _, Nat.le_refl _, by simp [maxLen], by simp, by simp [cellsL]⟩⟩
/-- What MailPlays' loop leaves: boxes, and a row of all letters that are in them. -/
structure MPl (w : World) (B b n : Nat) (v : Value) (wl : List RL) (S : Nat → Prop) (wr : World) : Prop where
  q : MU wr B b n S (ofL wl)
  row : OwnRow wr B 36 3 rlCell v wl
  to : ∀ x ∈ wl, (0 ≤ x.to ∧ x.to < n) ∧ 0 ≤ x.set ∧ x.set < 256
  below : Below w.heap.size w wr
  base : w.heap.size ≤ B
section
variable {w wr w' : World} {B b n : Nat} {v : Value} {wl : List RL} {S : Nat → Prop}
theorem MPl.later (h : MPl w B b n v wl S wr) (hb : Below wr.heap.size wr w') : MPl w B b n v wl S w' :=
  ⟨h.q.later hb, h.row.later hb, h.to, h.below.trans (hb.mono h.below.size), h.base⟩
/-- A row of the document's letters is none of the boxes' blocks. -/
theorem MPl.apart (h : MPl w B b n v wl S wr) {x : Nat} (hx : v.ownBlock = some x) : ¬ S x := fun hs => by
  obtain ⟨_, c, hc⟩ := h.row.kindQ hx
  exact h.q.not_row hc (by decide) (by decide) (by decide) hs
theorem MPl.kept (h : MPl w B b n v wl S wr) (o : OnlyS S wr w') : OwnRow w' B 36 3 rlCell v wl ∧ Below w.heap.size w w' :=
  ⟨h.row.keepQ fun g hg => by
    obtain ⟨_, c, hc⟩ := h.row.kindQ hg
    exact o.block g (Array.getElem?_eq_some_iff.1 hc).1 (h.apart hg), h.below.trans (h.q.only h.base o)⟩
theorem MPl.lenQ (h : MPl w B b n v wl S wr) (z : Int) (m : Nat) : Calls Try.prog 11 #[.pointer (some ⟨b, 0, none⟩), .int .i64 z] (wr.drewN m) fun r w' => r = .returned (.int .i64 (countL wl z : Nat)) ∧ ∃ k, w' = wr.drewN k := by
  have q := h.q.later (Below.refl wr.heap.size wr).drewN (w' := wr.drewN m)
  by_cases hz : 0 ≤ z ∧ z < n
  · obtain ⟨j, rfl⟩ : ∃ j : Nat, z = j := ⟨z.toNat, by omega⟩
    have := mLen_any q (j := j) (by omega)
    rw [ofL_count] at this
    exact this.mono fun _ _ ⟨he, hm⟩ => ⟨he, m, hm.symm⟩
  · rw [countL_out (fun x hx => (h.to x hx).1) hz]
    exact (mLen_out q hz).mono fun _ _ ⟨he, hm⟩ => ⟨he, m, hm.symm⟩
theorem MPl.totQ (h : MPl w B b n v wl S wr) (m : Nat) : Calls Try.prog 13 #[.pointer (some ⟨b, 0, none⟩)] (wr.drewN m) fun r w' => r = .returned (.int .i64 wl.length) ∧ ∃ k, w' = wr.drewN k := by
  have q := h.q.later (Below.refl wr.heap.size wr).drewN (w' := wr.drewN m)
  have := mTotal_any q
  rw [ofL_tot wl fun x hx => (h.to x hx).1] at this
  exact this.mono fun _ _ ⟨he, hm⟩ => ⟨he, m, hm.symm⟩
theorem MPl.cntQ (h : MPl w B b n v wl S wr) {a : Option Addr} {cap : Nat} (hv : v = .slice a wl.length cap) (hl : wl.length ≤ 1000) (z : Int) (m : Nat) : Calls Try.prog 12 #[.slice a wl.length cap, .int .i64 z] (wr.drewN m) fun r w' => r = .returned (.int .i64 (countL wl z : Nat)) ∧ ∃ k, w' = wr.drewN k := by
  obtain ⟨a', cap', e, hr, _⟩ := (h.row.later (Below.refl wr.heap.size wr).drewN (w' := wr.drewN m)).form rlCell_len (by omega)
  rw [hv] at e
  injection e with e1 e2 e3
  subst e1 e3
  exact (refCount_any a cap wl z (wr.drewN m) hr (by omega)).mono fun _ _ ⟨he, hm⟩ => ⟨he, m, hm.symm⟩
/-- A call's box stays. -/
theorem MPl.box (h : MPl w B b n v wl S wr) (o : OnlyS S wr w') {g : Nat} {c : Array Value} (hg : wr.heap[g]? = some (.cells c 30 (0, 0))) : w'.heap[g]? = some (.cells c 30 (0, 0)) :=
  o.row hg (h.q.not_row hg (by decide) (by decide) (by decide))
/-- A letter sent, and laid behind all. -/
theorem MPl.send (h : MPl w B b n v wl S wr) {x : RL} {j : Nat} (hx : x.to = j) (hj : j < n) (hs : 0 ≤ x.set ∧ x.set < 256) (hr : SendR B b n S (ofL wl) j (letL x) wr w') : ∃ S', OwnRow w' B 36 3 rlCell v wl ∧ B ≤ w'.heap.size ∧ OnlyS S wr w' ∧ ∀ (o : Obj) v2 w2, OwnRow w2 B 36 3 rlCell v2 (wl ++ [x]) → (w'.alloc o).grownBy w2 v.ownBlock → MPl w B b n v2 (wl ++ [x]) S' w2 ∧ ∀ (g : Nat) c, w'.heap[g]? = some (.cells c 30 (0, 0)) → w2.heap[g]? = some (.cells c 30 (0, 0)) := by
  obtain ⟨S', q, ho, hS⟩ := hr
  rw [ofL_snoc wl x hx] at q
  obtain ⟨r1, b1⟩ := h.kept ho
  refine ⟨S', r1, q.low, ho, fun o v2 w2 hv2 hg => ?_⟩
  have o2 : OnlyS (fun y => v.ownBlock = some y) (w'.alloc o) w2 := ⟨hg.os, hg.tape, hg.output, hg.size, fun k hk hn => hg.block k hk fun e => hn e.symm⟩
  refine ⟨⟨(q.later (below_alloc1 w' o)).onlyS o2 fun y hy e => ?_, hv2, fun y hy => ?_, (b1.alloc b1.size o).trans (o2.below (by have := (b1.alloc b1.size o).size; exact this) fun k hk => ?_), h.base⟩, fun g c hc => ?_⟩
  · obtain ⟨_, c, hc⟩ := r1.kindQ e
    exact q.not_row hc (by decide) (by decide) (by decide) hy
  · rcases List.mem_append.1 hy with hy | hy
    · exact h.to y hy
    · obtain rfl : y = x := by simpa using hy
      exact ⟨⟨by omega, by omega⟩, hs⟩
  · exact Nat.le_trans h.base (r1.kindQ hk).1
  · refine o2.row (((below_alloc1 w' o).block _ (Array.getElem?_eq_some_iff.1 hc).1).trans hc) fun e => ?_
    obtain ⟨_, c', hc'⟩ := r1.kindQ e
    rw [hc] at hc'; injection hc' with hc'; injection hc' with _ hc'
    exact absurd hc' (by decide)
/-- A letter taken: what is left, laid anew. -/
theorem MPl.took {l1 l2 : List RL} {x : RL} {j : Nat} (h : MPl w B b n v (l1 ++ x :: l2) S wr) (hx : x.to = j) (hf : ∀ y ∈ l1, y.to ≠ (j : Int)) (hr : TookR B b n S (ofL (l1 ++ x :: l2)) j (ofL (l1 ++ l2) j) wr w') : OwnRow w' B 36 3 rlCell v (l1 ++ x :: l2) ∧ B ≤ w'.heap.size ∧ OnlyS S wr w' ∧ ∀ C v2 w2, B ≤ C → OwnRow w2 C 36 3 rlCell v2 (l1 ++ l2) → Below w'.heap.size w' w2 → MPl w B b n v2 (l1 ++ l2) S w2 := by
  obtain ⟨q, ho⟩ := hr
  rw [(ofL_cut hx hf).2] at q
  obtain ⟨r1, b1⟩ := h.kept ho
  refine ⟨r1, q.low, ho, fun C v2 w2 hC hv2 hb => ⟨q.later hb, hv2.low hC, fun y hy => h.to y ?_, b1.trans (hb.mono b1.size), h.base⟩⟩
  rcases List.mem_append.1 hy with hy | hy
  · exact List.mem_append_left _ hy
  · exact List.mem_append_right _ (List.mem_cons_of_mem _ hy)
theorem rl_new (w : World) (x : RL) (g : Nat) (hg : g = w.heap.size) : ∀ j u, (rlCell x)[j]? = some u → (w.alloc (.cells #[.int .i64 x.to, .int .i64 x.set, .string ⟨x.s.toArray⟩] 36)).cell? (Addr.add ⟨g, 0, none⟩ j) = some u := cells_new w (rlCell x) 36 g hg
theorem RowAt.mop {w : World} {a : Option Addr} {l : List MOp} (h : RowAt w a 4 mopCell l) {k : Nat} (hk : k < l.length) : ∃ b o, a = some ⟨b, o, none⟩ ∧ w.cell? ⟨b, o + k * 4, none⟩ = some (.int .i64 l[k].kind) ∧ w.cell? ⟨b, o + k * 4 + 1, none⟩ = some (.int .i64 l[k].to) ∧ w.cell? ⟨b, o + k * 4 + 2, none⟩ = some (.string ⟨l[k].s.toArray⟩) ∧ w.cell? ⟨b, o + k * 4 + 3, none⟩ = some (.int .u8 (l[k].set : Nat)) := by
  obtain ⟨b, o, rfl, hc⟩ := h.2 (by intro e; simp [e] at hk)
  have h0 := hc k hk 0 _ rfl
  have h1 := hc k hk 1 _ rfl
  have h2 := hc k hk 2 _ rfl
  have h3 := hc k hk 3 _ rfl
  exact ⟨b, o, rfl, by simpa using h0, by simpa using h1, by simpa using h2, by simpa using h3⟩
end
end Go.Proofs.Ytpanfhkmildkeaa
