/- The contract of the document's Read. -/
import Derived.Test.YtjkfocmfgcmegaaRound
import Derived.Test.YtjkfocmfgcmegaaRefPrint
import Derived.Test.YtjkfocmfgcmegaaOne
import Derived.Test.YtjkfocmfgcmegaaOpen
namespace Go.Proofs.Ytjkfocmfgcmegaa
open Go.RowKit

theorem byte_at (l : List UInt8) (A : Nat) (c : UInt8) (L : List UInt8) (h : l.drop A = c :: L) (h' : A < (⟨l.toArray⟩ : ByteArray).size) : (⟨l.toArray⟩ : ByteArray)[A] = c := by
  have e : l[A]? = some c := by
    have := congrArg (fun x => x[0]?) h
    simpa using this
  have hA : A < l.length := (List.getElem?_eq_some_iff.1 e).1
  have e2 : l[A] = c := by rw [List.getElem?_eq_getElem hA] at e; exact Option.some.inj e
  exact e2

/-- A row of instructions of the call's own. -/
def OwnI (w : World) (B : Nat) (v : Value) (l : List Ins) : Prop := w.ownsRow B 34 4 v l.length (insCells l)
theorem OwnI.alloc {w : World} {B : Nat} {v : Value} {l : List Ins} (h : OwnI w B v l) (o : Obj) : OwnI (w.alloc o) B v l := World.ownsRow.alloc h o
theorem OwnI.drew {w : World} {B : Nat} {v : Value} {l : List Ins} (h : OwnI w B v l) : OwnI w.drew B v l := h
theorem ownI_nil (w : World) (B : Nat) : OwnI w B (.slice none 0 0) [] := World.ownsRow_nil w B _ _

theorem step_appendI {w : World} {ops : Array Oper} {o : Oper} {a : Act} {K : Act → World → Prop} {Q : Exit → Act → World → Prop} {E : Prop} (hgd : o.guard = none) (s x : Operand)
    (ho : o.op = .call { callee := .builtin .append, args := #[s, x], argTypes := #[32, 32] }) (B : Nat) (v : Value) (l : List Ins) (hs : a.eval s = v) (hown : OwnI w B v l)
    (ad : Addr) (hx : a.eval x = .slice (some ad) 1 1) (i : Ins) (hnews : ∀ j u, (insCells [i])[j]? = some u → w.cell? (ad.add j) = some u)
    (hlen : l.length ≤ 1000000) (hB : B ≤ w.heap.size)
    (h : ∀ v' w', OwnI w' B v' (l ++ [i]) → Below B w w' → K (a.put o.dst v') w') : if Region.wanted o (yielded ops a.tmps) = true then Oper.wp Try.prog o a w K Q else E := by
  have hw : Region.wanted o (yielded ops a.tmps) = true := by simp [Region.wanted, hgd]
  rw [if_pos hw]
  have hinfo : (Try.prog.info? 34).map (fun i => (i.zero, i.size, i.bytes)) = some (some (.agg #[.int .i64 0, .int .i64 0, .int .i64 0, .int .i64 0]), 4, 32) := by kernel_rfl
  obtain ⟨t, hi, hzz⟩ := Option.map_eq_some_iff.1 hinfo
  simp only [Prod.mk.injEq] at hzz
  obtain ⟨hz, hsz, hby⟩ := hzz
  refine wp_append_own w s x 32 ho B 34 t (.agg #[.int .i64 0, .int .i64 0, .int .i64 0, .int .i64 0]) 4 32 Try.underlying32 hi hz hsz hby rfl (by decide) v l.length (insCells l) hs hown ad 1 1 (insCells [i]) hx rfl hnews
    (insCells_one _) (by unfold maxLen; omega) (by omega) hB ?_
  intro v' w' h1 h2 _
  refine h v' w' ?_ ((Below.refl B w).grown h2 hB (fun k hk => (World.ownsRow.lt hown k hk).1))
  unfold OwnI
  rw [List.length_append, insCells_append]
  exact h1

theorem ins_new (w : World) (i : Ins) (t : TypeId) (g : Nat) (hg : g = w.heap.size) : ∀ j u, (insCells [i])[j]? = some u → (w.alloc (.cells #[.int .i64 i.kind, .int .i64 i.r, .int .i64 i.x, .int .i64 i.n] t)).cell? (Addr.add ⟨g, 0, none⟩ j) = some u := by
  subst hg
  intro j u hj
  rw [add_row, Nat.zero_add, World.cell?_alloc_new]
  simpa [insCells] using hj

/-- A code in a row of the call's own. -/
def OwnC (w : World) (B : Nat) (c : Option Addr) (l : List Ins) : Prop :=
  l ≠ [] → ∃ g cur, c = some ⟨g, 0, none⟩ ∧ B ≤ g ∧ w.heap[g]? = some (.cells cur 34 (0, 0)) ∧ cur.toList.take (l.length * 4) = insCells l

theorem OwnI.code {w : World} {B : Nat} {v : Value} {l : List Ins} (h : OwnI w B v l) : ∃ c cap, v = .slice c l.length cap ∧ (c = none → cap = 0) ∧ OwnC w B c l := by
  obtain ⟨h1, ⟨h2, h3⟩ | ⟨g, cap, cur, h2, h3, h4, h5, h6, h7, h8⟩⟩ := h
  · have e : l = [] := List.eq_nil_of_length_eq_zero h3
    subst e
    exact ⟨none, 0, h2, fun _ => rfl, fun h => absurd rfl h⟩
  · exact ⟨some ⟨g, 0, none⟩, cap, h2, by simp, fun _ => ⟨g, cur, rfl, h3, h4, h8⟩⟩

theorem OwnC.at {w : World} {B : Nat} {c : Option Addr} {l : List Ins} (h : OwnC w B c l) (hm : l.length ≤ 1000) : CodeAt w c l := by
  refine ⟨by unfold maxLen; omega, fun hne => ?_⟩
  obtain ⟨g, cur, rfl, _, h4, h8⟩ := h hne
  refine ⟨g, 0, rfl, fun i hi => ?_⟩
  have hcell : ∀ j u, (insCells l)[j]? = some u → w.cell? ⟨g, j, none⟩ = some u := by
    intro j u hj
    have hjl : j < l.length * 4 := by
      have := (List.getElem?_eq_some_iff.1 hj).1
      rw [insCells_length] at this
      exact this
    rw [← h8, List.getElem?_take_of_lt (by omega)] at hj
    simp [World.cell?, h4]
    simpa using hj
  simp only [Nat.zero_add]
  exact ⟨hcell _ _ (by simpa using insCells_get l i 0 hi (by omega)), hcell _ _ (by simpa using insCells_get l i 1 hi (by omega)), hcell _ _ (by simpa using insCells_get l i 2 hi (by omega)), hcell _ _ (by simpa using insCells_get l i 3 hi (by omega))⟩

theorem OwnC.keep {w w' : World} {B B' : Nat} {c : Option Addr} {l : List Ins} (h : OwnC w B c l) (hB : B' ≤ B) (hk : ∀ (g : Nat) (cur : Array Value), B ≤ g → w.heap[g]? = some (Obj.cells cur 34 (0, 0)) → w'.heap[g]? = w.heap[g]?) : OwnC w' B' c l := by
  intro hne
  obtain ⟨g, cur, e, h1, h2, h3⟩ := h hne
  exact ⟨g, cur, e, by omega, (hk g cur h1 h2).trans h2, h3⟩

theorem ownsRow_later {w w' : World} {base : Nat} {e : TypeId} {size : Nat} {v : Value} {n : Nat} {xs : List Value} (h : w.ownsRow base e size v n xs) (hb : Below w.heap.size w w') : w'.ownsRow base e size v n xs := by
  obtain ⟨h1, h2 | ⟨g, cap, cur, h2, h3, h4, h5⟩⟩ := h
  · exact ⟨h1, .inl h2⟩
  · exact ⟨h1, .inr ⟨g, cap, cur, h2, h3, (hb.block g (Array.getElem?_eq_some_iff.1 h4).1).trans h4, h5⟩⟩

/-- In the middle of reading: the box of the program, its row of threads, the threads that are read. -/
def RR (w : World) (V M : Int) (ts : List (List Ins)) (wr : World) : Prop :=
  Below (w.heap.size + 1) (w.alloc (.cells #[.int .i64 0, .int .i64 0, .slice none 0 0] 24)) wr ∧ ∃ (tv : Value) (vs : List Value), wr.heap[w.heap.size + 1]? = some (.cells #[.int .i64 V, .int .i64 M, tv] 24 (0, 0)) ∧
    wr.ownsRow (w.heap.size + 1 + 1) 32 1 tv ts.length vs ∧ ∀ i (h : i < ts.length), ∃ c cap, vs[i]? = some (.slice c ts[i].length cap) ∧ (c = none → cap = 0) ∧ OwnC wr (w.heap.size + 1 + 1) c ts[i]

theorem RR.drew {w : World} {V M : Int} {ts : List (List Ins)} {wr : World} (h : RR w V M ts wr) : RR w V M ts wr.drew := ⟨h.1.drew, h.2⟩

theorem RR.later {w : World} {V M : Int} {ts : List (List Ins)} {wr w' : World} (h : RR w V M ts wr) (hb : Below wr.heap.size wr w') : RR w V M ts w' := by
  have lt : ∀ {g : Nat} {o : Obj}, wr.heap[g]? = some o → g < wr.heap.size := fun e => (Array.getElem?_eq_some_iff.1 e).1
  obtain ⟨h1, tv, vs, h2, h3, h4⟩ := h
  have hs := h1.size
  simp at hs
  refine ⟨h1.trans (hb.mono (by omega)), tv, vs, (hb.block _ (lt h2)).trans h2, ownsRow_later h3 hb, fun i hi => ?_⟩
  obtain ⟨c, cap, q1, q2, q3⟩ := h4 i hi
  exact ⟨c, cap, q1, q2, q3.keep (Nat.le_refl _) (fun g cur _ e => hb.block g (lt e))⟩

theorem RR.start (w : World) (V M : Int) : RR w V M [] ((w.alloc (.cells #[.int .i64 0, .int .i64 0, .slice none 0 0] 24)).alloc (.cells #[.int .i64 V, .int .i64 M, .slice none 0 0] 24)) := by
  refine ⟨(Below.refl _ _).alloc (by simp) _, .slice none 0 0, [], ?_, World.ownsRow_nil _ _ _ _, by simp⟩
  have := (MapKept.heap_alloc (w.alloc (.cells #[.int .i64 0, .int .i64 0, .slice none 0 0] 24)) (.cells #[.int .i64 V, .int .i64 M, .slice none 0 0] 24)).1
  simpa using this

/-- Behind the append of a code: the box, and the row with it. -/
theorem RR.mid {w : World} {V M : Int} {ts : List (List Ins)} {wx w6 : World} {tv : Value} {vs : List Value} (h1 : Below (w.heap.size + 1) (w.alloc (.cells #[.int .i64 0, .int .i64 0, .slice none 0 0] 24)) wx)
    (h2 : wx.heap[w.heap.size + 1]? = some (.cells #[.int .i64 V, .int .i64 M, tv] 24 (0, 0))) (h3 : wx.ownsRow (w.heap.size + 1 + 1) 32 1 tv ts.length vs)
    (h4 : ∀ i (h : i < ts.length), ∃ c cap, vs[i]? = some (.slice c ts[i].length cap) ∧ (c = none → cap = 0) ∧ OwnC wx (w.heap.size + 1 + 1) c ts[i])
    (code : List Ins) (c : Option Addr) (m cap : Nat) (hm : m = code.length) (hcap : c = none → cap = 0) (hcode : OwnC wx (w.heap.size + 1 + 1) c code) (o : Obj) (v6 : Value)
    (ho6 : w6.ownsRow (w.heap.size + 1 + 1) 32 1 v6 (ts.length + 1) (vs ++ [.slice c m cap])) (hg6 : (wx.alloc o).grownBy w6 tv.ownBlock) :
    ∃ g6 cap6, v6 = .slice (some ⟨g6, 0, none⟩) (ts.length + 1) cap6 ∧ w6.cell? ⟨w.heap.size + 1, 0, none⟩ = some (.int .i64 V) ∧ w6.cell? ⟨w.heap.size + 1, 1, none⟩ = some (.int .i64 M) ∧ w6.cell? ⟨w.heap.size + 1, 2, none⟩ = some tv ∧
      w6.frozen? ⟨w.heap.size + 1, 2, none⟩ = false ∧ Hid (RR w V M (ts ++ [code]) (w6.setCell ⟨w.heap.size + 1, 2, none⟩ (.slice (some ⟨g6, 0, none⟩) (ts.length + 1) cap6))) := by
  subst hm
  have lt : ∀ {g : Nat} {o : Obj}, wx.heap[g]? = some o → g < wx.heap.size := fun e => (Array.getElem?_eq_some_iff.1 e).1
  have hs := h1.size
  simp at hs
  have own : ∀ k, tv.ownBlock = some k → w.heap.size + 1 + 1 ≤ k ∧ ∃ cur, wx.heap[k]? = some (.cells cur 32 (0, 0)) := by
    intro k hk
    obtain ⟨_, ⟨e, _⟩ | ⟨g, cap', cur, e, r1, r2, _⟩⟩ := h3
    · rw [e] at hk; cases hk
    · rw [e] at hk
      obtain rfl : g = k := by simpa [Value.ownBlock] using hk
      exact ⟨r1, cur, r2⟩
  have hbox : w6.heap[w.heap.size + 1]? = some (.cells #[.int .i64 V, .int .i64 M, tv] 24 (0, 0)) := by
    rw [hg6.block _ (by have := lt h2; simp; omega) (fun e => by have := (own _ e.symm).1; omega), Below.heap_alloc _ _ _ (lt h2)]
    exact h2
  have keepC : ∀ (g : Nat) (cur : Array Value), wx.heap[g]? = some (Obj.cells cur 34 (0, 0)) → w6.heap[g]? = wx.heap[g]? := by
    intro g cur e
    rw [hg6.block _ (by have := lt e; simp; omega) (fun e' => by
      obtain ⟨_, cur', e2⟩ := own _ e'.symm
      rw [e] at e2
      simp at e2), Below.heap_alloc _ _ _ (lt e)]
  have hform : ∃ g6 cap6 cur6, v6 = .slice (some ⟨g6, 0, none⟩) (ts.length + 1) cap6 ∧ w.heap.size + 1 + 1 ≤ g6 ∧ w6.heap[g6]? = some (.cells cur6 32 (0, 0)) := by
    obtain ⟨_, ⟨_, e⟩ | ⟨g, cap', cur, e, r1, r2, _⟩⟩ := ho6
    · exact absurd e (by omega)
    · exact ⟨g, cap', cur, e, r1, r2⟩
  obtain ⟨g6, cap6, cur6, rfl, hg6B, hg6h⟩ := hform
  refine ⟨g6, cap6, rfl, by simp [World.cell?, hbox], by simp [World.cell?, hbox], by simp [World.cell?, hbox], by simp [World.frozen?, hbox], ?_⟩
  have hother : ∀ k, k ≠ w.heap.size + 1 → (w6.setCell ⟨w.heap.size + 1, 2, none⟩ (.slice (some ⟨g6, 0, none⟩) (ts.length + 1) cap6)).heap[k]? = w6.heap[k]? := fun k hk => Below.heap_setCell _ _ _ _ hk
  have hb6 : Below (w.heap.size + 1) (w.alloc (.cells #[.int .i64 0, .int .i64 0, .slice none 0 0] 24)) w6 := (h1.alloc (by omega) _).grown hg6 (by simp; omega) (fun k hk => by have := (own k hk).1; omega)
  refine ⟨hb6.setCell (p := ⟨w.heap.size + 1, 2, none⟩) (Nat.le_refl _) _, .slice (some ⟨g6, 0, none⟩) (ts.length + 1) cap6, vs ++ [.slice c code.length cap], ?_, ?_, fun i hi => ?_⟩
  · have := row_set (vs := [.int .i64 V, .int .i64 M, tv]) (k := 2) hbox (.slice (some ⟨g6, 0, none⟩) (ts.length + 1) cap6)
    simpa using this
  · obtain ⟨r1, ⟨r2, r3⟩ | ⟨g, cap', cur, r2, r3, r4, r5⟩⟩ := ho6
    · exact absurd r3 (by omega)
    · refine ⟨by simpa using r1, .inr ⟨g, cap', cur, by simpa using r2, r3, ?_, by simpa using r5⟩⟩
      rw [hother g (by omega)]; exact r4
  · by_cases hi' : i < ts.length
    · obtain ⟨c', cap', q1, q2, q3⟩ := h4 i hi'
      have hvl : vs.length = ts.length := by have := h3.1; omega
      have e : (ts ++ [code])[i]'hi = ts[i] := List.getElem_append_left hi'
      rw [e]
      exact ⟨c', cap', by rw [List.getElem?_append_left (by omega)]; exact q1, q2, q3.keep (Nat.le_refl _) (fun g cur hg e => by rw [hother g (by omega)]; exact keepC g cur e)⟩
    · have hvl : vs.length = ts.length := by have := h3.1; omega
      have hi2 : i = ts.length := by simp at hi; omega
      subst hi2
      have e : (ts ++ [code])[ts.length]'hi = code := by simp
      rw [e]
      exact ⟨c, cap, by rw [← hvl]; simp, hcap, hcode.keep (Nat.le_refl _) (fun g cur hg e => by rw [hother g (by omega)]; exact keepC g cur e)⟩

theorem RR.threads {w : World} {V M : Int} {ts : List (List Ins)} {wr : World} (h : RR w V M ts wr) (hm : ts.length ≤ 1000) (hms : ∀ l ∈ ts, l.length ≤ 1000) : ∃ a cap, wr.heap[w.heap.size + 1]? = some (.cells #[.int .i64 V, .int .i64 M, .slice a ts.length cap] 24 (0, 0)) ∧ (a = none → cap = 0) ∧ ThreadsAt wr a ts ∧
    ∀ w', (∀ k, w.heap.size < k → k < wr.heap.size → w'.heap[k]? = wr.heap[k]?) → ThreadsAt w' a ts := by
  obtain ⟨h1, tv, vs, h2, ⟨h3, ⟨e, e0⟩ | ⟨g, cap, cur, e, r1, r2, r3, r4, r5, r6⟩⟩, h4⟩ := h
  · have et : ts = [] := List.eq_nil_of_length_eq_zero e0
    subst et
    exact ⟨none, 0, by rw [h2, e]; rfl, fun _ => rfl, ⟨by simp [maxLen], fun h => absurd rfl h⟩, fun _ _ => ⟨by simp [maxLen], fun h => absurd rfl h⟩⟩
  · have key : ∀ w', (∀ k, w.heap.size < k → k < wr.heap.size → w'.heap[k]? = wr.heap[k]?) → ThreadsAt w' (some ⟨g, 0, none⟩) ts := by
      intro w' hk
      have r2' : w'.heap[g]? = some (.cells cur 32 (0, 0)) := (hk g (by omega) (Array.getElem?_eq_some_iff.1 r2).1).trans r2
      refine ⟨by unfold maxLen; omega, fun _ => ⟨g, 0, rfl, fun i hi => ?_⟩⟩
      obtain ⟨c, ccap, q1, q2, q3⟩ := h4 i hi
      refine ⟨c, ccap, ?_, OwnC.at (B := w.heap.size + 1 + 1) (q3.keep (Nat.le_refl _) (fun g' cur' hg' e' => hk g' (by omega) (Array.getElem?_eq_some_iff.1 e').1)) (hms _ (List.getElem_mem hi)), q2⟩
      rw [← r6, List.getElem?_take_of_lt (by omega)] at q1
      simp [World.cell?, r2']
      simpa using q1
    exact ⟨some ⟨g, 0, none⟩, cap, by rw [h2, e], by simp, key wr (fun _ _ _ => rfl), key⟩
end Go.Proofs.Ytjkfocmfgcmegaa
