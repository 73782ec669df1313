import Derived.Lib.AppendStr
import Derived.Laws.StructEq
import Derived.StillTailTactics
import Derived.Maps.OwnSet
import Derived.Maps.Views
import Derived.Sort.KeysCollected
import Derived.Deep.RegionHeld3
import Derived.Deep.WholeRow
import Derived.Deep.MidRow
import Derived.Laws.EntriesVeiled
import Derived.Test.YtljlaopjimkcmaaGreatPk01
import Derived.Test.YtljlaopjimkcmaaGreatPk02
import Derived.Test.YtljlaopjimkcmaaGreatPk03

/- The contract of foata's levelOf. -/
namespace Go.Proofs.YtljlaopjimkcmaaGreat
open Go.RowKit Go.Shelf

attribute [local go_sem] Oper.semAt_some

/-- Has level i one that e depends on? -/
def hasD (m : List (List Ev)) (e : Ev) (i : Nat) : Bool := (m.getD i []).any fun x => dep x e
theorem lvN_is {m : List (List Ev)} {e : Ev} {q : Nat} (hq : q < m.length) (h : hasD m e q = true) (h2 : ∀ j, q < j → j < m.length → hasD m e j = false) : lvN m e = q + 1 := by
  have h1 : q < lvN m e := top_ge (f := fun i => i + 1) (q := fun i => (m.getD i []).any fun x => dep x e) hq h
  rcases top_zero_or (f := fun i => i + 1) (q := fun i => (m.getD i []).any fun x => dep x e) (n := m.length) with h0 | ⟨j, hj, hj2, hj3⟩
  · have : lvN m e = 0 := h0
    omega
  · have h3 : lvN m e = j + 1 := hj3
    by_cases e' : j = q
    · omega
    · have h4 := h2 j (by omega) hj
      unfold hasD at h4
      rw [h4] at hj2
      cases hj2
theorem lvN_zero {m : List (List Ev)} {e : Ev} (h : ∀ j, j < m.length → hasD m e j = false) : lvN m e = 0 := by
  rcases top_zero_or (f := fun i => i + 1) (q := fun i => (m.getD i []).any fun x => dep x e) (n := m.length) with h0 | ⟨j, hj, hj2, _⟩
  · exact h0
  · have h4 := h j hj
    unfold hasD at h4
    rw [h4] at hj2
    cases hj2

/-- None of the levels that came has one. -/
def NoD (m : List (List Ev)) (e : Ev) {n : Nat} (pre : List (Fin n)) : Prop := ∀ q ∈ pre, hasD m e q.val = false
theorem NoD.snoc {m : List (List Ev)} {e : Ev} {n : Nat} {pre : List (Fin n)} (h : NoD m e pre) {q : Fin n} (hq : hasD m e q.val = false) : NoD m e (pre ++ [q]) := by
  intro x hx
  rcases List.mem_append.1 hx with hx | hx
  · exact h x hx
  · simp at hx
    rw [hx]
    exact hq

theorem keepsO_below {W W' : World} (h : Below W.heap.size W W') : KeepsOthers W W' := ⟨h.size, fun k _ ho _ => (h.block k (Array.getElem?_eq_some_iff.1 ho).1).trans ho⟩

set_option maxRecDepth 100000 in
set_option maxHeartbeats 4000000 in
theorem levelOf_any (a : Option Addr) (cap : Nat) (m : List (List Ev)) (e : Ev) (w : World) (hl : LvAt w a m) (hm : m.length ≤ 1000) :
    Calls Tryz.prog 59 #[.slice a m.length cap, .agg #[.int .i64 e.thread, .int .i64 e.kind, .int .i64 e.obj, .bool e.fail]] w fun r w' => r = .returned (.int .i64 (lvN m e)) ∧ Below w.heap.size w w' := by
  obtain ⟨ss, hsl, hrow, hin⟩ := hl
  have HIN := Lib.hid hin
  have HSL := Lib.hid hsl
  clear hin
  have hsm : ss.length ≤ 1000 := by omega
  rw [← hsl]
  clear hsl hm
  refine (callsIn_wide (n := 3)).1 ?_
  have h1 : 1 ≤ 3 := by omega
  refine callsIn_of_wp_marks Tryz.func59 rfl trivial ?_ rfl
  simp only [Tryz.ntmps59, List.size_toArray, List.length_cons, List.length_nil, Nat.reduceAdd, Nat.reduceSub, Array.replicate_succ, Array.replicate_zero, List.push_toArray, List.append_toArray, List.nil_append, List.cons_append]
  have hb0 := below_alloc2 w (.cells #[.int .i64 e.thread, .int .i64 e.kind, .int .i64 e.obj, .bool e.fail] 51) (.cells #[.int .i64 0] 3)
  have hsz : ((w.alloc (.cells #[.int .i64 e.thread, .int .i64 e.kind, .int .i64 e.obj, .bool e.fail] 51)).alloc (.cells #[.int .i64 0] 3)).heap.size = w.heap.size + 1 + 1 := by simp
  have HBX : Hid (EvBox ((w.alloc (.cells #[.int .i64 e.thread, .int .i64 e.kind, .int .i64 e.obj, .bool e.fail] 51)).alloc (.cells #[.int .i64 0] 3)) w.heap.size e) := (EvBox.new w e).later (below_alloc1 _ _)
  have HR : Hid (MidAt ((w.alloc (.cells #[.int .i64 e.thread, .int .i64 e.kind, .int .i64 e.obj, .bool e.fail] 51)).alloc (.cells #[.int .i64 0] 3)) (w.heap.size + 1) 3 [.int .i64 0]) := heap_alloc2_new w _ _
  gi_wp2_with fail
  generalize (w.alloc (.cells #[.int .i64 e.thread, .int .i64 e.kind, .int .i64 e.obj, .bool e.fail] 51)).alloc (.cells #[.int .i64 0] 3) = W0 at *
  refine ⟨trivial, ?_⟩
  refine (backL_in Fence.wide _ trivial rfl _ _ _ _).mono ?_
  rintro r w' ⟨rfl, rfl⟩
  have hb2 := below_alloc1 W0 (.cells #[.slice a ss.length cap] 94)
  have hB2 : Below w.heap.size w (W0.alloc (.cells #[.slice a ss.length cap] 94)) := hb0.trans (hb2.mono hb0.size)
  have hbs : (W0.alloc (.cells #[.slice a ss.length cap] 94)).cell? ⟨W0.heap.size, 0, none⟩ = some (.slice a ss.length cap) := by simp
  have hrow2 := hrow.later hB2
  have hbk : 0 < ss.length → ∀ b o, a = some ⟨b, o, none⟩ → b < W0.heap.size + 1 := by
    rintro h b o rfl
    obtain ⟨b', o', e, hc⟩ := hrow.2 (by intro e; rw [e] at h; simp at h)
    cases e
    have h2 : b < w.heap.size := cell_block (hc 0 h 0 _ rfl)
    have := hb0.size
    omega
  have HR0 := Lib.hid (HR.out.later hb2)
  have HBX0 := Lib.hid (HBX.out.later hb2)
  have hsl : (W0.alloc (.cells #[.slice a ss.length cap] 94)).heap.size = W0.heap.size + 1 := by simp
  gi_wp2
  generalize W0.alloc (.cells #[.slice a ss.length cap] 94) = Wl at *
  rw [hsz] at hbs hsl
  refine wpIn_rangeFunc_ownH rfl h1 (gf := 98) (lb := #[.pointer (some ⟨w.heap.size + 1 + 1, 0, none⟩)]) rfl trivial (enters_of Tryz.func98 (by kernel_rfl) rfl)
    (backL_stops Fence.wide (3 - 1) trivial rfl (by omega) (w.heap.size + 1 + 1) (w.heap.size + 1 + 1 + 1) a cap ss hsm Wl (by omega) (by omega) hbs hrow2 (fun h b o hb => by have := hbk h b o hb; omega)) belowK_t (belowK_b (by omega)) (Below.refl _ _) (fun _ => rfl)
    (fun pre W => NoD m e pre ∧ Below Wl.heap.size Wl W)
    (fun c pre W => (c = .ret ∧ ∃ ini last, pre = ini ++ [last] ∧ NoD m e ini ∧ hasD m e last.val = true ∧ MidAt W (w.heap.size + 1) 3 [.int .i64 ((last.val : Int) + 1)]) ∧ Below w.heap.size w W)
    (OwnFrom.and (ownFrom_pure _ (fun pre => NoD m e pre)) (ownFrom_below (Nat.le_refl _) (by omega)))
    (fun c => OwnFrom.and (Own.from (fun s A B row hs hg hr => by obtain ⟨hc, ini, last, e1, e2, e3, e4⟩ := hs; exact ⟨hc, ini, last, e1, e2, e3, e4.keptRow hg hr⟩) _) (ownFrom_below (Nat.le_refl _) (by omega)))
    ⟨(fun q hq => absurd hq (by simp)), Below.refl _ _⟩
    (fun x a'' _ => a'' = { tmps := #[.slice a ss.length cap, .agg #[.int .i64 e.thread, .int .i64 e.kind, .int .i64 e.obj, .bool e.fail], undef, .pointer (some ⟨w.heap.size, 0, none⟩), .pointer (some ⟨w.heap.size + 1, 0, none⟩), .int .i64 (x.val : Int), .slice ss[x.val].a ss[x.val].n ss[x.val].c, .slice a ss.length cap, .func (.func 98) #[] #[.pointer (some ⟨w.heap.size + 1 + 1, 0, none⟩)], .int .i64 (x.val : Int), .slice ss[x.val].a ss[x.val].n ss[x.val].c, undef, undef, undef, undef, undef], defers := [] })
    (fun x a'' _ X Y row hs hg hr => hs)
    ?assign ?body ?done ?stop
  case assign =>
    rintro l1 pre x W K ⟨hN, hB⟩ hK
    dsimp only [backL]
    gi_wp2
    exact hK _ _ ((KeepsOthers.refl W).from _) (Below.refl _ W) ⟨hN, hB⟩ rfl
  case body =>
    rintro l1 pre x a'' W hl ⟨r, hr⟩ ⟨hN, hB⟩ rfl hlt
    have HX := Lib.hid (HBX0.out.later hB)
    have HRX := Lib.hid (HR0.out.later hB)
    have hBw := hB2.trans (hB.mono hB2.size)
    obtain ⟨hn1, hn2, _⟩ := HIN.out x.val x.isLt
    have HC := Lib.hid (containsE_any ss[x.val].a ss[x.val].c (m.getD x.val []) e w.heap.size W (hn2.later hBw) HX.out)
    rw [← hn1] at HC
    have HN := Lib.hid hN
    have hf := HRX.out.frozen 0
    have hz := HRX.out.cell 0
    clear hN hn1 hn2
    gi_wp2_with fail
    refine ⟨trivial, ?_⟩
    refine (callsIn_wide.2 HC.out).mono ?_
    rintro r W2 ⟨rfl, hb3⟩
    have hks : KeepsOthers W W2 := keepsO_below hb3
    have hB3 := hB.trans (hb3.mono hB.size)
    have hBw3 := hB2.trans (hB3.mono hB2.size)
    have HRX3 := Lib.hid (HRX.out.later hb3)
    have hf3 := HRX3.out.frozen 0
    have hz3 : W2.cell? ⟨w.heap.size + 1, 0, none⟩ = some (.int .i64 0) := HRX3.out.cell 0
    have hx1000 : (x.val : Int) < 1000 := by have := x.isLt; omega
    have hx0 : (0 : Int) ≤ x.val := by omega
    clear hf hz
    cases hd : (m.getD x.val []).any fun x => dep x e
    · have HN2 : Hid (NoD m e (pre ++ [x])) := HN.out.snoc hd
      clear hd
      gi_wp2
      exact ⟨hks.from _, hb3.mono (by have := hB.size; omega), HN2.out, hB3⟩
    · have HD : Hid (hasD m e x.val = true) := hd
      clear hd
      gi_wp2
      refine ⟨(hks.trans (KeepsOthers.setCell _ _ _)).from _, ⟨rfl, pre, x, rfl, HN.out, HD.out, ?_⟩, hBw3.setCell (p := ⟨w.heap.size + 1, 0, none⟩) (by simp) _⟩
      exact MidAt.set HRX3.out 0 _
  case done =>
    rintro D ys W hD hys ⟨hN, hB⟩ hK
    have HZ := Lib.hid (HR0.out.later hB)
    have hBw := hB2.trans (hB.mono hB2.size)
    have z0 : W.cell? ⟨w.heap.size + 1, 0, none⟩ = some (.int .i64 0) := HZ.out.cell 0
    have f0 := HZ.out.frozen 0
    have HIS : Hid (lvN m e = 0) := lvN_zero fun j hj => by
      have hjs : j < ss.length := by rw [HSL.out]; exact hj
      exact hN _ (hys.mem (j := j) (by omega) hjs (Nat.le_refl _))
    clear hN hys
    gi_wp2
    have hK' := (KeepsOthers.setCell W ⟨w.heap.size + 1, 0, none⟩ (.int .i64 0)).same D _ hK rfl
    have hM : MidAt (W.setCell ⟨w.heap.size + 1, 0, none⟩ (.int .i64 0)) (w.heap.size + 1) 3 [.int .i64 0] := MidAt.set HZ.out 0 _
    have y0 := (hM.keptRow (grownBy_putObj' _ D (.deferred none)) (fun r e => by cases e; exact ⟨_, hK', rfl⟩)).cell 0
    refine ⟨by simp, .inl ⟨_, _, rfl, run_takeDeferred hK', ?_⟩⟩
    refine ⟨.int .i64 0, ?_, (by rw [HIS.out]; rfl), (hBw.setCell (p := ⟨w.heap.size + 1, 0, none⟩) (by simp) _).trans (belowK_b (w := w) (Nat.le_refl _) _ D _ _ (by omega) hK' rfl rfl)⟩
    simp [results, Tryz.f59, go_sem, y0]
  case stop =>
    rintro D c pre W hD ⟨k, hk, hbk2⟩ ⟨⟨rfl, ini, last, e1, e2, e3, e4⟩, hB⟩ hK
    have HIS : Hid (lvN m e = last.val + 1) := by
      have hlen := hbk2.len
      rw [e1, List.length_append, List.length_singleton] at hlen
      have hm2 : pre.map (fun q => q.val) = upto (fun k => ss.length - 1 - k) k := hbk2
      obtain ⟨k', rfl⟩ : ∃ k', k = k' + 1 := ⟨ini.length, by omega⟩
      rw [e1, List.map_append, upto_succ] at hm2
      obtain ⟨h5, h6⟩ := List.append_inj' hm2 rfl
      have hlv : last.val = ss.length - 1 - k' := by simpa using h6
      have hbi : Backs ss.length k' ini := h5
      have hlt := last.isLt
      refine lvN_is (by rw [← HSL.out]; exact hlt) e3 fun j hj hjl => ?_
      have hjc : j < ss.length := by rw [HSL.out]; exact hjl
      exact e2 _ (hbi.mem (j := j) (by omega) hjc (by omega))
    clear e1 e2 e3 hbk2
    gi_wp2
    have y0 := (e4.keptRow (grownBy_putObj' _ D (.deferred none)) (fun r e => by cases e; exact ⟨_, hK, rfl⟩)).cell 0
    refine ⟨by simp, .inl ⟨_, _, rfl, run_takeDeferred hK, ?_⟩⟩
    refine ⟨.int .i64 ((last.val : Int) + 1), ?_, (by rw [HIS.out]; rfl), hB.trans (belowK_b (w := w) (Nat.le_refl _) W D _ _ (by omega) hK rfl rfl)⟩
    simp [results, Tryz.f59, go_sem, y0]

end Go.Proofs.YtljlaopjimkcmaaGreat

/- Levels of one's own: one level more, and one level changed. -/
namespace Go.Proofs.YtljlaopjimkcmaaGreat
open Go.RowKit

theorem infoSl : (Tryz.prog.info? 47).map (fun i => (i.zero, i.size, i.bytes)) = some (some (.slice none 0 0), 1, 24) := by kernel_rfl
theorem tyNe : 47 ≠ 51 := by decide
theorem rows_apart {w : World} {B B' n n' m m' : Nat} {t t' : TypeId} {v v' : Value} {xs xs' : List Value} (h : w.ownsRow B t n v m xs) (h' : w.ownsRow B' t' n' v' m' xs') (hne : t ≠ t') : v.ownBlock = none ∨ v.ownBlock ≠ v'.ownBlock := by
  obtain ⟨_, ⟨rfl, _⟩ | ⟨g, cap, cur, rfl, _, hg, _⟩⟩ := h
  · exact .inl rfl
  · right
    obtain ⟨_, ⟨rfl, _⟩ | ⟨g', cap', cur', rfl, _, hg', _⟩⟩ := h'
    · simp [Value.ownBlock]
    · intro e
      injection e with e
      have e2 : g = g' := e
      subst e2
      rw [hg] at hg'
      injection hg' with hg'
      injection hg' with _ h2
      exact hne h2

/-- A level more, still empty. -/
theorem OwnLv.more {w w' : World} {B : Nat} {v v' : Value} {ss : List Sl} {m : List (List Ev)} (h : OwnLv w B v ss m) (ho : OwnRow w' B 47 1 slCell v' (ss ++ [⟨none, 0, 0⟩])) (hg : w.grownBy w' v.ownBlock) :
    OwnLv w' B v' (ss ++ [⟨none, 0, 0⟩]) (m ++ [[]]) := by
  refine ⟨by simp [h.len], ho, fun i hi => ?_, fun i j hi hj hne => ?_⟩
  · by_cases hlt : i < ss.length
    · have e1 : (ss ++ [(⟨none, 0, 0⟩ : Sl)])[i] = ss[i] := List.getElem_append_left hlt
      have e2 : (m ++ [[]]).getD i [] = m.getD i [] := by simp [List.getD, List.getElem?_append_left (show i < m.length by rw [← h.len]; exact hlt)]
      rw [e1, e2]
      refine World.ownsRow.kept (h.inner i hlt) hg ?_
      exact rows_apart (h.inner i hlt) h.outer (Ne.symm tyNe)
    · have e0 : i = ss.length := by simp at hi; omega
      subst e0
      have e1 : (ss ++ [(⟨none, 0, 0⟩ : Sl)])[ss.length] = ⟨none, 0, 0⟩ := by simp
      have e2 : (m ++ [[]]).getD ss.length [] = [] := by rw [h.len]; simp [List.getD]
      rw [e1, e2]
      exact ownE_nil _ _
  · by_cases hlt : i < ss.length
    · have e1 : (ss ++ [(⟨none, 0, 0⟩ : Sl)])[i] = ss[i] := List.getElem_append_left hlt
      rw [e1]
      by_cases hlj : j < ss.length
      · have e2 : (ss ++ [(⟨none, 0, 0⟩ : Sl)])[j] = ss[j] := List.getElem_append_left hlj
        rw [e2]
        exact h.apart i j hlt hlj hne
      · have e0 : j = ss.length := by simp at hj; omega
        subst e0
        have e2 : (ss ++ [(⟨none, 0, 0⟩ : Sl)])[ss.length] = ⟨none, 0, 0⟩ := by simp
        rw [e2]
        cases hb : (slV ss[i]).ownBlock
        · exact .inl rfl
        · exact .inr (by simp [slV, Value.ownBlock])
    · have e0 : i = ss.length := by simp at hi; omega
      subst e0
      left
      have e1 : (ss ++ [(⟨none, 0, 0⟩ : Sl)])[ss.length] = ⟨none, 0, 0⟩ := by simp
      rw [e1]
      rfl

theorem cellsL_one_set (ss : List Sl) (n : Nat) (s : Sl) : (cellsL slCell ss).set n (.slice s.a s.n s.c) = cellsL slCell (ss.set n s) := by
  induction ss generalizing n with
  | nil => rfl
  | cons x ss ih =>
    cases n with
    | zero => rfl
    | succ n =>
      show slCell x ++ _ = _
      simp only [cellsL, List.flatMap_cons, List.set_cons_succ] at *
      rw [← ih]
      rfl

/-- One level, changed. -/
theorem OwnLv.put {w w3 : World} {B g N cap n : Nat} {ss : List Sl} {m : List (List Ev)} {s' : Sl} {es' : List Ev} (h : OwnLv w B (.slice (some ⟨g, 0, none⟩) N cap) ss m) (hN : N = m.length) (_hn : n < N) (hn2 : n < ss.length)
    (ho : OwnE w3 B (slV s') es') (hg : w.grownBy w3 (slV ss[n]).ownBlock) (hb : ∀ b, (slV s').ownBlock = some b → (slV ss[n]).ownBlock = some b ∨ w.heap.size ≤ b) :
    OwnLv (w3.setCell ⟨g, n, none⟩ (.slice s'.a s'.n s'.c)) B (.slice (some ⟨g, 0, none⟩) N cap) (ss.set n s') (m.set n es') ∧ (w3.cell? ⟨g, n, none⟩).isSome = true ∧ w3.frozen? ⟨g, n, none⟩ = false := by
  have hout : w3.ownsRow B 47 1 (.slice (some ⟨g, 0, none⟩) N cap) ss.length (cellsL slCell ss) := World.ownsRow.kept h.outer hg (rows_apart h.outer (h.inner n hn2) tyNe)
  have hsN : ss.length = N := by rw [h.len, hN]
  rw [hsN] at hout
  have hst := hout.stored n (.slice s'.a s'.n s'.c)
  rw [cellsL_one_set] at hst
  have hgs : w3.grownBy (w3.setCell ⟨g, n, none⟩ (.slice s'.a s'.n s'.c)) (some g) := hst.2
  have hkeep : ∀ {v2 : Value} {es : List Ev}, OwnE w3 B v2 es → OwnE (w3.setCell ⟨g, n, none⟩ (.slice s'.a s'.n s'.c)) B v2 es := fun {v2 es} hv => World.ownsRow.kept hv hgs (rows_apart hv hout (Ne.symm tyNe))
  have hold : ∀ i (hi : i < ss.length), i ≠ n → OwnE w3 B (slV ss[i]) (m.getD i []) := fun i hi hne => World.ownsRow.kept (h.inner i hi) hg (h.apart i n hi hn2 hne)
  refine ⟨⟨by simp [h.len], ?_, fun i hi => ?_, fun i j hi hj hne => ?_⟩, ?_, hout.frozenAt n⟩
  · unfold OwnRow
    rw [List.length_set, hsN]
    exact hst.1
  · simp only [List.length_set] at hi
    by_cases e : n = i
    · subst e
      have e1 : (ss.set n s')[n]'(by simpa using hi) = s' := by simp
      have e2 : (m.set n es').getD n [] = es' := by simp [List.getD, show n < m.length by omega]
      rw [e1, e2]
      exact hkeep ho
    · have e1 : (ss.set n s')[i]'(by simpa using hi) = ss[i] := List.getElem_set_ne e _
      have e2 : (m.set n es').getD i [] = m.getD i [] := by simp [List.getD, List.getElem?_set_ne e]
      rw [e1, e2]
      exact hkeep (hold i hi (fun e' => e e'.symm))
  · simp only [List.length_set] at hi hj
    have hnew : ∀ i (hi : i < ss.length), i ≠ n → (slV s').ownBlock = none ∨ (slV s').ownBlock ≠ (slV ss[i]).ownBlock := fun i hi hne => by
      cases hb' : (slV s').ownBlock with
      | none => exact .inl rfl
      | some b =>
        right
        intro e
        rcases hb b hb' with h1 | h1
        · rcases h.apart n i hn2 hi (fun e => hne e.symm) with h2 | h2
          · rw [h1] at h2; cases h2
          · exact h2 (h1.trans e)
        · have := (World.ownsRow.lt (h.inner i hi) b e.symm).2
          omega
    by_cases e : n = i
    · subst e
      have e1 : (ss.set n s')[n]'(by simpa using hi) = s' := by simp
      have e2 : (ss.set n s')[j]'(by simpa using hj) = ss[j] := List.getElem_set_ne hne _
      rw [e1, e2]
      exact hnew j hj (fun e => hne e.symm)
    · have e1 : (ss.set n s')[i]'(by simpa using hi) = ss[i] := List.getElem_set_ne e _
      rw [e1]
      by_cases e' : n = j
      · subst e'
        have e2 : (ss.set n s')[n]'(by simpa using hj) = s' := by simp
        rw [e2]
        rcases hnew i hi hne with h1 | h1
        · cases hb2 : (slV ss[i]).ownBlock
          · exact .inl rfl
          · right; rw [h1]; simp
        · exact .inr (fun e => h1 e.symm)
      · have e2 : (ss.set n s')[j]'(by simpa using hj) = ss[j] := List.getElem_set_ne e' _
        rw [e2]
        exact h.apart i j hi hj hne
  · rw [hout.cellAt n (by omega), List.getElem?_eq_getElem (by rw [cellsL_length slCell_len]; omega)]
    rfl
theorem OwnLv.cell {w : World} {B g N cap n : Nat} {ss : List Sl} {m : List (List Ev)} (h : OwnLv w B (.slice (some ⟨g, 0, none⟩) N cap) ss m) (hN : N = m.length) (hn2 : n < ss.length) : w.cell? ⟨g, n, none⟩ = some (.slice ss[n].a ss[n].n ss[n].c) := by
  have hsN : ss.length = N := by rw [h.len, hN]
  have hout : w.ownsRow B 47 1 (.slice (some ⟨g, 0, none⟩) N cap) ss.length (cellsL slCell ss) := h.outer
  rw [hsN] at hout
  rw [hout.cellAt n (by omega)]
  have := cellsL_get slCell_len ss n 0 hn2 (by omega)
  rw [Nat.mul_one, Nat.add_zero] at this
  rw [this]
  rfl

/-- Putting an event in, in two steps. -/
def extL (m : List (List Ev)) (n : Nat) : List (List Ev) := if n < m.length then m else m ++ [[]]
theorem extL_length {m : List (List Ev)} {n : Nat} (h : n ≤ m.length) : n < (extL m n).length := by
  unfold extL
  split
  · assumption
  · simp; omega
theorem addL_ext (m : List (List Ev)) (e : Ev) : addL m e = (extL m (lvN m e)).set (lvN m e) (insE e ((extL m (lvN m e)).getD (lvN m e) [])) := by
  have hle := lvN_le m e
  unfold addL putL extL
  by_cases h : lvN m e < m.length
  · rw [if_pos h, if_pos h]
  · have h0 : lvN m e = m.length := by omega
    rw [if_neg h, if_neg h, h0]
    simp [List.getD, insE]
theorem extL_get (m : List (List Ev)) (n : Nat) : (extL m n).getD n [] = m.getD n [] := by
  unfold extL
  by_cases h : n < m.length
  · rw [if_pos h]
  · rw [if_neg h]
    simp only [List.getD]
    rw [List.getElem?_eq_none (Nat.le_of_not_lt h)]
    by_cases h0 : n = m.length
    · subst h0; simp
    · rw [List.getElem?_eq_none (by simp; omega)]
theorem lv_other {m : List (List Ev)} {e x : Ev} (hx : x ∈ m.getD (lvN m e) []) : x.thread ≠ e.thread := by
  intro ht
  have h1 := lvN_free (Nat.le_refl _) hx
  rw [dep_thread ht] at h1
  cases h1
theorem lv_small (l : List Ev) (i : Nat) : ((lvls l).getD i []).length ≤ l.length := by
  rw [← lvls_count l]
  by_cases h : i < (lvls l).length
  · rw [getD_lt _ h]
    exact List.Sublist.length_le (List.sublist_flatten_of_mem (List.getElem_mem h))
  · simp [List.getD, List.getElem?_eq_none (Nat.le_of_not_lt h)]
theorem lv_count (l : List Ev) : (lvls l).length ≤ l.length := by
  have : ∀ n (l : List Ev), l.length = n → (lvls l).length ≤ l.length := by
    intro n
    induction n with
    | zero =>
      intro l hl
      obtain rfl := List.eq_nil_of_length_eq_zero hl
      exact Nat.le_refl _
    | succ n ih =>
      intro l hl
      have hne : l ≠ [] := by rintro rfl; simp at hl
      obtain ⟨l', e, rfl⟩ : ∃ l' e, l = l' ++ [e] := ⟨l.dropLast, l.getLast hne, (List.dropLast_concat_getLast hne).symm⟩
      have h1 := ih l' (by simpa using hl)
      rw [lvls_snoc, addL_length, List.length_append, List.length_singleton]
      split <;> omega
  exact this _ l rfl


/-- Has a row levels? -/
def rightF (l : List Ev) : Bool := decide (l.length ≤ 200) && rightL l
/-- Its levels, or none. -/
def levelsF (l : List Ev) : List (List Ev) := if rightF l then lvls l else []

set_option maxRecDepth 100000 in
set_option maxHeartbeats 1000000 in
theorem fRight_any (a : Option Addr) (cap : Nat) (l : List Ev) (w : World) (hl : EvsAt w a l) :
    Calls Tryz.prog 38 #[.slice a l.length cap] w fun r w' => r = .returned (.bool (rightF l)) ∧ Below w.heap.size w w' := by
  have hm := hl.1
  unfold maxLen at hm
  have HL := Lib.hid hl
  clear hl
  by_cases h200 : l.length ≤ 200
  case neg =>
    have HE : Hid (rightF l = false) := by show _ = _; unfold rightF; simp; omega
    have hq : decide ((200 : Int) < (l.length : Int)) = true := by simp; omega
    have hq2 : 200 < l.length := by omega
    clear h200
    go_enter Tryz.func38, Tryz.ntmps38
    go_wp2
    go_ret
    exact ⟨ret_bool HE.out.symm, Below.refl _ _⟩
  have hq : decide ((200 : Int) < (l.length : Int)) = false := by simp; omega
  have hq2 : ¬ 200 < l.length := by omega
  go_enter Tryz.func38, Tryz.ntmps38
  go_wp2
  go_loopw [10] (fun i wr => ∃ k : Nat, k ≤ l.length ∧ i = .int .i64 k ∧ Hid (rightL (l.take k) = true) ∧ Below w.heap.size w wr) (fun i _ => l.length - (intOf i).toNat)
  case atStart => exact ⟨0, Nat.zero_le _, rfl, rfl, Below.refl _ _⟩
  case round =>
    obtain ⟨k, hk, rfl, HR, hb⟩ := hrel
    by_cases hlt : k < l.length
    · obtain ⟨b, o, rfl, hc⟩ := HL.out.2 (by intro e; simp [e] at hlt)
      obtain ⟨c0, c1, c2, c3⟩ := hc k hlt
      have d0 := cell_later hb c0
      have d1 := cell_later hb c1
      have d2 := cell_later hb c2
      have d3 := cell_later hb c3
      have HT := Lib.hid (rightL_take l k hlt)
      have hx1 : Hid (rightEv l[k] = false → rightF l = false) := fun h => by unfold rightF; rw [rightL_no hlt h]; simp
      have hb4 := hb.alloc hb.size (.cells #[.int .i64 l[k].thread, .int .i64 l[k].kind, .int .i64 l[k].obj, .bool l[k].fail] 51)
      clear hc c0 c1 c2 c3
      generalize l[k] = x at *
      go_wp2_with fail
      refine (evRight_any x _).mono ?_
      rintro r w2 ⟨rfl, hb5⟩
      have hb6 := hb4.trans (hb5.mono hb4.size)
      clear hb4 hb5
      cases hr : rightEv x
      · have HN := Lib.hid (hx1.out hr)
        clear hx1 HT
        go_wp2
        go_ret
        exact ⟨ret_bool HN.out.symm, hb6⟩
      · have HN : Hid (rightL (l.take (k + 1)) = true) := by show _ = _; rw [HT.out, HR.out, hr]; rfl
        clear hx1 HT
        go_wp2
        go_roundw
        case rel => exact ⟨k + 1, by omega, by go_num, HN, hb6⟩
        case measure => simp [intOf]; omega
    · obtain rfl : k = l.length := by omega
      have HE : Hid (rightF l = true) := by have h := HR.out; rw [List.take_length] at h; show _ = _; unfold rightF; rw [h]; simp; omega
      go_wp2
      go_ret
      exact ⟨ret_bool HE.out.symm, hb⟩

end Go.Proofs.YtljlaopjimkcmaaGreat

/- The contract of foata's Levels. -/
namespace Go.Proofs.YtljlaopjimkcmaaGreat
open Go.RowKit

theorem box_kept {w w' : World} {B g n m : Nat} {t : TypeId} {v : Value} {e : Ev} {xs : List Value} (h : EvBox w g e) (ho : w.ownsRow B t n v m xs) (hne : t ≠ 51) (hg : w.grownBy w' v.ownBlock) : EvBox w' g e := by
  refine (hg.block g h.lt fun e' => ?_).trans h
  obtain ⟨_, ⟨rfl, _⟩ | ⟨b, cap, cur, rfl, _, hb, _⟩⟩ := ho
  · cases e'
  · injection e' with e'
    have e2 : g = b := e'
    subst e2
    rw [show w.heap[g]? = _ from h] at hb
    injection hb with hb
    injection hb with _ h2
    exact hne h2.symm

/-- Levels that a call answers. -/
def LvR (B : Nat) (w : World) (m : List (List Ev)) (r : Ending) (w' : World) : Prop := ∃ v ss, r = .returned v ∧ OwnLv w' B v ss m ∧ Below B w w'

set_option maxRecDepth 100000 in
set_option maxHeartbeats 4000000 in
theorem levels_any (a : Option Addr) (cap : Nat) (l : List Ev) (w : World) (hl : EvsAt w a l) :
    Calls Tryz.prog 40 #[.slice a l.length cap] w (LvR w.heap.size w (levelsF l)) := by
  have hm := hl.1
  unfold maxLen at hm
  have HL := Lib.hid hl
  have HRC := Lib.hid (fRight_any a cap l w hl)
  clear hl
  cases hr : rightF l
  · have HE : Hid (levelsF l = []) := by show _ = _; unfold levelsF; rw [hr]; rfl
    rw [hr] at HRC
    clear hr
    go_enter Tryz.func40, Tryz.ntmps40
    go_wp2_with fail
    refine HRC.out.mono ?_
    rintro r w1 ⟨rfl, hb1⟩
    clear HRC
    go_wp2
    go_ret
    exact ⟨_, [], rfl, by rw [HE.out]; exact ownLv_nil _ _, hb1⟩
  have h200 : l.length ≤ 200 := by unfold rightF at hr; simp at hr; exact hr.1
  have HE : Hid (levelsF l = lvls l) := by show _ = _; unfold levelsF; rw [hr]; rfl
  rw [hr] at HRC
  clear hr
  go_enter Tryz.func40, Tryz.ntmps40
  go_wp2_with fail
  refine HRC.out.mono ?_
  rintro r w1 ⟨rfl, hb1⟩
  clear HRC
  go_wp2_with fail
  go_loopw [3, 12] (fun v i wr => ∃ (k : Nat) (ss : List Sl), k ≤ l.length ∧ i = .int .i64 k ∧ Hid (OwnLv wr w.heap.size v ss (lvls (l.take k))) ∧ Hid (Below w.heap.size w wr)) (fun _ i _ => l.length - (intOf i).toNat)
  case atStart => exact ⟨0, [], Nat.zero_le _, rfl, ownLv_nil _ _, hb1⟩
  case round =>
    clear hb1
    obtain ⟨k, ss, hk, rfl, HV, HB⟩ := hrel
    by_cases hlt : k < l.length
    · obtain ⟨b, o, rfl, t0, t1, t2, t3⟩ := HL.out.one hlt
      have d0 := cell_later HB.out t0
      have d1 := cell_later HB.out t1
      have d2 := cell_later HB.out t2
      have d3 := cell_later HB.out t3
      have HT : Hid (lvls (l.take (k + 1)) = addL (lvls (l.take k)) (evI l k)) := by
        show _ = _
        rw [← lvls_snoc, evI_get hlt, List.take_add_one, List.getElem?_eq_getElem hlt]
        rfl
      have hmk : (lvls (l.take k)).length ≤ k := by have := lv_count (l.take k); rw [List.length_take] at this; omega
      have HS : Hid (∀ i, ((lvls (l.take k)).getD i []).length ≤ 200) := fun i => by have := lv_small (l.take k) i; rw [List.length_take] at this; omega
      obtain ⟨a2, cap2, rfl, hat, hca⟩ := OwnLv.form HV.out (by omega) (fun i _ => by have := HS.out i; omega)
      have HAT := Lib.hid hat
      clear t0 t1 t2 t3 hat hca
      generalize lvls (l.take k) = m at *
      generalize evI l k = e at *
      go_wp2_with fail
      have hba := below_alloc1 wr (.cells #[.int .i64 e.thread, .int .i64 e.kind, .int .i64 e.obj, .bool e.fail] 51)
      have HBX := Lib.hid (EvBox.new wr e)
      generalize wr.alloc (.cells #[.int .i64 e.thread, .int .i64 e.kind, .int .i64 e.obj, .bool e.fail] 51) = W0 at *
      refine (levelOf_any a2 cap2 m e W0 (HAT.out.later hba) (by omega)).mono ?_
      rintro r W1 ⟨rfl, hb2⟩
      have hb3 := hba.trans (hb2.mono hba.size)
      have HV1 := Lib.hid (HV.out.later hb3)
      have HB1 := Lib.hid (HB.out.trans (hb3.mono HB.out.size))
      have HX1 := Lib.hid (HBX.out.later hb2)
      have hle := lvN_le m e
      have HA := Lib.hid (addL_ext m e)
      have HO : Hid (∀ x ∈ m.getD (lvN m e) [], x.thread ≠ e.thread) := fun x hx => lv_other hx
      have hbx0 : wr.heap.size < W1.heap.size := HX1.out.lt
      have hsz1 : wr.heap.size ≤ W1.heap.size := by omega
      clear HV HB HAT HBX hba hb2 hb3 d0 d1 d2 d3
      generalize lvN m e = n at *
      go_upto_if 22 with (fail)
      go_cut [3] (fun s3 wx => ∃ (g N cap3 : Nat) (ss2 : List Sl), s3 = .slice (some ⟨g, 0, none⟩) N cap3 ∧ n < N ∧ N ≤ 300 ∧ Hid (N = (extL m n).length ∧ OwnLv wx w.heap.size s3 ss2 (extL m n)) ∧ Hid (EvBox wx wr.heap.size e) ∧ Hid (Below w.heap.size w wx))
      case first =>
        by_cases hnm : n < m.length
        · have hq : ((n : Int) == (m.length : Int)) = false := by simp; omega
          have HEX : Hid (extL m n = m) := by show _ = _; unfold extL; rw [if_pos hnm]
          obtain ⟨g, capg, hv, _, _⟩ := OwnRow.block HV1.out.outer (by intro e; have := HV1.out.len; rw [e] at this; simp at this; omega)
          injection hv with hv1 hv2 hv3
          subst hv1
          clear hv2 hv3
          go_wp2_with fail
          go_meet
          exact ⟨g, m.length, cap2, ss, rfl, hnm, by omega, ⟨by rw [HEX.out], by rw [HEX.out]; exact HV1.out⟩, HX1.out, HB1.out⟩
        · have hnm2 : n = m.length := by omega
          have hq : ((n : Int) == (m.length : Int)) = true := by simp; omega
          have HEX : Hid (extL m n = m ++ [[]]) := by show _ = _; unfold extL; rw [if_neg hnm]
          have HN2 := Lib.hid hnm2
          have hB2 : w.heap.size ≤ W1.heap.size := HB1.out.size
          have hss : ss.length ≤ 1000 := by have := HV1.out.len; omega
          clear hnm hnm2
          go_wp2_with (at_builtin; refine wp_appendR (f := slCell) (n := 1) 94 47 24 (.slice none 0 0) Tryz.underlying94 infoSl rfl (by omega) (by omega) slCell_len rfl _ _ rfl w.heap.size _ ss rfl (HV1.out.outer.alloc _) ⟨W1.heap.size, 0, none⟩ rfl ⟨none, 0, 0⟩ (slCell_one _) (cells_new W1 (slCell ⟨none, 0, 0⟩) _ _ rfl) (by omega) (by simp; omega) ?_; intro v' w' h1 h2 h3; obtain ⟨g, capg, hv, _, _⟩ := OwnRow.block h1 (by simp); rw [List.length_append, List.length_singleton] at hv; subst hv)
          go_meet
          have hb4 : Below w.heap.size W1 w' := (below_alloc1 W1 _).mono hB2 |>.trans h2
          have hv4 : OwnLv w' w.heap.size (.slice (some ⟨g, 0, none⟩) (ss.length + 1) capg) (ss ++ [⟨none, 0, 0⟩]) (m ++ [[]]) := OwnLv.more (HV1.out.later (below_alloc1 W1 _)) h1 h3
          exact ⟨g, ss.length + 1, capg, _, rfl, by have := HV1.out.len; have := HN2.out; omega, by have := HV1.out.len; omega, ⟨by rw [HEX.out]; simp [HV1.out.len], by rw [HEX.out]; exact hv4⟩, box_kept (HX1.out.later (below_alloc1 W1 _)) (HV1.out.outer.alloc _) tyNe h3, HB1.out.trans hb4⟩
      case rest =>
        obtain ⟨g, N, cap3, ss2, rfl, hnN, hN300, HW, HXc, HBc⟩ := hcut
        have hn2 : n < ss2.length := by rw [HW.out.2.len, ← HW.out.1]; exact hnN
        have hB2 : w.heap.size ≤ wc.heap.size := HBc.out.size
        have x0 := OwnLv.cell HW.out.2 HW.out.1 hn2
        obtain ⟨c0, c1, c2, c3⟩ := HXc.out.cells
        have hni : (n : Int) < (N : Int) := by omega
        have hni0 : (0 : Int) ≤ n := by omega
        have HIN : Hid (OwnE wc w.heap.size (slV ss2[n]) (m.getD n [])) := by
          have h := HW.out.2.inner n hn2
          rw [extL_get] at h
          exact h
        have HCALL : Hid (∀ W, Below wc.heap.size wc W → Calls Tryz.prog 60 #[.slice ss2[n].a ss2[n].n ss2[n].c, .agg #[.int .i64 e.thread, .int .i64 e.kind, .int .i64 e.obj, .bool e.fail]] W fun r w' =>
            ∃ s' : Sl, r = .returned (.slice s'.a s'.n s'.c) ∧ Below w.heap.size w w' ∧ (∃ old, w'.cell? ⟨g, n, none⟩ = some old) ∧ w'.frozen? ⟨g, n, none⟩ = false ∧ OwnLv (w'.setCell ⟨g, n, none⟩ (.slice s'.a s'.n s'.c)) w.heap.size (.slice (some ⟨g, 0, none⟩) N cap3) (ss2.set n s') (addL m e)) := fun W hW => by
          refine (lay_any w.heap.size (slV ss2[n]) (m.getD n []) e W (Nat.le_trans hB2 hW.size) (by have := HS.out n; omega) (HIN.out.later hW) HO.out).mono ?_
          rintro r w' ⟨v', rfl, h2, h3, h4, h5⟩
          obtain ⟨a', cap', hv', _⟩ := OwnE.form h2 (by rw [insE_length]; have := HS.out n; omega)
          subst hv'
          obtain ⟨p1, p2, p3⟩ := OwnLv.put (HW.out.2) HW.out.1 hnN hn2 (s' := ⟨a', (insE e (m.getD n [])).length, cap'⟩) h2 ((grown_below hW _).trans h4) (fun b hb => (h5 b hb).imp id (fun h => Nat.le_trans hW.size h))
          rw [HA.out, extL_get]
          exact ⟨⟨a', _, cap'⟩, rfl, HBc.out.trans ((hW.mono hB2).trans h3), Option.isSome_iff_exists.1 p2, p3, p1⟩
        clear HIN
        go_wp2_with fail
        go_region_with ((go_simp; go_at_call 60; refine (HCALL.out _ (Below.refl _ _).drew).mono ?_; rintro r w3 ⟨s', rfl, q1, ⟨old, q2⟩, q3, q4⟩; have HQ4 := Lib.hid q4; have HQ1 := Lib.hid q1; clear q1 q4))
        all_goals
          have HVN : Hid (OwnLv (w3.setCell ⟨g, n, none⟩ (.slice s'.a s'.n s'.c)) w.heap.size (.slice (some ⟨g, 0, none⟩) N cap3) (ss2.set n s') (lvls (l.take (k + 1)))) := by
            show OwnLv _ _ _ _ _
            rw [HT.out]
            exact HQ4.out
          have hgB : w.heap.size ≤ g := by
            obtain ⟨_, ⟨h2, _⟩ | ⟨b', cap', cur, h2, h3, _⟩⟩ := HW.out.2.outer
            · cases h2
            · injection h2 with h2
              injection h2 with h2
              injection h2 with h2
              rw [h2]; exact h3
          go_wp2
          go_roundw
          case rel => exact ⟨k + 1, _, by omega, by go_num, HVN, (HQ1.out).setCell (p := ⟨g, n, none⟩) hgB _⟩
          case measure => simp [intOf]; omega
    · obtain rfl : k = l.length := by omega
      have HV2 := HV.out
      rw [List.take_length, ← HE.out] at HV2
      have HV3 := Lib.hid HV2
      clear HV2 HV
      go_wp2
      go_ret
      exact ⟨_, ss, rfl, HV3.out, HB.out⟩

end Go.Proofs.YtljlaopjimkcmaaGreat

/- The contracts of event's Print and Threads. -/
namespace Go.Proofs.YtljlaopjimkcmaaGreat
open Go.RowKit

theorem run_bstr_mid {w : World} {g n c : Nat} {ns : List Int} (h : MidAt w g 5 (ns.map (Value.int .u8))) (hn : n = ns.length) : (convert 42 9 (.slice (some ⟨g, 0, none⟩) n c)).run Tryz.prog w = .ok (.string (bstr ns)) w := by
  subst hn
  rw [run_convert_bytes_string w _ _ 5 _ _ _ Tryz.underlying42 Tryz.underlying5 Tryz.underlying9]
  have hl := run_loadCells_list (P := Tryz.prog) w ⟨g, 0, none⟩ (ns.map (Value.int .u8)) (fun j u hj => by
    have e : Addr.add ⟨g, 0, none⟩ j = ⟨g, j, none⟩ := by
      unfold Addr.add
      split
      · rename_i h0; subst h0; rfl
      · simp
    rw [e, h.cell]
    exact hj)
  rw [List.length_map] at hl
  rw [run_bytesToString w _ _ _ ns hl, foldl_bstr]
  have e : ByteArray.empty.data = #[] := rfl
  rw [e, Array.empty_append]
  rfl

theorem ret_str {a b : ByteArray} (h : a = b) : Ending.returned (.string a) = .returned (.string b) := by rw [h]

set_option maxRecDepth 100000 in
set_option maxHeartbeats 1000000 in
theorem evPrint_any (a : Option Addr) (cap : Nat) (l : List Ev) (w : World) (hl : EvsAt w a l) (hm : l.length ≤ 1000000) :
    Calls Tryz.prog 58 #[.slice a l.length cap] w fun r w' => r = .returned (.string (bstr (printE l))) ∧ Below w.heap.size w w' := by
  have hmk := run_make_k (P := Tryz.prog) 42 5 (.int .u8 0) 1 1 Tryz.underlying42 (by kernel_rfl) l.length (by omega) (by omega)
  have HL := Lib.hid hl
  clear hl
  go_enter Tryz.func58, Tryz.ntmps58
  go_wp2
  go_loopw [11] (fun i wr => ∃ k : Nat, k ≤ l.length ∧ i = .int .i64 k ∧ Hid ((l.take k).all rightEv = true) ∧ Hid (MidAt wr w.heap.size 5 (fill (fun e => .int .u8 (evB e)) (.int .u8 0) l k)) ∧ Below w.heap.size w wr) (fun i _ => l.length - (intOf i).toNat)
  case atStart =>
    refine ⟨0, Nat.zero_le _, rfl, rfl, ?_, below_alloc1 _ _⟩
    show MidAt _ _ _ _
    rw [fill_zero]
    have := MidAt.made w 5 (.int .u8 0) l.length
    simpa using this
  case round =>
    clear hmk
    obtain ⟨k, hk, rfl, HA, HM, hb⟩ := hrel
    by_cases hlt : k < l.length
    · obtain ⟨b, o, rfl, hc⟩ := HL.out.2 (by intro e; simp [e] at hlt)
      obtain ⟨c0, c1, c2, c3⟩ := hc k hlt
      have d0 := cell_later hb c0
      have d1 := cell_later hb c1
      have d2 := cell_later hb c2
      have d3 := cell_later hb c3
      have hz := HM.out.lt
      clear hc c0 c1 c2 c3
      have HT := Lib.hid (List.take_succ_eq_append_getElem hlt : l.take (k + 1) = l.take k ++ [l[k]])
      have HS := Lib.hid (fill_set (fun e => .int .u8 (evB e)) (.int .u8 0) l k hlt)
      have HX := Lib.hid (List.getElem_mem hlt)
      have HB1 := Lib.hid (EvBox.new wr l[k])
      have HM1 := Lib.hid (HM.out.later (below_alloc1 wr (.cells #[.int .i64 l[k].thread, .int .i64 l[k].kind, .int .i64 l[k].obj, .bool l[k].fail] 51)))
      have hb1 : Below w.heap.size w (wr.alloc (.cells #[.int .i64 l[k].thread, .int .i64 l[k].kind, .int .i64 l[k].obj, .bool l[k].fail] 51)) := hb.alloc hb.size _
      clear HM
      generalize l[k] = x at *
      go_wp2_with fail
      generalize wr.alloc (.cells #[.int .i64 x.thread, .int .i64 x.kind, .int .i64 x.obj, .bool x.fail] 51) = W1 at *
      generalize wr.heap.size = E at *
      clear d0 d1 d2 d3
      refine (evRight_any x _).mono ?_
      rintro r w2 ⟨rfl, hb2⟩
      have HB2 := Lib.hid (HB1.out.later hb2)
      have HM2 := Lib.hid (HM1.out.later hb2)
      have hw2 : Below w.heap.size w w2 := hb1.trans (hb2.mono hb1.size)
      clear HB1 HM1 hb1 hb2 hb
      obtain ⟨x0, x1, x2, x3⟩ := HB2.out.cells
      have lx := HB2.out.lt
      cases hr : rightEv x
      · have HR : Hid (printE l = []) := by
          show _ = _
          unfold printE
          rw [if_neg]
          intro h
          rw [List.all_eq_true] at h
          rw [h x HX.out] at hr
          cases hr
        clear hr HB2
        go_wp2
        go_ret
        exact ⟨ret_str (by rw [HR.out]; rfl), hw2⟩
      · have HR := Lib.hid hr
        clear hr
        go_wp2_with fail
        refine (toByte_any x HR.out _).mono ?_
        rintro r w3 ⟨rfl, hb3⟩
        have HM3 := Lib.hid (HM2.out.later hb3)
        have hw3 : Below w.heap.size w w3 := hw2.trans (hb3.mono hw2.size)
        have hf3 := HM3.out.frozen k
        have hc3 := HM3.out.cell k
        obtain ⟨y, hy⟩ : ∃ y, (fill (fun e => .int .u8 (evB e)) (.int .u8 0) l k)[k]? = some y := ⟨_, List.getElem?_eq_getElem (by rw [fill_length _ _ _ _ hk]; exact hlt)⟩
        rw [hy] at hc3
        have HM4 := Lib.hid (HM3.out.set k (.int .u8 (evB x)))
        rw [HS.out] at HM4
        have hb4 := hw3.setCell (p := ⟨w.heap.size, k, none⟩) (Nat.le_refl _) (.int .u8 (evB x))
        clear hy HM2 HM3 HB2 x0 x1 x2 x3 hb3
        go_wp2
        go_roundw
        case rel => exact ⟨k + 1, by omega, by go_num, (by show _ = _; rw [HT.out, List.all_append, HA.out]; simp [HR.out]), HM4, hb4⟩
        case measure => simp [intOf]; omega
    · obtain rfl : k = l.length := by omega
      have hcv : (convert 42 9 (.slice (some ⟨w.heap.size, 0, none⟩) l.length l.length)).run Tryz.prog wr = .ok (.string (bstr (l.map evB))) wr := by
        have h := HM.out
        rw [fill_all] at h
        refine run_bstr_mid (ns := l.map evB) ?_ (by simp)
        rw [List.map_map]
        exact h
      have HP : Hid (printE l = l.map evB) := by
        show _ = _
        unfold printE
        have h := HA.out
        rw [List.take_length] at h
        rw [if_pos h]
      go_wp2
      go_ret
      exact ⟨ret_str (by rw [HP.out]), hb⟩

end Go.Proofs.YtljlaopjimkcmaaGreat

/- The contract of foata's spell. -/
namespace Go.Proofs.YtljlaopjimkcmaaGreat
open Go.RowKit

/-- The bytes of levels. -/
def lvB (row : List Ev) : List Int := (row.length : Int) :: printE row
def spellB (m : List (List Ev)) : List Int := m.flatMap lvB ++ [0]
theorem printE_le (row : List Ev) : (printE row).length ≤ row.length := by
  unfold printE
  split
  · simp
  · simp
theorem printE_bd (row : List Ev) : ∀ n ∈ printE row, 0 ≤ n ∧ n < 256 := by
  intro n hn
  unfold printE at hn
  split at hn
  · rename_i h
    obtain ⟨e, he, rfl⟩ := List.mem_map.1 hn
    exact evB_bd (List.all_eq_true.1 h e he)
  · simp at hn
theorem strCells_bstr (ns : List Int) (h : ∀ n ∈ ns, 0 ≤ n ∧ n < 256) : Lib.strCells (bstr ns) = ns.map (Value.int .u8) := by
  unfold Lib.strCells bstr
  simp only [List.map_map]
  refine List.map_congr_left fun n hn => ?_
  obtain ⟨h0, h1⟩ := h n hn
  simp only [Function.comp]
  congr 1
  have : (UInt8.ofNat n.toNat).toNat = n.toNat := by rw [UInt8.toNat_ofNat']; omega
  rw [this]
  omega
theorem bstr_size (ns : List Int) : (bstr ns).size = ns.length := by
  show (bstr ns).data.size = _
  simp [bstr]
theorem lvB_len (m : List (List Ev)) (k : Nat) : ((m.take k).flatMap lvB).length ≤ k + m.flatten.length := by
  have h : ∀ (m : List (List Ev)), (m.flatMap lvB).length ≤ m.length + m.flatten.length := by
    intro m
    induction m with
    | nil => simp
    | cons r m ih =>
      rw [List.flatMap_cons, List.length_append, List.flatten_cons, List.length_append, List.length_cons]
      have := printE_le r
      have e : (lvB r).length = (printE r).length + 1 := rfl
      omega
  have h1 := h (m.take k)
  have h2 := flat_le m k
  rw [List.length_take] at h1
  omega

set_option maxRecDepth 100000 in
set_option maxHeartbeats 2000000 in
theorem spell_any (a : Option Addr) (cap : Nat) (m : List (List Ev)) (w : World) (hl : LvAt w a m) (hm : m.length ≤ 1000000) (hf : m.flatten.length ≤ 1000000) (h255 : ∀ i, (m.getD i []).length ≤ 255) :
    Calls Tryz.prog 39 #[.slice a m.length cap] w fun r w' => r = .returned (.string (bstr (spellB m))) ∧ Below w.heap.size w w' := by
  have HL := Lib.hid hl
  have HF := Lib.hid hf
  have H255 := Lib.hid h255
  clear hl hf h255
  obtain ⟨i0, hi0, hzz⟩ := Option.map_eq_some_iff.1 (show (Tryz.prog.info? 5).map (fun i => (i.zero, i.size, i.bytes)) = some (some (.int .u8 0), 1, 1) by kernel_rfl)
  simp only [Prod.mk.injEq] at hzz
  obtain ⟨hz0, hzs, hzb⟩ := hzz
  go_enter Tryz.func39, Tryz.ntmps39
  go_wp2
  go_loopw [3, 8] (fun v i wr => ∃ (k : Nat) (ns : List Int), k ≤ m.length ∧ i = .int .i64 k ∧ Hid (ns = (m.take k).flatMap lvB) ∧ ns.length ≤ 2000000 ∧ Hid (OwnB wr w.heap.size v ns) ∧ Hid (Below w.heap.size w wr)) (fun _ i _ => m.length - (intOf i).toNat)
  case atStart => exact ⟨0, [], Nat.zero_le _, rfl, rfl, by simp, World.ownsRow_nil _ _ _ _, Below.refl _ _⟩
  case round =>
    obtain ⟨k, ns, hk, rfl, HN, hnl, HO, HB⟩ := hrel
    by_cases hlt : k < m.length
    · obtain ⟨b, o, sa, sc, rfl, t0, he, hn⟩ := HL.out.one hlt
      have c0 := cell_later HB.out t0
      have HE := Lib.hid he
      have hL := H255.out k
      have HT : Hid ((m.take (k + 1)).flatMap lvB = (m.take k).flatMap lvB ++ ((((m.getD k []).length : Nat) : Int) :: printE (m.getD k []))) := by
        show _ = _
        rw [List.take_add_one, List.getElem?_eq_getElem hlt, List.flatMap_append, getD_lt _ hlt]
        simp [lvB]
      have HLn : Hid (((m.take (k + 1)).flatMap lvB).length ≤ 2000000) := by
        have := lvB_len m (k + 1)
        have := HF.out
        show _ ≤ _
        omega
      have HPL := Lib.hid (printE_le (m.getD k []))
      have HPB := Lib.hid (printE_bd (m.getD k []))
      clear t0 he hn
      generalize m.getD k [] = row at *
      have hw : IntKind.u8.wrap (row.length : Int) = row.length := by
        simp [IntKind.wrap, IntKind.bits, IntKind.signed]
        omega
      have hBB := HB.out.size
      go_wp2_with (at_builtin; refine wp_appendB rfl _ _ rfl w.heap.size _ ns rfl (HO.out.alloc _) ⟨wr.heap.size, 0, none⟩ 1 1 rfl [(row.length : Int)] rfl (bytes_new wr [(row.length : Int)] _ _ rfl) (by omega) (by simp; omega) ?_; intro v1 w4 hown4 hb4)
      have HO4 := Lib.hid hown4
      have hb5 := (HB.out.alloc hBB _).trans hb4
      clear hown4 hb4
      refine (evPrint_any sa sc row w4 (HE.out.later hb5) (by omega)).mono ?_
      rintro r w5 ⟨rfl, hb6⟩
      have HO5 : Hid (w5.ownsRow w.heap.size 5 1 v1 (ns ++ [(row.length : Int)]).length ((ns ++ [(row.length : Int)]).map (Value.int .u8))) := ownsRow_later HO4.out hb6
      have HB5 := Lib.hid (hb5.trans (hb6.mono hb5.size))
      have hBB5 := HB5.out.size
      have hsz : (bstr (printE row)).size = (printE row).length := bstr_size _
      have hpl := HPL.out
      clear hb5 hb6 HO4
      go_wp2_with (at_builtin; refine Lib.wpList_append_own_string _ rfl _ _ 42 9 rfl w.heap.size 5 i0 Tryz.underlying42 Tryz.underlying9 hi0 hz0 hzs hzb _ _ _ rfl HO5.out (bstr (printE row)) rfl (by simp [hsz]; unfold maxLen; omega) (by simp [hsz]; omega) hBB5 ?_; intro v2 w6 h1 h2 _)
      have HB7 : Hid (Below w.heap.size w w6) := HB5.out.trans ((Below.refl _ w5).grown h2 hBB5 (fun k hk => (World.ownsRow.lt HO5.out k hk).1))
      have HO7 : Hid (OwnB w6 w.heap.size v2 (ns ++ [(row.length : Int)] ++ printE row)) := by
        show OwnB _ _ _ _
        unfold OwnB
        rw [strCells_bstr _ HPB.out, hsz] at h1
        rw [List.length_append, List.map_append]
        exact h1
      have HN7 : Hid (ns ++ [(row.length : Int)] ++ printE row = (m.take (k + 1)).flatMap lvB) := by
        show _ = _
        rw [HT.out, HN.out]
        simp
      clear h1 h2
      go_roundw
      case rel => exact ⟨k + 1, ns ++ [(row.length : Int)] ++ printE row, by omega, by go_num, HN7, by rw [HN7.out]; exact HLn.out, HO7, HB7⟩
      case measure => simp [intOf]; omega
    · obtain rfl : k = m.length := by omega
      have HS : Hid (spellB m = ns ++ [0]) := by
        show _ = _
        have h := HN.out
        rw [List.take_length] at h
        unfold spellB
        rw [h]
      have hBB := HB.out.size
      go_wp2_with (at_builtin; refine wp_appendB rfl _ _ rfl w.heap.size _ ns rfl (HO.out.alloc _) ⟨wr.heap.size, 0, none⟩ 1 1 rfl [0] rfl (bytes_new wr [0] _ _ rfl) (by omega) (by simp; omega) ?_; intro v1 w4 hown4 hb4; have hcv := run_bstr hown4 (by simp); have HB4 := Lib.hid ((HB.out.alloc hBB _).trans hb4); clear hown4 hb4)
      go_ret
      exact ⟨ret_str (by rw [HS.out]), HB4.out⟩

end Go.Proofs.YtljlaopjimkcmaaGreat

/- The contracts of slices.Equal of events, and of slices.EqualFunc of levels with it. -/
namespace Go.Proofs.YtljlaopjimkcmaaGreat
open Go.RowKit

theorem take_snoc {T : Type} {m m' : List (List T)} {k : Nat} (hk : k < m.length) (hk' : k < m'.length) (h : m.take k = m'.take k) (he : m.getD k [] = m'.getD k []) : m.take (k + 1) = m'.take (k + 1) := by
  rw [List.take_add_one, List.take_add_one, h, List.getElem?_eq_getElem hk, List.getElem?_eq_getElem hk']
  rw [getD_lt _ hk, getD_lt _ hk'] at he
  rw [he]

end Go.Proofs.YtljlaopjimkcmaaGreat

/- The contracts of foata's Key and Print. -/
namespace Go.Proofs.YtljlaopjimkcmaaGreat
open Go.RowKit

def keyF (l : List Ev) : List Int := if rightF l then spellB (lvls l) else []
def printF (m : List (List Ev)) : List Int := if levelsF m.flatten = m then spellB m else []
theorem levelsF_len (l : List Ev) : (levelsF l).length ≤ 200 := by
  unfold levelsF
  cases h : rightF l
  · simp
  · simp only [if_pos]
    have := lv_count l
    unfold rightF at h
    simp at h
    omega
theorem levelsF_row (l : List Ev) (i : Nat) : ((levelsF l).getD i []).length ≤ 200 := by
  unfold levelsF
  cases h : rightF l
  · simp [List.getD]
  · simp only [if_pos]
    have := lv_small l i
    unfold rightF at h
    simp at h
    omega
theorem levelsF_flat (l : List Ev) : (levelsF l).flatten.length ≤ 200 := by
  unfold levelsF
  cases h : rightF l
  · simp
  · simp only [if_pos]
    have := lvls_count l
    unfold rightF at h
    simp at h
    omega
theorem OwnLv.formF {w : World} {B : Nat} {v : Value} {ss : List Sl} {l : List Ev} (h : OwnLv w B v ss (levelsF l)) : ∃ a cap, v = .slice a (levelsF l).length cap ∧ LvAt w a (levelsF l) ∧ (a = none → cap = 0) :=
  OwnLv.form h (by have := levelsF_len l; omega) (fun i _ => by have := levelsF_row l i; omega)

set_option maxRecDepth 100000 in
set_option maxHeartbeats 2000000 in
theorem key_any (a : Option Addr) (cap : Nat) (l : List Ev) (w : World) (hl : EvsAt w a l) :
    Calls Tryz.prog 18 #[.slice a l.length cap] w fun r w' => r = .returned (.string (bstr (keyF l))) ∧ Below w.heap.size w w' := by
  have HRC := Lib.hid (fRight_any a cap l w hl)
  have HL := Lib.hid hl
  clear hl
  cases hr : rightF l
  · have HE : Hid (keyF l = []) := by show _ = _; unfold keyF; rw [hr]; rfl
    rw [hr] at HRC
    clear hr
    go_enter Tryz.func18, Tryz.ntmps18
    go_wp2_with fail
    refine HRC.out.mono ?_
    rintro r w1 ⟨rfl, hb1⟩
    clear HRC
    go_wp2
    go_ret
    exact ⟨ret_str (by rw [HE.out]; rfl), hb1⟩
  · have HE : Hid (keyF l = spellB (levelsF l)) := by show _ = _; unfold keyF levelsF; rw [hr]; rfl
    rw [hr] at HRC
    clear hr
    go_enter Tryz.func18, Tryz.ntmps18
    go_wp2_with fail
    refine HRC.out.mono ?_
    rintro r w1 ⟨rfl, hb1⟩
    clear HRC
    go_wp2_with fail
    refine (levels_any a cap l w1 (HL.out.later hb1)).mono ?_
    rintro r w2 ⟨v, ss, rfl, hv, hb2⟩
    obtain ⟨a2, cap2, rfl, hat, _⟩ := OwnLv.formF hv
    have HC := Lib.hid (spell_any a2 cap2 (levelsF l) w2 hat (by have := levelsF_len l; omega) (by have := levelsF_flat l; omega) (fun i => by have := levelsF_row l i; omega))
    have hb3 := hb1.trans (hb2.mono hb1.size)
    clear hv hat hb1 hb2
    generalize levelsF l = m at *
    go_wp2_with fail
    refine HC.out.mono ?_
    rintro r w3 ⟨rfl, hb4⟩
    have hb5 := hb3.trans (hb4.mono hb3.size)
    clear HC hb3 hb4
    go_wp2
    go_ret
    exact ⟨ret_str (by rw [HE.out]), hb5⟩

end Go.Proofs.YtljlaopjimkcmaaGreat

/- The contract of foata's parse. -/
namespace Go.Proofs.YtljlaopjimkcmaaGreat
open Go.RowKit

/-- At most n levels out of bytes. -/
def parseN : Nat → List UInt8 → List (List Ev)
  | 0, _ => []
  | _ + 1, [] => []
  | n + 1, c :: r => if c.toNat = 0 then [] else readE (r.take c.toNat) :: parseN n (r.drop c.toNat)

/-- A level more, read. -/
theorem OwnLv.push {w w1 w' : World} {B : Nat} {v v' : Value} {ss : List Sl} {m : List (List Ev)} {s : Sl} {es : List Ev} (h : OwnLv w B v ss m) (hb : Below w.heap.size w w1) (hr : OwnE w1 w.heap.size (slV s) es) (hB : B ≤ w.heap.size)
    (ho : OwnRow w' B 47 1 slCell v' (ss ++ [s])) (hg : w1.grownBy w' v.ownBlock) : OwnLv w' B v' (ss ++ [s]) (m ++ [es]) := by
  have h1 := h.later hb
  have hnew : ∀ i (hi : i < ss.length), (slV s).ownBlock = none ∨ (slV s).ownBlock ≠ (slV ss[i]).ownBlock := fun i hi => by
    cases e : (slV s).ownBlock with
    | none => exact .inl rfl
    | some b =>
      right
      intro e2
      have h2 := (World.ownsRow.lt (h.inner i hi) b e2.symm).2
      have h3 := (World.ownsRow.lt hr b e).1
      omega
  have hr' : OwnE w' B (slV s) es := World.ownsRow.kept (ownsRow_base hr hB) hg (rows_apart hr h1.outer (Ne.symm tyNe))
  refine ⟨by simp [h.len], ho, fun i hi => ?_, fun i j hi hj hne => ?_⟩
  · by_cases hlt : i < ss.length
    · have e1 : (ss ++ [s])[i] = ss[i] := List.getElem_append_left hlt
      have e2 : (m ++ [es]).getD i [] = m.getD i [] := by simp [List.getD, List.getElem?_append_left (show i < m.length by rw [← h.len]; exact hlt)]
      rw [e1, e2]
      exact World.ownsRow.kept (h1.inner i hlt) hg (rows_apart (h1.inner i hlt) h1.outer (Ne.symm tyNe))
    · have e0 : i = ss.length := by simp at hi; omega
      subst e0
      have e1 : (ss ++ [s])[ss.length] = s := by simp
      have e2 : (m ++ [es]).getD ss.length [] = es := by rw [h.len]; simp [List.getD]
      rw [e1, e2]
      exact hr'
  · by_cases hlt : i < ss.length
    · have e1 : (ss ++ [s])[i] = ss[i] := List.getElem_append_left hlt
      rw [e1]
      by_cases hlj : j < ss.length
      · have e2 : (ss ++ [s])[j] = ss[j] := List.getElem_append_left hlj
        rw [e2]
        exact h.apart i j hlt hlj hne
      · have e0 : j = ss.length := by simp at hj; omega
        subst e0
        have e2 : (ss ++ [s])[ss.length] = s := by simp
        rw [e2]
        rcases hnew i hlt with h2 | h2
        · cases e3 : (slV ss[i]).ownBlock
          · exact .inl rfl
          · right; rw [h2]; simp
        · exact .inr (fun e => h2 e.symm)
    · have e0 : i = ss.length := by simp at hi; omega
      subst e0
      have e1 : (ss ++ [s])[ss.length] = s := by simp
      rw [e1]
      have hlj : j < ss.length := by simp at hj; omega
      have e2 : (ss ++ [s])[j] = ss[j] := List.getElem_append_left hlj
      rw [e2]
      exact hnew j hlj

theorem cut_mid (l : List UInt8) (i j : Nat) : (⟨l.toArray⟩ : ByteArray).extract i j = ⟨((l.take j).drop i).toArray⟩ := by
  apply ByteArray.ext
  rw [ByteArray.data_extract]
  simp [List.extract_eq_take_drop, List.drop_take]

def strLen : Value → Nat
  | .string b => b.size
  | _ => 0

end Go.Proofs.YtljlaopjimkcmaaGreat

/- The contract of foata's Read. -/
namespace Go.Proofs.YtljlaopjimkcmaaGreat
open Go.RowKit

theorem readE_le (s : List UInt8) : (readE s).length ≤ s.length := by
  unfold readE
  split
  · simp [evsOf]
  · simp
theorem parseN_len : ∀ (n : Nat) (s : List UInt8), (parseN n s).length ≤ n
  | 0, _ => by simp [parseN]
  | n + 1, [] => by simp [parseN]
  | n + 1, c :: r => by
    unfold parseN
    split
    · simp
    · have := parseN_len n (r.drop c.toNat)
      simp
      omega
theorem parseN_row : ∀ (n : Nat) (s : List UInt8), ∀ row ∈ parseN n s, row.length ≤ 255
  | 0, _ => by simp [parseN]
  | n + 1, [] => by simp [parseN]
  | n + 1, c :: r => by
    unfold parseN
    split
    · simp
    · intro row hrow
      rcases List.mem_cons.1 hrow with rfl | hrow
      · have := readE_le (r.take c.toNat)
        have := List.length_take_le c.toNat r
        have := UInt8.toNat_lt c
        omega
      · exact parseN_row n _ row hrow
theorem parseN_flat : ∀ (n : Nat) (s : List UInt8), (parseN n s).flatten.length ≤ n * 255
  | 0, _ => by simp [parseN]
  | n + 1, [] => by simp [parseN]
  | n + 1, c :: r => by
    unfold parseN
    split
    · simp
    · rw [List.flatten_cons, List.length_append]
      have := parseN_flat n (r.drop c.toNat)
      have := readE_le (r.take c.toNat)
      have := List.length_take_le c.toNat r
      have := UInt8.toNat_lt c
      omega
theorem parseN_get (n : Nat) (s : List UInt8) (i : Nat) : ((parseN n s).getD i []).length ≤ 255 := by
  by_cases h : i < (parseN n s).length
  · rw [getD_lt _ h]
    exact parseN_row n s _ (List.getElem_mem h)
  · simp [List.getD, List.getElem?_eq_none (Nat.le_of_not_lt h)]

/-- Are these bytes some row's Key? -/
def keyOk (s : List UInt8) : Prop := bstr (printF (parseN 200 s)) = ⟨s.toArray⟩
def ReadFR (w : World) (s : List UInt8) (r : Ending) (w' : World) : Prop :=
  ((keyOk s ∧ ∃ v ss, r = .returned (.tuple #[v, .int .i64 0]) ∧ OwnLv w' w.heap.size v ss (parseN 200 s)) ∨ (¬ keyOk s ∧ r = .returned (.tuple #[.slice none 0 0, .int .i64 3]))) ∧ Below w.heap.size w w'

end Go.Proofs.YtljlaopjimkcmaaGreat

/- Two rows are the same, plainly, and as a call answers it. -/
namespace Go.Proofs.YtljlaopjimkcmaaGreat
open Go.RowKit

/-- Two rows are the same, but for an order that doesn't matter. -/
def SameO (a b : List Ev) : Prop := rightL a = true ∧ rightL b = true ∧ Sim a b
def SameR (a b : List Ev) (w : World) (r : Ending) (w' : World) : Prop := ∃ c : Bool, r = .returned (.bool c) ∧ (c = true ↔ SameO a b) ∧ Below w.heap.size w w'
theorem in4_of_right {l : List Ev} (h : rightL l = true) : In4 l := by
  intro e he
  unfold rightL at h
  have := rightEv_bd (List.all_eq_true.1 h e he)
  omega
theorem SameO.len {a b : List Ev} (h : SameO a b) : a.length = b.length := h.2.2.len (in4_of_right h.1) (in4_of_right h.2.1)
theorem below_step2 {w8 W w' : World} (h1 : Below w8.heap.size w8 W) (hb : Below W.heap.size W w') : Below w8.heap.size w8 w' := h1.trans (hb.mono h1.size)

end Go.Proofs.YtljlaopjimkcmaaGreat

/- Keys, plainly: bytes are read as they were printed, and two rows have one key just if they are the same. -/
namespace Go.Proofs.YtljlaopjimkcmaaGreat
open Go.RowKit

/-- Numbers as bytes. -/
def u8s (ns : List Int) : List UInt8 := ns.map fun n => UInt8.ofNat n.toNat
theorem bstr_u8s (ns : List Int) : bstr ns = ⟨(u8s ns).toArray⟩ := rfl
theorem u8s_append (a b : List Int) : u8s (a ++ b) = u8s a ++ u8s b := by simp [u8s]
theorem u8s_length (a : List Int) : (u8s a).length = a.length := by simp [u8s]
/-- Levels whose bytes can be read. -/
def LvFit (m : List (List Ev)) : Prop := ∀ row ∈ m, 1 ≤ row.length ∧ row.length ≤ 255 ∧ row.all rightEv = true
theorem evsOf_u8s {row : List Ev} (h : row.all rightEv = true) : evsOf (u8s (row.map evB)) = row := by
  unfold evsOf u8s
  rw [List.map_map, List.map_map]
  conv => rhs; rw [← List.map_id row]
  refine List.map_congr_left fun e he => ?_
  have hr := List.all_eq_true.1 h e he
  obtain ⟨h0, h1⟩ := evB_bd hr
  simp only [Function.comp, id]
  have e1 : (UInt8.ofNat (evB e).toNat).toNat = (evB e).toNat := by rw [UInt8.toNat_ofNat']; omega
  rw [e1, show (((evB e).toNat : Nat) : Int) = evB e by omega, evOf_evB hr]
theorem printE_right {row : List Ev} (h : row.all rightEv = true) : printE row = row.map evB := by unfold printE; rw [if_pos h]
theorem readE_print {row : List Ev} (h : row.all rightEv = true) : readE (u8s (printE row)) = row := by
  rw [printE_right h]
  have h1 := evsOf_u8s h
  unfold readE readOk
  rw [h1, if_pos h]
theorem parse_spell : ∀ (m : List (List Ev)) (n : Nat), LvFit m → m.length ≤ n → parseN n (u8s (spellB m)) = m
  | [], 0, _, _ => rfl
  | [], n + 1, _, _ => by
    show parseN (n + 1) [0] = []
    unfold parseN
    rfl
  | row :: m, 0, _, h => by simp at h
  | row :: m, n + 1, hf, h => by
    obtain ⟨h1, h2, h3⟩ := hf row (by simp)
    have e1 : u8s (spellB (row :: m)) = UInt8.ofNat row.length :: (u8s (printE row) ++ u8s (spellB m)) := by
      unfold spellB lvB u8s
      simp
    have e2 : (UInt8.ofNat row.length).toNat = row.length := by rw [UInt8.toNat_ofNat']; omega
    have e3 : (u8s (printE row)).length = row.length := by rw [u8s_length, printE_right h3, List.length_map]
    rw [e1, parseN, e2, if_neg (by omega), List.take_left' e3, List.drop_left' e3, readE_print h3, parse_spell m n (fun r hr => hf r (by simp [hr])) (by simpa using h)]
theorem rightL_all (l : List Ev) : rightL l = l.all rightEv := rfl
theorem lvls_fit {l : List Ev} (hr : rightL l = true) (hl : l.length ≤ 200) : LvFit (lvls l) := by
  intro row hrow
  obtain ⟨i, hi, rfl⟩ := List.mem_iff_getElem.1 hrow
  have hfull := (lvls_ok l).full i hi
  have hsm := lv_small l i
  rw [getD_lt _ hi] at hfull hsm
  refine ⟨List.length_pos_iff.2 hfull, by omega, List.all_eq_true.2 fun e he => ?_⟩
  rw [rightL_all] at hr
  exact List.all_eq_true.1 hr e (mem_lvls (List.mem_flatten.2 ⟨_, hrow, he⟩))
theorem keyF_right {l : List Ev} (hr : rightL l = true) (hl : l.length ≤ 200) : keyF l = spellB (lvls l) := by
  unfold keyF rightF
  rw [hr]
  simp [hl]
theorem keyF_wrong {l : List Ev} (hr : rightL l = false) : keyF l = [] := by
  unfold keyF rightF
  rw [hr]
  simp
theorem parse_key {l : List Ev} (hr : rightL l = true) (hl : l.length ≤ 200) : parseN 200 (u8s (keyF l)) = lvls l := by
  rw [keyF_right hr hl]
  exact parse_spell _ _ (lvls_fit hr hl) (by have := lv_count l; omega)
theorem spell_ne (m : List (List Ev)) : u8s (spellB m) ≠ [] := by
  unfold spellB
  rw [u8s_append]
  simp [u8s]
/-- P5.2. -/
theorem key_iff {a b : List Ev} (hr : rightL a = true) (hl : a.length ≤ 200) (hl' : b.length ≤ 200) : u8s (keyF a) = u8s (keyF b) ↔ SameO a b := by
  constructor
  · intro h
    cases hb : rightL b
    · rw [keyF_wrong hb, keyF_right hr hl] at h
      exact absurd h (spell_ne _)
    · refine ⟨hr, hb, (lvls_iff a b).1 ?_⟩
      rw [← parse_key hr hl, ← parse_key hb hl', h]
  · rintro ⟨_, hb, hs⟩
    rw [keyF_right hr hl, keyF_right hb hl', (lvls_iff a b).2 hs]
theorem right_row {l : List Ev} (hr : rightL l = true) : rightL (lvls l).flatten = true := by
  rw [rightL_all] at *
  exact List.all_eq_true.2 fun e he => List.all_eq_true.1 hr e (mem_lvls he)
theorem row_same {l : List Ev} (hr : rightL l = true) : SameO (lvls l).flatten l := ⟨right_row hr, hr, sim_row l⟩

end Go.Proofs.YtljlaopjimkcmaaGreat

/- What All is told of ends: the set of keys, and how many ends there are. -/
namespace Go.Proofs.YtljlaopjimkcmaaGreat
open Go.RowKit Go.Maps Go.Sort

/-- Each once. -/
def dedupK : List (List UInt8) → List (List UInt8)
  | [] => []
  | x :: l => if x ∈ l then dedupK l else x :: dedupK l
theorem mem_dedupK {x : List UInt8} : ∀ {l : List (List UInt8)}, x ∈ dedupK l ↔ x ∈ l
  | [] => Iff.rfl
  | y :: l => by
    unfold dedupK
    split
    · rename_i h
      rw [mem_dedupK, List.mem_cons]
      exact ⟨.inr, fun e => e.elim (fun e => e ▸ h) id⟩
    · rw [List.mem_cons, List.mem_cons, mem_dedupK]
theorem nodup_dedupK : ∀ l : List (List UInt8), (dedupK l).Nodup
  | [] => List.nodup_nil
  | y :: l => by
    unfold dedupK
    split
    · exact nodup_dedupK l
    · rename_i h
      exact List.nodup_cons.2 ⟨fun e => h (mem_dedupK.1 e), nodup_dedupK l⟩
theorem dedupK_len : ∀ l : List (List UInt8), (dedupK l).length ≤ l.length
  | [] => Nat.le_refl _
  | y :: l => by
    unfold dedupK
    have := dedupK_len l
    split
    · simp; omega
    · simp; omega

abbrev Key := List UInt8
/-- Keys, rising, each once. -/
def sortK (ks : List Key) : List Key := (dedupK ks).mergeSort (fun x y => decide (x ≤ y))
theorem sortK_unique {ks L : List Key} (h1 : L.Pairwise (fun x y => decide (x ≤ y) = true)) (h2 : L.Nodup) (h3 : ∀ x, x ∈ L ↔ x ∈ ks) : L = sortK ks := by
  have hp : L.Perm (sortK ks) := by
    refine ((List.perm_ext_iff_of_nodup h2 ?_).2 fun x => ?_).trans (List.mergeSort_perm _ _).symm
    · exact (nodup_dedupK _)
    · rw [h3, mem_dedupK]
  have tr : ∀ a b c : Key, decide (a ≤ b) = true → decide (b ≤ c) = true → decide (a ≤ c) = true := fun a b c h1 h2 => by simp only [decide_eq_true_eq] at *; exact List.le_trans h1 h2
  have tt : ∀ a b : Key, (decide (a ≤ b) || decide (b ≤ a)) = true := fun a b => by simp only [Bool.or_eq_true, decide_eq_true_eq]; exact List.le_total a b
  refine List.Perm.eq_of_pairwise (le := fun a b => decide (a ≤ b) = true) (fun a b _ _ h1 h2 => ?_) h1 (List.pairwise_mergeSort tr tt _) hp
  simp only [decide_eq_true_eq] at h1 h2
  exact List.le_antisymm h1 h2
theorem sortK_of_perm {ks ss : List Key} (h2 : ss.Nodup) (h3 : ∀ x, x ∈ ss ↔ x ∈ ks) : ss.mergeSort (fun x y => decide (x ≤ y)) = sortK ks := by
  have tr : ∀ a b c : Key, decide (a ≤ b) = true → decide (b ≤ c) = true → decide (a ≤ c) = true := fun a b c h1 h2 => by simp only [decide_eq_true_eq] at *; exact List.le_trans h1 h2
  have tt : ∀ a b : Key, (decide (a ≤ b) || decide (b ≤ a)) = true := fun a b => by simp only [Bool.or_eq_true, decide_eq_true_eq]; exact List.le_total a b
  refine sortK_unique (List.pairwise_mergeSort tr tt _) ((List.mergeSort_perm ss _).nodup_iff.2 h2) fun x => ?_
  rw [(List.mergeSort_perm ss _).mem_iff]
  exact h3 x
theorem mem_sortK {ks : List Key} {x : Key} : x ∈ sortK ks ↔ x ∈ ks := by
  unfold sortK
  rw [(List.mergeSort_perm _ _).mem_iff, mem_dedupK]
theorem sortK_len (ks : List Key) : (sortK ks).length ≤ ks.length := by
  unfold sortK
  rw [List.length_mergeSort]
  exact dedupK_len _

/-- A row's key, as bytes. -/
def keyB (row : List Ev) : Key := u8s (keyF row)
def keysOf (acc : Ends) : List Key := acc.map fun x => keyB x.2
theorem keyB_len (l : List Ev) : (keyB l).length ≤ 1000 := by
  unfold keyB
  rw [u8s_length]
  unfold keyF
  split
  · rename_i h
    unfold rightF at h
    simp only [Bool.and_eq_true, decide_eq_true_eq] at h
    unfold spellB
    have h1 := lvB_len (lvls l) (lvls l).length
    rw [List.take_length] at h1
    have := lvls_count l
    have := lv_count l
    rw [List.length_append, List.length_singleton]
    omega
  · simp
/-- The set of keys, as the map reads. -/
def setK (ks : List Key) : DataW Unit := Maps.setOf (.agg []) (ks.map Lit.string)
theorem setK_snoc (ks : List Key) (k : Key) : setK (ks ++ [k]) = (setK ks).put (.string k) (.agg []) := by
  unfold setK
  rw [List.map_append]
  exact Maps.setOf_snoc _ _ _
theorem keyLit (k : Key) : WideAt.IsKeyLit (.string k) := by simp [WideAt.IsKeyLit]
theorem setK_lits (ks : List Key) : ∀ x ∈ ks.map Lit.string, WideAt.IsKeyLit x := by
  intro x hx
  obtain ⟨k, _, rfl⟩ := List.mem_map.1 hx
  exact keyLit k
theorem has_setK (ks : List Key) (x : Key) : Maps.has (setK ks) (.string x) = true ↔ x ∈ ks := by
  unfold setK
  rw [Maps.has_setOf _ _ _ (setK_lits ks), List.any_eq_true]
  constructor
  · rintro ⟨y, hy, h⟩
    obtain ⟨k, hk, rfl⟩ := List.mem_map.1 hy
    have := WideAt.sameKey_eq h
    injection this with this
    subst this
    exact hk
  · intro h
    exact ⟨_, List.mem_map.2 ⟨x, h, rfl⟩, WideAt.sameKey_self (keyLit x)⟩
/-- What a map's own entries are, its keys that it has. -/
theorem keys_perm {w : World} {mb n : Nat} {ks : List Key} (h : w.ownsMap Tryz.prog 9 unitElem mb n (setK ks)) {ss : List Key} (hp : ss.Perm (strKeys (setK ks))) : ss.Nodup ∧ ∀ x, x ∈ ss ↔ x ∈ ks := by
  obtain ⟨es, hD, hpw, _⟩ := h.entries (string_keyed Tryz.underlying9)
  obtain ⟨es', hD', hko⟩ := h.keysOf
  obtain rfl : es = es' := by rw [hD] at hD'; simpa using hD'
  have hq := perm_strKeys hpw (fun p hp => by obtain ⟨v, hv⟩ := hko p hp; obtain ⟨x, _, hx, _⟩ := Maps.keyOf_str Tryz.underlying9 hv; exact ⟨x, hx⟩) (ss := (dedupK ks)) (nodup_dedupK _) (fun x => by rw [mem_dedupK, ← hD]; exact (has_setK ks x).symm)
  rw [← hD] at hq
  have h2 := hp.trans hq.symm
  exact ⟨h2.nodup_iff.2 (nodup_dedupK _), fun x => by rw [h2.mem_iff, mem_dedupK]⟩

end Go.Proofs.YtljlaopjimkcmaaGreat

/- Walks of small programs, reckoned. -/
namespace Go.Proofs.YtljlaopjimkcmaaGreat

def locI : Ins := ⟨4, 0, 0, 1⟩
def locL (n : Nat) : List Ins := List.replicate n locI
def locP (a b : Nat) : Pg := ⟨0, 0, [locL a, locL b]⟩
def lockI : Ins := ⟨5, 0, 0, 0⟩
def lockP : Pg := ⟨0, 1, [[lockI, lockI], [lockI, lockI]]⟩
/-- How many ways there are to lay two rows of so many into one. -/
def ways2 (a : Nat) : Nat → Nat
  | 0 => 1
  | i + 1 => ways2 a i * (a + i + 1) / (i + 1)
theorem sortK_length (ks : List Key) : (sortK ks).length = (dedupK ks).length := by
  unfold sortK
  rw [List.length_mergeSort]
def locOk (a b : Nat) : Bool := decide (okPg (locP a b) 8) && decide (preW (locP a b) 8 ≤ 600) && decide ((runsW (locP a b) 8).length = ways2 a b) && decide ((dedupK (keysOf (runsW (locP a b) 8))).length = 1)
set_option maxRecDepth 100000 in
theorem locOk_all : ∀ a, a < 5 → ∀ b, b < 5 → locOk a b = true := by decide +kernel
theorem loc_ok {a b : Nat} (ha : a < 5) (hb : b < 5) : okPg (locP a b) 8 ∧ preW (locP a b) 8 ≤ 600 ∧ (runsW (locP a b) 8).length = ways2 a b ∧ (sortK (keysOf (runsW (locP a b) 8))).length = 1 := by
  have h := locOk_all a ha b hb
  unfold locOk at h
  simp only [Bool.and_eq_true, decide_eq_true_eq] at h
  rw [sortK_length]
  exact ⟨h.1.1.1, h.1.1.2, h.1.2, h.2⟩
set_option maxRecDepth 100000 in
theorem loc11 : preW (locP 1 1) 8 = 5 := by decide +kernel
set_option maxRecDepth 100000 in
theorem loc11r : (runsW (locP 1 1) 8).length = 2 := by decide +kernel
set_option maxRecDepth 100000 in
theorem lockP_ok : okPg lockP 8 ∧ preW lockP 8 ≤ 100 ∧ stuckN (runsW lockP 8) = 2 := by decide +kernel
end Go.Proofs.YtljlaopjimkcmaaGreat

/- The contract of the law's local. -/
namespace Go.Proofs.YtljlaopjimkcmaaGreat
open Go.RowKit

def insC6 (i : Ins) : List Value := [.int .i64 i.kind, .int .i64 i.r, .int .i64 i.x, .int .i64 i.n]
theorem insC6_len (i : Ins) : (insC6 i).length = 4 := rfl
theorem insC6_one (i : Ins) : ∀ v ∈ insC6 i, v.oneCell' = true := by
  intro v hv
  simp [insC6] at hv
  rcases hv with rfl | rfl | rfl | rfl <;> rfl
theorem infoIns6 : (Tryz.prog.info? 60).map (fun i => (i.zero, i.size, i.bytes)) = some (some (.agg #[.int .i64 0, .int .i64 0, .int .i64 0, .int .i64 0]), 4, 32) := by kernel_rfl
theorem code_row6 {w : World} {a : Option Addr} {l : List Ins} (h : RowAt w a 4 insC6 l) : CodeAt w a l := by
  refine ⟨h.1, fun hn => ?_⟩
  obtain ⟨b, o, rfl, hc⟩ := h.2 hn
  exact ⟨b, o, rfl, fun i hi => ⟨hc i hi 0 _ rfl, hc i hi 1 _ rfl, hc i hi 2 _ rfl, hc i hi 3 _ rfl⟩⟩
theorem locL_succ (k : Nat) : locL (k + 1) = locL k ++ [locI] := List.replicate_succ'
theorem locL_len (k : Nat) : (locL k).length = k := List.length_replicate

set_option maxRecDepth 100000 in
set_option maxHeartbeats 2000000 in
theorem local_any (n : Nat) (w : World) (hn : n ≤ 1000) :
    Calls Tryz.prog 19 #[.int .i64 (n : Int)] w fun r w' => ∃ c cap, r = .returned (.slice c n cap) ∧ CodeAt w' c (locL n) ∧ (c = none → cap = 0) ∧ Below w.heap.size w w' := by
  go_enter Tryz.func19, Tryz.ntmps19
  go_wp2
  go_loopw [3, 5] (fun s i wr => ∃ k : Nat, k ≤ n ∧ i = .int .i64 k ∧ Hid (OwnRow wr w.heap.size 60 4 insC6 s (locL k)) ∧ Hid (Below w.heap.size w wr)) (fun _ i _ => n - (intOf i).toNat)
  case atStart => exact ⟨0, Nat.zero_le _, rfl, ownRow_nil _ _ _ _ _, Below.refl _ _⟩
  case round =>
    obtain ⟨k, hk, rfl, HO, HB⟩ := hrel
    have hbs := HB.out.size
    by_cases hlt : k < n
    · have hlk : (locL k).length ≤ 1000000 := by rw [locL_len]; omega
      go_wp2_with (at_builtin; refine wp_appendR (f := insC6) (n := 4) 57 60 32 (.agg #[.int .i64 0, .int .i64 0, .int .i64 0, .int .i64 0]) Tryz.underlying57 infoIns6 rfl (by omega) (by omega) insC6_len rfl _ _ rfl w.heap.size _ (locL k) rfl (HO.out.alloc _) ⟨wr.heap.size, 0, none⟩ rfl locI (insC6_one _) (cells_new wr (insC6 locI) _ _ rfl) hlk (Nat.le_trans hbs (below_alloc1 _ _).size) ?_; intro v9 w9 hown9 hb9 _; have HO9 := Lib.hid hown9; have HB9 := Lib.hid (HB.out.trans (((below_alloc1 wr (.cells (insC6 locI).toArray 60)).mono hbs).trans hb9)); clear hown9 hb9)
      go_roundw
      case rel => exact ⟨k + 1, by omega, by go_num, by rw [locL_succ]; exact HO9.out, HB9.out⟩
      case measure => simp [intOf]; omega
    · obtain rfl : k = n := by omega
      obtain ⟨c, cap, hv, hrow, hnone⟩ := OwnRow.form HO.out insC6_len (by rw [locL_len]; omega)
      rw [locL_len] at hv
      subst hv
      have HC := Lib.hid (code_row6 hrow)
      clear hrow
      go_wp2_with fail
      go_ret
      exact ⟨c, cap, rfl, HC.out, hnone, HB.out⟩

end Go.Proofs.YtljlaopjimkcmaaGreat

/- The contracts of the deeds: load, store, set, add, lock, unlock, jump, assert. -/
namespace Go.Proofs.YtljlaopjimkcmaaGreat
open Go.RowKit

theorem StAt.setReg {w : World} {b : Nat} {s : St} (h : StAt w b s) (t y : Nat) (n : Int) (ht : t < s.ts.length) (h4 : s.ts.length ≤ 4) (hy : y < 2) (hl : (s.th t).r.length = 2) :
    StAt (w.setCell ⟨b, 2 + t * 37 + 35 + y, none⟩ (.int .i64 n)) b (s.put t { s.th t with r := (s.th t).r.set y n }) := by
  rw [Nat.add_assoc]
  exact h.set _ _ n (by omega) (stNum_put s t _ (35 + y) n ht h4 (by omega) (thrNum_reg _ _ y n hy hl))
theorem StAt.setAt {w : World} {b : Nat} {s : St} (h : StAt w b s) (t n : Nat) (ht : t < s.ts.length) (h4 : s.ts.length ≤ 4) :
    StAt (w.setCell ⟨b, 2 + t * 37 + 33, none⟩ (.int .i64 n)) b (s.put t { s.th t with at_ := n }) :=
  h.set _ _ n (by omega) (stNum_put s t _ 33 n ht h4 (by omega) (thrNum_at _ _ n))
theorem StAt.setFuel {w : World} {b : Nat} {s : St} (h : StAt w b s) (t n : Nat) (ht : t < s.ts.length) (h4 : s.ts.length ≤ 4) :
    StAt (w.setCell ⟨b, 2 + t * 37 + 34, none⟩ (.int .i64 n)) b (s.put t { s.th t with fuel := n }) :=
  h.set _ _ n (by omega) (stNum_put s t _ 34 n ht h4 (by omega) (thrNum_fuel _ _ n))
theorem StAt.setVar {w : World} {b : Nat} {s : St} (h : StAt w b s) (x : Nat) (n : Int) (hx : x < 4) (hl : s.v.length = 4) :
    StAt (w.setCell ⟨b, 150 + x, none⟩ (.int .i64 n)) b { s with v := s.v.set x n } := h.set _ _ n (by omega) (stNum_setVar s x n hx hl)
theorem StAt.setWho {w : World} {b : Nat} {s : St} (h : StAt w b s) (x : Nat) (n : Int) (hx : x < 2) (hl : s.m.length = 2) :
    StAt (w.setCell ⟨b, 154 + x, none⟩ (.int .i64 n)) b { s with m := s.m.set x n } := h.set _ _ n (by omega) (stNum_setWho s x n hx hl)

theorem Only.drewN {b : Nat} {w w' : World} (h : Only b w w') {n : Nat} : Only b w (w'.drewN n) := ⟨h.os, h.tape, h.output, h.size, h.block⟩
theorem only_alloc (b : Nat) (w : World) (o : Obj) : Only b w (w.alloc o) := (Only.refl b w).alloc o

set_option maxRecDepth 100000 in
set_option maxHeartbeats 1000000 in
theorem load_any {s : St} {b : Nat} {w : World} (h : StAt w b s) (t : Nat) (ht : t < s.ts.length) (h4 : s.ts.length ≤ 4) (kd n : Int) (r x : Nat) (hr : r < 2) (hx : x < 4) (hl : (s.th t).r.length = 2) :
    Calls Tryz.prog 69 #[.pointer (some ⟨b, 0, none⟩), .int .i64 t, .agg #[.int .i64 kd, .int .i64 r, .int .i64 x, .int .i64 n]] w fun e w' => e = .returned (.tuple #[]) ∧ StAt w' b (s.put t { s.th t with r := (s.th t).r.set r (s.v.getD x 0) }) ∧ Only b w w' := by
  have hbl := h.lt
  have H := Lib.hid h
  have HB := Lib.hid (h.later (below_alloc1 w (.cells #[.int .i64 kd, .int .i64 r, .int .i64 x, .int .i64 n] 60)))
  have hfz := fun o => HB.out.frozen o
  have hff := fun o => h.frozen o
  clear h
  have c1 := H.out.num (150 + x) (by omega)
  rw [stNum_var _ _ hx] at c1
  generalize hg : s.v.getD x 0 = g at *
  clear hg
  have c0 := H.out.num (2 + t * 37 + (35 + r)) (by omega)
  rw [stNum_thr _ _ _ (by omega) (by omega), thr_reg, ← Nat.add_assoc] at c0
  go_enter Tryz.func69, Tryz.ntmps69
  go_wp2
  go_region
  go_wp2
  refine bodyPost_end (results_none rfl _ _ _) rfl ⟨rfl, ?_, ?_⟩
  · exact ((H.out.setReg t r g ht h4 hr hl).later (below_alloc1 _ _)).drew
  · exact (((Only.refl b w).setCell _ _).alloc _).drew

set_option maxRecDepth 100000 in
set_option maxHeartbeats 1000000 in
theorem store_any {s : St} {b : Nat} {w : World} (h : StAt w b s) (t : Nat) (ht : t < s.ts.length) (h4 : s.ts.length ≤ 4) (kd n : Int) (r x : Nat) (hr : r < 2) (hx : x < 4) (hl : s.v.length = 4) :
    Calls Tryz.prog 70 #[.pointer (some ⟨b, 0, none⟩), .int .i64 t, .agg #[.int .i64 kd, .int .i64 r, .int .i64 x, .int .i64 n]] w fun e w' => e = .returned (.tuple #[]) ∧ StAt w' b ({ s with v := s.v.set x ((s.th t).r.getD r 0) }) ∧ Only b w w' := by
  have hbl := h.lt
  have H := Lib.hid h
  have HB := Lib.hid (h.later (below_alloc1 w (.cells #[.int .i64 kd, .int .i64 r, .int .i64 x, .int .i64 n] 60)))
  have hfz := fun o => HB.out.frozen o
  have hff := fun o => h.frozen o
  clear h
  have c1 := H.out.num (150 + x) (by omega)
  have c0 := H.out.num (2 + t * 37 + (35 + r)) (by omega)
  rw [stNum_thr _ _ _ (by omega) (by omega), thr_reg, ← Nat.add_assoc] at c0
  generalize hg : (s.th t).r.getD r 0 = g at *
  clear hg
  go_enter Tryz.func70, Tryz.ntmps70
  go_wp2
  go_region
  go_wp2
  refine bodyPost_end (results_none rfl _ _ _) rfl ⟨rfl, ?_, ?_⟩
  · exact ((H.out.setVar x g hx hl).later (below_alloc1 _ _)).drew
  · exact (((Only.refl b w).setCell _ _).alloc _).drew

set_option maxRecDepth 100000 in
set_option maxHeartbeats 1000000 in
theorem set_any {s : St} {b : Nat} {w : World} (h : StAt w b s) (t : Nat) (ht : t < s.ts.length) (h4 : s.ts.length ≤ 4) (kd n : Int) (r x : Nat) (hr : r < 2) (hl : (s.th t).r.length = 2) :
    Calls Tryz.prog 71 #[.pointer (some ⟨b, 0, none⟩), .int .i64 t, .agg #[.int .i64 kd, .int .i64 r, .int .i64 x, .int .i64 n]] w fun e w' => e = .returned (.tuple #[]) ∧ StAt w' b (s.put t { s.th t with r := (s.th t).r.set r n }) ∧ Only b w w' := by
  have hbl := h.lt
  have H := Lib.hid h
  have HB := Lib.hid (h.later (below_alloc1 w (.cells #[.int .i64 kd, .int .i64 r, .int .i64 x, .int .i64 n] 60)))
  have hfz := fun o => HB.out.frozen o
  have hff := fun o => h.frozen o
  clear h
  have c0 := H.out.num (2 + t * 37 + (35 + r)) (by omega)
  rw [stNum_thr _ _ _ (by omega) (by omega), thr_reg, ← Nat.add_assoc] at c0
  go_enter Tryz.func71, Tryz.ntmps71
  go_wp2
  go_region
  go_wp2
  refine bodyPost_end (results_none rfl _ _ _) rfl ⟨rfl, ?_, ?_⟩
  · exact ((H.out.setReg t r n ht h4 hr hl).later (below_alloc1 _ _)).drew
  · exact (((Only.refl b w).setCell _ _).alloc _).drew

set_option maxRecDepth 100000 in
set_option maxHeartbeats 1000000 in
theorem add_any {s : St} {b : Nat} {w : World} (h : StAt w b s) (t : Nat) (ht : t < s.ts.length) (h4 : s.ts.length ≤ 4) (kd n : Int) (r x : Nat) (hr : r < 2) (hl : (s.th t).r.length = 2) :
    Calls Tryz.prog 72 #[.pointer (some ⟨b, 0, none⟩), .int .i64 t, .agg #[.int .i64 kd, .int .i64 r, .int .i64 x, .int .i64 n]] w fun e w' => e = .returned (.tuple #[]) ∧ StAt w' b (s.put t { s.th t with r := (s.th t).r.set r (IntKind.i64.wrap ((s.th t).r.getD r 0 + n)) }) ∧ Only b w w' := by
  have hbl := h.lt
  have H := Lib.hid h
  have HB := Lib.hid (h.later (below_alloc1 w (.cells #[.int .i64 kd, .int .i64 r, .int .i64 x, .int .i64 n] 60)))
  have hfz := fun o => HB.out.frozen o
  have hff := fun o => h.frozen o
  clear h
  have c0 := H.out.num (2 + t * 37 + (35 + r)) (by omega)
  rw [stNum_thr _ _ _ (by omega) (by omega), thr_reg, ← Nat.add_assoc] at c0
  generalize hg : (s.th t).r.getD r 0 = g at *
  clear hg
  go_enter Tryz.func72, Tryz.ntmps72
  go_wp2
  go_region
  go_wp2
  have e : wrap64 (g + n) = IntKind.i64.wrap (g + n) := by rw [IntKind.wrap_i64]; unfold wrap64; first | rfl | omega
  rw [e]
  refine bodyPost_end (results_none rfl _ _ _) rfl ⟨rfl, ?_, ?_⟩
  · exact ((H.out.setReg t r (IntKind.i64.wrap (g + n)) ht h4 hr hl).later (below_alloc1 _ _)).drew
  · exact (((Only.refl b w).setCell _ _).alloc _).drew

set_option maxRecDepth 100000 in
set_option maxHeartbeats 1000000 in
theorem lock_any {s : St} {b : Nat} {w : World} (h : StAt w b s) (t : Nat) (_ht : t < s.ts.length) (_h4 : s.ts.length ≤ 4) (kd n : Int) (r x : Nat) (hx : x < 2) (hl : s.m.length = 2) :
    Calls Tryz.prog 73 #[.pointer (some ⟨b, 0, none⟩), .int .i64 t, .agg #[.int .i64 kd, .int .i64 r, .int .i64 x, .int .i64 n]] w fun e w' => e = .returned (.tuple #[]) ∧ StAt w' b ({ s with m := s.m.set x t }) ∧ Only b w w' := by
  have hbl := h.lt
  have H := Lib.hid h
  have HB := Lib.hid (h.later (below_alloc1 w (.cells #[.int .i64 kd, .int .i64 r, .int .i64 x, .int .i64 n] 60)))
  have hfz := fun o => HB.out.frozen o
  have hff := fun o => h.frozen o
  clear h
  have c1 := H.out.num (154 + x) (by omega)
  go_enter Tryz.func73, Tryz.ntmps73
  go_wp2
  go_region
  go_wp2
  refine bodyPost_end (results_none rfl _ _ _) rfl ⟨rfl, ?_, ?_⟩
  · exact ((H.out.setWho x t hx hl).later (below_alloc1 _ _)).drew
  · exact (((Only.refl b w).setCell _ _).alloc _).drew

set_option maxRecDepth 100000 in
set_option maxHeartbeats 1000000 in
theorem unlock_any {s : St} {b : Nat} {w : World} (h : StAt w b s) (t : Nat) (_ht : t < s.ts.length) (_h4 : s.ts.length ≤ 4) (kd n : Int) (r x : Nat) (hx : x < 2) (hl : s.m.length = 2) :
    Calls Tryz.prog 74 #[.pointer (some ⟨b, 0, none⟩), .int .i64 t, .agg #[.int .i64 kd, .int .i64 r, .int .i64 x, .int .i64 n]] w fun e w' => e = .returned (.tuple #[]) ∧ StAt w' b (if s.who x = t then { s with m := s.m.set x (-1) } else s) ∧ Only b w w' := by
  have hbl := h.lt
  have H := Lib.hid h
  have HB := Lib.hid (h.later (below_alloc1 w (.cells #[.int .i64 kd, .int .i64 r, .int .i64 x, .int .i64 n] 60)))
  have hfz := fun o => HB.out.frozen o
  have hff := fun o => h.frozen o
  clear h
  have c1 := H.out.num (154 + x) (by omega)
  rw [stNum_who] at c1
  have hv : s.m.getD x (-1) = s.who x := rfl
  rw [hv] at c1
  clear hv
  by_cases hw : s.who x = t
  · rw [if_pos hw]
    rw [hw] at c1
    clear hw
    go_enter Tryz.func74, Tryz.ntmps74
    go_wp2
    go_quiet (fail)
    go_wp2
    go_region
    go_wp2
    refine bodyPost_end (results_none rfl _ _ _) rfl ⟨rfl, ?_, ?_⟩
    · exact StAt.setWho (w := ((w.alloc _).drewN _).drew) HB.out x (-1) hx hl
    · exact ((only_alloc b w _).drewN.drew).setCell _ _
  · rw [if_neg hw]
    have hq : (s.who x == (t : Int)) = false := by simpa using hw
    clear hw
    go_enter Tryz.func74, Tryz.ntmps74
    go_wp2
    go_quiet (fail)
    go_wp2
    refine bodyPost_end (results_none rfl _ _ _) rfl ⟨rfl, ?_, ?_⟩
    · exact HB.out
    · exact (only_alloc b w _).drewN

set_option maxRecDepth 100000 in
set_option maxHeartbeats 1000000 in
theorem jump_any {s : St} {b : Nat} {w : World} (h : StAt w b s) (t : Nat) (ht : t < s.ts.length) (h4 : s.ts.length ≤ 4) (kd n : Int) (r x : Nat) (hr : r < 2) :
    Calls Tryz.prog 75 #[.pointer (some ⟨b, 0, none⟩), .int .i64 t, .agg #[.int .i64 kd, .int .i64 r, .int .i64 x, .int .i64 n]] w fun e w' => e = .returned (.tuple #[]) ∧ StAt w' b (if (s.th t).r.getD r 0 = 0 then s else s.put t { s.th t with at_ := x }) ∧ Only b w w' := by
  have hbl := h.lt
  have H := Lib.hid h
  have HB := Lib.hid (h.later (below_alloc1 w (.cells #[.int .i64 kd, .int .i64 r, .int .i64 x, .int .i64 n] 60)))
  have hfz := fun o => HB.out.frozen o
  have hff := fun o => h.frozen o
  clear h
  have c0 := H.out.num (2 + t * 37 + (35 + r)) (by omega)
  rw [stNum_thr _ _ _ (by omega) (by omega), thr_reg, ← Nat.add_assoc] at c0
  have c1 := H.out.num (2 + t * 37 + 33) (by omega)
  by_cases hw : (s.th t).r.getD r 0 = 0
  · rw [if_pos hw]
    rw [hw] at c0
    clear hw
    go_enter Tryz.func75, Tryz.ntmps75
    go_wp2
    go_quiet (fail)
    go_wp2
    refine bodyPost_end (results_none rfl _ _ _) rfl ⟨rfl, ?_, ?_⟩
    · exact HB.out
    · exact (only_alloc b w _).drewN
  · rw [if_neg hw]
    have hq : ((s.th t).r.getD r 0 != 0) = true := by simpa using hw
    generalize (s.th t).r.getD r 0 = g at *
    clear hw
    go_enter Tryz.func75, Tryz.ntmps75
    go_wp2
    go_quiet (fail)
    go_wp2
    refine bodyPost_end (results_none rfl _ _ _) rfl ⟨rfl, ?_, ?_⟩
    · exact StAt.setAt (w := (w.alloc _).drewN _) HB.out t x ht h4
    · exact (only_alloc b w _).drewN.setCell _ _

set_option maxRecDepth 100000 in
set_option maxHeartbeats 1000000 in
theorem assert_any {s : St} {b : Nat} {w : World} (h : StAt w b s) (t : Nat) (_ht : t < s.ts.length) (_h4 : s.ts.length ≤ 4) (kd n : Int) (r x : Int) :
    Calls Tryz.prog 76 #[.pointer (some ⟨b, 0, none⟩), .int .i64 t, .agg #[.int .i64 kd, .int .i64 r, .int .i64 x, .int .i64 n]] w fun e w' => e = .returned (.tuple #[]) ∧ StAt w' b (s) ∧ Only b w w' := by
  have hbl := h.lt
  have H := Lib.hid h
  have HB := Lib.hid (h.later (below_alloc1 w (.cells #[.int .i64 kd, .int .i64 r, .int .i64 x, .int .i64 n] 60)))
  have hfz := fun o => HB.out.frozen o
  have hff := fun o => h.frozen o
  clear h
  go_enter Tryz.func76, Tryz.ntmps76
  go_wp2
  refine bodyPost_end (results_none rfl _ _ _) rfl ⟨rfl, ?_, ?_⟩
  · exact HB.out
  · exact only_alloc b w _

end Go.Proofs.YtljlaopjimkcmaaGreat

/- The contract of Copy; what a state that is none does. -/
namespace Go.Proofs.YtljlaopjimkcmaaGreat
open Go.RowKit

theorem zero_stateC : ∃ Z : Array Value, Z = numA (fun _ => 0) ∧ ∀ w, (zeroValue 84).run Tryz.prog w = .ok (.agg Z) w :=
  ⟨_, rfl, (zero_of_info (P := Tryz.prog) (t := 84) (v := .agg (numA fun _ => 0)) (n := 156) (by kernel_rfl)).1⟩

set_option maxRecDepth 100000 in
set_option maxHeartbeats 2000000 in
theorem copy_state {s : St} {b : Nat} {w : World} (h : StAt w b s) :
    Calls Tryz.prog 42 #[.pointer (some ⟨b, 0, none⟩)] w fun r w' => r = .returned (.pointer (some ⟨w.heap.size, 0, none⟩)) ∧ w.alloc (.cells (numA (stNum s)) 84) = w' := by
  obtain ⟨Z, hZ, hzv⟩ := zero_stateC
  have hi : (Tryz.prog.info? 84).map (·.size) = some 156 := by kernel_rfl
  have hX : (numA (stNum s)).size = 156 := numA_size _
  have hX1 := numA_one (stNum s)
  have hZ1 : Z.size = 156 := by rw [hZ, numA_size]
  have hg : w.heap[b]? = some (.cells (numA (stNum s)) 84 (0, 0)) := h
  clear hZ h
  generalize numA (stNum s) = X at *
  have HI : Hid ((Tryz.prog.info? 84).map (·.size) = some X.size) := by rw [hX]; exact hi
  have HG := Lib.hid hg
  have HO : Hid (Z.size = X.size) := by show _ = _; rw [hX, hZ1]
  have H1 := Lib.hid hX1
  clear hi hX hZ1 hg hX1
  go_enter Tryz.func42, Tryz.ntmps42
  go_wp2_with (first
    | (refine wpList_load_row rfl 84 (.tmp 7) rfl b rfl 84 X (0, 0) _ HG.out Tryz.underlying84 rfl HI.out ?_)
    | (refine wpList_store_row rfl 84 (.tmp 3) (.tmp 8) rfl w.heap.size X rfl rfl 84 Z (heap_alloc_last w _) HI.out HO.out H1.out ?_; rw [World.setRow_alloc_new]))
  go_ret
  exact ⟨rfl, rfl⟩

end Go.Proofs.YtljlaopjimkcmaaGreat

/- The contract of do. -/
namespace Go.Proofs.YtljlaopjimkcmaaGreat
open Go.RowKit

set_option maxRecDepth 100000 in
set_option maxHeartbeats 1000000 in
theorem deeds_any (w : World) : Calls Tryz.prog 57 #[] w fun r w' => r = .returned (.agg #[.nilFunc, .func (.func 69) #[] #[], .func (.func 70) #[] #[], .func (.func 71) #[] #[], .func (.func 72) #[] #[], .func (.func 73) #[] #[], .func (.func 74) #[] #[], .func (.func 75) #[] #[], .func (.func 76) #[] #[]]) ∧ Below w.heap.size w w' := by
  go_enter Tryz.func57, Tryz.ntmps57
  go_wp2
  refine bodyPost_ret (v := .agg #[.nilFunc, .func (.func 69) #[] #[], .func (.func 70) #[] #[], .func (.func 71) #[] #[], .func (.func 72) #[] #[], .func (.func 73) #[] #[], .func (.func 74) #[] #[], .func (.func 75) #[] #[], .func (.func 76) #[] #[]]) ?_ rfl ⟨rfl, below_alloc1 w _⟩
  simp [results, Tryz.results57, go_sem]

theorem Only.setNew {b g : Nat} {w w1 : World} (h : Only b w w1) (hg : w.heap.size ≤ g) (o : Nat) (v : Value) : Only b w (w1.setCell ⟨g, o, none⟩ v) :=
  ⟨h.os, h.tape, h.output, by simp [World.setCell]; exact h.size, fun k hk hb => (Below.heap_setCell _ _ _ _ (by show k ≠ g; omega)).trans (h.block k hk hb)⟩
theorem Only.set4 {b g : Nat} {w w1 : World} (h : Only b w w1) (hg : w.heap.size ≤ g) (v0 v1 v2 v3 : Value) : Only b w ((((w1.setCell ⟨g, 0, none⟩ v0).setCell ⟨g, 1, none⟩ v1).setCell ⟨g, 2, none⟩ v2).setCell ⟨g, 3, none⟩ v3) :=
  (((h.setNew hg 0 v0).setNew hg 1 v1).setNew hg 2 v2).setNew hg 3 v3
theorem StAt.other {b g : Nat} {w : World} {s : St} (h : StAt w b s) (hg : b ≠ g) (o : Nat) (v : Value) : StAt (w.setCell ⟨g, o, none⟩ v) b s := (Below.heap_setCell _ _ _ _ hg).trans h
theorem StAt.other4 {b g : Nat} {w : World} {s : St} (h : StAt w b s) (hg : b ≠ g) (v0 v1 v2 v3 : Value) : StAt ((((w.setCell ⟨g, 0, none⟩ v0).setCell ⟨g, 1, none⟩ v1).setCell ⟨g, 2, none⟩ v2).setCell ⟨g, 3, none⟩ v3) b s :=
  (((h.other hg 0 v0).other hg 1 v1).other hg 2 v2).other hg 3 v3

theorem St.put_th (s : St) (t : Nat) (y : Thr) (ht : t < s.ts.length) : (s.put t y).th t = y := by
  unfold St.put St.th
  simp only [Int.toNat_natCast]
  rw [getD_set _ _ _ _ _ ht, if_pos rfl]
theorem St.put_put (s : St) (t : Nat) (y z : Thr) : (s.put t y).put t z = s.put t z := by
  simp [St.put]
theorem St.put_len (s : St) (t : Nat) (y : Thr) : (s.put t y).ts.length = s.ts.length := by
  simp [St.put]

/-- The thread behind fuel and place. -/
def St.go (s : St) (t : Nat) : St := s.put t { s.th t with fuel := (s.th t).fuel - 1, at_ := (s.th t).at_ + 1 }
theorem St.go_th (s : St) (t : Nat) (ht : t < s.ts.length) : (s.go t).th t = { s.th t with fuel := (s.th t).fuel - 1, at_ := (s.th t).at_ + 1 } := St.put_th _ _ _ ht
theorem StAt.go {w : World} {b : Nat} {s : St} (h : StAt w b s) (t f a : Nat) (ht : t < s.ts.length) (h4 : s.ts.length ≤ 4) (hf : (s.th t).fuel = f + 1) (ha : (s.th t).at_ = a) :
    StAt ((w.setCell ⟨b, 2 + t * 37 + 34, none⟩ (.int .i64 f)).setCell ⟨b, 2 + t * 37 + 33, none⟩ (.int .i64 ((a + 1 : Nat) : Int))) b (s.go t) := by
  have h1 := h.setFuel t f ht h4
  have h2 := h1.setAt t (a + 1) (by rw [St.put_len]; exact ht) (by rw [St.put_len]; exact h4)
  rw [St.put_th _ _ _ ht, St.put_put] at h2
  unfold St.go
  rw [hf, ha]
  exact h2

theorem thr_go (s : St) (t : Nat) (i : Ins) (_ht : t < s.ts.length) : s.do_ t i = { s.put t (s.thr t i) with
    v := if i.kind = 2 then s.v.set i.x.toNat (s.reg t i) else s.v
    m := if i.kind = 5 then s.m.set i.x.toNat t else if i.kind = 6 ∧ s.who i.x = t then s.m.set i.x.toNat (-1) else s.m } := rfl

theorem go_load (s : St) (t r x : Nat) (n : Int) (ht : t < s.ts.length) : (s.go t).put t { (s.go t).th t with r := ((s.go t).th t).r.set r ((s.go t).v.getD x 0) } = s.do_ t ⟨1, r, x, n⟩ := by
  rw [St.go_th s t ht]; unfold St.go; rw [St.put_put, thr_go s t _ ht]; rfl
theorem go_store (s : St) (t r x : Nat) (n : Int) (ht : t < s.ts.length) : { s.go t with v := (s.go t).v.set x (((s.go t).th t).r.getD r 0) } = s.do_ t ⟨2, r, x, n⟩ := by
  rw [St.go_th s t ht, thr_go s t _ ht]; rfl
theorem go_set (s : St) (t r x : Nat) (n : Int) (ht : t < s.ts.length) : (s.go t).put t { (s.go t).th t with r := ((s.go t).th t).r.set r n } = s.do_ t ⟨3, r, x, n⟩ := by
  rw [St.go_th s t ht]; unfold St.go; rw [St.put_put, thr_go s t _ ht]; rfl
theorem go_add (s : St) (t r x : Nat) (n : Int) (ht : t < s.ts.length) : (s.go t).put t { (s.go t).th t with r := ((s.go t).th t).r.set r (IntKind.i64.wrap (((s.go t).th t).r.getD r 0 + n)) } = s.do_ t ⟨4, r, x, n⟩ := by
  rw [St.go_th s t ht]; unfold St.go; rw [St.put_put, thr_go s t _ ht]; rfl
theorem go_lock (s : St) (t r x : Nat) (n : Int) (ht : t < s.ts.length) : { s.go t with m := (s.go t).m.set x t } = s.do_ t ⟨5, r, x, n⟩ := by
  rw [thr_go s t _ ht]; rfl
theorem go_unlock (s : St) (t r x : Nat) (n : Int) (ht : t < s.ts.length) : (if (s.go t).who x = t then { s.go t with m := (s.go t).m.set x (-1) } else s.go t) = s.do_ t ⟨6, r, x, n⟩ := by
  have e : (s.go t).who x = s.who x := rfl
  rw [thr_go s t _ ht, e]
  dsimp only
  by_cases h : s.who x = t
  · rw [if_pos h]; simp only [h, and_self, if_true, Int.toNat_natCast]; rfl
  · rw [if_neg h]; simp only [h, and_false, if_false]; rfl
theorem go_jump (s : St) (t r x : Nat) (n : Int) (ht : t < s.ts.length) : (if ((s.go t).th t).r.getD r 0 = 0 then s.go t else (s.go t).put t { (s.go t).th t with at_ := x }) = s.do_ t ⟨7, r, x, n⟩ := by
  rw [St.go_th s t ht, thr_go s t _ ht]
  unfold St.go
  rw [St.put_put]
  by_cases h : (s.th t).r.getD r 0 = 0
  · have h' : s.reg t ⟨7, r, x, n⟩ = 0 := h
    dsimp only
    rw [if_pos h]
    unfold St.thr
    simp only [h', ne_eq, not_true, and_false, if_false]
    rfl
  · have h' : ¬ s.reg t ⟨7, r, x, n⟩ = 0 := h
    dsimp only
    rw [if_neg h]
    unfold St.thr
    simp only [h', ne_eq, not_false_eq_true, and_self, if_true, Int.toNat_natCast]
    rfl
theorem go_assert (s : St) (t r x : Nat) (n : Int) (ht : t < s.ts.length) : s.go t = s.do_ t ⟨8, r, x, n⟩ := by
  rw [thr_go s t _ ht]; rfl

end Go.Proofs.YtljlaopjimkcmaaGreat

/- The contract of do. -/
namespace Go.Proofs.YtljlaopjimkcmaaGreat
open Go.RowKit

set_option maxRecDepth 100000 in
set_option maxHeartbeats 4000000 in
theorem do_any {F : Nat} {s : St} {b : Nat} {w : World} (h : StAt w b s) (ok : s.Ok F) (t : Nat) (i : Ins) (hi : s.ins t = some i) :
    Calls Tryz.prog 36 #[.pointer (some ⟨b, 0, none⟩), .int .i64 t, .agg #[.int .i64 i.kind, .int .i64 i.r, .int .i64 i.x, .int .i64 i.n]] w fun e w' => e = .returned (.tuple #[]) ∧ StAt w' b (s.do_ t i) ∧ Only b w w' := by
  obtain ⟨o1, o2, o3, o4, o5, o6⟩ := ok.obj hi
  obtain ⟨_, hf, _⟩ := St.ins_has hi
  have hk : i.kind = 1 ∨ i.kind = 2 ∨ i.kind = 3 ∨ i.kind = 4 ∨ i.kind = 5 ∨ i.kind = 6 ∨ i.kind = 7 ∨ i.kind = 8 := by
    have := (ok.ins_right hi).1
    unfold rightIns at this
    repeat' split at this
    all_goals first | omega | (cases this)
  have hx0 : 0 ≤ i.x := by
    have := (ok.ins_right hi).1
    unfold rightIns at this
    repeat' split at this
    all_goals first | (simp only [decide_eq_true_eq] at this; omega) | (cases this)
  obtain ⟨k, hkk, ht⟩ := St.ins_nat hi
  obtain rfl : t = k := by omega
  have h4 := ok.len4
  have hbl := h.lt
  have hrl : (s.th t).r.length = 2 := (ok.thr _ (St.th_mem ht)).1
  have hvl := ok.vl
  have hml := ok.ml
  obtain ⟨kd, r, x, n⟩ := i
  dsimp only at *
  obtain ⟨r, rfl⟩ : ∃ y : Nat, r = y := ⟨r.toNat, by omega⟩
  obtain ⟨x, rfl⟩ : ∃ y : Nat, x = y := ⟨x.toNat, by omega⟩
  obtain ⟨f, hf⟩ : ∃ f, (s.th t).fuel = f + 1 := ⟨(s.th t).fuel - 1, by simp at hf; omega⟩
  have c0 := h.num (2 + t * 37 + 34) (by omega)
  rw [stNum_thr _ _ _ (by omega) (by omega), thr_fuel, hf, Int.natCast_add] at c0
  have c1 := h.num (2 + t * 37 + 33) (by omega)
  rw [stNum_thr _ _ _ (by omega) (by omega), thr_at] at c1
  have hf8 : f ≤ 1000 := by have := (ok.thr _ (St.th_mem ht)).2.2; have := ok.f8; omega
  have ha8 : (s.th t).at_ ≤ 8 := by have := ok.place t ht; have := ok.code8 t ht; omega
  have HG := Lib.hid (h.go t f (s.th t).at_ ht h4 hf rfl)
  have hff := fun o => h.frozen o
  generalize (s.th t).at_ = a at *
  have H := Lib.hid h
  have OK := Lib.hid ok
  have HK := Lib.hid hk
  have HT := Lib.hid (And.intro hrl (And.intro hvl (And.intro hml (And.intro o1 (And.intro o2 o3)))))
  clear h ok hk hf hi hkk hrl hvl hml o1 o2 o3 o6
  go_enter Tryz.func36, Tryz.ntmps36
  go_wp2
  have HW : Hid (StAt (((w.setCell ⟨b, 2 + t * 37 + 34, none⟩ (.int .i64 f)).setCell ⟨b, 2 + t * 37 + 33, none⟩ (.int .i64 (a + 1))).alloc (.cells #[.int .i64 kd, .int .i64 r, .int .i64 x, .int .i64 n] 60)) b (s.go t)) := HG.out.later (below_alloc1 _ _)
  have HO : Hid (Only b w (((w.setCell ⟨b, 2 + t * 37 + 34, none⟩ (.int .i64 f)).setCell ⟨b, 2 + t * 37 + 33, none⟩ (.int .i64 (a + 1))).alloc (.cells #[.int .i64 kd, .int .i64 r, .int .i64 x, .int .i64 n] 60))) := (((Only.refl b w).setCell _ _).setCell _ _).alloc _
  have HZ : Hid (w.heap.size < (((w.setCell ⟨b, 2 + t * 37 + 34, none⟩ (.int .i64 f)).setCell ⟨b, 2 + t * 37 + 33, none⟩ (.int .i64 (a + 1))).alloc (.cells #[.int .i64 kd, .int .i64 r, .int .i64 x, .int .i64 n] 60)).heap.size) := by show _ < _; simp [World.setCell]
  have HC : Hid ((((w.setCell ⟨b, 2 + t * 37 + 34, none⟩ (.int .i64 f)).setCell ⟨b, 2 + t * 37 + 33, none⟩ (.int .i64 (a + 1))).alloc (.cells #[.int .i64 kd, .int .i64 r, .int .i64 x, .int .i64 n] 60)).heap[w.heap.size]? = some (.cells #[.int .i64 kd, .int .i64 r, .int .i64 x, .int .i64 n] 60 (0, 0))) := by
    show _ = _
    have := heap_alloc_new ((w.setCell ⟨b, 2 + t * 37 + 34, none⟩ (.int .i64 f)).setCell ⟨b, 2 + t * 37 + 33, none⟩ (.int .i64 (a + 1))) (.cells #[.int .i64 kd, .int .i64 r, .int .i64 x, .int .i64 n] 60)
    simpa [World.setCell] using this
  clear c0 c1 hff HG H
  generalize ((w.setCell ⟨b, 2 + t * 37 + 34, none⟩ (.int .i64 f)).setCell ⟨b, 2 + t * 37 + 33, none⟩ (.int .i64 (a + 1))).alloc (.cells #[.int .i64 kd, .int .i64 r, .int .i64 x, .int .i64 n] 60) = W at *
  generalize w.heap.size = gw at *
  have hz := HZ.out
  have HQ : Hid (∀ w', Below W.heap.size W w' → w'.cell? ⟨gw, 0, none⟩ = some (.int .i64 kd) ∧ Below W.heap.size W w') := fun w' h => ⟨by rw [h.cell (p := ⟨gw, 0, none⟩) hz]; simp [World.cell?, HC.out], h⟩
  have HQ2 : Hid (∀ w', Below W.heap.size W w' → w'.cell? ⟨gw, 0, none⟩ = some (.int .i64 kd) ∧ w'.cell? ⟨gw, 1, none⟩ = some (.int .i64 r) ∧ w'.cell? ⟨gw, 2, none⟩ = some (.int .i64 x) ∧ w'.cell? ⟨gw, 3, none⟩ = some (.int .i64 n)) := fun w' h => by
    refine ⟨?_, ?_, ?_, ?_⟩
    · rw [h.cell (p := ⟨gw, 0, none⟩) hz]; simp [World.cell?, HC.out]
    · rw [h.cell (p := ⟨gw, 1, none⟩) hz]; simp [World.cell?, HC.out]
    · rw [h.cell (p := ⟨gw, 2, none⟩) hz]; simp [World.cell?, HC.out]
    · rw [h.cell (p := ⟨gw, 3, none⟩) hz]; simp [World.cell?, HC.out]
  have hB9 : Below W.heap.size W W.drew := (Below.refl _ _).drew
  clear HZ HC
  rcases HK.out with rfl | rfl | rfl | rfl | rfl | rfl | rfl | rfl
  · have hix : ∀ w', (Instr.index 115 (.agg #[.nilFunc, .func (.func 69) #[] #[], .func (.func 70) #[] #[], .func (.func 71) #[] #[], .func (.func 72) #[] #[], .func (.func 73) #[] #[], .func (.func 74) #[] #[], .func (.func 75) #[] #[], .func (.func 76) #[] #[]]) (.int .i64 1)).run Tryz.prog w' = .ok (.func (.func 69) #[] #[]) w' := fun w' => run_index_one w' 1 Tryz.underlying115 Tryz.underlying114 rfl (by kernel_rfl) (by omega) rfl
    go_region_held3 (fun w' => w'.cell? ⟨gw, 0, none⟩ = some (.int .i64 1) ∧ Below W.heap.size W w') (first | exact HQ.out _ hB9 | exact HQ.out _ hB10)
      (first | (go_at_call 57; refine (deeds_any _).mono ?_; rintro r1 w10 ⟨rfl, hb10⟩; have hB10 := hB9.trans (hb10.mono hB9.size)))
    obtain ⟨q0, q1, q2, q3⟩ := HQ2.out _ hB10
    go_wp2_with fail
    obtain ⟨hrl, hvl, hml, o1, o2, o3⟩ := HT.out
    refine (load_any (HW.out.later hB10) t (by rw [St.go, St.put_len]; exact ht) (by rw [St.go, St.put_len]; exact h4) _ _ r x (by omega) (by have := o1 (by simp); omega) (by rw [St.go_th _ _ ht]; exact hrl)).mono ?_
    rintro r1 w11 ⟨rfl, hs, ho⟩
    clear hrl hvl hml o1 o2 o3
    rw [go_load s t r x n ht] at hs
    go_wp2
    exact bodyPost_end (results_none rfl _ _ _) rfl ⟨rfl, hs, (HO.out.trans (.of_below hB10)).trans ho⟩
  · have hix : ∀ w', (Instr.index 115 (.agg #[.nilFunc, .func (.func 69) #[] #[], .func (.func 70) #[] #[], .func (.func 71) #[] #[], .func (.func 72) #[] #[], .func (.func 73) #[] #[], .func (.func 74) #[] #[], .func (.func 75) #[] #[], .func (.func 76) #[] #[]]) (.int .i64 2)).run Tryz.prog w' = .ok (.func (.func 70) #[] #[]) w' := fun w' => run_index_one w' 2 Tryz.underlying115 Tryz.underlying114 rfl (by kernel_rfl) (by omega) rfl
    go_region_held3 (fun w' => w'.cell? ⟨gw, 0, none⟩ = some (.int .i64 2) ∧ Below W.heap.size W w') (first | exact HQ.out _ hB9 | exact HQ.out _ hB10)
      (first | (go_at_call 57; refine (deeds_any _).mono ?_; rintro r1 w10 ⟨rfl, hb10⟩; have hB10 := hB9.trans (hb10.mono hB9.size)))
    obtain ⟨q0, q1, q2, q3⟩ := HQ2.out _ hB10
    go_wp2_with fail
    obtain ⟨hrl, hvl, hml, o1, o2, o3⟩ := HT.out
    refine (store_any (HW.out.later hB10) t (by rw [St.go, St.put_len]; exact ht) (by rw [St.go, St.put_len]; exact h4) _ _ r x (by omega) (by have := o1 (by simp); omega) hvl).mono ?_
    rintro r1 w11 ⟨rfl, hs, ho⟩
    clear hrl hvl hml o1 o2 o3
    rw [go_store s t r x n ht] at hs
    go_wp2
    exact bodyPost_end (results_none rfl _ _ _) rfl ⟨rfl, hs, (HO.out.trans (.of_below hB10)).trans ho⟩
  · have hix : ∀ w', (Instr.index 115 (.agg #[.nilFunc, .func (.func 69) #[] #[], .func (.func 70) #[] #[], .func (.func 71) #[] #[], .func (.func 72) #[] #[], .func (.func 73) #[] #[], .func (.func 74) #[] #[], .func (.func 75) #[] #[], .func (.func 76) #[] #[]]) (.int .i64 3)).run Tryz.prog w' = .ok (.func (.func 71) #[] #[]) w' := fun w' => run_index_one w' 3 Tryz.underlying115 Tryz.underlying114 rfl (by kernel_rfl) (by omega) rfl
    go_region_held3 (fun w' => w'.cell? ⟨gw, 0, none⟩ = some (.int .i64 3) ∧ Below W.heap.size W w') (first | exact HQ.out _ hB9 | exact HQ.out _ hB10)
      (first | (go_at_call 57; refine (deeds_any _).mono ?_; rintro r1 w10 ⟨rfl, hb10⟩; have hB10 := hB9.trans (hb10.mono hB9.size)))
    obtain ⟨q0, q1, q2, q3⟩ := HQ2.out _ hB10
    go_wp2_with fail
    obtain ⟨hrl, hvl, hml, o1, o2, o3⟩ := HT.out
    refine (set_any (HW.out.later hB10) t (by rw [St.go, St.put_len]; exact ht) (by rw [St.go, St.put_len]; exact h4) _ _ r x (by omega) (by rw [St.go_th _ _ ht]; exact hrl)).mono ?_
    rintro r1 w11 ⟨rfl, hs, ho⟩
    clear hrl hvl hml o1 o2 o3
    rw [go_set s t r x n ht] at hs
    go_wp2
    exact bodyPost_end (results_none rfl _ _ _) rfl ⟨rfl, hs, (HO.out.trans (.of_below hB10)).trans ho⟩
  · have hix : ∀ w', (Instr.index 115 (.agg #[.nilFunc, .func (.func 69) #[] #[], .func (.func 70) #[] #[], .func (.func 71) #[] #[], .func (.func 72) #[] #[], .func (.func 73) #[] #[], .func (.func 74) #[] #[], .func (.func 75) #[] #[], .func (.func 76) #[] #[]]) (.int .i64 4)).run Tryz.prog w' = .ok (.func (.func 72) #[] #[]) w' := fun w' => run_index_one w' 4 Tryz.underlying115 Tryz.underlying114 rfl (by kernel_rfl) (by omega) rfl
    go_region_held3 (fun w' => w'.cell? ⟨gw, 0, none⟩ = some (.int .i64 4) ∧ Below W.heap.size W w') (first | exact HQ.out _ hB9 | exact HQ.out _ hB10)
      (first | (go_at_call 57; refine (deeds_any _).mono ?_; rintro r1 w10 ⟨rfl, hb10⟩; have hB10 := hB9.trans (hb10.mono hB9.size)))
    obtain ⟨q0, q1, q2, q3⟩ := HQ2.out _ hB10
    go_wp2_with fail
    obtain ⟨hrl, hvl, hml, o1, o2, o3⟩ := HT.out
    refine (add_any (HW.out.later hB10) t (by rw [St.go, St.put_len]; exact ht) (by rw [St.go, St.put_len]; exact h4) _ _ r x (by omega) (by rw [St.go_th _ _ ht]; exact hrl)).mono ?_
    rintro r1 w11 ⟨rfl, hs, ho⟩
    clear hrl hvl hml o1 o2 o3
    rw [go_add s t r x n ht] at hs
    go_wp2
    exact bodyPost_end (results_none rfl _ _ _) rfl ⟨rfl, hs, (HO.out.trans (.of_below hB10)).trans ho⟩
  · have hix : ∀ w', (Instr.index 115 (.agg #[.nilFunc, .func (.func 69) #[] #[], .func (.func 70) #[] #[], .func (.func 71) #[] #[], .func (.func 72) #[] #[], .func (.func 73) #[] #[], .func (.func 74) #[] #[], .func (.func 75) #[] #[], .func (.func 76) #[] #[]]) (.int .i64 5)).run Tryz.prog w' = .ok (.func (.func 73) #[] #[]) w' := fun w' => run_index_one w' 5 Tryz.underlying115 Tryz.underlying114 rfl (by kernel_rfl) (by omega) rfl
    go_region_held3 (fun w' => w'.cell? ⟨gw, 0, none⟩ = some (.int .i64 5) ∧ Below W.heap.size W w') (first | exact HQ.out _ hB9 | exact HQ.out _ hB10)
      (first | (go_at_call 57; refine (deeds_any _).mono ?_; rintro r1 w10 ⟨rfl, hb10⟩; have hB10 := hB9.trans (hb10.mono hB9.size)))
    obtain ⟨q0, q1, q2, q3⟩ := HQ2.out _ hB10
    go_wp2_with fail
    obtain ⟨hrl, hvl, hml, o1, o2, o3⟩ := HT.out
    refine (lock_any (HW.out.later hB10) t (by rw [St.go, St.put_len]; exact ht) (by rw [St.go, St.put_len]; exact h4) _ _ r x (by have := o2 (by simp); omega) hml).mono ?_
    rintro r1 w11 ⟨rfl, hs, ho⟩
    clear hrl hvl hml o1 o2 o3
    rw [go_lock s t r x n ht] at hs
    go_wp2
    exact bodyPost_end (results_none rfl _ _ _) rfl ⟨rfl, hs, (HO.out.trans (.of_below hB10)).trans ho⟩
  · have hix : ∀ w', (Instr.index 115 (.agg #[.nilFunc, .func (.func 69) #[] #[], .func (.func 70) #[] #[], .func (.func 71) #[] #[], .func (.func 72) #[] #[], .func (.func 73) #[] #[], .func (.func 74) #[] #[], .func (.func 75) #[] #[], .func (.func 76) #[] #[]]) (.int .i64 6)).run Tryz.prog w' = .ok (.func (.func 74) #[] #[]) w' := fun w' => run_index_one w' 6 Tryz.underlying115 Tryz.underlying114 rfl (by kernel_rfl) (by omega) rfl
    go_region_held3 (fun w' => w'.cell? ⟨gw, 0, none⟩ = some (.int .i64 6) ∧ Below W.heap.size W w') (first | exact HQ.out _ hB9 | exact HQ.out _ hB10)
      (first | (go_at_call 57; refine (deeds_any _).mono ?_; rintro r1 w10 ⟨rfl, hb10⟩; have hB10 := hB9.trans (hb10.mono hB9.size)))
    obtain ⟨q0, q1, q2, q3⟩ := HQ2.out _ hB10
    go_wp2_with fail
    obtain ⟨hrl, hvl, hml, o1, o2, o3⟩ := HT.out
    refine (unlock_any (HW.out.later hB10) t (by rw [St.go, St.put_len]; exact ht) (by rw [St.go, St.put_len]; exact h4) _ _ r x (by have := o2 (by simp); omega) hml).mono ?_
    rintro r1 w11 ⟨rfl, hs, ho⟩
    clear hrl hvl hml o1 o2 o3
    rw [go_unlock s t r x n ht] at hs
    go_wp2
    exact bodyPost_end (results_none rfl _ _ _) rfl ⟨rfl, hs, (HO.out.trans (.of_below hB10)).trans ho⟩
  · have hix : ∀ w', (Instr.index 115 (.agg #[.nilFunc, .func (.func 69) #[] #[], .func (.func 70) #[] #[], .func (.func 71) #[] #[], .func (.func 72) #[] #[], .func (.func 73) #[] #[], .func (.func 74) #[] #[], .func (.func 75) #[] #[], .func (.func 76) #[] #[]]) (.int .i64 7)).run Tryz.prog w' = .ok (.func (.func 75) #[] #[]) w' := fun w' => run_index_one w' 7 Tryz.underlying115 Tryz.underlying114 rfl (by kernel_rfl) (by omega) rfl
    go_region_held3 (fun w' => w'.cell? ⟨gw, 0, none⟩ = some (.int .i64 7) ∧ Below W.heap.size W w') (first | exact HQ.out _ hB9 | exact HQ.out _ hB10)
      (first | (go_at_call 57; refine (deeds_any _).mono ?_; rintro r1 w10 ⟨rfl, hb10⟩; have hB10 := hB9.trans (hb10.mono hB9.size)))
    obtain ⟨q0, q1, q2, q3⟩ := HQ2.out _ hB10
    go_wp2_with fail
    obtain ⟨hrl, hvl, hml, o1, o2, o3⟩ := HT.out
    refine (jump_any (HW.out.later hB10) t (by rw [St.go, St.put_len]; exact ht) (by rw [St.go, St.put_len]; exact h4) _ _ r x (by omega)).mono ?_
    rintro r1 w11 ⟨rfl, hs, ho⟩
    clear hrl hvl hml o1 o2 o3
    rw [go_jump s t r x n ht] at hs
    go_wp2
    exact bodyPost_end (results_none rfl _ _ _) rfl ⟨rfl, hs, (HO.out.trans (.of_below hB10)).trans ho⟩
  · have hix : ∀ w', (Instr.index 115 (.agg #[.nilFunc, .func (.func 69) #[] #[], .func (.func 70) #[] #[], .func (.func 71) #[] #[], .func (.func 72) #[] #[], .func (.func 73) #[] #[], .func (.func 74) #[] #[], .func (.func 75) #[] #[], .func (.func 76) #[] #[]]) (.int .i64 8)).run Tryz.prog w' = .ok (.func (.func 76) #[] #[]) w' := fun w' => run_index_one w' 8 Tryz.underlying115 Tryz.underlying114 rfl (by kernel_rfl) (by omega) rfl
    go_region_held3 (fun w' => w'.cell? ⟨gw, 0, none⟩ = some (.int .i64 8) ∧ Below W.heap.size W w') (first | exact HQ.out _ hB9 | exact HQ.out _ hB10)
      (first | (go_at_call 57; refine (deeds_any _).mono ?_; rintro r1 w10 ⟨rfl, hb10⟩; have hB10 := hB9.trans (hb10.mono hB9.size)))
    obtain ⟨q0, q1, q2, q3⟩ := HQ2.out _ hB10
    go_wp2_with fail
    obtain ⟨hrl, hvl, hml, o1, o2, o3⟩ := HT.out
    refine (assert_any (HW.out.later hB10) t (by rw [St.go, St.put_len]; exact ht) (by rw [St.go, St.put_len]; exact h4) _ _ r x).mono ?_
    rintro r1 w11 ⟨rfl, hs, ho⟩
    clear hrl hvl hml o1 o2 o3
    rw [go_assert s t r x n ht] at hs
    go_wp2
    exact bodyPost_end (results_none rfl _ _ _) rfl ⟨rfl, hs, (HO.out.trans (.of_below hB10)).trans ho⟩

end Go.Proofs.YtljlaopjimkcmaaGreat
