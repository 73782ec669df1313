/- The contract of foata's levelOf. -/
import Derived.Test.YtljlaopjimkcmaaHasDep
import Derived.Test.YtljlaopjimkcmaaBackwardL
namespace Go.Proofs.Ytljlaopjimkcmaa
open Go.RowKit Go.Shelf

attribute [local go_sem] Oper.semAt_some

/-- Has level i one that e depends on? -/
def hasD (m : List (List Ev)) (e : Ev) (i : Nat) : Bool := (m.getD i []).any fun x => dep x e
theorem lvN_is {m : List (List Ev)} {e : Ev} {q : Nat} (hq : q < m.length) (h : hasD m e q = true) (h2 : ∀ j, q < j → j < m.length → hasD m e j = false) : lvN m e = q + 1 := by
  have h1 : q < lvN m e := top_ge (f := fun i => i + 1) (q := fun i => (m.getD i []).any fun x => dep x e) hq h
  rcases top_zero_or (f := fun i => i + 1) (q := fun i => (m.getD i []).any fun x => dep x e) (n := m.length) with h0 | ⟨j, hj, hj2, hj3⟩
  · have : lvN m e = 0 := h0
    omega
  · have h3 : lvN m e = j + 1 := hj3
    by_cases e' : j = q
    · omega
    · have h4 := h2 j (by omega) hj
      unfold hasD at h4
      rw [h4] at hj2
      cases hj2
theorem lvN_zero {m : List (List Ev)} {e : Ev} (h : ∀ j, j < m.length → hasD m e j = false) : lvN m e = 0 := by
  rcases top_zero_or (f := fun i => i + 1) (q := fun i => (m.getD i []).any fun x => dep x e) (n := m.length) with h0 | ⟨j, hj, hj2, _⟩
  · exact h0
  · have h4 := h j hj
    unfold hasD at h4
    rw [h4] at hj2
    cases hj2

/-- None of the levels that came has one. -/
def NoD (m : List (List Ev)) (e : Ev) {n : Nat} (pre : List (Fin n)) : Prop := ∀ q ∈ pre, hasD m e q.val = false
theorem NoD.snoc {m : List (List Ev)} {e : Ev} {n : Nat} {pre : List (Fin n)} (h : NoD m e pre) {q : Fin n} (hq : hasD m e q.val = false) : NoD m e (pre ++ [q]) := by
  intro x hx
  rcases List.mem_append.1 hx with hx | hx
  · exact h x hx
  · simp at hx
    rw [hx]
    exact hq

theorem keepsO_below {W W' : World} (h : Below W.heap.size W W') : KeepsOthers W W' := ⟨h.size, fun k _ ho _ => (h.block k (Array.getElem?_eq_some_iff.1 ho).1).trans ho⟩

set_option maxRecDepth 100000 in
set_option maxHeartbeats 4000000 in
theorem levelOf_any (a : Option Addr) (cap : Nat) (m : List (List Ev)) (e : Ev) (w : World) (hl : LvAt w a m) (hm : m.length ≤ 1000) :
    Calls Try.prog 19 #[.slice a m.length cap, .agg #[.int .i64 e.thread, .int .i64 e.kind, .int .i64 e.obj, .bool e.fail]] w fun r w' => r = .returned (.int .i64 (lvN m e)) ∧ Below w.heap.size w w' := by
  obtain ⟨ss, hsl, hrow, hin⟩ := hl
  have HIN := Lib.hid hin
  have HSL := Lib.hid hsl
  clear hin
  have hsm : ss.length ≤ 1000 := by omega
  rw [← hsl]
  clear hsl hm
  refine (callsIn_wide (n := 3)).1 ?_
  have h1 : 1 ≤ 3 := by omega
  refine callsIn_of_wp_marks Try.func19 rfl trivial ?_ rfl
  simp only [Try.ntmps19, List.size_toArray, List.length_cons, List.length_nil, Nat.reduceAdd, Nat.reduceSub, Array.replicate_succ, Array.replicate_zero, List.push_toArray, List.append_toArray, List.nil_append, List.cons_append]
  have hb0 := below_alloc2 w (.cells #[.int .i64 e.thread, .int .i64 e.kind, .int .i64 e.obj, .bool e.fail] 39) (.cells #[.int .i64 0] 3)
  have hsz : ((w.alloc (.cells #[.int .i64 e.thread, .int .i64 e.kind, .int .i64 e.obj, .bool e.fail] 39)).alloc (.cells #[.int .i64 0] 3)).heap.size = w.heap.size + 1 + 1 := by simp
  have HBX : Hid (EvBox ((w.alloc (.cells #[.int .i64 e.thread, .int .i64 e.kind, .int .i64 e.obj, .bool e.fail] 39)).alloc (.cells #[.int .i64 0] 3)) w.heap.size e) := (EvBox.new w e).later (below_alloc1 _ _)
  have HR : Hid (MidAt ((w.alloc (.cells #[.int .i64 e.thread, .int .i64 e.kind, .int .i64 e.obj, .bool e.fail] 39)).alloc (.cells #[.int .i64 0] 3)) (w.heap.size + 1) 3 [.int .i64 0]) := heap_alloc2_new w _ _
  gi_wp2_with fail
  generalize (w.alloc (.cells #[.int .i64 e.thread, .int .i64 e.kind, .int .i64 e.obj, .bool e.fail] 39)).alloc (.cells #[.int .i64 0] 3) = W0 at *
  refine ⟨trivial, ?_⟩
  refine (backL_in Fence.wide _ trivial rfl _ _ _ _).mono ?_
  rintro r w' ⟨rfl, rfl⟩
  have hb2 := below_alloc1 W0 (.cells #[.slice a ss.length cap] 24)
  have hB2 : Below w.heap.size w (W0.alloc (.cells #[.slice a ss.length cap] 24)) := hb0.trans (hb2.mono hb0.size)
  have hbs : (W0.alloc (.cells #[.slice a ss.length cap] 24)).cell? ⟨W0.heap.size, 0, none⟩ = some (.slice a ss.length cap) := by simp
  have hrow2 := hrow.later hB2
  have hbk : 0 < ss.length → ∀ b o, a = some ⟨b, o, none⟩ → b < W0.heap.size + 1 := by
    rintro h b o rfl
    obtain ⟨b', o', e, hc⟩ := hrow.2 (by intro e; rw [e] at h; simp at h)
    cases e
    have h2 : b < w.heap.size := cell_block (hc 0 h 0 _ rfl)
    have := hb0.size
    omega
  have HR0 := Lib.hid (HR.out.later hb2)
  have HBX0 := Lib.hid (HBX.out.later hb2)
  have hsl : (W0.alloc (.cells #[.slice a ss.length cap] 24)).heap.size = W0.heap.size + 1 := by simp
  gi_wp2
  generalize W0.alloc (.cells #[.slice a ss.length cap] 24) = Wl at *
  rw [hsz] at hbs hsl
  refine wpIn_rangeFunc_ownH rfl h1 (gf := 43) (lb := #[.pointer (some ⟨w.heap.size + 1 + 1, 0, none⟩)]) rfl trivial (enters_of Try.func43 (by kernel_rfl) rfl)
    (backL_stops Fence.wide (3 - 1) trivial rfl (by omega) (w.heap.size + 1 + 1) (w.heap.size + 1 + 1 + 1) a cap ss hsm Wl (by omega) (by omega) hbs hrow2 (fun h b o hb => by have := hbk h b o hb; omega)) belowK_t (belowK_b (by omega)) (Below.refl _ _) (fun _ => rfl)
    (fun pre W => NoD m e pre ∧ Below Wl.heap.size Wl W)
    (fun c pre W => (c = .ret ∧ ∃ ini last, pre = ini ++ [last] ∧ NoD m e ini ∧ hasD m e last.val = true ∧ MidAt W (w.heap.size + 1) 3 [.int .i64 ((last.val : Int) + 1)]) ∧ Below w.heap.size w W)
    (OwnFrom.and (ownFrom_pure _ (fun pre => NoD m e pre)) (ownFrom_below (Nat.le_refl _) (by omega)))
    (fun c => OwnFrom.and (Own.from (fun s A B row hs hg hr => by obtain ⟨hc, ini, last, e1, e2, e3, e4⟩ := hs; exact ⟨hc, ini, last, e1, e2, e3, e4.keptRow hg hr⟩) _) (ownFrom_below (Nat.le_refl _) (by omega)))
    ⟨(fun q hq => absurd hq (by simp)), Below.refl _ _⟩
    (fun x a'' _ => a'' = { tmps := #[.slice a ss.length cap, .agg #[.int .i64 e.thread, .int .i64 e.kind, .int .i64 e.obj, .bool e.fail], undef, .pointer (some ⟨w.heap.size, 0, none⟩), .pointer (some ⟨w.heap.size + 1, 0, none⟩), .int .i64 (x.val : Int), .slice ss[x.val].a ss[x.val].n ss[x.val].c, .slice a ss.length cap, .func (.func 43) #[] #[.pointer (some ⟨w.heap.size + 1 + 1, 0, none⟩)], .int .i64 (x.val : Int), .slice ss[x.val].a ss[x.val].n ss[x.val].c, undef, undef, undef, undef, undef], defers := [] })
    (fun x a'' _ X Y row hs hg hr => hs)
    ?assign ?body ?done ?stop
  case assign =>
    rintro l1 pre x W K ⟨hN, hB⟩ hK
    dsimp only [backL]
    gi_wp2
    exact hK _ _ ((KeepsOthers.refl W).from _) (Below.refl _ W) ⟨hN, hB⟩ rfl
  case body =>
    rintro l1 pre x a'' W hl ⟨r, hr⟩ ⟨hN, hB⟩ rfl hlt
    have HX := Lib.hid (HBX0.out.later hB)
    have HRX := Lib.hid (HR0.out.later hB)
    have hBw := hB2.trans (hB.mono hB2.size)
    obtain ⟨hn1, hn2, _⟩ := HIN.out x.val x.isLt
    have HC := Lib.hid (containsE_any ss[x.val].a ss[x.val].c (m.getD x.val []) e w.heap.size W (hn2.later hBw) HX.out)
    rw [← hn1] at HC
    have HN := Lib.hid hN
    have hf := HRX.out.frozen 0
    have hz := HRX.out.cell 0
    clear hN hn1 hn2
    gi_wp2_with fail
    refine ⟨trivial, ?_⟩
    refine (callsIn_wide.2 HC.out).mono ?_
    rintro r W2 ⟨rfl, hb3⟩
    have hks : KeepsOthers W W2 := keepsO_below hb3
    have hB3 := hB.trans (hb3.mono hB.size)
    have hBw3 := hB2.trans (hB3.mono hB2.size)
    have HRX3 := Lib.hid (HRX.out.later hb3)
    have hf3 := HRX3.out.frozen 0
    have hz3 : W2.cell? ⟨w.heap.size + 1, 0, none⟩ = some (.int .i64 0) := HRX3.out.cell 0
    have hx1000 : (x.val : Int) < 1000 := by have := x.isLt; omega
    have hx0 : (0 : Int) ≤ x.val := by omega
    clear hf hz
    cases hd : (m.getD x.val []).any fun x => dep x e
    · have HN2 : Hid (NoD m e (pre ++ [x])) := HN.out.snoc hd
      clear hd
      gi_wp2
      exact ⟨hks.from _, hb3.mono (by have := hB.size; omega), HN2.out, hB3⟩
    · have HD : Hid (hasD m e x.val = true) := hd
      clear hd
      gi_wp2
      refine ⟨(hks.trans (KeepsOthers.setCell _ _ _)).from _, ⟨rfl, pre, x, rfl, HN.out, HD.out, ?_⟩, hBw3.setCell (p := ⟨w.heap.size + 1, 0, none⟩) (by simp) _⟩
      exact MidAt.set HRX3.out 0 _
  case done =>
    rintro D ys W hD hys ⟨hN, hB⟩ hK
    have HZ := Lib.hid (HR0.out.later hB)
    have hBw := hB2.trans (hB.mono hB2.size)
    have z0 : W.cell? ⟨w.heap.size + 1, 0, none⟩ = some (.int .i64 0) := HZ.out.cell 0
    have f0 := HZ.out.frozen 0
    have HIS : Hid (lvN m e = 0) := lvN_zero fun j hj => by
      have hjs : j < ss.length := by rw [HSL.out]; exact hj
      exact hN _ (hys.mem (j := j) (by omega) hjs (Nat.le_refl _))
    clear hN hys
    gi_wp2
    have hK' := (KeepsOthers.setCell W ⟨w.heap.size + 1, 0, none⟩ (.int .i64 0)).same D _ hK rfl
    have hM : MidAt (W.setCell ⟨w.heap.size + 1, 0, none⟩ (.int .i64 0)) (w.heap.size + 1) 3 [.int .i64 0] := MidAt.set HZ.out 0 _
    have y0 := (hM.keptRow (grownBy_putObj' _ D (.deferred none)) (fun r e => by cases e; exact ⟨_, hK', rfl⟩)).cell 0
    refine ⟨by simp, .inl ⟨_, _, rfl, run_takeDeferred hK', ?_⟩⟩
    refine ⟨.int .i64 0, ?_, (by rw [HIS.out]; rfl), (hBw.setCell (p := ⟨w.heap.size + 1, 0, none⟩) (by simp) _).trans (belowK_b (w := w) (Nat.le_refl _) _ D _ _ (by omega) hK' rfl rfl)⟩
    simp [results, Try.f19, go_sem, y0]
  case stop =>
    rintro D c pre W hD ⟨k, hk, hbk2⟩ ⟨⟨rfl, ini, last, e1, e2, e3, e4⟩, hB⟩ hK
    have HIS : Hid (lvN m e = last.val + 1) := by
      have hlen := hbk2.len
      rw [e1, List.length_append, List.length_singleton] at hlen
      have hm2 : pre.map (fun q => q.val) = upto (fun k => ss.length - 1 - k) k := hbk2
      obtain ⟨k', rfl⟩ : ∃ k', k = k' + 1 := ⟨ini.length, by omega⟩
      rw [e1, List.map_append, upto_succ] at hm2
      obtain ⟨h5, h6⟩ := List.append_inj' hm2 rfl
      have hlv : last.val = ss.length - 1 - k' := by simpa using h6
      have hbi : Backs ss.length k' ini := h5
      have hlt := last.isLt
      refine lvN_is (by rw [← HSL.out]; exact hlt) e3 fun j hj hjl => ?_
      have hjc : j < ss.length := by rw [HSL.out]; exact hjl
      exact e2 _ (hbi.mem (j := j) (by omega) hjc (by omega))
    clear e1 e2 e3 hbk2
    gi_wp2
    have y0 := (e4.keptRow (grownBy_putObj' _ D (.deferred none)) (fun r e => by cases e; exact ⟨_, hK, rfl⟩)).cell 0
    refine ⟨by simp, .inl ⟨_, _, rfl, run_takeDeferred hK, ?_⟩⟩
    refine ⟨.int .i64 ((last.val : Int) + 1), ?_, (by rw [HIS.out]; rfl), hB.trans (belowK_b (w := w) (Nat.le_refl _) W D _ _ (by omega) hK rfl rfl)⟩
    simp [results, Try.f19, go_sem, y0]

end Go.Proofs.Ytljlaopjimkcmaa
