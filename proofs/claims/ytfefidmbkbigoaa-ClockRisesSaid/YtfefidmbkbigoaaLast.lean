/- The contract of clock's Last. -/
import Derived.Test.YtfefidmbkbigoaaBackward
import Derived.Test.YtfefidmbkbigoaaNumber
namespace Go.Proofs.Ytfefidmbkbigoaa
open Go.RowKit Go.Shelf

attribute [local go_sem] Oper.semAt_some

/-- The clock of a thread's last event, or none. -/
def LastIs (l : List Ev) (t : Int) (c : Nat → Nat) : Prop :=
  (∃ k, rightL l = true ∧ k < l.length ∧ (evI l k).thread = t ∧ (∀ j, k < j → j < l.length → (evI l j).thread ≠ t) ∧ c = fun u : Nat => clk l k u) ∨
  ((rightL l = true → ∀ k, k < l.length → (evI l k).thread ≠ t) ∧ c = fun _ => 0)
def LastR (l : List Ev) (t : Int) (w : World) (r : Ending) (w' : World) : Prop :=
  ∃ c : Nat → Nat, r = .returned (.agg #[.int .i64 (c 0), .int .i64 (c 1), .int .i64 (c 2), .int .i64 (c 3)]) ∧ LastIs l t c ∧ Below w.heap.size w w'

/-- No event of the thread among those that came. -/
def NoT (l : List Ev) (t : Int) {n : Nat} (pre : List (Fin n)) : Prop := ∀ q ∈ pre, (evI l q.val).thread ≠ t
theorem NoT.snoc {l : List Ev} {t : Int} {n : Nat} {pre : List (Fin n)} (h : NoT l t pre) {q : Fin n} (hq : (evI l q.val).thread ≠ t) : NoT l t (pre ++ [q]) := by
  intro x hx
  rcases List.mem_append.1 hx with hx | hx
  · exact h x hx
  · simp at hx
    rw [hx]
    exact hq
set_option maxRecDepth 100000 in
set_option maxHeartbeats 4000000 in
theorem last_any (a : Option Addr) (cap : Nat) (l : List Ev) (t : Int) (w : World) (hl : EvsAt w a l) (hm : l.length ≤ 1000) :
    Calls Try.prog 17 #[.slice a l.length cap, .int .i64 t] w (LastR l t w) := by
  have HL := Lib.hid hl
  clear hl
  refine (callsIn_wide (n := 3)).1 ?_
  have h1 : 1 ≤ 3 := by omega
  refine callsIn_of_wp_marks Try.func17 rfl trivial ?_ rfl
  simp only [Try.ntmps17, List.size_toArray, List.length_cons, List.length_nil, Nat.reduceAdd, Nat.reduceSub, Array.replicate_succ, Array.replicate_zero, List.push_toArray, List.append_toArray, List.nil_append, List.cons_append]
  have bL := ((Boxed.new w 22 (.slice a l.length cap)).alloc (.cells #[.int .i64 t] 3)).alloc (.cells #[.int .i64 0, .int .i64 0, .int .i64 0, .int .i64 0] 34)
  have bT := (Boxed.new (w.alloc (.cells #[.slice a l.length cap] 22)) 3 (.int .i64 t)).alloc (.cells #[.int .i64 0, .int .i64 0, .int .i64 0, .int .i64 0] 34)
  have bR : MidAt (((w.alloc (.cells #[.slice a l.length cap] 22)).alloc (.cells #[.int .i64 t] 3)).alloc (.cells #[.int .i64 0, .int .i64 0, .int .i64 0, .int .i64 0] 34)) ((w.alloc (.cells #[.slice a l.length cap] 22)).alloc (.cells #[.int .i64 t] 3)).heap.size 34 (nums4 fun _ => 0) := heap_alloc_new _ _
  simp only [World.size_alloc] at bT bR
  have hB0 : Below w.heap.size w (((w.alloc (.cells #[.slice a l.length cap] 22)).alloc (.cells #[.int .i64 t] 3)).alloc (.cells #[.int .i64 0, .int .i64 0, .int .i64 0, .int .i64 0] 34)) := (((Below.refl _ w).alloc (Nat.le_refl _) _).alloc (by simp) _).alloc (by simp; omega) _
  have hsz : (((w.alloc (.cells #[.slice a l.length cap] 22)).alloc (.cells #[.int .i64 t] 3)).alloc (.cells #[.int .i64 0, .int .i64 0, .int .i64 0, .int .i64 0] 34)).heap.size = w.heap.size + 1 + 1 + 1 := by simp
  gi_wp2_with fail
  generalize ((w.alloc (.cells #[.slice a l.length cap] 22)).alloc (.cells #[.int .i64 t] 3)).alloc (.cells #[.int .i64 0, .int .i64 0, .int .i64 0, .int .i64 0] 34) = W0 at *
  refine ⟨trivial, ?_⟩
  refine (callsIn_wide.2 (clocks_any a cap l W0 (HL.out.later hB0) hm)).mono ?_
  rintro r W1 ⟨a', cap', rfl, hrow, hb1⟩
  have hcl : (cks l).length ≤ l.length := by
    cases hr : rightL l
    · rw [cks_wrong hr]; simp
    · exact Nat.le_of_eq (cks_len hr)
  gi_wp2_with fail
  refine ⟨trivial, ?_⟩
  refine (back_in Fence.wide _ trivial rfl _ _ _ _).mono ?_
  rintro r w' ⟨rfl, rfl⟩
  have hb2 := below_alloc1 W1 (.cells #[.slice a' (cks l).length cap'] 31)
  have hs1 := hb1.size
  have hB2 : Below w.heap.size w (W1.alloc (.cells #[.slice a' (cks l).length cap'] 31)) := hB0.trans ((hb1.trans (hb2.mono hs1)).mono hB0.size)
  have hbs : (W1.alloc (.cells #[.slice a' (cks l).length cap'] 31)).cell? ⟨W1.heap.size, 0, none⟩ = some (.slice a' (cks l).length cap') := by simp
  have hrow2 := hrow.later hb2
  have hbk : 0 < (cks l).length → ∀ b o, a' = some ⟨b, o, none⟩ → b < W1.heap.size + 1 := by
    rintro h b o rfl
    obtain ⟨b', o', e, hc⟩ := hrow.2 (by intro e; rw [e] at h; simp at h)
    cases e
    have h2 : b < W1.heap.size := cell_block (hc 0 h 0 _ rfl)
    omega
  have qL := bL.cell
  have qT := bT.cell
  have cL := cell_later (hb1.trans (hb2.mono hs1)) qL
  have cT := cell_later (hb1.trans (hb2.mono hs1)) qT
  have HR0 := Lib.hid (bR.later (hb1.trans (hb2.mono hs1)))
  have HL2 := Lib.hid (HL.out.later hB2)
  have hsl : (W1.alloc (.cells #[.slice a' (cks l).length cap'] 31)).heap.size = W1.heap.size + 1 := by simp
  gi_wp2
  generalize W1.alloc (.cells #[.slice a' (cks l).length cap'] 31) = Wl at *
  refine wpIn_rangeFunc_ownH rfl h1 (gf := 57) (lb := #[.pointer (some ⟨W1.heap.size, 0, none⟩)]) rfl trivial (enters_of Try.func57 (by kernel_rfl) rfl)
    (back_stops Fence.wide (3 - 1) trivial rfl (by omega) W1.heap.size (W1.heap.size + 1) a' cap' (cks l) (by omega) Wl (by omega) (by omega) hbs hrow2 hbk) belowK_t (belowK_b (by omega)) (Below.refl _ _) (fun _ => rfl)
    (fun pre W => NoT l t pre ∧ Below Wl.heap.size Wl W)
    (fun c pre W => (c = .ret ∧ ∃ ini last, pre = ini ++ [last] ∧ NoT l t ini ∧ (evI l last.val).thread = t ∧ MidAt W (w.heap.size + 1 + 1) 34 (ckCell (cks l)[last.val])) ∧ Below w.heap.size w W)
    (OwnFrom.and (ownFrom_pure _ (fun pre => NoT l t pre)) (ownFrom_below (Nat.le_refl _) (by omega)))
    (fun c => OwnFrom.and (Own.from (fun s A B row hs hg hr => by obtain ⟨hc, ini, last, e1, e2, e3, e4⟩ := hs; exact ⟨hc, ini, last, e1, e2, e3, e4.keptRow hg hr⟩) _) (ownFrom_below (Nat.le_refl _) (by omega)))
    ⟨(fun q hq => absurd hq (by simp)), Below.refl _ _⟩
    (fun x a'' W => ∃ Bx, Wl.heap.size ≤ Bx ∧ MidAt W Bx 34 (ckCell (cks l)[x.val]) ∧ a'' = { tmps := #[.slice a l.length cap, .int .i64 t, .pointer (some ⟨w.heap.size, 0, none⟩), .pointer (some ⟨w.heap.size + 1, 0, none⟩), .pointer (some ⟨w.heap.size + 1 + 1, 0, none⟩), .int .i64 (x.val : Int), .pointer (some ⟨Bx, 0, none⟩), .slice a l.length cap, .slice a' (cks l).length cap', .func (.func 57) #[] #[.pointer (some ⟨W1.heap.size, 0, none⟩)], .int .i64 (x.val : Int), .agg #[.int .i64 ((cks l)[x.val] 0), .int .i64 ((cks l)[x.val] 1), .int .i64 ((cks l)[x.val] 2), .int .i64 ((cks l)[x.val] 3)], undef, undef, undef, undef, undef, undef, undef, undef, undef], defers := [] })
    (fun x a'' _ X Y row hs hg hr => by obtain ⟨Bx, h1, h2, h3⟩ := hs; exact ⟨Bx, h1, h2.keptRow hg (fun r e => (hr r e).2), h3⟩)
    ?assign ?body ?done ?stop
  case assign =>
    rintro l1 pre x W K ⟨hN, hB⟩ hK
    dsimp only [backE]
    gi_wp2
    refine hK _ _ ((KeepsOthers.alloc _ _).from _) ((Below.refl _ W).alloc (by have := hB.size; omega) _) ⟨hN, hB.alloc hB.size _⟩ ⟨W.heap.size, hB.size, ?_, rfl⟩
    exact mid_new W 34 (fun u => ((cks l)[x.val] u : Int))
  case body =>
    rintro l1 pre x a'' W hl ⟨r, hr⟩ ⟨hN, hB⟩ ⟨Bx, hBx, bX, rfl⟩ hlt
    have hxl : x.val < l.length := by have := x.isLt; omega
    obtain ⟨b, o, rfl, t0, _⟩ := HL2.out.one hxl
    have d0 := cell_later hB t0
    have dL := cell_later hB cL
    have dT := cell_later hB cT
    have HBX := Lib.hid bX
    have HRX := Lib.hid (HR0.out.later hB)
    have hgr : w.heap.size + 1 + 1 < Wl.heap.size := MidAt.lt HR0.out
    have hmx : Try.prog.follows .mixedOrders = true := by kernel_rfl
    clear bX t0
    have hBw := hB2.trans (hB.mono hB2.size)
    obtain ⟨z0, z1, z2, z3⟩ := HRX.out.four
    have f0 := HRX.out.frozen 0
    have f1 := HRX.out.frozen 1
    have f2 := HRX.out.frozen 2
    have f3 := HRX.out.frozen 3
    have HN := Lib.hid hN
    clear hN
    by_cases he : (evI l x.val).thread = t
    · have HE := Lib.hid he
      have hq : ((evI l x.val).thread == t) = true := by simp [he]
      obtain ⟨x0, x1, x2, x3⟩ := MidAt.four HBX.out
      clear he
      gi_wp2
      gi_region_with_o (fail)
      all_goals gi_wp2
      all_goals
        refine ⟨?_, ⟨rfl, pre, x, rfl, HN.out, HE.out, ?_⟩, ?_⟩
        · exact ((((KeepsOthers.drew W).trans (KeepsOthers.setCell _ _ _)).trans ((KeepsOthers.setCell _ _ _).trans (KeepsOthers.setCell _ _ _))).trans (KeepsOthers.setCell _ _ _)).from _
        · exact MidAt.set (MidAt.set (MidAt.set (MidAt.set (w := W.drew) HRX.out 0 _) 1 _) 2 _) 3 _
        · exact ((((hBw.drew).setCell (p := ⟨w.heap.size + 1 + 1, 0, none⟩) (by simp; omega) _).setCell (p := ⟨w.heap.size + 1 + 1, 1, none⟩) (by simp; omega) _).setCell (p := ⟨w.heap.size + 1 + 1, 2, none⟩) (by simp; omega) _).setCell (p := ⟨w.heap.size + 1 + 1, 3, none⟩) (by simp; omega) _
    · have HN2 : Hid (NoT l t (pre ++ [x])) := HN.out.snoc he
      have hq : ((evI l x.val).thread == t) = false := by simp [he]
      clear he
      gi_wp2
      gi_region_with_o (fail)
      all_goals gi_wp2
      all_goals exact ⟨(KeepsOthers.drew W).from _, (Below.refl _ W).drew, HN2.out, hB.drew⟩
  case done =>
    rintro D ys W hD hys ⟨hN, hB⟩ hK
    have HZ := Lib.hid (HR0.out.later hB)
    have hgr : w.heap.size + 1 + 1 < Wl.heap.size := MidAt.lt HR0.out
    have hBw := hB2.trans (hB.mono hB2.size)
    obtain ⟨z0, z1, z2, z3⟩ := HZ.out.four
    have f0 := HZ.out.frozen 0
    have f1 := HZ.out.frozen 1
    have f2 := HZ.out.frozen 2
    have f3 := HZ.out.frozen 3
    have HIS : Hid (LastIs l t (fun _ => 0)) := by
      refine .inr ⟨fun hr k hk => ?_, rfl⟩
      have hkc : k < (cks l).length := by rw [cks_len hr]; exact hk
      exact hN _ (hys.mem (j := k) (by omega) hkc (Nat.le_refl _))
    clear hN hys
    gi_wp2
    have hK' := (((KeepsOthers.setCell W ⟨w.heap.size + 1 + 1, 0, none⟩ (.int .i64 0)).trans (KeepsOthers.setCell _ ⟨w.heap.size + 1 + 1, 1, none⟩ (.int .i64 0))).trans ((KeepsOthers.setCell _ ⟨w.heap.size + 1 + 1, 2, none⟩ (.int .i64 0)).trans (KeepsOthers.setCell _ ⟨w.heap.size + 1 + 1, 3, none⟩ (.int .i64 0)))).same D _ hK rfl
    have hM : MidAt ((((W.setCell ⟨w.heap.size + 1 + 1, 0, none⟩ (.int .i64 0)).setCell ⟨w.heap.size + 1 + 1, 1, none⟩ (.int .i64 0)).setCell ⟨w.heap.size + 1 + 1, 2, none⟩ (.int .i64 0)).setCell ⟨w.heap.size + 1 + 1, 3, none⟩ (.int .i64 0)) (w.heap.size + 1 + 1) 34 (nums4 fun _ => 0) := MidAt.set (MidAt.set (MidAt.set (MidAt.set HZ.out 0 _) 1 _) 2 _) 3 _
    obtain ⟨y0, y1, y2, y3⟩ := (hM.keptRow (grownBy_putObj' _ D (.deferred none)) (fun r e => by cases e; exact ⟨_, hK', rfl⟩)).four
    refine ⟨by simp, .inl ⟨_, _, rfl, run_takeDeferred hK', ?_⟩⟩
    refine ⟨.agg #[.int .i64 0, .int .i64 0, .int .i64 0, .int .i64 0], ?_, fun _ => 0, rfl, HIS.out, ((((hBw.setCell (p := ⟨w.heap.size + 1 + 1, 0, none⟩) (by simp; omega) _).setCell (p := ⟨w.heap.size + 1 + 1, 1, none⟩) (by simp; omega) _).setCell (p := ⟨w.heap.size + 1 + 1, 2, none⟩) (by simp; omega) _).setCell (p := ⟨w.heap.size + 1 + 1, 3, none⟩) (by simp; omega) _).trans (belowK_b (w := w) (Nat.le_refl _) _ D _ _ (by omega) hK' rfl rfl)⟩
    simp [results, Try.f17, go_sem, y0, y1, y2, y3]
  case stop =>
    rintro D c pre W hD ⟨k, hk, hbk2⟩ ⟨⟨rfl, ini, last, e1, e2, e3, e4⟩, hB⟩ hK
    have hgr : w.heap.size + 1 + 1 < Wl.heap.size := MidAt.lt HR0.out
    have HIS : Hid (LastIs l t (cks l)[last.val]) := by
      have hr : rightL l = true := by
        cases h : rightL l
        · have h0 : (cks l).length = 0 := by rw [cks_wrong h]; rfl
          have := last.isLt
          omega
        · rfl
      have hll : last.val < l.length := by have := last.isLt; omega
      have hlen := hbk2.len
      rw [e1, List.length_append, List.length_singleton] at hlen
      have hm2 : pre.map (fun q => q.val) = upto (fun k => (cks l).length - 1 - k) k := hbk2
      obtain ⟨k', rfl⟩ : ∃ k', k = k' + 1 := ⟨ini.length, by omega⟩
      rw [e1, List.map_append, upto_succ] at hm2
      obtain ⟨h5, h6⟩ := List.append_inj' hm2 rfl
      have hlv : last.val = (cks l).length - 1 - k' := by simpa using h6
      have hbi : Backs (cks l).length k' ini := h5
      refine .inl ⟨last.val, hr, hll, e3, fun j hj hjl => ?_, cks_get hr hll⟩
      have hjc : j < (cks l).length := by rw [cks_len hr]; exact hjl
      exact e2 _ (hbi.mem (j := j) (by omega) hjc (by omega))
    clear e1 e2 e3 hbk2
    gi_wp2
    obtain ⟨y0, y1, y2, y3⟩ := MidAt.four (e4.keptRow (grownBy_putObj' _ D (.deferred none)) (fun r e => by cases e; exact ⟨_, hK, rfl⟩))
    refine ⟨by simp, .inl ⟨_, _, rfl, run_takeDeferred hK, ?_⟩⟩
    refine ⟨.agg #[.int .i64 ((cks l)[last.val] 0), .int .i64 ((cks l)[last.val] 1), .int .i64 ((cks l)[last.val] 2), .int .i64 ((cks l)[last.val] 3)], ?_, (cks l)[last.val], rfl, HIS.out, hB.trans (belowK_b (w := w) (Nat.le_refl _) W D _ _ (by omega) hK rfl rfl)⟩
    simp [results, Try.f17, go_sem, y0, y1, y2, y3]

end Go.Proofs.Ytfefidmbkbigoaa
