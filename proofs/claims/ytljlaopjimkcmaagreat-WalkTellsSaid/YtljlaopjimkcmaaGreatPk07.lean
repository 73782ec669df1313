import Derived.Deep.AppendSrc
import Derived.Deep.RegionHeld3
import Derived.Laws.OwnMore
import Derived.BigRegion
import Derived.Test.YtljlaopjimkcmaaGreatPk02
import Derived.Test.YtljlaopjimkcmaaGreatPk03
import Derived.Test.YtljlaopjimkcmaaGreatPk05
import Derived.Test.YtljlaopjimkcmaaGreatPk06

/- The contract of the document's New. -/
namespace Go.Proofs.YtljlaopjimkcmaaGreat
open Go.RowKit

def thrs (F k : Nat) : List Thr := List.replicate k ⟨0, F, [0, 0]⟩
theorem thrs_len (F k : Nat) : (thrs F k).length = k := by simp [thrs]
theorem thrs_succ (F k : Nat) : thrs F (k + 1) = thrs F k ++ [⟨0, F, [0, 0]⟩] := by simp [thrs, List.replicate_succ']

def boxA (p : Pg) (a : Option Addr) (cap : Nat) (tv : Value) : Array Value :=
  #[.int .i64 p.vars, .int .i64 p.mutexes, .slice a p.threads.length cap, tv, .int .i64 0, .int .i64 0, .int .i64 0, .int .i64 0, .int .i64 (-1), .int .i64 (-1)]

theorem wp_appendThr {w : World} {ops : Array Oper} {rest : List Oper} {o : Oper} {a : Act} {Q : Exit → Act → World → Prop} (hgd : o.guard = none) (s x : Operand)
    (ho : o.op = .call { callee := .builtin .append, args := #[s, x], argTypes := #[100, 100] }) (B : Nat) (v : Value) (l : List Thr) (hs : a.eval s = v) (hown : w.ownsRow B 104 4 v l.length (thrCells l))
    (ad : Addr) (hx : a.eval x = .slice (some ad) 1 1) (y : Thr) (hnews : ∀ j u, (thrCells [y])[j]? = some u → w.cell? (ad.add j) = some u)
    (hlen : l.length ≤ 1000000) (hB : B ≤ w.heap.size)
    (h : ∀ v' w', w'.ownsRow B 104 4 v' (l.length + 1) (thrCells (l ++ [y])) → w.grownBy w' v.ownBlock → wpList Tryz.prog ops Q rest (a.put o.dst v') w') : wpList Tryz.prog ops Q (o :: rest) a w := by
  have hinfo : (Tryz.prog.info? 104).map (fun i => (i.zero, i.size, i.bytes)) = some (some (.agg #[.int .i64 0, .int .i64 0, .int .i64 0, .int .i64 0]), 4, 32) := by kernel_rfl
  obtain ⟨t, hi, hzz⟩ := Option.map_eq_some_iff.1 hinfo
  simp only [Prod.mk.injEq] at hzz
  obtain ⟨hz, hsz, hby⟩ := hzz
  refine wpList_append_own w hgd s x 100 ho B 104 t (.agg #[.int .i64 0, .int .i64 0, .int .i64 0, .int .i64 0]) 4 32 Tryz.underlying100 hi hz hsz hby rfl (by decide) v l.length (thrCells l) hs hown ad 1 1 (thrCells [y]) hx rfl hnews
    (thrCells_one _) (by unfold maxLen; omega) (by omega) hB ?_
  intro v' w' h1 h2 _
  refine h v' w' ?_ h2
  rw [thrCells_append]
  exact h1

theorem thr_new (w : World) (F : Nat) (t : TypeId) (g : Nat) (hg : g = w.heap.size) : ∀ j u, (thrCells [⟨0, F, [0, 0]⟩])[j]? = some u → (w.alloc (.cells #[.int .i64 0, .int .i64 F, .int .i64 0, .int .i64 0] t)).cell? (Addr.add ⟨g, 0, none⟩ j) = some u := by
  subst hg
  intro j u hj
  have e : Addr.add ⟨w.heap.size, 0, none⟩ j = ⟨w.heap.size, j, none⟩ := by
    unfold Addr.add
    split
    · rename_i h0; subst h0; rfl
    · simp
  rw [e, World.cell?_alloc_new]
  simpa [thrCells, thrCell] using hj

theorem refnew_mid {p : Pg} {a : Option Addr} {cap : Nat} {wr w7 : World} {b k : Nat} {tv v7 : Value} {o : Obj} {xs ys : List Value} (hbox : wr.heap[b]? = some (.cells (boxA p a cap tv) 102 (0, 0))) (hown : wr.ownsRow (b + 1) 104 4 tv k xs)
    (h7 : w7.ownsRow (b + 1) 104 4 v7 (k + 1) ys) (hg : (wr.alloc o).grownBy w7 tv.ownBlock) :
    ∃ g7 cap7, v7 = .slice (some ⟨g7, 0, none⟩) (k + 1) cap7 ∧ w7.cell? ⟨b, 3, none⟩ = some tv ∧ w7.frozen? ⟨b, 3, none⟩ = false ∧
      Hid ((w7.setCell ⟨b, 3, none⟩ (.slice (some ⟨g7, 0, none⟩) (k + 1) cap7)).heap[b]? = some (.cells (boxA p a cap (.slice (some ⟨g7, 0, none⟩) (k + 1) cap7)) 102 (0, 0))) ∧
      Hid ((w7.setCell ⟨b, 3, none⟩ (.slice (some ⟨g7, 0, none⟩) (k + 1) cap7)).ownsRow (b + 1) 104 4 (.slice (some ⟨g7, 0, none⟩) (k + 1) cap7) (k + 1) ys) ∧ Below b wr w7 := by
  have hlt : b < wr.heap.size := (Array.getElem?_eq_some_iff.1 hbox).1
  have own : ∀ j, tv.ownBlock = some j → b + 1 ≤ j := fun j hj => (World.ownsRow.lt hown j hj).1
  have hb7 : w7.heap[b]? = some (.cells (boxA p a cap tv) 102 (0, 0)) := by
    rw [hg.block b (by simp; omega) (fun e => by have := own _ e.symm; omega), Below.heap_alloc _ _ _ hlt]
    exact hbox
  obtain ⟨r1, ⟨_, r3⟩ | ⟨g, cap', cur, rfl, r4, r5, r6⟩⟩ := h7
  · exact absurd r3 (by omega)
  · refine ⟨g, cap', rfl, by simp [World.cell?, hb7, boxA], by simp [World.frozen?, hb7], ?_, ?_, ?_⟩
    · show _ = _
      rw [heap_setCell_same w7 b 3 _ _ _ hb7]
      rfl
    · exact ⟨r1, .inr ⟨g, cap', cur, rfl, r4, (Below.heap_setCell _ _ _ _ (by show g ≠ b; omega)).trans r5, r6⟩⟩
    · exact ((Below.refl _ _).alloc (by omega) o).grown hg (by simp; omega) (fun j hj => by have := own j hj; omega)

theorem new_eq (p : Pg) (F : Nat) : (St.new p F).ts = thrs F p.threads.length := by
  unfold St.new thrs
  simp [List.map_const']

set_option maxRecDepth 100000 in
set_option maxHeartbeats 4000000 in
theorem refNew_no (p : Pg) (a : Option Addr) (cap : Nat) (fuel : Int) (w : World) (hp : ThreadsAt w a p.threads) (hr : ¬ (rightPg p = true ∧ 0 ≤ fuel ∧ fuel ≤ 8)) :
    Calls Tryz.prog 24 #[.agg #[.int .i64 p.vars, .int .i64 p.mutexes, .slice a p.threads.length cap], .int .i64 fuel] w fun r w' => r = .returned (.pointer none) ∧ Below w.heap.size w w' := by
  have HP := Lib.hid hp
  have HR := Lib.hid hr
  clear hr hp
  go_enter Tryz.func24, Tryz.ntmps24
  go_wp2_with fail
  refine (refRight_any p a cap _ (HP.out.later (below_alloc1 w _))).mono ?_
  rintro r w1 ⟨rfl, hb⟩
  have hb1 : Below w.heap.size w w1 := (below_alloc1 w _).trans (hb.mono (by simp))
  clear hb
  cases hr : rightPg p
  · clear hr
    go_wp2
    go_ret
    exact ⟨rfl, hb1⟩
  · by_cases h0 : fuel < 0
    · have q0 : decide (fuel < 0) = true := by simpa using h0
      clear hr
      go_wp2
      go_ret
      exact ⟨rfl, hb1⟩
    · have q0 : decide (fuel < 0) = false := by simpa using h0
      have h8 : 8 < fuel := by
        rcases Decidable.em (fuel ≤ 8) with h | h
        · exact absurd ⟨hr, by omega, h⟩ HR.out
        · omega
      have q8 : decide (8 < fuel) = true := by simpa using h8
      clear hr
      go_wp2
      go_ret
      exact ⟨rfl, hb1⟩

set_option maxRecDepth 100000 in
set_option maxHeartbeats 4000000 in
theorem refNew_yes (p : Pg) (a : Option Addr) (cap F : Nat) (w : World) (hp : ThreadsAt w a p.threads) (hr : rightPg p = true) (hF : F ≤ 8) :
    Calls Tryz.prog 24 #[.agg #[.int .i64 p.vars, .int .i64 p.mutexes, .slice a p.threads.length cap], .int .i64 F] w
      fun r w' => ∃ b tb tcap, r = .returned (.pointer (some ⟨b, 0, none⟩)) ∧ w.heap.size ≤ b ∧ w.heap.size ≤ tb ∧ RefAt w' b tb a cap tcap (St.new p F) ∧ Below w.heap.size w w' := by
  have hn : 1 ≤ p.threads.length ∧ p.threads.length ≤ 4 := by
    unfold rightPg at hr
    rw [Bool.and_eq_true, decide_eq_true_eq] at hr
    omega
  obtain ⟨hn1, hn4⟩ := hn
  have HR := Lib.hid hr
  have HP := Lib.hid hp
  have q0 : decide ((F : Int) < 0) = false := by simp
  have q8 : decide (8 < (F : Int)) = false := by simp; omega
  clear hr hp
  go_enter Tryz.func24, Tryz.ntmps24
  go_wp2_with fail
  refine (refRight_any p a cap _ (HP.out.later (below_alloc1 w _))).mono ?_
  rw [HR.out]
  rintro r w1 ⟨rfl, hb⟩
  have hb1 : Below w.heap.size w w1 := (below_alloc1 w _).trans (hb.mono (by simp))
  have hc : ∀ o, w1.cell? ⟨w.heap.size, o, none⟩ = (w.alloc (.cells #[.int .i64 p.vars, .int .i64 p.mutexes, .slice a p.threads.length cap] 24)).cell? ⟨w.heap.size, o, none⟩ := fun o => hb.cell (p := ⟨w.heap.size, o, none⟩) (by simp)
  have hz : w.heap.size < w1.heap.size := by have := hb.size; simp at this; omega
  have HPX : Hid (w1.heap[w.heap.size]? = some (.cells #[.int .i64 p.vars, .int .i64 p.mutexes, .slice a p.threads.length cap] 24 (0, 0))) := (hb.block _ (by simp)).trans (heap_alloc_new w _)
  clear hb
  go_wp2
  clear hc
  go_loopw [6] (fun i wr => ∃ (k : Nat) (tv : Value), k ≤ p.threads.length ∧ i = .int .i64 k ∧ wr.heap[w1.heap.size]? = some (.cells (boxA p a cap tv) 102 (0, 0)) ∧ wr.ownsRow (w1.heap.size + 1) 104 4 tv (thrs F k).length (thrCells (thrs F k)) ∧ Below w1.heap.size w1 wr) (fun i _ => p.threads.length - (intOf i).toNat)
  case atStart => exact ⟨0, .slice none 0 0, Nat.zero_le _, rfl, heap_alloc_new w1 _, World.ownsRow_nil _ _ _ _, below_alloc1 _ _⟩
  case round =>
    obtain ⟨k, tv, hk, rfl, hbox, hown, hbr⟩ := hrel
    have c2 : wr.cell? ⟨w.heap.size, 2, none⟩ = some (.slice a p.threads.length cap) := by
      have : wr.heap[w.heap.size]? = some (.cells #[.int .i64 p.vars, .int .i64 p.mutexes, .slice a p.threads.length cap] 24 (0, 0)) := (hbr.block _ hz).trans HPX.out
      simp [World.cell?, this]
    have c3 : wr.cell? ⟨w1.heap.size, 3, none⟩ = some tv := by simp [World.cell?, hbox, boxA]
    have hbl := (Array.getElem?_eq_some_iff.1 hbox).1
    have hlk := thrs_len F k
    have HBOX := Lib.hid hbox
    have HOWN := Lib.hid hown
    have HLK := Lib.hid hlk
    clear hbox hown hlk
    by_cases hlt : k < p.threads.length
    · go_wp2_with (at_builtin; refine wp_appendThr rfl (.tmp 33) (.tmp 36) rfl (w1.heap.size + 1) _ (thrs F k) rfl (World.ownsRow.alloc HOWN.out _) ⟨wr.heap.size, 0, none⟩ rfl ⟨0, F, [0, 0]⟩ (thr_new wr F _ _ rfl) (by rw [HLK.out]; omega) (by simp; omega) ?_; intro v7 w7 hown7 hg7; obtain ⟨g7, cap7, rfl, d3, f3, HB7, HO7, hbl7⟩ := refnew_mid HBOX.out HOWN.out hown7 hg7; clear hown7 hg7)
      have hb7 : Below w1.heap.size w1 (w7.setCell ⟨w1.heap.size, 3, none⟩ (.slice (some ⟨g7, 0, none⟩) ((thrs F k).length + 1) cap7)) := (hbr.trans hbl7).setCell (p := ⟨w1.heap.size, 3, none⟩) (Nat.le_refl _) _
      go_roundw
      case rel => exact ⟨k + 1, _, by omega, by go_num, HB7.out, by rw [thrs_succ, List.length_append]; exact HO7.out, hb7⟩
      case measure => simp [intOf]; omega
    · obtain rfl : k = p.threads.length := by omega
      go_wp2
      go_ret
      have hown := HOWN.out
      rw [HLK.out] at hown
      obtain ⟨r1, ⟨_, r3⟩ | ⟨tb, tcap, cur, e, r4, r5, _, _, _, r6⟩⟩ := hown
      · exact absurd r3 (by omega)
      · subst e
        refine ⟨_, tb, tcap, rfl, by omega, by omega, ⟨?_, by omega, cur, r5, ?_⟩, hb1.trans (hbr.mono (by omega))⟩
        · rw [HBOX.out]
          have hl : (St.new p F).ts.length = p.threads.length := by rw [new_eq, thrs_len]
          unfold refA boxA
          rw [hl]
          rfl
        · rw [new_eq, thrs_len]
          exact r6

end Go.Proofs.YtljlaopjimkcmaaGreat

/- The contract of the document's Copy of a state. -/
namespace Go.Proofs.YtljlaopjimkcmaaGreat
open Go.RowKit

section
variable {w : World} {b tb : Nat} {a : Option Addr} {cap tcap : Nat} {s : St}
theorem infoThr : (Tryz.prog.info? 104).map (fun i => (i.zero.isSome, i.size, i.bytes)) = some (true, 4, 32) := by kernel_rfl
theorem run_copyT (ty : TypeId) (g : Nat) (h : RefAt w b tb a cap tcap s) (hne : 1 ≤ s.ts.length) (h4 : s.ts.length ≤ 4) :
    ∃ ntc w', (Builtin.append_ #[100, 100] ty #[.slice (some ⟨g, 0, none⟩) 0 0, .slice (some ⟨tb, 0, none⟩) s.ts.length tcap]).run Tryz.prog w = .ok (.slice (some ⟨w.heap.size, 0, none⟩) s.ts.length ntc) w' ∧
      (∃ cur, w'.heap[w.heap.size]? = some (.cells cur 104 (0, 0)) ∧ cur.toList.take (s.ts.length * 4) = thrCells s.ts) ∧ Below w.heap.size w w' := by
  obtain ⟨i, hi, hzz⟩ := Option.map_eq_some_iff.1 infoThr
  simp only [Prod.mk.injEq] at hzz
  obtain ⟨hz, hsz, hby⟩ := hzz
  obtain ⟨z, hz⟩ := Option.isSome_iff_exists.1 hz
  have hl := thrCells_length s.ts
  have hsrc : Src Tryz.prog i.size 100 (.slice (some ⟨tb, 0, none⟩) s.ts.length tcap) s.ts.length (thrCells s.ts) w := by
    rw [hsz]
    refine Src.ofSlice w Tryz.underlying100 ⟨tb, 0, none⟩ s.ts.length tcap (thrCells s.ts) hl (fun j u hj => ?_) (thrCells_one _)
    have hjl : j < s.ts.length * 4 := by rw [← hl]; exact (List.getElem?_eq_some_iff.1 hj).1
    obtain ⟨t, k, rfl, hk⟩ : ∃ t k, j = t * 4 + k ∧ k < 4 := ⟨j / 4, j % 4, by omega, by omega⟩
    have ht : t < s.ts.length := by omega
    rw [thrCells_get s.ts t k ht hk] at hj
    have hc := h.thr t ht k hk
    have e : s.th t = s.ts[t] := getD_lt _ ht
    rw [e, hj] at hc
    have ea : Addr.add ⟨tb, 0, none⟩ (t * 4 + k) = ⟨tb, t * 4 + k, none⟩ := by
      unfold Addr.add
      split
      · rename_i h0; rw [h0]
      · simp
    rw [ea]
    exact hc
  have hold : (Builtin.firstCells i.size 0 (.slice (some ⟨g, 0, none⟩) 0 0)).run Tryz.prog w.drew = .ok ([] : List Value).toArray w.drew := by
    rw [hsz]
    exact run_firstCells_some w.drew 4 0 ⟨g, 0, none⟩ 0 0 [] rfl (by simp)
  have hrun := run_append_grow_src (P := Tryz.prog) w 100 100 ty 104 i _ Tryz.underlying100 hi hz (some ⟨g, 0, none⟩) 0 0 [] hold _ s.ts.length (thrCells s.ts) hsrc (by omega) (by omega) (by rw [hby]; exact growslice_fits (by omega) (by omega))
  rw [Nat.zero_add] at hrun
  refine ⟨_, _, hrun, ⟨_, heap_alloc_new w.drew _, ?_⟩, ((Below.refl _ _).drew).alloc (Nat.le_refl _) _⟩
  simp only [List.nil_append, Array.toList_append]
  rw [← hl]
  simp
theorem wpList_copyT {ops : Array Oper} {rest : List Oper} {o : Oper} {A : Act} {Q : Exit → Act → World → Prop} (hgd : o.guard = none) (x y : Operand)
    (ho : o.op = .call { callee := .builtin .append, args := #[x, y], argTypes := #[100, 100] }) (g : Nat) (hx : A.eval x = .slice (some ⟨g, 0, none⟩) 0 0) (hy : A.eval y = .slice (some ⟨tb, 0, none⟩) s.ts.length tcap)
    (h : RefAt w b tb a cap tcap s) (hne : 1 ≤ s.ts.length) (h4 : s.ts.length ≤ 4)
    (hK : ∀ ntc w', (∃ cur, w'.heap[w.heap.size]? = some (.cells cur 104 (0, 0)) ∧ cur.toList.take (s.ts.length * 4) = thrCells s.ts) → Below w.heap.size w w' → wpList Tryz.prog ops Q rest (A.put o.dst (.slice (some ⟨w.heap.size, 0, none⟩) s.ts.length ntc)) w') :
    wpList Tryz.prog ops Q (o :: rest) A w := by
  refine wpList_plain hgd fun K hK' => ?_
  obtain ⟨ntc, w', hr, h1, h2⟩ := run_copyT o.type g h hne h4
  unfold Oper.wp
  simp [execOp, ho, resolve, invoke, builtin, hx, hy, hr, Result.andThen]
  exact hK' _ _ (hK ntc w' h1 h2)

set_option maxRecDepth 100000 in
set_option maxHeartbeats 4000000 in
theorem refCopy_any (h : RefAt w b tb a cap tcap s) (hne : 1 ≤ s.ts.length) (h4 : s.ts.length ≤ 4) :
    Calls Tryz.prog 50 #[.pointer (some ⟨b, 0, none⟩)] w fun r w' => ∃ nb ntb ntc, r = .returned (.pointer (some ⟨nb, 0, none⟩)) ∧ w.heap.size ≤ nb ∧ w.heap.size ≤ ntb ∧ RefAt w' nb ntb a cap ntc s ∧ Below w.heap.size w w' := by
  have H := Lib.hid h
  have hcell : ∀ j, w.cell? ⟨b, j, none⟩ = (refA s a cap tb tcap)[j]? := fun j => by
    unfold World.cell?
    dsimp only
    rw [h.1]
    rfl
  have hlt := h.lt.1
  have c0 := hcell 0
  have c1 := hcell 1
  have c2 := hcell 2
  have c3 := hcell 3
  have c4 := hcell 4
  have c5 := hcell 5
  have c6 := hcell 6
  have c7 := hcell 7
  have c8 := hcell 8
  have c9 := hcell 9
  simp only [refA, List.getElem?_toArray, List.getElem?_cons_zero, List.getElem?_cons_succ] at c0 c1 c2 c3 c4 c5 c6 c7 c8 c9
  have HBOX : Hid (∀ (W : World) (nb ntb ntc : Nat), W.heap[nb]? = some (.cells #[.int .i64 s.p.vars, .int .i64 s.p.mutexes, .slice a s.p.threads.length cap, .slice (some ⟨tb, 0, none⟩) s.ts.length tcap,
    .int .i64 (s.v.getD 0 0), .int .i64 (s.v.getD 1 0), .int .i64 (s.v.getD 2 0), .int .i64 (s.v.getD 3 0), .int .i64 (s.m.getD 0 (-1)), .int .i64 (s.m.getD 1 (-1))] 102 (0, 0)) → (W.setCell ⟨nb, 3, none⟩ (.slice (some ⟨ntb, 0, none⟩) s.ts.length ntc)).heap[nb]? = some (.cells (refA s a cap ntb ntc) 102 (0, 0))) := fun W nb ntb ntc hW => by
    rw [heap_setCell_same W nb 3 _ _ _ hW]
    rfl
  clear hcell h
  generalize s.v.getD 0 0 = n0 at *
  generalize s.v.getD 1 0 = n1 at *
  generalize s.v.getD 2 0 = n2 at *
  generalize s.v.getD 3 0 = n3 at *
  generalize s.m.getD 0 (-1) = m0 at *
  generalize s.m.getD 1 (-1) = m1 at *
  go_enter Tryz.func50, Tryz.ntmps50
  have hb1 : Below w.heap.size w ((w.alloc (.cells #[.int .i64 s.p.vars, .int .i64 s.p.mutexes, .slice a s.p.threads.length cap, .slice (some ⟨tb, 0, none⟩) s.ts.length tcap, .int .i64 n0, .int .i64 n1, .int .i64 n2, .int .i64 n3, .int .i64 m0, .int .i64 m1] 102)).alloc (.cells #[] 104)) := below_alloc2 w _ _
  have hh1 : ((w.alloc (.cells #[.int .i64 s.p.vars, .int .i64 s.p.mutexes, .slice a s.p.threads.length cap, .slice (some ⟨tb, 0, none⟩) s.ts.length tcap, .int .i64 n0, .int .i64 n1, .int .i64 n2, .int .i64 n3, .int .i64 m0, .int .i64 m1] 102)).alloc (.cells #[] 104)).heap[w.heap.size]? = some (.cells #[.int .i64 s.p.vars, .int .i64 s.p.mutexes, .slice a s.p.threads.length cap, .slice (some ⟨tb, 0, none⟩) s.ts.length tcap, .int .i64 n0, .int .i64 n1, .int .i64 n2, .int .i64 n3, .int .i64 m0, .int .i64 m1] 102 (0, 0)) := ((below_alloc1 _ _).block _ (by rw [World.size_alloc]; omega)).trans (heap_alloc_new w _)
  have HH1 := Lib.hid hh1
  clear hh1
  go_wp2_with (at_builtin; refine wpList_copyT rfl _ _ rfl (w.heap.size + 1) rfl rfl (H.out.later hb1) hne h4 ?_; intro ntc w4 hcur hb4; have HCUR := Lib.hid hcur; have HB4 := Lib.hid hb4; have hh4 := (hb4.block w.heap.size (by rw [World.size_alloc, World.size_alloc]; omega)).trans HH1.out; have d3 : w4.cell? ⟨w.heap.size, 3, none⟩ = some (.slice (some ⟨tb, 0, none⟩) s.ts.length tcap) := (by unfold World.cell?; dsimp only; rw [hh4]; rfl); have f3 : w4.frozen? ⟨w.heap.size, 3, none⟩ = false := (by unfold World.frozen?; dsimp only; rw [hh4]; rfl); have HH4 := Lib.hid hh4; clear hcur hb4 hh4)
  go_ret
  have hz : ((w.alloc (.cells #[.int .i64 s.p.vars, .int .i64 s.p.mutexes, .slice a s.p.threads.length cap, .slice (some ⟨tb, 0, none⟩) s.ts.length tcap, .int .i64 n0, .int .i64 n1, .int .i64 n2, .int .i64 n3, .int .i64 m0, .int .i64 m1] 102)).alloc (.cells #[] 104)).heap.size = w.heap.size + 1 + 1 := by rw [World.size_alloc, World.size_alloc]
  obtain ⟨cur, k1, k2⟩ := HCUR.out
  rw [hz] at k1
  refine ⟨w.heap.size, _, ntc, rfl, Nat.le_refl _, ?_, ⟨HBOX.out _ _ _ _ HH4.out, ?_, cur, (Below.heap_setCell _ _ _ _ ?_).trans k1, k2⟩, ((hb1.trans (HB4.out.mono hb1.size)).setCell (p := ⟨w.heap.size, 3, none⟩) (Nat.le_refl _) _)⟩
  · omega
  · omega
  · show w.heap.size + 1 + 1 ≠ w.heap.size
    omega
end

end Go.Proofs.YtljlaopjimkcmaaGreat

/- The contract of the document's Next: no such thread. -/
namespace Go.Proofs.YtljlaopjimkcmaaGreat
open Go.RowKit

section
variable {F : Nat} {w : World} {b tb : Nat} {a : Option Addr} {cap tcap : Nat} {s : St}

set_option maxRecDepth 100000 in
set_option maxHeartbeats 4000000 in
theorem refNext_neg (h : RefAt w b tb a cap tcap s) (t : Int) (ht0 : t < 0) : Calls Tryz.prog 49 #[.pointer (some ⟨b, 0, none⟩), .int .i64 t] w fun r w' => r = .returned (.tuple #[.agg #[.int .i64 0, .int .i64 0, .int .i64 0, .bool false], .bool false]) ∧ Below w.heap.size w w' := by
  obtain ⟨hb1, hb2⟩ := h.lt
  obtain ⟨p0, p1⟩ := h.prog
  have q0 : decide (t < 0) = true := by simpa using ht0
  have H := Lib.hid h
  clear h
  go_enter Tryz.func49, Tryz.ntmps49
  go_wp2
  go_quiet (fail)
  go_wp2
  exact bodyPost_ret (v := .tuple #[.agg #[.int .i64 0, .int .i64 0, .int .i64 0, .bool false], .bool false]) (by simp [results, Tryz.results49, go_sem]) rfl ⟨rfl, below_set4 (below_alloc1 w _).drewN (Nat.le_refl _) _ _ _ _⟩

set_option maxRecDepth 100000 in
set_option maxHeartbeats 4000000 in
theorem refNext_out (h : RefAt w b tb a cap tcap s) (t : Int) (ht0 : ¬ t < 0) (hk0 : (s.ts.length : Int) ≤ t) : Calls Tryz.prog 49 #[.pointer (some ⟨b, 0, none⟩), .int .i64 t] w fun r w' => r = .returned (.tuple #[.agg #[.int .i64 0, .int .i64 0, .int .i64 0, .bool false], .bool false]) ∧ Below w.heap.size w w' := by
  obtain ⟨hb1, hb2⟩ := h.lt
  obtain ⟨p0, p1⟩ := h.prog
  have q0 : decide (t < 0) = false := by simpa using ht0
  have q1 : decide ((s.ts.length : Int) ≤ t) = true := by simpa using hk0
  have H := Lib.hid h
  clear h ht0 hk0
  go_enter Tryz.func49, Tryz.ntmps49
  go_wp2
  go_quiet (fail)
  go_wp2
  exact bodyPost_ret (v := .tuple #[.agg #[.int .i64 0, .int .i64 0, .int .i64 0, .bool false], .bool false]) (by simp [results, Tryz.results49, go_sem]) rfl ⟨rfl, below_set4 (below_alloc1 w _).drewN (Nat.le_refl _) _ _ _ _⟩
end
end Go.Proofs.YtljlaopjimkcmaaGreat

/- The contract of the document's Next: no fuel. -/
namespace Go.Proofs.YtljlaopjimkcmaaGreat
open Go.RowKit

section
variable {F : Nat} {w : World} {b tb : Nat} {a : Option Addr} {cap tcap : Nat} {s : St}

set_option maxRecDepth 100000 in
set_option maxHeartbeats 4000000 in
theorem refNext_dry (h : RefAt w b tb a cap tcap s) (t : Nat) (_h4 : s.ts.length ≤ 4) (hk' : t < s.ts.length) (hf : (s.th t).fuel = 0) : Calls Tryz.prog 49 #[.pointer (some ⟨b, 0, none⟩), .int .i64 t] w fun r w' => r = .returned (.tuple #[.agg #[.int .i64 0, .int .i64 0, .int .i64 0, .bool false], .bool false]) ∧ Below w.heap.size w w' := by
  obtain ⟨hb1, hb2⟩ := h.lt
  obtain ⟨p0, p1⟩ := h.prog
  have cf : w.cell? ⟨tb, t * 4 + 1, none⟩ = some (.int .i64 0) := by have := h.fuel t hk'; rw [hf] at this; exact this
  have q0 : decide ((t : Int) < 0) = false := by simp
  have q1 : decide ((s.ts.length : Int) ≤ t) = false := by simp; omega
  have q2 : decide (s.ts.length ≤ t) = false := by simp; omega
  have H := Lib.hid h
  clear h hf
  go_enter Tryz.func49, Tryz.ntmps49
  go_wp2
  go_quiet (fail)
  go_wp2
  exact bodyPost_ret (v := .tuple #[.agg #[.int .i64 0, .int .i64 0, .int .i64 0, .bool false], .bool false]) (by simp [results, Tryz.results49, go_sem]) rfl ⟨rfl, below_set4 (below_alloc1 w _).drewN (Nat.le_refl _) _ _ _ _⟩
end
end Go.Proofs.YtljlaopjimkcmaaGreat

/- The contract of the document's Next: behind the last instruction. -/
namespace Go.Proofs.YtljlaopjimkcmaaGreat
open Go.RowKit

section
variable {F : Nat} {w : World} {b tb : Nat} {a : Option Addr} {cap tcap : Nat} {s : St}

set_option maxRecDepth 100000 in
set_option maxHeartbeats 4000000 in
theorem refNext_end (h : RefAt w b tb a cap tcap s) (hth : ThreadsAt w a s.p.threads) (ok : s.Ok F) (t : Nat) (hk' : t < s.ts.length) (hf : (s.th t).fuel ≠ 0) (hat : (s.th t).at_ = (s.code t).length) : Calls Tryz.prog 49 #[.pointer (some ⟨b, 0, none⟩), .int .i64 t] w fun r w' => r = .returned (.tuple #[.agg #[.int .i64 0, .int .i64 0, .int .i64 0, .bool false], .bool false]) ∧ Below w.heap.size w w' := by
  obtain ⟨hb1, hb2⟩ := h.lt
  obtain ⟨p0, p1⟩ := h.prog
  have hln := ok.len
  have h4 := ok.len4
  have cf := h.fuel t hk'
  have ca := h.at_ t hk'
  have q0 : decide ((t : Int) < 0) = false := by simp
  have q2 : decide (s.ts.length ≤ t) = false := by simp; omega
  have q1 : decide ((s.ts.length : Int) ≤ t) = false := by simp; omega
  have hkp : t < s.p.threads.length := by omega
  have hcd : s.code t = s.p.threads[t] := getD_lt _ hkp
  obtain ⟨ab, ao, rfl, hc⟩ := hth.2 (by intro e; simp [e] at hkp)
  obtain ⟨c, ccap, c0, c1, _⟩ := hc t hkp
  rw [← hcd] at c0
  have hz := cell_block c0
  dsimp only at hz
  have hf' : ((((s.th t).fuel : Nat) : Int) == 0) = false := by simp; omega
  have h8 := ok.code8 t hk'
  rw [hat] at ca
  have H := Lib.hid h
  clear h hth ok hln hf hat hc c1 hcd
  generalize (s.th t).fuel = f at *
  generalize (s.code t).length = n at *
  have q3 : decide (n ≤ n) = true := by simp
  have q4 : decide ((n : Int) ≤ n) = true := by simp
  go_enter Tryz.func49, Tryz.ntmps49
  go_wp2
  go_quiet (fail)
  go_wp2
  exact bodyPost_ret (v := .tuple #[.agg #[.int .i64 0, .int .i64 0, .int .i64 0, .bool false], .bool false]) (by simp [results, Tryz.results49, go_sem]) rfl ⟨rfl, below_set4 (below_alloc1 w _).drewN (Nat.le_refl _) _ _ _ _⟩
end
end Go.Proofs.YtljlaopjimkcmaaGreat

/- The contract of the document's Next: a variable, a lock. -/
namespace Go.Proofs.YtljlaopjimkcmaaGreat
open Go.RowKit

section
variable {F : Nat} {w : World} {b tb : Nat} {a : Option Addr} {cap tcap : Nat} {s : St}

set_option maxRecDepth 100000 in
set_option maxHeartbeats 4000000 in
theorem refNext_1 (h : RefAt w b tb a cap tcap s) (hth : ThreadsAt w a s.p.threads) (ok : s.Ok F) (t : Nat) (i : Ins) (hi : s.ins t = some i) (hk1 : i.kind = 1) :
    Calls Tryz.prog 49 #[.pointer (some ⟨b, 0, none⟩), .int .i64 t] w fun r w' => r = .returned (.tuple #[.agg #[.int .i64 t, .int .i64 2, .int .i64 i.x, .bool false], .bool true]) ∧ Below w.heap.size w w' := by
  obtain ⟨_, hf, hcode⟩ := St.ins_has hi
  obtain ⟨k, hkk, hk'⟩ := St.ins_nat hi
  obtain rfl : t = k := by omega
  simp only [Int.toNat_natCast] at hf hcode
  obtain ⟨hb1, hb2⟩ := h.lt
  obtain ⟨p0, p1⟩ := h.prog
  have hln := ok.len
  have h4 := ok.len4
  have hkp : t < s.p.threads.length := by omega
  have hcd : s.code t = s.p.threads[t] := getD_lt _ hkp
  obtain ⟨hat, hic⟩ := List.getElem?_eq_some_iff.1 hcode
  obtain ⟨ab, ao, rfl, hc⟩ := hth.2 (by intro e; simp [e] at hkp)
  obtain ⟨c, ccap, c0, c1, _⟩ := hc t hkp
  rw [← hcd] at c0 c1
  obtain ⟨cb, co, rfl, hcc⟩ := c1.2 (by intro e; simp [e] at hat)
  obtain ⟨i0, i1, i2, i3⟩ := hcc _ hat
  rw [hic] at i0 i1 i2 i3
  have hz1 := cell_block c0
  have hz2 := cell_block i0
  dsimp only at hz1 hz2
  have cf := h.fuel t hk'
  have ca := h.at_ t hk'
  have hff : ((((s.th t).fuel : Nat) : Int) == 0) = false := by simp; omega
  have q0 : decide ((t : Int) < 0) = false := by simp
  have q1 : decide ((s.ts.length : Int) ≤ t) = false := by simp; omega
  have q2 : decide (s.ts.length ≤ t) = false := by simp; omega
  have q3 : decide ((s.code t).length ≤ (s.th t).at_) = false := by simp; omega
  have q4 : decide (((s.code t).length : Int) ≤ (s.th t).at_) = false := by simp; omega
  have h8 := ok.code8 t hk'
  have H := Lib.hid h
  clear h hth ok hi hln hkk hf hcode hc c1 hcd hcc hic
  generalize (s.th t).fuel = f at *
  generalize (s.th t).at_ = at_ at *
  generalize (s.code t).length = n at *
  obtain ⟨kd, r, x, m⟩ := i
  dsimp only at *
  subst hk1
  go_enter Tryz.func49, Tryz.ntmps49
  go_wp2
  go_quiet (fail)
  go_wp2
  go_region
  generalize hW : (((w.alloc (.cells #[.int .i64 0, .int .i64 0, .int .i64 0, .bool false] 51)).drewN (nq + 1)).alloc (.cells #[.int .i64 1, .int .i64 r, .int .i64 x, .int .i64 m] 60)) = W at *
  obtain ⟨hbl, ⟨e0, e1, e2, e3⟩, ⟨e4, e5, e6, e7⟩, ⟨j0, j1, j2, j3⟩, hsz, hsz0⟩ := mid_world hW
  clear hW cf ca c0 i0 i1 i2 i3 p0 p1 
  go_wp2
  refine bodyPost_ret (v := .tuple #[.agg #[.int .i64 t, .int .i64 2, .int .i64 x, .bool false], .bool true]) (by simp [results, Tryz.results49, go_sem, hsz0, e0, e1, e2, e3]) rfl ⟨rfl, ?_⟩
  repeat (first | exact hbl | refine Below.drew ?_ | refine Below.drewN ?_ | (refine Below.alloc ?_ (by simp [World.setCell]; omega) _) | (refine Below.setCell ?_ (by first | exact Nat.le_refl _ | (simp [World.setCell]; omega)) _))

set_option maxRecDepth 100000 in
set_option maxHeartbeats 4000000 in
theorem refNext_2 (h : RefAt w b tb a cap tcap s) (hth : ThreadsAt w a s.p.threads) (ok : s.Ok F) (t : Nat) (i : Ins) (hi : s.ins t = some i) (hk1 : i.kind = 2) :
    Calls Tryz.prog 49 #[.pointer (some ⟨b, 0, none⟩), .int .i64 t] w fun r w' => r = .returned (.tuple #[.agg #[.int .i64 t, .int .i64 3, .int .i64 i.x, .bool false], .bool true]) ∧ Below w.heap.size w w' := by
  obtain ⟨_, hf, hcode⟩ := St.ins_has hi
  obtain ⟨k, hkk, hk'⟩ := St.ins_nat hi
  obtain rfl : t = k := by omega
  simp only [Int.toNat_natCast] at hf hcode
  obtain ⟨hb1, hb2⟩ := h.lt
  obtain ⟨p0, p1⟩ := h.prog
  have hln := ok.len
  have h4 := ok.len4
  have hkp : t < s.p.threads.length := by omega
  have hcd : s.code t = s.p.threads[t] := getD_lt _ hkp
  obtain ⟨hat, hic⟩ := List.getElem?_eq_some_iff.1 hcode
  obtain ⟨ab, ao, rfl, hc⟩ := hth.2 (by intro e; simp [e] at hkp)
  obtain ⟨c, ccap, c0, c1, _⟩ := hc t hkp
  rw [← hcd] at c0 c1
  obtain ⟨cb, co, rfl, hcc⟩ := c1.2 (by intro e; simp [e] at hat)
  obtain ⟨i0, i1, i2, i3⟩ := hcc _ hat
  rw [hic] at i0 i1 i2 i3
  have hz1 := cell_block c0
  have hz2 := cell_block i0
  dsimp only at hz1 hz2
  have cf := h.fuel t hk'
  have ca := h.at_ t hk'
  have hff : ((((s.th t).fuel : Nat) : Int) == 0) = false := by simp; omega
  have q0 : decide ((t : Int) < 0) = false := by simp
  have q1 : decide ((s.ts.length : Int) ≤ t) = false := by simp; omega
  have q2 : decide (s.ts.length ≤ t) = false := by simp; omega
  have q3 : decide ((s.code t).length ≤ (s.th t).at_) = false := by simp; omega
  have q4 : decide (((s.code t).length : Int) ≤ (s.th t).at_) = false := by simp; omega
  have h8 := ok.code8 t hk'
  have H := Lib.hid h
  clear h hth ok hi hln hkk hf hcode hc c1 hcd hcc hic
  generalize (s.th t).fuel = f at *
  generalize (s.th t).at_ = at_ at *
  generalize (s.code t).length = n at *
  obtain ⟨kd, r, x, m⟩ := i
  dsimp only at *
  subst hk1
  go_enter Tryz.func49, Tryz.ntmps49
  go_wp2
  go_quiet (fail)
  go_wp2
  go_region
  generalize hW : (((w.alloc (.cells #[.int .i64 0, .int .i64 0, .int .i64 0, .bool false] 51)).drewN (nq + 1)).alloc (.cells #[.int .i64 2, .int .i64 r, .int .i64 x, .int .i64 m] 60)) = W at *
  obtain ⟨hbl, ⟨e0, e1, e2, e3⟩, ⟨e4, e5, e6, e7⟩, ⟨j0, j1, j2, j3⟩, hsz, hsz0⟩ := mid_world hW
  clear hW cf ca c0 i0 i1 i2 i3 p0 p1 
  go_wp2
  refine bodyPost_ret (v := .tuple #[.agg #[.int .i64 t, .int .i64 3, .int .i64 x, .bool false], .bool true]) (by simp [results, Tryz.results49, go_sem, hsz0, e0, e1, e2, e3]) rfl ⟨rfl, ?_⟩
  repeat (first | exact hbl | refine Below.drew ?_ | refine Below.drewN ?_ | (refine Below.alloc ?_ (by simp [World.setCell]; omega) _) | (refine Below.setCell ?_ (by first | exact Nat.le_refl _ | (simp [World.setCell]; omega)) _))

set_option maxRecDepth 100000 in
set_option maxHeartbeats 4000000 in
theorem refNext_5 (h : RefAt w b tb a cap tcap s) (hth : ThreadsAt w a s.p.threads) (ok : s.Ok F) (t : Nat) (i : Ins) (hi : s.ins t = some i) (hk1 : i.kind = 5) :
    Calls Tryz.prog 49 #[.pointer (some ⟨b, 0, none⟩), .int .i64 t] w fun r w' => r = .returned (.tuple #[.agg #[.int .i64 t, .int .i64 4, .int .i64 i.x, .bool false], .bool true]) ∧ Below w.heap.size w w' := by
  obtain ⟨_, hf, hcode⟩ := St.ins_has hi
  obtain ⟨k, hkk, hk'⟩ := St.ins_nat hi
  obtain rfl : t = k := by omega
  simp only [Int.toNat_natCast] at hf hcode
  obtain ⟨hb1, hb2⟩ := h.lt
  obtain ⟨p0, p1⟩ := h.prog
  have hln := ok.len
  have h4 := ok.len4
  have hkp : t < s.p.threads.length := by omega
  have hcd : s.code t = s.p.threads[t] := getD_lt _ hkp
  obtain ⟨hat, hic⟩ := List.getElem?_eq_some_iff.1 hcode
  obtain ⟨ab, ao, rfl, hc⟩ := hth.2 (by intro e; simp [e] at hkp)
  obtain ⟨c, ccap, c0, c1, _⟩ := hc t hkp
  rw [← hcd] at c0 c1
  obtain ⟨cb, co, rfl, hcc⟩ := c1.2 (by intro e; simp [e] at hat)
  obtain ⟨i0, i1, i2, i3⟩ := hcc _ hat
  rw [hic] at i0 i1 i2 i3
  have hz1 := cell_block c0
  have hz2 := cell_block i0
  dsimp only at hz1 hz2
  have cf := h.fuel t hk'
  have ca := h.at_ t hk'
  have hff : ((((s.th t).fuel : Nat) : Int) == 0) = false := by simp; omega
  have q0 : decide ((t : Int) < 0) = false := by simp
  have q1 : decide ((s.ts.length : Int) ≤ t) = false := by simp; omega
  have q2 : decide (s.ts.length ≤ t) = false := by simp; omega
  have q3 : decide ((s.code t).length ≤ (s.th t).at_) = false := by simp; omega
  have q4 : decide (((s.code t).length : Int) ≤ (s.th t).at_) = false := by simp; omega
  have h8 := ok.code8 t hk'
  have H := Lib.hid h
  clear h hth ok hi hln hkk hf hcode hc c1 hcd hcc hic
  generalize (s.th t).fuel = f at *
  generalize (s.th t).at_ = at_ at *
  generalize (s.code t).length = n at *
  obtain ⟨kd, r, x, m⟩ := i
  dsimp only at *
  subst hk1
  go_enter Tryz.func49, Tryz.ntmps49
  go_wp2
  go_quiet (fail)
  go_wp2
  go_region
  generalize hW : (((w.alloc (.cells #[.int .i64 0, .int .i64 0, .int .i64 0, .bool false] 51)).drewN (nq + 1)).alloc (.cells #[.int .i64 5, .int .i64 r, .int .i64 x, .int .i64 m] 60)) = W at *
  obtain ⟨hbl, ⟨e0, e1, e2, e3⟩, ⟨e4, e5, e6, e7⟩, ⟨j0, j1, j2, j3⟩, hsz, hsz0⟩ := mid_world hW
  clear hW cf ca c0 i0 i1 i2 i3 p0 p1 
  go_wp2
  refine bodyPost_ret (v := .tuple #[.agg #[.int .i64 t, .int .i64 4, .int .i64 x, .bool false], .bool true]) (by simp [results, Tryz.results49, go_sem, hsz0, e0, e1, e2, e3]) rfl ⟨rfl, ?_⟩
  repeat (first | exact hbl | refine Below.drew ?_ | refine Below.drewN ?_ | (refine Below.alloc ?_ (by simp [World.setCell]; omega) _) | (refine Below.setCell ?_ (by first | exact Nat.le_refl _ | (simp [World.setCell]; omega)) _))
end
end Go.Proofs.YtljlaopjimkcmaaGreat

/- The contract of the document's Next: an unlock. -/
namespace Go.Proofs.YtljlaopjimkcmaaGreat
open Go.RowKit

section
variable {F : Nat} {w : World} {b tb : Nat} {a : Option Addr} {cap tcap : Nat} {s : St}

set_option maxRecDepth 100000 in
set_option maxHeartbeats 4000000 in
theorem refNext_6 (h : RefAt w b tb a cap tcap s) (hth : ThreadsAt w a s.p.threads) (ok : s.Ok F) (t : Nat) (i : Ins) (hi : s.ins t = some i) (hk1 : i.kind = 6) (y : Nat) (hy : i.x = y) (hy2 : y < 2) (hw : s.who y = t) :
    Calls Tryz.prog 49 #[.pointer (some ⟨b, 0, none⟩), .int .i64 t] w fun r w' => r = .returned (.tuple #[.agg #[.int .i64 t, .int .i64 5, .int .i64 i.x, .bool false], .bool true]) ∧ Below w.heap.size w w' := by
  obtain ⟨_, hf, hcode⟩ := St.ins_has hi
  obtain ⟨k, hkk, hk'⟩ := St.ins_nat hi
  obtain rfl : t = k := by omega
  simp only [Int.toNat_natCast] at hf hcode
  obtain ⟨hb1, hb2⟩ := h.lt
  obtain ⟨p0, p1⟩ := h.prog
  have hln := ok.len
  have h4 := ok.len4
  have hkp : t < s.p.threads.length := by omega
  have hcd : s.code t = s.p.threads[t] := getD_lt _ hkp
  obtain ⟨hat, hic⟩ := List.getElem?_eq_some_iff.1 hcode
  obtain ⟨ab, ao, rfl, hc⟩ := hth.2 (by intro e; simp [e] at hkp)
  obtain ⟨c, ccap, c0, c1, _⟩ := hc t hkp
  rw [← hcd] at c0 c1
  obtain ⟨cb, co, rfl, hcc⟩ := c1.2 (by intro e; simp [e] at hat)
  obtain ⟨i0, i1, i2, i3⟩ := hcc _ hat
  rw [hic] at i0 i1 i2 i3
  have hz1 := cell_block c0
  have hz2 := cell_block i0
  dsimp only at hz1 hz2
  have cf := h.fuel t hk'
  have ca := h.at_ t hk'
  have hff : ((((s.th t).fuel : Nat) : Int) == 0) = false := by simp; omega
  have q0 : decide ((t : Int) < 0) = false := by simp
  have q1 : decide ((s.ts.length : Int) ≤ t) = false := by simp; omega
  have q2 : decide (s.ts.length ≤ t) = false := by simp; omega
  have q3 : decide ((s.code t).length ≤ (s.th t).at_) = false := by simp; omega
  have q4 : decide (((s.code t).length : Int) ≤ (s.th t).at_) = false := by simp; omega
  have h8 := ok.code8 t hk'
  have c9 := h.who y hy2
  rw [hw] at c9
  have H := Lib.hid h
  clear h hth ok hi hln hkk hf hcode hc c1 hcd hcc hic
  generalize (s.th t).fuel = f at *
  generalize (s.th t).at_ = at_ at *
  generalize (s.code t).length = n at *
  obtain ⟨kd, r, x, m⟩ := i
  dsimp only at *
  subst hk1 hy
  clear hw
  go_enter Tryz.func49, Tryz.ntmps49
  go_wp2
  go_quiet (fail)
  go_wp2
  go_region
  generalize hW : (((w.alloc (.cells #[.int .i64 0, .int .i64 0, .int .i64 0, .bool false] 51)).drewN (nq + 1)).alloc (.cells #[.int .i64 6, .int .i64 r, .int .i64 y, .int .i64 m] 60)) = W at *
  obtain ⟨hbl, ⟨e0, e1, e2, e3⟩, ⟨e4, e5, e6, e7⟩, ⟨j0, j1, j2, j3⟩, hsz, hsz0⟩ := mid_world hW
  have c9w := cell_later hbl c9
  have c9z := cell_block c9w
  dsimp only at c9z
  clear hW cf ca c0 i0 i1 i2 i3 p0 p1 c9
  go_wp2
  go_region
  go_wp2
  refine bodyPost_ret (v := .tuple #[.agg #[.int .i64 t, .int .i64 5, .int .i64 y, .bool false], .bool true]) (by simp [results, Tryz.results49, go_sem, hsz0, e0, e1, e2, e3]) rfl ⟨rfl, ?_⟩
  repeat (first | exact hbl | refine Below.drew ?_ | refine Below.drewN ?_ | (refine Below.alloc ?_ (by simp [World.setCell]; omega) _) | (refine Below.setCell ?_ (by first | exact Nat.le_refl _ | (simp [World.setCell]; omega)) _))
end
end Go.Proofs.YtljlaopjimkcmaaGreat

/- The contract of the document's Next: an assertion. -/
namespace Go.Proofs.YtljlaopjimkcmaaGreat
open Go.RowKit

section
variable {F : Nat} {w : World} {b tb : Nat} {a : Option Addr} {cap tcap : Nat} {s : St}

set_option maxRecDepth 100000 in
set_option maxHeartbeats 4000000 in
theorem refNext_8 (h : RefAt w b tb a cap tcap s) (hth : ThreadsAt w a s.p.threads) (ok : s.Ok F) (t : Nat) (i : Ins) (hi : s.ins t = some i) (hk1 : i.kind = 8) (y : Nat) (hy : i.r = y) (hy2 : y < 2) :
    Calls Tryz.prog 49 #[.pointer (some ⟨b, 0, none⟩), .int .i64 t] w fun r w' => r = .returned (.tuple #[.agg #[.int .i64 t, .int .i64 1, .int .i64 0, .bool ((s.th t).r.getD y 0 == 0)], .bool true]) ∧ Below w.heap.size w w' := by
  obtain ⟨_, hf, hcode⟩ := St.ins_has hi
  obtain ⟨k, hkk, hk'⟩ := St.ins_nat hi
  obtain rfl : t = k := by omega
  simp only [Int.toNat_natCast] at hf hcode
  obtain ⟨hb1, hb2⟩ := h.lt
  obtain ⟨p0, p1⟩ := h.prog
  have hln := ok.len
  have h4 := ok.len4
  have hkp : t < s.p.threads.length := by omega
  have hcd : s.code t = s.p.threads[t] := getD_lt _ hkp
  obtain ⟨hat, hic⟩ := List.getElem?_eq_some_iff.1 hcode
  obtain ⟨ab, ao, rfl, hc⟩ := hth.2 (by intro e; simp [e] at hkp)
  obtain ⟨c, ccap, c0, c1, _⟩ := hc t hkp
  rw [← hcd] at c0 c1
  obtain ⟨cb, co, rfl, hcc⟩ := c1.2 (by intro e; simp [e] at hat)
  obtain ⟨i0, i1, i2, i3⟩ := hcc _ hat
  rw [hic] at i0 i1 i2 i3
  have hz1 := cell_block c0
  have hz2 := cell_block i0
  dsimp only at hz1 hz2
  have cf := h.fuel t hk'
  have ca := h.at_ t hk'
  have hff : ((((s.th t).fuel : Nat) : Int) == 0) = false := by simp; omega
  have q0 : decide ((t : Int) < 0) = false := by simp
  have q1 : decide ((s.ts.length : Int) ≤ t) = false := by simp; omega
  have q2 : decide (s.ts.length ≤ t) = false := by simp; omega
  have q3 : decide ((s.code t).length ≤ (s.th t).at_) = false := by simp; omega
  have q4 : decide (((s.code t).length : Int) ≤ (s.th t).at_) = false := by simp; omega
  have h8 := ok.code8 t hk'
  have c9 := h.reg t hk' y hy2
  have c8 := p1
  generalize (s.th t).r.getD y 0 = z at *
  have H := Lib.hid h
  clear h hth ok hi hln hkk hf hcode hc c1 hcd hcc hic
  generalize (s.th t).fuel = f at *
  generalize (s.th t).at_ = at_ at *
  generalize (s.code t).length = n at *
  obtain ⟨kd, r, x, m⟩ := i
  dsimp only at *
  subst hk1 hy
  go_enter Tryz.func49, Tryz.ntmps49
  go_wp2
  go_quiet (fail)
  go_wp2
  go_region
  generalize hW : (((w.alloc (.cells #[.int .i64 0, .int .i64 0, .int .i64 0, .bool false] 51)).drewN (nq + 1)).alloc (.cells #[.int .i64 8, .int .i64 y, .int .i64 x, .int .i64 m] 60)) = W at *
  obtain ⟨hbl, ⟨e0, e1, e2, e3⟩, ⟨e4, e5, e6, e7⟩, ⟨j0, j1, j2, j3⟩, hsz, hsz0⟩ := mid_world hW
  have c9w := cell_later hbl c9
  have c9z := cell_block c9w
  dsimp only at c9z
  have c8w := cell_later hbl c8
  have c8z := cell_block c8w
  dsimp only at c8z
  clear hW cf ca c0 i0 i1 i2 i3 p0 p1 c9 c8
  go_wp2
  go_region
  go_wp2
  refine bodyPost_ret (v := .tuple #[.agg #[.int .i64 t, .int .i64 1, .int .i64 0, .bool (z == 0)], .bool true]) (by simp [results, Tryz.results49, go_sem, hsz0, e0, e1, e2, e3]) rfl ⟨rfl, ?_⟩
  repeat (first | exact hbl | refine Below.drew ?_ | refine Below.drewN ?_ | (refine Below.alloc ?_ (by simp [World.setCell]; omega) _) | (refine Below.setCell ?_ (by first | exact Nat.le_refl _ | (simp [World.setCell]; omega)) _))
end
end Go.Proofs.YtljlaopjimkcmaaGreat

/- The contract of the document's Next: an unlock that fails. -/
namespace Go.Proofs.YtljlaopjimkcmaaGreat
open Go.RowKit

section
variable {F : Nat} {w : World} {b tb : Nat} {a : Option Addr} {cap tcap : Nat} {s : St}

set_option maxRecDepth 100000 in
set_option maxHeartbeats 4000000 in
theorem refNext_6b (h : RefAt w b tb a cap tcap s) (hth : ThreadsAt w a s.p.threads) (ok : s.Ok F) (t : Nat) (i : Ins) (hi : s.ins t = some i) (hk1 : i.kind = 6) (y : Nat) (hy : i.x = y) (hy2 : y < 2) (hw : ¬ s.who y = t) :
    Calls Tryz.prog 49 #[.pointer (some ⟨b, 0, none⟩), .int .i64 t] w fun r w' => r = .returned (.tuple #[.agg #[.int .i64 t, .int .i64 1, .int .i64 0, .bool true], .bool true]) ∧ Below w.heap.size w w' := by
  obtain ⟨_, hf, hcode⟩ := St.ins_has hi
  obtain ⟨k, hkk, hk'⟩ := St.ins_nat hi
  obtain rfl : t = k := by omega
  simp only [Int.toNat_natCast] at hf hcode
  obtain ⟨hb1, hb2⟩ := h.lt
  obtain ⟨p0, p1⟩ := h.prog
  have hln := ok.len
  have h4 := ok.len4
  have hkp : t < s.p.threads.length := by omega
  have hcd : s.code t = s.p.threads[t] := getD_lt _ hkp
  obtain ⟨hat, hic⟩ := List.getElem?_eq_some_iff.1 hcode
  obtain ⟨ab, ao, rfl, hc⟩ := hth.2 (by intro e; simp [e] at hkp)
  obtain ⟨c, ccap, c0, c1, _⟩ := hc t hkp
  rw [← hcd] at c0 c1
  obtain ⟨cb, co, rfl, hcc⟩ := c1.2 (by intro e; simp [e] at hat)
  obtain ⟨i0, i1, i2, i3⟩ := hcc _ hat
  rw [hic] at i0 i1 i2 i3
  have hz1 := cell_block c0
  have hz2 := cell_block i0
  dsimp only at hz1 hz2
  have cf := h.fuel t hk'
  have ca := h.at_ t hk'
  have hff : ((((s.th t).fuel : Nat) : Int) == 0) = false := by simp; omega
  have q0 : decide ((t : Int) < 0) = false := by simp
  have q1 : decide ((s.ts.length : Int) ≤ t) = false := by simp; omega
  have q2 : decide (s.ts.length ≤ t) = false := by simp; omega
  have q3 : decide ((s.code t).length ≤ (s.th t).at_) = false := by simp; omega
  have q4 : decide (((s.code t).length : Int) ≤ (s.th t).at_) = false := by simp; omega
  have h8 := ok.code8 t hk'
  have c9 := h.who y hy2
  have hq : (s.who y == (t : Int)) = false := by simpa using hw
  have H := Lib.hid h
  clear h hth ok hi hln hkk hf hcode hc c1 hcd hcc hic
  generalize (s.th t).fuel = f at *
  generalize (s.th t).at_ = at_ at *
  generalize (s.code t).length = n at *
  obtain ⟨kd, r, x, m⟩ := i
  dsimp only at *
  subst hk1 hy
  clear hw
  go_enter Tryz.func49, Tryz.ntmps49
  go_wp2
  go_quiet (fail)
  go_wp2
  go_region
  generalize hW : (((w.alloc (.cells #[.int .i64 0, .int .i64 0, .int .i64 0, .bool false] 51)).drewN (nq + 1)).alloc (.cells #[.int .i64 6, .int .i64 r, .int .i64 y, .int .i64 m] 60)) = W at *
  obtain ⟨hbl, ⟨e0, e1, e2, e3⟩, ⟨e4, e5, e6, e7⟩, ⟨j0, j1, j2, j3⟩, hsz, hsz0⟩ := mid_world hW
  have c9w := cell_later hbl c9
  have c9z := cell_block c9w
  dsimp only at c9z
  clear hW cf ca c0 i0 i1 i2 i3 p0 p1 c9
  go_wp2
  go_region
  go_wp2
  refine bodyPost_ret (v := .tuple #[.agg #[.int .i64 t, .int .i64 1, .int .i64 0, .bool true], .bool true]) (by simp [results, Tryz.results49, go_sem, hsz0, e0, e1, e2, e3]) rfl ⟨rfl, ?_⟩
  repeat (first | exact hbl | refine Below.drew ?_ | refine Below.drewN ?_ | (refine Below.alloc ?_ (by simp [World.setCell]; omega) _) | (refine Below.setCell ?_ (by first | exact Nat.le_refl _ | (simp [World.setCell]; omega)) _))
end
end Go.Proofs.YtljlaopjimkcmaaGreat

/- The contract of the document's Next: others. -/
namespace Go.Proofs.YtljlaopjimkcmaaGreat
open Go.RowKit

section
variable {F : Nat} {w : World} {b tb : Nat} {a : Option Addr} {cap tcap : Nat} {s : St}

set_option maxRecDepth 100000 in
set_option maxHeartbeats 4000000 in
theorem refNext_0 (h : RefAt w b tb a cap tcap s) (hth : ThreadsAt w a s.p.threads) (ok : s.Ok F) (t : Nat) (i : Ins) (hi : s.ins t = some i) (hk1 : i.kind ≠ 1) (hk2 : i.kind ≠ 2) (hk5 : i.kind ≠ 5) (hk6 : i.kind ≠ 6) (hk8 : i.kind ≠ 8) :
    Calls Tryz.prog 49 #[.pointer (some ⟨b, 0, none⟩), .int .i64 t] w fun r w' => r = .returned (.tuple #[.agg #[.int .i64 t, .int .i64 1, .int .i64 0, .bool false], .bool true]) ∧ Below w.heap.size w w' := by
  obtain ⟨_, hf, hcode⟩ := St.ins_has hi
  obtain ⟨k, hkk, hk'⟩ := St.ins_nat hi
  obtain rfl : t = k := by omega
  simp only [Int.toNat_natCast] at hf hcode
  obtain ⟨hb1, hb2⟩ := h.lt
  obtain ⟨p0, p1⟩ := h.prog
  have hln := ok.len
  have h4 := ok.len4
  have hkp : t < s.p.threads.length := by omega
  have hcd : s.code t = s.p.threads[t] := getD_lt _ hkp
  obtain ⟨hat, hic⟩ := List.getElem?_eq_some_iff.1 hcode
  obtain ⟨ab, ao, rfl, hc⟩ := hth.2 (by intro e; simp [e] at hkp)
  obtain ⟨c, ccap, c0, c1, _⟩ := hc t hkp
  rw [← hcd] at c0 c1
  obtain ⟨cb, co, rfl, hcc⟩ := c1.2 (by intro e; simp [e] at hat)
  obtain ⟨i0, i1, i2, i3⟩ := hcc _ hat
  rw [hic] at i0 i1 i2 i3
  have hz1 := cell_block c0
  have hz2 := cell_block i0
  dsimp only at hz1 hz2
  have cf := h.fuel t hk'
  have ca := h.at_ t hk'
  have hff : ((((s.th t).fuel : Nat) : Int) == 0) = false := by simp; omega
  have q0 : decide ((t : Int) < 0) = false := by simp
  have q1 : decide ((s.ts.length : Int) ≤ t) = false := by simp; omega
  have q2 : decide (s.ts.length ≤ t) = false := by simp; omega
  have q3 : decide ((s.code t).length ≤ (s.th t).at_) = false := by simp; omega
  have q4 : decide (((s.code t).length : Int) ≤ (s.th t).at_) = false := by simp; omega
  have h8 := ok.code8 t hk'
  have H := Lib.hid h
  clear h hth ok hi hln hkk hf hcode hc c1 hcd hcc hic
  generalize (s.th t).fuel = f at *
  generalize (s.th t).at_ = at_ at *
  generalize (s.code t).length = n at *
  obtain ⟨kd, r, x, m⟩ := i
  dsimp only at *
  have f1 : (kd == 1) = false := by simpa using hk1
  have f2 : (kd == 2) = false := by simpa using hk2
  have f5 : (kd == 5) = false := by simpa using hk5
  have f6 : (kd == 6) = false := by simpa using hk6
  have f8 : (kd == 8) = false := by simpa using hk8
  clear hk1 hk2 hk5 hk6 hk8
  go_enter Tryz.func49, Tryz.ntmps49
  go_wp2
  go_quiet (fail)
  go_wp2
  go_region
  generalize hW : (((w.alloc (.cells #[.int .i64 0, .int .i64 0, .int .i64 0, .bool false] 51)).drewN (nq + 1)).alloc (.cells #[.int .i64 kd, .int .i64 r, .int .i64 x, .int .i64 m] 60)) = W at *
  obtain ⟨hbl, ⟨e0, e1, e2, e3⟩, ⟨e4, e5, e6, e7⟩, ⟨j0, j1, j2, j3⟩, hsz, hsz0⟩ := mid_world hW
  clear hW cf ca c0 i0 i1 i2 i3 p0 p1 
  go_wp2
  refine bodyPost_ret (v := .tuple #[.agg #[.int .i64 t, .int .i64 1, .int .i64 0, .bool false], .bool true]) (by simp [results, Tryz.results49, go_sem, hsz0, e0, e1, e2, e3]) rfl ⟨rfl, ?_⟩
  repeat (first | exact hbl | refine Below.drew ?_ | refine Below.drewN ?_ | (refine Below.alloc ?_ (by simp [World.setCell]; omega) _) | (refine Below.setCell ?_ (by first | exact Nat.le_refl _ | (simp [World.setCell]; omega)) _))
end
end Go.Proofs.YtljlaopjimkcmaaGreat

/- The contracts of the document's Next, Enabled, All. -/
namespace Go.Proofs.YtljlaopjimkcmaaGreat
open Go.RowKit

section
variable {F : Nat} {w : World} {b tb : Nat} {a : Option Addr} {cap tcap : Nat} {s : St}

theorem refNext_any (h : RefAt w b tb a cap tcap s) (hth : ThreadsAt w a s.p.threads) (ok : s.Ok F) (t : Int) :
    Calls Tryz.prog 49 #[.pointer (some ⟨b, 0, none⟩), .int .i64 t] w fun r w' => r = .returned (evR (s.next t)) ∧ Below w.heap.size w w' := by
  have h4 := ok.len4
  cases hi : s.ins t with
  | none =>
    have hn : s.next t = none := by unfold St.next; rw [hi]; rfl
    rw [hn, evR_none]
    by_cases ht0 : t < 0
    · exact refNext_neg h t ht0
    by_cases hk0 : (s.ts.length : Int) ≤ t
    · exact refNext_out h t ht0 hk0
    obtain ⟨k, rfl⟩ : ∃ k : Nat, t = k := ⟨t.toNat, by omega⟩
    have hk' : k < s.ts.length := by omega
    by_cases hf : (s.th k).fuel = 0
    · exact refNext_dry h k h4 hk' hf
    · have hpl := ok.place k hk'
      refine refNext_end h hth ok k hk' hf ?_
      unfold St.ins at hi
      rw [if_pos ⟨⟨by omega, by omega⟩, by simpa using hf⟩] at hi
      simp only [Int.toNat_natCast] at hi
      have := List.getElem?_eq_none_iff.1 hi
      omega
  | some i =>
    obtain ⟨k, rfl, hk⟩ := St.ins_nat hi
    have hn : s.next k = some (s.ev k i) := by unfold St.next; rw [hi]; rfl
    obtain ⟨o1, o2, o3, o4, o5, o6⟩ := ok.obj hi
    rw [hn, evR_some]
    by_cases h1 : i.kind = 1
    · have := refNext_1 h hth ok k i hi h1
      simpa [St.ev, h1] using this
    by_cases h2 : i.kind = 2
    · have := refNext_2 h hth ok k i hi h2
      simpa [St.ev, h1, h2] using this
    by_cases h5 : i.kind = 5
    · have := refNext_5 h hth ok k i hi h5
      simpa [St.ev, h1, h2, h5] using this
    by_cases h6 : i.kind = 6
    · obtain ⟨y, hy⟩ : ∃ y : Nat, i.x = y := ⟨i.x.toNat, by have := o2 (.inr h6); omega⟩
      have hy2 : y < 2 := by have := o2 (.inr h6); omega
      by_cases hw : s.who y = k
      · have := refNext_6 h hth ok k i hi h6 y hy hy2 hw
        have e : s.ev k i = ⟨k, 5, i.x, false⟩ := by
          unfold St.ev
          rw [if_neg h1, if_neg h2, if_neg h5, if_pos h6, hy, if_pos hw]
        rw [e]
        exact this
      · have := refNext_6b h hth ok k i hi h6 y hy hy2 hw
        have e : s.ev k i = ⟨k, 1, 0, true⟩ := by
          unfold St.ev
          rw [if_neg h1, if_neg h2, if_neg h5, if_pos h6, hy, if_neg hw]
        rw [e]
        exact this
    by_cases h8 : i.kind = 8
    · obtain ⟨y, hy⟩ : ∃ y : Nat, i.r = y := ⟨i.r.toNat, by omega⟩
      have := refNext_8 h hth ok k i hi h8 y hy (by omega)
      have e : s.ev k i = ⟨k, 1, 0, (s.th k).r.getD y 0 == 0⟩ := by
        unfold St.ev
        rw [if_neg h1, if_neg h2, if_neg h5, if_neg h6, if_pos h8]
        unfold St.reg
        rw [hy]
        rfl
      rw [e]
      exact this
    · have := refNext_0 h hth ok k i hi h1 h2 h5 h6 h8
      have e : s.ev k i = ⟨k, 1, 0, false⟩ := by
        unfold St.ev
        rw [if_neg h1, if_neg h2, if_neg h5, if_neg h6, if_neg h8]
      rw [e]
      exact this

set_option maxRecDepth 100000 in
set_option maxHeartbeats 4000000 in
theorem refEnabled_any (h : RefAt w b tb a cap tcap s) (hth : ThreadsAt w a s.p.threads) (ok : s.Ok F) (t : Int) :
    Calls Tryz.prog 64 #[.pointer (some ⟨b, 0, none⟩), .int .i64 t] w fun r w' => r = .returned (.bool (s.may t)) ∧ Below w.heap.size w w' := by
  have H := Lib.hid h
  have HT := Lib.hid hth
  have OK := Lib.hid ok
  have hb1 := h.lt.1
  clear h hth ok
  cases hn : s.next t with
  | none =>
    have hm : s.may t = false := by rw [St.may_eq OK.out, hn]
    rw [hm]
    have HN := Lib.hid hn
    clear hn hm
    go_enter Tryz.func64, Tryz.ntmps64
    go_wp2_with fail
    refine (refNext_any H.out HT.out OK.out t).mono ?_
    rw [HN.out, evR_none]
    rintro r w1 ⟨rfl, hb1⟩
    have hz := hb1.size
    go_wp2
    go_quiet (fail)
    go_wp2
    go_ret
    exact ⟨rfl, (hb1.alloc hz _).drewN⟩
  | some e =>
    have hm : s.may t = s.free e := by rw [St.may_eq OK.out, hn]
    rw [hm]
    have HN := Lib.hid hn
    by_cases hk : e.kind = 4
    · obtain ⟨ho0, ho2⟩ := next_obj OK.out hn hk
      obtain ⟨y, hy⟩ : ∃ y : Nat, e.obj = y := ⟨e.obj.toNat, by omega⟩
      have hy2 : y < 2 := by omega
      have c9 := H.out.who y hy2
      have hml := OK.out.ml
      have hmm := OK.out.mm (s.who y) (by unfold St.who; simp only [Int.toNat_natCast]; rw [getD_lt _ (by omega)]; exact List.getElem_mem _)
      have hfr : s.free e = decide (s.who y < 0) := by
        unfold St.free
        rw [hk, hy, Bool.eq_iff_iff]
        simp
        omega
      rw [hfr]
      have q4 : (e.kind != 4) = false := by simp [hk]
      clear hn hm hfr ho0 ho2 hml hmm hk
      obtain ⟨et, ek, eo, ef⟩ := e
      dsimp only at *
      subst hy
      generalize s.who y = g at *
      go_enter Tryz.func64, Tryz.ntmps64
      go_wp2_with fail
      refine (refNext_any H.out HT.out OK.out t).mono ?_
      rw [HN.out, evR_some]
      rintro r w1 ⟨rfl, hb2⟩
      have hz := hb2.size
      have c9w := cell_later hb2 c9
      have c9z := cell_block c9w
      dsimp only at c9z
      clear c9
      go_wp2
      go_quiet (fail)
      go_wp2
      go_ret
      exact ⟨rfl, (hb2.alloc hz _).drewN⟩
    · have hfr : s.free e = true := by unfold St.free; simp [hk]
      rw [hfr]
      have q4 : (e.kind != 4) = true := by simpa using hk
      clear hn hm hfr hk
      go_enter Tryz.func64, Tryz.ntmps64
      go_wp2_with fail
      refine (refNext_any H.out HT.out OK.out t).mono ?_
      rw [HN.out, evR_some]
      rintro r w1 ⟨rfl, hb2⟩
      have hz := hb2.size
      go_wp2
      go_quiet (fail)
      go_wp2
      go_ret
      exact ⟨rfl, (hb2.alloc hz _).drewN⟩

set_option maxRecDepth 100000 in
set_option maxHeartbeats 4000000 in
theorem refAll_any (h : RefAt w b tb a cap tcap s) (hth : ThreadsAt w a s.p.threads) (ok : s.Ok F) :
    Calls Tryz.prog 46 #[.pointer (some ⟨b, 0, none⟩)] w fun r w' => ∃ v, r = .returned v ∧ OwnN w' w.heap.size v s.all ∧ Below w.heap.size w w' := by
  have h4 := ok.len4
  have p1 := h.prog.2
  have hb1 := h.lt.1
  have H := Lib.hid h
  have HT := Lib.hid hth
  have OK := Lib.hid ok
  clear h hth ok
  go_enter Tryz.func46, Tryz.ntmps46
  go_wp2
  go_loopw [3, 4] (fun l i wr => ∃ k : Nat, k ≤ s.ts.length ∧ i = .int .i64 k ∧ OwnN wr w.heap.size l (s.allTo k) ∧ Below w.heap.size w wr) (fun _ i _ => s.ts.length - (intOf i).toNat)
  case atStart => exact ⟨0, Nat.zero_le _, rfl, ownN_nil _ _, Below.refl _ _⟩
  case round =>
    obtain ⟨k, hk, rfl, hown, hb⟩ := hrel
    have p1w := cell_later hb p1
    by_cases hlt : k < s.ts.length
    · have hle := s.allTo_le k
      have HS := Lib.hid (s.allTo_succ k)
      go_wp2_with fail
      refine (refEnabled_any (H.out.later hb) (HT.out.later hb) OK.out k).mono ?_
      rintro r w1 ⟨rfl, hb1⟩
      have hb2 := hb.trans (hb1.mono hb.size)
      have hown1 := hown.later hb1
      have hz := hb2.size
      clear hown hb hb1 p1w
      cases hm : s.may k
      · have HR : Hid (s.allTo (k + 1) = s.allTo k) := by
          show _ = _
          rw [HS.out, hm]; simp
        clear hm
        go_wp2
        go_roundw
        case rel => exact ⟨k + 1, by omega, by go_num, by rw [HR.out]; exact hown1, hb2⟩
        case measure => simp [intOf]; omega
      · have HR : Hid (s.allTo (k + 1) = s.allTo k ++ [(k : Int)]) := by
          show _ = _
          rw [HS.out, hm]; simp
        clear hm
        go_wp2_with (at_builtin; refine wp_appendN rfl (.tmp 17) (.tmp 19) rfl w.heap.size _ (s.allTo k) rfl (hown1.alloc _) ⟨w1.heap.size, 0, none⟩ 1 1 rfl [(k : Int)] rfl (nums_new w1 [(k : Int)] _ _ rfl) (by simp; omega) (by simp; omega) ?_; intro v1 w2 hown2 hb3 _)
        have hb4 := (hb2.alloc hz _).trans hb3
        go_roundw
        case rel => exact ⟨k + 1, by omega, by go_num, by rw [HR.out]; exact hown2, hb4⟩
        case measure => simp [intOf]; omega
    · obtain rfl : k = s.ts.length := by omega
      go_wp2
      go_ret
      exact ⟨_, rfl, hown, hb⟩
end
end Go.Proofs.YtljlaopjimkcmaaGreat

/- The contract of the document's Step, where it is refused. -/
namespace Go.Proofs.YtljlaopjimkcmaaGreat
open Go.RowKit

theorem RefAt.go {w : World} {b tb : Nat} {a : Option Addr} {cap tcap : Nat} {s : St} (h : RefAt w b tb a cap tcap s) (t f n : Nat) (ht : t < s.ts.length) (hf : (s.th t).fuel = f + 1) (hn : (s.th t).at_ = n) :
    RefAt ((w.setCell ⟨tb, t * 4 + 1, none⟩ (.int .i64 f)).setCell ⟨tb, t * 4, none⟩ (.int .i64 ((n + 1 : Nat) : Int))) b tb a cap tcap (s.go t) := by
  have h1 := h.setFuel t f ht
  have h2 := h1.setAt t (n + 1) (by rw [St.put_len]; exact ht)
  rw [St.put_th _ _ _ ht, St.put_put] at h2
  unfold St.go
  rw [hf, hn]
  exact h2
theorem RefAt.other4 {w : World} {b tb g : Nat} {a : Option Addr} {cap tcap : Nat} {s : St} (h : RefAt w b tb a cap tcap s) (hb : b ≠ g) (ht : tb ≠ g) (v0 v1 v2 v3 : Value) :
    RefAt ((((w.setCell ⟨g, 0, none⟩ v0).setCell ⟨g, 1, none⟩ v1).setCell ⟨g, 2, none⟩ v2).setCell ⟨g, 3, none⟩ v3) b tb a cap tcap s :=
  (((h.other hb ht 0 v0).other hb ht 1 v1).other hb ht 2 v2).other hb ht 3 v3

section
variable {F : Nat} {w : World} {b tb : Nat} {a : Option Addr} {cap tcap : Nat} {s : St}

set_option maxRecDepth 100000 in
set_option maxHeartbeats 4000000 in
theorem refStep_range (h : RefAt w b tb a cap tcap s) (t : Int) (hb : belowB t s.ts.length = false) : Calls Tryz.prog 51 #[.pointer (some ⟨b, 0, none⟩), .int .i64 t] w fun e w' => e = .returned (stepV (s.step t)) ∧ RefAt w' b tb a cap tcap (s.step t).2.2 ∧ Only2 b tb w w' := by
  have hst : s.step t = (2, ev0, s) := by
    unfold St.step
    rw [if_neg (fun e => by unfold St.has at e; simp [belowB] at hb; omega)]
  rw [hst, stepV_err]
  have hb' : ¬ (0 ≤ t ∧ t < s.ts.length) := by simpa [belowB] using hb
  have p1 := h.prog.2
  have hb1 := h.lt.1
  have HB := Lib.hid (h.later (below_alloc1 w (.cells #[.int .i64 0, .int .i64 0, .int .i64 0, .bool false] 51)))
  clear hst h hb
  by_cases h0 : t < 0
  · have q0 : decide (t < 0) = true := by simpa using h0
    clear hb'
    go_enter Tryz.func51, Tryz.ntmps51
    go_wp2
    refine bodyPost_ret (v := .tuple #[.agg #[.int .i64 0, .int .i64 0, .int .i64 0, .bool false], .int .i64 2]) (by simp [results, Tryz.results51, go_sem]) rfl ⟨rfl, HB.out, ?_⟩
    exact (Only2.refl b tb w).alloc _
  · have q0 : decide (t < 0) = false := by simpa using h0
    have q1 : decide ((s.ts.length : Int) ≤ t) = true := by simp; omega
    clear hb'
    go_enter Tryz.func51, Tryz.ntmps51
    go_wp2
    refine bodyPost_ret (v := .tuple #[.agg #[.int .i64 0, .int .i64 0, .int .i64 0, .bool false], .int .i64 2]) (by simp [results, Tryz.results51, go_sem]) rfl ⟨rfl, HB.out, ?_⟩
    exact (Only2.refl b tb w).alloc _

set_option maxRecDepth 100000 in
set_option maxHeartbeats 4000000 in
theorem refStep_none (h : RefAt w b tb a cap tcap s) (hth : ThreadsAt w a s.p.threads) (ok : s.Ok F) (t : Nat) (ht : t < s.ts.length) (hi : s.ins t = none) : Calls Tryz.prog 51 #[.pointer (some ⟨b, 0, none⟩), .int .i64 t] w fun e w' => e = .returned (stepV (s.step t)) ∧ RefAt w' b tb a cap tcap (s.step t).2.2 ∧ Only2 b tb w w' := by
  have hst : s.step t = (6, ev0, s) := by
    unfold St.step
    rw [if_pos (by unfold St.has; omega), hi]
  have hn : s.next t = none := by unfold St.next; rw [hi]; rfl
  rw [hst, stepV_err]
  have p1 := h.prog.2
  have hl := h.lt
  obtain ⟨hb1, hb2⟩ := hl
  have h4 := ok.len4
  have q0 : decide ((t : Int) < 0) = false := by simp
  have q1 : decide ((s.ts.length : Int) ≤ t) = false := by simp; omega
  have q2 : decide (s.ts.length ≤ t) = false := by simp; omega
  have HB := Lib.hid (h.later (below_alloc1 w (.cells #[.int .i64 0, .int .i64 0, .int .i64 0, .bool false] 51)))
  have HTH := Lib.hid (hth.later (below_alloc1 w (.cells #[.int .i64 0, .int .i64 0, .int .i64 0, .bool false] 51)))
  have OK := Lib.hid ok
  have HN := Lib.hid hn
  clear hst h hth ok hi hn
  go_enter Tryz.func51, Tryz.ntmps51
  go_wp2_with fail
  refine (refNext_any HB.out HTH.out OK.out t).mono ?_
  rw [HN.out, evR_none]
  rintro r w1 ⟨rfl, hb3⟩
  have hz : w.heap.size < w1.heap.size := by have := hb3.size; simp at this; omega
  have hc : ∀ o, w1.cell? ⟨w.heap.size, o, none⟩ = (w.alloc (.cells #[.int .i64 0, .int .i64 0, .int .i64 0, .bool false] 51)).cell? ⟨w.heap.size, o, none⟩ := fun o => hb3.cell (p := ⟨w.heap.size, o, none⟩) (by simp)
  have hf : ∀ o, w1.frozen? ⟨w.heap.size, o, none⟩ = (w.alloc (.cells #[.int .i64 0, .int .i64 0, .int .i64 0, .bool false] 51)).frozen? ⟨w.heap.size, o, none⟩ := fun o => hb3.frozen (p := ⟨w.heap.size, o, none⟩) (by simp)
  have H1 := Lib.hid (HB.out.later hb3)
  have B1 : Hid (Below w.heap.size w w1) := (below_alloc1 w _).trans (hb3.mono (by simp))
  clear hb3 p1
  go_wp2
  refine bodyPost_ret (v := .tuple #[.agg #[.int .i64 0, .int .i64 0, .int .i64 0, .bool false], .int .i64 6]) (by simp [results, Tryz.results51, go_sem, hc, hz]) rfl ⟨rfl, ?_, ?_⟩
  · exact (H1.out.other4 (by omega) (by omega) _ _ _ _).later (below_alloc1 _ _)
  · exact ((Only2.of_below B1.out).set4 (Nat.le_refl _) _ _ _ _).alloc _

set_option maxRecDepth 100000 in
set_option maxHeartbeats 4000000 in
theorem refStep_state (h : RefAt w b tb a cap tcap s) (hth : ThreadsAt w a s.p.threads) (ok : s.Ok F) (t : Nat) (i : Ins) (hi : s.ins t = some i) (hm : s.may t = false) : Calls Tryz.prog 51 #[.pointer (some ⟨b, 0, none⟩), .int .i64 t] w fun e w' => e = .returned (stepV (s.step t)) ∧ RefAt w' b tb a cap tcap (s.step t).2.2 ∧ Only2 b tb w w' := by
  obtain ⟨k, hkk, ht⟩ := St.ins_nat hi
  obtain rfl : t = k := by omega
  have hst : s.step t = (9, ev0, s) := by
    unfold St.step
    rw [if_pos (by unfold St.has; omega), hi]
    simp only [hm]
    rfl
  have hn : s.next t = some (s.ev t i) := by unfold St.next; rw [hi]; rfl
  rw [hst, stepV_err]
  obtain ⟨e, he⟩ : ∃ e, e = s.ev t i := ⟨_, rfl⟩
  rw [← he] at hn
  have p1 := h.prog.2
  have hl := h.lt
  obtain ⟨hb1, hb2⟩ := hl
  have h4 := ok.len4
  have q0 : decide ((t : Int) < 0) = false := by simp
  have q1 : decide ((s.ts.length : Int) ≤ t) = false := by simp; omega
  have q2 : decide (s.ts.length ≤ t) = false := by simp; omega
  have HB := Lib.hid (h.later (below_alloc1 w (.cells #[.int .i64 0, .int .i64 0, .int .i64 0, .bool false] 51)))
  have HTH := Lib.hid (hth.later (below_alloc1 w (.cells #[.int .i64 0, .int .i64 0, .int .i64 0, .bool false] 51)))
  have OK := Lib.hid ok
  have HN := Lib.hid hn
  have HM := Lib.hid hm
  clear hst h hth ok hi hn he hkk hm
  go_enter Tryz.func51, Tryz.ntmps51
  go_wp2_with fail
  refine (refNext_any HB.out HTH.out OK.out t).mono ?_
  rw [HN.out, evR_some]
  rintro r w1 ⟨rfl, hb3⟩
  have hz : w.heap.size < w1.heap.size := by have := hb3.size; simp at this; omega
  have hc : ∀ o, w1.cell? ⟨w.heap.size, o, none⟩ = (w.alloc (.cells #[.int .i64 0, .int .i64 0, .int .i64 0, .bool false] 51)).cell? ⟨w.heap.size, o, none⟩ := fun o => hb3.cell (p := ⟨w.heap.size, o, none⟩) (by simp)
  have hf : ∀ o, w1.frozen? ⟨w.heap.size, o, none⟩ = (w.alloc (.cells #[.int .i64 0, .int .i64 0, .int .i64 0, .bool false] 51)).frozen? ⟨w.heap.size, o, none⟩ := fun o => hb3.frozen (p := ⟨w.heap.size, o, none⟩) (by simp)
  have H1 := Lib.hid ((HB.out.later hb3).later (below_alloc1 w1 (.cells #[.int .i64 e.thread, .int .i64 e.kind, .int .i64 e.obj, .bool e.fail] 51)))
  have T1 := Lib.hid ((HTH.out.later hb3).later (below_alloc1 w1 (.cells #[.int .i64 e.thread, .int .i64 e.kind, .int .i64 e.obj, .bool e.fail] 51)))
  have B1 : Hid (Below w.heap.size w w1) := (below_alloc1 w _).trans (hb3.mono (by simp))
  clear hb3 p1
  go_wp2_with fail
  refine (refEnabled_any H1.out T1.out OK.out t).mono ?_
  rw [HM.out]
  rintro r w2 ⟨rfl, hb4⟩
  have B2 : Hid (Below w1.heap.size w1 w2) := (below_alloc1 w1 _).trans (hb4.mono (by simp))
  have hz2 : w.heap.size < w2.heap.size := by have := B2.out.size; omega
  have hc2 : ∀ o, w2.cell? ⟨w.heap.size, o, none⟩ = w1.cell? ⟨w.heap.size, o, none⟩ := fun o => B2.out.cell (p := ⟨w.heap.size, o, none⟩) hz
  have hf2 : ∀ o, w2.frozen? ⟨w.heap.size, o, none⟩ = w1.frozen? ⟨w.heap.size, o, none⟩ := fun o => B2.out.frozen (p := ⟨w.heap.size, o, none⟩) hz
  have H2 := Lib.hid (H1.out.later hb4)
  clear hb4
  go_wp2
  refine bodyPost_ret (v := .tuple #[.agg #[.int .i64 0, .int .i64 0, .int .i64 0, .bool false], .int .i64 9]) (by simp [results, Tryz.results51, go_sem, hc, hc2]) rfl ⟨rfl, ?_, ?_⟩
  · exact H2.out.other4 (by omega) (by omega) _ _ _ _
  · exact (Only2.of_below (B1.out.trans (B2.out.mono (by omega)))).set4 (Nat.le_refl _) _ _ _ _
end
end Go.Proofs.YtljlaopjimkcmaaGreat

/- Boxes of an event, of an instruction. -/
namespace Go.Proofs.YtljlaopjimkcmaaGreat
open Go.RowKit

/-- A box of an event that is none. -/
def EvBox0 (w : World) (g : Nat) : Prop := w.heap[g]? = some (.cells #[.int .i64 0, .int .i64 0, .int .i64 0, .bool false] 51 (0, 0))
theorem EvBox0.cells {w : World} {g : Nat} (h : EvBox0 w g) : w.cell? ⟨g, 0, none⟩ = some (.int .i64 0) ∧ w.cell? ⟨g, 1, none⟩ = some (.int .i64 0) ∧ w.cell? ⟨g, 2, none⟩ = some (.int .i64 0) ∧ w.cell? ⟨g, 3, none⟩ = some (.bool false) ∧ ∀ o, w.frozen? ⟨g, o, none⟩ = false := by
  simp [World.cell?, World.frozen?, show w.heap[g]? = _ from h]
theorem ev_cells {w : World} {g : Nat} {e : Ev} (h : w.heap[g]? = some (.cells #[.int .i64 e.thread, .int .i64 e.kind, .int .i64 e.obj, .bool e.fail] 51 (0, 0))) : w.cell? ⟨g, 0, none⟩ = some (.int .i64 e.thread) ∧ w.cell? ⟨g, 1, none⟩ = some (.int .i64 e.kind) ∧ w.cell? ⟨g, 2, none⟩ = some (.int .i64 e.obj) ∧ w.cell? ⟨g, 3, none⟩ = some (.bool e.fail) := by
  simp [World.cell?, h]
theorem ins_cells {w : World} {g : Nat} {kd r x m : Int} (h : w.heap[g]? = some (.cells #[.int .i64 kd, .int .i64 r, .int .i64 x, .int .i64 m] 60 (0, 0))) : w.cell? ⟨g, 0, none⟩ = some (.int .i64 kd) ∧ w.cell? ⟨g, 1, none⟩ = some (.int .i64 r) ∧ w.cell? ⟨g, 2, none⟩ = some (.int .i64 x) ∧ w.cell? ⟨g, 3, none⟩ = some (.int .i64 m) := by
  simp [World.cell?, h]
end Go.Proofs.YtljlaopjimkcmaaGreat

/- The contract of the document's Step: a load. -/
namespace Go.Proofs.YtljlaopjimkcmaaGreat
open Go.RowKit
section
variable {F : Nat} {w : World} {b tb : Nat} {a : Option Addr} {cap tcap : Nat} {s : St}

set_option maxRecDepth 100000 in
set_option maxHeartbeats 8000000 in
theorem refStep_1 (h : RefAt w b tb a cap tcap s) (hth : ThreadsAt w a s.p.threads) (ok : s.Ok F) (t : Nat) (i : Ins) (hi : s.ins t = some i) (hm : s.may t = true) (hk1 : i.kind = 1) : Calls Tryz.prog 51 #[.pointer (some ⟨b, 0, none⟩), .int .i64 t] w fun e w' => e = .returned (stepV (s.step t)) ∧ RefAt w' b tb a cap tcap (s.step t).2.2 ∧ Only2 b tb w w' := by
  obtain ⟨k, hkk, ht⟩ := St.ins_nat hi
  obtain rfl : t = k := by omega
  have hst : s.step t = (0, s.ev t i, s.do_ t i) := by
    unfold St.step
    rw [if_pos (by unfold St.has; omega), hi]
    simp only [hm]
    rfl
  have hn : s.next t = some (s.ev t i) := by unfold St.next; rw [hi]; rfl
  rw [hst, stepV_ok]
  dsimp only
  obtain ⟨o1, o2, o3, o4, o5, o6⟩ := ok.obj hi
  have hx0 : 0 ≤ i.x := by
    have := (ok.ins_right hi).1
    unfold rightIns at this
    repeat' split at this
    all_goals first | (simp only [decide_eq_true_eq] at this; omega) | (cases this)
  obtain ⟨_, hfu, hcode⟩ := St.ins_has hi
  simp only [Int.toNat_natCast] at hfu hcode
  have h4 := ok.len4
  have hln := ok.len
  have hrl : (s.th t).r.length = 2 := (ok.thr _ (St.th_mem ht)).1
  have hvl := ok.vl
  have hml := ok.ml
  obtain ⟨f, hf⟩ : ∃ f, (s.th t).fuel = f + 1 := ⟨(s.th t).fuel - 1, by omega⟩
  have hf8 : f ≤ 1000 := by have := (ok.thr _ (St.th_mem ht)).2.2; have := ok.f8; omega
  have h8 := ok.code8 t ht
  obtain ⟨hat, hic⟩ := List.getElem?_eq_some_iff.1 hcode
  obtain ⟨n, hn1⟩ : ∃ n, (s.th t).at_ = n := ⟨_, rfl⟩
  have hkp : t < s.p.threads.length := by omega
  have hcd : s.code t = s.p.threads[t] := getD_lt _ hkp
  obtain ⟨ab, ao, rfl, hc⟩ := hth.2 (by intro e; simp [e] at hkp)
  obtain ⟨c, ccap, c0, c1, _⟩ := hc t hkp
  rw [← hcd] at c0 c1
  obtain ⟨cb, co, rfl, hcc⟩ := c1.2 (by intro e; simp [e] at hat)
  obtain ⟨i0, i1, i2, i3⟩ := hcc _ hat
  rw [hic] at i0 i1 i2 i3
  rw [hn1] at i0 i1 i2 i3 hat
  have p1 := h.prog.2
  have q0 : decide ((t : Int) < 0) = false := by simp
  have q1 : decide ((s.ts.length : Int) ≤ t) = false := by simp; omega
  have q2 : decide (s.ts.length ≤ t) = false := by simp; omega
  obtain ⟨hb1, hb2⟩ := h.lt
  have HB := Lib.hid (h.later (below_alloc1 w (.cells #[.int .i64 0, .int .i64 0, .int .i64 0, .bool false] 51)))
  have HTH := Lib.hid (hth.later (below_alloc1 w (.cells #[.int .i64 0, .int .i64 0, .int .i64 0, .bool false] 51)))
  have OK := Lib.hid ok
  have HM := Lib.hid hm
  obtain ⟨kd, r, x, m⟩ := i
  dsimp only at *
  obtain ⟨r, rfl⟩ : ∃ y : Nat, r = y := ⟨r.toNat, by omega⟩
  obtain ⟨x, rfl⟩ : ∃ y : Nat, x = y := ⟨x.toNat, by omega⟩
  subst hk1
  have hr2 : r < 2 := by omega
  have hx4 : x < 4 := by have := o1 (.inl rfl); omega
  clear o1 o2 o3
  obtain ⟨e, he⟩ : ∃ e, e = s.ev t ⟨1, r, x, m⟩ := ⟨_, rfl⟩
  rw [← he] at hn ⊢
  have HE := Lib.hid he
  have HN := Lib.hid hn
  have HI := Lib.hid (And.intro hi (And.intro hf (And.intro hn1 (And.intro hrl (And.intro hvl hml)))))
  have HC := Lib.hid (And.intro c0 (And.intro i0 (And.intro i1 (And.intro i2 i3))))
  have h8n : n < 8 := by omega
  have hatn : n < (s.code t).length := by omega
  clear hst h hth ok hi hn he hkk hm hfu hcode hc c1 hcc hic hcd hln hrl hvl hml hf hn1 o6 c0 i0 i1 i2 i3
  try clear hat
  generalize (s.code t).length = ln at *
  go_enter Tryz.func51, Tryz.ntmps51
  go_wp2_with fail
  refine (refNext_any HB.out HTH.out OK.out t).mono ?_
  rw [HN.out, evR_some]
  rintro r9 w1 ⟨rfl, hb3⟩
  have hz : w.heap.size < w1.heap.size := by have := hb3.size; simp at this; omega
  have RX1 : Hid (EvBox0 w1 w.heap.size) := (hb3.block _ (by simp)).trans (heap_alloc_new w _)
  have H1 := Lib.hid ((HB.out.later hb3).later (below_alloc1 w1 (.cells #[.int .i64 e.thread, .int .i64 e.kind, .int .i64 e.obj, .bool e.fail] 51)))
  have T1 := Lib.hid ((HTH.out.later hb3).later (below_alloc1 w1 (.cells #[.int .i64 e.thread, .int .i64 e.kind, .int .i64 e.obj, .bool e.fail] 51)))
  have B1 : Hid (Below w.heap.size w w1) := (below_alloc1 w _).trans (hb3.mono (by simp))
  clear hb3 p1 HB HTH
  go_wp2_with fail
  refine (refEnabled_any H1.out T1.out OK.out t).mono ?_
  rw [HM.out]
  rintro r9 w2 ⟨rfl, hb4⟩
  have EX2 : Hid (w2.heap[w1.heap.size]? = some (.cells #[.int .i64 e.thread, .int .i64 e.kind, .int .i64 e.obj, .bool e.fail] 51 (0, 0))) := (hb4.block _ (by simp)).trans (heap_alloc_new w1 _)
  have B2 : Hid (Below w1.heap.size w1 w2) := (below_alloc1 w1 _).trans (hb4.mono (by simp))
  have RX2 : Hid (EvBox0 w2 w.heap.size) := (B2.out.block _ hz).trans RX1.out
  have H2 := Lib.hid (H1.out.later hb4)
  have W2 : Hid (Below w.heap.size w w2) := B1.out.trans (B2.out.mono (by omega))
  have hz2 : w1.heap.size < w2.heap.size := (Array.getElem?_eq_some_iff.1 EX2.out).1
  have hz3 : w.heap.size < w2.heap.size := by omega
  obtain ⟨p0, p1⟩ := H2.out.prog
  have ca := H2.out.at_ t ht
  rw [HI.out.2.2.1] at ca
  have d0 := cell_later W2.out HC.out.1
  have d1 := cell_later W2.out HC.out.2.1
  have d2 := cell_later W2.out HC.out.2.2.1
  have d3 := cell_later W2.out HC.out.2.2.2.1
  have d4 := cell_later W2.out HC.out.2.2.2.2
  have z0 := cell_block d0
  have z1 := cell_block d1
  dsimp only at z0 z1
  have ltb : tb < w2.heap.size := by omega
  have lb : b < w2.heap.size := by omega
  clear hb4 H1 T1 B1 B2 RX1 HC
  go_wp2
  go_region
  generalize hW : (w2.alloc (.cells #[.int .i64 1, .int .i64 r, .int .i64 x, .int .i64 m] 60)).drew = W at *
  have hbW : Below w2.heap.size w2 W := by rw [← hW]; exact ((Below.refl _ _).alloc (Nat.le_refl _) _).drew
  have IX : W.heap[w2.heap.size]? = some (.cells #[.int .i64 1, .int .i64 r, .int .i64 x, .int .i64 m] 60 (0, 0)) := by rw [← hW]; exact heap_alloc_new w2 _
  have HW := Lib.hid (H2.out.later hbW)
  have EX := Lib.hid ((hbW.block _ hz2).trans EX2.out)
  have RX : Hid (EvBox0 W w.heap.size) := (hbW.block _ hz3).trans RX2.out
  have OW : Hid (Only2 b tb w W) := .of_below (W2.out.trans (hbW.mono W2.out.size))
  have cf := HW.out.fuel t ht
  rw [HI.out.2.1, Int.natCast_add] at cf
  have ca2 := HW.out.at_ t ht
  rw [HI.out.2.2.1] at ca2
  have ff := fun o => (HW.out.frozen o).2
  have j0 := (ins_cells IX).1
  have IXH := Lib.hid IX
  have nb : b ≠ tb := HW.out.2.1
  generalize hI : w2.heap.size = I at *
  generalize hE : w1.heap.size = E at *
  generalize hR : w.heap.size = R at *
  have n1 : ¬ tb = I := by omega
  have n2 : ¬ I = tb := by omega
  have n3 : ¬ tb = E := by omega
  have n4 : ¬ E = tb := by omega
  have n5 : ¬ tb = R := by omega
  have n6 : ¬ R = tb := by omega
  have n7 : ¬ b = I := by omega
  have n8 : ¬ I = b := by omega
  have n9 : ¬ b = E := by omega
  have n10 : ¬ E = b := by omega
  have n11 : ¬ b = R := by omega
  have n12 : ¬ R = b := by omega
  have n13 : ¬ tb = b := fun h => nb h.symm
  have n14 : ¬ b = tb := nb
  have n15 : ¬ R = E := by omega
  have n16 : ¬ E = R := by omega
  clear hW hbW H2 EX2 RX2 W2 d0 d1 d2 d3 d4 ca p0 p1 IX
  go_wp2
  generalize hV : (W.setCell ⟨tb, t * 4 + 1, none⟩ (.int .i64 f)).setCell ⟨tb, t * 4, none⟩ (.int .i64 (n + 1)) = V at *
  have hoth : ∀ k, k ≠ tb → V.heap[k]? = W.heap[k]? := fun k hk => by rw [← hV, Below.heap_setCell _ _ _ _ hk, Below.heap_setCell _ _ _ _ hk]
  have HG : Hid (RefAt V b tb (some ⟨ab, ao, none⟩) cap tcap (s.go t)) := by rw [← hV]; exact HW.out.go t f n ht HI.out.2.1 HI.out.2.2.1
  have OV : Hid (Only2 b tb w V) := by rw [← hV]; exact (OW.out.setCell (.inr (.inl rfl)) _ _).setCell (.inr (.inl rfl)) _ _
  obtain ⟨j0v, j1v, j2v, j3v⟩ := ins_cells ((hoth I (fun e => n2 e)).trans IXH.out)
  obtain ⟨x0, x1, x2, x3⟩ := ev_cells ((hoth E (fun e => n4 e)).trans EX.out)
  obtain ⟨e0, e1, e2, e3, ef⟩ := EvBox0.cells ((hoth R (fun e => n6 e)).trans RX.out)
  have f0 := ef 0
  have f1 := ef 1
  have f2 := ef 2
  have f3 := ef 3
  have htg : t < (s.go t).ts.length := by rw [St.go, St.put_len]; exact ht
  clear hV hoth j0 cf ca2 ff ef IXH EX RX HW OW
  have cv := HG.out.var x hx4
  have gl := go_load s t r x m ht
  generalize (s.go t).v.getD x 0 = vv at *
  have GL := Lib.hid gl
  clear gl
  have cr := HG.out.reg t htg r hr2
  have ff := (HG.out.frozen (t * 4 + 2 + r)).2
  go_region
  go_wp2
  refine bodyPost_ret (v := .tuple #[.agg #[.int .i64 e.thread, .int .i64 e.kind, .int .i64 e.obj, .bool e.fail], .int .i64 0]) (by simp [results, Tryz.results51, go_sem, e0, e1, e2, e3]) rfl ⟨rfl, ?_, ?_⟩
  · obtain ⟨hi, hf, hn1, hrl, hvl, hml⟩ := HI.out
    have hg := HG.out
    have h2 := hg.setReg t r vv htg hr2 (by rw [St.go_th _ _ ht]; exact hrl)
    rw [GL.out] at h2
    exact (h2.other4 (by omega) (by omega) _ _ _ _).drewN 1
  · exact ((OV.out.setCell (.inr (.inl rfl)) _ _).set4 (Nat.le_of_eq hR) _ _ _ _).drew
end
end Go.Proofs.YtljlaopjimkcmaaGreat

/- The contract of the document's Step: a store. -/
namespace Go.Proofs.YtljlaopjimkcmaaGreat
open Go.RowKit
section
variable {F : Nat} {w : World} {b tb : Nat} {a : Option Addr} {cap tcap : Nat} {s : St}

set_option maxRecDepth 100000 in
set_option maxHeartbeats 8000000 in
theorem refStep_2 (h : RefAt w b tb a cap tcap s) (hth : ThreadsAt w a s.p.threads) (ok : s.Ok F) (t : Nat) (i : Ins) (hi : s.ins t = some i) (hm : s.may t = true) (hk1 : i.kind = 2) : Calls Tryz.prog 51 #[.pointer (some ⟨b, 0, none⟩), .int .i64 t] w fun e w' => e = .returned (stepV (s.step t)) ∧ RefAt w' b tb a cap tcap (s.step t).2.2 ∧ Only2 b tb w w' := by
  obtain ⟨k, hkk, ht⟩ := St.ins_nat hi
  obtain rfl : t = k := by omega
  have hst : s.step t = (0, s.ev t i, s.do_ t i) := by
    unfold St.step
    rw [if_pos (by unfold St.has; omega), hi]
    simp only [hm]
    rfl
  have hn : s.next t = some (s.ev t i) := by unfold St.next; rw [hi]; rfl
  rw [hst, stepV_ok]
  dsimp only
  obtain ⟨o1, o2, o3, o4, o5, o6⟩ := ok.obj hi
  have hx0 : 0 ≤ i.x := by
    have := (ok.ins_right hi).1
    unfold rightIns at this
    repeat' split at this
    all_goals first | (simp only [decide_eq_true_eq] at this; omega) | (cases this)
  obtain ⟨_, hfu, hcode⟩ := St.ins_has hi
  simp only [Int.toNat_natCast] at hfu hcode
  have h4 := ok.len4
  have hln := ok.len
  have hrl : (s.th t).r.length = 2 := (ok.thr _ (St.th_mem ht)).1
  have hvl := ok.vl
  have hml := ok.ml
  obtain ⟨f, hf⟩ : ∃ f, (s.th t).fuel = f + 1 := ⟨(s.th t).fuel - 1, by omega⟩
  have hf8 : f ≤ 1000 := by have := (ok.thr _ (St.th_mem ht)).2.2; have := ok.f8; omega
  have h8 := ok.code8 t ht
  obtain ⟨hat, hic⟩ := List.getElem?_eq_some_iff.1 hcode
  obtain ⟨n, hn1⟩ : ∃ n, (s.th t).at_ = n := ⟨_, rfl⟩
  have hkp : t < s.p.threads.length := by omega
  have hcd : s.code t = s.p.threads[t] := getD_lt _ hkp
  obtain ⟨ab, ao, rfl, hc⟩ := hth.2 (by intro e; simp [e] at hkp)
  obtain ⟨c, ccap, c0, c1, _⟩ := hc t hkp
  rw [← hcd] at c0 c1
  obtain ⟨cb, co, rfl, hcc⟩ := c1.2 (by intro e; simp [e] at hat)
  obtain ⟨i0, i1, i2, i3⟩ := hcc _ hat
  rw [hic] at i0 i1 i2 i3
  rw [hn1] at i0 i1 i2 i3 hat
  have p1 := h.prog.2
  have q0 : decide ((t : Int) < 0) = false := by simp
  have q1 : decide ((s.ts.length : Int) ≤ t) = false := by simp; omega
  have q2 : decide (s.ts.length ≤ t) = false := by simp; omega
  obtain ⟨hb1, hb2⟩ := h.lt
  have HB := Lib.hid (h.later (below_alloc1 w (.cells #[.int .i64 0, .int .i64 0, .int .i64 0, .bool false] 51)))
  have HTH := Lib.hid (hth.later (below_alloc1 w (.cells #[.int .i64 0, .int .i64 0, .int .i64 0, .bool false] 51)))
  have OK := Lib.hid ok
  have HM := Lib.hid hm
  obtain ⟨kd, r, x, m⟩ := i
  dsimp only at *
  obtain ⟨r, rfl⟩ : ∃ y : Nat, r = y := ⟨r.toNat, by omega⟩
  obtain ⟨x, rfl⟩ : ∃ y : Nat, x = y := ⟨x.toNat, by omega⟩
  subst hk1
  have hr2 : r < 2 := by omega
  have hx4 : x < 4 := by have := o1 (.inr rfl); omega
  clear o1 o2 o3
  obtain ⟨e, he⟩ : ∃ e, e = s.ev t ⟨2, r, x, m⟩ := ⟨_, rfl⟩
  rw [← he] at hn ⊢
  have HE := Lib.hid he
  have HN := Lib.hid hn
  have HI := Lib.hid (And.intro hi (And.intro hf (And.intro hn1 (And.intro hrl (And.intro hvl hml)))))
  have HC := Lib.hid (And.intro c0 (And.intro i0 (And.intro i1 (And.intro i2 i3))))
  have h8n : n < 8 := by omega
  have hatn : n < (s.code t).length := by omega
  clear hst h hth ok hi hn he hkk hm hfu hcode hc c1 hcc hic hcd hln hrl hvl hml hf hn1 o6 c0 i0 i1 i2 i3
  try clear hat
  generalize (s.code t).length = ln at *
  go_enter Tryz.func51, Tryz.ntmps51
  go_wp2_with fail
  refine (refNext_any HB.out HTH.out OK.out t).mono ?_
  rw [HN.out, evR_some]
  rintro r9 w1 ⟨rfl, hb3⟩
  have hz : w.heap.size < w1.heap.size := by have := hb3.size; simp at this; omega
  have RX1 : Hid (EvBox0 w1 w.heap.size) := (hb3.block _ (by simp)).trans (heap_alloc_new w _)
  have H1 := Lib.hid ((HB.out.later hb3).later (below_alloc1 w1 (.cells #[.int .i64 e.thread, .int .i64 e.kind, .int .i64 e.obj, .bool e.fail] 51)))
  have T1 := Lib.hid ((HTH.out.later hb3).later (below_alloc1 w1 (.cells #[.int .i64 e.thread, .int .i64 e.kind, .int .i64 e.obj, .bool e.fail] 51)))
  have B1 : Hid (Below w.heap.size w w1) := (below_alloc1 w _).trans (hb3.mono (by simp))
  clear hb3 p1 HB HTH
  go_wp2_with fail
  refine (refEnabled_any H1.out T1.out OK.out t).mono ?_
  rw [HM.out]
  rintro r9 w2 ⟨rfl, hb4⟩
  have EX2 : Hid (w2.heap[w1.heap.size]? = some (.cells #[.int .i64 e.thread, .int .i64 e.kind, .int .i64 e.obj, .bool e.fail] 51 (0, 0))) := (hb4.block _ (by simp)).trans (heap_alloc_new w1 _)
  have B2 : Hid (Below w1.heap.size w1 w2) := (below_alloc1 w1 _).trans (hb4.mono (by simp))
  have RX2 : Hid (EvBox0 w2 w.heap.size) := (B2.out.block _ hz).trans RX1.out
  have H2 := Lib.hid (H1.out.later hb4)
  have W2 : Hid (Below w.heap.size w w2) := B1.out.trans (B2.out.mono (by omega))
  have hz2 : w1.heap.size < w2.heap.size := (Array.getElem?_eq_some_iff.1 EX2.out).1
  have hz3 : w.heap.size < w2.heap.size := by omega
  obtain ⟨p0, p1⟩ := H2.out.prog
  have ca := H2.out.at_ t ht
  rw [HI.out.2.2.1] at ca
  have d0 := cell_later W2.out HC.out.1
  have d1 := cell_later W2.out HC.out.2.1
  have d2 := cell_later W2.out HC.out.2.2.1
  have d3 := cell_later W2.out HC.out.2.2.2.1
  have d4 := cell_later W2.out HC.out.2.2.2.2
  have z0 := cell_block d0
  have z1 := cell_block d1
  dsimp only at z0 z1
  have ltb : tb < w2.heap.size := by omega
  have lb : b < w2.heap.size := by omega
  clear hb4 H1 T1 B1 B2 RX1 HC
  go_wp2
  go_region
  generalize hW : (w2.alloc (.cells #[.int .i64 2, .int .i64 r, .int .i64 x, .int .i64 m] 60)).drew = W at *
  have hbW : Below w2.heap.size w2 W := by rw [← hW]; exact ((Below.refl _ _).alloc (Nat.le_refl _) _).drew
  have IX : W.heap[w2.heap.size]? = some (.cells #[.int .i64 2, .int .i64 r, .int .i64 x, .int .i64 m] 60 (0, 0)) := by rw [← hW]; exact heap_alloc_new w2 _
  have HW := Lib.hid (H2.out.later hbW)
  have EX := Lib.hid ((hbW.block _ hz2).trans EX2.out)
  have RX : Hid (EvBox0 W w.heap.size) := (hbW.block _ hz3).trans RX2.out
  have OW : Hid (Only2 b tb w W) := .of_below (W2.out.trans (hbW.mono W2.out.size))
  have cf := HW.out.fuel t ht
  rw [HI.out.2.1, Int.natCast_add] at cf
  have ca2 := HW.out.at_ t ht
  rw [HI.out.2.2.1] at ca2
  have ff := fun o => (HW.out.frozen o).2
  have j0 := (ins_cells IX).1
  have IXH := Lib.hid IX
  have nb : b ≠ tb := HW.out.2.1
  generalize hI : w2.heap.size = I at *
  generalize hE : w1.heap.size = E at *
  generalize hR : w.heap.size = R at *
  have n1 : ¬ tb = I := by omega
  have n2 : ¬ I = tb := by omega
  have n3 : ¬ tb = E := by omega
  have n4 : ¬ E = tb := by omega
  have n5 : ¬ tb = R := by omega
  have n6 : ¬ R = tb := by omega
  have n7 : ¬ b = I := by omega
  have n8 : ¬ I = b := by omega
  have n9 : ¬ b = E := by omega
  have n10 : ¬ E = b := by omega
  have n11 : ¬ b = R := by omega
  have n12 : ¬ R = b := by omega
  have n13 : ¬ tb = b := fun h => nb h.symm
  have n14 : ¬ b = tb := nb
  have n15 : ¬ R = E := by omega
  have n16 : ¬ E = R := by omega
  clear hW hbW H2 EX2 RX2 W2 d0 d1 d2 d3 d4 ca p0 p1 IX
  go_wp2
  generalize hV : (W.setCell ⟨tb, t * 4 + 1, none⟩ (.int .i64 f)).setCell ⟨tb, t * 4, none⟩ (.int .i64 (n + 1)) = V at *
  have hoth : ∀ k, k ≠ tb → V.heap[k]? = W.heap[k]? := fun k hk => by rw [← hV, Below.heap_setCell _ _ _ _ hk, Below.heap_setCell _ _ _ _ hk]
  have HG : Hid (RefAt V b tb (some ⟨ab, ao, none⟩) cap tcap (s.go t)) := by rw [← hV]; exact HW.out.go t f n ht HI.out.2.1 HI.out.2.2.1
  have OV : Hid (Only2 b tb w V) := by rw [← hV]; exact (OW.out.setCell (.inr (.inl rfl)) _ _).setCell (.inr (.inl rfl)) _ _
  obtain ⟨j0v, j1v, j2v, j3v⟩ := ins_cells ((hoth I (fun e => n2 e)).trans IXH.out)
  obtain ⟨x0, x1, x2, x3⟩ := ev_cells ((hoth E (fun e => n4 e)).trans EX.out)
  obtain ⟨e0, e1, e2, e3, ef⟩ := EvBox0.cells ((hoth R (fun e => n6 e)).trans RX.out)
  have f0 := ef 0
  have f1 := ef 1
  have f2 := ef 2
  have f3 := ef 3
  have htg : t < (s.go t).ts.length := by rw [St.go, St.put_len]; exact ht
  clear hV hoth j0 cf ca2 ff ef IXH EX RX HW OW
  have cv := HG.out.var x hx4
  have fv := (HG.out.frozen (4 + x)).1
  have gl := go_store s t r x m ht
  have cr := HG.out.reg t htg r hr2
  generalize ((s.go t).th t).r.getD r 0 = vv at *
  have GL := Lib.hid gl
  clear gl
  go_region
  go_wp2
  refine bodyPost_ret (v := .tuple #[.agg #[.int .i64 e.thread, .int .i64 e.kind, .int .i64 e.obj, .bool e.fail], .int .i64 0]) (by simp [results, Tryz.results51, go_sem, e0, e1, e2, e3]) rfl ⟨rfl, ?_, ?_⟩
  · obtain ⟨hi, hf, hn1, hrl, hvl, hml⟩ := HI.out
    have hg := HG.out
    have h2 := hg.setVar x vv hx4 hvl
    rw [GL.out] at h2
    exact (h2.other4 (by omega) (by omega) _ _ _ _).drewN 1
  · exact ((OV.out.setCell (.inl rfl) _ _).set4 (Nat.le_of_eq hR) _ _ _ _).drew
end
end Go.Proofs.YtljlaopjimkcmaaGreat

/- The contract of the document's Step: a set. -/
namespace Go.Proofs.YtljlaopjimkcmaaGreat
open Go.RowKit
section
variable {F : Nat} {w : World} {b tb : Nat} {a : Option Addr} {cap tcap : Nat} {s : St}

set_option maxRecDepth 100000 in
set_option maxHeartbeats 8000000 in
theorem refStep_3 (h : RefAt w b tb a cap tcap s) (hth : ThreadsAt w a s.p.threads) (ok : s.Ok F) (t : Nat) (i : Ins) (hi : s.ins t = some i) (hm : s.may t = true) (hk1 : i.kind = 3) : Calls Tryz.prog 51 #[.pointer (some ⟨b, 0, none⟩), .int .i64 t] w fun e w' => e = .returned (stepV (s.step t)) ∧ RefAt w' b tb a cap tcap (s.step t).2.2 ∧ Only2 b tb w w' := by
  obtain ⟨k, hkk, ht⟩ := St.ins_nat hi
  obtain rfl : t = k := by omega
  have hst : s.step t = (0, s.ev t i, s.do_ t i) := by
    unfold St.step
    rw [if_pos (by unfold St.has; omega), hi]
    simp only [hm]
    rfl
  have hn : s.next t = some (s.ev t i) := by unfold St.next; rw [hi]; rfl
  rw [hst, stepV_ok]
  dsimp only
  obtain ⟨o1, o2, o3, o4, o5, o6⟩ := ok.obj hi
  have hx0 : 0 ≤ i.x := by
    have := (ok.ins_right hi).1
    unfold rightIns at this
    repeat' split at this
    all_goals first | (simp only [decide_eq_true_eq] at this; omega) | (cases this)
  obtain ⟨_, hfu, hcode⟩ := St.ins_has hi
  simp only [Int.toNat_natCast] at hfu hcode
  have h4 := ok.len4
  have hln := ok.len
  have hrl : (s.th t).r.length = 2 := (ok.thr _ (St.th_mem ht)).1
  have hvl := ok.vl
  have hml := ok.ml
  obtain ⟨f, hf⟩ : ∃ f, (s.th t).fuel = f + 1 := ⟨(s.th t).fuel - 1, by omega⟩
  have hf8 : f ≤ 1000 := by have := (ok.thr _ (St.th_mem ht)).2.2; have := ok.f8; omega
  have h8 := ok.code8 t ht
  obtain ⟨hat, hic⟩ := List.getElem?_eq_some_iff.1 hcode
  obtain ⟨n, hn1⟩ : ∃ n, (s.th t).at_ = n := ⟨_, rfl⟩
  have hkp : t < s.p.threads.length := by omega
  have hcd : s.code t = s.p.threads[t] := getD_lt _ hkp
  obtain ⟨ab, ao, rfl, hc⟩ := hth.2 (by intro e; simp [e] at hkp)
  obtain ⟨c, ccap, c0, c1, _⟩ := hc t hkp
  rw [← hcd] at c0 c1
  obtain ⟨cb, co, rfl, hcc⟩ := c1.2 (by intro e; simp [e] at hat)
  obtain ⟨i0, i1, i2, i3⟩ := hcc _ hat
  rw [hic] at i0 i1 i2 i3
  rw [hn1] at i0 i1 i2 i3 hat
  have p1 := h.prog.2
  have q0 : decide ((t : Int) < 0) = false := by simp
  have q1 : decide ((s.ts.length : Int) ≤ t) = false := by simp; omega
  have q2 : decide (s.ts.length ≤ t) = false := by simp; omega
  obtain ⟨hb1, hb2⟩ := h.lt
  have HB := Lib.hid (h.later (below_alloc1 w (.cells #[.int .i64 0, .int .i64 0, .int .i64 0, .bool false] 51)))
  have HTH := Lib.hid (hth.later (below_alloc1 w (.cells #[.int .i64 0, .int .i64 0, .int .i64 0, .bool false] 51)))
  have OK := Lib.hid ok
  have HM := Lib.hid hm
  obtain ⟨kd, r, x, m⟩ := i
  dsimp only at *
  obtain ⟨r, rfl⟩ : ∃ y : Nat, r = y := ⟨r.toNat, by omega⟩
  obtain ⟨x, rfl⟩ : ∃ y : Nat, x = y := ⟨x.toNat, by omega⟩
  subst hk1
  have hr2 : r < 2 := by omega
  clear o1 o2 o3
  obtain ⟨e, he⟩ : ∃ e, e = s.ev t ⟨3, r, x, m⟩ := ⟨_, rfl⟩
  rw [← he] at hn ⊢
  have HE := Lib.hid he
  have HN := Lib.hid hn
  have HI := Lib.hid (And.intro hi (And.intro hf (And.intro hn1 (And.intro hrl (And.intro hvl hml)))))
  have HC := Lib.hid (And.intro c0 (And.intro i0 (And.intro i1 (And.intro i2 i3))))
  have h8n : n < 8 := by omega
  have hatn : n < (s.code t).length := by omega
  clear hst h hth ok hi hn he hkk hm hfu hcode hc c1 hcc hic hcd hln hrl hvl hml hf hn1 o6 c0 i0 i1 i2 i3
  try clear hat
  generalize (s.code t).length = ln at *
  go_enter Tryz.func51, Tryz.ntmps51
  go_wp2_with fail
  refine (refNext_any HB.out HTH.out OK.out t).mono ?_
  rw [HN.out, evR_some]
  rintro r9 w1 ⟨rfl, hb3⟩
  have hz : w.heap.size < w1.heap.size := by have := hb3.size; simp at this; omega
  have RX1 : Hid (EvBox0 w1 w.heap.size) := (hb3.block _ (by simp)).trans (heap_alloc_new w _)
  have H1 := Lib.hid ((HB.out.later hb3).later (below_alloc1 w1 (.cells #[.int .i64 e.thread, .int .i64 e.kind, .int .i64 e.obj, .bool e.fail] 51)))
  have T1 := Lib.hid ((HTH.out.later hb3).later (below_alloc1 w1 (.cells #[.int .i64 e.thread, .int .i64 e.kind, .int .i64 e.obj, .bool e.fail] 51)))
  have B1 : Hid (Below w.heap.size w w1) := (below_alloc1 w _).trans (hb3.mono (by simp))
  clear hb3 p1 HB HTH
  go_wp2_with fail
  refine (refEnabled_any H1.out T1.out OK.out t).mono ?_
  rw [HM.out]
  rintro r9 w2 ⟨rfl, hb4⟩
  have EX2 : Hid (w2.heap[w1.heap.size]? = some (.cells #[.int .i64 e.thread, .int .i64 e.kind, .int .i64 e.obj, .bool e.fail] 51 (0, 0))) := (hb4.block _ (by simp)).trans (heap_alloc_new w1 _)
  have B2 : Hid (Below w1.heap.size w1 w2) := (below_alloc1 w1 _).trans (hb4.mono (by simp))
  have RX2 : Hid (EvBox0 w2 w.heap.size) := (B2.out.block _ hz).trans RX1.out
  have H2 := Lib.hid (H1.out.later hb4)
  have W2 : Hid (Below w.heap.size w w2) := B1.out.trans (B2.out.mono (by omega))
  have hz2 : w1.heap.size < w2.heap.size := (Array.getElem?_eq_some_iff.1 EX2.out).1
  have hz3 : w.heap.size < w2.heap.size := by omega
  obtain ⟨p0, p1⟩ := H2.out.prog
  have ca := H2.out.at_ t ht
  rw [HI.out.2.2.1] at ca
  have d0 := cell_later W2.out HC.out.1
  have d1 := cell_later W2.out HC.out.2.1
  have d2 := cell_later W2.out HC.out.2.2.1
  have d3 := cell_later W2.out HC.out.2.2.2.1
  have d4 := cell_later W2.out HC.out.2.2.2.2
  have z0 := cell_block d0
  have z1 := cell_block d1
  dsimp only at z0 z1
  have ltb : tb < w2.heap.size := by omega
  have lb : b < w2.heap.size := by omega
  clear hb4 H1 T1 B1 B2 RX1 HC
  go_wp2
  go_region
  generalize hW : (w2.alloc (.cells #[.int .i64 3, .int .i64 r, .int .i64 x, .int .i64 m] 60)).drew = W at *
  have hbW : Below w2.heap.size w2 W := by rw [← hW]; exact ((Below.refl _ _).alloc (Nat.le_refl _) _).drew
  have IX : W.heap[w2.heap.size]? = some (.cells #[.int .i64 3, .int .i64 r, .int .i64 x, .int .i64 m] 60 (0, 0)) := by rw [← hW]; exact heap_alloc_new w2 _
  have HW := Lib.hid (H2.out.later hbW)
  have EX := Lib.hid ((hbW.block _ hz2).trans EX2.out)
  have RX : Hid (EvBox0 W w.heap.size) := (hbW.block _ hz3).trans RX2.out
  have OW : Hid (Only2 b tb w W) := .of_below (W2.out.trans (hbW.mono W2.out.size))
  have cf := HW.out.fuel t ht
  rw [HI.out.2.1, Int.natCast_add] at cf
  have ca2 := HW.out.at_ t ht
  rw [HI.out.2.2.1] at ca2
  have ff := fun o => (HW.out.frozen o).2
  have j0 := (ins_cells IX).1
  have IXH := Lib.hid IX
  have nb : b ≠ tb := HW.out.2.1
  generalize hI : w2.heap.size = I at *
  generalize hE : w1.heap.size = E at *
  generalize hR : w.heap.size = R at *
  have n1 : ¬ tb = I := by omega
  have n2 : ¬ I = tb := by omega
  have n3 : ¬ tb = E := by omega
  have n4 : ¬ E = tb := by omega
  have n5 : ¬ tb = R := by omega
  have n6 : ¬ R = tb := by omega
  have n7 : ¬ b = I := by omega
  have n8 : ¬ I = b := by omega
  have n9 : ¬ b = E := by omega
  have n10 : ¬ E = b := by omega
  have n11 : ¬ b = R := by omega
  have n12 : ¬ R = b := by omega
  have n13 : ¬ tb = b := fun h => nb h.symm
  have n14 : ¬ b = tb := nb
  have n15 : ¬ R = E := by omega
  have n16 : ¬ E = R := by omega
  clear hW hbW H2 EX2 RX2 W2 d0 d1 d2 d3 d4 ca p0 p1 IX
  go_wp2
  generalize hV : (W.setCell ⟨tb, t * 4 + 1, none⟩ (.int .i64 f)).setCell ⟨tb, t * 4, none⟩ (.int .i64 (n + 1)) = V at *
  have hoth : ∀ k, k ≠ tb → V.heap[k]? = W.heap[k]? := fun k hk => by rw [← hV, Below.heap_setCell _ _ _ _ hk, Below.heap_setCell _ _ _ _ hk]
  have HG : Hid (RefAt V b tb (some ⟨ab, ao, none⟩) cap tcap (s.go t)) := by rw [← hV]; exact HW.out.go t f n ht HI.out.2.1 HI.out.2.2.1
  have OV : Hid (Only2 b tb w V) := by rw [← hV]; exact (OW.out.setCell (.inr (.inl rfl)) _ _).setCell (.inr (.inl rfl)) _ _
  obtain ⟨j0v, j1v, j2v, j3v⟩ := ins_cells ((hoth I (fun e => n2 e)).trans IXH.out)
  obtain ⟨x0, x1, x2, x3⟩ := ev_cells ((hoth E (fun e => n4 e)).trans EX.out)
  obtain ⟨e0, e1, e2, e3, ef⟩ := EvBox0.cells ((hoth R (fun e => n6 e)).trans RX.out)
  have f0 := ef 0
  have f1 := ef 1
  have f2 := ef 2
  have f3 := ef 3
  have htg : t < (s.go t).ts.length := by rw [St.go, St.put_len]; exact ht
  clear hV hoth j0 cf ca2 ff ef IXH EX RX HW OW
  have GL := Lib.hid (go_set s t r x m ht)
  have cr := HG.out.reg t htg r hr2
  have ff := (HG.out.frozen (t * 4 + 2 + r)).2
  go_region
  go_wp2
  refine bodyPost_ret (v := .tuple #[.agg #[.int .i64 e.thread, .int .i64 e.kind, .int .i64 e.obj, .bool e.fail], .int .i64 0]) (by simp [results, Tryz.results51, go_sem, e0, e1, e2, e3]) rfl ⟨rfl, ?_, ?_⟩
  · obtain ⟨hi, hf, hn1, hrl, hvl, hml⟩ := HI.out
    have hg := HG.out
    have h2 := hg.setReg t r m htg hr2 (by rw [St.go_th _ _ ht]; exact hrl)
    rw [GL.out] at h2
    exact (h2.other4 (by omega) (by omega) _ _ _ _).drewN 1
  · exact ((OV.out.setCell (.inr (.inl rfl)) _ _).set4 (Nat.le_of_eq hR) _ _ _ _).drew
end
end Go.Proofs.YtljlaopjimkcmaaGreat

/- The contract of the document's Step: an add. -/
namespace Go.Proofs.YtljlaopjimkcmaaGreat
open Go.RowKit
section
variable {F : Nat} {w : World} {b tb : Nat} {a : Option Addr} {cap tcap : Nat} {s : St}

set_option maxRecDepth 100000 in
set_option maxHeartbeats 8000000 in
theorem refStep_4 (h : RefAt w b tb a cap tcap s) (hth : ThreadsAt w a s.p.threads) (ok : s.Ok F) (t : Nat) (i : Ins) (hi : s.ins t = some i) (hm : s.may t = true) (hk1 : i.kind = 4) : Calls Tryz.prog 51 #[.pointer (some ⟨b, 0, none⟩), .int .i64 t] w fun e w' => e = .returned (stepV (s.step t)) ∧ RefAt w' b tb a cap tcap (s.step t).2.2 ∧ Only2 b tb w w' := by
  obtain ⟨k, hkk, ht⟩ := St.ins_nat hi
  obtain rfl : t = k := by omega
  have hst : s.step t = (0, s.ev t i, s.do_ t i) := by
    unfold St.step
    rw [if_pos (by unfold St.has; omega), hi]
    simp only [hm]
    rfl
  have hn : s.next t = some (s.ev t i) := by unfold St.next; rw [hi]; rfl
  rw [hst, stepV_ok]
  dsimp only
  obtain ⟨o1, o2, o3, o4, o5, o6⟩ := ok.obj hi
  have hx0 : 0 ≤ i.x := by
    have := (ok.ins_right hi).1
    unfold rightIns at this
    repeat' split at this
    all_goals first | (simp only [decide_eq_true_eq] at this; omega) | (cases this)
  obtain ⟨_, hfu, hcode⟩ := St.ins_has hi
  simp only [Int.toNat_natCast] at hfu hcode
  have h4 := ok.len4
  have hln := ok.len
  have hrl : (s.th t).r.length = 2 := (ok.thr _ (St.th_mem ht)).1
  have hvl := ok.vl
  have hml := ok.ml
  obtain ⟨f, hf⟩ : ∃ f, (s.th t).fuel = f + 1 := ⟨(s.th t).fuel - 1, by omega⟩
  have hf8 : f ≤ 1000 := by have := (ok.thr _ (St.th_mem ht)).2.2; have := ok.f8; omega
  have h8 := ok.code8 t ht
  obtain ⟨hat, hic⟩ := List.getElem?_eq_some_iff.1 hcode
  obtain ⟨n, hn1⟩ : ∃ n, (s.th t).at_ = n := ⟨_, rfl⟩
  have hkp : t < s.p.threads.length := by omega
  have hcd : s.code t = s.p.threads[t] := getD_lt _ hkp
  obtain ⟨ab, ao, rfl, hc⟩ := hth.2 (by intro e; simp [e] at hkp)
  obtain ⟨c, ccap, c0, c1, _⟩ := hc t hkp
  rw [← hcd] at c0 c1
  obtain ⟨cb, co, rfl, hcc⟩ := c1.2 (by intro e; simp [e] at hat)
  obtain ⟨i0, i1, i2, i3⟩ := hcc _ hat
  rw [hic] at i0 i1 i2 i3
  rw [hn1] at i0 i1 i2 i3 hat
  have p1 := h.prog.2
  have q0 : decide ((t : Int) < 0) = false := by simp
  have q1 : decide ((s.ts.length : Int) ≤ t) = false := by simp; omega
  have q2 : decide (s.ts.length ≤ t) = false := by simp; omega
  obtain ⟨hb1, hb2⟩ := h.lt
  have HB := Lib.hid (h.later (below_alloc1 w (.cells #[.int .i64 0, .int .i64 0, .int .i64 0, .bool false] 51)))
  have HTH := Lib.hid (hth.later (below_alloc1 w (.cells #[.int .i64 0, .int .i64 0, .int .i64 0, .bool false] 51)))
  have OK := Lib.hid ok
  have HM := Lib.hid hm
  obtain ⟨kd, r, x, m⟩ := i
  dsimp only at *
  obtain ⟨r, rfl⟩ : ∃ y : Nat, r = y := ⟨r.toNat, by omega⟩
  obtain ⟨x, rfl⟩ : ∃ y : Nat, x = y := ⟨x.toNat, by omega⟩
  subst hk1
  have hr2 : r < 2 := by omega
  clear o1 o2 o3
  obtain ⟨e, he⟩ : ∃ e, e = s.ev t ⟨4, r, x, m⟩ := ⟨_, rfl⟩
  rw [← he] at hn ⊢
  have HE := Lib.hid he
  have HN := Lib.hid hn
  have HI := Lib.hid (And.intro hi (And.intro hf (And.intro hn1 (And.intro hrl (And.intro hvl hml)))))
  have HC := Lib.hid (And.intro c0 (And.intro i0 (And.intro i1 (And.intro i2 i3))))
  have h8n : n < 8 := by omega
  have hatn : n < (s.code t).length := by omega
  clear hst h hth ok hi hn he hkk hm hfu hcode hc c1 hcc hic hcd hln hrl hvl hml hf hn1 o6 c0 i0 i1 i2 i3
  try clear hat
  generalize (s.code t).length = ln at *
  go_enter Tryz.func51, Tryz.ntmps51
  go_wp2_with fail
  refine (refNext_any HB.out HTH.out OK.out t).mono ?_
  rw [HN.out, evR_some]
  rintro r9 w1 ⟨rfl, hb3⟩
  have hz : w.heap.size < w1.heap.size := by have := hb3.size; simp at this; omega
  have RX1 : Hid (EvBox0 w1 w.heap.size) := (hb3.block _ (by simp)).trans (heap_alloc_new w _)
  have H1 := Lib.hid ((HB.out.later hb3).later (below_alloc1 w1 (.cells #[.int .i64 e.thread, .int .i64 e.kind, .int .i64 e.obj, .bool e.fail] 51)))
  have T1 := Lib.hid ((HTH.out.later hb3).later (below_alloc1 w1 (.cells #[.int .i64 e.thread, .int .i64 e.kind, .int .i64 e.obj, .bool e.fail] 51)))
  have B1 : Hid (Below w.heap.size w w1) := (below_alloc1 w _).trans (hb3.mono (by simp))
  clear hb3 p1 HB HTH
  go_wp2_with fail
  refine (refEnabled_any H1.out T1.out OK.out t).mono ?_
  rw [HM.out]
  rintro r9 w2 ⟨rfl, hb4⟩
  have EX2 : Hid (w2.heap[w1.heap.size]? = some (.cells #[.int .i64 e.thread, .int .i64 e.kind, .int .i64 e.obj, .bool e.fail] 51 (0, 0))) := (hb4.block _ (by simp)).trans (heap_alloc_new w1 _)
  have B2 : Hid (Below w1.heap.size w1 w2) := (below_alloc1 w1 _).trans (hb4.mono (by simp))
  have RX2 : Hid (EvBox0 w2 w.heap.size) := (B2.out.block _ hz).trans RX1.out
  have H2 := Lib.hid (H1.out.later hb4)
  have W2 : Hid (Below w.heap.size w w2) := B1.out.trans (B2.out.mono (by omega))
  have hz2 : w1.heap.size < w2.heap.size := (Array.getElem?_eq_some_iff.1 EX2.out).1
  have hz3 : w.heap.size < w2.heap.size := by omega
  obtain ⟨p0, p1⟩ := H2.out.prog
  have ca := H2.out.at_ t ht
  rw [HI.out.2.2.1] at ca
  have d0 := cell_later W2.out HC.out.1
  have d1 := cell_later W2.out HC.out.2.1
  have d2 := cell_later W2.out HC.out.2.2.1
  have d3 := cell_later W2.out HC.out.2.2.2.1
  have d4 := cell_later W2.out HC.out.2.2.2.2
  have z0 := cell_block d0
  have z1 := cell_block d1
  dsimp only at z0 z1
  have ltb : tb < w2.heap.size := by omega
  have lb : b < w2.heap.size := by omega
  clear hb4 H1 T1 B1 B2 RX1 HC
  go_wp2
  go_region
  generalize hW : (w2.alloc (.cells #[.int .i64 4, .int .i64 r, .int .i64 x, .int .i64 m] 60)).drew = W at *
  have hbW : Below w2.heap.size w2 W := by rw [← hW]; exact ((Below.refl _ _).alloc (Nat.le_refl _) _).drew
  have IX : W.heap[w2.heap.size]? = some (.cells #[.int .i64 4, .int .i64 r, .int .i64 x, .int .i64 m] 60 (0, 0)) := by rw [← hW]; exact heap_alloc_new w2 _
  have HW := Lib.hid (H2.out.later hbW)
  have EX := Lib.hid ((hbW.block _ hz2).trans EX2.out)
  have RX : Hid (EvBox0 W w.heap.size) := (hbW.block _ hz3).trans RX2.out
  have OW : Hid (Only2 b tb w W) := .of_below (W2.out.trans (hbW.mono W2.out.size))
  have cf := HW.out.fuel t ht
  rw [HI.out.2.1, Int.natCast_add] at cf
  have ca2 := HW.out.at_ t ht
  rw [HI.out.2.2.1] at ca2
  have ff := fun o => (HW.out.frozen o).2
  have j0 := (ins_cells IX).1
  have IXH := Lib.hid IX
  have nb : b ≠ tb := HW.out.2.1
  generalize hI : w2.heap.size = I at *
  generalize hE : w1.heap.size = E at *
  generalize hR : w.heap.size = R at *
  have n1 : ¬ tb = I := by omega
  have n2 : ¬ I = tb := by omega
  have n3 : ¬ tb = E := by omega
  have n4 : ¬ E = tb := by omega
  have n5 : ¬ tb = R := by omega
  have n6 : ¬ R = tb := by omega
  have n7 : ¬ b = I := by omega
  have n8 : ¬ I = b := by omega
  have n9 : ¬ b = E := by omega
  have n10 : ¬ E = b := by omega
  have n11 : ¬ b = R := by omega
  have n12 : ¬ R = b := by omega
  have n13 : ¬ tb = b := fun h => nb h.symm
  have n14 : ¬ b = tb := nb
  have n15 : ¬ R = E := by omega
  have n16 : ¬ E = R := by omega
  clear hW hbW H2 EX2 RX2 W2 d0 d1 d2 d3 d4 ca p0 p1 IX
  go_wp2
  generalize hV : (W.setCell ⟨tb, t * 4 + 1, none⟩ (.int .i64 f)).setCell ⟨tb, t * 4, none⟩ (.int .i64 (n + 1)) = V at *
  have hoth : ∀ k, k ≠ tb → V.heap[k]? = W.heap[k]? := fun k hk => by rw [← hV, Below.heap_setCell _ _ _ _ hk, Below.heap_setCell _ _ _ _ hk]
  have HG : Hid (RefAt V b tb (some ⟨ab, ao, none⟩) cap tcap (s.go t)) := by rw [← hV]; exact HW.out.go t f n ht HI.out.2.1 HI.out.2.2.1
  have OV : Hid (Only2 b tb w V) := by rw [← hV]; exact (OW.out.setCell (.inr (.inl rfl)) _ _).setCell (.inr (.inl rfl)) _ _
  obtain ⟨j0v, j1v, j2v, j3v⟩ := ins_cells ((hoth I (fun e => n2 e)).trans IXH.out)
  obtain ⟨x0, x1, x2, x3⟩ := ev_cells ((hoth E (fun e => n4 e)).trans EX.out)
  obtain ⟨e0, e1, e2, e3, ef⟩ := EvBox0.cells ((hoth R (fun e => n6 e)).trans RX.out)
  have f0 := ef 0
  have f1 := ef 1
  have f2 := ef 2
  have f3 := ef 3
  have htg : t < (s.go t).ts.length := by rw [St.go, St.put_len]; exact ht
  clear hV hoth j0 cf ca2 ff ef IXH EX RX HW OW
  have gl := go_add s t r x m ht
  have cr := HG.out.reg t htg r hr2
  have ff := (HG.out.frozen (t * 4 + 2 + r)).2
  generalize ((s.go t).th t).r.getD r 0 = vv at *
  have ew : wrap64 (vv + m) = IntKind.i64.wrap (vv + m) := by rw [IntKind.wrap_i64]; unfold wrap64; first | rfl | omega
  rw [← ew] at gl
  have GL := Lib.hid gl
  clear gl ew
  go_region
  go_wp2
  refine bodyPost_ret (v := .tuple #[.agg #[.int .i64 e.thread, .int .i64 e.kind, .int .i64 e.obj, .bool e.fail], .int .i64 0]) (by simp [results, Tryz.results51, go_sem, e0, e1, e2, e3]) rfl ⟨rfl, ?_, ?_⟩
  · obtain ⟨hi, hf, hn1, hrl, hvl, hml⟩ := HI.out
    have hg := HG.out
    have h2 := hg.setReg t r (wrap64 (vv + m)) htg hr2 (by rw [St.go_th _ _ ht]; exact hrl)
    rw [GL.out] at h2
    exact (h2.other4 (by omega) (by omega) _ _ _ _).drewN 1
  · exact ((OV.out.setCell (.inr (.inl rfl)) _ _).set4 (Nat.le_of_eq hR) _ _ _ _).drew
end
end Go.Proofs.YtljlaopjimkcmaaGreat
