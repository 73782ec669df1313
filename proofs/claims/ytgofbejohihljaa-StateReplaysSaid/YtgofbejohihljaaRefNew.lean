/- The contract of the document's New. -/
import Derived.Test.YtgofbejohihljaaRefState
import Derived.Test.YtgofbejohihljaaRefRight
namespace Go.Proofs.Ytgofbejohihljaa
open Go.RowKit

def thrs (F k : Nat) : List Thr := List.replicate k ⟨0, F, [0, 0]⟩
theorem thrs_len (F k : Nat) : (thrs F k).length = k := by simp [thrs]
theorem thrs_succ (F k : Nat) : thrs F (k + 1) = thrs F k ++ [⟨0, F, [0, 0]⟩] := by simp [thrs, List.replicate_succ']

def boxA (p : Pg) (a : Option Addr) (cap : Nat) (tv : Value) : Array Value :=
  #[.int .i64 p.vars, .int .i64 p.mutexes, .slice a p.threads.length cap, tv, .int .i64 0, .int .i64 0, .int .i64 0, .int .i64 0, .int .i64 (-1), .int .i64 (-1)]

theorem wp_appendThr {w : World} {ops : Array Oper} {rest : List Oper} {o : Oper} {a : Act} {Q : Exit → Act → World → Prop} (hgd : o.guard = none) (s x : Operand)
    (ho : o.op = .call { callee := .builtin .append, args := #[s, x], argTypes := #[47, 47] }) (B : Nat) (v : Value) (l : List Thr) (hs : a.eval s = v) (hown : w.ownsRow B 78 4 v l.length (thrCells l))
    (ad : Addr) (hx : a.eval x = .slice (some ad) 1 1) (y : Thr) (hnews : ∀ j u, (thrCells [y])[j]? = some u → w.cell? (ad.add j) = some u)
    (hlen : l.length ≤ 1000000) (hB : B ≤ w.heap.size)
    (h : ∀ v' w', w'.ownsRow B 78 4 v' (l.length + 1) (thrCells (l ++ [y])) → w.grownBy w' v.ownBlock → wpList Try.prog ops Q rest (a.put o.dst v') w') : wpList Try.prog ops Q (o :: rest) a w := by
  have hinfo : (Try.prog.info? 78).map (fun i => (i.zero, i.size, i.bytes)) = some (some (.agg #[.int .i64 0, .int .i64 0, .int .i64 0, .int .i64 0]), 4, 32) := by kernel_rfl
  obtain ⟨t, hi, hzz⟩ := Option.map_eq_some_iff.1 hinfo
  simp only [Prod.mk.injEq] at hzz
  obtain ⟨hz, hsz, hby⟩ := hzz
  refine wpList_append_own w hgd s x 47 ho B 78 t (.agg #[.int .i64 0, .int .i64 0, .int .i64 0, .int .i64 0]) 4 32 Try.underlying47 hi hz hsz hby rfl (by decide) v l.length (thrCells l) hs hown ad 1 1 (thrCells [y]) hx rfl hnews
    (thrCells_one _) (by unfold maxLen; omega) (by omega) hB ?_
  intro v' w' h1 h2 _
  refine h v' w' ?_ h2
  rw [thrCells_append]
  exact h1

theorem thr_new (w : World) (F : Nat) (t : TypeId) (g : Nat) (hg : g = w.heap.size) : ∀ j u, (thrCells [⟨0, F, [0, 0]⟩])[j]? = some u → (w.alloc (.cells #[.int .i64 0, .int .i64 F, .int .i64 0, .int .i64 0] t)).cell? (Addr.add ⟨g, 0, none⟩ j) = some u := by
  subst hg
  intro j u hj
  have e : Addr.add ⟨w.heap.size, 0, none⟩ j = ⟨w.heap.size, j, none⟩ := by
    unfold Addr.add
    split
    · rename_i h0; subst h0; rfl
    · simp
  rw [e, World.cell?_alloc_new]
  simpa [thrCells, thrCell] using hj

theorem refnew_mid {p : Pg} {a : Option Addr} {cap : Nat} {wr w7 : World} {b k : Nat} {tv v7 : Value} {o : Obj} {xs ys : List Value} (hbox : wr.heap[b]? = some (.cells (boxA p a cap tv) 51 (0, 0))) (hown : wr.ownsRow (b + 1) 78 4 tv k xs)
    (h7 : w7.ownsRow (b + 1) 78 4 v7 (k + 1) ys) (hg : (wr.alloc o).grownBy w7 tv.ownBlock) :
    ∃ g7 cap7, v7 = .slice (some ⟨g7, 0, none⟩) (k + 1) cap7 ∧ w7.cell? ⟨b, 3, none⟩ = some tv ∧ w7.frozen? ⟨b, 3, none⟩ = false ∧
      Hid ((w7.setCell ⟨b, 3, none⟩ (.slice (some ⟨g7, 0, none⟩) (k + 1) cap7)).heap[b]? = some (.cells (boxA p a cap (.slice (some ⟨g7, 0, none⟩) (k + 1) cap7)) 51 (0, 0))) ∧
      Hid ((w7.setCell ⟨b, 3, none⟩ (.slice (some ⟨g7, 0, none⟩) (k + 1) cap7)).ownsRow (b + 1) 78 4 (.slice (some ⟨g7, 0, none⟩) (k + 1) cap7) (k + 1) ys) ∧ Below b wr w7 := by
  have hlt : b < wr.heap.size := (Array.getElem?_eq_some_iff.1 hbox).1
  have own : ∀ j, tv.ownBlock = some j → b + 1 ≤ j := fun j hj => (World.ownsRow.lt hown j hj).1
  have hb7 : w7.heap[b]? = some (.cells (boxA p a cap tv) 51 (0, 0)) := by
    rw [hg.block b (by simp; omega) (fun e => by have := own _ e.symm; omega), Below.heap_alloc _ _ _ hlt]
    exact hbox
  obtain ⟨r1, ⟨_, r3⟩ | ⟨g, cap', cur, rfl, r4, r5, r6⟩⟩ := h7
  · exact absurd r3 (by omega)
  · refine ⟨g, cap', rfl, by simp [World.cell?, hb7, boxA], by simp [World.frozen?, hb7], ?_, ?_, ?_⟩
    · show _ = _
      rw [heap_setCell_same w7 b 3 _ _ _ hb7]
      rfl
    · exact ⟨r1, .inr ⟨g, cap', cur, rfl, r4, (Below.heap_setCell _ _ _ _ (by show g ≠ b; omega)).trans r5, r6⟩⟩
    · exact ((Below.refl _ _).alloc (by omega) o).grown hg (by simp; omega) (fun j hj => by have := own j hj; omega)

theorem new_eq (p : Pg) (F : Nat) : (St.new p F).ts = thrs F p.threads.length := by
  unfold St.new thrs
  simp [List.map_const']

set_option maxRecDepth 100000 in
set_option maxHeartbeats 4000000 in
theorem refNew_no (p : Pg) (a : Option Addr) (cap : Nat) (fuel : Int) (w : World) (hp : ThreadsAt w a p.threads) (hr : ¬ (rightPg p = true ∧ 0 ≤ fuel ∧ fuel ≤ 8)) :
    Calls Try.prog 14 #[.agg #[.int .i64 p.vars, .int .i64 p.mutexes, .slice a p.threads.length cap], .int .i64 fuel] w fun r w' => r = .returned (.pointer none) ∧ Below w.heap.size w w' := by
  have HP := Lib.hid hp
  have HR := Lib.hid hr
  clear hr hp
  go_enter Try.func14, Try.ntmps14
  go_wp2_with fail
  refine (refRight_any p a cap _ (HP.out.later (below_alloc1 w _))).mono ?_
  rintro r w1 ⟨rfl, hb⟩
  have hb1 : Below w.heap.size w w1 := (below_alloc1 w _).trans (hb.mono (by simp))
  clear hb
  cases hr : rightPg p
  · clear hr
    go_wp2
    go_ret
    exact ⟨rfl, hb1⟩
  · by_cases h0 : fuel < 0
    · have q0 : decide (fuel < 0) = true := by simpa using h0
      clear hr
      go_wp2
      go_ret
      exact ⟨rfl, hb1⟩
    · have q0 : decide (fuel < 0) = false := by simpa using h0
      have h8 : 8 < fuel := by
        rcases Decidable.em (fuel ≤ 8) with h | h
        · exact absurd ⟨hr, by omega, h⟩ HR.out
        · omega
      have q8 : decide (8 < fuel) = true := by simpa using h8
      clear hr
      go_wp2
      go_ret
      exact ⟨rfl, hb1⟩

set_option maxRecDepth 100000 in
set_option maxHeartbeats 4000000 in
theorem refNew_yes (p : Pg) (a : Option Addr) (cap F : Nat) (w : World) (hp : ThreadsAt w a p.threads) (hr : rightPg p = true) (hF : F ≤ 8) :
    Calls Try.prog 14 #[.agg #[.int .i64 p.vars, .int .i64 p.mutexes, .slice a p.threads.length cap], .int .i64 F] w
      fun r w' => ∃ b tb tcap, r = .returned (.pointer (some ⟨b, 0, none⟩)) ∧ w.heap.size ≤ b ∧ w.heap.size ≤ tb ∧ RefAt w' b tb a cap tcap (St.new p F) ∧ Below w.heap.size w w' := by
  have hn : 1 ≤ p.threads.length ∧ p.threads.length ≤ 4 := by
    unfold rightPg at hr
    rw [Bool.and_eq_true, decide_eq_true_eq] at hr
    omega
  obtain ⟨hn1, hn4⟩ := hn
  have HR := Lib.hid hr
  have HP := Lib.hid hp
  have q0 : decide ((F : Int) < 0) = false := by simp
  have q8 : decide (8 < (F : Int)) = false := by simp; omega
  clear hr hp
  go_enter Try.func14, Try.ntmps14
  go_wp2_with fail
  refine (refRight_any p a cap _ (HP.out.later (below_alloc1 w _))).mono ?_
  rw [HR.out]
  rintro r w1 ⟨rfl, hb⟩
  have hb1 : Below w.heap.size w w1 := (below_alloc1 w _).trans (hb.mono (by simp))
  have hc : ∀ o, w1.cell? ⟨w.heap.size, o, none⟩ = (w.alloc (.cells #[.int .i64 p.vars, .int .i64 p.mutexes, .slice a p.threads.length cap] 24)).cell? ⟨w.heap.size, o, none⟩ := fun o => hb.cell (p := ⟨w.heap.size, o, none⟩) (by simp)
  have hz : w.heap.size < w1.heap.size := by have := hb.size; simp at this; omega
  have HPX : Hid (w1.heap[w.heap.size]? = some (.cells #[.int .i64 p.vars, .int .i64 p.mutexes, .slice a p.threads.length cap] 24 (0, 0))) := (hb.block _ (by simp)).trans (heap_alloc_new w _)
  clear hb
  go_wp2
  clear hc
  go_loopw [6] (fun i wr => ∃ (k : Nat) (tv : Value), k ≤ p.threads.length ∧ i = .int .i64 k ∧ wr.heap[w1.heap.size]? = some (.cells (boxA p a cap tv) 51 (0, 0)) ∧ wr.ownsRow (w1.heap.size + 1) 78 4 tv (thrs F k).length (thrCells (thrs F k)) ∧ Below w1.heap.size w1 wr) (fun i _ => p.threads.length - (intOf i).toNat)
  case atStart => exact ⟨0, .slice none 0 0, Nat.zero_le _, rfl, heap_alloc_new w1 _, World.ownsRow_nil _ _ _ _, below_alloc1 _ _⟩
  case round =>
    obtain ⟨k, tv, hk, rfl, hbox, hown, hbr⟩ := hrel
    have c2 : wr.cell? ⟨w.heap.size, 2, none⟩ = some (.slice a p.threads.length cap) := by
      have : wr.heap[w.heap.size]? = some (.cells #[.int .i64 p.vars, .int .i64 p.mutexes, .slice a p.threads.length cap] 24 (0, 0)) := (hbr.block _ hz).trans HPX.out
      simp [World.cell?, this]
    have c3 : wr.cell? ⟨w1.heap.size, 3, none⟩ = some tv := by simp [World.cell?, hbox, boxA]
    have hbl := (Array.getElem?_eq_some_iff.1 hbox).1
    have hlk := thrs_len F k
    have HBOX := Lib.hid hbox
    have HOWN := Lib.hid hown
    have HLK := Lib.hid hlk
    clear hbox hown hlk
    by_cases hlt : k < p.threads.length
    · go_wp2_with (at_builtin; refine wp_appendThr rfl (.tmp 33) (.tmp 36) rfl (w1.heap.size + 1) _ (thrs F k) rfl (World.ownsRow.alloc HOWN.out _) ⟨wr.heap.size, 0, none⟩ rfl ⟨0, F, [0, 0]⟩ (thr_new wr F _ _ rfl) (by rw [HLK.out]; omega) (by simp; omega) ?_; intro v7 w7 hown7 hg7; obtain ⟨g7, cap7, rfl, d3, f3, HB7, HO7, hbl7⟩ := refnew_mid HBOX.out HOWN.out hown7 hg7; clear hown7 hg7)
      have hb7 : Below w1.heap.size w1 (w7.setCell ⟨w1.heap.size, 3, none⟩ (.slice (some ⟨g7, 0, none⟩) ((thrs F k).length + 1) cap7)) := (hbr.trans hbl7).setCell (p := ⟨w1.heap.size, 3, none⟩) (Nat.le_refl _) _
      go_roundw
      case rel => exact ⟨k + 1, _, by omega, by go_num, HB7.out, by rw [thrs_succ, List.length_append]; exact HO7.out, hb7⟩
      case measure => simp [intOf]; omega
    · obtain rfl : k = p.threads.length := by omega
      go_wp2
      go_ret
      have hown := HOWN.out
      rw [HLK.out] at hown
      obtain ⟨r1, ⟨_, r3⟩ | ⟨tb, tcap, cur, e, r4, r5, _, _, _, r6⟩⟩ := hown
      · exact absurd r3 (by omega)
      · subst e
        refine ⟨_, tb, tcap, rfl, by omega, by omega, ⟨?_, by omega, cur, r5, ?_⟩, hb1.trans (hbr.mono (by omega))⟩
        · rw [HBOX.out]
          have hl : (St.new p F).ts.length = p.threads.length := by rw [new_eq, thrs_len]
          unfold refA boxA
          rw [hl]
          rfl
        · rw [new_eq, thrs_len]
          exact r6

end Go.Proofs.Ytgofbejohihljaa
