/- ClockTells: of any events clocks, numbers, and which ones happen before which, are the document's. -/
import Derived.Test.YthdfmndompfgaaaWake4
import Derived.Test.YthdfmndompfgaaaRefBefore
namespace Go.Proofs.Ythdfmndompfgaaa
open Go.RowKit

/-- The clock of a thread's last event among the first k. -/
def lastP (l : List Ev) (t : Int) : Nat → Nat → Nat
  | 0 => fun _ => 0
  | k + 1 => if (evI l k).thread = t then (fun u : Nat => clk l k u) else lastP l t k
theorem lastP_is {l : List Ev} {t : Int} (n : Nat) : (∃ k, k < n ∧ (evI l k).thread = t ∧ (∀ j, k < j → j < n → (evI l j).thread ≠ t) ∧ lastP l t n = fun u : Nat => clk l k u) ∨ ((∀ k, k < n → (evI l k).thread ≠ t) ∧ lastP l t n = fun _ => 0) := by
  induction n with
  | zero => exact .inr ⟨fun k h => absurd h (by omega), rfl⟩
  | succ n ih =>
    unfold lastP
    by_cases h : (evI l n).thread = t
    · rw [if_pos h]
      exact .inl ⟨n, by omega, h, fun j h1 h2 => by omega, rfl⟩
    · rw [if_neg h]
      rcases ih with ⟨k, h1, h2, h3, h4⟩ | ⟨h1, h2⟩
      · refine .inl ⟨k, by omega, h2, fun j hj hjn => ?_, h4⟩
        by_cases e : j = n
        · subst e; exact h
        · exact h3 j hj (by omega)
      · refine .inr ⟨fun k hk => ?_, h2⟩
        by_cases e : k = n
        · subst e; exact h
        · exact h1 k (by omega)
theorem LastIs.eq {l : List Ev} {t : Int} {c : Nat → Nat} (h : LastIs l t c) (hr : rightL l = true) : c = lastP l t l.length := by
  rcases lastP_is (l := l) (t := t) l.length with ⟨k, h1, h2, h3, h4⟩ | ⟨h1, h2⟩
  · rcases h with ⟨k', _, g1, g2, g3, g4⟩ | ⟨g1, _⟩
    · have : k = k' := by
        rcases Nat.lt_trichotomy k k' with e | e | e
        · exact absurd g2 (h3 k' e g1)
        · exact e
        · exact absurd h2 (g3 k e h1)
      rw [g4, h4, this]
    · exact absurd h2 (g1 hr k h1)
  · rcases h with ⟨k', _, g1, g2, _⟩ | ⟨_, g2⟩
    · exact absurd g2 (h1 k' g1)
    · rw [g2, h2]
theorem LastIs.zero {l : List Ev} {t : Int} {c : Nat → Nat} (h : LastIs l t c) (hr : rightL l = false) : c = fun _ => 0 := by
  rcases h with ⟨k', g, _⟩ | ⟨_, g2⟩
  · rw [hr] at g; cases g
  · exact g2
/-- What Last answers is what the loop has found at its end. -/
def lastE (l : List Ev) (t : Int) : Nat → Nat := if rightL l then lastP l t l.length else fun _ => 0
theorem LastIs.isE {l : List Ev} {t : Int} {c : Nat → Nat} (h : LastIs l t c) : c = lastE l t := by
  unfold lastE
  cases hr : rightL l
  · rw [h.zero hr]; rfl
  · rw [h.eq hr]; rfl
theorem run_equal_self (c : Nat → Nat) (w : World) : (Op.equalIn 10000 26 (.agg #[.int .i64 (c 0), .int .i64 (c 1), .int .i64 (c 2), .int .i64 (c 3)]) (.agg #[.int .i64 (c 0), .int .i64 (c 1), .int .i64 (c 2), .int .i64 (c 3)])).run Try.prog w = .ok true w := by
  have h := run_equal_four (fun t => (c t : Int)) (fun t => (c t : Int)) w
  simpa using h

set_option maxRecDepth 100000 in
set_option maxHeartbeats 4000000 in
theorem clockTells_any (a : Option Addr) (l : List Ev) (cap : Nat) (i k t : Int) (w : World) (hl : EvsAt w a l) (hcap : l.length ≤ cap) :
    Calls Try.prog 3 #[.slice a l.length cap, .int .i64 i, .int .i64 k, .int .i64 t] w fun r w' => r = .returned (.bool true) ∧ Below w.heap.size w w' := by
  have hmx := hl.1
  unfold maxLen at hmx
  have HL := Lib.hid hl
  clear hl
  by_cases hlen : l.length ≤ 40
  case neg =>
    have hq : 40 < l.length := by omega
    clear hlen
    go_enter Try.func3, Try.ntmps3
    go_wp2_with fail
    refine (awake_any w).mono ?_
    rintro r w1 ⟨rfl, hb1⟩
    go_wp2_with fail
    refine (awake_any w1).mono ?_
    rintro r w2 ⟨rfl, hb2⟩
    go_wp2
    go_ret
    exact ⟨rfl, hb1.trans (hb2.mono hb1.size)⟩
  have hq40 : decide ((40 : Int) < (l.length : Int)) = false := by simp; omega
  have hq41 : decide (40 < l.length) = false := by simp; omega
  go_enter Try.func3, Try.ntmps3
  go_wp2_with fail
  refine (awake_any w).mono ?_
  rintro r w1 ⟨rfl, hb1⟩
  go_wp2_with fail
  refine (clocks_any a cap l w1 (HL.out.later hb1) (by omega)).mono ?_
  rintro r w2 ⟨a2, cap2, rfl, hrow2, hb2⟩
  have hb3 := hb1.trans (hb2.mono hb1.size)
  clear hb1 hb2
  go_wp2_with fail
  refine (refClocks_any a cap l w2 (HL.out.later hb3) (by omega)).mono ?_
  rintro r w3 ⟨a3, cap3, rfl, hrow3, hb4⟩
  have HR2 := Lib.hid (hrow2.later hb4)
  have HR3 := Lib.hid hrow3
  have hb5 := hb3.trans (hb4.mono hb3.size)
  clear hb3 hb4 hrow2 hrow3
  have hcl : (cks l).length ≤ l.length := by
    cases hr : rightL l
    · rw [cks_wrong hr]; simp
    · exact Nat.le_of_eq (cks_len hr)
  have HMB : Hid (MidAt (w3.alloc (.cells #[.int .i64 0, .int .i64 0, .int .i64 0, .int .i64 0] 26)) w3.heap.size 26 (ckCell (lastP l t 0))) := heap_alloc_new _ _
  have hba := below_alloc1 w3 (.cells #[.int .i64 0, .int .i64 0, .int .i64 0, .int .i64 0] 26)
  have hqq : (((cks l).length : Int) != (cks l).length) = false := by simp
  go_wp2
  clear hqq hq40 hq41
  go_loopw [33] (fun i wr => ∃ m : Nat, m ≤ (cks l).length ∧ i = .int .i64 m ∧ Hid (MidAt wr w3.heap.size 26 (ckCell (lastP l t m)) ∧ Below w3.heap.size w3 wr)) (fun i _ => (cks l).length - (intOf i).toNat)
  case atStart => exact ⟨0, Nat.zero_le _, rfl, HMB.out, hba⟩
  case round =>
    clear HMB hba
    obtain ⟨m, hm, rfl, HW⟩ := hrel
    by_cases hlt : m < (cks l).length
    · have hml : m < l.length := by omega
      have hr : rightL l = true := by
        cases h : rightL l
        · have h0 : (cks l).length = 0 := by rw [cks_wrong h]; rfl
          omega
        · rfl
      have hbw := HW.out.2
      obtain ⟨b2, o2, rfl, hc2⟩ := HR2.out.2 (by intro e; simp [e] at hlt)
      obtain ⟨b3, o3, rfl, hc3⟩ := HR3.out.2 (by intro e; simp [e] at hlt)
      have hg := cks_get hr hml
      have hk2 : ∀ j u, (ckCell (fun u : Nat => clk l m u))[j]? = some u → wr.cell? ⟨b2, o2 + m * 4 + j, none⟩ = some u := fun j u hj => cell_later hbw (hc2 m hlt j u (by rw [hg]; exact hj))
      have hk3 : ∀ j u, (ckCell (fun u : Nat => clk l m u))[j]? = some u → wr.cell? ⟨b3, o3 + m * 4 + j, none⟩ = some u := fun j u hj => cell_later hbw (hc3 m hlt j u (by rw [hg]; exact hj))
      obtain ⟨c, hc⟩ : ∃ c : Nat → Nat, c = fun u : Nat => clk l m u := ⟨_, rfl⟩
      rw [← hc] at hk2 hk3
      have x0 := hk2 0 _ rfl
      have x1 := hk2 1 _ rfl
      have x2 := hk2 2 _ rfl
      have x3 := hk2 3 _ rfl
      have y0 := hk3 0 _ rfl
      have y1 := hk3 1 _ rfl
      have y2 := hk3 2 _ rfl
      have y3 := hk3 3 _ rfl
      rw [Nat.add_zero] at x0 y0
      have heq := run_equal_self c
      obtain ⟨b, o, rfl, t0, _⟩ := HL.out.one hml
      have d0 := cell_later (hb5.trans (hbw.mono hb5.size)) t0
      have HC := Lib.hid hc
      clear hk2 hk3 hc2 hc3 hc hg t0
      by_cases he : (evI l m).thread = t
      · have hq : ((evI l m).thread == t) = true := by simp [he]
        have HN : Hid (lastP l t (m + 1) = c) := by show _ = _; rw [HC.out]; unfold lastP; rw [if_pos he]
        clear he
        obtain ⟨z0, z1, z2, z3⟩ := MidAt.four HW.out.1
        have f0 := HW.out.1.frozen 0
        have f1 := HW.out.1.frozen 1
        have f2 := HW.out.1.frozen 2
        have f3 := HW.out.1.frozen 3
        go_wp2
        go_quiet (fail)
        go_wp2
        have HF : Hid (MidAt (((((wr.drewN nq).setCell ⟨w3.heap.size, 0, none⟩ (.int .i64 (c 0))).setCell ⟨w3.heap.size, 1, none⟩ (.int .i64 (c 1))).setCell ⟨w3.heap.size, 2, none⟩ (.int .i64 (c 2))).setCell ⟨w3.heap.size, 3, none⟩ (.int .i64 (c 3))) w3.heap.size 26 (ckCell (lastP l t (m + 1)))) := by
          show MidAt _ _ _ _
          rw [HN.out]
          exact MidAt.set (MidAt.set (MidAt.set (MidAt.set (w := wr.drewN nq) HW.out.1 0 _) 1 _) 2 _) 3 _
        go_roundw
        case rel => exact ⟨m + 1, by omega, by go_num, HF.out, (((hbw.drewN.setCell (p := ⟨w3.heap.size, 0, none⟩) (Nat.le_refl _) _).setCell (p := ⟨w3.heap.size, 1, none⟩) (Nat.le_refl _) _).setCell (p := ⟨w3.heap.size, 2, none⟩) (Nat.le_refl _) _).setCell (p := ⟨w3.heap.size, 3, none⟩) (Nat.le_refl _) _⟩
        case measure => simp [intOf]; omega
      · have hq : ((evI l m).thread == t) = false := by simp [he]
        have HN : Hid (lastP l t (m + 1) = lastP l t m) := by show _ = _; rw [lastP, if_neg he]
        have HF : Hid (∀ n, MidAt (wr.drewN n) w3.heap.size 26 (ckCell (lastP l t (m + 1)))) := by intro n; rw [HN.out]; exact HW.out.1
        clear he
        go_wp2
        go_quiet (fail)
        go_wp2
        go_roundw
        case rel => exact ⟨m + 1, by omega, by go_num, HF.out _, hbw.drewN⟩
        case measure => simp [intOf]; omega
    · obtain rfl : m = (cks l).length := by omega
      have HE : Hid (lastP l t (cks l).length = lastE l t) := by
        show _ = _
        unfold lastE
        cases h : rightL l
        · rw [cks_wrong h]; rfl
        · rw [cks_len h]; rfl
      have HW2 : Hid (MidAt wr w3.heap.size 26 (ckCell (lastE l t)) ∧ Below w3.heap.size w3 wr) := ⟨by rw [← HE.out]; exact HW.out.1, HW.out.2⟩
      have hb6 := hb5.trans (HW2.out.2.mono hb5.size)
      have heq := run_equal_self (lastE l t)
      clear HW HE HR2 HR3
      obtain ⟨c, hc⟩ : ∃ c, lastE l t = c := ⟨_, rfl⟩
      have HC := Lib.hid hc
      rw [hc] at HW2 heq
      clear hc
      have HQ : Hid (∀ w', Below wr.heap.size wr w' → (w'.cell? ⟨w3.heap.size, 0, none⟩ = some (.int .i64 (c 0)) ∧ w'.cell? ⟨w3.heap.size, 1, none⟩ = some (.int .i64 (c 1)) ∧ w'.cell? ⟨w3.heap.size, 2, none⟩ = some (.int .i64 (c 2)) ∧ w'.cell? ⟨w3.heap.size, 3, none⟩ = some (.int .i64 (c 3))) ∧ EvsAt w' a l ∧ Below wr.heap.size wr w') := fun w' h =>
        ⟨MidAt.four (HW2.out.1.later h), HL.out.later (hb6.trans (h.mono hb6.size)), h⟩
      have hB9 : Below wr.heap.size wr wr.drew := (Below.refl _ _).drew
      obtain ⟨N, hN⟩ : ∃ N, numO l i = N := ⟨_, rfl⟩
      obtain ⟨B, hB⟩ : ∃ B, beforeO l i k = B := ⟨_, rfl⟩
      have HN1 : Hid (∀ w', EvsAt w' a l → Calls Try.prog 11 #[.slice a l.length cap, .int .i64 i] w' fun r w'' => r = .returned (.int .i64 (N : Int)) ∧ Below w'.heap.size w' w'') := fun w' h => by rw [← hN]; exact number_any a cap l i w' h (by omega) hcap
      have HN2 : Hid (∀ w', EvsAt w' a l → Calls Try.prog 12 #[.slice a l.length cap, .int .i64 i] w' fun r w'' => r = .returned (.int .i64 (N : Int)) ∧ Below w'.heap.size w' w'') := fun w' h => by rw [← hN]; exact refNumber_any a cap l i w' h (by omega)
      have HBB1 : Hid (∀ w', EvsAt w' a l → Calls Try.prog 13 #[.slice a l.length cap, .int .i64 i, .int .i64 k] w' fun r w'' => r = .returned (.bool B) ∧ Below w'.heap.size w' w'') := fun w' h => by rw [← hB]; exact before_any a cap l i k w' h (by omega) hcap
      have HBB2 : Hid (∀ w', EvsAt w' a l → Calls Try.prog 14 #[.slice a l.length cap, .int .i64 i, .int .i64 k] w' fun r w'' => r = .returned (.bool B) ∧ Below w'.heap.size w' w'') := fun w' h => by rw [← hB]; exact refBefore_any a cap l i k w' h (by omega)
      have HLT : Hid (∀ w', EvsAt w' a l → Calls Try.prog 15 #[.slice a l.length cap, .int .i64 t] w' fun r w'' => r = .returned (.agg #[.int .i64 (c 0), .int .i64 (c 1), .int .i64 (c 2), .int .i64 (c 3)]) ∧ Below w'.heap.size w' w'') := fun w' h =>
        (last_any a cap l t w' h (by omega)).mono fun r w'' ⟨c', h1, h2, h3⟩ => ⟨by rw [h1, h2.isE, HC.out], h3⟩
      have hNN : ((N : Int) == (N : Int)) = true := by simp
      have hNN2 : (N == N) = true := by simp
      have hBBq : (B == B) = true := by simp
      clear hN hB HW2 HL
      go_wp2_with fail
      go_region_held3 (fun w' => (w'.cell? ⟨w3.heap.size, 0, none⟩ = some (.int .i64 (c 0)) ∧ w'.cell? ⟨w3.heap.size, 1, none⟩ = some (.int .i64 (c 1)) ∧ w'.cell? ⟨w3.heap.size, 2, none⟩ = some (.int .i64 (c 2)) ∧ w'.cell? ⟨w3.heap.size, 3, none⟩ = some (.int .i64 (c 3))) ∧ EvsAt w' a l ∧ Below wr.heap.size wr w')
        (first | exact HQ.out _ hB9 | exact HQ.out _ hB10 | exact HQ.out _ hB11 | exact HQ.out _ hB12 | exact HQ.out _ hB13 | exact HQ.out _ hB14)
        (first
          | (go_at_call 11; ((with_reducible refine (HN1.out _ (HQ.out _ hB9).2.1).mono ?_); rintro r w10 ⟨rfl, hb10⟩; have hB10 := below_step hB9 hb10; clear hB9))
          | (go_at_call 12; ((with_reducible refine (HN2.out _ (HQ.out _ hB10).2.1).mono ?_); rintro r w11 ⟨rfl, hb11⟩; have hB11 := below_step hB10 hb11; clear hB10))
          | (go_at_call 13; ((with_reducible refine (HBB1.out _ (HQ.out _ hB11).2.1).mono ?_); rintro r w12 ⟨rfl, hb12⟩; have hB12 := below_step hB11 hb12; clear hB11))
          | (go_at_call 14; ((with_reducible refine (HBB2.out _ (HQ.out _ hB12).2.1).mono ?_); rintro r w13 ⟨rfl, hb13⟩; have hB13 := below_step hB12 hb13; clear hB12))
          | (go_at_call 15; ((with_reducible refine (HLT.out _ (HQ.out _ hB13).2.1).mono ?_); rintro r w14 ⟨rfl, hb14⟩; have hB14 := below_step hB13 hb14; clear hB13)))
      go_wp2
      go_ret
      exact ⟨rfl, hb6.trans (hB14.mono hb6.size)⟩

end Go.Proofs.Ythdfmndompfgaaa
