/- ClockRises: a thread's clocks rise, each has its own number, and a beginning's clocks are the clocks' beginning. -/
import Derived.Test.YtfefidmbkbigoaaRisesMem
import Derived.Deep.DeepCutAuto
namespace Go.Proofs.Ytfefidmbkbigoaa
open Go.RowKit

set_option maxRecDepth 100000 in
set_option maxHeartbeats 8000000 in
theorem clockRises_any (a : Option Addr) (l : List Ev) (cap : Nat) (cut : Int) (w : World) (hl : EvsAt w a l) (hcap : l.length ≤ cap) (hna : a = none → cap = 0) :
    Calls Try.prog 4 #[.slice a l.length cap, .int .i64 cut] w fun r w' => r = .returned (.bool true) ∧ Below w.heap.size w w' := by
  have hmx := hl.1
  unfold maxLen at hmx
  have HL := Lib.hid hl
  clear hl
  by_cases hlen : l.length ≤ 40
  case neg =>
    have hq : 40 < l.length := by omega
    clear hlen
    go_enter Try.func4, Try.ntmps4
    go_wp2_with fail
    refine (awake_any w).mono ?_
    rintro r w1 ⟨rfl, hb1⟩
    go_wp2_with fail
    refine (awake_any w1).mono ?_
    rintro r w2 ⟨rfl, hb2⟩
    go_wp2
    go_ret
    exact ⟨rfl, hb1.trans (hb2.mono hb1.size)⟩
  have hq40 : decide ((40 : Int) < (l.length : Int)) = false := by simp; omega
  have hq41 : decide (40 < l.length) = false := by simp; omega
  cases hr : rightL l
  case false =>
    have HR := Lib.hid hr
    clear hr
    go_enter Try.func4, Try.ntmps4
    go_wp2_with fail
    refine (awake_any w).mono ?_
    rintro r w1 ⟨rfl, hb1⟩
    go_wp2_with fail
    refine (rows_any a cap l w1 (HL.out.later hb1)).mono ?_
    rintro r w2 ⟨rfl, hb2⟩
    rw [HR.out]
    go_wp2_with fail
    refine (awake_any w2).mono ?_
    rintro r w3 ⟨rfl, hb3⟩
    have hb4 := (hb1.trans (hb2.mono hb1.size))
    go_wp2
    go_ret
    exact ⟨rfl, hb4.trans (hb3.mono hb4.size)⟩
  have HR := Lib.hid hr
  clear hr
  go_enter Try.func4, Try.ntmps4
  go_wp2_with fail
  refine (awake_any w).mono ?_
  rintro r w1 ⟨rfl, hb1⟩
  go_wp2_with fail
  refine (rows_any a cap l w1 (HL.out.later hb1)).mono ?_
  rintro r w2 ⟨rfl, hb2⟩
  rw [HR.out]
  have hbw := hb1.trans (hb2.mono hb1.size)
  clear hb1 hb2
  go_wp2_with fail
  refine (clocks_any a cap l w2 (HL.out.later hbw) (by omega)).mono ?_
  rintro r w3 ⟨a2, cap2, rfl, hrow2, hb3⟩
  have hb4 := hbw.trans (hb3.mono hbw.size)
  have hcl : (cks l).length = l.length := cks_len HR.out
  rw [hcl]
  have HR2 := Lib.hid hrow2
  clear hbw hb3 hrow2
  obtain ⟨I0, e1, hI0⟩ := wrap_u cut
  have e4 : IntKind.u64.wrap ((l.length : Int) + 1) = (l.length : Int) + 1 := wrap_u_small _ (by omega) (by omega)
  obtain ⟨n, e5, hn⟩ := tmod_nat I0 hI0 (l.length + 1) (by omega)
  rw [show ((l.length + 1 : Nat) : Int) = (l.length : Int) + 1 by omega] at e5
  have e8 : IntKind.i64.wrap (n : Int) = n := IntWalk.i64_in _ (by omega)
  have e11 : I0 % ((l.length : Int) + 1) = n := by rw [← e5, Int.tmod_eq_emod_of_nonneg hI0]
  have e6 : IntKind.i64.wrap ((l.length : Int) + 1) = (l.length : Int) + 1 := IntWalk.i64_in _ (by omega)
  have hz : ¬ ((l.length : Int) + 1 = 0) := by omega
  have hnc : n ≤ cap := by omega
  have hnc2 : (n : Int) ≤ cap := by omega
  go_wp2_with fail
  have hlent : (l.take n).length = n := by simp; omega
  have HC2 := Lib.hid (clocks_any a cap (l.take n) w3 ((HL.out.later hb4).take n) (by omega))
  rw [hlent] at HC2
  refine HC2.out.mono ?_
  rintro r w4 ⟨a3, cap3, rfl, hrow3, hb5⟩
  clear HC2 e1 e4 e5 e8 e11 e6 hz hI0 hnc hnc2
  have hdl : (cks (l.take n)).length = n := by rw [cks_len (rightL_of_take HR.out n), hlent]
  rw [hdl]
  have HR3 := Lib.hid hrow3
  have HR4 := Lib.hid (HR2.out.later hb5)
  have hb6 := hb4.trans (hb5.mono hb4.size)
  clear hb4 hb5 hrow3 HR2 hlent
  have HMB : Hid (CksAt (w4.alloc (.cells #[.int .i64 0, .int .i64 0, .int .i64 0, .int .i64 0, .int .i64 0, .int .i64 0, .int .i64 0, .int .i64 0, .int .i64 0, .int .i64 0, .int .i64 0, .int .i64 0, .int .i64 0, .int .i64 0, .int .i64 0, .int .i64 0] 35)) w4.heap.size 35 (lasts l 0)) := lasts_new _ _ _
  have hba := below_alloc1 w4 (.cells #[.int .i64 0, .int .i64 0, .int .i64 0, .int .i64 0, .int .i64 0, .int .i64 0, .int .i64 0, .int .i64 0, .int .i64 0, .int .i64 0, .int .i64 0, .int .i64 0, .int .i64 0, .int .i64 0, .int .i64 0, .int .i64 0] 35)
  have hqq : ((l.length : Int) != l.length) = false := by simp
  have hqn : ((n : Int) != n) = false := by simp
  have hlenL : l.length ≤ 40 ∧ 40 ≤ 40 := ⟨hlen, Nat.le_refl _⟩
  go_wp2
  clear hqq hqn hq40 hq41
  go_loopw [53] (fun i wr => ∃ m : Nat, m ≤ l.length ∧ i = .int .i64 m ∧ Hid (CksAt wr w4.heap.size 35 (lasts l m) ∧ Below w4.heap.size w4 wr)) (fun i _ => l.length - (intOf i).toNat)
  case atStart => exact ⟨0, Nat.zero_le _, rfl, HMB.out, hba⟩
  case round =>
    clear HMB hba
    obtain ⟨m, hm, rfl, HW⟩ := hrel
    by_cases hlt : m < l.length
    · have hbw := HW.out.2
      obtain ⟨b2, o2, rfl, hc2⟩ := HR4.out.2 (by intro e; rw [e] at hcl; simp at hcl; omega)
      have hg := cks_get HR.out hlt
      have hk2 : ∀ j u, (ckCell (fun u : Nat => clk l m u))[j]? = some u → wr.cell? ⟨b2, o2 + m * 4 + j, none⟩ = some u := fun j u hj => cell_later hbw (hc2 m (by omega) j u (by rw [hg]; exact hj))
      have hin := in4_of_right HR.out
      obtain ⟨b, o, rfl, t0, t1, t2, t3⟩ := HL.out.one hlt
      have hbx := hb6.trans (hbw.mono hb6.size)
      have d0 := cell_later hbx t0
      have d1 := cell_later hbx t1
      have d2 := cell_later hbx t2
      have d3 := cell_later hbx t3
      clear t0 t1 t2 t3
      go_upto_region 12 with (fail)
      have HBE := Lib.hid (EvBox.new wr (evI l m))
      have hW0 := below_alloc1 wr (.cells #[.int .i64 (evI l m).thread, .int .i64 (evI l m).kind, .int .i64 (evI l m).obj, .bool (evI l m).fail] 28)
      generalize wr.alloc (.cells #[.int .i64 (evI l m).thread, .int .i64 (evI l m).kind, .int .i64 (evI l m).obj, .bool (evI l m).fail] 28) = W0 at HBE hW0 ⊢
      obtain ⟨th, hth, hth4⟩ : ∃ th : Nat, (evI l m).thread = th ∧ th < 4 := by
        have h := hin (evI l m) (evI_mem hlt)
        exact ⟨(evI l m).thread.toNat, by omega, by omega⟩
      have HTH := Lib.hid hth
      have hti : (th : Int) < 4 := by omega
      have hti0 : (0 : Int) ≤ th := by omega
      have HK : Hid (∀ w', Below wr.heap.size wr w' → ∀ u : Nat, u < 4 → w'.cell? ⟨b2, o2 + m * 4 + u, none⟩ = some (.int .i64 (clk l m u))) := fun w' h u hu => cell_later h (hk2 u _ (by unfold ckCell; rw [nums4_get _ hu]))
      have HT : Hid (∀ w', Below W0.heap.size W0 w' → w'.cell? ⟨wr.heap.size, 0, none⟩ = some (.int .i64 (th : Int))) := fun w' h => by
        have h1 := (HBE.out.later h).cells.1
        rw [HTH.out] at h1
        exact h1
      have hB0 : Below w4.heap.size w4 W0 := hbw.trans (hW0.mono hbw.size)
      have hX0 : Below w.heap.size w W0 := hbx.trans (hW0.mono hbx.size)
      clear d0 d1 d2 d3 hk2 hc2 hg hin hth hbx
      go_cut [84] (fun s84 wx => s84 = .bool false ∧ Below W0.heap.size W0 wx)
      case first =>
        obtain ⟨N, hN⟩ : ∃ N, numO l (m : Int) = N := ⟨_, rfl⟩
        have hown : clk l m th = N := by rw [own_num HTH.out HR.out hlt]; exact hN
        have HNU : Hid (∀ w', EvsAt w' (some ⟨b, o, none⟩) l → Calls Try.prog 16 #[.slice (some ⟨b, o, none⟩) l.length cap, .int .i64 (m : Int)] w' fun r w'' => r = .returned (.int .i64 (N : Int)) ∧ Below w'.heap.size w' w'') := fun w' h => by rw [← hN]; exact number_any _ cap l _ w' h (by omega) hcap
        have hNN : ((N : Int) != (N : Int)) = false := by simp
        have hNN2 : (N != N) = false := by simp
        obtain ⟨c, hc⟩ : ∃ c : Nat → Nat, c = fun u : Nat => clk l m u := ⟨_, rfl⟩
        have heq := run_equal_self c
        have hB9 : Below W0.heap.size W0 W0.drew := (Below.refl _ _).drew
        have HQ : Hid (∀ w', Below W0.heap.size W0 w' → (w'.cell? ⟨b2, o2 + m * 4, none⟩ = some (.int .i64 (c 0)) ∧ w'.cell? ⟨b2, o2 + m * 4 + 1, none⟩ = some (.int .i64 (c 1)) ∧ w'.cell? ⟨b2, o2 + m * 4 + 2, none⟩ = some (.int .i64 (c 2)) ∧ w'.cell? ⟨b2, o2 + m * 4 + 3, none⟩ = some (.int .i64 (c 3))) ∧ w'.cell? ⟨wr.heap.size, 0, none⟩ = some (.int .i64 (th : Int)) ∧ w'.cell? ⟨b2, o2 + m * 4 + th, none⟩ = some (.int .i64 (N : Int)) ∧ EvsAt w' (some ⟨b, o, none⟩) l ∧ Below W0.heap.size W0 w') := fun w' h => by
          have h1 := hW0.trans (h.mono hW0.size)
          refine ⟨⟨?_, ?_, ?_, ?_⟩, HT.out _ h, ?_, HL.out.later (hX0.trans (h.mono hX0.size)), h⟩
          · rw [hc]; exact HK.out _ h1 0 (by omega)
          · rw [hc]; exact HK.out _ h1 1 (by omega)
          · rw [hc]; exact HK.out _ h1 2 (by omega)
          · rw [hc]; exact HK.out _ h1 3 (by omega)
          · rw [← hown]; exact HK.out _ h1 th hth4
        by_cases hmn : m < n
        · have hq1 : decide ((m : Int) < (n : Int)) = true := by simp; omega
          have hq2 : decide (m < n) = true := by simp; omega
          obtain ⟨b3, o3, rfl, hc3⟩ := HR3.out.2 (by intro e; rw [e] at hdl; simp at hdl; omega)
          have hg3 := cks_begin HR.out (by omega) hmn (by omega : m < (cks (l.take n)).length)
          have hk3 : ∀ j u, (ckCell c)[j]? = some u → W0.cell? ⟨b3, o3 + m * 4 + j, none⟩ = some u := fun j u hj => cell_later hB0 (hc3 m (by omega) j u (by rw [hg3, ← hc]; exact hj))
          have HQ2 : Hid (∀ w', Below W0.heap.size W0 w' → (w'.cell? ⟨b3, o3 + m * 4, none⟩ = some (.int .i64 (c 0)) ∧ w'.cell? ⟨b3, o3 + m * 4 + 1, none⟩ = some (.int .i64 (c 1)) ∧ w'.cell? ⟨b3, o3 + m * 4 + 2, none⟩ = some (.int .i64 (c 2)) ∧ w'.cell? ⟨b3, o3 + m * 4 + 3, none⟩ = some (.int .i64 (c 3))) ∧ (w'.cell? ⟨b2, o2 + m * 4, none⟩ = some (.int .i64 (c 0)) ∧ w'.cell? ⟨b2, o2 + m * 4 + 1, none⟩ = some (.int .i64 (c 1)) ∧ w'.cell? ⟨b2, o2 + m * 4 + 2, none⟩ = some (.int .i64 (c 2)) ∧ w'.cell? ⟨b2, o2 + m * 4 + 3, none⟩ = some (.int .i64 (c 3))) ∧ w'.cell? ⟨wr.heap.size, 0, none⟩ = some (.int .i64 (th : Int)) ∧ w'.cell? ⟨b2, o2 + m * 4 + th, none⟩ = some (.int .i64 (N : Int)) ∧ EvsAt w' (some ⟨b, o, none⟩) l ∧ Below W0.heap.size W0 w') := fun w' h => ⟨⟨cell_later h (hk3 0 _ rfl), cell_later h (hk3 1 _ rfl), cell_later h (hk3 2 _ rfl), cell_later h (hk3 3 _ rfl)⟩, HQ.out w' h⟩
          clear hc hk3 hg3 hc3 hown hN
          go_wp2_with fail
          go_region_held3 (fun w' => (w'.cell? ⟨b3, o3 + m * 4, none⟩ = some (.int .i64 (c 0)) ∧ w'.cell? ⟨b3, o3 + m * 4 + 1, none⟩ = some (.int .i64 (c 1)) ∧ w'.cell? ⟨b3, o3 + m * 4 + 2, none⟩ = some (.int .i64 (c 2)) ∧ w'.cell? ⟨b3, o3 + m * 4 + 3, none⟩ = some (.int .i64 (c 3))) ∧ (w'.cell? ⟨b2, o2 + m * 4, none⟩ = some (.int .i64 (c 0)) ∧ w'.cell? ⟨b2, o2 + m * 4 + 1, none⟩ = some (.int .i64 (c 1)) ∧ w'.cell? ⟨b2, o2 + m * 4 + 2, none⟩ = some (.int .i64 (c 2)) ∧ w'.cell? ⟨b2, o2 + m * 4 + 3, none⟩ = some (.int .i64 (c 3))) ∧ w'.cell? ⟨wr.heap.size, 0, none⟩ = some (.int .i64 (th : Int)) ∧ w'.cell? ⟨b2, o2 + m * 4 + th, none⟩ = some (.int .i64 (N : Int)) ∧ EvsAt w' (some ⟨b, o, none⟩) l ∧ Below W0.heap.size W0 w') (first | exact HQ2.out _ hB9 | exact HQ2.out _ hB10)
            (first | (go_at_call 16; ((with_reducible refine (HNU.out _ (HQ2.out _ hB9).2.2.2.2.1).mono ?_); rintro r w10 ⟨rfl, hb10⟩; have hB10 := below_step hB9 hb10; clear hB9)))
          all_goals go_wp2_with fail
          all_goals go_meet
          all_goals exact ⟨rfl, hB10⟩
        · have hq1 : decide ((m : Int) < (n : Int)) = false := by simp; omega
          have hq2 : decide (m < n) = false := by simp; omega
          clear hc hown hN heq
          go_wp2_with fail
          refine wp_region_held_drew (S := fun w' => (w'.cell? ⟨b2, o2 + m * 4, none⟩ = some (.int .i64 (c 0)) ∧ w'.cell? ⟨b2, o2 + m * 4 + 1, none⟩ = some (.int .i64 (c 1)) ∧ w'.cell? ⟨b2, o2 + m * 4 + 2, none⟩ = some (.int .i64 (c 2)) ∧ w'.cell? ⟨b2, o2 + m * 4 + 3, none⟩ = some (.int .i64 (c 3))) ∧ w'.cell? ⟨wr.heap.size, 0, none⟩ = some (.int .i64 (th : Int)) ∧ w'.cell? ⟨b2, o2 + m * 4 + th, none⟩ = some (.int .i64 (N : Int)) ∧ EvsAt w' (some ⟨b, o, none⟩) l ∧ Below W0.heap.size W0 w') (by kernel_rfl) (HQ.out _ hB9) (fun hHeld => ?_)
          refine wpAnyH_take (i := 0) (v := ?_) rfl (by kernel_rfl) (by kernel_rfl) (by kernel_rfl) (fun _ _ _ h => h) (Or.inl ⟨by kernel_rfl, ?_⟩) hHeld ?_
          rotate_left
          · intro w hSw
            try dsimp only at hSw
            go_simp
            with_reducible rfl
          try simp only [Act.put, List.setIfInBounds_toArray]
          refine wpAnyH_take (i := 1) (v := ?_) rfl (by kernel_rfl) (by kernel_rfl) (by kernel_rfl) (fun _ _ _ h => h) (Or.inl ⟨by kernel_rfl, ?_⟩) hHeld ?_
          rotate_left
          · intro w hSw
            try dsimp only at hSw
            go_simp
            with_reducible rfl
          try simp only [Act.put]
          refine wpAnyH_take (i := 2) (v := ?_) rfl (by kernel_rfl) (by kernel_rfl) (by kernel_rfl) (fun _ _ _ h => h) (Or.inl ⟨by kernel_rfl, ?_⟩) hHeld ?_
          rotate_left
          · intro w hSw
            try dsimp only at hSw
            go_simp
            with_reducible rfl
          try simp only [Act.put]
          refine wpAnyH_take (i := 3) (v := ?_) rfl (by kernel_rfl) (by kernel_rfl) (by kernel_rfl) (fun _ _ _ h => h) (Or.inl ⟨by kernel_rfl, ?_⟩) hHeld ?_
          rotate_left
          · intro w hSw
            try dsimp only at hSw
            go_simp
            with_reducible rfl
          try simp only [Act.put]
          refine wpAnyH_take (i := 4) (v := undef) rfl (by kernel_rfl) (by kernel_rfl) (by kernel_rfl) (fun _ _ _ h => h) (Or.inr ⟨by kernel_rfl, rfl⟩) hHeld ?_
          try simp only [Act.put]
          refine wpAnyH_take (i := 5) (v := undef) rfl (by kernel_rfl) (by kernel_rfl) (by kernel_rfl) (fun _ _ _ h => h) (Or.inr ⟨by kernel_rfl, rfl⟩) hHeld ?_
          try simp only [Act.put]
          refine wpAnyH_take (i := 6) (v := undef) rfl (by kernel_rfl) (by kernel_rfl) (by kernel_rfl) (fun _ _ _ h => h) (Or.inr ⟨by kernel_rfl, rfl⟩) hHeld ?_
          try simp only [Act.put]
          refine wpAnyH_take (i := 7) (v := undef) rfl (by kernel_rfl) (by kernel_rfl) (by kernel_rfl) (fun _ _ _ h => h) (Or.inr ⟨by kernel_rfl, rfl⟩) hHeld ?_
          try simp only [Act.put]
          refine wpAnyH_take (i := 8) (v := undef) rfl (by kernel_rfl) (by kernel_rfl) (by kernel_rfl) (fun _ _ _ h => h) (Or.inr ⟨by kernel_rfl, rfl⟩) hHeld ?_
          try simp only [Act.put]
          refine wpAnyH_take (i := 9) (v := undef) rfl (by kernel_rfl) (by kernel_rfl) (by kernel_rfl) (fun _ _ _ h => h) (Or.inr ⟨by kernel_rfl, rfl⟩) hHeld ?_
          try simp only [Act.put]
          refine wpAnyH_take (i := 10) (v := undef) rfl (by kernel_rfl) (by kernel_rfl) (by kernel_rfl) (fun _ _ _ h => h) (Or.inr ⟨by kernel_rfl, rfl⟩) hHeld ?_
          try simp only [Act.put]
          refine wpAnyH_take (i := 11) (v := undef) rfl (by kernel_rfl) (by kernel_rfl) (by kernel_rfl) (fun _ _ _ h => h) (Or.inr ⟨by kernel_rfl, rfl⟩) hHeld ?_
          try simp only [Act.put]
          refine wpAnyH_take (i := 12) (v := undef) rfl (by kernel_rfl) (by kernel_rfl) (by kernel_rfl) (fun _ _ _ h => h) (Or.inr ⟨by kernel_rfl, rfl⟩) hHeld ?_
          try simp only [Act.put]
          refine wpAnyH_take (i := 13) (v := ?_) rfl (by kernel_rfl) (by kernel_rfl) (by kernel_rfl) (fun _ _ _ h => h) (Or.inl ⟨by kernel_rfl, ?_⟩) hHeld ?_
          rotate_left
          · intro w hSw
            try dsimp only at hSw
            go_simp
            with_reducible rfl
          try simp only [Act.put]
          refine wpAnyH_take (i := 14) (v := ?_) rfl (by kernel_rfl) (by kernel_rfl) (by kernel_rfl) (fun _ _ _ h => h) (Or.inl ⟨by kernel_rfl, ?_⟩) hHeld ?_
          rotate_left
          · intro w hSw
            try dsimp only at hSw
            go_simp
            with_reducible rfl
          try simp only [Act.put]
          refine wpAnyH_take (i := 15) (v := ?_) rfl (by kernel_rfl) (by kernel_rfl) (by kernel_rfl) (fun _ _ _ h => h) (Or.inl ⟨by kernel_rfl, ?_⟩) hHeld ?_
          rotate_left
          · intro w hSw
            try dsimp only at hSw
            go_simp
            with_reducible rfl
          try simp only [Act.put]
          refine wpAnyH_take (i := 16) (v := ?_) rfl (by kernel_rfl) (by kernel_rfl) (by kernel_rfl) (fun _ _ _ h => h) (Or.inl ⟨by kernel_rfl, ?_⟩) hHeld ?_
          rotate_left
          · intro w hSw
            try dsimp only at hSw
            go_simp
            with_reducible rfl
          try simp only [Act.put]
          refine wpAnyH_take (i := 17) (v := ?_) rfl (by kernel_rfl) (by kernel_rfl) (by kernel_rfl) (fun _ _ _ h => h) (Or.inl ⟨by kernel_rfl, ?_⟩) hHeld ?_
          rotate_left
          · intro w hSw
            try dsimp only at hSw
            go_simp
            with_reducible rfl
          try simp only [Act.put]
          refine wpAnyH_take (i := 18) (v := ?_) rfl (by kernel_rfl) (by kernel_rfl) (by kernel_rfl) (fun _ _ _ h => h) (Or.inl ⟨by kernel_rfl, ?_⟩) hHeld ?_
          rotate_left
          · intro w hSw
            try dsimp only at hSw
            go_simp
            with_reducible rfl
          try simp only [Act.put]
          refine wpAnyH_take (i := 19) (v := ?_) rfl (by kernel_rfl) (by kernel_rfl) (by kernel_rfl) (fun _ _ _ h => h) (Or.inl ⟨by kernel_rfl, ?_⟩) hHeld ?_
          rotate_left
          · intro w hSw
            try dsimp only at hSw
            go_simp
            with_reducible rfl
          try simp only [Act.put]
          refine wpAnyH_take (i := 20) (v := ?_) rfl (by kernel_rfl) (by kernel_rfl) (by kernel_rfl) (fun _ _ _ h => h) (Or.inl ⟨by kernel_rfl, ?_⟩) hHeld ?_
          rotate_left
          · intro w hSw
            try dsimp only at hSw
            go_simp
            with_reducible rfl
          try simp only [Act.put]
          refine wpAnyH_take (i := 21) (v := ?_) rfl (by kernel_rfl) (by kernel_rfl) (by kernel_rfl) (fun _ _ _ h => h) (Or.inl ⟨by kernel_rfl, ?_⟩) hHeld ?_
          rotate_left
          · intro w hSw
            try dsimp only at hSw
            go_simp
            with_reducible rfl
          try simp only [Act.put]
          refine wpAnyH_take (i := 22) (v := ?_) rfl (by kernel_rfl) (by kernel_rfl) (by kernel_rfl) (fun _ _ _ h => h) (Or.inl ⟨by kernel_rfl, ?_⟩) hHeld ?_
          rotate_left
          · intro w hSw
            try dsimp only at hSw
            go_simp
            with_reducible rfl
          try simp only [Act.put]
          refine wpAnyH_take (i := 23) (v := ?_) rfl (by kernel_rfl) (by kernel_rfl) (by kernel_rfl) (fun _ _ _ h => h) (Or.inl ⟨by kernel_rfl, ?_⟩) hHeld ?_
          rotate_left
          · intro w hSw
            try dsimp only at hSw
            go_simp
            with_reducible rfl
          try simp only [Act.put]
          refine wpAnyH_ready (rs := [24]) (by kernel_rfl) (by simp) ?_
          refine AllReadyH.cons rfl (fun K hK => ?_) AllReadyH.nil
          go_simp
          refine (HNU.out _ (HQ.out _ hB9).2.2.2.1).mono ?_
          rintro r w10 ⟨rfl, hb10⟩
          have hB10 := below_step hB9 hb10
          refine hK.out _ _ (HQ.out _ hB10) (fun hHeld => ?_)
          clear hK K
          try simp only [Act.put, List.setIfInBounds_toArray, List.set_cons_zero, List.set_cons_succ]
          refine wpAnyH_take (i := 25) (oi := { dst := some 83, op := Op.binOp BinOp.neq 3 (Operand.tmp 79) (Operand.tmp 82) 3, type := 4, pos := "law.go:90", after := #[{ on := 21, ground := Ground.data }, { on := 24, ground := Ground.data }, { on := 14, ground := Ground.guard }], guard := some (14, false) }) (v := ?_) rfl (by kernel_rfl) (by kernel_rfl) (by kernel_rfl) (fun _ _ _ h => h) (Or.inl ⟨by kernel_rfl, ?_⟩) hHeld ?_
          rotate_left
          · intro w hSw
            try dsimp only at hSw
            go_simp
            with_reducible rfl
          try simp only [Act.put, List.setIfInBounds_toArray, List.set_cons_zero, List.set_cons_succ]
          refine wpAnyH_take (i := 26) (oi := { dst := some 84, op := Op.pick (Operand.tmp 72) (Operand.const (Value.bool true)) (Operand.tmp 83), type := 4, pos := "law.go:90", after := #[{ on := 14, ground := Ground.data }, { on := 25, ground := Ground.data }], guard := none }) (v := ?_) rfl (by kernel_rfl) (by kernel_rfl) (by kernel_rfl) (fun _ _ _ h => h) (Or.inl ⟨by kernel_rfl, ?_⟩) hHeld ?_
          rotate_left
          · intro w hSw
            try dsimp only at hSw
            go_simp
            with_reducible rfl
          try simp only [Act.put, List.setIfInBounds_toArray, List.set_cons_zero, List.set_cons_succ]
          refine wpAnyH_done (by kernel_rfl) ?_ _
          go_wp2_with fail
          go_meet
          exact ⟨rfl, hB10⟩
      case rest =>
        obtain ⟨rfl, hxc⟩ := hcut
        have hXC := hX0.trans (hxc.mono hX0.size)
        have hWC := hW0.trans (hxc.mono hW0.size)
        have hBC := hB0.trans (hxc.mono hB0.size)
        have HCW : Hid (CksAt wc w4.heap.size 35 (lasts l m)) := HW.out.1.later hWC
        have HLE : Hid (∀ u : Nat, lastP l th m u ≤ clk l m u) := fun u => last_le HTH.out u
        clear hX0 hW0 hB0 HW hbw
        go_wp2_with fail
        go_loopw [85] (fun i w2 => ∃ t : Nat, t ≤ 4 ∧ i = .int .i64 t ∧ Hid (Below wc.heap.size wc w2)) (fun i _ => 4 - (intOf i).toNat)
        case atStart => exact ⟨0, by omega, rfl, Below.refl _ _⟩
        case round =>
          obtain ⟨t, ht, rfl, HT2⟩ := hrel
          by_cases htl : t < 4
          · have hti4 : (t : Int) < 4 := by omega
            have hti5 : (0 : Int) ≤ t := by omega
            obtain ⟨x, hx⟩ : ∃ x, clk l m t = x := ⟨_, rfl⟩
            obtain ⟨y, hy⟩ : ∃ y, lastP l th m t = y := ⟨_, rfl⟩
            have hle := HLE.out t
            rw [hx, hy] at hle
            have hq1 : decide ((x : Int) < (y : Int)) = false := by simp; omega
            have hq2 : decide (x < y) = false := by simp; omega
            have c0 := HK.out _ (hWC.trans (HT2.out.mono hWC.size)) t htl
            have c1 := HT.out _ (hxc.trans (HT2.out.mono hxc.size))
            have c2 := (HCW.out.later HT2.out).cell (k := th) (t := t) (by rw [lasts_len]; exact hth4) htl
            rw [lasts_get, hy] at c2
            rw [hx] at c0
            clear hx hy hle
            go_wp2
            go_quiet (fail)
            go_wp2
            go_roundw
            case rel => exact ⟨t + 1, by omega, by go_num, HT2.out.drewN⟩
            case measure => simp [intOf]; omega
          · obtain rfl : t = 4 := by omega
            have hBD := hBC.trans (HT2.out.mono hBC.size)
            obtain ⟨c, hc⟩ : ∃ c : Nat → Nat, c = fun u : Nat => clk l m u := ⟨_, rfl⟩
            have HKC : Hid (∀ u : Nat, u < 4 → wr.cell? ⟨b2, o2 + m * 4 + u, none⟩ = some (.int .i64 (c u))) := fun u hu => by rw [hc]; exact HK.out _ (hWC.trans (HT2.out.mono hWC.size)) u hu
            have k0 := HKC.out 0 (by omega)
            rw [Nat.add_zero] at k0
            have k1 := HKC.out 1 (by omega)
            have k2 := HKC.out 2 (by omega)
            have k3 := HKC.out 3 (by omega)
            have c1 := HT.out _ (hxc.trans (HT2.out.mono hxc.size))
            have HCX : Hid (CksAt wr w4.heap.size 35 (lasts l m)) := HCW.out.later HT2.out
            obtain ⟨_, f0, f1, f2, f3⟩ := HCX.out.four (k := th) (by rw [lasts_len]; exact hth4)
            have HF : Hid (CksAt (((((wr.drew).setCell ⟨w4.heap.size, th * 4, none⟩ (.int .i64 (c 0))).setCell ⟨w4.heap.size, th * 4 + 1, none⟩ (.int .i64 (c 1))).setCell ⟨w4.heap.size, th * 4 + 2, none⟩ (.int .i64 (c 2))).setCell ⟨w4.heap.size, th * 4 + 3, none⟩ (.int .i64 (c 3))) w4.heap.size 35 (lasts l (m + 1))) := by
              show CksAt _ _ _ _
              rw [← lasts_step HTH.out hth4, ← hc]
              exact CksAt.set4 (w := wr.drew) HCX.out (by rw [lasts_len]; exact hth4) c
            clear hc
            go_wp2_with fail
            go_region
            go_wp2
            go_roundw
            case rel => exact ⟨m + 1, by omega, by go_num, HF.out, (((hBD.drew.setCell (p := ⟨w4.heap.size, th * 4, none⟩) (Nat.le_refl _) _).setCell (p := ⟨w4.heap.size, th * 4 + 1, none⟩) (Nat.le_refl _) _).setCell (p := ⟨w4.heap.size, th * 4 + 2, none⟩) (Nat.le_refl _) _).setCell (p := ⟨w4.heap.size, th * 4 + 3, none⟩) (Nat.le_refl _) _⟩
            case measure => simp [intOf]; omega
    · obtain rfl : m = l.length := by omega
      have HC0 := Lib.hid HW.out
      clear HW
      go_wp2_with fail
      go_loopw [110] (fun i w2 => ∃ t : Nat, t ≤ 4 ∧ i = .int .i64 t ∧ Hid (CksAt w2 w4.heap.size 35 (lasts l l.length) ∧ Below w4.heap.size w4 w2)) (fun i _ => 4 - (intOf i).toNat)
      case atStart => exact ⟨0, by omega, rfl, HC0.out⟩
      case round =>
        clear HC0
        obtain ⟨t, ht, rfl, HT2⟩ := hrel
        by_cases htl : t < 4
        · have hti4 : (t : Int) < 4 := by omega
          have hti5 : (0 : Int) ≤ t := by omega
          obtain ⟨⟨z0, z1, z2, z3⟩, _⟩ := HT2.out.1.four (k := t) (by rw [lasts_len]; exact htl)
          rw [lasts_get] at z0 z1 z2 z3
          obtain ⟨c, hc⟩ : ∃ c : Nat → Nat, c = lastP l t l.length := ⟨_, rfl⟩
          rw [← hc] at z0 z1 z2 z3
          have heq := run_equal_self c
          have HLA : Hid (∀ w', EvsAt w' a l → Calls Try.prog 17 #[.slice a l.length cap, .int .i64 (t : Int)] w' fun r w'' => r = .returned (.agg #[.int .i64 (c 0), .int .i64 (c 1), .int .i64 (c 2), .int .i64 (c 3)]) ∧ Below w'.heap.size w' w'') := fun w' h =>
            (last_any a cap l t w' h (by omega)).mono fun r w'' ⟨c', h1, h2, h3⟩ => by
              have e := lasts_end HR.out h2
              rw [← hc] at e
              rw [e] at h1
              exact ⟨h1, h3⟩
          have hB9 : Below wr.heap.size wr wr.drew := (Below.refl _ _).drew
          have hBW := hb6.trans (HT2.out.2.mono hb6.size)
          have HQ : Hid (∀ w', Below wr.heap.size wr w' → (w'.cell? ⟨w4.heap.size, t * 4, none⟩ = some (.int .i64 (c 0)) ∧ w'.cell? ⟨w4.heap.size, t * 4 + 1, none⟩ = some (.int .i64 (c 1)) ∧ w'.cell? ⟨w4.heap.size, t * 4 + 2, none⟩ = some (.int .i64 (c 2)) ∧ w'.cell? ⟨w4.heap.size, t * 4 + 3, none⟩ = some (.int .i64 (c 3))) ∧ EvsAt w' a l ∧ Below wr.heap.size wr w') := fun w' h =>
            ⟨⟨cell_later h z0, cell_later h z1, cell_later h z2, cell_later h z3⟩, HL.out.later (hBW.trans (h.mono hBW.size)), h⟩
          clear hc z0 z1 z2 z3
          go_wp2_with fail
          go_region_held3 (fun w' => (w'.cell? ⟨w4.heap.size, t * 4, none⟩ = some (.int .i64 (c 0)) ∧ w'.cell? ⟨w4.heap.size, t * 4 + 1, none⟩ = some (.int .i64 (c 1)) ∧ w'.cell? ⟨w4.heap.size, t * 4 + 2, none⟩ = some (.int .i64 (c 2)) ∧ w'.cell? ⟨w4.heap.size, t * 4 + 3, none⟩ = some (.int .i64 (c 3))) ∧ EvsAt w' a l ∧ Below wr.heap.size wr w') (first | exact HQ.out _ hB9 | exact HQ.out _ hB10)
            (first | (go_at_call 17; ((with_reducible refine (HLA.out _ (HQ.out _ hB9).2.1).mono ?_); rintro r w10 ⟨rfl, hb10⟩; have hB10 := below_step hB9 hb10; clear hB9)))
          have HN : Hid (CksAt w10 w4.heap.size 35 (lasts l l.length) ∧ Below w4.heap.size w4 w10) := ⟨HT2.out.1.later hB10, HT2.out.2.trans (hB10.mono HT2.out.2.size)⟩
          go_wp2
          go_roundw
          case rel => exact ⟨t + 1, by omega, by go_num, HN.out⟩
          case measure => simp [intOf]; omega
        · obtain rfl : t = 4 := by omega
          go_wp2
          go_ret
          exact ⟨rfl, hb6.trans (HT2.out.2.mono hb6.size)⟩

end Go.Proofs.Ytfefidmbkbigoaa
