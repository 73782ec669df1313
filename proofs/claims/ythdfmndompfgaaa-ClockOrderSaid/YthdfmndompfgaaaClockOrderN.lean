/- ClockOrder, where two events do not depend on one another. -/
import Derived.Test.YthdfmndompfgaaaWake4
import Derived.Test.YthdfmndompfgaaaWrapU
import Derived.Deep.DeepCutAuto
import Derived.Test.YthdfmndompfgaaaClockOrderP
namespace Go.Proofs.Ythdfmndompfgaaa
open Go.RowKit

set_option maxRecDepth 100000 in
set_option maxHeartbeats 8000000 in
theorem clockOrder_no (a : Option Addr) (l : List Ev) (cap : Nat) (i j k : Int) (w : World) (hl : EvsAt w a l) (hcap : l.length ≤ cap) (hmx : l.length ≤ 2 ^ 63 - 1) (hlen : l.length ≤ 40) (hpos : 1 ≤ l.length) (hr : rightL l = true)
    (I0 J0 K0 : Int) (I J K : Nat) (e1 : IntKind.u64.wrap i = I0) (hI0 : 0 ≤ I0) (e2 : IntKind.u64.wrap j = J0) (hJ0 : 0 ≤ J0) (e3 : IntKind.u64.wrap k = K0) (hK0 : 0 ≤ K0)
    (e4 : IntKind.u64.wrap (l.length : Int) = l.length) (e5 : I0.tmod (l.length : Int) = I) (hI : I < l.length) (e6 : J0.tmod (l.length : Int) = J) (hJ : J < l.length) (e7 : K0.tmod (l.length : Int) = K) (hK : K < l.length) (hD : dep (evI l I) (evI l J) = false) :
    Calls Try.prog 4 #[.slice a l.length cap, .int .i64 i, .int .i64 j, .int .i64 k] w fun r w' => r = .returned (.bool true) ∧ Below w.heap.size w w' := by
  have HL := Lib.hid hl
  clear hl
  have hq40 : decide ((40 : Int) < (l.length : Int)) = false := by simp; omega
  have hq41 : decide (40 < l.length) = false := by simp; omega
  have hqz : ((l.length : Int) == 0) = false := by rw [beq_eq_false_iff_ne]; omega
  have HR := Lib.hid hr
  clear hr
  go_enter Try.func4, Try.ntmps4
  go_wp2_with fail
  refine (awake_any w).mono ?_
  rintro r w1 ⟨rfl, hb1⟩
  go_wp2_with fail
  refine (rows_any a cap l w1 (HL.out.later hb1)).mono ?_
  rintro r w2 ⟨rfl, hb2⟩
  rw [HR.out]
  have hbw := hb1.trans (hb2.mono hb1.size)
  clear hb1 hb2
  have e8 : IntKind.i64.wrap (I : Int) = I := IntWalk.i64_in _ (by omega)
  have e9 : IntKind.i64.wrap (J : Int) = J := IntWalk.i64_in _ (by omega)
  have e10 : IntKind.i64.wrap (K : Int) = K := IntWalk.i64_in _ (by omega)
  have e11 : I0 % (l.length : Int) = I := by rw [← e5, Int.tmod_eq_emod_of_nonneg hI0]
  have e12 : J0 % (l.length : Int) = J := by rw [← e6, Int.tmod_eq_emod_of_nonneg hJ0]
  have e13 : K0 % (l.length : Int) = K := by rw [← e7, Int.tmod_eq_emod_of_nonneg hK0]
  go_wp2_with fail
  go_region
  clear e1 e2 e3 e4 e5 e6 e7 e8 e9 e10 e11 e12 e13 hI0 hJ0 hK0
  have HBC : Hid (∀ (x y : Nat) (_ : x < l.length) (_ : y < l.length) (w' : World), EvsAt w' a l → Calls Try.prog 13 #[.slice a l.length cap, .int .i64 x, .int .i64 y] w' fun r w'' => r = .returned (.bool (hb l x y)) ∧ Below w'.heap.size w' w'') := fun x y hx hy w' h => by
    have h1 := before_any a cap l x y w' h (by omega) hcap
    rw [beforeO_at HR.out hx hy] at h1
    exact h1
  have HLW : Hid (∀ w', Below w2.heap.size w2 w' → EvsAt w' a l) := fun w' h => HL.out.later (hbw.trans (h.mono hbw.size))
  go_upto_region 5 with (fail)
  go_cut [79] (fun s79 wx => s79 = .bool false ∧ Below w2.heap.size w2 wx)
  case first =>
    have hB0 : Below w2.heap.size w2 w2.drew := (Below.refl _ _).drew
    go_wp2_with fail
    refine (HBC.out I J hI hJ _ (HLW.out _ hB0)).mono ?_
    rintro r w3 ⟨rfl, hb3⟩
    have hB3 := below_step hB0 hb3
    have HT : Hid (hb l I J = true → hb l J K = true → hb l I K = true) := fun h1 h2 => hb_trans h1 h2
    have HA : Hid (hb l I J = true → I ≠ J → hb l J I = false) := fun h1 h2 => by
      cases h : hb l J I
      · rfl
      · exact absurd (hb_both h1 h) h2
    clear hb3 hB0
    cases hP : hb l I J
    · by_cases hIJ : I = J
      · subst hIJ
        have hqe : ((I : Int) != (I : Int)) = false := by simp
        rw [hb_self] at hP
        cases hP
      · have hqe : ((I : Int) != (J : Int)) = true := by simp; omega
        have HP := Lib.hid hP
        clear hP hIJ
        go_wp2_with fail
        refine (HBC.out I J hI hJ _ (HLW.out _ hB3)).mono ?_
        rw [HP.out]
        rintro r w4 ⟨rfl, hb4⟩
        have hB4 := below_step hB3 hb4
        go_wp2_with fail
        go_meet
        exact ⟨rfl, hB4⟩
    · have HP := Lib.hid hP
      clear hP
      go_wp2_with fail
      refine (HBC.out J K hJ hK _ (HLW.out _ hB3)).mono ?_
      rintro r w4 ⟨rfl, hb4⟩
      have hB4 := below_step hB3 hb4
      clear hB3 hb4
      cases hQ : hb l J K
      · clear hQ
        by_cases hIJ : I = J
        · subst hIJ
          have hqe : ((I : Int) != (I : Int)) = false := by simp
          go_wp2_with fail
          go_meet
          exact ⟨rfl, hB4⟩
        · have hqe : ((I : Int) != (J : Int)) = true := by simp; omega
          have HA2 := Lib.hid (HA.out HP.out hIJ)
          clear hIJ
          go_wp2_with fail
          refine (HBC.out I J hI hJ _ (HLW.out _ hB4)).mono ?_
          rw [HP.out]
          rintro r w5 ⟨rfl, hb5⟩
          have hB5 := below_step hB4 hb5
          go_wp2_with fail
          refine (HBC.out J I hJ hI _ (HLW.out _ hB5)).mono ?_
          rw [HA2.out]
          rintro r w6 ⟨rfl, hb6⟩
          have hB6 := below_step hB5 hb6
          go_wp2_with fail
          go_meet
          exact ⟨rfl, hB6⟩
      · have HT2 := Lib.hid (HT.out HP.out hQ)
        clear hQ
        go_wp2_with fail
        refine (HBC.out I K hI hK _ (HLW.out _ hB4)).mono ?_
        rw [HT2.out]
        rintro r w5 ⟨rfl, hb5⟩
        have hB5 := below_step hB4 hb5
        clear hB4 hb5
        by_cases hIJ : I = J
        · subst hIJ
          have hqe : ((I : Int) != (I : Int)) = false := by simp
          go_wp2_with fail
          go_meet
          exact ⟨rfl, hB5⟩
        · have hqe : ((I : Int) != (J : Int)) = true := by simp; omega
          have HA2 := Lib.hid (HA.out HP.out hIJ)
          clear hIJ
          go_wp2_with fail
          refine (HBC.out I J hI hJ _ (HLW.out _ hB5)).mono ?_
          rw [HP.out]
          rintro r w6 ⟨rfl, hb6⟩
          have hB6 := below_step hB5 hb6
          go_wp2_with fail
          refine (HBC.out J I hJ hI _ (HLW.out _ hB6)).mono ?_
          rw [HA2.out]
          rintro r w7 ⟨rfl, hb7⟩
          have hB7 := below_step hB6 hb7
          go_wp2_with fail
          go_meet
          exact ⟨rfl, hB7⟩
  case rest =>
    obtain ⟨rfl, hbx⟩ := hcut
    obtain ⟨b, o, rfl, x0, x1, x2, x3⟩ := HL.out.one hI
    obtain ⟨b', o', e, y0, y1, y2, y3⟩ := HL.out.one hJ
    cases e
    have hbc := hbw.trans (hbx.mono hbw.size)
    have HQ : Hid (∀ w', Below wc.heap.size wc w' → (w'.cell? ⟨b, o + I * 4, none⟩ = some (.int .i64 (evI l I).thread) ∧ w'.cell? ⟨b, o + I * 4 + 1, none⟩ = some (.int .i64 (evI l I).kind) ∧ w'.cell? ⟨b, o + I * 4 + 2, none⟩ = some (.int .i64 (evI l I).obj) ∧ w'.cell? ⟨b, o + I * 4 + 3, none⟩ = some (.bool (evI l I).fail)) ∧ (w'.cell? ⟨b, o + J * 4, none⟩ = some (.int .i64 (evI l J).thread) ∧ w'.cell? ⟨b, o + J * 4 + 1, none⟩ = some (.int .i64 (evI l J).kind) ∧ w'.cell? ⟨b, o + J * 4 + 2, none⟩ = some (.int .i64 (evI l J).obj) ∧ w'.cell? ⟨b, o + J * 4 + 3, none⟩ = some (.bool (evI l J).fail)) ∧ EvsAt w' (some ⟨b, o, none⟩) l ∧ Below wc.heap.size wc w') := by
      intro w' h
      have h9 := hbc.trans (h.mono hbc.size)
      exact ⟨⟨cell_later h9 x0, cell_later h9 x1, cell_later h9 x2, cell_later h9 x3⟩, ⟨cell_later h9 y0, cell_later h9 y1, cell_later h9 y2, cell_later h9 y3⟩, HL.out.later h9, h⟩
    have hB9 : Below wc.heap.size wc wc.drew := (Below.refl _ _).drew
    have HD1 : Hid (∀ w', Calls Try.prog 17 #[.agg #[.int .i64 (evI l I).thread, .int .i64 (evI l I).kind, .int .i64 (evI l I).obj, .bool (evI l I).fail], .agg #[.int .i64 (evI l J).thread, .int .i64 (evI l J).kind, .int .i64 (evI l J).obj, .bool (evI l J).fail]] w' fun r w'' => r = .returned (.bool false) ∧ Below w'.heap.size w' w'') := fun w' => by rw [← hD]; exact refDepends_any _ _ w'
    have HDD := Lib.hid hD
    clear hD x0 x1 x2 x3 y0 y1 y2 y3
    go_wp2_with fail
    refine wp_region_held_drew (S := fun w' => (w'.cell? ⟨b, o + I * 4, none⟩ = some (.int .i64 (evI l I).thread) ∧ w'.cell? ⟨b, o + I * 4 + 1, none⟩ = some (.int .i64 (evI l I).kind) ∧ w'.cell? ⟨b, o + I * 4 + 2, none⟩ = some (.int .i64 (evI l I).obj) ∧ w'.cell? ⟨b, o + I * 4 + 3, none⟩ = some (.bool (evI l I).fail)) ∧ (w'.cell? ⟨b, o + J * 4, none⟩ = some (.int .i64 (evI l J).thread) ∧ w'.cell? ⟨b, o + J * 4 + 1, none⟩ = some (.int .i64 (evI l J).kind) ∧ w'.cell? ⟨b, o + J * 4 + 2, none⟩ = some (.int .i64 (evI l J).obj) ∧ w'.cell? ⟨b, o + J * 4 + 3, none⟩ = some (.bool (evI l J).fail)) ∧ EvsAt w' (some ⟨b, o, none⟩) l ∧ Below wc.heap.size wc w') (by kernel_rfl) (HQ.out _ hB9) (fun hHeld => ?_)
    refine wpAnyH_take (i := 0) (v := ?_) rfl (by kernel_rfl) (by kernel_rfl) (by kernel_rfl) (fun _ _ _ h => h) (Or.inl ⟨by rfl, ?_⟩) hHeld ?_
    rotate_left
    · intro w hSw
      try dsimp only at hSw
      go_simp
      with_reducible rfl
    try simp only [Act.put, List.setIfInBounds_toArray]
    refine wpAnyH_take (i := 1) (v := ?_) rfl (by kernel_rfl) (by kernel_rfl) (by kernel_rfl) (fun _ _ _ h => h) (Or.inl ⟨by rfl, ?_⟩) hHeld ?_
    rotate_left
    · intro w hSw
      try dsimp only at hSw
      go_simp
      with_reducible rfl
    try simp only [Act.put]
    refine wpAnyH_take (i := 2) (v := ?_) rfl (by kernel_rfl) (by kernel_rfl) (by kernel_rfl) (fun _ _ _ h => h) (Or.inl ⟨by rfl, ?_⟩) hHeld ?_
    rotate_left
    · intro w hSw
      try dsimp only at hSw
      go_simp
      with_reducible rfl
    try simp only [Act.put]
    refine wpAnyH_take (i := 3) (v := ?_) rfl (by kernel_rfl) (by kernel_rfl) (by kernel_rfl) (fun _ _ _ h => h) (Or.inl ⟨by rfl, ?_⟩) hHeld ?_
    rotate_left
    · intro w hSw
      try dsimp only at hSw
      go_simp
      with_reducible rfl
    try simp only [Act.put]
    refine wpAnyH_take (i := 4) (v := ?_) rfl (by kernel_rfl) (by kernel_rfl) (by kernel_rfl) (fun _ _ _ h => h) (Or.inl ⟨by rfl, ?_⟩) hHeld ?_
    rotate_left
    · intro w hSw
      try dsimp only at hSw
      go_simp
      with_reducible rfl
    try simp only [Act.put]
    refine wpAnyH_take (i := 5) (v := ?_) rfl (by kernel_rfl) (by kernel_rfl) (by kernel_rfl) (fun _ _ _ h => h) (Or.inl ⟨by rfl, ?_⟩) hHeld ?_
    rotate_left
    · intro w hSw
      try dsimp only at hSw
      go_simp
      with_reducible rfl
    try simp only [Act.put]
    refine wpAnyH_take (i := 6) (v := ?_) rfl (by kernel_rfl) (by kernel_rfl) (by kernel_rfl) (fun _ _ _ h => h) (Or.inl ⟨by rfl, ?_⟩) hHeld ?_
    rotate_left
    · intro w hSw
      try dsimp only at hSw
      go_simp
      with_reducible rfl
    try simp only [Act.put]
    refine wpAnyH_take (i := 7) (v := ?_) rfl (by kernel_rfl) (by kernel_rfl) (by kernel_rfl) (fun _ _ _ h => h) (Or.inl ⟨by rfl, ?_⟩) hHeld ?_
    rotate_left
    · intro w hSw
      try dsimp only at hSw
      go_simp
      with_reducible rfl
    try simp only [Act.put]
    refine wpAnyH_ready (rs := [8]) (by kernel_rfl) (by simp) ?_
    refine AllReadyH.cons rfl (fun K hK => ?_) AllReadyH.nil
    go_simp
    refine (HD1.out _).mono ?_
    rintro r w10 ⟨rfl, hb10⟩
    have hB10 := below_step hB9 hb10
    refine hK.out _ _ (HQ.out _ hB10) (fun hHeld => ?_)
    clear hK K
    try simp only [Act.put, List.setIfInBounds_toArray, List.set_cons_zero, List.set_cons_succ]
    refine wpAnyH_take (i := 9) (v := ?_) rfl (by kernel_rfl) (by kernel_rfl) (by kernel_rfl) (fun _ _ _ h => h) (Or.inl ⟨by rfl, ?_⟩) hHeld ?_
    rotate_left
    · intro w hSw
      try dsimp only at hSw
      go_simp
      with_reducible rfl
    try simp only [Act.put, List.setIfInBounds_toArray]
    refine wpAnyH_take (i := 10) (v := ?_) rfl (by kernel_rfl) (by kernel_rfl) (by kernel_rfl) (fun _ _ _ h => h) (Or.inl ⟨by rfl, ?_⟩) hHeld ?_
    rotate_left
    · intro w hSw
      try dsimp only at hSw
      go_simp
      with_reducible rfl
    try simp only [Act.put]
    refine wpAnyH_take (i := 11) (v := undef) rfl (by kernel_rfl) (by kernel_rfl) (by kernel_rfl) (fun _ _ _ h => h) (Or.inr ⟨by rfl, rfl⟩) hHeld ?_
    try simp only [Act.put]
    refine wpAnyH_take (i := 12) (v := undef) rfl (by kernel_rfl) (by kernel_rfl) (by kernel_rfl) (fun _ _ _ h => h) (Or.inr ⟨by rfl, rfl⟩) hHeld ?_
    try simp only [Act.put]
    refine wpAnyH_take (i := 13) (v := undef) rfl (by kernel_rfl) (by kernel_rfl) (by kernel_rfl) (fun _ _ _ h => h) (Or.inr ⟨by rfl, rfl⟩) hHeld ?_
    try simp only [Act.put]
    refine wpAnyH_take (i := 15) (v := undef) rfl (by kernel_rfl) (by kernel_rfl) (by kernel_rfl) (fun _ _ _ h => h) (Or.inr ⟨by rfl, rfl⟩) hHeld ?_
    try simp only [Act.put]
    refine wpAnyH_take (i := 16) (v := undef) rfl (by kernel_rfl) (by kernel_rfl) (by kernel_rfl) (fun _ _ _ h => h) (Or.inr ⟨by rfl, rfl⟩) hHeld ?_
    try simp only [Act.put]
    refine wpAnyH_ready (rs := [14, 17]) (by kernel_rfl) (by simp) ?_
    refine AllReadyH.cons rfl (fun K hK => ?_) ?_
    · go_simp
      refine hK.out _ _ (HQ.out _ hB10) (fun hHeld => ?_)
      clear hK K
      try simp only [Act.put, List.setIfInBounds_toArray, List.set_cons_zero, List.set_cons_succ]
      refine wpAnyH_ready (rs := [17]) (by kernel_rfl) (by simp) ?_
      refine AllReadyH.cons rfl (fun K hK => ?_) AllReadyH.nil
      go_simp
      refine hK.out _ _ (HQ.out _ hB10) (fun hHeld => ?_)
      clear hK K
      try simp only [Act.put, List.setIfInBounds_toArray, List.set_cons_zero, List.set_cons_succ]
      refine wpAnyH_ready (rs := [18]) (by kernel_rfl) (by simp) ?_
      refine AllReadyH.cons rfl (fun K hK => ?_) AllReadyH.nil
      go_simp
      refine hK.out _ _ (HQ.out _ hB10) (fun hHeld => ?_)
      clear hK K
      try simp only [Act.put, List.setIfInBounds_toArray, List.set_cons_zero, List.set_cons_succ]
      refine wpAnyH_take (i := 19) (oi := { dst := some 99, op := Op.pick (Operand.tmp 90) (Operand.const (Value.bool true)) (Operand.tmp 98), type := 4, pos := "law.go:50", after := #[{ on := 10, ground := Ground.data }, { on := 18, ground := Ground.data }], guard := none }) (v := ?_) rfl (by kernel_rfl) (by kernel_rfl) (by kernel_rfl) (fun _ _ _ h => h) (Or.inl ⟨by rfl, ?_⟩) hHeld ?_
      rotate_left
      · intro w hSw
        try dsimp only at hSw
        go_simp
        with_reducible rfl
      try simp only [Act.put, List.setIfInBounds_toArray, List.set_cons_zero, List.set_cons_succ]
      refine wpAnyH_take (i := 20) (oi := { dst := some 8, op := Op.assign (Operand.tmp 99), type := 4, pos := "law.go:50", after := #[{ on := 19, ground := Ground.data }, { on := 18, ground := Ground.chain }, { on := 0, ground := Ground.phase }, { on := 1, ground := Ground.phase }, { on := 2, ground := Ground.phase }, { on := 3, ground := Ground.phase }, { on := 4, ground := Ground.phase }, { on := 5, ground := Ground.phase }, { on := 6, ground := Ground.phase }, { on := 7, ground := Ground.phase }, { on := 8, ground := Ground.phase }, { on := 9, ground := Ground.phase }, { on := 10, ground := Ground.phase }, { on := 11, ground := Ground.phase }, { on := 12, ground := Ground.phase }, { on := 13, ground := Ground.phase }, { on := 14, ground := Ground.phase }, { on := 15, ground := Ground.phase }, { on := 16, ground := Ground.phase }, { on := 17, ground := Ground.phase }, { on := 18, ground := Ground.phase }, { on := 19, ground := Ground.phase }], guard := none }) (v := ?_) rfl (by kernel_rfl) (by kernel_rfl) (by kernel_rfl) (fun _ _ _ h => h) (Or.inl ⟨by rfl, ?_⟩) hHeld ?_
      rotate_left
      · intro w hSw
        try dsimp only at hSw
        go_simp
        with_reducible rfl
      try simp only [Act.put, List.setIfInBounds_toArray, List.set_cons_zero, List.set_cons_succ]
      refine wpAnyH_done (by kernel_rfl) ?_ _
      go_wp2
      go_ret
      exact ⟨rfl, hbc.trans (hB10.mono hbc.size)⟩
    refine AllReadyH.cons rfl (fun K hK => ?_) AllReadyH.nil
    go_simp
    refine hK.out _ _ (HQ.out _ hB10) (fun hHeld => ?_)
    clear hK K
    try simp only [Act.put, List.setIfInBounds_toArray, List.set_cons_zero, List.set_cons_succ]
    refine wpAnyH_ready (rs := [14]) (by kernel_rfl) (by simp) ?_
    refine AllReadyH.cons rfl (fun K hK => ?_) AllReadyH.nil
    go_simp
    refine hK.out _ _ (HQ.out _ hB10) (fun hHeld => ?_)
    clear hK K
    try simp only [Act.put, List.setIfInBounds_toArray, List.set_cons_zero, List.set_cons_succ]
    refine wpAnyH_ready (rs := [18]) (by kernel_rfl) (by simp) ?_
    refine AllReadyH.cons rfl (fun K hK => ?_) AllReadyH.nil
    go_simp
    refine hK.out _ _ (HQ.out _ hB10) (fun hHeld => ?_)
    clear hK K
    try simp only [Act.put, List.setIfInBounds_toArray, List.set_cons_zero, List.set_cons_succ]
    refine wpAnyH_take (i := 19) (oi := { dst := some 99, op := Op.pick (Operand.tmp 90) (Operand.const (Value.bool true)) (Operand.tmp 98), type := 4, pos := "law.go:50", after := #[{ on := 10, ground := Ground.data }, { on := 18, ground := Ground.data }], guard := none }) (v := ?_) rfl (by kernel_rfl) (by kernel_rfl) (by kernel_rfl) (fun _ _ _ h => h) (Or.inl ⟨by rfl, ?_⟩) hHeld ?_
    rotate_left
    · intro w hSw
      try dsimp only at hSw
      go_simp
      with_reducible rfl
    try simp only [Act.put, List.setIfInBounds_toArray, List.set_cons_zero, List.set_cons_succ]
    refine wpAnyH_take (i := 20) (oi := { dst := some 8, op := Op.assign (Operand.tmp 99), type := 4, pos := "law.go:50", after := #[{ on := 19, ground := Ground.data }, { on := 18, ground := Ground.chain }, { on := 0, ground := Ground.phase }, { on := 1, ground := Ground.phase }, { on := 2, ground := Ground.phase }, { on := 3, ground := Ground.phase }, { on := 4, ground := Ground.phase }, { on := 5, ground := Ground.phase }, { on := 6, ground := Ground.phase }, { on := 7, ground := Ground.phase }, { on := 8, ground := Ground.phase }, { on := 9, ground := Ground.phase }, { on := 10, ground := Ground.phase }, { on := 11, ground := Ground.phase }, { on := 12, ground := Ground.phase }, { on := 13, ground := Ground.phase }, { on := 14, ground := Ground.phase }, { on := 15, ground := Ground.phase }, { on := 16, ground := Ground.phase }, { on := 17, ground := Ground.phase }, { on := 18, ground := Ground.phase }, { on := 19, ground := Ground.phase }], guard := none }) (v := ?_) rfl (by kernel_rfl) (by kernel_rfl) (by kernel_rfl) (fun _ _ _ h => h) (Or.inl ⟨by rfl, ?_⟩) hHeld ?_
    rotate_left
    · intro w hSw
      try dsimp only at hSw
      go_simp
      with_reducible rfl
    try simp only [Act.put, List.setIfInBounds_toArray, List.set_cons_zero, List.set_cons_succ]
    refine wpAnyH_done (by kernel_rfl) ?_ _
    go_wp2
    go_ret
    exact ⟨rfl, hbc.trans (hB10.mono hbc.size)⟩

end Go.Proofs.Ythdfmndompfgaaa
