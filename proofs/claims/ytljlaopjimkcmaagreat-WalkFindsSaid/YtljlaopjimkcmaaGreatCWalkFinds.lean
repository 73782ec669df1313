/-
  WalkFinds: whatever may be done, step by step, to its end, its class is among those that are told: the law answers true, and its arguments read as they did.
  For every input, whatever its size and however its parts share memory; nothing is asked of it but what the statement's own form asks.
-/
import Derived.WalkKit
import Derived.ProofKit
import Derived.OpenShut
import Derived.Test.YtljlaopjimkcmaaGreatRows
import Derived.Test.YtljlaopjimkcmaaGreatPk05
import Derived.Test.YtljlaopjimkcmaaGreatPk09
import Derived.Test.YtljlaopjimkcmaaGreatPk10

/- The law WalkFinds, walked. -/
namespace Go.Proofs.YtljlaopjimkcmaaGreat
open Go.RowKit

set_option maxRecDepth 100000 in
set_option maxHeartbeats 8000000 in
theorem walkFinds_any (p : Pg) (a : Option Addr) (cap : Nat) (fuel : Int) (ba : Option Addr) (ns : List Int) (bcap : Nat) (w : World) (hp : ThreadsAt w a p.threads) (hbs : BytesAt w ba ns) (hns : ∀ n ∈ ns, 0 ≤ n ∧ n < 256) :
    Calls Tryz.prog 4 #[.agg #[.int .i64 p.vars, .int .i64 p.mutexes, .slice a p.threads.length cap], .int .i64 fuel, .slice ba ns.length bcap] w fun r w' => r = .returned (.bool true) ∧ Below w.heap.size w w' := by
  have HP := Lib.hid hp
  have HBS := Lib.hid hbs
  have HNS := Lib.hid hns
  have HBX : Hid (∀ W, Below (w.alloc (.cells #[.int .i64 p.vars, .int .i64 p.mutexes, .slice a p.threads.length cap] 24)).heap.size (w.alloc (.cells #[.int .i64 p.vars, .int .i64 p.mutexes, .slice a p.threads.length cap] 24)) W → W.cell? ⟨w.heap.size, 0, none⟩ = some (.int .i64 p.vars) ∧ W.cell? ⟨w.heap.size, 1, none⟩ = some (.int .i64 p.mutexes) ∧ W.cell? ⟨w.heap.size, 2, none⟩ = some (.slice a p.threads.length cap)) := fun W h => ⟨cell_later h (by simp), cell_later h (by simp), cell_later h (by simp)⟩
  have hb1 : Below w.heap.size w (w.alloc (.cells #[.int .i64 p.vars, .int .i64 p.mutexes, .slice a p.threads.length cap] 24)) := below_alloc1 w _
  clear hp hbs hns
  go_enter Tryz.func4, Tryz.ntmps4
  go_wp2_with fail
  generalize w.alloc (.cells #[.int .i64 p.vars, .int .i64 p.mutexes, .slice a p.threads.length cap] 24) = W1 at *
  refine (awake6_any W1).mono ?_
  rintro r W2 ⟨rfl, hb2⟩
  obtain ⟨c0, c1, c2⟩ := HBX.out W2 hb2
  have hb3 := hb1.trans (hb2.mono hb1.size)
  go_wp2_with fail
  refine (small_any p a cap fuel W2 (HP.out.later hb3)).mono ?_
  rintro r W3 ⟨rfl, hb4⟩
  have hb5 := hb2.trans (hb4.mono hb2.size)
  have hb6 := hb3.trans (hb4.mono hb3.size)
  clear c0 c1 c2 hb2 hb3 hb4
  obtain ⟨c0, c1, c2⟩ := HBX.out W3 hb5
  cases hf : smallPg p fuel
  · clear hf
    go_wp2_with fail
    refine (awake6_any _).mono ?_
    rintro r w3 ⟨rfl, hb3⟩
    go_wp2
    go_ret
    exact ⟨rfl, hb6.trans (hb3.mono hb6.size)⟩
  obtain ⟨_, hok, hle⟩ := small_yes hf
  clear hf
  by_cases hlen : 100 < ns.length
  · have hq : decide (100 < (ns.length : Int)) = true := by simp; omega
    go_wp2_with fail
    refine (awake6_any _).mono ?_
    rintro r w3 ⟨rfl, hb3⟩
    go_wp2
    go_ret
    exact ⟨rfl, hb6.trans (hb3.mono hb6.size)⟩
  have hq : decide (100 < (ns.length : Int)) = false := by simp; omega
  have HOKP := Lib.hid hok
  obtain ⟨hr, h0, h8⟩ := hok
  obtain ⟨F, rfl⟩ : ∃ F : Nat, fuel = F := ⟨fuel.toNat, by omega⟩
  have HSO : Hid (St.Ok F (s0 p (F : Int))) := by have h := new_ok hr F (by omega); exact h
  have HKEY : Hid (∀ (z : St) (row : List Ev), Ex (s0 p (F : Int)) row z → z.all = [] → keyB row ∈ sortK (keysOf (runsW p (F : Int)))) := fun z row h hz => find_key HSO.out h hz
  obtain ⟨hs1, hs2⟩ := sums p (F : Int)
  obtain ⟨hk1, hk2, _⟩ := keys_bound hle
  have HA := Lib.hid (all_yes p a cap (F : Int) 600 W3 (HP.out.later hb6) (by omega) HOKP.out hle)
  have hf32 := fuel_le HSO.out
  have HNEW : Hid (∀ W, Below w.heap.size w W → Calls Tryz.prog 14 #[.agg #[.int .i64 p.vars, .int .i64 p.mutexes, .slice a p.threads.length cap], .int .i64 (F : Int)] W fun r w' => ∃ g, r = .returned (.tuple #[.pointer (some ⟨g, 0, none⟩), .int .i64 0]) ∧ W.heap.size ≤ g ∧ StAt w' g (s0 p (F : Int)) ∧ Below W.heap.size W w') := fun W h => new_yes p a cap F W (HP.out.later h) hr (by omega)
  clear hr h0 h8 hle
  go_wp2_with fail
  refine HA.out.mono ?_
  rintro r W4 ⟨v4, k4, rfl, ho4, hb7⟩
  clear c0 c1 c2 HA
  have hb8 := hb5.trans (hb7.mono hb5.size)
  have hbA := hb6.trans (hb7.mono hb6.size)
  clear hb7 hb5 hb6
  generalize sortK (keysOf (runsW p (F : Int))) = KS at *
  generalize (runsW p (F : Int)).length = N at *
  generalize preW p (F : Int) = M at *
  generalize s0 p (F : Int) = S0 at *
  have hb9 := hb8.alloc hb8.size (.cells #[.slice v4 KS.length k4, .int .i64 (N : Int), .int .i64 (M : Int)] 30)
  have hbB := hbA.alloc hbA.size (.cells #[.slice v4 KS.length k4, .int .i64 (N : Int), .int .i64 (M : Int)] 30)
  have HO4 := Lib.hid (OwnRow.alloc ho4 (.cells #[.slice v4 KS.length k4, .int .i64 (N : Int), .int .i64 (M : Int)] 30))
  have HX4 : Hid (∀ W, Below (W4.alloc (.cells #[.slice v4 KS.length k4, .int .i64 (N : Int), .int .i64 (M : Int)] 30)).heap.size (W4.alloc (.cells #[.slice v4 KS.length k4, .int .i64 (N : Int), .int .i64 (M : Int)] 30)) W → W.cell? ⟨W4.heap.size, 0, none⟩ = some (.slice v4 KS.length k4) ∧ W.cell? ⟨W4.heap.size, 1, none⟩ = some (.int .i64 (N : Int)) ∧ W.cell? ⟨W4.heap.size, 2, none⟩ = some (.int .i64 (M : Int))) := fun W h => ⟨cell_later h (by simp), cell_later h (by simp), cell_later h (by simp)⟩
  obtain ⟨c0, c1, c2⟩ := HBX.out _ hb9
  clear ho4 hb8 hbA
  go_wp2_with fail
  clear c0 c1 c2
  generalize W4.alloc (.cells #[.slice v4 KS.length k4, .int .i64 (N : Int), .int .i64 (M : Int)] 30) = W5 at *
  refine (HNEW.out W5 hbB).mono ?_
  rintro r W6 ⟨g, rfl, hg, hs6, hb56⟩
  have HS6 := Lib.hid hs6
  have hg6 := hs6.lt
  have HR5 : Hid (RowAt W5 v4 1 strCell KS) := by
    obtain ⟨a', c', hv, hr, _⟩ := OwnRow.form HO4.out strCell_len (by omega)
    injection hv with h1 _ _
    subst h1
    exact hr
  have hz56 := hb56.size
  clear hs6 HO4 HNEW HBX hb9 hq
  go_wp2_with fail
  go_loopw [11, 12] (fun v i wr => ∃ (row : List Ev) (s : St), i = .int .i64 row.length ∧ row.length + s.fuel ≤ 32 ∧ Hid (Ex S0 row s) ∧ Hid (s.Ok F) ∧ Hid (StAt wr g s) ∧ Hid (OwnE wr W6.heap.size v row) ∧ Hid (Below W5.heap.size W5 wr) ∧ W6.heap.size ≤ wr.heap.size) (fun _ i _ => 33 - (intOf i).toNat)
  case atStart => exact ⟨[], S0, rfl, by simpa using hf32, rfl, HSO.out, HS6.out, ownE_nil _ _, hb56, Nat.le_refl _⟩
  case round =>
    clear HS6 HSO
    obtain ⟨row, s, rfl, hrl, HEX, HOK, HS, HV, HB, hzr⟩ := hrel
    go_wp2_with fail
    refine (all_any HS.out HOK.out).mono ?_
    rintro r W7 ⟨va, rfl, hva, hb7⟩
    have hal : s.all.length ≤ 4 := Nat.le_trans s.all_len HOK.out.len4
    obtain ⟨aa, ca, rfl, _, _⟩ := OwnN.form hva (by omega)
    have HS7 := Lib.hid (HS.out.later hb7)
    have HV7 := Lib.hid (HV.out.later hb7)
    have HB7 := Lib.hid (HB.out.trans (hb7.mono HB.out.size))
    have hz7 := hb7.size
    clear hva hb7
    by_cases hall : s.all = []
    · have hln : s.all.length = 0 := by rw [hall]; rfl
      have HK : Hid (keyB row ∈ KS) := HKEY.out s row HEX.out hall
      obtain ⟨ra, rc, rfl, hev⟩ := OwnE.form HV7.out (by omega)
      have HEV := Lib.hid hev
      rw [hln]
      clear hev hall hln HEX HOK HS HV HB HS7 HV7 HKEY
      go_wp2_with fail
      refine (key_any ra rc row W7 HEV.out).mono ?_
      rintro r W8 ⟨rfl, hb8⟩
      have HB8 := Lib.hid (HB7.out.trans (hb8.mono HB7.out.size))
      have hkb : bstr (keyF row) = ⟨(keyB row).toArray⟩ := rfl
      rw [hkb]
      generalize keyB row = K at *
      obtain ⟨x0, x1, x2⟩ := HX4.out W8 HB8.out
      clear hb8 hkb HEV HB7
      go_wp2_with fail
      go_loopw [97] (fun i wr => ∃ j : Nat, j ≤ KS.length ∧ i = .int .i64 j ∧ Hid (K ∉ KS.take j) ∧ Hid (Below W8.heap.size W8 wr)) (fun i _ => KS.length - (intOf i).toNat)
      case atStart => exact ⟨0, Nat.zero_le _, rfl, by simp [Hid], Below.refl _ _⟩
      case round =>
        obtain ⟨j, hj, rfl, HNK, HB9⟩ := hrel
        have HB10 := Lib.hid (HB8.out.trans (HB9.out.mono HB8.out.size))
        clear x0 x1 x2
        by_cases hlt : j < KS.length
        · obtain ⟨b, o, rfl, d0⟩ := (HR5.out.later HB10.out).str hlt
          obtain ⟨x0, x1, x2⟩ := HX4.out _ HB10.out
          have hx2 : Hid (KS[j] ≠ K → K ∉ KS.take (j + 1)) := fun h => by
            rw [List.take_succ_eq_append_getElem hlt, List.mem_append, List.mem_singleton]
            rintro (e | e)
            · exact HNK.out e
            · exact h e.symm
          generalize KS[j] = x at *
          by_cases hxy : x = K
          · have hq : (x == K) = true := by simp [hxy]
            clear hxy hx2
            have HFIN := Lib.hid (hbB.trans (HB10.out.mono hbB.size))
            have hq1 : decide (KS.length ≤ N) = true := by simpa using hs1
            rcases hs2 with hs2 | hs2
            · have hq2 : decide (N < M) = true := by simpa using hs2
              go_wp2_with fail
              go_ret
              exact ⟨ret_bool (by first | rfl | simp), HFIN.out⟩
            · subst hs2
              go_wp2_with fail
              go_ret
              exact ⟨ret_bool (by first | rfl | simp), HFIN.out⟩
          · have hq : (x == K) = false := by simp [hxy]
            have HN2 := Lib.hid (hx2.out hxy)
            clear hxy hx2
            go_wp2_with fail
            go_roundw
            case rel => exact ⟨j + 1, by omega, by go_num, HN2.out, HB9.out⟩
            case measure => simp [intOf]; omega
        · obtain rfl : j = KS.length := by omega
          have h := HNK.out
          rw [List.take_length] at h
          exact absurd HK.out h
    · have hln : (0 : Int) < (s.all.length : Int) := by have := List.length_pos_iff.2 hall; omega
      have HALL := Lib.hid hall
      clear hall
      go_wp2_with fail
      refine (all_any HS7.out HOK.out).mono ?_
      rintro r W8 ⟨vb, rfl, hvb, hb8⟩
      obtain ⟨ab, cb, rfl, hnb, _⟩ := OwnN.form hvb (by omega)
      obtain ⟨bb, ob, rfl, hcb⟩ := hnb.2 HALL.out
      have HCB := Lib.hid hcb
      have HS8 := Lib.hid (HS7.out.later hb8)
      have HV8 := Lib.hid (HV7.out.later hb8)
      have HB8 := Lib.hid (HB7.out.trans (hb8.mono HB7.out.size))
      have hz8 := hb8.size
      clear hvb hnb hcb hb8 HS7 HV7 HB7 HS HV HB
      go_upto_if 63 with (fail)
      go_cut [14] (fun s14 wx => ∃ j : Nat, j < s.all.length ∧ s14 = .int .i64 j ∧ W8 = wx)
      case first =>
        by_cases hk : row.length < ns.length
        · obtain ⟨b, o, rfl, hbc⟩ := HBS.out.2 (by intro e; rw [e] at hk; simp at hk)
          have d0 := cell_later (hbB.trans (HB8.out.mono hbB.size)) (hbc _ hk)
          have hn := HNS.out _ (List.getElem_mem hk)
          generalize ns[row.length] = y at *
          have e1 : IntKind.i64.wrap y = y := IntWalk.i64_in _ (by omega)
          obtain ⟨j, e2, hj⟩ := tmod_nat y hn.1 s.all.length (by omega)
          have e3 : IntKind.i64.wrap (j : Int) = j := IntWalk.i64_in _ (by omega)
          have hne : ¬ ((s.all.length : Int) = 0) := by omega
          clear hbc hn
          go_wp2_with fail
          go_meet
          exact ⟨j, hj, rfl, rfl⟩
        · go_wp2_with fail
          go_meet
          exact ⟨0, by omega, rfl, rfl⟩
      case rest =>
        obtain ⟨j, hj, rfl, rfl⟩ := hcut
        have ct := HCB.out j hj
        obtain ⟨e, s1, hst, hfu⟩ := all_step' (List.getElem_mem hj)
        have HST := Lib.hid hst
        have HER := Lib.hid (ev_right HOK.out hst)
        have HEX1 := Lib.hid (ex_snoc HEX.out hst)
        have hok1 : s1.Ok F := by have h := HOK.out.step_ok s.all[j]; rw [hst] at h; exact h
        have HOK1 := Lib.hid hok1
        clear hst hok1
        generalize s.all[j] = t at *
        go_wp2_with fail
        refine (step_any HS8.out HOK.out t).mono ?_
        rintro r W9 ⟨rfl, hs9, ho9⟩
        rw [HST.out] at hs9 ⊢
        rw [stepV_ok]
        have HS9 := Lib.hid hs9
        have HV9 := Lib.hid (HV8.out.only ho9 hg6)
        have HB9 : Hid (Below W5.heap.size W5 W9) := HB8.out.trans (ho9.below hg HB8.out.size)
        have hz9 := ho9.size
        have hbx := EvBox.new W9 e
        clear hs9 ho9 ct
        go_wp2_with fail
        have hb910 := below_alloc1 W9 (.cells #[.int .i64 e.thread, .int .i64 e.kind, .int .i64 e.obj, .bool e.fail] 51)
        have hz910 : (W9.alloc (.cells #[.int .i64 e.thread, .int .i64 e.kind, .int .i64 e.obj, .bool e.fail] 51)).heap.size = W9.heap.size + 1 := World.size_alloc _ _
        generalize W9.alloc (.cells #[.int .i64 e.thread, .int .i64 e.kind, .int .i64 e.obj, .bool e.fail] 51) = W10 at *
        refine (evRight_any e W10).mono ?_
        rintro r W11 ⟨rfl, hb11⟩
        rw [HER.out]
        have hb9b := hb910.trans (hb11.mono hb910.size)
        obtain ⟨y0, y1, y2, y3⟩ := (hbx.later hb11).cells
        have HS11 := Lib.hid (HS9.out.later hb9b)
        have HV11 := Lib.hid (HV9.out.later hb9b)
        have HB11 : Hid (Below W5.heap.size W5 W11) := HB9.out.trans (hb9b.mono HB9.out.size)
        have hz11 := hb11.size
        have hsl := HS11.out.lt
        clear hb910 hb11 hbx hb9b HS9 HV9 HB9
        go_wp2_with (at_builtin; refine wp_appendE rfl _ _ rfl W6.heap.size _ row rfl (HV11.out.alloc _) ⟨W11.heap.size, 0, none⟩ rfl e (ev_new W11 e _ _ rfl) (by omega) (by simp; omega) ?_; intro v1 W12 hown12 hb12; have HO12 := Lib.hid hown12; have HS12 : Hid (StAt W12 g s1) := (hb12.block g hg6).trans (HS11.out.later (below_alloc1 _ _)); have HB12 : Hid (Below W5.heap.size W5 W12) := (HB11.out.alloc HB11.out.size _).trans (hb12.mono hz56); have hz12 := hb12.size; have hz13 := World.size_alloc W11 (.cells #[.int .i64 e.thread, .int .i64 e.kind, .int .i64 e.obj, .bool e.fail] 51); clear hown12 hb12)
        go_roundw
        case rel => exact ⟨row ++ [e], s1, by rw [List.length_append, List.length_singleton]; go_num, by rw [List.length_append, List.length_singleton]; omega, HEX1.out, HOK1.out, HS12.out, HO12.out, HB12.out, by omega⟩
        case measure => simp [intOf]; omega

end Go.Proofs.YtljlaopjimkcmaaGreat

/-
  WalkFinds: whatever may be done, step by step, to its end, its class is among those that are told: the law answers true, and its arguments read as they did.
  For every input, whatever its size and however its parts share memory; nothing is asked of it but what the statement's own form asks.
-/
namespace Go.Proofs.YtljlaopjimkcmaaGreat.walkFinds
open Go.ChangeShapes Go.WideShapes Go.ChangeAt Go.RowKit

theorem own : ownKnob Tryz.prog.godebug = none := by kernel_rfl
theorem laidOut : laidOutB Tryz.prog = true := by kernel_rfl

set_option maxRecDepth 100000 in
theorem lifted (os : Os) (started : os.Started) (H : Type) (enc : TypeId × Value → H) :
    ReturnsInHanded {} Tryz.checked os 4 .any (Rows.walkFindsSpec.pre6 enc Tryz.prog Tryz.f4 Rows.walkFindsRow.domain false) (Rows.walkFindsSpec.post enc Tryz.prog Tryz.f4 false true false false) := by
  refine returnsInHanded_of_change (C := Tryz.checked) own started (by kernel_rfl) Tryz.func4
    (ChangeSpec.witness6 (enc := enc) (C := Tryz.checked) false ⟨#[], #[.agg #[.int .i64 0, .int .i64 0, .slice none 0 0], .int .i64 0, .slice none 0 0], []⟩ 8 (by kernel_rfl) (by kernel_rfl) (by kernel_rfl) (by kernel_rfl)) ?_
  intro W base args ds gs before hval0 hW hcnd _
  have hval : ∀ (j : Nat) t v, Tryz.f4.params[j]? = some t → args[j]? = some v → Value.okWide Tryz.prog W .any base t v := hval0
  have hW' := hW
  obtain ⟨p, q, hA0, hV, rfl, hfz, hnd⟩ := hW
  have hA : DataW.TrodAll enc Tryz.prog W 0 (fun _ => true) true Tryz.f4.params.toList args.toList ds p := hA0
  rw [Tryz.params4] at hA hval
  obtain ⟨v0, vs0, d0, ds0, p0, q0, hargs, rfl, rfl, h0, r0⟩ := trodAll_cons hA
  obtain ⟨v1, vs1, d1, ds1, p1, q1, rfl, rfl, rfl, h1, r1⟩ := trodAll_cons r0
  obtain ⟨v2, vs2, d2, ds2, p2, q2, rfl, rfl, rfl, h2, r2⟩ := trodAll_cons r1
  obtain ⟨rfl, rfl, rfl⟩ := trodAll_nil r2
  obtain rfl : args = #[v0, v1, v2] := by cases args; simp_all
  obtain ⟨rfl, rfl⟩ := trodVars_none hV
  have k0 := h0
  have lt0 : ∀ x ∈ p0, x.block < W.heap.size := by obtain ⟨m, hm⟩ := k0; exact DataW.trod_lt m _ _ _ hm
  have k1 := h1
  have lt1 : ∀ x ∈ p1, x.block < W.heap.size := by obtain ⟨m, hm⟩ := k1; exact DataW.trod_lt m _ _ _ hm
  have k2 := h2
  have lt2 : ∀ x ∈ p2, x.block < W.heap.size := by obtain ⟨m, hm⟩ := k2; exact DataW.trod_lt m _ _ _ hm
  obtain ⟨pg0, a0, cap0, rfl, hx0, _⟩ := prog_of_trod (hval 0 24 v0 rfl rfl) h0
  obtain ⟨n1, rfl, hx1⟩ := int_of_trod (hval 1 3 v1 rfl rfl) h1
  obtain ⟨a2, ns2, cap2, rfl, hx2, hr2⟩ := bytes_of_trod (hval 2 42 v2 rfl rfl) h2
  clear hA0 hval0
  refine (walkFinds_any pg0 a0 cap0 n1 a2 ns2 cap2 W hx0 hx2 hr2).mono fun e W' ⟨he, bel⟩ => ?_
  subst he
  exact ⟨_, rfl, _, _, _, [], _, [], hW', trodAll_mk1 (shut_bool Tryz.underlying4 _), (trodAll_cons_mk (Below.trod laidOut (by kernel_rfl) (of_decide_eq_true (by kernel_rfl)) k0 bel lt0) (trodAll_cons_mk (Below.trod laidOut (by kernel_rfl) (of_decide_eq_true (by kernel_rfl)) k1 bel lt1) (trodAll_cons_mk (Below.trod laidOut (by kernel_rfl) (of_decide_eq_true (by kernel_rfl)) k2 bel lt2) trodAll_mk0))), rfl, bel.frame _, fun h => by cases h⟩

theorem over : Rows.walkFindsRow.holds Tryz.pinned (OpenSpec.ofChange Rows.walkFindsSpec) :=
  OpenClaim.holds_of_wide 4 Tryz.f4 rfl rfl rfl rfl rfl rfl rfl ⟨rfl, rfl, rfl, rfl, rfl⟩ rfl rfl rfl rfl rfl (by kernel_rfl) Tryz.func4 (by kernel_rfl)
    (of_decide_eq_true (by kernel_rfl)) (by unfold Func.isWrapper; first | (rw [if_pos (by decide +kernel)]; kernel_rfl) | (rw [if_neg (by decide +kernel)]; exact ⟨rfl, rfl⟩))
    (fun os started H enc _ => lifted os started H enc)

theorem proved : Rows.WalkFindsSaid := over
end Go.Proofs.YtljlaopjimkcmaaGreat.walkFinds
