/- Texts of the proof of TreePlays. -/
import Derived.Deep.DeepCutAuto
import Derived.Deep.CutBlock
import Derived.Deep.RegionHeld3
import Derived.Test.YtkphdmfcmfojeaaCTreePlays01
import Derived.Test.YtkphdmfcmfojeaaPk07
import Derived.Test.YtkphdmfcmfojeaaPk09

/- The law TreePlays, walked. -/
namespace Go.Proofs.Ytkphdmfcmfojeaa
open Go.RowKit

set_option maxRecDepth 100000 in
set_option maxHeartbeats 16000000 in
theorem treePlays_any (p : Pg) (a : Option Addr) (cap : Nat) (fuel : Int) (oa : Option Addr) (ol : List TOp) (oc : Nat) (w : World) (hp : ThreadsAt w a p.threads) (ha : a = none → cap = 0) (hord : RowAt w oa 4 opCell ol) (hset : ∀ o ∈ ol, o.set < 256 ∧ o.pre.length ≤ maxLen) :
    Calls Try.prog 3 #[.agg #[.int .i64 p.vars, .int .i64 p.mutexes, .slice a p.threads.length cap], .int .i64 fuel, .slice oa ol.length oc] w fun r w' => r = .returned (.bool true) ∧ Below w.heap.size w w' := by
  have HP := Lib.hid hp
  have HA := Lib.hid ha
  have HOP : Hid (∀ W, Below w.heap.size w W → RowAt W oa 4 opCell ol) := fun W hb => hord.later hb
  have HSET : Hid (∀ o ∈ ol, o.set < 256) := fun o ho => (hset o ho).1
  have HBX : Hid (∀ W, Below (w.alloc (.cells #[.int .i64 p.vars, .int .i64 p.mutexes, .slice a p.threads.length cap] 24)).heap.size (w.alloc (.cells #[.int .i64 p.vars, .int .i64 p.mutexes, .slice a p.threads.length cap] 24)) W → W.cell? ⟨w.heap.size, 0, none⟩ = some (.int .i64 p.vars) ∧ W.cell? ⟨w.heap.size, 1, none⟩ = some (.int .i64 p.mutexes) ∧ W.cell? ⟨w.heap.size, 2, none⟩ = some (.slice a p.threads.length cap)) := fun W hb => ⟨cell_later hb (by simp), cell_later hb (by simp), cell_later hb (by simp)⟩
  have hb1 : Below w.heap.size w (w.alloc (.cells #[.int .i64 p.vars, .int .i64 p.mutexes, .slice a p.threads.length cap] 24)) := below_alloc1 w _
  clear hp ha hord hset
  go_enter Try.func3, Try.ntmps3
  go_wp2_with fail
  generalize w.alloc (.cells #[.int .i64 p.vars, .int .i64 p.mutexes, .slice a p.threads.length cap] 24) = W1 at *
  refine (awake10_any W1).mono ?_
  rintro r W2 ⟨rfl, hb2⟩
  obtain ⟨c0, c1, c2⟩ := HBX.out W2 hb2
  have hb3 := hb1.trans (hb2.mono hb1.size)
  go_wp2_with fail
  refine (few_any p a cap W2 (HP.out.later hb3)).mono ?_
  rintro r W3 ⟨rfl, hb4⟩
  have hb5 := hb2.trans (hb4.mono hb2.size)
  have hb6 := hb3.trans (hb4.mono hb3.size)
  clear c0 c1 c2 hb2 hb3 hb4
  cases hf : fewPg p
  · clear hf
    go_wp2_with fail
    refine (awake10_any _).mono ?_
    rintro r w3 ⟨rfl, hb3⟩
    go_wp2
    go_ret
    exact ⟨rfl, hb6.trans (hb3.mono hb6.size)⟩
  clear hf
  go_wp2_with fail
  refine (few10_any oa oc ol W3 (HOP.out W3 hb6)).mono ?_
  rintro r W4 ⟨rfl, hb7⟩
  have hb8 := hb5.trans (hb7.mono hb5.size)
  have hb9 := hb6.trans (hb7.mono hb6.size)
  clear hb5 hb6 hb7
  cases hfw : fewB ol
  · clear hfw
    go_wp2_with fail
    refine (awake10_any _).mono ?_
    rintro r w3 ⟨rfl, hb3⟩
    go_wp2
    go_ret
    exact ⟨rfl, hb9.trans (hb3.mono hb9.size)⟩
  obtain ⟨hlen, hpre⟩ := fewB_yes hfw
  have HPRE := Lib.hid hpre
  clear hfw hpre
  obtain ⟨c0, c1, c2⟩ := HBX.out W4 hb8
  go_wp2_with fail
  refine (newT_any p a cap fuel W4 (HP.out.later hb9) HA.out).mono ?_
  rintro r W5 hr
  unfold NewTR at hr
  clear c0 c1 c2
  cases hg : goodPg p fuel
  · rw [hg, if_neg (by simp)] at hr
    obtain ⟨rfl, hb10⟩ := hr
    have hb11 := hb9.trans (hb10.mono hb9.size)
    have hng : ¬ (rightPg p = true ∧ 0 ≤ fuel ∧ fuel ≤ 8) := fun hh => by rw [goodPg_iff.2 hh] at hg; cases hg
    obtain ⟨c0, c1, c2⟩ := HBX.out W5 (hb8.trans (hb10.mono hb8.size))
    clear hg hb8 hb9 hb10
    go_wp2_with fail
    refine (refNew_no p a cap fuel W5 (HP.out.later hb11) hng).mono ?_
    rintro r W6 ⟨rfl, hb12⟩
    have HB := Lib.hid (hb11.trans (hb12.mono hb11.size))
    go_wp2
    go_ret
    exact ⟨rfl, HB.out⟩
  rw [hg, if_pos rfl] at hr
  obtain ⟨h, rfl, hhp, hhf, hwc, ht, hb10⟩ := hr
  obtain ⟨hrp, hf0, hf8⟩ := goodPg_iff.1 hg
  obtain ⟨F, hF⟩ : ∃ F : Nat, fuel = (F : Int) := ⟨fuel.toNat, by omega⟩
  subst hF
  have hb11 := hb9.trans (hb10.mono hb9.size)
  obtain ⟨c0, c1, c2⟩ := HBX.out W5 (hb8.trans (hb10.mono hb8.size))
  go_wp2_with fail
  refine (refNew_yes p a cap F W5 (HP.out.later hb11) hrp (by omega)).mono ?_
  rintro r W6 ⟨rb, rt, rtc, rfl, hrb, hrt, hrat, hb12⟩
  have hb13 := hb11.trans (hb12.mono hb11.size)
  have HI0 : Hid (∃ H : RtH, H.b = W6.heap.size ∧ H.p = p ∧ TwoF h H w ∧ PlaysT h H w 0 (W6.alloc (.cells #[.pointer (some ⟨rb, 0, none⟩), .slice none 0 0, .int .i64 0] 38))) := by
    have hbA := below_alloc1 W6 (.cells #[.pointer (some ⟨rb, 0, none⟩), .slice none 0 0, .int .i64 0] 38)
    have hlow : w.heap.size ≤ h.wc.heap.size := Nat.le_trans hb9.size hwc
    have hsz := (ht.later hb12).below.size
    refine ⟨⟨W6.heap.size, rb, rt, rtc, a, cap, h.wc.heap.size, w, p, F⟩, rfl, rfl, ⟨hhp, hhf, rfl, hlow, Nat.le_refl _⟩, [], [], 0, [], [], .slice none 0 0, ⟨(ht.later hb12).later hbA, ⟨HP.out, hb13.trans (hbA.mono hb13.size), hlow, by rw [World.size_alloc]; exact Nat.le_succ_of_le hsz, hg, hrat.later hbA, hsz, by simp, heap_alloc_new W6 _, ownRow_nil _ _ _ _ _, rfl, fun i h1 _ => absurd h1 (Nat.not_lt_zero _), by simp, by simp, fun i j hi _ _ _ _ => absurd hi (Nat.not_lt_zero _)⟩, sameT_nil 0, by simp⟩⟩
  clear c0 c1 c2 hb8 hb9 hb10 hb11 hb12 hb13 hrb hrt hrat hg hhp hhf hwc ht HBX hb1 hrp hf0 hf8
  go_wp2_with fail
  generalize hG : W6.alloc (.cells #[.pointer (some ⟨rb, 0, none⟩), .slice none 0 0, .int .i64 0] 38) = W7 at *
  clear hG
  obtain ⟨H, hHb, hHp, HF, hpl⟩ := HI0.out
  rw [← hHb]
  have HPL := Lib.hid hpl
  have HFX := Lib.hid HF
  clear HI0 hpl HF hHb hHp
  go_loopw [12, 13, 14, 15, 16, 17, 18, 19, 20, 21, 22, 23, 24, 25, 26, 27, 28, 29, 30, 31, 67] (fun _ _ _ _ _ _ _ _ _ _ _ _ _ _ _ _ _ _ _ _ i wr => ∃ j : Nat, j ≤ ol.length ∧ i = .int .i64 j ∧ Hid (PlaysT h H w j wr)) (fun _ _ _ _ _ _ _ _ _ _ _ _ _ _ _ _ _ _ _ _ i _ => ol.length - (intOf i).toNat)
  case atStart => exact ⟨0, Nat.zero_le _, rfl, HPL⟩
  case round =>
    clear HPL
    obtain ⟨j, hj, rfl, HI⟩ := hrel
    by_cases hlt : j < ol.length
    · obtain ⟨gs, l, cl, ms, rl, vN, T⟩ := HI.out
      obtain ⟨b, o, rfl, e0, e1, e2, e3⟩ := (HOP.out _ (T.below HFX.out)).op hlt
      have hz := HSET.out _ (List.getElem_mem hlt)
      have hq40 := HPRE.out _ (List.getElem_mem hlt)
      generalize ol[j] = x at *
      obtain ⟨xk, xn, xp, xz⟩ := x
      dsimp only at e0 e1 e2 e3 hz hq40
      have HT6 := Lib.hid (T.later (below_alloc1 wr (.cells #[.int .i64 xk, .int .i64 xn, .string ⟨xp.toArray⟩, .int .u8 (xz : Nat)] 40)))
      have HBK : Hid (OpBox (wr.alloc (.cells #[.int .i64 xk, .int .i64 xn, .string ⟨xp.toArray⟩, .int .u8 (xz : Nat)] 40)) wr.heap.size xk xn xp xz) := heap_alloc_new wr _
      clear T HI
      go_upto_region 12 with (fail)
      generalize wr.alloc (.cells #[.int .i64 xk, .int .i64 xn, .string ⟨xp.toArray⟩, .int .u8 (xz : Nat)] 40) = W6 at *
      generalize wr.heap.size = G at *
      clear e0 e1 e2 e3
      obtain ⟨_, _, _, f3⟩ := HBK.out.cells
      go_wp2_with fail
      refine (refBits_any hz _).mono ?_
      rintro r W7 ⟨v7, rfl, hown7, hb7⟩
      obtain ⟨ys, hys⟩ : ∃ ys, ys = ints (bitsL xz) := ⟨_, rfl⟩
      rw [← hys] at hown7
      have hyl : ys.length ≤ 8 := by rw [hys, ints_len]; exact bitsL_len xz
      obtain ⟨ya, yc, rfl, _⟩ := OwnN.form hown7 (by omega)
      have HYS := Lib.hid hys
      have HS : Hid (SideT h H G xk xn xp xz (.slice ya ys.length yc) ys gs l cl ms rl vN cl W7) := ⟨HT6.out.pt.later hb7, HT6.out.rt.later hb7, HBK.out.later hb7, ownN_low hown7 HT6.out.rt.size, fun x hx hr => by
        have h1 := (hown7.kind hx).1
        have h2 := HT6.out.rt.lt x hr
        omega⟩
      have HSM := Lib.hid HT6.out.same
      have HCL := Lib.hid HT6.out.cl0
      have HOK := Lib.hid HT6.out.pt.ok
      clear HT6 HBK f3 hown7 hb7 hys
      obtain ⟨f0, f1, f2, f3⟩ := HS.out.box.cells
      have hl6 : l.length ≤ 1000000 := by have := HSM.out.lj; omega
      have hj6 : j ≤ 100 := by omega
      go_upto_block 2 with (fail)
      go_cut [13, 14] (fun s13 s14 wx => ∃ e : Int, s13 = .int .i64 e ∧ s14 = .int .i64 e ∧ Hid (EndT h H w (j + 1) G xk xn xp xz wx))
      case first =>
        by_cases k1 : xk = 1
        · as_aux_lemma =>
            subst k1
            have hS0 := HS.out.box.ops
            have HS0 := Lib.hid (HS.out.later (Below.refl W7.heap.size W7).drew)
            have hSd := HS0.out.box.ops
            go_upto_region 20 with (fail)
            go_region_held3 (fun W => W.cell? ⟨G, 1, none⟩ = some (.int .i64 xn) ∧ W.cell? ⟨G, 2, none⟩ = some (.string ⟨xp.toArray⟩) ∧ W.cell? ⟨G, 3, none⟩ = some (.int .u8 (xz : Nat)))
              (first | with_reducible exact hS0 | with_reducible exact hSd | with_reducible exact hS8 | with_reducible exact hS9)
              (first
                | (go_at_call 16; ((with_reducible refine (side_make1 HFX.out HS0.out hz (by omega) hl6).mono ?_); rintro r W8 ⟨rfl, gs8, hs8⟩; have HS8 := Lib.hid hs8; have hS8 := hs8.box.ops; clear hs8))
                | (go_at_call 17; ((with_reducible refine (side_make2 HFX.out HS8.out HSM.out hj6 HCL.out HYS.out (by omega)).mono ?_); rintro r W9 ⟨rfl, hs9⟩; have HE9 := Lib.hid hs9; have hS9 := hs9.2.ops; clear hs9)))
            all_goals
              clear hS0 hSd hS8 hS9
              go_wp2_with fail
              go_meet
              exact ⟨_, rfl, rfl, HE9⟩
        · have q1 : (xk == 1) = false := by simpa using k1
          by_cases k2 : xk = 2
          · as_aux_lemma =>
              subst k2
              have hS0 := HS.out.box.ops
              have HS0 := Lib.hid (HS.out.later (Below.refl W7.heap.size W7).drew)
              have hSd := HS0.out.box.ops
              go_upto_region 22 with (fail)
              go_region_held3 (fun W => W.cell? ⟨G, 1, none⟩ = some (.int .i64 xn) ∧ W.cell? ⟨G, 2, none⟩ = some (.string ⟨xp.toArray⟩) ∧ W.cell? ⟨G, 3, none⟩ = some (.int .u8 (xz : Nat)))
                (first | with_reducible exact hS0 | with_reducible exact hSd | with_reducible exact hS8 | with_reducible exact hS9)
                (first
                  | (go_at_call 18; ((with_reducible refine (side_mark1 HFX.out HS0.out hz (by omega)).mono ?_); rintro r W8 ⟨rfl, gs8, hs8⟩; have HS8 := Lib.hid hs8; have hS8 := hs8.box.ops; clear hs8))
                  | (go_at_call 19; ((with_reducible refine (side_mark2 HFX.out HOK.out HS8.out HSM.out hj6 HCL.out HYS.out (by omega)).mono ?_); rintro r W9 ⟨rfl, hs9⟩; have HE9 := Lib.hid hs9; have hS9 := hs9.2.ops; clear hs9)))
              all_goals
                clear hS0 hSd hS8 hS9
                go_wp2_with fail
                go_meet
                exact ⟨_, rfl, rfl, HE9⟩
          · have q2 : (xk == 2) = false := by simpa using k2
            by_cases k3 : xk = 3
            · as_aux_lemma =>
                subst k3
                go_wp2_with fail
                refine (side_claim1 HFX.out HS.out hj6 HCL.out (by omega)).mono ?_
                rintro r W8 ⟨rfl, hs8⟩
                have HS8 := Lib.hid hs8
                obtain ⟨_, g1, g2, _⟩ := hs8.box.cells
                clear hs8 f0 f1 f2 f3
                go_wp2_with fail
                refine (side_claim2 HFX.out HOK.out HS8.out HSM.out hj6 HCL.out (by omega)).mono ?_
                rintro r W9 ⟨ca, cc, cs, rfl, hcs, hcn, hc8, he9⟩
                have HE9 := Lib.hid he9
                clear he9 g1 g2 HS8
                generalize (claimT h.p h.fuel l xp xn).1 = e7 at *
                generalize (claimT h.p h.fuel l xp xn).2.1 = x7 at *
                generalize (claimT h.p h.fuel l xp xn).2.2.1 = c7 at *
                have hcl : cs.length ≤ 8 := by rw [hcs, ints_len]; exact bitsL_len c7
                have HCN := Lib.hid hcn
                have HCS := Lib.hid hcs
                clear hcn hcs
                go_wp2_with fail
                refine (setAll_any hc8 _).mono ?_
                rintro r W10 ⟨v10, rfl, hown10, hb10⟩
                rw [← HCS.out] at hown10
                obtain ⟨da, dc, rfl, hdn, _⟩ := OwnN.form hown10 (by omega)
                have HE10 := Lib.hid (HE9.out.later HFX.out hb10)
                have HCN10 := Lib.hid (HCN.out.later hb10)
                have HDN := Lib.hid hdn
                clear hown10 hb10 hdn
                go_wp2_with fail
                refine (sameInts_any da ca dc cc cs cs W10 HDN.out HCN10.out).mono ?_
                rintro r W11 ⟨rfl, hb11⟩
                have hdd : decide (cs = cs) = true := by simp
                rw [hdd]
                have HE11 := Lib.hid (HE10.out.later HFX.out hb11)
                clear hdd hb11
                go_wp2_with fail
                go_meet
                exact ⟨_, rfl, rfl, HE11⟩
            · as_aux_lemma =>
                have q3 : (xk == 3) = false := by simpa using k3
                go_wp2_with fail
                refine (side_hand1 HFX.out HS.out (by omega)).mono ?_
                rintro r W8 ⟨rfl, hs8⟩
                have HS8 := Lib.hid hs8
                obtain ⟨_, g1, g2, _⟩ := hs8.box.cells
                have hfd := refFind_any hs8.rt xp (by have := HSM.out.len; omega)
                cases hi : idxT l xp with
                | none =>
                  rw [blkR_none (by rw [HSM.out.idx]; exact hi)] at hfd
                  have hh : handT l xp xn = (6, l) := by unfold handT; rw [hi]
                  have HE8 : Hid (EndT h H w (j + 1) G xk xn xp xz W8) := by
                    rw [hh] at hs8
                    exact hs8.same (HSM.out.mono (by omega)) ⟨HCL.out.1, by have := HCL.out.2; omega⟩
                  rw [hh]
                  have HFD := Lib.hid hfd
                  clear hfd hs8 hi f0 f1 f2 f3
                  dsimp only
                  go_wp2_with fail
                  refine HFD.out.mono ?_
                  rintro r W9 ⟨rfl, rfl⟩
                  unfold ptrV
                  simp only [Option.map]
                  go_wp2_with fail
                  go_meet
                  exact ⟨_, rfl, rfl, HE8⟩
                | some i =>
                  obtain ⟨hil, _⟩ := idxT_some hi
                  have him : i < ms.length := by rw [hs8.rt.len, ← HSM.out.len]; exact hil
                  rw [blkR_some (by rw [HSM.out.idx]; exact hi) him] at hfd
                  have hh : (handT l xp xn).1 = 0 := by unfold handT; rw [hi]
                  have HE8 : Hid (EndT h H w (j + 1) G xk xn xp xz (W8.setCell ⟨ms[i].g, 1, none⟩ (.int .i64 xn))) := side_hand2 HFX.out hs8 HSM.out HCL.out hi him
                  have hir : i < rl.length := by rw [← HSM.out.len]; exact hil
                  obtain ⟨_, k1', _⟩ := (hs8.rt.nodes i him hir).cells
                  have kf := frozen_of_box (hs8.rt.nodes i him hir).box 1
                  rw [hh]
                  have HFD := Lib.hid hfd
                  generalize ms[i].g = g at *
                  generalize rl[i].own = ro at *
                  clear hfd hs8 hi f0 f1 f2 f3 hh
                  go_wp2_with fail
                  refine HFD.out.mono ?_
                  rintro r W9 ⟨rfl, rfl⟩
                  unfold ptrV
                  simp only [Option.map]
                  go_wp2_with fail
                  go_meet
                  exact ⟨_, rfl, rfl, HE8⟩
      case rest =>
        obtain ⟨e9, rfl, rfl, HE⟩ := hcut
        clear HS HSM HCL HOK HYS f0 f1 f2 f3
        obtain ⟨gs2, l2, cl2, ms2, rl2, vN2, T2⟩ := HE.out.1
        have HT := Lib.hid T2
        have HBX := Lib.hid HE.out.2
        obtain ⟨_, _, f2, _⟩ := HBX.out.cells
        have hrl2 : rl2.length ≤ 1000000 := by have := T2.same.len; have := T2.same.lj; omega
        obtain ⟨q, hq⟩ : ∃ q : Option Addr, q = (blkR ms2 rl2 xp).map fun g => ⟨g, 0, none⟩ := ⟨_, rfl⟩
        have HFD : Hid (Calls Try.prog 25 #[.pointer (some ⟨H.b, 0, none⟩), .string ⟨xp.toArray⟩] wc fun r w' => r = .returned (.pointer q) ∧ wc = w') := by
          have := refFind_any T2.rt xp hrl2
          unfold ptrV at this
          rw [← hq] at this
          exact this
        have HQ := Lib.hid hq
        clear T2 HE hq
        go_wp2_with fail
        refine HFD.out.mono ?_
        rintro r W8 ⟨rfl, rfl⟩
        clear HFD
        go_upto_if 165 with (fail)
        go_cut [24, 25, 26] (fun s24 s25 s26 wx => MidL l2 xp wc s24 s25 s26 wx)
        case first =>
          have HBA : Hid (Below wc.heap.size wc ((wc.alloc (.cells #[] 3)).alloc (.cells #[] 3))) := by
            have h1 := below_alloc1 wc (.cells #[] 3)
            have h2 := below_alloc1 (wc.alloc (.cells #[] 3)) (.cells #[] 3)
            exact h1.trans (h2.mono h1.size)
          cases hi : idxT l2 xp with
          | none =>
            obtain rfl : q = none := by rw [HQ.out, blkR_none (by rw [HT.out.same.idx]; exact hi)]; rfl
            have HI := Lib.hid hi
            clear hi
            go_wp2_with fail
            go_meet
            exact midL_none HI.out HBA.out _ _
          | some i =>
            obtain ⟨hil, hpre⟩ := idxT_some hi
            have hir : i < rl2.length := by rw [← HT.out.same.len]; exact hil
            have him : i < ms2.length := by rw [HT.out.rt.len]; exact hir
            obtain ⟨g, hg⟩ : ∃ g, g = ms2[i].g := ⟨_, rfl⟩
            obtain rfl : q = some ⟨g, 0, none⟩ := by rw [HQ.out, blkR_some (by rw [HT.out.same.idx]; exact hi) him, hg]; rfl
            have hn := HT.out.same.nodes i hil hir
            have hok := HT.out.pt.ok.ok _ (List.getElem_mem hil)
            have hal : rl2[i].asl.length ≤ 1000 := by rw [hn.asl, ints_len]; have := bitsL_len l2[i].asl; omega
            have htl : rl2[i].todo.length ≤ 1000 := by have := hn.tl; omega
            have hdl : rl2[i].done.length ≤ 1000 := by have := hn.dl; omega
            obtain ⟨lv, hlv⟩ : ∃ lv, lv = ints (rl2[i].leftTo 8) := ⟨_, rfl⟩
            obtain ⟨av, hav⟩ : ∃ av, av = rl2[i].asl := ⟨_, rfl⟩
            obtain ⟨ro, hro⟩ : ∃ ro, ro = rl2[i].own := ⟨_, rfl⟩
            have hlv8 : lv.length ≤ 8 := by rw [hlv, ints_len]; exact rl2[i].left_len 8
            obtain ⟨aa, ca, ea, na, _⟩ := OwnN.form (HT.out.rt.nodes i him hir).asl (by omega)
            rw [← hav] at ea na
            have HN : Hid (∀ W, Below wc.heap.size wc W → (W.cell? ⟨g, 1, none⟩ = some (.int .i64 ro) ∧ W.cell? ⟨g, 2, none⟩ = some (.slice aa av.length ca)) ∧ NumsAt W aa av) := fun W hb => by
              obtain ⟨_, c1, c2, _, _⟩ := ((HT.out.rt.later hb).nodes i him hir).cells
              rw [ea, ← hg] at c2
              rw [← hg, ← hro] at c1
              exact ⟨⟨c1, c2⟩, na.later hb⟩
            have HLF : Hid (∀ W, Below wc.heap.size wc W → Calls Try.prog 26 #[.pointer (some ⟨g, 0, none⟩)] W fun r w' => ∃ la lc, r = .returned (.slice la lv.length lc) ∧ NumsAt w' la lv ∧ Below wc.heap.size wc w') := fun W hb => by
              have := rtLeft_any (HT.out.rt.later hb) him hir hal htl hdl
              rw [← hg, ← hlv] at this
              refine this.mono fun r w' hr => ?_
              obtain ⟨v, rfl, hv, hb2⟩ := hr
              obtain ⟨la, lc, rfl, hnum, _⟩ := OwnN.form hv (by omega)
              exact ⟨la, lc, rfl, hnum, hb.trans (hb2.mono hb.size)⟩
            have HMS : Hid (∀ W la lc, NumsAt W la lv → Below wc.heap.size wc W → MidL l2 xp wc (.int .i64 ro) (.slice la lv.length lc) (.slice aa av.length ca) W) := fun W la lc hnum hb =>
              midL_some HT.out.pt.ok HT.out.same hi hir hro hlv hav hnum (HN.out W hb).2 hb
            clear hpre hlv hav hro hg ea na hn hok hal htl hdl hi hil hir him HT HBX HQ
            go_upto_region 32 with (fail)
            generalize (wc.alloc (.cells #[] 3)).alloc (.cells #[] 3) = WA at *
            have hBd : Below wc.heap.size wc WA.drew := HBA.out.drew
            have hN0 := (HN.out _ HBA.out).1
            have hNd := (HN.out _ hBd).1
            go_region_held3 (fun W => W.cell? ⟨g, 1, none⟩ = some (.int .i64 ro) ∧ W.cell? ⟨g, 2, none⟩ = some (.slice aa av.length ca))
              (first | with_reducible exact hN0 | with_reducible exact hNd | with_reducible exact hN8)
              (first | (go_at_call 26; ((with_reducible refine (HLF.out _ hBd).mono ?_); rintro r W8 ⟨la, lc, rfl, hnum, hb8⟩; have hN8 := (HN.out _ hb8).1; have HM8 := Lib.hid (HMS.out _ la lc hnum hb8); clear hnum hb8)))
            all_goals
              clear hN0 hNd hN8 hBd
              go_wp2_with fail
              go_meet
              exact HM8.out
        case rest =>
          clear HQ
          obtain ⟨la, aa, lc, ac, lv, av, rfl, rfl, rfl, hlv, hav, hln, han, hbm⟩ := hcut
          have HT2 := Lib.hid (HT.out.later hbm)
          have HBX2 := Lib.hid (HBX.out.later hbm)
          have HLV := Lib.hid hlv
          have HAV := Lib.hid hav
          have HLN := Lib.hid hln
          have HAN := Lib.hid han
          have hlv8 : lv.length ≤ 8 := by rw [hlv, ints_len]; exact bitsL_len _
          have hav8 : av.length ≤ 8 := by rw [hav, ints_len]; exact bitsL_len _
          have has8 : aslT l2 xp < 256 := aslT_low HT.out.pt.ok
          have hee : ((e9 : Int) != e9) = false := by simp
          clear HT HBX f2 hlv hav hln han hbm
          obtain ⟨_, _, f2, _⟩ := HBX2.out.cells
          obtain ⟨ra, rc, hve, _⟩ := OwnRow.form HT2.out.rt.row ptrCell_len (by rw [List.length_map, HT2.out.rt.len]; exact hrl2)
          rw [List.length_map, HT2.out.rt.len] at hve
          have HVE := Lib.hid hve
          clear hve
          have hrr : ((rl2.length : Int) != (rl2.length : Int)) = false := by simp
          have hcc : (cl2 != cl2) = false := by simp
          rcases hr : rep h.p h.fuel (rowK xp) with ⟨e0, es, _ | s⟩
          · as_aux_lemma =>
              have hrH : rep H.p (H.F : Int) (rowK xp) = (e0, es, none) := by rw [← HFX.out.hp, ← HFX.out.hf]; exact hr
              have he0 := rep_none hr
              have hz0 : ((e0 : Int) == 0) = false := by simpa using he0
              have HRH := Lib.hid hrH
              have HR := Lib.hid hr
              clear hr hrH he0
              go_wp2_with fail
              refine (at_err HT2.out.pt (by omega) HR.out).mono ?_
              rintro r W3 ⟨rfl, hb3⟩
              have HT3 := Lib.hid (HT2.out.later hb3)
              have HBX3 := Lib.hid (HBX2.out.later hb3)
              have HLN3 := Lib.hid (HLN.out.later hb3)
              have HAN3 := Lib.hid (HAN.out.later hb3)
              clear hb3 f2
              obtain ⟨_, _, f2, _⟩ := HBX3.out.cells
              go_wp2_with fail
              refine (rtAt_any HT3.out.rt (k := xp) (by omega)).mono ?_
              rintro r W4 h4
              unfold RefAtR at h4
              rw [HRH.out] at h4
              obtain ⟨hb4, rfl⟩ := h4
              have HT4 := Lib.hid (HT3.out.later hb4)
              have HBX4 := Lib.hid (HBX3.out.later hb4)
              have HLN4 := Lib.hid (HLN3.out.later hb4)
              have HAN4 := Lib.hid (HAN3.out.later hb4)
              clear hb4 f2
              obtain ⟨_, _, f2, _⟩ := HBX4.out.cells
              have hzz : (e0 != e0) = false := by simp
              have hBo : ∀ W, Below W4.heap.size W4 W → TwoT h H w (j + 1) gs2 l2 cl2 ms2 rl2 vN2 W := fun W hb => HT4.out.later hb
              have HS : Hid (∀ W, Below W4.heap.size W4 W → (W.cell? ⟨G, 2, none⟩ = some (.string ⟨xp.toArray⟩) ∧ W.cell? ⟨H.b, 1, none⟩ = some (.slice ra rl2.length rc) ∧ W.cell? ⟨H.b, 2, none⟩ = some (.int .i64 cl2)) ∧ TwoT h H w (j + 1) gs2 l2 cl2 ms2 rl2 vN2 W) := fun W hb => by
                obtain ⟨_, b1, b2⟩ := (hBo W hb).rt.cells
                rw [HVE.out] at b1
                exact ⟨⟨(HBX4.out.later hb).cells.2.2.1, b1, b2⟩, hBo W hb⟩
              have HOW : Hid (∀ W, Below W4.heap.size W4 W → Calls Try.prog 29 #[.pointer (some ⟨h.b, 0, none⟩), .string ⟨xp.toArray⟩] W fun r w' => r = .returned (.int .i64 (ownT l2 xp)) ∧ W = w') := fun W hb => owner_any (hBo W hb).pt (k := xp) (by omega)
              have HLE : Hid (∀ W, Below W4.heap.size W4 W → Calls Try.prog 30 #[.pointer (some ⟨h.b, 0, none⟩), .string ⟨xp.toArray⟩] W fun r w' => ∃ d c, r = .returned (.slice d lv.length c) ∧ NumsAt w' d lv ∧ Below W4.heap.size W4 w') := fun W hb => by
                refine (leftT_any (hBo W hb).pt (k := xp) (by omega)).mono fun r w' hr => ?_
                obtain ⟨v, rfl, hv, hb2⟩ := hr
                rw [← HLV.out] at hv
                obtain ⟨d, c, rfl, hn, _⟩ := OwnN.form hv (by omega)
                exact ⟨d, c, rfl, hn, hb.trans (hb2.mono hb.size)⟩
              have HS1 : Hid (∀ W d c, NumsAt W d lv → Below W4.heap.size W4 W → Calls Try.prog 22 #[.slice d lv.length c, .slice la lv.length lc] W fun r w' => r = .returned (.bool true) ∧ Below W4.heap.size W4 w') := fun W d c hn hb => by
                refine (sameInts_any d la c lc lv lv W hn (HLN4.out.later hb)).mono fun r w' hr => ?_
                obtain ⟨rfl, hb2⟩ := hr
                exact ⟨by rw [decide_eq_true rfl], hb.trans (hb2.mono hb.size)⟩
              have HAS : Hid (∀ W, Below W4.heap.size W4 W → Calls Try.prog 31 #[.pointer (some ⟨h.b, 0, none⟩), .string ⟨xp.toArray⟩] W fun r w' => r = .returned (.int .u8 (aslT l2 xp : Nat)) ∧ W = w') := fun W hb => asleep_any (hBo W hb).pt (k := xp) (by omega)
              have HAL : Hid (∀ W, Below W4.heap.size W4 W → Calls Try.prog 23 #[.int .u8 (aslT l2 xp : Nat)] W fun r w' => ∃ d c, r = .returned (.slice d av.length c) ∧ NumsAt w' d av ∧ Below W4.heap.size W4 w') := fun W hb => by
                refine (setAll_any has8 W).mono fun r w' hr => ?_
                obtain ⟨v, rfl, hv, hb2⟩ := hr
                rw [← HAV.out] at hv
                obtain ⟨d, c, rfl, hn, _⟩ := OwnN.form hv (by omega)
                exact ⟨d, c, rfl, hn, hb.trans (hb2.mono hb.size)⟩
              have HS2 : Hid (∀ W d c, NumsAt W d av → Below W4.heap.size W4 W → Calls Try.prog 22 #[.slice d av.length c, .slice aa av.length ac] W fun r w' => r = .returned (.bool true) ∧ Below W4.heap.size W4 w') := fun W d c hn hb => by
                refine (sameInts_any d aa c ac av av W hn (HAN4.out.later hb)).mono fun r w' hr => ?_
                obtain ⟨rfl, hb2⟩ := hr
                exact ⟨by rw [decide_eq_true rfl], hb.trans (hb2.mono hb.size)⟩
              have HLT : Hid (∀ W, Below W4.heap.size W4 W → Calls Try.prog 32 #[.pointer (some ⟨h.b, 0, none⟩)] W fun r w' => r = .returned (.int .i64 (rl2.length : Nat)) ∧ W = w') := fun W hb => by
                have := lenT_any (hBo W hb).pt
                rw [HT4.out.same.len] at this
                exact this
              have HCM : Hid (∀ W, Below W4.heap.size W4 W → Calls Try.prog 33 #[.pointer (some ⟨h.b, 0, none⟩)] W fun r w' => r = .returned (.int .i64 cl2) ∧ W = w') := fun W hb => claims_any (hBo W hb).pt
              clear hBo f2
              generalize ownT l2 xp = ow at *
              generalize aslT l2 xp = az at *
              have hB0 : Below W4.heap.size W4 W4.drew := (Below.refl _ _).drew
              have hSz := (HS.out _ (Below.refl W4.heap.size W4)).1
              have hS0 := (HS.out _ hB0).1
              go_upto_region 35 with (fail)
              dsimp only [List.append]
              refine wp_region_held_drew (S := fun W => W.cell? ⟨G, 2, none⟩ = some (.string ⟨xp.toArray⟩) ∧ W.cell? ⟨H.b, 1, none⟩ = some (.slice ra rl2.length rc) ∧ W.cell? ⟨H.b, 2, none⟩ = some (.int .i64 cl2)) (by kernel_rfl) (by with_reducible exact hS0) (fun hHeld => ?_)
              refine wpAnyH_take (i := 0) (oi := { dst := some 191, op := Op.move (Operand.tmp 13), type := 30, pos := "law.go:92", after := #[], guard := none }) (v := ?_) rfl (by kernel_rfl) (by kernel_rfl) (by kernel_rfl) (fun _ _ _ h => h) (Or.inl ⟨by kernel_rfl, ?_⟩) hHeld ?_
              rotate_left
              · intro w hSw
                try dsimp only at hSw
                go_simp
                with_reducible rfl
              try simp only [Act.put, List.setIfInBounds_toArray, List.set_cons_zero, List.set_cons_succ]
              refine wpAnyH_take (i := 1) (oi := { dst := some 192, op := Op.move (Operand.tmp 14), type := 3, pos := "law.go:92", after := #[], guard := none }) (v := ?_) rfl (by kernel_rfl) (by kernel_rfl) (by kernel_rfl) (fun _ _ _ h => h) (Or.inl ⟨by kernel_rfl, ?_⟩) hHeld ?_
              rotate_left
              · intro w hSw
                try dsimp only at hSw
                go_simp
                with_reducible rfl
              try simp only [Act.put, List.setIfInBounds_toArray, List.set_cons_zero, List.set_cons_succ]
              refine wpAnyH_take (i := 2) (oi := { dst := some 193, op := Op.binOp BinOp.neq 3 (Operand.tmp 191) (Operand.tmp 192) 3, type := 4, pos := "law.go:92", after := #[{ on := 0, ground := Ground.data }, { on := 1, ground := Ground.data }], guard := none }) (v := ?_) rfl (by kernel_rfl) (by kernel_rfl) (by kernel_rfl) (fun _ _ _ h => h) (Or.inl ⟨by kernel_rfl, ?_⟩) hHeld ?_
              rotate_left
              · intro w hSw
                try dsimp only at hSw
                go_simp
                with_reducible rfl
              try simp only [Act.put, List.setIfInBounds_toArray, List.set_cons_zero, List.set_cons_succ]
              refine wpAnyH_take (i := 3) (oi := { dst := some 194, op := Op.move (Operand.tmp 193), type := 4, pos := "law.go:92", after := #[{ on := 2, ground := Ground.data }], guard := none }) (v := ?_) rfl (by kernel_rfl) (by kernel_rfl) (by kernel_rfl) (fun _ _ _ h => h) (Or.inl ⟨by kernel_rfl, ?_⟩) hHeld ?_
              rotate_left
              · intro w hSw
                try dsimp only at hSw
                go_simp
                with_reducible rfl
              try simp only [Act.put, List.setIfInBounds_toArray, List.set_cons_zero, List.set_cons_succ]
              refine wpAnyH_take (i := 4) (oi := { dst := some 195, op := Op.move (Operand.tmp 7), type := 29, pos := "law.go:92", after := #[{ on := 3, ground := Ground.guard }], guard := some (3, false) }) (v := ?_) rfl (by kernel_rfl) (by kernel_rfl) (by kernel_rfl) (fun _ _ _ h => h) (Or.inl ⟨by kernel_rfl, ?_⟩) hHeld ?_
              rotate_left
              · intro w hSw
                try dsimp only at hSw
                go_simp
                with_reducible rfl
              try simp only [Act.put, List.setIfInBounds_toArray, List.set_cons_zero, List.set_cons_succ]
              refine wpAnyH_take (i := 5) (oi := { dst := some 196, op := Op.fieldAddr 40 (Operand.tmp 12) 2, type := 0, pos := "law.go:92", after := #[{ on := 3, ground := Ground.guard }], guard := some (3, false) }) (v := ?_) rfl (by kernel_rfl) (by kernel_rfl) (by kernel_rfl) (fun _ _ _ h => h) (Or.inl ⟨by kernel_rfl, ?_⟩) hHeld ?_
              rotate_left
              · intro w hSw
                try dsimp only at hSw
                go_simp
                with_reducible rfl
              try simp only [Act.put, List.setIfInBounds_toArray, List.set_cons_zero, List.set_cons_succ]
              refine wpAnyH_take (i := 6) (oi := { dst := some 197, op := Op.load 9 (Operand.tmp 196), type := 9, pos := "law.go:92", after := #[{ on := 5, ground := Ground.data }, { on := 3, ground := Ground.guard }], guard := some (3, false) }) (v := ?_) rfl (by kernel_rfl) (by kernel_rfl) (by kernel_rfl) (fun _ _ _ h => h) (Or.inl ⟨by kernel_rfl, ?_⟩) hHeld ?_
              rotate_left
              · intro w hSw
                try dsimp only at hSw
                go_simp
                with_reducible rfl
              try simp only [Act.put, List.setIfInBounds_toArray, List.set_cons_zero, List.set_cons_succ]
              refine wpAnyH_take (i := 8) (oi := { dst := some 199, op := Op.move (Operand.tmp 24), type := 3, pos := "law.go:92", after := #[{ on := 3, ground := Ground.guard }], guard := some (3, false) }) (v := ?_) rfl (by kernel_rfl) (by kernel_rfl) (by kernel_rfl) (fun _ _ _ h => h) (Or.inl ⟨by kernel_rfl, ?_⟩) hHeld ?_
              rotate_left
              · intro w hSw
                try dsimp only at hSw
                go_simp
                with_reducible rfl
              try simp only [Act.put, List.setIfInBounds_toArray, List.set_cons_zero, List.set_cons_succ]
              refine wpAnyH_ready (rs := [7]) (by kernel_rfl) (by simp) ?_
              refine AllReadyH.cons (o := { dst := some 198, op := Op.call { callee := Callee.value (Operand.func 29), args := #[Operand.tmp 195, Operand.tmp 197], argTypes := #[29, 9] }, type := 3, pos := "law.go:92", after := #[{ on := 4, ground := Ground.data }, { on := 6, ground := Ground.data }, { on := 3, ground := Ground.chain }, { on := 3, ground := Ground.guard }], guard := some (3, false) }) rfl (fun K hK => ?_) AllReadyH.nil
              go_simp
              refine (HOW.out _ hB0).mono ?_
              rintro r Wo ⟨rfl, rfl⟩
              refine hK.out _ _ hHeld (fun hHeld => ?_)
              clear hK K
              try simp only [Act.put, List.setIfInBounds_toArray, List.set_cons_zero, List.set_cons_succ]
              refine wpAnyH_take (i := 9) (oi := { dst := some 200, op := Op.binOp BinOp.neq 3 (Operand.tmp 198) (Operand.tmp 199) 3, type := 4, pos := "law.go:92", after := #[{ on := 7, ground := Ground.data }, { on := 8, ground := Ground.data }, { on := 3, ground := Ground.guard }], guard := some (3, false) }) (v := ?_) rfl (by kernel_rfl) (by kernel_rfl) (by kernel_rfl) (fun _ _ _ h => h) (Or.inl ⟨by kernel_rfl, ?_⟩) hHeld ?_
              rotate_left
              · intro w hSw
                try dsimp only at hSw
                go_simp
                with_reducible rfl
              try simp only [Act.put, List.setIfInBounds_toArray, List.set_cons_zero, List.set_cons_succ]
              refine wpAnyH_take (i := 10) (oi := { dst := some 201, op := Op.pick (Operand.tmp 194) (Operand.const (Value.bool true)) (Operand.tmp 200), type := 4, pos := "law.go:92", after := #[{ on := 3, ground := Ground.data }, { on := 9, ground := Ground.data }], guard := none }) (v := ?_) rfl (by kernel_rfl) (by kernel_rfl) (by kernel_rfl) (fun _ _ _ h => h) (Or.inl ⟨by kernel_rfl, ?_⟩) hHeld ?_
              rotate_left
              · intro w hSw
                try dsimp only at hSw
                go_simp
                with_reducible rfl
              try simp only [Act.put, List.setIfInBounds_toArray, List.set_cons_zero, List.set_cons_succ]
              refine wpAnyH_take (i := 11) (oi := { dst := some 202, op := Op.move (Operand.tmp 201), type := 4, pos := "law.go:92", after := #[{ on := 10, ground := Ground.data }, { on := 7, ground := Ground.chain }], guard := none }) (v := ?_) rfl (by kernel_rfl) (by kernel_rfl) (by kernel_rfl) (fun _ _ _ h => h) (Or.inl ⟨by kernel_rfl, ?_⟩) hHeld ?_
              rotate_left
              · intro w hSw
                try dsimp only at hSw
                go_simp
                with_reducible rfl
              try simp only [Act.put, List.setIfInBounds_toArray, List.set_cons_zero, List.set_cons_succ]
              refine wpAnyH_take (i := 12) (oi := { dst := some 203, op := Op.move (Operand.tmp 7), type := 29, pos := "law.go:92", after := #[{ on := 11, ground := Ground.guard }], guard := some (11, false) }) (v := ?_) rfl (by kernel_rfl) (by kernel_rfl) (by kernel_rfl) (fun _ _ _ h => h) (Or.inl ⟨by kernel_rfl, ?_⟩) hHeld ?_
              rotate_left
              · intro w hSw
                try dsimp only at hSw
                go_simp
                with_reducible rfl
              try simp only [Act.put, List.setIfInBounds_toArray, List.set_cons_zero, List.set_cons_succ]
              refine wpAnyH_take (i := 13) (oi := { dst := some 204, op := Op.fieldAddr 40 (Operand.tmp 12) 2, type := 0, pos := "law.go:92", after := #[{ on := 11, ground := Ground.guard }], guard := some (11, false) }) (v := ?_) rfl (by kernel_rfl) (by kernel_rfl) (by kernel_rfl) (fun _ _ _ h => h) (Or.inl ⟨by kernel_rfl, ?_⟩) hHeld ?_
              rotate_left
              · intro w hSw
                try dsimp only at hSw
                go_simp
                with_reducible rfl
              try simp only [Act.put, List.setIfInBounds_toArray, List.set_cons_zero, List.set_cons_succ]
              refine wpAnyH_take (i := 14) (oi := { dst := some 205, op := Op.load 9 (Operand.tmp 204), type := 9, pos := "law.go:92", after := #[{ on := 13, ground := Ground.data }, { on := 11, ground := Ground.guard }], guard := some (11, false) }) (v := ?_) rfl (by kernel_rfl) (by kernel_rfl) (by kernel_rfl) (fun _ _ _ h => h) (Or.inl ⟨by kernel_rfl, ?_⟩) hHeld ?_
              rotate_left
              · intro w hSw
                try dsimp only at hSw
                go_simp
                with_reducible rfl
              try simp only [Act.put, List.setIfInBounds_toArray, List.set_cons_zero, List.set_cons_succ]
              refine wpAnyH_take (i := 16) (oi := { dst := some 207, op := Op.move (Operand.tmp 25), type := 41, pos := "law.go:92", after := #[{ on := 11, ground := Ground.guard }], guard := some (11, false) }) (v := ?_) rfl (by kernel_rfl) (by kernel_rfl) (by kernel_rfl) (fun _ _ _ h => h) (Or.inl ⟨by kernel_rfl, ?_⟩) hHeld ?_
              rotate_left
              · intro w hSw
                try dsimp only at hSw
                go_simp
                with_reducible rfl
              try simp only [Act.put, List.setIfInBounds_toArray, List.set_cons_zero, List.set_cons_succ]
              refine wpAnyH_ready (rs := [15]) (by kernel_rfl) (by simp) ?_
              refine AllReadyH.cons (o := { dst := some 206, op := Op.call { callee := Callee.value (Operand.func 30), args := #[Operand.tmp 203, Operand.tmp 205], argTypes := #[29, 9] }, type := 41, pos := "law.go:92", after := #[{ on := 12, ground := Ground.data }, { on := 14, ground := Ground.data }, { on := 11, ground := Ground.chain }, { on := 11, ground := Ground.guard }], guard := some (11, false) }) rfl (fun K hK => ?_) AllReadyH.nil
              go_simp
              refine (HLE.out _ hB0).mono ?_
              rintro r W5 ⟨d5, c5, rfl, hn5, hB5⟩
              clear hHeld
              refine hK.out _ _ (HS.out _ hB5).1 (fun hHeld => ?_)
              clear hK K
              try simp only [Act.put, List.setIfInBounds_toArray, List.set_cons_zero, List.set_cons_succ]
              refine wpAnyH_ready (rs := [17]) (by kernel_rfl) (by simp) ?_
              refine AllReadyH.cons (o := { dst := some 208, op := Op.call { callee := Callee.value (Operand.func 22), args := #[Operand.tmp 206, Operand.tmp 207], argTypes := #[41, 41] }, type := 4, pos := "law.go:92", after := #[{ on := 15, ground := Ground.data }, { on := 16, ground := Ground.data }, { on := 15, ground := Ground.chain }, { on := 11, ground := Ground.guard }], guard := some (11, false) }) rfl (fun K hK => ?_) AllReadyH.nil
              go_simp
              refine (HS1.out _ d5 c5 hn5 hB5).mono ?_
              rintro r W6 ⟨rfl, hB6⟩
              clear hHeld
              refine hK.out _ _ (HS.out _ hB6).1 (fun hHeld => ?_)
              clear hK K
              try simp only [Act.put, List.setIfInBounds_toArray, List.set_cons_zero, List.set_cons_succ]
              refine wpAnyH_take (i := 18) (oi := { dst := some 209, op := Op.unOp UnOp.not 4 (Operand.tmp 208), type := 4, pos := "law.go:92", after := #[{ on := 17, ground := Ground.data }, { on := 11, ground := Ground.guard }], guard := some (11, false) }) (v := ?_) rfl (by kernel_rfl) (by kernel_rfl) (by kernel_rfl) (fun _ _ _ h => h) (Or.inl ⟨by kernel_rfl, ?_⟩) hHeld ?_
              rotate_left
              · intro w hSw
                try dsimp only at hSw
                go_simp
                with_reducible rfl
              try simp only [Act.put, List.setIfInBounds_toArray, List.set_cons_zero, List.set_cons_succ]
              refine wpAnyH_take (i := 19) (oi := { dst := some 210, op := Op.pick (Operand.tmp 202) (Operand.const (Value.bool true)) (Operand.tmp 209), type := 4, pos := "law.go:92", after := #[{ on := 11, ground := Ground.data }, { on := 18, ground := Ground.data }], guard := none }) (v := ?_) rfl (by kernel_rfl) (by kernel_rfl) (by kernel_rfl) (fun _ _ _ h => h) (Or.inl ⟨by kernel_rfl, ?_⟩) hHeld ?_
              rotate_left
              · intro w hSw
                try dsimp only at hSw
                go_simp
                with_reducible rfl
              try simp only [Act.put, List.setIfInBounds_toArray, List.set_cons_zero, List.set_cons_succ]
              refine wpAnyH_take (i := 20) (oi := { dst := some 211, op := Op.move (Operand.tmp 210), type := 4, pos := "law.go:92", after := #[{ on := 19, ground := Ground.data }, { on := 17, ground := Ground.chain }], guard := none }) (v := ?_) rfl (by kernel_rfl) (by kernel_rfl) (by kernel_rfl) (fun _ _ _ h => h) (Or.inl ⟨by kernel_rfl, ?_⟩) hHeld ?_
              rotate_left
              · intro w hSw
                try dsimp only at hSw
                go_simp
                with_reducible rfl
              try simp only [Act.put, List.setIfInBounds_toArray, List.set_cons_zero, List.set_cons_succ]
              refine wpAnyH_take (i := 21) (oi := { dst := some 212, op := Op.move (Operand.tmp 7), type := 29, pos := "law.go:92", after := #[{ on := 20, ground := Ground.guard }], guard := some (20, false) }) (v := ?_) rfl (by kernel_rfl) (by kernel_rfl) (by kernel_rfl) (fun _ _ _ h => h) (Or.inl ⟨by kernel_rfl, ?_⟩) hHeld ?_
              rotate_left
              · intro w hSw
                try dsimp only at hSw
                go_simp
                with_reducible rfl
              try simp only [Act.put, List.setIfInBounds_toArray, List.set_cons_zero, List.set_cons_succ]
              refine wpAnyH_take (i := 22) (oi := { dst := some 213, op := Op.fieldAddr 40 (Operand.tmp 12) 2, type := 0, pos := "law.go:92", after := #[{ on := 20, ground := Ground.guard }], guard := some (20, false) }) (v := ?_) rfl (by kernel_rfl) (by kernel_rfl) (by kernel_rfl) (fun _ _ _ h => h) (Or.inl ⟨by kernel_rfl, ?_⟩) hHeld ?_
              rotate_left
              · intro w hSw
                try dsimp only at hSw
                go_simp
                with_reducible rfl
              try simp only [Act.put, List.setIfInBounds_toArray, List.set_cons_zero, List.set_cons_succ]
              refine wpAnyH_take (i := 23) (oi := { dst := some 214, op := Op.load 9 (Operand.tmp 213), type := 9, pos := "law.go:92", after := #[{ on := 22, ground := Ground.data }, { on := 20, ground := Ground.guard }], guard := some (20, false) }) (v := ?_) rfl (by kernel_rfl) (by kernel_rfl) (by kernel_rfl) (fun _ _ _ h => h) (Or.inl ⟨by kernel_rfl, ?_⟩) hHeld ?_
              rotate_left
              · intro w hSw
                try dsimp only at hSw
                go_simp
                with_reducible rfl
              try simp only [Act.put, List.setIfInBounds_toArray, List.set_cons_zero, List.set_cons_succ]
              refine wpAnyH_take (i := 26) (oi := { dst := some 217, op := Op.move (Operand.tmp 26), type := 41, pos := "law.go:92", after := #[{ on := 20, ground := Ground.guard }], guard := some (20, false) }) (v := ?_) rfl (by kernel_rfl) (by kernel_rfl) (by kernel_rfl) (fun _ _ _ h => h) (Or.inl ⟨by kernel_rfl, ?_⟩) hHeld ?_
              rotate_left
              · intro w hSw
                try dsimp only at hSw
                go_simp
                with_reducible rfl
              try simp only [Act.put, List.setIfInBounds_toArray, List.set_cons_zero, List.set_cons_succ]
              refine wpAnyH_ready (rs := [24]) (by kernel_rfl) (by simp) ?_
              refine AllReadyH.cons (o := { dst := some 215, op := Op.call { callee := Callee.value (Operand.func 31), args := #[Operand.tmp 212, Operand.tmp 214], argTypes := #[29, 9] }, type := 44, pos := "law.go:92", after := #[{ on := 21, ground := Ground.data }, { on := 23, ground := Ground.data }, { on := 20, ground := Ground.chain }, { on := 20, ground := Ground.guard }], guard := some (20, false) }) rfl (fun K hK => ?_) AllReadyH.nil
              go_simp
              refine (HAS.out _ hB6).mono ?_
              rintro r Wo ⟨rfl, rfl⟩
              refine hK.out _ _ hHeld (fun hHeld => ?_)
              clear hK K
              try simp only [Act.put, List.setIfInBounds_toArray, List.set_cons_zero, List.set_cons_succ]
              refine wpAnyH_ready (rs := [25]) (by kernel_rfl) (by simp) ?_
              refine AllReadyH.cons (o := { dst := some 216, op := Op.call { callee := Callee.value (Operand.func 23), args := #[Operand.tmp 215], argTypes := #[44] }, type := 41, pos := "law.go:92", after := #[{ on := 24, ground := Ground.data }, { on := 24, ground := Ground.chain }, { on := 20, ground := Ground.guard }], guard := some (20, false) }) rfl (fun K hK => ?_) AllReadyH.nil
              go_simp
              refine (HAL.out _ hB6).mono ?_
              rintro r W7 ⟨d7, c7, rfl, hn7, hB7⟩
              clear hHeld
              refine hK.out _ _ (HS.out _ hB7).1 (fun hHeld => ?_)
              clear hK K
              try simp only [Act.put, List.setIfInBounds_toArray, List.set_cons_zero, List.set_cons_succ]
              refine wpAnyH_ready (rs := [27]) (by kernel_rfl) (by simp) ?_
              refine AllReadyH.cons (o := { dst := some 218, op := Op.call { callee := Callee.value (Operand.func 22), args := #[Operand.tmp 216, Operand.tmp 217], argTypes := #[41, 41] }, type := 4, pos := "law.go:92", after := #[{ on := 25, ground := Ground.data }, { on := 26, ground := Ground.data }, { on := 25, ground := Ground.chain }, { on := 20, ground := Ground.guard }], guard := some (20, false) }) rfl (fun K hK => ?_) AllReadyH.nil
              go_simp
              refine (HS2.out _ d7 c7 hn7 hB7).mono ?_
              rintro r W8 ⟨rfl, hB8⟩
              clear hHeld
              refine hK.out _ _ (HS.out _ hB8).1 (fun hHeld => ?_)
              clear hK K
              try simp only [Act.put, List.setIfInBounds_toArray, List.set_cons_zero, List.set_cons_succ]
              refine wpAnyH_take (i := 28) (oi := { dst := some 219, op := Op.unOp UnOp.not 4 (Operand.tmp 218), type := 4, pos := "law.go:92", after := #[{ on := 27, ground := Ground.data }, { on := 20, ground := Ground.guard }], guard := some (20, false) }) (v := ?_) rfl (by kernel_rfl) (by kernel_rfl) (by kernel_rfl) (fun _ _ _ h => h) (Or.inl ⟨by kernel_rfl, ?_⟩) hHeld ?_
              rotate_left
              · intro w hSw
                try dsimp only at hSw
                go_simp
                with_reducible rfl
              try simp only [Act.put, List.setIfInBounds_toArray, List.set_cons_zero, List.set_cons_succ]
              refine wpAnyH_take (i := 29) (oi := { dst := some 220, op := Op.pick (Operand.tmp 211) (Operand.const (Value.bool true)) (Operand.tmp 219), type := 4, pos := "law.go:92", after := #[{ on := 20, ground := Ground.data }, { on := 28, ground := Ground.data }], guard := none }) (v := ?_) rfl (by kernel_rfl) (by kernel_rfl) (by kernel_rfl) (fun _ _ _ h => h) (Or.inl ⟨by kernel_rfl, ?_⟩) hHeld ?_
              rotate_left
              · intro w hSw
                try dsimp only at hSw
                go_simp
                with_reducible rfl
              try simp only [Act.put, List.setIfInBounds_toArray, List.set_cons_zero, List.set_cons_succ]
              refine wpAnyH_take (i := 30) (oi := { dst := some 221, op := Op.move (Operand.tmp 220), type := 4, pos := "law.go:92", after := #[{ on := 29, ground := Ground.data }, { on := 27, ground := Ground.chain }], guard := none }) (v := ?_) rfl (by kernel_rfl) (by kernel_rfl) (by kernel_rfl) (fun _ _ _ h => h) (Or.inl ⟨by kernel_rfl, ?_⟩) hHeld ?_
              rotate_left
              · intro w hSw
                try dsimp only at hSw
                go_simp
                with_reducible rfl
              try simp only [Act.put, List.setIfInBounds_toArray, List.set_cons_zero, List.set_cons_succ]
              refine wpAnyH_take (i := 31) (oi := { dst := some 222, op := Op.move (Operand.tmp 7), type := 29, pos := "law.go:92", after := #[{ on := 30, ground := Ground.guard }], guard := some (30, false) }) (v := ?_) rfl (by kernel_rfl) (by kernel_rfl) (by kernel_rfl) (fun _ _ _ h => h) (Or.inl ⟨by kernel_rfl, ?_⟩) hHeld ?_
              rotate_left
              · intro w hSw
                try dsimp only at hSw
                go_simp
                with_reducible rfl
              try simp only [Act.put, List.setIfInBounds_toArray, List.set_cons_zero, List.set_cons_succ]
              refine wpAnyH_take (i := 33) (oi := { dst := some 224, op := Op.move (Operand.tmp 10), type := 35, pos := "law.go:92", after := #[{ on := 30, ground := Ground.guard }], guard := some (30, false) }) (v := ?_) rfl (by kernel_rfl) (by kernel_rfl) (by kernel_rfl) (fun _ _ _ h => h) (Or.inl ⟨by kernel_rfl, ?_⟩) hHeld ?_
              rotate_left
              · intro w hSw
                try dsimp only at hSw
                go_simp
                with_reducible rfl
              try simp only [Act.put, List.setIfInBounds_toArray, List.set_cons_zero, List.set_cons_succ]
              refine wpAnyH_take (i := 34) (oi := { dst := some 225, op := Op.nilCheck (Operand.tmp 224), type := 0, pos := "law.go:92", after := #[{ on := 33, ground := Ground.data }, { on := 30, ground := Ground.guard }], guard := some (30, false) }) (v := ?_) rfl (by kernel_rfl) (by kernel_rfl) (by kernel_rfl) (fun _ _ _ h => h) (Or.inl ⟨by kernel_rfl, ?_⟩) hHeld ?_
              rotate_left
              · intro w hSw
                try dsimp only at hSw
                go_simp
                with_reducible rfl
              try simp only [Act.put, List.setIfInBounds_toArray, List.set_cons_zero, List.set_cons_succ]
              refine wpAnyH_take (i := 35) (oi := { dst := some 226, op := Op.fieldAddr 38 (Operand.tmp 225) 1, type := 0, pos := "law.go:92", after := #[{ on := 34, ground := Ground.data }, { on := 30, ground := Ground.guard }], guard := some (30, false) }) (v := ?_) rfl (by kernel_rfl) (by kernel_rfl) (by kernel_rfl) (fun _ _ _ h => h) (Or.inl ⟨by kernel_rfl, ?_⟩) hHeld ?_
              rotate_left
              · intro w hSw
                try dsimp only at hSw
                go_simp
                with_reducible rfl
              try simp only [Act.put, List.setIfInBounds_toArray, List.set_cons_zero, List.set_cons_succ]
              refine wpAnyH_take (i := 36) (oi := { dst := some 227, op := Op.load 36 (Operand.tmp 226), type := 36, pos := "law.go:92", after := #[{ on := 35, ground := Ground.data }, { on := 30, ground := Ground.guard }], guard := some (30, false) }) (v := ?_) rfl (by kernel_rfl) (by kernel_rfl) (by kernel_rfl) (fun _ _ _ h => h) (Or.inl ⟨by kernel_rfl, ?_⟩) hHeld ?_
              rotate_left
              · intro w hSw
                try dsimp only at hSw
                go_simp
                with_reducible rfl
              try simp only [Act.put, List.setIfInBounds_toArray, List.set_cons_zero, List.set_cons_succ]
              refine wpAnyH_take (i := 37) (oi := { dst := some 228, op := Op.call { callee := Callee.builtin Builtin.len, args := #[Operand.tmp 227], argTypes := #[36] }, type := 3, pos := "law.go:92", after := #[{ on := 36, ground := Ground.data }, { on := 30, ground := Ground.guard }], guard := some (30, false) }) (v := ?_) rfl (by kernel_rfl) (by kernel_rfl) (by kernel_rfl) (fun _ _ _ h => h) (Or.inl ⟨by kernel_rfl, ?_⟩) hHeld ?_
              rotate_left
              · intro w hSw
                try dsimp only at hSw
                go_simp
                with_reducible rfl
              try simp only [Act.put, List.setIfInBounds_toArray, List.set_cons_zero, List.set_cons_succ]
              refine wpAnyH_ready (rs := [32]) (by kernel_rfl) (by simp) ?_
              refine AllReadyH.cons (o := { dst := some 223, op := Op.call { callee := Callee.value (Operand.func 32), args := #[Operand.tmp 222], argTypes := #[29] }, type := 3, pos := "law.go:92", after := #[{ on := 31, ground := Ground.data }, { on := 30, ground := Ground.chain }, { on := 30, ground := Ground.guard }], guard := some (30, false) }) rfl (fun K hK => ?_) AllReadyH.nil
              go_simp
              refine (HLT.out _ hB8).mono ?_
              rintro r Wo ⟨rfl, rfl⟩
              refine hK.out _ _ hHeld (fun hHeld => ?_)
              clear hK K
              try simp only [Act.put, List.setIfInBounds_toArray, List.set_cons_zero, List.set_cons_succ]
              refine wpAnyH_take (i := 38) (oi := { dst := some 229, op := Op.binOp BinOp.neq 3 (Operand.tmp 223) (Operand.tmp 228) 3, type := 4, pos := "law.go:92", after := #[{ on := 32, ground := Ground.data }, { on := 37, ground := Ground.data }, { on := 30, ground := Ground.guard }], guard := some (30, false) }) (v := ?_) rfl (by kernel_rfl) (by kernel_rfl) (by kernel_rfl) (fun _ _ _ h => h) (Or.inl ⟨by kernel_rfl, ?_⟩) hHeld ?_
              rotate_left
              · intro w hSw
                try dsimp only at hSw
                go_simp
                with_reducible rfl
              try simp only [Act.put, List.setIfInBounds_toArray, List.set_cons_zero, List.set_cons_succ]
              refine wpAnyH_take (i := 39) (oi := { dst := some 230, op := Op.pick (Operand.tmp 221) (Operand.const (Value.bool true)) (Operand.tmp 229), type := 4, pos := "law.go:92", after := #[{ on := 30, ground := Ground.data }, { on := 38, ground := Ground.data }], guard := none }) (v := ?_) rfl (by kernel_rfl) (by kernel_rfl) (by kernel_rfl) (fun _ _ _ h => h) (Or.inl ⟨by kernel_rfl, ?_⟩) hHeld ?_
              rotate_left
              · intro w hSw
                try dsimp only at hSw
                go_simp
                with_reducible rfl
              try simp only [Act.put, List.setIfInBounds_toArray, List.set_cons_zero, List.set_cons_succ]
              refine wpAnyH_take (i := 40) (oi := { dst := some 231, op := Op.move (Operand.tmp 230), type := 4, pos := "law.go:92", after := #[{ on := 39, ground := Ground.data }, { on := 32, ground := Ground.chain }], guard := none }) (v := ?_) rfl (by kernel_rfl) (by kernel_rfl) (by kernel_rfl) (fun _ _ _ h => h) (Or.inl ⟨by kernel_rfl, ?_⟩) hHeld ?_
              rotate_left
              · intro w hSw
                try dsimp only at hSw
                go_simp
                with_reducible rfl
              try simp only [Act.put, List.setIfInBounds_toArray, List.set_cons_zero, List.set_cons_succ]
              refine wpAnyH_take (i := 41) (oi := { dst := some 232, op := Op.move (Operand.tmp 7), type := 29, pos := "law.go:92", after := #[{ on := 40, ground := Ground.guard }], guard := some (40, false) }) (v := ?_) rfl (by kernel_rfl) (by kernel_rfl) (by kernel_rfl) (fun _ _ _ h => h) (Or.inl ⟨by kernel_rfl, ?_⟩) hHeld ?_
              rotate_left
              · intro w hSw
                try dsimp only at hSw
                go_simp
                with_reducible rfl
              try simp only [Act.put, List.setIfInBounds_toArray, List.set_cons_zero, List.set_cons_succ]
              refine wpAnyH_take (i := 43) (oi := { dst := some 234, op := Op.move (Operand.tmp 10), type := 35, pos := "law.go:92", after := #[{ on := 40, ground := Ground.guard }], guard := some (40, false) }) (v := ?_) rfl (by kernel_rfl) (by kernel_rfl) (by kernel_rfl) (fun _ _ _ h => h) (Or.inl ⟨by kernel_rfl, ?_⟩) hHeld ?_
              rotate_left
              · intro w hSw
                try dsimp only at hSw
                go_simp
                with_reducible rfl
              try simp only [Act.put, List.setIfInBounds_toArray, List.set_cons_zero, List.set_cons_succ]
              refine wpAnyH_take (i := 44) (oi := { dst := some 235, op := Op.nilCheck (Operand.tmp 234), type := 0, pos := "law.go:92", after := #[{ on := 43, ground := Ground.data }, { on := 40, ground := Ground.guard }], guard := some (40, false) }) (v := ?_) rfl (by kernel_rfl) (by kernel_rfl) (by kernel_rfl) (fun _ _ _ h => h) (Or.inl ⟨by kernel_rfl, ?_⟩) hHeld ?_
              rotate_left
              · intro w hSw
                try dsimp only at hSw
                go_simp
                with_reducible rfl
              try simp only [Act.put, List.setIfInBounds_toArray, List.set_cons_zero, List.set_cons_succ]
              refine wpAnyH_take (i := 45) (oi := { dst := some 236, op := Op.fieldAddr 38 (Operand.tmp 235) 2, type := 0, pos := "law.go:92", after := #[{ on := 44, ground := Ground.data }, { on := 40, ground := Ground.guard }], guard := some (40, false) }) (v := ?_) rfl (by kernel_rfl) (by kernel_rfl) (by kernel_rfl) (fun _ _ _ h => h) (Or.inl ⟨by kernel_rfl, ?_⟩) hHeld ?_
              rotate_left
              · intro w hSw
                try dsimp only at hSw
                go_simp
                with_reducible rfl
              try simp only [Act.put, List.setIfInBounds_toArray, List.set_cons_zero, List.set_cons_succ]
              refine wpAnyH_take (i := 46) (oi := { dst := some 237, op := Op.load 3 (Operand.tmp 236), type := 3, pos := "law.go:92", after := #[{ on := 45, ground := Ground.data }, { on := 40, ground := Ground.guard }], guard := some (40, false) }) (v := ?_) rfl (by kernel_rfl) (by kernel_rfl) (by kernel_rfl) (fun _ _ _ h => h) (Or.inl ⟨by kernel_rfl, ?_⟩) hHeld ?_
              rotate_left
              · intro w hSw
                try dsimp only at hSw
                go_simp
                with_reducible rfl
              try simp only [Act.put, List.setIfInBounds_toArray, List.set_cons_zero, List.set_cons_succ]
              refine wpAnyH_ready (rs := [42]) (by kernel_rfl) (by simp) ?_
              refine AllReadyH.cons (o := { dst := some 233, op := Op.call { callee := Callee.value (Operand.func 33), args := #[Operand.tmp 232], argTypes := #[29] }, type := 3, pos := "law.go:92", after := #[{ on := 41, ground := Ground.data }, { on := 40, ground := Ground.chain }, { on := 40, ground := Ground.guard }], guard := some (40, false) }) rfl (fun K hK => ?_) AllReadyH.nil
              go_simp
              refine (HCM.out _ hB8).mono ?_
              rintro r Wo ⟨rfl, rfl⟩
              refine hK.out _ _ hHeld (fun hHeld => ?_)
              clear hK K
              try simp only [Act.put, List.setIfInBounds_toArray, List.set_cons_zero, List.set_cons_succ]
              refine wpAnyH_take (i := 47) (oi := { dst := some 238, op := Op.binOp BinOp.neq 3 (Operand.tmp 233) (Operand.tmp 237) 3, type := 4, pos := "law.go:92", after := #[{ on := 42, ground := Ground.data }, { on := 46, ground := Ground.data }, { on := 40, ground := Ground.guard }], guard := some (40, false) }) (v := ?_) rfl (by kernel_rfl) (by kernel_rfl) (by kernel_rfl) (fun _ _ _ h => h) (Or.inl ⟨by kernel_rfl, ?_⟩) hHeld ?_
              rotate_left
              · intro w hSw
                try dsimp only at hSw
                go_simp
                with_reducible rfl
              try simp only [Act.put, List.setIfInBounds_toArray, List.set_cons_zero, List.set_cons_succ]
              refine wpAnyH_take (i := 48) (oi := { dst := some 239, op := Op.pick (Operand.tmp 231) (Operand.const (Value.bool true)) (Operand.tmp 238), type := 4, pos := "law.go:92", after := #[{ on := 40, ground := Ground.data }, { on := 47, ground := Ground.data }], guard := none }) (v := ?_) rfl (by kernel_rfl) (by kernel_rfl) (by kernel_rfl) (fun _ _ _ h => h) (Or.inl ⟨by kernel_rfl, ?_⟩) hHeld ?_
              rotate_left
              · intro w hSw
                try dsimp only at hSw
                go_simp
                with_reducible rfl
              try simp only [Act.put, List.setIfInBounds_toArray, List.set_cons_zero, List.set_cons_succ]
              refine wpAnyH_take (i := 49) (oi := { dst := some 240, op := Op.move (Operand.tmp 239), type := 4, pos := "law.go:92", after := #[{ on := 48, ground := Ground.data }, { on := 42, ground := Ground.chain }], guard := none }) (v := ?_) rfl (by kernel_rfl) (by kernel_rfl) (by kernel_rfl) (fun _ _ _ h => h) (Or.inl ⟨by kernel_rfl, ?_⟩) hHeld ?_
              rotate_left
              · intro w hSw
                try dsimp only at hSw
                go_simp
                with_reducible rfl
              try simp only [Act.put, List.setIfInBounds_toArray, List.set_cons_zero, List.set_cons_succ]
              refine wpAnyH_take (i := 50) (oi := { dst := some 241, op := Op.move (Operand.tmp 29), type := 30, pos := "law.go:92", after := #[{ on := 49, ground := Ground.guard }], guard := some (49, false) }) (v := ?_) rfl (by kernel_rfl) (by kernel_rfl) (by kernel_rfl) (fun _ _ _ h => h) (Or.inl ⟨by kernel_rfl, ?_⟩) hHeld ?_
              rotate_left
              · intro w hSw
                try dsimp only at hSw
                go_simp
                with_reducible rfl
              try simp only [Act.put, List.setIfInBounds_toArray, List.set_cons_zero, List.set_cons_succ]
              refine wpAnyH_take (i := 51) (oi := { dst := some 242, op := Op.move (Operand.tmp 31), type := 3, pos := "law.go:92", after := #[{ on := 49, ground := Ground.guard }], guard := some (49, false) }) (v := ?_) rfl (by kernel_rfl) (by kernel_rfl) (by kernel_rfl) (fun _ _ _ h => h) (Or.inl ⟨by kernel_rfl, ?_⟩) hHeld ?_
              rotate_left
              · intro w hSw
                try dsimp only at hSw
                go_simp
                with_reducible rfl
              try simp only [Act.put, List.setIfInBounds_toArray, List.set_cons_zero, List.set_cons_succ]
              refine wpAnyH_take (i := 52) (oi := { dst := some 243, op := Op.binOp BinOp.neq 3 (Operand.tmp 241) (Operand.tmp 242) 3, type := 4, pos := "law.go:92", after := #[{ on := 50, ground := Ground.data }, { on := 51, ground := Ground.data }, { on := 49, ground := Ground.guard }], guard := some (49, false) }) (v := ?_) rfl (by kernel_rfl) (by kernel_rfl) (by kernel_rfl) (fun _ _ _ h => h) (Or.inl ⟨by kernel_rfl, ?_⟩) hHeld ?_
              rotate_left
              · intro w hSw
                try dsimp only at hSw
                go_simp
                with_reducible rfl
              try simp only [Act.put, List.setIfInBounds_toArray, List.set_cons_zero, List.set_cons_succ]
              refine wpAnyH_take (i := 53) (oi := { dst := some 244, op := Op.pick (Operand.tmp 240) (Operand.const (Value.bool true)) (Operand.tmp 243), type := 4, pos := "law.go:92", after := #[{ on := 49, ground := Ground.data }, { on := 52, ground := Ground.data }], guard := none }) (v := ?_) rfl (by kernel_rfl) (by kernel_rfl) (by kernel_rfl) (fun _ _ _ h => h) (Or.inl ⟨by kernel_rfl, ?_⟩) hHeld ?_
              rotate_left
              · intro w hSw
                try dsimp only at hSw
                go_simp
                with_reducible rfl
              try simp only [Act.put, List.setIfInBounds_toArray, List.set_cons_zero, List.set_cons_succ]
              refine wpAnyH_take (i := 54) (oi := { dst := some 245, op := Op.move (Operand.tmp 244), type := 4, pos := "law.go:92", after := #[{ on := 53, ground := Ground.data }, { on := 49, ground := Ground.chain }], guard := none }) (v := ?_) rfl (by kernel_rfl) (by kernel_rfl) (by kernel_rfl) (fun _ _ _ h => h) (Or.inl ⟨by kernel_rfl, ?_⟩) hHeld ?_
              rotate_left
              · intro w hSw
                try dsimp only at hSw
                go_simp
                with_reducible rfl
              try simp only [Act.put, List.setIfInBounds_toArray, List.set_cons_zero, List.set_cons_succ]
              refine wpAnyH_take (i := 55) (oi := { dst := some 246, op := Op.move (Operand.tmp 31), type := 3, pos := "law.go:92", after := #[{ on := 54, ground := Ground.guard }], guard := some (54, false) }) (v := ?_) rfl (by kernel_rfl) (by kernel_rfl) (by kernel_rfl) (fun _ _ _ h => h) (Or.inl ⟨by kernel_rfl, ?_⟩) hHeld ?_
              rotate_left
              · intro w hSw
                try dsimp only at hSw
                go_simp
                with_reducible rfl
              try simp only [Act.put, List.setIfInBounds_toArray, List.set_cons_zero, List.set_cons_succ]
              refine wpAnyH_take (i := 56) (oi := { dst := some 247, op := Op.binOp BinOp.eql 3 (Operand.tmp 246) (Operand.const (Value.int IntKind.i64 0)) 3, type := 4, pos := "law.go:92", after := #[{ on := 55, ground := Ground.data }, { on := 54, ground := Ground.guard }], guard := some (54, false) }) (v := ?_) rfl (by kernel_rfl) (by kernel_rfl) (by kernel_rfl) (fun _ _ _ h => h) (Or.inl ⟨by kernel_rfl, ?_⟩) hHeld ?_
              rotate_left
              · intro w hSw
                try dsimp only at hSw
                go_simp
                with_reducible rfl
              try simp only [Act.put, List.setIfInBounds_toArray, List.set_cons_zero, List.set_cons_succ]
              refine wpAnyH_take (i := 57) (oi := { dst := some 248, op := Op.move (Operand.tmp 247), type := 4, pos := "law.go:92", after := #[{ on := 56, ground := Ground.data }, { on := 54, ground := Ground.chain }, { on := 54, ground := Ground.guard }], guard := some (54, false) }) (v := ?_) rfl (by kernel_rfl) (by kernel_rfl) (by kernel_rfl) (fun _ _ _ h => h) (Or.inl ⟨by kernel_rfl, ?_⟩) hHeld ?_
              rotate_left
              · intro w hSw
                try dsimp only at hSw
                go_simp
                with_reducible rfl
              try simp only [Act.put, List.setIfInBounds_toArray, List.set_cons_zero, List.set_cons_succ]
              refine wpAnyH_take (i := 58) (oi := { dst := some 249, op := Op.move (Operand.tmp 27), type := 59, pos := "law.go:92", after := #[{ on := 57, ground := Ground.guard }], guard := some (57, true) }) (v := undef) rfl (by kernel_rfl) (by kernel_rfl) (by kernel_rfl) (fun _ _ _ h => h) (Or.inr ⟨by kernel_rfl, rfl⟩) hHeld ?_
              try simp only [Act.put, List.setIfInBounds_toArray, List.set_cons_zero, List.set_cons_succ]
              refine wpAnyH_take (i := 60) (oi := { dst := some 251, op := Op.move (Operand.tmp 30), type := 33, pos := "law.go:92", after := #[{ on := 57, ground := Ground.guard }], guard := some (57, true) }) (v := undef) rfl (by kernel_rfl) (by kernel_rfl) (by kernel_rfl) (fun _ _ _ h => h) (Or.inr ⟨by kernel_rfl, rfl⟩) hHeld ?_
              try simp only [Act.put, List.setIfInBounds_toArray, List.set_cons_zero, List.set_cons_succ]
              refine wpAnyH_ready (rs := [59]) (by kernel_rfl) (by simp) ?_
              refine AllReadyH.cons (o := { dst := some 250, op := Op.call { callee := Callee.value (Operand.func 34), args := #[Operand.tmp 249], argTypes := #[59] }, type := 41, pos := "law.go:92", after := #[{ on := 58, ground := Ground.data }, { on := 57, ground := Ground.chain }, { on := 57, ground := Ground.guard }], guard := some (57, true) }) rfl (fun K hK => ?_) AllReadyH.nil
              go_simp
              refine hK.out _ _ hHeld (fun hHeld => ?_)
              clear hK K
              try simp only [Act.put, List.setIfInBounds_toArray, List.set_cons_zero, List.set_cons_succ]
              refine wpAnyH_ready (rs := [61]) (by kernel_rfl) (by simp) ?_
              refine AllReadyH.cons (o := { dst := some 252, op := Op.call { callee := Callee.value (Operand.func 35), args := #[Operand.tmp 251], argTypes := #[33] }, type := 41, pos := "law.go:92", after := #[{ on := 60, ground := Ground.data }, { on := 59, ground := Ground.chain }, { on := 57, ground := Ground.guard }], guard := some (57, true) }) rfl (fun K hK => ?_) AllReadyH.nil
              go_simp
              refine hK.out _ _ hHeld (fun hHeld => ?_)
              clear hK K
              try simp only [Act.put, List.setIfInBounds_toArray, List.set_cons_zero, List.set_cons_succ]
              refine wpAnyH_ready (rs := [62]) (by kernel_rfl) (by simp) ?_
              refine AllReadyH.cons (o := { dst := some 253, op := Op.call { callee := Callee.value (Operand.func 22), args := #[Operand.tmp 250, Operand.tmp 252], argTypes := #[41, 41] }, type := 4, pos := "law.go:92", after := #[{ on := 59, ground := Ground.data }, { on := 61, ground := Ground.data }, { on := 61, ground := Ground.chain }, { on := 57, ground := Ground.guard }], guard := some (57, true) }) rfl (fun K hK => ?_) AllReadyH.nil
              go_simp
              refine hK.out _ _ hHeld (fun hHeld => ?_)
              clear hK K
              try simp only [Act.put, List.setIfInBounds_toArray, List.set_cons_zero, List.set_cons_succ]
              refine wpAnyH_take (i := 63) (oi := { dst := some 254, op := Op.unOp UnOp.not 4 (Operand.tmp 253), type := 4, pos := "law.go:92", after := #[{ on := 62, ground := Ground.data }, { on := 57, ground := Ground.guard }], guard := some (57, true) }) (v := undef) rfl (by kernel_rfl) (by kernel_rfl) (by kernel_rfl) (fun _ _ _ h => h) (Or.inr ⟨by kernel_rfl, rfl⟩) hHeld ?_
              try simp only [Act.put, List.setIfInBounds_toArray, List.set_cons_zero, List.set_cons_succ]
              refine wpAnyH_take (i := 64) (oi := { dst := some 255, op := Op.pick (Operand.tmp 248) (Operand.tmp 254) (Operand.const (Value.bool false)), type := 4, pos := "law.go:92", after := #[{ on := 57, ground := Ground.data }, { on := 63, ground := Ground.data }, { on := 54, ground := Ground.guard }], guard := some (54, false) }) (v := ?_) rfl (by kernel_rfl) (by kernel_rfl) (by kernel_rfl) (fun _ _ _ h => h) (Or.inl ⟨by kernel_rfl, ?_⟩) hHeld ?_
              rotate_left
              · intro w hSw
                try dsimp only at hSw
                go_simp
                with_reducible rfl
              try simp only [Act.put, List.setIfInBounds_toArray, List.set_cons_zero, List.set_cons_succ]
              refine wpAnyH_take (i := 65) (oi := { dst := some 256, op := Op.pick (Operand.tmp 245) (Operand.const (Value.bool true)) (Operand.tmp 255), type := 4, pos := "law.go:92", after := #[{ on := 54, ground := Ground.data }, { on := 64, ground := Ground.data }], guard := none }) (v := ?_) rfl (by kernel_rfl) (by kernel_rfl) (by kernel_rfl) (fun _ _ _ h => h) (Or.inl ⟨by kernel_rfl, ?_⟩) hHeld ?_
              rotate_left
              · intro w hSw
                try dsimp only at hSw
                go_simp
                with_reducible rfl
              try simp only [Act.put, List.setIfInBounds_toArray, List.set_cons_zero, List.set_cons_succ]
              refine wpAnyH_done (by kernel_rfl) ?_ _
              all_goals
                clear hSz hS0 hB0
                have HE := Lib.hid (HS.out _ hB8).2
                go_wp2_with fail
                go_roundw
                case rel => exact ⟨j + 1, by omega, by go_num, ⟨_, _, _, _, _, _, HE.out⟩⟩
                case measure => simp [intOf]; omega
          · as_aux_lemma =>
              have hrH : rep H.p (H.F : Int) (rowK xp) = (e0, es, some s) := by rw [← HFX.out.hp, ← HFX.out.hf]; exact hr
              obtain ⟨rfl, _⟩ := rep_some hr
              have HRH := Lib.hid hrH
              have HR := Lib.hid hr
              clear hr hrH
              go_wp2_with fail
              refine (at_ok HT2.out.pt (k := xp) (by omega) HR.out).mono ?_
              rintro r W3 ⟨g8, v8, rfl, _, hst8, hsok, _, hb3⟩
              have HT3 := Lib.hid (HT2.out.later hb3)
              have HBX3 := Lib.hid (HBX2.out.later hb3)
              have HLN3 := Lib.hid (HLN.out.later hb3)
              have HAN3 := Lib.hid (HAN.out.later hb3)
              have HST3 := Lib.hid hst8
              have HSO3 := Lib.hid hsok
              clear hb3 f2 hst8 hsok
              obtain ⟨_, _, f2, _⟩ := HBX3.out.cells
              go_wp2_with fail
              refine (rtAt_any HT3.out.rt (k := xp) (by omega)).mono ?_
              rintro r W4 h4
              unfold RefAtR at h4
              rw [HRH.out] at h4
              obtain ⟨hb4, sb, stb, stc, rfl, _, _, hsr, hsp, hsok4⟩ := h4
              have HT4 := Lib.hid (HT3.out.later hb4)
              have HBX4 := Lib.hid (HBX3.out.later hb4)
              have HLN4 := Lib.hid (HLN3.out.later hb4)
              have HAN4 := Lib.hid (HAN3.out.later hb4)
              have HST4 := Lib.hid (HST3.out.later hb4)
              have HSR4 := Lib.hid hsr
              have HSP4 := Lib.hid hsp
              have HSO4 := Lib.hid hsok4
              clear hb4 f2 hsr hsp hsok4
              obtain ⟨_, _, f2, _⟩ := HBX4.out.cells
              have hs4 : s.all.length ≤ 4 := all_len8 HSO3.out
              obtain ⟨sa, hsa⟩ : ∃ sa, sa = s.all := ⟨_, rfl⟩
              have HSA := Lib.hid hsa
              rw [← hsa] at hs4
              have HA1 : Hid (∀ W, Below W4.heap.size W4 W → Calls Try.prog 34 #[.pointer (some ⟨g8, 0, none⟩)] W fun r w' => ∃ d c, r = .returned (.slice d sa.length c) ∧ NumsAt w' d sa ∧ Below W4.heap.size W4 w') := fun W hb => by
                refine (all_any (HST4.out.later hb) HSO3.out).mono fun r w' hr => ?_
                obtain ⟨v, rfl, hv, hb2⟩ := hr
                rw [← HSA.out] at hv
                obtain ⟨d, c, rfl, hn, _⟩ := OwnN.form hv (by omega)
                exact ⟨d, c, rfl, hn, hb.trans (hb2.mono hb.size)⟩
              have HA2 : Hid (∀ W d', NumsAt W d' sa → Below W4.heap.size W4 W → Calls Try.prog 35 #[.pointer (some ⟨sb, 0, none⟩)] W fun r w' => ∃ d c, r = .returned (.slice d sa.length c) ∧ NumsAt w' d sa ∧ NumsAt w' d' sa ∧ Below W4.heap.size W4 w') := fun W d' hn' hb => by
                refine (refAll_any (HSR4.out.later hb) (by rw [HSP4.out]; exact (HT4.out.later hb).rt.thrW) HSO4.out).mono fun r w' hr => ?_
                obtain ⟨v, rfl, hv, hb2⟩ := hr
                rw [← HSA.out] at hv
                obtain ⟨d, c, rfl, hn, _⟩ := OwnN.form hv (by omega)
                exact ⟨d, c, rfl, hn, hn'.later hb2, hb.trans (hb2.mono hb.size)⟩
              have HS3 : Hid (∀ W d c d' c', NumsAt W d sa → NumsAt W d' sa → Below W4.heap.size W4 W → Calls Try.prog 22 #[.slice d sa.length c, .slice d' sa.length c'] W fun r w' => r = .returned (.bool true) ∧ Below W4.heap.size W4 w') := fun W d c d' c' hn hn' hb => by
                refine (sameInts_any d d' c c' sa sa W hn hn').mono fun r w' hr => ?_
                obtain ⟨rfl, hb2⟩ := hr
                exact ⟨by rw [decide_eq_true rfl], hb.trans (hb2.mono hb.size)⟩
              clear hsa
              have hBo : ∀ W, Below W4.heap.size W4 W → TwoT h H w (j + 1) gs2 l2 cl2 ms2 rl2 vN2 W := fun W hb => HT4.out.later hb
              have HS : Hid (∀ W, Below W4.heap.size W4 W → (W.cell? ⟨G, 2, none⟩ = some (.string ⟨xp.toArray⟩) ∧ W.cell? ⟨H.b, 1, none⟩ = some (.slice ra rl2.length rc) ∧ W.cell? ⟨H.b, 2, none⟩ = some (.int .i64 cl2)) ∧ TwoT h H w (j + 1) gs2 l2 cl2 ms2 rl2 vN2 W) := fun W hb => by
                obtain ⟨_, b1, b2⟩ := (hBo W hb).rt.cells
                rw [HVE.out] at b1
                exact ⟨⟨(HBX4.out.later hb).cells.2.2.1, b1, b2⟩, hBo W hb⟩
              have HOW : Hid (∀ W, Below W4.heap.size W4 W → Calls Try.prog 29 #[.pointer (some ⟨h.b, 0, none⟩), .string ⟨xp.toArray⟩] W fun r w' => r = .returned (.int .i64 (ownT l2 xp)) ∧ W = w') := fun W hb => owner_any (hBo W hb).pt (k := xp) (by omega)
              have HLE : Hid (∀ W, Below W4.heap.size W4 W → Calls Try.prog 30 #[.pointer (some ⟨h.b, 0, none⟩), .string ⟨xp.toArray⟩] W fun r w' => ∃ d c, r = .returned (.slice d lv.length c) ∧ NumsAt w' d lv ∧ Below W4.heap.size W4 w') := fun W hb => by
                refine (leftT_any (hBo W hb).pt (k := xp) (by omega)).mono fun r w' hr => ?_
                obtain ⟨v, rfl, hv, hb2⟩ := hr
                rw [← HLV.out] at hv
                obtain ⟨d, c, rfl, hn, _⟩ := OwnN.form hv (by omega)
                exact ⟨d, c, rfl, hn, hb.trans (hb2.mono hb.size)⟩
              have HS1 : Hid (∀ W d c, NumsAt W d lv → Below W4.heap.size W4 W → Calls Try.prog 22 #[.slice d lv.length c, .slice la lv.length lc] W fun r w' => r = .returned (.bool true) ∧ Below W4.heap.size W4 w') := fun W d c hn hb => by
                refine (sameInts_any d la c lc lv lv W hn (HLN4.out.later hb)).mono fun r w' hr => ?_
                obtain ⟨rfl, hb2⟩ := hr
                exact ⟨by rw [decide_eq_true rfl], hb.trans (hb2.mono hb.size)⟩
              have HAS : Hid (∀ W, Below W4.heap.size W4 W → Calls Try.prog 31 #[.pointer (some ⟨h.b, 0, none⟩), .string ⟨xp.toArray⟩] W fun r w' => r = .returned (.int .u8 (aslT l2 xp : Nat)) ∧ W = w') := fun W hb => asleep_any (hBo W hb).pt (k := xp) (by omega)
              have HAL : Hid (∀ W, Below W4.heap.size W4 W → Calls Try.prog 23 #[.int .u8 (aslT l2 xp : Nat)] W fun r w' => ∃ d c, r = .returned (.slice d av.length c) ∧ NumsAt w' d av ∧ Below W4.heap.size W4 w') := fun W hb => by
                refine (setAll_any has8 W).mono fun r w' hr => ?_
                obtain ⟨v, rfl, hv, hb2⟩ := hr
                rw [← HAV.out] at hv
                obtain ⟨d, c, rfl, hn, _⟩ := OwnN.form hv (by omega)
                exact ⟨d, c, rfl, hn, hb.trans (hb2.mono hb.size)⟩
              have HS2 : Hid (∀ W d c, NumsAt W d av → Below W4.heap.size W4 W → Calls Try.prog 22 #[.slice d av.length c, .slice aa av.length ac] W fun r w' => r = .returned (.bool true) ∧ Below W4.heap.size W4 w') := fun W d c hn hb => by
                refine (sameInts_any d aa c ac av av W hn (HAN4.out.later hb)).mono fun r w' hr => ?_
                obtain ⟨rfl, hb2⟩ := hr
                exact ⟨by rw [decide_eq_true rfl], hb.trans (hb2.mono hb.size)⟩
              have HLT : Hid (∀ W, Below W4.heap.size W4 W → Calls Try.prog 32 #[.pointer (some ⟨h.b, 0, none⟩)] W fun r w' => r = .returned (.int .i64 (rl2.length : Nat)) ∧ W = w') := fun W hb => by
                have := lenT_any (hBo W hb).pt
                rw [HT4.out.same.len] at this
                exact this
              have HCM : Hid (∀ W, Below W4.heap.size W4 W → Calls Try.prog 33 #[.pointer (some ⟨h.b, 0, none⟩)] W fun r w' => r = .returned (.int .i64 cl2) ∧ W = w') := fun W hb => claims_any (hBo W hb).pt
              clear hBo f2
              generalize ownT l2 xp = ow at *
              generalize aslT l2 xp = az at *
              have hB0 : Below W4.heap.size W4 W4.drew := (Below.refl _ _).drew
              have hSz := (HS.out _ (Below.refl W4.heap.size W4)).1
              have hS0 := (HS.out _ hB0).1
              go_upto_region 35 with (fail)
              dsimp only [List.append]
              refine wp_region_held_drew (S := fun W => W.cell? ⟨G, 2, none⟩ = some (.string ⟨xp.toArray⟩) ∧ W.cell? ⟨H.b, 1, none⟩ = some (.slice ra rl2.length rc) ∧ W.cell? ⟨H.b, 2, none⟩ = some (.int .i64 cl2)) (by kernel_rfl) (by with_reducible exact hS0) (fun hHeld => ?_)
              refine wpAnyH_take (i := 0) (oi := { dst := some 191, op := Op.move (Operand.tmp 13), type := 30, pos := "law.go:92", after := #[], guard := none }) (v := ?_) rfl (by kernel_rfl) (by kernel_rfl) (by kernel_rfl) (fun _ _ _ h => h) (Or.inl ⟨by kernel_rfl, ?_⟩) hHeld ?_
              rotate_left
              · intro w hSw
                try dsimp only at hSw
                go_simp
                with_reducible rfl
              try simp only [Act.put, List.setIfInBounds_toArray, List.set_cons_zero, List.set_cons_succ]
              refine wpAnyH_take (i := 1) (oi := { dst := some 192, op := Op.move (Operand.tmp 14), type := 3, pos := "law.go:92", after := #[], guard := none }) (v := ?_) rfl (by kernel_rfl) (by kernel_rfl) (by kernel_rfl) (fun _ _ _ h => h) (Or.inl ⟨by kernel_rfl, ?_⟩) hHeld ?_
              rotate_left
              · intro w hSw
                try dsimp only at hSw
                go_simp
                with_reducible rfl
              try simp only [Act.put, List.setIfInBounds_toArray, List.set_cons_zero, List.set_cons_succ]
              refine wpAnyH_take (i := 2) (oi := { dst := some 193, op := Op.binOp BinOp.neq 3 (Operand.tmp 191) (Operand.tmp 192) 3, type := 4, pos := "law.go:92", after := #[{ on := 0, ground := Ground.data }, { on := 1, ground := Ground.data }], guard := none }) (v := ?_) rfl (by kernel_rfl) (by kernel_rfl) (by kernel_rfl) (fun _ _ _ h => h) (Or.inl ⟨by kernel_rfl, ?_⟩) hHeld ?_
              rotate_left
              · intro w hSw
                try dsimp only at hSw
                go_simp
                with_reducible rfl
              try simp only [Act.put, List.setIfInBounds_toArray, List.set_cons_zero, List.set_cons_succ]
              refine wpAnyH_take (i := 3) (oi := { dst := some 194, op := Op.move (Operand.tmp 193), type := 4, pos := "law.go:92", after := #[{ on := 2, ground := Ground.data }], guard := none }) (v := ?_) rfl (by kernel_rfl) (by kernel_rfl) (by kernel_rfl) (fun _ _ _ h => h) (Or.inl ⟨by kernel_rfl, ?_⟩) hHeld ?_
              rotate_left
              · intro w hSw
                try dsimp only at hSw
                go_simp
                with_reducible rfl
              try simp only [Act.put, List.setIfInBounds_toArray, List.set_cons_zero, List.set_cons_succ]
              refine wpAnyH_take (i := 4) (oi := { dst := some 195, op := Op.move (Operand.tmp 7), type := 29, pos := "law.go:92", after := #[{ on := 3, ground := Ground.guard }], guard := some (3, false) }) (v := ?_) rfl (by kernel_rfl) (by kernel_rfl) (by kernel_rfl) (fun _ _ _ h => h) (Or.inl ⟨by kernel_rfl, ?_⟩) hHeld ?_
              rotate_left
              · intro w hSw
                try dsimp only at hSw
                go_simp
                with_reducible rfl
              try simp only [Act.put, List.setIfInBounds_toArray, List.set_cons_zero, List.set_cons_succ]
              refine wpAnyH_take (i := 5) (oi := { dst := some 196, op := Op.fieldAddr 40 (Operand.tmp 12) 2, type := 0, pos := "law.go:92", after := #[{ on := 3, ground := Ground.guard }], guard := some (3, false) }) (v := ?_) rfl (by kernel_rfl) (by kernel_rfl) (by kernel_rfl) (fun _ _ _ h => h) (Or.inl ⟨by kernel_rfl, ?_⟩) hHeld ?_
              rotate_left
              · intro w hSw
                try dsimp only at hSw
                go_simp
                with_reducible rfl
              try simp only [Act.put, List.setIfInBounds_toArray, List.set_cons_zero, List.set_cons_succ]
              refine wpAnyH_take (i := 6) (oi := { dst := some 197, op := Op.load 9 (Operand.tmp 196), type := 9, pos := "law.go:92", after := #[{ on := 5, ground := Ground.data }, { on := 3, ground := Ground.guard }], guard := some (3, false) }) (v := ?_) rfl (by kernel_rfl) (by kernel_rfl) (by kernel_rfl) (fun _ _ _ h => h) (Or.inl ⟨by kernel_rfl, ?_⟩) hHeld ?_
              rotate_left
              · intro w hSw
                try dsimp only at hSw
                go_simp
                with_reducible rfl
              try simp only [Act.put, List.setIfInBounds_toArray, List.set_cons_zero, List.set_cons_succ]
              refine wpAnyH_take (i := 8) (oi := { dst := some 199, op := Op.move (Operand.tmp 24), type := 3, pos := "law.go:92", after := #[{ on := 3, ground := Ground.guard }], guard := some (3, false) }) (v := ?_) rfl (by kernel_rfl) (by kernel_rfl) (by kernel_rfl) (fun _ _ _ h => h) (Or.inl ⟨by kernel_rfl, ?_⟩) hHeld ?_
              rotate_left
              · intro w hSw
                try dsimp only at hSw
                go_simp
                with_reducible rfl
              try simp only [Act.put, List.setIfInBounds_toArray, List.set_cons_zero, List.set_cons_succ]
              refine wpAnyH_ready (rs := [7]) (by kernel_rfl) (by simp) ?_
              refine AllReadyH.cons (o := { dst := some 198, op := Op.call { callee := Callee.value (Operand.func 29), args := #[Operand.tmp 195, Operand.tmp 197], argTypes := #[29, 9] }, type := 3, pos := "law.go:92", after := #[{ on := 4, ground := Ground.data }, { on := 6, ground := Ground.data }, { on := 3, ground := Ground.chain }, { on := 3, ground := Ground.guard }], guard := some (3, false) }) rfl (fun K hK => ?_) AllReadyH.nil
              go_simp
              refine (HOW.out _ hB0).mono ?_
              rintro r Wo ⟨rfl, rfl⟩
              refine hK.out _ _ hHeld (fun hHeld => ?_)
              clear hK K
              try simp only [Act.put, List.setIfInBounds_toArray, List.set_cons_zero, List.set_cons_succ]
              refine wpAnyH_take (i := 9) (oi := { dst := some 200, op := Op.binOp BinOp.neq 3 (Operand.tmp 198) (Operand.tmp 199) 3, type := 4, pos := "law.go:92", after := #[{ on := 7, ground := Ground.data }, { on := 8, ground := Ground.data }, { on := 3, ground := Ground.guard }], guard := some (3, false) }) (v := ?_) rfl (by kernel_rfl) (by kernel_rfl) (by kernel_rfl) (fun _ _ _ h => h) (Or.inl ⟨by kernel_rfl, ?_⟩) hHeld ?_
              rotate_left
              · intro w hSw
                try dsimp only at hSw
                go_simp
                with_reducible rfl
              try simp only [Act.put, List.setIfInBounds_toArray, List.set_cons_zero, List.set_cons_succ]
              refine wpAnyH_take (i := 10) (oi := { dst := some 201, op := Op.pick (Operand.tmp 194) (Operand.const (Value.bool true)) (Operand.tmp 200), type := 4, pos := "law.go:92", after := #[{ on := 3, ground := Ground.data }, { on := 9, ground := Ground.data }], guard := none }) (v := ?_) rfl (by kernel_rfl) (by kernel_rfl) (by kernel_rfl) (fun _ _ _ h => h) (Or.inl ⟨by kernel_rfl, ?_⟩) hHeld ?_
              rotate_left
              · intro w hSw
                try dsimp only at hSw
                go_simp
                with_reducible rfl
              try simp only [Act.put, List.setIfInBounds_toArray, List.set_cons_zero, List.set_cons_succ]
              refine wpAnyH_take (i := 11) (oi := { dst := some 202, op := Op.move (Operand.tmp 201), type := 4, pos := "law.go:92", after := #[{ on := 10, ground := Ground.data }, { on := 7, ground := Ground.chain }], guard := none }) (v := ?_) rfl (by kernel_rfl) (by kernel_rfl) (by kernel_rfl) (fun _ _ _ h => h) (Or.inl ⟨by kernel_rfl, ?_⟩) hHeld ?_
              rotate_left
              · intro w hSw
                try dsimp only at hSw
                go_simp
                with_reducible rfl
              try simp only [Act.put, List.setIfInBounds_toArray, List.set_cons_zero, List.set_cons_succ]
              refine wpAnyH_take (i := 12) (oi := { dst := some 203, op := Op.move (Operand.tmp 7), type := 29, pos := "law.go:92", after := #[{ on := 11, ground := Ground.guard }], guard := some (11, false) }) (v := ?_) rfl (by kernel_rfl) (by kernel_rfl) (by kernel_rfl) (fun _ _ _ h => h) (Or.inl ⟨by kernel_rfl, ?_⟩) hHeld ?_
              rotate_left
              · intro w hSw
                try dsimp only at hSw
                go_simp
                with_reducible rfl
              try simp only [Act.put, List.setIfInBounds_toArray, List.set_cons_zero, List.set_cons_succ]
              refine wpAnyH_take (i := 13) (oi := { dst := some 204, op := Op.fieldAddr 40 (Operand.tmp 12) 2, type := 0, pos := "law.go:92", after := #[{ on := 11, ground := Ground.guard }], guard := some (11, false) }) (v := ?_) rfl (by kernel_rfl) (by kernel_rfl) (by kernel_rfl) (fun _ _ _ h => h) (Or.inl ⟨by kernel_rfl, ?_⟩) hHeld ?_
              rotate_left
              · intro w hSw
                try dsimp only at hSw
                go_simp
                with_reducible rfl
              try simp only [Act.put, List.setIfInBounds_toArray, List.set_cons_zero, List.set_cons_succ]
              refine wpAnyH_take (i := 14) (oi := { dst := some 205, op := Op.load 9 (Operand.tmp 204), type := 9, pos := "law.go:92", after := #[{ on := 13, ground := Ground.data }, { on := 11, ground := Ground.guard }], guard := some (11, false) }) (v := ?_) rfl (by kernel_rfl) (by kernel_rfl) (by kernel_rfl) (fun _ _ _ h => h) (Or.inl ⟨by kernel_rfl, ?_⟩) hHeld ?_
              rotate_left
              · intro w hSw
                try dsimp only at hSw
                go_simp
                with_reducible rfl
              try simp only [Act.put, List.setIfInBounds_toArray, List.set_cons_zero, List.set_cons_succ]
              refine wpAnyH_take (i := 16) (oi := { dst := some 207, op := Op.move (Operand.tmp 25), type := 41, pos := "law.go:92", after := #[{ on := 11, ground := Ground.guard }], guard := some (11, false) }) (v := ?_) rfl (by kernel_rfl) (by kernel_rfl) (by kernel_rfl) (fun _ _ _ h => h) (Or.inl ⟨by kernel_rfl, ?_⟩) hHeld ?_
              rotate_left
              · intro w hSw
                try dsimp only at hSw
                go_simp
                with_reducible rfl
              try simp only [Act.put, List.setIfInBounds_toArray, List.set_cons_zero, List.set_cons_succ]
              refine wpAnyH_ready (rs := [15]) (by kernel_rfl) (by simp) ?_
              refine AllReadyH.cons (o := { dst := some 206, op := Op.call { callee := Callee.value (Operand.func 30), args := #[Operand.tmp 203, Operand.tmp 205], argTypes := #[29, 9] }, type := 41, pos := "law.go:92", after := #[{ on := 12, ground := Ground.data }, { on := 14, ground := Ground.data }, { on := 11, ground := Ground.chain }, { on := 11, ground := Ground.guard }], guard := some (11, false) }) rfl (fun K hK => ?_) AllReadyH.nil
              go_simp
              refine (HLE.out _ hB0).mono ?_
              rintro r W5 ⟨d5, c5, rfl, hn5, hB5⟩
              clear hHeld
              refine hK.out _ _ (HS.out _ hB5).1 (fun hHeld => ?_)
              clear hK K
              try simp only [Act.put, List.setIfInBounds_toArray, List.set_cons_zero, List.set_cons_succ]
              refine wpAnyH_ready (rs := [17]) (by kernel_rfl) (by simp) ?_
              refine AllReadyH.cons (o := { dst := some 208, op := Op.call { callee := Callee.value (Operand.func 22), args := #[Operand.tmp 206, Operand.tmp 207], argTypes := #[41, 41] }, type := 4, pos := "law.go:92", after := #[{ on := 15, ground := Ground.data }, { on := 16, ground := Ground.data }, { on := 15, ground := Ground.chain }, { on := 11, ground := Ground.guard }], guard := some (11, false) }) rfl (fun K hK => ?_) AllReadyH.nil
              go_simp
              refine (HS1.out _ d5 c5 hn5 hB5).mono ?_
              rintro r W6 ⟨rfl, hB6⟩
              clear hHeld
              refine hK.out _ _ (HS.out _ hB6).1 (fun hHeld => ?_)
              clear hK K
              try simp only [Act.put, List.setIfInBounds_toArray, List.set_cons_zero, List.set_cons_succ]
              refine wpAnyH_take (i := 18) (oi := { dst := some 209, op := Op.unOp UnOp.not 4 (Operand.tmp 208), type := 4, pos := "law.go:92", after := #[{ on := 17, ground := Ground.data }, { on := 11, ground := Ground.guard }], guard := some (11, false) }) (v := ?_) rfl (by kernel_rfl) (by kernel_rfl) (by kernel_rfl) (fun _ _ _ h => h) (Or.inl ⟨by kernel_rfl, ?_⟩) hHeld ?_
              rotate_left
              · intro w hSw
                try dsimp only at hSw
                go_simp
                with_reducible rfl
              try simp only [Act.put, List.setIfInBounds_toArray, List.set_cons_zero, List.set_cons_succ]
              refine wpAnyH_take (i := 19) (oi := { dst := some 210, op := Op.pick (Operand.tmp 202) (Operand.const (Value.bool true)) (Operand.tmp 209), type := 4, pos := "law.go:92", after := #[{ on := 11, ground := Ground.data }, { on := 18, ground := Ground.data }], guard := none }) (v := ?_) rfl (by kernel_rfl) (by kernel_rfl) (by kernel_rfl) (fun _ _ _ h => h) (Or.inl ⟨by kernel_rfl, ?_⟩) hHeld ?_
              rotate_left
              · intro w hSw
                try dsimp only at hSw
                go_simp
                with_reducible rfl
              try simp only [Act.put, List.setIfInBounds_toArray, List.set_cons_zero, List.set_cons_succ]
              refine wpAnyH_take (i := 20) (oi := { dst := some 211, op := Op.move (Operand.tmp 210), type := 4, pos := "law.go:92", after := #[{ on := 19, ground := Ground.data }, { on := 17, ground := Ground.chain }], guard := none }) (v := ?_) rfl (by kernel_rfl) (by kernel_rfl) (by kernel_rfl) (fun _ _ _ h => h) (Or.inl ⟨by kernel_rfl, ?_⟩) hHeld ?_
              rotate_left
              · intro w hSw
                try dsimp only at hSw
                go_simp
                with_reducible rfl
              try simp only [Act.put, List.setIfInBounds_toArray, List.set_cons_zero, List.set_cons_succ]
              refine wpAnyH_take (i := 21) (oi := { dst := some 212, op := Op.move (Operand.tmp 7), type := 29, pos := "law.go:92", after := #[{ on := 20, ground := Ground.guard }], guard := some (20, false) }) (v := ?_) rfl (by kernel_rfl) (by kernel_rfl) (by kernel_rfl) (fun _ _ _ h => h) (Or.inl ⟨by kernel_rfl, ?_⟩) hHeld ?_
              rotate_left
              · intro w hSw
                try dsimp only at hSw
                go_simp
                with_reducible rfl
              try simp only [Act.put, List.setIfInBounds_toArray, List.set_cons_zero, List.set_cons_succ]
              refine wpAnyH_take (i := 22) (oi := { dst := some 213, op := Op.fieldAddr 40 (Operand.tmp 12) 2, type := 0, pos := "law.go:92", after := #[{ on := 20, ground := Ground.guard }], guard := some (20, false) }) (v := ?_) rfl (by kernel_rfl) (by kernel_rfl) (by kernel_rfl) (fun _ _ _ h => h) (Or.inl ⟨by kernel_rfl, ?_⟩) hHeld ?_
              rotate_left
              · intro w hSw
                try dsimp only at hSw
                go_simp
                with_reducible rfl
              try simp only [Act.put, List.setIfInBounds_toArray, List.set_cons_zero, List.set_cons_succ]
              refine wpAnyH_take (i := 23) (oi := { dst := some 214, op := Op.load 9 (Operand.tmp 213), type := 9, pos := "law.go:92", after := #[{ on := 22, ground := Ground.data }, { on := 20, ground := Ground.guard }], guard := some (20, false) }) (v := ?_) rfl (by kernel_rfl) (by kernel_rfl) (by kernel_rfl) (fun _ _ _ h => h) (Or.inl ⟨by kernel_rfl, ?_⟩) hHeld ?_
              rotate_left
              · intro w hSw
                try dsimp only at hSw
                go_simp
                with_reducible rfl
              try simp only [Act.put, List.setIfInBounds_toArray, List.set_cons_zero, List.set_cons_succ]
              refine wpAnyH_take (i := 26) (oi := { dst := some 217, op := Op.move (Operand.tmp 26), type := 41, pos := "law.go:92", after := #[{ on := 20, ground := Ground.guard }], guard := some (20, false) }) (v := ?_) rfl (by kernel_rfl) (by kernel_rfl) (by kernel_rfl) (fun _ _ _ h => h) (Or.inl ⟨by kernel_rfl, ?_⟩) hHeld ?_
              rotate_left
              · intro w hSw
                try dsimp only at hSw
                go_simp
                with_reducible rfl
              try simp only [Act.put, List.setIfInBounds_toArray, List.set_cons_zero, List.set_cons_succ]
              refine wpAnyH_ready (rs := [24]) (by kernel_rfl) (by simp) ?_
              refine AllReadyH.cons (o := { dst := some 215, op := Op.call { callee := Callee.value (Operand.func 31), args := #[Operand.tmp 212, Operand.tmp 214], argTypes := #[29, 9] }, type := 44, pos := "law.go:92", after := #[{ on := 21, ground := Ground.data }, { on := 23, ground := Ground.data }, { on := 20, ground := Ground.chain }, { on := 20, ground := Ground.guard }], guard := some (20, false) }) rfl (fun K hK => ?_) AllReadyH.nil
              go_simp
              refine (HAS.out _ hB6).mono ?_
              rintro r Wo ⟨rfl, rfl⟩
              refine hK.out _ _ hHeld (fun hHeld => ?_)
              clear hK K
              try simp only [Act.put, List.setIfInBounds_toArray, List.set_cons_zero, List.set_cons_succ]
              refine wpAnyH_ready (rs := [25]) (by kernel_rfl) (by simp) ?_
              refine AllReadyH.cons (o := { dst := some 216, op := Op.call { callee := Callee.value (Operand.func 23), args := #[Operand.tmp 215], argTypes := #[44] }, type := 41, pos := "law.go:92", after := #[{ on := 24, ground := Ground.data }, { on := 24, ground := Ground.chain }, { on := 20, ground := Ground.guard }], guard := some (20, false) }) rfl (fun K hK => ?_) AllReadyH.nil
              go_simp
              refine (HAL.out _ hB6).mono ?_
              rintro r W7 ⟨d7, c7, rfl, hn7, hB7⟩
              clear hHeld
              refine hK.out _ _ (HS.out _ hB7).1 (fun hHeld => ?_)
              clear hK K
              try simp only [Act.put, List.setIfInBounds_toArray, List.set_cons_zero, List.set_cons_succ]
              refine wpAnyH_ready (rs := [27]) (by kernel_rfl) (by simp) ?_
              refine AllReadyH.cons (o := { dst := some 218, op := Op.call { callee := Callee.value (Operand.func 22), args := #[Operand.tmp 216, Operand.tmp 217], argTypes := #[41, 41] }, type := 4, pos := "law.go:92", after := #[{ on := 25, ground := Ground.data }, { on := 26, ground := Ground.data }, { on := 25, ground := Ground.chain }, { on := 20, ground := Ground.guard }], guard := some (20, false) }) rfl (fun K hK => ?_) AllReadyH.nil
              go_simp
              refine (HS2.out _ d7 c7 hn7 hB7).mono ?_
              rintro r W8 ⟨rfl, hB8⟩
              clear hHeld
              refine hK.out _ _ (HS.out _ hB8).1 (fun hHeld => ?_)
              clear hK K
              try simp only [Act.put, List.setIfInBounds_toArray, List.set_cons_zero, List.set_cons_succ]
              refine wpAnyH_take (i := 28) (oi := { dst := some 219, op := Op.unOp UnOp.not 4 (Operand.tmp 218), type := 4, pos := "law.go:92", after := #[{ on := 27, ground := Ground.data }, { on := 20, ground := Ground.guard }], guard := some (20, false) }) (v := ?_) rfl (by kernel_rfl) (by kernel_rfl) (by kernel_rfl) (fun _ _ _ h => h) (Or.inl ⟨by kernel_rfl, ?_⟩) hHeld ?_
              rotate_left
              · intro w hSw
                try dsimp only at hSw
                go_simp
                with_reducible rfl
              try simp only [Act.put, List.setIfInBounds_toArray, List.set_cons_zero, List.set_cons_succ]
              refine wpAnyH_take (i := 29) (oi := { dst := some 220, op := Op.pick (Operand.tmp 211) (Operand.const (Value.bool true)) (Operand.tmp 219), type := 4, pos := "law.go:92", after := #[{ on := 20, ground := Ground.data }, { on := 28, ground := Ground.data }], guard := none }) (v := ?_) rfl (by kernel_rfl) (by kernel_rfl) (by kernel_rfl) (fun _ _ _ h => h) (Or.inl ⟨by kernel_rfl, ?_⟩) hHeld ?_
              rotate_left
              · intro w hSw
                try dsimp only at hSw
                go_simp
                with_reducible rfl
              try simp only [Act.put, List.setIfInBounds_toArray, List.set_cons_zero, List.set_cons_succ]
              refine wpAnyH_take (i := 30) (oi := { dst := some 221, op := Op.move (Operand.tmp 220), type := 4, pos := "law.go:92", after := #[{ on := 29, ground := Ground.data }, { on := 27, ground := Ground.chain }], guard := none }) (v := ?_) rfl (by kernel_rfl) (by kernel_rfl) (by kernel_rfl) (fun _ _ _ h => h) (Or.inl ⟨by kernel_rfl, ?_⟩) hHeld ?_
              rotate_left
              · intro w hSw
                try dsimp only at hSw
                go_simp
                with_reducible rfl
              try simp only [Act.put, List.setIfInBounds_toArray, List.set_cons_zero, List.set_cons_succ]
              refine wpAnyH_take (i := 31) (oi := { dst := some 222, op := Op.move (Operand.tmp 7), type := 29, pos := "law.go:92", after := #[{ on := 30, ground := Ground.guard }], guard := some (30, false) }) (v := ?_) rfl (by kernel_rfl) (by kernel_rfl) (by kernel_rfl) (fun _ _ _ h => h) (Or.inl ⟨by kernel_rfl, ?_⟩) hHeld ?_
              rotate_left
              · intro w hSw
                try dsimp only at hSw
                go_simp
                with_reducible rfl
              try simp only [Act.put, List.setIfInBounds_toArray, List.set_cons_zero, List.set_cons_succ]
              refine wpAnyH_take (i := 33) (oi := { dst := some 224, op := Op.move (Operand.tmp 10), type := 35, pos := "law.go:92", after := #[{ on := 30, ground := Ground.guard }], guard := some (30, false) }) (v := ?_) rfl (by kernel_rfl) (by kernel_rfl) (by kernel_rfl) (fun _ _ _ h => h) (Or.inl ⟨by kernel_rfl, ?_⟩) hHeld ?_
              rotate_left
              · intro w hSw
                try dsimp only at hSw
                go_simp
                with_reducible rfl
              try simp only [Act.put, List.setIfInBounds_toArray, List.set_cons_zero, List.set_cons_succ]
              refine wpAnyH_take (i := 34) (oi := { dst := some 225, op := Op.nilCheck (Operand.tmp 224), type := 0, pos := "law.go:92", after := #[{ on := 33, ground := Ground.data }, { on := 30, ground := Ground.guard }], guard := some (30, false) }) (v := ?_) rfl (by kernel_rfl) (by kernel_rfl) (by kernel_rfl) (fun _ _ _ h => h) (Or.inl ⟨by kernel_rfl, ?_⟩) hHeld ?_
              rotate_left
              · intro w hSw
                try dsimp only at hSw
                go_simp
                with_reducible rfl
              try simp only [Act.put, List.setIfInBounds_toArray, List.set_cons_zero, List.set_cons_succ]
              refine wpAnyH_take (i := 35) (oi := { dst := some 226, op := Op.fieldAddr 38 (Operand.tmp 225) 1, type := 0, pos := "law.go:92", after := #[{ on := 34, ground := Ground.data }, { on := 30, ground := Ground.guard }], guard := some (30, false) }) (v := ?_) rfl (by kernel_rfl) (by kernel_rfl) (by kernel_rfl) (fun _ _ _ h => h) (Or.inl ⟨by kernel_rfl, ?_⟩) hHeld ?_
              rotate_left
              · intro w hSw
                try dsimp only at hSw
                go_simp
                with_reducible rfl
              try simp only [Act.put, List.setIfInBounds_toArray, List.set_cons_zero, List.set_cons_succ]
              refine wpAnyH_take (i := 36) (oi := { dst := some 227, op := Op.load 36 (Operand.tmp 226), type := 36, pos := "law.go:92", after := #[{ on := 35, ground := Ground.data }, { on := 30, ground := Ground.guard }], guard := some (30, false) }) (v := ?_) rfl (by kernel_rfl) (by kernel_rfl) (by kernel_rfl) (fun _ _ _ h => h) (Or.inl ⟨by kernel_rfl, ?_⟩) hHeld ?_
              rotate_left
              · intro w hSw
                try dsimp only at hSw
                go_simp
                with_reducible rfl
              try simp only [Act.put, List.setIfInBounds_toArray, List.set_cons_zero, List.set_cons_succ]
              refine wpAnyH_take (i := 37) (oi := { dst := some 228, op := Op.call { callee := Callee.builtin Builtin.len, args := #[Operand.tmp 227], argTypes := #[36] }, type := 3, pos := "law.go:92", after := #[{ on := 36, ground := Ground.data }, { on := 30, ground := Ground.guard }], guard := some (30, false) }) (v := ?_) rfl (by kernel_rfl) (by kernel_rfl) (by kernel_rfl) (fun _ _ _ h => h) (Or.inl ⟨by kernel_rfl, ?_⟩) hHeld ?_
              rotate_left
              · intro w hSw
                try dsimp only at hSw
                go_simp
                with_reducible rfl
              try simp only [Act.put, List.setIfInBounds_toArray, List.set_cons_zero, List.set_cons_succ]
              refine wpAnyH_ready (rs := [32]) (by kernel_rfl) (by simp) ?_
              refine AllReadyH.cons (o := { dst := some 223, op := Op.call { callee := Callee.value (Operand.func 32), args := #[Operand.tmp 222], argTypes := #[29] }, type := 3, pos := "law.go:92", after := #[{ on := 31, ground := Ground.data }, { on := 30, ground := Ground.chain }, { on := 30, ground := Ground.guard }], guard := some (30, false) }) rfl (fun K hK => ?_) AllReadyH.nil
              go_simp
              refine (HLT.out _ hB8).mono ?_
              rintro r Wo ⟨rfl, rfl⟩
              refine hK.out _ _ hHeld (fun hHeld => ?_)
              clear hK K
              try simp only [Act.put, List.setIfInBounds_toArray, List.set_cons_zero, List.set_cons_succ]
              refine wpAnyH_take (i := 38) (oi := { dst := some 229, op := Op.binOp BinOp.neq 3 (Operand.tmp 223) (Operand.tmp 228) 3, type := 4, pos := "law.go:92", after := #[{ on := 32, ground := Ground.data }, { on := 37, ground := Ground.data }, { on := 30, ground := Ground.guard }], guard := some (30, false) }) (v := ?_) rfl (by kernel_rfl) (by kernel_rfl) (by kernel_rfl) (fun _ _ _ h => h) (Or.inl ⟨by kernel_rfl, ?_⟩) hHeld ?_
              rotate_left
              · intro w hSw
                try dsimp only at hSw
                go_simp
                with_reducible rfl
              try simp only [Act.put, List.setIfInBounds_toArray, List.set_cons_zero, List.set_cons_succ]
              refine wpAnyH_take (i := 39) (oi := { dst := some 230, op := Op.pick (Operand.tmp 221) (Operand.const (Value.bool true)) (Operand.tmp 229), type := 4, pos := "law.go:92", after := #[{ on := 30, ground := Ground.data }, { on := 38, ground := Ground.data }], guard := none }) (v := ?_) rfl (by kernel_rfl) (by kernel_rfl) (by kernel_rfl) (fun _ _ _ h => h) (Or.inl ⟨by kernel_rfl, ?_⟩) hHeld ?_
              rotate_left
              · intro w hSw
                try dsimp only at hSw
                go_simp
                with_reducible rfl
              try simp only [Act.put, List.setIfInBounds_toArray, List.set_cons_zero, List.set_cons_succ]
              refine wpAnyH_take (i := 40) (oi := { dst := some 231, op := Op.move (Operand.tmp 230), type := 4, pos := "law.go:92", after := #[{ on := 39, ground := Ground.data }, { on := 32, ground := Ground.chain }], guard := none }) (v := ?_) rfl (by kernel_rfl) (by kernel_rfl) (by kernel_rfl) (fun _ _ _ h => h) (Or.inl ⟨by kernel_rfl, ?_⟩) hHeld ?_
              rotate_left
              · intro w hSw
                try dsimp only at hSw
                go_simp
                with_reducible rfl
              try simp only [Act.put, List.setIfInBounds_toArray, List.set_cons_zero, List.set_cons_succ]
              refine wpAnyH_take (i := 41) (oi := { dst := some 232, op := Op.move (Operand.tmp 7), type := 29, pos := "law.go:92", after := #[{ on := 40, ground := Ground.guard }], guard := some (40, false) }) (v := ?_) rfl (by kernel_rfl) (by kernel_rfl) (by kernel_rfl) (fun _ _ _ h => h) (Or.inl ⟨by kernel_rfl, ?_⟩) hHeld ?_
              rotate_left
              · intro w hSw
                try dsimp only at hSw
                go_simp
                with_reducible rfl
              try simp only [Act.put, List.setIfInBounds_toArray, List.set_cons_zero, List.set_cons_succ]
              refine wpAnyH_take (i := 43) (oi := { dst := some 234, op := Op.move (Operand.tmp 10), type := 35, pos := "law.go:92", after := #[{ on := 40, ground := Ground.guard }], guard := some (40, false) }) (v := ?_) rfl (by kernel_rfl) (by kernel_rfl) (by kernel_rfl) (fun _ _ _ h => h) (Or.inl ⟨by kernel_rfl, ?_⟩) hHeld ?_
              rotate_left
              · intro w hSw
                try dsimp only at hSw
                go_simp
                with_reducible rfl
              try simp only [Act.put, List.setIfInBounds_toArray, List.set_cons_zero, List.set_cons_succ]
              refine wpAnyH_take (i := 44) (oi := { dst := some 235, op := Op.nilCheck (Operand.tmp 234), type := 0, pos := "law.go:92", after := #[{ on := 43, ground := Ground.data }, { on := 40, ground := Ground.guard }], guard := some (40, false) }) (v := ?_) rfl (by kernel_rfl) (by kernel_rfl) (by kernel_rfl) (fun _ _ _ h => h) (Or.inl ⟨by kernel_rfl, ?_⟩) hHeld ?_
              rotate_left
              · intro w hSw
                try dsimp only at hSw
                go_simp
                with_reducible rfl
              try simp only [Act.put, List.setIfInBounds_toArray, List.set_cons_zero, List.set_cons_succ]
              refine wpAnyH_take (i := 45) (oi := { dst := some 236, op := Op.fieldAddr 38 (Operand.tmp 235) 2, type := 0, pos := "law.go:92", after := #[{ on := 44, ground := Ground.data }, { on := 40, ground := Ground.guard }], guard := some (40, false) }) (v := ?_) rfl (by kernel_rfl) (by kernel_rfl) (by kernel_rfl) (fun _ _ _ h => h) (Or.inl ⟨by kernel_rfl, ?_⟩) hHeld ?_
              rotate_left
              · intro w hSw
                try dsimp only at hSw
                go_simp
                with_reducible rfl
              try simp only [Act.put, List.setIfInBounds_toArray, List.set_cons_zero, List.set_cons_succ]
              refine wpAnyH_take (i := 46) (oi := { dst := some 237, op := Op.load 3 (Operand.tmp 236), type := 3, pos := "law.go:92", after := #[{ on := 45, ground := Ground.data }, { on := 40, ground := Ground.guard }], guard := some (40, false) }) (v := ?_) rfl (by kernel_rfl) (by kernel_rfl) (by kernel_rfl) (fun _ _ _ h => h) (Or.inl ⟨by kernel_rfl, ?_⟩) hHeld ?_
              rotate_left
              · intro w hSw
                try dsimp only at hSw
                go_simp
                with_reducible rfl
              try simp only [Act.put, List.setIfInBounds_toArray, List.set_cons_zero, List.set_cons_succ]
              refine wpAnyH_ready (rs := [42]) (by kernel_rfl) (by simp) ?_
              refine AllReadyH.cons (o := { dst := some 233, op := Op.call { callee := Callee.value (Operand.func 33), args := #[Operand.tmp 232], argTypes := #[29] }, type := 3, pos := "law.go:92", after := #[{ on := 41, ground := Ground.data }, { on := 40, ground := Ground.chain }, { on := 40, ground := Ground.guard }], guard := some (40, false) }) rfl (fun K hK => ?_) AllReadyH.nil
              go_simp
              refine (HCM.out _ hB8).mono ?_
              rintro r Wo ⟨rfl, rfl⟩
              refine hK.out _ _ hHeld (fun hHeld => ?_)
              clear hK K
              try simp only [Act.put, List.setIfInBounds_toArray, List.set_cons_zero, List.set_cons_succ]
              refine wpAnyH_take (i := 47) (oi := { dst := some 238, op := Op.binOp BinOp.neq 3 (Operand.tmp 233) (Operand.tmp 237) 3, type := 4, pos := "law.go:92", after := #[{ on := 42, ground := Ground.data }, { on := 46, ground := Ground.data }, { on := 40, ground := Ground.guard }], guard := some (40, false) }) (v := ?_) rfl (by kernel_rfl) (by kernel_rfl) (by kernel_rfl) (fun _ _ _ h => h) (Or.inl ⟨by kernel_rfl, ?_⟩) hHeld ?_
              rotate_left
              · intro w hSw
                try dsimp only at hSw
                go_simp
                with_reducible rfl
              try simp only [Act.put, List.setIfInBounds_toArray, List.set_cons_zero, List.set_cons_succ]
              refine wpAnyH_take (i := 48) (oi := { dst := some 239, op := Op.pick (Operand.tmp 231) (Operand.const (Value.bool true)) (Operand.tmp 238), type := 4, pos := "law.go:92", after := #[{ on := 40, ground := Ground.data }, { on := 47, ground := Ground.data }], guard := none }) (v := ?_) rfl (by kernel_rfl) (by kernel_rfl) (by kernel_rfl) (fun _ _ _ h => h) (Or.inl ⟨by kernel_rfl, ?_⟩) hHeld ?_
              rotate_left
              · intro w hSw
                try dsimp only at hSw
                go_simp
                with_reducible rfl
              try simp only [Act.put, List.setIfInBounds_toArray, List.set_cons_zero, List.set_cons_succ]
              refine wpAnyH_take (i := 49) (oi := { dst := some 240, op := Op.move (Operand.tmp 239), type := 4, pos := "law.go:92", after := #[{ on := 48, ground := Ground.data }, { on := 42, ground := Ground.chain }], guard := none }) (v := ?_) rfl (by kernel_rfl) (by kernel_rfl) (by kernel_rfl) (fun _ _ _ h => h) (Or.inl ⟨by kernel_rfl, ?_⟩) hHeld ?_
              rotate_left
              · intro w hSw
                try dsimp only at hSw
                go_simp
                with_reducible rfl
              try simp only [Act.put, List.setIfInBounds_toArray, List.set_cons_zero, List.set_cons_succ]
              refine wpAnyH_take (i := 50) (oi := { dst := some 241, op := Op.move (Operand.tmp 29), type := 30, pos := "law.go:92", after := #[{ on := 49, ground := Ground.guard }], guard := some (49, false) }) (v := ?_) rfl (by kernel_rfl) (by kernel_rfl) (by kernel_rfl) (fun _ _ _ h => h) (Or.inl ⟨by kernel_rfl, ?_⟩) hHeld ?_
              rotate_left
              · intro w hSw
                try dsimp only at hSw
                go_simp
                with_reducible rfl
              try simp only [Act.put, List.setIfInBounds_toArray, List.set_cons_zero, List.set_cons_succ]
              refine wpAnyH_take (i := 51) (oi := { dst := some 242, op := Op.move (Operand.tmp 31), type := 3, pos := "law.go:92", after := #[{ on := 49, ground := Ground.guard }], guard := some (49, false) }) (v := ?_) rfl (by kernel_rfl) (by kernel_rfl) (by kernel_rfl) (fun _ _ _ h => h) (Or.inl ⟨by kernel_rfl, ?_⟩) hHeld ?_
              rotate_left
              · intro w hSw
                try dsimp only at hSw
                go_simp
                with_reducible rfl
              try simp only [Act.put, List.setIfInBounds_toArray, List.set_cons_zero, List.set_cons_succ]
              refine wpAnyH_take (i := 52) (oi := { dst := some 243, op := Op.binOp BinOp.neq 3 (Operand.tmp 241) (Operand.tmp 242) 3, type := 4, pos := "law.go:92", after := #[{ on := 50, ground := Ground.data }, { on := 51, ground := Ground.data }, { on := 49, ground := Ground.guard }], guard := some (49, false) }) (v := ?_) rfl (by kernel_rfl) (by kernel_rfl) (by kernel_rfl) (fun _ _ _ h => h) (Or.inl ⟨by kernel_rfl, ?_⟩) hHeld ?_
              rotate_left
              · intro w hSw
                try dsimp only at hSw
                go_simp
                with_reducible rfl
              try simp only [Act.put, List.setIfInBounds_toArray, List.set_cons_zero, List.set_cons_succ]
              refine wpAnyH_take (i := 53) (oi := { dst := some 244, op := Op.pick (Operand.tmp 240) (Operand.const (Value.bool true)) (Operand.tmp 243), type := 4, pos := "law.go:92", after := #[{ on := 49, ground := Ground.data }, { on := 52, ground := Ground.data }], guard := none }) (v := ?_) rfl (by kernel_rfl) (by kernel_rfl) (by kernel_rfl) (fun _ _ _ h => h) (Or.inl ⟨by kernel_rfl, ?_⟩) hHeld ?_
              rotate_left
              · intro w hSw
                try dsimp only at hSw
                go_simp
                with_reducible rfl
              try simp only [Act.put, List.setIfInBounds_toArray, List.set_cons_zero, List.set_cons_succ]
              refine wpAnyH_take (i := 54) (oi := { dst := some 245, op := Op.move (Operand.tmp 244), type := 4, pos := "law.go:92", after := #[{ on := 53, ground := Ground.data }, { on := 49, ground := Ground.chain }], guard := none }) (v := ?_) rfl (by kernel_rfl) (by kernel_rfl) (by kernel_rfl) (fun _ _ _ h => h) (Or.inl ⟨by kernel_rfl, ?_⟩) hHeld ?_
              rotate_left
              · intro w hSw
                try dsimp only at hSw
                go_simp
                with_reducible rfl
              try simp only [Act.put, List.setIfInBounds_toArray, List.set_cons_zero, List.set_cons_succ]
              refine wpAnyH_take (i := 55) (oi := { dst := some 246, op := Op.move (Operand.tmp 31), type := 3, pos := "law.go:92", after := #[{ on := 54, ground := Ground.guard }], guard := some (54, false) }) (v := ?_) rfl (by kernel_rfl) (by kernel_rfl) (by kernel_rfl) (fun _ _ _ h => h) (Or.inl ⟨by kernel_rfl, ?_⟩) hHeld ?_
              rotate_left
              · intro w hSw
                try dsimp only at hSw
                go_simp
                with_reducible rfl
              try simp only [Act.put, List.setIfInBounds_toArray, List.set_cons_zero, List.set_cons_succ]
              refine wpAnyH_take (i := 56) (oi := { dst := some 247, op := Op.binOp BinOp.eql 3 (Operand.tmp 246) (Operand.const (Value.int IntKind.i64 0)) 3, type := 4, pos := "law.go:92", after := #[{ on := 55, ground := Ground.data }, { on := 54, ground := Ground.guard }], guard := some (54, false) }) (v := ?_) rfl (by kernel_rfl) (by kernel_rfl) (by kernel_rfl) (fun _ _ _ h => h) (Or.inl ⟨by kernel_rfl, ?_⟩) hHeld ?_
              rotate_left
              · intro w hSw
                try dsimp only at hSw
                go_simp
                with_reducible rfl
              try simp only [Act.put, List.setIfInBounds_toArray, List.set_cons_zero, List.set_cons_succ]
              refine wpAnyH_take (i := 57) (oi := { dst := some 248, op := Op.move (Operand.tmp 247), type := 4, pos := "law.go:92", after := #[{ on := 56, ground := Ground.data }, { on := 54, ground := Ground.chain }, { on := 54, ground := Ground.guard }], guard := some (54, false) }) (v := ?_) rfl (by kernel_rfl) (by kernel_rfl) (by kernel_rfl) (fun _ _ _ h => h) (Or.inl ⟨by kernel_rfl, ?_⟩) hHeld ?_
              rotate_left
              · intro w hSw
                try dsimp only at hSw
                go_simp
                with_reducible rfl
              try simp only [Act.put, List.setIfInBounds_toArray, List.set_cons_zero, List.set_cons_succ]
              refine wpAnyH_take (i := 58) (oi := { dst := some 249, op := Op.move (Operand.tmp 27), type := 59, pos := "law.go:92", after := #[{ on := 57, ground := Ground.guard }], guard := some (57, true) }) (v := ?_) rfl (by kernel_rfl) (by kernel_rfl) (by kernel_rfl) (fun _ _ _ h => h) (Or.inl ⟨by kernel_rfl, ?_⟩) hHeld ?_
              rotate_left
              · intro w hSw
                try dsimp only at hSw
                go_simp
                with_reducible rfl
              try simp only [Act.put, List.setIfInBounds_toArray, List.set_cons_zero, List.set_cons_succ]
              refine wpAnyH_take (i := 60) (oi := { dst := some 251, op := Op.move (Operand.tmp 30), type := 33, pos := "law.go:92", after := #[{ on := 57, ground := Ground.guard }], guard := some (57, true) }) (v := ?_) rfl (by kernel_rfl) (by kernel_rfl) (by kernel_rfl) (fun _ _ _ h => h) (Or.inl ⟨by kernel_rfl, ?_⟩) hHeld ?_
              rotate_left
              · intro w hSw
                try dsimp only at hSw
                go_simp
                with_reducible rfl
              try simp only [Act.put, List.setIfInBounds_toArray, List.set_cons_zero, List.set_cons_succ]
              refine wpAnyH_ready (rs := [59]) (by kernel_rfl) (by simp) ?_
              refine AllReadyH.cons (o := { dst := some 250, op := Op.call { callee := Callee.value (Operand.func 34), args := #[Operand.tmp 249], argTypes := #[59] }, type := 41, pos := "law.go:92", after := #[{ on := 58, ground := Ground.data }, { on := 57, ground := Ground.chain }, { on := 57, ground := Ground.guard }], guard := some (57, true) }) rfl (fun K hK => ?_) AllReadyH.nil
              go_simp
              refine (HA1.out _ hB8).mono ?_
              rintro r W9 ⟨d9, c9, rfl, hn9, hB9⟩
              clear hHeld
              refine hK.out _ _ (HS.out _ hB9).1 (fun hHeld => ?_)
              clear hK K
              try simp only [Act.put, List.setIfInBounds_toArray, List.set_cons_zero, List.set_cons_succ]
              refine wpAnyH_ready (rs := [61]) (by kernel_rfl) (by simp) ?_
              refine AllReadyH.cons (o := { dst := some 252, op := Op.call { callee := Callee.value (Operand.func 35), args := #[Operand.tmp 251], argTypes := #[33] }, type := 41, pos := "law.go:92", after := #[{ on := 60, ground := Ground.data }, { on := 59, ground := Ground.chain }, { on := 57, ground := Ground.guard }], guard := some (57, true) }) rfl (fun K hK => ?_) AllReadyH.nil
              go_simp
              refine (HA2.out _ d9 hn9 hB9).mono ?_
              rintro r W10 ⟨d10, c10, rfl, hn10, hn9x, hB10⟩
              clear hHeld
              refine hK.out _ _ (HS.out _ hB10).1 (fun hHeld => ?_)
              clear hK K
              try simp only [Act.put, List.setIfInBounds_toArray, List.set_cons_zero, List.set_cons_succ]
              refine wpAnyH_ready (rs := [62]) (by kernel_rfl) (by simp) ?_
              refine AllReadyH.cons (o := { dst := some 253, op := Op.call { callee := Callee.value (Operand.func 22), args := #[Operand.tmp 250, Operand.tmp 252], argTypes := #[41, 41] }, type := 4, pos := "law.go:92", after := #[{ on := 59, ground := Ground.data }, { on := 61, ground := Ground.data }, { on := 61, ground := Ground.chain }, { on := 57, ground := Ground.guard }], guard := some (57, true) }) rfl (fun K hK => ?_) AllReadyH.nil
              go_simp
              refine (HS3.out _ d9 c9 d10 c10 hn9x hn10 hB10).mono ?_
              rintro r W11 ⟨rfl, hB11⟩
              clear hHeld
              refine hK.out _ _ (HS.out _ hB11).1 (fun hHeld => ?_)
              clear hK K
              try simp only [Act.put, List.setIfInBounds_toArray, List.set_cons_zero, List.set_cons_succ]
              refine wpAnyH_take (i := 63) (oi := { dst := some 254, op := Op.unOp UnOp.not 4 (Operand.tmp 253), type := 4, pos := "law.go:92", after := #[{ on := 62, ground := Ground.data }, { on := 57, ground := Ground.guard }], guard := some (57, true) }) (v := ?_) rfl (by kernel_rfl) (by kernel_rfl) (by kernel_rfl) (fun _ _ _ h => h) (Or.inl ⟨by kernel_rfl, ?_⟩) hHeld ?_
              rotate_left
              · intro w hSw
                try dsimp only at hSw
                go_simp
                with_reducible rfl
              try simp only [Act.put, List.setIfInBounds_toArray, List.set_cons_zero, List.set_cons_succ]
              refine wpAnyH_take (i := 64) (oi := { dst := some 255, op := Op.pick (Operand.tmp 248) (Operand.tmp 254) (Operand.const (Value.bool false)), type := 4, pos := "law.go:92", after := #[{ on := 57, ground := Ground.data }, { on := 63, ground := Ground.data }, { on := 54, ground := Ground.guard }], guard := some (54, false) }) (v := ?_) rfl (by kernel_rfl) (by kernel_rfl) (by kernel_rfl) (fun _ _ _ h => h) (Or.inl ⟨by kernel_rfl, ?_⟩) hHeld ?_
              rotate_left
              · intro w hSw
                try dsimp only at hSw
                go_simp
                with_reducible rfl
              try simp only [Act.put, List.setIfInBounds_toArray, List.set_cons_zero, List.set_cons_succ]
              refine wpAnyH_take (i := 65) (oi := { dst := some 256, op := Op.pick (Operand.tmp 245) (Operand.const (Value.bool true)) (Operand.tmp 255), type := 4, pos := "law.go:92", after := #[{ on := 54, ground := Ground.data }, { on := 64, ground := Ground.data }], guard := none }) (v := ?_) rfl (by kernel_rfl) (by kernel_rfl) (by kernel_rfl) (fun _ _ _ h => h) (Or.inl ⟨by kernel_rfl, ?_⟩) hHeld ?_
              rotate_left
              · intro w hSw
                try dsimp only at hSw
                go_simp
                with_reducible rfl
              try simp only [Act.put, List.setIfInBounds_toArray, List.set_cons_zero, List.set_cons_succ]
              refine wpAnyH_done (by kernel_rfl) ?_ _
              all_goals
                clear hSz hS0 hB0
                have HE := Lib.hid (HS.out _ hB11).2
                go_wp2_with fail
                go_roundw
                case rel => exact ⟨j + 1, by omega, by go_num, ⟨_, _, _, _, _, _, HE.out⟩⟩
                case measure => simp [intOf]; omega
    · obtain rfl : j = ol.length := by omega
      obtain ⟨gs, l, cl, ms, rl, vN, T⟩ := HI.out
      have HB := Lib.hid (T.below HFX.out)
      clear T HI
      go_wp2
      go_ret
      exact ⟨rfl, HB.out⟩
end Go.Proofs.Ytkphdmfcmfojeaa
