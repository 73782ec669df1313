/- The law MailPlays, walked. -/
import Derived.Test.YtpanfhkmildkeaaMlList
import Derived.Deep.DeepCutAuto
import Derived.Deep.CutBlock
import Derived.Deep.RegionLaw
namespace Go.Proofs.Ytpanfhkmildkeaa
open Go.RowKit

set_option maxRecDepth 100000 in
set_option maxHeartbeats 8000000 in
theorem mailPlays_any (z : Int) (oa : Option Addr) (ol : List MOp) (oc : Nat) (w : World) (hord : RowAt w oa 4 mopCell ol) (hst : ∀ o ∈ ol, o.set < 256) :
    Calls Try.prog 3 #[.int .i64 z, .slice oa ol.length oc] w fun r w' => r = .returned (.bool true) ∧ Below w.heap.size w w' := by
  have HOP : Hid (∀ W, Below w.heap.size w W → RowAt W oa 4 mopCell ol) := fun W hb => hord.later hb
  have HST := Lib.hid hst
  clear hord hst
  go_enter Try.func3, Try.ntmps3
  go_wp2_with fail
  refine (awake12_any w).mono ?_
  rintro r W2 ⟨rfl, hb2⟩
  by_cases h300 : 300 < ol.length
  · have q3 : decide ((300 : Int) < (ol.length : Int)) = true := decide_eq_true (by omega)
    go_wp2_with fail
    refine (awake12_any _).mono ?_
    rintro r w3 ⟨rfl, hb3⟩
    go_wp2
    go_ret
    exact ⟨rfl, hb2.trans (hb3.mono hb2.size)⟩
  have q3 : decide ((300 : Int) < (ol.length : Int)) = false := decide_eq_false (by omega)
  have hol : ol.length ≤ 300 := by omega
  by_cases hz : z < 1 ∨ 64 < z
  · have HN := Lib.hid (mNew_bad hz W2)
    have HB := Lib.hid hb2
    by_cases h1 : z < 1
    · have d1 : decide (z < 1) = true := decide_eq_true h1
      clear hz hb2
      go_wp2_with fail
      refine HN.out.mono ?_
      rintro r w' ⟨rfl, rfl⟩
      go_wp2
      go_ret
      exact ⟨rfl, HB.out⟩
    · have d1 : decide (z < 1) = false := decide_eq_false h1
      have d2 : decide (64 < z) = true := decide_eq_true (by omega)
      clear hz hb2
      go_wp2_with fail
      refine HN.out.mono ?_
      rintro r w' ⟨rfl, rfl⟩
      go_wp2
      go_ret
      exact ⟨rfl, HB.out⟩
  obtain ⟨n, rfl⟩ : ∃ n : Nat, z = n := ⟨z.toNat, by omega⟩
  have hn1 : 1 ≤ n := by omega
  have hn64 : n ≤ 64 := by omega
  have d1 : decide ((n : Int) < 1) = false := decide_eq_false (by omega)
  have d2 : decide ((64 : Int) < (n : Int)) = false := decide_eq_false (by omega)
  clear hz
  go_wp2_with fail
  refine (mNew_any hn1 hn64 W2).mono ?_
  rintro r W3 ⟨rfl, hb3, S, q, hS⟩
  have HI0 : Hid (MPl w W2.heap.size (W2.heap.size + 1) n (.slice none 0 0) [] S W3) := ⟨q, ownRow_nil _ _ _ _ _, (by simp), hb2.trans (hb3.mono hb2.size), hb2.size⟩
  clear hb2 hb3 hS q h300
  generalize W2.heap.size + 1 = b at *
  generalize W2.heap.size = B at *
  go_wp2_with fail
  go_loopw [7, 9, 10, 11, 12, 13, 14, 42] (fun v _ _ _ _ _ _ i wr => ∃ (j : Nat) (wl : List RL) (S : Nat → Prop), j ≤ ol.length ∧ i = .int .i64 j ∧ wl.length ≤ j ∧ Hid (MPl w B b n v wl S wr)) (fun _ _ _ _ _ _ _ i _ => ol.length - (intOf i).toNat)
  case atStart => exact ⟨0, [], S, Nat.zero_le _, rfl, Nat.zero_le _, HI0⟩
  case round =>
    clear HI0
    obtain ⟨j, wl, S', hj, rfl, hwl, HI⟩ := hrel
    by_cases hlt : j < ol.length
    · obtain ⟨pb, o, rfl, e0, e1, e2, e3⟩ := (HOP.out _ HI.out.below).mop hlt
      have hx256 := HST.out _ (List.getElem_mem hlt)
      obtain ⟨a, cap, e, _, _⟩ := HI.out.row.form rlCell_len (by omega)
      subst e
      obtain ⟨m, hm⟩ : ∃ m, m = wl.length := ⟨_, rfl⟩
      have HM := Lib.hid hm
      rw [← hm] at HI hwl
      rw [← hm]
      clear hm
      generalize ol[j] = x at *
      obtain ⟨xk, xt, xs, xz⟩ := x
      dsimp only at e0 e1 e2 e3 hx256
      have hqs : (⟨xs.toArray⟩ : ByteArray).size = xs.length := by simp [ByteArray.size]
      by_cases h50 : 50 < xs.length
      · have q50 : decide ((50 : Int) < (xs.length : Int)) = true := decide_eq_true (by omega)
        have HB : Hid (Below w.heap.size w (wr.alloc (.cells #[.int .i64 xk, .int .i64 xt, .string ⟨xs.toArray⟩, .int .u8 xz] 30))) := HI.out.below.alloc HI.out.below.size _
        go_wp2
        go_ret
        exact ⟨rfl, HB.out⟩
      have q50 : decide ((50 : Int) < (xs.length : Int)) = false := decide_eq_false (by omega)
      have HI6 := Lib.hid (HI.out.later (below_alloc1 wr (.cells #[.int .i64 xk, .int .i64 xt, .string ⟨xs.toArray⟩, .int .u8 xz] 30)))
      have HBK : Hid ((wr.alloc (.cells #[.int .i64 xk, .int .i64 xt, .string ⟨xs.toArray⟩, .int .u8 xz] 30)).heap[wr.heap.size]? = some (.cells #[.int .i64 xk, .int .i64 xt, .string ⟨xs.toArray⟩, .int .u8 xz] 30 (0, 0))) := heap_alloc_new wr _
      have hxs : xs.length ≤ 50 := by omega
      clear h50
      go_upto_region 12 with (fail)
      generalize wr.alloc (.cells #[.int .i64 xk, .int .i64 xt, .string ⟨xs.toArray⟩, .int .u8 xz] 30) = W6 at *
      generalize wr.heap.size = G6 at *
      have HF6 : Hid (∀ W : World, W.heap[G6]? = some (.cells #[.int .i64 xk, .int .i64 xt, .string ⟨xs.toArray⟩, .int .u8 xz] 30 (0, 0)) → W.cell? ⟨G6, 0, none⟩ = some (.int .i64 xk) ∧ W.cell? ⟨G6, 1, none⟩ = some (.int .i64 xt) ∧ W.cell? ⟨G6, 2, none⟩ = some (.string ⟨xs.toArray⟩) ∧ W.cell? ⟨G6, 3, none⟩ = some (.int .u8 xz)) := fun W hW => ⟨by rw [cell_of_row W _ 0 _ _ _ hW]; rfl, by rw [cell_of_row W _ 1 _ _ _ hW]; rfl, by rw [cell_of_row W _ 2 _ _ _ hW]; rfl, by rw [cell_of_row W _ 3 _ _ _ hW]; rfl⟩
      have HNS : Hid (¬ S' G6) := HI6.out.q.not_row HBK.out (by decide) (by decide) (by decide)
      obtain ⟨f0, f1, f2, f3⟩ := HF6.out W6 HBK.out
      clear e0 e1 e2 e3
      by_cases hr : 0 ≤ xt ∧ xt < n
      · obtain ⟨t, rfl⟩ : ∃ t : Nat, xt = t := ⟨xt.toNat, by omega⟩
        have ht : t < n := by omega
        have g0 : decide ((0 : Int) ≤ (t : Int)) = true := decide_eq_true (by omega)
        have g1 : decide ((t : Int) < (n : Int)) = true := decide_eq_true (by omega)
        clear hr
        by_cases k1 : xk = 1
        · subst k1
          have HP := Lib.hid (mSend_any HI6.out.q (j := t) ht ⟨xs, xz⟩ (by show xs.length ≤ _; omega) (by rw [ofL_tot wl fun x hx => (HI6.out.to x hx).1]; have := HM.out; omega))
          go_wp2_with fail
          refine HP.out.mono ?_
          rintro r W7 ⟨rfl, h7⟩
          obtain ⟨S2, r7, z7, o7, h8⟩ := HI6.out.send (x := ⟨t, xz, xs⟩) rfl ht ⟨by show (0 : Int) ≤ xz; omega, by show (xz : Int) < 256; omega⟩ h7
          have hb7 := HI6.out.box o7 HBK.out
          obtain ⟨f0, f1, f2, f3⟩ := HF6.out W7 hb7
          have H8 := Lib.hid h8
          have R7 := Lib.hid r7
          have HB7 := Lib.hid hb7
          have hml : wl.length ≤ 1000 := by have := HM.out; omega
          clear h7 o7 h8 r7 hb7
          go_wp2_with (at_builtin; refine wp_appendR (f := rlCell) (n := 3) 28 36 32 (.agg #[.int .i64 0, .int .i64 0, .string ByteArray.empty]) Try.underlying28 infoRL rfl (by omega) (by omega) rlCell_len rfl (.tmp 84) (.tmp 93) rfl B _ wl rfl (R7.out.alloc _) ⟨W7.heap.size, 0, none⟩ rfl ⟨t, xz, xs⟩ (rlCell_one _) (rl_new W7 _ _ rfl) (by omega) (by simp; omega) ?_; intro v8 W8 hown8 _ hg8)
          obtain ⟨he8, hbx8⟩ := H8.out _ v8 W8 hown8 hg8
          obtain ⟨f0, f1, f2, f3⟩ := HF6.out W8 (hbx8 G6 _ HB7.out)
          obtain ⟨wl8, hwl8⟩ : ∃ l, l = wl ++ [(⟨t, xz, xs⟩ : RL)] := ⟨_, rfl⟩
          rw [← hwl8] at he8
          have HM8 : Hid (wl8.length = m + 1) := by show _ = _; rw [hwl8, List.length_append, HM.out]; rfl
          obtain ⟨a8, cap8, e8, _, _⟩ := he8.row.form rlCell_len (by rw [HM8.out]; omega)
          rw [HM8.out] at e8
          subst e8
          have HE := Lib.hid he8
          clear he8 hbx8 hown8 hg8 hwl8

          have HLQ := Lib.hid (fun k => HE.out.lenQ (t : Int) k)
          have HTQ : Hid (∀ k, Calls Try.prog 13 #[.pointer (some ⟨b, 0, none⟩)] (W8.drewN k) fun r w' => r = .returned (.int .i64 (m + 1)) ∧ ∃ i, w' = W8.drewN i) := fun k => by
            have := HE.out.totQ k
            rw [HM8.out] at this
            exact this
          have HCQ : Hid (∀ k, Calls Try.prog 12 #[.slice a8 (m + 1) cap8, .int .i64 (t : Int)] (W8.drewN k) fun r w' => r = .returned (.int .i64 (countL wl8 (t : Int) : Nat)) ∧ ∃ i, w' = W8.drewN i) := fun k => by
            have := HE.out.cntQ (a := a8) (cap := cap8) (by rw [HM8.out]) (by rw [HM8.out]; omega) (t : Int) k
            rw [HM8.out] at this
            exact this
          have HP8 : Hid (wl8.length ≤ j + 1) := by show _ ≤ _; rw [HM8.out]; omega
          generalize countL wl8 (t : Int) = ct at *
          go_wp2_with fail
          go_quiet ((first | (go_at_call 11; exact HLQ.out _) | (go_at_call 12; exact HCQ.out _) | (go_at_call 13; exact HTQ.out _)))
          go_wp2_with fail
          go_roundw
          case rel => exact ⟨j + 1, wl8, _, by omega, by go_num, HP8.out, HE.out.later (Below.refl _ _).drewN⟩
          case measure => simp [intOf]; omega
        · have q1 : (xk == 1) = false := by simpa using k1
          have HI7 : Hid (∀ W, Below W6.heap.size W6 W → MPl w B b n (.slice a m cap) wl S' W) := fun W hb => HI6.out.later hb
          rcases first_cases wl (t : Int) with ⟨e1, e2⟩ | ⟨l1, x, l2, e1, e2, e3, e4⟩
          · have HP := Lib.hid (mTake_none HI6.out.q (j := t) ht (List.eq_nil_of_length_eq_zero (by rw [ofL_count]; exact e2)))
            have E1 := Lib.hid e1
            clear e1 e2
            go_wp2_with fail
            refine HP.out.mono ?_
            rintro r W7 ⟨rfl, hb7⟩
            have HB8 := Lib.hid (hb7.alloc hb7.size (.cells #[.string ⟨#[]⟩, .int .u8 0] 34))
            have HBOX : Hid ((W7.alloc (.cells #[.string ⟨#[]⟩, .int .u8 0] 34)).heap[G6]? = some (.cells #[.int .i64 xk, .int .i64 (t : Int), .string ⟨xs.toArray⟩, .int .u8 xz] 30 (0, 0))) := (HB8.out.block _ (Array.getElem?_eq_some_iff.1 HBK.out).1).trans HBK.out
            have HE := Lib.hid (HI7.out _ HB8.out)
            have HR8 : Hid (RowAt (W7.alloc (.cells #[.string ⟨#[]⟩, .int .u8 0] 34)) a 3 rlCell wl) := by
              obtain ⟨a', cap', e', hr', _⟩ := HE.out.row.form rlCell_len (by have := HM.out; omega)
              injection e' with e5 e6 e7
              subst e5
              exact hr'
            have HFI : Hid (Calls Try.prog 10 #[.slice a m cap, .int .i64 (t : Int)] (W7.alloc (.cells #[.string ⟨#[]⟩, .int .u8 0] 34)) fun r w' => r = .returned (.int .i64 (-1)) ∧ W7.alloc (.cells #[.string ⟨#[]⟩, .int .u8 0] 34) = w') := by
              have h := refFirst_any a cap wl (t : Int) _ HR8.out (by have := HM.out; omega)
              rw [← HM.out, E1.out] at h
              exact h
            have hbx7 := (hb7.block _ (Array.getElem?_eq_some_iff.1 HBK.out).1).trans HBK.out
            obtain ⟨p0, p1, p2, p3⟩ := HF6.out _ hbx7
            have hlt7 : G6 < W7.heap.size := (Array.getElem?_eq_some_iff.1 hbx7).1
            clear hbx7
            have hlc : (W7.alloc (.cells #[.string ⟨#[]⟩, .int .u8 0] 34)).cell? ⟨W7.heap.size, 0, none⟩ = some (.string ⟨#[]⟩) := by simp
            have hlc2 : (W7.alloc (.cells #[.string ⟨#[]⟩, .int .u8 0] 34)).cell? ⟨W7.heap.size, 1, none⟩ = some (.int .u8 0) := by simp
            clear hb7
            have heq : ∀ W : World, (Op.equalIn 10000 34 (.agg #[.string ⟨#[]⟩, .int .u8 0]) (.agg #[.string ⟨#[]⟩, .int .u8 0])).run Try.prog W = .ok true W := fun W => run_equal_let let0 let0 W
            have hm1 : decide ((0 : Int) ≤ -1) = false := rfl
            go_wp2_with fail
            refine HFI.out.mono ?_
            rintro r w' ⟨rfl, rfl⟩
            obtain ⟨f0, f1, f2, f3⟩ := HF6.out _ HBOX.out
            clear p0 p1 p2 p3
            generalize W7.alloc (.cells #[.string ⟨#[]⟩, .int .u8 0] 34) = W8 at *
            go_wp2_with fail
            go_quiet (fail)
            have HE9 := Lib.hid (HE.out.later (Below.refl W8.heap.size W8).drewN (w' := W8.drewN nq))
            have h1 : (W8.drewN nq).cell? ⟨G6, 1, none⟩ = some (.int .i64 (t : Int)) := f1
            clear hm1 heq hlc hlc2 hlt7 f0 f1 f2 f3 HE HFI HR8 HBOX HB8
            generalize W8.drewN nq = W9 at *
            have HE := HE9
            have HM8 : Hid (wl.length = m) := HM.out.symm

            have HLQ := Lib.hid (fun k => HE.out.lenQ (t : Int) k)
            have HTQ : Hid (∀ k, Calls Try.prog 13 #[.pointer (some ⟨b, 0, none⟩)] (W9.drewN k) fun r w' => r = .returned (.int .i64 m) ∧ ∃ i, w' = W9.drewN i) := fun k => by
              have := HE.out.totQ k
              rw [HM8.out] at this
              exact this
            have HCQ : Hid (∀ k, Calls Try.prog 12 #[.slice a m cap, .int .i64 (t : Int)] (W9.drewN k) fun r w' => r = .returned (.int .i64 (countL wl (t : Int) : Nat)) ∧ ∃ i, w' = W9.drewN i) := fun k => by
              have := HE.out.cntQ (a := a) (cap := cap) (by rw [HM8.out]) (by rw [HM8.out]; omega) (t : Int) k
              rw [HM8.out] at this
              exact this
            have HP8 : Hid (wl.length ≤ j + 1) := by show _ ≤ _; rw [HM8.out]; omega
            generalize countL wl (t : Int) = ct at *
            go_wp2_with fail
            go_quiet ((first | (go_at_call 11; exact HLQ.out _) | (go_at_call 12; exact HCQ.out _) | (go_at_call 13; exact HTQ.out _)))
            go_wp2_with fail
            go_roundw
            case rel => exact ⟨j + 1, wl, _, by omega, by go_num, HP8.out, HE.out.later (Below.refl _ _).drewN⟩
            case measure => simp [intOf]; omega

          · subst e1
            obtain ⟨_, ⟨_, e'⟩ | ⟨g, cap', _, e', _, _, hcap, _⟩⟩ := HI6.out.row
            · simp at e'
            injection e' with e5 e6 e7
            subst e5 e7
            rw [← e6] at hcap
            clear e6
            obtain ⟨p, hp⟩ : ∃ p, p = l1.length := ⟨_, rfl⟩
            obtain ⟨q2, hq⟩ : ∃ q2, q2 = l2.length := ⟨_, rfl⟩
            have hm : m = p + 1 + q2 := by
              have := HM.out
              rw [List.length_append, List.length_cons] at this
              omega
            have hx := (HI6.out.to x (by simp)).2
            have HP : Hid (Calls Try.prog 9 #[.pointer (some ⟨b, 0, none⟩), .int .i64 (t : Int)] W6 fun e w' => e = .returned (.tuple #[.agg #[.string ⟨x.s.toArray⟩, .int .u8 x.set], .bool true]) ∧ TookR B b n S' (ofL (l1 ++ x :: l2)) t (ofL (l1 ++ l2) t) W6 w') := mTake_any HI6.out.q (j := t) ht (l := letL x) (r := ofL (l1 ++ l2) t) (ofL_cut e3 e4).1 (by rw [ofL_tot _ fun x hx => (HI6.out.to x hx).1]; have := HM.out; omega)
            have HTK : Hid (∀ W7, TookR B b n S' (ofL (l1 ++ x :: l2)) t (ofL (l1 ++ l2) t) W6 W7 → _) := fun W7 h => HI6.out.took e3 e4 h
            have HFE : Hid (∀ W7, RowAt W7 (some ⟨g, 0, none⟩) 3 rlCell (l1 ++ x :: l2) → Calls Try.prog 10 #[.slice (some ⟨g, 0, none⟩) m cap, .int .i64 (t : Int)] W7 fun r w' => r = .returned (.int .i64 (p : Int)) ∧ W7 = w') := fun W7 hr => by
              have h := refFirst_any (some ⟨g, 0, none⟩) cap (l1 ++ x :: l2) (t : Int) W7 hr (by have := HM.out; omega)
              rw [← HM.out, e2, ← hp] at h
              exact h
            have HCE : Hid (∀ W7, RowAt W7 (some ⟨g, 0, none⟩) 3 rlCell (l1 ++ x :: l2) → W7.cell? ⟨g, p * 3 + 1, none⟩ = some (.int .i64 x.set) ∧ W7.cell? ⟨g, p * 3 + 2, none⟩ = some (.string ⟨x.s.toArray⟩)) := fun W7 hr => by
              obtain ⟨b', o', e', _, h1, h2⟩ := hr.rl (k := p) (by rw [hp]; simp)
              injection e' with e'
              injection e' with e5 e6
              subst e5 e6
              have ex : ∀ h, (l1 ++ x :: l2)[p]'h = x := by
                subst hp
                simp
              rw [ex] at h1 h2
              simpa using And.intro h1 h2
            have HPL := Lib.hid hp
            have HQL := Lib.hid hq
            have hpm : (p : Int) < (m : Int) := by omega
            have hpc : p ≤ cap := by omega
            have hpm1 : p + 1 ≤ m := by omega
            have hpc1 : p + 1 ≤ cap := by omega
            have hp0 : decide ((0 : Int) ≤ (p : Int)) = true := decide_eq_true (by omega)
            have HMM := Lib.hid hm
            clear e2 e3 e4 hp hq hm
            go_wp2_with fail
            refine HP.out.mono ?_
            rintro r W7 ⟨rfl, h7⟩
            obtain ⟨r7, z7, o7, h8⟩ := HTK.out W7 h7
            have H8 := Lib.hid h8
            have hbx7 := HI6.out.box o7 HBK.out
            have HR8 : Hid (RowAt (W7.alloc (.cells #[.string ⟨x.s.toArray⟩, .int .u8 x.set] 34)) (some ⟨g, 0, none⟩) 3 rlCell (l1 ++ x :: l2)) := by
              obtain ⟨a', cap', e', hr', _⟩ := (r7.later (below_alloc1 W7 (.cells #[.string ⟨x.s.toArray⟩, .int .u8 x.set] 34))).form rlCell_len (by have := HM.out; omega)
              injection e' with e5 e6 e7
              subst e5
              exact hr'
            have HB8 := Lib.hid ((below_alloc1 W7 (.cells #[.string ⟨x.s.toArray⟩, .int .u8 x.set] 34)))
            have HBOX := Lib.hid ((HB8.out.block _ (Array.getElem?_eq_some_iff.1 hbx7).1).trans hbx7)
            obtain ⟨p0, p1, p2, p3⟩ := HF6.out _ hbx7
            have hlt7 : G6 < W7.heap.size := (Array.getElem?_eq_some_iff.1 hbx7).1
            clear hbx7 h7 r7 o7 h8
            have hlc : (W7.alloc (.cells #[.string ⟨x.s.toArray⟩, .int .u8 x.set] 34)).cell? ⟨W7.heap.size, 0, none⟩ = some (.string ⟨x.s.toArray⟩) := by simp
            have hlc2 : (W7.alloc (.cells #[.string ⟨x.s.toArray⟩, .int .u8 x.set] 34)).cell? ⟨W7.heap.size, 1, none⟩ = some (.int .u8 x.set) := by simp
            have HFI := Lib.hid (HFE.out _ HR8.out)
            have hz8 : B ≤ (W7.alloc (.cells #[.string ⟨x.s.toArray⟩, .int .u8 x.set] 34)).heap.size := by rw [World.size_alloc]; omega
            go_wp2_with fail
            refine HFI.out.mono ?_
            rintro r w' ⟨rfl, rfl⟩
            obtain ⟨f0, f1, f2, f3⟩ := HF6.out _ HBOX.out
            obtain ⟨cx1, cx2⟩ := HCE.out _ HR8.out
            clear p0 p1 p2 p3
            generalize W7.alloc (.cells #[.string ⟨x.s.toArray⟩, .int .u8 x.set] 34) = W8 at *
            go_wp2_with fail
            go_quiet (fail)
            have HR9 := Lib.hid (HR8.out.later (Below.refl W8.heap.size W8).drewN (w' := W8.drewN nq))
            have HB9 := Lib.hid (HB8.out.trans ((Below.refl W8.heap.size W8).drewN (n := nq) |>.mono HB8.out.size))
            have hz9 : B ≤ (W8.drewN nq).heap.size := hz8
            have HO9 : Hid ((W8.drewN nq).heap[G6]? = _) := HBOX.out
            clear f0 f1 f2 f3 cx1 cx2 HFI HR8 HB8 HBOX hlc hlc2 hlt7 hp0 hz8
            generalize W8.drewN nq = W9 at *
            go_wp2_with fail
            have HR1 : Hid (∀ W, Below W9.heap.size W9 W → RowAt W (some ⟨g, 0, none⟩) 3 rlCell l1) := fun W hb => by
              have h := (HR9.out.later hb).part 0 l1.length
              rw [List.drop_zero, List.take_left' rfl, Nat.zero_mul] at h
              exact h
            have hb1 : Below W9.heap.size W9 (W9.alloc (.cells #[] 36)).drew := (below_alloc1 W9 _).drew
            have ho1 : OwnRow (W9.alloc (.cells #[] 36)).drew W9.heap.size 36 3 rlCell (.slice (some ⟨W9.heap.size, 0, none⟩) 0 0) ([] : List RL) := OwnRow.lit W9 _
            have hl1 : ([] : List RL).length + l1.length ≤ 1000000 := by have := HPL.out; simp only [List.length_nil]; omega
            have hpl : l1.length = p := HPL.out.symm
            rw [hpl] at hl1
            have HPL1 := Lib.hid hpl
            clear hpl
            have hq2l : l2.length = m - (p + 1) := by have := HQL.out; have := HMM.out; omega
            have HQ2 := Lib.hid hq2l
            have hp1i : (p : Int) + 1 ≤ (m : Int) := by omega
            have hp0i : (0 : Int) ≤ (p : Int) + 1 := by omega
            have hwr : IntKind.i64.wrap ((p : Int) + 1) = (p : Int) + 1 := IntWalk.i64_in _ (by omega)
            have hl2 : p + (m - (p + 1)) ≤ 1000000 := by omega
            have hW9 : W9.heap.size ≤ W9.heap.size + 1 := by omega
            have HFIN : Hid (∀ v2 W11, OwnRow W11 W9.heap.size 36 3 rlCell v2 (l1 ++ l2) → Below W9.heap.size W9 W11 → MPl w B b n v2 (l1 ++ l2) S' W11 ∧ W11.heap[G6]? = _) := fun v2 W11 hv hb => ⟨H8.out W9.heap.size v2 W11 hz9 hv (HB9.out.trans (hb.mono HB9.out.size)), (hb.block _ (Array.getElem?_eq_some_iff.1 HO9.out).1).trans HO9.out⟩
            clear hq2l
            by_cases hcq : cap = p + 1
            · subst hcq
              have hpp : (p : Int) ≤ (p : Int) + 1 := by omega
              have HQ0 : Hid (l2.length = 0) := by
                have := HQ2.out
                show _ = _
                omega
              have HR2 : Hid (∀ W, Below W9.heap.size W9 W → RowAt W (some ⟨g, 0, none⟩) 3 rlCell l2) := fun W hb => by
                have e : l2 = [] := List.eq_nil_of_length_eq_zero (by have := HQ2.out; omega)
                rw [e]
                exact rowAt_nil _ _ _ _
              go_region_law ((first
                | (refine step_copyR (f := rlCell) (n := 3) 28 36 32 (.agg #[.int .i64 0, .int .i64 0, .string ByteArray.empty]) Try.underlying28 infoRL (by rfl) (by omega) (by omega) rlCell_len rlCell_one (by rfl) (.tmp 144) (.tmp 147) (by rfl) W9.heap.size _ [] (by rfl) ho1 (some ⟨g, 0, none⟩) (p + 1) l1 (by rw [HPL1.out]; rfl) (HR1.out _ hb1) (fun h => by cases h) (by rw [HPL1.out]; exact hl1) (by simp) ?_; intro v1 W10 hown1 hb10 _; rw [List.nil_append] at hown1; have hb11 := hb1.trans hb10; have hz11 := hb11.size; clear hb10)
                | (refine step_copyR (f := rlCell) (n := 3) 28 36 32 (.agg #[.int .i64 0, .int .i64 0, .string ByteArray.empty]) Try.underlying28 infoRL (by rfl) (by omega) (by omega) rlCell_len rlCell_one (by rfl) (.tmp 148) (.tmp 152) (by rfl) W9.heap.size v1 l1 (by rfl) hown1 (some ⟨g, 0, none⟩) 0 l2 (by rw [HQ0.out]; rfl) (HR2.out _ hb11) (fun h => by cases h) (by rw [HPL1.out, HQ2.out]; exact hl2) hz11 ?_; intro v2 W11 hown2 hb12 _; obtain ⟨hm11, hx11⟩ := HFIN.out v2 W11 hown2 (hb11.trans hb12))))
              all_goals (
                obtain ⟨f0, h1, f2, f3⟩ := HF6.out W11 hx11
                obtain ⟨m8, hm8⟩ : ∃ m8, m8 = (l1 ++ l2).length := ⟨_, rfl⟩
                have hm8j : m8 ≤ j := by
                  rw [hm8, List.length_append, HPL1.out, HQ2.out]
                  omega
                obtain ⟨a8, cap8, e8, _, _⟩ := hm11.row.form rlCell_len (by omega)
                rw [← hm8] at e8
                subst e8
                have HM8 : Hid ((l1 ++ l2).length = m8) := hm8.symm
                have HE := Lib.hid hm11
                clear hm11 hm8 hx11 hown1 hown2 hb11 hb12 hz11 f0 f2 f3 ho1 hb1 hl1 hl2 hW9 hwr hp0i hp1i hpm hpc hpm1
                have HLQ := Lib.hid (fun k => HE.out.lenQ (t : Int) k)
                have HTQ : Hid (∀ k, Calls Try.prog 13 #[.pointer (some ⟨b, 0, none⟩)] (W11.drewN k) fun r w' => r = .returned (.int .i64 m8) ∧ ∃ i, w' = W11.drewN i) := fun k => by
                  have := HE.out.totQ k
                  rw [HM8.out] at this
                  exact this
                have HCQ : Hid (∀ k, Calls Try.prog 12 #[.slice a8 m8 cap8, .int .i64 (t : Int)] (W11.drewN k) fun r w' => r = .returned (.int .i64 (countL (l1 ++ l2) (t : Int) : Nat)) ∧ ∃ i, w' = W11.drewN i) := fun k => by
                  have := HE.out.cntQ (a := a8) (cap := cap8) (by rw [HM8.out]) (by rw [HM8.out]; omega) (t : Int) k
                  rw [HM8.out] at this
                  exact this
                have HP8 : Hid ((l1 ++ l2).length ≤ j + 1) := by show _ ≤ _; rw [HM8.out]; omega
                generalize countL (l1 ++ l2) (t : Int) = ct at *
                go_wp2_with fail
                go_quiet ((first | (go_at_call 11; exact HLQ.out _) | (go_at_call 12; exact HCQ.out _) | (go_at_call 13; exact HTQ.out _)))
                go_wp2_with fail
                go_roundw
                case rel => exact ⟨j + 1, (l1 ++ l2), _, by omega, by go_num, HP8.out, HE.out.later (Below.refl _ _).drewN⟩
                case measure => simp [intOf]; omega)
            · have HR2 : Hid (∀ W, Below W9.heap.size W9 W → RowAt W (some ⟨g, (p + 1) * 3, none⟩) 3 rlCell l2) := fun W hb => by
                have h := (HR9.out.later hb).part (l1.length + 1) l2.length
                rw [show l1 ++ x :: l2 = (l1 ++ [x]) ++ l2 by simp, show l1.length + 1 = (l1 ++ [x]).length by simp, List.drop_left' rfl, List.take_length, List.length_append, List.length_singleton, HPL1.out, Nat.zero_add] at h
                exact h
              go_region_law ((first
                | (refine step_copyR (f := rlCell) (n := 3) 28 36 32 (.agg #[.int .i64 0, .int .i64 0, .string ByteArray.empty]) Try.underlying28 infoRL (by rfl) (by omega) (by omega) rlCell_len rlCell_one (by rfl) (.tmp 144) (.tmp 147) (by rfl) W9.heap.size _ [] (by rfl) ho1 (some ⟨g, 0, none⟩) cap l1 (by rw [HPL1.out]; rfl) (HR1.out _ hb1) (fun h => by cases h) (by rw [HPL1.out]; exact hl1) (by simp) ?_; intro v1 W10 hown1 hb10 _; rw [List.nil_append] at hown1; have hb11 := hb1.trans hb10; have hz11 := hb11.size; clear hb10)
                | (refine step_copyR (f := rlCell) (n := 3) 28 36 32 (.agg #[.int .i64 0, .int .i64 0, .string ByteArray.empty]) Try.underlying28 infoRL (by rfl) (by omega) (by omega) rlCell_len rlCell_one (by rfl) (.tmp 148) (.tmp 152) (by rfl) W9.heap.size v1 l1 (by rfl) hown1 (some ⟨g, (p + 1) * 3, none⟩) (cap - (p + 1)) l2 (by rw [HQ2.out]; rfl) (HR2.out _ hb11) (fun h => by cases h) (by rw [HPL1.out, HQ2.out]; exact hl2) hz11 ?_; intro v2 W11 hown2 hb12 _; obtain ⟨hm11, hx11⟩ := HFIN.out v2 W11 hown2 (hb11.trans hb12))))
              all_goals (
                obtain ⟨f0, h1, f2, f3⟩ := HF6.out W11 hx11
                obtain ⟨m8, hm8⟩ : ∃ m8, m8 = (l1 ++ l2).length := ⟨_, rfl⟩
                have hm8j : m8 ≤ j := by
                  rw [hm8, List.length_append, HPL1.out, HQ2.out]
                  omega
                obtain ⟨a8, cap8, e8, _, _⟩ := hm11.row.form rlCell_len (by omega)
                rw [← hm8] at e8
                subst e8
                have HM8 : Hid ((l1 ++ l2).length = m8) := hm8.symm
                have HE := Lib.hid hm11
                clear hm11 hm8 hx11 hown1 hown2 hb11 hb12 hz11 f0 f2 f3 ho1 hb1 hl1 hl2 hW9 hwr hp0i hp1i hpm hpc hpm1
                have HLQ := Lib.hid (fun k => HE.out.lenQ (t : Int) k)
                have HTQ : Hid (∀ k, Calls Try.prog 13 #[.pointer (some ⟨b, 0, none⟩)] (W11.drewN k) fun r w' => r = .returned (.int .i64 m8) ∧ ∃ i, w' = W11.drewN i) := fun k => by
                  have := HE.out.totQ k
                  rw [HM8.out] at this
                  exact this
                have HCQ : Hid (∀ k, Calls Try.prog 12 #[.slice a8 m8 cap8, .int .i64 (t : Int)] (W11.drewN k) fun r w' => r = .returned (.int .i64 (countL (l1 ++ l2) (t : Int) : Nat)) ∧ ∃ i, w' = W11.drewN i) := fun k => by
                  have := HE.out.cntQ (a := a8) (cap := cap8) (by rw [HM8.out]) (by rw [HM8.out]; omega) (t : Int) k
                  rw [HM8.out] at this
                  exact this
                have HP8 : Hid ((l1 ++ l2).length ≤ j + 1) := by show _ ≤ _; rw [HM8.out]; omega
                generalize countL (l1 ++ l2) (t : Int) = ct at *
                go_wp2_with fail
                go_quiet ((first | (go_at_call 11; exact HLQ.out _) | (go_at_call 12; exact HCQ.out _) | (go_at_call 13; exact HTQ.out _)))
                go_wp2_with fail
                go_roundw
                case rel => exact ⟨j + 1, (l1 ++ l2), _, by omega, by go_num, HP8.out, HE.out.later (Below.refl _ _).drewN⟩
                case measure => simp [intOf]; omega)
      · by_cases h0 : 0 ≤ xt
        · have g0 : decide ((0 : Int) ≤ xt) = true := decide_eq_true h0
          have g1 : decide (xt < (n : Int)) = false := decide_eq_false fun h => hr ⟨h0, h⟩
          clear h0
          by_cases k1 : xk = 1
          · subst k1
            have HI7 : Hid (∀ W, Below W6.heap.size W6 W → MPl w B b n (.slice a m cap) wl S' W) := fun W hb => HI6.out.later hb
            have HP := Lib.hid (mSend_out HI6.out.q (z := xt) hr ⟨xs, xz⟩)
            clear hr
            go_wp2_with fail
            refine HP.out.mono ?_
            rintro r W9 ⟨rfl, hb7⟩
            have hbx7 := (hb7.block _ (Array.getElem?_eq_some_iff.1 HBK.out).1).trans HBK.out
            have HE := Lib.hid (HI7.out _ hb7)
            obtain ⟨_, h1, _⟩ := HF6.out _ hbx7
            clear hb7 hbx7 f0 f1 f2 f3
            have HM8 : Hid (wl.length = m) := HM.out.symm

            have HLQ := Lib.hid (fun k => HE.out.lenQ xt k)
            have HTQ : Hid (∀ k, Calls Try.prog 13 #[.pointer (some ⟨b, 0, none⟩)] (W9.drewN k) fun r w' => r = .returned (.int .i64 m) ∧ ∃ i, w' = W9.drewN i) := fun k => by
              have := HE.out.totQ k
              rw [HM8.out] at this
              exact this
            have HCQ : Hid (∀ k, Calls Try.prog 12 #[.slice a m cap, .int .i64 xt] (W9.drewN k) fun r w' => r = .returned (.int .i64 (countL wl xt : Nat)) ∧ ∃ i, w' = W9.drewN i) := fun k => by
              have := HE.out.cntQ (a := a) (cap := cap) (by rw [HM8.out]) (by rw [HM8.out]; omega) xt k
              rw [HM8.out] at this
              exact this
            have HP8 : Hid (wl.length ≤ j + 1) := by show _ ≤ _; rw [HM8.out]; omega
            generalize countL wl xt = ct at *
            go_wp2_with fail
            go_quiet ((first | (go_at_call 11; exact HLQ.out _) | (go_at_call 12; exact HCQ.out _) | (go_at_call 13; exact HTQ.out _)))
            go_wp2_with fail
            go_roundw
            case rel => exact ⟨j + 1, wl, _, by omega, by go_num, HP8.out, HE.out.later (Below.refl _ _).drewN⟩
            case measure => simp [intOf]; omega
          · have q1 : (xk == 1) = false := by simpa using k1
            have HI7 : Hid (∀ W, Below W6.heap.size W6 W → MPl w B b n (.slice a m cap) wl S' W) := fun W hb => HI6.out.later hb
            have HP := Lib.hid (mTake_out HI6.out.q (z := xt) hr)
            have e2 : firstI wl xt = -1 ∧ True := by
              rcases first_cases wl xt with ⟨e1, _⟩ | ⟨l1, x, l2, e1, _, e3, _⟩
              · exact ⟨e1, trivial⟩
              · exact absurd (e3 ▸ (HI6.out.to x (by rw [e1]; simp)).1) hr
            have e1 := e2.1
            clear hr

            have E1 := Lib.hid e1
            clear e1 e2
            go_wp2_with fail
            refine HP.out.mono ?_
            rintro r W7 ⟨rfl, hb7⟩
            have HB8 := Lib.hid (hb7.alloc hb7.size (.cells #[.string ⟨#[]⟩, .int .u8 0] 34))
            have HBOX : Hid ((W7.alloc (.cells #[.string ⟨#[]⟩, .int .u8 0] 34)).heap[G6]? = some (.cells #[.int .i64 xk, .int .i64 xt, .string ⟨xs.toArray⟩, .int .u8 xz] 30 (0, 0))) := (HB8.out.block _ (Array.getElem?_eq_some_iff.1 HBK.out).1).trans HBK.out
            have HE := Lib.hid (HI7.out _ HB8.out)
            have HR8 : Hid (RowAt (W7.alloc (.cells #[.string ⟨#[]⟩, .int .u8 0] 34)) a 3 rlCell wl) := by
              obtain ⟨a', cap', e', hr', _⟩ := HE.out.row.form rlCell_len (by have := HM.out; omega)
              injection e' with e5 e6 e7
              subst e5
              exact hr'
            have HFI : Hid (Calls Try.prog 10 #[.slice a m cap, .int .i64 xt] (W7.alloc (.cells #[.string ⟨#[]⟩, .int .u8 0] 34)) fun r w' => r = .returned (.int .i64 (-1)) ∧ W7.alloc (.cells #[.string ⟨#[]⟩, .int .u8 0] 34) = w') := by
              have h := refFirst_any a cap wl xt _ HR8.out (by have := HM.out; omega)
              rw [← HM.out, E1.out] at h
              exact h
            have hbx7 := (hb7.block _ (Array.getElem?_eq_some_iff.1 HBK.out).1).trans HBK.out
            obtain ⟨p0, p1, p2, p3⟩ := HF6.out _ hbx7
            have hlt7 : G6 < W7.heap.size := (Array.getElem?_eq_some_iff.1 hbx7).1
            clear hbx7
            have hlc : (W7.alloc (.cells #[.string ⟨#[]⟩, .int .u8 0] 34)).cell? ⟨W7.heap.size, 0, none⟩ = some (.string ⟨#[]⟩) := by simp
            have hlc2 : (W7.alloc (.cells #[.string ⟨#[]⟩, .int .u8 0] 34)).cell? ⟨W7.heap.size, 1, none⟩ = some (.int .u8 0) := by simp
            clear hb7
            have heq : ∀ W : World, (Op.equalIn 10000 34 (.agg #[.string ⟨#[]⟩, .int .u8 0]) (.agg #[.string ⟨#[]⟩, .int .u8 0])).run Try.prog W = .ok true W := fun W => run_equal_let let0 let0 W
            have hm1 : decide ((0 : Int) ≤ -1) = false := rfl
            go_wp2_with fail
            refine HFI.out.mono ?_
            rintro r w' ⟨rfl, rfl⟩
            obtain ⟨f0, f1, f2, f3⟩ := HF6.out _ HBOX.out
            clear p0 p1 p2 p3
            generalize W7.alloc (.cells #[.string ⟨#[]⟩, .int .u8 0] 34) = W8 at *
            go_wp2_with fail
            go_quiet (fail)
            have HE9 := Lib.hid (HE.out.later (Below.refl W8.heap.size W8).drewN (w' := W8.drewN nq))
            have h1 : (W8.drewN nq).cell? ⟨G6, 1, none⟩ = some (.int .i64 xt) := f1
            clear hm1 heq hlc hlc2 hlt7 f0 f1 f2 f3 HE HFI HR8 HBOX HB8
            generalize W8.drewN nq = W9 at *
            have HE := HE9
            have HM8 : Hid (wl.length = m) := HM.out.symm

            have HLQ := Lib.hid (fun k => HE.out.lenQ xt k)
            have HTQ : Hid (∀ k, Calls Try.prog 13 #[.pointer (some ⟨b, 0, none⟩)] (W9.drewN k) fun r w' => r = .returned (.int .i64 m) ∧ ∃ i, w' = W9.drewN i) := fun k => by
              have := HE.out.totQ k
              rw [HM8.out] at this
              exact this
            have HCQ : Hid (∀ k, Calls Try.prog 12 #[.slice a m cap, .int .i64 xt] (W9.drewN k) fun r w' => r = .returned (.int .i64 (countL wl xt : Nat)) ∧ ∃ i, w' = W9.drewN i) := fun k => by
              have := HE.out.cntQ (a := a) (cap := cap) (by rw [HM8.out]) (by rw [HM8.out]; omega) xt k
              rw [HM8.out] at this
              exact this
            have HP8 : Hid (wl.length ≤ j + 1) := by show _ ≤ _; rw [HM8.out]; omega
            generalize countL wl xt = ct at *
            go_wp2_with fail
            go_quiet ((first | (go_at_call 11; exact HLQ.out _) | (go_at_call 12; exact HCQ.out _) | (go_at_call 13; exact HTQ.out _)))
            go_wp2_with fail
            go_roundw
            case rel => exact ⟨j + 1, wl, _, by omega, by go_num, HP8.out, HE.out.later (Below.refl _ _).drewN⟩
            case measure => simp [intOf]; omega
        · have g0 : decide ((0 : Int) ≤ xt) = false := decide_eq_false h0
          clear h0
          by_cases k1 : xk = 1
          · subst k1
            have HI7 : Hid (∀ W, Below W6.heap.size W6 W → MPl w B b n (.slice a m cap) wl S' W) := fun W hb => HI6.out.later hb
            have HP := Lib.hid (mSend_out HI6.out.q (z := xt) hr ⟨xs, xz⟩)
            clear hr
            go_wp2_with fail
            refine HP.out.mono ?_
            rintro r W9 ⟨rfl, hb7⟩
            have hbx7 := (hb7.block _ (Array.getElem?_eq_some_iff.1 HBK.out).1).trans HBK.out
            have HE := Lib.hid (HI7.out _ hb7)
            obtain ⟨_, h1, _⟩ := HF6.out _ hbx7
            clear hb7 hbx7 f0 f1 f2 f3
            have HM8 : Hid (wl.length = m) := HM.out.symm

            have HLQ := Lib.hid (fun k => HE.out.lenQ xt k)
            have HTQ : Hid (∀ k, Calls Try.prog 13 #[.pointer (some ⟨b, 0, none⟩)] (W9.drewN k) fun r w' => r = .returned (.int .i64 m) ∧ ∃ i, w' = W9.drewN i) := fun k => by
              have := HE.out.totQ k
              rw [HM8.out] at this
              exact this
            have HCQ : Hid (∀ k, Calls Try.prog 12 #[.slice a m cap, .int .i64 xt] (W9.drewN k) fun r w' => r = .returned (.int .i64 (countL wl xt : Nat)) ∧ ∃ i, w' = W9.drewN i) := fun k => by
              have := HE.out.cntQ (a := a) (cap := cap) (by rw [HM8.out]) (by rw [HM8.out]; omega) xt k
              rw [HM8.out] at this
              exact this
            have HP8 : Hid (wl.length ≤ j + 1) := by show _ ≤ _; rw [HM8.out]; omega
            generalize countL wl xt = ct at *
            go_wp2_with fail
            go_quiet ((first | (go_at_call 11; exact HLQ.out _) | (go_at_call 12; exact HCQ.out _) | (go_at_call 13; exact HTQ.out _)))
            go_wp2_with fail
            go_roundw
            case rel => exact ⟨j + 1, wl, _, by omega, by go_num, HP8.out, HE.out.later (Below.refl _ _).drewN⟩
            case measure => simp [intOf]; omega
          · have q1 : (xk == 1) = false := by simpa using k1
            have HI7 : Hid (∀ W, Below W6.heap.size W6 W → MPl w B b n (.slice a m cap) wl S' W) := fun W hb => HI6.out.later hb
            have HP := Lib.hid (mTake_out HI6.out.q (z := xt) hr)
            have e2 : firstI wl xt = -1 ∧ True := by
              rcases first_cases wl xt with ⟨e1, _⟩ | ⟨l1, x, l2, e1, _, e3, _⟩
              · exact ⟨e1, trivial⟩
              · exact absurd (e3 ▸ (HI6.out.to x (by rw [e1]; simp)).1) hr
            have e1 := e2.1
            clear hr

            have E1 := Lib.hid e1
            clear e1 e2
            go_wp2_with fail
            refine HP.out.mono ?_
            rintro r W7 ⟨rfl, hb7⟩
            have HB8 := Lib.hid (hb7.alloc hb7.size (.cells #[.string ⟨#[]⟩, .int .u8 0] 34))
            have HBOX : Hid ((W7.alloc (.cells #[.string ⟨#[]⟩, .int .u8 0] 34)).heap[G6]? = some (.cells #[.int .i64 xk, .int .i64 xt, .string ⟨xs.toArray⟩, .int .u8 xz] 30 (0, 0))) := (HB8.out.block _ (Array.getElem?_eq_some_iff.1 HBK.out).1).trans HBK.out
            have HE := Lib.hid (HI7.out _ HB8.out)
            have HR8 : Hid (RowAt (W7.alloc (.cells #[.string ⟨#[]⟩, .int .u8 0] 34)) a 3 rlCell wl) := by
              obtain ⟨a', cap', e', hr', _⟩ := HE.out.row.form rlCell_len (by have := HM.out; omega)
              injection e' with e5 e6 e7
              subst e5
              exact hr'
            have HFI : Hid (Calls Try.prog 10 #[.slice a m cap, .int .i64 xt] (W7.alloc (.cells #[.string ⟨#[]⟩, .int .u8 0] 34)) fun r w' => r = .returned (.int .i64 (-1)) ∧ W7.alloc (.cells #[.string ⟨#[]⟩, .int .u8 0] 34) = w') := by
              have h := refFirst_any a cap wl xt _ HR8.out (by have := HM.out; omega)
              rw [← HM.out, E1.out] at h
              exact h
            have hbx7 := (hb7.block _ (Array.getElem?_eq_some_iff.1 HBK.out).1).trans HBK.out
            obtain ⟨p0, p1, p2, p3⟩ := HF6.out _ hbx7
            have hlt7 : G6 < W7.heap.size := (Array.getElem?_eq_some_iff.1 hbx7).1
            clear hbx7
            have hlc : (W7.alloc (.cells #[.string ⟨#[]⟩, .int .u8 0] 34)).cell? ⟨W7.heap.size, 0, none⟩ = some (.string ⟨#[]⟩) := by simp
            have hlc2 : (W7.alloc (.cells #[.string ⟨#[]⟩, .int .u8 0] 34)).cell? ⟨W7.heap.size, 1, none⟩ = some (.int .u8 0) := by simp
            clear hb7
            have heq : ∀ W : World, (Op.equalIn 10000 34 (.agg #[.string ⟨#[]⟩, .int .u8 0]) (.agg #[.string ⟨#[]⟩, .int .u8 0])).run Try.prog W = .ok true W := fun W => run_equal_let let0 let0 W
            have hm1 : decide ((0 : Int) ≤ -1) = false := rfl
            go_wp2_with fail
            refine HFI.out.mono ?_
            rintro r w' ⟨rfl, rfl⟩
            obtain ⟨f0, f1, f2, f3⟩ := HF6.out _ HBOX.out
            clear p0 p1 p2 p3
            generalize W7.alloc (.cells #[.string ⟨#[]⟩, .int .u8 0] 34) = W8 at *
            go_wp2_with fail
            go_quiet (fail)
            have HE9 := Lib.hid (HE.out.later (Below.refl W8.heap.size W8).drewN (w' := W8.drewN nq))
            have h1 : (W8.drewN nq).cell? ⟨G6, 1, none⟩ = some (.int .i64 xt) := f1
            clear hm1 heq hlc hlc2 hlt7 f0 f1 f2 f3 HE HFI HR8 HBOX HB8
            generalize W8.drewN nq = W9 at *
            have HE := HE9
            have HM8 : Hid (wl.length = m) := HM.out.symm

            have HLQ := Lib.hid (fun k => HE.out.lenQ xt k)
            have HTQ : Hid (∀ k, Calls Try.prog 13 #[.pointer (some ⟨b, 0, none⟩)] (W9.drewN k) fun r w' => r = .returned (.int .i64 m) ∧ ∃ i, w' = W9.drewN i) := fun k => by
              have := HE.out.totQ k
              rw [HM8.out] at this
              exact this
            have HCQ : Hid (∀ k, Calls Try.prog 12 #[.slice a m cap, .int .i64 xt] (W9.drewN k) fun r w' => r = .returned (.int .i64 (countL wl xt : Nat)) ∧ ∃ i, w' = W9.drewN i) := fun k => by
              have := HE.out.cntQ (a := a) (cap := cap) (by rw [HM8.out]) (by rw [HM8.out]; omega) xt k
              rw [HM8.out] at this
              exact this
            have HP8 : Hid (wl.length ≤ j + 1) := by show _ ≤ _; rw [HM8.out]; omega
            generalize countL wl xt = ct at *
            go_wp2_with fail
            go_quiet ((first | (go_at_call 11; exact HLQ.out _) | (go_at_call 12; exact HCQ.out _) | (go_at_call 13; exact HTQ.out _)))
            go_wp2_with fail
            go_roundw
            case rel => exact ⟨j + 1, wl, _, by omega, by go_num, HP8.out, HE.out.later (Below.refl _ _).drewN⟩
            case measure => simp [intOf]; omega
    · obtain rfl : j = ol.length := by omega
      have HB := Lib.hid HI.out.below
      go_wp2
      go_ret
      exact ⟨rfl, HB.out⟩
end Go.Proofs.Ytpanfhkmildkeaa
