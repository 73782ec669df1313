/- The law WorkKeeps, walked. -/
import Derived.Test.YtoaejkfejdaiaaaWkKeep
import Derived.Test.YtoaejkfejdaiaaaOpenW
import Derived.Test.YtoaejkfejdaiaaaWrapU
import Derived.Deep.DeepCutAuto
import Derived.Deep.CutBlock
namespace Go.Proofs.Ytoaejkfejdaiaaa
open Go.RowKit Go.Maps

theorem RowAt.wop' {w : World} {a : Option Addr} {l : List WOp} (h : RowAt w a 4 wopCell l) {k : Nat} (hk : k < l.length) : ∃ b o, a = some ⟨b, o, none⟩ ∧ w.cell? ⟨b, o + k * 4, none⟩ = some (.int .i64 l[k].kind) ∧ w.cell? ⟨b, o + k * 4 + 1, none⟩ = some (.int .i64 l[k].a) ∧ w.cell? ⟨b, o + k * 4 + 2, none⟩ = some (.int .i64 l[k].b) ∧ w.cell? ⟨b, o + k * 4 + 3, none⟩ = some (.string ⟨l[k].s.toArray⟩) := by
  obtain ⟨b, o, rfl, hc⟩ := h.2 (by intro e; simp [e] at hk)
  have h0 := hc k hk 0 _ rfl
  have h1 := hc k hk 1 _ rfl
  have h2 := hc k hk 2 _ rfl
  have h3 := hc k hk 3 _ rfl
  exact ⟨b, o, rfl, by simpa using h0, by simpa using h1, by simpa using h2, by simpa using h3⟩
set_option maxRecDepth 100000 in
set_option maxHeartbeats 8000000 in
theorem workKeeps_any (z : Int) (oa : Option Addr) (ol : List WOp) (oc : Nat) (w : World) (hord : RowAt w oa 4 wopCell ol) :
    Calls Try.prog 5 #[.int .i64 z, .slice oa ol.length oc] w fun r w' => r = .returned (.bool true) ∧ Below w.heap.size w w' := by
  have HOP : Hid (∀ W, Below w.heap.size w W → RowAt W oa 4 wopCell ol) := fun W hb => hord.later hb
  have hmm := @run_makeMap Try.prog
  clear hord
  obtain ⟨m, hm, hm0⟩ := wrap_u z
  obtain ⟨k, hk, hk8⟩ := tmod_nat m hm0 8 (by omega)
  have hk' : m.tmod 8 = k := hk
  have hwk : IntKind.i64.wrap (k : Int) = k := IntWalk.i64_in _ (by omega)
  have hw1 : IntKind.i64.wrap (1 + (k : Int)) = 1 + k := IntWalk.i64_in _ (by omega)
  obtain ⟨n, hn⟩ : ∃ n : Nat, n = k + 1 := ⟨_, rfl⟩
  have hnk : 1 + (k : Int) = n := by omega
  have hn1 : 1 ≤ n := by omega
  have hn64 : n ≤ 64 := by omega
  clear hk hm0
  go_enter Try.func5, Try.ntmps5
  go_wp2_with fail
  refine (awake13_any w).mono ?_
  rintro r W2 ⟨rfl, hb2⟩
  by_cases h200 : 200 < ol.length
  · have q3 : decide ((200 : Int) < (ol.length : Int)) = true := decide_eq_true (by omega)
    go_wp2_with fail
    refine (awake13_any _).mono ?_
    rintro r w3 ⟨rfl, hb3⟩
    go_wp2
    go_ret
    exact ⟨rfl, hb2.trans (hb3.mono hb2.size)⟩
  have q3 : decide ((200 : Int) < (ol.length : Int)) = false := decide_eq_false (by omega)
  have hol : ol.length ≤ 200 := by omega
  clear h200
  have HN : Hid (Calls Try.prog 7 #[.int .i64 ((k : Int) + 1)] W2 _) := wNew_any (n := k + 1) (by omega) (by omega) W2
  rw [← hn] at HN
  clear hm hwk hw1 hnk hk'
  go_wp2_with fail
  refine HN.out.mono ?_
  rintro r W3 ⟨rfl, hb3, S, q, _⟩
  have HZ : Hid ((k : Int) + 1 = (n : Int)) := by show _ = _; omega
  clear HN hn hk8
  generalize (k : Int) + 1 = zz at *
  have HI0 : Hid (∃ S, KW w W2.heap.size (W2.heap.size + 1) W3.heap.size n 0 S (fun _ => []) (W3.alloc (.map #[] 0))) := by
    have hb4 := hb2.trans (hb3.mono hb2.size)
    refine ⟨S, q.later (below_alloc1 _ _), ?_, fun hs => ?_, hb4.alloc hb4.size _, hb2.size, hb4.size⟩
    · rw [totW_start]
      exact (SM.start W3).congr fun k => (hasW_start n k).symm
    · have := q.k.lt hs
      omega
  clear hb2 hb3 q
  generalize W2.heap.size + 1 = b at *
  generalize W2.heap.size = B at *
  go_wp2_with fail
  generalize W3.heap.size = mb at *
  generalize W3.alloc (.map #[] 0) = W4 at *
  go_loopw [9, 10, 11, 12, 13, 14, 15, 16, 17, 41] (fun _ _ _ _ _ _ _ _ _ i wr => ∃ (j : Nat) (T : Nat → List Txt), j ≤ ol.length ∧ i = .int .i64 j ∧ Hid (∃ S, KW w B b mb n j S T wr)) (fun _ _ _ _ _ _ _ _ _ i _ => ol.length - (intOf i).toNat)
  case atStart => exact ⟨0, _, Nat.zero_le _, rfl, HI0⟩
  case round =>
    clear HI0 hmm
    obtain ⟨j, T, hj, rfl, hI⟩ := hrel
    obtain ⟨S', hI'⟩ := hI.out
    have HI := Lib.hid hI'
    clear hI hI'
    by_cases hlt : j < ol.length
    · obtain ⟨pb, o, rfl, e0, e1, e2, e3⟩ := (HOP.out _ HI.out.below).wop' hlt
      generalize ol[j] = x at *
      obtain ⟨xk, xa, xb, xs⟩ := x
      dsimp only at e0 e1 e2 e3
      have hqs : (⟨xs.toArray⟩ : ByteArray).size = xs.length := by simp [ByteArray.size]
      by_cases h50 : 50 < xs.length
      · have q50 : decide ((50 : Int) < (xs.length : Int)) = true := decide_eq_true (by omega)
        have HB : Hid (Below w.heap.size w (wr.alloc (.cells #[.int .i64 xk, .int .i64 xa, .int .i64 xb, .string ⟨xs.toArray⟩] 33))) := HI.out.below.alloc HI.out.below.size _
        go_wp2
        go_ret
        exact ⟨rfl, HB.out⟩
      have q50 : decide ((50 : Int) < (xs.length : Int)) = false := decide_eq_false (by omega)
      have H6 : Hid (KS w B b mb n j T wr.heap.size #[.int .i64 xk, .int .i64 xa, .int .i64 xb, .string ⟨xs.toArray⟩] (wr.alloc (.cells #[.int .i64 xk, .int .i64 xa, .int .i64 xb, .string ⟨xs.toArray⟩] 33))) := ⟨S', HI.out.later (below_alloc1 wr _), heap_alloc_new wr _⟩
      have hxs : xs.length ≤ 50 := by omega
      clear h50 HI
      go_upto_region 13 with (fail)
      generalize wr.alloc (.cells #[.int .i64 xk, .int .i64 xa, .int .i64 xb, .string ⟨xs.toArray⟩] 33) = W6 at *
      generalize wr.heap.size = G at *
      have HF : Hid (∀ W : World, W.heap[G]? = some (.cells #[.int .i64 xk, .int .i64 xa, .int .i64 xb, .string ⟨xs.toArray⟩] 33 (0, 0)) → W.cell? ⟨G, 0, none⟩ = some (.int .i64 xk) ∧ W.cell? ⟨G, 1, none⟩ = some (.int .i64 xa) ∧ W.cell? ⟨G, 2, none⟩ = some (.int .i64 xb) ∧ W.cell? ⟨G, 3, none⟩ = some (.string ⟨xs.toArray⟩)) := fun W hW => ⟨by rw [cell_of_row W _ 0 _ _ _ hW]; rfl, by rw [cell_of_row W _ 1 _ _ _ hW]; rfl, by rw [cell_of_row W _ 2 _ _ _ hW]; rfl, by rw [cell_of_row W _ 3 _ _ _ hW]; rfl⟩
      have HBX : Hid (W6.heap[G]? = some (.cells #[.int .i64 xk, .int .i64 xa, .int .i64 xb, .string ⟨xs.toArray⟩] 33 (0, 0))) := H6.out.choose_spec.2
      obtain ⟨f0, f1, f2, f3⟩ := HF.out W6 HBX.out
      have hj9 : j ≤ 900 := by omega
      clear e0 e1 e2 e3
      rcases (by omega : xk = 1 ∨ (xk ≠ 1 ∧ xk = 2) ∨ (xk ≠ 1 ∧ xk ≠ 2)) with k1 | ⟨k1, k2⟩ | ⟨k1, k2⟩
      focus
        have q1 : (xk == 1) = true := by simpa using k1
        clear k1
        rcases keep_push H6.out hn64 hj9 xa (k := xs) (by omega) with hP | ⟨T8, hP⟩
        focus
          have HP := Lib.hid hP
          clear hP
          go_wp2_with fail
          refine HP.out.mono ?_
          rintro r W8 ⟨rfl, h8⟩
          obtain ⟨T8, hT8⟩ : ∃ T8, T8 = T := ⟨_, rfl⟩
          rw [← hT8] at h8
          have H8 := Lib.hid h8
          clear h8 hT8 f0 f1 f2 f3
          go_wp2_with fail
        rotate_left 1
        focus
          have HP := Lib.hid hP
          clear hP
          go_wp2_with fail
          refine HP.out.mono ?_
          rintro r W7 ⟨rfl, hbx7, hl, W8, hu, h8⟩
          have H8 := Lib.hid h8
          clear h8 f0 f1 f2 f3
          obtain ⟨f0, f1, f2, f3⟩ := HF.out W7 hbx7
          clear hbx7
          go_wp2_with fail
          clear f0 f1 f2 f3 hl hu
      rotate_left 2
      focus
        have q1 : (xk == 1) = false := by simpa using k1
        have q2 : (xk == 2) = true := by simpa using k2
        clear k1 k2
        rcases keep_pop H6.out xa with hP | ⟨s8, T8, hP⟩
        focus
          have HP := Lib.hid hP
          clear hP
          go_wp2_with fail
          refine HP.out.mono ?_
          rintro r W8 ⟨rfl, h8⟩
          obtain ⟨T8, hT8⟩ : ∃ T8, T8 = T := ⟨_, rfl⟩
          rw [← hT8] at h8
          have H8 := Lib.hid h8
          clear h8 hT8 f0 f1 f2 f3
          go_wp2_with fail
        rotate_left 1
        focus
          have HP := Lib.hid hP
          clear hP
          go_wp2_with fail
          refine HP.out.mono ?_
          rintro r W7 ⟨rfl, hbx7, hl, W8, hu, h8⟩
          have H8 := Lib.hid h8
          clear h8 f0 f1 f2 f3
          obtain ⟨f0, f1, f2, f3⟩ := HF.out W7 hbx7
          clear hbx7
          go_wp2_with fail
          clear f0 f1 f2 f3 hl hu
      rotate_left 2
      focus
        have q1 : (xk == 1) = false := by simpa using k1
        have q2 : (xk == 2) = false := by simpa using k2
        clear k1 k2
        have HL6 := Lib.hid (H6.out.choose_spec.1.len xa)
        obtain ⟨hL0, hL1⟩ := H6.out.choose_spec.1.lenK_le xa
        rcases keep_steal H6.out hn64 hj9 xa xb with hP | ⟨s8, T8, hP⟩
        focus
          have HP := Lib.hid hP
          clear hP
          generalize lenK n T xa = L at *
          go_wp2_with fail
          refine HL6.out.mono ?_
          rintro r w' ⟨rfl, rfl⟩
          go_wp2_with fail
          refine HP.out.mono ?_
          rintro r W8 ⟨rfl, h8⟩
          obtain ⟨T8, hT8⟩ : ∃ T8, T8 = T := ⟨_, rfl⟩
          rw [← hT8] at h8
          have H8 := Lib.hid h8
          clear h8 hT8 f0 f1 f2 f3 HL6
          go_wp2_with fail
        rotate_left 1
        focus
          have HP := Lib.hid hP
          clear hP
          generalize lenK n T xa = L at *
          go_wp2_with fail
          refine HL6.out.mono ?_
          rintro r w' ⟨rfl, rfl⟩
          go_wp2_with fail
          refine HP.out.mono ?_
          rintro r W8 ⟨rfl, hl, hL, h8⟩
          have H8 := Lib.hid h8
          have HL8 := Lib.hid (h8.choose_spec.1.len xa)
          rw [hL] at HL8
          clear h8 f0 f1 f2 f3 HL6 hL
          obtain ⟨f0, f1, f2, f3⟩ := HF.out W8 H8.out.choose_spec.2
          have hw1 : IntKind.i64.wrap (L + 1) = L + 1 := IntWalk.i64_in _ (by omega)
          go_wp2_with fail
          refine HL8.out.mono ?_
          rintro r w' ⟨rfl, rfl⟩
          go_wp2_with fail
          clear f0 f1 f2 f3 hl hw1 HL8
      all_goals
        clear HP
        obtain ⟨S8, hkw⟩ := H8.out.kw
        have HK := Lib.hid hkw
        have hj10 : j + 1 ≤ 1000 := by omega
        have hj11 : j + 1 ≤ ol.length := by omega
        clear hkw H8 H6 HBX HF
        go_loopw [15, 16, 112] (fun t _ i wr => ∃ k m : Nat, k ≤ n ∧ i = .int .i64 k ∧ t = .int .i64 m ∧ Hid (totW k T8 = m) ∧ Hid (KW w B b mb n (j + 1) S8 T8 wr)) (fun _ _ i _ => n - (intOf i).toNat)
        case atStart => exact ⟨0, 0, Nat.zero_le _, rfl, rfl, rfl, HK⟩
        case round =>
          clear HK
          obtain ⟨k, m, hk, rfl, rfl, HT, HK⟩ := hrel
          have htl := totW_le T8 hk
          have htc := HK.out.q.k.tot
          rw [HT.out] at htl
          have hm : m ≤ 1000 := by omega
          clear htl
          by_cases hkt : k < n
          · have HL := Lib.hid (wLen_any HK.out.q.k hkt)
            have hkz : decide ((k : Int) < zz) = true := decide_eq_true (by have := HZ.out; omega)
            have htl := totW_le T8 (show k + 1 ≤ n by omega)
            rw [totW_succ, HT.out] at htl
            have hm2 : m + (T8 k).length ≤ 1000 := by omega
            have HT2 : Hid (totW (k + 1) T8 = m + (T8 k).length) := by show _ = _; rw [totW_succ, HT.out]
            clear htl htc HT
            generalize (T8 k).length = x at *
            go_wp2_with fail
            refine HL.out.mono ?_
            rintro r w' ⟨rfl, rfl⟩
            go_wp2
            go_roundw
            case rel => exact ⟨k + 1, m + x, by omega, by go_num, by go_num, HT2, HK⟩
            case measure => simp [intOf]; omega
          · have hkz : decide ((k : Int) < zz) = false := decide_eq_false (by have := HZ.out; omega)
            obtain rfl : k = n := by omega
            have HTC := Lib.hid (wTotal_any HK.out.q.k)
            have hlen : ∀ ty, (Builtin.len_ #[45] ty #[.map (some mb)]).run Try.prog _ = _ := fun ty => HK.out.sm.len ty
            rw [HT.out] at HTC hlen
            clear htc
            obtain ⟨M, hown, _, b2, _, b4⟩ := HK.out.sm.map
            go_wp2_with fail
            refine HTC.out.mono ?_
            rintro r W9 ⟨rfl, e9⟩
            subst e9
            go_wp2_with (at_range; refine wpList_range_own _ rfl _ 45 rfl 9 4 boLaw Try.underlying45 (plainElem (H := Unit) Try.prog 4) mb (j + 1) M rfl hown ?_; intro w0 hrg0 hg0 hs0)
            go_frame
            have HB2 := Lib.hid b2
            have HB4 := Lib.hid b4
            have hb0 : Below W9.heap.size W9 w0 := (Below.refl _ _).grown hg0 (Nat.le_refl _) (fun k hk => by cases hk)
            have HB0 := Lib.hid hb0
            clear hlen b2 b4 hown hg0 hs0 hb0 HTC HT hk
            go_loopw [17] (fun _ wr2 => ∃ (left : Lit → Bool) (cnt : Nat), wr2.ranges Try.prog 9 (plainElem (H := Unit) Try.prog 4) mb W9.heap.size (j + 1) M left cnt ∧ Hid (∀ kl, left kl = true → has M kl = true) ∧ Hid (Below W9.heap.size W9 wr2)) (fun _ wr2 => wr2.rangeLeft mb W9.heap.size)
            case atStart => exact ⟨_, _, hrg0, fun _ h => h, HB0⟩
            case round =>
              clear hrg0 HB0
              obtain ⟨left, cnt, hrg, HLF, HB⟩ := hrel
              go_wp2_with (at_next; refine wpList_next_bo rfl _ rfl mb W9.heap.size _ M _ _ rfl hrg ?_ ?_)
              · intro _
                have HE : Hid (∃ S, KW w B b mb k (j + 1) S T8 _) := ⟨S8, HK.out.later HB.out⟩
                go_wp2
                go_roundw
                case rel => exact ⟨j + 1, T8, hj11, by go_num, HE⟩
                case measure => simp [intOf]; omega
              · intro x cc kl w1 cnt1 hkey hlk hrg1 hlt1 hg1 hen
                obtain ⟨hx, hfx⟩ := SM.key HB2.out HB4.out hkey (HLF.out kl hlk)
                have hb1 : Below W9.heap.size W9 w1 := HB.out.trans ((Below.refl _ _).grown hg1 HB.out.size (fun k hk => by cases hk; exact Nat.le_refl _))
                have HB1 := Lib.hid hb1
                have HH := wHas_any (HK.out.later hb1).q.k hx
                rw [hfx] at HH
                have HHH := Lib.hid HH
                have HLF1 : Hid (∀ z, (left z && !z.sameKey kl) = true → has M z = true) := fun z hz => HLF.out z (by simp at hz; exact hz.1)
                clear hx hfx HH hb1 hkey hg1
                go_wp2_with fail
                refine HHH.out.mono ?_
                rintro r w' ⟨rfl, e5⟩
                subst e5
                go_wp2
                go_roundw
                case rel => exact ⟨_, cnt1, hrg1, HLF1, HB1⟩
                case measure => rw [hrg1.left_eq, hrg.left_eq]; exact hlt1
    · obtain rfl : j = ol.length := by omega
      have HB := Lib.hid HI.out.below
      go_wp2
      go_ret
      exact ⟨rfl, HB.out⟩
end Go.Proofs.Ytoaejkfejdaiaaa
