/- The law MailAll, walked. -/
import Derived.Test.YtpanfhkmildkeaaMlMap
import Derived.Test.YtpanfhkmildkeaaWrapU
import Derived.Deep.DeepCutAuto
import Derived.Deep.CutBlock
import Derived.Deep.RegionLaw
namespace Go.Proofs.Ytpanfhkmildkeaa
open Go.RowKit

set_option maxRecDepth 100000 in
set_option maxHeartbeats 8000000 in
theorem mailAll_any (z : Int) (oa : Option Addr) (ol : List MOp) (oc : Nat) (w : World) (hord : RowAt w oa 4 mopCell ol) :
    Calls Try.prog 5 #[.int .i64 z, .slice oa ol.length oc] w fun r w' => r = .returned (.bool true) ∧ Below w.heap.size w w' := by
  have HOP : Hid (∀ W, Below w.heap.size w W → RowAt W oa 4 mopCell ol) := fun W hb => hord.later hb
  have hmm := @run_makeMap Try.prog
  clear hord
  obtain ⟨m, hm, hm0⟩ := wrap_u z
  obtain ⟨k, hk, hk64⟩ := tmod_nat m hm0 64 (by omega)
  have hk' : m.tmod 64 = k := hk
  have hwk : IntKind.i64.wrap (k : Int) = k := IntWalk.i64_in _ (by omega)
  have hw1 : IntKind.i64.wrap (1 + (k : Int)) = 1 + k := IntWalk.i64_in _ (by omega)
  obtain ⟨n, hn⟩ : ∃ n : Nat, n = k + 1 := ⟨_, rfl⟩
  have hnk : 1 + (k : Int) = n := by omega
  have hn1 : 1 ≤ n := by omega
  have hn64 : n ≤ 64 := by omega
  clear hk hm0
  go_enter Try.func5, Try.ntmps5
  go_wp2_with fail
  refine (awake12_any w).mono ?_
  rintro r W2 ⟨rfl, hb2⟩
  by_cases h300 : 300 < ol.length
  · have q3 : decide ((300 : Int) < (ol.length : Int)) = true := decide_eq_true (by omega)
    go_wp2_with fail
    refine (awake12_any _).mono ?_
    rintro r w3 ⟨rfl, hb3⟩
    go_wp2
    go_ret
    exact ⟨rfl, hb2.trans (hb3.mono hb2.size)⟩
  have q3 : decide ((300 : Int) < (ol.length : Int)) = false := decide_eq_false (by omega)
  have hol : ol.length ≤ 300 := by omega
  clear h300
  have HN : Hid (Calls Try.prog 7 #[.int .i64 ((k : Int) + 1)] W2 _) := mNew_any (n := k + 1) (by omega) (by omega) W2
  rw [← hn] at HN
  clear hm hwk hw1 hnk hk'
  go_wp2_with fail
  refine HN.out.mono ?_
  rintro r W3 ⟨rfl, hb3, S, q, hS⟩
  have HZ : Hid ((k : Int) + 1 = (n : Int)) := by show _ = _; omega
  clear HN hn hk64
  generalize (k : Int) + 1 = zz at *
  have HI0 : Hid (MAl w W2.heap.size (W2.heap.size + 1) n W3.heap.size 0 (fun _ => .slice none 0 0) (fun _ => []) S (W3.alloc (.map #[] 0))) := by
    have hb4 := hb2.trans (hb3.mono hb2.size)
    exact ⟨q.later (below_alloc1 _ _), SlM.start W3 n, fun _ _ => ownRow_nil _ _ _ _ _, (fun _ _ _ _ _ x hx => by cases hx), hb4.alloc hb4.size _, hb2.size, hb4.size⟩
  have HT0 : Hid (totL n (fun _ => ([] : List Let)) = 0) := totL_nil n
  clear hb2 hb3 hS q
  generalize W2.heap.size + 1 = b at *
  generalize W2.heap.size = B at *
  go_wp2_with fail
  generalize W3.heap.size = mb at *
  go_loopw [8, 10, 11, 40] (fun c _ _ i wr => ∃ (j m : Nat) (vs : Nat → Value) (T : Nat → List Let) (S : Nat → Prop), j ≤ ol.length ∧ i = .int .i64 j ∧ c = .int .i64 m ∧ m ≤ j ∧ Hid (totL n T = m) ∧ Hid (MAl w B b n mb m vs T S wr)) (fun _ _ _ i _ => ol.length - (intOf i).toNat)
  case atStart => exact ⟨0, 0, _, _, S, Nat.zero_le _, rfl, rfl, Nat.le_refl _, HT0, HI0⟩
  case round =>
    clear HI0 hmm HT0
    obtain ⟨j, m, vs, T, S', hj, rfl, rfl, hmj, HT, HI⟩ := hrel
    by_cases hlt : j < ol.length
    · obtain ⟨pb, o, rfl, e0, e1, e2, e3⟩ := (HOP.out _ HI.out.below).mop hlt
      generalize ol[j] = x at *
      obtain ⟨xk, xt, xs, xz⟩ := x
      dsimp only at e0 e1 e2 e3
      have hqs : (⟨xs.toArray⟩ : ByteArray).size = xs.length := by simp [ByteArray.size]
      by_cases h50 : 50 < xs.length
      · have q50 : decide ((50 : Int) < (xs.length : Int)) = true := decide_eq_true (by omega)
        have HB : Hid (Below w.heap.size w (wr.alloc (.cells #[.int .i64 xk, .int .i64 xt, .string ⟨xs.toArray⟩, .int .u8 xz] 30))) := HI.out.below.alloc HI.out.below.size _
        go_wp2
        go_ret
        exact ⟨rfl, HB.out⟩
      have q50 : decide ((50 : Int) < (xs.length : Int)) = false := decide_eq_false (by omega)
      have hxs : xs.length ≤ 50 := by omega
      have HI6 := Lib.hid (HI.out.later (below_alloc2 wr (.cells #[.int .i64 xk, .int .i64 xt, .string ⟨xs.toArray⟩, .int .u8 xz] 30) (.cells #[.string ⟨xs.toArray⟩, .int .u8 xz] 34)))
      have HO6 : Hid (((wr.alloc (.cells #[.int .i64 xk, .int .i64 xt, .string ⟨xs.toArray⟩, .int .u8 xz] 30)).alloc (.cells #[.string ⟨xs.toArray⟩, .int .u8 xz] 34)).heap[wr.heap.size]? = some (.cells #[.int .i64 xk, .int .i64 xt, .string ⟨xs.toArray⟩, .int .u8 xz] 30 (0, 0))) := ((below_alloc1 _ _).block _ (by simp)).trans (heap_alloc_new wr _)
      have HL6 : Hid (((wr.alloc (.cells #[.int .i64 xk, .int .i64 xt, .string ⟨xs.toArray⟩, .int .u8 xz] 30)).alloc (.cells #[.string ⟨xs.toArray⟩, .int .u8 xz] 34)).heap[wr.heap.size + 1]? = some (.cells #[.string ⟨xs.toArray⟩, .int .u8 xz] 34 (0, 0))) := by
        have h := heap_alloc_new (wr.alloc (.cells #[.int .i64 xk, .int .i64 xt, .string ⟨xs.toArray⟩, .int .u8 xz] 30)) (.cells #[.string ⟨xs.toArray⟩, .int .u8 xz] 34)
        rw [World.size_alloc] at h
        exact h
      clear h50
      go_upto_region 15 with (fail)
      generalize (wr.alloc (.cells #[.int .i64 xk, .int .i64 xt, .string ⟨xs.toArray⟩, .int .u8 xz] 30)).alloc (.cells #[.string ⟨xs.toArray⟩, .int .u8 xz] 34) = W6 at *
      generalize wr.heap.size = G6 at *
      have HF6 : Hid (∀ W : World, W.heap[G6]? = some (.cells #[.int .i64 xk, .int .i64 xt, .string ⟨xs.toArray⟩, .int .u8 xz] 30 (0, 0)) → W.heap[G6 + 1]? = some (.cells #[.string ⟨xs.toArray⟩, .int .u8 xz] 34 (0, 0)) → W.cell? ⟨G6, 1, none⟩ = some (.int .i64 xt) ∧ W.cell? ⟨G6 + 1, 0, none⟩ = some (.string ⟨xs.toArray⟩) ∧ W.cell? ⟨G6 + 1, 1, none⟩ = some (.int .u8 xz)) := fun W hW hL => ⟨by rw [cell_of_row W _ 1 _ _ _ hW]; rfl, by rw [cell_of_row W _ 0 _ _ _ hL]; rfl, by rw [cell_of_row W _ 1 _ _ _ hL]; rfl⟩
      obtain ⟨f1, g0, g1⟩ := HF6.out W6 HO6.out HL6.out
      clear e0 e1 e2 e3
      by_cases hr : 0 ≤ xt ∧ xt < n
      · obtain ⟨t, rfl⟩ : ∃ t : Nat, xt = t := ⟨xt.toNat, by omega⟩
        have ht : t < n := by omega
        clear hr
        have HP := Lib.hid (mSend_any HI6.out.q (j := t) ht ⟨xs, xz⟩ (by show xs.length ≤ _; omega) (by rw [HT.out]; omega))
        go_wp2_with fail
        refine HP.out.mono ?_
        rintro r W8 ⟨rfl, h7⟩
        obtain ⟨S2, m8, r8, z8, o8, h8⟩ := HI6.out.send hn64 (by omega) ht h7
        have ho8 := o8.row HO6.out (HI6.out.q.not_row HO6.out (by decide) (by decide) (by decide))
        have hl8 := o8.row HL6.out (HI6.out.q.not_row HL6.out (by decide) (by decide) (by decide))
        obtain ⟨f1, g0, g1⟩ := HF6.out W8 ho8 hl8
        have HFO : Hid (∀ W : World, W.heap[G6]? = some (.cells #[.int .i64 xk, .int .i64 (t : Int), .string ⟨xs.toArray⟩, .int .u8 xz] 30 (0, 0)) → W.cell? ⟨G6, 1, none⟩ = some (.int .i64 (t : Int))) := fun W hW => by rw [cell_of_row W _ 1 _ _ _ hW]; rfl
        have HO8 : Hid ((W8.alloc (.cells #[.string ⟨xs.toArray⟩, .int .u8 xz] 34)).drew.heap[G6]? = some (.cells #[.int .i64 xk, .int .i64 (t : Int), .string ⟨xs.toArray⟩, .int .u8 xz] 30 (0, 0))) := ((below_alloc1 W8 _).block _ (Array.getElem?_eq_some_iff.1 ho8).1).trans ho8
        have hlt8 : G6 + 1 < W8.heap.size := (Array.getElem?_eq_some_iff.1 hl8).1
        have hlt9 : G6 < W8.heap.size := by omega
        have htl := totL_upd T (T t ++ [(⟨xs, xz⟩ : Let)]) ht
        rw [List.length_append, List.length_singleton, HT.out] at htl
        have HT2 : Hid (totL n (updF T t (T t ++ [(⟨xs, xz⟩ : Let)])) = m + 1) := by show _ = _; omega
        have hlen : (T t).length ≤ 1000 := by have := totL_le T ht; rw [HT.out] at this; omega
        have hb9 : Below W8.heap.size W8 (W8.alloc (.cells #[.string ⟨xs.toArray⟩, .int .u8 xz] 34)).drew := (below_alloc1 W8 _).drew
        have hk1 := (m8.later (Below.refl W8.heap.size W8).drew).look hn64 ht
        have hk2 := (m8.later hb9).look hn64 ht
        obtain ⟨a8, c8, e8, _, _⟩ := r8.form letCell_len (by omega)
        obtain ⟨p, hp⟩ : ∃ p, p = (T t).length := ⟨_, rfl⟩
        rw [← hp] at e8
        have HP8 := Lib.hid hp
        have ro8 := r8.later hb9
        have hz9 : B ≤ (W8.alloc (.cells #[.string ⟨xs.toArray⟩, .int .u8 xz] 34)).drew.heap.size := Nat.le_trans z8 hb9.size
        have hnw : ∀ j u, (letCell ⟨xs, xz⟩)[j]? = some u → (W8.alloc (.cells #[.string ⟨xs.toArray⟩, .int .u8 xz] 34)).drew.cell? (Addr.add ⟨W8.heap.size, 0, none⟩ j) = some u := cells_new W8 (letCell ⟨xs, xz⟩) 34 W8.heap.size rfl
        have hlen2 : (T t).length ≤ 1000000 := by omega
        have H8 := Lib.hid (h8 _ hb9)
        rw [e8] at hk1 hk2 ro8 H8
        have HB9 := Lib.hid hb9
        have HR9 := Lib.hid ro8
        have HL9 := Lib.hid hlen2
        clear h7 m8 r8 o8 h8 ho8 hl8 hlen e8 hp htl hb9 ro8 hlen2 z8
        go_wp2_with fail
        go_region_law ((refine step_appendAt (f := letCell) (n := 2) 46 34 24 (.agg #[.string ByteArray.empty, .int .u8 0]) Try.underlying46 infoLet (by rfl) (by omega) (by omega) letCell_len (by rfl) (.tmp 65) (.tmp 67) (by rfl) B _ (T t) (by rfl) HR9.out ⟨W8.heap.size, 0, none⟩ (by rfl) ⟨xs, xz⟩ (letCell_one _) hnw HL9.out hz9 ?_; intro v9 W9 hown9 _ hg9 hv9; obtain ⟨W10, hrun, hal, hbx⟩ := H8.out v9 W9 hown9 hg9 hv9; have f9 := HFO.out W9 (hbx G6 _ HO8.out); have HAL := Lib.hid hal; clear hal hbx))
        all_goals go_wp2_with fail
        all_goals go_roundw
        all_goals first
          | exact ⟨j + 1, m + 1, _, _, S2, by omega, by go_num, by go_num, by omega, HT2, HAL⟩
          | (simp [intOf]; omega)
      · have HP := Lib.hid (mSend_out HI6.out.q (z := xt) hr ⟨xs, xz⟩)
        have HN7 : Hid (∀ W, Below W6.heap.size W6 W → MAl w B b n mb m vs T S' W) := fun W hb => HI6.out.later hb
        clear hr
        go_wp2_with fail
        refine HP.out.mono ?_
        rintro r W7 ⟨rfl, hb7⟩
        have HI7 := Lib.hid (HN7.out W7 hb7)
        clear hb7
        go_wp2_with fail
        go_roundw
        case rel => exact ⟨j + 1, m, vs, T, S', by omega, by go_num, rfl, by omega, HT, HI7⟩
        case measure => simp [intOf]; omega
    · obtain rfl : j = ol.length := by omega
      have HTT : Hid (Calls Try.prog 13 #[.pointer (some ⟨b, 0, none⟩)] wr fun r w' => r = .returned (.int .i64 m) ∧ wr = w') := by
        have h := mTotal_any HI.out.q
        rw [HT.out] at h
        exact h
      have HI2 := Lib.hid HI.out.tk
      have hT100 : ∀ i, i < n → (T i).length ≤ 300 := fun i hi => by have := totL_le T hi; rw [HT.out] at this; omega
      have HT100 := Lib.hid hT100
      clear hT100 HI
      go_wp2_with fail
      refine HTT.out.mono ?_
      rintro r w' ⟨rfl, rfl⟩
      go_wp2_with fail
      obtain ⟨wo, hwo⟩ : ∃ x, x = wr := ⟨_, rfl⟩
      subst hwo
      go_loopw [12, 14, 15, 16, 77, 84] (fun _ _ _ _ i _ wr => ∃ (q : Nat) (S : Nat → Prop), q ≤ n ∧ i = .int .i64 q ∧ Hid (MTk w B b n mb m vs T (tk T q 0) S wr)) (fun _ _ _ _ i _ _ => n - (intOf i).toNat)
      case atStart => exact ⟨0, _, Nat.zero_le _, rfl, HI2⟩
      case round =>
        clear HI2
        obtain ⟨i, S2, hi, rfl, HK⟩ := hrel
        by_cases hin : i < n
        · have hzz : decide ((i : Int) < zz) = true := decide_eq_true (by rw [HZ.out]; omega)
          have hlk := HK.out.map.look hn64 hin
          obtain ⟨a8, c8, e8, hra, _⟩ := (HK.out.row i hin).form letCell_len (by have := HT100.out i hin; omega)
          obtain ⟨p, hp⟩ : ∃ p, p = (T i).length := ⟨_, rfl⟩
          have hp3 : p ≤ 300 := by rw [hp]; exact HT100.out i hin
          rw [← hp] at e8
          rw [e8] at hlk
          have HE8 := Lib.hid e8
          have HPP := Lib.hid hp
          have HK0 := Lib.hid HK.out
          have HRW : Hid (∀ W S' U, MTk w B b n mb m vs T U S' W → RowAt W a8 2 letCell (T i)) := fun W S' U hk => by
            obtain ⟨a', c', e', hr', _⟩ := (hk.row i hin).form letCell_len (by rw [← HPP.out]; omega)
            rw [HE8.out] at e'
            injection e' with e5
            subst e5
            exact hr'
          clear hra e8 hp
          go_wp2_with fail
          obtain ⟨w2, hw2⟩ : ∃ x, x = wr := ⟨_, rfl⟩
          subst hw2
          clear hlk
          go_loopw [14, 15, 16, 84] (fun _ _ _ i' wq => ∃ (d : Nat) (S : Nat → Prop), d ≤ p ∧ i' = .int .i64 d ∧ Hid (MTk w B b n mb m vs T (tk T i d) S wq)) (fun _ _ _ i' _ => p - (intOf i').toNat)
          case atStart => exact ⟨0, _, Nat.zero_le _, rfl, HK0.out⟩
          case round =>
            clear HK HK0
            obtain ⟨d, S3, hd, rfl, HD⟩ := hrel
            by_cases hdp : d < p
            · have hdl : d < (T i).length := by rw [← HPP.out]; exact hdp
              obtain ⟨gb, go, rfl, v0, v1⟩ := (HRW.out _ _ _ HD.out).let hdl
              have hUi : tk T i d i = (T i)[d] :: (T i).drop (d + 1) := by rw [tk_at]; exact List.drop_eq_getElem_cons hdl
              obtain ⟨y, hy⟩ : ∃ y, y = (T i)[d] := ⟨_, rfl⟩
              rw [← hy] at v0 v1 hUi
              have HW1 := Lib.hid (HD.out.later (below_alloc1 wr (.cells #[.string ⟨y.s.toArray⟩, .int .u8 y.set] 34)))
              have hbx1 : (wr.alloc (.cells #[.string ⟨y.s.toArray⟩, .int .u8 y.set] 34)).heap[wr.heap.size]? = some (.cells #[.string ⟨y.s.toArray⟩, .int .u8 y.set] 34 (0, 0)) := heap_alloc_new wr _
              have HP : Hid (Calls Try.prog 9 #[.pointer (some ⟨b, 0, none⟩), .int .i64 (i : Int)] (wr.alloc (.cells #[.string ⟨y.s.toArray⟩, .int .u8 y.set] 34)) _) := mTake_any HW1.out.q hin hUi (by
                have h1 : totL n (tk T i d) ≤ totL n T := by
                  refine totL_mono fun q _ => ?_
                  unfold tk
                  split
                  · exact Nat.zero_le _
                  · split
                    · rw [List.length_drop]; omega
                    · exact Nat.le_refl _
                rw [HT.out] at h1
                omega)
              have HBX1 := Lib.hid hbx1
              clear hy hUi hbx1 hdl
              go_wp2_with fail
              refine HP.out.mono ?_
              rintro r W2' ⟨rfl, h7⟩
              obtain ⟨hk7, o7⟩ := HW1.out.took h7
              rw [tk_step] at hk7
              have hbx2 := o7.row HBX1.out (HW1.out.q.not_row HBX1.out (by decide) (by decide) (by decide))
              have l0 : W2'.cell? ⟨wr.heap.size, 0, none⟩ = some (.string ⟨y.s.toArray⟩) := by rw [cell_of_row _ _ 0 _ _ _ hbx2]; rfl
              have l1 : W2'.cell? ⟨wr.heap.size, 1, none⟩ = some (.int .u8 y.set) := by rw [cell_of_row _ _ 1 _ _ _ hbx2]; rfl
              have hlq : wr.heap.size < W2'.heap.size := (Array.getElem?_eq_some_iff.1 hbx2).1
              have HK9 := Lib.hid (hk7.later (below_alloc1 W2' (.cells #[.string ⟨y.s.toArray⟩, .int .u8 y.set] 34)))
              have heq : ∀ W : World, (Op.equalIn 10000 34 (.agg #[.string ⟨y.s.toArray⟩, .int .u8 y.set]) (.agg #[.string ⟨y.s.toArray⟩, .int .u8 y.set])).run Try.prog W = .ok true W := fun W => by rw [run_equal_let y y W, eqLet_refl]
              clear h7 hk7 o7 hbx2
              go_wp2_with fail
              go_roundw
              case rel => exact ⟨d + 1, S3, by omega, by go_num, HK9⟩
              case measure => simp [intOf]; omega
            · obtain rfl : d = p := by omega
              have HD2 := Lib.hid (HD.out.congr (V := tk T (i + 1) 0) fun q _ => by rw [HPP.out]; exact tk_end T i q)
              have HLL : Hid (Calls Try.prog 11 #[.pointer (some ⟨b, 0, none⟩), .int .i64 (i : Int)] wr fun r w' => r = .returned (.int .i64 0) ∧ wr = w') := by
                have h := mLen_any HD2.out.q hin
                rw [show tk T (i + 1) 0 i = [] by unfold tk; rw [if_pos (by omega)]] at h
                exact h
              go_wp2_with fail
              refine HLL.out.mono ?_
              rintro r w' ⟨rfl, rfl⟩
              go_wp2_with fail
              go_roundw
              case rel => exact ⟨i + 1, S3, by omega, by go_num, HD2⟩
              case measure => simp [intOf]; omega
        · obtain rfl : i = n := by omega
          have hzz : decide ((i : Int) < zz) = false := decide_eq_false (by rw [HZ.out]; omega)
          have HTT : Hid (Calls Try.prog 13 #[.pointer (some ⟨b, 0, none⟩)] wr fun r w' => r = .returned (.int .i64 0) ∧ wr = w') := by
            have h := mTotal_any HK.out.q
            rw [tk_all] at h
            exact h
          have HB := Lib.hid HK.out.below
          go_wp2_with fail
          refine HTT.out.mono ?_
          rintro r w' ⟨rfl, rfl⟩
          go_wp2
          go_ret
          exact ⟨rfl, HB.out⟩
end Go.Proofs.Ytpanfhkmildkeaa
