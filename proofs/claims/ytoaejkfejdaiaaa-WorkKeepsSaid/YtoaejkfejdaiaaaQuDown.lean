/- The contract of the library's down, over an end. -/
import Derived.Test.YtoaejkfejdaiaaaQuUp
namespace Go.Proofs.Ytoaejkfejdaiaaa
open Go.RowKit

section
variable {w w' w'' : World} {B b : Nat} {pre : Nat → Txt} {ids : List Nat} {vs : Nat → Value} {pl pl' : Nat → Nat → Int} {ls : Nat → List Nat} {s n i0 : Nat} {l' : List Nat}
/-- What down leaves: a heap, if it moved anything; else all is in order but for that place's parents. -/
def DownR (B b : Nat) (pre : Nat → Txt) (ids : List Nat) (vs : Nat → Value) (pl : Nat → Nat → Int) (ls : Nat → List Nat) (s n i0 : Nat) (w : World) (r : Ending) (w' : World) : Prop :=
  ∃ d pl' l', r = .returned (.bool d) ∧ MvR B b pre ids vs pl ls s n w pl' l' w' ∧ (d = true → HeapF (ltQ pre s) n fun k => l'.getD k 0) ∧ (d = false → UpF (ltQ pre s) n (fun k => l'.getD k 0) i0)
theorem downR_mk {k : Nat} (hk : i0 ≤ k) (m : MvR B b pre ids vs pl ls s n w pl' l' w') (hu : UpF (ltQ pre s) n (fun x => l'.getD x 0) k) (h : i0 < k → 1 ≤ k → ltQ pre s (l'.getD k 0) (l'.getD ((k - 1) / 2) 0) = false) : DownR B b pre ids vs pl ls s n i0 w (.returned (.bool (decide (i0 < k)))) w' := by
  refine ⟨_, pl', l', rfl, m, fun hd => ?_, fun hd => ?_⟩
  · have hd : i0 < k := by simpa using hd
    exact up_exit hu (h hd (by omega))
  · have hd : ¬ i0 < k := by simpa using hd
    obtain rfl : k = i0 := by omega
    exact hu
set_option maxRecDepth 100000 in
set_option maxHeartbeats 4000000 in
theorem down_any (q : QR w B b pre ids vs pl ls) (hs : s < 2) (hd : (ls s).Nodup) (hp : PosOk (pl s) (ls s)) (hn : n ≤ (ls s).length) (hj : i0 ≤ n) (hu : HoleF (ltQ pre s) n (fun k => (ls s).getD k 0) i0) :
    Calls Try.prog 38 #[endI b s, .int .i64 i0, .int .i64 n] w (DownR B b pre ids vs pl ls s n i0 w) := by
  have HM0 : Hid (MvR B b pre ids vs pl ls s n w pl (ls s) w) := MvR.refl q hp
  have HO0 := Lib.hid hu
  have hlen := q.len s hs
  have HD := Lib.hid hd
  have hml := meth_less b s
  have hms := meth_swap b s
  clear q hp hu hd
  go_enter Try.func38, Try.ntmps38
  go_wp2_with fail
  go_loopw [7, 8, 9, 10] (fun ti t8 t9 t10 wr => ∃ (k : Nat) (pl' : Nat → Nat → Int) (l' : List Nat), i0 ≤ k ∧ k ≤ n ∧ ti = .int .i64 k ∧ Hid (MvR B b pre ids vs pl ls s n w pl' l' wr) ∧ Hid (HoleF (ltQ pre s) n (fun k => l'.getD k 0) k) ∧ Hid (i0 < k → 1 ≤ k → ltQ pre s (l'.getD k 0) (l'.getD ((k - 1) / 2) 0) = false)) (fun ti _ _ _ _ => n - (intOf ti).toNat)
  case atStart => exact ⟨i0, pl, ls s, Nat.le_refl _, hj, rfl, HM0, HO0, fun h => absurd h (Nat.lt_irrefl _)⟩
  case round =>
    clear HM0 HO0
    obtain ⟨k, pl', l', hik, hk, rfl, HM, HO, HK⟩ := hrel
    by_cases h1 : 2 * k + 1 < n
    · have hkl : k < l'.length := by rw [HM.out.len]; omega
      by_cases h2 : 2 * k + 2 < n
      · have HL1 : Hid (Calls Try.prog 56 #[endV b s, .int .i64 (2 * (k : Int) + 1 + 1), .int .i64 (2 * (k : Int) + 1)] wr fun r w' => r = .returned (.bool (ltQ pre s (l'.getD (2 * k + 2) 0) (l'.getD (2 * k + 1) 0))) ∧ Below wr.heap.size wr w') := by
          have h := endLess_any HM.out.qr hs (i := 2 * k + 2) (k := 2 * k + 1) (by rw [updF_same, HM.out.len]; omega) (by rw [updF_same, HM.out.len]; omega)
          have e2 : (((2 * k + 2 : Nat)) : Int) = 2 * (k : Int) + 1 + 1 := by omega
          have e1 : (((2 * k + 1 : Nat)) : Int) = 2 * (k : Int) + 1 := by omega
          rw [updF_same, e2, e1] at h
          exact h
        go_wp2_with fail
        refine HL1.out.mono ?_
        rintro r w2 ⟨rfl, hb2⟩
        have HM2 := Lib.hid (HM.out.later hb2)
        cases hq2 : ltQ pre s (l'.getD (2 * k + 2) 0) (l'.getD (2 * k + 1) 0)
        · go_wp2_with fail
          obtain ⟨c, hc⟩ : ∃ c, c = 2 * k + 1 := ⟨_, rfl⟩
          have hci : (c : Int) = 2 * (k : Int) + 1 := by omega
          have hcn : c < n := by omega
          have hcl : c < l'.length := by rw [HM.out.len]; omega
          have HCD : Hid (∀ d, 1 ≤ d → d < n → (d - 1) / 2 = k → ltQ pre s (l'.getD d 0) (l'.getD c 0) = false) := by rw [hc]; exact child_left (ltQ_ord pre s) (f := fun x => l'.getD x 0) (.inr hq2)
          have HCC : Hid (c = 2 * k + 1 ∨ c = 2 * k + 2) := by show _ ∨ _; omega
          have hkc : k < c := by omega
          rw [← hci]
          clear hc hci
          have HL := Lib.hid (endLess_any HM2.out.qr hs (i := c) (k := k) (by rw [updF_same]; exact hcl) (by rw [updF_same]; omega))
          rw [updF_same] at HL
          refine HL.out.mono ?_
          rintro r w4 ⟨rfl, hb4⟩
          have HM4 := Lib.hid (HM2.out.later hb4)
          cases hq : ltQ pre s (l'.getD c 0) (l'.getD k 0)
          · have HX : Hid (UpF (ltQ pre s) n (fun x => l'.getD x 0) k) := down_exit HO.out fun d d1 d2 d3 => (ltQ_ord pre s).trans _ _ _ hq (HCD.out d d1 d2 d3)
            clear hq
            go_wp2
            go_ret
            exact downR_mk hik HM4.out HX.out HK.out
          · have HS := Lib.hid (endSwap_any HM4.out.qr hs (i := k) (k := c) (by rw [updF_same]; omega) (by rw [updF_same]; exact hcl))
            rw [updF_same] at HS
            have HU2 : Hid (HoleF (ltQ pre s) n (fun x => (swpL l' k c).getD x 0) c ∧ ltQ pre s ((swpL l' k c).getD c 0) ((swpL l' k c).getD ((c - 1) / 2) 0) = false) := by
              have h := down_step (ltQ_ord pre s) HO.out HCC.out hcn HCD.out hq
              refine ⟨holeF_congr (by omega) h.1 fun x _ => (swpL_get (by omega) hcl x).symm, ?_⟩
              rw [swpL_get (by omega) hcl, swpL_get (by omega) hcl]
              exact h.2
            have HMS := Lib.hid (fun w3 q3 o3 => HM4.out.swap (w'' := w3) hs HD.out (i := k) (k := c) (by rw [HM4.out.len]; omega) hcl (by omega) hcn q3 o3)
            clear hq
            go_wp2_with fail
            refine HS.out.mono ?_
            rintro r w5 ⟨rfl, q5, o5⟩
            have HM5 := Lib.hid (HMS.out w5 q5 o5)
            have HK5 : Hid (i0 < c → 1 ≤ c → ltQ pre s ((swpL l' k c).getD c 0) ((swpL l' k c).getD ((c - 1) / 2) 0) = false) := fun _ _ => HU2.out.2
            have HO5 := Lib.hid HU2.out.1
            clear q5 o5
            go_wp2_with fail
            go_roundw
            case rel => exact ⟨c, _, _, by omega, by omega, rfl, HM5, HO5, HK5⟩
            case measure => simp [intOf]; omega
        · go_wp2_with fail
          obtain ⟨c, hc⟩ : ∃ c, c = 2 * k + 2 := ⟨_, rfl⟩
          have hci : (c : Int) = 2 * (k : Int) + 1 + 1 := by omega
          have hcn : c < n := by omega
          have hcl : c < l'.length := by rw [HM.out.len]; omega
          have HCD : Hid (∀ d, 1 ≤ d → d < n → (d - 1) / 2 = k → ltQ pre s (l'.getD d 0) (l'.getD c 0) = false) := by rw [hc]; exact child_right (ltQ_ord pre s) (f := fun x => l'.getD x 0) hq2
          have HCC : Hid (c = 2 * k + 1 ∨ c = 2 * k + 2) := by show _ ∨ _; omega
          have hkc : k < c := by omega
          rw [← hci]
          clear hc hci
          have HL := Lib.hid (endLess_any HM2.out.qr hs (i := c) (k := k) (by rw [updF_same]; exact hcl) (by rw [updF_same]; omega))
          rw [updF_same] at HL
          refine HL.out.mono ?_
          rintro r w4 ⟨rfl, hb4⟩
          have HM4 := Lib.hid (HM2.out.later hb4)
          cases hq : ltQ pre s (l'.getD c 0) (l'.getD k 0)
          · have HX : Hid (UpF (ltQ pre s) n (fun x => l'.getD x 0) k) := down_exit HO.out fun d d1 d2 d3 => (ltQ_ord pre s).trans _ _ _ hq (HCD.out d d1 d2 d3)
            clear hq
            go_wp2
            go_ret
            exact downR_mk hik HM4.out HX.out HK.out
          · have HS := Lib.hid (endSwap_any HM4.out.qr hs (i := k) (k := c) (by rw [updF_same]; omega) (by rw [updF_same]; exact hcl))
            rw [updF_same] at HS
            have HU2 : Hid (HoleF (ltQ pre s) n (fun x => (swpL l' k c).getD x 0) c ∧ ltQ pre s ((swpL l' k c).getD c 0) ((swpL l' k c).getD ((c - 1) / 2) 0) = false) := by
              have h := down_step (ltQ_ord pre s) HO.out HCC.out hcn HCD.out hq
              refine ⟨holeF_congr (by omega) h.1 fun x _ => (swpL_get (by omega) hcl x).symm, ?_⟩
              rw [swpL_get (by omega) hcl, swpL_get (by omega) hcl]
              exact h.2
            have HMS := Lib.hid (fun w3 q3 o3 => HM4.out.swap (w'' := w3) hs HD.out (i := k) (k := c) (by rw [HM4.out.len]; omega) hcl (by omega) hcn q3 o3)
            clear hq
            go_wp2_with fail
            refine HS.out.mono ?_
            rintro r w5 ⟨rfl, q5, o5⟩
            have HM5 := Lib.hid (HMS.out w5 q5 o5)
            have HK5 : Hid (i0 < c → 1 ≤ c → ltQ pre s ((swpL l' k c).getD c 0) ((swpL l' k c).getD ((c - 1) / 2) 0) = false) := fun _ _ => HU2.out.2
            have HO5 := Lib.hid HU2.out.1
            clear q5 o5
            go_wp2_with fail
            go_roundw
            case rel => exact ⟨c, _, _, by omega, by omega, rfl, HM5, HO5, HK5⟩
            case measure => simp [intOf]; omega
      · go_wp2_with fail
        obtain ⟨c, hc⟩ : ∃ c, c = 2 * k + 1 := ⟨_, rfl⟩
        have hci : (c : Int) = 2 * (k : Int) + 1 := by omega
        have hcn : c < n := by omega
        have hcl : c < l'.length := by rw [HM.out.len]; omega
        have HCD : Hid (∀ d, 1 ≤ d → d < n → (d - 1) / 2 = k → ltQ pre s (l'.getD d 0) (l'.getD c 0) = false) := by rw [hc]; exact child_left (ltQ_ord pre s) (f := fun x => l'.getD x 0) (.inl h2)
        have HCC : Hid (c = 2 * k + 1 ∨ c = 2 * k + 2) := by show _ ∨ _; omega
        have hkc : k < c := by omega
        rw [← hci]
        clear hc hci
        have HL := Lib.hid (endLess_any HM.out.qr hs (i := c) (k := k) (by rw [updF_same]; exact hcl) (by rw [updF_same]; omega))
        rw [updF_same] at HL
        refine HL.out.mono ?_
        rintro r w4 ⟨rfl, hb4⟩
        have HM4 := Lib.hid (HM.out.later hb4)
        cases hq : ltQ pre s (l'.getD c 0) (l'.getD k 0)
        · have HX : Hid (UpF (ltQ pre s) n (fun x => l'.getD x 0) k) := down_exit HO.out fun d d1 d2 d3 => (ltQ_ord pre s).trans _ _ _ hq (HCD.out d d1 d2 d3)
          clear hq
          go_wp2
          go_ret
          exact downR_mk hik HM4.out HX.out HK.out
        · have HS := Lib.hid (endSwap_any HM4.out.qr hs (i := k) (k := c) (by rw [updF_same]; omega) (by rw [updF_same]; exact hcl))
          rw [updF_same] at HS
          have HU2 : Hid (HoleF (ltQ pre s) n (fun x => (swpL l' k c).getD x 0) c ∧ ltQ pre s ((swpL l' k c).getD c 0) ((swpL l' k c).getD ((c - 1) / 2) 0) = false) := by
            have h := down_step (ltQ_ord pre s) HO.out HCC.out hcn HCD.out hq
            refine ⟨holeF_congr (by omega) h.1 fun x _ => (swpL_get (by omega) hcl x).symm, ?_⟩
            rw [swpL_get (by omega) hcl, swpL_get (by omega) hcl]
            exact h.2
          have HMS := Lib.hid (fun w3 q3 o3 => HM4.out.swap (w'' := w3) hs HD.out (i := k) (k := c) (by rw [HM4.out.len]; omega) hcl (by omega) hcn q3 o3)
          clear hq
          go_wp2_with fail
          refine HS.out.mono ?_
          rintro r w5 ⟨rfl, q5, o5⟩
          have HM5 := Lib.hid (HMS.out w5 q5 o5)
          have HK5 : Hid (i0 < c → 1 ≤ c → ltQ pre s ((swpL l' k c).getD c 0) ((swpL l' k c).getD ((c - 1) / 2) 0) = false) := fun _ _ => HU2.out.2
          have HO5 := Lib.hid HU2.out.1
          clear q5 o5
          go_wp2_with fail
          go_roundw
          case rel => exact ⟨c, _, _, by omega, by omega, rfl, HM5, HO5, HK5⟩
          case measure => simp [intOf]; omega
    · have HX : Hid (UpF (ltQ pre s) n (fun x => l'.getD x 0) k) := down_exit HO.out fun d d1 d2 d3 => by omega
      go_wp2
      go_ret
      exact downR_mk hik HM.out HX.out HK.out
end

end Go.Proofs.Ytoaejkfejdaiaaa
