/- The contract of Same. -/
import Derived.Test.YtjkfocmfgcmegaaEqual
namespace Go.Proofs.Ytjkfocmfgcmegaa
open Go.RowKit

theorem decPg_false {p q : Pg} (h : p ≠ q) : decide (p = q) = false := by simp [h]

set_option maxRecDepth 100000 in
set_option maxHeartbeats 1000000 in
theorem same_any (p q : Pg) (a a' : Option Addr) (cap cap' : Nat) (w : World) (hp : ThreadsAt w a p.threads) (hq : ThreadsAt w a' q.threads) :
    Calls Try.prog 15 #[pgV p a cap, pgV q a' cap'] w fun r w' => r = .returned (.bool (decide (p = q))) ∧ Below w.heap.size w w' := by
  obtain ⟨V, M, ts⟩ := p
  obtain ⟨V', M', ts'⟩ := q
  unfold pgV
  dsimp only at *
  have hm := hp.1
  have hm' := hq.1
  unfold maxLen at hm hm'
  have HL := Lib.hid hp
  have HL' := Lib.hid hq
  clear hp hq
  by_cases hV : V = V'
  case neg =>
    have H : Hid (decide ((⟨V, M, ts⟩ : Pg) = ⟨V', M', ts'⟩) = false) := decPg_false (by intro e; injection e with e1; exact hV e1)
    have d : (V != V') = true := by simp [hV]
    clear hV
    go_enter Try.func15, Try.ntmps15
    go_wp2
    go_ret
    exact ⟨ret_bool H.out.symm, below_alloc2 _ _ _⟩
  subst hV
  have dV : (V != V) = false := by simp
  by_cases hM : M = M'
  case neg =>
    have H : Hid (decide ((⟨V, M, ts⟩ : Pg) = ⟨V, M', ts'⟩) = false) := decPg_false (by intro e; injection e with _ e1; exact hM e1)
    have d : (M != M') = true := by simp [hM]
    clear hM
    go_enter Try.func15, Try.ntmps15
    go_wp2
    go_ret
    exact ⟨ret_bool H.out.symm, below_alloc2 _ _ _⟩
  subst hM
  have dM : (M != M) = false := by simp
  by_cases hT : ts.length = ts'.length
  case neg =>
    have H : Hid (decide ((⟨V, M, ts⟩ : Pg) = ⟨V, M, ts'⟩) = false) := decPg_false (by intro e; injection e with _ _ e1; exact hT (by rw [e1]))
    have d : ((ts.length : Int) != ts'.length) = true := by simp; omega
    clear hT
    go_enter Try.func15, Try.ntmps15
    go_wp2
    go_ret
    exact ⟨ret_bool H.out.symm, below_alloc2 _ _ _⟩
  have d : ((ts.length : Int) != ts'.length) = false := by simp [hT]
  have hT1 : ts.length ≤ ts'.length := by omega
  have hT2 : ts'.length ≤ ts.length := by omega
  have HT := Lib.hid hT
  clear hT
  go_enter Try.func15, Try.ntmps15
  go_wp2
  go_loopw [31] (fun i wr => ∃ k : Nat, k ≤ ts.length ∧ i = .int .i64 k ∧ Hid (ts.take k = ts'.take k) ∧ Below (w.heap.size + 1 + 1) ((w.alloc (.cells #[.int .i64 V, .int .i64 M, .slice a ts.length cap] 24)).alloc (.cells #[.int .i64 V, .int .i64 M, .slice a' ts'.length cap'] 24)) wr) (fun i _ => ts.length - (intOf i).toNat)
  case atStart => exact ⟨0, Nat.zero_le _, rfl, rfl, Below.refl _ _⟩
  case round =>
    obtain ⟨k, hk, rfl, hall, hb⟩ := hrel
    have hbw : Below w.heap.size w wr := (below_alloc2 w _ _).trans (hb.mono (by omega))
    by_cases hlt : k < ts.length
    · have hlt' : k < ts'.length := by omega
      obtain ⟨b, o, rfl, hc⟩ := HL.out.2 (by intro e; simp [e] at hlt)
      obtain ⟨b', o', rfl, hc'⟩ := HL'.out.2 (by intro e; simp [e] at hlt')
      obtain ⟨c, ccap, c0, c1, _⟩ := hc k hlt
      obtain ⟨c', ccap', c0', c1', _⟩ := hc' k hlt'
      have d0 := cell_later hbw c0
      have d0' := cell_later hbw c0'
      have D1 := Lib.hid (c1.later hbw)
      have D1' := Lib.hid (c1'.later hbw)
      have q2 : wr.cell? ⟨w.heap.size + 1, 2, none⟩ = some (.slice (some ⟨b', o', none⟩) ts'.length cap') := by rw [hb.cell (p := ⟨w.heap.size + 1, 2, none⟩) (by simp)]; simp
      clear c0 c1 hc c0' c1' hc'
      have ht : ts.take (k + 1) = ts.take k ++ [ts[k]] := List.take_succ_eq_append_getElem hlt
      have ht' : ts'.take (k + 1) = ts'.take k ++ [ts'[k]] := List.take_succ_eq_append_getElem hlt'
      have HK := Lib.hid ht
      have HK' := Lib.hid ht'
      clear ht ht'
      go_wp2_with fail
      refine (equal_any c c' ccap ccap' ts[k] ts'[k] _ D1.out D1'.out).mono ?_
      rintro r w1 ⟨rfl, hb1⟩
      have hb2 : Below (w.heap.size + 1 + 1) ((w.alloc (.cells #[.int .i64 V, .int .i64 M, .slice (some ⟨b, o, none⟩) ts.length cap] 24)).alloc (.cells #[.int .i64 V, .int .i64 M, .slice (some ⟨b', o', none⟩) ts'.length cap'] 24)) w1 := hb.trans (hb1.mono (by have := hb.size; simp at this; omega))
      have hb3 : Below w.heap.size w w1 := hbw.trans (hb1.mono hbw.size)
      by_cases hr : ts[k] = ts'[k]
      · have HR : Hid (ts.take (k + 1) = ts'.take (k + 1)) := by
          show _ = _
          rw [HK.out, HK'.out, hall.out, hr]
        have hd : decide (ts[k] = ts'[k]) = true := by simp [hr]
        rw [hd]
        clear hr hd
        go_wp2
        go_roundw
        case rel => exact ⟨k + 1, by omega, by go_num, HR, hb2⟩
        case measure => simp [intOf]; omega
      · have HR : Hid (decide ((⟨V, M, ts⟩ : Pg) = ⟨V, M, ts'⟩) = false) := decPg_false (by intro e; injection e with _ _ e1; subst e1; exact hr rfl)
        have hd : decide (ts[k] = ts'[k]) = false := by simp [hr]
        rw [hd]
        clear hr hd
        go_wp2
        go_ret
        exact ⟨ret_bool HR.out.symm, hb3⟩
    · obtain rfl : k = ts.length := by omega
      have HR : Hid (decide ((⟨V, M, ts⟩ : Pg) = ⟨V, M, ts'⟩) = true) := by
        show _ = _
        have h := hall.out
        rw [List.take_length, HT.out, List.take_length] at h
        simp [h]
      go_wp2
      go_ret
      exact ⟨ret_bool HR.out.symm, hbw⟩
end Go.Proofs.Ytjkfocmfgcmegaa
