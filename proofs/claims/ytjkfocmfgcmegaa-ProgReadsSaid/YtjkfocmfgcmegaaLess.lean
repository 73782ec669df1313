/- ProgLess: without its last thread a program of two or more may be, as it was. -/
import Derived.Test.YtjkfocmfgcmegaaAwake
import Derived.Test.YtjkfocmfgcmegaaFew
import Derived.Test.YtjkfocmfgcmegaaRefRight
import Derived.Test.YtjkfocmfgcmegaaOpen
namespace Go.Proofs.Ytjkfocmfgcmegaa
open Go.RowKit

theorem right_of (p : Pg) (V M : Int) (m : Nat) (hV : V = p.vars) (hM : M = p.mutexes) (hm : m = p.threads.length) (a : Option Addr) (cap : Nat) (w : World) (b : Bool) (hb : rightPg p = b) (hp : ThreadsAt w a p.threads) :
    Calls Try.prog 13 #[.agg #[.int .i64 V, .int .i64 M, .slice a m cap]] w fun r w' => r = .returned (.bool b) ∧ Below w.heap.size w w' := by
  subst hV hM hm hb
  exact right_any p a cap w hp

theorem same_of (p q : Pg) (V M V' M' : Int) (m m' : Nat) (hV : V = p.vars) (hM : M = p.mutexes) (hm : m = p.threads.length) (hV' : V' = q.vars) (hM' : M' = q.mutexes) (hm' : m' = q.threads.length)
    (a a' : Option Addr) (cap cap' : Nat) (w : World) (b : Bool) (hb : decide (p = q) = b) (hp : ThreadsAt w a p.threads) (hq : ThreadsAt w a' q.threads) :
    Calls Try.prog 15 #[.agg #[.int .i64 V, .int .i64 M, .slice a m cap], .agg #[.int .i64 V', .int .i64 M', .slice a' m' cap']] w fun r w' => r = .returned (.bool b) ∧ Below w.heap.size w w' := by
  subst hV hM hm hV' hM' hm' hb
  exact same_any p q a a' cap cap' w hp hq

theorem few_small {p : Pg} (h : fewPg p = true) : p.threads.length ≤ 20 ∧ ∀ l ∈ p.threads, l.length ≤ 50 := by
  unfold fewPg at h
  rw [Bool.and_eq_true, List.all_eq_true] at h
  exact ⟨by simpa using h.2, fun l hl => by simpa using h.1 l hl⟩

theorem rightPg_size {p : Pg} (h : rightPg p = true) : 0 ≤ p.vars ∧ p.vars ≤ 4 ∧ 0 ≤ p.mutexes ∧ p.mutexes ≤ 2 ∧ 1 ≤ p.threads.length ∧ p.threads.length ≤ 4 := by
  unfold rightPg at h
  rw [Bool.and_eq_true] at h
  simpa using h.1

theorem less_right {V M : Int} {ts : List (List Ins)} (h : rightPg ⟨V, M, ts⟩ = true) : rightPg ⟨V, M, ts.take (ts.length - 1)⟩ = decide (1 < ts.length) := by
  have hs := rightPg_size h
  dsimp only at hs
  unfold rightPg at h ⊢
  dsimp only at h ⊢
  rw [Bool.and_eq_true, List.all_eq_true] at h
  rw [Bool.eq_iff_iff, Bool.and_eq_true, List.all_eq_true]
  simp only [decide_eq_true_eq, List.length_take]
  constructor
  · intro h'; omega
  · intro h'; exact ⟨by omega, fun l hl => h.2 l (List.mem_of_mem_take hl)⟩

theorem ThreadsAt.take {w : World} {a : Option Addr} {ts : List (List Ins)} (h : ThreadsAt w a ts) (k : Nat) : ThreadsAt w a (ts.take k) := by
  refine ⟨by have := h.1; simp; omega, fun hn => ?_⟩
  obtain ⟨b, o, e, hc⟩ := h.2 (by intro e; simp [e] at hn)
  refine ⟨b, o, e, fun i hi => ?_⟩
  have hi' : i < ts.length := by simp at hi; omega
  have e1 : (ts.take k)[i]'hi = ts[i] := by simp
  rw [e1]
  exact hc i hi'

set_option maxRecDepth 100000 in
set_option maxHeartbeats 2000000 in
theorem less_any (p : Pg) (a : Option Addr) (cap : Nat) (w : World) (hp : ThreadsAt w a p.threads) (ha : a = none → cap = 0) :
    Calls Try.prog 7 #[pgV p a cap] w fun r w' => r = .returned (.bool true) ∧ Below w.heap.size w w' := by
  obtain ⟨V, M, ts⟩ := p
  unfold pgV
  dsimp only at *
  have hm := hp.1
  unfold maxLen at hm
  have HP := Lib.hid hp
  have HA := Lib.hid ha
  clear hp ha
  go_enter Try.func7, Try.ntmps7
  go_wp2_with fail
  refine (awake_any _).mono ?_
  rintro r w1 ⟨rfl, hb1⟩
  have hb1' : Below (w.heap.size + 1) (w.alloc (.cells #[.int .i64 V, .int .i64 M, .slice a ts.length cap] 24)) w1 := hb1.mono (by simp)
  have p0 : w1.cell? ⟨w.heap.size, 0, none⟩ = some (.int .i64 V) := by rw [hb1'.cell (p := ⟨w.heap.size, 0, none⟩) (by simp)]; simp
  have p1 : w1.cell? ⟨w.heap.size, 1, none⟩ = some (.int .i64 M) := by rw [hb1'.cell (p := ⟨w.heap.size, 1, none⟩) (by simp)]; simp
  have p2 : w1.cell? ⟨w.heap.size, 2, none⟩ = some (.slice a ts.length cap) := by rw [hb1'.cell (p := ⟨w.heap.size, 2, none⟩) (by simp)]; simp
  have hw1 : Below w.heap.size w w1 := (below_alloc1 w _).trans (hb1.mono (by simp))
  go_wp2_with fail
  refine (few_any ⟨V, M, ts⟩ a cap _ (HP.out.later hw1)).mono ?_
  rintro r w2 ⟨rfl, hb2⟩
  have hw2 : Below w.heap.size w w2 := hw1.trans (hb2.mono hw1.size)
  have q0 := cell_later hb2 p0
  have q1 := cell_later hb2 p1
  have q2 := cell_later hb2 p2
  clear p0 p1 p2 hb1 hb1'
  cases hf : fewPg ⟨V, M, ts⟩
  · clear hf
    go_wp2_with fail
    refine (awake_any _).mono ?_
    rintro r w3 ⟨rfl, hb3⟩
    have hw3 : Below w.heap.size w w3 := hw2.trans (hb3.mono hw2.size)
    go_wp2
    go_ret
    exact ⟨rfl, hw3⟩
  · have hfs := few_small hf
    have HFS := Lib.hid hfs
    clear hf hfs
    go_wp2_with fail
    refine (refRight_any ⟨V, M, ts⟩ a cap _ (HP.out.later hw2)).mono ?_
    rintro r w3 ⟨rfl, hb3⟩
    have hw3 : Below w.heap.size w w3 := hw2.trans (hb3.mono hw2.size)
    have r0 := cell_later hb3 q0
    have r1 := cell_later hb3 q1
    have r2 := cell_later hb3 q2
    clear q0 q1 q2 hb2 hb3
    cases hr : rightPg ⟨V, M, ts⟩
    · clear hr
      go_wp2_with fail
      refine (awake_any _).mono ?_
      rintro r w4 ⟨rfl, hb4⟩
      have hw4 : Below w.heap.size w w4 := hw3.trans (hb4.mono hw3.size)
      go_wp2
      go_ret
      exact ⟨rfl, hw4⟩
    · have hsz := rightPg_size hr
      obtain ⟨_, _, _, _, hn1, hn4⟩ := hsz
      dsimp only at hn1 hn4
      have HR := Lib.hid hr
      clear hr
      go_wp2_with fail
      refine (copy_any ⟨V, M, ts⟩ a cap _ (HP.out.later hw3) HA.out (by dsimp only; omega) (fun l hl => by have := HFS.out.2 l hl; omega)).mono ?_
      rintro r w4 ⟨a', cap', rfl, ha', hb4, ho, hcap⟩
      have hcap' : ts.length ≤ cap' := by rw [hcap]; exact Nat.le_refl _
      clear hcap
      have hw4 : Below w.heap.size w w4 := hw3.trans (hb4.mono hw3.size)
      have s0 := cell_later hb4 r0
      have s1 := cell_later hb4 r1
      have s2 := cell_later hb4 r2
      have hz4 := cell_block s0
      have hth := ho.at (by dsimp only; unfold maxLen; omega) (fun l hl => by have := HFS.out.2 l hl; unfold maxLen; omega)
      have hpv : pgV ⟨V, M, ts⟩ a' cap' = .agg #[.int .i64 V, .int .i64 M, .slice a' ts.length cap'] := rfl
      rw [hpv]
      have HTH := Lib.hid hth
      clear hpv ho hth r0 r1 r2 hb4 ha'
      dsimp only at hz4
      have hB5 : Below w4.heap.size w4 (w4.alloc (.cells #[.int .i64 V, .int .i64 M, .slice a' (ts.length - 1) cap'] 24)) := below_alloc1 _ _
      have t0 := cell_later hB5 s0
      have t1 := cell_later hB5 s1
      have t2 := cell_later hB5 s2
      have u0 : (w4.alloc (.cells #[.int .i64 V, .int .i64 M, .slice a' (ts.length - 1) cap'] 24)).cell? ⟨w4.heap.size, 0, none⟩ = some (.int .i64 V) := by simp
      have u1 : (w4.alloc (.cells #[.int .i64 V, .int .i64 M, .slice a' (ts.length - 1) cap'] 24)).cell? ⟨w4.heap.size, 1, none⟩ = some (.int .i64 M) := by simp
      have u2 : (w4.alloc (.cells #[.int .i64 V, .int .i64 M, .slice a' (ts.length - 1) cap'] 24)).cell? ⟨w4.heap.size, 2, none⟩ = some (.slice a' (ts.length - 1) cap') := by simp
      have HT5 := Lib.hid (HTH.out.later hB5)
      have HP5 := Lib.hid ((HP.out.later hw4).later hB5)
      have hw5 : Below w.heap.size w (w4.alloc (.cells #[.int .i64 V, .int .i64 M, .slice a' (ts.length - 1) cap'] 24)) := hw4.alloc (by omega) _
      have HU := Lib.hid (And.intro t0 (And.intro t1 (And.intro t2 (And.intro u0 (And.intro u1 u2)))))
      clear t0 t1 t2 u0 u1 u2
      go_wp2
      generalize w4.alloc (.cells #[.int .i64 V, .int .i64 M, .slice a' (ts.length - 1) cap'] 24) = W at *
      generalize w4.heap.size = gq at *
      have hkeep : ∀ w', Below W.heap.size W w' → w'.cell? ⟨w.heap.size, 0, none⟩ = some (.int .i64 V) ∧ w'.cell? ⟨w.heap.size, 1, none⟩ = some (.int .i64 M) ∧ w'.cell? ⟨w.heap.size, 2, none⟩ = some (.slice a ts.length cap) ∧
          w'.cell? ⟨gq, 0, none⟩ = some (.int .i64 V) ∧ w'.cell? ⟨gq, 1, none⟩ = some (.int .i64 M) ∧ w'.cell? ⟨gq, 2, none⟩ = some (.slice a' (ts.length - 1) cap') ∧ Below W.heap.size W w' := by
        intro w' h
        obtain ⟨t0, t1, t2, u0, u1, u2⟩ := HU.out
        exact ⟨cell_later h t0, cell_later h t1, cell_later h t2, cell_later h u0, cell_later h u1, cell_later h u2, h⟩
      have HK := Lib.hid hkeep
      clear hkeep
      have hB9 : Below W.heap.size W W.drew := (Below.refl _ _).drew
      have hRQ : Hid (rightPg ⟨V, M, ts.take (ts.length - 1)⟩ = decide (1 < ts.length)) := less_right HR.out
      have hSQ : Hid (decide ((⟨V, M, ts⟩ : Pg) = ⟨V, M, ts.take (ts.length - 1)⟩) = false) := decPg_false (by
        intro e
        injection e with _ _ e
        have := congrArg List.length e
        simp at this
        omega)
      have hlen : (ts.take (ts.length - 1)).length = ts.length - 1 := by simp
      have HLN := Lib.hid hlen
      clear hlen
      have hbq : (decide (1 < ts.length) == decide ((1 : Int) < ts.length)) = true := by simp; omega
      go_region_held3 (fun w' => w'.cell? ⟨w.heap.size, 0, none⟩ = some (.int .i64 V) ∧ w'.cell? ⟨w.heap.size, 1, none⟩ = some (.int .i64 M) ∧ w'.cell? ⟨w.heap.size, 2, none⟩ = some (.slice a ts.length cap) ∧
          w'.cell? ⟨gq, 0, none⟩ = some (.int .i64 V) ∧ w'.cell? ⟨gq, 1, none⟩ = some (.int .i64 M) ∧ w'.cell? ⟨gq, 2, none⟩ = some (.slice a' (ts.length - 1) cap') ∧ Below W.heap.size W w') (first | exact HK.out _ hB9 | exact HK.out _ hB10 | exact HK.out _ hB11)
        (first
          | (go_at_call 13; refine (right_of ⟨V, M, ts.take (ts.length - 1)⟩ V M (ts.length - 1) rfl rfl HLN.out.symm a' cap' _ _ hRQ.out ((HT5.out.later hB9).take _)).mono ?_; rintro r w10 ⟨rfl, hb10⟩; have hB10 := below_step hB9 hb10)
          | (go_at_call 15; refine (same_of ⟨V, M, ts⟩ ⟨V, M, ts.take (ts.length - 1)⟩ V M V M ts.length (ts.length - 1) rfl rfl rfl rfl rfl HLN.out.symm a a' cap cap' _ _ hSQ.out (HP5.out.later hB10) ((HT5.out.later hB10).take _)).mono ?_; rintro r w11 ⟨rfl, hb11⟩; have hB11 := below_step hB10 hb11))
      go_wp2
      go_ret
      exact ⟨rfl, hw5.trans (hB11.mono hw5.size)⟩
end Go.Proofs.Ytjkfocmfgcmegaa
