/- ProgOne: unlike programs have unlike bytes; bytes that are cut off are none. -/
import Derived.Test.YtjkfocmfgcmegaaRound
import Derived.Test.YtjkfocmfgcmegaaRefSame
namespace Go.Proofs.Ytjkfocmfgcmegaa
open Go.RowKit

/-- A program in a box. -/
def Box (w : World) (g : Nat) (p : Pg) (a : Option Addr) (cap : Nat) : Prop := w.heap[g]? = some (.cells #[.int .i64 p.vars, .int .i64 p.mutexes, .slice a p.threads.length cap] 24 (0, 0)) ∧ ThreadsAt w a p.threads
theorem Box.later {w w' : World} {g : Nat} {p : Pg} {a : Option Addr} {cap : Nat} (h : Box w g p a cap) (hb : Below w.heap.size w w') : Box w' g p a cap :=
  ⟨(hb.block g (Array.getElem?_eq_some_iff.1 h.1).1).trans h.1, h.2.later hb⟩
theorem Box.cells {w : World} {g : Nat} {p : Pg} {a : Option Addr} {cap : Nat} (h : Box w g p a cap) : w.cell? ⟨g, 0, none⟩ = some (.int .i64 p.vars) ∧ w.cell? ⟨g, 1, none⟩ = some (.int .i64 p.mutexes) ∧ w.cell? ⟨g, 2, none⟩ = some (.slice a p.threads.length cap) := by
  simp [World.cell?, h.1]

theorem u64_nonneg (n : Int) : 0 ≤ IntKind.u64.wrap n := by
  unfold IntKind.wrap
  simp [IntKind.signed, IntKind.bits]
  omega

theorem cut_place (n : Int) (m : Nat) (hm : 0 < m) : ∃ k : Nat, (IntKind.u64.wrap n).tmod (m : Int) = (k : Int) ∧ k < m := by
  have h0 := u64_nonneg n
  have h1 := Int.tmod_nonneg (m : Int) h0
  have h2 := Int.tmod_lt_of_pos (IntKind.u64.wrap n) (by omega : (0 : Int) < m)
  exact ⟨((IntKind.u64.wrap n).tmod (m : Int)).toNat, by omega, by omega⟩

theorem cut_front (l : List UInt8) (k : Nat) : (⟨l.toArray⟩ : ByteArray).extract 0 k = ⟨(l.take k).toArray⟩ := by
  apply ByteArray.ext
  rw [ByteArray.data_extract]
  simp

set_option maxRecDepth 100000 in
set_option maxHeartbeats 1500000 in
theorem one_any (p q : Pg) (a b : Option Addr) (cap cap' : Nat) (cut : Int) (w : World) (hp : ThreadsAt w a p.threads) (hq : ThreadsAt w b q.threads) :
    Calls Try.prog 5 #[pgV p a cap, pgV q b cap', .int .i64 cut] w fun r w' => r = .returned (.bool true) ∧ Below w.heap.size w w' := by
  have hA0 : Box ((w.alloc (.cells #[.int .i64 p.vars, .int .i64 p.mutexes, .slice a p.threads.length cap] 24)).alloc (.cells #[.int .i64 q.vars, .int .i64 q.mutexes, .slice b q.threads.length cap'] 24)) w.heap.size p a cap :=
    ⟨by rw [Below.heap_alloc _ _ _ (by simp)]; exact (MapKept.heap_alloc w _).1, hp.later (below_alloc2 _ _ _)⟩
  have hB0 : Box ((w.alloc (.cells #[.int .i64 p.vars, .int .i64 p.mutexes, .slice a p.threads.length cap] 24)).alloc (.cells #[.int .i64 q.vars, .int .i64 q.mutexes, .slice b q.threads.length cap'] 24)) (w.heap.size + 1) q b cap' :=
    ⟨by have := (MapKept.heap_alloc (w.alloc (.cells #[.int .i64 p.vars, .int .i64 p.mutexes, .slice a p.threads.length cap] 24)) (.cells #[.int .i64 q.vars, .int .i64 q.mutexes, .slice b q.threads.length cap'] 24)).1
        simpa using this, hq.later (below_alloc2 _ _ _)⟩
  have HA0 := Lib.hid hA0
  have HB0 := Lib.hid hB0
  clear hA0 hB0 hp hq
  unfold pgV
  go_enter Try.func5, Try.ntmps5
  go_wp2_with fail
  refine (awake_any _).mono ?_
  rintro r w1 ⟨rfl, hb1⟩
  have hw1 : Below w.heap.size w w1 := (below_alloc2 w _ _).trans (hb1.mono (by simp; omega))
  have HA1 := Lib.hid (HA0.out.later hb1)
  have HB1 := Lib.hid (HB0.out.later hb1)
  clear HA0 HB0 hb1
  obtain ⟨a10, a11, a12⟩ := HA1.out.cells
  obtain ⟨b10, b11, b12⟩ := HB1.out.cells
  go_wp2_with fail
  refine (few_any p a cap _ HA1.out.2).mono ?_
  rintro r w2 ⟨rfl, hb2⟩
  have hw2 : Below w.heap.size w w2 := hw1.trans (hb2.mono hw1.size)
  have HA2 := Lib.hid (HA1.out.later hb2)
  have HB2 := Lib.hid (HB1.out.later hb2)
  clear HA1 HB1 hb2 a10 a11 a12 b10 b11 b12
  obtain ⟨a20, a21, a22⟩ := HA2.out.cells
  obtain ⟨b20, b21, b22⟩ := HB2.out.cells
  cases hc2 : fewPg p
  case false =>
    clear hc2
    go_wp2_with fail
    refine (awake_any _).mono ?_
    rintro r wz ⟨rfl, hbz⟩
    have hwz : Below w.heap.size w wz := hw2.trans (hbz.mono hw2.size)
    go_wp2
    go_ret
    exact ⟨rfl, hwz⟩
  have HC2 := Lib.hid hc2
  clear hc2
  go_wp2_with fail
  refine (few_any q b cap' _ HB2.out.2).mono ?_
  rintro r w3 ⟨rfl, hb3⟩
  have hw3 : Below w.heap.size w w3 := hw2.trans (hb3.mono hw2.size)
  have HA3 := Lib.hid (HA2.out.later hb3)
  have HB3 := Lib.hid (HB2.out.later hb3)
  clear HA2 HB2 hb3 a20 a21 a22 b20 b21 b22
  obtain ⟨a30, a31, a32⟩ := HA3.out.cells
  obtain ⟨b30, b31, b32⟩ := HB3.out.cells
  cases hc3 : fewPg q
  case false =>
    clear hc3
    go_wp2_with fail
    refine (awake_any _).mono ?_
    rintro r wz ⟨rfl, hbz⟩
    have hwz : Below w.heap.size w wz := hw3.trans (hbz.mono hw3.size)
    go_wp2
    go_ret
    exact ⟨rfl, hwz⟩
  have HC3 := Lib.hid hc3
  clear hc3
  go_wp2_with fail
  refine (refRight_any p a cap _ HA3.out.2).mono ?_
  rintro r w4 ⟨rfl, hb4⟩
  have hw4 : Below w.heap.size w w4 := hw3.trans (hb4.mono hw3.size)
  have HA4 := Lib.hid (HA3.out.later hb4)
  have HB4 := Lib.hid (HB3.out.later hb4)
  clear HA3 HB3 hb4 a30 a31 a32 b30 b31 b32
  obtain ⟨a40, a41, a42⟩ := HA4.out.cells
  obtain ⟨b40, b41, b42⟩ := HB4.out.cells
  cases hc4 : rightPg p
  case false =>
    clear hc4
    go_wp2_with fail
    refine (awake_any _).mono ?_
    rintro r wz ⟨rfl, hbz⟩
    have hwz : Below w.heap.size w wz := hw4.trans (hbz.mono hw4.size)
    go_wp2
    go_ret
    exact ⟨rfl, hwz⟩
  have HC4 := Lib.hid hc4
  clear hc4
  go_wp2_with fail
  refine (refRight_any q b cap' _ HB4.out.2).mono ?_
  rintro r w5 ⟨rfl, hb5⟩
  have hw5 : Below w.heap.size w w5 := hw4.trans (hb5.mono hw4.size)
  have HA5 := Lib.hid (HA4.out.later hb5)
  have HB5 := Lib.hid (HB4.out.later hb5)
  clear HA4 HB4 hb5 a40 a41 a42 b40 b41 b42
  obtain ⟨a50, a51, a52⟩ := HA5.out.cells
  obtain ⟨b50, b51, b52⟩ := HB5.out.cells
  cases hc5 : rightPg q
  case false =>
    clear hc5
    go_wp2_with fail
    refine (awake_any _).mono ?_
    rintro r wz ⟨rfl, hbz⟩
    have hwz : Below w.heap.size w wz := hw5.trans (hbz.mono hw5.size)
    go_wp2
    go_ret
    exact ⟨rfl, hwz⟩
  have HC5 := Lib.hid hc5
  clear hc5
  go_wp2_with fail
  refine (printsYes p a cap _ HA5.out.2 HC4.out).mono ?_
  rintro r w6 ⟨rfl, hb6⟩
  have hw6 : Below w.heap.size w w6 := hw5.trans (hb6.mono hw5.size)
  have HA6 := Lib.hid (HA5.out.later hb6)
  have HB6 := Lib.hid (HB5.out.later hb6)
  clear HA5 HB5 hb6 a50 a51 a52 b50 b51 b52
  obtain ⟨a60, a61, a62⟩ := HA6.out.cells
  obtain ⟨b60, b61, b62⟩ := HB6.out.cells
  obtain ⟨S, hS⟩ : ∃ S, S = bytesOf (pgB p) := ⟨_, rfl⟩
  rw [bstr_eq, ← hS]
  have HS := Lib.hid hS
  have hsn : 3 ≤ S.length := by rw [hS]; simp only [bytesOf, List.length_map, pgB_length]; omega
  have hsm : S.length ≤ 1000000 := by
    rw [hS]
    have h1 := rightPg_size HC4.out
    have h2 := sumLen_le p.threads 8 (fun l hl => (right_parts HC4.out l hl).1)
    simp only [bytesOf, List.length_map, pgB_length]
    omega
  clear hS
  go_wp2_with fail
  refine (printsYes q b cap' _ HB6.out.2 HC5.out).mono ?_
  rintro r w7 ⟨rfl, hb7⟩
  have hw7 : Below w.heap.size w w7 := hw6.trans (hb7.mono hw6.size)
  have HA7 := Lib.hid (HA6.out.later hb7)
  have HB7 := Lib.hid (HB6.out.later hb7)
  clear HA6 HB6 hb7 a60 a61 a62 b60 b61 b62
  obtain ⟨a70, a71, a72⟩ := HA7.out.cells
  obtain ⟨b70, b71, b72⟩ := HB7.out.cells
  obtain ⟨T, hT⟩ : ∃ T, T = bytesOf (pgB q) := ⟨_, rfl⟩
  rw [bstr_eq, ← hT]
  have HTq := Lib.hid hT
  clear hT
  obtain ⟨k, hmod, hkl⟩ := cut_place cut S.length (by omega)
  go_wp2_with fail
  rw [cut_front]
  have hrd : rdPg (S.take k) = (4, zeroPg) := by
    rw [HS.out] at hkl ⊢
    exact read_cut HC4.out k hkl
  refine (read_any (S.take k) _ (by simp; omega)).mono ?_
  rw [hrd]
  rintro r w8 ⟨a1, cap1, rfl, _, _, hb8⟩
  have hpv : pgV zeroPg a1 cap1 = .agg #[.int .i64 0, .int .i64 0, .slice a1 0 cap1] := rfl
  dsimp only
  rw [hpv]
  have hw8 : Below w.heap.size w w8 := hw7.trans (hb8.mono hw7.size)
  have hz8 := hw8.size
  have HA9 := Lib.hid ((HA7.out.later hb8).later (below_alloc1 w8 (.cells #[.int .i64 0, .int .i64 0, .slice a1 0 cap1] 24)))
  have HB9 := Lib.hid ((HB7.out.later hb8).later (below_alloc1 w8 (.cells #[.int .i64 0, .int .i64 0, .slice a1 0 cap1] 24)))
  have hw9 : Below w.heap.size w (w8.alloc (.cells #[.int .i64 0, .int .i64 0, .slice a1 0 cap1] 24)) := hw8.alloc (by omega) _
  clear hpv HA7 HB7 hb8 a70 a71 a72 b70 b71 b72 hrd hmod hkl
  obtain ⟨D, hD⟩ : ∃ D, decide (p = q) = D := ⟨_, rfl⟩
  have HD := Lib.hid hD
  have hst : (S == T) = D := by
    have e2 : (S = T) ↔ p = q := by rw [HS.out, HTq.out]; exact print_inj HC4.out HC5.out
    rw [← hD, Bool.eq_iff_iff]
    simpa using e2
  have hDD : (D == D) = true := by simp
  clear hD
  go_wp2_with fail
  generalize w8.alloc (.cells #[.int .i64 0, .int .i64 0, .slice a1 0 cap1] 24) = W at *
  have hkeep : ∀ w', Below W.heap.size W w' → w'.cell? ⟨w.heap.size, 0, none⟩ = some (.int .i64 p.vars) ∧ w'.cell? ⟨w.heap.size, 1, none⟩ = some (.int .i64 p.mutexes) ∧ w'.cell? ⟨w.heap.size, 2, none⟩ = some (.slice a p.threads.length cap) ∧
      w'.cell? ⟨w.heap.size + 1, 0, none⟩ = some (.int .i64 q.vars) ∧ w'.cell? ⟨w.heap.size + 1, 1, none⟩ = some (.int .i64 q.mutexes) ∧ w'.cell? ⟨w.heap.size + 1, 2, none⟩ = some (.slice b q.threads.length cap') ∧ Below W.heap.size W w' := by
    intro w' h
    obtain ⟨x0, x1, x2⟩ := (HA9.out.later h).cells
    obtain ⟨y0, y1, y2⟩ := (HB9.out.later h).cells
    exact ⟨x0, x1, x2, y0, y1, y2, h⟩
  have HK := Lib.hid hkeep
  clear hkeep
  have hB9 : Below W.heap.size W W.drew := (Below.refl _ _).drew
  have HRS : Hid (∀ w', Below W.heap.size W w' → Calls Try.prog 16 #[.agg #[.int .i64 p.vars, .int .i64 p.mutexes, .slice a p.threads.length cap], .agg #[.int .i64 q.vars, .int .i64 q.mutexes, .slice b q.threads.length cap']] w' fun r w'' => r = .returned (.bool D) ∧ Below w'.heap.size w' w'') := by
    intro w' h
    have := refSame_any p q a b cap cap' w' (HA9.out.later h).2 (HB9.out.later h).2
    rw [HD.out] at this
    exact this
  have HPS : Hid (∀ w', Below W.heap.size W w' → Calls Try.prog 15 #[.agg #[.int .i64 p.vars, .int .i64 p.mutexes, .slice a p.threads.length cap], .agg #[.int .i64 q.vars, .int .i64 q.mutexes, .slice b q.threads.length cap']] w' fun r w'' => r = .returned (.bool D) ∧ Below w'.heap.size w' w'') := by
    intro w' h
    have := same_any p q a b cap cap' w' (HA9.out.later h).2 (HB9.out.later h).2
    rw [HD.out] at this
    exact this
  go_region_held3 (fun w' => w'.cell? ⟨w.heap.size, 0, none⟩ = some (.int .i64 p.vars) ∧ w'.cell? ⟨w.heap.size, 1, none⟩ = some (.int .i64 p.mutexes) ∧ w'.cell? ⟨w.heap.size, 2, none⟩ = some (.slice a p.threads.length cap) ∧
      w'.cell? ⟨w.heap.size + 1, 0, none⟩ = some (.int .i64 q.vars) ∧ w'.cell? ⟨w.heap.size + 1, 1, none⟩ = some (.int .i64 q.mutexes) ∧ w'.cell? ⟨w.heap.size + 1, 2, none⟩ = some (.slice b q.threads.length cap') ∧ Below W.heap.size W w') (first | exact HK.out _ hB9 | exact HK.out _ hB10 | exact HK.out _ hB11 | exact HK.out _ hB12)
    (first
      | (go_at_call 16; refine (HRS.out _ hB9).mono ?_; rintro r w10 ⟨rfl, hb10⟩; have hB10 := below_step hB9 hb10; clear hB9)
      | (go_at_call 15; refine (HPS.out _ hB10).mono ?_; rintro r w11 ⟨rfl, hb11⟩; have hB11 := below_step hB10 hb11; clear hB10)
      | (go_at_call 16; refine (HRS.out _ hB11).mono ?_; rintro r w12 ⟨rfl, hb12⟩; have hB12 := below_step hB11 hb12; clear hB11))
  go_wp2
  go_ret
  exact ⟨rfl, hw9.trans (hB12.mono hw9.size)⟩
end Go.Proofs.Ytjkfocmfgcmegaa
