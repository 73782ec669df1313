import Derived.IntWalk
import Derived.Deep.RegionHeld3
import Derived.Lib.Hide
import Derived.Test.YtkphdmfcmfojeaaPk01
import Derived.Test.YtkphdmfcmfojeaaPk03

/- The contracts of the tree's find, left, steps and At. -/
namespace Go.Proofs.Ytkphdmfcmfojeaa
open Go.RowKit

set_option maxRecDepth 100000 in
theorem find_nil (s : ByteArray) (w : World) : Calls Try.prog 53 #[.pointer none, .string s] w fun r w' => r = .returned (.tuple #[.pointer none, .int .i64 8]) ∧ w = w' := by
  go_enter Try.func53, Try.ntmps53
  go_wp2
  go_ret2
  exact ⟨rfl, rfl⟩

set_option maxRecDepth 100000 in
theorem find_yes {h : TrH} {w : World} {gs : List Nat} {l : List TNd} {cl : Int} (t : TrAt h w gs l cl) {k : Pfx} (hk : k.length ≤ 1000) {i : Nat} (hi : idxT l k = some i) (hg : i < gs.length) :
    Calls Try.prog 53 #[.pointer (some ⟨h.b, 0, none⟩), .string ⟨k.toArray⟩] w fun r w' => r = .returned (.tuple #[.pointer (some ⟨gs[i], 0, none⟩), .int .i64 0]) ∧ w = w' := by
  have hlk := t.look hk
  rw [blkT_some hi hg] at hlk
  obtain ⟨_, _, _, _, c4, _⟩ := t.cells
  have hv : ptrV (some gs[i]) = .pointer (some ⟨gs[i], 0, none⟩) := rfl
  rw [hv] at hlk
  clear hv t hi
  generalize gs[i] = g at *
  go_enter Try.func53, Try.ntmps53
  go_wp2
  go_ret2
  exact ⟨rfl, rfl⟩

set_option maxRecDepth 100000 in
theorem find_no {h : TrH} {w : World} {gs : List Nat} {l : List TNd} {cl : Int} (t : TrAt h w gs l cl) {k : Pfx} (hk : k.length ≤ 1000) (hi : idxT l k = none) :
    Calls Try.prog 53 #[.pointer (some ⟨h.b, 0, none⟩), .string ⟨k.toArray⟩] w fun r w' => r = .returned (.tuple #[.pointer none, .int .i64 6]) ∧ w = w' := by
  have hlk := t.look hk
  rw [blkT_none hi] at hlk
  obtain ⟨_, _, _, _, c4, _⟩ := t.cells
  have hv : ptrV none = .pointer none := rfl
  rw [hv] at hlk
  clear hv t hi
  go_enter Try.func53, Try.ntmps53
  go_wp2
  go_ret2
  exact ⟨rfl, rfl⟩

set_option maxRecDepth 100000 in
theorem left_any {g : Nat} {n : TNd} (hn : n.Ok) {w : World} (c2 : w.cell? ⟨g, 2, none⟩ = some (.int .u8 (n.asl : Nat))) (c3 : w.cell? ⟨g, 3, none⟩ = some (.int .u8 (n.todo : Nat))) (c4 : w.cell? ⟨g, 4, none⟩ = some (.int .u8 (n.gone : Nat))) :
    Calls Try.prog 56 #[.pointer (some ⟨g, 0, none⟩)] w fun r w' => r = .returned (.int .u8 (n.left : Nat)) ∧ Below w.heap.size w w' := by
  have HQ1 : Hid (bits .andNot .u8 (n.todo : Int) (n.gone : Int) = ((wo n.todo n.gone : Nat) : Int)) := bits_andNot_u8 _ _ hn.todo hn.gone
  have HQ2 : Hid (bits .andNot .u8 ((wo n.todo n.gone : Nat) : Int) (n.asl : Int) = ((wo (wo n.todo n.gone) n.asl : Nat) : Int)) := bits_andNot_u8 _ _ (wo_lt _ _ hn.todo) hn.asl
  clear hn
  go_enter Try.func56, Try.ntmps56
  go_wp2
  go_quiet (fail)
  go_wp2
  go_ret
  exact ⟨by rw [HQ1.out, HQ2.out]; rfl, (Below.refl _ _).drewN⟩

theorem cut_pre (l : List UInt8) (j : Nat) : (⟨l.toArray⟩ : ByteArray).extract 0 j = ⟨(l.take j).toArray⟩ := by
  apply ByteArray.ext
  rw [ByteArray.data_extract]
  simp [List.extract_eq_take_drop]

theorem fill_here {T : Type} (f : T → Value) (z : Value) (l : List T) (j : Nat) (h : j < l.length) : (fill f z l j)[j]? = some z := by
  unfold fill
  rw [List.getElem?_append_right (by simp; omega), List.getElem?_replicate, if_pos (by simp; omega)]
def stepF (c : UInt8) : Value := .int .i64 (c.toNat : Int)
theorem stepF_all (k : Pfx) : k.map stepF = (rowK k).map (Value.int .i64) := by
  unfold rowK stepF
  rw [List.map_map]
  rfl

set_option maxRecDepth 100000 in
set_option maxHeartbeats 1000000 in
theorem steps_long (k : Pfx) (w : World) (hk : k.length ≤ 1000) (h33 : 33 < k.length) :
    Calls Try.prog 61 #[.string ⟨k.toArray⟩] w fun r w' => ∃ g n : Nat, r = .returned (.slice (some ⟨g, 0, none⟩) n n) ∧ n = ((rowK k).take 33).length ∧ w.heap.size ≤ g ∧ NumsAt w' (some ⟨g, 0, none⟩) ((rowK k).take 33) ∧ Below w.heap.size w w' := by
  obtain ⟨q, hq⟩ : ∃ q, q = k.take 33 := ⟨_, rfl⟩
  have hsz : (⟨k.toArray⟩ : ByteArray).size = k.length := by simp [ByteArray.size]
  have hql : q.length = 33 := by rw [hq, List.length_take]; omega
  have hx1 : (⟨k.toArray⟩ : ByteArray).extract 0 33 = ⟨q.toArray⟩ := by rw [cut_pre, hq]
  have HR : Hid ((rowK k).take 33 = rowK q) := by
    show _ = _
    rw [hq, ← rowK_take]
  have hqs : (⟨q.toArray⟩ : ByteArray).size = 33 := by rw [← hql]; simp [ByteArray.size]
  have hmk : ∀ W : World, (Instr.makeSlice 41 (.int .i64 33) (.int .i64 33)).run Try.prog W = .ok (.slice (some ⟨W.heap.size, 0, none⟩) 33 33) (W.alloc (.cells (madeCells (Value.int .i64 0).cells (33 * 1)) 3)) := run_make_k (P := Try.prog) 41 3 (.int .i64 0) 1 8 Try.underlying41 (by kernel_rfl) 33 (by omega) (by omega)
  have HQL := Lib.hid hql
  have HQ9 : Hid (∀ j (h : j < q.length) (h' : j < (⟨q.toArray⟩ : ByteArray).size), (⟨q.toArray⟩ : ByteArray)[j] = q[j]'h) := fun j h h' => rfl
  have h33i : (33 : Int) < k.length := by omega
  have hql33 : List.length q = 33 := hql
  clear hq
  go_enter Try.func61, Try.ntmps61
  go_wp2
  go_loopw [15] (fun i wr => ∃ j : Nat, j ≤ 33 ∧ i = .int .i64 j ∧ Hid (MidAt wr w.heap.size 3 (fill stepF (.int .i64 0) q j)) ∧ Below w.heap.size w wr) (fun i _ => 33 - (intOf i).toNat)
  case atStart =>
    refine ⟨0, Nat.zero_le _, rfl, ?_, below_alloc1 _ _⟩
    show MidAt _ _ _ _
    rw [fill_zero, HQL.out]
    have := MidAt.made w 3 (.int .i64 0) 33
    simpa using this
  case round =>
    clear hmk
    obtain ⟨j, hj, rfl, HM, hb⟩ := hrel
    by_cases hlt : j < 33
    · have hz := HM.out.lt
      have hqj : j < q.length := by rw [HQL.out]; exact hlt
      have HS := Lib.hid (fill_set stepF (.int .i64 0) q j hqj)
      have hix := HQ9.out j hqj
      have bc := UInt8.toNat_lt (q[j]'hqj)
      have hfr := HM.out.frozen j
      have vc : IntKind.i64.wrap ((q[j]'hqj).toNat : Int) = (q[j]'hqj).toNat := IntWalk.i64_in _ (by omega)
      have HSF : Hid (stepF (q[j]'hqj) = .int .i64 ((q[j]'hqj).toNat : Int)) := rfl
      have hwc : wr.cell? ⟨w.heap.size, j, none⟩ = some (.int .i64 0) := by
        rw [HM.out.cell]
        exact fill_here _ _ q j hqj
      have hji : (j : Int) < 33 := by omega
      have hji0 : (0 : Int) ≤ j := by omega
      generalize q[j]'hqj = c at *
      clear hqj
      go_wp2
      have hb2 := hb.setCell (p := ⟨w.heap.size, j, none⟩) (Nat.le_refl _) (.int .i64 (c.toNat : Int))
      have HM2 : Hid (MidAt (wr.setCell ⟨w.heap.size, j, none⟩ (.int .i64 (c.toNat : Int))) w.heap.size 3 (fill stepF (.int .i64 0) q (j + 1))) := by
        show MidAt _ _ _ _
        rw [← HS.out, HSF.out]
        exact HM.out.set j _
      go_roundw
      case rel => exact ⟨j + 1, by omega, by go_num, HM2, hb2⟩
      case measure => simp [intOf]; omega
    · have hje : j = 33 := by omega
      subst hje
      go_wp2
      go_ret
      refine ⟨w.heap.size, 33, rfl, by rw [HR.out, rowK_len, HQL.out], Nat.le_refl _, ?_, hb⟩
      rw [HR.out]
      refine MidAt.nums (t := 3) ?_ (by rw [rowK_len, HQL.out]; omega)
      rw [← stepF_all, ← fill_all stepF (.int .i64 0) q, HQL.out]
      exact HM.out

set_option maxRecDepth 100000 in
set_option maxHeartbeats 1000000 in
theorem steps_short (k : Pfx) (w : World) (hk : k.length ≤ 1000) (h33 : ¬ 33 < k.length) :
    Calls Try.prog 61 #[.string ⟨k.toArray⟩] w fun r w' => ∃ g n : Nat, r = .returned (.slice (some ⟨g, 0, none⟩) n n) ∧ n = ((rowK k).take 33).length ∧ w.heap.size ≤ g ∧ NumsAt w' (some ⟨g, 0, none⟩) ((rowK k).take 33) ∧ Below w.heap.size w w' := by
  obtain ⟨q, hq⟩ : ∃ q, q = k := ⟨_, rfl⟩
  subst hq
  obtain ⟨Q, hQ⟩ : ∃ Q : Nat, q.length = Q := ⟨_, rfl⟩
  have hx1 : (⟨q.toArray⟩ : ByteArray).extract 0 Q = ⟨q.toArray⟩ := by rw [cut_pre, ← hQ, List.take_length]
  have HR : Hid ((rowK q).take 33 = rowK q) := by
    show _ = _
    rw [List.take_of_length_le]
    rw [rowK_len]; omega
  have hqs : (⟨q.toArray⟩ : ByteArray).size = Q := by rw [← hQ]; simp [ByteArray.size]
  have hmk := run_make_k (P := Try.prog) 41 3 (.int .i64 0) 1 8 Try.underlying41 (by kernel_rfl) Q (by omega) (by omega)
  have HQL : Hid (q.length = Q) := hQ
  have HQ9 : Hid (∀ j (h : j < q.length) (h' : j < (⟨q.toArray⟩ : ByteArray).size), (⟨q.toArray⟩ : ByteArray)[j] = q[j]'h) := fun j h h' => rfl
  have h33i : ¬ (33 : Int) < Q := by omega
  go_enter Try.func61, Try.ntmps61
  go_wp2
  go_loopw [15] (fun i wr => ∃ j : Nat, j ≤ Q ∧ i = .int .i64 j ∧ Hid (MidAt wr w.heap.size 3 (fill stepF (.int .i64 0) q j)) ∧ Below w.heap.size w wr) (fun i _ => Q - (intOf i).toNat)
  case atStart =>
    refine ⟨0, Nat.zero_le _, rfl, ?_, below_alloc1 _ _⟩
    show MidAt _ _ _ _
    rw [fill_zero, HQL.out]
    have := MidAt.made w 3 (.int .i64 0) Q
    simpa using this
  case round =>
    clear hmk
    obtain ⟨j, hj, rfl, HM, hb⟩ := hrel
    by_cases hlt : j < Q
    · have hz := HM.out.lt
      have hqj : j < q.length := by rw [HQL.out]; exact hlt
      have HS := Lib.hid (fill_set stepF (.int .i64 0) q j hqj)
      have hix := HQ9.out j hqj
      have bc := UInt8.toNat_lt (q[j]'hqj)
      have hfr := HM.out.frozen j
      have vc : IntKind.i64.wrap ((q[j]'hqj).toNat : Int) = (q[j]'hqj).toNat := IntWalk.i64_in _ (by omega)
      have HSF : Hid (stepF (q[j]'hqj) = .int .i64 ((q[j]'hqj).toNat : Int)) := rfl
      have hwc : wr.cell? ⟨w.heap.size, j, none⟩ = some (.int .i64 0) := by
        rw [HM.out.cell]
        exact fill_here _ _ q j hqj
      have hji : (j : Int) < (Q : Int) := by omega
      have hji0 : (0 : Int) ≤ j := by omega
      generalize q[j]'hqj = c at *
      clear hqj
      go_wp2
      have hb2 := hb.setCell (p := ⟨w.heap.size, j, none⟩) (Nat.le_refl _) (.int .i64 (c.toNat : Int))
      have HM2 : Hid (MidAt (wr.setCell ⟨w.heap.size, j, none⟩ (.int .i64 (c.toNat : Int))) w.heap.size 3 (fill stepF (.int .i64 0) q (j + 1))) := by
        show MidAt _ _ _ _
        rw [← HS.out, HSF.out]
        exact HM.out.set j _
      go_roundw
      case rel => exact ⟨j + 1, by omega, by go_num, HM2, hb2⟩
      case measure => simp [intOf]; omega
    · have hje : j = Q := by omega
      subst hje
      go_wp2
      go_ret
      refine ⟨w.heap.size, j, rfl, by rw [HR.out, rowK_len, HQL.out], Nat.le_refl _, ?_, hb⟩
      rw [HR.out]
      refine MidAt.nums (t := 3) ?_ (by rw [rowK_len, HQL.out]; omega)
      rw [← stepF_all, ← fill_all stepF (.int .i64 0) q, HQL.out]
      exact HM.out

theorem steps_any (k : Pfx) (w : World) (hk : k.length ≤ 1000) :
    Calls Try.prog 61 #[.string ⟨k.toArray⟩] w fun r w' => ∃ g n : Nat, r = .returned (.slice (some ⟨g, 0, none⟩) n n) ∧ n = ((rowK k).take 33).length ∧ w.heap.size ≤ g ∧ NumsAt w' (some ⟨g, 0, none⟩) ((rowK k).take 33) ∧ Below w.heap.size w w' := by
  by_cases h : 33 < k.length
  · exact steps_long k w hk h
  · exact steps_short k w hk h

theorem replayR_after {p : Pg} {fuel : Int} {row row' : List Int} {w w1 w' : World} {r : Ending} (hb : Below w.heap.size w w1) (e : rep p fuel row = rep p fuel row') (h : ReplayR p fuel row w1 r w') : ReplayR p fuel row' w r w' := by
  unfold ReplayR at *
  rw [e] at h
  obtain ⟨h1, h2⟩ := h
  have hb2 := hb.trans (h1.mono hb.size)
  have hz := hb.size
  rcases hr : rep p fuel row' with ⟨e1, es, _ | s⟩
  · rw [hr] at h2
    exact ⟨hb2, h2⟩
  · rw [hr] at h2
    obtain ⟨g, v, rfl, h3, h4, h5, h6⟩ := h2
    exact ⟨hb2, g, v, rfl, by omega, h4, h5, ownE_base h6 hz⟩

theorem replay_n (p : Pg) (a : Option Addr) (cap : Nat) (fuel : Int) (ra : Option Addr) (rcap : Nat) (row : List Int) (w : World) (hp : ThreadsAt w a p.threads) (hrow : NumsAt w ra row) (hr1000 : row.length ≤ 1000) (n : Nat) (hn : n = row.length) :
    Calls Try.prog 60 #[.agg #[.int .i64 p.vars, .int .i64 p.mutexes, .slice a p.threads.length cap], .int .i64 fuel, .slice ra n rcap] w (ReplayR p fuel row w) := by
  subst hn
  exact replay_any p a cap fuel ra rcap row w hp hrow hr1000

set_option maxRecDepth 100000 in
theorem at_nil (s : ByteArray) (w : World) : Calls Try.prog 27 #[.pointer none, .string s] w fun r w' => r = .returned (.tuple #[.pointer none, .slice none 0 0, .int .i64 8]) ∧ w = w' := by
  go_enter Try.func27, Try.ntmps27
  go_wp2
  refine bodyPost_ret (v := .tuple #[.pointer none, .slice none 0 0, .int .i64 8]) (by simp [results, Try.results27, go_sem]) rfl ?_
  exact ⟨rfl, rfl⟩

theorem replay_err (p : Pg) (a : Option Addr) (cap : Nat) (fuel : Int) (ra : Option Addr) (rcap : Nat) (row : List Int) (w : World) (hp : ThreadsAt w a p.threads) (hrow : NumsAt w ra row) (hr1000 : row.length ≤ 1000) (n : Nat) (hn : n = row.length) {e : Int} {es : List Ev} (hr : rep p fuel row = (e, es, none)) :
    Calls Try.prog 60 #[.agg #[.int .i64 p.vars, .int .i64 p.mutexes, .slice a p.threads.length cap], .int .i64 fuel, .slice ra n rcap] w fun r w' => r = .returned (.tuple #[.pointer none, .slice none 0 0, .int .i64 e]) ∧ Below w.heap.size w w' :=
  (replay_n p a cap fuel ra rcap row w hp hrow hr1000 n hn).mono fun r w' h => by
    unfold ReplayR at h
    rw [hr] at h
    exact ⟨h.2, h.1⟩
theorem replay_ok (p : Pg) (a : Option Addr) (cap : Nat) (fuel : Int) (ra : Option Addr) (rcap : Nat) (row : List Int) (w : World) (hp : ThreadsAt w a p.threads) (hrow : NumsAt w ra row) (hr1000 : row.length ≤ 1000) (n : Nat) (hn : n = row.length) {e : Int} {es : List Ev} {s : St} (hr : rep p fuel row = (e, es, some s)) :
    Calls Try.prog 60 #[.agg #[.int .i64 p.vars, .int .i64 p.mutexes, .slice a p.threads.length cap], .int .i64 fuel, .slice ra n rcap] w fun r w' => ∃ g v, r = .returned (.tuple #[.pointer (some ⟨g, 0, none⟩), v, .int .i64 0]) ∧ w.heap.size ≤ g ∧ StAt w' g s ∧ s.Ok fuel.toNat ∧ OwnE w' w.heap.size v es ∧ Below w.heap.size w w' :=
  (replay_n p a cap fuel ra rcap row w hp hrow hr1000 n hn).mono fun r w' h => by
    unfold ReplayR at h
    rw [hr] at h
    obtain ⟨h1, g, v, h2, h3, h4, h5, h6⟩ := h
    exact ⟨g, v, h2, h3, h4, h5, h6, h1⟩

set_option maxRecDepth 100000 in
set_option maxHeartbeats 1000000 in
theorem at_err {h : TrH} {w : World} {gs : List Nat} {l : List TNd} {cl : Int} (t : TrAt h w gs l cl) {k : Pfx} (hk : k.length ≤ 1000) {e : Int} {es : List Ev} (hr : rep h.p h.fuel (rowK k) = (e, es, none)) :
    Calls Try.prog 27 #[.pointer (some ⟨h.b, 0, none⟩), .string ⟨k.toArray⟩] w fun r w' => r = .returned (.tuple #[.pointer none, .slice none 0 0, .int .i64 e]) ∧ Below w.heap.size w w' := by
  have HT := Lib.hid t
  have HRC : Hid (rep h.p h.fuel ((rowK k).take 33) = rep h.p h.fuel (rowK k)) := rep_cut _ _ _
  have HCC : Hid (∀ W, Below w.heap.size w W → W.cell? ⟨h.b, 0, none⟩ = some (.int .i64 h.p.vars) ∧ W.cell? ⟨h.b, 1, none⟩ = some (.int .i64 h.p.mutexes) ∧ W.cell? ⟨h.b, 2, none⟩ = some (.slice h.a h.p.threads.length h.cap) ∧ W.cell? ⟨h.b, 3, none⟩ = some (.int .i64 h.fuel)) := fun W hb => by
    obtain ⟨c0, c1, c2, c3, _⟩ := (t.later hb).cells
    exact ⟨c0, c1, c2, c3⟩
  have HTH : Hid (∀ W, Below w.heap.size w W → ThreadsAt W h.a h.p.threads) := fun W hb => (t.later hb).thrW
  have hB0 : Below w.heap.size w w.drew := (Below.refl _ _).drew
  have HRP := Lib.hid hr
  clear t hr
  go_enter Try.func27, Try.ntmps27
  go_wp2
  go_region_held3 (fun W => W.cell? ⟨h.b, 0, none⟩ = some (.int .i64 h.p.vars) ∧ W.cell? ⟨h.b, 1, none⟩ = some (.int .i64 h.p.mutexes) ∧ W.cell? ⟨h.b, 2, none⟩ = some (.slice h.a h.p.threads.length h.cap) ∧ W.cell? ⟨h.b, 3, none⟩ = some (.int .i64 h.fuel))
    (first | with_reducible exact HCC.out _ hB0 | with_reducible exact HCC.out _ hB1 | with_reducible exact HCC.out _ hB2)
    (first
      | (go_at_call 61; ((with_reducible refine (steps_any k w.drew hk).mono ?_); rintro r w1 ⟨g, n, rfl, hn, hg, hrow, hb1⟩; have HN := Lib.hid hn; clear hn; have hB1 : Below w.heap.size w w1 := Below.trans hB0 hb1; have HRW := Lib.hid hrow; have HN33 : Hid (((rowK k).take 33).length ≤ 1000) := by (show _ ≤ _; rw [List.length_take]; omega)))
      | (go_at_call 60; ((with_reducible refine (replay_err h.p h.a h.cap h.fuel (some ⟨g, 0, none⟩) n ((rowK k).take 33) w1 (HTH.out _ hB1) HRW.out HN33.out n HN.out (HRC.out.trans HRP.out)).mono ?_); rintro r w2 ⟨rfl, hb2⟩; have hB2 : Below w.heap.size w w2 := hB1.trans (hb2.mono hB1.size))))
  go_wp2
  refine bodyPost_ret (v := .tuple #[.pointer none, .slice none 0 0, .int .i64 e]) (by simp [results, Try.results27, go_sem]) rfl ?_
  exact ⟨rfl, hB2⟩

set_option maxRecDepth 100000 in
set_option maxHeartbeats 1000000 in
theorem at_ok {h : TrH} {w : World} {gs : List Nat} {l : List TNd} {cl : Int} (t : TrAt h w gs l cl) {k : Pfx} (hk : k.length ≤ 1000) {e : Int} {es : List Ev} {s : St} (hr : rep h.p h.fuel (rowK k) = (e, es, some s)) :
    Calls Try.prog 27 #[.pointer (some ⟨h.b, 0, none⟩), .string ⟨k.toArray⟩] w fun r w' => ∃ g v, r = .returned (.tuple #[.pointer (some ⟨g, 0, none⟩), v, .int .i64 0]) ∧ w.heap.size ≤ g ∧ StAt w' g s ∧ s.Ok h.fuel.toNat ∧ OwnE w' w.heap.size v es ∧ Below w.heap.size w w' := by
  have HT := Lib.hid t
  have HRC : Hid (rep h.p h.fuel ((rowK k).take 33) = rep h.p h.fuel (rowK k)) := rep_cut _ _ _
  have HCC : Hid (∀ W, Below w.heap.size w W → W.cell? ⟨h.b, 0, none⟩ = some (.int .i64 h.p.vars) ∧ W.cell? ⟨h.b, 1, none⟩ = some (.int .i64 h.p.mutexes) ∧ W.cell? ⟨h.b, 2, none⟩ = some (.slice h.a h.p.threads.length h.cap) ∧ W.cell? ⟨h.b, 3, none⟩ = some (.int .i64 h.fuel)) := fun W hb => by
    obtain ⟨c0, c1, c2, c3, _⟩ := (t.later hb).cells
    exact ⟨c0, c1, c2, c3⟩
  have HTH : Hid (∀ W, Below w.heap.size w W → ThreadsAt W h.a h.p.threads) := fun W hb => (t.later hb).thrW
  have hB0 : Below w.heap.size w w.drew := (Below.refl _ _).drew
  have HRP := Lib.hid hr
  clear t hr
  go_enter Try.func27, Try.ntmps27
  go_wp2
  go_region_held3 (fun W => W.cell? ⟨h.b, 0, none⟩ = some (.int .i64 h.p.vars) ∧ W.cell? ⟨h.b, 1, none⟩ = some (.int .i64 h.p.mutexes) ∧ W.cell? ⟨h.b, 2, none⟩ = some (.slice h.a h.p.threads.length h.cap) ∧ W.cell? ⟨h.b, 3, none⟩ = some (.int .i64 h.fuel))
    (first | with_reducible exact HCC.out _ hB0 | with_reducible exact HCC.out _ hB1 | with_reducible exact HCC.out _ hB2)
    (first
      | (go_at_call 61; ((with_reducible refine (steps_any k w.drew hk).mono ?_); rintro r w1 ⟨g, n, rfl, hn, hg, hrow, hb1⟩; have HN := Lib.hid hn; clear hn; have hB1 : Below w.heap.size w w1 := Below.trans hB0 hb1; have HRW := Lib.hid hrow; have HN33 : Hid (((rowK k).take 33).length ≤ 1000) := by (show _ ≤ _; rw [List.length_take]; omega)))
      | (go_at_call 60; ((with_reducible refine (replay_ok h.p h.a h.cap h.fuel (some ⟨g, 0, none⟩) n ((rowK k).take 33) w1 (HTH.out _ hB1) HRW.out HN33.out n HN.out (HRC.out.trans HRP.out)).mono ?_); rintro r w2 ⟨g2, v2, rfl, hg2, hs2, hok2, hown2, hb2⟩; have hB2 : Below w.heap.size w w2 := hB1.trans (hb2.mono hB1.size); have HG2 := Lib.hid (And.intro hg2 (And.intro hs2 (And.intro hok2 hown2))); clear hg2 hs2 hok2 hown2)))
  go_wp2
  refine bodyPost_ret (v := .tuple #[.pointer (some ⟨g2, 0, none⟩), v2, .int .i64 0]) (by simp [results, Try.results27, go_sem]) rfl ?_
  have hz := hB1.size
  exact ⟨g2, v2, rfl, by have := HG2.out.1; omega, HG2.out.2.1, HG2.out.2.2.1, ownE_base HG2.out.2.2.2 hz, hB2⟩

end Go.Proofs.Ytkphdmfcmfojeaa
