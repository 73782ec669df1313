/- ProgPrints: any program has the bytes that the document says, or none, and is read as it was; a copy is its own. -/
import Derived.Test.YtjkfocmfgcmegaaOne
import Derived.Test.YtjkfocmfgcmegaaRefPrint
namespace Go.Proofs.Ytjkfocmfgcmegaa
open Go.RowKit

/-- A copy whose numbers may have changed: each thread's instructions lie in a row of the copy's own. -/
def OwnAny (w : World) (B : Nat) (a : Option Addr) (ts : List (List Ins)) : Prop :=
  ts ≠ [] → ∃ g vs, a = some ⟨g, 0, none⟩ ∧ B ≤ g ∧ w.heap[g]? = some (.cells (List.toArray vs) 32 (0, 0)) ∧ vs.length = ts.length ∧
    ∀ i (h : i < ts.length), ∃ c cap, vs[i]? = some (.slice c ts[i].length cap) ∧ (ts[i] ≠ [] → ∃ g', c = some ⟨g', 0, none⟩ ∧ B ≤ g' ∧ g' ≠ g ∧ ∃ xs : List Value, w.heap[g']? = some (.cells xs.toArray 34 (0, 0)) ∧ xs.length = ts[i].length * 4 ∧ ∀ j, j < xs.length → ∃ n, xs[j]? = some (.int .i64 n))

theorem insCells_int (l : List Ins) : ∀ j, j < (insCells l).length → ∃ n, (insCells l)[j]? = some (.int .i64 n) := by
  intro j hj
  have h4 := insCells_length l
  have := insCells_get l (j / 4) (j % 4) (by omega) (by omega)
  rw [show j / 4 * 4 + j % 4 = j by omega] at this
  rw [this]
  have hm : j % 4 = 0 ∨ j % 4 = 1 ∨ j % 4 = 2 ∨ j % 4 = 3 := by omega
  rcases hm with h | h | h | h <;> rw [h] <;> exact ⟨_, rfl⟩

theorem OwnThreads.any {w : World} {B : Nat} {a : Option Addr} {ts : List (List Ins)} (h : OwnThreads w B a ts) : OwnAny w B a ts := by
  intro hn
  obtain ⟨g, vs, e, h1, h2, h3, h4⟩ := h hn
  refine ⟨g, vs, e, h1, h2, h3, fun i hi => ?_⟩
  obtain ⟨c, cap, q1, _, q3⟩ := h4 i hi
  refine ⟨c, cap, q1, fun hne => ?_⟩
  obtain ⟨g', e', r1, r2, r3⟩ := q3 hne
  exact ⟨g', e', r1, r2, insCells ts[i], r3, insCells_length _, insCells_int _⟩

theorem OwnAny.later {w w' : World} {B : Nat} {a : Option Addr} {ts : List (List Ins)} (h : OwnAny w B a ts) (hb : Below w.heap.size w w') : OwnAny w' B a ts := by
  have lt : ∀ {g : Nat} {o : Obj}, w.heap[g]? = some o → g < w.heap.size := fun e => (Array.getElem?_eq_some_iff.1 e).1
  intro hn
  obtain ⟨g, vs, e, h1, h2, h3, h4⟩ := h hn
  refine ⟨g, vs, e, h1, (hb.block g (lt h2)).trans h2, h3, fun i hi => ?_⟩
  obtain ⟨c, cap, q1, q3⟩ := h4 i hi
  refine ⟨c, cap, q1, fun hne => ?_⟩
  obtain ⟨g', e', r1, r2, xs, r3, r4⟩ := q3 hne
  exact ⟨g', e', r1, r2, xs, (hb.block g' (lt r3)).trans r3, r4⟩

/-- One number changed in a thread's row. -/
theorem OwnAny.set {w : World} {B : Nat} {ts : List (List Ins)} {g : Nat} (h : OwnAny w B (some ⟨g, 0, none⟩) ts) (x k : Nat) (n : Int) (hx : x ≠ g) (cs : List Value) (hrow : w.heap[x]? = some (.cells cs.toArray 34 (0, 0))) :
    OwnAny (w.setCell ⟨x, k, none⟩ (.int .i64 n)) B (some ⟨g, 0, none⟩) ts := by
  intro hn
  obtain ⟨g0, vs, e, h1, h2, h3, h4⟩ := h hn
  obtain rfl : g = g0 := by simpa using e
  refine ⟨g, vs, rfl, h1, by rw [Below.heap_setCell _ _ _ _ (Ne.symm hx)]; exact h2, h3, fun i hi' => ?_⟩
  obtain ⟨c, cap, q1, q3⟩ := h4 i hi'
  refine ⟨c, cap, q1, fun hne => ?_⟩
  obtain ⟨g', e', r1, r2, xs, r3, r4, r5⟩ := q3 hne
  by_cases hg : g' = x
  · subst hg
    rw [hrow] at r3
    have exs : cs = xs := by simpa using r3
    subst exs
    refine ⟨g', e', r1, r2, cs.set k (.int .i64 n), row_set hrow _, by simp [r4], fun j hj => ?_⟩
    by_cases ej : j = k
    · subst ej
      exact ⟨n, by rw [List.getElem?_set_self (by simpa using hj)]⟩
    · rw [List.getElem?_set_ne (Ne.symm ej)]
      exact r5 j (by simpa using hj)
  · exact ⟨g', e', r1, r2, xs, by rw [Below.heap_setCell _ _ _ _ hg]; exact r3, r4, r5⟩

/-- In the middle of changing a copy's numbers. -/
def MR (w w9 : World) (B gq : Nat) (V M : Int) (a : Option Addr) (n cap : Nat) (ts : List (List Ins)) (wr : World) : Prop :=
  Below w.heap.size w wr ∧ OwnAny wr B a ts ∧ wr.heap[gq]? = some (.cells #[.int .i64 V, .int .i64 M, .slice a n cap] 24 (0, 0)) ∧ wr.heap[w.heap.size]? = w9.heap[w.heap.size]?

theorem MR.set {w w9 wr : World} {B gq : Nat} {V M : Int} {g n cap : Nat} {ts : List (List Ins)} (h : MR w w9 B gq V M (some ⟨g, 0, none⟩) n cap ts wr) (hB : w.heap.size < B) (x k : Nat) (v : Int) (hx : x ≠ g) (hxB : B ≤ x) (cs : List Value) (hrow : wr.heap[x]? = some (.cells cs.toArray 34 (0, 0))) :
    MR w w9 B gq V M (some ⟨g, 0, none⟩) n cap ts (wr.setCell ⟨x, k, none⟩ (.int .i64 v)) := by
  obtain ⟨h1, h2, h3, h4⟩ := h
  refine ⟨h1.setCell (p := ⟨x, k, none⟩) (by show w.heap.size ≤ x; omega) _, h2.set x k v hx cs hrow, ?_, ?_⟩
  · rw [Below.heap_setCell _ _ _ _ (by
      show gq ≠ x
      intro e
      rw [← e, h3] at hrow
      simp at hrow)]
    exact h3
  · rw [Below.heap_setCell _ _ _ _ (by show w.heap.size ≠ x; omega)]; exact h4

set_option maxRecDepth 100000 in
set_option maxHeartbeats 1500000 in
theorem prints_any (p : Pg) (a : Option Addr) (cap : Nat) (w : World) (hp : ThreadsAt w a p.threads) (ha : a = none → cap = 0) :
    Calls Try.prog 3 #[pgV p a cap] w fun r w' => r = .returned (.bool true) ∧ Below w.heap.size w w' := by
  obtain ⟨V, M, ts⟩ := p
  unfold pgV
  dsimp only at *
  have hm := hp.1
  unfold maxLen at hm
  have HP := Lib.hid hp
  have HA := Lib.hid ha
  clear hp ha
  go_enter Try.func3, Try.ntmps3
  go_wp2_with fail
  refine (awake_any _).mono ?_
  rintro r w1 ⟨rfl, hb1⟩
  have hb1' : Below (w.heap.size + 1) (w.alloc (.cells #[.int .i64 V, .int .i64 M, .slice a ts.length cap] 24)) w1 := hb1.mono (by simp)
  have p0 : w1.cell? ⟨w.heap.size, 0, none⟩ = some (.int .i64 V) := by rw [hb1'.cell (p := ⟨w.heap.size, 0, none⟩) (by simp)]; simp
  have p1 : w1.cell? ⟨w.heap.size, 1, none⟩ = some (.int .i64 M) := by rw [hb1'.cell (p := ⟨w.heap.size, 1, none⟩) (by simp)]; simp
  have p2 : w1.cell? ⟨w.heap.size, 2, none⟩ = some (.slice a ts.length cap) := by rw [hb1'.cell (p := ⟨w.heap.size, 2, none⟩) (by simp)]; simp
  have hw1 : Below w.heap.size w w1 := (below_alloc1 w _).trans (hb1.mono (by simp))
  go_wp2_with fail
  refine (few_any ⟨V, M, ts⟩ a cap _ (HP.out.later hw1)).mono ?_
  rintro r w2 ⟨rfl, hb2⟩
  have hw2 : Below w.heap.size w w2 := hw1.trans (hb2.mono hw1.size)
  have q0 := cell_later hb2 p0
  have q1 := cell_later hb2 p1
  have q2 := cell_later hb2 p2
  clear p0 p1 p2 hb1 hb1'
  cases hf : fewPg ⟨V, M, ts⟩
  · clear hf
    go_wp2_with fail
    refine (awake_any _).mono ?_
    rintro r w3 ⟨rfl, hb3⟩
    have hw3 : Below w.heap.size w w3 := hw2.trans (hb3.mono hw2.size)
    go_wp2
    go_ret
    exact ⟨rfl, hw3⟩
  · have hfs := few_small hf
    have HFS := Lib.hid hfs
    clear hf hfs
    have hts20 : ts.length ≤ 20 := HFS.out.1
    obtain ⟨rb, hrb⟩ : ∃ rb, rightPg ⟨V, M, ts⟩ = rb := ⟨_, rfl⟩
    obtain ⟨S, E, hSE, hbe, hEb⟩ : ∃ (S : List UInt8) (E : Int), (rb = true ∧ S = bytesOf (pgB ⟨V, M, ts⟩) ∧ E = 0 ∨ rb = false ∧ S = [] ∧ E = 1) ∧ (E == 0) = rb ∧ S.length ≤ 1000000 := by
      cases rb
      · exact ⟨[], 1, .inr ⟨rfl, rfl, rfl⟩, rfl, by simp⟩
      · refine ⟨_, 0, .inl ⟨rfl, rfl, rfl⟩, rfl, ?_⟩
        have h1 := rightPg_size hrb
        have h2 := sumLen_le ts 8 (fun l hl => (right_parts hrb l hl).1)
        simp only [bytesOf, List.length_map, pgB_length]
        dsimp only at h1 ⊢
        omega
    have HRB := Lib.hid hrb
    have HSE := Lib.hid hSE
    have HPC : Hid (∀ w', Below w.heap.size w w' → Calls Try.prog 11 #[.agg #[.int .i64 V, .int .i64 M, .slice a ts.length cap]] w' fun r w'' => r = .returned (.tuple #[.string ⟨S.toArray⟩, .int .i64 E]) ∧ Below w'.heap.size w' w'') := by
      intro w' h
      rcases hSE with ⟨rfl, rfl, rfl⟩ | ⟨rfl, rfl, rfl⟩
      · exact printsYes ⟨V, M, ts⟩ a cap w' (HP.out.later h) hrb
      · exact printsNo ⟨V, M, ts⟩ a cap w' (HP.out.later h) hrb
    clear hSE hrb
    go_wp2_with fail
    refine (HPC.out _ hw2).mono ?_
    rintro r w3 ⟨rfl, hb3⟩
    have hw3 : Below w.heap.size w w3 := hw2.trans (hb3.mono hw2.size)
    have r0 := cell_later hb3 q0
    have r1 := cell_later hb3 q1
    have r2 := cell_later hb3 q2
    clear q0 q1 q2 hb3 hb2
    go_wp2_with fail
    refine (refRight_any ⟨V, M, ts⟩ a cap _ (HP.out.later hw3)).mono ?_
    rintro r w4 ⟨rfl, hb4⟩
    rw [HRB.out]
    have hw4 : Below w.heap.size w w4 := hw3.trans (hb4.mono hw3.size)
    have s0 := cell_later hb4 r0
    have s1 := cell_later hb4 r1
    have s2 := cell_later hb4 r2
    clear r0 r1 r2 hb4
    go_wp2_with fail
    refine (right_any ⟨V, M, ts⟩ a cap _ (HP.out.later hw4)).mono ?_
    rintro r w5 ⟨rfl, hb5⟩
    rw [HRB.out]
    have hw5 : Below w.heap.size w w5 := hw4.trans (hb5.mono hw4.size)
    have t0 := cell_later hb5 s0
    have t1 := cell_later hb5 s1
    have t2 := cell_later hb5 s2
    clear s0 s1 s2 hb5
    have hbb : (rb != rb) = false := by simp
    go_wp2_with fail
    refine (copy_any ⟨V, M, ts⟩ a cap _ (HP.out.later hw5) HA.out (by dsimp only; omega) (fun l hl => by have := HFS.out.2 l hl; omega)).mono ?_
    rintro r w6 ⟨a', cap', rfl, ha', hb6, ho, hcap⟩
    dsimp only at hcap ho
    have hpv : pgV ⟨V, M, ts⟩ a' cap' = .agg #[.int .i64 V, .int .i64 M, .slice a' ts.length cap'] := rfl
    rw [hpv]
    have hw6 : Below w.heap.size w w6 := hw5.trans (hb6.mono hw5.size)
    have x0 := cell_later hb6 t0
    have x1 := cell_later hb6 t1
    have x2 := cell_later hb6 t2
    have hz6 := cell_block x0
    dsimp only at hz6
    have hz5 := cell_block t0
    dsimp only at hz5
    have hth := ho.at (by unfold maxLen; omega) (fun l hl => by have := HFS.out.2 l hl; unfold maxLen; omega)
    have HO := Lib.hid ho
    have HTH := Lib.hid hth
    clear hpv ho hth ha' hcap t0 t1 t2 hb6
    have hB7 : Below w6.heap.size w6 (w6.alloc (.cells #[.int .i64 V, .int .i64 M, .slice a' ts.length cap'] 24)) := below_alloc1 _ _
    have hw7 : Below w.heap.size w (w6.alloc (.cells #[.int .i64 V, .int .i64 M, .slice a' ts.length cap'] 24)) := hw6.alloc (by omega) _
    have HT7 := Lib.hid (HTH.out.later hB7)
    go_wp2_with fail
    refine (same_any ⟨V, M, ts⟩ ⟨V, M, ts⟩ a' a cap' cap _ HT7.out (HP.out.later hw7)).mono ?_
    rintro r w8 ⟨rfl, hb8⟩
    rw [show decide ((⟨V, M, ts⟩ : Pg) = ⟨V, M, ts⟩) = true by simp]
    have hw8 : Below w.heap.size w w8 := hw7.trans (hb8.mono hw7.size)
    have x0' := cell_later hb8 (cell_later hB7 x0)
    have x1' := cell_later hb8 (cell_later hB7 x1)
    have x2' := cell_later hb8 (cell_later hB7 x2)
    have hq8 : w8.heap[w6.heap.size]? = some (.cells #[.int .i64 V, .int .i64 M, .slice a' ts.length cap'] 24 (0, 0)) := (hb8.block _ (by simp)).trans (MapKept.heap_alloc w6 _).1
    have y0 : w8.cell? ⟨w6.heap.size, 0, none⟩ = some (.int .i64 V) := by simp [World.cell?, hq8]
    have y1 : w8.cell? ⟨w6.heap.size, 1, none⟩ = some (.int .i64 M) := by simp [World.cell?, hq8]
    have y2 : w8.cell? ⟨w6.heap.size, 2, none⟩ = some (.slice a' ts.length cap') := by simp [World.cell?, hq8]
    have HT8 := Lib.hid (HT7.out.later hb8)
    have HO8 := Lib.hid ((HO.out.any.later hB7).later hb8)
    have HQ8 := Lib.hid hq8
    clear hq8 hb8 hB7 x0 x1 x2
    go_wp2_with fail
    refine (refSame_any ⟨V, M, ts⟩ ⟨V, M, ts⟩ a' a cap' cap _ HT8.out (HP.out.later hw8)).mono ?_
    rintro r w9 ⟨rfl, hb9⟩
    rw [show decide ((⟨V, M, ts⟩ : Pg) = ⟨V, M, ts⟩) = true by simp]
    have hw9 : Below w.heap.size w w9 := hw8.trans (hb9.mono hw8.size)
    have hMR : MR w w9 w5.heap.size w6.heap.size V M a' ts.length cap' ts w9 := ⟨hw9, HO8.out.later hb9, (hb9.block _ (Array.getElem?_eq_some_iff.1 HQ8.out).1).trans HQ8.out, rfl⟩
    have z2 : w9.cell? ⟨w6.heap.size, 2, none⟩ = some (.slice a' ts.length cap') := cell_later hb9 y2
    have k0 := cell_later hb9 x0'
    have k1 := cell_later hb9 x1'
    have k2 := cell_later hb9 x2'
    have HK0 := Lib.hid (And.intro k0 (And.intro k1 k2))
    have HMR := Lib.hid hMR
    clear hb9 hMR HO8 HQ8 HT8 HT7 HTH HO x0' x1' x2' y0 y1 y2 k0 k1 k2
    go_wp2
    go_loopw [51] (fun i wr => ∃ k : Nat, k ≤ ts.length ∧ i = .int .i64 k ∧ MR w w9 w5.heap.size w6.heap.size V M a' ts.length cap' ts wr) (fun i _ => ts.length - (intOf i).toNat)
    case atStart => exact ⟨0, Nat.zero_le _, rfl, HMR.out⟩
    case round =>
      obtain ⟨k, hk, rfl, hR⟩ := hrel
      have m2 : wr.cell? ⟨w6.heap.size, 2, none⟩ = some (.slice a' ts.length cap') := by simp [World.cell?, hR.2.2.1]
      by_cases hlt : k < ts.length
      · obtain ⟨g, vs, rfl, hg1, hg2, hg3, hg4⟩ := hR.2.1 (by intro e; simp [e] at hlt)
        obtain ⟨c, cc, q1, _⟩ := hg4 k hlt
        have n0 : wr.cell? ⟨g, k, none⟩ = some (.slice c ts[k].length cc) := by simp [World.cell?, hg2, q1]
        have hk50 : ts[k].length ≤ 50 := HFS.out.2 _ (List.getElem_mem _)
        have HR := Lib.hid hR
        clear hg2 hg3 hg4 q1 hR
        go_wp2
        go_loopw [60] (fun i wr => ∃ j : Nat, j ≤ ts[k].length ∧ i = .int .i64 j ∧ MR w w9 w5.heap.size w6.heap.size V M (some ⟨g, 0, none⟩) ts.length cap' ts wr) (fun i _ => ts[k].length - (intOf i).toNat)
        case atStart => exact ⟨0, Nat.zero_le _, rfl, HR.out⟩
        case round =>
          obtain ⟨j, hj, rfl, hR2⟩ := hrel
          by_cases hjl : j < ts[k].length
          · have M2 : wr.cell? ⟨w6.heap.size, 2, none⟩ = some (.slice (some ⟨g, 0, none⟩) ts.length cap') := by simp [World.cell?, hR2.2.2.1]
            obtain ⟨g0, vs, e, hg1, hg2, hg3, hg4⟩ := hR2.2.1 (by intro e; simp [e] at hlt)
            obtain rfl : g = g0 := by simpa using e
            obtain ⟨c, cc, q1, q2⟩ := hg4 k hlt
            obtain ⟨gi, rfl, r1, r2, xs, r3, r4, r5⟩ := q2 (by intro e; simp [e] at hjl)
            have N0 : wr.cell? ⟨g, k, none⟩ = some (.slice (some ⟨gi, 0, none⟩) ts[k].length cc) := by simp [World.cell?, hg2, q1]
            obtain ⟨v, hv⟩ := r5 (j * 4 + 3) (by omega)
            have C3 : wr.cell? ⟨gi, j * 4 + 3, none⟩ = some (.int .i64 v) := by simp [World.cell?, r3, hv]
            have F3 : wr.frozen? ⟨gi, j * 4 + 3, none⟩ = false := by simp [World.frozen?, r3]
            have HST := Lib.hid (fun u => hR2.set hz5 gi (j * 4 + 3) u r2 r1 xs r3)
            have HM2 := Lib.hid hR2
            clear e hg2 hg3 hg4 q1 q2 r3 r4 r5 hv hR2
            go_wp2
            go_roundw
            case rel => exact ⟨j + 1, by omega, by go_num, HST.out _⟩
            case measure => simp [intOf]; omega
          · obtain rfl : j = ts[k].length := by omega
            have HM2 := Lib.hid hR2
            clear hR2
            go_wp2
            go_roundw
            case rel => exact ⟨k + 1, by omega, by go_num, HM2.out⟩
            case measure => simp [intOf]; omega
      · obtain rfl : k = ts.length := by omega
        have hbw := hR.1
        obtain ⟨k0, k1, k2⟩ := HK0.out
        have c0 : wr.cell? ⟨w.heap.size, 0, none⟩ = some (.int .i64 V) := by rw [World.cell?_of_block (w := w9) hR.2.2.2]; exact k0
        have c1 : wr.cell? ⟨w.heap.size, 1, none⟩ = some (.int .i64 M) := by rw [World.cell?_of_block (w := w9) hR.2.2.2]; exact k1
        have c2 : wr.cell? ⟨w.heap.size, 2, none⟩ = some (.slice a ts.length cap) := by rw [World.cell?_of_block (w := w9) hR.2.2.2]; exact k2
        clear k0 k1 k2 hR
        rcases HSE.out with ⟨rfl, hS, rfl⟩ | ⟨rfl, rfl, rfl⟩
        · have hrd : rdPg S = (0, ⟨V, M, ts⟩) := by rw [hS]; exact read_print HRB.out
          have HS := Lib.hid hS
          have HRD := Lib.hid hrd
          clear hS hrd
          go_wp2_with fail
          refine (read_any S _ (by omega)).mono ?_
          rw [HRD.out]
          rintro r w10 ⟨a2, cap2, rfl, _, ho2, hb10⟩
          have hpv : pgV ⟨V, M, ts⟩ a2 cap2 = .agg #[.int .i64 V, .int .i64 M, .slice a2 ts.length cap2] := rfl
          dsimp only at ho2 ⊢
          rw [hpv]
          have hw10 : Below w.heap.size w w10 := hbw.trans (hb10.mono hbw.size)
          have d0 := cell_later hb10 c0
          have d1 := cell_later hb10 c1
          have d2 := cell_later hb10 c2
          have hz10 := cell_block d0
          dsimp only at hz10
          have hth2 := ho2.at (by unfold maxLen; omega) (fun l hl => by have := HFS.out.2 l hl; unfold maxLen; omega)
          have hB11 : Below w10.heap.size w10 (w10.alloc (.cells #[.int .i64 V, .int .i64 M, .slice a2 ts.length cap2] 24)) := below_alloc1 _ _
          have HT11 := Lib.hid (hth2.later hB11)
          have hw11 : Below w.heap.size w (w10.alloc (.cells #[.int .i64 V, .int .i64 M, .slice a2 ts.length cap2] 24)) := hw10.alloc (by omega) _
          clear hpv ho2 hth2 hb10 c0 c1 c2
          go_wp2_with fail
          refine (refPrint_any ⟨V, M, ts⟩ a cap _ (HP.out.later hw11) HRB.out).mono ?_
          rintro r w12 ⟨rfl, hb12⟩
          have hw12 : Below w.heap.size w w12 := hw11.trans (hb12.mono hw11.size)
          have hb12' : Below (w10.heap.size + 1) (w10.alloc (.cells #[.int .i64 V, .int .i64 M, .slice a2 ts.length cap2] 24)) w12 := hb12.mono (by simp)
          have f0 := cell_later hb12 (cell_later hB11 d0)
          have f1 := cell_later hb12 (cell_later hB11 d1)
          have f2 := cell_later hb12 (cell_later hB11 d2)
          have g0 : w12.cell? ⟨w10.heap.size, 0, none⟩ = some (.int .i64 V) := by rw [hb12'.cell (p := ⟨w10.heap.size, 0, none⟩) (by simp)]; simp
          have g1 : w12.cell? ⟨w10.heap.size, 1, none⟩ = some (.int .i64 M) := by rw [hb12'.cell (p := ⟨w10.heap.size, 1, none⟩) (by simp)]; simp
          have g2 : w12.cell? ⟨w10.heap.size, 2, none⟩ = some (.slice a2 ts.length cap2) := by rw [hb12'.cell (p := ⟨w10.heap.size, 2, none⟩) (by simp)]; simp
          have HT12 := Lib.hid (HT11.out.later hb12)
          rw [bstr_eq, ← HS.out]
          clear hb12 hb12' hB11 d0 d1 d2
          go_wp2_with fail
          refine (refSame_any ⟨V, M, ts⟩ ⟨V, M, ts⟩ a a2 cap cap2 _ (HP.out.later hw12) HT12.out).mono ?_
          rintro r w13 ⟨rfl, hb13⟩
          rw [show decide ((⟨V, M, ts⟩ : Pg) = ⟨V, M, ts⟩) = true by simp]
          have hw13 : Below w.heap.size w w13 := hw12.trans (hb13.mono hw12.size)
          go_wp2
          go_ret
          exact ⟨rfl, hw13⟩
        · have hrd : rdPg ([] : List UInt8) = (4, zeroPg) := rfl
          have HRD := Lib.hid hrd
          clear hrd
          go_wp2_with fail
          refine (read_any [] _ (by simp)).mono ?_
          rw [HRD.out]
          rintro r w10 ⟨a2, cap2, rfl, _, _, hb10⟩
          have hpv : pgV zeroPg a2 cap2 = .agg #[.int .i64 0, .int .i64 0, .slice a2 0 cap2] := rfl
          dsimp only
          rw [hpv]
          have hw10 : Below w.heap.size w w10 := hbw.trans (hb10.mono hbw.size)
          have hz10 := hw10.size
          have hw11 : Below w.heap.size w (w10.alloc (.cells #[.int .i64 0, .int .i64 0, .slice a2 0 cap2] 24)) := hw10.alloc (by omega) _
          clear hpv hb10
          go_wp2
          go_ret
          exact ⟨rfl, hw11⟩
end Go.Proofs.Ytjkfocmfgcmegaa
