/- EventThreads: two threads that never depend on one another, stepped in any order, have the same events each. -/
import Derived.Test.YtfhndbibabbnlaaWake3
import Derived.Test.YtfhndbibabbnlaaFew
import Derived.Test.YtfhndbibabbnlaaRepPlain
import Derived.Test.YtfhndbibabbnlaaEvPair
import Derived.Test.YtfhndbibabbnlaaThrPlain
import Derived.Deep.RegionHeld3
namespace Go.Proofs.Ytfhndbibabbnlaa
open Go.RowKit

theorem runs_of_run {row : List Int} : ∀ {s : St}, (s.run row).1 = 0 → Runs s row (s.run row).2.1 (s.run row).2.2 := by
  induction row with
  | nil => intro s _; exact ⟨rfl, rfl⟩
  | cons t row ih =>
    intro s h
    by_cases h1 : (s.step t).1 = 0
    · by_cases h2 : ((s.step t).2.2.run row).1 = 0
      · have e : s.run (t :: row) = (0, (s.step t).2.1 :: ((s.step t).2.2.run row).2.1, ((s.step t).2.2.run row).2.2) := by rw [St.run, if_pos h1, if_pos h2]
        rw [e]
        exact ⟨(s.step t).2.1, (s.step t).2.2, _, by rw [← h1], ih h2, rfl⟩
      · rw [St.run, if_pos h1, if_neg h2] at h
        exact absurd h h2
    · rw [St.run, if_neg h1] at h
      exact absurd h h1
theorem run_of_runs {row : List Int} : ∀ {s : St} {l : List Ev} {z : St}, Runs s row l z → s.run row = (0, l, z) := by
  induction row with
  | nil => intro s l z h; rw [h.1, h.2]; rfl
  | cons t row ih =>
    intro s l z h
    obtain ⟨e, s1, l', h1, h2, rfl⟩ := h
    have h3 := ih h2
    rw [St.run, h1]
    dsimp only
    rw [h3]
    rfl

theorem rep_sorted {p : Pg} {fuel : Int} {row : List Int} {e : Int} {es : List Ev} {s : St} (h : rep p fuel row = (e, es, some s)) (hi : Indep es) :
    ∃ z, rep p fuel (srt row 4) = (0, srtE es 4, some z) ∧ (srtE es 4).length = es.length ∧ (srt row 4).length = row.length := by
  obtain ⟨_, hg, h0, rfl⟩ := rep_some h
  have hg' := hg
  unfold goodPg at hg
  rw [Bool.and_eq_true, decide_eq_true_eq] at hg
  have ok := new_ok hg.1 fuel.toNat (by omega)
  have h4 := ok.len4
  have hr := runs_of_run h0
  have hs := runs_sorted ok h4 hi hr
  refine ⟨((St.new p fuel.toNat).run row).2.2, ?_, srtE_length hr h4, ?_⟩
  · unfold rep comb
    rw [if_pos hg', run_of_runs hs]
    rfl
  · have a1 := congrArg List.length hs.threads
    have a2 := congrArg List.length hr.threads
    have a3 := srtE_length hr h4
    rw [List.length_map] at a1 a2
    omega

/-- The first k events don't depend on those ahead of them. -/
def InTo (es : List Ev) (i k : Nat) : Prop := ∀ j, j < k → (es.getD i ev0).thread ≠ (es.getD j ev0).thread → dep (es.getD i ev0) (es.getD j ev0) = false
def IndTo (es : List Ev) (k : Nat) : Prop := ∀ i, i < k → InTo es i i
theorem InTo.succ {es : List Ev} {i k : Nat} (h : InTo es i k) (h1 : (es.getD i ev0).thread ≠ (es.getD k ev0).thread → dep (es.getD i ev0) (es.getD k ev0) = false) : InTo es i (k + 1) := by
  intro j hj
  rcases Nat.lt_succ_iff_lt_or_eq.1 hj with hj | rfl
  · exact h j hj
  · exact h1
theorem IndTo.succ {es : List Ev} {k : Nat} (h : IndTo es k) (h1 : InTo es k k) : IndTo es (k + 1) := by
  intro j hj
  rcases Nat.lt_succ_iff_lt_or_eq.1 hj with hj | rfl
  · exact h j hj
  · exact h1
theorem IndTo.indep {es : List Ev} (h : IndTo es es.length) : Indep es := by
  unfold Indep
  rw [List.pairwise_iff_getElem]
  intro i j hi hj hij hne
  have := h j hj i hij
  rw [getD_lt _ hj, getD_lt _ hi] at this
  rw [dep_symm]
  exact this (Ne.symm hne)

theorem srt_len (row : List Int) (n : Nat) : (srt row n).length ≤ n * row.length := by
  induction n with
  | zero => simp [srt]
  | succ n ih =>
    unfold srt
    rw [List.length_append]
    have := List.length_filter_le (fun x : Int => decide (x = (n : Int))) row
    rw [Nat.add_mul]
    omega

theorem filter_snoc {T : Type} (q : T → Bool) {l : List T} {k : Nat} (h : k < l.length) : (l.take (k + 1)).filter q = (l.take k).filter q ++ if q l[k] = true then [l[k]] else [] := by
  rw [List.take_succ_eq_append_getElem h, List.filter_append]
  congr 1
  by_cases hq : q l[k] = true <;> simp [hq]

set_option maxRecDepth 100000 in
set_option maxHeartbeats 4000000 in
theorem evThr_any (p : Pg) (a : Option Addr) (cap : Nat) (fuel : Int) (ra : Option Addr) (rcap : Nat) (row : List Int) (w : World) (hp : ThreadsAt w a p.threads) (hrow : NumsAt w ra row) :
    Calls Try.prog 8 #[.agg #[.int .i64 p.vars, .int .i64 p.mutexes, .slice a p.threads.length cap], .int .i64 fuel, .slice ra row.length rcap] w fun r w' => r = .returned (.bool true) ∧ Below w.heap.size w w' := by
  have hrm := hrow.1
  unfold maxLen at hrm
  have HP := Lib.hid hp
  have HROW := Lib.hid hrow
  clear hp hrow
  go_enter Try.func8, Try.ntmps8
  go_wp2_with fail
  refine (awake_any _).mono ?_
  rintro r w1 ⟨rfl, hb1⟩
  have hc1 : ∀ o, w1.cell? ⟨w.heap.size, o, none⟩ = (w.alloc (.cells #[.int .i64 p.vars, .int .i64 p.mutexes, .slice a p.threads.length cap] 41)).cell? ⟨w.heap.size, o, none⟩ := fun o => hb1.cell (p := ⟨w.heap.size, o, none⟩) (by simp)
  have hw1 : Below w.heap.size w w1 := (below_alloc1 w _).trans (hb1.mono (by simp))
  have hz1 : w.heap.size < w1.heap.size := by have := hb1.size; simp at this; omega
  clear hb1
  go_wp2_with fail
  refine (few_any p a cap w1 (HP.out.later hw1)).mono ?_
  rintro r w2 ⟨rfl, hb2⟩
  have hc2 : ∀ o, w2.cell? ⟨w.heap.size, o, none⟩ = w1.cell? ⟨w.heap.size, o, none⟩ := fun o => hb2.cell (p := ⟨w.heap.size, o, none⟩) hz1
  have hw2 : Below w.heap.size w w2 := hw1.trans (hb2.mono hw1.size)
  have hz2 : w.heap.size < w2.heap.size := by have := hb2.size; omega
  clear hb2
  cases hf : fewPg p
  · clear hf hc1 hc2
    go_wp2_with fail
    refine (awake_any _).mono ?_
    rintro r w3 ⟨rfl, hb3⟩
    have hw3 : Below w.heap.size w w3 := hw2.trans (hb3.mono hw2.size)
    go_wp2
    go_ret
    exact ⟨rfl, hw3⟩
  clear hf
  by_cases hN : 60 < row.length
  · clear hc1 hc2
    go_wp2_with fail
    refine (awake_any _).mono ?_
    rintro r w3 ⟨rfl, hb3⟩
    have hw3 : Below w.heap.size w w3 := hw2.trans (hb3.mono hw2.size)
    go_wp2
    go_ret
    exact ⟨rfl, hw3⟩
  have c0 : w2.cell? ⟨w.heap.size, 0, none⟩ = some (.int .i64 p.vars) := by rw [hc2, hc1]; simp
  have c1 : w2.cell? ⟨w.heap.size, 1, none⟩ = some (.int .i64 p.mutexes) := by rw [hc2, hc1]; simp
  have c2 : w2.cell? ⟨w.heap.size, 2, none⟩ = some (.slice a p.threads.length cap) := by rw [hc2, hc1]; simp
  have HK : Hid (∀ w', Below w2.heap.size w2 w' → w'.cell? ⟨w.heap.size, 0, none⟩ = some (.int .i64 p.vars) ∧ w'.cell? ⟨w.heap.size, 1, none⟩ = some (.int .i64 p.mutexes) ∧ w'.cell? ⟨w.heap.size, 2, none⟩ = some (.slice a p.threads.length cap)) := fun w' h => ⟨cell_later h c0, cell_later h c1, cell_later h c2⟩
  clear hc1 hc2
  have hr60 : row.length ≤ 60 := by omega
  clear hN hrm
  rcases hrep : rep p fuel row with ⟨e, es, _ | s⟩
  · have q0 : (e != 0) = true := by have := rep_none hrep; simp [this]
    have HREP := Lib.hid hrep
    clear hrep
    go_wp2_with fail
    refine (replay_any p a cap fuel ra rcap row w2 (HP.out.later hw2) (HROW.out.later hw2) (by omega)).mono ?_
    rintro r w4 ⟨hb, hr⟩
    rw [HREP.out] at hr
    dsimp only at hr
    subst hr
    have hw4 := hw2.trans (hb.mono hw2.size)
    go_wp2
    go_ret
    exact ⟨rfl, hw4⟩
  obtain rfl := (rep_some hrep).1
  have hes : es.length ≤ 60 := Nat.le_trans (rep_len hrep) hr60
  have HREP := Lib.hid hrep
  clear hrep
  go_wp2_with fail
  refine (replay_any p a cap fuel ra rcap row w2 (HP.out.later hw2) (HROW.out.later hw2) (by omega)).mono ?_
  rintro r w4 ⟨hB4, hr⟩
  rw [HREP.out] at hr
  dsimp only at hr
  obtain ⟨g1, v1, rfl, hg1, hs1, ok1, ho1⟩ := hr
  obtain ⟨av, cv, rfl, hev⟩ := ho1.form (by omega)
  have HEV := Lib.hid hev
  clear hs1 ok1 ho1 hev c0 c1 c2 hg1 hz2
  go_wp2_with fail
  go_loopw [48] (fun i wr => ∃ k : Nat, k ≤ es.length ∧ i = .int .i64 k ∧ Hid (IndTo es k) ∧ Below w4.heap.size w4 wr) (fun i _ => es.length - (intOf i).toNat)
  case atStart => exact ⟨0, Nat.zero_le _, rfl, fun i hi => absurd hi (by omega), Below.refl _ _⟩
  case round =>
    obtain ⟨k, hk, rfl, HI, hb⟩ := hrel
    by_cases hlt : k < es.length
    · go_wp2_with fail
      go_loopw [52] (fun i wr => ∃ j : Nat, j ≤ k ∧ i = .int .i64 j ∧ Hid (InTo es k j) ∧ Below w4.heap.size w4 wr) (fun i _ => k - (intOf i).toNat)
      case atStart => exact ⟨0, Nat.zero_le _, rfl, fun i hi => absurd hi (by omega), hb⟩
      case round =>
        clear hb
        obtain ⟨j, hj, rfl, HJ, hb⟩ := hrel
        by_cases hjk : j < k
        · obtain ⟨b, o, rfl, hc⟩ := HEV.out.2 (by intro e; simp [e] at hlt)
          have hjl : j < es.length := by omega
          have HX0 := hc k hlt
          have HY0 := hc j hjl
          have HS := Lib.hid (@InTo.succ es k j HJ.out)
          rw [getD_lt _ hlt, getD_lt _ hjl] at HS
          clear hc
          generalize es[k] = x at *
          generalize es[j] = y at *
          have HK8 : Hid (∀ w', Below w4.heap.size w4 w' → (w'.cell? ⟨b, o + k * 4, none⟩ = some (.int .i64 x.thread) ∧ w'.cell? ⟨b, o + k * 4 + 1, none⟩ = some (.int .i64 x.kind) ∧ w'.cell? ⟨b, o + k * 4 + 2, none⟩ = some (.int .i64 x.obj) ∧ w'.cell? ⟨b, o + k * 4 + 3, none⟩ = some (.bool x.fail)) ∧
              (w'.cell? ⟨b, o + j * 4, none⟩ = some (.int .i64 y.thread) ∧ w'.cell? ⟨b, o + j * 4 + 1, none⟩ = some (.int .i64 y.kind) ∧ w'.cell? ⟨b, o + j * 4 + 2, none⟩ = some (.int .i64 y.obj) ∧ w'.cell? ⟨b, o + j * 4 + 3, none⟩ = some (.bool y.fail)) ∧ Below w4.heap.size w4 w') :=
            fun w' h => ⟨⟨cell_later h HX0.1, cell_later h HX0.2.1, cell_later h HX0.2.2.1, cell_later h HX0.2.2.2⟩, ⟨cell_later h HY0.1, cell_later h HY0.2.1, cell_later h HY0.2.2.1, cell_later h HY0.2.2.2⟩, h⟩
          clear HX0 HY0
          by_cases hxy : x.thread = y.thread
          · have q1 : (x.thread != y.thread) = false := by simp [hxy]
            have HS2 := Lib.hid (HS.out (fun h => absurd hxy h))
            obtain ⟨⟨d0, d1, d2, d3⟩, ⟨e0, e1, e2, e3⟩, _⟩ := HK8.out _ hb
            clear hxy HS
            go_wp2_with fail
            go_quiet (fail)
            go_wp2
            go_roundw
            case rel => exact ⟨j + 1, by omega, by go_num, HS2, hb.drewN⟩
            case measure => simp [intOf]; omega
          · have q1 : (x.thread != y.thread) = true := by simpa using hxy
            obtain ⟨D, hD⟩ : ∃ D, dep x y = D := ⟨_, rfl⟩
            have HD1 : Hid (∀ w', Calls Try.prog 10 #[.agg #[.int .i64 x.thread, .int .i64 x.kind, .int .i64 x.obj, .bool x.fail], .agg #[.int .i64 y.thread, .int .i64 y.kind, .int .i64 y.obj, .bool y.fail]] w' fun r w'' => r = .returned (.bool D) ∧ Below w'.heap.size w' w'') := fun w' => by rw [← hD]; exact depends_any x y w'
            have HS2 : Hid (D = false → InTo es k (j + 1)) := fun h => HS.out (fun _ => hD.trans h)
            clear hxy HS hD
            have hB9 : Below w4.heap.size w4 wr.drew := hb.drew
            go_wp2_with fail
            go_region_held3 (fun w' => (w'.cell? ⟨b, o + k * 4, none⟩ = some (.int .i64 x.thread) ∧ w'.cell? ⟨b, o + k * 4 + 1, none⟩ = some (.int .i64 x.kind) ∧ w'.cell? ⟨b, o + k * 4 + 2, none⟩ = some (.int .i64 x.obj) ∧ w'.cell? ⟨b, o + k * 4 + 3, none⟩ = some (.bool x.fail)) ∧
              (w'.cell? ⟨b, o + j * 4, none⟩ = some (.int .i64 y.thread) ∧ w'.cell? ⟨b, o + j * 4 + 1, none⟩ = some (.int .i64 y.kind) ∧ w'.cell? ⟨b, o + j * 4 + 2, none⟩ = some (.int .i64 y.obj) ∧ w'.cell? ⟨b, o + j * 4 + 3, none⟩ = some (.bool y.fail)) ∧ Below w4.heap.size w4 w') (first | exact HK8.out _ hB9 | exact HK8.out _ hB10)
              (first
                | (go_at_call 10; ((with_reducible refine (HD1.out _).mono ?_); rintro r w10 ⟨rfl, hb10⟩; have hB10 := hB9.trans (hb10.mono hB9.size); clear hB9)))
            cases D
            · go_wp2
              go_roundw
              case rel => exact ⟨j + 1, by omega, by go_num, HS2.out rfl, hB10⟩
              case measure => simp [intOf]; omega
            · have hw10 := hw2.trans ((hB4.trans (hB10.mono hB4.size)).mono hw2.size)
              go_wp2
              go_ret
              exact ⟨rfl, hw10⟩
        · obtain rfl : j = k := by omega
          have HI2 := Lib.hid (HI.out.succ HJ.out)
          go_wp2
          go_roundw
          case rel => exact ⟨j + 1, by omega, by go_num, HI2, hb⟩
          case measure => simp [intOf]; omega
    · obtain rfl : k = es.length := by omega
      have HSRT := Lib.hid (rep_sorted HREP.out HI.out.indep)
      clear HI
      go_wp2_with fail
      go_loopw [12, 79] (fun v i wr => ∃ t : Nat, t ≤ 4 ∧ i = .int .i64 t ∧ Hid (OwnN wr w4.heap.size v (srt row t)) ∧ Below w4.heap.size w4 wr) (fun _ i _ => 4 - (intOf i).toNat)
      case atStart => exact ⟨0, by omega, rfl, ownN_nil _ _, hb⟩
      case round =>
        clear hb
        obtain ⟨t, ht, rfl, HN, hb⟩ := hrel
        by_cases h4 : t < 4
        · have q4 : decide ((t : Int) < 4) = true := by simp; omega
          go_wp2_with fail
          go_loopw [12, 84] (fun y i wr => ∃ k : Nat, k ≤ row.length ∧ i = .int .i64 k ∧ Hid (OwnN wr w4.heap.size y (srt row t ++ (row.take k).filter (fun x : Int => decide (x = (t : Int))))) ∧ Below w4.heap.size w4 wr) (fun _ i _ => row.length - (intOf i).toNat)
          case atStart => exact ⟨0, Nat.zero_le _, rfl, by simpa using HN, hb⟩
          case round =>
            clear HN hb
            obtain ⟨k, hk, rfl, HN, hb⟩ := hrel
            by_cases hlt : k < row.length
            · obtain ⟨rb, ro, rfl, hc⟩ := HROW.out.2 (by intro e; simp [e] at hlt)
              have d0 := cell_later (hw2.trans ((hB4.trans (hb.mono hB4.size)).mono hw2.size)) (hc k hlt)
              have HF := Lib.hid (filter_snoc (fun x : Int => decide (x = (t : Int))) hlt)
              have hlen : (srt row t ++ (row.take k).filter (fun x : Int => decide (x = (t : Int)))).length ≤ 1000 := by
                rw [List.length_append]
                have h1 := srt_len row t
                have h2 := List.length_filter_le (fun x : Int => decide (x = (t : Int))) (row.take k)
                have h3 := List.length_take_le k row
                have h5 : t * row.length ≤ 4 * 60 := Nat.mul_le_mul (by omega) hr60
                omega
              have hbs := hb.size
              clear hc
              generalize row[k] = x at *
              by_cases hx : x = (t : Int)
              · have q : (x == (t : Int)) = true := by simp [hx]
                have HF2 : Hid ((row.take (k + 1)).filter (fun x : Int => decide (x = (t : Int))) = (row.take k).filter (fun x : Int => decide (x = (t : Int))) ++ [(t : Int)]) := by show _ = _; rw [HF.out]; simp [hx]
                clear hx HF
                go_wp2_with (at_builtin; refine wp_appendN rfl (.tmp 91) (.tmp 93) rfl w4.heap.size _ _ rfl (HN.out.alloc _) ⟨wr.heap.size, 0, none⟩ 1 1 rfl [(t : Int)] rfl (nums_new wr [(t : Int)] _ _ rfl) (by omega) (by simp; omega) ?_; intro v1 w5 hown5 hb5 _)
                have hb6 : Below w4.heap.size w4 w5 := (hb.alloc hb.size _).trans hb5
                have HN5 : Hid (OwnN w5 w4.heap.size v1 (srt row t ++ (row.take (k + 1)).filter (fun x : Int => decide (x = (t : Int))))) := by
                  show OwnN _ _ _ _
                  rw [HF2.out, ← List.append_assoc]
                  exact hown5
                clear hown5 HN hb hb5 hlen hbs
                go_roundw
                case rel => exact ⟨k + 1, by omega, by go_num, HN5, hb6⟩
                case measure => simp [intOf]; omega
              · have q : (x == (t : Int)) = false := by simpa using hx
                have HN5 : Hid (OwnN wr w4.heap.size u12 (srt row t ++ (row.take (k + 1)).filter (fun x : Int => decide (x = (t : Int))))) := by
                  show OwnN _ _ _ _
                  rw [HF.out, if_neg (by simpa using hx), List.append_nil]
                  exact HN.out
                clear hx HF HN hlen hbs
                go_wp2
                go_roundw
                case rel => exact ⟨k + 1, by omega, by go_num, HN5, hb⟩
                case measure => simp [intOf]; omega
            · obtain rfl : k = row.length := by omega
              have HN2 : Hid (OwnN wr w4.heap.size u12 (srt row (t + 1))) := by
                show OwnN _ _ _ _
                have h := HN.out
                rw [List.take_length] at h
                exact h
              clear HN
              go_wp2
              go_roundw
              case rel => exact ⟨t + 1, by omega, by go_num, HN2, hb⟩
              case measure => simp [intOf]; omega
        · obtain rfl : t = 4 := by omega
          obtain ⟨z, hz1, hz2, hz3⟩ := HSRT.out
          obtain ⟨sa, scap, rfl, hsn, _⟩ := HN.out.form (by omega)
          have HREP2 := Lib.hid hz1
          have hs60 : (srt row 4).length ≤ 60 := by omega
          have HZ2 := Lib.hid hz2
          clear hz2 hz3
          have HSN := Lib.hid hsn
          have hB2 : Below w2.heap.size w2 wr := hB4.trans (hb.mono hB4.size)
          have hwr : Below w.heap.size w wr := hw2.trans (hB2.mono hw2.size)
          obtain ⟨c0, c1, c2⟩ := HK.out _ hB2
          clear hz1 hsn HN HSRT
          go_wp2_with fail
          refine (replay_any p a cap fuel sa scap (srt row 4) wr (HP.out.later hwr) HSN.out (by omega)).mono ?_
          rintro r w6 ⟨hb6, hr⟩
          rw [HREP2.out] at hr
          dsimp only at hr
          obtain ⟨g2, v2, rfl, _, _, _, ho2⟩ := hr
          have HFL : Hid (∀ t : Nat, t < 4 → (srtE es 4).filter (fun e : Ev => decide (e.thread = (t : Int))) = es.filter (fun e : Ev => decide (e.thread = (t : Int)))) := fun t ht => by rw [srtE_filter, if_pos ht]
          clear HREP2 HSN c0 c1 c2 hs60
          generalize srtE es 4 = ms at *
          have hms60 : ms.length ≤ 60 := by rw [HZ2.out]; exact hes
          obtain ⟨ma, mcap, rfl, hme⟩ := ho2.form (by omega)
          have HM6 := Lib.hid hme
          have HEV6 := Lib.hid (HEV.out.later (hb.trans (hb6.mono hb.size)))
          have hw6 := hwr.trans (hb6.mono hwr.size)
          clear hme ho2 hb6 hwr hB2 hb HEV
          go_wp2_with fail
          go_loopw [107] (fun i wr => ∃ t : Nat, t ≤ 4 ∧ i = .int .i64 t ∧ Below w6.heap.size w6 wr) (fun i _ => 4 - (intOf i).toNat)
          case atStart => exact ⟨0, by omega, rfl, Below.refl _ _⟩
          case round =>
            obtain ⟨t, ht, rfl, hb⟩ := hrel
            by_cases h4 : t < 4
            · have q4 : decide ((t : Int) < 4) = true := by simp; omega
              go_wp2_with fail
              go_loopw [20, 21, 112] (fun va vb i wr => ∃ k : Nat, k ≤ es.length ∧ i = .int .i64 k ∧ Hid (EvPair wr w6.heap.size va ((es.take k).filter (fun e : Ev => decide (e.thread = (t : Int)))) vb ((ms.take k).filter (fun e : Ev => decide (e.thread = (t : Int))))) ∧ Below w6.heap.size w6 wr) (fun _ _ i _ => es.length - (intOf i).toNat)
              case atStart => exact ⟨0, Nat.zero_le _, rfl, EvPair.start _ _, hb⟩
              case round =>
                clear hb
                obtain ⟨k, hk, rfl, HP2, hb⟩ := hrel
                by_cases hlt : k < es.length
                · have hlm : k < ms.length := by rw [HZ2.out]; exact hlt
                  obtain ⟨b, o, rfl, hc⟩ := HEV6.out.2 (by intro e; simp [e] at hlt)
                  obtain ⟨b', o', rfl, hc'⟩ := HM6.out.2 (by intro e; simp [e] at hlm)
                  have HX := Lib.hid (hc k hlt)
                  have HY := Lib.hid (hc' k hlm)
                  have HF := Lib.hid (filter_snoc (fun e : Ev => decide (e.thread = (t : Int))) hlt)
                  have HG := Lib.hid (filter_snoc (fun e : Ev => decide (e.thread = (t : Int))) hlm)
                  have hla : ((es.take k).filter (fun e : Ev => decide (e.thread = (t : Int)))).length ≤ 60 := by
                    have h2 := List.length_filter_le (fun e : Ev => decide (e.thread = (t : Int))) (es.take k)
                    have h3 := List.length_take_le k es
                    omega
                  have hlb : ((ms.take k).filter (fun e : Ev => decide (e.thread = (t : Int)))).length ≤ 60 := by
                    have h2 := List.length_filter_le (fun e : Ev => decide (e.thread = (t : Int))) (ms.take k)
                    have h3 := List.length_take_le k ms
                    omega
                  have hbs := hb.size
                  clear hc hc'
                  generalize es[k] = x at *
                  generalize ms[k] = y at *
                  obtain ⟨d0, d1, d2, d3⟩ : wr.cell? ⟨b, o + k * 4, none⟩ = some (.int .i64 x.thread) ∧ wr.cell? ⟨b, o + k * 4 + 1, none⟩ = some (.int .i64 x.kind) ∧ wr.cell? ⟨b, o + k * 4 + 2, none⟩ = some (.int .i64 x.obj) ∧ wr.cell? ⟨b, o + k * 4 + 3, none⟩ = some (.bool x.fail) := ⟨cell_later hb HX.out.1, cell_later hb HX.out.2.1, cell_later hb HX.out.2.2.1, cell_later hb HX.out.2.2.2⟩
                  obtain ⟨e0, e1, e2, e3⟩ : wr.cell? ⟨b', o' + k * 4, none⟩ = some (.int .i64 y.thread) ∧ wr.cell? ⟨b', o' + k * 4 + 1, none⟩ = some (.int .i64 y.kind) ∧ wr.cell? ⟨b', o' + k * 4 + 2, none⟩ = some (.int .i64 y.obj) ∧ wr.cell? ⟨b', o' + k * 4 + 3, none⟩ = some (.bool y.fail) := ⟨cell_later hb HY.out.1, cell_later hb HY.out.2.1, cell_later hb HY.out.2.2.1, cell_later hb HY.out.2.2.2⟩
                  by_cases hx : x.thread = (t : Int)
                  · by_cases hy : y.thread = (t : Int)
                    · have qx : (x.thread == (t : Int)) = true := by simp [hx]
                      have qy : (y.thread == (t : Int)) = true := by simp [hy]
                      have HF2 : Hid ((es.take (k + 1)).filter (fun e : Ev => decide (e.thread = (t : Int))) = (es.take k).filter (fun e : Ev => decide (e.thread = (t : Int))) ++ [x]) := by show _ = _; rw [HF.out]; simp [hx]
                      have HG2 : Hid ((ms.take (k + 1)).filter (fun e : Ev => decide (e.thread = (t : Int))) = (ms.take k).filter (fun e : Ev => decide (e.thread = (t : Int))) ++ [y]) := by show _ = _; rw [HG.out]; simp [hy]
                      clear hx hy HF HG
                      go_wp2_with (first
                        | (at_builtin; refine wp_appendP rfl (.tmp 122) (.tmp 127) rfl w6.heap.size _ _ rfl _ _ (HP2.out.later (below_alloc1 _ _)) ⟨wr.heap.size, 0, none⟩ rfl x (ev_new wr x _ _ rfl) (by omega) (by simp; omega) ?_; intro v1 w8 hp8 hb8; have hb9 := (hb.alloc hb.size (.cells #[.int .i64 x.thread, .int .i64 x.kind, .int .i64 x.obj, .bool x.fail] 23)).trans hb8; have f0 := cell_later hb9 HY.out.1; have f1 := cell_later hb9 HY.out.2.1; have f2 := cell_later hb9 HY.out.2.2.1; have f3 := cell_later hb9 HY.out.2.2.2; have hbs9 := hb9.size; have HP8 := Lib.hid hp8; clear hp8 hb8)
                        | (at_builtin; refine wp_appendP rfl (.tmp 136) (.tmp 141) rfl w6.heap.size _ _ rfl _ _ (HP8.out.swap.later (below_alloc1 _ _)) ⟨w8.heap.size, 0, none⟩ rfl y (ev_new w8 y _ _ rfl) (by omega) (by simp; omega) ?_; intro v2 w10 hp10 hb10; have hb11 := (hb9.alloc hb9.size (.cells #[.int .i64 y.thread, .int .i64 y.kind, .int .i64 y.obj, .bool y.fail] 23)).trans hb10; have HP10 := Lib.hid hp10.swap; clear hp10 hb10))
                      have HQ : Hid (EvPair w10 w6.heap.size v1 ((es.take (k + 1)).filter (fun e : Ev => decide (e.thread = (t : Int)))) v2 ((ms.take (k + 1)).filter (fun e : Ev => decide (e.thread = (t : Int))))) := by
                        show EvPair _ _ _ _ _ _
                        rw [HF2.out, HG2.out]
                        exact HP10.out
                      clear HF2 HG2
                      go_roundw
                      case rel => exact ⟨k + 1, by omega, by go_num, HQ, hb11⟩
                      case measure => simp [intOf]; omega
                    · have qx : (x.thread == (t : Int)) = true := by simp [hx]
                      have qy : (y.thread == (t : Int)) = false := by simpa using hy
                      have HF2 : Hid ((es.take (k + 1)).filter (fun e : Ev => decide (e.thread = (t : Int))) = (es.take k).filter (fun e : Ev => decide (e.thread = (t : Int))) ++ [x]) := by show _ = _; rw [HF.out]; simp [hx]
                      have HG2 : Hid ((ms.take (k + 1)).filter (fun e : Ev => decide (e.thread = (t : Int))) = (ms.take k).filter (fun e : Ev => decide (e.thread = (t : Int))) ) := by show _ = _; rw [HG.out]; simp [hy]
                      clear hx hy HF HG
                      go_wp2_with (at_builtin; refine wp_appendP rfl (.tmp 122) (.tmp 127) rfl w6.heap.size _ _ rfl _ _ (HP2.out.later (below_alloc1 _ _)) ⟨wr.heap.size, 0, none⟩ rfl x (ev_new wr x _ _ rfl) (by omega) (by simp; omega) ?_; intro v1 w8 hp8 hb8; have hb9 := (hb.alloc hb.size (.cells #[.int .i64 x.thread, .int .i64 x.kind, .int .i64 x.obj, .bool x.fail] 23)).trans hb8; have f0 := cell_later hb9 HY.out.1; have f1 := cell_later hb9 HY.out.2.1; have f2 := cell_later hb9 HY.out.2.2.1; have f3 := cell_later hb9 HY.out.2.2.2; have hbs9 := hb9.size; have HP8 := Lib.hid hp8; clear hp8 hb8)
                      have HQ : Hid (EvPair w8 w6.heap.size v1 ((es.take (k + 1)).filter (fun e : Ev => decide (e.thread = (t : Int)))) u21 ((ms.take (k + 1)).filter (fun e : Ev => decide (e.thread = (t : Int))))) := by
                        show EvPair _ _ _ _ _ _
                        rw [HF2.out, HG2.out]
                        exact HP8.out
                      clear HF2 HG2
                      go_roundw
                      case rel => exact ⟨k + 1, by omega, by go_num, HQ, hb9⟩
                      case measure => simp [intOf]; omega
                  · by_cases hy : y.thread = (t : Int)
                    · have qx : (x.thread == (t : Int)) = false := by simpa using hx
                      have qy : (y.thread == (t : Int)) = true := by simp [hy]
                      have HF2 : Hid ((es.take (k + 1)).filter (fun e : Ev => decide (e.thread = (t : Int))) = (es.take k).filter (fun e : Ev => decide (e.thread = (t : Int))) ) := by show _ = _; rw [HF.out]; simp [hx]
                      have HG2 : Hid ((ms.take (k + 1)).filter (fun e : Ev => decide (e.thread = (t : Int))) = (ms.take k).filter (fun e : Ev => decide (e.thread = (t : Int))) ++ [y]) := by show _ = _; rw [HG.out]; simp [hy]
                      clear hx hy HF HG
                      go_wp2_with (at_builtin; refine wp_appendP rfl (.tmp 136) (.tmp 141) rfl w6.heap.size _ _ rfl _ _ (HP2.out.swap.later (below_alloc1 _ _)) ⟨wr.heap.size, 0, none⟩ rfl y (ev_new wr y _ _ rfl) (by omega) (by simp; omega) ?_; intro v2 w10 hp10 hb10; have hb11 := (hb.alloc hb.size (.cells #[.int .i64 y.thread, .int .i64 y.kind, .int .i64 y.obj, .bool y.fail] 23)).trans hb10; have HP10 := Lib.hid hp10.swap; clear hp10 hb10)
                      have HQ : Hid (EvPair w10 w6.heap.size u20 ((es.take (k + 1)).filter (fun e : Ev => decide (e.thread = (t : Int)))) v2 ((ms.take (k + 1)).filter (fun e : Ev => decide (e.thread = (t : Int))))) := by
                        show EvPair _ _ _ _ _ _
                        rw [HF2.out, HG2.out]
                        exact HP10.out
                      clear HF2 HG2
                      go_roundw
                      case rel => exact ⟨k + 1, by omega, by go_num, HQ, hb11⟩
                      case measure => simp [intOf]; omega
                    · have qx : (x.thread == (t : Int)) = false := by simpa using hx
                      have qy : (y.thread == (t : Int)) = false := by simpa using hy
                      have HF2 : Hid ((es.take (k + 1)).filter (fun e : Ev => decide (e.thread = (t : Int))) = (es.take k).filter (fun e : Ev => decide (e.thread = (t : Int))) ) := by show _ = _; rw [HF.out]; simp [hx]
                      have HG2 : Hid ((ms.take (k + 1)).filter (fun e : Ev => decide (e.thread = (t : Int))) = (ms.take k).filter (fun e : Ev => decide (e.thread = (t : Int))) ) := by show _ = _; rw [HG.out]; simp [hy]
                      clear hx hy HF HG
                      go_wp2
                      have HQ : Hid (EvPair wr w6.heap.size u20 ((es.take (k + 1)).filter (fun e : Ev => decide (e.thread = (t : Int)))) u21 ((ms.take (k + 1)).filter (fun e : Ev => decide (e.thread = (t : Int))))) := by
                        show EvPair _ _ _ _ _ _
                        rw [HF2.out, HG2.out]
                        exact HP2.out
                      clear HF2 HG2
                      go_roundw
                      case rel => exact ⟨k + 1, by omega, by go_num, HQ, hb⟩
                      case measure => simp [intOf]; omega
                · obtain rfl : k = es.length := by omega
                  have hmm : ms.take es.length = ms := by rw [← HZ2.out]; exact List.take_length
                  have hp := HP2.out
                  rw [List.take_length, hmm, HFL.out t h4] at hp
                  have hlf : (es.filter (fun e : Ev => decide (e.thread = (t : Int)))).length ≤ 60 := Nat.le_trans (List.length_filter_le _ _) hes
                  generalize es.filter (fun e : Ev => decide (e.thread = (t : Int))) = fs at *
                  obtain ⟨a1, cap1, rfl, h1⟩ := hp.1.form (by omega)
                  obtain ⟨a2, cap2, rfl, h2⟩ := hp.2.1.form (by omega)
                  have H1 := Lib.hid h1
                  have H2 := Lib.hid h2
                  clear hp HP2 h1 h2 hmm
                  go_wp2_with fail
                  refine (sameEvents_any a1 a2 cap1 cap2 fs fs _ H1.out H2.out).mono ?_
                  rw [show decide (fs = fs) = true by simp]
                  rintro r w8 ⟨rfl, hb8⟩
                  have hb9 := hb.trans (hb8.mono hb.size)
                  clear hb8 hb H1 H2
                  go_wp2
                  go_roundw
                  case rel => exact ⟨t + 1, by omega, by go_num, hb9⟩
                  case measure => simp [intOf]; omega
            · obtain rfl : t = 4 := by omega
              go_wp2
              go_ret
              exact ⟨rfl, hw6.trans (hb.mono hw6.size)⟩

end Go.Proofs.Ytfhndbibabbnlaa
